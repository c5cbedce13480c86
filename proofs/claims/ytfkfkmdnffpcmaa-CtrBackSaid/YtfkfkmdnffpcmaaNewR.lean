/-
  What a call ends in that answers bytes which lie in new memory or not, alone or with a fault. No program is named here.
-/
import Derived.Test.YtfkfkmdnffpcmaaFoot
namespace Go.Proofs.Ytfkfkmdnffpcmaa
open Go.RowKit

/-- Bytes to be read. -/
def NewR (w : World) (l : List UInt8) (en : Ending) (w' : World) : Prop :=
  ∃ A c, en = .returned (.slice A l.length c) ∧ Rd w' w'.heap.size A l.length (Byt l) ∧ SlOK A l.length c ∧ Below w.heap.size w w'
/-- .. and a fault. -/
def NewRF (w : World) (l : List UInt8) (f : Int) (en : Ending) (w' : World) : Prop :=
  ∃ A c, en = .returned (.tuple #[.slice A l.length c, .int .i64 f]) ∧ Rd w' w'.heap.size A l.length (Byt l) ∧ SlOK A l.length c ∧ Below w.heap.size w w'
theorem NewB.newR {e : TypeId} {w w' : World} {l : List UInt8} {en : Ending} (h : NewB e w l en w') : NewR w l en w' := by
  obtain ⟨A, c, rfl, ho, hb⟩ := h
  exact ⟨A, c, rfl, Rd.of_own ho, SlOK.of_own ho, hb⟩
/-- A row that is owned stays, where another one has grown. -/
theorem own_grown {w w' : World} {base : Nat} {e : TypeId} {v : Value} {n : Nat} {xs : List Value} {row : Option Nat} (h : w.ownsRow base e 1 v n xs) (hg : w.grownBy w' row) (hne : ∀ k, v.ownBlock = some k → some k ≠ row) : w'.ownsRow base e 1 v n xs := by
  refine ⟨h.1, ?_⟩
  rcases h.2 with h' | ⟨g, cap, cur, rfl, hb, hh, hr⟩
  · exact .inl h'
  · exact .inr ⟨g, cap, cur, rfl, hb, by rw [hg.block g (Array.getElem?_eq_some_iff.1 hh).1 (hne g rfl)]; exact hh, hr⟩
/-- The first of what is read. -/
theorem Rd.front {w : World} {B n k : Nat} {A : Option Addr} {l : List UInt8} (h : Rd w B A n (Byt l)) (hk : k ≤ n) : Rd w B A k (Byt (l.take k)) := by
  have hl := h.bytes
  refine ⟨by rw [Byt_length, List.length_take]; omega, fun h0 => ?_⟩
  obtain ⟨b, o, e, hb, hc⟩ := h.2 (by omega)
  refine ⟨b, o, e, hb, fun j u hu => hc j u ?_⟩
  rw [Byt_take, List.getElem?_take] at hu
  split at hu
  · exact hu
  · cases hu

end Go.Proofs.Ytfkfkmdnffpcmaa
