import Derived.Test.YtfkfkmdnffpcmaaAesS
import Derived.Test.YtfkfkmdnffpcmaaArrIndex
import Derived.Test.YtfkfkmdnffpcmaaFacts
namespace Go.Proofs.Ytfkfkmdnffpcmaa
open Go.RowKit

theorem arr16 : ArrT Try.prog 23 5 .u8 16 := ⟨by kernel_rfl, by kernel_rfl, by kernel_rfl⟩
theorem zero16 : (Try.prog.info? 23).map (fun i => (i.zero, i.size)) = some (some (.agg (Nums .u8 (Zs 16))), 16) := by kernel_rfl
theorem info_u8n : (Try.prog.info? 5).map (·.size) = some 1 := by kernel_rfl

theorem abon {w a b : World} (h : Below w.heap.size w a) (hb : Below a.heap.size a b) : Below w.heap.size w b := h.trans (hb.mono h.size)

/-- What is filled in: so many of L, and behind them those of M. -/
theorem afill_step {L M : List Nat} {k x : Nat} (hx : L[k]? = some x) (hm : k < M.length) : (L.take k ++ M.drop k).set k x = L.take (k + 1) ++ M.drop (k + 1) := by
  obtain ⟨h1, h2⟩ := List.getElem?_eq_some_iff.1 hx
  rw [← h2]
  exact afill_set h1 hm
theorem afill_at {L M : List Nat} {k x : Nat} (hx : M[k]? = some x) (hl : k ≤ L.length) : (L.take k ++ M.drop k)[k]? = some x := by
  obtain ⟨h1, h2⟩ := List.getElem?_eq_some_iff.1 hx
  rw [fill_get h1 hl, h2]
theorem asub_at (f : UInt8 → UInt8) {s : List UInt8} {k : Nat} (h : k < s.length) : ∃ x : UInt8, s[k]? = some x ∧ (asubB f s)[k]? = some (f x) :=
  ⟨s[k], List.getElem?_eq_getElem h, by simp [asubB, List.getElem?_eq_getElem h]⟩
theorem aadd_at {s t : List UInt8} {k : Nat} (h : k < s.length) (ht : k < t.length) : ∃ x y : UInt8, s[k]? = some x ∧ t[k]? = some y ∧ (aaddU s t)[k]? = some (x ^^^ y) :=
  ⟨s[k], t[k], List.getElem?_eq_getElem h, List.getElem?_eq_getElem ht, by simp [aaddU, List.getElem?_zipWith, List.getElem?_eq_getElem h, List.getElem?_eq_getElem ht]⟩

end Go.Proofs.Ytfkfkmdnffpcmaa
