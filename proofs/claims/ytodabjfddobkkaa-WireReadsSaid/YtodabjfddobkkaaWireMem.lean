/-
  A reader and a writer in memory.
-/
import Derived.Test.YtodabjfddobkkaaFoot
import Derived.Test.YtodabjfddobkkaaWireS
namespace Go.Proofs.Ytodabjfddobkkaa
open Go.RowKit

/-- The footprint of one block. -/
def Blk (b : Nat) : Nat → Prop := fun k => k = b

/-- A reader in block br. -/
def RdrS (w : World) (br : Nat) (s : RS) : Prop :=
  ∃ A n c, w.cell? ⟨br, 0, none⟩ = some (.slice A n c) ∧ w.cell? ⟨br, 1, none⟩ = some (.int .i64 (faultOf s)) ∧ w.frozen? ⟨br, 0, none⟩ = false ∧ w.frozen? ⟨br, 1, none⟩ = false ∧
    SlF A n c ∧ Off (Blk br) A ∧ Rd w w.heap.size A n (Byt s.left)
theorem RdrS.lt {w : World} {br : Nat} {s : RS} (h : RdrS w br s) : br < w.heap.size := by
  obtain ⟨_, _, _, hc, _⟩ := h
  unfold World.cell? at hc
  rcases Nat.lt_or_ge br w.heap.size with h | h
  · exact h
  · simp [Array.getElem?_eq_none h] at hc
theorem RdrS.below {w w' : World} {br : Nat} {s : RS} (h : RdrS w br s) (hb : Below w.heap.size w w') : RdrS w' br s := by
  have hlt := h.lt
  obtain ⟨A, n, c, h0, h1, f0, f1, hk, ho, hr⟩ := h
  exact ⟨A, n, c, (hb.cell (p := ⟨br, 0, none⟩) hlt).trans h0, (hb.cell (p := ⟨br, 1, none⟩) hlt).trans h1, (hb.frozen (p := ⟨br, 0, none⟩) hlt).trans f0, (hb.frozen (p := ⟨br, 1, none⟩) hlt).trans f1, hk, ho, (hr.below hb).wider hb.size⟩
theorem RdrS.drewN {w : World} {br : Nat} {s : RS} (h : RdrS w br s) (k : Nat) : RdrS (w.drewN k) br s := h
theorem RdrS.drew {w : World} {br : Nat} {s : RS} (h : RdrS w br s) : RdrS w.drew br s := h
theorem RdrS.alloc {w : World} {br : Nat} {s : RS} (h : RdrS w br s) (o : Obj) : RdrS (w.alloc o) br s := h.below ((Below.refl _ _).alloc (Nat.le_refl _) _)

/-- A writer in block bw: its footprint is F. -/
def WtrS (e : TypeId) (w : World) (F : Nat → Prop) (bw : Nat) (l : List UInt8) : Prop :=
  ∃ A n c, w.cell? ⟨bw, 0, none⟩ = some (.slice A n c) ∧ w.frozen? ⟨bw, 0, none⟩ = false ∧ w.ownsRow (bw + 1) e 1 (.slice A n c) n (Byt l) ∧
    F bw ∧ (∀ k, (Value.slice A n c).ownBlock = some k → F k) ∧ ∀ k, F k → bw ≤ k ∧ k < w.heap.size
theorem WtrS.below {e : TypeId} {w w' : World} {F : Nat → Prop} {bw : Nat} {l : List UInt8} (h : WtrS e w F bw l) (hb : Below w.heap.size w w') : WtrS e w' F bw l := by
  obtain ⟨A, n, c, h0, f0, hown, hF, hA, hB⟩ := h
  have hlt := (hB bw hF).2
  exact ⟨A, n, c, (hb.cell (p := ⟨bw, 0, none⟩) hlt).trans h0, (hb.frozen (p := ⟨bw, 0, none⟩) hlt).trans f0, own_below hown hb (Nat.le_refl _), hF, hA, fun k hk => ⟨(hB k hk).1, by have := (hB k hk).2; have := hb.size; omega⟩⟩
theorem WtrS.alloc {e : TypeId} {w : World} {F : Nat → Prop} {bw : Nat} {l : List UInt8} (h : WtrS e w F bw l) (o : Obj) : WtrS e (w.alloc o) F bw l := h.below ((Below.refl _ _).alloc (Nat.le_refl _) _)
theorem WtrS.drewN {e : TypeId} {w : World} {F : Nat → Prop} {bw : Nat} {l : List UInt8} (h : WtrS e w F bw l) (k : Nat) : WtrS e (w.drewN k) F bw l := h
theorem WtrS.lo {e : TypeId} {w : World} {F : Nat → Prop} {bw : Nat} {l : List UInt8} (h : WtrS e w F bw l) : ∀ k, F k → bw ≤ k ∧ k < w.heap.size := by
  obtain ⟨_, _, _, _, _, _, _, _, hF⟩ := h
  exact hF
theorem WtrS.off {e : TypeId} {w : World} {F : Nat → Prop} {bw B : Nat} {l : List UInt8} (h : WtrS e w F bw l) {A : Option Addr} (hB : B ≤ bw) (hA : ∀ a, A = some a → a.block < B) : Off F A := by
  obtain ⟨_, _, _, _, _, _, _, _, hF⟩ := h
  intro a ha hf
  have := (hF _ hf).1
  have := hA a ha
  omega

/-- The writer holds l now: only its footprint has moved. -/
def Wrote (e : TypeId) (w : World) (F : Nat → Prop) (bw : Nat) (l : List UInt8) (w' : World) : Prop :=
  ∃ F' : Nat → Prop, WtrS e w' F' bw l ∧ Moves F w w' ∧ ∀ k, F' k → F k ∨ w.heap.size ≤ k
theorem WtrS.stay {e : TypeId} {w w' : World} {F : Nat → Prop} {bw : Nat} {l : List UInt8} (h : WtrS e w F bw l) (hb : Below w.heap.size w w') : Wrote e w F bw l w' :=
  ⟨F, h.below hb, .of_below hb, fun _ hk => .inl hk⟩
theorem Wrote.then {e : TypeId} {w w1 w2 : World} {F F1 : Nat → Prop} {bw : Nat} {l : List UInt8} (h1 : Moves F w w1) (hF : ∀ k, F1 k → F k ∨ w.heap.size ≤ k) (h2 : Wrote e w1 F1 bw l w2) : Wrote e w F bw l w2 := by
  obtain ⟨F', hw, hm, hn⟩ := h2
  refine ⟨F', hw, h1.trans hm hF, fun k hk => ?_⟩
  rcases hn k hk with h | h
  · exact hF k h
  · have := h1.size; exact .inr (by omega)

end Go.Proofs.Ytodabjfddobkkaa
