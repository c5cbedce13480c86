import Derived.Test.YtodabjfddobkkaaLaw05
import Derived.Test.YtodabjfddobkkaaWireByte1
import Derived.Test.YtodabjfddobkkaaWireText1
import Derived.Test.YtodabjfddobkkaaRefSame
namespace Go.Proofs.Ytodabjfddobkkaa
open Go.RowKit

/-- What a field that is asked for comes to: its number, its bytes, and the reader behind it. -/
def readU (kind size : Int) (s : RS) : Nat × List UInt8 × RS :=
  if kind = 0 then ((numStep 1 s).1, [], (numStep 1 s).2) else if kind = 1 then ((numStep size s).1, [], (numStep size s).2) else (0, (rowStep size s).1, (rowStep size s).2)

theorem tx_beq (bs : List UInt8) : ((tx bs).toList == bs) = true := by
  rw [ByteArray.toList_eq, tx_list]
  exact beq_self_eq_true bs

set_option maxHeartbeats 3200000 in
theorem read_any (B br : Nat) (kind size : Int) (text : Bool) (s : RS) (g : Fld) (w : World) (h : RdrS w br s) (hg : FldOK w B g) (hB : B ≤ w.heap.size) (hoff : 0 < g.m → Off (Blk br) g.A) (hk : 0 ≤ kind ∧ kind ≤ 2)
    (hnum : kind ≤ 1 → (readU kind size s).1 = g.num) (hbs : kind = 2 → (readU kind size s).2.1 = g.bs) :
    Calls Try.prog 15 #[.pointer (some ⟨br, 0, none⟩), .int .i64 kind, .int .i64 size, .bool text, .agg g.cells] w fun e w' =>
      e = .returned (.bool true) ∧ RdrS w' br (readU kind size s).2.2 ∧ Moves (Blk br) w w' := by
  obtain ⟨gk, gs, gn, A, m, c, bs⟩ := g
  obtain ⟨_, _, hgn, hok, hrd⟩ := hg
  simp only at hgn hok hrd hoff hnum hbs
  simp only [Fld.cells]
  have hlt := h.lt
  obtain ⟨W0, hW0⟩ : ∃ W0, W0 = (w.alloc (.cells #[.int .i64 gk, .int .i64 gs, .int .u64 gn, .slice A m c] 32)) := ⟨_, rfl⟩
  have h0 : RdrS W0 br s := by rw [hW0]; exact h.alloc _
  have hm0 : Moves (Blk br) w W0 := by rw [hW0]; exact (Moves.refl _ w).alloc _
  have c2 : W0.cell? ⟨w.heap.size, 2, none⟩ = some (.int .u64 (gn : Int)) := by rw [hW0]; simp
  have c3 : W0.cell? ⟨w.heap.size, 3, none⟩ = some (.slice A m c) := by rw [hW0]; simp
  have hsz : W0.heap.size = w.heap.size + 1 := by rw [hW0]; simp
  have hfar : ∀ w1, Moves (Blk br) W0.drew w1 → ∀ k, w1.cell? ⟨w.heap.size, k, none⟩ = W0.cell? ⟨w.heap.size, k, none⟩ := fun w1 hm k => hm.cell (p := ⟨w.heap.size, k, none⟩) (by show w.heap.size < W0.heap.size; omega) (fun e => by unfold Blk at e; simp at e; omega)
  have HW := Lib.hid hW0; clear hW0
  rcases (show kind = 0 ∨ kind = 1 ∨ kind = 2 by omega) with rfl | rfl | rfl
  · have hn := hnum (by decide)
    simp only [readU, if_true] at hn ⊢
    have hp := wrbyte_any br s W0.drew h0.drew
    rw [hn] at hp
    have hwr : IntKind.u64.wrap (gn : Int) = (gn : Int) := by rw [IntKind.wrap_u64]; omega
    clear h hrd hok hoff hnum hbs h0
    have HF := Lib.hid hfar; clear hfar
    go_enter Try.func15, Try.ntmps15
    go_wp2
    rw [← HW.out]
    go_region_with (refine hp.mono ?_; rintro e w1 ⟨rfl, hs1, hm1⟩; have d2 := (HF.out w1 hm1 2).trans c2)
    all_goals
      have hm2 := (hm0.drew).go hm1
      have Hm2 := Lib.hid hm2; clear hm2 hm1
      go_wp2
      go_ret
      exact ⟨rfl, hs1, Hm2.out⟩
  · have hn := hnum (by decide)
    simp only [readU, if_true, if_neg (show ¬ (1 : Int) = 0 by decide)] at hn ⊢
    have hp := wrnum_any br s size W0.drew h0.drew
    rw [hn] at hp
    clear h hrd hok hoff hnum hbs h0
    have HF := Lib.hid hfar; clear hfar
    go_enter Try.func15, Try.ntmps15
    go_wp2
    rw [← HW.out]
    go_region_with (refine hp.mono ?_; rintro e w1 ⟨rfl, hlt1, hs1, hm1⟩; clear hlt1; have d2 := (HF.out w1 hm1 2).trans c2)
    all_goals
      have hm2 := (hm0.drew).go hm1
      have Hm2 := Lib.hid hm2; clear hm2 hm1
      go_wp2
      go_ret
      exact ⟨rfl, hs1, Hm2.out⟩
  · have hb := hbs rfl
    simp only [readU, if_neg (show ¬ (2 : Int) = 0 by decide), if_neg (show ¬ (2 : Int) = 1 by decide)] at hb ⊢
    have hbl := hrd.bytes
    have hA0 : Rd W0 w.heap.size A m (Byt bs) := by rw [HW.out]; exact (hrd.alloc hB _).wider hB
    have hAof : ∀ w1, Moves (Blk br) W0.drew w1 → Rd w1 w.heap.size A m (Byt bs) := fun w1 hm => hA0.moves (w := W0) (w' := w1) ⟨hm.os, hm.tape, hm.output, hm.size, hm.block⟩ (by omega) hoff
    cases text
    · have hp := wrrow_any br s size W0.drew h0.drew
      unfold RowOut at hp
      rw [hb, hbl] at hp
      have hs := fun (A1 : Option Addr) (w1 : World) (hr1 : Rd w1 w1.heap.size A1 m (Byt bs)) (hr2 : Rd w1 w.heap.size A m (Byt bs)) (hle : w.heap.size ≤ w1.heap.size) => rsame_any w1.heap.size m m m c A1 A bs bs w1 hr1 (hr2.wider hle) (by have := hok.le; omega) (by have := hok.le; omega)
      simp only [sameL_self] at hs
      have HA := Lib.hid hA0
      have HO := Lib.hid hAof
      clear h hrd hok hoff hnum hbs h0 hA0 hAof hbl
      have HF := Lib.hid hfar; clear hfar
      go_enter Try.func15, Try.ntmps15
      go_wp2
      rw [← HW.out]
      go_region_with (first | (refine hp.mono ?_; rintro e w1 ⟨A1, rfl, hr1, hok1, hoff1, hs1, hm1⟩; have d3 := (HF.out w1 hm1 3).trans c3; have hs2 := hs A1 w1 hr1 (HO.out w1 hm1) (by have := hm1.size; simp at this; omega); clear hr1) | (refine hs2.mono ?_; rintro e w2 ⟨rfl, hb2⟩))
      all_goals
        have hm2 := ((hm0.drew).go hm1).then hb2
        have hs3 := hs1.below hb2
        have Hm2 := Lib.hid hm2; clear hm2 hm1
        go_wp2
        go_ret
        exact ⟨rfl, hs3, Hm2.out⟩
    · have hp := wrtext_any br s size W0.drew h0.drew
      rw [hb] at hp
      have hcvt := fun (w1 : World) (hr : Rd w1 w.heap.size A m (Byt bs)) => hr.conv (P := Try.prog) (c := c) 26 9 5 Try.underlying26 Try.underlying5 Try.underlying9
      have hcv0 := hcvt W0.drew hA0.drew
      have hcv1 := fun (w1 : World) (hm1 : Moves (Blk br) W0.drew w1) => hcvt w1 (hAof w1 hm1)
      have HC := Lib.hid hcv1; clear hcv1 hcvt
      clear h hrd hok hoff hnum hbs h0 hA0 hAof hbl
      have HF := Lib.hid hfar; clear hfar
      go_enter Try.func15, Try.ntmps15
      go_wp2
      rw [← HW.out]
      go_region_with (refine hp.mono ?_; rintro e w1 ⟨rfl, hs1, hm1⟩; have d3 := (HF.out w1 hm1 3).trans c3; have hcv2 := HC.out w1 hm1)
      all_goals
        have hm2 := (hm0.drew).go hm1
        have Hm2 := Lib.hid hm2; clear hm2 hm1
        go_wp2
        go_ret
        exact ⟨congrArg (fun b => Ending.returned (.bool b)) (tx_beq bs), hs1, Hm2.out⟩

end Go.Proofs.Ytodabjfddobkkaa
