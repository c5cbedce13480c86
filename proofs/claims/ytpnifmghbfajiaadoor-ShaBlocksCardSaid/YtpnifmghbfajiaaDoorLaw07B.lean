import Derived.Test.YtpnifmghbfajiaaDoorShaAlive
import Derived.Test.YtpnifmghbfajiaaDoorRefShaPad
import Derived.Test.YtpnifmghbfajiaaDoorRefShaWords
import Derived.Test.YtpnifmghbfajiaaDoorRefShaWith
import Derived.Test.YtpnifmghbfajiaaDoorRefSame
import Derived.Test.YtpnifmghbfajiaaDoorArrEq
import Derived.Test.YtpnifmghbfajiaaDoorArrIn
import Derived.Deep.RegionHeld3
import Derived.Test.YtpnifmghbfajiaaDoorRow
namespace Go.Proofs.YtpnifmghbfajiaaDoor
open Go.RowKit

theorem shaPadR_le (z : Int) : (shaPadR z).length ≤ maxLen := by
  unfold shaPadR maxLen
  split
  · rw [padU_length]; have := (zerosU_ok z.toNat).2; omega
  · simp

theorem arr8_cells {w : World} {g0 : Nat} {t : TypeId} {a b c d e f g i : Nat} (h : Arr w g0 t .u32 [a, b, c, d, e, f, g, i]) :
    w.cell? ⟨g0, 0, none⟩ = some (.int .u32 (a : Int)) ∧ w.cell? ⟨g0, 1, none⟩ = some (.int .u32 (b : Int)) ∧ w.cell? ⟨g0, 2, none⟩ = some (.int .u32 (c : Int)) ∧ w.cell? ⟨g0, 3, none⟩ = some (.int .u32 (d : Int)) ∧
    w.cell? ⟨g0, 4, none⟩ = some (.int .u32 (e : Int)) ∧ w.cell? ⟨g0, 5, none⟩ = some (.int .u32 (f : Int)) ∧ w.cell? ⟨g0, 6, none⟩ = some (.int .u32 (g : Int)) ∧ w.cell? ⟨g0, 7, none⟩ = some (.int .u32 (i : Int)) :=
  ⟨h.cell (j := 0) (by simp), h.cell (j := 1) (by simp), h.cell (j := 2) (by simp), h.cell (j := 3) (by simp), h.cell (j := 4) (by simp), h.cell (j := 5) (by simp), h.cell (j := 6) (by simp), h.cell (j := 7) (by simp)⟩

set_option maxHeartbeats 1600000 in
theorem shaBlocks_walk (n cap : Nat) (A : Option Addr) (xs : List UInt8) (h : List Nat) (z : Int) (w : World) (hh : Eight h) (hx : Rd w w.heap.size A n (Byt xs)) (hok : SlOK A n cap) (hK : KsAt w) :
    Calls Tryd.prog 4 #[.agg (Nums .u32 h), .slice A n cap, .int .i64 z] w (Ans w (.bool true)) := by
  obtain ⟨a, b, c, d, e0, f, g, i, rfl⟩ := hh.form
  have Hh := Lib.hid hh; clear hh
  have HK := Lib.hid hK; clear hK
  have Hx := Lib.hid hx; clear hx
  by_cases hn : n ≤ 200
  · have n1 : ¬ (200 < (n : Int)) := by omega
    have hnc : n ≤ cap := by rcases hok with ⟨_, rfl, rfl⟩ | ⟨a, _, h1, _⟩ <;> omega
    have h1 := pad_any z
    have h2 := rpad07_any z
    have h3 := fun W hx hB => words_any w.heap.size n cap A xs W hx hnc (by omega) hB
    have h4 := fun W hx hB => rwords_any w.heap.size n cap A xs W hx hnc (by omega) hB
    have h5 : ∀ W, Rd W w.heap.size A n (Byt xs) → w.heap.size ≤ W.heap.size → KsAt W → Calls Tryd.prog 19 #[.agg #[.int .u32 (a : Int), .int .u32 (b : Int), .int .u32 (c : Int), .int .u32 (d : Int), .int .u32 (e0 : Int), .int .u32 (f : Int), .int .u32 (g : Int), .int .u32 (i : Int)], .slice A n cap] W (AnsA W .u32 (blockU [a, b, c, d, e0, f, g, i] xs)) := fun W hx hB hk => block_any w.heap.size n cap A xs [a, b, c, d, e0, f, g, i] W Hh.out hx hnc (by omega) hB hk
    have h6 := rtable_any
    have h7 : ∀ W, Rd W w.heap.size A n (Byt xs) → w.heap.size ≤ W.heap.size → Calls Tryd.prog 20 #[.agg (Nums .u32 ksU), .agg #[.int .u32 (a : Int), .int .u32 (b : Int), .int .u32 (c : Int), .int .u32 (d : Int), .int .u32 (e0 : Int), .int .u32 (f : Int), .int .u32 (g : Int), .int .u32 (i : Int)], .slice A n cap] W (AnsA W .u32 (blockU [a, b, c, d, e0, f, g, i] xs)) := fun W hx hB => rwith_any w.heap.size n cap A xs [a, b, c, d, e0, f, g, i] W Hh.out hx hnc (by omega) hB
    have hl : (shaPadR z).length ≤ maxLen := shaPadR_le z
    have Hl := Lib.hid hl; clear hl
    have g8 : Tryd.prog.eqGuardType Tryd.prog.depth 24 = false := by kernel_rfl
    have g64 : Tryd.prog.eqGuardType Tryd.prog.depth 26 = false := by kernel_rfl
    have q8 := fun W => run_equalIn_same (P := Tryd.prog) arr8 (by kernel_rfl) (blockU_eight xs Hh.out).1 W
    have q64 := fun W => run_equalIn_same (P := Tryd.prog) arr64 (by kernel_rfl) (wordsU_length xs) W
    revert h1 h2 Hl h3 h4 h5 h6 h7 q8 q64
    generalize shaPadR z = L
    generalize wordsU xs = ws
    generalize blockU [a, b, c, d, e0, f, g, i] xs = hv
    generalize ksU = H64
    intro h1 h2 h3 h4 h5 h6 h7 Hl q8 q64
    have hsm := fun c1 c2 A1 A2 W (r1 : Rd W W.heap.size A1 L.length (Byt L)) (r2 : Rd W W.heap.size A2 L.length (Byt L)) => rsame_any W.heap.size L.length L.length c1 c2 A1 A2 L L W r1 r2 Hl.out Hl.out
    rw [sameL_self] at hsm
    go_enter Tryd.func4, Tryd.ntmps4
    go_wp2_with (refine wp_box_arr rfl 24 (.tmp 0) rfl [a, b, c, d, e0, f, g, i] rfl ?_)
    intro w0 g0 G0 H0 Hb0 Hs0
    have hx0 := Hx.out.below Hb0.out
    go_wp2_with fail
    go_region_held3 (fun w' => w'.cell? ⟨g0, 0, none⟩ = some (.int .u32 (a : Int)) ∧ w'.cell? ⟨g0, 1, none⟩ = some (.int .u32 (b : Int)) ∧ w'.cell? ⟨g0, 2, none⟩ = some (.int .u32 (c : Int)) ∧ w'.cell? ⟨g0, 3, none⟩ = some (.int .u32 (d : Int)) ∧ w'.cell? ⟨g0, 4, none⟩ = some (.int .u32 (e0 : Int)) ∧ w'.cell? ⟨g0, 5, none⟩ = some (.int .u32 (f : Int)) ∧ w'.cell? ⟨g0, 6, none⟩ = some (.int .u32 (g : Int)) ∧ w'.cell? ⟨g0, 7, none⟩ = some (.int .u32 (i : Int)))
      (first
        | exact arr8_cells H0.out.drew
        | exact arr8_cells H1.out
        | exact arr8_cells H2.out
        | exact arr8_cells H3.out
        | exact arr8_cells H4.out
        | exact arr8_cells H5.out
        | exact arr8_cells H6.out
        | exact arr8_cells H7.out
        | exact arr8_cells H8.out
        | exact arr8_cells H9.out)
      (first
        | (go_at_call 15; refine (h1 _).mono ?_; rintro e w1 ⟨A1, c1, rfl, hown1, hb1⟩; have Hb1 := Lib.hid (bon Hb0.out.drew hb1); have H1 : Hid (Arr w1 g0 24 .u32 [a, b, c, d, e0, f, g, i]) := Lib.hid (H0.out.drew.below hb1 H0.out.lt))
        | (go_at_call 16; refine (h2 _).mono ?_; rintro e w2 ⟨A2, c2, rfl, hown2, hb2⟩; have Hb2 := Lib.hid (bon Hb1.out hb2); have H2 : Hid (Arr w2 g0 24 .u32 [a, b, c, d, e0, f, g, i]) := Lib.hid (H1.out.below hb2 H1.out.lt); have r1 := Lib.hid (((Rd.of_own hown1).below hb2).wider hb2.size); have r2 := Lib.hid (Rd.of_own hown2); clear hb1 hb2 hown1 hown2)
        | (go_at_call 14; refine (hsm _ _ _ _ _ r1.out r2.out).mono ?_; rintro e w3 ⟨rfl, hb3⟩; have Hb3 := Lib.hid (bon Hb2.out hb3); have H3 : Hid (Arr w3 g0 24 .u32 [a, b, c, d, e0, f, g, i]) := Lib.hid (H2.out.below hb3 H2.out.lt); clear hb3 r1 r2)
        | (go_at_call 17; refine (h3 _ (Hx.out.below Hb3.out) Hb3.out.size).mono ?_; rintro e w4 ⟨rfl, hb4⟩; have Hb4 := Lib.hid (bon Hb3.out hb4); have H4 : Hid (Arr w4 g0 24 .u32 [a, b, c, d, e0, f, g, i]) := Lib.hid (H3.out.below hb4 H3.out.lt); clear hb4)
        | (go_at_call 18; refine (h4 _ (Hx.out.below Hb4.out) Hb4.out.size).mono ?_; rintro e w5 ⟨rfl, hb5⟩; have Hb5 := Lib.hid (bon Hb4.out hb5); have H5 : Hid (Arr w5 g0 24 .u32 [a, b, c, d, e0, f, g, i]) := Lib.hid (H4.out.below hb5 H4.out.lt); clear hb5)
        | (go_at_call 19; refine (h5 _ (Hx.out.below Hb5.out) Hb5.out.size (HK.out.below Hb5.out)).mono ?_; rintro e w6 ⟨rfl, hb6⟩; have Hb6 := Lib.hid (bon Hb5.out hb6); have H6 : Hid (Arr w6 g0 24 .u32 [a, b, c, d, e0, f, g, i]) := Lib.hid (H5.out.below hb6 H5.out.lt); clear hb6)
        | (go_at_call 11; refine (h6 _).mono ?_; rintro e w7 ⟨rfl, hb7⟩; have Hb7 := Lib.hid (bon Hb6.out hb7); have H7 : Hid (Arr w7 g0 24 .u32 [a, b, c, d, e0, f, g, i]) := Lib.hid (H6.out.below hb7 H6.out.lt); clear hb7)
        | (go_at_call 20; refine (h7 _ (Hx.out.below Hb7.out) Hb7.out.size).mono ?_; rintro e w8 ⟨rfl, hb8⟩; have Hb8 := Lib.hid (bon Hb7.out hb8); have H8 : Hid (Arr w8 g0 24 .u32 [a, b, c, d, e0, f, g, i]) := Lib.hid (H7.out.below hb8 H7.out.lt); clear hb8)
        | (go_at_call 13; refine (alive7_any _ (HK.out.below Hb8.out)).mono ?_; rintro e w9 ⟨rfl, hb9⟩; have Hb9 := Lib.hid (bon Hb8.out hb9); have H9 : Hid (Arr w9 g0 24 .u32 [a, b, c, d, e0, f, g, i]) := Lib.hid (H8.out.below hb9 H8.out.lt); clear hb9))
    go_wp2
    go_ret
    exact ⟨rfl, Hb9.out⟩
  · have n1 : 200 < (n : Int) := by omega
    go_enter Tryd.func4, Tryd.ntmps4
    go_wp2_with (refine wp_box_arr rfl 24 (.tmp 0) rfl [a, b, c, d, e0, f, g, i] rfl ?_)
    intro w0 g0 G0 H0 Hb0 Hs0
    go_wp2_with fail
    refine (alive7_any _ (HK.out.below Hb0.out)).mono ?_
    rintro e w1 ⟨rfl, hb⟩
    go_wp2
    go_ret
    exact ⟨rfl, bon Hb0.out hb⟩

end Go.Proofs.YtpnifmghbfajiaaDoor
