import Derived.Test.YtckljalcmjomgaaLaw11K
import Derived.Test.YtckljalcmjomgaaRefAesSub
import Derived.Test.YtckljalcmjomgaaRefAesShift
import Derived.Test.YtckljalcmjomgaaRefAesMix
import Derived.Test.YtckljalcmjomgaaRefAesAdd
import Derived.Test.YtckljalcmjomgaaRow
namespace Go.Proofs.Ytckljalcmjomgaa
open Go.RowKit

set_option maxHeartbeats 3200000 in
set_option maxRecDepth 20000 in
theorem aesSteps_walk (s k : List UInt8) (w : World) (hs : s.length = 16) (hk : k.length = 16) :
    Calls Try.prog 3 #[.agg (Nums .u8 (abn s)), .agg (Nums .u8 (abn k))] w (Ans w (.bool true)) := by
  have h1 := fun w => asub_any s w hs
  have h2 := fun w => rasub_any s w hs
  have h3 := fun w => ashift_any s w hs
  have h4 := fun w => rashift_any s w hs
  have h5 := fun w => amix_any s w hs
  have h6 := fun w => ramix_any s w hs
  have h7 := fun w => aadd_any s k w hs hk
  have h8 := fun w => raadd_any s k w hs hk
  have h9 := fun w => alive11_any w
  have g16 := eqg16
  have q1 := fun W => eq16_same (l := abn (asubU s)) (by rw [abn_length, asubU, asubB_length, hs]) W
  have q2 := fun W => eq16_same (l := abn (ashiftU s)) (by rw [abn_length, ashift_length]) W
  have q3 := fun W => eq16_same (l := abn (amixU s)) (by rw [abn_length, amix_length hs]) W
  have q4 := fun W => eq16_same (l := abn (aaddU s k)) (by rw [abn_length, aadd_length hs hk]) W
  have HX0 : Hid ((abn s).length = 16) := Lib.hid (by rw [abn_length, hs])
  have HXK : Hid ((abn k).length = 16) := Lib.hid (by rw [abn_length, hk])
  clear hs hk
  generalize abn (asubU s) = X1 at *
  generalize abn (ashiftU s) = X2 at *
  generalize abn (amixU s) = X3 at *
  generalize abn (aaddU s k) = X4 at *
  generalize abn s = X0 at *
  generalize abn k = XK at *
  go_enter Try.func3, Try.ntmps3
  go_wp2_with (refine wp_box_arr (k := .u8) rfl 22 (.tmp 0) rfl X0 rfl ?_)
  intro w1 g1 G1 H1 Hb1 Hs1
  go_wp2_with (refine wp_box_arr (k := .u8) rfl 22 (.tmp 1) rfl XK rfl ?_)
  intro w2 g2 G2 H2 Hb2 Hs2
  have F2 : Hid (SK w [(g1, 22, X0), (g2, 22, XK)] w2) := Lib.hid ⟨by
    intro x hx
    simp only [List.mem_cons, List.not_mem_nil, or_false] at hx
    rcases hx with rfl | rfl
    · exact H1.out.below Hb2.out H1.out.lt
    · exact H2.out, abon Hb1.out Hb2.out⟩
  clear H1 H2 Hb1 Hb2 G1 G2 Hs1 Hs2
  go_wp2_with fail
  refine wp_region_heldD (S := fun w' => SK w [(g1, 22, X0), (g2, 22, XK)] w') (by kernel_rfl) ?_
  refine wpAnyH_takeD (i := 0) (some 5) rfl rfl (by kernel_rfl) (fun _ _ _ h => h) (yields_arr (k := .u8) (l := X0) (off := 0) (b := g1) (by rfl) _ rfl rfl (fun w' h => sk_range (t := 22) h (by simp)) arr16.under rfl (by rw [HX0.out]; exact info_16)) (sk_drewN F2.out 1) ?_
  simp only [Act.put, List.setIfInBounds_toArray, List.set_cons_zero, List.set_cons_succ]
  refine wpAnyH_takeD (i := 2) (some 7) rfl rfl (by kernel_rfl) (fun _ _ _ h => h) (yields_arr (k := .u8) (l := X0) (off := 0) (b := g1) (by rfl) _ rfl rfl (fun w' h => sk_range (t := 22) h (by simp)) arr16.under rfl (by rw [HX0.out]; exact info_16)) (sk_drewN F2.out 1) ?_
  simp only [Act.put, List.setIfInBounds_toArray, List.set_cons_zero, List.set_cons_succ]
  refine wpAnyH_oneD (i := 1) (by kernel_rfl) rfl (fun Ka1 hKa1 => ?_)
  refine stepE_callW (v := .agg (Nums .u8 X1)) (R := fun w' => Below _ _ w') (some 6) rfl (by rfl) 6 Try.func6 (by kernel_rfl) rfl _ _ rfl [.agg (Nums .u8 X0)] rfl (h1 _) (fun Wa1 hW => hKa1.out _ _ (sk_below (sk_drewN F2.out 1) hW) ?_)
  have S1 := Lib.hid (sk_below (sk_drewN F2.out 1) hW)
  clear hW hKa1 Ka1
  simp only [Act.put, List.setIfInBounds_toArray, List.set_cons_zero, List.set_cons_succ]
  refine wpAnyH_oneD (i := 3) (by kernel_rfl) rfl (fun Ka2 hKa2 => ?_)
  refine stepE_callW (v := .agg (Nums .u8 X1)) (R := fun w' => Below _ _ w') (some 8) rfl (by rfl) 7 Try.func7 (by kernel_rfl) rfl _ _ rfl [.agg (Nums .u8 X0)] rfl (h2 _) (fun Wa2 hW => hKa2.out _ _ (sk_below (S1.out) hW) ?_)
  have S2 := Lib.hid (sk_below (S1.out) hW)
  clear hW hKa2 Ka2
  simp only [Act.put, List.setIfInBounds_toArray, List.set_cons_zero, List.set_cons_succ]
  refine wpAnyH_takeD (i := 4) (v := .bool true) (some 9) rfl rfl (by kernel_rfl) (fun _ _ _ h => h) (.inl ⟨by rfl, fun W _ => by go_simp⟩) (S2.out) ?_
  simp only [Act.put, List.setIfInBounds_toArray, List.set_cons_zero, List.set_cons_succ]
  refine wpAnyH_takeD (i := 5) (v := .bool true) (some 10) rfl rfl (by kernel_rfl) (fun _ _ _ h => h) (.inl ⟨by rfl, fun W _ => rfl⟩) (S2.out) ?_
  simp only [Act.put, List.setIfInBounds_toArray, List.set_cons_zero, List.set_cons_succ]
  refine wpAnyH_takeD (i := 6) (some 11) rfl rfl (by kernel_rfl) (fun _ _ _ h => h) (yields_arr (k := .u8) (l := X0) (off := 0) (b := g1) (by rfl) _ rfl rfl (fun w' h => sk_range (t := 22) h (by simp)) arr16.under rfl (by rw [HX0.out]; exact info_16)) (S2.out) ?_
  simp only [Act.put, List.setIfInBounds_toArray, List.set_cons_zero, List.set_cons_succ]
  refine wpAnyH_takeD (i := 8) (some 13) rfl rfl (by kernel_rfl) (fun _ _ _ h => h) (yields_arr (k := .u8) (l := X0) (off := 0) (b := g1) (by rfl) _ rfl rfl (fun w' h => sk_range (t := 22) h (by simp)) arr16.under rfl (by rw [HX0.out]; exact info_16)) (S2.out) ?_
  simp only [Act.put, List.setIfInBounds_toArray, List.set_cons_zero, List.set_cons_succ]
  refine wpAnyH_oneD (i := 7) (by kernel_rfl) rfl (fun Ka3 hKa3 => ?_)
  refine stepE_callW (v := .agg (Nums .u8 X2)) (R := fun w' => Below _ _ w') (some 12) rfl (by rfl) 8 Try.func8 (by kernel_rfl) rfl _ _ rfl [.agg (Nums .u8 X0)] rfl (h3 _) (fun Wa3 hW => hKa3.out _ _ (sk_below (S2.out) hW) ?_)
  have S3 := Lib.hid (sk_below (S2.out) hW)
  clear hW hKa3 Ka3
  simp only [Act.put, List.setIfInBounds_toArray, List.set_cons_zero, List.set_cons_succ]
  refine wpAnyH_oneD (i := 9) (by kernel_rfl) rfl (fun Ka4 hKa4 => ?_)
  refine stepE_callW (v := .agg (Nums .u8 X2)) (R := fun w' => Below _ _ w') (some 14) rfl (by rfl) 9 Try.func9 (by kernel_rfl) rfl _ _ rfl [.agg (Nums .u8 X0)] rfl (h4 _) (fun Wa4 hW => hKa4.out _ _ (sk_below (S3.out) hW) ?_)
  have S4 := Lib.hid (sk_below (S3.out) hW)
  clear hW hKa4 Ka4
  simp only [Act.put, List.setIfInBounds_toArray, List.set_cons_zero, List.set_cons_succ]
  refine wpAnyH_takeD (i := 10) (v := .bool true) (some 15) rfl rfl (by kernel_rfl) (fun _ _ _ h => h) (.inl ⟨by rfl, fun W _ => by go_simp⟩) (S4.out) ?_
  simp only [Act.put, List.setIfInBounds_toArray, List.set_cons_zero, List.set_cons_succ]
  refine wpAnyH_takeD (i := 11) (v := .bool true) (some 16) rfl rfl (by kernel_rfl) (fun _ _ _ h => h) (.inl ⟨by rfl, fun W _ => by go_simp⟩) (S4.out) ?_
  simp only [Act.put, List.setIfInBounds_toArray, List.set_cons_zero, List.set_cons_succ]
  refine wpAnyH_takeD (i := 12) (v := .bool true) (some 17) rfl rfl (by kernel_rfl) (fun _ _ _ h => h) (.inl ⟨by rfl, fun W _ => rfl⟩) (S4.out) ?_
  simp only [Act.put, List.setIfInBounds_toArray, List.set_cons_zero, List.set_cons_succ]
  refine wpAnyH_takeD (i := 13) (some 18) rfl rfl (by kernel_rfl) (fun _ _ _ h => h) (yields_arr (k := .u8) (l := X0) (off := 0) (b := g1) (by rfl) _ rfl rfl (fun w' h => sk_range (t := 22) h (by simp)) arr16.under rfl (by rw [HX0.out]; exact info_16)) (S4.out) ?_
  simp only [Act.put, List.setIfInBounds_toArray, List.set_cons_zero, List.set_cons_succ]
  refine wpAnyH_takeD (i := 15) (some 20) rfl rfl (by kernel_rfl) (fun _ _ _ h => h) (yields_arr (k := .u8) (l := X0) (off := 0) (b := g1) (by rfl) _ rfl rfl (fun w' h => sk_range (t := 22) h (by simp)) arr16.under rfl (by rw [HX0.out]; exact info_16)) (S4.out) ?_
  simp only [Act.put, List.setIfInBounds_toArray, List.set_cons_zero, List.set_cons_succ]
  refine wpAnyH_oneD (i := 14) (by kernel_rfl) rfl (fun Ka5 hKa5 => ?_)
  refine stepE_callW (v := .agg (Nums .u8 X3)) (R := fun w' => Below _ _ w') (some 19) rfl (by rfl) 10 Try.func10 (by kernel_rfl) rfl _ _ rfl [.agg (Nums .u8 X0)] rfl (h5 _) (fun Wa5 hW => hKa5.out _ _ (sk_below (S4.out) hW) ?_)
  have S5 := Lib.hid (sk_below (S4.out) hW)
  clear hW hKa5 Ka5
  simp only [Act.put, List.setIfInBounds_toArray, List.set_cons_zero, List.set_cons_succ]
  refine wpAnyH_oneD (i := 16) (by kernel_rfl) rfl (fun Ka6 hKa6 => ?_)
  refine stepE_callW (v := .agg (Nums .u8 X3)) (R := fun w' => Below _ _ w') (some 21) rfl (by rfl) 11 Try.func11 (by kernel_rfl) rfl _ _ rfl [.agg (Nums .u8 X0)] rfl (h6 _) (fun Wa6 hW => hKa6.out _ _ (sk_below (S5.out) hW) ?_)
  have S6 := Lib.hid (sk_below (S5.out) hW)
  clear hW hKa6 Ka6
  simp only [Act.put, List.setIfInBounds_toArray, List.set_cons_zero, List.set_cons_succ]
  refine wpAnyH_takeD (i := 17) (v := .bool true) (some 22) rfl rfl (by kernel_rfl) (fun _ _ _ h => h) (.inl ⟨by rfl, fun W _ => by go_simp⟩) (S6.out) ?_
  simp only [Act.put, List.setIfInBounds_toArray, List.set_cons_zero, List.set_cons_succ]
  refine wpAnyH_takeD (i := 18) (v := .bool true) (some 23) rfl rfl (by kernel_rfl) (fun _ _ _ h => h) (.inl ⟨by rfl, fun W _ => by go_simp⟩) (S6.out) ?_
  simp only [Act.put, List.setIfInBounds_toArray, List.set_cons_zero, List.set_cons_succ]
  refine wpAnyH_takeD (i := 19) (v := .bool true) (some 24) rfl rfl (by kernel_rfl) (fun _ _ _ h => h) (.inl ⟨by rfl, fun W _ => rfl⟩) (S6.out) ?_
  simp only [Act.put, List.setIfInBounds_toArray, List.set_cons_zero, List.set_cons_succ]
  refine wpAnyH_takeD (i := 20) (some 25) rfl rfl (by kernel_rfl) (fun _ _ _ h => h) (yields_arr (k := .u8) (l := X0) (off := 0) (b := g1) (by rfl) _ rfl rfl (fun w' h => sk_range (t := 22) h (by simp)) arr16.under rfl (by rw [HX0.out]; exact info_16)) (S6.out) ?_
  simp only [Act.put, List.setIfInBounds_toArray, List.set_cons_zero, List.set_cons_succ]
  refine wpAnyH_takeD (i := 21) (some 26) rfl rfl (by kernel_rfl) (fun _ _ _ h => h) (yields_arr (k := .u8) (l := XK) (off := 0) (b := g2) (by rfl) _ rfl rfl (fun w' h => sk_range (t := 22) h (by simp)) arr16.under rfl (by rw [HXK.out]; exact info_16)) (S6.out) ?_
  simp only [Act.put, List.setIfInBounds_toArray, List.set_cons_zero, List.set_cons_succ]
  refine wpAnyH_takeD (i := 23) (some 28) rfl rfl (by kernel_rfl) (fun _ _ _ h => h) (yields_arr (k := .u8) (l := X0) (off := 0) (b := g1) (by rfl) _ rfl rfl (fun w' h => sk_range (t := 22) h (by simp)) arr16.under rfl (by rw [HX0.out]; exact info_16)) (S6.out) ?_
  simp only [Act.put, List.setIfInBounds_toArray, List.set_cons_zero, List.set_cons_succ]
  refine wpAnyH_takeD (i := 24) (some 29) rfl rfl (by kernel_rfl) (fun _ _ _ h => h) (yields_arr (k := .u8) (l := XK) (off := 0) (b := g2) (by rfl) _ rfl rfl (fun w' h => sk_range (t := 22) h (by simp)) arr16.under rfl (by rw [HXK.out]; exact info_16)) (S6.out) ?_
  simp only [Act.put, List.setIfInBounds_toArray, List.set_cons_zero, List.set_cons_succ]
  refine wpAnyH_oneD (i := 22) (by kernel_rfl) rfl (fun Ka7 hKa7 => ?_)
  refine stepE_callW (v := .agg (Nums .u8 X4)) (R := fun w' => Below _ _ w') (some 27) rfl (by rfl) 12 Try.func12 (by kernel_rfl) rfl _ _ rfl [.agg (Nums .u8 X0), .agg (Nums .u8 XK)] rfl (h7 _) (fun Wa7 hW => hKa7.out _ _ (sk_below (S6.out) hW) ?_)
  have S7 := Lib.hid (sk_below (S6.out) hW)
  clear hW hKa7 Ka7
  simp only [Act.put, List.setIfInBounds_toArray, List.set_cons_zero, List.set_cons_succ]
  refine wpAnyH_oneD (i := 25) (by kernel_rfl) rfl (fun Ka8 hKa8 => ?_)
  refine stepE_callW (v := .agg (Nums .u8 X4)) (R := fun w' => Below _ _ w') (some 30) rfl (by rfl) 13 Try.func13 (by kernel_rfl) rfl _ _ rfl [.agg (Nums .u8 X0), .agg (Nums .u8 XK)] rfl (h8 _) (fun Wa8 hW => hKa8.out _ _ (sk_below (S7.out) hW) ?_)
  have S8 := Lib.hid (sk_below (S7.out) hW)
  clear hW hKa8 Ka8
  simp only [Act.put, List.setIfInBounds_toArray, List.set_cons_zero, List.set_cons_succ]
  refine wpAnyH_takeD (i := 26) (v := .bool true) (some 31) rfl rfl (by kernel_rfl) (fun _ _ _ h => h) (.inl ⟨by rfl, fun W _ => by go_simp⟩) (S8.out) ?_
  simp only [Act.put, List.setIfInBounds_toArray, List.set_cons_zero, List.set_cons_succ]
  refine wpAnyH_takeD (i := 27) (v := .bool true) (some 32) rfl rfl (by kernel_rfl) (fun _ _ _ h => h) (.inl ⟨by rfl, fun W _ => by go_simp⟩) (S8.out) ?_
  simp only [Act.put, List.setIfInBounds_toArray, List.set_cons_zero, List.set_cons_succ]
  refine wpAnyH_takeD (i := 28) (v := .bool true) (some 33) rfl rfl (by kernel_rfl) (fun _ _ _ h => h) (.inl ⟨by rfl, fun W _ => rfl⟩) (S8.out) ?_
  simp only [Act.put, List.setIfInBounds_toArray, List.set_cons_zero, List.set_cons_succ]
  refine wpAnyH_oneD (i := 29) (by kernel_rfl) rfl (fun Kz hKz => ?_)
  refine stepE_callW (v := .bool true) (R := fun w' => Below _ _ w') (some 34) rfl (by rfl) 14 Try.func14 (by kernel_rfl) rfl _ _ rfl [] rfl (h9 _) (fun Wz hW => hKz.out _ _ (sk_below (S8.out) hW) ?_)
  have S9 := Lib.hid (sk_below (S8.out) hW)
  clear hW hKz Kz
  simp only [Act.put, List.setIfInBounds_toArray, List.set_cons_zero, List.set_cons_succ]
  refine wpAnyH_takeD (i := 30) (v := .bool true) (some 35) rfl rfl (by kernel_rfl) (fun _ _ _ h => h) (.inl ⟨by rfl, fun W _ => by go_simp⟩) (S9.out) ?_
  simp only [Act.put, List.setIfInBounds_toArray, List.set_cons_zero, List.set_cons_succ]
  refine wpAnyH_takeD (i := 31) (v := .bool true) (some 4) rfl rfl (by kernel_rfl) (fun _ _ _ h => h) (.inl ⟨by rfl, fun W _ => rfl⟩) (S9.out) ?_
  simp only [Act.put, List.setIfInBounds_toArray, List.set_cons_zero, List.set_cons_succ]
  refine wpAnyH_doneD (by kernel_rfl) ?_
  go_wp2
  go_ret
  exact ⟨rfl, S9.out.2⟩

end Go.Proofs.Ytckljalcmjomgaa
