import Derived.Test.YtckljalcmjomgaaLaw11K
import Derived.Test.YtckljalcmjomgaaRow
namespace Go.Proofs.Ytckljalcmjomgaa
open Go.RowKit

set_option maxHeartbeats 3200000 in
set_option maxRecDepth 20000 in
theorem aesBack_walk (n c : Nat) (A : Option Addr) (key s t : List UInt8) (w : World) (hr : Rd w w.heap.size A n (Byt key)) (hc : n ≤ c) (hs : s.length = 16) (ht : t.length = 16) :
    Calls Try.prog 5 #[.slice A n c, .agg (Nums .u8 (abn s)), .agg (Nums .u8 (abn t))] w (Ans w (.bool true)) := by
  have h9 := fun w => alive11_any w
  by_cases h32 : n = 32
  · subst h32
    have hk := akeys_length (f := gboxU) hr.bytes
    have csch := fun W (hb : Hid (Below w.heap.size w W)) => asched_key key c w.heap.size A W (hr.below hb.out) hc hb.out.size
    have g16 := eqg16
    have s1 := fun w => ashift_any s w hs
    have s2 := fun w => ashift_any (ashiftU s) w (ashift_length _)
    have s3 := fun w => ashift_any (ashiftU (ashiftU s)) w (ashift_length _)
    have s4 := fun w => ashift_any (ashiftU (ashiftU (ashiftU s))) w (ashift_length _)
    rw [ashift_four hs] at s4
    have m1 := fun w => amix_any s w hs
    have m2 := fun w => amix_any (amixU s) w (amix_length hs)
    have m3 := fun w => amix_any (amixU (amixU s)) w (amix_length (amix_length hs))
    have m4 := fun w => amix_any (amixU (amixU (amixU s))) w (amix_length (amix_length (amix_length hs)))
    rw [amix_four hs] at m4
    have a1 := fun w => aadd_any s t w hs ht
    have a2 := fun w => aadd_any (aaddU s t) t w (aadd_length hs ht) ht
    rw [aadd_twice s t (by rw [hs, ht])] at a2
    have e1 := fun w => aenc_any (akeysU key) s w hk hs
    have e2 := fun w => aenc_any (akeysU key) t w hk ht
    have q0 := fun W => eq16_same (l := abn s) (by rw [abn_length, hs]) W
    have qE := fun W => eq16_dec (l := abn (aencU (akeysU key) s)) (l' := abn (aencU (akeysU key) t)) (by rw [abn_length]; exact aenc_length hk) (by rw [abn_length]; exact aenc_length hk) W
    have qS := fun W => eq16_dec (l := abn s) (l' := abn t) (by rw [abn_length, hs]) (by rw [abn_length, ht]) W
    have hb : decide (abn (aencU (akeysU key) s) = abn (aencU (akeysU key) t)) = decide (abn s = abn t) := by
      by_cases h : s = t
      · subst h; simp
      · have h1 : ¬ abn s = abn t := fun e => h (abn_inj e)
        have h2 : ¬ abn (aencU (akeysU key) s) = abn (aencU (akeysU key) t) := fun e => h (aenc_inj hk hs ht (abn_inj e))
        rw [decide_eq_false h1, decide_eq_false h2]
    rw [hb] at qE
    have HX0 : Hid ((abn s).length = 16) := Lib.hid (by rw [abn_length, hs])
    have HY0 : Hid ((abn t).length = 16) := Lib.hid (by rw [abn_length, ht])
    have HKL : Hid ((abn (akeysU key)).length = 240) := Lib.hid (by rw [abn_length]; exact hk)
    clear hs ht hk hr hc hb
    generalize decide (abn s = abn t) = b at *
    generalize abn (aencU (akeysU key) s) = E1 at *
    generalize abn (aencU (akeysU key) t) = E2 at *
    generalize abn (ashiftU (ashiftU (ashiftU s))) = A3 at *
    generalize abn (ashiftU (ashiftU s)) = A2 at *
    generalize abn (ashiftU s) = A1 at *
    generalize abn (amixU (amixU (amixU s))) = B3 at *
    generalize abn (amixU (amixU s)) = B2 at *
    generalize abn (amixU s) = B1 at *
    generalize abn (aaddU s t) = C1 at *
    generalize abn (akeysU key) = KL at *
    generalize abn s = X0 at *
    generalize abn t = Y0 at *
    go_enter Try.func5, Try.ntmps5
    go_wp2_with (refine wp_box_arr (k := .u8) rfl 22 (.tmp 1) rfl X0 rfl ?_)
    intro w1 g4 G4 H4 Hb1 Hs1
    go_wp2_with (refine wp_box_arr (k := .u8) rfl 22 (.tmp 2) rfl Y0 rfl ?_)
    intro w2 g5 G5 H5 Hb2 Hs2
    have F2 : Hid (SK w [(g4, 22, X0), (g5, 22, Y0)] w2) := Lib.hid ⟨by
      intro x hx
      simp only [List.mem_cons, List.not_mem_nil, or_false] at hx
      rcases hx with rfl | rfl
      · exact H4.out.below Hb2.out H4.out.lt
      · exact H5.out, abon Hb1.out Hb2.out⟩
    clear H4 H5 Hb1 Hb2 G4 G5 Hs1 Hs2
    have cs := csch w2 (Lib.hid F2.out.2)
    clear csch
    go_wp2_with fail
    refine cs.mono ?_
    rintro e w5 ⟨rfl, hb5⟩
    have F5 := Lib.hid (sk_below F2.out hb5)
    clear cs F2 hb5
    go_wp2_with (refine wp_alloc_arr (k := .u8) rfl 29 rfl 240 zeroKeys ?_)
    intro w6 g7 G7 H7 Hb6 Hs6
    go_wp2_with (refine wp_put_w arrKeys rfl (.tmp 7) (.tmp 16) rfl rfl (l' := KL) rfl H7.out (Zs_length _) HKL.out ?_)
    intro w7 H8 Hm7 Hs7
    have Hg7 : Hid (g4 ≠ g7 ∧ g5 ≠ g7 ∧ w.heap.size ≤ g7) := Lib.hid (by
      have e := G7.out
      have h0 := (sk_hd F5.out).lt
      have h1 := (F5.out.1 (g5, 22, Y0) (by simp)).lt
      have h2 := F5.out.2.size
      dsimp only at h1
      omega)
    have F7 : Hid (SK w [(g7, 29, KL), (g4, 22, X0), (g5, 22, Y0)] w7) := Lib.hid (sk_cons (sk_keep (sk_below F5.out Hb6.out) Hm7.out (by
      have h4 := Hg7.out
      intro x hx
      simp only [List.mem_cons, List.not_mem_nil, or_false] at hx
      rcases hx with rfl | rfl
      · exact h4.1
      · exact h4.2.1) Hg7.out.2.2) H8.out)
    clear F5 H7 Hb6 Hs6 Hm7 Hs7 G7 H8
    go_wp2_with fail
    refine wp_region_heldD (S := fun w' => SK w [(g7, 29, KL), (g4, 22, X0), (g5, 22, Y0)] w') (by kernel_rfl) ?_
    refine wpAnyH_takeD (i := 0) (some 18) rfl rfl (by kernel_rfl) (fun _ _ _ h => h) (yields_arr (k := .u8) (l := X0) (off := 0) (b := g4) (by rfl) _ rfl rfl (fun w' h => sk_range (t := 22) h (by simp)) arr16.under rfl (by rw [HX0.out]; exact info_16)) (sk_drewN F7.out 1) ?_
    simp only [Act.put, List.setIfInBounds_toArray, List.set_cons_zero, List.set_cons_succ]
    refine wpAnyH_takeD (i := 5) (some 23) rfl rfl (by kernel_rfl) (fun _ _ _ h => h) (yields_arr (k := .u8) (l := X0) (off := 0) (b := g4) (by rfl) _ rfl rfl (fun w' h => sk_range (t := 22) h (by simp)) arr16.under rfl (by rw [HX0.out]; exact info_16)) (sk_drewN F7.out 1) ?_
    simp only [Act.put, List.setIfInBounds_toArray, List.set_cons_zero, List.set_cons_succ]
    refine wpAnyH_oneD (i := 1) (by kernel_rfl) rfl (fun K1 hK1 => ?_)
    refine stepE_callW (v := .agg (Nums .u8 A1)) (R := fun w' => Below _ _ w') (some 19) rfl (by rfl) 8 Try.func8 (by kernel_rfl) rfl _ _ rfl [.agg (Nums .u8 X0)] rfl (s1 _) (fun W1 hW => hK1.out _ _ (sk_below (sk_drewN F7.out 1) hW) ?_)
    have S1 := Lib.hid (sk_below (sk_drewN F7.out 1) hW)
    clear hW hK1 K1
    simp only [Act.put, List.setIfInBounds_toArray, List.set_cons_zero, List.set_cons_succ]
    refine wpAnyH_oneD (i := 2) (by kernel_rfl) rfl (fun K2 hK2 => ?_)
    refine stepE_callW (v := .agg (Nums .u8 A2)) (R := fun w' => Below _ _ w') (some 20) rfl (by rfl) 8 Try.func8 (by kernel_rfl) rfl _ _ rfl [.agg (Nums .u8 A1)] rfl (s2 _) (fun W2 hW => hK2.out _ _ (sk_below (S1.out) hW) ?_)
    have S2 := Lib.hid (sk_below (S1.out) hW)
    clear hW hK2 K2
    simp only [Act.put, List.setIfInBounds_toArray, List.set_cons_zero, List.set_cons_succ]
    refine wpAnyH_oneD (i := 3) (by kernel_rfl) rfl (fun K3 hK3 => ?_)
    refine stepE_callW (v := .agg (Nums .u8 A3)) (R := fun w' => Below _ _ w') (some 21) rfl (by rfl) 8 Try.func8 (by kernel_rfl) rfl _ _ rfl [.agg (Nums .u8 A2)] rfl (s3 _) (fun W3 hW => hK3.out _ _ (sk_below (S2.out) hW) ?_)
    have S3 := Lib.hid (sk_below (S2.out) hW)
    clear hW hK3 K3
    simp only [Act.put, List.setIfInBounds_toArray, List.set_cons_zero, List.set_cons_succ]
    refine wpAnyH_oneD (i := 4) (by kernel_rfl) rfl (fun K4 hK4 => ?_)
    refine stepE_callW (v := .agg (Nums .u8 X0)) (R := fun w' => Below _ _ w') (some 22) rfl (by rfl) 8 Try.func8 (by kernel_rfl) rfl _ _ rfl [.agg (Nums .u8 A3)] rfl (s4 _) (fun W4 hW => hK4.out _ _ (sk_below (S3.out) hW) ?_)
    have S4 := Lib.hid (sk_below (S3.out) hW)
    clear hW hK4 K4
    simp only [Act.put, List.setIfInBounds_toArray, List.set_cons_zero, List.set_cons_succ]
    refine wpAnyH_takeD (i := 6) (v := .bool false) (some 24) rfl rfl (by kernel_rfl) (fun _ _ _ h => h) (.inl ⟨by rfl, fun W _ => by go_simp⟩) (S4.out) ?_
    simp only [Act.put, List.setIfInBounds_toArray, List.set_cons_zero, List.set_cons_succ]
    refine wpAnyH_takeD (i := 7) (v := .bool false) (some 25) rfl rfl (by kernel_rfl) (fun _ _ _ h => h) (.inl ⟨by rfl, fun W _ => rfl⟩) (S4.out) ?_
    simp only [Act.put, List.setIfInBounds_toArray, List.set_cons_zero, List.set_cons_succ]
    refine wpAnyH_takeD (i := 8) (some 26) rfl rfl (by kernel_rfl) (fun _ _ _ h => h) (yields_arr (k := .u8) (l := X0) (off := 0) (b := g4) (by rfl) _ rfl rfl (fun w' h => sk_range (t := 22) h (by simp)) arr16.under rfl (by rw [HX0.out]; exact info_16)) (S4.out) ?_
    simp only [Act.put, List.setIfInBounds_toArray, List.set_cons_zero, List.set_cons_succ]
    refine wpAnyH_takeD (i := 13) (some 31) rfl rfl (by kernel_rfl) (fun _ _ _ h => h) (yields_arr (k := .u8) (l := X0) (off := 0) (b := g4) (by rfl) _ rfl rfl (fun w' h => sk_range (t := 22) h (by simp)) arr16.under rfl (by rw [HX0.out]; exact info_16)) (S4.out) ?_
    simp only [Act.put, List.setIfInBounds_toArray, List.set_cons_zero, List.set_cons_succ]
    refine wpAnyH_oneD (i := 9) (by kernel_rfl) rfl (fun K5 hK5 => ?_)
    refine stepE_callW (v := .agg (Nums .u8 B1)) (R := fun w' => Below _ _ w') (some 27) rfl (by rfl) 10 Try.func10 (by kernel_rfl) rfl _ _ rfl [.agg (Nums .u8 X0)] rfl (m1 _) (fun W5 hW => hK5.out _ _ (sk_below (S4.out) hW) ?_)
    have S5 := Lib.hid (sk_below (S4.out) hW)
    clear hW hK5 K5
    simp only [Act.put, List.setIfInBounds_toArray, List.set_cons_zero, List.set_cons_succ]
    refine wpAnyH_oneD (i := 10) (by kernel_rfl) rfl (fun K6 hK6 => ?_)
    refine stepE_callW (v := .agg (Nums .u8 B2)) (R := fun w' => Below _ _ w') (some 28) rfl (by rfl) 10 Try.func10 (by kernel_rfl) rfl _ _ rfl [.agg (Nums .u8 B1)] rfl (m2 _) (fun W6 hW => hK6.out _ _ (sk_below (S5.out) hW) ?_)
    have S6 := Lib.hid (sk_below (S5.out) hW)
    clear hW hK6 K6
    simp only [Act.put, List.setIfInBounds_toArray, List.set_cons_zero, List.set_cons_succ]
    refine wpAnyH_oneD (i := 11) (by kernel_rfl) rfl (fun K7 hK7 => ?_)
    refine stepE_callW (v := .agg (Nums .u8 B3)) (R := fun w' => Below _ _ w') (some 29) rfl (by rfl) 10 Try.func10 (by kernel_rfl) rfl _ _ rfl [.agg (Nums .u8 B2)] rfl (m3 _) (fun W7 hW => hK7.out _ _ (sk_below (S6.out) hW) ?_)
    have S7 := Lib.hid (sk_below (S6.out) hW)
    clear hW hK7 K7
    simp only [Act.put, List.setIfInBounds_toArray, List.set_cons_zero, List.set_cons_succ]
    refine wpAnyH_oneD (i := 12) (by kernel_rfl) rfl (fun K8 hK8 => ?_)
    refine stepE_callW (v := .agg (Nums .u8 X0)) (R := fun w' => Below _ _ w') (some 30) rfl (by rfl) 10 Try.func10 (by kernel_rfl) rfl _ _ rfl [.agg (Nums .u8 B3)] rfl (m4 _) (fun W8 hW => hK8.out _ _ (sk_below (S7.out) hW) ?_)
    have S8 := Lib.hid (sk_below (S7.out) hW)
    clear hW hK8 K8
    simp only [Act.put, List.setIfInBounds_toArray, List.set_cons_zero, List.set_cons_succ]
    refine wpAnyH_takeD (i := 14) (v := .bool false) (some 32) rfl rfl (by kernel_rfl) (fun _ _ _ h => h) (.inl ⟨by rfl, fun W _ => by go_simp⟩) (S8.out) ?_
    simp only [Act.put, List.setIfInBounds_toArray, List.set_cons_zero, List.set_cons_succ]
    refine wpAnyH_takeD (i := 15) (v := .bool false) (some 33) rfl rfl (by kernel_rfl) (fun _ _ _ h => h) (.inl ⟨by rfl, fun W _ => by go_simp⟩) (S8.out) ?_
    simp only [Act.put, List.setIfInBounds_toArray, List.set_cons_zero, List.set_cons_succ]
    refine wpAnyH_takeD (i := 16) (v := .bool false) (some 34) rfl rfl (by kernel_rfl) (fun _ _ _ h => h) (.inl ⟨by rfl, fun W _ => rfl⟩) (S8.out) ?_
    simp only [Act.put, List.setIfInBounds_toArray, List.set_cons_zero, List.set_cons_succ]
    refine wpAnyH_takeD (i := 17) (some 35) rfl rfl (by kernel_rfl) (fun _ _ _ h => h) (yields_arr (k := .u8) (l := X0) (off := 0) (b := g4) (by rfl) _ rfl rfl (fun w' h => sk_range (t := 22) h (by simp)) arr16.under rfl (by rw [HX0.out]; exact info_16)) (S8.out) ?_
    simp only [Act.put, List.setIfInBounds_toArray, List.set_cons_zero, List.set_cons_succ]
    refine wpAnyH_takeD (i := 18) (some 36) rfl rfl (by kernel_rfl) (fun _ _ _ h => h) (yields_arr (k := .u8) (l := Y0) (off := 0) (b := g5) (by rfl) _ rfl rfl (fun w' h => sk_range (t := 22) h (by simp)) arr16.under rfl (by rw [HY0.out]; exact info_16)) (S8.out) ?_
    simp only [Act.put, List.setIfInBounds_toArray, List.set_cons_zero, List.set_cons_succ]
    refine wpAnyH_takeD (i := 20) (some 38) rfl rfl (by kernel_rfl) (fun _ _ _ h => h) (yields_arr (k := .u8) (l := Y0) (off := 0) (b := g5) (by rfl) _ rfl rfl (fun w' h => sk_range (t := 22) h (by simp)) arr16.under rfl (by rw [HY0.out]; exact info_16)) (S8.out) ?_
    simp only [Act.put, List.setIfInBounds_toArray, List.set_cons_zero, List.set_cons_succ]
    refine wpAnyH_takeD (i := 22) (some 40) rfl rfl (by kernel_rfl) (fun _ _ _ h => h) (yields_arr (k := .u8) (l := X0) (off := 0) (b := g4) (by rfl) _ rfl rfl (fun w' h => sk_range (t := 22) h (by simp)) arr16.under rfl (by rw [HX0.out]; exact info_16)) (S8.out) ?_
    simp only [Act.put, List.setIfInBounds_toArray, List.set_cons_zero, List.set_cons_succ]
    refine wpAnyH_oneD (i := 19) (by kernel_rfl) rfl (fun K9 hK9 => ?_)
    refine stepE_callW (v := .agg (Nums .u8 C1)) (R := fun w' => Below _ _ w') (some 37) rfl (by rfl) 12 Try.func12 (by kernel_rfl) rfl _ _ rfl [.agg (Nums .u8 X0), .agg (Nums .u8 Y0)] rfl (a1 _) (fun W9 hW => hK9.out _ _ (sk_below (S8.out) hW) ?_)
    have S9 := Lib.hid (sk_below (S8.out) hW)
    clear hW hK9 K9
    simp only [Act.put, List.setIfInBounds_toArray, List.set_cons_zero, List.set_cons_succ]
    refine wpAnyH_oneD (i := 21) (by kernel_rfl) rfl (fun K10 hK10 => ?_)
    refine stepE_callW (v := .agg (Nums .u8 X0)) (R := fun w' => Below _ _ w') (some 39) rfl (by rfl) 12 Try.func12 (by kernel_rfl) rfl _ _ rfl [.agg (Nums .u8 C1), .agg (Nums .u8 Y0)] rfl (a2 _) (fun W10 hW => hK10.out _ _ (sk_below (S9.out) hW) ?_)
    have S10 := Lib.hid (sk_below (S9.out) hW)
    clear hW hK10 K10
    simp only [Act.put, List.setIfInBounds_toArray, List.set_cons_zero, List.set_cons_succ]
    refine wpAnyH_takeD (i := 23) (v := .bool false) (some 41) rfl rfl (by kernel_rfl) (fun _ _ _ h => h) (.inl ⟨by rfl, fun W _ => by go_simp⟩) (S10.out) ?_
    simp only [Act.put, List.setIfInBounds_toArray, List.set_cons_zero, List.set_cons_succ]
    refine wpAnyH_takeD (i := 24) (v := .bool false) (some 42) rfl rfl (by kernel_rfl) (fun _ _ _ h => h) (.inl ⟨by rfl, fun W _ => by go_simp⟩) (S10.out) ?_
    simp only [Act.put, List.setIfInBounds_toArray, List.set_cons_zero, List.set_cons_succ]
    refine wpAnyH_doneD (by kernel_rfl) ?_
    clear s1 s2 s3 s4 m1 m2 m3 m4 a1 a2 q0 F7
    go_wp2_with fail
    refine wp_region_heldD (S := fun w' => SK w [(g7, 29, KL), (g4, 22, X0), (g5, 22, Y0)] w') (by kernel_rfl) ?_
    refine wpAnyH_takeD (i := 0) (some 43) rfl rfl (by kernel_rfl) (fun _ _ _ h => h) (yields_arr (k := .u8) (l := KL) (off := 0) (b := g7) (by rfl) _ rfl rfl (fun w' h => sk_range (t := 29) h (by simp)) arrKeys.under rfl (by rw [HKL.out]; exact arrKeys.size)) (sk_drewN S10.out 1) ?_
    simp only [Act.put, List.setIfInBounds_toArray, List.set_cons_zero, List.set_cons_succ]
    refine wpAnyH_takeD (i := 1) (some 44) rfl rfl (by kernel_rfl) (fun _ _ _ h => h) (yields_arr (k := .u8) (l := X0) (off := 0) (b := g4) (by rfl) _ rfl rfl (fun w' h => sk_range (t := 22) h (by simp)) arr16.under rfl (by rw [HX0.out]; exact info_16)) (sk_drewN S10.out 1) ?_
    simp only [Act.put, List.setIfInBounds_toArray, List.set_cons_zero, List.set_cons_succ]
    refine wpAnyH_takeD (i := 3) (some 46) rfl rfl (by kernel_rfl) (fun _ _ _ h => h) (yields_arr (k := .u8) (l := KL) (off := 0) (b := g7) (by rfl) _ rfl rfl (fun w' h => sk_range (t := 29) h (by simp)) arrKeys.under rfl (by rw [HKL.out]; exact arrKeys.size)) (sk_drewN S10.out 1) ?_
    simp only [Act.put, List.setIfInBounds_toArray, List.set_cons_zero, List.set_cons_succ]
    refine wpAnyH_takeD (i := 4) (some 47) rfl rfl (by kernel_rfl) (fun _ _ _ h => h) (yields_arr (k := .u8) (l := Y0) (off := 0) (b := g5) (by rfl) _ rfl rfl (fun w' h => sk_range (t := 22) h (by simp)) arr16.under rfl (by rw [HY0.out]; exact info_16)) (sk_drewN S10.out 1) ?_
    simp only [Act.put, List.setIfInBounds_toArray, List.set_cons_zero, List.set_cons_succ]
    refine wpAnyH_takeD (i := 7) (some 50) rfl rfl (by kernel_rfl) (fun _ _ _ h => h) (yields_arr (k := .u8) (l := X0) (off := 0) (b := g4) (by rfl) _ rfl rfl (fun w' h => sk_range (t := 22) h (by simp)) arr16.under rfl (by rw [HX0.out]; exact info_16)) (sk_drewN S10.out 1) ?_
    simp only [Act.put, List.setIfInBounds_toArray, List.set_cons_zero, List.set_cons_succ]
    refine wpAnyH_takeD (i := 8) (some 51) rfl rfl (by kernel_rfl) (fun _ _ _ h => h) (yields_arr (k := .u8) (l := Y0) (off := 0) (b := g5) (by rfl) _ rfl rfl (fun w' h => sk_range (t := 22) h (by simp)) arr16.under rfl (by rw [HY0.out]; exact info_16)) (sk_drewN S10.out 1) ?_
    simp only [Act.put, List.setIfInBounds_toArray, List.set_cons_zero, List.set_cons_succ]
    refine wpAnyH_takeD (i := 9) (v := .bool b) (some 52) rfl rfl (by kernel_rfl) (fun _ _ _ h => h) (.inl ⟨by rfl, fun W _ => by go_simp⟩) (sk_drewN S10.out 1) ?_
    simp only [Act.put, List.setIfInBounds_toArray, List.set_cons_zero, List.set_cons_succ]
    refine wpAnyH_oneD (i := 2) (by kernel_rfl) rfl (fun K11 hK11 => ?_)
    refine stepE_callW (v := .agg (Nums .u8 E1)) (R := fun w' => Below _ _ w') (some 45) rfl (by rfl) 17 Try.func17 (by kernel_rfl) rfl _ _ rfl [.agg (Nums .u8 KL), .agg (Nums .u8 X0)] rfl (e1 _) (fun W11 hW => hK11.out _ _ (sk_below (sk_drewN S10.out 1) hW) ?_)
    have S11 := Lib.hid (sk_below (sk_drewN S10.out 1) hW)
    clear hW hK11 K11
    simp only [Act.put, List.setIfInBounds_toArray, List.set_cons_zero, List.set_cons_succ]
    refine wpAnyH_oneD (i := 5) (by kernel_rfl) rfl (fun K12 hK12 => ?_)
    refine stepE_callW (v := .agg (Nums .u8 E2)) (R := fun w' => Below _ _ w') (some 48) rfl (by rfl) 17 Try.func17 (by kernel_rfl) rfl _ _ rfl [.agg (Nums .u8 KL), .agg (Nums .u8 Y0)] rfl (e2 _) (fun W12 hW => hK12.out _ _ (sk_below (S11.out) hW) ?_)
    have S12 := Lib.hid (sk_below (S11.out) hW)
    clear hW hK12 K12
    simp only [Act.put, List.setIfInBounds_toArray, List.set_cons_zero, List.set_cons_succ]
    refine wpAnyH_takeD (i := 6) (v := .bool b) (some 49) rfl rfl (by kernel_rfl) (fun _ _ _ h => h) (.inl ⟨by rfl, fun W _ => by go_simp⟩) (S12.out) ?_
    simp only [Act.put, List.setIfInBounds_toArray, List.set_cons_zero, List.set_cons_succ]
    refine wpAnyH_takeD (i := 10) (v := .bool true) (some 53) rfl rfl (by kernel_rfl) (fun _ _ _ h => h) (.inl ⟨by rfl, fun W _ => by go_simp⟩) (S12.out) ?_
    simp only [Act.put, List.setIfInBounds_toArray, List.set_cons_zero, List.set_cons_succ]
    refine wpAnyH_takeD (i := 11) (v := .bool true) (some 54) rfl rfl (by kernel_rfl) (fun _ _ _ h => h) (.inl ⟨by rfl, fun W _ => rfl⟩) (S12.out) ?_
    simp only [Act.put, List.setIfInBounds_toArray, List.set_cons_zero, List.set_cons_succ]
    refine wpAnyH_oneD (i := 12) (by kernel_rfl) rfl (fun Kz hKz => ?_)
    refine stepE_callW (v := .bool true) (R := fun w' => Below _ _ w') (some 55) rfl (by rfl) 14 Try.func14 (by kernel_rfl) rfl _ _ rfl [] rfl (h9 _) (fun Wz hW => hKz.out _ _ (sk_below (S12.out) hW) ?_)
    have SZ := Lib.hid (sk_below (S12.out) hW)
    clear hW hKz Kz
    simp only [Act.put, List.setIfInBounds_toArray, List.set_cons_zero, List.set_cons_succ]
    refine wpAnyH_takeD (i := 13) (v := .bool true) (some 56) rfl rfl (by kernel_rfl) (fun _ _ _ h => h) (.inl ⟨by rfl, fun W _ => by go_simp⟩) (SZ.out) ?_
    simp only [Act.put, List.setIfInBounds_toArray, List.set_cons_zero, List.set_cons_succ]
    refine wpAnyH_takeD (i := 14) (v := .bool true) (some 6) rfl rfl (by kernel_rfl) (fun _ _ _ h => h) (.inl ⟨by rfl, fun W _ => rfl⟩) (SZ.out) ?_
    simp only [Act.put, List.setIfInBounds_toArray, List.set_cons_zero, List.set_cons_succ]
    refine wpAnyH_doneD (by kernel_rfl) ?_
    go_wp2
    go_ret
    exact ⟨rfl, SZ.out.2⟩
  · have hz : ((n : Int) != 32) = true := by simp; omega
    clear hr hc
    have HB : Hid (∀ W W' : World, Below w.heap.size w W → Below W.heap.size W W' → Below w.heap.size w W') := Lib.hid fun W W' h1 h2 => abon h1 h2
    go_enter Try.func5, Try.ntmps5
    go_wp2_with (refine wp_box_arr (k := .u8) rfl 22 (.tmp 1) rfl (abn s) rfl ?_)
    intro w1 g4 G4 H4 Hb1 Hs1
    go_wp2_with (refine wp_box_arr (k := .u8) rfl 22 (.tmp 2) rfl (abn t) rfl ?_)
    intro w2 g5 G5 H5 Hb2 Hs2
    go_wp2_with fail
    refine (h9 _).mono ?_
    rintro e w3 ⟨rfl, hb3⟩
    go_wp2
    go_ret
    exact ⟨rfl, HB.out _ _ (abon Hb1.out Hb2.out) hb3⟩

end Go.Proofs.Ytckljalcmjomgaa
