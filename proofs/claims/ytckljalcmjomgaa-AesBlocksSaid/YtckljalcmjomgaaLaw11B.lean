import Derived.Test.YtckljalcmjomgaaLaw11K
import Derived.Test.YtckljalcmjomgaaRefAesSched
import Derived.Test.YtckljalcmjomgaaRefAesEnc
import Derived.Test.YtckljalcmjomgaaRow
namespace Go.Proofs.Ytckljalcmjomgaa
open Go.RowKit

theorem zs_abn (n : Nat) : abn (List.replicate n 0) = Zs n := by simp [abn, Zs]
/-- Both answers for the key at hand. -/
theorem sched_both (n c : Nat) (A : Option Addr) (key : List UInt8) (w : World) (hr : Rd w w.heap.size A n (Byt key)) (hc : n ≤ c) : ∃ (k : List UInt8) (fv : Int), k.length = 240 ∧ 0 ≤ fv ∧ fv < 5 ∧
    (∀ W, Hid (Below w.heap.size w W) → Calls Try.prog 15 #[.slice A n c] W (Ans W (.tuple #[.agg (Nums .u8 (abn k)), .int .i64 fv]))) ∧
    (∀ W, Hid (Below w.heap.size w W) → Calls Try.prog 16 #[.slice A n c] W (Ans W (.tuple #[.agg (Nums .u8 (abn k)), .int .i64 fv]))) := by
  by_cases h : n = 32
  · subst h
    exact ⟨akeysU key, 0, akeys_length hr.bytes, by omega, by omega, fun W hb => asched_key key c w.heap.size A W (hr.below hb.out) hc hb.out.size, fun W hb => rasched_key key c w.heap.size A W (hr.below hb.out) hb.out.size⟩
  · refine ⟨List.replicate 240 0, 4, List.length_replicate, by omega, by omega, fun W _ => ?_, fun W _ => ?_⟩
    · rw [zs_abn]; exact asched_none n c A W h
    · rw [zs_abn]; exact rasched_none n c A W h

set_option maxHeartbeats 3200000 in
set_option maxRecDepth 20000 in
theorem aesBlocks_walk (n c : Nat) (A : Option Addr) (key s : List UInt8) (w : World) (hr : Rd w w.heap.size A n (Byt key)) (hc : n ≤ c) (hn : n ≤ maxLen) (hs : s.length = 16) :
    Calls Try.prog 4 #[.slice A n c, .agg (Nums .u8 (abn s))] w (Ans w (.bool true)) := by
  obtain ⟨k, fv, hk, hf0, hf5, csch, rsch⟩ := sched_both n c A key w hr hc
  have hn' : (n : Int) ≤ 9223372036854775807 := by unfold maxLen at hn; omega
  have h1 := fun w => aenc_any k s w hk hs
  have h2 := fun w => raenc_any k s w hk hs
  have h9 := fun w => alive11_any w
  have g16 := eqg16
  have gK : Try.prog.eqGuardType Try.prog.depth 29 = false := by kernel_rfl
  have q1 := fun W => eq16_same (l := abn (aencU k s)) (by rw [abn_length]; exact aenc_length hk) W
  have qK := fun W => run_equalIn_rows (P := Try.prog) (k := .u8) arrKeys arr16 cells8 cells16 (l := abn k) (by rw [abn_length, hk]) W
  have HX0 : Hid ((abn s).length = 16) := Lib.hid (by rw [abn_length, hs])
  have HKL : Hid ((abn k).length = 240) := Lib.hid (by rw [abn_length, hk])
  clear hs hk hr hc hn
  generalize abn (aencU k s) = E at *
  generalize abn s = X0 at *
  generalize abn k = KL at *
  by_cases h100 : 100 < n
  · have hgt : decide ((n : Int) > 100) = true := by simp; omega
    go_enter Try.func4, Try.ntmps4
    go_wp2_with (refine wp_box_arr (k := .u8) rfl 22 (.tmp 1) rfl X0 rfl ?_)
    intro w1 g1 G1 H1 Hb1 Hs1
    go_wp2_with fail
    refine (h9 _).mono ?_
    rintro e w2 ⟨rfl, hb2⟩
    go_wp2
    go_ret
    exact ⟨rfl, abon Hb1.out hb2⟩
  · have hgt : ¬ (n : Int) > 100 := by omega
    go_enter Try.func4, Try.ntmps4
    go_wp2_with (refine wp_box_arr (k := .u8) rfl 22 (.tmp 1) rfl X0 rfl ?_)
    intro w1 g3 G3 H3 Hb1 Hs1
    have F1 : Hid (SK w [(g3, 22, X0)] w1) := Lib.hid ⟨by
      intro x hx
      simp only [List.mem_cons, List.not_mem_nil, or_false] at hx
      rcases hx with rfl
      exact H3.out, Hb1.out⟩
    have hG3 : Hid (w.heap.size ≤ g3) := Lib.hid (by have := G3.out; omega)
    clear H3 Hb1 Hs1 G3
    have cs := csch w1 (Lib.hid F1.out.2)
    go_wp2_with fail
    refine cs.mono ?_
    rintro e w2 ⟨rfl, hb2⟩
    have F2 := Lib.hid (sk_below F1.out hb2)
    clear cs csch F1 hb2
    go_wp2_with (refine wp_alloc_arr (k := .u8) rfl 29 rfl 240 zeroKeys ?_)
    intro w3 g5 G5 H5 Hb3 Hs3
    go_wp2_with (refine wp_put_w arrKeys rfl (.tmp 5) (.tmp 16) rfl rfl (l' := KL) rfl H5.out (Zs_length _) HKL.out ?_)
    intro w4 H6 Hm4 Hs4
    have Hg5 : Hid (g3 ≠ g5 ∧ w.heap.size ≤ g5) := Lib.hid (by have := G5.out; have := (sk_hd F2.out).lt; have := F2.out.2.size; omega)
    have F4 : Hid (SK w [(g5, 29, KL), (g3, 22, X0)] w4) := Lib.hid (sk_cons (sk_keep (sk_below F2.out Hb3.out) Hm4.out (by
      have h4 := Hg5.out
      intro x hx
      simp only [List.mem_cons, List.not_mem_nil, or_false] at hx
      rcases hx with rfl
      exact h4.1) Hg5.out.2) H6.out)
    have rs := rsch w4 (Lib.hid F4.out.2)
    clear F2 H5 Hb3 Hs3 Hm4 Hs4 G5 H6
    go_wp2_with fail
    refine rs.mono ?_
    rintro e w5 ⟨rfl, hb5⟩
    have F5 := Lib.hid (sk_below F4.out hb5)
    clear rs rsch F4 hb5
    go_wp2_with (refine wp_alloc_arr (k := .u8) rfl 28 rfl 240 zeroKeysR ?_)
    intro w6 g7 G7 H7 Hb6 Hs6
    go_wp2_with (refine wp_put_w arrKeysR rfl (.tmp 7) (.tmp 21) rfl rfl (l' := KL) rfl H7.out (Zs_length _) HKL.out ?_)
    intro w7 H8 Hm7 Hs7
    have Hg7 : Hid (g5 ≠ g7 ∧ g3 ≠ g7 ∧ w.heap.size ≤ g7) := Lib.hid (by
      have e := G7.out
      have h0 := (sk_hd F5.out).lt
      have h1 := (F5.out.1 (g3, 22, X0) (by simp)).lt
      have h2 := F5.out.2.size
      dsimp only at h1
      omega)
    have F7 : Hid (SK w [(g5, 29, KL), (g7, 28, KL), (g3, 22, X0)] w7) := Lib.hid (sk_sub (sk_cons (sk_keep (sk_below F5.out Hb6.out) Hm7.out (by
      have h4 := Hg7.out
      intro x hx
      simp only [List.mem_cons, List.not_mem_nil, or_false] at hx
      rcases hx with rfl | rfl
      · exact h4.1
      · exact h4.2.1) Hg7.out.2.2) H8.out) (by intro x hx; simp only [List.mem_cons, List.not_mem_nil, or_false] at hx ⊢; rcases hx with rfl | rfl | rfl <;> simp))
    clear F5 H7 Hb6 Hs6 Hm7 Hs7 G7 H8
    go_wp2_with fail
    refine wp_region_heldD (S := fun w' => SK w [(g5, 29, KL), (g7, 28, KL), (g3, 22, X0)] w') (by kernel_rfl) ?_
    refine wpAnyH_takeD (i := 0) (some 23) rfl rfl (by kernel_rfl) (fun _ _ _ h => h) (yields_arr (k := .u8) (l := KL) (off := 0) (b := g5) (by rfl) _ rfl rfl (fun w' h => sk_range (t := 29) h (by simp)) arrKeys.under rfl (by rw [HKL.out]; exact arrKeys.size)) (sk_drewN F7.out 1) ?_
    simp only [Act.put, List.setIfInBounds_toArray, List.set_cons_zero, List.set_cons_succ]
    refine wpAnyH_takeD (i := 1) (some 24) rfl rfl (by kernel_rfl) (fun _ _ _ h => h) (yields_arr (k := .u8) (l := KL) (off := 0) (b := g7) (by rfl) _ rfl rfl (fun w' h => sk_range (t := 28) h (by simp)) arrKeysR.under rfl (by rw [HKL.out]; exact arrKeysR.size)) (sk_drewN F7.out 1) ?_
    simp only [Act.put, List.setIfInBounds_toArray, List.set_cons_zero, List.set_cons_succ]
    refine wpAnyH_takeD (i := 2) (v := .bool true) (some 25) rfl rfl (by kernel_rfl) (fun _ _ _ h => h) (.inl ⟨by rfl, fun W _ => by go_simp⟩) (sk_drewN F7.out 1) ?_
    simp only [Act.put, List.setIfInBounds_toArray, List.set_cons_zero, List.set_cons_succ]
    refine wpAnyH_takeD (i := 3) (v := .bool true) (some 26) rfl rfl (by kernel_rfl) (fun _ _ _ h => h) (.inl ⟨by rfl, fun W _ => rfl⟩) (sk_drewN F7.out 1) ?_
    simp only [Act.put, List.setIfInBounds_toArray, List.set_cons_zero, List.set_cons_succ]
    refine wpAnyH_takeD (i := 4) (v := .int .i64 fv) (some 27) rfl rfl (by kernel_rfl) (fun _ _ _ h => h) (.inl ⟨by rfl, fun W _ => rfl⟩) (sk_drewN F7.out 1) ?_
    simp only [Act.put, List.setIfInBounds_toArray, List.set_cons_zero, List.set_cons_succ]
    refine wpAnyH_takeD (i := 5) (v := .int .i64 fv) (some 28) rfl rfl (by kernel_rfl) (fun _ _ _ h => h) (.inl ⟨by rfl, fun W _ => rfl⟩) (sk_drewN F7.out 1) ?_
    simp only [Act.put, List.setIfInBounds_toArray, List.set_cons_zero, List.set_cons_succ]
    refine wpAnyH_takeD (i := 6) (v := .bool true) (some 29) rfl rfl (by kernel_rfl) (fun _ _ _ h => h) (.inl ⟨by rfl, fun W _ => by go_simp⟩) (sk_drewN F7.out 1) ?_
    simp only [Act.put, List.setIfInBounds_toArray, List.set_cons_zero, List.set_cons_succ]
    refine wpAnyH_takeD (i := 7) (v := .bool true) (some 30) rfl rfl (by kernel_rfl) (fun _ _ _ h => h) (.inl ⟨by rfl, fun W _ => by go_simp⟩) (sk_drewN F7.out 1) ?_
    simp only [Act.put, List.setIfInBounds_toArray, List.set_cons_zero, List.set_cons_succ]
    refine wpAnyH_takeD (i := 8) (v := .bool true) (some 31) rfl rfl (by kernel_rfl) (fun _ _ _ h => h) (.inl ⟨by rfl, fun W _ => rfl⟩) (sk_drewN F7.out 1) ?_
    simp only [Act.put, List.setIfInBounds_toArray, List.set_cons_zero, List.set_cons_succ]
    refine wpAnyH_takeD (i := 9) (some 32) rfl rfl (by kernel_rfl) (fun _ _ _ h => h) (yields_arr (k := .u8) (l := KL) (off := 0) (b := g5) (by rfl) _ rfl rfl (fun w' h => sk_range (t := 29) h (by simp)) arrKeys.under rfl (by rw [HKL.out]; exact arrKeys.size)) (sk_drewN F7.out 1) ?_
    simp only [Act.put, List.setIfInBounds_toArray, List.set_cons_zero, List.set_cons_succ]
    refine wpAnyH_takeD (i := 10) (some 33) rfl rfl (by kernel_rfl) (fun _ _ _ h => h) (yields_arr (k := .u8) (l := X0) (off := 0) (b := g3) (by rfl) _ rfl rfl (fun w' h => sk_range (t := 22) h (by simp)) arr16.under rfl (by rw [HX0.out]; exact info_16)) (sk_drewN F7.out 1) ?_
    simp only [Act.put, List.setIfInBounds_toArray, List.set_cons_zero, List.set_cons_succ]
    refine wpAnyH_takeD (i := 12) (some 35) rfl rfl (by kernel_rfl) (fun _ _ _ h => h) (yields_arr (k := .u8) (l := KL) (off := 0) (b := g7) (by rfl) _ rfl rfl (fun w' h => sk_range (t := 28) h (by simp)) arrKeysR.under rfl (by rw [HKL.out]; exact arrKeysR.size)) (sk_drewN F7.out 1) ?_
    simp only [Act.put, List.setIfInBounds_toArray, List.set_cons_zero, List.set_cons_succ]
    refine wpAnyH_takeD (i := 13) (some 36) rfl rfl (by kernel_rfl) (fun _ _ _ h => h) (yields_arr (k := .u8) (l := X0) (off := 0) (b := g3) (by rfl) _ rfl rfl (fun w' h => sk_range (t := 22) h (by simp)) arr16.under rfl (by rw [HX0.out]; exact info_16)) (sk_drewN F7.out 1) ?_
    simp only [Act.put, List.setIfInBounds_toArray, List.set_cons_zero, List.set_cons_succ]
    refine wpAnyH_oneD (i := 11) (by kernel_rfl) rfl (fun K1 hK1 => ?_)
    refine stepE_callW (v := .agg (Nums .u8 E)) (R := fun w' => Below _ _ w') (some 34) rfl (by rfl) 17 Try.func17 (by kernel_rfl) rfl _ _ rfl [.agg (Nums .u8 KL), .agg (Nums .u8 X0)] rfl (h1 _) (fun W1 hW => hK1.out _ _ (sk_below (sk_drewN F7.out 1) hW) ?_)
    have S1 := Lib.hid (sk_below (sk_drewN F7.out 1) hW)
    clear hW hK1 K1
    simp only [Act.put, List.setIfInBounds_toArray, List.set_cons_zero, List.set_cons_succ]
    refine wpAnyH_oneD (i := 14) (by kernel_rfl) rfl (fun K2 hK2 => ?_)
    refine stepE_callW (v := .agg (Nums .u8 E)) (R := fun w' => Below _ _ w') (some 37) rfl (by rfl) 18 Try.func18 (by kernel_rfl) rfl _ _ rfl [.agg (Nums .u8 KL), .agg (Nums .u8 X0)] rfl (h2 _) (fun W2 hW => hK2.out _ _ (sk_below (S1.out) hW) ?_)
    have S2 := Lib.hid (sk_below (S1.out) hW)
    clear hW hK2 K2
    simp only [Act.put, List.setIfInBounds_toArray, List.set_cons_zero, List.set_cons_succ]
    refine wpAnyH_takeD (i := 15) (v := .bool true) (some 38) rfl rfl (by kernel_rfl) (fun _ _ _ h => h) (.inl ⟨by rfl, fun W _ => by go_simp⟩) (S2.out) ?_
    simp only [Act.put, List.setIfInBounds_toArray, List.set_cons_zero, List.set_cons_succ]
    refine wpAnyH_takeD (i := 16) (v := .bool true) (some 39) rfl rfl (by kernel_rfl) (fun _ _ _ h => h) (.inl ⟨by rfl, fun W _ => by go_simp⟩) (S2.out) ?_
    simp only [Act.put, List.setIfInBounds_toArray, List.set_cons_zero, List.set_cons_succ]
    refine wpAnyH_takeD (i := 17) (v := .bool true) (some 40) rfl rfl (by kernel_rfl) (fun _ _ _ h => h) (.inl ⟨by rfl, fun W _ => rfl⟩) (S2.out) ?_
    simp only [Act.put, List.setIfInBounds_toArray, List.set_cons_zero, List.set_cons_succ]
    refine wpAnyH_oneD (i := 18) (by kernel_rfl) rfl (fun K3 hK3 => ?_)
    refine stepE_callW (v := .bool true) (R := fun w' => Below _ _ w') (some 41) rfl (by rfl) 14 Try.func14 (by kernel_rfl) rfl _ _ rfl [] rfl (h9 _) (fun W3 hW => hK3.out _ _ (sk_below (S2.out) hW) ?_)
    have S3 := Lib.hid (sk_below (S2.out) hW)
    clear hW hK3 K3
    simp only [Act.put, List.setIfInBounds_toArray, List.set_cons_zero, List.set_cons_succ]
    refine wpAnyH_takeD (i := 19) (v := .bool true) (some 42) rfl rfl (by kernel_rfl) (fun _ _ _ h => h) (.inl ⟨by rfl, fun W _ => by go_simp⟩) (S3.out) ?_
    simp only [Act.put, List.setIfInBounds_toArray, List.set_cons_zero, List.set_cons_succ]
    refine wpAnyH_takeD (i := 20) (v := .bool true) (some 4) rfl rfl (by kernel_rfl) (fun _ _ _ h => h) (.inl ⟨by rfl, fun W _ => rfl⟩) (S3.out) ?_
    simp only [Act.put, List.setIfInBounds_toArray, List.set_cons_zero, List.set_cons_succ]
    refine wpAnyH_doneD (by kernel_rfl) ?_
    go_wp2
    go_ret
    exact ⟨rfl, S3.out.2⟩

end Go.Proofs.Ytckljalcmjomgaa
