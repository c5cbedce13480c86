import Derived.Test.YtfkfkmdnffpcmaaAesKey
import Derived.Test.YtfkfkmdnffpcmaaHeldEnd
import Derived.Test.YtfkfkmdnffpcmaaAesSub
import Derived.Test.YtfkfkmdnffpcmaaAesShift
import Derived.Test.YtfkfkmdnffpcmaaAesMix
import Derived.Test.YtfkfkmdnffpcmaaAesAdd
namespace Go.Proofs.Ytfkfkmdnffpcmaa
open Go.RowKit

set_option maxHeartbeats 1600000 in
theorem aenc_any (k s : List UInt8) (w : World) (hk : k.length = 240) (hs : s.length = 16) :
    Calls Try.prog 27 #[.agg (Nums .u8 (abn k)), .agg (Nums .u8 (abn s))] w (AnsA w .u8 (abn (aencU k s))) := by
  have Hl : ∀ x : List UInt8, x.length = 16 → Hid ((abn x).length = 16) := fun x hx => Lib.hid (by rw [abn_length, hx])
  have HK : Hid ((abn k).length = 240) := Lib.hid (by rw [abn_length, hk])
  have Hk := Lib.hid hk
  have Hs := Lib.hid hs
  have Hr : Hid (∀ i, i < 15 → (aroundsB gboxU k s i).length = 16) := Lib.hid fun i hi => arounds_length hk hs hi
  have Hkey : Hid (∀ i, i < 15 → (akeyAt k i).length = 16) := Lib.hid fun i hi => akeyAt_length hk hi
  clear hk hs
  have cadd : ∀ (x y : List UInt8) (W : World), Hid (x.length = 16) → Hid (y.length = 16) → Calls Try.prog 34 #[.agg (Nums .u8 (abn x)), .agg (Nums .u8 (abn y))] W (AnsA W .u8 (abn (aaddU x y))) := fun x y W hx hy => aadd_any x y W hx.out hy.out
  go_enter Try.func27, Try.ntmps27
  go_wp2_with (refine wp_box_arr (k := .u8) rfl 47 (.tmp 0) rfl (abn k) rfl ?_)
  intro w1 g1 G1 H1 Hb1 Hs1
  go_wp2_with (refine wp_box_arr (k := .u8) rfl 23 (.tmp 1) rfl (abn s) rfl ?_)
  intro w2 g2 G2 H2 Hb2 Hs2
  go_wp2_with (refine wp_alloc_arr (k := .u8) rfl 23 rfl 16 zero16 ?_)
  intro w3 g3 G3 H3 Hb3 Hs3
  have Hg : Hid (w.heap.size ≤ g1 ∧ w.heap.size ≤ g2 ∧ w.heap.size ≤ g3 ∧ g1 ≠ g3 ∧ g2 ≠ g3 ∧ g1 ≠ g2) := Lib.hid (by have := G1.out; have := G2.out; have := G3.out; have := Hs1.out; have := Hs2.out; omega)
  have F3 : Hid (SK w [(g2, 23, abn s), (g1, 47, abn k), (g3, 23, Zs 16)] w3) := Lib.hid ⟨by
    intro x hx
    simp only [List.mem_cons, List.not_mem_nil, or_false] at hx
    rcases hx with rfl | rfl | rfl
    · exact H2.out.below Hb3.out H2.out.lt
    · exact (H1.out.below Hb2.out H1.out.lt).below Hb3.out (Nat.lt_of_lt_of_le H1.out.lt Hb2.out.size)
    · exact H3.out, abon (abon Hb1.out Hb2.out) Hb3.out⟩
  clear H1 H2 H3 Hb1 Hb2 Hb3 G1 G2 G3 Hs1 Hs2 Hs3
  have K1 : Hid (Arr w3 g1 47 .u8 (abn k)) := Lib.hid (F3.out.1 (g1, 47, abn k) (by simp))
  have ix0 := fun W => run_indexAt_w (b := g1) arrKeys info_16 0 0 0 rfl (by omega) (by omega) W
  have sl1 : ∀ W, (Instr.sliceAt 47 (.pointer (some ⟨g1, 0, none⟩)) (some (.int .i64 1)) (some (.int .i64 14)) none).run Try.prog W = .ok (.slice (some ⟨g1, 16, none⟩) 13 14) W := fun W => run_slice_w (b := g1) arrKeys info_16 1 14 16 13 14 (by omega) (by omega) (by omega) (by omega) (by omega) (by omega) W
  go_wp2_with (first
    | refine wp_load_arr arr16 rfl (.tmp 3) rfl rfl (sk_hd F3.out) (Hl s Hs.out).out ?_
    | refine wp_load_part (ns := abn (akeyAt k 0)) arr16.under rfl info_16 rfl (.tmp 10) rfl 0 rfl K1.out (Hl _ (Hkey.out 0 (by omega))).out (fun j x hx => akeyAt_get (i := 0) j x hx) ?_)
  refine (cadd _ _ _ Hs (Lib.hid (Hkey.out 0 (by omega)))).mono ?_
  rintro e w4 ⟨rfl, hb4⟩
  have F4 := Lib.hid (sk_below (sk_sub (M := [(g1, 47, abn k), (g3, 23, Zs 16)]) F3.out (by simp)) hb4)
  have Hrd0 : Hid (aroundsB gboxU k s 0 = aaddU s (akeyAt k 0)) := Lib.hid rfl
  have Hrl := Hr.out 0 (by omega)
  rw [← Hrd0.out]
  clear hb4 F3 K1
  go_wp2_with (refine wp_alloc_arr (k := .u8) rfl 23 rfl 16 zero16 ?_)
  intro w5 g5 G5 H5 Hb5 Hs5
  go_wp2_with (refine wp_put_arr arr16 rfl (.tmp 6) (.tmp 12) rfl rfl (l' := abn (aroundsB gboxU k s 0)) rfl H5.out (Zs_length _) (Hl _ Hrl).out ?_)
  intro w6 H6 Hm6 Hs6
  have Hg5 : Hid (g1 ≠ g5 ∧ g3 ≠ g5 ∧ w.heap.size ≤ g5 ∧ g1 ≠ g3 ∧ w.heap.size ≤ g3) := Lib.hid (by
    have e := G5.out
    have h1 := (F4.out.1 (g1, 47, abn k) (by simp)).lt
    have h2 := (F4.out.1 (g3, 23, Zs 16) (by simp)).lt
    have h3 := F4.out.2.size
    have h4 := Hg.out
    dsimp only at h1 h2
    omega)
  have F6 : Hid (SK w [(g5, 23, abn (aroundsB gboxU k s 0)), (g1, 47, abn k), (g3, 23, Zs 16)] w6) := Lib.hid (sk_cons (sk_keep (sk_below F4.out Hb5.out) Hm6.out (by
    have h4 := Hg5.out
    intro x hx
    simp only [List.mem_cons, List.not_mem_nil, or_false] at hx
    rcases hx with rfl | rfl
    · exact h4.1
    · exact h4.2.1) Hg5.out.2.2.1) H6.out)
  clear F4 H5 Hb5 Hs5 Hm6 Hs6 H6 G5 Hrd0 Hrl ix0 Hg Hs
  go_wp2
  go_loopw [16] (fun i wr => ∃ n : Nat, n ≤ 13 ∧ i = .int .i64 (n : Int) ∧ Hid (SK w [(g5, 23, abn (aroundsB gboxU k s n)), (g1, 47, abn k), (g3, 23, Zs 16)] wr)) (fun i _ => 13 - (intOf i).toNat)
  case atStart => exact ⟨0, by omega, rfl, F6⟩
  case round =>
    clear F6
    obtain ⟨n, hn, rfl, F6⟩ := hrel
    by_cases hlt : n < 13
    · obtain ⟨q, hq⟩ : ∃ q, 16 + n * 16 = q := ⟨_, rfl⟩
      have ix := fun W => run_indexAt_row (P := Try.prog) (b := g1) (t := 57) (e := 23) (by kernel_rfl) info_16 16 13 14 n q (n : Int) rfl hlt hq W
      have Hq : Hid (16 * (n + 1) = q) := Lib.hid (by omega)
      clear hq
      have K1 : Hid (Arr wr g1 47 .u8 (abn k)) := Lib.hid (F6.out.1 (g1, 47, abn k) (by simp))
      have Hkl := Lib.hid (Hkey.out (n + 1) (by omega))
      have Hsl := Lib.hid (Hr.out n (by omega))
      have Hnx : Hid (aaddU (amixU (ashiftU (asubU (aroundsB gboxU k s n)))) (akeyAt k (n + 1)) = aroundsB gboxU k s (n + 1)) := Lib.hid rfl
      go_wp2_with (first
        | refine wp_load_part (ns := abn (akeyAt k (n + 1))) arr16.under rfl info_16 rfl (.tmp 18) rfl q rfl K1.out (Hl _ Hkl.out).out (fun j x hx => by have h := akeyAt_get (i := n + 1) j x hx; rw [Hq.out] at h; exact h) ?_
        | refine wp_alloc_arr (k := .u8) rfl 23 rfl 16 zero16 ?_)
      intro w7 g7 G7 H7 Hb7 Hs7
      go_wp2_with (refine wp_put_arr arr16 rfl (.tmp 8) (.tmp 19) rfl rfl (l' := abn (akeyAt k (n + 1))) rfl H7.out (Zs_length _) (Hl _ Hkl.out).out ?_)
      intro w8 H8 Hm8 Hs8
      have Hg7 : Hid (g5 ≠ g7 ∧ g1 ≠ g7 ∧ g3 ≠ g7 ∧ w.heap.size ≤ g7) := Lib.hid (by
        have e := G7.out
        have h0 := (sk_hd F6.out).lt
        have h1 := K1.out.lt
        have h2 := (F6.out.1 (g3, 23, Zs 16) (by simp)).lt
        have h3 := F6.out.2.size
        dsimp only at h2
        omega)
      have F8 : Hid (SK w [(g5, 23, abn (aroundsB gboxU k s n)), (g7, 23, abn (akeyAt k (n + 1))), (g1, 47, abn k), (g3, 23, Zs 16)] w8) := Lib.hid (sk_sub (sk_cons (sk_keep (sk_below F6.out Hb7.out) Hm8.out (by
        have h4 := Hg7.out
        intro x hx
        simp only [List.mem_cons, List.not_mem_nil, or_false] at hx
        rcases hx with rfl | rfl | rfl
        · exact h4.1
        · exact h4.2.1
        · exact h4.2.2.1) Hg7.out.2.2.2) H8.out) (by intro x hx; simp only [List.mem_cons, List.not_mem_nil, or_false] at hx ⊢; rcases hx with rfl | rfl | rfl | rfl <;> simp))
      have Hne : Hid (∀ x ∈ [(g7, 23, abn (akeyAt k (n + 1))), (g1, 47, abn k), (g3, 23, Zs 16)], x.1 ≠ g5) := Lib.hid (by
        have h4 := Hg7.out
        have h5 := Hg5.out
        intro x hx
        simp only [List.mem_cons, List.not_mem_nil, or_false] at hx
        rcases hx with rfl | rfl | rfl
        · exact h4.1.symm
        · exact h5.1
        · exact h5.2.1)
      have Hsn := Lib.hid (Hr.out (n + 1) (by omega))
      clear F6 H7 H8 Hb7 Hs7 Hm8 Hs8 G7 K1 ix
      have csub := fun W => asub_any (aroundsB gboxU k s n) W Hsl.out
      have H1l : Hid ((asubU (aroundsB gboxU k s n)).length = 16) := Lib.hid (by rw [asubU, asubB_length]; exact Hsl.out)
      have cshift := fun W => ashift_any (asubU (aroundsB gboxU k s n)) W H1l.out
      have H2l : Hid ((ashiftU (asubU (aroundsB gboxU k s n))).length = 16) := Lib.hid (ashift_length _)
      have cmix := fun W => amix_any (ashiftU (asubU (aroundsB gboxU k s n))) W H2l.out
      have H3l : Hid ((amixU (ashiftU (asubU (aroundsB gboxU k s n)))).length = 16) := Lib.hid (amix_length H2l.out)
      have cadd2 := fun W => cadd (amixU (ashiftU (asubU (aroundsB gboxU k s n)))) (akeyAt k (n + 1)) W H3l Hkl
      rw [Hnx.out] at cadd2
      have HX0 := Hl _ Hsl.out
      have HXk := Hl _ Hkl.out
      have HXn := Hl _ Hsn.out
      clear Hsl H1l H2l H3l Hnx
      revert csub cshift cmix cadd2 F8 Hne HX0 HXk HXn
      generalize abn (amixU (ashiftU (asubU (aroundsB gboxU k s n)))) = X3
      generalize abn (ashiftU (asubU (aroundsB gboxU k s n))) = X2
      generalize abn (asubU (aroundsB gboxU k s n)) = X1
      generalize hX0 : abn (aroundsB gboxU k s n) = X0
      generalize hX4 : abn (aroundsB gboxU k s (n + 1)) = X4
      generalize abn (akeyAt k (n + 1)) = XK
      intro F8 Hne csub cshift cmix cadd2 HX0 HXk HXn
      have HX4 := Lib.hid hX4
      clear hX0 hX4
      go_wp2_with fail
      refine wp_region_ends (fun w' => SK w [(g5, 23, X0), (g7, 23, XK), (g1, 47, abn k), (g3, 23, Zs 16)] w') 6 (by kernel_rfl) ?_
      refine wpAnyE_take (i := 0) (some 20) rfl rfl (by kernel_rfl) (fun _ _ _ h => h) (yields_arr (k := .u8) (l := X0) (off := 0) (b := g5) (by rfl) _ rfl rfl (fun w' h => (sk_hd h).range (fun j x hx => by rw [Nat.zero_add]; exact hx)) arr16.under rfl (by rw [HX0.out]; exact info_16)) (sk_drewN F8.out 1) ?_
      simp only [Act.put, List.setIfInBounds_toArray, List.set_cons_zero, List.set_cons_succ]
      refine wpAnyE_take (i := 4) (some 24) rfl rfl (by kernel_rfl) (fun _ _ _ h => h) (yields_arr (k := .u8) (l := XK) (off := 0) (b := g7) (by rfl) _ rfl rfl (fun w' h => Arr.range (t := 23) (l := XK) (h.1 (g7, 23, XK) (by simp)) (fun j x hx => by rw [Nat.zero_add]; exact hx)) arr16.under rfl (by rw [HXk.out]; exact info_16)) (sk_drewN F8.out 1) ?_
      simp only [Act.put, List.setIfInBounds_toArray, List.set_cons_zero, List.set_cons_succ]
      refine wpAnyE_one (i := 1) (by kernel_rfl) rfl (fun K1 hK1 => ?_)
      refine stepE_call (v := .agg (Nums .u8 X1)) (R := fun w' => Below _ _ w') (some 21) rfl rfl 37 Try.func37 (by kernel_rfl) rfl _ _ rfl [.agg (Nums .u8 X0)] rfl (csub _) (fun W1 hW1 => hK1.out _ _ (.inr (sk_below (sk_drewN F8.out 1) hW1)) ?_)
      have S1 := Lib.hid (sk_below (sk_drewN F8.out 1) hW1)
      clear hW1
      simp only [Act.put, List.setIfInBounds_toArray, List.set_cons_zero, List.set_cons_succ]
      refine wpAnyE_one (i := 2) (by kernel_rfl) rfl (fun K2 hK2 => ?_)
      refine stepE_call (v := .agg (Nums .u8 X2)) (R := fun w' => Below _ _ w') (some 22) rfl rfl 36 Try.func36 (by kernel_rfl) rfl _ _ rfl [.agg (Nums .u8 X1)] rfl (cshift _) (fun W2 hW2 => hK2.out _ _ (.inr (sk_below S1.out hW2)) ?_)
      have S2 := Lib.hid (sk_below S1.out hW2)
      clear hW2 S1
      simp only [Act.put, List.setIfInBounds_toArray, List.set_cons_zero, List.set_cons_succ]
      refine wpAnyE_one (i := 3) (by kernel_rfl) rfl (fun K3 hK3 => ?_)
      refine stepE_call (v := .agg (Nums .u8 X3)) (R := fun w' => Below _ _ w') (some 23) rfl rfl 35 Try.func35 (by kernel_rfl) rfl _ _ rfl [.agg (Nums .u8 X2)] rfl (cmix _) (fun W3 hW3 => hK3.out _ _ (.inr (sk_below S2.out hW3)) ?_)
      have S3 := Lib.hid (sk_below S2.out hW3)
      clear hW3 S2
      simp only [Act.put, List.setIfInBounds_toArray, List.set_cons_zero, List.set_cons_succ]
      refine wpAnyE_one (i := 5) (by kernel_rfl) rfl (fun K4 hK4 => ?_)
      refine stepE_call (v := .agg (Nums .u8 X4)) (R := fun w' => Below _ _ w') (some 25) rfl rfl 34 Try.func34 (by kernel_rfl) rfl _ _ rfl [.agg (Nums .u8 X3), .agg (Nums .u8 XK)] rfl (cadd2 _) (fun W4 hW4 => hK4.out _ _ (.inr (sk_below S3.out hW4)) ?_)
      have S4 := Lib.hid (sk_below S3.out hW4)
      clear hW4 S3
      simp only [Act.put, List.setIfInBounds_toArray, List.set_cons_zero, List.set_cons_succ]
      refine wpAnyE_one (i := 6) (by kernel_rfl) rfl (fun K5 hK5 => ?_)
      refine stepE_put arr16 none rfl rfl _ _ rfl rfl rfl (sk_hd S4.out) HX0.out HXn.out (fun W5 A5 M5 _ => hK5.out _ _ (.inl rfl) ?_)
      have S5 := Lib.hid (sk_put S4.out M5.out A5.out Hne.out Hg5.out.2.2.1)
      clear S4 A5 M5
      simp only [Act.put]
      refine wpAnyE_done (by kernel_rfl) ?_
      have S6 := Lib.hid (sk_sub (M := [(g5, 23, X4), (g1, 47, abn k), (g3, 23, Zs 16)]) S5.out (by intro x hx; simp only [List.mem_cons, List.not_mem_nil, or_false] at hx ⊢; rcases hx with rfl | rfl | rfl <;> simp))
      rw [← HX4.out] at S6
      clear hK1 hK2 hK3 hK4 hK5 K1 K2 K3 K4 K5 S5
      go_wp2
      go_roundw
      case rel => exact ⟨n + 1, by omega, by go_num, S6⟩
      case measure => simp [intOf]; omega
    · obtain rfl : n = 13 := by omega
      have ix : ∀ W, (Instr.indexAt 47 (.pointer (some ⟨g1, 0, none⟩)) (.int .i64 14)).run Try.prog W = .ok (.pointer (some ⟨g1, 224, none⟩)) W := fun W => run_indexAt_w (b := g1) arrKeys info_16 14 224 14 rfl (by omega) (by omega) W
      have Hkl := Lib.hid (Hkey.out 14 (by omega))
      have Hsl := Lib.hid (Hr.out 13 (by omega))
      have Hfin : Hid (aaddU (ashiftU (asubU (aroundsB gboxU k s 13))) (akeyAt k 14) = aencU k s) := Lib.hid rfl
      have csub := fun W => asub_any (aroundsB gboxU k s 13) W Hsl.out
      have H1l : Hid ((asubU (aroundsB gboxU k s 13)).length = 16) := Lib.hid (by rw [asubU, asubB_length]; exact Hsl.out)
      have cshift := fun W => ashift_any (asubU (aroundsB gboxU k s 13)) W H1l.out
      have H2l : Hid ((ashiftU (asubU (aroundsB gboxU k s 13))).length = 16) := Lib.hid (ashift_length _)
      have cadd2 := fun W => cadd (ashiftU (asubU (aroundsB gboxU k s 13))) (akeyAt k 14) W H2l Hkl
      have HXn : Hid ((abn (aencU k s)).length = 16) := Lib.hid (by rw [abn_length, ← Hfin.out, aadd_length H2l.out Hkl.out])
      rw [Hfin.out] at cadd2
      have HX0 := Hl _ Hsl.out
      have HXk := Hl _ Hkl.out
      have Hpart : Hid (∀ j x : Nat, (abn (akeyAt k 14))[j]? = some x → (abn k)[224 + j]? = some x) := Lib.hid (fun j x hx => akeyAt_get (i := 14) j x hx)
      have Hg13 : Hid (∀ x ∈ [(g5, 23, abn (aroundsB gboxU k s 13)), (g1, 47, abn k)], x.1 ≠ g3) := Lib.hid (by
        have h5 := Hg5.out
        intro x hx
        simp only [List.mem_cons, List.not_mem_nil, or_false] at hx
        rcases hx with rfl | rfl
        · exact h5.2.1.symm
        · exact h5.2.2.2.1)
      clear Hsl Hkl H1l H2l Hfin Hl HK Hk Hr Hkey cadd sl1
      generalize abn (ashiftU (asubU (aroundsB gboxU k s 13))) = X2 at *
      generalize abn (asubU (aroundsB gboxU k s 13)) = X1 at *
      generalize abn (aroundsB gboxU k s 13) = X0 at *
      generalize abn (aencU k s) = X4 at *
      generalize abn (akeyAt k 14) = XK at *
      generalize abn k = XX at *
      go_wp2_with fail
      refine wp_region_ends (fun w' => SK w [(g5, 23, X0), (g1, 47, XX), (g3, 23, Zs 16)] w') 7 (by kernel_rfl) ?_
      refine wpAnyE_take (i := 0) (some 27) rfl rfl (by kernel_rfl) (fun _ _ _ h => h) (yields_arr (k := .u8) (l := X0) (off := 0) (b := g5) (by rfl) _ rfl rfl (fun w' h => (sk_hd h).range (fun j x hx => by rw [Nat.zero_add]; exact hx)) arr16.under rfl (by rw [HX0.out]; exact info_16)) (sk_drewN F6.out 1) ?_
      simp only [Act.put, List.setIfInBounds_toArray, List.set_cons_zero, List.set_cons_succ]
      refine wpAnyE_take (i := 3) (v := .int .i64 14) (some 30) rfl rfl (by kernel_rfl) (fun _ _ _ h => h) (.inl ⟨by rfl, fun _ _ => rfl⟩) (sk_drewN F6.out 1) ?_
      simp only [Act.put, List.setIfInBounds_toArray, List.set_cons_zero, List.set_cons_succ]
      refine wpAnyE_take (i := 4) (v := .pointer (some ⟨g1, 224, none⟩)) (some 31) rfl rfl (by kernel_rfl) (fun _ _ _ h => h) (.inl ⟨by rfl, fun W _ => by go_simp⟩) (sk_drewN F6.out 1) ?_
      simp only [Act.put, List.setIfInBounds_toArray, List.set_cons_zero, List.set_cons_succ]
      refine wpAnyE_take (i := 5) (some 32) rfl rfl (by kernel_rfl) (fun _ _ _ h => h) (yields_arr (k := .u8) (l := XK) (off := 224) (b := g1) (by rfl) _ rfl rfl (fun w' h => Arr.range (t := 47) (l := XX) (h.1 (g1, 47, XX) (by simp)) Hpart.out) arr16.under rfl (by rw [HXk.out]; exact info_16)) (sk_drewN F6.out 1) ?_
      simp only [Act.put, List.setIfInBounds_toArray, List.set_cons_zero, List.set_cons_succ]
      refine wpAnyE_one (i := 1) (by kernel_rfl) rfl (fun K1 hK1 => ?_)
      refine stepE_call (v := .agg (Nums .u8 X1)) (R := fun w' => Below _ _ w') (some 28) rfl rfl 37 Try.func37 (by kernel_rfl) rfl _ _ rfl [.agg (Nums .u8 X0)] rfl (csub _) (fun W1 hW1 => hK1.out _ _ (.inr (sk_below (sk_drewN F6.out 1) hW1)) ?_)
      have S1 := Lib.hid (sk_below (sk_drewN F6.out 1) hW1)
      clear hW1
      simp only [Act.put, List.setIfInBounds_toArray, List.set_cons_zero, List.set_cons_succ]
      refine wpAnyE_one (i := 2) (by kernel_rfl) rfl (fun K2 hK2 => ?_)
      refine stepE_call (v := .agg (Nums .u8 X2)) (R := fun w' => Below _ _ w') (some 29) rfl rfl 36 Try.func36 (by kernel_rfl) rfl _ _ rfl [.agg (Nums .u8 X1)] rfl (cshift _) (fun W2 hW2 => hK2.out _ _ (.inr (sk_below S1.out hW2)) ?_)
      have S2 := Lib.hid (sk_below S1.out hW2)
      clear hW2 S1
      simp only [Act.put, List.setIfInBounds_toArray, List.set_cons_zero, List.set_cons_succ]
      refine wpAnyE_one (i := 6) (by kernel_rfl) rfl (fun K4 hK4 => ?_)
      refine stepE_call (v := .agg (Nums .u8 X4)) (R := fun w' => Below _ _ w') (some 33) rfl rfl 34 Try.func34 (by kernel_rfl) rfl _ _ rfl [.agg (Nums .u8 X2), .agg (Nums .u8 XK)] rfl (cadd2 _) (fun W4 hW4 => hK4.out _ _ (.inr (sk_below S2.out hW4)) ?_)
      have S4 := Lib.hid (sk_below S2.out hW4)
      clear hW4 S2
      simp only [Act.put, List.setIfInBounds_toArray, List.set_cons_zero, List.set_cons_succ]
      refine wpAnyE_one (i := 7) (by kernel_rfl) rfl (fun K5 hK5 => ?_)
      refine stepE_put arr16 none rfl rfl _ _ rfl rfl rfl (S4.out.1 (g3, 23, Zs 16) (by simp)) (Zs_length _) HXn.out (fun W5 A5 M5 _ => hK5.out _ _ (.inl rfl) ?_)
      have S5 := Lib.hid (S4.out.2.trans (M5.out.below (B := w.heap.size) (fun j hj => by rw [hj]; exact Hg5.out.2.2.2.2) S4.out.2.size))
      clear hK1 hK2 hK4 hK5 K1 K2 K4 K5 S4 M5
      simp only [Act.put]
      refine wpAnyE_done (by kernel_rfl) ?_
      go_wp2
      exact ret_arr arr16 rfl rfl A5.out HXn.out rfl ⟨rfl, S5.out⟩

end Go.Proofs.Ytfkfkmdnffpcmaa
