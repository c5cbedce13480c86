import Derived.Test.YtckljalcmjomgaaAesKey
import Derived.Test.YtckljalcmjomgaaHeldEnd
import Derived.Test.YtckljalcmjomgaaRefAesSub
import Derived.Test.YtckljalcmjomgaaRefAesShift
import Derived.Test.YtckljalcmjomgaaRefAesMix
import Derived.Test.YtckljalcmjomgaaRefAesAdd
namespace Go.Proofs.Ytckljalcmjomgaa
open Go.RowKit

/-- What stands there behind n rounds. -/
def aroundsR (k s : List UInt8) (n : Nat) : List UInt8 := if n < 14 then aroundsB gboxU k s n else aencU k s
theorem aroundsR_lt {k s : List UInt8} {n : Nat} (h : n < 14) : aroundsR k s n = aroundsB gboxU k s n := if_pos h

set_option maxHeartbeats 1600000 in
theorem raenc_any (k s : List UInt8) (w : World) (hk : k.length = 240) (hs : s.length = 16) :
    Calls Try.prog 18 #[.agg (Nums .u8 (abn k)), .agg (Nums .u8 (abn s))] w (AnsA w .u8 (abn (aencU k s))) := by
  have Hl : ∀ x : List UInt8, x.length = 16 → Hid ((abn x).length = 16) := fun x hx => Lib.hid (by rw [abn_length, hx])
  have Hs := Lib.hid hs
  have Hr : Hid (∀ i, i < 15 → (aroundsR k s i).length = 16) := Lib.hid fun i hi => by
    unfold aroundsR
    split
    · exact arounds_length hk hs hi
    · exact aenc_length hk
  have Hkey : Hid (∀ i, i < 15 → (akeyAt k i).length = 16) := Lib.hid fun i hi => akeyAt_length hk hi
  have HA : Hid (∀ n, n < 13 → aaddU (amixU (ashiftU (asubU (aroundsR k s n)))) (akeyAt k (n + 1)) = aroundsR k s (n + 1)) := Lib.hid fun n hn => by rw [aroundsR_lt (show n < 14 by omega), aroundsR_lt (show n + 1 < 14 by omega)]; rfl
  have HB : Hid (aaddU (ashiftU (asubU (aroundsR k s 13))) (akeyAt k 14) = aroundsR k s 14) := Lib.hid rfl
  clear hk hs
  have cadd : ∀ (x y : List UInt8) (W : World), Hid (x.length = 16) → Hid (y.length = 16) → Calls Try.prog 13 #[.agg (Nums .u8 (abn x)), .agg (Nums .u8 (abn y))] W (AnsA W .u8 (abn (aaddU x y))) := fun x y W hx hy => raadd_any x y W hx.out hy.out
  go_enter Try.func18, Try.ntmps18
  go_wp2_with (refine wp_box_arr (k := .u8) rfl 28 (.tmp 0) rfl (abn k) rfl ?_)
  intro w1 g1 G1 H1 Hb1 Hs1
  go_wp2_with (refine wp_box_arr (k := .u8) rfl 22 (.tmp 1) rfl (abn s) rfl ?_)
  intro w2 g2 G2 H2 Hb2 Hs2
  go_wp2_with (refine wp_alloc_arr (k := .u8) rfl 22 rfl 16 zero16 ?_)
  intro w3 g3 G3 H3 Hb3 Hs3
  have Hg : Hid (w.heap.size ≤ g1 ∧ w.heap.size ≤ g2 ∧ w.heap.size ≤ g3 ∧ g1 ≠ g3 ∧ g2 ≠ g3 ∧ g1 ≠ g2) := Lib.hid (by have := G1.out; have := G2.out; have := G3.out; have := Hs1.out; have := Hs2.out; omega)
  have F3 : Hid (SK w [(g2, 22, abn s), (g1, 28, abn k), (g3, 22, Zs 16)] w3) := Lib.hid ⟨by
    intro x hx
    simp only [List.mem_cons, List.not_mem_nil, or_false] at hx
    rcases hx with rfl | rfl | rfl
    · exact H2.out.below Hb3.out H2.out.lt
    · exact (H1.out.below Hb2.out H1.out.lt).below Hb3.out (Nat.lt_of_lt_of_le H1.out.lt Hb2.out.size)
    · exact H3.out, abon (abon Hb1.out Hb2.out) Hb3.out⟩
  have Hne : Hid (∀ x ∈ [(g1, 28, abn k), (g3, 22, Zs 16)], x.1 ≠ g2) := Lib.hid (by
    have h5 := Hg.out
    intro x hx
    simp only [List.mem_cons, List.not_mem_nil, or_false] at hx
    rcases hx with rfl | rfl
    · exact h5.2.2.2.2.2
    · exact h5.2.2.2.2.1.symm)
  clear H1 H2 H3 Hb1 Hb2 Hb3 G1 G2 G3 Hs1 Hs2 Hs3
  have K1 : Hid (Arr w3 g1 28 .u8 (abn k)) := Lib.hid (F3.out.1 (g1, 28, abn k) (by simp))
  have ix0 := fun W => run_indexAt_w (b := g1) arrKeysR info_16 0 0 0 rfl (by omega) (by omega) W
  go_wp2_with (first
    | refine wp_load_arr arr16 rfl (.tmp 3) rfl rfl (sk_hd F3.out) (Hl s Hs.out).out ?_
    | refine wp_load_part (ns := abn (akeyAt k 0)) arr16.under rfl info_16 rfl (.tmp 7) rfl 0 rfl K1.out (Hl _ (Hkey.out 0 (by omega))).out (fun j x hx => akeyAt_get (i := 0) j x hx) ?_)
  refine (cadd _ _ _ Hs (Lib.hid (Hkey.out 0 (by omega)))).mono ?_
  rintro e w4 ⟨rfl, hb4⟩
  have F4 := Lib.hid (sk_below F3.out hb4)
  have Hrd0 : Hid (aroundsR k s 0 = aaddU s (akeyAt k 0)) := Lib.hid rfl
  have Hrl := Hr.out 0 (by omega)
  rw [← Hrd0.out]
  clear hb4 F3 K1
  go_wp2_with (refine wp_put_arr arr16 rfl (.tmp 3) (.tmp 9) rfl rfl (l' := abn (aroundsR k s 0)) rfl (sk_hd F4.out) (Hl _ Hs.out).out (Hl _ Hrl).out ?_)
  intro w6 H6 Hm6 Hs6
  have F6 : Hid (SK w [(g2, 22, abn (aroundsR k s 0)), (g1, 28, abn k), (g3, 22, Zs 16)] w6) := Lib.hid (sk_put F4.out Hm6.out H6.out Hne.out Hg.out.2.1)
  clear F4 Hm6 Hs6 H6 Hrd0 Hrl ix0 Hs
  go_wp2
  go_loopw [5] (fun i wr => ∃ n : Nat, n ≤ 14 ∧ i = .int .i64 ((n : Int) + 1) ∧ Hid (SK w [(g2, 22, abn (aroundsR k s n)), (g1, 28, abn k), (g3, 22, Zs 16)] wr)) (fun i _ => 15 - (intOf i).toNat)
  case atStart => exact ⟨0, by omega, rfl, F6⟩
  case round =>
    clear F6
    obtain ⟨n, hn, rfl, F6⟩ := hrel
    by_cases hlt : n < 14
    · obtain ⟨q, hq⟩ : ∃ q, (n + 1) * 16 = q := ⟨_, rfl⟩
      have ix := fun W => run_indexAt_w (b := g1) arrKeysR info_16 (n + 1) q ((n : Int) + 1) (by omega) (by omega) hq W
      have Hq : Hid (16 * (n + 1) = q) := Lib.hid (by omega)
      clear hq
      have Hkl := Lib.hid (Hkey.out (n + 1) (by omega))
      have Hsl := Lib.hid (Hr.out n (by omega))
      have Hpart : Hid (∀ j x : Nat, (abn (akeyAt k (n + 1)))[j]? = some x → (abn k)[q + j]? = some x) := Lib.hid (fun j x hx => by have h := akeyAt_get (i := n + 1) j x hx; rw [Hq.out] at h; exact h)
      have Hsn := Lib.hid (Hr.out (n + 1) (by omega))
      have csub := fun W => rasub_any (aroundsR k s n) W Hsl.out
      have H1l : Hid ((asubU (aroundsR k s n)).length = 16) := Lib.hid (by rw [asubU, asubB_length]; exact Hsl.out)
      have cshift := fun W => rashift_any (asubU (aroundsR k s n)) W H1l.out
      have H2l : Hid ((ashiftU (asubU (aroundsR k s n))).length = 16) := Lib.hid (ashift_length _)
      have cmix := fun W => ramix_any (ashiftU (asubU (aroundsR k s n))) W H2l.out
      have H3l : Hid ((amixU (ashiftU (asubU (aroundsR k s n)))).length = 16) := Lib.hid (amix_length H2l.out)
      have caddA := fun W => cadd (amixU (ashiftU (asubU (aroundsR k s n)))) (akeyAt k (n + 1)) W H3l Hkl
      have caddB := fun W => cadd (ashiftU (asubU (aroundsR k s n))) (akeyAt k (n + 1)) W H2l Hkl
      have HX0 := Hl _ Hsl.out
      have HX2 := Hl _ H2l.out
      have HX3 := Hl _ H3l.out
      have HXk := Hl _ Hkl.out
      have HXn := Hl _ Hsn.out
      obtain ⟨X4, hX4⟩ : ∃ X4, abn (aroundsR k s (n + 1)) = X4 := ⟨_, rfl⟩
      have HX4 := Lib.hid hX4
      rw [hX4] at HXn
      clear hX4
      have Hcase : (n < 13 → Hid (∀ W, Calls Try.prog 13 #[.agg (Nums .u8 (abn (amixU (ashiftU (asubU (aroundsR k s n)))))), .agg (Nums .u8 (abn (akeyAt k (n + 1))))] W (AnsA W .u8 X4))) ∧ (n = 13 → Hid (∀ W, Calls Try.prog 13 #[.agg (Nums .u8 (abn (ashiftU (asubU (aroundsR k s n))))), .agg (Nums .u8 (abn (akeyAt k (n + 1))))] W (AnsA W .u8 X4))) := ⟨fun h => by
          rw [HA.out n h, HX4.out] at caddA
          exact Lib.hid caddA, fun h => by
          subst h
          rw [HB.out, HX4.out] at caddB
          exact Lib.hid caddB⟩
      clear Hsl Hkl Hsn H1l H2l H3l caddA caddB
      revert F6 csub cshift cmix Hcase HX0 HX2 HX3 HXk Hpart
      generalize abn (amixU (ashiftU (asubU (aroundsR k s n)))) = X3
      generalize abn (ashiftU (asubU (aroundsR k s n))) = X2
      generalize abn (asubU (aroundsR k s n)) = X1
      generalize abn (aroundsR k s n) = X0
      generalize abn (akeyAt k (n + 1)) = XK
      intro F6 Hpart csub cshift cmix HX0 HX2 HX3 HXk Hcase
      go_wp2_with (refine wp_load_arr arr16 rfl (.tmp 3) rfl rfl (sk_hd F6.out) HX0.out ?_)
      refine (csub _).mono ?_
      rintro e w7 ⟨rfl, hb7⟩
      have F7 := Lib.hid (sk_below F6.out hb7)
      clear hb7 F6
      go_wp2_with fail
      refine (cshift _).mono ?_
      rintro e w8 ⟨rfl, hb8⟩
      have F8 := Lib.hid (sk_below F7.out hb8)
      clear hb8 F7
      go_wp2_with (refine wp_put_arr arr16 rfl (.tmp 3) (.tmp 16) rfl rfl (l' := X2) rfl (sk_hd F8.out) HX0.out HX2.out ?_)
      intro w9 H9 Hm9 Hs9
      have F9 : Hid (SK w [(g2, 22, X2), (g1, 28, abn k), (g3, 22, Zs 16)] w9) := Lib.hid (sk_put F8.out Hm9.out H9.out Hne.out Hg.out.2.1)
      clear H9 Hm9 Hs9 F8
      by_cases h13 : n < 13
      · have caddA := Hcase.1 h13
        go_wp2_with (refine wp_load_arr arr16 rfl (.tmp 3) rfl rfl (sk_hd F9.out) HX2.out ?_)
        refine (cmix _).mono ?_
        rintro e wa ⟨rfl, hba⟩
        have Fa := Lib.hid (sk_below F9.out hba)
        clear hba F9
        go_wp2_with (refine wp_put_arr arr16 rfl (.tmp 3) (.tmp 20) rfl rfl (l' := X3) rfl (sk_hd Fa.out) HX2.out HX3.out ?_)
        intro wb Hb Hmb Hsb
        have Fb : Hid (SK w [(g2, 22, X3), (g1, 28, abn k), (g3, 22, Zs 16)] wb) := Lib.hid (sk_put Fa.out Hmb.out Hb.out Hne.out Hg.out.2.1)
        clear Hb Hmb Hsb Fa
        go_wp2_with fail
        refine wp_region_ends (fun w' => SK w [(g2, 22, X3), (g1, 28, abn k), (g3, 22, Zs 16)] w') 5 (by kernel_rfl) ?_
        refine wpAnyE_take (i := 0) (some 21) rfl rfl (by kernel_rfl) (fun _ _ _ h => h) (yields_arr (k := .u8) (l := X3) (off := 0) (b := g2) (by rfl) _ rfl rfl (fun w' h => (sk_hd h).range (fun j x hx => by rw [Nat.zero_add]; exact hx)) arr16.under rfl (by rw [HX3.out]; exact info_16)) (sk_drewN Fb.out 1) ?_
        simp only [Act.put, List.setIfInBounds_toArray, List.set_cons_zero, List.set_cons_succ]
        refine wpAnyE_take (i := 1) (v := .int .i64 ((n : Int) + 1)) (some 22) rfl rfl (by kernel_rfl) (fun _ _ _ h => h) (.inl ⟨by rfl, fun _ _ => rfl⟩) (sk_drewN Fb.out 1) ?_
        simp only [Act.put, List.setIfInBounds_toArray, List.set_cons_zero, List.set_cons_succ]
        refine wpAnyE_take (i := 2) (v := .pointer (some ⟨g1, q, none⟩)) (some 23) rfl rfl (by kernel_rfl) (fun _ _ _ h => h) (.inl ⟨by rfl, fun W _ => by go_simp⟩) (sk_drewN Fb.out 1) ?_
        simp only [Act.put, List.setIfInBounds_toArray, List.set_cons_zero, List.set_cons_succ]
        refine wpAnyE_take (i := 3) (some 24) rfl rfl (by kernel_rfl) (fun _ _ _ h => h) (yields_arr (k := .u8) (l := XK) (off := q) (b := g1) (by rfl) _ rfl rfl (fun w' h => Arr.range (t := 28) (l := abn k) (h.1 (g1, 28, abn k) (by simp)) Hpart.out) arr16.under rfl (by rw [HXk.out]; exact info_16)) (sk_drewN Fb.out 1) ?_
        simp only [Act.put, List.setIfInBounds_toArray, List.set_cons_zero, List.set_cons_succ]
        refine wpAnyE_one (i := 4) (by kernel_rfl) rfl (fun K4 hK4 => ?_)
        refine stepE_call (v := .agg (Nums .u8 X4)) (R := fun w' => Below _ _ w') (some 25) rfl rfl 13 Try.func13 (by kernel_rfl) rfl _ _ rfl [.agg (Nums .u8 X3), .agg (Nums .u8 XK)] rfl (caddA.out _) (fun W4 hW4 => hK4.out _ _ (.inr (sk_below (sk_drewN Fb.out 1) hW4)) ?_)
        have S4 := Lib.hid (sk_below (sk_drewN Fb.out 1) hW4)
        clear hW4
        simp only [Act.put, List.setIfInBounds_toArray, List.set_cons_zero, List.set_cons_succ]
        refine wpAnyE_one (i := 5) (by kernel_rfl) rfl (fun K5 hK5 => ?_)
        refine stepE_put arr16 none rfl rfl _ _ rfl rfl rfl (sk_hd S4.out) HX3.out HXn.out (fun W5 A5 M5 _ => hK5.out _ _ (.inl rfl) ?_)
        have S5 := Lib.hid (sk_put S4.out M5.out A5.out Hne.out Hg.out.2.1)
        rw [← HX4.out] at S5
        clear hK4 hK5 K4 K5 S4 M5 A5 Fb
        simp only [Act.put]
        refine wpAnyE_done (by kernel_rfl) ?_
        go_wp2
        go_roundw
        case rel => exact ⟨n + 1, by omega, by go_num, S5⟩
        case measure => simp [intOf]; omega
      · have caddB := Hcase.2 (by omega)
        go_wp2_with fail
        refine wp_region_ends (fun w' => SK w [(g2, 22, X2), (g1, 28, abn k), (g3, 22, Zs 16)] w') 5 (by kernel_rfl) ?_
        refine wpAnyE_take (i := 0) (some 21) rfl rfl (by kernel_rfl) (fun _ _ _ h => h) (yields_arr (k := .u8) (l := X2) (off := 0) (b := g2) (by rfl) _ rfl rfl (fun w' h => (sk_hd h).range (fun j x hx => by rw [Nat.zero_add]; exact hx)) arr16.under rfl (by rw [HX2.out]; exact info_16)) (sk_drewN F9.out 1) ?_
        simp only [Act.put, List.setIfInBounds_toArray, List.set_cons_zero, List.set_cons_succ]
        refine wpAnyE_take (i := 1) (v := .int .i64 ((n : Int) + 1)) (some 22) rfl rfl (by kernel_rfl) (fun _ _ _ h => h) (.inl ⟨by rfl, fun _ _ => rfl⟩) (sk_drewN F9.out 1) ?_
        simp only [Act.put, List.setIfInBounds_toArray, List.set_cons_zero, List.set_cons_succ]
        refine wpAnyE_take (i := 2) (v := .pointer (some ⟨g1, q, none⟩)) (some 23) rfl rfl (by kernel_rfl) (fun _ _ _ h => h) (.inl ⟨by rfl, fun W _ => by go_simp⟩) (sk_drewN F9.out 1) ?_
        simp only [Act.put, List.setIfInBounds_toArray, List.set_cons_zero, List.set_cons_succ]
        refine wpAnyE_take (i := 3) (some 24) rfl rfl (by kernel_rfl) (fun _ _ _ h => h) (yields_arr (k := .u8) (l := XK) (off := q) (b := g1) (by rfl) _ rfl rfl (fun w' h => Arr.range (t := 28) (l := abn k) (h.1 (g1, 28, abn k) (by simp)) Hpart.out) arr16.under rfl (by rw [HXk.out]; exact info_16)) (sk_drewN F9.out 1) ?_
        simp only [Act.put, List.setIfInBounds_toArray, List.set_cons_zero, List.set_cons_succ]
        refine wpAnyE_one (i := 4) (by kernel_rfl) rfl (fun K4 hK4 => ?_)
        refine stepE_call (v := .agg (Nums .u8 X4)) (R := fun w' => Below _ _ w') (some 25) rfl rfl 13 Try.func13 (by kernel_rfl) rfl _ _ rfl [.agg (Nums .u8 X2), .agg (Nums .u8 XK)] rfl (caddB.out _) (fun W4 hW4 => hK4.out _ _ (.inr (sk_below (sk_drewN F9.out 1) hW4)) ?_)
        have S4 := Lib.hid (sk_below (sk_drewN F9.out 1) hW4)
        clear hW4
        simp only [Act.put, List.setIfInBounds_toArray, List.set_cons_zero, List.set_cons_succ]
        refine wpAnyE_one (i := 5) (by kernel_rfl) rfl (fun K5 hK5 => ?_)
        refine stepE_put arr16 none rfl rfl _ _ rfl rfl rfl (sk_hd S4.out) HX2.out HXn.out (fun W5 A5 M5 _ => hK5.out _ _ (.inl rfl) ?_)
        have S5 := Lib.hid (sk_put S4.out M5.out A5.out Hne.out Hg.out.2.1)
        rw [← HX4.out] at S5
        clear hK4 hK5 K4 K5 S4 M5 A5 F9
        simp only [Act.put]
        refine wpAnyE_done (by kernel_rfl) ?_
        go_wp2
        go_roundw
        case rel => exact ⟨n + 1, by omega, by go_num, S5⟩
        case measure => simp [intOf]; omega
    · obtain rfl : n = 14 := by omega
      have Hfin : Hid (aroundsR k s 14 = aencU k s) := Lib.hid rfl
      have HXn := Hl _ (Hr.out 14 (by omega))
      rw [Hfin.out] at F6 HXn
      go_wp2_with (first
        | refine wp_load_arr arr16 rfl (.tmp 3) rfl rfl (sk_hd F6.out) HXn.out ?_
        | refine wp_put_arr arr16 rfl (.tmp 4) (.tmp 26) rfl rfl (l' := abn (aencU k s)) rfl (F6.out.1 (g3, 22, Zs 16) (by simp)) (Zs_length _) HXn.out ?_)
      intro w5 H5 Hm5 Hs5
      go_wp2
      exact ret_arr arr16 rfl rfl H5.out HXn.out rfl ⟨rfl, F6.out.2.trans (Hm5.out.below (fun j hj => by rw [hj]; exact Hg.out.2.2.1) F6.out.2.size)⟩

end Go.Proofs.Ytckljalcmjomgaa
