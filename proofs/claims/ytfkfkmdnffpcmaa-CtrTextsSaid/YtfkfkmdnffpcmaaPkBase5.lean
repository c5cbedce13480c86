/-
  Some of the texts that the last one of these needs: walks of the functions that the law calls, and the mathematics of their answers.
-/
import Derived.Test.YtfkfkmdnffpcmaaPkBase2
import Derived.Test.YtfkfkmdnffpcmaaPkBase1
import Derived.WalkMore
import Derived.ScopeJumps
import Derived.Test.YtfkfkmdnffpcmaaPkBase4
import Derived.Test.YtfkfkmdnffpcmaaPkBase3
namespace Go.Proofs.Ytfkfkmdnffpcmaa
open Go.RowKit

theorem and_one_i64 (N : Nat) (h : N < 256) : bits .and .i64 (N : Int) 1 = ((N % 2 : Nat) : Int) := by
  have h1 : ((List.range 256).all fun N => decide (bits .and .i64 (N : Int) 1 = ((N % 2 : Nat) : Int))) = true := by decide +kernel
  exact of_decide_eq_true (List.all_eq_true.1 h1 N (List.mem_range.2 h))
theorem gpow_even {b : UInt8} {N H : Nat} (h : N = 2 * H) : gpowU b N = gpowU (gmulU b b) H := by rw [gpow_sq, h]
theorem gpow_odd {b : UInt8} {N H : Nat} (h : N = 2 * H + 1) : gpowU b N = gmulU b (gpowU (gmulU b b) H) := by
  rw [gpow_sq, h, Nat.add_comm, gpow_add, show gpowU b 1 = b from gone_mul b]

set_option maxHeartbeats 3200000 in
set_option maxRecDepth 100000 in
theorem gpower_in (a : UInt8) (n0 : Int) (w : World) (hn : 1 ≤ n0 ∧ n0 ≤ 9223372036854775807) :
    Calls Try.prog 42 #[.int .u8 (a.toNat : Int), .int .i64 n0] w (fun e w' => e = .returned (.int .u8 ((gpowerU a n0).toNat : Int)) ∧ w' = w) := by
  obtain ⟨N, H, hN, hN1, hN2, hHN, Hm⟩ : ∃ N H : Nat, (n0 - 1) % 255 + 1 = (N : Int) ∧ 1 ≤ N ∧ N ≤ 255 ∧ H = N / 2 ∧ Hid (gpowerU a n0 = gmulU 1 (gpowU a N)) := by
    refine ⟨((n0 - 1) % 255 + 1).toNat, _, by omega, by omega, by omega, rfl, Lib.hid ?_⟩
    rw [gone_mul, gpowerU, gtimes, if_neg (by omega)]
  have hNH : (N : Int) / 2 = (H : Int) := by omega
  revert Hm
  generalize gpowerU a n0 = m
  intro Hm
  go_enter Try.func42, Try.ntmps42
  go_wp2
  refine wp_scope_jumps 0 (fun a' w' => w' = w ∧ ∃ (N : Nat) (b o : UInt8) (u6 u7 u8 u9 u10 u11 u12 u13 u14 u15 u16 u17 u18 u19 u20 u21 u22 u23 u24 u25 : Value), a' = { tmps := #[.int .u8 (b.toNat : Int), .int .i64 (N : Int), undef, undef, .int .u8 0, .int .u8 (o.toNat : Int), u6, u7, u8, u9, u10, u11, u12, u13, u14, u15, u16, u17, u18, u19, u20, u21, u22, u23, u24, u25], defers := [] } ∧ Hid (m = gmulU o (gpowU b N)) ∧ 1 ≤ N ∧ N ≤ 255) (fun a' _ => (intOf (a'.tmps.getD 1 undef)).toNat) rfl ?_ ?_
  · have hnn : n0 - 1 ≥ 0 := by omega
    rcases Nat.mod_two_eq_zero_or_one N with h1 | h1
    · have hand : bits .and .i64 (N : Int) 1 = 0 := by rw [and_one_i64 N (by omega), h1]; rfl
      rcases Nat.eq_zero_or_pos H with hH | hH
      · subst hH
        exact absurd h1 (by omega)
      · have hgt : (H : Int) > 0 := by omega
        have Hr : Hid (m = gmulU 1 (gpowU (gmulU a a) H)) := Lib.hid (by rw [Hm.out, gpow_even (N := N) (H := H) (by omega)])
        clear h1 hHN
        have hc2 := fun w => gmul_any a a w
        generalize gmulU a a = b2 at *
        go_wp2
        go_step3
        go_wp2_with fail
        refine (hc2 _).mono ?_
        rintro e w1 ⟨rfl, rfl⟩
        go_wp2
        (go_step3; exact ⟨rfl, rfl, H, b2, 1, _, _, _, _, _, _, _, _, _, _, _, _, _, _, _, _, _, _, _, _, rfl, Hr, by omega, by omega⟩)
    · have hand : bits .and .i64 (N : Int) 1 = 1 := by rw [and_one_i64 N (by omega), h1]; rfl
      rcases Nat.eq_zero_or_pos H with hH | hH
      · subst hH
        have Hr : Hid (m = gmulU 1 a) := Lib.hid (by rw [Hm.out, show N = 1 by omega]; show gmulU 1 (gmulU 1 a) = _; rw [gone_mul])
        clear h1 hHN
        have hc1 : ∀ w, Calls Try.prog 48 #[.int .u8 1, .int .u8 (a.toNat : Int)] w (fun e w' => e = .returned (.int .u8 ((gmulU 1 a).toNat : Int)) ∧ w' = w) := fun w => gmul_any 1 a w
        generalize gmulU 1 a = o2 at *
        go_wp2
        go_step3
        go_wp2_with fail
        refine (hc1 _).mono ?_
        rintro e w1 ⟨rfl, rfl⟩
        go_wp2
        (simp only [Exit.jump]; go_ret; exact ⟨by rw [Hr.out]; rfl, rfl⟩)
      · have hgt : (H : Int) > 0 := by omega
        have Hr : Hid (m = gmulU (gmulU 1 a) (gpowU (gmulU a a) H)) := Lib.hid (by rw [Hm.out, gpow_odd (N := N) (H := H) (by omega), gmul_assoc])
        clear h1 hHN
        have hc1 : ∀ w, Calls Try.prog 48 #[.int .u8 1, .int .u8 (a.toNat : Int)] w (fun e w' => e = .returned (.int .u8 ((gmulU 1 a).toNat : Int)) ∧ w' = w) := fun w => gmul_any 1 a w
        have hc2 := fun w => gmul_any a a w
        generalize gmulU 1 a = o2 at *
        generalize gmulU a a = b2 at *
        go_wp2
        go_step3
        go_wp2_with fail
        refine (hc1 _).mono ?_
        rintro e w1 ⟨rfl, rfl⟩
        go_wp2_with fail
        refine (hc2 _).mono ?_
        rintro e w1 ⟨rfl, rfl⟩
        go_wp2
        (go_step3; exact ⟨rfl, rfl, H, b2, o2, _, _, _, _, _, _, _, _, _, _, _, _, _, _, _, _, _, _, _, _, rfl, Hr, by omega, by omega⟩)
  · rintro a' w' ⟨rfl, N, b, o, u6, u7, u8, u9, u10, u11, u12, u13, u14, u15, u16, u17, u18, u19, u20, u21, u22, u23, u24, u25, rfl, Hm, hN1, hN2⟩
    obtain ⟨H, hHN⟩ : ∃ H, H = N / 2 := ⟨_, rfl⟩
    have hNH : (N : Int) / 2 = (H : Int) := by omega
    rcases Nat.mod_two_eq_zero_or_one N with h1 | h1
    · have hand : bits .and .i64 (N : Int) 1 = 0 := by rw [and_one_i64 N (by omega), h1]; rfl
      rcases Nat.eq_zero_or_pos H with hH | hH
      · subst hH
        exact absurd h1 (by omega)
      · have hgt : (H : Int) > 0 := by omega
        have Hr : Hid (m = gmulU o (gpowU (gmulU b b) H)) := Lib.hid (by rw [Hm.out, gpow_even (N := N) (H := H) (by omega)])
        clear h1 hHN
        have hc2 := fun w => gmul_any b b w
        generalize gmulU b b = b2 at *
        go_wp2_with fail
        refine (hc2 _).mono ?_
        rintro e w1 ⟨rfl, rfl⟩
        go_wp2
        (go_step3; exact ⟨rfl, ⟨rfl, H, b2, o, _, _, _, _, _, _, _, _, _, _, _, _, _, _, _, _, _, _, _, _, rfl, Hr, by omega, by omega⟩, by simp [intOf]; omega⟩)
    · have hand : bits .and .i64 (N : Int) 1 = 1 := by rw [and_one_i64 N (by omega), h1]; rfl
      rcases Nat.eq_zero_or_pos H with hH | hH
      · subst hH
        have Hr : Hid (m = gmulU o b) := Lib.hid (by rw [Hm.out, show N = 1 by omega]; show gmulU o (gmulU 1 b) = _; rw [gone_mul])
        clear h1 hHN
        have hc1 : ∀ w, Calls Try.prog 48 #[.int .u8 (o.toNat : Int), .int .u8 (b.toNat : Int)] w (fun e w' => e = .returned (.int .u8 ((gmulU o b).toNat : Int)) ∧ w' = w) := fun w => gmul_any o b w
        generalize gmulU o b = o2 at *
        go_wp2_with fail
        refine (hc1 _).mono ?_
        rintro e w1 ⟨rfl, rfl⟩
        go_wp2
        (simp only [Exit.jump]; go_ret; exact ⟨by rw [Hr.out]; rfl, rfl⟩)
      · have hgt : (H : Int) > 0 := by omega
        have Hr : Hid (m = gmulU (gmulU o b) (gpowU (gmulU b b) H)) := Lib.hid (by rw [Hm.out, gpow_odd (N := N) (H := H) (by omega), gmul_assoc])
        clear h1 hHN
        have hc1 : ∀ w, Calls Try.prog 48 #[.int .u8 (o.toNat : Int), .int .u8 (b.toNat : Int)] w (fun e w' => e = .returned (.int .u8 ((gmulU o b).toNat : Int)) ∧ w' = w) := fun w => gmul_any o b w
        have hc2 := fun w => gmul_any b b w
        generalize gmulU o b = o2 at *
        generalize gmulU b b = b2 at *
        go_wp2_with fail
        refine (hc1 _).mono ?_
        rintro e w1 ⟨rfl, rfl⟩
        go_wp2_with fail
        refine (hc2 _).mono ?_
        rintro e w1 ⟨rfl, rfl⟩
        go_wp2
        (go_step3; exact ⟨rfl, ⟨rfl, H, b2, o2, _, _, _, _, _, _, _, _, _, _, _, _, _, _, _, _, _, _, _, _, rfl, Hr, by omega, by omega⟩, by simp [intOf]; omega⟩)

set_option maxHeartbeats 400000 in
theorem gpower_out (a : UInt8) (n0 : Int) (w : World) (hn : n0 < 1) :
    Calls Try.prog 42 #[.int .u8 (a.toNat : Int), .int .i64 n0] w (fun e w' => e = .returned (.int .u8 ((gpowerU a n0).toNat : Int)) ∧ w' = w) := by
  have Hp : Hid (gpowerU a n0 = 1) := Lib.hid (by rw [gpowerU, gtimes, if_pos hn]; rfl)
  go_enter Try.func42, Try.ntmps42
  go_wp2
  go_step3
  go_wp2
  try rw [Exit.noGoto_ret]
  go_ret
  exact ⟨by rw [Hp.out]; rfl, rfl⟩

theorem gpower_any (a : UInt8) (n : Int) (w : World) (hn : -9223372036854775808 ≤ n ∧ n ≤ 9223372036854775807) :
    Calls Try.prog 42 #[.int .u8 (a.toNat : Int), .int .i64 n] w (fun e w' => e = .returned (.int .u8 ((gpowerU a n).toNat : Int)) ∧ w' = w) := by
  by_cases h : n < 1
  · exact gpower_out a n w h
  · exact gpower_in a n w ⟨by omega, hn.2⟩

end Go.Proofs.Ytfkfkmdnffpcmaa

namespace Go.Proofs.Ytfkfkmdnffpcmaa
open Go.RowKit

set_option maxHeartbeats 1600000 in
theorem achanged_any (a b c d : UInt8) (i : Nat) (w : World) (hi : i < 1000) :
    Calls Try.prog 33 #[.agg (Nums .u8 (four a b c d)), .int .i64 (i : Int)] w (AnsA w .u8 (abn (achgB gboxU i [a, b, c, d]))) := by
  have HR : Hid (abn (achgB gboxU i [a, b, c, d]) = if i % 8 = 0 then four (gboxU b ^^^ gpowerU 2 ((i / 8 : Nat) - 1 : Int)) (gboxU c) (gboxU d) (gboxU a) else if i % 4 = 0 then four (gboxU a) (gboxU b) (gboxU c) (gboxU d) else four a b c d) := Lib.hid (by
    simp only [achgB]
    split
    · rfl
    · split <;> rfl)
  have ca := fun w => gbox_any a w
  have cb := fun w => gbox_any b w
  have cc := fun w => gbox_any c w
  have cd := fun w => gbox_any d w
  have z0 : (0 : Int) ≤ (i : Int) := by omega
  obtain ⟨m, hm⟩ : ∃ m, i % 8 = m := ⟨_, rfl⟩
  have em : (i : Int) % 8 = (m : Int) := by omega
  have emt : (i : Int).tmod 8 = (m : Int) := by rw [Int.tmod_eq_emod_of_nonneg z0]; exact em
  have hm8 : m < 8 := by omega
  obtain ⟨q, hq⟩ : ∃ q, i / 8 = q := ⟨_, rfl⟩
  have eq : (i : Int) / 8 = (q : Int) := by omega
  have eqt : (i : Int).tdiv 8 = (q : Int) := by rw [Int.tdiv_eq_ediv_of_nonneg z0]; exact eq
  have hq8 : q < 1000 := by omega
  have h4 : i % 4 = m % 4 := by omega
  have cpow : ∀ w, Calls Try.prog 42 #[.int .u8 2, .int .i64 ((q : Int) - 1)] w (fun e w' => e = .returned (.int .u8 ((gpowerU 2 ((q : Int) - 1)).toNat : Int)) ∧ w' = w) := fun w => gpower_any 2 ((q : Int) - 1) w (by omega)
  have hx := gxor_u8 (gboxU b) (gpowerU 2 ((q : Int) - 1))
  rw [hm, hq, h4] at HR
  revert HR
  generalize abn (achgB gboxU i [a, b, c, d]) = L
  intro HR
  have hwq : IntKind.i64.wrap (q : Int) = (q : Int) := IntWalk.i64_in _ ⟨by omega, by omega⟩
  have hwr : IntKind.i64.wrap ((q : Int) - 1) = (q : Int) - 1 := IntWalk.i64_in _ ⟨by omega, by omega⟩
  clear hm hq h4
  generalize gboxU b ^^^ gpowerU 2 ((q : Int) - 1) = px at *
  generalize gpowerU 2 ((q : Int) - 1) = pw at *
  generalize gboxU a = pa at *
  generalize gboxU b = pb at *
  generalize gboxU c = pc at *
  generalize gboxU d = pd at *
  go_enter Try.func33, Try.ntmps33
  go_wp2_with (refine wp_box_arr (k := .u8) rfl 51 (.tmp 0) rfl (four a b c d) rfl ?_)
  intro w1 g1 G1 H1 Hb1 Hs1
  go_wp2_with (refine wp_alloc_arr (k := .u8) rfl 51 rfl 4 zero4 ?_)
  intro w2 g2 G2 H2 Hb2 Hs2
  have Hg : Hid (w.heap.size ≤ g1 ∧ w.heap.size ≤ g2 ∧ g1 ≠ g2) := Lib.hid (by have := G1.out; have := G2.out; have := Hs1.out; omega)
  have F2 : Hid (SK w [(g1, 51, four a b c d), (g2, 51, Zs 4)] w2) := Lib.hid ⟨by
    intro x hx
    simp only [List.mem_cons, List.not_mem_nil, or_false] at hx
    rcases hx with rfl | rfl
    · exact H1.out.below Hb2.out H1.out.lt
    · exact H2.out, abon Hb1.out Hb2.out⟩
  have Hne : Hid (∀ x ∈ [(g2, 51, Zs 4)], x.1 ≠ g1) := Lib.hid (by
    have h5 := Hg.out
    intro x hx
    simp only [List.mem_cons, List.not_mem_nil, or_false] at hx
    rcases hx with rfl
    exact h5.2.2.symm)
  clear H1 H2 Hb1 Hb2 G1 G2 Hs1 Hs2
  by_cases h0 : m = 0
  · subst h0
    have HR1 : Hid (L = four px pc pd pa) := Lib.hid HR.out
    clear HR
    go_wp2_with fail
    refine wp_region_ends (fun w' => SK w [(g1, 51, four a b c d), (g2, 51, Zs 4)] w') 13 (by kernel_rfl) ?_
    refine wpAnyE_take (i := 0) (v := .pointer (some ⟨g1, 1, none⟩)) (some 9) rfl rfl (by kernel_rfl) (fun _ _ _ h => h) (.inl ⟨by rfl, fun W _ => by go_simp⟩) (sk_drewN F2.out 1) ?_
    simp only [Act.put, List.setIfInBounds_toArray, List.set_cons_zero, List.set_cons_succ]
    refine wpAnyE_take (i := 1) (v := .int .u8 (b.toNat : Int)) (some 10) rfl rfl (by kernel_rfl) (fun _ _ _ h => h) (.inl ⟨by rfl, fun W h => by have hc := (sk_hd h).at_ (j := 1) (x := b.toNat) rfl; go_simp⟩) (sk_drewN F2.out 1) ?_
    simp only [Act.put, List.setIfInBounds_toArray, List.set_cons_zero, List.set_cons_succ]
    refine wpAnyE_take (i := 3) (v := .pointer (some ⟨g1, 2, none⟩)) (some 12) rfl rfl (by kernel_rfl) (fun _ _ _ h => h) (.inl ⟨by rfl, fun W _ => by go_simp⟩) (sk_drewN F2.out 1) ?_
    simp only [Act.put, List.setIfInBounds_toArray, List.set_cons_zero, List.set_cons_succ]
    refine wpAnyE_take (i := 4) (v := .int .u8 (c.toNat : Int)) (some 13) rfl rfl (by kernel_rfl) (fun _ _ _ h => h) (.inl ⟨by rfl, fun W h => by have hc := (sk_hd h).at_ (j := 2) (x := c.toNat) rfl; go_simp⟩) (sk_drewN F2.out 1) ?_
    simp only [Act.put, List.setIfInBounds_toArray, List.set_cons_zero, List.set_cons_succ]
    refine wpAnyE_take (i := 6) (v := .pointer (some ⟨g1, 3, none⟩)) (some 15) rfl rfl (by kernel_rfl) (fun _ _ _ h => h) (.inl ⟨by rfl, fun W _ => by go_simp⟩) (sk_drewN F2.out 1) ?_
    simp only [Act.put, List.setIfInBounds_toArray, List.set_cons_zero, List.set_cons_succ]
    refine wpAnyE_take (i := 7) (v := .int .u8 (d.toNat : Int)) (some 16) rfl rfl (by kernel_rfl) (fun _ _ _ h => h) (.inl ⟨by rfl, fun W h => by have hc := (sk_hd h).at_ (j := 3) (x := d.toNat) rfl; go_simp⟩) (sk_drewN F2.out 1) ?_
    simp only [Act.put, List.setIfInBounds_toArray, List.set_cons_zero, List.set_cons_succ]
    refine wpAnyE_take (i := 9) (v := .pointer (some ⟨g1, 0, none⟩)) (some 18) rfl rfl (by kernel_rfl) (fun _ _ _ h => h) (.inl ⟨by rfl, fun W _ => by go_simp⟩) (sk_drewN F2.out 1) ?_
    simp only [Act.put, List.setIfInBounds_toArray, List.set_cons_zero, List.set_cons_succ]
    refine wpAnyE_take (i := 10) (v := .int .u8 (a.toNat : Int)) (some 19) rfl rfl (by kernel_rfl) (fun _ _ _ h => h) (.inl ⟨by rfl, fun W h => by have hc := (sk_hd h).at_ (j := 0) (x := a.toNat) rfl; go_simp⟩) (sk_drewN F2.out 1) ?_
    simp only [Act.put, List.setIfInBounds_toArray, List.set_cons_zero, List.set_cons_succ]
    refine wpAnyE_one (i := 2) (by kernel_rfl) rfl (fun K0 hK0 => ?_)
    refine stepE_call (v := .int .u8 (pb.toNat : Int)) (R := fun w' => Below _ _ w') (some 11) rfl rfl 41 Try.func41 (by kernel_rfl) rfl _ _ rfl [.int .u8 (b.toNat : Int)] rfl (cb _) (fun W0 hW => hK0.out _ _ (.inr (sk_below (sk_drewN F2.out 1) hW)) ?_)
    have S0 := Lib.hid (sk_below (sk_drewN F2.out 1) hW)
    clear hW hK0 K0
    simp only [Act.put, List.setIfInBounds_toArray, List.set_cons_zero, List.set_cons_succ]
    refine wpAnyE_one (i := 5) (by kernel_rfl) rfl (fun K3 hK3 => ?_)
    refine stepE_call (v := .int .u8 (pc.toNat : Int)) (R := fun w' => Below _ _ w') (some 14) rfl rfl 41 Try.func41 (by kernel_rfl) rfl _ _ rfl [.int .u8 (c.toNat : Int)] rfl (cc _) (fun W3 hW => hK3.out _ _ (.inr (sk_below S0.out hW)) ?_)
    have S3 := Lib.hid (sk_below S0.out hW)
    clear hW hK3 K3
    simp only [Act.put, List.setIfInBounds_toArray, List.set_cons_zero, List.set_cons_succ]
    refine wpAnyE_one (i := 8) (by kernel_rfl) rfl (fun K6 hK6 => ?_)
    refine stepE_call (v := .int .u8 (pd.toNat : Int)) (R := fun w' => Below _ _ w') (some 17) rfl rfl 41 Try.func41 (by kernel_rfl) rfl _ _ rfl [.int .u8 (d.toNat : Int)] rfl (cd _) (fun W6 hW => hK6.out _ _ (.inr (sk_below S3.out hW)) ?_)
    have S6 := Lib.hid (sk_below S3.out hW)
    clear hW hK6 K6
    simp only [Act.put, List.setIfInBounds_toArray, List.set_cons_zero, List.set_cons_succ]
    refine wpAnyE_one (i := 11) (by kernel_rfl) rfl (fun K9 hK9 => ?_)
    refine stepE_call (v := .int .u8 (pa.toNat : Int)) (R := fun w' => Below _ _ w') (some 20) rfl rfl 41 Try.func41 (by kernel_rfl) rfl _ _ rfl [.int .u8 (a.toNat : Int)] rfl (ca _) (fun W9 hW => hK9.out _ _ (.inr (sk_below S6.out hW)) ?_)
    have S9 := Lib.hid (sk_below S6.out hW)
    clear hW hK9 K9
    simp only [Act.put, List.setIfInBounds_toArray, List.set_cons_zero, List.set_cons_succ]
    refine wpAnyE_take (i := 12) (v := .agg (Nums .u8 (four pb pc pd pa))) (some 21) rfl rfl (by kernel_rfl) (fun _ _ _ h => h) (.inl ⟨by rfl, fun W _ => by go_simp; rfl⟩) S9.out ?_
    simp only [Act.put, List.setIfInBounds_toArray, List.set_cons_zero, List.set_cons_succ]
    refine wpAnyE_one (i := 13) (by kernel_rfl) rfl (fun K5 hK5 => ?_)
    refine stepE_put arr4 none rfl rfl _ _ rfl rfl rfl (sk_hd S9.out) rfl (show (four pb pc pd pa).length = 4 from rfl) (fun W5 A5 M5 _ => hK5.out _ _ (.inl rfl) ?_)
    have F5 := Lib.hid (sk_put S9.out M5.out A5.out Hne.out Hg.out.1)
    clear hK5 K5 M5 A5 F2 S0 S3 S6 S9
    simp only [Act.put]
    refine wpAnyE_done (by kernel_rfl) ?_
    go_wp2_with fail
    refine wp_region_ends (fun w' => SK w [(g1, 51, four pb pc pd pa), (g2, 51, Zs 4)] w') 8 (by kernel_rfl) ?_
    refine wpAnyE_take (i := 0) (v := .pointer (some ⟨g1, 0, none⟩)) (some 22) rfl rfl (by kernel_rfl) (fun _ _ _ h => h) (.inl ⟨by rfl, fun W _ => by go_simp⟩) (sk_drewN F5.out 1) ?_
    simp only [Act.put, List.setIfInBounds_toArray, List.set_cons_zero, List.set_cons_succ]
    refine wpAnyE_take (i := 1) (v := .int .u8 (pb.toNat : Int)) (some 23) rfl rfl (by kernel_rfl) (fun _ _ _ h => h) (.inl ⟨by rfl, fun W h => by have hc := (sk_hd h).at_ (j := 0) (x := pb.toNat) rfl; go_simp⟩) (sk_drewN F5.out 1) ?_
    simp only [Act.put, List.setIfInBounds_toArray, List.set_cons_zero, List.set_cons_succ]
    refine wpAnyE_take (i := 2) (v := .int .i64 (i : Int)) (some 24) rfl rfl (by kernel_rfl) (fun _ _ _ h => h) (.inl ⟨by rfl, fun W _ => rfl⟩) (sk_drewN F5.out 1) ?_
    simp only [Act.put, List.setIfInBounds_toArray, List.set_cons_zero, List.set_cons_succ]
    refine wpAnyE_take (i := 3) (v := .int .i64 (q : Int)) (some 25) rfl rfl (by kernel_rfl) (fun _ _ _ h => h) (.inl ⟨by rfl, fun W _ => by go_simp⟩) (sk_drewN F5.out 1) ?_
    simp only [Act.put, List.setIfInBounds_toArray, List.set_cons_zero, List.set_cons_succ]
    refine wpAnyE_take (i := 4) (v := .int .i64 ((q : Int) - 1)) (some 26) rfl rfl (by kernel_rfl) (fun _ _ _ h => h) (.inl ⟨by rfl, fun W _ => by go_simp⟩) (sk_drewN F5.out 1) ?_
    simp only [Act.put, List.setIfInBounds_toArray, List.set_cons_zero, List.set_cons_succ]
    refine wpAnyE_one (i := 5) (by kernel_rfl) rfl (fun K5 hK5 => ?_)
    refine stepE_call (v := .int .u8 (pw.toNat : Int)) (R := fun w' => w' = _) (some 27) rfl rfl 42 Try.func42 (by kernel_rfl) rfl _ _ rfl [.int .u8 2, .int .i64 ((q : Int) - 1)] rfl (cpow _) (fun W5 hW => hK5.out _ _ (.inr (by rw [hW]; exact sk_drewN F5.out 1)) ?_)
    subst hW
    clear hK5 K5
    simp only [Act.put, List.setIfInBounds_toArray, List.set_cons_zero, List.set_cons_succ]
    refine wpAnyE_take (i := 6) (v := .int .u8 (px.toNat : Int)) (some 28) rfl rfl (by kernel_rfl) (fun _ _ _ h => h) (.inl ⟨by rfl, fun W _ => by go_simp⟩) (sk_drewN F5.out 1) ?_
    simp only [Act.put, List.setIfInBounds_toArray, List.set_cons_zero, List.set_cons_succ]
    refine wpAnyE_take (i := 7) (v := .pointer (some ⟨g1, 0, none⟩)) (some 29) rfl rfl (by kernel_rfl) (fun _ _ _ h => h) (.inl ⟨by rfl, fun W _ => by go_simp⟩) (sk_drewN F5.out 1) ?_
    simp only [Act.put, List.setIfInBounds_toArray, List.set_cons_zero, List.set_cons_succ]
    refine wpAnyE_one (i := 8) (by kernel_rfl) rfl (fun K6 hK6 => ?_)
    have hfz := (sk_hd F5.out).drew.frozen 0
    have hcl := (sk_hd F5.out).drew.at_ (j := 0) (x := pb.toNat) rfl
    go_simp
    refine hK6.out _ _ (.inl rfl) ?_
    have F6 : Hid (SK w [(g1, 51, four px pc pd pa), (g2, 51, Zs 4)] ((W5.setCell ⟨g1, 0, none⟩ (.int .u8 (px.toNat : Int))).drew)) := Lib.hid (sk_drewN (sk_set F5.out Hne.out Hg.out.1 0 px.toNat) 1)
    revert F6
    generalize (W5.setCell ⟨g1, 0, none⟩ (.int .u8 (px.toNat : Int))).drew = W6
    intro F6
    clear hK6 K6 F5 hfz hcl
    refine wpAnyE_done (by kernel_rfl) ?_
    go_wp2_with (first
      | refine wp_load_arr arr4 rfl (.tmp 2) rfl rfl (sk_hd F6.out) rfl ?_
      | refine wp_put_arr arr4 rfl (.tmp 4) (.tmp 45) rfl rfl (l' := four px pc pd pa) rfl (F6.out.1 (g2, 51, Zs 4) (by simp)) (Zs_length _) rfl ?_)
    intro w9 H9 Hm9 Hs9
    go_wp2
    rw [HR1.out]
    exact ret_arr arr4 rfl rfl H9.out rfl rfl ⟨rfl, F6.out.2.trans (Hm9.out.below (fun j hj => by rw [hj]; exact Hg.out.2.1) F6.out.2.size)⟩
  · by_cases h4 : m = 4
    · subst h4
      have HR1 : Hid (L = four pa pb pc pd) := Lib.hid HR.out
      clear HR
      go_wp2_with fail
      refine wp_region_ends (fun w' => SK w [(g1, 51, four a b c d), (g2, 51, Zs 4)] w') 13 (by kernel_rfl) ?_
      refine wpAnyE_take (i := 0) (v := .pointer (some ⟨g1, 0, none⟩)) (some 32) rfl rfl (by kernel_rfl) (fun _ _ _ h => h) (.inl ⟨by rfl, fun W _ => by go_simp⟩) (sk_drewN F2.out 1) ?_
      simp only [Act.put, List.setIfInBounds_toArray, List.set_cons_zero, List.set_cons_succ]
      refine wpAnyE_take (i := 1) (v := .int .u8 (a.toNat : Int)) (some 33) rfl rfl (by kernel_rfl) (fun _ _ _ h => h) (.inl ⟨by rfl, fun W h => by have hc := (sk_hd h).at_ (j := 0) (x := a.toNat) rfl; go_simp⟩) (sk_drewN F2.out 1) ?_
      simp only [Act.put, List.setIfInBounds_toArray, List.set_cons_zero, List.set_cons_succ]
      refine wpAnyE_take (i := 3) (v := .pointer (some ⟨g1, 1, none⟩)) (some 35) rfl rfl (by kernel_rfl) (fun _ _ _ h => h) (.inl ⟨by rfl, fun W _ => by go_simp⟩) (sk_drewN F2.out 1) ?_
      simp only [Act.put, List.setIfInBounds_toArray, List.set_cons_zero, List.set_cons_succ]
      refine wpAnyE_take (i := 4) (v := .int .u8 (b.toNat : Int)) (some 36) rfl rfl (by kernel_rfl) (fun _ _ _ h => h) (.inl ⟨by rfl, fun W h => by have hc := (sk_hd h).at_ (j := 1) (x := b.toNat) rfl; go_simp⟩) (sk_drewN F2.out 1) ?_
      simp only [Act.put, List.setIfInBounds_toArray, List.set_cons_zero, List.set_cons_succ]
      refine wpAnyE_take (i := 6) (v := .pointer (some ⟨g1, 2, none⟩)) (some 38) rfl rfl (by kernel_rfl) (fun _ _ _ h => h) (.inl ⟨by rfl, fun W _ => by go_simp⟩) (sk_drewN F2.out 1) ?_
      simp only [Act.put, List.setIfInBounds_toArray, List.set_cons_zero, List.set_cons_succ]
      refine wpAnyE_take (i := 7) (v := .int .u8 (c.toNat : Int)) (some 39) rfl rfl (by kernel_rfl) (fun _ _ _ h => h) (.inl ⟨by rfl, fun W h => by have hc := (sk_hd h).at_ (j := 2) (x := c.toNat) rfl; go_simp⟩) (sk_drewN F2.out 1) ?_
      simp only [Act.put, List.setIfInBounds_toArray, List.set_cons_zero, List.set_cons_succ]
      refine wpAnyE_take (i := 9) (v := .pointer (some ⟨g1, 3, none⟩)) (some 41) rfl rfl (by kernel_rfl) (fun _ _ _ h => h) (.inl ⟨by rfl, fun W _ => by go_simp⟩) (sk_drewN F2.out 1) ?_
      simp only [Act.put, List.setIfInBounds_toArray, List.set_cons_zero, List.set_cons_succ]
      refine wpAnyE_take (i := 10) (v := .int .u8 (d.toNat : Int)) (some 42) rfl rfl (by kernel_rfl) (fun _ _ _ h => h) (.inl ⟨by rfl, fun W h => by have hc := (sk_hd h).at_ (j := 3) (x := d.toNat) rfl; go_simp⟩) (sk_drewN F2.out 1) ?_
      simp only [Act.put, List.setIfInBounds_toArray, List.set_cons_zero, List.set_cons_succ]
      refine wpAnyE_one (i := 2) (by kernel_rfl) rfl (fun K0 hK0 => ?_)
      refine stepE_call (v := .int .u8 (pa.toNat : Int)) (R := fun w' => Below _ _ w') (some 34) rfl rfl 41 Try.func41 (by kernel_rfl) rfl _ _ rfl [.int .u8 (a.toNat : Int)] rfl (ca _) (fun W0 hW => hK0.out _ _ (.inr (sk_below (sk_drewN F2.out 1) hW)) ?_)
      have S0 := Lib.hid (sk_below (sk_drewN F2.out 1) hW)
      clear hW hK0 K0
      simp only [Act.put, List.setIfInBounds_toArray, List.set_cons_zero, List.set_cons_succ]
      refine wpAnyE_one (i := 5) (by kernel_rfl) rfl (fun K3 hK3 => ?_)
      refine stepE_call (v := .int .u8 (pb.toNat : Int)) (R := fun w' => Below _ _ w') (some 37) rfl rfl 41 Try.func41 (by kernel_rfl) rfl _ _ rfl [.int .u8 (b.toNat : Int)] rfl (cb _) (fun W3 hW => hK3.out _ _ (.inr (sk_below S0.out hW)) ?_)
      have S3 := Lib.hid (sk_below S0.out hW)
      clear hW hK3 K3
      simp only [Act.put, List.setIfInBounds_toArray, List.set_cons_zero, List.set_cons_succ]
      refine wpAnyE_one (i := 8) (by kernel_rfl) rfl (fun K6 hK6 => ?_)
      refine stepE_call (v := .int .u8 (pc.toNat : Int)) (R := fun w' => Below _ _ w') (some 40) rfl rfl 41 Try.func41 (by kernel_rfl) rfl _ _ rfl [.int .u8 (c.toNat : Int)] rfl (cc _) (fun W6 hW => hK6.out _ _ (.inr (sk_below S3.out hW)) ?_)
      have S6 := Lib.hid (sk_below S3.out hW)
      clear hW hK6 K6
      simp only [Act.put, List.setIfInBounds_toArray, List.set_cons_zero, List.set_cons_succ]
      refine wpAnyE_one (i := 11) (by kernel_rfl) rfl (fun K9 hK9 => ?_)
      refine stepE_call (v := .int .u8 (pd.toNat : Int)) (R := fun w' => Below _ _ w') (some 43) rfl rfl 41 Try.func41 (by kernel_rfl) rfl _ _ rfl [.int .u8 (d.toNat : Int)] rfl (cd _) (fun W9 hW => hK9.out _ _ (.inr (sk_below S6.out hW)) ?_)
      have S9 := Lib.hid (sk_below S6.out hW)
      clear hW hK9 K9
      simp only [Act.put, List.setIfInBounds_toArray, List.set_cons_zero, List.set_cons_succ]
      refine wpAnyE_take (i := 12) (v := .agg (Nums .u8 (four pa pb pc pd))) (some 44) rfl rfl (by kernel_rfl) (fun _ _ _ h => h) (.inl ⟨by rfl, fun W _ => by go_simp; rfl⟩) S9.out ?_
      simp only [Act.put, List.setIfInBounds_toArray, List.set_cons_zero, List.set_cons_succ]
      refine wpAnyE_one (i := 13) (by kernel_rfl) rfl (fun K5 hK5 => ?_)
      refine stepE_put arr4 none rfl rfl _ _ rfl rfl rfl (sk_hd S9.out) rfl (show (four pa pb pc pd).length = 4 from rfl) (fun W5 A5 M5 _ => hK5.out _ _ (.inl rfl) ?_)
      have F5 := Lib.hid (sk_put S9.out M5.out A5.out Hne.out Hg.out.1)
      clear hK5 K5 M5 A5 F2 S0 S3 S6 S9
      simp only [Act.put]
      refine wpAnyE_done (by kernel_rfl) ?_
      go_wp2_with (first
        | refine wp_load_arr arr4 rfl (.tmp 2) rfl rfl (sk_hd F5.out) rfl ?_
        | refine wp_put_arr arr4 rfl (.tmp 4) (.tmp 45) rfl rfl (l' := four pa pb pc pd) rfl (F5.out.1 (g2, 51, Zs 4) (by simp)) (Zs_length _) rfl ?_)
      intro w9 H9 Hm9 Hs9
      go_wp2
      rw [HR1.out]
      exact ret_arr arr4 rfl rfl H9.out rfl rfl ⟨rfl, F5.out.2.trans (Hm9.out.below (fun j hj => by rw [hj]; exact Hg.out.2.1) F5.out.2.size)⟩
    · have HR1 : Hid (L = four a b c d) := Lib.hid (by rw [HR.out, if_neg h0, if_neg (by omega)])
      clear HR
      go_wp2_with (first
        | refine wp_load_arr arr4 rfl (.tmp 2) rfl rfl (sk_hd F2.out) rfl ?_
        | refine wp_put_arr arr4 rfl (.tmp 4) (.tmp 45) rfl rfl (l' := four a b c d) rfl (F2.out.1 (g2, 51, Zs 4) (by simp)) (Zs_length _) rfl ?_)
      intro w9 H9 Hm9 Hs9
      go_wp2
      rw [HR1.out]
      exact ret_arr arr4 rfl rfl H9.out rfl rfl ⟨rfl, F2.out.2.trans (Hm9.out.below (fun j hj => by rw [hj]; exact Hg.out.2.1) F2.out.2.size)⟩

end Go.Proofs.Ytfkfkmdnffpcmaa

namespace Go.Proofs.Ytfkfkmdnffpcmaa
open Go.RowKit

set_option maxHeartbeats 1600000 in
set_option maxRecDepth 100000 in
theorem asched_none (n c : Nat) (A : Option Addr) (w : World) (hn : n ≠ 32) :
    Calls Try.prog 25 #[.slice A n c] w (Ans w (.tuple #[.agg (Nums .u8 (Zs 240)), .int .i64 4])) := by
  have hz : ((n : Int) != 32) = true := by simp; omega
  go_enter Try.func25, Try.ntmps25
  go_wp2_with (refine wp_alloc_arr (k := .u8) rfl 47 rfl 240 zeroKeys ?_)
  intro w1 g1 G1 H1 Hb1 Hs1
  go_wp2
  go_step3
  go_wp2_with (refine wp_alloc_arr (k := .u8) rfl 47 rfl 240 zeroKeys ?_)
  intro w2 g2 G2 H2 Hb2 Hs2
  go_wp2_with (first
    | refine wp_load_w arrKeys rfl (.tmp 4) rfl rfl H2.out (Zs_length _) ?_
    | refine wp_put_w arrKeys rfl (.tmp 2) (.tmp 15) rfl rfl (l' := Zs 240) rfl (H1.out.below Hb2.out H1.out.lt) (Zs_length _) (Zs_length _) ?_)
  intro w3 H3 Hm3 Hs3
  go_wp2
  rw [Exit.noGoto_ret]
  exact ret_two arrKeys rfl rfl H3.out (Zs_length _) rfl rfl ⟨rfl, (abon Hb1.out Hb2.out).trans (Hm3.out.below (fun j hj => by have := G1.out; omega) (abon Hb1.out Hb2.out).size)⟩

set_option maxHeartbeats 3200000 in
theorem asched_key (key : List UInt8) (c B : Nat) (A : Option Addr) (w : World) (hr : Rd w B A 32 (Byt key)) (hc : 32 ≤ c) (hB : B ≤ w.heap.size) :
    Calls Try.prog 25 #[.slice A 32 c] w (Ans w (.tuple #[.agg (Nums .u8 (abn (akeysU key))), .int .i64 0])) := by
  have HF := Lib.hid (keyFacts hr.bytes)
  obtain ⟨kb, ko, rfl, hkb, hcells⟩ := hr.2 (by omega)
  have Hkb : Hid (kb < w.heap.size) := Lib.hid (by omega)
  have Hkey : Hid (∀ j, j < 32 → ∃ x : UInt8, key[j]? = some x ∧ w.cell? ⟨kb, ko + j, none⟩ = some (.int .u8 (x.toNat : Int))) := Lib.hid (fun j hj => by
    have hl : j < key.length := by have := hr.bytes; omega
    exact ⟨key[j], List.getElem?_eq_getElem hl, hcells j _ (Byt_get hl)⟩)
  have Hlow : Hid (∀ j, j < 32 → ∃ x : Nat, (abn (akeysU key))[j]? = some x ∧ w.cell? ⟨kb, ko + j, none⟩ = some (.int .u8 (x : Int))) := Lib.hid (fun j hj => by
    obtain ⟨x, h1, h2⟩ := Hkey.out j hj
    obtain ⟨y, h3, h4⟩ := HF.out.low j hj
    rw [h1] at h3
    injection h3 with h3
    subst h3
    exact ⟨_, h4, h2⟩)
  clear Hkey hcells hr hkb hB
  have HL := Lib.hid HF.out.len
  have Hhigh := Lib.hid HF.out.high
  clear HF
  revert Hlow HL Hhigh
  generalize abn (akeysU key) = L
  intro Hlow HL Hhigh
  go_enter Try.func25, Try.ntmps25
  go_wp2_with (refine wp_alloc_arr (k := .u8) rfl 47 rfl 240 zeroKeys ?_)
  intro w1 g1 G1 H1 Hb1 Hs1
  go_wp2
  go_step3
  go_wp2_with (refine wp_alloc_arr (k := .u8) rfl 47 rfl 240 zeroKeys ?_)
  intro w2 g2 G2 H2 Hb2 Hs2
  go_wp2_with (refine wp_alloc_arr (k := .u8) rfl 52 rfl 240 zeroWords ?_)
  intro w3 g3 G3 H3 Hb3 Hs3
  have Hg : Hid (w.heap.size ≤ g1 ∧ w.heap.size ≤ g2 ∧ w.heap.size ≤ g3 ∧ g1 ≠ g3 ∧ g2 ≠ g3 ∧ g1 ≠ g2) := Lib.hid (by have := G1.out; have := G2.out; have := G3.out; have := Hs1.out; have := Hs2.out; omega)
  have F3 : Hid (SK w [(g3, 52, L.take (4 * 0) ++ (Zs 240).drop (4 * 0)), (g2, 47, Zs 240), (g1, 47, Zs 240)] w3) := Lib.hid ⟨by
    intro x hx
    simp only [List.mem_cons, List.not_mem_nil, or_false] at hx
    rcases hx with rfl | rfl | rfl
    · exact H3.out
    · exact H2.out.below Hb3.out H2.out.lt
    · exact (H1.out.below Hb2.out H1.out.lt).below Hb3.out (Nat.lt_of_lt_of_le H1.out.lt Hb2.out.size), abon (abon Hb1.out Hb2.out) Hb3.out⟩
  have Hne3 : Hid (∀ x ∈ [(g2, 47, Zs 240), (g1, 47, Zs 240)], x.1 ≠ g3) := Lib.hid (by
    have h5 := Hg.out
    intro x hx
    simp only [List.mem_cons, List.not_mem_nil, or_false] at hx
    rcases hx with rfl | rfl
    · exact h5.2.2.2.2.1
    · exact h5.2.2.2.1)
  clear H1 H2 H3 Hb1 Hb2 Hb3 G1 G2 G3 Hs1 Hs2 Hs3
  go_wp2
  go_step3
  go_wp2
  go_loopw [16] (fun v wr => ∃ i : Nat, i ≤ 60 ∧ v = .int .i64 (i : Int) ∧ Hid (SK w [(g3, 52, L.take (4 * i) ++ (Zs 240).drop (4 * i)), (g2, 47, Zs 240), (g1, 47, Zs 240)] wr)) (fun v _ => 60 - (intOf v).toNat)
  case atStart => exact ⟨0, by omega, rfl, F3⟩
  case round =>
    clear F3
    obtain ⟨i, hi, rfl, F5⟩ := hrel
    by_cases hlt : i < 60
    · obtain ⟨o, ho⟩ : ∃ o, 4 * i = o := ⟨_, rfl⟩
      have Ho := Lib.hid ho
      have ix := fun W => run_indexAt_w (b := g3) arrWords info_4 i o (i : Int) rfl hlt (by omega) W
      by_cases h8 : i < 8
      · have HA0 := Lib.hid (awn_length HL.out (i := i) hlt)
        have Hmin : Hid (4 = Nat.min (32 - o) 4) := Lib.hid (by show 4 = min (32 - o) 4; omega)
        have Hcell : Hid (∀ j x : Nat, (awn L i)[j]? = some x → wr.drew.cell? ⟨kb, ko + (o + j), none⟩ = some (.int .u8 (x : Int))) := Lib.hid (fun j x hx => by
          have hj : j < 4 := by have := (List.getElem?_eq_some_iff.1 hx).1; have := HA0.out; omega
          have h1 := awn_get j x hx
          obtain ⟨y, h2, h3⟩ := Hlow.out (o + j) (by omega)
          rw [ho] at h1
          rw [h1] at h2
          injection h2 with h2
          subst h2
          exact (F5.out.2.cell (p := ⟨kb, ko + (o + j), none⟩) Hkb.out).trans h3)
        have Hfit : Hid (o + 4 ≤ (L.take (4 * i) ++ (Zs 240).drop (4 * i)).length) := Lib.hid (by rw [fill_length (by rw [HL.out, Zs_length]), Zs_length]; omega)
        have Hspl : Hid (splice (L.take (4 * i) ++ (Zs 240).drop (4 * i)) o (awn L i) = L.take (4 * (i + 1)) ++ (Zs 240).drop (4 * (i + 1))) := Lib.hid (by
          rw [← ho, afill_splice (L := L) (M := Zs 240) (ns := awn L i) (off := 4 * i) (by rw [HL.out, Zs_length]) (by rw [HA0.out, Zs_length]; omega) (fun j x hx => awn_get j x hx), HA0.out]
          rfl)
        have sl1 := fun W => run_slice_arr_all (P := Try.prog) (b := g3) arr4 info_u8n o W
        have sl2 := fun W => run_slice_from (P := Try.prog) (b := kb) (t := 22) (e := 5) Try.underlying22 info_u8n ko 32 c o (4 * (i : Int)) (by omega) (by omega) hc W
        have hwr : IntKind.i64.wrap (4 * (i : Int)) = 4 * (i : Int) := IntWalk.i64_in _ ⟨by omega, by omega⟩
        have Hsrc : Hid (∀ j x : Nat, (awn L i)[j]? = some x → wr.drew.cell? ((⟨kb, ko + o, none⟩ : Addr).add j) = some (.int .u8 (x : Int))) := Lib.hid (fun j x hx => by rw [add_flat, Nat.add_assoc]; exact Hcell.out j x hx)
        clear ho Hcell
        go_wp2_with fail
        refine wp_region_takes (by kernel_rfl) ?_
        refine wpAnyT_take (i := 0) (v := .int .i64 (i : Int)) (some 21) rfl rfl (by kernel_rfl) (fun _ _ _ h => h) (.inl ⟨by rfl, fun W => rfl⟩) ?_
        simp only [Act.put, List.setIfInBounds_toArray, List.set_cons_zero, List.set_cons_succ]
        refine wpAnyT_take (i := 1) (v := .pointer (some ⟨g3, o, none⟩)) (some 22) rfl rfl (by kernel_rfl) (fun _ _ _ h => h) (.inl ⟨by rfl, fun W => by go_simp⟩) ?_
        simp only [Act.put, List.setIfInBounds_toArray, List.set_cons_zero, List.set_cons_succ]
        refine wpAnyT_take (i := 2) (v := .slice (some ⟨g3, o, none⟩) 4 4) (some 23) rfl rfl (by kernel_rfl) (fun _ _ _ h => h) (.inl ⟨by rfl, fun W => by go_simp⟩) ?_
        simp only [Act.put, List.setIfInBounds_toArray, List.set_cons_zero, List.set_cons_succ]
        refine wpAnyT_take (i := 3) (v := .slice (some ⟨kb, ko, none⟩) 32 c) (some 24) rfl rfl (by kernel_rfl) (fun _ _ _ h => h) (.inl ⟨by rfl, fun W => rfl⟩) ?_
        simp only [Act.put, List.setIfInBounds_toArray, List.set_cons_zero, List.set_cons_succ]
        refine wpAnyT_take (i := 4) (v := .int .i64 (i : Int)) (some 25) rfl rfl (by kernel_rfl) (fun _ _ _ h => h) (.inl ⟨by rfl, fun W => rfl⟩) ?_
        simp only [Act.put, List.setIfInBounds_toArray, List.set_cons_zero, List.set_cons_succ]
        refine wpAnyT_take (i := 5) (v := .int .i64 (4 * (i : Int))) (some 26) rfl rfl (by kernel_rfl) (fun _ _ _ h => h) (.inl ⟨by rfl, fun W => by go_simp⟩) ?_
        simp only [Act.put, List.setIfInBounds_toArray, List.set_cons_zero, List.set_cons_succ]
        refine wpAnyT_take (i := 6) (v := .slice (some ⟨kb, ko + o, none⟩) (32 - o) (c - o)) (some 27) rfl rfl (by kernel_rfl) (fun _ _ _ h => h) (.inl ⟨by rfl, fun W => by go_simp⟩) ?_
        simp only [Act.put, List.setIfInBounds_toArray, List.set_cons_zero, List.set_cons_succ]
        refine wpAnyT_one (i := 7) (by kernel_rfl) rfl (fun K5 hK5 => ?_)
        refine stepT_copy (k := .u8) (g := g3) (some 28) rfl rfl (.tmp 23) (.tmp 27) 22 22 rfl 5 Try.underlying22 info_u8n o 4 4 ⟨kb, ko + o, none⟩ (32 - o) (c - o) rfl rfl _ (awn L i) 4 HA0.out (sk_hd F5.out).drew Hmin.out Hsrc.out Hfit.out (fun W6 A6 M6 _ => hK5.out _ _ ?_)
        have F6 := Lib.hid (sk_put (sk_drewN F5.out 1) M6.out A6.out Hne3.out Hg.out.2.2.1)
        rw [Hspl.out] at F6
        clear A6 M6 F5 hK5 K5
        simp only [Act.put, List.setIfInBounds_toArray, List.set_cons_zero, List.set_cons_succ]
        refine wpAnyT_done (by kernel_rfl) ?_
        go_wp2
        go_roundw
        case rel => exact ⟨i + 1, by omega, by go_num, F6⟩
        case measure => simp [intOf]; omega
      · obtain ⟨a, b, c', d, hw, hx⟩ := Hhigh.out i (by omega) hlt
        have Hw := Lib.hid hw
        have Hx := Lib.hid hx
        obtain ⟨o1, ho1⟩ : ∃ o1, 4 * (i - 1) = o1 := ⟨_, rfl⟩
        obtain ⟨o8, ho8⟩ : ∃ o8, 4 * (i - 8) = o8 := ⟨_, rfl⟩
        have ix1 := fun W => run_indexAt_w (b := g3) arrWords info_4 (i - 1) o1 ((i : Int) - 1) (by omega) (by omega) (by omega) W
        have ix8 := fun W => run_indexAt_w (b := g3) arrWords info_4 (i - 8) o8 ((i : Int) - 8) (by omega) (by omega) (by omega) W
        have Hn1 : Hid (∀ j x : Nat, (four a b c' d)[j]? = some x → (L.take (4 * i) ++ (Zs 240).drop (4 * i))[o1 + j]? = some x) := Lib.hid (fun j x hj => by
          have h4 : j < 4 := (List.getElem?_eq_some_iff.1 hj).1
          rw [afill_low (by omega) (by rw [HL.out]; omega), ← ho1]
          rw [← hw] at hj
          exact awn_get j x hj)
        have H8l := Lib.hid (awn_length HL.out (i := i - 8) (by omega))
        have Hn8 : Hid (∀ j x : Nat, (awn L (i - 8))[j]? = some x → (L.take (4 * i) ++ (Zs 240).drop (4 * i))[o8 + j]? = some x) := Lib.hid (fun j x hj => by
          have h4 : j < 4 := by have := (List.getElem?_eq_some_iff.1 hj).1; have := H8l.out; omega
          rw [afill_low (by omega) (by rw [HL.out]; omega), ← ho8]
          exact awn_get j x hj)
        have cchg := fun W => achanged_any a b c' d i W (by omega)
        have HC : Hid ((abn (achgB gboxU i [a, b, c', d])).length = 4) := Lib.hid (by rw [abn_length]; exact achg_length _ _ rfl)
        have hw1 : IntKind.i64.wrap ((i : Int) - 1) = (i : Int) - 1 := IntWalk.i64_in _ ⟨by omega, by omega⟩
        have hw8 : IntKind.i64.wrap ((i : Int) - 8) = (i : Int) - 8 := IntWalk.i64_in _ ⟨by omega, by omega⟩
        clear hw hx ho1 ho8 ho Hw
        revert Hx cchg HC
        generalize abn (achgB gboxU i [a, b, c', d]) = C
        generalize hW8 : awn L (i - 8) = W8 at *
        intro Hx cchg HC
        clear hW8
        go_wp2_with (refine wp_load_part (ns := four a b c' d) arr4.under rfl info_4 rfl (.tmp 31) rfl o1 rfl (sk_hd F5.out) rfl Hn1.out ?_)
        refine (cchg _).mono ?_
        rintro e w4 ⟨rfl, hb4⟩
        have F6 := Lib.hid (sk_below F5.out hb4)
        clear hb4 F5 cchg
        go_wp2_with (refine wp_alloc_arr (k := .u8) rfl 51 rfl 4 zero4 ?_)
        intro w5 g7 G7 H7 Hb7 Hs7
        go_wp2_with (refine wp_put_arr arr4 rfl (.tmp 7) (.tmp 34) rfl rfl (l' := C) rfl H7.out (Zs_length _) HC.out ?_)
        intro w6 H8 Hm8 Hs8
        have Hg7 : Hid (g3 ≠ g7 ∧ g2 ≠ g7 ∧ g1 ≠ g7 ∧ w.heap.size ≤ g7) := Lib.hid (by
          have e := G7.out
          have h0 := (sk_hd F6.out).lt
          have h1 := (F6.out.1 (g2, 47, Zs 240) (by simp)).lt
          have h2 := (F6.out.1 (g1, 47, Zs 240) (by simp)).lt
          have h3 := F6.out.2.size
          dsimp only at h1 h2
          omega)
        have F7 : Hid (SK w [(g3, 52, L.take (4 * i) ++ (Zs 240).drop (4 * i)), (g7, 51, C), (g2, 47, Zs 240), (g1, 47, Zs 240)] w6) := Lib.hid (sk_sub (sk_cons (sk_keep (sk_below F6.out Hb7.out) Hm8.out (by
          have h4 := Hg7.out
          intro x hx
          simp only [List.mem_cons, List.not_mem_nil, or_false] at hx
          rcases hx with rfl | rfl | rfl
          · exact h4.1
          · exact h4.2.1
          · exact h4.2.2.1) Hg7.out.2.2.2) H8.out) (by intro x hx; simp only [List.mem_cons, List.not_mem_nil, or_false] at hx ⊢; rcases hx with rfl | rfl | rfl | rfl <;> simp))
        have Hne7 : Hid (∀ x ∈ [(g7, 51, C), (g2, 47, Zs 240), (g1, 47, Zs 240)], x.1 ≠ g3) := Lib.hid (by
          have h4 := Hg7.out
          have h5 := Hg.out
          intro x hx
          simp only [List.mem_cons, List.not_mem_nil, or_false] at hx
          rcases hx with rfl | rfl | rfl
          · exact h4.1.symm
          · exact h5.2.2.2.2.1
          · exact h5.2.2.2.1)
        clear F6 H7 H8 Hb7 Hs7 Hm8 Hs8 G7
        have Hn8' : Hid (Arr w6 g3 52 .u8 (L.take (4 * i) ++ (Zs 240).drop (4 * i))) := Lib.hid (sk_hd F7.out)
        go_wp2_with (refine wp_load_part (ns := W8) arr4.under rfl info_4 rfl (.tmp 37) rfl o8 rfl Hn8'.out H8l.out Hn8.out ?_)
        have F8 : Hid (SK w [(g3, 52, L.take (o + 0) ++ (Zs 240).drop (o + 0)), (g7, 51, C), (g2, 47, Zs 240), (g1, 47, Zs 240)] w6) := Lib.hid (by have h := F7.out; rw [Ho.out] at h; exact h)
        clear Hn8' Hn8 Hn1 F7 ix1 ix8 hw1 hw8
        go_wp2
        go_loopw [39] (fun v wr => ∃ j : Nat, j ≤ 4 ∧ v = .int .i64 (j : Int) ∧ Hid (SK w [(g3, 52, L.take (o + j) ++ (Zs 240).drop (o + j)), (g7, 51, C), (g2, 47, Zs 240), (g1, 47, Zs 240)] wr)) (fun v _ => 4 - (intOf v).toNat)
        case atStart => exact ⟨0, by omega, rfl, F8⟩
        case round =>
          clear F8
          obtain ⟨j, hj, rfl, F7⟩ := hrel
          by_cases hlj : j < 4
          · obtain ⟨x, y, hx, hy, hz⟩ := Hx.out j hlj
            have hii := fun W => run_index_arr arr4 info_u8n H8l.out hx W
            obtain ⟨q, hq⟩ : ∃ q, o + j = q := ⟨_, rfl⟩
            have ixj := fun W => run_indexAt_arr (g := g7) arr4 info_u8n j (j : Int) rfl hlj W
            have ixq := fun W => run_indexAt_off (P := Try.prog) (b := g3) arr4 info_u8n o j q hlj hq W
            have hxor := gxor_u8 x y
            rw [Ho.out, hq] at hz
            rw [hq] at F7
            have hq240 : q < 240 := by have := Ho.out; omega
            have Hz := Lib.hid hz
            have Hy := Lib.hid hy
            have Hq := Lib.hid hq
            clear hx hy hz hq
            generalize x ^^^ y = z at *
            have hfz := (sk_hd F7.out).drew.frozen q
            have hcl := (sk_hd F7.out).drew.at_ (fill_get (L := L) (M := Zs 240) (i := q) (by rw [Zs_length]; omega) (by rw [HL.out]; omega))
            go_wp2_with fail
            refine wp_region_ends (fun w' => SK w [(g3, 52, L.take q ++ (Zs 240).drop q), (g7, 51, C), (g2, 47, Zs 240), (g1, 47, Zs 240)] w') 9 (by kernel_rfl) ?_
            refine wpAnyE_take (i := 0) (v := .int .i64 (i : Int)) (some 43) rfl rfl (by kernel_rfl) (fun _ _ _ h => h) (.inl ⟨by rfl, fun W _ => rfl⟩) (sk_drewN F7.out 1) ?_
            simp only [Act.put, List.setIfInBounds_toArray, List.set_cons_zero, List.set_cons_succ]
            refine wpAnyE_take (i := 1) (v := .int .i64 (j : Int)) (some 44) rfl rfl (by kernel_rfl) (fun _ _ _ h => h) (.inl ⟨by rfl, fun W _ => rfl⟩) (sk_drewN F7.out 1) ?_
            simp only [Act.put, List.setIfInBounds_toArray, List.set_cons_zero, List.set_cons_succ]
            refine wpAnyE_take (i := 2) (v := .int .u8 (x.toNat : Int)) (some 45) rfl rfl (by kernel_rfl) (fun _ _ _ h => h) (.inl ⟨by rfl, fun W _ => rfl⟩) (sk_drewN F7.out 1) ?_
            simp only [Act.put, List.setIfInBounds_toArray, List.set_cons_zero, List.set_cons_succ]
            refine wpAnyE_take (i := 3) (v := .int .i64 (j : Int)) (some 46) rfl rfl (by kernel_rfl) (fun _ _ _ h => h) (.inl ⟨by rfl, fun W _ => rfl⟩) (sk_drewN F7.out 1) ?_
            simp only [Act.put, List.setIfInBounds_toArray, List.set_cons_zero, List.set_cons_succ]
            refine wpAnyE_take (i := 4) (v := .pointer (some ⟨g7, j, none⟩)) (some 47) rfl rfl (by kernel_rfl) (fun _ _ _ h => h) (.inl ⟨by rfl, fun W _ => by go_simp⟩) (sk_drewN F7.out 1) ?_
            simp only [Act.put, List.setIfInBounds_toArray, List.set_cons_zero, List.set_cons_succ]
            refine wpAnyE_take (i := 5) (v := .int .u8 (y.toNat : Int)) (some 48) rfl rfl (by kernel_rfl) (fun _ _ _ h => h) (.inl ⟨by rfl, fun W h => by have hc := (Arr.at_ (t := 51) (k := .u8) (l := C) (h.1 (g7, 51, C) (by simp)) Hy.out); go_simp⟩) (sk_drewN F7.out 1) ?_
            simp only [Act.put, List.setIfInBounds_toArray, List.set_cons_zero, List.set_cons_succ]
            refine wpAnyE_take (i := 6) (v := .int .u8 (z.toNat : Int)) (some 49) rfl rfl (by kernel_rfl) (fun _ _ _ h => h) (.inl ⟨by rfl, fun W _ => by go_simp⟩) (sk_drewN F7.out 1) ?_
            simp only [Act.put, List.setIfInBounds_toArray, List.set_cons_zero, List.set_cons_succ]
            refine wpAnyE_one (i := 7) (by kernel_rfl) rfl (fun K7 hK7 => ?_)
            go_simp
            refine hK7.out _ _ (.inr (sk_drewN F7.out 1)) ?_
            clear hK7 K7
            refine wpAnyE_take (i := 8) (v := .pointer (some ⟨g3, q, none⟩)) (some 51) rfl rfl (by kernel_rfl) (fun _ _ _ h => h) (.inl ⟨by rfl, fun W _ => by go_simp⟩) (sk_drewN F7.out 1) ?_
            simp only [Act.put, List.setIfInBounds_toArray, List.set_cons_zero, List.set_cons_succ]
            refine wpAnyE_one (i := 9) (by kernel_rfl) rfl (fun K6 hK6 => ?_)
            go_simp
            refine hK6.out _ _ (.inl rfl) ?_
            have F8 : Hid (SK w [(g3, 52, L.take (o + (j + 1)) ++ (Zs 240).drop (o + (j + 1))), (g7, 51, C), (g2, 47, Zs 240), (g1, 47, Zs 240)] ((wr.setCell ⟨g3, q, none⟩ (.int .u8 (z.toNat : Int))).drew)) := Lib.hid (by
              have h := sk_drewN (sk_set F7.out Hne7.out Hg.out.2.2.1 q z.toNat) 1
              rw [afill_step Hz.out (by rw [Zs_length]; omega)] at h
              rw [show o + (j + 1) = q + 1 by have := Hq.out; omega]
              exact h)
            clear hK6 K6 F7
            refine wpAnyE_done (by kernel_rfl) ?_
            go_wp2
            go_roundw
            case rel => exact ⟨j + 1, by omega, by go_num, F8⟩
            case measure => simp [intOf]; omega
          · obtain rfl : j = 4 := by omega
            have F9 : Hid (SK w [(g3, 52, L.take (4 * (i + 1)) ++ (Zs 240).drop (4 * (i + 1))), (g2, 47, Zs 240), (g1, 47, Zs 240)] wr) := Lib.hid (by
              have h := sk_sub (M := [(g3, 52, L.take (o + 4) ++ (Zs 240).drop (o + 4)), (g2, 47, Zs 240), (g1, 47, Zs 240)]) F7.out (by intro x hx; simp only [List.mem_cons, List.not_mem_nil, or_false] at hx ⊢; rcases hx with rfl | rfl | rfl <;> simp)
              rw [show o + 4 = 4 * (i + 1) by have := Ho.out; omega] at h
              exact h)
            clear F7
            go_wp2
            go_roundw
            case rel => exact ⟨i + 1, by omega, by go_num, F9⟩
            case measure => simp [intOf]; omega
    · obtain rfl : i = 60 := by omega
      have A3 : Hid (Arr wr g3 52 .u8 L) := Lib.hid (by have h := sk_hd F5.out; rw [show 4 * 60 = 240 from rfl, fill_all HL.out (Zs_length _)] at h; exact h)
      have F6 : Hid (SK w [(g2, 47, L.take (4 * 0) ++ (Zs 240).drop (4 * 0)), (g1, 47, Zs 240)] wr) := Lib.hid (sk_sub F5.out (by intro x hx; simp only [List.mem_cons, List.not_mem_nil, or_false] at hx ⊢; rcases hx with rfl | rfl <;> simp))
      have Hne1 : Hid (∀ x ∈ [(g1, 47, Zs 240)], x.1 ≠ g2) := Lib.hid (by
        have h5 := Hg.out
        intro x hx
        simp only [List.mem_cons, List.not_mem_nil, or_false] at hx
        rcases hx with rfl
        exact h5.2.2.2.2.2)
      clear F5
      go_wp2_with (refine wp_load_w arrWords rfl (.tmp 5) rfl rfl A3.out HL.out ?_)
      clear A3
      go_wp2
      go_loopw [55] (fun v wr => ∃ i : Nat, i ≤ 60 ∧ v = .int .i64 (i : Int) ∧ Hid (SK w [(g2, 47, L.take (4 * i) ++ (Zs 240).drop (4 * i)), (g1, 47, Zs 240)] wr)) (fun v _ => 60 - (intOf v).toNat)
      case atStart => exact ⟨0, by omega, rfl, F6⟩
      case round =>
        clear F6
        obtain ⟨i, hi, rfl, F6⟩ := hrel
        by_cases hlt : i < 60
        · have HA0 := Lib.hid (awn_length HL.out (i := i) hlt)
          have hii := fun W => run_index_w (k := .u8) arrWords arr4.under info_4 L (awn L i) i hlt HA0.out (by rw [HL.out]; omega) (fun j x hx => by rw [Nat.mul_comm i 4]; exact awn_get j x hx) W
          go_wp2_with (refine wp_alloc_arr (k := .u8) rfl 51 rfl 4 zero4 ?_)
          intro w5 g7 G7 H7 Hb7 Hs7
          go_wp2_with (refine wp_put_arr arr4 rfl (.tmp 11) (.tmp 58) rfl rfl (l' := awn L i) rfl H7.out (Zs_length _) HA0.out ?_)
          intro w6 H8 Hm8 Hs8
          have Hg7 : Hid (g2 ≠ g7 ∧ g1 ≠ g7 ∧ w.heap.size ≤ g7) := Lib.hid (by
            have e := G7.out
            have h0 := (sk_hd F6.out).lt
            have h2 := (F6.out.1 (g1, 47, Zs 240) (by simp)).lt
            have h3 := F6.out.2.size
            dsimp only at h2
            omega)
          have F7 : Hid (SK w [(g2, 47, L.take (4 * i) ++ (Zs 240).drop (4 * i)), (g1, 47, Zs 240)] w6) := Lib.hid (sk_keep (sk_below F6.out Hb7.out) Hm8.out (by
            have h4 := Hg7.out
            intro x hx
            simp only [List.mem_cons, List.not_mem_nil, or_false] at hx
            rcases hx with rfl | rfl
            · exact h4.1
            · exact h4.2.1) Hg7.out.2.2)
          clear F6 H7 Hb7 Hs7 Hm8 Hs8 G7 hii
          obtain ⟨o, ho⟩ : ∃ o, 4 * i = o := ⟨_, rfl⟩
          obtain ⟨qd, hqd⟩ : ∃ qd, i / 4 = qd := ⟨_, rfl⟩
          obtain ⟨rm, hrm⟩ : ∃ rm, i % 4 = rm := ⟨_, rfl⟩
          obtain ⟨r4, hr4⟩ : ∃ r4, rm * 4 = r4 := ⟨_, rfl⟩
          obtain ⟨o1, ho1⟩ : ∃ o1, qd * 16 = o1 := ⟨_, rfl⟩
          have z0 : (0 : Int) ≤ (i : Int) := by omega
          have e1 : (i : Int) / 4 = (qd : Int) := by omega
          have e1t : (i : Int).tdiv 4 = (qd : Int) := by rw [Int.tdiv_eq_ediv_of_nonneg z0]; exact e1
          have e2 : (i : Int) % 4 = (rm : Int) := by omega
          have e2t : (i : Int).tmod 4 = (rm : Int) := by rw [Int.tmod_eq_emod_of_nonneg z0]; exact e2
          have hwq : IntKind.i64.wrap (qd : Int) = (qd : Int) := IntWalk.i64_in _ ⟨by omega, by omega⟩
          have hwm : IntKind.i64.wrap ((rm : Int) * 4) = (rm : Int) * 4 := IntWalk.i64_in _ ⟨by omega, by omega⟩
          have ix := fun W => run_indexAt_w (b := g2) arrKeys info_16 qd o1 (qd : Int) rfl (by omega) ho1 W
          have sl1 := fun W => run_slice_arr_from (P := Try.prog) (b := g2) arr16 info_u8n o1 r4 ((rm : Int) * 4) (by omega) (by omega) W
          rw [show o1 + r4 = o by omega] at sl1
          have sl2 := fun W => run_slice_arr_all (P := Try.prog) (b := g7) arr4 info_u8n 0 W
          have Hmin : Hid (4 = Nat.min 4 (16 - r4)) := Lib.hid (by show 4 = min 4 (16 - r4); omega)
          have Hsrc : Hid (∀ j x : Nat, (awn L i)[j]? = some x → w6.drew.cell? ((⟨g7, 0, none⟩ : Addr).add j) = some (.int .u8 (x : Int))) := Lib.hid (fun j x hx => by rw [add_flat, Nat.zero_add]; exact H8.out.at_ hx)
          have Hfit : Hid (o + 4 ≤ (L.take (4 * i) ++ (Zs 240).drop (4 * i)).length) := Lib.hid (by rw [fill_length (by rw [HL.out, Zs_length]), Zs_length]; omega)
          have Hspl : Hid (splice (L.take (4 * i) ++ (Zs 240).drop (4 * i)) o (awn L i) = L.take (4 * (i + 1)) ++ (Zs 240).drop (4 * (i + 1))) := Lib.hid (by
            rw [← ho, afill_splice (L := L) (M := Zs 240) (ns := awn L i) (off := 4 * i) (by rw [HL.out, Zs_length]) (by rw [HA0.out, Zs_length]; omega) (fun j x hx => awn_get j x hx), HA0.out]
            rfl)
          clear ho hqd hrm hr4 ho1 H8
          go_wp2_with fail
          refine wp_region_takes (by kernel_rfl) ?_
          refine wpAnyT_take (i := 0) (v := .int .i64 (i : Int)) (some 59) rfl rfl (by kernel_rfl) (fun _ _ _ h => h) (.inl ⟨by rfl, fun W => rfl⟩) ?_
          simp only [Act.put, List.setIfInBounds_toArray, List.set_cons_zero, List.set_cons_succ]
          refine wpAnyT_take (i := 1) (v := .int .i64 (qd : Int)) (some 60) rfl rfl (by kernel_rfl) (fun _ _ _ h => h) (.inl ⟨by rfl, fun W => by go_simp⟩) ?_
          simp only [Act.put, List.setIfInBounds_toArray, List.set_cons_zero, List.set_cons_succ]
          refine wpAnyT_take (i := 2) (v := .pointer (some ⟨g2, o1, none⟩)) (some 61) rfl rfl (by kernel_rfl) (fun _ _ _ h => h) (.inl ⟨by rfl, fun W => by go_simp⟩) ?_
          simp only [Act.put, List.setIfInBounds_toArray, List.set_cons_zero, List.set_cons_succ]
          refine wpAnyT_take (i := 3) (v := .int .i64 (i : Int)) (some 62) rfl rfl (by kernel_rfl) (fun _ _ _ h => h) (.inl ⟨by rfl, fun W => rfl⟩) ?_
          simp only [Act.put, List.setIfInBounds_toArray, List.set_cons_zero, List.set_cons_succ]
          refine wpAnyT_take (i := 4) (v := .int .i64 (rm : Int)) (some 63) rfl rfl (by kernel_rfl) (fun _ _ _ h => h) (.inl ⟨by rfl, fun W => by go_simp⟩) ?_
          simp only [Act.put, List.setIfInBounds_toArray, List.set_cons_zero, List.set_cons_succ]
          refine wpAnyT_take (i := 5) (v := .int .i64 ((rm : Int) * 4)) (some 64) rfl rfl (by kernel_rfl) (fun _ _ _ h => h) (.inl ⟨by rfl, fun W => by go_simp⟩) ?_
          simp only [Act.put, List.setIfInBounds_toArray, List.set_cons_zero, List.set_cons_succ]
          refine wpAnyT_take (i := 6) (v := .slice (some ⟨g2, o, none⟩) (16 - r4) (16 - r4)) (some 65) rfl rfl (by kernel_rfl) (fun _ _ _ h => h) (.inl ⟨by rfl, fun W => by go_simp⟩) ?_
          simp only [Act.put, List.setIfInBounds_toArray, List.set_cons_zero, List.set_cons_succ]
          refine wpAnyT_take (i := 7) (v := .slice (some ⟨g7, 0, none⟩) 4 4) (some 66) rfl rfl (by kernel_rfl) (fun _ _ _ h => h) (.inl ⟨by rfl, fun W => by go_simp⟩) ?_
          simp only [Act.put, List.setIfInBounds_toArray, List.set_cons_zero, List.set_cons_succ]
          refine wpAnyT_one (i := 8) (by kernel_rfl) rfl (fun K5 hK5 => ?_)
          refine stepT_copy (k := .u8) (g := g2) (some 67) rfl rfl (.tmp 65) (.tmp 66) 22 22 rfl 5 Try.underlying22 info_u8n o (16 - r4) (16 - r4) ⟨g7, 0, none⟩ 4 4 rfl rfl _ (awn L i) 4 HA0.out (sk_hd F7.out).drew Hmin.out Hsrc.out Hfit.out (fun W6 A6 M6 _ => hK5.out _ _ ?_)
          have F8 := Lib.hid (sk_put (sk_drewN F7.out 1) M6.out A6.out Hne1.out Hg.out.2.1)
          rw [Hspl.out] at F8
          clear A6 M6 F7 hK5 K5
          simp only [Act.put, List.setIfInBounds_toArray, List.set_cons_zero, List.set_cons_succ]
          refine wpAnyT_done (by kernel_rfl) ?_
          go_wp2
          go_roundw
          case rel => exact ⟨i + 1, by omega, by go_num, F8⟩
          case measure => simp [intOf]; omega
        · obtain rfl : i = 60 := by omega
          have A2 : Hid (Arr wr g2 47 .u8 L) := Lib.hid (by have h := sk_hd F6.out; rw [show 4 * 60 = 240 from rfl, fill_all HL.out (Zs_length _)] at h; exact h)
          have A1 : Hid (Arr wr g1 47 .u8 (Zs 240)) := Lib.hid (F6.out.1 (g1, 47, Zs 240) (by simp))
          go_wp2_with (first
            | refine wp_load_w arrKeys rfl (.tmp 4) rfl rfl A2.out HL.out ?_
            | refine wp_put_w arrKeys rfl (.tmp 2) (.tmp 69) rfl rfl (l' := L) rfl A1.out (Zs_length _) HL.out ?_)
          intro w9 H9 Hm9 Hs9
          go_wp2
          exact ret_two arrKeys rfl rfl H9.out HL.out rfl rfl ⟨rfl, F6.out.2.trans (Hm9.out.below (fun j hj => by rw [hj]; exact Hg.out.1) F6.out.2.size)⟩


end Go.Proofs.Ytfkfkmdnffpcmaa

namespace Go.Proofs.Ytfkfkmdnffpcmaa
open Go.RowKit

/-- The function that tells blocks. -/
def ctellV (g1 g2 : Nat) : Value := .func (.func 26) #[] #[.pointer (some ⟨g1, 0, none⟩), .pointer (some ⟨g2, 0, none⟩)]

theorem cblocks_form (m d n c : Nat) (A C : Option Addr) (w : World) (h : n ≠ 16) :
    Calls Try.prog 17 #[.slice A m d, .slice C n c] w (fun e w' => e = .returned (.tuple #[.nilFunc, .int .i64 4]) ∧ w' = w) := by
  have hz : ((n : Int) != 16) = true := by simp; omega
  go_enter Try.func17, Try.ntmps17
  go_wp2
  exact bodyPost_ret (results_tmp2 rfl _ _ _) rfl ⟨rfl, rfl⟩
theorem cblocks_none (m d c : Nat) (A C : Option Addr) (w : World) (h : m ≠ 32) :
    Calls Try.prog 17 #[.slice A m d, .slice C 16 c] w (Ans w (.tuple #[.nilFunc, .int .i64 4])) := by
  have c1 := fun W => asched_none m d A W h
  go_enter Try.func17, Try.ntmps17
  go_wp2_with fail
  refine (c1 _).mono ?_
  rintro e w1 ⟨rfl, hb⟩
  go_wp2_with (refine wp_alloc_arr (k := .u8) rfl 47 rfl 240 zeroKeys ?_)
  intro w2 g1 G1 H1 Hb1 Hs1
  go_wp2_with (refine wp_put_w arrKeys rfl (.tmp 6) (.tmp 15) rfl rfl (l' := Zs 240) rfl H1.out (Zs_length _) (Zs_length _) ?_)
  intro w3 H3 Hm3 Hs3
  go_wp2
  exact bodyPost_ret (results_tmp2 rfl _ _ _) rfl ⟨rfl, (abon hb Hb1.out).trans (Hm3.out.below (fun j hj => by have := G1.out; have := hb.size; omega) (abon hb Hb1.out).size)⟩
set_option maxHeartbeats 1600000 in
theorem cblocks_any (key s : List UInt8) (c d B : Nat) (A C : Option Addr) (w : World) (hr : Rd w B A 32 (Byt key)) (hc : 32 ≤ c) (hs : Rd w B C 16 (Byt s)) (hB : B ≤ w.heap.size) :
    Calls Try.prog 17 #[.slice A 32 c, .slice C 16 d] w (fun e w' => ∃ g1 g2 : Nat, e = .returned (.tuple #[ctellV g1 g2, .int .i64 0]) ∧
      SK w [(g1, 47, abn (akeysU key)), (g2, 23, abn s)] w' ∧ w.heap.size ≤ g1 ∧ w.heap.size ≤ g2) := by
  have c1 := fun W (h : Below w.heap.size w W) => asched_key key c B A W (hr.below (h.mono hB)) hc (Nat.le_trans hB h.size)
  have hl := hs.bytes
  obtain ⟨sb, so, rfl, hsb, hcell⟩ := hs.2 (by omega)
  have Hcell : Hid (∀ j u, (Byt s)[j]? = some u → w.cell? ⟨sb, so + j, none⟩ = some u) := Lib.hid hcell
  have Hsb : Hid (sb < w.heap.size) := Lib.hid (by omega)
  have H1 : Hid ((abn s).length = 16) := Lib.hid (by rw [abn_length, hl])
  have H2 : Hid ((abn (akeysU key)).length = 240) := Lib.hid (by rw [abn_length]; exact akeys_length hr.bytes)
  have Hce : Hid (∀ j u, ((abn s).map fun (n : Nat) => Value.int .u8 (n : Int))[j]? = some u → w.cell? ⟨sb, so + j, none⟩ = some u) := Lib.hid (fun j u hu => Hcell.out j u (by rw [← hu]; simp [abn, Byt]; rfl))
  clear hcell hl hr hs hB hsb Hcell
  revert c1 H1 H2 Hce
  generalize abn (akeysU key) = K
  generalize abn s = L
  intro c1 H1 H2 Hce
  go_enter Try.func17, Try.ntmps17
  go_wp2_with fail
  refine (c1 _ (Below.refl _ _)).mono ?_
  rintro e w1 ⟨rfl, hb⟩
  have Hb := Lib.hid hb; clear hb
  go_wp2_with (refine wp_alloc_arr (k := .u8) rfl 47 rfl 240 zeroKeys ?_)
  intro w2 g1 G1 H3 Hb1 Hs1
  go_wp2_with (refine wp_put_w arrKeys rfl (.tmp 6) (.tmp 15) rfl rfl (l' := K) rfl H3.out (Zs_length _) H2.out ?_)
  intro w3 H4 Hm3 Hs3
  have hat := fun W => run_arrayAt (P := Try.prog) arr16 (some ⟨sb, so, none⟩) 16 d (Nat.le_refl _) W
  have B3 : Hid (Below w.heap.size w w3) := Lib.hid (by
    have h := abon Hb.out Hb1.out
    exact h.trans (Hm3.out.below (fun j hj => by have := G1.out; have := Hb.out.size; omega) h.size))
  have Hg1 : Hid (w.heap.size ≤ g1) := Lib.hid (by have := G1.out; have := Hb.out.size; omega)
  have Hrg : Hid (w3.rangeAt sb so (L.map fun (n : Nat) => Value.int .u8 (n : Int))) := Lib.hid (fun j u hu => by
    have h := Hce.out j u hu
    rw [← h]
    exact B3.out.cell (p := ⟨sb, so + j, none⟩) Hsb.out)
  clear c1 Hb H3 Hb1 Hs1 G1 Hm3 Hs3
  go_wp2_with (first
    | refine wpList_load_mid rfl 23 (.tmp 21) rfl sb so rfl (L.map fun (n : Nat) => Value.int .u8 (n : Int)) _ Hrg.out arr16.under rfl (by rw [List.length_map, H1.out]; exact info_16) ?_
    | refine wp_alloc_arr (k := .u8) rfl 23 rfl 16 zero16 ?_)
  intro w4 g2 G2 H5 Hb4 Hs4
  go_wp2_with (refine wp_put_arr arr16 rfl (.tmp 8) (.tmp 22) rfl rfl (l' := L) rfl H5.out (Zs_length _) H1.out ?_)
  intro w5 H6 Hm5 Hs5
  have Hg2 : Hid (w.heap.size ≤ g2 ∧ g1 ≠ g2) := Lib.hid (by have := G2.out; have := B3.out.size; have := H4.out.lt; omega)
  have S5 : Hid (SK w [(g1, 47, K), (g2, 23, L)] w5) := Lib.hid ⟨by
    have h1 := (H4.out.below Hb4.out H4.out.lt).moves Hm5.out Hg2.out.2
    intro x hx
    simp only [List.mem_cons, List.not_mem_nil, or_false] at hx
    rcases hx with rfl | rfl
    · exact h1
    · exact H6.out, by
    have h := abon B3.out Hb4.out
    exact h.trans (Hm5.out.below (fun j hj => by rw [hj]; exact Hg2.out.1) h.size)⟩
  clear H4 Hb4 Hs4 H5 Hm5 Hs5 H6 G2 B3 Hrg hat
  go_wp2
  exact bodyPost_ret (results_tmp2 rfl _ _ _) rfl ⟨g1, g2, rfl, S5.out, Hg1.out, Hg2.out.1⟩

end Go.Proofs.Ytfkfkmdnffpcmaa

namespace Go.Proofs.Ytfkfkmdnffpcmaa
open Go.RowKit

theorem arr16w : ArrW Try.prog 23 5 16 16 := ⟨arr16.under, arr16.size⟩
theorem info_16z : (Try.prog.built 23 []) = some (Nums .u8 (Zs 16)) := by kernel_rfl
set_option maxHeartbeats 800000 in
theorem cat_form (m d n c : Nat) (A C : Option Addr) (z : Int) (w : World) (h : m ≠ 32 ∨ n ≠ 16) :
    Calls Try.prog 7 #[.slice A m d, .slice C n c, .int .i64 z] w (Ans w (.tuple #[.agg (Nums .u8 (Zs 16)), .int .i64 4])) := by
  have c1 : ∀ W, Calls Try.prog 17 #[.slice A m d, .slice C n c] W (Ans W (.tuple #[.nilFunc, .int .i64 4])) := fun W => by
    by_cases hn : n = 16
    · subst hn
      exact cblocks_none m d c A C W (h.resolve_right fun h => h rfl)
    · exact (cblocks_form m d n c A C W hn).mono fun e w' hw => ⟨hw.1, by rw [hw.2]; exact Below.refl _ _⟩
  go_enter Try.func7, Try.ntmps7
  go_wp2_with (refine wp_alloc_arr (k := .u8) rfl 23 rfl 16 zero16 ?_)
  intro w1 g1 G1 H1 Hb1 Hs1
  go_wp2_with fail
  refine (c1 _).mono ?_
  rintro e w2 ⟨rfl, hb⟩
  have H2 := Lib.hid (H1.out.below hb H1.out.lt)
  have B2 := Lib.hid (abon Hb1.out hb)
  have Hg : Hid (w.heap.size ≤ g1) := Lib.hid (by have := G1.out; omega)
  clear hb H1 Hb1 Hs1 G1
  go_wp2_with (first
    | refine wp_build_arr rfl 23 _ rfl .u8 (Zs 16) info_16z ?_
    | refine wp_put_arr arr16 rfl (.tmp 6) (.tmp 18) rfl rfl (l' := Zs 16) rfl H2.out (Zs_length _) (Zs_length _) ?_)
  intro w5 H5 Hm5 Hs5
  go_wp2
  exact ret_two arr16w rfl rfl H5.out (Zs_length _) rfl rfl ⟨rfl, B2.out.trans (Hm5.out.below (fun j hj => by have := Hg.out; omega) B2.out.size)⟩

set_option maxHeartbeats 800000 in
theorem cat_range (key s : List UInt8) (c d B : Nat) (A C : Option Addr) (z : Int) (w : World) (hr : Rd w B A 32 (Byt key)) (hc : 32 ≤ c) (hs : Rd w B C 16 (Byt s)) (hB : B ≤ w.heap.size) (hz : z < 0 ∨ 65535 < z) :
    Calls Try.prog 7 #[.slice A 32 c, .slice C 16 d, .int .i64 z] w (Ans w (.tuple #[.agg (Nums .u8 (Zs 16)), .int .i64 2])) := by
  have c1 := fun W (h : Below w.heap.size w W) => cblocks_any key s c d B A C W (hr.below (h.mono hB)) hc (hs.below (h.mono hB)) (Nat.le_trans hB h.size)
  clear hr hs
  rcases hz with hz | hz
  all_goals
    go_enter Try.func7, Try.ntmps7
    go_wp2_with (refine wp_alloc_arr (k := .u8) rfl 23 rfl 16 zero16 ?_)
    intro w1 g1 G1 H1 Hb1 Hs1
    go_wp2_with fail
    refine (c1 _ Hb1.out).mono ?_
    rintro e w2 ⟨g2, g3, rfl, S1, hg1, hg2⟩
    have H2 := Lib.hid (H1.out.below S1.2 H1.out.lt)
    have B2 := Lib.hid (abon Hb1.out S1.2)
    have Hg : Hid (w.heap.size ≤ g1) := Lib.hid (by have := G1.out; omega)
    clear S1 H1 Hb1 Hs1 G1 hg1 hg2
    go_wp2_with (first
      | refine wp_build_arr rfl 23 _ rfl .u8 (Zs 16) info_16z ?_
      | refine wp_put_arr arr16 rfl (.tmp 6) (.tmp 26) rfl rfl (l' := Zs 16) rfl H2.out (Zs_length _) (Zs_length _) ?_)
    intro w5 H5 Hm5 Hs5
    go_wp2
    exact ret_two arr16w rfl rfl H5.out (Zs_length _) rfl rfl ⟨rfl, B2.out.trans (Hm5.out.below (fun j hj => by have := Hg.out; omega) B2.out.size)⟩

set_option maxHeartbeats 800000 in
theorem cat_any (key s : List UInt8) (c d B i : Nat) (A C : Option Addr) (w : World) (hr : Rd w B A 32 (Byt key)) (hc : 32 ≤ c) (hs : Rd w B C 16 (Byt s)) (hB : B ≤ w.heap.size) (hi : i ≤ 65535) :
    Calls Try.prog 7 #[.slice A 32 c, .slice C 16 d, .int .i64 (i : Int)] w (Ans w (.tuple #[.agg (Nums .u8 (abn (cblkU (akeysU key) s i))), .int .i64 0])) := by
  have c1 := fun W (h : Below w.heap.size w W) => cblocks_any key s c d B A C W (hr.below (h.mono hB)) hc (hs.below (h.mono hB)) (Nat.le_trans hB h.size)
  have hk : (akeysU key).length = 240 := akeys_length hr.bytes
  have hsl := hs.bytes
  have c2 := fun g1 g2 W hS => ctell_any (akeysU key) s i g1 g2 W hk hsl hi hS
  have Hbl : Hid ((abn (cblkU (akeysU key) s i)).length = 16) := Lib.hid (cblk_abn hk i)
  clear hr hs hB hk hsl
  revert c1 c2 Hbl
  unfold ctellV
  generalize abn (cblkU (akeysU key) s i) = L
  generalize abn (akeysU key) = K
  generalize abn s = S
  intro c1 c2 Hbl
  go_enter Try.func7, Try.ntmps7
  go_wp2_with (refine wp_alloc_arr (k := .u8) rfl 23 rfl 16 zero16 ?_)
  intro w1 g1 G1 H1 Hb1 Hs1
  go_wp2_with fail
  refine (c1 _ Hb1.out).mono ?_
  rintro e w2 ⟨g2, g3, rfl, S1, hg1, hg2⟩
  have H2 := Lib.hid (H1.out.below S1.2 H1.out.lt)
  have B2 := Lib.hid (abon Hb1.out S1.2)
  have Hg : Hid (w.heap.size ≤ g1) := Lib.hid (by have := G1.out; omega)
  have HS := Lib.hid S1
  clear S1 H1 Hb1 Hs1 G1 hg1 hg2
  go_wp2_with fail
  refine (c2 g2 g3 _ ⟨HS.out.1, Below.refl _ _⟩).mono ?_
  rintro e w3 ⟨rfl, hb⟩
  have H3 := Lib.hid (H2.out.below hb H2.out.lt)
  have B3 := Lib.hid (abon B2.out hb)
  clear hb H2 B2 HS
  go_wp2_with (refine wp_put_arr arr16 rfl (.tmp 6) (.tmp 29) rfl rfl (l' := L) rfl H3.out (Zs_length _) Hbl.out ?_)
  intro w5 H5 Hm5 Hs5
  go_wp2
  exact ret_two arr16w rfl rfl H5.out Hbl.out rfl rfl ⟨rfl, B3.out.trans (Hm5.out.below (fun j hj => by have := Hg.out; omega) B3.out.size)⟩

end Go.Proofs.Ytfkfkmdnffpcmaa

namespace Go.Proofs.Ytfkfkmdnffpcmaa
open Go.RowKit

theorem rright_any (m d n c : Nat) (A C : Option Addr) (w : World) : Calls Try.prog 18 #[.slice A m d, .slice C n c] w (fun e w' => e = .returned (.bool (decide (m = 32 ∧ n = 16))) ∧ w' = w) := by
  by_cases hm : m = 32
  · subst hm
    by_cases hn : n = 16
    · subst hn
      go_enter Try.func18, Try.ntmps18
      go_wp2
      go_ret
      exact ⟨rfl, rfl⟩
    · have h1 : ((n : Int) == 16) = false := by simp; omega
      go_enter Try.func18, Try.ntmps18
      go_wp2
      go_ret
      exact ⟨by rw [decide_eq_false (by omega)]; rfl, rfl⟩
  · have h1 : ((m : Int) == 32) = false := by simp; omega
    go_enter Try.func18, Try.ntmps18
    go_wp2
    go_ret
    exact ⟨by rw [decide_eq_false (by omega)]; rfl, rfl⟩

set_option maxHeartbeats 800000 in
theorem rcat_form (m d n c : Nat) (A C : Option Addr) (z : Int) (w : World) (h : m ≠ 32 ∨ n ≠ 16) :
    Calls Try.prog 8 #[.slice A m d, .slice C n c, .int .i64 z] w (Ans w (.tuple #[.agg (Nums .u8 (Zs 16)), .int .i64 4])) := by
  have c1 := fun W => rright_any m d n c A C W
  rw [decide_eq_false (by omega)] at c1
  go_enter Try.func8, Try.ntmps8
  go_wp2_with (refine wp_alloc_arr (k := .u8) rfl 23 rfl 16 zero16 ?_)
  intro w1 g1 G1 H1 Hb1 Hs1
  go_wp2_with fail
  refine (c1 _).mono ?_
  rintro e w2 ⟨rfl, rfl⟩
  go_wp2_with (first
    | refine wp_build_arr rfl 23 _ rfl .u8 (Zs 16) info_16z ?_
    | refine wp_put_arr arr16 rfl (.tmp 6) (.tmp 14) rfl rfl (l' := Zs 16) rfl H1.out (Zs_length _) (Zs_length _) ?_)
  intro w5 H5 Hm5 Hs5
  go_wp2
  exact ret_two arr16w rfl rfl H5.out (Zs_length _) rfl rfl ⟨rfl, Hb1.out.trans (Hm5.out.below (fun j hj => by have := G1.out; omega) Hb1.out.size)⟩
set_option maxHeartbeats 800000 in
theorem rcat_range (d c : Nat) (A C : Option Addr) (z : Int) (w : World) (hz : z < 0 ∨ 65535 < z) :
    Calls Try.prog 8 #[.slice A 32 d, .slice C 16 c, .int .i64 z] w (Ans w (.tuple #[.agg (Nums .u8 (Zs 16)), .int .i64 2])) := by
  have c1 := fun W => rright_any 32 d 16 c A C W
  rw [decide_eq_true (by omega)] at c1
  rcases hz with hz | hz
  all_goals
    go_enter Try.func8, Try.ntmps8
    go_wp2_with (refine wp_alloc_arr (k := .u8) rfl 23 rfl 16 zero16 ?_)
    intro w1 g1 G1 H1 Hb1 Hs1
    go_wp2_with fail
    refine (c1 _).mono ?_
    rintro e w2 ⟨rfl, rfl⟩
    go_wp2_with (first
      | refine wp_build_arr rfl 23 _ rfl .u8 (Zs 16) info_16z ?_
      | refine wp_put_arr arr16 rfl (.tmp 6) (.tmp 21) rfl rfl (l' := Zs 16) rfl H1.out (Zs_length _) (Zs_length _) ?_)
    intro w5 H5 Hm5 Hs5
    go_wp2
    exact ret_two arr16w rfl rfl H5.out (Zs_length _) rfl rfl ⟨rfl, Hb1.out.trans (Hm5.out.below (fun j hj => by have := G1.out; omega) Hb1.out.size)⟩

set_option maxHeartbeats 1600000 in
theorem rcat_any (key s : List UInt8) (c d B i : Nat) (A C : Option Addr) (w : World) (hr : Rd w B A 32 (Byt key)) (hs : Rd w B C 16 (Byt s)) (hB : B ≤ w.heap.size) (hi : i ≤ 65535) :
    Calls Try.prog 8 #[.slice A 32 c, .slice C 16 d, .int .i64 (i : Int)] w (Ans w (.tuple #[.agg (Nums .u8 (abn (cblkU (akeysU key) s i))), .int .i64 0])) := by
  have c1 := fun W => rright_any 32 c 16 d A C W
  rw [decide_eq_true (by omega)] at c1
  have hk : (akeysU key).length = 240 := akeys_length hr.bytes
  have hsl := hs.bytes
  have Hr := Lib.hid hr
  have Hs := Lib.hid hs
  have c2 := fun W (h : Below w.heap.size w W) => rasched_key key c B A W (Hr.out.below (h.mono hB)) (Nat.le_trans hB h.size)
  have c3 := fun W (h : Below w.heap.size w W) => rcounter_any s i B d C W (Hs.out.below (h.mono hB)) (Nat.le_trans hB h.size) hi
  have c4 : ∀ W, Calls Try.prog 20 #[.agg (Nums .u8 (abn (akeysU key))), .agg (Nums .u8 (abn (cplusU s i)))] W (AnsA W .u8 (abn (cblkU (akeysU key) s i))) := fun W => raenc_any (akeysU key) (cplusU s i) W hk (cplus_length hsl)
  have Hbl : Hid ((abn (cblkU (akeysU key) s i)).length = 16) := Lib.hid (cblk_abn hk i)
  have Hkl : Hid ((abn (akeysU key)).length = 240) := Lib.hid (by rw [abn_length, hk])
  clear hr hs hk hsl Hr Hs
  revert c2 c3 c4 Hbl Hkl
  generalize abn (cblkU (akeysU key) s i) = L
  generalize abn (cplusU s i) = M
  generalize abn (akeysU key) = K
  intro c2 c3 c4 Hbl Hkl
  go_enter Try.func8, Try.ntmps8
  go_wp2_with (refine wp_alloc_arr (k := .u8) rfl 23 rfl 16 zero16 ?_)
  intro w1 g6 G1 H1 Hb1 Hs1
  go_wp2_with fail
  refine (c1 _).mono ?_
  rintro e w2 ⟨rfl, rfl⟩
  go_wp2_with fail
  refine (c2 _ Hb1.out).mono ?_
  rintro e w3 ⟨rfl, hb⟩
  have H2 := Lib.hid (H1.out.below hb H1.out.lt)
  have B2 := Lib.hid (abon Hb1.out hb)
  have Hg : Hid (w.heap.size ≤ g6 ∧ g6 < w3.heap.size) := Lib.hid (by have := G1.out; have := H2.out.lt; omega)
  clear hb H1 Hb1 Hs1 G1
  go_wp2_with (refine wp_alloc_arr (k := .u8) rfl 40 rfl 240 zeroKeysR ?_)
  intro w4 g8 G4 H4 Hb4 Hs4
  go_wp2_with (refine wp_put_w arrKeysR rfl (.tmp 8) (.tmp 25) rfl rfl (l' := K) rfl H4.out (Zs_length _) Hkl.out ?_)
  intro w5 H5 Hm5 Hs5
  have Hg2 : Hid (g6 ≠ g8 ∧ w.heap.size ≤ g8) := Lib.hid (by have := G4.out; have := Hg.out; omega)
  have F1 : Hid (SK w [(g6, 23, Zs 16), (g8, 40, K)] w5) := Lib.hid ⟨by
    have h1 := (H2.out.below Hb4.out H2.out.lt).moves Hm5.out Hg2.out.1
    intro x hx
    simp only [List.mem_cons, List.not_mem_nil, or_false] at hx
    rcases hx with rfl | rfl
    · exact h1
    · exact H5.out, by
    have h := abon B2.out Hb4.out
    exact h.trans (Hm5.out.below (fun j hj => by rw [hj]; exact Hg2.out.2) h.size)⟩
  have Hne : Hid (∀ x ∈ [(g8, 40, K)], x.1 ≠ g6) := Lib.hid (by
    have h5 := Hg2.out
    intro x hx
    simp only [List.mem_cons, List.not_mem_nil, or_false] at hx
    rcases hx with rfl
    exact h5.1.symm)
  clear H2 B2 H4 Hb4 Hs4 G4 H5 Hm5 Hs5
  go_wp2_with fail
  refine wp_region_ends (fun w' => SK w [(g6, 23, Zs 16), (g8, 40, K)] w') 5 (by kernel_rfl) ?_
  refine wpAnyE_take (i := 0) (some 27) rfl rfl (by kernel_rfl) (fun _ _ _ h => h) (yields_arr (k := .u8) (l := K) (off := 0) (b := g8) (by rfl) _ rfl rfl (fun w' h => sk_range (t := 40) (l := K) h (by simp)) arrKeysR.under rfl (by rw [Hkl.out]; exact arrKeysR.size)) (sk_drewN F1.out 1) ?_
  simp only [Act.put, List.setIfInBounds_toArray, List.set_cons_zero, List.set_cons_succ]
  refine wpAnyE_take (i := 1) (v := .slice C 16 d) (some 28) rfl rfl (by kernel_rfl) (fun _ _ _ h => h) (.inl ⟨by rfl, fun W _ => rfl⟩) (sk_drewN F1.out 1) ?_
  simp only [Act.put, List.setIfInBounds_toArray, List.set_cons_zero, List.set_cons_succ]
  refine wpAnyE_take (i := 2) (v := .int .i64 (i : Int)) (some 29) rfl rfl (by kernel_rfl) (fun _ _ _ h => h) (.inl ⟨by rfl, fun W _ => rfl⟩) (sk_drewN F1.out 1) ?_
  simp only [Act.put, List.setIfInBounds_toArray, List.set_cons_zero, List.set_cons_succ]
  refine wpAnyE_one (i := 3) (by kernel_rfl) rfl (fun K1 hK1 => ?_)
  refine stepE_call (v := .agg (Nums .u8 M)) (R := fun w' => Below _ _ w') (some 30) rfl rfl 21 Try.func21 (by kernel_rfl) rfl _ _ rfl [.slice C 16 d, .int .i64 (i : Int)] rfl (c3 _ (sk_drewN F1.out 1).2) (fun W1 hW => hK1.out _ _ (.inr (sk_below (sk_drewN F1.out 1) hW)) ?_)
  have F2 := Lib.hid (sk_below (sk_drewN F1.out 1) hW)
  clear hW hK1 K1
  simp only [Act.put, List.setIfInBounds_toArray, List.set_cons_zero, List.set_cons_succ]
  refine wpAnyE_one (i := 4) (by kernel_rfl) rfl (fun K2 hK2 => ?_)
  refine stepE_call (v := .agg (Nums .u8 L)) (R := fun w' => Below _ _ w') (some 31) rfl rfl 20 Try.func20 (by kernel_rfl) rfl _ _ rfl [.agg (Nums .u8 K), .agg (Nums .u8 M)] rfl (c4 _) (fun W2 hW => hK2.out _ _ (.inr (sk_below (F2.out) hW)) ?_)
  have F3 := Lib.hid (sk_below (F2.out) hW)
  clear hW hK2 K2
  simp only [Act.put, List.setIfInBounds_toArray, List.set_cons_zero, List.set_cons_succ]
  refine wpAnyE_one (i := 5) (by kernel_rfl) rfl (fun K3 hK3 => ?_)
  refine stepE_put arr16 none rfl rfl _ _ rfl rfl rfl (sk_hd F3.out) (Zs_length _) Hbl.out (fun W5 A5 M5 _ => hK3.out _ _ (.inl rfl) ?_)
  have F5 := Lib.hid (sk_put F3.out M5.out A5.out Hne.out Hg.out.1)
  clear A5 M5 hK3 K3
  refine wpAnyE_one (i := 6) (by kernel_rfl) rfl (fun K4 hK4 => ?_)
  go_simp
  refine hK4.out _ _ (.inl rfl) ?_
  clear hK4 K4
  refine wpAnyE_done (by kernel_rfl) ?_
  go_wp2
  exact ret_two arr16w rfl rfl (sk_hd F5.out) Hbl.out rfl rfl ⟨rfl, F5.out.2⟩

end Go.Proofs.Ytfkfkmdnffpcmaa

/-
  What a call ends in that answers bytes which lie in new memory or not, alone or with a fault. No program is named here.
-/
namespace Go.Proofs.Ytfkfkmdnffpcmaa
open Go.RowKit

/-- Bytes to be read. -/
def NewR (w : World) (l : List UInt8) (en : Ending) (w' : World) : Prop :=
  ∃ A c, en = .returned (.slice A l.length c) ∧ Rd w' w'.heap.size A l.length (Byt l) ∧ SlOK A l.length c ∧ Below w.heap.size w w'
/-- .. and a fault. -/
def NewRF (w : World) (l : List UInt8) (f : Int) (en : Ending) (w' : World) : Prop :=
  ∃ A c, en = .returned (.tuple #[.slice A l.length c, .int .i64 f]) ∧ Rd w' w'.heap.size A l.length (Byt l) ∧ SlOK A l.length c ∧ Below w.heap.size w w'
theorem NewB.newR {e : TypeId} {w w' : World} {l : List UInt8} {en : Ending} (h : NewB e w l en w') : NewR w l en w' := by
  obtain ⟨A, c, rfl, ho, hb⟩ := h
  exact ⟨A, c, rfl, Rd.of_own ho, SlOK.of_own ho, hb⟩
/-- A row that is owned stays, where another one has grown. -/
theorem own_grown {w w' : World} {base : Nat} {e : TypeId} {v : Value} {n : Nat} {xs : List Value} {row : Option Nat} (h : w.ownsRow base e 1 v n xs) (hg : w.grownBy w' row) (hne : ∀ k, v.ownBlock = some k → some k ≠ row) : w'.ownsRow base e 1 v n xs := by
  refine ⟨h.1, ?_⟩
  rcases h.2 with h' | ⟨g, cap, cur, rfl, hb, hh, hr⟩
  · exact .inl h'
  · exact .inr ⟨g, cap, cur, rfl, hb, by rw [hg.block g (Array.getElem?_eq_some_iff.1 hh).1 (hne g rfl)]; exact hh, hr⟩
/-- The first of what is read. -/
theorem Rd.front {w : World} {B n k : Nat} {A : Option Addr} {l : List UInt8} (h : Rd w B A n (Byt l)) (hk : k ≤ n) : Rd w B A k (Byt (l.take k)) := by
  have hl := h.bytes
  refine ⟨by rw [Byt_length, List.length_take]; omega, fun h0 => ?_⟩
  obtain ⟨b, o, e, hb, hc⟩ := h.2 (by omega)
  refine ⟨b, o, e, hb, fun j u hu => hc j u ?_⟩
  rw [Byt_take, List.getElem?_take] at hu
  split at hu
  · exact hu
  · cases hu

end Go.Proofs.Ytfkfkmdnffpcmaa

namespace Go.Proofs.Ytfkfkmdnffpcmaa
open Go.RowKit

theorem rcstream_form (m d n c : Nat) (A C : Option Addr) (z : Int) (w : World) (h : m ≠ 32 ∨ n ≠ 16) :
    Calls Try.prog 10 #[.slice A m d, .slice C n c, .int .i64 z] w (NewRF w [] 4) := by
  have c1 := fun W => rright_any m d n c A C W
  rw [decide_eq_false (by omega)] at c1
  go_enter Try.func10, Try.ntmps10
  go_wp2_with fail
  refine (c1 _).mono ?_
  rintro e w1 ⟨rfl, rfl⟩
  go_wp2
  go_ret2
  exact ⟨none, 0, rfl, Rd.nil, SlOK.nil, Below.refl _ _⟩
theorem rcstream_range (d c : Nat) (A C : Option Addr) (z : Int) (w : World) (hz : z < 0 ∨ 65536 < z) :
    Calls Try.prog 10 #[.slice A 32 d, .slice C 16 c, .int .i64 z] w (NewRF w [] 2) := by
  have c1 := fun W => rright_any 32 d 16 c A C W
  rw [decide_eq_true (by omega)] at c1
  rcases hz with hz | hz
  all_goals
    go_enter Try.func10, Try.ntmps10
    go_wp2_with fail
    refine (c1 _).mono ?_
    rintro e w1 ⟨rfl, rfl⟩
    go_wp2
    go_ret2
    exact ⟨none, 0, rfl, Rd.nil, SlOK.nil, Below.refl _ _⟩

set_option maxHeartbeats 3200000 in
theorem rcstream_any (key s : List UInt8) (c d B n : Nat) (A C : Option Addr) (w : World) (hr : Rd w B A 32 (Byt key)) (hs : Rd w B C 16 (Byt s)) (hB : B ≤ w.heap.size) (hn : n ≤ 65536) :
    Calls Try.prog 10 #[.slice A 32 c, .slice C 16 d, .int .i64 (n : Int)] w (NewRF w (cstreamU (akeysU key) s n) 0) := by
  have c1 := fun W => rright_any 32 c 16 d A C W
  rw [decide_eq_true (by omega)] at c1
  have hk : (akeysU key).length = 240 := akeys_length hr.bytes
  have hsl := hs.bytes
  have Hr := Lib.hid hr
  have Hs := Lib.hid hs
  have c2 := fun W (h : Below w.heap.size w W) => rasched_key key c B A W (Hr.out.below (h.mono hB)) (Nat.le_trans hB h.size)
  have c3 := fun i W (h : Below w.heap.size w W) hi => rcounter_any s i B d C W (Hs.out.below (h.mono hB)) (Nat.le_trans hB h.size) hi
  have c4 : ∀ i W, Calls Try.prog 20 #[.agg (Nums .u8 (abn (akeysU key))), .agg (Nums .u8 (abn (cplusU s i)))] W (AnsA W .u8 (abn (cblkU (akeysU key) s i))) := fun i W => raenc_any (akeysU key) (cplusU s i) W hk (cplus_length hsl)
  have Hkl : Hid ((abn (akeysU key)).length = 240) := Lib.hid (by rw [abn_length, hk])
  have Hbl : Hid (∀ i, (cblkU (akeysU key) s i).length = 16) := Lib.hid (cblk_length hk)
  have Hstep : Hid (∀ i, cblksU (akeysU key) s i ++ cblkU (akeysU key) s i = cblksU (akeysU key) s (i + 1)) := Lib.hid (fun _ => rfl)
  have H0 : Hid (cblksU (akeysU key) s 0 = []) := Lib.hid rfl
  have Hfin : Hid (∀ m, n ≤ 16 * m → (cblksU (akeysU key) s m).take n = cstreamU (akeysU key) s n) := Lib.hid (fun m h => cblks_take hk h)
  have Hlen := Lib.hid (cstream_length (s := s) hk n)
  clear hr hs hk hsl Hr Hs
  revert c2 c3 c4 Hkl Hbl Hstep H0 Hfin Hlen
  generalize cstreamU (akeysU key) s n = X
  generalize cblksU (akeysU key) s = bs
  generalize cblkU (akeysU key) s = bl
  generalize abn (akeysU key) = K
  generalize cplusU s = ct
  intro c2 c3 c4 Hkl Hbl Hstep H0 Hfin Hlen
  go_enter Try.func10, Try.ntmps10
  go_wp2_with fail
  refine (c1 _).mono ?_
  rintro e w1 ⟨rfl, hw1⟩
  have hw1 := hw1.symm
  subst hw1
  go_wp2_with fail
  refine (c2 _ (Below.refl _ _)).mono ?_
  rintro e w2 ⟨rfl, hb⟩
  have B2 := Lib.hid hb
  clear hb c1 c2
  go_wp2_with (refine wp_alloc_arr (k := .u8) rfl 40 rfl 240 zeroKeysR ?_)
  intro w4 g8 G4 H4 Hb4 Hs4
  go_wp2_with (refine wp_put_w arrKeysR rfl (.tmp 8) (.tmp 27) rfl rfl (l' := K) rfl H4.out (Zs_length _) Hkl.out ?_)
  intro w5 H5 Hm5 Hs5
  have Hg8 : Hid (w.heap.size ≤ g8) := Lib.hid (by have := G4.out; have := B2.out.size; omega)
  have B5 : Hid (Below w.heap.size w w5) := Lib.hid (by
    have h := abon B2.out Hb4.out
    exact h.trans (Hm5.out.below (fun j hj => by rw [hj]; exact Hg8.out) h.size))
  clear B2 H4 Hb4 Hs4 G4 Hm5 Hs5
  -- what is owned lies behind w5's blocks
  have Hg8' : Hid (g8 < w5.heap.size) := Lib.hid H5.out.lt
  have hbs5 := B5.out.size
  obtain ⟨D, hD⟩ : ∃ D, w5.heap.size = D := ⟨_, rfl⟩
  have B5r : Hid (Below D w5 w5) := Lib.hid (Below.refl _ _)
  have Hd : Hid (w.heap.size ≤ D ∧ g8 < D) := Lib.hid (by have := Hg8'.out; omega)
  have HD5 : Hid (D ≤ w5.heap.size) := Lib.hid (by omega)
  have Hnil : Hid (w5.ownsRow D 5 1 (.slice none 0 0) 0 (Byt (bs 0))) := Lib.hid (by rw [H0.out]; exact World.ownsRow_nil _ _ _ _)
  clear hD hbs5
  go_wp2
  go_loopw [10, 11] (fun v u wr => ∃ (i p c' : Nat) (A' : Option Addr), v = .slice A' p c' ∧ u = .int .i64 (i : Int) ∧ p < n + 16 ∧ Hid (16 * i = p) ∧ (p = 0 → A' = none ∧ c' = 0) ∧ Hid (wr.ownsRow D 5 1 (.slice A' p c') p (Byt (bs i))) ∧ Hid (Below D w5 wr) ∧ Hid (D ≤ wr.heap.size)) (fun v _ _ => match v with | .slice _ p _ => n - p | _ => 0)
  case atStart => exact ⟨0, 0, 0, none, rfl, rfl, by omega, Lib.hid rfl, fun _ => ⟨rfl, rfl⟩, Hnil, B5r, HD5⟩
  case round =>
    clear Hnil B5r HD5
    obtain ⟨i, p, c', A', rfl, rfl, hp, Hp, h0, Hown, Hb, HDr⟩ := hrel
    by_cases hlt : p < n
    · clear h0
      have HK : Hid (Arr wr g8 40 .u8 K) := Lib.hid (H5.out.below Hb.out Hd.out.2)
      have BW : Hid (Below w.heap.size w wr) := Lib.hid (B5.out.trans (Hb.out.mono Hd.out.1))
      have c5 : ∀ W, Below wr.heap.size wr W → Calls Try.prog 21 #[.slice C 16 d, .int .i64 (i : Int)] W (AnsA W .u8 (abn (ct i))) := fun W h => c3 i W (abon BW.out h) (by have := Hp.out; omega)
      have c6 := c4 i
      have Hbi : Hid ((abn (bl i)).length = 16) := Lib.hid (by rw [abn_length, Hbl.out])
      revert c5 c6 Hbi
      generalize abn (ct i) = M
      generalize hL : abn (bl i) = L
      intro c5 c6 Hbi
      have HL := Lib.hid hL
      clear hL
      go_wp2_with fail
      refine wp_region_to (fun g a => (((((a.put (some 35) (.agg (Nums .u8 K))).put (some 36) (.slice C 16 d)).put (some 37) (.int .i64 (i : Int))).put (some 38) (.agg (Nums .u8 M))).put (some 39) (.agg (Nums .u8 L))).put (some 12) (.pointer (some ⟨g, 0, none⟩))) (fun g w' => Below wr.heap.size wr w' ∧ Arr w' g 23 .u8 L ∧ wr.heap.size ≤ g) ?_ ?_
      · refine wp_region_heldD (S := fun w' => Below wr.heap.size wr w') (by kernel_rfl) ?_
        refine wpAnyH_takeD (i := 0) (some 35) rfl rfl (by kernel_rfl) (fun _ _ _ h => by cases h.1) (yields_arr (k := .u8) (l := K) (off := 0) (b := g8) (by rfl) _ rfl rfl (fun w' h => (HK.out.below h HK.out.lt).range (fun j x hx => by rw [Nat.zero_add]; exact hx)) arrKeysR.under rfl (by rw [Hkl.out]; exact arrKeysR.size)) ((bdrewN (Below.refl _ _) 1 : Below wr.heap.size wr (wr.drewN 1))) ?_
        simp only [Act.put, List.setIfInBounds_toArray, List.set_cons_zero, List.set_cons_succ]
        refine wpAnyH_takeD (i := 1) (v := .slice C 16 d) (some 36) rfl rfl (by kernel_rfl) (fun _ _ _ h => by cases h.1) (.inl ⟨by rfl, fun W _ => rfl⟩) ((bdrewN (Below.refl _ _) 1 : Below wr.heap.size wr (wr.drewN 1))) ?_
        simp only [Act.put, List.setIfInBounds_toArray, List.set_cons_zero, List.set_cons_succ]
        refine wpAnyH_takeD (i := 2) (v := .int .i64 (i : Int)) (some 37) rfl rfl (by kernel_rfl) (fun _ _ _ h => by cases h.1) (.inl ⟨by rfl, fun W _ => rfl⟩) ((bdrewN (Below.refl _ _) 1 : Below wr.heap.size wr (wr.drewN 1))) ?_
        simp only [Act.put, List.setIfInBounds_toArray, List.set_cons_zero, List.set_cons_succ]
        refine wpAnyH_twoD (i := 3) (j := 5) (by kernel_rfl) rfl rfl (fun K1 hK1 => ?_) (fun K1 hK1 => ?_)
        · refine stepE_callW (v := .agg (Nums .u8 M)) (R := fun w' => Below _ _ w') (some 38) rfl (by rfl) 21 Try.func21 (by kernel_rfl) rfl _ _ rfl [.slice C 16 d, .int .i64 (i : Int)] rfl (c5 _ ((bdrewN (Below.refl _ _) 1 : Below wr.heap.size wr (wr.drewN 1)))) (fun WQ1 hW => hK1.out _ _ (abon ((bdrewN (Below.refl _ _) 1 : Below wr.heap.size wr (wr.drewN 1))) hW) ?_)
          have Q1 := Lib.hid (abon ((bdrewN (Below.refl _ _) 1 : Below wr.heap.size wr (wr.drewN 1))) hW)
          clear hW hK1 K1
          simp only [Act.put, List.setIfInBounds_toArray, List.set_cons_zero, List.set_cons_succ]
          refine wpAnyH_twoD (i := 4) (j := 5) (by kernel_rfl) rfl rfl (fun K1 hK1 => ?_) (fun K1 hK1 => ?_)
          · refine stepE_callW (v := .agg (Nums .u8 L)) (R := fun w' => Below _ _ w') (some 39) rfl (by rfl) 20 Try.func20 (by kernel_rfl) rfl _ _ rfl [.agg (Nums .u8 K), .agg (Nums .u8 M)] rfl (c6 _) (fun WQ2 hW => hK1.out _ _ (abon (Q1.out) hW) ?_)
            have Q2 := Lib.hid (abon (Q1.out) hW)
            clear hW hK1 K1
            simp only [Act.put, List.setIfInBounds_toArray, List.set_cons_zero, List.set_cons_succ]
            refine wpAnyH_oneD (i := 5) (by kernel_rfl) rfl (fun K1 hK1 => ?_)
            refine stepE_alloc (k := .u8) (some 12) rfl rfl 23 rfl 16 zero16 (fun WQ3 g G HA hW => hK1.out _ _ (abon (Q2.out) hW.out) ?_)
            have Q3 := Lib.hid (abon (Q2.out) hW.out)
            have Gg : Hid (wr.heap.size ≤ g) := Lib.hid (by rw [G.out]; exact (Q2.out).size)
            clear hW hK1 K1 G
            simp only [Act.put, List.setIfInBounds_toArray, List.set_cons_zero, List.set_cons_succ]
            refine wpAnyH_oneD (i := 6) (by kernel_rfl) rfl (fun K1 hK1 => ?_)
            refine stepE_put arr16 none rfl rfl _ _ rfl rfl rfl HA.out (Zs_length _) Hbi.out (fun W9 A9 M9 _ => hK1.out _ _ (Q3.out.trans (M9.out.below (fun j hj => by rw [hj]; exact Gg.out) (Q3.out).size)) ?_)
            refine wpAnyH_doneD (by kernel_rfl) ⟨rfl, g, rfl, Q3.out.trans (M9.out.below (fun j hj => by rw [hj]; exact Gg.out) (Q3.out).size), A9.out, Gg.out⟩
          · refine stepE_alloc (k := .u8) (some 12) rfl rfl 23 rfl 16 zero16 (fun WQ2 g G HA hW => hK1.out _ _ (abon (Q1.out) hW.out) ?_)
            have Q2 := Lib.hid (abon (Q1.out) hW.out)
            have Gg : Hid (wr.heap.size ≤ g) := Lib.hid (by rw [G.out]; exact (Q1.out).size)
            clear hW hK1 K1 G
            simp only [Act.put, List.setIfInBounds_toArray, List.set_cons_zero, List.set_cons_succ]
            refine wpAnyH_oneD (i := 4) (by kernel_rfl) rfl (fun K1 hK1 => ?_)
            refine stepE_callW (v := .agg (Nums .u8 L)) (R := fun w' => Below _ _ w') (some 39) rfl (by rfl) 20 Try.func20 (by kernel_rfl) rfl _ _ rfl [.agg (Nums .u8 K), .agg (Nums .u8 M)] rfl (c6 _) (fun WQ3 hW => hK1.out _ _ (abon (Q2.out) hW) ?_)
            have Q3 := Lib.hid (abon (Q2.out) hW)
            replace HA := Lib.hid (HA.out.below hW HA.out.lt)
            clear hW hK1 K1
            simp only [Act.put, List.setIfInBounds_toArray, List.set_cons_zero, List.set_cons_succ]
            refine wpAnyH_oneD (i := 6) (by kernel_rfl) rfl (fun K1 hK1 => ?_)
            refine stepE_put arr16 none rfl rfl _ _ rfl rfl rfl HA.out (Zs_length _) Hbi.out (fun W9 A9 M9 _ => hK1.out _ _ (Q3.out.trans (M9.out.below (fun j hj => by rw [hj]; exact Gg.out) (Q3.out).size)) ?_)
            refine wpAnyH_doneD (by kernel_rfl) ⟨rfl, g, rfl, Q3.out.trans (M9.out.below (fun j hj => by rw [hj]; exact Gg.out) (Q3.out).size), A9.out, Gg.out⟩
        · refine stepE_alloc (k := .u8) (some 12) rfl rfl 23 rfl 16 zero16 (fun WQ1 g G HA hW => hK1.out _ _ (abon ((bdrewN (Below.refl _ _) 1 : Below wr.heap.size wr (wr.drewN 1))) hW.out) ?_)
          have Q1 := Lib.hid (abon ((bdrewN (Below.refl _ _) 1 : Below wr.heap.size wr (wr.drewN 1))) hW.out)
          have Gg : Hid (wr.heap.size ≤ g) := Lib.hid (by rw [G.out]; exact ((bdrewN (Below.refl _ _) 1 : Below wr.heap.size wr (wr.drewN 1))).size)
          clear hW hK1 K1 G
          simp only [Act.put, List.setIfInBounds_toArray, List.set_cons_zero, List.set_cons_succ]
          refine wpAnyH_oneD (i := 3) (by kernel_rfl) rfl (fun K1 hK1 => ?_)
          refine stepE_callW (v := .agg (Nums .u8 M)) (R := fun w' => Below _ _ w') (some 38) rfl (by rfl) 21 Try.func21 (by kernel_rfl) rfl _ _ rfl [.slice C 16 d, .int .i64 (i : Int)] rfl (c5 _ (Q1.out)) (fun WQ2 hW => hK1.out _ _ (abon (Q1.out) hW) ?_)
          have Q2 := Lib.hid (abon (Q1.out) hW)
          replace HA := Lib.hid (HA.out.below hW HA.out.lt)
          clear hW hK1 K1
          simp only [Act.put, List.setIfInBounds_toArray, List.set_cons_zero, List.set_cons_succ]
          refine wpAnyH_oneD (i := 4) (by kernel_rfl) rfl (fun K1 hK1 => ?_)
          refine stepE_callW (v := .agg (Nums .u8 L)) (R := fun w' => Below _ _ w') (some 39) rfl (by rfl) 20 Try.func20 (by kernel_rfl) rfl _ _ rfl [.agg (Nums .u8 K), .agg (Nums .u8 M)] rfl (c6 _) (fun WQ3 hW => hK1.out _ _ (abon (Q2.out) hW) ?_)
          have Q3 := Lib.hid (abon (Q2.out) hW)
          replace HA := Lib.hid (HA.out.below hW HA.out.lt)
          clear hW hK1 K1
          simp only [Act.put, List.setIfInBounds_toArray, List.set_cons_zero, List.set_cons_succ]
          refine wpAnyH_oneD (i := 6) (by kernel_rfl) rfl (fun K1 hK1 => ?_)
          refine stepE_put arr16 none rfl rfl _ _ rfl rfl rfl HA.out (Zs_length _) Hbi.out (fun W9 A9 M9 _ => hK1.out _ _ (Q3.out.trans (M9.out.below (fun j hj => by rw [hj]; exact Gg.out) (Q3.out).size)) ?_)
          refine wpAnyH_doneD (by kernel_rfl) ⟨rfl, g, rfl, Q3.out.trans (M9.out.below (fun j hj => by rw [hj]; exact Gg.out) (Q3.out).size), A9.out, Gg.out⟩
      · rintro g w6 ⟨hb6, hA6, hg6⟩
        have HA6 := Lib.hid hA6
        have Hb6 : Hid (Below D w5 w6) := Lib.hid (Hb.out.trans (hb6.mono HDr.out))
        have HD6 : Hid (D ≤ w6.heap.size) := Lib.hid (Nat.le_trans HDr.out hb6.size)
        have Hown6 : Hid (w6.ownsRow D 5 1 (.slice A' p c') p (Byt (bs i ++ (bl i).take 0))) := Lib.hid (by rw [List.take_zero, List.append_nil]; exact own_below Hown.out hb6 (Nat.le_refl _))
        have Hlt6 : Hid (∀ k, (Value.slice A' p c').ownBlock = some k → k ≠ g) := Lib.hid (fun k hk => by have := (Hown.out.lt k hk).2; omega)
        clear hb6 hA6 hg6 Hown HK BW c5 c6 Hb HDr
        simp only [Act.put, List.setIfInBounds_toArray, List.set_cons_zero, List.set_cons_succ]
        have Hbn : Hid (∀ j, j < 16 → ∃ x : UInt8, (bl i).take (j + 1) = (bl i).take j ++ [x] ∧ L[j]? = some x.toNat) := Lib.hid (fun j hj => by
          have hl := Hbl.out i
          have e := List.getElem?_eq_getElem (show j < (bl i).length by omega)
          exact ⟨(bl i)[j], by rw [List.take_add_one, e]; rfl, by rw [← HL.out]; exact abn_get e⟩)
        go_wp2
        go_loopw [10, 13] (fun v u wq => ∃ (j q c1 : Nat) (A1 : Option Addr), j ≤ 16 ∧ v = .slice A1 q c1 ∧ u = .int .i64 (j : Int) ∧ Hid (q = p + j) ∧ Hid (wq.ownsRow D 5 1 (.slice A1 q c1) q (Byt (bs i ++ (bl i).take j))) ∧ Hid (Arr wq g 23 .u8 L) ∧ Hid (∀ k, (Value.slice A1 q c1).ownBlock = some k → k ≠ g) ∧ Hid (Below D w5 wq) ∧ Hid (D ≤ wq.heap.size)) (fun _ u _ => 16 - (intOf u).toNat)
        case atStart => exact ⟨0, p, c', A', by omega, rfl, rfl, Lib.hid rfl, Hown6, HA6, Hlt6, Hb6, HD6⟩
        case round =>
          clear Hown6 HA6 Hlt6 Hb6 HD6
          obtain ⟨j, q, c1, A1, hj, rfl, rfl, Hq, Hown, HA, Hne, Hb, HDw⟩ := hrel
          by_cases hlj : j < 16
          · obtain ⟨x, hx1, hx2⟩ := Hbn.out j hlj
            have hcl := HA.out.at_ hx2
            have Hx1 := Lib.hid hx1
            have hqb : q ≤ 65600 := by have := Hq.out; omega
            clear hx1 hx2
            go_wp2_with (refine wp_append_foot rfl _ _ 22 rfl 5 Try.underlying22 (.int .u8 0) 1 (by omega) rfl Try.info_u8 D q c1 A1 _ rfl (Hown.out.alloc _) (wr.heap.size + 1) 1 1 _ _ rfl (Rd.new wr _ #[.int .u8 (x.toNat : Int)] rfl) (.inr ⟨_, rfl, Nat.le_refl _, by decide⟩) (by intro u hu; simp at hu; subst hu; rfl) (by omega) (by have := HDw.out; simp; omega) ?_)
            intro A2 c2 w7 hown7 hg7 hat7
            have HA7 : Hid (Arr w7 g 23 .u8 L) := Lib.hid ((hg7.block g (by have := HA.out.lt; simp; omega) (fun e => Hne.out g e.symm rfl)).trans (HA.out.alloc _))
            have Hne7 : Hid (∀ k, (Value.slice A2 (q + 1) c2).ownBlock = some k → k ≠ g) := Lib.hid (fun k hk => by
              rcases hat7 with h | h
              · rw [h] at hk
                exact Hne.out k hk
              · rw [h] at hk
                injection hk with hk
                have := HA.out.lt
                omega)
            have Hb7 : Hid (Below D w5 w7) := Lib.hid ((Hb.out.alloc HDw.out _).grown hg7 (by have := HDw.out; simp; omega) (fun k hk => (Hown.out.lt k hk).1))
            have HD7 : Hid (D ≤ w7.heap.size) := Lib.hid (by have h := hg7.size; have := HDw.out; simp at h; omega)
            have Hown7 : Hid (w7.ownsRow D 5 1 (.slice A2 (q + 1) c2) (q + 1) (Byt (bs i ++ (bl i).take (j + 1)))) := Lib.hid (by
              rw [Hx1.out, ← List.append_assoc, Byt_append]
              exact hown7)
            clear hown7 hg7 hat7 Hown HA Hne Hb HDw
            go_wp2
            go_roundw
            case rel => exact ⟨j + 1, q + 1, c2, A2, by omega, rfl, by go_num, Lib.hid (by have := Hq.out; omega), Hown7, HA7, Hne7, Hb7, HD7⟩
            case measure => simp [intOf]; omega
          · obtain rfl : j = 16 := by omega
            have Hown8 : Hid (wr.ownsRow D 5 1 (.slice A1 q c1) q (Byt (bs (i + 1)))) := Lib.hid (by
              have h := Hown.out
              rw [List.take_of_length_le (by rw [Hbl.out]; omega), Hstep.out] at h
              exact h)
            clear Hown HA Hne
            have hib : i ≤ 65535 := by have := Hp.out; omega
            go_wp2
            go_roundw
            case rel => exact ⟨i + 1, q, c1, A1, rfl, by go_num, by have := Hq.out; omega, Lib.hid (by have := Hp.out; have := Hq.out; omega), fun h => by have := Hq.out; omega, Hown8, Hb, HDw⟩
            case measure => have := Hq.out; show n - q < n - p; omega
    · have hcov : n ≤ p := by omega
      have Hx : Hid ((bs i).take n = X) := Lib.hid (Hfin.out i (by have := Hp.out; omega))
      have BW : Hid (Below w.heap.size w wr) := Lib.hid (B5.out.trans (Hb.out.mono Hd.out.1))
      have hr := (Rd.of_own Hown.out).front hcov
      rw [Hx.out] at hr
      by_cases hn0 : n = 0
      · subst hn0
        have h0' := Hp.out
        obtain rfl : p = 0 := by omega
        obtain ⟨rfl, rfl⟩ := h0 rfl
        have Hf : Hid (NewRF w X 0 (.returned (.tuple #[.slice none 0 0, .int .i64 0])) wr) := Lib.hid ⟨_, 0, by rw [Hlen.out], by rw [Hlen.out]; exact hr, by rw [Hlen.out]; exact SlOK.nil, BW.out⟩
        clear hr Hx BW h0 h0'
        go_wp2
        go_ret2
        exact Hf.out
      · obtain ⟨g, rfl, -, -⟩ := own_some Hown.out (by omega)
        have hcap : p ≤ c' ∧ c' ≤ maxLen := (SlOK.of_own Hown.out).le
        have hcap2 : c' ≤ 9223372036854775807 := by unfold maxLen at hcap; omega
        have Hf : Hid (NewRF w X 0 (.returned (.tuple #[.slice (some ⟨g, 0, none⟩) n c', .int .i64 0])) wr) := Lib.hid ⟨_, c', by rw [Hlen.out], by rw [Hlen.out]; exact hr, .inr ⟨_, rfl, by rw [Hlen.out]; omega, hcap.2⟩, BW.out⟩
        have hsc : n ≤ c' := by omega
        clear hr Hx BW h0
        go_wp2
        go_ret2
        exact Hf.out

end Go.Proofs.Ytfkfkmdnffpcmaa

namespace Go.Proofs.Ytfkfkmdnffpcmaa
open Go.RowKit

theorem copied {α : Type} (X L : List α) (m n : Nat) (hX : X.length = m) : (X.take n ++ L.drop (min m n)).take n = X.take n ++ (L.take n).drop m := by
  by_cases h : m ≤ n
  · rw [Nat.min_eq_left h, List.take_of_length_le (show X.length ≤ n by omega), List.take_append, List.take_of_length_le (show X.length ≤ n by omega), hX, List.drop_take]
  · have hl : (X.take n).length = n := by rw [List.length_take]; omega
    rw [List.take_append, hl, Nat.sub_self, List.take_zero, List.take_take, Nat.min_self, List.drop_eq_nil_of_le (by rw [List.length_take]; omega)]

/-- 'copy(out, src)': out a row of the call's own, from its head on. -/
theorem wp_copy_bytes {P : Program} {w : World} {ops : Array Oper} {rest : List Oper} {o : Oper} {a : Act} {Q : Exit → Act → World → Prop} (hgd : o.guard = none) (d s : Operand) (dT sT : TypeId)
    (ho : o.op = .call { callee := .builtin .copy, args := #[d, s], argTypes := #[dT, sT] }) (e : TypeId) (hu : P.underlying dT = some (.slice e))
    (hinfo : (P.info? e).map (fun i => (i.zero, i.size, i.bytes)) = some (some (.int .u8 0), 1, 1))
    (g n c base : Nat) (dl : List UInt8) (hd : a.eval d = .slice (some ⟨g, 0, none⟩) n c) (hown : w.ownsRow base e 1 (.slice (some ⟨g, 0, none⟩) n c) n (Byt dl))
    (A : Option Addr) (m c' B : Nat) (xs : List UInt8) (hs : a.eval s = .slice A m c') (hx : Rd w B A m (Byt xs)) (w0 : World) (B0 : Nat) (hb : Below B0 w0 w) (hBg : B0 ≤ g)
    (h : ∀ w', w'.ownsRow base e 1 (.slice (some ⟨g, 0, none⟩) n c) n (Byt (xs.take n ++ dl.drop xs.length)) → Below B0 w0 w' → wpList P ops Q rest (a.put o.dst (goInt ((min m n : Nat) : Int))) w') :
    wpList P ops Q (o :: rest) a w := by
  obtain ⟨i0, hi, hz0, hz1, hz2⟩ := info_parts hinfo
  have hxl := hx.bytes
  have hdl := own_len hown
  rcases hown.2 with ⟨h', _⟩ | ⟨g', cap, cur, h', hg, hh, hnc, hcm, hcs, htake⟩
  · simp at h'
  simp only [Value.slice.injEq, Option.some.injEq, Addr.mk.injEq, and_true, true_and] at h'
  obtain ⟨rfl, rfl⟩ := h'
  have hcl : ((Byt xs).take n).length = min m n := by simp [Byt, hxl]; omega
  simp only [Nat.mul_one] at hcs htake
  refine wpList_copy_splice hgd d s dT sT ho e hu (by rw [hi, Option.map_some, hz1]) (some ⟨g, 0, none⟩) A n c m c' hd hs g 0 cur.toList e (by simpa using hh) ((Byt xs).take n) hcl ?_ ?_ ?_ B0 w0 hb hBg ?_
  · intro hpos
    obtain ⟨b, o, rfl, hb', hc⟩ := hx.2 (by omega)
    refine ⟨rfl, ⟨b, o, none⟩, rfl, fun j v hj => ?_⟩
    rw [add_flat]
    refine hc j v ?_
    rw [List.getElem?_take] at hj
    split at hj
    · exact hj
    · cases hj
  · rw [hcl, Array.length_toList]; omega
  · intro v hv
    exact Byt_one xs v (List.mem_of_mem_take hv)
  · intro w' hw' hb'
    rw [hcl]
    refine h w' ⟨?_, .inr ⟨g, c, _, rfl, hg, hw'.out, hnc, hcm, ?_, ?_⟩⟩ hb'
    · rw [Byt_length, List.length_append, List.length_take, List.length_drop]; omega
    · rw [List.size_toArray, length_splice _ _ _ (by rw [hcl, Array.length_toList]; omega), Array.length_toList, hcs, Nat.mul_one]
    · simp only [splice, List.take_zero, List.nil_append, Nat.zero_add, Nat.mul_one, hcl]
      rw [Byt_append, Byt_take, Byt_drop, ← htake, hxl, copied _ _ m n (by rw [Byt_length, hxl])]

/-- One byte more, in a region that draws its order: the byte stands in a new block of its own. -/
theorem step_append_byte {P : Program} {ops : Array Oper} {o : Oper} {a : Act} {w : World} {K : Act → World → Prop} {Q : Exit → Act → World → Prop} {E : Prop} (hgd : o.guard = none) (s x : Operand) (t : TypeId)
    (ho : o.op = .call { callee := .builtin .append, args := #[s, x], argTypes := #[t, t] }) (e : TypeId) (ht : P.underlying t = some (.slice e))
    (hinfo : (P.info? e).map (fun i => (i.zero, i.size, i.bytes)) = some (some (.int .u8 0), 1, 1))
    (base n c g1 : Nat) (A : Option Addr) (l : List UInt8) (hs : a.eval s = .slice A n c) (hx : a.eval x = .slice (some ⟨g1, 0, none⟩) 1 1)
    (hown : w.ownsRow base e 1 (.slice A n c) n (Byt l)) (z : Int) (b : UInt8) (hz : z = (b.toNat : Int)) (hcell : w.cell? ⟨g1, 0, none⟩ = some (.int .u8 z))
    (hn : n + 1 ≤ 140737488355328) (hbase : base ≤ w.heap.size) (w0 : World) (B0 : Nat) (hb : Below B0 w0 w) (hB0 : B0 ≤ base)
    (h : ∀ A' c' w', w'.ownsRow base e 1 (.slice A' (n + 1) c') (n + 1) (Byt (l ++ [b])) → Below B0 w0 w' → K (a.put o.dst (.slice A' (n + 1) c')) w') :
    if Region.wanted o (yielded ops a.tmps) = true then Oper.wp P o a w K Q else E := by
  obtain ⟨i0, hi, hz0, hz1, hz2⟩ := info_parts hinfo
  refine step_append_lies w hgd s x t ho base e i0 (.int .u8 0) 1 1 ht hi hz0 hz1 hz2 rfl (by omega) _ n (Byt l) hs hown ⟨g1, 0, none⟩ 1 1 (Byt [b]) hx rfl ?_ (Byt_one _) (by omega) (by unfold maxLen; omega) (by omega) hbase w.heap.size rfl ?_
  · intro j u hj
    match j, hj with
    | 0, hj =>
      simp [Byt] at hj
      subst hj
      rw [add_flat, hcell, hz]
    | j + 1, hj => simp [Byt] at hj
  · intro g cap w' hown' hg _ _
    rw [← Byt_append] at hown'
    refine h _ _ w' hown' (hb.grown hg (by omega) ?_)
    intro k hk
    have := (hown.lt k hk).1
    omega

end Go.Proofs.Ytfkfkmdnffpcmaa
