/-
  Some of the texts that the last one of these needs: walks of the functions that the law calls, and the mathematics of their answers.
-/
import Derived.Test.YtacbpdampdikjaaDoorPkBase5
import Derived.Test.YtacbpdampdikjaaDoorPkBase4
import Derived.WalkMore
import Derived.ScopeJumps
import Derived.Test.YtacbpdampdikjaaDoorPkBase1
import Derived.Test.YtacbpdampdikjaaDoorPkBase3
namespace Go.Proofs.YtacbpdampdikjaaDoor
open Go.RowKit

theorem gloop_zero (k : Nat) (b s : UInt8) : gloopU k 0 b s = s := by
  induction k generalizing b with
  | zero => rfl
  | succ k ih => unfold gloopU; exact ih _
theorem gloop_odd {k : Nat} {a b s : UInt8} (h : a.toNat % 2 = 1) : gloopU (k + 1) a b s = gloopU k (a / 2) (gtwiceU b) (s ^^^ b) := by
  rw [gloopU, if_pos h]
theorem gloop_even {k : Nat} {a b s : UInt8} (h : a.toNat % 2 = 0) : gloopU (k + 1) a b s = gloopU k (a / 2) (gtwiceU b) s := by
  rw [gloopU, if_neg (by omega)]
theorem and_one_u8 (a : UInt8) : bits .and .u8 (a.toNat : Int) 1 = ((a.toNat % 2 : Nat) : Int) := by
  have h := and_u8 a 1
  rw [odd_u8] at h
  exact h

set_option maxHeartbeats 1600000 in
theorem gmul_any (a b : UInt8) (w : World) :
    Calls Tryd.prog 99 #[.int .u8 (a.toNat : Int), .int .u8 (b.toNat : Int)] w (fun e w' => e = .returned (.int .u8 ((gmulU a b).toNat : Int)) ∧ w' = w) := by
  have Hm : Hid (gmulU a b = gloopU 8 a b 0) := Lib.hid rfl
  have Ha : Hid (a.toNat < 2 ^ 8) := Lib.hid a.toNat_lt
  revert Hm Ha
  generalize gmulU a b = m
  intro Hm Ha
  go_enter Tryd.func99, Tryd.ntmps99
  go_wp2
  go_step3
  go_wp2
  go_step3
  go_wp2
  go_loopw [0, 1, 5] (fun x y z wr => ∃ (k : Nat) (a' b' s' : UInt8), x = .int .u8 (a'.toNat : Int) ∧ y = .int .u8 (b'.toNat : Int) ∧ z = .int .u8 (s'.toNat : Int) ∧ Hid (a'.toNat < 2 ^ k) ∧ Hid (m = gloopU k a' b' s') ∧ wr = w) (fun x _ _ _ => (intOf x).toNat)
  case atStart => exact ⟨8, a, b, 0, rfl, rfl, rfl, Ha, Hm, rfl⟩
  case round =>
    obtain ⟨k, a', b', s', rfl, rfl, rfl, Hk, Hl, rfl⟩ := hrel
    by_cases h0 : a'.toNat = 0
    · have e0 : (a'.toNat : Int) = 0 := by omega
      have Hr : Hid (m = s') := Lib.hid (by rw [Hl.out, show a' = 0 from UInt8.toNat_inj.1 h0, gloop_zero])
      clear h0
      revert e0
      generalize (a'.toNat : Int) = z
      intro e0
      subst e0
      go_wp2
      rw [Exit.noGoto_ret]
      go_ret
      exact ⟨by rw [Hr.out]; rfl, rfl⟩
    · rcases k with _ | k
      · exact absurd Hk.out (by simp; omega)
      have e0 : ((a'.toNat : Int) == 0) = false := by simp; omega
      have hd : (a' / 2).toNat = a'.toNat / 2 := by rw [UInt8.toNat_div]; rfl
      have Hk' : Hid ((a' / 2).toNat < 2 ^ k) := Lib.hid (by have := Hk.out; rw [Nat.pow_succ] at this; omega)
      have hd' : (a'.toNat : Int) / 2 = ((a' / 2).toNat : Int) := by omega
      have hlt : Hid (((a' / 2).toNat : Int).toNat < (a'.toNat : Int).toNat) := Lib.hid (by omega)
      have hx := gxor_u8 s' b'
      have hc := fun w => gtwice_any b' w
      have ha := and_one_u8 a'
      rcases Nat.mod_two_eq_zero_or_one a'.toNat with h1 | h1
      · rw [h1] at ha
        have Hl' : Hid (m = gloopU k (a' / 2) (gtwiceU b') s') := Lib.hid (by rw [Hl.out, gloop_even h1])
        clear h1 h0 hd hx Hl Hk
        revert e0 Hk' hd' hlt hc ha Hl'
        generalize (a' / 2) = a2
        generalize (a'.toNat : Int) = z
        intro e0 Hk' hd' hlt hc ha Hl'
        go_wp2_with fail
        refine (hc _).mono ?_
        rintro e w1 ⟨rfl, rfl⟩
        go_wp2
        go_roundw
        case rel => exact ⟨k, a2, _, s', rfl, rfl, rfl, Hk', Hl', trivial⟩
        case measure => exact hlt.out
      · rw [h1] at ha
        have Hl' : Hid (m = gloopU k (a' / 2) (gtwiceU b') (s' ^^^ b')) := Lib.hid (by rw [Hl.out, gloop_odd h1])
        clear h1 h0 hd Hl Hk
        revert e0 Hk' hd' hlt hx hc ha Hl'
        generalize (a' / 2) = a2
        generalize (s' ^^^ b') = s2
        generalize (a'.toNat : Int) = z
        intro e0 Hk' hd' hlt hx hc ha Hl'
        go_wp2_with fail
        refine (hc _).mono ?_
        rintro e w1 ⟨rfl, rfl⟩
        go_wp2
        go_roundw
        case rel => exact ⟨k, a2, _, s2, rfl, rfl, rfl, Hk', Hl', trivial⟩
        case measure => exact hlt.out

end Go.Proofs.YtacbpdampdikjaaDoor

namespace Go.Proofs.YtacbpdampdikjaaDoor
open Go.RowKit

theorem and_one_i64 (N : Nat) (h : N < 256) : bits .and .i64 (N : Int) 1 = ((N % 2 : Nat) : Int) := by
  have h1 : ((List.range 256).all fun N => decide (bits .and .i64 (N : Int) 1 = ((N % 2 : Nat) : Int))) = true := by decide +kernel
  exact of_decide_eq_true (List.all_eq_true.1 h1 N (List.mem_range.2 h))
theorem gpow_even {b : UInt8} {N H : Nat} (h : N = 2 * H) : gpowU b N = gpowU (gmulU b b) H := by rw [gpow_sq, h]
theorem gpow_odd {b : UInt8} {N H : Nat} (h : N = 2 * H + 1) : gpowU b N = gmulU b (gpowU (gmulU b b) H) := by
  rw [gpow_sq, h, Nat.add_comm, gpow_add, show gpowU b 1 = b from gone_mul b]

set_option maxHeartbeats 3200000 in
set_option maxRecDepth 100000 in
theorem gpower_in (a : UInt8) (n0 : Int) (w : World) (hn : 1 ≤ n0 ∧ n0 ≤ 9223372036854775807) :
    Calls Tryd.prog 90 #[.int .u8 (a.toNat : Int), .int .i64 n0] w (fun e w' => e = .returned (.int .u8 ((gpowerU a n0).toNat : Int)) ∧ w' = w) := by
  obtain ⟨N, H, hN, hN1, hN2, hHN, Hm⟩ : ∃ N H : Nat, (n0 - 1) % 255 + 1 = (N : Int) ∧ 1 ≤ N ∧ N ≤ 255 ∧ H = N / 2 ∧ Hid (gpowerU a n0 = gmulU 1 (gpowU a N)) := by
    refine ⟨((n0 - 1) % 255 + 1).toNat, _, by omega, by omega, by omega, rfl, Lib.hid ?_⟩
    rw [gone_mul, gpowerU, gtimes, if_neg (by omega)]
  have hNH : (N : Int) / 2 = (H : Int) := by omega
  revert Hm
  generalize gpowerU a n0 = m
  intro Hm
  go_enter Tryd.func90, Tryd.ntmps90
  go_wp2
  refine wp_scope_jumps 0 (fun a' w' => w' = w ∧ ∃ (N : Nat) (b o : UInt8) (u6 u7 u8 u9 u10 u11 u12 u13 u14 u15 u16 u17 u18 u19 u20 u21 u22 u23 u24 u25 : Value), a' = { tmps := #[.int .u8 (b.toNat : Int), .int .i64 (N : Int), undef, undef, .int .u8 0, .int .u8 (o.toNat : Int), u6, u7, u8, u9, u10, u11, u12, u13, u14, u15, u16, u17, u18, u19, u20, u21, u22, u23, u24, u25], defers := [] } ∧ Hid (m = gmulU o (gpowU b N)) ∧ 1 ≤ N ∧ N ≤ 255) (fun a' _ => (intOf (a'.tmps.getD 1 undef)).toNat) rfl ?_ ?_
  · have hnn : n0 - 1 ≥ 0 := by omega
    rcases Nat.mod_two_eq_zero_or_one N with h1 | h1
    · have hand : bits .and .i64 (N : Int) 1 = 0 := by rw [and_one_i64 N (by omega), h1]; rfl
      rcases Nat.eq_zero_or_pos H with hH | hH
      · subst hH
        exact absurd h1 (by omega)
      · have hgt : (H : Int) > 0 := by omega
        have Hr : Hid (m = gmulU 1 (gpowU (gmulU a a) H)) := Lib.hid (by rw [Hm.out, gpow_even (N := N) (H := H) (by omega)])
        clear h1 hHN
        have hc2 := fun w => gmul_any a a w
        generalize gmulU a a = b2 at *
        go_wp2
        go_step3
        go_wp2_with fail
        refine (hc2 _).mono ?_
        rintro e w1 ⟨rfl, rfl⟩
        go_wp2
        (go_step3; exact ⟨rfl, rfl, H, b2, 1, _, _, _, _, _, _, _, _, _, _, _, _, _, _, _, _, _, _, _, _, rfl, Hr, by omega, by omega⟩)
    · have hand : bits .and .i64 (N : Int) 1 = 1 := by rw [and_one_i64 N (by omega), h1]; rfl
      rcases Nat.eq_zero_or_pos H with hH | hH
      · subst hH
        have Hr : Hid (m = gmulU 1 a) := Lib.hid (by rw [Hm.out, show N = 1 by omega]; show gmulU 1 (gmulU 1 a) = _; rw [gone_mul])
        clear h1 hHN
        have hc1 : ∀ w, Calls Tryd.prog 99 #[.int .u8 1, .int .u8 (a.toNat : Int)] w (fun e w' => e = .returned (.int .u8 ((gmulU 1 a).toNat : Int)) ∧ w' = w) := fun w => gmul_any 1 a w
        generalize gmulU 1 a = o2 at *
        go_wp2
        go_step3
        go_wp2_with fail
        refine (hc1 _).mono ?_
        rintro e w1 ⟨rfl, rfl⟩
        go_wp2
        (simp only [Exit.jump]; go_ret; exact ⟨by rw [Hr.out]; rfl, rfl⟩)
      · have hgt : (H : Int) > 0 := by omega
        have Hr : Hid (m = gmulU (gmulU 1 a) (gpowU (gmulU a a) H)) := Lib.hid (by rw [Hm.out, gpow_odd (N := N) (H := H) (by omega), gmul_assoc])
        clear h1 hHN
        have hc1 : ∀ w, Calls Tryd.prog 99 #[.int .u8 1, .int .u8 (a.toNat : Int)] w (fun e w' => e = .returned (.int .u8 ((gmulU 1 a).toNat : Int)) ∧ w' = w) := fun w => gmul_any 1 a w
        have hc2 := fun w => gmul_any a a w
        generalize gmulU 1 a = o2 at *
        generalize gmulU a a = b2 at *
        go_wp2
        go_step3
        go_wp2_with fail
        refine (hc1 _).mono ?_
        rintro e w1 ⟨rfl, rfl⟩
        go_wp2_with fail
        refine (hc2 _).mono ?_
        rintro e w1 ⟨rfl, rfl⟩
        go_wp2
        (go_step3; exact ⟨rfl, rfl, H, b2, o2, _, _, _, _, _, _, _, _, _, _, _, _, _, _, _, _, _, _, _, _, rfl, Hr, by omega, by omega⟩)
  · rintro a' w' ⟨rfl, N, b, o, u6, u7, u8, u9, u10, u11, u12, u13, u14, u15, u16, u17, u18, u19, u20, u21, u22, u23, u24, u25, rfl, Hm, hN1, hN2⟩
    obtain ⟨H, hHN⟩ : ∃ H, H = N / 2 := ⟨_, rfl⟩
    have hNH : (N : Int) / 2 = (H : Int) := by omega
    rcases Nat.mod_two_eq_zero_or_one N with h1 | h1
    · have hand : bits .and .i64 (N : Int) 1 = 0 := by rw [and_one_i64 N (by omega), h1]; rfl
      rcases Nat.eq_zero_or_pos H with hH | hH
      · subst hH
        exact absurd h1 (by omega)
      · have hgt : (H : Int) > 0 := by omega
        have Hr : Hid (m = gmulU o (gpowU (gmulU b b) H)) := Lib.hid (by rw [Hm.out, gpow_even (N := N) (H := H) (by omega)])
        clear h1 hHN
        have hc2 := fun w => gmul_any b b w
        generalize gmulU b b = b2 at *
        go_wp2_with fail
        refine (hc2 _).mono ?_
        rintro e w1 ⟨rfl, rfl⟩
        go_wp2
        (go_step3; exact ⟨rfl, ⟨rfl, H, b2, o, _, _, _, _, _, _, _, _, _, _, _, _, _, _, _, _, _, _, _, _, rfl, Hr, by omega, by omega⟩, by simp [intOf]; omega⟩)
    · have hand : bits .and .i64 (N : Int) 1 = 1 := by rw [and_one_i64 N (by omega), h1]; rfl
      rcases Nat.eq_zero_or_pos H with hH | hH
      · subst hH
        have Hr : Hid (m = gmulU o b) := Lib.hid (by rw [Hm.out, show N = 1 by omega]; show gmulU o (gmulU 1 b) = _; rw [gone_mul])
        clear h1 hHN
        have hc1 : ∀ w, Calls Tryd.prog 99 #[.int .u8 (o.toNat : Int), .int .u8 (b.toNat : Int)] w (fun e w' => e = .returned (.int .u8 ((gmulU o b).toNat : Int)) ∧ w' = w) := fun w => gmul_any o b w
        generalize gmulU o b = o2 at *
        go_wp2_with fail
        refine (hc1 _).mono ?_
        rintro e w1 ⟨rfl, rfl⟩
        go_wp2
        (simp only [Exit.jump]; go_ret; exact ⟨by rw [Hr.out]; rfl, rfl⟩)
      · have hgt : (H : Int) > 0 := by omega
        have Hr : Hid (m = gmulU (gmulU o b) (gpowU (gmulU b b) H)) := Lib.hid (by rw [Hm.out, gpow_odd (N := N) (H := H) (by omega), gmul_assoc])
        clear h1 hHN
        have hc1 : ∀ w, Calls Tryd.prog 99 #[.int .u8 (o.toNat : Int), .int .u8 (b.toNat : Int)] w (fun e w' => e = .returned (.int .u8 ((gmulU o b).toNat : Int)) ∧ w' = w) := fun w => gmul_any o b w
        have hc2 := fun w => gmul_any b b w
        generalize gmulU o b = o2 at *
        generalize gmulU b b = b2 at *
        go_wp2_with fail
        refine (hc1 _).mono ?_
        rintro e w1 ⟨rfl, rfl⟩
        go_wp2_with fail
        refine (hc2 _).mono ?_
        rintro e w1 ⟨rfl, rfl⟩
        go_wp2
        (go_step3; exact ⟨rfl, ⟨rfl, H, b2, o2, _, _, _, _, _, _, _, _, _, _, _, _, _, _, _, _, _, _, _, _, rfl, Hr, by omega, by omega⟩, by simp [intOf]; omega⟩)

set_option maxHeartbeats 400000 in
theorem gpower_out (a : UInt8) (n0 : Int) (w : World) (hn : n0 < 1) :
    Calls Tryd.prog 90 #[.int .u8 (a.toNat : Int), .int .i64 n0] w (fun e w' => e = .returned (.int .u8 ((gpowerU a n0).toNat : Int)) ∧ w' = w) := by
  have Hp : Hid (gpowerU a n0 = 1) := Lib.hid (by rw [gpowerU, gtimes, if_pos hn]; rfl)
  go_enter Tryd.func90, Tryd.ntmps90
  go_wp2
  go_step3
  go_wp2
  try rw [Exit.noGoto_ret]
  go_ret
  exact ⟨by rw [Hp.out]; rfl, rfl⟩

theorem gpower_any (a : UInt8) (n : Int) (w : World) (hn : -9223372036854775808 ≤ n ∧ n ≤ 9223372036854775807) :
    Calls Tryd.prog 90 #[.int .u8 (a.toNat : Int), .int .i64 n] w (fun e w' => e = .returned (.int .u8 ((gpowerU a n).toNat : Int)) ∧ w' = w) := by
  by_cases h : n < 1
  · exact gpower_out a n w h
  · exact gpower_in a n w ⟨by omega, hn.2⟩

end Go.Proofs.YtacbpdampdikjaaDoor

namespace Go.Proofs.YtacbpdampdikjaaDoor
open Go.RowKit

set_option maxRecDepth 4096 in
set_option maxHeartbeats 1600000 in
theorem achanged_any (a b c d : UInt8) (i : Nat) (w : World) (hi : i < 1000) :
    Calls Tryd.prog 70 #[.agg (Nums .u8 (four a b c d)), .int .i64 (i : Int)] w (AnsA w .u8 (abn (achgB gboxU i [a, b, c, d]))) := by
  have HR : Hid (abn (achgB gboxU i [a, b, c, d]) = if i % 8 = 0 then four (gboxU b ^^^ gpowerU 2 ((i / 8 : Nat) - 1 : Int)) (gboxU c) (gboxU d) (gboxU a) else if i % 4 = 0 then four (gboxU a) (gboxU b) (gboxU c) (gboxU d) else four a b c d) := Lib.hid (by
    simp only [achgB]
    split
    · rfl
    · split <;> rfl)
  have ca := fun w => gbox_any a w
  have cb := fun w => gbox_any b w
  have cc := fun w => gbox_any c w
  have cd := fun w => gbox_any d w
  have z0 : (0 : Int) ≤ (i : Int) := by omega
  obtain ⟨m, hm⟩ : ∃ m, i % 8 = m := ⟨_, rfl⟩
  have em : (i : Int) % 8 = (m : Int) := by omega
  have emt : (i : Int).tmod 8 = (m : Int) := by rw [Int.tmod_eq_emod_of_nonneg z0]; exact em
  have hm8 : m < 8 := by omega
  obtain ⟨q, hq⟩ : ∃ q, i / 8 = q := ⟨_, rfl⟩
  have eq : (i : Int) / 8 = (q : Int) := by omega
  have eqt : (i : Int).tdiv 8 = (q : Int) := by rw [Int.tdiv_eq_ediv_of_nonneg z0]; exact eq
  have hq8 : q < 1000 := by omega
  have h4 : i % 4 = m % 4 := by omega
  have cpow : ∀ w, Calls Tryd.prog 90 #[.int .u8 2, .int .i64 ((q : Int) - 1)] w (fun e w' => e = .returned (.int .u8 ((gpowerU 2 ((q : Int) - 1)).toNat : Int)) ∧ w' = w) := fun w => gpower_any 2 ((q : Int) - 1) w (by omega)
  have hx := gxor_u8 (gboxU b) (gpowerU 2 ((q : Int) - 1))
  rw [hm, hq, h4] at HR
  revert HR
  generalize abn (achgB gboxU i [a, b, c, d]) = L
  intro HR
  have hwq : IntKind.i64.wrap (q : Int) = (q : Int) := IntWalk.i64_in _ ⟨by omega, by omega⟩
  have hwr : IntKind.i64.wrap ((q : Int) - 1) = (q : Int) - 1 := IntWalk.i64_in _ ⟨by omega, by omega⟩
  clear hm hq h4
  generalize gboxU b ^^^ gpowerU 2 ((q : Int) - 1) = px at *
  generalize gpowerU 2 ((q : Int) - 1) = pw at *
  generalize gboxU a = pa at *
  generalize gboxU b = pb at *
  generalize gboxU c = pc at *
  generalize gboxU d = pd at *
  go_enter Tryd.func70, Tryd.ntmps70
  go_wp2_with (refine wp_box_arr (k := .u8) rfl 75 (.tmp 0) rfl (four a b c d) rfl ?_)
  intro w1 g1 G1 H1 Hb1 Hs1
  go_wp2_with (refine wp_alloc_arr (k := .u8) rfl 75 rfl 4 zero4 ?_)
  intro w2 g2 G2 H2 Hb2 Hs2
  have Hg : Hid (w.heap.size ≤ g1 ∧ w.heap.size ≤ g2 ∧ g1 ≠ g2) := Lib.hid (by have := G1.out; have := G2.out; have := Hs1.out; omega)
  have F2 : Hid (SK w [(g1, 75, four a b c d), (g2, 75, Zs 4)] w2) := Lib.hid ⟨by
    intro x hx
    simp only [List.mem_cons, List.not_mem_nil, or_false] at hx
    rcases hx with rfl | rfl
    · exact H1.out.below Hb2.out H1.out.lt
    · exact H2.out, abon Hb1.out Hb2.out⟩
  have Hne : Hid (∀ x ∈ [(g2, 75, Zs 4)], x.1 ≠ g1) := Lib.hid (by
    have h5 := Hg.out
    intro x hx
    simp only [List.mem_cons, List.not_mem_nil, or_false] at hx
    rcases hx with rfl
    exact h5.2.2.symm)
  clear H1 H2 Hb1 Hb2 G1 G2 Hs1 Hs2
  by_cases h0 : m = 0
  · subst h0
    have HR1 : Hid (L = four px pc pd pa) := Lib.hid HR.out
    clear HR
    go_wp2_with fail
    refine wp_region_ends (fun w' => SK w [(g1, 75, four a b c d), (g2, 75, Zs 4)] w') 13 (by kernel_rfl) ?_
    refine wpAnyE_take (i := 0) (v := .pointer (some ⟨g1, 1, none⟩)) (some 9) rfl rfl (by kernel_rfl) (fun _ _ _ h => h) (.inl ⟨by rfl, fun W _ => by go_simp⟩) (sk_drewN F2.out 1) ?_
    simp only [Act.put, List.setIfInBounds_toArray, List.set_cons_zero, List.set_cons_succ]
    refine wpAnyE_take (i := 1) (v := .int .u8 (b.toNat : Int)) (some 10) rfl rfl (by kernel_rfl) (fun _ _ _ h => h) (.inl ⟨by rfl, fun W h => by have hc := (sk_hd h).at_ (j := 1) (x := b.toNat) rfl; go_simp⟩) (sk_drewN F2.out 1) ?_
    simp only [Act.put, List.setIfInBounds_toArray, List.set_cons_zero, List.set_cons_succ]
    refine wpAnyE_take (i := 3) (v := .pointer (some ⟨g1, 2, none⟩)) (some 12) rfl rfl (by kernel_rfl) (fun _ _ _ h => h) (.inl ⟨by rfl, fun W _ => by go_simp⟩) (sk_drewN F2.out 1) ?_
    simp only [Act.put, List.setIfInBounds_toArray, List.set_cons_zero, List.set_cons_succ]
    refine wpAnyE_take (i := 4) (v := .int .u8 (c.toNat : Int)) (some 13) rfl rfl (by kernel_rfl) (fun _ _ _ h => h) (.inl ⟨by rfl, fun W h => by have hc := (sk_hd h).at_ (j := 2) (x := c.toNat) rfl; go_simp⟩) (sk_drewN F2.out 1) ?_
    simp only [Act.put, List.setIfInBounds_toArray, List.set_cons_zero, List.set_cons_succ]
    refine wpAnyE_take (i := 6) (v := .pointer (some ⟨g1, 3, none⟩)) (some 15) rfl rfl (by kernel_rfl) (fun _ _ _ h => h) (.inl ⟨by rfl, fun W _ => by go_simp⟩) (sk_drewN F2.out 1) ?_
    simp only [Act.put, List.setIfInBounds_toArray, List.set_cons_zero, List.set_cons_succ]
    refine wpAnyE_take (i := 7) (v := .int .u8 (d.toNat : Int)) (some 16) rfl rfl (by kernel_rfl) (fun _ _ _ h => h) (.inl ⟨by rfl, fun W h => by have hc := (sk_hd h).at_ (j := 3) (x := d.toNat) rfl; go_simp⟩) (sk_drewN F2.out 1) ?_
    simp only [Act.put, List.setIfInBounds_toArray, List.set_cons_zero, List.set_cons_succ]
    refine wpAnyE_take (i := 9) (v := .pointer (some ⟨g1, 0, none⟩)) (some 18) rfl rfl (by kernel_rfl) (fun _ _ _ h => h) (.inl ⟨by rfl, fun W _ => by go_simp⟩) (sk_drewN F2.out 1) ?_
    simp only [Act.put, List.setIfInBounds_toArray, List.set_cons_zero, List.set_cons_succ]
    refine wpAnyE_take (i := 10) (v := .int .u8 (a.toNat : Int)) (some 19) rfl rfl (by kernel_rfl) (fun _ _ _ h => h) (.inl ⟨by rfl, fun W h => by have hc := (sk_hd h).at_ (j := 0) (x := a.toNat) rfl; go_simp⟩) (sk_drewN F2.out 1) ?_
    simp only [Act.put, List.setIfInBounds_toArray, List.set_cons_zero, List.set_cons_succ]
    refine wpAnyE_one (i := 2) (by kernel_rfl) rfl (fun K0 hK0 => ?_)
    refine stepE_call (v := .int .u8 (pb.toNat : Int)) (R := fun w' => Below _ _ w') (some 11) rfl rfl 89 Tryd.func89 (by kernel_rfl) rfl _ _ rfl [.int .u8 (b.toNat : Int)] rfl (cb _) (fun W0 hW => hK0.out _ _ (.inr (sk_below (sk_drewN F2.out 1) hW)) ?_)
    have S0 := Lib.hid (sk_below (sk_drewN F2.out 1) hW)
    clear hW hK0 K0
    simp only [Act.put, List.setIfInBounds_toArray, List.set_cons_zero, List.set_cons_succ]
    refine wpAnyE_one (i := 5) (by kernel_rfl) rfl (fun K3 hK3 => ?_)
    refine stepE_call (v := .int .u8 (pc.toNat : Int)) (R := fun w' => Below _ _ w') (some 14) rfl rfl 89 Tryd.func89 (by kernel_rfl) rfl _ _ rfl [.int .u8 (c.toNat : Int)] rfl (cc _) (fun W3 hW => hK3.out _ _ (.inr (sk_below S0.out hW)) ?_)
    have S3 := Lib.hid (sk_below S0.out hW)
    clear hW hK3 K3
    simp only [Act.put, List.setIfInBounds_toArray, List.set_cons_zero, List.set_cons_succ]
    refine wpAnyE_one (i := 8) (by kernel_rfl) rfl (fun K6 hK6 => ?_)
    refine stepE_call (v := .int .u8 (pd.toNat : Int)) (R := fun w' => Below _ _ w') (some 17) rfl rfl 89 Tryd.func89 (by kernel_rfl) rfl _ _ rfl [.int .u8 (d.toNat : Int)] rfl (cd _) (fun W6 hW => hK6.out _ _ (.inr (sk_below S3.out hW)) ?_)
    have S6 := Lib.hid (sk_below S3.out hW)
    clear hW hK6 K6
    simp only [Act.put, List.setIfInBounds_toArray, List.set_cons_zero, List.set_cons_succ]
    refine wpAnyE_one (i := 11) (by kernel_rfl) rfl (fun K9 hK9 => ?_)
    refine stepE_call (v := .int .u8 (pa.toNat : Int)) (R := fun w' => Below _ _ w') (some 20) rfl rfl 89 Tryd.func89 (by kernel_rfl) rfl _ _ rfl [.int .u8 (a.toNat : Int)] rfl (ca _) (fun W9 hW => hK9.out _ _ (.inr (sk_below S6.out hW)) ?_)
    have S9 := Lib.hid (sk_below S6.out hW)
    clear hW hK9 K9
    simp only [Act.put, List.setIfInBounds_toArray, List.set_cons_zero, List.set_cons_succ]
    refine wpAnyE_take (i := 12) (v := .agg (Nums .u8 (four pb pc pd pa))) (some 21) rfl rfl (by kernel_rfl) (fun _ _ _ h => h) (.inl ⟨by rfl, fun W _ => by go_simp; rfl⟩) S9.out ?_
    simp only [Act.put, List.setIfInBounds_toArray, List.set_cons_zero, List.set_cons_succ]
    refine wpAnyE_one (i := 13) (by kernel_rfl) rfl (fun K5 hK5 => ?_)
    refine stepE_put arr4 none rfl rfl _ _ rfl rfl rfl (sk_hd S9.out) rfl (show (four pb pc pd pa).length = 4 from rfl) (fun W5 A5 M5 _ => hK5.out _ _ (.inl rfl) ?_)
    have F5 := Lib.hid (sk_put S9.out M5.out A5.out Hne.out Hg.out.1)
    clear hK5 K5 M5 A5 F2 S0 S3 S6 S9
    simp only [Act.put]
    refine wpAnyE_done (by kernel_rfl) ?_
    go_wp2_with fail
    refine wp_region_ends (fun w' => SK w [(g1, 75, four pb pc pd pa), (g2, 75, Zs 4)] w') 8 (by kernel_rfl) ?_
    refine wpAnyE_take (i := 0) (v := .pointer (some ⟨g1, 0, none⟩)) (some 22) rfl rfl (by kernel_rfl) (fun _ _ _ h => h) (.inl ⟨by rfl, fun W _ => by go_simp⟩) (sk_drewN F5.out 1) ?_
    simp only [Act.put, List.setIfInBounds_toArray, List.set_cons_zero, List.set_cons_succ]
    refine wpAnyE_take (i := 1) (v := .int .u8 (pb.toNat : Int)) (some 23) rfl rfl (by kernel_rfl) (fun _ _ _ h => h) (.inl ⟨by rfl, fun W h => by have hc := (sk_hd h).at_ (j := 0) (x := pb.toNat) rfl; go_simp⟩) (sk_drewN F5.out 1) ?_
    simp only [Act.put, List.setIfInBounds_toArray, List.set_cons_zero, List.set_cons_succ]
    refine wpAnyE_take (i := 2) (v := .int .i64 (i : Int)) (some 24) rfl rfl (by kernel_rfl) (fun _ _ _ h => h) (.inl ⟨by rfl, fun W _ => rfl⟩) (sk_drewN F5.out 1) ?_
    simp only [Act.put, List.setIfInBounds_toArray, List.set_cons_zero, List.set_cons_succ]
    refine wpAnyE_take (i := 3) (v := .int .i64 (q : Int)) (some 25) rfl rfl (by kernel_rfl) (fun _ _ _ h => h) (.inl ⟨by rfl, fun W _ => by go_simp⟩) (sk_drewN F5.out 1) ?_
    simp only [Act.put, List.setIfInBounds_toArray, List.set_cons_zero, List.set_cons_succ]
    refine wpAnyE_take (i := 4) (v := .int .i64 ((q : Int) - 1)) (some 26) rfl rfl (by kernel_rfl) (fun _ _ _ h => h) (.inl ⟨by rfl, fun W _ => by go_simp⟩) (sk_drewN F5.out 1) ?_
    simp only [Act.put, List.setIfInBounds_toArray, List.set_cons_zero, List.set_cons_succ]
    refine wpAnyE_one (i := 5) (by kernel_rfl) rfl (fun K5 hK5 => ?_)
    refine stepE_call (v := .int .u8 (pw.toNat : Int)) (R := fun w' => w' = _) (some 27) rfl rfl 90 Tryd.func90 (by kernel_rfl) rfl _ _ rfl [.int .u8 2, .int .i64 ((q : Int) - 1)] rfl (cpow _) (fun W5 hW => hK5.out _ _ (.inr (by rw [hW]; exact sk_drewN F5.out 1)) ?_)
    subst hW
    clear hK5 K5
    simp only [Act.put, List.setIfInBounds_toArray, List.set_cons_zero, List.set_cons_succ]
    refine wpAnyE_take (i := 6) (v := .int .u8 (px.toNat : Int)) (some 28) rfl rfl (by kernel_rfl) (fun _ _ _ h => h) (.inl ⟨by rfl, fun W _ => by go_simp⟩) (sk_drewN F5.out 1) ?_
    simp only [Act.put, List.setIfInBounds_toArray, List.set_cons_zero, List.set_cons_succ]
    refine wpAnyE_take (i := 7) (v := .pointer (some ⟨g1, 0, none⟩)) (some 29) rfl rfl (by kernel_rfl) (fun _ _ _ h => h) (.inl ⟨by rfl, fun W _ => by go_simp⟩) (sk_drewN F5.out 1) ?_
    simp only [Act.put, List.setIfInBounds_toArray, List.set_cons_zero, List.set_cons_succ]
    refine wpAnyE_one (i := 8) (by kernel_rfl) rfl (fun K6 hK6 => ?_)
    have hfz := (sk_hd F5.out).drew.frozen 0
    have hcl := (sk_hd F5.out).drew.at_ (j := 0) (x := pb.toNat) rfl
    go_simp
    refine hK6.out _ _ (.inl rfl) ?_
    have F6 : Hid (SK w [(g1, 75, four px pc pd pa), (g2, 75, Zs 4)] ((W5.setCell ⟨g1, 0, none⟩ (.int .u8 (px.toNat : Int))).drew)) := Lib.hid (sk_drewN (sk_set F5.out Hne.out Hg.out.1 0 px.toNat) 1)
    revert F6
    generalize (W5.setCell ⟨g1, 0, none⟩ (.int .u8 (px.toNat : Int))).drew = W6
    intro F6
    clear hK6 K6 F5 hfz hcl
    refine wpAnyE_done (by kernel_rfl) ?_
    go_wp2_with (first
      | refine wp_load_arr arr4 rfl (.tmp 2) rfl rfl (sk_hd F6.out) rfl ?_
      | refine wp_put_arr arr4 rfl (.tmp 4) (.tmp 45) rfl rfl (l' := four px pc pd pa) rfl (F6.out.1 (g2, 75, Zs 4) (by simp)) (Zs_length _) rfl ?_)
    intro w9 H9 Hm9 Hs9
    go_wp2
    rw [HR1.out]
    exact ret_arr arr4 rfl rfl H9.out rfl rfl ⟨rfl, F6.out.2.trans (Hm9.out.below (fun j hj => by rw [hj]; exact Hg.out.2.1) F6.out.2.size)⟩
  · by_cases h4 : m = 4
    · subst h4
      have HR1 : Hid (L = four pa pb pc pd) := Lib.hid HR.out
      clear HR
      go_wp2_with fail
      refine wp_region_ends (fun w' => SK w [(g1, 75, four a b c d), (g2, 75, Zs 4)] w') 13 (by kernel_rfl) ?_
      refine wpAnyE_take (i := 0) (v := .pointer (some ⟨g1, 0, none⟩)) (some 32) rfl rfl (by kernel_rfl) (fun _ _ _ h => h) (.inl ⟨by rfl, fun W _ => by go_simp⟩) (sk_drewN F2.out 1) ?_
      simp only [Act.put, List.setIfInBounds_toArray, List.set_cons_zero, List.set_cons_succ]
      refine wpAnyE_take (i := 1) (v := .int .u8 (a.toNat : Int)) (some 33) rfl rfl (by kernel_rfl) (fun _ _ _ h => h) (.inl ⟨by rfl, fun W h => by have hc := (sk_hd h).at_ (j := 0) (x := a.toNat) rfl; go_simp⟩) (sk_drewN F2.out 1) ?_
      simp only [Act.put, List.setIfInBounds_toArray, List.set_cons_zero, List.set_cons_succ]
      refine wpAnyE_take (i := 3) (v := .pointer (some ⟨g1, 1, none⟩)) (some 35) rfl rfl (by kernel_rfl) (fun _ _ _ h => h) (.inl ⟨by rfl, fun W _ => by go_simp⟩) (sk_drewN F2.out 1) ?_
      simp only [Act.put, List.setIfInBounds_toArray, List.set_cons_zero, List.set_cons_succ]
      refine wpAnyE_take (i := 4) (v := .int .u8 (b.toNat : Int)) (some 36) rfl rfl (by kernel_rfl) (fun _ _ _ h => h) (.inl ⟨by rfl, fun W h => by have hc := (sk_hd h).at_ (j := 1) (x := b.toNat) rfl; go_simp⟩) (sk_drewN F2.out 1) ?_
      simp only [Act.put, List.setIfInBounds_toArray, List.set_cons_zero, List.set_cons_succ]
      refine wpAnyE_take (i := 6) (v := .pointer (some ⟨g1, 2, none⟩)) (some 38) rfl rfl (by kernel_rfl) (fun _ _ _ h => h) (.inl ⟨by rfl, fun W _ => by go_simp⟩) (sk_drewN F2.out 1) ?_
      simp only [Act.put, List.setIfInBounds_toArray, List.set_cons_zero, List.set_cons_succ]
      refine wpAnyE_take (i := 7) (v := .int .u8 (c.toNat : Int)) (some 39) rfl rfl (by kernel_rfl) (fun _ _ _ h => h) (.inl ⟨by rfl, fun W h => by have hc := (sk_hd h).at_ (j := 2) (x := c.toNat) rfl; go_simp⟩) (sk_drewN F2.out 1) ?_
      simp only [Act.put, List.setIfInBounds_toArray, List.set_cons_zero, List.set_cons_succ]
      refine wpAnyE_take (i := 9) (v := .pointer (some ⟨g1, 3, none⟩)) (some 41) rfl rfl (by kernel_rfl) (fun _ _ _ h => h) (.inl ⟨by rfl, fun W _ => by go_simp⟩) (sk_drewN F2.out 1) ?_
      simp only [Act.put, List.setIfInBounds_toArray, List.set_cons_zero, List.set_cons_succ]
      refine wpAnyE_take (i := 10) (v := .int .u8 (d.toNat : Int)) (some 42) rfl rfl (by kernel_rfl) (fun _ _ _ h => h) (.inl ⟨by rfl, fun W h => by have hc := (sk_hd h).at_ (j := 3) (x := d.toNat) rfl; go_simp⟩) (sk_drewN F2.out 1) ?_
      simp only [Act.put, List.setIfInBounds_toArray, List.set_cons_zero, List.set_cons_succ]
      refine wpAnyE_one (i := 2) (by kernel_rfl) rfl (fun K0 hK0 => ?_)
      refine stepE_call (v := .int .u8 (pa.toNat : Int)) (R := fun w' => Below _ _ w') (some 34) rfl rfl 89 Tryd.func89 (by kernel_rfl) rfl _ _ rfl [.int .u8 (a.toNat : Int)] rfl (ca _) (fun W0 hW => hK0.out _ _ (.inr (sk_below (sk_drewN F2.out 1) hW)) ?_)
      have S0 := Lib.hid (sk_below (sk_drewN F2.out 1) hW)
      clear hW hK0 K0
      simp only [Act.put, List.setIfInBounds_toArray, List.set_cons_zero, List.set_cons_succ]
      refine wpAnyE_one (i := 5) (by kernel_rfl) rfl (fun K3 hK3 => ?_)
      refine stepE_call (v := .int .u8 (pb.toNat : Int)) (R := fun w' => Below _ _ w') (some 37) rfl rfl 89 Tryd.func89 (by kernel_rfl) rfl _ _ rfl [.int .u8 (b.toNat : Int)] rfl (cb _) (fun W3 hW => hK3.out _ _ (.inr (sk_below S0.out hW)) ?_)
      have S3 := Lib.hid (sk_below S0.out hW)
      clear hW hK3 K3
      simp only [Act.put, List.setIfInBounds_toArray, List.set_cons_zero, List.set_cons_succ]
      refine wpAnyE_one (i := 8) (by kernel_rfl) rfl (fun K6 hK6 => ?_)
      refine stepE_call (v := .int .u8 (pc.toNat : Int)) (R := fun w' => Below _ _ w') (some 40) rfl rfl 89 Tryd.func89 (by kernel_rfl) rfl _ _ rfl [.int .u8 (c.toNat : Int)] rfl (cc _) (fun W6 hW => hK6.out _ _ (.inr (sk_below S3.out hW)) ?_)
      have S6 := Lib.hid (sk_below S3.out hW)
      clear hW hK6 K6
      simp only [Act.put, List.setIfInBounds_toArray, List.set_cons_zero, List.set_cons_succ]
      refine wpAnyE_one (i := 11) (by kernel_rfl) rfl (fun K9 hK9 => ?_)
      refine stepE_call (v := .int .u8 (pd.toNat : Int)) (R := fun w' => Below _ _ w') (some 43) rfl rfl 89 Tryd.func89 (by kernel_rfl) rfl _ _ rfl [.int .u8 (d.toNat : Int)] rfl (cd _) (fun W9 hW => hK9.out _ _ (.inr (sk_below S6.out hW)) ?_)
      have S9 := Lib.hid (sk_below S6.out hW)
      clear hW hK9 K9
      simp only [Act.put, List.setIfInBounds_toArray, List.set_cons_zero, List.set_cons_succ]
      refine wpAnyE_take (i := 12) (v := .agg (Nums .u8 (four pa pb pc pd))) (some 44) rfl rfl (by kernel_rfl) (fun _ _ _ h => h) (.inl ⟨by rfl, fun W _ => by go_simp; rfl⟩) S9.out ?_
      simp only [Act.put, List.setIfInBounds_toArray, List.set_cons_zero, List.set_cons_succ]
      refine wpAnyE_one (i := 13) (by kernel_rfl) rfl (fun K5 hK5 => ?_)
      refine stepE_put arr4 none rfl rfl _ _ rfl rfl rfl (sk_hd S9.out) rfl (show (four pa pb pc pd).length = 4 from rfl) (fun W5 A5 M5 _ => hK5.out _ _ (.inl rfl) ?_)
      have F5 := Lib.hid (sk_put S9.out M5.out A5.out Hne.out Hg.out.1)
      clear hK5 K5 M5 A5 F2 S0 S3 S6 S9
      simp only [Act.put]
      refine wpAnyE_done (by kernel_rfl) ?_
      go_wp2_with (first
        | refine wp_load_arr arr4 rfl (.tmp 2) rfl rfl (sk_hd F5.out) rfl ?_
        | refine wp_put_arr arr4 rfl (.tmp 4) (.tmp 45) rfl rfl (l' := four pa pb pc pd) rfl (F5.out.1 (g2, 75, Zs 4) (by simp)) (Zs_length _) rfl ?_)
      intro w9 H9 Hm9 Hs9
      go_wp2
      rw [HR1.out]
      exact ret_arr arr4 rfl rfl H9.out rfl rfl ⟨rfl, F5.out.2.trans (Hm9.out.below (fun j hj => by rw [hj]; exact Hg.out.2.1) F5.out.2.size)⟩
    · have HR1 : Hid (L = four a b c d) := Lib.hid (by rw [HR.out, if_neg h0, if_neg (by omega)])
      clear HR
      go_wp2_with (first
        | refine wp_load_arr arr4 rfl (.tmp 2) rfl rfl (sk_hd F2.out) rfl ?_
        | refine wp_put_arr arr4 rfl (.tmp 4) (.tmp 45) rfl rfl (l' := four a b c d) rfl (F2.out.1 (g2, 75, Zs 4) (by simp)) (Zs_length _) rfl ?_)
      intro w9 H9 Hm9 Hs9
      go_wp2
      rw [HR1.out]
      exact ret_arr arr4 rfl rfl H9.out rfl rfl ⟨rfl, F2.out.2.trans (Hm9.out.below (fun j hj => by rw [hj]; exact Hg.out.2.1) F2.out.2.size)⟩

end Go.Proofs.YtacbpdampdikjaaDoor

namespace Go.Proofs.YtacbpdampdikjaaDoor
open Go.RowKit

set_option maxHeartbeats 1600000 in
set_option maxRecDepth 100000 in
theorem asched_none (n c : Nat) (A : Option Addr) (w : World) (hn : n ≠ 32) :
    Calls Tryd.prog 52 #[.slice A n c] w (Ans w (.tuple #[.agg (Nums .u8 (Zs 240)), .int .i64 4])) := by
  have hz : ((n : Int) != 32) = true := by simp; omega
  go_enter Tryd.func52, Tryd.ntmps52
  go_wp2_with (refine wp_alloc_arr (k := .u8) rfl 63 rfl 240 zeroKeys ?_)
  intro w1 g1 G1 H1 Hb1 Hs1
  go_wp2
  go_step3
  go_wp2_with (refine wp_alloc_arr (k := .u8) rfl 63 rfl 240 zeroKeys ?_)
  intro w2 g2 G2 H2 Hb2 Hs2
  go_wp2_with (first
    | refine wp_load_w arrKeys rfl (.tmp 4) rfl rfl H2.out (Zs_length _) ?_
    | refine wp_put_w arrKeys rfl (.tmp 2) (.tmp 15) rfl rfl (l' := Zs 240) rfl (H1.out.below Hb2.out H1.out.lt) (Zs_length _) (Zs_length _) ?_)
  intro w3 H3 Hm3 Hs3
  go_wp2
  rw [Exit.noGoto_ret]
  exact ret_two arrKeys rfl rfl H3.out (Zs_length _) rfl rfl ⟨rfl, (abon Hb1.out Hb2.out).trans (Hm3.out.below (fun j hj => by have := G1.out; omega) (abon Hb1.out Hb2.out).size)⟩

set_option maxHeartbeats 3200000 in
theorem asched_key (key : List UInt8) (c B : Nat) (A : Option Addr) (w : World) (hr : Rd w B A 32 (Byt key)) (hc : 32 ≤ c) (hB : B ≤ w.heap.size) :
    Calls Tryd.prog 52 #[.slice A 32 c] w (Ans w (.tuple #[.agg (Nums .u8 (abn (akeysU key))), .int .i64 0])) := by
  have HF := Lib.hid (keyFacts hr.bytes)
  obtain ⟨kb, ko, rfl, hkb, hcells⟩ := hr.2 (by omega)
  have Hkb : Hid (kb < w.heap.size) := Lib.hid (by omega)
  have Hkey : Hid (∀ j, j < 32 → ∃ x : UInt8, key[j]? = some x ∧ w.cell? ⟨kb, ko + j, none⟩ = some (.int .u8 (x.toNat : Int))) := Lib.hid (fun j hj => by
    have hl : j < key.length := by have := hr.bytes; omega
    exact ⟨key[j], List.getElem?_eq_getElem hl, hcells j _ (Byt_get hl)⟩)
  have Hlow : Hid (∀ j, j < 32 → ∃ x : Nat, (abn (akeysU key))[j]? = some x ∧ w.cell? ⟨kb, ko + j, none⟩ = some (.int .u8 (x : Int))) := Lib.hid (fun j hj => by
    obtain ⟨x, h1, h2⟩ := Hkey.out j hj
    obtain ⟨y, h3, h4⟩ := HF.out.low j hj
    rw [h1] at h3
    injection h3 with h3
    subst h3
    exact ⟨_, h4, h2⟩)
  clear Hkey hcells hr hkb hB
  have HL := Lib.hid HF.out.len
  have Hhigh := Lib.hid HF.out.high
  clear HF
  revert Hlow HL Hhigh
  generalize abn (akeysU key) = L
  intro Hlow HL Hhigh
  go_enter Tryd.func52, Tryd.ntmps52
  go_wp2_with (refine wp_alloc_arr (k := .u8) rfl 63 rfl 240 zeroKeys ?_)
  intro w1 g1 G1 H1 Hb1 Hs1
  go_wp2
  go_step3
  go_wp2_with (refine wp_alloc_arr (k := .u8) rfl 63 rfl 240 zeroKeys ?_)
  intro w2 g2 G2 H2 Hb2 Hs2
  go_wp2_with (refine wp_alloc_arr (k := .u8) rfl 76 rfl 240 zeroWords ?_)
  intro w3 g3 G3 H3 Hb3 Hs3
  have Hg : Hid (w.heap.size ≤ g1 ∧ w.heap.size ≤ g2 ∧ w.heap.size ≤ g3 ∧ g1 ≠ g3 ∧ g2 ≠ g3 ∧ g1 ≠ g2) := Lib.hid (by have := G1.out; have := G2.out; have := G3.out; have := Hs1.out; have := Hs2.out; omega)
  have F3 : Hid (SK w [(g3, 76, L.take (4 * 0) ++ (Zs 240).drop (4 * 0)), (g2, 63, Zs 240), (g1, 63, Zs 240)] w3) := Lib.hid ⟨by
    intro x hx
    simp only [List.mem_cons, List.not_mem_nil, or_false] at hx
    rcases hx with rfl | rfl | rfl
    · exact H3.out
    · exact H2.out.below Hb3.out H2.out.lt
    · exact (H1.out.below Hb2.out H1.out.lt).below Hb3.out (Nat.lt_of_lt_of_le H1.out.lt Hb2.out.size), abon (abon Hb1.out Hb2.out) Hb3.out⟩
  have Hne3 : Hid (∀ x ∈ [(g2, 63, Zs 240), (g1, 63, Zs 240)], x.1 ≠ g3) := Lib.hid (by
    have h5 := Hg.out
    intro x hx
    simp only [List.mem_cons, List.not_mem_nil, or_false] at hx
    rcases hx with rfl | rfl
    · exact h5.2.2.2.2.1
    · exact h5.2.2.2.1)
  clear H1 H2 H3 Hb1 Hb2 Hb3 G1 G2 G3 Hs1 Hs2 Hs3
  go_wp2
  go_step3
  go_wp2
  go_loopw [16] (fun v wr => ∃ i : Nat, i ≤ 60 ∧ v = .int .i64 (i : Int) ∧ Hid (SK w [(g3, 76, L.take (4 * i) ++ (Zs 240).drop (4 * i)), (g2, 63, Zs 240), (g1, 63, Zs 240)] wr)) (fun v _ => 60 - (intOf v).toNat)
  case atStart => exact ⟨0, by omega, rfl, F3⟩
  case round =>
    clear F3
    obtain ⟨i, hi, rfl, F5⟩ := hrel
    by_cases hlt : i < 60
    · obtain ⟨o, ho⟩ : ∃ o, 4 * i = o := ⟨_, rfl⟩
      have Ho := Lib.hid ho
      have ix := fun W => run_indexAt_w (b := g3) arrWords info_4 i o (i : Int) rfl hlt (by omega) W
      by_cases h8 : i < 8
      · have HA0 := Lib.hid (awn_length HL.out (i := i) hlt)
        have Hmin : Hid (4 = Nat.min (32 - o) 4) := Lib.hid (by show 4 = min (32 - o) 4; omega)
        have Hcell : Hid (∀ j x : Nat, (awn L i)[j]? = some x → wr.drew.cell? ⟨kb, ko + (o + j), none⟩ = some (.int .u8 (x : Int))) := Lib.hid (fun j x hx => by
          have hj : j < 4 := by have := (List.getElem?_eq_some_iff.1 hx).1; have := HA0.out; omega
          have h1 := awn_get j x hx
          obtain ⟨y, h2, h3⟩ := Hlow.out (o + j) (by omega)
          rw [ho] at h1
          rw [h1] at h2
          injection h2 with h2
          subst h2
          exact (F5.out.2.cell (p := ⟨kb, ko + (o + j), none⟩) Hkb.out).trans h3)
        have Hfit : Hid (o + 4 ≤ (L.take (4 * i) ++ (Zs 240).drop (4 * i)).length) := Lib.hid (by rw [fill_length (by rw [HL.out, Zs_length]), Zs_length]; omega)
        have Hspl : Hid (splice (L.take (4 * i) ++ (Zs 240).drop (4 * i)) o (awn L i) = L.take (4 * (i + 1)) ++ (Zs 240).drop (4 * (i + 1))) := Lib.hid (by
          rw [← ho, afill_splice (L := L) (M := Zs 240) (ns := awn L i) (off := 4 * i) (by rw [HL.out, Zs_length]) (by rw [HA0.out, Zs_length]; omega) (fun j x hx => awn_get j x hx), HA0.out]
          rfl)
        have sl1 := fun W => run_slice_arr_all (P := Tryd.prog) (b := g3) arr4 info_u8n o W
        have sl2 := fun W => run_slice_from (P := Tryd.prog) (b := kb) (t := 22) (e := 5) Tryd.underlying22 info_u8n ko 32 c o (4 * (i : Int)) (by omega) (by omega) hc W
        have hwr : IntKind.i64.wrap (4 * (i : Int)) = 4 * (i : Int) := IntWalk.i64_in _ ⟨by omega, by omega⟩
        have Hsrc : Hid (∀ j x : Nat, (awn L i)[j]? = some x → wr.drew.cell? ((⟨kb, ko + o, none⟩ : Addr).add j) = some (.int .u8 (x : Int))) := Lib.hid (fun j x hx => by rw [add_flat, Nat.add_assoc]; exact Hcell.out j x hx)
        clear ho Hcell
        go_wp2_with fail
        refine wp_region_takes (by kernel_rfl) ?_
        refine wpAnyT_take (i := 0) (v := .int .i64 (i : Int)) (some 21) rfl rfl (by kernel_rfl) (fun _ _ _ h => h) (.inl ⟨by rfl, fun W => rfl⟩) ?_
        simp only [Act.put, List.setIfInBounds_toArray, List.set_cons_zero, List.set_cons_succ]
        refine wpAnyT_take (i := 1) (v := .pointer (some ⟨g3, o, none⟩)) (some 22) rfl rfl (by kernel_rfl) (fun _ _ _ h => h) (.inl ⟨by rfl, fun W => by go_simp⟩) ?_
        simp only [Act.put, List.setIfInBounds_toArray, List.set_cons_zero, List.set_cons_succ]
        refine wpAnyT_take (i := 2) (v := .slice (some ⟨g3, o, none⟩) 4 4) (some 23) rfl rfl (by kernel_rfl) (fun _ _ _ h => h) (.inl ⟨by rfl, fun W => by go_simp⟩) ?_
        simp only [Act.put, List.setIfInBounds_toArray, List.set_cons_zero, List.set_cons_succ]
        refine wpAnyT_take (i := 3) (v := .slice (some ⟨kb, ko, none⟩) 32 c) (some 24) rfl rfl (by kernel_rfl) (fun _ _ _ h => h) (.inl ⟨by rfl, fun W => rfl⟩) ?_
        simp only [Act.put, List.setIfInBounds_toArray, List.set_cons_zero, List.set_cons_succ]
        refine wpAnyT_take (i := 4) (v := .int .i64 (i : Int)) (some 25) rfl rfl (by kernel_rfl) (fun _ _ _ h => h) (.inl ⟨by rfl, fun W => rfl⟩) ?_
        simp only [Act.put, List.setIfInBounds_toArray, List.set_cons_zero, List.set_cons_succ]
        refine wpAnyT_take (i := 5) (v := .int .i64 (4 * (i : Int))) (some 26) rfl rfl (by kernel_rfl) (fun _ _ _ h => h) (.inl ⟨by rfl, fun W => by go_simp⟩) ?_
        simp only [Act.put, List.setIfInBounds_toArray, List.set_cons_zero, List.set_cons_succ]
        refine wpAnyT_take (i := 6) (v := .slice (some ⟨kb, ko + o, none⟩) (32 - o) (c - o)) (some 27) rfl rfl (by kernel_rfl) (fun _ _ _ h => h) (.inl ⟨by rfl, fun W => by go_simp⟩) ?_
        simp only [Act.put, List.setIfInBounds_toArray, List.set_cons_zero, List.set_cons_succ]
        refine wpAnyT_one (i := 7) (by kernel_rfl) rfl (fun K5 hK5 => ?_)
        refine stepT_copy (k := .u8) (g := g3) (some 28) rfl rfl (.tmp 23) (.tmp 27) 22 22 rfl 5 Tryd.underlying22 info_u8n o 4 4 ⟨kb, ko + o, none⟩ (32 - o) (c - o) rfl rfl _ (awn L i) 4 HA0.out (sk_hd F5.out).drew Hmin.out Hsrc.out Hfit.out (fun W6 A6 M6 _ => hK5.out _ _ ?_)
        have F6 := Lib.hid (sk_put (sk_drewN F5.out 1) M6.out A6.out Hne3.out Hg.out.2.2.1)
        rw [Hspl.out] at F6
        clear A6 M6 F5 hK5 K5
        simp only [Act.put, List.setIfInBounds_toArray, List.set_cons_zero, List.set_cons_succ]
        refine wpAnyT_done (by kernel_rfl) ?_
        go_wp2
        go_roundw
        case rel => exact ⟨i + 1, by omega, by go_num, F6⟩
        case measure => simp [intOf]; omega
      · obtain ⟨a, b, c', d, hw, hx⟩ := Hhigh.out i (by omega) hlt
        have Hw := Lib.hid hw
        have Hx := Lib.hid hx
        obtain ⟨o1, ho1⟩ : ∃ o1, 4 * (i - 1) = o1 := ⟨_, rfl⟩
        obtain ⟨o8, ho8⟩ : ∃ o8, 4 * (i - 8) = o8 := ⟨_, rfl⟩
        have ix1 := fun W => run_indexAt_w (b := g3) arrWords info_4 (i - 1) o1 ((i : Int) - 1) (by omega) (by omega) (by omega) W
        have ix8 := fun W => run_indexAt_w (b := g3) arrWords info_4 (i - 8) o8 ((i : Int) - 8) (by omega) (by omega) (by omega) W
        have Hn1 : Hid (∀ j x : Nat, (four a b c' d)[j]? = some x → (L.take (4 * i) ++ (Zs 240).drop (4 * i))[o1 + j]? = some x) := Lib.hid (fun j x hj => by
          have h4 : j < 4 := (List.getElem?_eq_some_iff.1 hj).1
          rw [afill_low (by omega) (by rw [HL.out]; omega), ← ho1]
          rw [← hw] at hj
          exact awn_get j x hj)
        have H8l := Lib.hid (awn_length HL.out (i := i - 8) (by omega))
        have Hn8 : Hid (∀ j x : Nat, (awn L (i - 8))[j]? = some x → (L.take (4 * i) ++ (Zs 240).drop (4 * i))[o8 + j]? = some x) := Lib.hid (fun j x hj => by
          have h4 : j < 4 := by have := (List.getElem?_eq_some_iff.1 hj).1; have := H8l.out; omega
          rw [afill_low (by omega) (by rw [HL.out]; omega), ← ho8]
          exact awn_get j x hj)
        have cchg := fun W => achanged_any a b c' d i W (by omega)
        have HC : Hid ((abn (achgB gboxU i [a, b, c', d])).length = 4) := Lib.hid (by rw [abn_length]; exact achg_length _ _ rfl)
        have hw1 : IntKind.i64.wrap ((i : Int) - 1) = (i : Int) - 1 := IntWalk.i64_in _ ⟨by omega, by omega⟩
        have hw8 : IntKind.i64.wrap ((i : Int) - 8) = (i : Int) - 8 := IntWalk.i64_in _ ⟨by omega, by omega⟩
        clear hw hx ho1 ho8 ho Hw
        revert Hx cchg HC
        generalize abn (achgB gboxU i [a, b, c', d]) = C
        generalize hW8 : awn L (i - 8) = W8 at *
        intro Hx cchg HC
        clear hW8
        go_wp2_with (refine wp_load_part (ns := four a b c' d) arr4.under rfl info_4 rfl (.tmp 31) rfl o1 rfl (sk_hd F5.out) rfl Hn1.out ?_)
        refine (cchg _).mono ?_
        rintro e w4 ⟨rfl, hb4⟩
        have F6 := Lib.hid (sk_below F5.out hb4)
        clear hb4 F5 cchg
        go_wp2_with (refine wp_alloc_arr (k := .u8) rfl 75 rfl 4 zero4 ?_)
        intro w5 g7 G7 H7 Hb7 Hs7
        go_wp2_with (refine wp_put_arr arr4 rfl (.tmp 7) (.tmp 34) rfl rfl (l' := C) rfl H7.out (Zs_length _) HC.out ?_)
        intro w6 H8 Hm8 Hs8
        have Hg7 : Hid (g3 ≠ g7 ∧ g2 ≠ g7 ∧ g1 ≠ g7 ∧ w.heap.size ≤ g7) := Lib.hid (by
          have e := G7.out
          have h0 := (sk_hd F6.out).lt
          have h1 := (F6.out.1 (g2, 63, Zs 240) (by simp)).lt
          have h2 := (F6.out.1 (g1, 63, Zs 240) (by simp)).lt
          have h3 := F6.out.2.size
          dsimp only at h1 h2
          omega)
        have F7 : Hid (SK w [(g3, 76, L.take (4 * i) ++ (Zs 240).drop (4 * i)), (g7, 75, C), (g2, 63, Zs 240), (g1, 63, Zs 240)] w6) := Lib.hid (sk_sub (sk_cons (sk_keep (sk_below F6.out Hb7.out) Hm8.out (by
          have h4 := Hg7.out
          intro x hx
          simp only [List.mem_cons, List.not_mem_nil, or_false] at hx
          rcases hx with rfl | rfl | rfl
          · exact h4.1
          · exact h4.2.1
          · exact h4.2.2.1) Hg7.out.2.2.2) H8.out) (by intro x hx; simp only [List.mem_cons, List.not_mem_nil, or_false] at hx ⊢; rcases hx with rfl | rfl | rfl | rfl <;> simp))
        have Hne7 : Hid (∀ x ∈ [(g7, 75, C), (g2, 63, Zs 240), (g1, 63, Zs 240)], x.1 ≠ g3) := Lib.hid (by
          have h4 := Hg7.out
          have h5 := Hg.out
          intro x hx
          simp only [List.mem_cons, List.not_mem_nil, or_false] at hx
          rcases hx with rfl | rfl | rfl
          · exact h4.1.symm
          · exact h5.2.2.2.2.1
          · exact h5.2.2.2.1)
        clear F6 H7 H8 Hb7 Hs7 Hm8 Hs8 G7
        have Hn8' : Hid (Arr w6 g3 76 .u8 (L.take (4 * i) ++ (Zs 240).drop (4 * i))) := Lib.hid (sk_hd F7.out)
        go_wp2_with (refine wp_load_part (ns := W8) arr4.under rfl info_4 rfl (.tmp 37) rfl o8 rfl Hn8'.out H8l.out Hn8.out ?_)
        have F8 : Hid (SK w [(g3, 76, L.take (o + 0) ++ (Zs 240).drop (o + 0)), (g7, 75, C), (g2, 63, Zs 240), (g1, 63, Zs 240)] w6) := Lib.hid (by have h := F7.out; rw [Ho.out] at h; exact h)
        clear Hn8' Hn8 Hn1 F7 ix1 ix8 hw1 hw8
        go_wp2
        go_loopw [39] (fun v wr => ∃ j : Nat, j ≤ 4 ∧ v = .int .i64 (j : Int) ∧ Hid (SK w [(g3, 76, L.take (o + j) ++ (Zs 240).drop (o + j)), (g7, 75, C), (g2, 63, Zs 240), (g1, 63, Zs 240)] wr)) (fun v _ => 4 - (intOf v).toNat)
        case atStart => exact ⟨0, by omega, rfl, F8⟩
        case round =>
          clear F8
          obtain ⟨j, hj, rfl, F7⟩ := hrel
          by_cases hlj : j < 4
          · obtain ⟨x, y, hx, hy, hz⟩ := Hx.out j hlj
            have hii := fun W => run_index_arr arr4 info_u8n H8l.out hx W
            obtain ⟨q, hq⟩ : ∃ q, o + j = q := ⟨_, rfl⟩
            have ixj := fun W => run_indexAt_arr (g := g7) arr4 info_u8n j (j : Int) rfl hlj W
            have ixq := fun W => run_indexAt_off (P := Tryd.prog) (b := g3) arr4 info_u8n o j q hlj hq W
            have hxor := gxor_u8 x y
            rw [Ho.out, hq] at hz
            rw [hq] at F7
            have hq240 : q < 240 := by have := Ho.out; omega
            have Hz := Lib.hid hz
            have Hy := Lib.hid hy
            have Hq := Lib.hid hq
            clear hx hy hz hq
            generalize x ^^^ y = z at *
            have hfz := (sk_hd F7.out).drew.frozen q
            have hcl := (sk_hd F7.out).drew.at_ (fill_get (L := L) (M := Zs 240) (i := q) (by rw [Zs_length]; omega) (by rw [HL.out]; omega))
            go_wp2_with fail
            refine wp_region_ends (fun w' => SK w [(g3, 76, L.take q ++ (Zs 240).drop q), (g7, 75, C), (g2, 63, Zs 240), (g1, 63, Zs 240)] w') 9 (by kernel_rfl) ?_
            refine wpAnyE_take (i := 0) (v := .int .i64 (i : Int)) (some 43) rfl rfl (by kernel_rfl) (fun _ _ _ h => h) (.inl ⟨by rfl, fun W _ => rfl⟩) (sk_drewN F7.out 1) ?_
            simp only [Act.put, List.setIfInBounds_toArray, List.set_cons_zero, List.set_cons_succ]
            refine wpAnyE_take (i := 1) (v := .int .i64 (j : Int)) (some 44) rfl rfl (by kernel_rfl) (fun _ _ _ h => h) (.inl ⟨by rfl, fun W _ => rfl⟩) (sk_drewN F7.out 1) ?_
            simp only [Act.put, List.setIfInBounds_toArray, List.set_cons_zero, List.set_cons_succ]
            refine wpAnyE_take (i := 2) (v := .int .u8 (x.toNat : Int)) (some 45) rfl rfl (by kernel_rfl) (fun _ _ _ h => h) (.inl ⟨by rfl, fun W _ => rfl⟩) (sk_drewN F7.out 1) ?_
            simp only [Act.put, List.setIfInBounds_toArray, List.set_cons_zero, List.set_cons_succ]
            refine wpAnyE_take (i := 3) (v := .int .i64 (j : Int)) (some 46) rfl rfl (by kernel_rfl) (fun _ _ _ h => h) (.inl ⟨by rfl, fun W _ => rfl⟩) (sk_drewN F7.out 1) ?_
            simp only [Act.put, List.setIfInBounds_toArray, List.set_cons_zero, List.set_cons_succ]
            refine wpAnyE_take (i := 4) (v := .pointer (some ⟨g7, j, none⟩)) (some 47) rfl rfl (by kernel_rfl) (fun _ _ _ h => h) (.inl ⟨by rfl, fun W _ => by go_simp⟩) (sk_drewN F7.out 1) ?_
            simp only [Act.put, List.setIfInBounds_toArray, List.set_cons_zero, List.set_cons_succ]
            refine wpAnyE_take (i := 5) (v := .int .u8 (y.toNat : Int)) (some 48) rfl rfl (by kernel_rfl) (fun _ _ _ h => h) (.inl ⟨by rfl, fun W h => by have hc := (Arr.at_ (t := 75) (k := .u8) (l := C) (h.1 (g7, 75, C) (by simp)) Hy.out); go_simp⟩) (sk_drewN F7.out 1) ?_
            simp only [Act.put, List.setIfInBounds_toArray, List.set_cons_zero, List.set_cons_succ]
            refine wpAnyE_take (i := 6) (v := .int .u8 (z.toNat : Int)) (some 49) rfl rfl (by kernel_rfl) (fun _ _ _ h => h) (.inl ⟨by rfl, fun W _ => by go_simp⟩) (sk_drewN F7.out 1) ?_
            simp only [Act.put, List.setIfInBounds_toArray, List.set_cons_zero, List.set_cons_succ]
            refine wpAnyE_one (i := 7) (by kernel_rfl) rfl (fun K7 hK7 => ?_)
            go_simp
            refine hK7.out _ _ (.inr (sk_drewN F7.out 1)) ?_
            clear hK7 K7
            refine wpAnyE_take (i := 8) (v := .pointer (some ⟨g3, q, none⟩)) (some 51) rfl rfl (by kernel_rfl) (fun _ _ _ h => h) (.inl ⟨by rfl, fun W _ => by go_simp⟩) (sk_drewN F7.out 1) ?_
            simp only [Act.put, List.setIfInBounds_toArray, List.set_cons_zero, List.set_cons_succ]
            refine wpAnyE_one (i := 9) (by kernel_rfl) rfl (fun K6 hK6 => ?_)
            go_simp
            refine hK6.out _ _ (.inl rfl) ?_
            have F8 : Hid (SK w [(g3, 76, L.take (o + (j + 1)) ++ (Zs 240).drop (o + (j + 1))), (g7, 75, C), (g2, 63, Zs 240), (g1, 63, Zs 240)] ((wr.setCell ⟨g3, q, none⟩ (.int .u8 (z.toNat : Int))).drew)) := Lib.hid (by
              have h := sk_drewN (sk_set F7.out Hne7.out Hg.out.2.2.1 q z.toNat) 1
              rw [afill_step Hz.out (by rw [Zs_length]; omega)] at h
              rw [show o + (j + 1) = q + 1 by have := Hq.out; omega]
              exact h)
            clear hK6 K6 F7
            refine wpAnyE_done (by kernel_rfl) ?_
            go_wp2
            go_roundw
            case rel => exact ⟨j + 1, by omega, by go_num, F8⟩
            case measure => simp [intOf]; omega
          · obtain rfl : j = 4 := by omega
            have F9 : Hid (SK w [(g3, 76, L.take (4 * (i + 1)) ++ (Zs 240).drop (4 * (i + 1))), (g2, 63, Zs 240), (g1, 63, Zs 240)] wr) := Lib.hid (by
              have h := sk_sub (M := [(g3, 76, L.take (o + 4) ++ (Zs 240).drop (o + 4)), (g2, 63, Zs 240), (g1, 63, Zs 240)]) F7.out (by intro x hx; simp only [List.mem_cons, List.not_mem_nil, or_false] at hx ⊢; rcases hx with rfl | rfl | rfl <;> simp)
              rw [show o + 4 = 4 * (i + 1) by have := Ho.out; omega] at h
              exact h)
            clear F7
            go_wp2
            go_roundw
            case rel => exact ⟨i + 1, by omega, by go_num, F9⟩
            case measure => simp [intOf]; omega
    · obtain rfl : i = 60 := by omega
      have A3 : Hid (Arr wr g3 76 .u8 L) := Lib.hid (by have h := sk_hd F5.out; rw [show 4 * 60 = 240 from rfl, fill_all HL.out (Zs_length _)] at h; exact h)
      have F6 : Hid (SK w [(g2, 63, L.take (4 * 0) ++ (Zs 240).drop (4 * 0)), (g1, 63, Zs 240)] wr) := Lib.hid (sk_sub F5.out (by intro x hx; simp only [List.mem_cons, List.not_mem_nil, or_false] at hx ⊢; rcases hx with rfl | rfl <;> simp))
      have Hne1 : Hid (∀ x ∈ [(g1, 63, Zs 240)], x.1 ≠ g2) := Lib.hid (by
        have h5 := Hg.out
        intro x hx
        simp only [List.mem_cons, List.not_mem_nil, or_false] at hx
        rcases hx with rfl
        exact h5.2.2.2.2.2)
      clear F5
      go_wp2_with (refine wp_load_w arrWords rfl (.tmp 5) rfl rfl A3.out HL.out ?_)
      clear A3
      go_wp2
      go_loopw [55] (fun v wr => ∃ i : Nat, i ≤ 60 ∧ v = .int .i64 (i : Int) ∧ Hid (SK w [(g2, 63, L.take (4 * i) ++ (Zs 240).drop (4 * i)), (g1, 63, Zs 240)] wr)) (fun v _ => 60 - (intOf v).toNat)
      case atStart => exact ⟨0, by omega, rfl, F6⟩
      case round =>
        clear F6
        obtain ⟨i, hi, rfl, F6⟩ := hrel
        by_cases hlt : i < 60
        · have HA0 := Lib.hid (awn_length HL.out (i := i) hlt)
          have hii := fun W => run_index_w (k := .u8) arrWords arr4.under info_4 L (awn L i) i hlt HA0.out (by rw [HL.out]; omega) (fun j x hx => by rw [Nat.mul_comm i 4]; exact awn_get j x hx) W
          go_wp2_with (refine wp_alloc_arr (k := .u8) rfl 75 rfl 4 zero4 ?_)
          intro w5 g7 G7 H7 Hb7 Hs7
          go_wp2_with (refine wp_put_arr arr4 rfl (.tmp 11) (.tmp 58) rfl rfl (l' := awn L i) rfl H7.out (Zs_length _) HA0.out ?_)
          intro w6 H8 Hm8 Hs8
          have Hg7 : Hid (g2 ≠ g7 ∧ g1 ≠ g7 ∧ w.heap.size ≤ g7) := Lib.hid (by
            have e := G7.out
            have h0 := (sk_hd F6.out).lt
            have h2 := (F6.out.1 (g1, 63, Zs 240) (by simp)).lt
            have h3 := F6.out.2.size
            dsimp only at h2
            omega)
          have F7 : Hid (SK w [(g2, 63, L.take (4 * i) ++ (Zs 240).drop (4 * i)), (g1, 63, Zs 240)] w6) := Lib.hid (sk_keep (sk_below F6.out Hb7.out) Hm8.out (by
            have h4 := Hg7.out
            intro x hx
            simp only [List.mem_cons, List.not_mem_nil, or_false] at hx
            rcases hx with rfl | rfl
            · exact h4.1
            · exact h4.2.1) Hg7.out.2.2)
          clear F6 H7 Hb7 Hs7 Hm8 Hs8 G7 hii
          obtain ⟨o, ho⟩ : ∃ o, 4 * i = o := ⟨_, rfl⟩
          obtain ⟨qd, hqd⟩ : ∃ qd, i / 4 = qd := ⟨_, rfl⟩
          obtain ⟨rm, hrm⟩ : ∃ rm, i % 4 = rm := ⟨_, rfl⟩
          obtain ⟨r4, hr4⟩ : ∃ r4, rm * 4 = r4 := ⟨_, rfl⟩
          obtain ⟨o1, ho1⟩ : ∃ o1, qd * 16 = o1 := ⟨_, rfl⟩
          have z0 : (0 : Int) ≤ (i : Int) := by omega
          have e1 : (i : Int) / 4 = (qd : Int) := by omega
          have e1t : (i : Int).tdiv 4 = (qd : Int) := by rw [Int.tdiv_eq_ediv_of_nonneg z0]; exact e1
          have e2 : (i : Int) % 4 = (rm : Int) := by omega
          have e2t : (i : Int).tmod 4 = (rm : Int) := by rw [Int.tmod_eq_emod_of_nonneg z0]; exact e2
          have hwq : IntKind.i64.wrap (qd : Int) = (qd : Int) := IntWalk.i64_in _ ⟨by omega, by omega⟩
          have hwm : IntKind.i64.wrap ((rm : Int) * 4) = (rm : Int) * 4 := IntWalk.i64_in _ ⟨by omega, by omega⟩
          have ix := fun W => run_indexAt_w (b := g2) arrKeys info_16 qd o1 (qd : Int) rfl (by omega) ho1 W
          have sl1 := fun W => run_slice_arr_from (P := Tryd.prog) (b := g2) arr16 info_u8n o1 r4 ((rm : Int) * 4) (by omega) (by omega) W
          rw [show o1 + r4 = o by omega] at sl1
          have sl2 := fun W => run_slice_arr_all (P := Tryd.prog) (b := g7) arr4 info_u8n 0 W
          have Hmin : Hid (4 = Nat.min 4 (16 - r4)) := Lib.hid (by show 4 = min 4 (16 - r4); omega)
          have Hsrc : Hid (∀ j x : Nat, (awn L i)[j]? = some x → w6.drew.cell? ((⟨g7, 0, none⟩ : Addr).add j) = some (.int .u8 (x : Int))) := Lib.hid (fun j x hx => by rw [add_flat, Nat.zero_add]; exact H8.out.at_ hx)
          have Hfit : Hid (o + 4 ≤ (L.take (4 * i) ++ (Zs 240).drop (4 * i)).length) := Lib.hid (by rw [fill_length (by rw [HL.out, Zs_length]), Zs_length]; omega)
          have Hspl : Hid (splice (L.take (4 * i) ++ (Zs 240).drop (4 * i)) o (awn L i) = L.take (4 * (i + 1)) ++ (Zs 240).drop (4 * (i + 1))) := Lib.hid (by
            rw [← ho, afill_splice (L := L) (M := Zs 240) (ns := awn L i) (off := 4 * i) (by rw [HL.out, Zs_length]) (by rw [HA0.out, Zs_length]; omega) (fun j x hx => awn_get j x hx), HA0.out]
            rfl)
          clear ho hqd hrm hr4 ho1 H8
          go_wp2_with fail
          refine wp_region_takes (by kernel_rfl) ?_
          refine wpAnyT_take (i := 0) (v := .int .i64 (i : Int)) (some 59) rfl rfl (by kernel_rfl) (fun _ _ _ h => h) (.inl ⟨by rfl, fun W => rfl⟩) ?_
          simp only [Act.put, List.setIfInBounds_toArray, List.set_cons_zero, List.set_cons_succ]
          refine wpAnyT_take (i := 1) (v := .int .i64 (qd : Int)) (some 60) rfl rfl (by kernel_rfl) (fun _ _ _ h => h) (.inl ⟨by rfl, fun W => by go_simp⟩) ?_
          simp only [Act.put, List.setIfInBounds_toArray, List.set_cons_zero, List.set_cons_succ]
          refine wpAnyT_take (i := 2) (v := .pointer (some ⟨g2, o1, none⟩)) (some 61) rfl rfl (by kernel_rfl) (fun _ _ _ h => h) (.inl ⟨by rfl, fun W => by go_simp⟩) ?_
          simp only [Act.put, List.setIfInBounds_toArray, List.set_cons_zero, List.set_cons_succ]
          refine wpAnyT_take (i := 3) (v := .int .i64 (i : Int)) (some 62) rfl rfl (by kernel_rfl) (fun _ _ _ h => h) (.inl ⟨by rfl, fun W => rfl⟩) ?_
          simp only [Act.put, List.setIfInBounds_toArray, List.set_cons_zero, List.set_cons_succ]
          refine wpAnyT_take (i := 4) (v := .int .i64 (rm : Int)) (some 63) rfl rfl (by kernel_rfl) (fun _ _ _ h => h) (.inl ⟨by rfl, fun W => by go_simp⟩) ?_
          simp only [Act.put, List.setIfInBounds_toArray, List.set_cons_zero, List.set_cons_succ]
          refine wpAnyT_take (i := 5) (v := .int .i64 ((rm : Int) * 4)) (some 64) rfl rfl (by kernel_rfl) (fun _ _ _ h => h) (.inl ⟨by rfl, fun W => by go_simp⟩) ?_
          simp only [Act.put, List.setIfInBounds_toArray, List.set_cons_zero, List.set_cons_succ]
          refine wpAnyT_take (i := 6) (v := .slice (some ⟨g2, o, none⟩) (16 - r4) (16 - r4)) (some 65) rfl rfl (by kernel_rfl) (fun _ _ _ h => h) (.inl ⟨by rfl, fun W => by go_simp⟩) ?_
          simp only [Act.put, List.setIfInBounds_toArray, List.set_cons_zero, List.set_cons_succ]
          refine wpAnyT_take (i := 7) (v := .slice (some ⟨g7, 0, none⟩) 4 4) (some 66) rfl rfl (by kernel_rfl) (fun _ _ _ h => h) (.inl ⟨by rfl, fun W => by go_simp⟩) ?_
          simp only [Act.put, List.setIfInBounds_toArray, List.set_cons_zero, List.set_cons_succ]
          refine wpAnyT_one (i := 8) (by kernel_rfl) rfl (fun K5 hK5 => ?_)
          refine stepT_copy (k := .u8) (g := g2) (some 67) rfl rfl (.tmp 65) (.tmp 66) 22 22 rfl 5 Tryd.underlying22 info_u8n o (16 - r4) (16 - r4) ⟨g7, 0, none⟩ 4 4 rfl rfl _ (awn L i) 4 HA0.out (sk_hd F7.out).drew Hmin.out Hsrc.out Hfit.out (fun W6 A6 M6 _ => hK5.out _ _ ?_)
          have F8 := Lib.hid (sk_put (sk_drewN F7.out 1) M6.out A6.out Hne1.out Hg.out.2.1)
          rw [Hspl.out] at F8
          clear A6 M6 F7 hK5 K5
          simp only [Act.put, List.setIfInBounds_toArray, List.set_cons_zero, List.set_cons_succ]
          refine wpAnyT_done (by kernel_rfl) ?_
          go_wp2
          go_roundw
          case rel => exact ⟨i + 1, by omega, by go_num, F8⟩
          case measure => simp [intOf]; omega
        · obtain rfl : i = 60 := by omega
          have A2 : Hid (Arr wr g2 63 .u8 L) := Lib.hid (by have h := sk_hd F6.out; rw [show 4 * 60 = 240 from rfl, fill_all HL.out (Zs_length _)] at h; exact h)
          have A1 : Hid (Arr wr g1 63 .u8 (Zs 240)) := Lib.hid (F6.out.1 (g1, 63, Zs 240) (by simp))
          go_wp2_with (first
            | refine wp_load_w arrKeys rfl (.tmp 4) rfl rfl A2.out HL.out ?_
            | refine wp_put_w arrKeys rfl (.tmp 2) (.tmp 69) rfl rfl (l' := L) rfl A1.out (Zs_length _) HL.out ?_)
          intro w9 H9 Hm9 Hs9
          go_wp2
          exact ret_two arrKeys rfl rfl H9.out HL.out rfl rfl ⟨rfl, F6.out.2.trans (Hm9.out.below (fun j hj => by rw [hj]; exact Hg.out.1) F6.out.2.size)⟩


end Go.Proofs.YtacbpdampdikjaaDoor

namespace Go.Proofs.YtacbpdampdikjaaDoor
open Go.RowKit

/-- The function that tells blocks. -/
def ctellV (g1 g2 : Nat) : Value := .func (.func 53) #[] #[.pointer (some ⟨g1, 0, none⟩), .pointer (some ⟨g2, 0, none⟩)]

theorem cblocks_form (m d n c : Nat) (A C : Option Addr) (w : World) (h : n ≠ 16) :
    Calls Tryd.prog 36 #[.slice A m d, .slice C n c] w (fun e w' => e = .returned (.tuple #[.nilFunc, .int .i64 4]) ∧ w' = w) := by
  have hz : ((n : Int) != 16) = true := by simp; omega
  go_enter Tryd.func36, Tryd.ntmps36
  go_wp2
  exact bodyPost_ret (results_tmp2 rfl _ _ _) rfl ⟨rfl, rfl⟩
theorem cblocks_none (m d c : Nat) (A C : Option Addr) (w : World) (h : m ≠ 32) :
    Calls Tryd.prog 36 #[.slice A m d, .slice C 16 c] w (Ans w (.tuple #[.nilFunc, .int .i64 4])) := by
  have c1 := fun W => asched_none m d A W h
  go_enter Tryd.func36, Tryd.ntmps36
  go_wp2_with fail
  refine (c1 _).mono ?_
  rintro e w1 ⟨rfl, hb⟩
  go_wp2_with (refine wp_alloc_arr (k := .u8) rfl 63 rfl 240 zeroKeys ?_)
  intro w2 g1 G1 H1 Hb1 Hs1
  go_wp2_with (refine wp_put_w arrKeys rfl (.tmp 6) (.tmp 15) rfl rfl (l' := Zs 240) rfl H1.out (Zs_length _) (Zs_length _) ?_)
  intro w3 H3 Hm3 Hs3
  go_wp2
  exact bodyPost_ret (results_tmp2 rfl _ _ _) rfl ⟨rfl, (abon hb Hb1.out).trans (Hm3.out.below (fun j hj => by have := G1.out; have := hb.size; omega) (abon hb Hb1.out).size)⟩
set_option maxRecDepth 4096 in
set_option maxHeartbeats 1600000 in
theorem cblocks_any (key s : List UInt8) (c d B : Nat) (A C : Option Addr) (w : World) (hr : Rd w B A 32 (Byt key)) (hc : 32 ≤ c) (hs : Rd w B C 16 (Byt s)) (hB : B ≤ w.heap.size) :
    Calls Tryd.prog 36 #[.slice A 32 c, .slice C 16 d] w (fun e w' => ∃ g1 g2 : Nat, e = .returned (.tuple #[ctellV g1 g2, .int .i64 0]) ∧
      SK w [(g1, 63, abn (akeysU key)), (g2, 49, abn s)] w' ∧ w.heap.size ≤ g1 ∧ w.heap.size ≤ g2) := by
  have c1 := fun W (h : Below w.heap.size w W) => asched_key key c B A W (hr.below (h.mono hB)) hc (Nat.le_trans hB h.size)
  have hl := hs.bytes
  obtain ⟨sb, so, rfl, hsb, hcell⟩ := hs.2 (by omega)
  have Hcell : Hid (∀ j u, (Byt s)[j]? = some u → w.cell? ⟨sb, so + j, none⟩ = some u) := Lib.hid hcell
  have Hsb : Hid (sb < w.heap.size) := Lib.hid (by omega)
  have H1 : Hid ((abn s).length = 16) := Lib.hid (by rw [abn_length, hl])
  have H2 : Hid ((abn (akeysU key)).length = 240) := Lib.hid (by rw [abn_length]; exact akeys_length hr.bytes)
  have Hce : Hid (∀ j u, ((abn s).map fun (n : Nat) => Value.int .u8 (n : Int))[j]? = some u → w.cell? ⟨sb, so + j, none⟩ = some u) := Lib.hid (fun j u hu => Hcell.out j u (by rw [← hu]; simp [abn, Byt]; rfl))
  clear hcell hl hr hs hB hsb Hcell
  revert c1 H1 H2 Hce
  generalize abn (akeysU key) = K
  generalize abn s = L
  intro c1 H1 H2 Hce
  go_enter Tryd.func36, Tryd.ntmps36
  go_wp2_with fail
  refine (c1 _ (Below.refl _ _)).mono ?_
  rintro e w1 ⟨rfl, hb⟩
  have Hb := Lib.hid hb; clear hb
  go_wp2_with (refine wp_alloc_arr (k := .u8) rfl 63 rfl 240 zeroKeys ?_)
  intro w2 g1 G1 H3 Hb1 Hs1
  go_wp2_with (refine wp_put_w arrKeys rfl (.tmp 6) (.tmp 15) rfl rfl (l' := K) rfl H3.out (Zs_length _) H2.out ?_)
  intro w3 H4 Hm3 Hs3
  have hat := fun W => run_arrayAt (P := Tryd.prog) arr16 (some ⟨sb, so, none⟩) 16 d (Nat.le_refl _) W
  have B3 : Hid (Below w.heap.size w w3) := Lib.hid (by
    have h := abon Hb.out Hb1.out
    exact h.trans (Hm3.out.below (fun j hj => by have := G1.out; have := Hb.out.size; omega) h.size))
  have Hg1 : Hid (w.heap.size ≤ g1) := Lib.hid (by have := G1.out; have := Hb.out.size; omega)
  have Hrg : Hid (w3.rangeAt sb so (L.map fun (n : Nat) => Value.int .u8 (n : Int))) := Lib.hid (fun j u hu => by
    have h := Hce.out j u hu
    rw [← h]
    exact B3.out.cell (p := ⟨sb, so + j, none⟩) Hsb.out)
  clear c1 Hb H3 Hb1 Hs1 G1 Hm3 Hs3
  go_wp2_with (first
    | refine wpList_load_mid rfl 49 (.tmp 21) rfl sb so rfl (L.map fun (n : Nat) => Value.int .u8 (n : Int)) _ Hrg.out arr16.under rfl (by rw [List.length_map, H1.out]; exact info_16) ?_
    | refine wp_alloc_arr (k := .u8) rfl 49 rfl 16 zero16 ?_)
  intro w4 g2 G2 H5 Hb4 Hs4
  go_wp2_with (refine wp_put_arr arr16 rfl (.tmp 8) (.tmp 22) rfl rfl (l' := L) rfl H5.out (Zs_length _) H1.out ?_)
  intro w5 H6 Hm5 Hs5
  have Hg2 : Hid (w.heap.size ≤ g2 ∧ g1 ≠ g2) := Lib.hid (by have := G2.out; have := B3.out.size; have := H4.out.lt; omega)
  have S5 : Hid (SK w [(g1, 63, K), (g2, 49, L)] w5) := Lib.hid ⟨by
    have h1 := (H4.out.below Hb4.out H4.out.lt).moves Hm5.out Hg2.out.2
    intro x hx
    simp only [List.mem_cons, List.not_mem_nil, or_false] at hx
    rcases hx with rfl | rfl
    · exact h1
    · exact H6.out, by
    have h := abon B3.out Hb4.out
    exact h.trans (Hm5.out.below (fun j hj => by rw [hj]; exact Hg2.out.1) h.size)⟩
  clear H4 Hb4 Hs4 H5 Hm5 Hs5 H6 G2 B3 Hrg hat
  go_wp2
  exact bodyPost_ret (results_tmp2 rfl _ _ _) rfl ⟨g1, g2, rfl, S5.out, Hg1.out, Hg2.out.1⟩

end Go.Proofs.YtacbpdampdikjaaDoor

/-
  A new row of bytes that is written as an array. No program is named here.
-/
namespace Go.Proofs.YtacbpdampdikjaaDoor
open Go.RowKit

theorem Nums_zs (n : Nat) : Nums .u8 (Zs n) = (List.replicate n (Value.int .u8 0)).toArray := by simp [Nums, Zs]
/-- 'make([]byte, n)', as an array. -/
theorem wp_make_arr {P : Program} {w : World} {ops : Array Oper} {rest : List Oper} {o : Oper} {a : Act} {Q : Exit → Act → World → Prop}
    (hg : o.guard = none) (l c : Operand) (t : TypeId) (hop : o.op = Op.makeSlice t l c) (e : TypeId)
    (h1 : P.underlying t = some (.slice e)) (h2 : (P.info? e).map (fun i => (i.zero, i.size, i.bytes)) = some (some (.int .u8 0), 1, 1))
    (n : Nat) (hl : a.eval l = .int .i64 (n : Int)) (hc : a.eval c = .int .i64 (n : Int)) (hm : n ≤ 281474976710656)
    (hK : ∀ w' g, Hid (g = w.heap.size) → Hid (Arr w' g e .u8 (Zs n)) → Hid (Below w.heap.size w w') → Hid (w'.heap.size = w.heap.size + 1) → wpList P ops Q rest (a.put o.dst (.slice (some ⟨g, 0, none⟩) n n)) w') :
    wpList P ops Q (o :: rest) a w := by
  obtain ⟨i0, hi, hz0, hz1, hz2⟩ := info_parts h2
  refine wpList_plain hg fun K hK' => ?_
  have hr := run_make (P := P) w t e i0 (.int .u8 0) h1 hi hz0 .i64 .i64 n n (by omega) (by omega) (by rw [hz2]; omega) (by omega)
  simp only [Int.toNat_natCast, hz1, Nat.mul_one] at hr
  have hcells : madeCells (Value.int .u8 0).cells n = Nums .u8 (Zs n) := by
    apply Array.toList_inj.1
    rw [Nums_zs]
    exact toList_madeCells_one _ _
  have hq := hK' _ _ (hK (w.alloc (.cells (madeCells (Value.int .u8 0).cells n) e)) w.heap.size (Lib.hid rfl) (Lib.hid (by rw [hcells]; exact Arr.new)) (Lib.hid ((Below.refl _ _).alloc (Nat.le_refl _) _)) (Lib.hid (by simp)))
  unfold Oper.wp
  simp [execOp, hop, hl, hc, hr, Result.andThen]
  exact hq
/-- An array is read. -/
theorem Arr.rd {w : World} {g : Nat} {t : TypeId} {l : List UInt8} (h : Arr w g t .u8 (abn l)) : Rd w w.heap.size (some ⟨g, 0, none⟩) l.length (Byt l) :=
  ⟨by rw [Byt_length], fun _ => ⟨g, 0, rfl, h.lt, fun j u hu => by
    have hj : j < l.length := by
      obtain ⟨h1, _⟩ := List.getElem?_eq_some_iff.1 hu
      rwa [Byt_length] at h1
    rw [Byt_get hj] at hu
    injection hu with hu
    rw [← hu, Nat.zero_add]
    exact h.at_ (abn_get (List.getElem?_eq_getElem hj))⟩⟩

end Go.Proofs.YtacbpdampdikjaaDoor

namespace Go.Proofs.YtacbpdampdikjaaDoor
open Go.RowKit

theorem cstream_form (m d n c : Nat) (A C : Option Addr) (z : Int) (w : World) (h : m ≠ 32 ∨ n ≠ 16) :
    Calls Tryd.prog 25 #[.slice A m d, .slice C n c, .int .i64 z] w (NewRF w [] 4) := by
  have c1 : ∀ W, Calls Tryd.prog 36 #[.slice A m d, .slice C n c] W (Ans W (.tuple #[.nilFunc, .int .i64 4])) := fun W => by
    by_cases hn : n = 16
    · subst hn
      exact cblocks_none m d c A C W (h.resolve_right fun h => h rfl)
    · exact (cblocks_form m d n c A C W hn).mono fun e w' hw => ⟨hw.1, by rw [hw.2]; exact Below.refl _ _⟩
  go_enter Tryd.func25, Tryd.ntmps25
  go_wp2_with fail
  refine (c1 _).mono ?_
  rintro e w1 ⟨rfl, hb⟩
  go_wp2
  go_ret2
  exact ⟨none, 0, rfl, Rd.nil, SlOK.nil, hb⟩
theorem cstream_range (key s : List UInt8) (c d B : Nat) (A C : Option Addr) (z : Int) (w : World) (hr : Rd w B A 32 (Byt key)) (hc : 32 ≤ c) (hs : Rd w B C 16 (Byt s)) (hB : B ≤ w.heap.size) (hz : z < 0 ∨ 65536 < z) :
    Calls Tryd.prog 25 #[.slice A 32 c, .slice C 16 d, .int .i64 z] w (NewRF w [] 2) := by
  have c1 := cblocks_any key s c d B A C w hr hc hs hB
  rcases hz with hz | hz
  all_goals
    go_enter Tryd.func25, Tryd.ntmps25
    go_wp2_with fail
    refine c1.mono ?_
    rintro e w1 ⟨g1, g2, rfl, S1, hg1, hg2⟩
    go_wp2
    go_ret2
    exact ⟨none, 0, rfl, Rd.nil, SlOK.nil, S1.2⟩

set_option maxRecDepth 4096 in
set_option maxHeartbeats 1600000 in
theorem cstream_any (key s : List UInt8) (c d B n : Nat) (A C : Option Addr) (w : World) (hr : Rd w B A 32 (Byt key)) (hc : 32 ≤ c) (hs : Rd w B C 16 (Byt s)) (hB : B ≤ w.heap.size) (hn : n ≤ 65536) :
    Calls Tryd.prog 25 #[.slice A 32 c, .slice C 16 d, .int .i64 (n : Int)] w (NewRF w (cstreamU (akeysU key) s n) 0) := by
  have c1 := cblocks_any key s c d B A C w hr hc hs hB
  have hk : (akeysU key).length = 240 := akeys_length hr.bytes
  have hsl := hs.bytes
  have c2 := fun i g1 g2 W (hi : i ≤ 65535) hS => ctell_any (akeysU key) s i g1 g2 W hk hsl hi hS
  have Hlen := Lib.hid (cstream_length (s := s) hk n)
  have Hbl : Hid (∀ i, (abn (cblkU (akeysU key) s i)).length = 16) := Lib.hid (cblk_abn hk)
  have Hget : Hid (∀ i j x, (abn (cblkU (akeysU key) s i))[j]? = some x → 16 * i + j < n → (abn (cstreamU (akeysU key) s n))[16 * i + j]? = some x) := Lib.hid (cstream_abn hk n)
  clear hr hs hB hk hsl
  revert c1 c2 Hlen Hbl Hget
  unfold ctellV
  generalize cstreamU (akeysU key) s n = L
  generalize hblk : (fun i => abn (cblkU (akeysU key) s i)) = blk
  have hblk' : ∀ i, abn (cblkU (akeysU key) s i) = blk i := fun i => by rw [← hblk]
  simp only [hblk']
  clear hblk hblk'
  generalize abn (akeysU key) = K
  generalize abn s = S
  intro c1 c2 Hlen Hbl Hget
  go_enter Tryd.func25, Tryd.ntmps25
  go_wp2_with fail
  refine c1.mono ?_
  rintro e w1 ⟨g1, g2, rfl, S1, hg1, hg2⟩
  have hh1 := (S1.1 (g1, 63, K) (by simp)).lt
  have hh2 := (S1.1 (g2, 49, S) (by simp)).lt
  have HS1 := Lib.hid S1
  clear S1 c1
  go_wp2_with (refine wp_make_arr rfl _ _ 22 rfl 5 Tryd.underlying22 Tryd.info_u8 n rfl rfl (by omega) ?_)
  intro w2 g3 G3 H3 Hb3 Hs3
  have Hg : Hid (w.heap.size ≤ g3 ∧ g1 ≠ g3 ∧ g2 ≠ g3) := Lib.hid (by
    have e := G3.out
    have h3 := HS1.out.2.size
    omega)
  have F2 : Hid (SK w [(g3, 5, (abn L).take (16 * 0) ++ (Zs n).drop (16 * 0)), (g1, 63, K), (g2, 49, S)] w2) := Lib.hid (sk_cons (sk_below HS1.out Hb3.out) H3.out)
  have Hne : Hid (∀ x ∈ [(g1, 63, K), (g2, 49, S)], x.1 ≠ g3) := Lib.hid (by
    have h5 := Hg.out
    intro x hx
    simp only [List.mem_cons, List.not_mem_nil, or_false] at hx
    rcases hx with rfl | rfl
    · exact h5.2.1
    · exact h5.2.2)
  have HL : Hid ((abn L).length = n) := Lib.hid (by rw [abn_length, Hlen.out])
  clear H3 Hb3 Hs3 G3 HS1 hh1 hh2 hg1 hg2
  go_wp2
  go_loopw [11] (fun v wr => ∃ (i p : Nat), v = .int .i64 (p : Int) ∧ p < n + 16 ∧ Hid (16 * i = p) ∧ Hid (SK w [(g3, 5, (abn L).take p ++ (Zs n).drop p), (g1, 63, K), (g2, 49, S)] wr)) (fun v _ => n - (intOf v).toNat)
  case atStart => exact ⟨0, 0, rfl, by omega, Lib.hid rfl, F2⟩
  case round =>
    clear F2
    obtain ⟨i, p, rfl, hp, Hp, F2⟩ := hrel
    by_cases hlt : p < n
    · have e1 : (p : Int) / 16 = (i : Int) := by have := Hp.out; omega
      have e1t : (p : Int).tdiv 16 = (i : Int) := by rw [Int.tdiv_eq_ediv_of_nonneg (by omega)]; exact e1
      have c3 := fun W => c2 i g1 g2 W (by have := Hp.out; omega)
      go_wp2_with fail
      refine (c3 _ ⟨fun x hx => F2.out.1 x (List.mem_cons_of_mem _ hx), Below.refl _ _⟩).mono ?_
      rintro e w3 ⟨rfl, hb⟩
      have F3 := Lib.hid (sk_below F2.out hb)
      clear hb F2 c3
      go_wp2_with (refine wp_alloc_arr (k := .u8) rfl 49 rfl 16 zero16 ?_)
      intro w4 g4 G4 H4 Hb4 Hs4
      go_wp2_with (refine wp_put_arr arr16 rfl (.tmp 12) (.tmp 38) rfl rfl (l' := blk i) rfl H4.out (Zs_length _) (Hbl.out i) ?_)
      intro w5 H5 Hm5 Hs5
      have Hg4 : Hid (g3 ≠ g4 ∧ g1 ≠ g4 ∧ g2 ≠ g4 ∧ w.heap.size ≤ g4) := Lib.hid (by
        have e := G4.out
        have h0 := (sk_hd F3.out).lt
        have h1 := (F3.out.1 (g1, 63, K) (by simp)).lt
        have h2 := (F3.out.1 (g2, 49, S) (by simp)).lt
        have h3 := F3.out.2.size
        dsimp only at h1 h2
        omega)
      have F5 : Hid (SK w [(g3, 5, (abn L).take p ++ (Zs n).drop p), (g1, 63, K), (g2, 49, S)] w5) := Lib.hid (sk_keep (sk_below F3.out Hb4.out) Hm5.out (by
        have h5 := Hg4.out
        intro x hx
        simp only [List.mem_cons, List.not_mem_nil, or_false] at hx
        rcases hx with rfl | rfl | rfl
        · exact h5.1
        · exact h5.2.1
        · exact h5.2.2.1) Hg4.out.2.2.2)
      obtain ⟨q, hq⟩ : ∃ q, min 16 (n - p) = q := ⟨_, rfl⟩
      have Hns : Hid (((blk i).take q).length = q) := Lib.hid (by rw [List.length_take, Hbl.out i]; omega)
      have Hmin : Hid (q = Nat.min 16 (n - p)) := Lib.hid hq.symm
      have Hsrc : Hid (∀ j x : Nat, ((blk i).take q)[j]? = some x → w5.drew.cell? ((⟨g4, 0, none⟩ : Addr).add j) = some (.int .u8 (x : Int))) := Lib.hid (fun j x hx => by
        rw [add_flat, Nat.zero_add]
        refine H5.out.at_ ?_
        rw [List.getElem?_take] at hx
        split at hx
        · exact hx
        · cases hx)
      have Hfit : Hid (p + q ≤ ((abn L).take p ++ (Zs n).drop p).length) := Lib.hid (by rw [fill_length (by rw [HL.out, Zs_length]), Zs_length]; omega)
      have Hspl : Hid (splice ((abn L).take p ++ (Zs n).drop p) p ((blk i).take q) = (abn L).take (p + 16) ++ (Zs n).drop (p + 16)) := Lib.hid (by
        rw [afill_splice (L := abn L) (M := Zs n) (ns := (blk i).take q) (off := p) (by rw [HL.out, Zs_length]) (by rw [Hns.out, Zs_length]; omega) (fun j x hx => by
          rw [List.getElem?_take] at hx
          split at hx
          · next hj =>
            have h := Hget.out i j x hx (by have := Hp.out; omega)
            rwa [Hp.out] at h
          · cases hx), Hns.out]
        rcases Nat.lt_or_ge (n - p) 16 with h16 | h16
        · rw [List.take_of_length_le (by rw [HL.out]; omega), List.take_of_length_le (by rw [HL.out]; omega), List.drop_of_length_le (by rw [Zs_length]; omega), List.drop_of_length_le (by rw [Zs_length]; omega)]
        · rw [show q = 16 by omega])
      have sl1 := fun W => run_slice_from (P := Tryd.prog) (b := g3) Tryd.underlying22 info_u8n 0 n n p (p : Int) rfl hlt (Nat.le_refl _) W
      rw [Nat.zero_add] at sl1
      have sl2 := fun W => run_slice_arr_all (P := Tryd.prog) (b := g4) arr16 info_u8n 0 W
      clear F3 H4 Hb4 Hs4 Hm5 Hs5 G4 H5 hq e1 e1t
      go_wp2_with fail
      refine wp_region_takes (by kernel_rfl) ?_
      refine wpAnyT_take (i := 0) (v := .slice (some ⟨g3, 0, none⟩) n n) (some 39) rfl rfl (by kernel_rfl) (fun _ _ _ h => h) (.inl ⟨by rfl, fun W => rfl⟩) ?_
      simp only [Act.put, List.setIfInBounds_toArray, List.set_cons_zero, List.set_cons_succ]
      refine wpAnyT_take (i := 1) (v := .int .i64 (p : Int)) (some 40) rfl rfl (by kernel_rfl) (fun _ _ _ h => h) (.inl ⟨by rfl, fun W => rfl⟩) ?_
      simp only [Act.put, List.setIfInBounds_toArray, List.set_cons_zero, List.set_cons_succ]
      refine wpAnyT_take (i := 2) (v := .slice (some ⟨g3, p, none⟩) (n - p) (n - p)) (some 41) rfl rfl (by kernel_rfl) (fun _ _ _ h => h) (.inl ⟨by rfl, fun W => by go_simp⟩) ?_
      simp only [Act.put, List.setIfInBounds_toArray, List.set_cons_zero, List.set_cons_succ]
      refine wpAnyT_take (i := 3) (v := .slice (some ⟨g4, 0, none⟩) 16 16) (some 42) rfl rfl (by kernel_rfl) (fun _ _ _ h => h) (.inl ⟨by rfl, fun W => by go_simp⟩) ?_
      simp only [Act.put, List.setIfInBounds_toArray, List.set_cons_zero, List.set_cons_succ]
      refine wpAnyT_one (i := 4) (by kernel_rfl) rfl (fun K5 hK5 => ?_)
      refine stepT_copy (k := .u8) (g := g3) (some 43) rfl rfl (.tmp 41) (.tmp 42) 22 22 rfl 5 Tryd.underlying22 info_u8n p (n - p) (n - p) ⟨g4, 0, none⟩ 16 16 rfl rfl _ ((blk i).take q) q Hns.out (sk_hd F5.out).drew Hmin.out Hsrc.out Hfit.out (fun W6 A6 M6 _ => hK5.out _ _ ?_)
      have F8 := Lib.hid (sk_put (sk_drewN F5.out 1) M6.out A6.out Hne.out Hg.out.1)
      rw [Hspl.out] at F8
      clear A6 M6 F5 hK5 K5
      simp only [Act.put, List.setIfInBounds_toArray, List.set_cons_zero, List.set_cons_succ]
      refine wpAnyT_done (by kernel_rfl) ?_
      go_wp2
      go_roundw
      case rel => exact ⟨i + 1, p + 16, by go_num, by omega, Lib.hid (by have := Hp.out; omega), F8⟩
      case measure => simp [intOf]; omega
    · have A3 : Hid (Arr wr g3 5 .u8 (abn L)) := Lib.hid (by
        have h := sk_hd F2.out
        rwa [List.take_of_length_le (by rw [HL.out]; omega), List.drop_of_length_le (by rw [Zs_length]; omega), List.append_nil] at h)
      go_wp2
      go_ret2
      exact ⟨some ⟨g3, 0, none⟩, n, by rw [Hlen.out]; rfl, A3.out.rd, .inr ⟨_, rfl, by rw [Hlen.out]; exact Nat.le_refl _, by unfold maxLen; omega⟩, F2.out.2⟩

end Go.Proofs.YtacbpdampdikjaaDoor

namespace Go.Proofs.YtacbpdampdikjaaDoor
open Go.RowKit

theorem cover_form (m d n c p q : Nat) (A C D : Option Addr) (w : World) (h : m ≠ 32 ∨ n ≠ 16) :
    Calls Tryd.prog 15 #[.slice A m d, .slice C n c, .slice D p q] w (NewRF w [] 4) := by
  have c1 := fun W => cstream_form m d n c A C (p : Int) W h
  go_enter Tryd.func15, Tryd.ntmps15
  go_wp2_with fail
  refine (c1 _).mono ?_
  rintro e w1 ⟨A1, k1, rfl, hr1, ho1, hb1⟩
  go_wp2
  go_ret2
  exact ⟨none, 0, rfl, Rd.nil, SlOK.nil, hb1⟩

set_option maxHeartbeats 800000 in
theorem cover_any (key s t : List UInt8) (c d q B n : Nat) (A C D : Option Addr) (w : World) (hr : Rd w B A 32 (Byt key)) (hc : 32 ≤ c) (hs : Rd w B C 16 (Byt s)) (ht : Rd w B D n (Byt t)) (hB : B ≤ w.heap.size) (hn : n ≤ 65536) :
    Calls Tryd.prog 15 #[.slice A 32 c, .slice C 16 d, .slice D n q] w (NewRF w (coverU (akeysU key) s t) 0) := by
  have htl := ht.bytes
  have c1 := cstream_any key s c d B n A C w hr hc hs hB hn
  have hl : (cstreamU (akeysU key) s n).length = n := cstream_length (akeys_length hr.bytes) n
  have Hfin : Hid (coverU (akeysU key) s t = xorL t (cstreamU (akeysU key) s n)) := Lib.hid (by rw [coverU, htl])
  revert c1 hl Hfin
  generalize coverU (akeysU key) s t = R
  generalize cstreamU (akeysU key) s n = L
  intro c1 hl Hfin
  have Hl := Lib.hid hl
  have Ht := Lib.hid ht
  have HB := Lib.hid hB
  unfold NewRF at c1
  rw [hl] at c1
  clear hl htl hr hs ht hB
  go_enter Tryd.func15, Tryd.ntmps15
  go_wp2_with fail
  refine c1.mono ?_
  rintro e w1 ⟨A1, k1, rfl, hr1, ho1, hb1⟩
  have c2 := xor_any w1.heap.size n q n k1 D A1 t L w1 ((Ht.out.below (hb1.mono HB.out)).wider (Nat.le_trans HB.out hb1.size)) hr1 (by omega) (by omega) (Nat.le_refl _)
  rw [← Hfin.out] at c2
  have Hb1 := Lib.hid hb1
  clear hr1 ho1 hb1
  go_wp2_with fail
  refine c2.mono ?_
  rintro e w2 ⟨A2, k2, rfl, hown, hb2⟩
  go_wp2
  go_ret2
  exact ⟨A2, k2, rfl, Rd.of_own hown, SlOK.of_own hown, Hb1.out.trans (hb2.mono Hb1.out.size)⟩

end Go.Proofs.YtacbpdampdikjaaDoor

namespace Go.Proofs.YtacbpdampdikjaaDoor
open Go.RowKit

/-- Two rows behind one another, as a call with two arguments lays them. -/
theorem concat2_any (n1 c1 n2 c2 : Nat) (A1 A2 : Option Addr) (l1 l2 : List UInt8) (w : World) (h1 : Rd w w.heap.size A1 n1 (Byt l1)) (h2 : Rd w w.heap.size A2 n2 (Byt l2))
    (o1 : SlOK A1 n1 c1) (o2 : SlOK A2 n2 c2) (hn : n1 + n2 ≤ 1099511627776) :
    Calls Tryd.prog 16 #[.slice (some ⟨w.heap.size, 0, none⟩) 2 2] (w.alloc (.cells #[.slice A1 n1 c1, .slice A2 n2 c2] 22)) fun e w' =>
      ∃ A c, e = .returned (.slice A (n1 + n2) c) ∧ w'.ownsRow w.heap.size 5 1 (.slice A (n1 + n2) c) (n1 + n2) (Byt (l1 ++ l2)) ∧ Below w.heap.size w w' := by
  have hb : Below w.heap.size w (w.alloc (.cells #[.slice A1 n1 c1, .slice A2 n2 c2] 22)) := (Below.refl _ _).alloc (Nat.le_refl _) _
  have hd : Rd (w.alloc (.cells #[.slice A1 n1 c1, .slice A2 n2 c2] 22)) (w.alloc (.cells #[.slice A1 n1 c1, .slice A2 n2 c2] 22)).heap.size (some ⟨w.heap.size, 0, none⟩) 2 (Rws [⟨A1, n1, c1, l1⟩, ⟨A2, n2, c2, l2⟩]) := by
    have := Rd.new w 22 #[.slice A1 n1 c1, .slice A2 n2 c2] (n := 2) rfl
    rwa [show w.heap.size + 1 = (w.alloc (.cells #[.slice A1 n1 c1, .slice A2 n2 c2] 22)).heap.size by simp] at this
  have hcu : catU [⟨A1, n1, c1, l1⟩, ⟨A2, n2, c2, l2⟩] = l1 ++ l2 := by simp only [catU, List.append_nil]
  have ho : RwsOK (w.alloc (.cells #[.slice A1 n1 c1, .slice A2 n2 c2] 22)) (w.alloc (.cells #[.slice A1 n1 c1, .slice A2 n2 c2] 22)).heap.size [⟨A1, n1, c1, l1⟩, ⟨A2, n2, c2, l2⟩] := by
    intro p hp
    simp only [List.mem_cons, List.not_mem_nil, or_false] at hp
    rcases hp with rfl | rfl
    · exact ⟨(h1.below hb).wider hb.size, o1⟩
    · exact ⟨(h2.below hb).wider hb.size, o2⟩
  have hl : (l1 ++ l2).length = n1 + n2 := by rw [List.length_append, h1.bytes, h2.bytes]
  have h := concat_any _ 2 2 _ _ _ hd ho (by rw [hcu, hl]; omega) (by decide) (Nat.le_refl _)
  rw [hcu] at h
  refine h.mono ?_
  rintro e w' ⟨A, c, rfl, hown, hb'⟩
  rw [hl] at hown ⊢
  exact ⟨A, c, rfl, own_base hown hb.size, bon hb hb'⟩

end Go.Proofs.YtacbpdampdikjaaDoor

namespace Go.Proofs.YtacbpdampdikjaaDoor
open Go.RowKit

theorem bseal_form (m d n c p q : Nat) (A C D : Option Addr) (w : World) (h : m ≠ 32 ∨ n ≠ 16) :
    Calls Tryd.prog 7 #[.slice A m d, .slice C n c, .slice D p q] w (NewRF w [] 4) := by
  by_cases h1 : m = 32
  · subst h1
    have n2 : ((n : Int) != 16) = true := by simp; omega
    go_enter Tryd.func7, Tryd.ntmps7
    go_wp2
    go_ret2
    exact ⟨none, 0, rfl, Rd.nil, SlOK.nil, Below.refl _ _⟩
  · have n1 : ((m : Int) != 32) = true := by simp; omega
    go_enter Tryd.func7, Tryd.ntmps7
    go_wp2
    go_ret2
    exact ⟨none, 0, rfl, Rd.nil, SlOK.nil, Below.refl _ _⟩

set_option maxRecDepth 4096 in
set_option maxHeartbeats 1600000 in
theorem bseal_any (B d c p q : Nat) (A C D : Option Addr) (ks ss ts : List UInt8) (w : World) (hk : Rd w B A 32 (Byt ks)) (hko : SlOK A 32 d) (hs : Rd w B C 16 (Byt ss)) (hso : SlOK C 16 c) (ht : Rd w B D p (Byt ts)) (hp : p ≤ 60000) (hB : B ≤ w.heap.size) (hK : KsAt w) :
    Calls Tryd.prog 7 #[.slice A 32 d, .slice C 16 c, .slice D p q] w (NewRF w (boxU ks ss ts) 0) := by
  have n3 : ¬ (60000 < (p : Int)) := by omega
  have htl := ht.bytes
  have hsl := hs.bytes
  have C1 := bkeys_any B 32 d A ks w hk hko (by decide) hB hK
  have C2 := fun A1 c1 W (hb : Below w.heap.size w W) (h1 : Rd W W.heap.size A1 32 (Byt (deriveU ks sealB))) (o1 : SlOK A1 32 c1) =>
    cover_any (deriveU ks sealB) ss ts c1 c q W.heap.size p A1 C D W h1 o1.le.1 ((hs.below (hb.mono hB)).wider (Nat.le_trans hB hb.size)) ((ht.below (hb.mono hB)).wider (Nat.le_trans hB hb.size)) (Nat.le_refl _) (by omega)
  have hl : (coverU (akeysU (deriveU ks sealB)) ss ts).length = p := (bhide_length (key := ks) (s := ss) (t := ts)).trans htl
  have Hbox : Hid (boxU ks ss ts = ss ++ coverU (akeysU (deriveU ks sealB)) ss ts ++ macU (deriveU ks tagB) (ss ++ coverU (akeysU (deriveU ks sealB)) ss ts)) := Lib.hid rfl
  have Hbl : Hid ((boxU ks ss ts).length = 16 + p + 32) := Lib.hid (by rw [box_length, hsl, htl])
  have Htl : Hid (∀ t, (macU (deriveU ks tagB) t).length = 32) := Lib.hid (fun t => macU_length _ _)
  have HS := Lib.hid (fun W (hb : Below w.heap.size w W) => (hs.below (hb.mono hB)).wider (Nat.le_trans hB hb.size))
  have HK := Lib.hid hK
  have Hso := Lib.hid hso
  clear hk hs ht hko hso hK
  revert C1 C2 hl Hbox Hbl Htl
  generalize boxU ks ss ts = R
  generalize coverU (akeysU (deriveU ks sealB)) ss ts = X
  generalize deriveU ks sealB = K1
  generalize deriveU ks tagB = K2
  intro C1 C2 hl Hbox Hbl Htl
  unfold NewRF at C2
  rw [hl] at C2
  have H1 := Lib.hid C1
  have H2 := Lib.hid C2
  have Hfin : Hid (∀ A' c' w', Rd w' w'.heap.size A' (16 + p + 32) (Byt R) → SlOK A' (16 + p + 32) c' → Below w.heap.size w w' → NewRF w R 0 (.returned (.tuple #[.slice A' (16 + p + 32) c', .int .i64 0])) w') := Lib.hid (by
    intro A' c' w' hr ho hb
    refine ⟨A', c', by rw [Hbl.out], ?_, ?_, hb⟩
    · rw [Hbl.out]; exact hr
    · rw [Hbl.out]; exact ho)
  clear C1 C2 hl htl hsl
  generalize NewRF w R 0 = G at Hfin ⊢
  go_enter Tryd.func7, Tryd.ntmps7
  go_wp2_with fail
  refine H1.out.mono ?_
  rintro e w1 ⟨A1, c1, A2, c2, rfl, hr1, ho1, hr2, ho2, hb1⟩
  have Hr1 := Lib.hid hr1
  have Ho1 := Lib.hid ho1
  have Hr2 := Lib.hid hr2
  have Ho2 := Lib.hid ho2
  have Hb1 := Lib.hid hb1
  clear hr1 ho1 hr2 ho2 hb1
  go_wp2_with fail
  refine (H2.out A1 c1 w1 Hb1.out Hr1.out Ho1.out).mono ?_
  rintro e w2 ⟨A3, c3, rfl, hr3, ho3, hb2⟩
  have Hr22 := Lib.hid ((Hr2.out.below hb2).wider hb2.size)
  have Hb2 := Lib.hid (bon Hb1.out hb2)
  have c4 := concat2_any 16 c p c3 C A3 ss X w2 (HS.out w2 Hb2.out) hr3 Hso.out ho3 (by omega)
  clear hr3 ho3 hb2 Hr1 Ho1 Hr2
  go_wp2_with fail
  refine c4.mono ?_
  rintro e w3 ⟨A4, k4, rfl, hown4, hb3⟩
  have h5 := of_any w3.heap.size 32 c2 (16 + p) k4 A2 A4 K2 (ss ++ X) w3 ((Hr22.out.below hb3).wider hb3.size) Ho2.out (by decide) (Rd.of_own hown4) (SlOK.of_own hown4) (by omega) (Nat.le_refl _) (HK.out.below (bon Hb2.out hb3))
  unfold NewB at h5
  rw [Htl.out] at h5
  have Hb3 := Lib.hid (bon Hb2.out hb3)
  have Hown4 := Lib.hid hown4
  have Hz3 := Lib.hid hb3.size
  clear c4 hown4 hb3 Hr22 Ho2
  go_wp2_with fail
  refine h5.mono ?_
  rintro e w4 ⟨A5, k5, rfl, hown5, hb4⟩
  have Hown44 := Lib.hid (own_below Hown4.out hb4 (Nat.le_refl _))
  have Hb4 := Lib.hid (bon Hb3.out hb4)
  have hz : w2.heap.size ≤ w4.heap.size := Nat.le_trans Hz3.out hb4.size
  have hr5 := Rd.of_own hown5
  have ho5 := SlOK.of_own hown5
  have hp5 : (16 + p) + 32 ≤ 8796093022208 := by omega
  clear hown5 hb4 h5 Hown4
  go_wp2_with (refine wp_append_foot rfl _ _ 22 rfl 5 Tryd.underlying22 (.int .u8 0) 1 (by omega) rfl Tryd.info_u8 w2.heap.size (16 + p) k4 A4 _ rfl Hown44.out w4.heap.size 32 k5 A5 _ rfl hr5 ho5 (Byt_one _) hp5 hz ?_)
  intro A6 k6 w5 hown6 hg6 hat6
  have Hb6 : Hid (Below w.heap.size w w5) := Lib.hid (Hb4.out.grown hg6 Hb4.out.size (fun k hk => Nat.le_trans Hb2.out.size (Hown44.out.lt k hk).1))
  rw [← Byt_append, ← Hbox.out] at hown6
  have Hown6 := Lib.hid hown6
  clear hown6 hg6 hat6 hr5 ho5
  go_wp2
  exact Hfin.out A6 k6 w5 (Rd.of_own Hown6.out) (SlOK.of_own Hown6.out) Hb6.out

end Go.Proofs.YtacbpdampdikjaaDoor

namespace Go.Proofs.YtacbpdampdikjaaDoor
open Go.RowKit

set_option maxHeartbeats 400000 in
theorem bsize_any (z : Int) (w : World) (h1 : -9223372036854775808 ≤ z) (h2 : z ≤ 1099511627776) : Calls Tryd.prog 12 #[.int .i64 z] w (fun e w' => e = .returned (.int .i64 (max z 0 + 48)) ∧ w' = w) := by
  have e1 : min (max z 0) 9223372036854775759 = max z 0 := by omega
  have e2 : max z 0 + 48 ≤ 9223372036854775807 := by omega
  have e3 : 0 ≤ max z 0 := by omega
  go_enter Tryd.func12, Tryd.ntmps12
  go_wp2
  all_goals
    go_ret
    first
      | exact ⟨rfl, rfl⟩
      | exact ⟨congrArg (fun z => Ending.returned (Value.int .i64 z)) (show (48 : Int) = max z 0 + 48 by omega), rfl⟩
      | exact ⟨congrArg (fun z => Ending.returned (Value.int .i64 z)) (show z + 48 = max z 0 + 48 by omega), rfl⟩

end Go.Proofs.YtacbpdampdikjaaDoor

/-
  A region that draws its order, where two operations may come up at once: both ways are walked, and what comes behind them is walked once. No program is named here.
-/
namespace Go.Proofs.YtacbpdampdikjaaDoor
open Go.RowKit

section
variable {P : Program} {ops : Array Oper} {Q : Exit → Act → World → Prop} {md : Region.Mode} {S : World → Prop}
/-- Two may come up. -/
theorem wpAnyH_twoD {i j : Nat} {o p : Oper} {fuel : Nat} {listed : Array Bool} {a : Act} {w : World} (hr : Region.ready md ops listed = [i, j]) (ho : ops[i]? = some o) (hp : ops[j]? = some p)
    (h : ∀ K' : Act → World → Prop, Shut (∀ a w, S w → wpAnyH P md ops Q S fuel (listed.setIfInBounds i true) a w → K' a w) → if Region.wanted o (yielded ops a.tmps) = true then Oper.wp P o a w K' Q else K' (a.put o.dst undef) w)
    (h2 : ∀ K' : Act → World → Prop, Shut (∀ a w, S w → wpAnyH P md ops Q S fuel (listed.setIfInBounds j true) a w → K' a w) → if Region.wanted p (yielded ops a.tmps) = true then Oper.wp P p a w K' Q else K' (a.put p.dst undef) w) :
    wpAnyH P md ops Q S (fuel + 1) listed a w := by
  refine ⟨fun h0 => (by rw [hr] at h0; cases h0), fun l hl => ?_⟩
  rw [hr] at hl
  simp only [List.mem_cons, List.not_mem_nil, or_false] at hl
  rcases hl with rfl | rfl
  · exact wpOp_step ho (fun K' hK => h K' (fun a w hS hW => hK a w ⟨hS, hW⟩))
  · exact wpOp_step hp (fun K' hK => h2 K' (fun a w hS hW => hK a w ⟨hS, hW⟩))
/-- A new array of zeros. -/
theorem stepE_alloc {o : Oper} {a : Act} {w : World} {K : Act → World → Prop} {E : Prop} {k : IntKind} (d : Option Tmp) (hd : o.dst = d) (hg : o.guard = none) (t : TypeId) (ho : o.op = .alloc t) (n : Nat) (hz : (P.info? t).map (fun i => (i.zero, i.size)) = some (some (.agg (Nums k (Zs n))), n))
    (hK : ∀ w' g, Hid (g = w.heap.size) → Hid (Arr w' g t k (Zs n)) → Hid (Below w.heap.size w w') → K (a.put d (.pointer (some ⟨g, 0, none⟩))) w') : if Region.wanted o (yielded ops a.tmps) = true then Oper.wp P o a w K Q else E := by
  subst hd
  rw [if_pos (by simp [Region.wanted, hg])]
  have hq := hK (w.alloc (.cells (Nums k (Zs n)) t)) _ (Lib.hid rfl) (Lib.hid Arr.new) (Lib.hid ((Below.refl _ _).alloc (Nat.le_refl _) _))
  have hz0 := (zero_of_info hz).1
  unfold Oper.wp execOp
  simp only [ho, Instr.alloc, hz0, Sem.run_bind, newVar, newRow, run_newObj_alloc, Sem.run_pure, Result.andThen_ok]
  exact hq
/-- A call by its contract, whatever value it answers. -/
theorem stepE_callV {fn : Func} {c : Code} {o : Oper} {a : Act} {w : World} {K : Act → World → Prop} {E : Prop} (d : Option Tmp) (hd : o.dst = d) (hw : Region.wanted o (yielded ops a.tmps) = true) (f : FuncId) (hf : P.funcs[f]? = some fn) (hname : (fn.name == "runtime.NumGoroutine") = false) (hb : fn.body = some c) (xs : Array Operand) (ts : Array TypeId)
    (ho : o.op = .call { callee := .value (.func f), args := xs, argTypes := ts }) (args : List Value) (hx : xs.toList.map a.eval = args) {R : Value → World → Prop}
    (hc : Calls P f args.toArray w fun e w' => ∃ v, e = .returned v ∧ R v w') (hK : ∀ v w', R v w' → K (a.put d v) w') : if Region.wanted o (yielded ops a.tmps) = true then Oper.wp P o a w K Q else E := by
  subst hd
  rw [if_pos hw]
  unfold Oper.wp
  subst hx
  have hr := run_enter hf hname hb (xs.map a.eval) w
  have e : (xs.toList.map a.eval).toArray = xs.map a.eval := by rw [← Array.toList_map, Array.toArray_toList]
  rw [e] at hc
  simp [execOp, ho, resolve, go_sem, hr]
  refine hc.mono ?_
  rintro e w' ⟨v, rfl, h⟩
  exact hK v w' h
/-- 'make([]byte, n)', as an array. -/
theorem stepE_make {o : Oper} {a : Act} {w : World} {K : Act → World → Prop} {E : Prop} (d : Option Tmp) (hd : o.dst = d)
    (hg : o.guard = none) (l c : Operand) (t : TypeId) (hop : o.op = Op.makeSlice t l c) (e : TypeId)
    (h1 : P.underlying t = some (.slice e)) (h2 : (P.info? e).map (fun i => (i.zero, i.size, i.bytes)) = some (some (.int .u8 0), 1, 1))
    (n : Nat) (hl : a.eval l = .int .i64 (n : Int)) (hc : a.eval c = .int .i64 (n : Int)) (hm : n ≤ 281474976710656)
    (hK : ∀ w' g, Hid (g = w.heap.size) → Hid (Arr w' g e .u8 (Zs n)) → Hid (Below w.heap.size w w') → K (a.put d (.slice (some ⟨g, 0, none⟩) n n)) w') : if Region.wanted o (yielded ops a.tmps) = true then Oper.wp P o a w K Q else E := by
  subst hd
  rw [if_pos (by simp [Region.wanted, hg])]
  obtain ⟨i0, hi, hz0, hz1, hz2⟩ := info_parts h2
  have hr := run_make (P := P) w t e i0 (.int .u8 0) h1 hi hz0 .i64 .i64 n n (by omega) (by omega) (by rw [hz2]; omega) (by omega)
  simp only [Int.toNat_natCast, hz1, Nat.mul_one] at hr
  have hcells : madeCells (Value.int .u8 0).cells n = Nums .u8 (Zs n) := by
    apply Array.toList_inj.1
    rw [show Nums .u8 (Zs n) = (List.replicate n (Value.int .u8 0)).toArray by simp [Nums, Zs]]
    exact toList_madeCells_one _ _
  have hq := hK (w.alloc (.cells (madeCells (Value.int .u8 0).cells n) e)) w.heap.size (Lib.hid rfl) (Lib.hid (by rw [hcells]; exact Arr.new)) (Lib.hid ((Below.refl _ _).alloc (Nat.le_refl _) _))
  unfold Oper.wp
  simp [execOp, hop, hl, hc, hr, Result.andThen]
  exact hq
/-- What a region ends in, whatever the order: a frame by a letter, and what is known of it. -/
theorem wp_region_to {β : Type} {id : Nat} {a : Act} {w : World} (V : β → Act → Act) (F : β → World → Prop) (h : (Code.region id ops true).wp P (fun e a' w' => e = .normal ∧ ∃ g, a' = V g a ∧ F g w') a w) (hK : ∀ g w', F g w' → Q .normal (V g a) w') : (Code.region id ops true).wp P Q a w :=
  Code.wp_mono (fun e a' w' ⟨he, g, ha, hF⟩ => by subst he ha; exact hK g w' hF) h
end

end Go.Proofs.YtacbpdampdikjaaDoor
