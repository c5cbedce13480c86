import Derived.Test.YtfkfkmdnffpcmaaGfMul
import Derived.Test.YtfkfkmdnffpcmaaGfPow
import Derived.WalkMore
import Derived.ScopeJumps
namespace Go.Proofs.Ytfkfkmdnffpcmaa
open Go.RowKit

theorem and_one_i64 (N : Nat) (h : N < 256) : bits .and .i64 (N : Int) 1 = ((N % 2 : Nat) : Int) := by
  have h1 : ((List.range 256).all fun N => decide (bits .and .i64 (N : Int) 1 = ((N % 2 : Nat) : Int))) = true := by decide +kernel
  exact of_decide_eq_true (List.all_eq_true.1 h1 N (List.mem_range.2 h))
theorem gpow_even {b : UInt8} {N H : Nat} (h : N = 2 * H) : gpowU b N = gpowU (gmulU b b) H := by rw [gpow_sq, h]
theorem gpow_odd {b : UInt8} {N H : Nat} (h : N = 2 * H + 1) : gpowU b N = gmulU b (gpowU (gmulU b b) H) := by
  rw [gpow_sq, h, Nat.add_comm, gpow_add, show gpowU b 1 = b from gone_mul b]

set_option maxHeartbeats 3200000 in
set_option maxRecDepth 100000 in
theorem gpower_in (a : UInt8) (n0 : Int) (w : World) (hn : 1 ≤ n0 ∧ n0 ≤ 9223372036854775807) :
    Calls Try.prog 42 #[.int .u8 (a.toNat : Int), .int .i64 n0] w (fun e w' => e = .returned (.int .u8 ((gpowerU a n0).toNat : Int)) ∧ w' = w) := by
  obtain ⟨N, H, hN, hN1, hN2, hHN, Hm⟩ : ∃ N H : Nat, (n0 - 1) % 255 + 1 = (N : Int) ∧ 1 ≤ N ∧ N ≤ 255 ∧ H = N / 2 ∧ Hid (gpowerU a n0 = gmulU 1 (gpowU a N)) := by
    refine ⟨((n0 - 1) % 255 + 1).toNat, _, by omega, by omega, by omega, rfl, Lib.hid ?_⟩
    rw [gone_mul, gpowerU, gtimes, if_neg (by omega)]
  have hNH : (N : Int) / 2 = (H : Int) := by omega
  revert Hm
  generalize gpowerU a n0 = m
  intro Hm
  go_enter Try.func42, Try.ntmps42
  go_wp2
  refine wp_scope_jumps 0 (fun a' w' => w' = w ∧ ∃ (N : Nat) (b o : UInt8) (u6 u7 u8 u9 u10 u11 u12 u13 u14 u15 u16 u17 u18 u19 u20 u21 u22 u23 u24 u25 : Value), a' = { tmps := #[.int .u8 (b.toNat : Int), .int .i64 (N : Int), undef, undef, .int .u8 0, .int .u8 (o.toNat : Int), u6, u7, u8, u9, u10, u11, u12, u13, u14, u15, u16, u17, u18, u19, u20, u21, u22, u23, u24, u25], defers := [] } ∧ Hid (m = gmulU o (gpowU b N)) ∧ 1 ≤ N ∧ N ≤ 255) (fun a' _ => (intOf (a'.tmps.getD 1 undef)).toNat) rfl ?_ ?_
  · have hnn : n0 - 1 ≥ 0 := by omega
    rcases Nat.mod_two_eq_zero_or_one N with h1 | h1
    · have hand : bits .and .i64 (N : Int) 1 = 0 := by rw [and_one_i64 N (by omega), h1]; rfl
      rcases Nat.eq_zero_or_pos H with hH | hH
      · subst hH
        exact absurd h1 (by omega)
      · have hgt : (H : Int) > 0 := by omega
        have Hr : Hid (m = gmulU 1 (gpowU (gmulU a a) H)) := Lib.hid (by rw [Hm.out, gpow_even (N := N) (H := H) (by omega)])
        clear h1 hHN
        have hc2 := fun w => gmul_any a a w
        generalize gmulU a a = b2 at *
        go_wp2
        go_step3
        go_wp2_with fail
        refine (hc2 _).mono ?_
        rintro e w1 ⟨rfl, rfl⟩
        go_wp2
        (go_step3; exact ⟨rfl, rfl, H, b2, 1, _, _, _, _, _, _, _, _, _, _, _, _, _, _, _, _, _, _, _, _, rfl, Hr, by omega, by omega⟩)
    · have hand : bits .and .i64 (N : Int) 1 = 1 := by rw [and_one_i64 N (by omega), h1]; rfl
      rcases Nat.eq_zero_or_pos H with hH | hH
      · subst hH
        have Hr : Hid (m = gmulU 1 a) := Lib.hid (by rw [Hm.out, show N = 1 by omega]; show gmulU 1 (gmulU 1 a) = _; rw [gone_mul])
        clear h1 hHN
        have hc1 : ∀ w, Calls Try.prog 48 #[.int .u8 1, .int .u8 (a.toNat : Int)] w (fun e w' => e = .returned (.int .u8 ((gmulU 1 a).toNat : Int)) ∧ w' = w) := fun w => gmul_any 1 a w
        generalize gmulU 1 a = o2 at *
        go_wp2
        go_step3
        go_wp2_with fail
        refine (hc1 _).mono ?_
        rintro e w1 ⟨rfl, rfl⟩
        go_wp2
        (simp only [Exit.jump]; go_ret; exact ⟨by rw [Hr.out]; rfl, rfl⟩)
      · have hgt : (H : Int) > 0 := by omega
        have Hr : Hid (m = gmulU (gmulU 1 a) (gpowU (gmulU a a) H)) := Lib.hid (by rw [Hm.out, gpow_odd (N := N) (H := H) (by omega), gmul_assoc])
        clear h1 hHN
        have hc1 : ∀ w, Calls Try.prog 48 #[.int .u8 1, .int .u8 (a.toNat : Int)] w (fun e w' => e = .returned (.int .u8 ((gmulU 1 a).toNat : Int)) ∧ w' = w) := fun w => gmul_any 1 a w
        have hc2 := fun w => gmul_any a a w
        generalize gmulU 1 a = o2 at *
        generalize gmulU a a = b2 at *
        go_wp2
        go_step3
        go_wp2_with fail
        refine (hc1 _).mono ?_
        rintro e w1 ⟨rfl, rfl⟩
        go_wp2_with fail
        refine (hc2 _).mono ?_
        rintro e w1 ⟨rfl, rfl⟩
        go_wp2
        (go_step3; exact ⟨rfl, rfl, H, b2, o2, _, _, _, _, _, _, _, _, _, _, _, _, _, _, _, _, _, _, _, _, rfl, Hr, by omega, by omega⟩)
  · rintro a' w' ⟨rfl, N, b, o, u6, u7, u8, u9, u10, u11, u12, u13, u14, u15, u16, u17, u18, u19, u20, u21, u22, u23, u24, u25, rfl, Hm, hN1, hN2⟩
    obtain ⟨H, hHN⟩ : ∃ H, H = N / 2 := ⟨_, rfl⟩
    have hNH : (N : Int) / 2 = (H : Int) := by omega
    rcases Nat.mod_two_eq_zero_or_one N with h1 | h1
    · have hand : bits .and .i64 (N : Int) 1 = 0 := by rw [and_one_i64 N (by omega), h1]; rfl
      rcases Nat.eq_zero_or_pos H with hH | hH
      · subst hH
        exact absurd h1 (by omega)
      · have hgt : (H : Int) > 0 := by omega
        have Hr : Hid (m = gmulU o (gpowU (gmulU b b) H)) := Lib.hid (by rw [Hm.out, gpow_even (N := N) (H := H) (by omega)])
        clear h1 hHN
        have hc2 := fun w => gmul_any b b w
        generalize gmulU b b = b2 at *
        go_wp2_with fail
        refine (hc2 _).mono ?_
        rintro e w1 ⟨rfl, rfl⟩
        go_wp2
        (go_step3; exact ⟨rfl, ⟨rfl, H, b2, o, _, _, _, _, _, _, _, _, _, _, _, _, _, _, _, _, _, _, _, _, rfl, Hr, by omega, by omega⟩, by simp [intOf]; omega⟩)
    · have hand : bits .and .i64 (N : Int) 1 = 1 := by rw [and_one_i64 N (by omega), h1]; rfl
      rcases Nat.eq_zero_or_pos H with hH | hH
      · subst hH
        have Hr : Hid (m = gmulU o b) := Lib.hid (by rw [Hm.out, show N = 1 by omega]; show gmulU o (gmulU 1 b) = _; rw [gone_mul])
        clear h1 hHN
        have hc1 : ∀ w, Calls Try.prog 48 #[.int .u8 (o.toNat : Int), .int .u8 (b.toNat : Int)] w (fun e w' => e = .returned (.int .u8 ((gmulU o b).toNat : Int)) ∧ w' = w) := fun w => gmul_any o b w
        generalize gmulU o b = o2 at *
        go_wp2_with fail
        refine (hc1 _).mono ?_
        rintro e w1 ⟨rfl, rfl⟩
        go_wp2
        (simp only [Exit.jump]; go_ret; exact ⟨by rw [Hr.out]; rfl, rfl⟩)
      · have hgt : (H : Int) > 0 := by omega
        have Hr : Hid (m = gmulU (gmulU o b) (gpowU (gmulU b b) H)) := Lib.hid (by rw [Hm.out, gpow_odd (N := N) (H := H) (by omega), gmul_assoc])
        clear h1 hHN
        have hc1 : ∀ w, Calls Try.prog 48 #[.int .u8 (o.toNat : Int), .int .u8 (b.toNat : Int)] w (fun e w' => e = .returned (.int .u8 ((gmulU o b).toNat : Int)) ∧ w' = w) := fun w => gmul_any o b w
        have hc2 := fun w => gmul_any b b w
        generalize gmulU o b = o2 at *
        generalize gmulU b b = b2 at *
        go_wp2_with fail
        refine (hc1 _).mono ?_
        rintro e w1 ⟨rfl, rfl⟩
        go_wp2_with fail
        refine (hc2 _).mono ?_
        rintro e w1 ⟨rfl, rfl⟩
        go_wp2
        (go_step3; exact ⟨rfl, ⟨rfl, H, b2, o2, _, _, _, _, _, _, _, _, _, _, _, _, _, _, _, _, _, _, _, _, rfl, Hr, by omega, by omega⟩, by simp [intOf]; omega⟩)

set_option maxHeartbeats 400000 in
theorem gpower_out (a : UInt8) (n0 : Int) (w : World) (hn : n0 < 1) :
    Calls Try.prog 42 #[.int .u8 (a.toNat : Int), .int .i64 n0] w (fun e w' => e = .returned (.int .u8 ((gpowerU a n0).toNat : Int)) ∧ w' = w) := by
  have Hp : Hid (gpowerU a n0 = 1) := Lib.hid (by rw [gpowerU, gtimes, if_pos hn]; rfl)
  go_enter Try.func42, Try.ntmps42
  go_wp2
  go_step3
  go_wp2
  try rw [Exit.noGoto_ret]
  go_ret
  exact ⟨by rw [Hp.out]; rfl, rfl⟩

theorem gpower_any (a : UInt8) (n : Int) (w : World) (hn : -9223372036854775808 ≤ n ∧ n ≤ 9223372036854775807) :
    Calls Try.prog 42 #[.int .u8 (a.toNat : Int), .int .i64 n] w (fun e w' => e = .returned (.int .u8 ((gpowerU a n).toNat : Int)) ∧ w' = w) := by
  by_cases h : n < 1
  · exact gpower_out a n w h
  · exact gpower_in a n w ⟨by omega, hn.2⟩

end Go.Proofs.Ytfkfkmdnffpcmaa
