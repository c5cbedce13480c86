import Derived.Test.YtpaekofdmfhchaaRefGfMul
import Derived.Test.YtpaekofdmfhchaaGfPow
namespace Go.Proofs.Ytpaekofdmfhchaa
open Go.RowKit

set_option maxHeartbeats 3200000 in
theorem rgpower_any (a : UInt8) (n : Int) (w : World) (hn : -9223372036854775808 ≤ n ∧ n ≤ 9223372036854775807) :
    Calls Try.prog 11 #[.int .u8 (a.toNat : Int), .int .i64 n] w (fun e w' => e = .returned (.int .u8 ((gpowerU a n).toNat : Int)) ∧ w' = w) := by
  have Hm : Hid (gpowerU a n = gpowU a (gtimes n)) := Lib.hid rfl
  obtain ⟨N, hN⟩ : ∃ N, gtimes n = N := ⟨_, rfl⟩
  rw [hN] at Hm
  unfold gtimes at hN
  by_cases h : 255 < n
  · rw [if_neg (by omega)] at hN
    have hz : (n - 1) % 255 + 1 = (N : Int) := by omega
    have hN2 : N ≤ 255 := by omega
    clear hN
    go_enter Try.func11, Try.ntmps11
    go_wp2
    go_loopw [5, 6] (fun x i wr => ∃ (k : Nat) (o : UInt8), k ≤ N ∧ i = .int .i64 k ∧ x = .int .u8 (o.toNat : Int) ∧ Hid (o = gpowU a k) ∧ wr = w) (fun _ i _ => N - (intOf i).toNat)
    case atStart => exact ⟨0, 1, Nat.zero_le _, rfl, rfl, Lib.hid rfl, rfl⟩
    case round =>
      obtain ⟨k, o, hk, rfl, rfl, Ho, rfl⟩ := hrel
      by_cases hlt : k < N
      · have hlt' : (k : Int) < (N : Int) := by omega
        have hc := fun w => rgmul_any o a w
        have Ho' : Hid (gmulU o a = gpowU a (k + 1)) := Lib.hid (by rw [Ho.out]; rfl)
        generalize gmulU o a = o2 at *
        go_wp2_with fail
        refine (hc _).mono ?_
        rintro e w1 ⟨rfl, rfl⟩
        go_wp2
        go_roundw
        case rel => exact ⟨k + 1, o2, by omega, by go_num, rfl, Ho', trivial⟩
        case measure => simp [intOf]; omega
      · have hge : ¬ (k : Int) < (N : Int) := by omega
        have Hr : Hid (gpowerU a n = o) := Lib.hid (by rw [Ho.out, show k = N by omega]; exact Hm.out)
        go_wp2
        go_ret
        exact ⟨by rw [Hr.out]; rfl, rfl⟩
  · have hN' : (N : Int) = if n < 1 then 0 else n := by
      subst hN
      split
      · rfl
      · omega
    clear hN
    have hk1 : ∀ k : Nat, k < N → (k : Int) < n := by intro k hk; split at hN' <;> omega
    have hk2 : ∀ k : Nat, k = N → n ≤ (k : Int) := by intro k hk; split at hN' <;> omega
    have hN2 : N ≤ 255 := by split at hN' <;> omega
    clear hN'
    have Hk1 := Lib.hid hk1; clear hk1
    have Hk2 := Lib.hid hk2; clear hk2
    go_enter Try.func11, Try.ntmps11
    go_wp2
    go_loopw [5, 6] (fun x i wr => ∃ (k : Nat) (o : UInt8), k ≤ N ∧ i = .int .i64 k ∧ x = .int .u8 (o.toNat : Int) ∧ Hid (o = gpowU a k) ∧ wr = w) (fun _ i _ => N - (intOf i).toNat)
    case atStart => exact ⟨0, 1, Nat.zero_le _, rfl, rfl, Lib.hid rfl, rfl⟩
    case round =>
      obtain ⟨k, o, hk, rfl, rfl, Ho, rfl⟩ := hrel
      by_cases hlt : k < N
      · have hlt' : (k : Int) < n := Hk1.out k hlt
        have hc := fun w => rgmul_any o a w
        have Ho' : Hid (gmulU o a = gpowU a (k + 1)) := Lib.hid (by rw [Ho.out]; rfl)
        generalize gmulU o a = o2 at *
        go_wp2_with fail
        refine (hc _).mono ?_
        rintro e w1 ⟨rfl, rfl⟩
        go_wp2
        go_roundw
        case rel => exact ⟨k + 1, o2, by omega, by go_num, rfl, Ho', trivial⟩
        case measure => simp [intOf]; omega
      · have hge : ¬ (k : Int) < n := by have := Hk2.out k (by omega); omega
        have Hr : Hid (gpowerU a n = o) := Lib.hid (by rw [Ho.out, show k = N by omega]; exact Hm.out)
        go_wp2
        go_ret
        exact ⟨by rw [Hr.out]; rfl, rfl⟩

end Go.Proofs.Ytpaekofdmfhchaa
