import Derived.Test.YtpaekofdmfhchaaRefGfMul
namespace Go.Proofs.Ytpaekofdmfhchaa
open Go.RowKit

set_option maxHeartbeats 1600000 in
set_option maxRecDepth 20000 in
theorem rginv_any (a : UInt8) (w : World) :
    Calls Try.prog 14 #[.int .u8 (a.toNat : Int)] w (fun e w' => e = .returned (.int .u8 ((ginvU a).toNat : Int)) ∧ w' = w) := by
  have Hm : Hid (ginvU a = gseekU a 256 0) := Lib.hid rfl
  revert Hm
  generalize ginvU a = m
  intro Hm
  go_enter Try.func14, Try.ntmps14
  go_wp2
  go_loopw [3] (fun i wr => ∃ k : Nat, k ≤ 256 ∧ i = .int .i64 k ∧ Hid (m = gseekU a (256 - k) k) ∧ wr = w) (fun i _ => 256 - (intOf i).toNat)
  case atStart => exact ⟨0, Nat.zero_le _, rfl, Hm, rfl⟩
  case round =>
    obtain ⟨k, hk, rfl, Hk, rfl⟩ := hrel
    by_cases hlt : k < 256
    · have hko : ((UInt8.ofNat k).toNat : Int) = (k : Int) := by rw [UInt8.toNat_ofNat']; omega
      have hc := fun w => rgmul_any a (UInt8.ofNat k) w
      rw [hko] at hc
      have Hs : Hid (gseekU a (256 - k) k = if gmulU a (UInt8.ofNat k) = 1 then UInt8.ofNat k else gseekU a (256 - (k + 1)) (k + 1)) := Lib.hid (by rw [show 256 - k = 256 - (k + 1) + 1 by omega]; rfl)
      by_cases h1 : gmulU a (UInt8.ofNat k) = 1
      · have Hr : Hid ((m.toNat : Int) = (k : Int)) := Lib.hid (by rw [Hk.out, Hs.out, if_pos h1]; exact hko)
        have e1 : ((gmulU a (UInt8.ofNat k)).toNat : Int) = 1 := by rw [h1]; rfl
        clear h1 Hs hko
        generalize gmulU a (UInt8.ofNat k) = p at *
        go_wp2_with fail
        refine (hc _).mono ?_
        rintro e w1 ⟨rfl, rfl⟩
        go_wp2
        go_ret
        exact ⟨by rw [Hr.out]; rfl, rfl⟩
      · have Hr : Hid (m = gseekU a (256 - (k + 1)) (k + 1)) := Lib.hid (by rw [Hk.out, Hs.out, if_neg h1])
        have e1 : (((gmulU a (UInt8.ofNat k)).toNat : Int) == 1) = false := by
          have : (gmulU a (UInt8.ofNat k)).toNat ≠ 1 := fun e => h1 (UInt8.toNat_inj.1 e)
          simp; omega
        clear h1 Hs hko
        generalize gmulU a (UInt8.ofNat k) = p at *
        go_wp2_with fail
        refine (hc _).mono ?_
        rintro e w1 ⟨rfl, rfl⟩
        go_wp2
        go_roundw
        case rel => exact ⟨k + 1, by omega, by go_num, Hr, trivial⟩
        case measure => simp [intOf]; omega
    · have Hr : Hid (m = 0) := Lib.hid (by rw [Hk.out, show 256 - k = 0 by omega]; rfl)
      go_wp2
      go_ret
      exact ⟨by rw [Hr.out]; rfl, rfl⟩

end Go.Proofs.Ytpaekofdmfhchaa
