import Derived.Test.YtpnifmghbfajiaaDoorBase
import Derived.Test.YtpnifmghbfajiaaDoorFacts
import Derived.Test.YtpnifmghbfajiaaDoorShaS
namespace Go.Proofs.YtpnifmghbfajiaaDoor
open Go.RowKit

set_option maxHeartbeats 1600000 in
set_option maxRecDepth 10000 in
theorem rprime_any (t : Nat) (w : World) (ht : t ≤ 1000) :
    Calls Tryd.prog 26 #[.int .i64 (t : Int)] w fun e w' => e = .returned (.int .u64 (primeU t : Nat)) ∧ w' = w := by
  rw [primeU_from]
  go_enter Tryd.func26, Tryd.ntmps26
  go_wp2
  go_loopw [0, 3] (fun s m wr => ∃ u n : Nat, u ≤ 1000 ∧ 2 ≤ n ∧ n ≤ 400 ∧ s = .int .i64 u ∧ m = .int .u64 n ∧ Hid (primeFrom 2 t = primeFrom n u) ∧ wr = w) (fun _ m _ => 400 - (intOf m).toNat)
  case atStart => exact ⟨t, 2, ht, Nat.le_refl _, by omega, rfl, rfl, Lib.hid rfl, rfl⟩
  case round =>
    obtain ⟨u, n, hu, hn2, hn, rfl, rfl, Hp, rfl⟩ := hrel
    by_cases hlt : n < 400
    · go_wp2
      go_loopw [4, 5] (fun is d wr' => ∃ k : Nat, 2 ≤ k ∧ k ≤ n ∧ is = .bool (noneU n (k - 2) 2) ∧ d = .int .u64 (k : Int) ∧ wr' = wr) (fun _ d _ => n - (intOf d).toNat)
      case atStart => exact ⟨2, by omega, by omega, rfl, rfl, rfl⟩
      case round =>
        obtain ⟨k, hk2, hk, rfl, rfl, rfl⟩ := hrel
        by_cases hkn : k < n
        · have Hs : Hid (noneU n (k + 1 - 2) 2 = (noneU n (k - 2) 2 && n % k != 0)) := Lib.hid (by
            have h := noneU_snoc n (k - 2) 2
            rwa [show k - 2 + 1 = k + 1 - 2 by omega, show 2 + (k - 2) = k by omega] at h)
          by_cases hz : n % k = 0
          · have hz' : (n : Int) % (k : Int) = 0 := by omega
            go_wp2
            go_roundw
            case rel => exact ⟨k + 1, by omega, by omega, by rw [Hs.out, hz]; simp, by go_num, by trivial⟩
            case measure => simp [intOf]; omega
          · have hz' : ¬ (n : Int) % (k : Int) = 0 := by omega
            go_wp2
            go_roundw
            case rel => exact ⟨k + 1, by omega, by omega, by rw [Hs.out]; simp [hz], by go_num, by trivial⟩
            case measure => simp [intOf]; omega
        · obtain rfl : k = n := by omega
          have Hq : Hid (isPrimeU k = noneU k (k - 2) 2) := Lib.hid rfl
          revert Hq
          generalize noneU k (k - 2) 2 = is
          intro Hq
          cases is with
          | false =>
            go_wp2
            go_roundw
            case rel => exact ⟨u, k + 1, hu, by omega, by omega, rfl, by go_num, Lib.hid (by rw [Hp.out, primeFrom_no u hlt Hq.out]), by trivial⟩
            case measure => simp [intOf]; omega
          | true =>
            by_cases hu0 : u = 0
            · subst hu0
              go_wp2
              go_ret
              exact ⟨by rw [Hp.out, primeFrom_yes0 hlt Hq.out]; rfl, rfl⟩
            · obtain ⟨v, rfl⟩ : ∃ v, u = v + 1 := ⟨u - 1, by omega⟩
              go_wp2
              go_roundw
              case rel => exact ⟨v, k + 1, by omega, by omega, by omega, by go_num, by go_num, Lib.hid (by rw [Hp.out, primeFrom_yes v hlt Hq.out]), by trivial⟩
              case measure => simp [intOf]; omega
    · obtain rfl : n = 400 := by omega
      go_wp2
      go_ret
      exact ⟨by rw [Hp.out, primeFrom_end]; rfl, rfl⟩

end Go.Proofs.YtpnifmghbfajiaaDoor
