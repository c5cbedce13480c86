import Derived.Test.YtpnifmghbfajiaaDoorRefShaRoot
import Derived.Test.YtpnifmghbfajiaaDoorRefShaPrime
namespace Go.Proofs.YtpnifmghbfajiaaDoor
open Go.RowKit

theorem rk_any (t : Int) (w : World) (ht : -9223372036854775808 ≤ t ∧ t ≤ 9223372036854775807) :
    Calls Tryd.prog 8 #[.int .i64 t] w (Ans w (.int .u32 (kU t : Nat))) := by
  by_cases hin : 0 ≤ t ∧ t ≤ 63
  · obtain ⟨j, rfl⟩ : ∃ j : Nat, t = j := ⟨t.toNat, by omega⟩
    have hj : j ≤ 63 := by omega
    have Hk : Hid (kU (j : Int) = rootsU (primeU j) 3) := Lib.hid (by unfold kU; rw [if_pos hin, Int.toNat_natCast])
    have hpl := primeU_lt j
    have hc1 := fun w => rprime_any j w (by omega)
    have hc2 := fun w => rroot_any (primeU j) 3 w hpl (.inr rfl)
    revert hc1 hc2 Hk
    generalize rootsU (primeU j) 3 = r
    generalize primeU j = p
    intro Hk hc1 hc2
    go_enter Tryd.func8, Tryd.ntmps8
    go_wp2_with fail
    refine (hc1 _).mono ?_
    rintro e w1 ⟨rfl, rfl⟩
    go_wp2_with fail
    refine (hc2 _).mono ?_
    rintro e w2 ⟨rfl, hb⟩
    have Hb := Lib.hid hb; clear hb
    go_wp2
    go_ret
    exact ⟨by rw [Hk.out]; rfl, Hb.out⟩
  · rw [kU_out (by omega)]
    by_cases h0 : t < 0
    · go_enter Tryd.func8, Tryd.ntmps8
      go_wp2
      go_ret
      exact ⟨rfl, Below.refl _ _⟩
    · have h1 : 63 < t := by omega
      go_enter Tryd.func8, Tryd.ntmps8
      go_wp2
      go_ret
      exact ⟨rfl, Below.refl _ _⟩

end Go.Proofs.YtpnifmghbfajiaaDoor
