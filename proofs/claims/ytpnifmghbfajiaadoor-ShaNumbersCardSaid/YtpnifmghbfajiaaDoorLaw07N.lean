import Derived.Test.YtpnifmghbfajiaaDoorShaAlive
import Derived.Test.YtpnifmghbfajiaaDoorRefShaKs
import Derived.Test.YtpnifmghbfajiaaDoorShaFirst
import Derived.Test.YtpnifmghbfajiaaDoorArrEq
import Derived.Test.YtpnifmghbfajiaaDoorRow
namespace Go.Proofs.YtpnifmghbfajiaaDoor
open Go.RowKit

set_option maxHeartbeats 1600000 in
theorem shaNumbers_walk (t : Int) (w : World) (ht : -9223372036854775808 ≤ t ∧ t ≤ 9223372036854775807) (hK : KsAt w) :
    Calls Tryd.prog 3 #[.int .i64 t] w (Ans w (.bool true)) := by
  have h1 := fun W hk => shak_any t W ht hk
  have h2 := fun W => rk_any t W ht
  have h3 := first_any
  have h4 := rfirst07_any
  have h5 := rtable_any
  have h6 := rks_any
  have g8 : Tryd.prog.eqGuardType Tryd.prog.depth 24 = false := by kernel_rfl
  have g64 : Tryd.prog.eqGuardType Tryd.prog.depth 26 = false := by kernel_rfl
  have q8 := fun W => run_equalIn_same (P := Tryd.prog) arr8 (by kernel_rfl) (l := hsU) rfl W
  have q64 := fun W => run_equalIn_same (P := Tryd.prog) arr64 (by kernel_rfl) (l := ksU) rfl W
  have HK := Lib.hid hK; clear hK
  revert h1 h2 h3 h4 h5 h6 q8 q64
  generalize kU t = x
  generalize hsU = H8
  generalize ksU = H64
  intro h1 h2 h3 h4 h5 h6 q8 q64
  go_enter Tryd.func3, Tryd.ntmps3
  go_wp2_with fail
  refine (h1 _ HK.out).mono ?_
  rintro e w1 ⟨rfl, hw1⟩
  subst hw1
  go_wp2_with fail
  refine (h2 _).mono ?_
  rintro e w2 ⟨rfl, hb2⟩
  have Hb2 := Lib.hid hb2; clear hb2
  go_wp2_with fail
  refine (h3 _).mono ?_
  rintro e w3 ⟨rfl, hb3⟩
  have Hb3 := Lib.hid (bon Hb2.out hb3); clear hb3
  go_wp2_with fail
  refine (h4 _).mono ?_
  rintro e w4 ⟨rfl, hb4⟩
  have Hb4 := Lib.hid (bon Hb3.out hb4); clear hb4
  go_wp2_with fail
  refine (h5 _).mono ?_
  rintro e w5 ⟨rfl, hb5⟩
  have Hb5 := Lib.hid (bon Hb4.out hb5); clear hb5
  go_wp2_with fail
  refine (h6 _).mono ?_
  rintro e w6 ⟨rfl, hb6⟩
  have Hb6 := Lib.hid (bon Hb5.out hb6); clear hb6
  go_wp2_with fail
  refine (alive7_any _ (HK.out.below Hb6.out)).mono ?_
  rintro e w7 ⟨rfl, hb7⟩
  go_wp2
  go_ret
  exact ⟨rfl, bon Hb6.out hb7⟩

end Go.Proofs.YtpnifmghbfajiaaDoor
