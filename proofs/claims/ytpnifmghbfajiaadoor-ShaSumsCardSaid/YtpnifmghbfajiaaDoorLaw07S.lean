import Derived.Test.YtpnifmghbfajiaaDoorShaAlive
import Derived.Test.YtpnifmghbfajiaaDoorRefShaSum
import Derived.Test.YtpnifmghbfajiaaDoorRefSame
import Derived.Test.YtpnifmghbfajiaaDoorRow
namespace Go.Proofs.YtpnifmghbfajiaaDoor
open Go.RowKit

set_option maxHeartbeats 1600000 in
theorem shaSums_walk (n cap : Nat) (A : Option Addr) (xs : List UInt8) (w : World) (hx : Rd w w.heap.size A n (Byt xs)) (hok : SlOK A n cap) (hK : KsAt w) :
    Calls Tryd.prog 5 #[.slice A n cap] w (Ans w (.bool true)) := by
  by_cases h : n ≤ 600
  · have n1 : ¬ (600 < (n : Int)) := by omega
    have h1 := fun W hx hB hk => sum_any w.heap.size n cap A xs W hx hok (by omega) hB hk
    have h2 := fun W hx hB => rsum_any w.heap.size n cap A xs W hx hok (by omega) hB
    have hl : (sumU xs).length = 32 := sumU_length _
    generalize sumU xs = L at h1 h2 hl
    have Hl := Lib.hid hl; clear hl
    have hlm : Hid (L.length ≤ maxLen) := Lib.hid (by rw [Hl.out]; decide)
    clear Hl
    have HK := Lib.hid hK; clear hK
    go_enter Tryd.func5, Tryd.ntmps5
    go_wp2_with fail
    refine (h1 _ hx (Nat.le_refl _) HK.out).mono ?_
    rintro e w1 ⟨A7, c7, rfl, hown7, hb7⟩
    have Hb7 := Lib.hid hb7; clear hb7
    have hx7 := hx.below Hb7.out
    go_wp2_with fail
    refine (h2 _ hx7 Hb7.out.size).mono ?_
    rintro e w8 ⟨A8, c8, rfl, hown8, hb8⟩
    have Hb8 := Lib.hid (bon Hb7.out hb8)
    have r7 := ((Rd.of_own hown7).below hb8).wider hb8.size
    have r8 := Rd.of_own hown8
    clear hb8
    have hs := rsame_any w8.heap.size L.length L.length c7 c8 A7 A8 L L w8 r7 r8 hlm.out hlm.out
    rw [sameL_self] at hs
    clear r7 r8
    go_wp2_with fail
    refine hs.mono ?_
    rintro e w9 ⟨rfl, hb9⟩
    have Hb9 := Lib.hid (bon Hb8.out hb9); clear hb9
    go_wp2_with fail
    refine (alive7_any _ (HK.out.below Hb9.out)).mono ?_
    rintro e w10 ⟨rfl, hb10⟩
    go_wp2
    go_ret
    exact ⟨rfl, bon Hb9.out hb10⟩
  · have n1 : 600 < (n : Int) := by omega
    go_enter Tryd.func5, Tryd.ntmps5
    go_wp2_with fail
    refine (alive7_any _ hK).mono ?_
    rintro e w1 ⟨rfl, hb⟩
    go_wp2
    go_ret
    exact ⟨rfl, hb⟩

end Go.Proofs.YtpnifmghbfajiaaDoor
