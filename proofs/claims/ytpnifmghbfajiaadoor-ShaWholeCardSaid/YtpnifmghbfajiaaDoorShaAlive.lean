import Derived.Test.YtpnifmghbfajiaaDoorShaSum
namespace Go.Proofs.YtpnifmghbfajiaaDoor
open Go.RowKit

set_option maxHeartbeats 800000 in
theorem alive7_any (w : World) (hK : KsAt w) : Calls Tryd.prog 13 #[] w (Ans w (.bool true)) := by
  have hs := sum_any 0 0 0 none [] w Rd.nil (.inl ⟨rfl, rfl, rfl⟩) (by omega) (Nat.zero_le _) hK
  rw [sum_none] at hs
  go_enter Tryd.func13, Tryd.ntmps13
  go_wp2_with fail
  refine hs.mono ?_
  rintro e w1 ⟨A, c, rfl, hown, hb1⟩
  have hr := Rd.of_own hown
  obtain ⟨b, o, rfl, hbb, hc0⟩ := hr.byte (k := 0) (by decide) (by decide)
  obtain ⟨b1, o1, e1, _, hc1⟩ := hr.byte (k := 1) (by decide) (by decide)
  injection e1 with e1
  injection e1 with e11 e12
  subst e11
  subst e12
  obtain ⟨b1, o1, e1, _, hc2⟩ := hr.byte (k := 2) (by decide) (by decide)
  injection e1 with e1
  injection e1 with e11 e12
  subst e11
  subst e12
  obtain ⟨b1, o1, e1, _, hc3⟩ := hr.byte (k := 3) (by decide) (by decide)
  injection e1 with e1
  injection e1 with e11 e12
  subst e11
  subst e12
  simp at hc0 hc1 hc2 hc3
  clear hr
  go_wp2
  go_ret
  exact ⟨rfl, hb1⟩

end Go.Proofs.YtpnifmghbfajiaaDoor
