import Derived.Test.YtodabjfddobkkaaWireFault
import Derived.Test.YtodabjfddobkkaaWireLeft
namespace Go.Proofs.Ytodabjfddobkkaa
open Go.RowKit

/-- What End answers. -/
def endOf (s : RS) : Int := if 0 < s.left.length then 4 else faultOf s

set_option maxHeartbeats 400000 in
theorem wend_any (br : Nat) (s : RS) (w : World) (h : RdrS w br s) :
    Calls Try.prog 18 #[.pointer (some ⟨br, 0, none⟩)] w fun e w' => e = .returned (.int .i64 (endOf s)) ∧ w' = w := by
  unfold endOf
  by_cases hl : 0 < s.left.length
  · rw [if_pos hl]
    have hi : ((s.left.length : Int) > 0) := by omega
    go_enter Try.func18, Try.ntmps18
    go_wp2_with fail
    refine (wleft_any br s w h).mono ?_
    rintro e w1 ⟨rfl, rfl⟩
    go_wp2
    go_ret
    exact ⟨rfl, rfl⟩
  · rw [if_neg hl]
    have hi : s.left.length = 0 := by omega
    go_enter Try.func18, Try.ntmps18
    go_wp2_with fail
    refine (wleft_any br s w h).mono ?_
    rintro e w1 ⟨rfl, rfl⟩
    rw [hi]
    go_wp2_with fail
    refine (wfault_any br s _ h).mono ?_
    rintro e w1 ⟨rfl, rfl⟩
    go_wp2
    go_ret
    exact ⟨rfl, rfl⟩

set_option maxHeartbeats 400000 in
theorem wend_nil (w : World) :
    Calls Try.prog 18 #[.pointer none] w fun e w' => e = .returned (.int .i64 1) ∧ w' = w := by
  go_enter Try.func18, Try.ntmps18
  go_wp2_with fail
  refine (wleft_nil w).mono ?_
  rintro e w1 ⟨rfl, rfl⟩
  go_wp2_with fail
  refine (wfault_nil _).mono ?_
  rintro e w1 ⟨rfl, rfl⟩
  go_wp2
  go_ret
  exact ⟨rfl, rfl⟩

end Go.Proofs.Ytodabjfddobkkaa
