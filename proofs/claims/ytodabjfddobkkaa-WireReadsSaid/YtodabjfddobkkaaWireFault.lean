import Derived.Test.YtodabjfddobkkaaWireMem
import Derived.Test.YtodabjfddobkkaaFacts
namespace Go.Proofs.Ytodabjfddobkkaa
open Go.RowKit

set_option maxHeartbeats 400000 in
theorem wfault_any (br : Nat) (s : RS) (w : World) (h : RdrS w br s) :
    Calls Try.prog 17 #[.pointer (some ⟨br, 0, none⟩)] w fun e w' => e = .returned (.int .i64 (faultOf s)) ∧ w' = w := by
  obtain ⟨A, n, c, h0, h1, f0, f1, hok, hoff, hr⟩ := h
  clear hr hoff hok
  go_enter Try.func17, Try.ntmps17
  go_wp2
  go_ret
  exact ⟨rfl, rfl⟩
theorem wfault_nil (w : World) :
    Calls Try.prog 17 #[.pointer none] w fun e w' => e = .returned (.int .i64 1) ∧ w' = w := by
  go_enter Try.func17, Try.ntmps17
  go_wp2
  go_ret
  exact ⟨rfl, rfl⟩

end Go.Proofs.Ytodabjfddobkkaa
