import Derived.Test.YtodabjfddobkkaaWireMem
import Derived.Test.YtodabjfddobkkaaFacts
namespace Go.Proofs.Ytodabjfddobkkaa
open Go.RowKit

set_option maxHeartbeats 400000 in
theorem wleft_any (br : Nat) (s : RS) (w : World) (h : RdrS w br s) :
    Calls Try.prog 16 #[.pointer (some ⟨br, 0, none⟩)] w fun e w' => e = .returned (.int .i64 (s.left.length : Int)) ∧ w' = w := by
  obtain ⟨A, n, c, h0, h1, f0, f1, hok, hoff, hr⟩ := h
  have hl := hr.bytes
  rw [hl]
  clear hr hoff hok hl
  go_enter Try.func16, Try.ntmps16
  go_wp2
  go_ret
  exact ⟨rfl, rfl⟩
theorem wleft_nil (w : World) :
    Calls Try.prog 16 #[.pointer none] w fun e w' => e = .returned (.int .i64 0) ∧ w' = w := by
  go_enter Try.func16, Try.ntmps16
  go_wp2
  go_ret
  exact ⟨rfl, rfl⟩

end Go.Proofs.Ytodabjfddobkkaa
