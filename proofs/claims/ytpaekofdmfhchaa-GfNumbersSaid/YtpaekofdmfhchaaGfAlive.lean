import Derived.Test.YtpaekofdmfhchaaGfBox
import Derived.Test.YtpaekofdmfhchaaGfMul
namespace Go.Proofs.Ytpaekofdmfhchaa
open Go.RowKit

theorem gal_mul : gmulU 87 131 = 193 := by decide +kernel
theorem gal_box : gboxU 0 = 99 := by rw [gbox_tab]; decide +kernel

set_option maxHeartbeats 800000 in
theorem alive10_any (w : World) : Calls Try.prog 12 #[] w (Ans w (.bool true)) := by
  have h1 : ∀ w, Calls Try.prog 8 #[.int .u8 87, .int .u8 131] w (fun e w' => e = .returned (.int .u8 193) ∧ w' = w) := fun w => by
    have h := gmul_any 87 131 w
    rw [gal_mul] at h
    exact h
  have h2 : ∀ w, Calls Try.prog 15 #[.int .u8 0] w (Ans w (.int .u8 99)) := fun w => by
    have h := gbox_any 0 w
    rw [gal_box] at h
    exact h
  go_enter Try.func12, Try.ntmps12
  go_wp2_with fail
  refine (h1 _).mono ?_
  rintro e w1 ⟨rfl, rfl⟩
  go_wp2_with fail
  refine (h2 _).mono ?_
  rintro e w1 ⟨rfl, hb1⟩
  go_wp2
  go_ret
  exact ⟨rfl, hb1⟩

end Go.Proofs.Ytpaekofdmfhchaa
