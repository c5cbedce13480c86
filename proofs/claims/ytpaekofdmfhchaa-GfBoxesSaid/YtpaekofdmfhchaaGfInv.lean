import Derived.Test.YtpaekofdmfhchaaGfPower
namespace Go.Proofs.Ytpaekofdmfhchaa
open Go.RowKit

set_option maxHeartbeats 400000 in
theorem ginv_any (a : UInt8) (w : World) :
    Calls Try.prog 13 #[.int .u8 (a.toNat : Int)] w (fun e w' => e = .returned (.int .u8 ((ginvU a).toNat : Int)) ∧ w' = w) := by
  have hc := fun w => gpower_any a 254 w (by omega)
  rw [gpower_inv] at hc
  generalize ginvU a = m at *
  go_enter Try.func13, Try.ntmps13
  go_wp2_with fail
  refine (hc _).mono ?_
  rintro e w1 ⟨rfl, rfl⟩
  go_wp2
  go_ret
  exact ⟨rfl, rfl⟩

end Go.Proofs.Ytpaekofdmfhchaa
