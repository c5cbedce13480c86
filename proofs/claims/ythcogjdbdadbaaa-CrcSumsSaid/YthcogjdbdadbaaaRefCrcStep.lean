import Derived.Test.YthcogjdbdadbaaaCrcW
import Derived.Test.YthcogjdbdadbaaaFacts
namespace Go.Proofs.Ythcogjdbdadbaaa
open Go.RowKit

set_option maxHeartbeats 400000 in
theorem rcstep_any (c : Nat) (w : World) (hc : c < 4294967296) :
    Calls Try.prog 10 #[.int .u32 c] w (fun e w' => e = .returned (.int .u32 (stepU c : Nat)) ∧ w' = w) := by
  have hx := xor_u32_lit (c / 2) (by omega)
  go_enter Try.func10, Try.ntmps10
  rcases Nat.mod_two_eq_zero_or_one c with h | h
  · have hu : stepU c = c / 2 := by unfold stepU; rw [if_neg (by omega)]
    go_wp2
    go_ret
    exact ⟨by rw [hu, Int.natCast_ediv]; rfl, rfl⟩
  · have hu : stepU c = (c / 2) ^^^ 3988292384 := by unfold stepU; rw [if_pos h]
    go_wp2
    go_ret
    exact ⟨by rw [hu, ← hx, Int.natCast_ediv]; rfl, rfl⟩

end Go.Proofs.Ythcogjdbdadbaaa
