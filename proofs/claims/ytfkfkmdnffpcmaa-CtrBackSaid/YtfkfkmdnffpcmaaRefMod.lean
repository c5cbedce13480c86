import Derived.Test.YtfkfkmdnffpcmaaNumS
import Derived.Test.YtfkfkmdnffpcmaaFacts
namespace Go.Proofs.Ytfkfkmdnffpcmaa
open Go.RowKit

set_option maxHeartbeats 400000 in
theorem rmod_any (z n : Int) (w : World) (h1 : 1 ≤ n) (hn : n ≤ 4611686018427387904) :
    Calls Try.prog 16 #[.int .i64 z, .int .i64 n] w (fun e w' => ∃ i : Nat, e = .returned (.int .i64 i) ∧ (i : Int) < n ∧ w' = w) := by
  have b1 := Int.lt_tmod_of_pos z (show 0 < n by omega)
  have b2 := Int.tmod_lt_of_pos z (show 0 < n by omega)
  by_cases hneg : z.tmod n < 0
  · obtain ⟨i, hi⟩ := Int.eq_ofNat_of_zero_le (show 0 ≤ z.tmod n + n by omega)
    have hin : (i : Int) < n := by omega
    go_enter Try.func16, Try.ntmps16
    go_wp2
    go_ret
    exact ⟨i, by rw [← hi]; rfl, hin, rfl⟩
  · obtain ⟨i, hi⟩ := Int.eq_ofNat_of_zero_le (show 0 ≤ z.tmod n by omega)
    have hin : (i : Int) < n := by omega
    go_enter Try.func16, Try.ntmps16
    go_wp2
    go_ret
    exact ⟨i, by rw [← hi]; rfl, hin, rfl⟩

end Go.Proofs.Ytfkfkmdnffpcmaa
