import Derived.Test.YtfahiamogjcikaaStrs
import Derived.Test.YtfahiamogjcikaaRow
namespace Go.Proofs.Ytfahiamogjcikaa
open Go.RowKit

set_option maxHeartbeats 1600000 in
/-- Words: a row of texts is the same as itself. -/
theorem words_same (B n c d : Nat) (A C : Option Addr) (xs : List (List UInt8)) (w : World) (hx : Rd w B A n (Sts xs)) (hy : Rd w B C n (Sts xs)) (hn : n ≤ maxLen) :
    Calls Try.prog 12 #[.slice A n c, .slice C n d] w (Ans w (.bool true)) := by
  unfold maxLen at hn
  have Hx := Lib.hid hx.strs
  go_enter Try.func12, Try.ntmps12
  go_wp2
  go_loopw [5] (fun i wr => ∃ k j : Nat, k ≤ n ∧ i = .int .i64 k ∧ wr = w.drewN j) (fun i _ => n - (intOf i).toNat)
  case atStart => exact ⟨0, 0, Nat.zero_le _, rfl, rfl⟩
  case round =>
    obtain ⟨k, j, hk, rfl, rfl⟩ := hrel
    by_cases hlt : k < n
    · have hkx : k < xs.length := by rw [Hx.out]; exact hlt
      obtain ⟨b, o, rfl, hb, hc⟩ := hx.str hlt hkx
      obtain ⟨b', o', rfl, hb', hc'⟩ := hy.str hlt hkx
      go_wp2
      go_quiet (fail)
      go_wp2
      go_roundw
      case rel => exact ⟨k + 1, _, by omega, by go_num, rfl⟩
      case measure => simp [intOf]; omega
    · go_wp2
      go_ret
      exact ⟨rfl, bdrewN (Below.refl _ _) _⟩

end Go.Proofs.Ytfahiamogjcikaa
