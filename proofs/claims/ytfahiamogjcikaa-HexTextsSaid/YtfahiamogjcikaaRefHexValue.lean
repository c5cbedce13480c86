import Derived.Test.YtfahiamogjcikaaHexS
import Derived.Test.YtfahiamogjcikaaRow
namespace Go.Proofs.Ytfahiamogjcikaa
open Go.RowKit

def sixteenV : ByteArray := ⟨#[48, 49, 50, 51, 52, 53, 54, 55, 56, 57, 97, 98, 99, 100, 101, 102]⟩
theorem sixteen_get : ∀ (n : Fin 16), sixteenV[n.val]'(n.isLt) = dig n.val := by decide
theorem value_yes {k : Nat} {c : UInt8} (hk : k < 16) (h : ((((sixteenV[k]'hk).toNat : Nat) : Int) == (c.toNat : Int)) = true) : dig k = c := by
  rw [show sixteenV[k]'hk = dig k from sixteen_get ⟨k, hk⟩] at h
  have := beq_iff_eq.1 h
  exact UInt8.toNat_inj.1 (by omega)
theorem value_no {k : Nat} {c : UInt8} (hk : k < 16) (h : ((((sixteenV[k]'hk).toNat : Nat) : Int) == (c.toNat : Int)) = false) : dig k ≠ c := by
  intro e
  rw [show sixteenV[k]'hk = dig k from sixteen_get ⟨k, hk⟩, e] at h
  simp at h
theorem no_step {k : Nat} {c : UInt8} (h : ∀ j, j < k → dig j ≠ c) (h2 : dig k ≠ c) : ∀ j, j < k + 1 → dig j ≠ c := by
  intro j hj
  rcases Nat.lt_or_ge j k with h' | h'
  · exact h j h'
  · rwa [show j = k by omega]
/-- What a sign is worth; -1: nothing. -/
def worthU (c : UInt8) : Int := if okU c then (vU c : Int) else -1
theorem worth_found {c : UInt8} {k : Nat} (hk : k < 16) (h : dig k = c) : worthU c = (k : Int) := by
  subst h
  unfold worthU
  rw [if_pos (ok_dig hk)]
  unfold vU
  have := val_dig ⟨k, hk⟩
  rw [this]; rfl
theorem worth_none {c : UInt8} (h : ∀ j, j < 16 → dig j ≠ c) : worthU c = -1 := by
  unfold worthU
  split
  · rename_i hc
    have := val_of (vU_some hc)
    exact absurd this.2 (h _ this.1)
  · rfl

set_option maxHeartbeats 1600000 in
theorem hvalue_any (c : UInt8) (w : World) : Calls Try.prog 18 #[.int .u8 (c.toNat : Int)] w fun e w' => e = .returned (.int .i64 (worthU c)) ∧ w' = w := by
  go_enter Try.func18, Try.ntmps18
  go_wp2
  go_loopw [3] (fun i wr => ∃ k : Nat, k ≤ 16 ∧ i = .int .i64 k ∧ wr = w ∧ ∀ j, j < k → dig j ≠ c) (fun i _ => 16 - (intOf i).toNat)
  case atStart => exact ⟨0, Nat.zero_le _, rfl, rfl, fun j hj => by omega⟩
  case round =>
    obtain ⟨k, hk, rfl, rfl, hno⟩ := hrel
    have Hno := Lib.hid hno; clear hno
    by_cases hlt : k < 16
    · go_wp2
      · have h := worth_found hlt (value_yes (c := c) hlt (by assumption))
        go_ret
        exact ⟨by rw [h]; rfl, rfl⟩
      · have h := no_step Hno.out (value_no (c := c) hlt (by assumption))
        go_roundw
        case rel => exact ⟨k + 1, by omega, by go_num, by first | trivial | rfl, h⟩
        case measure => simp [intOf]; omega
    · obtain rfl : k = 16 := by omega
      have h := worth_none Hno.out
      have H := Lib.hid h; clear h
      go_wp2
      go_ret
      exact ⟨by rw [H.out]; rfl, rfl⟩

end Go.Proofs.Ytfahiamogjcikaa
