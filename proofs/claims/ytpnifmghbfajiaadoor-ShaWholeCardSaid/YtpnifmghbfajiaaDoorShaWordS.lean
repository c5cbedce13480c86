/-
  The words of a block, one by one: plain mathematics. No program is named here.
-/
import Derived.Test.YtpnifmghbfajiaaDoorShaS
namespace Go.Proofs.YtpnifmghbfajiaaDoor
open Go.RowKit

theorem words_low {b : List UInt8} {j : Nat} (h : j < 16) : (wordsL b 64).getD j 0 = getL ((b.drop (4 * j)).take 4) := by
  rw [wordsL_get b (show j < 64 by omega)]
  unfold wordU
  rw [if_pos h]
theorem words_high {b : List UInt8} {t : Nat} (h : 16 ≤ t) (h2 : t < 64) : (wordsL b 64).getD t 0 =
    (sig1U ((wordsL b 64).getD (t - 2) 0) + (wordsL b 64).getD (t - 7) 0 + sig0U ((wordsL b 64).getD (t - 15) 0) + (wordsL b 64).getD (t - 16) 0) % 4294967296 := by
  rw [wordsL_get b h2, wordsL_get b (show t - 2 < 64 by omega), wordsL_get b (show t - 7 < 64 by omega), wordsL_get b (show t - 15 < 64 by omega), wordsL_get b (show t - 16 < 64 by omega)]
  conv => lhs; unfold wordU
  rw [if_neg (by omega), wordsL_get b (show t - 2 < t by omega), wordsL_get b (show t - 7 < t by omega), wordsL_get b (show t - 15 < t by omega), wordsL_get b (show t - 16 < t by omega)]
theorem words_len (b : List UInt8) : (wordsL b 64).length = 64 := wordsL_length b 64
theorem getD_lt {l : List Nat} {M : Nat} (h : ∀ x ∈ l, x < M) (hM : 0 < M) (j : Nat) : l.getD j 0 < M := by
  rw [List.getD_eq_getElem?_getD]
  by_cases hj : j < l.length
  · rw [List.getElem?_eq_getElem hj]; exact h _ (List.getElem_mem hj)
  · rw [List.getElem?_eq_none (by omega)]; exact hM
theorem sig0U_lt {x : Nat} (h : x < 4294967296) : sig0U x < 4294967296 :=
  Nat.xor_lt_two_pow (n := 32) (Nat.xor_lt_two_pow (n := 32) (rotU_lt h) (rotU_lt h)) (Nat.lt_of_le_of_lt (Nat.div_le_self _ _) h)
theorem sig1U_lt {x : Nat} (h : x < 4294967296) : sig1U x < 4294967296 :=
  Nat.xor_lt_two_pow (n := 32) (Nat.xor_lt_two_pow (n := 32) (rotU_lt h) (rotU_lt h)) (Nat.lt_of_le_of_lt (Nat.div_le_self _ _) h)

end Go.Proofs.YtpnifmghbfajiaaDoor
