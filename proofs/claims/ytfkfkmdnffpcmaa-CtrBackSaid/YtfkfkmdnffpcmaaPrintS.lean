import Derived.Lib.ItoaNum
import Derived.Test.YtfkfkmdnffpcmaaNumS
namespace Go.Proofs.Ytfkfkmdnffpcmaa
open Go.RowKit

/-- What Print answers. -/
def printL (n : Int) : List UInt8 := if n < 0 then [] else Lib.decDigits n.toNat
theorem dec_small {n : Nat} (h : n < 10) : Lib.decDigits n = [UInt8.ofNat (48 + n)] := by rw [Lib.decDigits, dif_pos h]
theorem dec_big {n : Nat} (h : ¬ n < 10) : Lib.decDigits n = Lib.decDigits (n / 10) ++ Lib.decDigits (n % 10) := by
  rw [Lib.decDigits, dif_neg h, dec_small (show n % 10 < 10 by omega)]
theorem dec_len_lt : ∀ (k n : Nat), n < 10 ^ (k + 1) → (Lib.decDigits n).length ≤ k + 1
  | 0, n, h => by rw [dec_small (by simpa using h)]; simp
  | k + 1, n, h => by
    by_cases h10 : n < 10
    · rw [dec_small h10]; simp
    · rw [dec_big h10, List.length_append, dec_small (show n % 10 < 10 by omega)]
      have := dec_len_lt k (n / 10) (by rw [Nat.pow_succ] at h; omega)
      simp; omega
theorem dec_len {n : Nat} (h : n < 9223372036854775808) : (Lib.decDigits n).length ≤ 20 := by
  have := dec_len_lt 18 n (by omega)
  omega

end Go.Proofs.Ytfkfkmdnffpcmaa
