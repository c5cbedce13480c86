/-
  Bytes as the walk shows them.
-/
import Derived.Test.YtfkfkmdnffpcmaaGfS
import Derived.Test.YtfkfkmdnffpcmaaFacts
import Derived.Test.YtfkfkmdnffpcmaaBase
import Derived.Laws.BitsAllLaws
namespace Go.Proofs.Ytfkfkmdnffpcmaa
open Go.RowKit

theorem gxor_u8 (a b : UInt8) : bits .xor .u8 (a.toNat : Int) (b.toNat : Int) = ((a ^^^ b).toNat : Int) := by
  rw [u8_xor_nat _ _ a.toNat_lt b.toNat_lt, UInt8.toNat_xor]
theorem and_u8 (a b : UInt8) : bits .and .u8 (a.toNat : Int) (b.toNat : Int) = ((a &&& b).toNat : Int) := by
  rw [u8_and_nat _ _ a.toNat_lt b.toNat_lt, UInt8.toNat_and]
theorem or_u8 (a b : UInt8) : bits .or .u8 (a.toNat : Int) (b.toNat : Int) = ((a ||| b).toNat : Int) := by
  rw [u8_or_nat _ _ a.toNat_lt b.toNat_lt, UInt8.toNat_or]
theorem top_u8 : ∀ a : UInt8, (a &&& 128).toNat = if 128 ≤ a.toNat then 128 else 0 := all_bytes (by decide +kernel)
theorem odd_u8 : ∀ a : UInt8, (a &&& 1).toNat = a.toNat % 2 := all_bytes (by decide +kernel)
theorem dbl_u8 : ∀ a : UInt8, (a + a).toNat = a.toNat * 2 % 256 := all_bytes (by decide +kernel)

end Go.Proofs.Ytfkfkmdnffpcmaa
