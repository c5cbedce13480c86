import Derived.Test.YtfkfkmdnffpcmaaNumS
namespace Go.Proofs.Ytfkfkmdnffpcmaa
open Go.RowKit

/-- What Pad answers. -/
def padL (b : List UInt8) (n : Nat) : List UInt8 := b.take n ++ List.replicate (n - b.length) 0
def padR (b : List UInt8) (size : Int) : List UInt8 := if 1 ≤ size ∧ size ≤ 65536 then padL b size.toNat else []
theorem padL_length (b : List UInt8) (n : Nat) : (padL b n).length = n := by simp [padL]; omega
theorem pad_fin {b : List UInt8} {n k : Nat} (hk : k ≤ n) (hl : k ≤ b.length) (h : n ≤ k ∨ b.length ≤ k) : b.take k ++ List.replicate (n - k) 0 = padL b n := by
  unfold padL
  rcases h with h | h
  · rw [show n = k by omega]
    simp; omega
  · rw [show b.length = k by omega, List.take_of_length_le (by omega), List.take_of_length_le (by omega)]
theorem pad_set {b : List UInt8} {n k : Nat} (hk : k < n) (hl : k < b.length) : (b.take k ++ List.replicate (n - k) 0).set k b[k] = b.take (k + 1) ++ List.replicate (n - (k + 1)) 0 := by
  have h : (b.take k).length = k := by simp; omega
  rw [List.set_append_right _ _ (by omega), h, Nat.sub_self, show n - k = (n - (k + 1)) + 1 by omega, List.replicate_succ, List.set_cons_zero, take_succ_get _ _ hl, List.append_assoc]
  rfl

/-- What Xor answers. -/
def xorL (a b : List UInt8) : List UInt8 := List.zipWith (fun x y => x ^^^ y) a b
theorem xorL_length (a b : List UInt8) : (xorL a b).length = min a.length b.length := by simp [xorL]
theorem xorL_get {a b : List UInt8} {k : Nat} (ha : k < a.length) (hb : k < b.length) : (xorL a b)[k]'(by rw [xorL_length]; omega) = a[k] ^^^ b[k] := by simp [xorL]
theorem xorL_step {a b : List UInt8} {k : Nat} (ha : k < a.length) (hb : k < b.length) : (xorL a b).take (k + 1) = (xorL a b).take k ++ [a[k] ^^^ b[k]] := by
  rw [take_succ_get _ _ (by rw [xorL_length]; omega), xorL_get ha hb]
theorem xor_u8 (a b : UInt8) : bits .xor .u8 (a.toNat : Int) (b.toNat : Int) = ((a ^^^ b).toNat : Int) := by
  rw [u8_xor_nat _ _ a.toNat_lt b.toNat_lt, UInt8.toNat_xor]
theorem fill_set (l : List UInt8) {n k : Nat} (b : UInt8) (hk : k < n) (h : l.length = k) : (l ++ List.replicate (n - k) 0).set k b = (l ++ [b]) ++ List.replicate (n - (k + 1)) 0 := by
  rw [List.set_append_right _ _ (by omega), h, Nat.sub_self, show n - k = (n - (k + 1)) + 1 by omega, List.replicate_succ, List.set_cons_zero, List.append_assoc]
  rfl

end Go.Proofs.Ytfkfkmdnffpcmaa
