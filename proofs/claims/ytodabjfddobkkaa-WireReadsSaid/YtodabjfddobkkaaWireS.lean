/-
  Fields within bytes: plain mathematics.
-/
import Derived.Test.YtodabjfddobkkaaNumS
namespace Go.Proofs.Ytodabjfddobkkaa
open Go.RowKit

/-- A row with its number ahead. -/
def rowU (b : List UInt8) : List UInt8 := putL (b.take 65535).length 2 ++ b.take 65535
/-- The bytes of a field. -/
def fieldU (kind size : Int) (n : Nat) (b : List UInt8) : List UInt8 := if kind = 0 then [UInt8.ofNat n] else if kind = 1 then putR n size else rowU b

/-- The number at the beginning, and what is behind it. -/
def numR (size : Int) (l : List UInt8) : Option (Nat × List UInt8) :=
  if 1 ≤ size ∧ size ≤ 8 ∧ size ≤ (l.length : Int) then some (getL (l.take size.toNat), l.drop size.toNat) else none
/-- The row at the beginning, and what is behind it. -/
def rowR (most : Int) (l : List UInt8) : Option (List UInt8 × List UInt8) :=
  match numR 2 l with
  | none => none
  | some (n, r) => if most < (n : Int) then none else if r.length < n then none else some (r.take n, r.drop n)

/-- A reader: what is left, and whether nothing went wrong. -/
structure RS where
  left : List UInt8
  ok : Bool
/-- What a reader answers, and what it is behind it: of a number. -/
def numStep (size : Int) (s : RS) : Nat × RS := if s.ok then match numR size s.left with | some (n, r) => (n, ⟨r, true⟩) | none => (0, ⟨[], false⟩) else (0, s)
/-- .. of a row. -/
def rowStep (most : Int) (s : RS) : List UInt8 × RS := if s.ok then match rowR most s.left with | some (b, r) => (b, ⟨r, true⟩) | none => ([], ⟨[], false⟩) else ([], s)
def faultOf (s : RS) : Int := if s.ok then 0 else 4

theorem getL_putL (k : Nat) : ∀ m : Nat, getL (putL m k) = m % 256 ^ k := by
  induction k with
  | zero => intro m; simp [putL, getL, Nat.mod_one]
  | succ k ih =>
    intro m
    rw [putL, getL_snoc, ih, UInt8.toNat_ofNat']
    have h1 : (2 : Nat) ^ 8 = 256 := by decide
    rw [h1, Nat.pow_succ, Nat.mul_comm (256 ^ k) 256, Nat.mod_mul]
    omega
theorem numR_put (m k : Nat) (h1 : 1 ≤ k) (h8 : k ≤ 8) (r : List UInt8) : numR (k : Int) (putL m k ++ r) = some (m % 256 ^ k, r) := by
  have hl := putL_length m k
  unfold numR
  rw [if_pos ⟨by omega, by omega, by rw [List.length_append]; omega⟩, Int.toNat_natCast]
  rw [List.take_append, List.drop_append, hl, Nat.sub_self, List.take_zero, List.drop_zero, List.append_nil, List.take_of_length_le (by omega), List.drop_eq_nil_of_le (by omega), List.nil_append, getL_putL]
theorem rowR_row (b r : List UInt8) (most : Int) (hb : b.length ≤ 65535) (hm : (b.length : Int) ≤ most) : rowR most (rowU b ++ r) = some (b, r) := by
  unfold rowR rowU
  rw [List.take_of_length_le hb, List.append_assoc, show (2 : Int) = ((2 : Nat) : Int) from rfl, numR_put _ 2 (by omega) (by omega)]
  have h : b.length % 256 ^ 2 = b.length := Nat.mod_eq_of_lt (by omega)
  simp only [h]
  rw [if_neg (by omega), if_neg (by rw [List.length_append]; omega)]
  simp

end Go.Proofs.Ytodabjfddobkkaa
