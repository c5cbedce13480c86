/-
  Powers: plain mathematics. No program is named here.
-/
import Derived.Test.YtfkfkmdnffpcmaaGfS
namespace Go.Proofs.Ytfkfkmdnffpcmaa
open Go.RowKit

section
attribute [local irreducible] gmulU
/-- The product of n times a. -/
def gpowU (a : UInt8) : Nat → UInt8
  | 0 => 1
  | n + 1 => gmulU (gpowU a n) a
theorem gone_mul (a : UInt8) : gmulU 1 a = a := by rw [gmul_comm, gmul_one]
theorem gpow_add (a : UInt8) (m : Nat) : ∀ n, gpowU a (m + n) = gmulU (gpowU a m) (gpowU a n)
  | 0 => (gmul_one _).symm
  | n + 1 => by
    show gmulU (gpowU a (m + n)) a = gmulU (gpowU a m) (gmulU (gpowU a n) a)
    rw [gpow_add a m n, gmul_assoc]
theorem gpow_sq (a : UInt8) : ∀ n, gpowU (gmulU a a) n = gpowU a (2 * n)
  | 0 => rfl
  | n + 1 => by
    show gmulU (gpowU (gmulU a a) n) (gmulU a a) = gmulU (gmulU (gpowU a (2 * n)) a) a
    rw [gpow_sq a n, gmul_assoc]
/-- How often, as the document counts. -/
def gtimes (n : Int) : Nat := if n < 1 then 0 else ((n - 1) % 255 + 1).toNat
def gpowerU (a : UInt8) (n : Int) : UInt8 := gpowU a (gtimes n)
end
theorem gpow_254 (a : UInt8) : gpowU a 254 = gmulU (gmulU (gmulU (gmulU (gmulU (gmulU (gpowU a 2) (gpowU a 4)) (gpowU a 8)) (gpowU a 16)) (gpowU a 32)) (gpowU a 64)) (gpowU a 128) := by
  rw [← gpow_add, ← gpow_add, ← gpow_add, ← gpow_add, ← gpow_add, ← gpow_add]
def gsq (a : UInt8) : UInt8 := gmulU a a
theorem gpow_two (a : UInt8) (n : Nat) : gpowU a (2 * n) = gsq (gpowU a n) := by
  rw [show 2 * n = n + n by omega, gpow_add]; rfl
def gup (a : UInt8) : UInt8 :=
  let b := gsq a; let c := gsq b; let d := gsq c; let e := gsq d; let f := gsq e; let g := gsq f; let h := gsq g
  gmulU (gmulU (gmulU (gmulU (gmulU (gmulU b c) d) e) f) g) h
theorem gup_pow (a : UInt8) : gpowU a 254 = gup a := by
  have h1 : gpowU a 1 = a := gone_mul a
  have h2 : gpowU a 2 = gsq a := by rw [show 2 = 2 * 1 from rfl, gpow_two, h1]
  have h3 : gpowU a 4 = gsq (gsq a) := by rw [show 4 = 2 * 2 from rfl, gpow_two, h2]
  have h4 : gpowU a 8 = gsq (gsq (gsq a)) := by rw [show 8 = 2 * 4 from rfl, gpow_two, h3]
  have h5 : gpowU a 16 = gsq (gsq (gsq (gsq a))) := by rw [show 16 = 2 * 8 from rfl, gpow_two, h4]
  have h6 : gpowU a 32 = gsq (gsq (gsq (gsq (gsq a)))) := by rw [show 32 = 2 * 16 from rfl, gpow_two, h5]
  have h7 : gpowU a 64 = gsq (gsq (gsq (gsq (gsq (gsq a))))) := by rw [show 64 = 2 * 32 from rfl, gpow_two, h6]
  have h8 : gpowU a 128 = gsq (gsq (gsq (gsq (gsq (gsq (gsq a)))))) := by rw [show 128 = 2 * 64 from rfl, gpow_two, h7]
  rw [gpow_254, h2, h3, h4, h5, h6, h7, h8]
  rfl
theorem gup_tab : ∀ a : UInt8, gup a = gtabU a := all_bytes (by decide +kernel)
/-- What is told as the inverse is the power of 254. -/
theorem gpower_inv (a : UInt8) : gpowerU a 254 = ginvU a := by
  rw [show gpowerU a 254 = gpowU a 254 from rfl, gup_pow, gup_tab, ginv_tab]

end Go.Proofs.Ytfkfkmdnffpcmaa
