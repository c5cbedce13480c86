/-
  A round, as the walk shows it: plain mathematics. No program is named here.
-/
import Derived.Test.YtpnifmghbfajiaaDoorShaWordS
import Derived.Laws.BitsAllLaws
namespace Go.Proofs.YtpnifmghbfajiaaDoor
open Go.RowKit

theorem not_sub (e : Nat) (h : e < 4294967296) : 4294967295 ^^^ e = 4294967295 - e := by
  apply Nat.eq_of_testBit_eq
  intro i
  have h1 : (4294967295 - e).testBit i = (decide (i < 32) && !e.testBit i) := by
    have := Nat.testBit_two_pow_sub_succ (n := 32) h i
    rwa [show 2 ^ 32 - (e + 1) = 4294967295 - e by omega] at this
  have h2 : (4294967295 : Nat).testBit i = decide (i < 32) := Nat.testBit_two_pow_sub_one 32 i
  rw [Nat.testBit_xor, h1, h2]
  by_cases hi : i < 32
  · simp [hi]
  · have h3 : e.testBit i = false := Nat.testBit_lt_two_pow (Nat.lt_of_lt_of_le h (Nat.pow_le_pow_right (show 0 < 2 by decide) (show 32 ≤ i by omega)))
    simp [hi, h3]
theorem not_bits (e : Nat) (h : e < 4294967296) : bits .xor .u32 IntKind.u32.max (e : Int) = ((4294967295 - e : Nat) : Int) := by
  rw [show IntKind.u32.max = ((4294967295 : Nat) : Int) from rfl, u32_xor_nat 4294967295 e (by decide) h, not_sub e h]
theorem and_lt (a b : Nat) (h : a < 4294967296) : a &&& b < 4294967296 := Nat.lt_of_le_of_lt Nat.and_le_left h
theorem chU_lt {e f g : Nat} (h : e < 4294967296) : chU e f g < 4294967296 := Nat.xor_lt_two_pow (n := 32) (and_lt _ _ h) (and_lt _ _ (show 4294967295 - e < 4294967296 by omega))
theorem majU_lt {a b c : Nat} (ha : a < 4294967296) (hb : b < 4294967296) : majU a b c < 4294967296 := Nat.xor_lt_two_pow (n := 32) (Nat.xor_lt_two_pow (n := 32) (and_lt _ _ ha) (and_lt _ _ ha)) (and_lt _ _ hb)
theorem bigS1_lt {e : Nat} (h : e < 4294967296) : bigS1 e < 4294967296 := Nat.xor_lt_two_pow (n := 32) (Nat.xor_lt_two_pow (n := 32) (rotU_lt h) (rotU_lt h)) (rotU_lt h)
theorem bigS0_lt {e : Nat} (h : e < 4294967296) : bigS0 e < 4294967296 := Nat.xor_lt_two_pow (n := 32) (Nat.xor_lt_two_pow (n := 32) (rotU_lt h) (rotU_lt h)) (rotU_lt h)
/-- The bits' equations of a round. -/
theorem ch_bits (e f g : Nat) (he : e < 4294967296) (hf : f < 4294967296) (hg : g < 4294967296) : ∃ p q r : Nat, bits .and .u32 (e : Int) (f : Int) = (p : Int) ∧ bits .xor .u32 IntKind.u32.max (e : Int) = (q : Int) ∧ bits .and .u32 (q : Int) (g : Int) = (r : Int) ∧
    bits .xor .u32 (p : Int) (r : Int) = ((chU e f g : Nat) : Int) :=
  ⟨e &&& f, 4294967295 - e, (4294967295 - e) &&& g, u32_and_nat _ _ he hf, not_bits _ he, u32_and_nat _ _ (by omega) hg, u32_xor_nat _ _ (and_lt _ _ he) (and_lt _ _ (by omega))⟩
theorem maj_bits (a b c : Nat) (ha : a < 4294967296) (hb : b < 4294967296) (hc : c < 4294967296) : ∃ p q r s : Nat, bits .and .u32 (a : Int) (b : Int) = (p : Int) ∧ bits .and .u32 (a : Int) (c : Int) = (q : Int) ∧ bits .and .u32 (b : Int) (c : Int) = (r : Int) ∧
    bits .xor .u32 (p : Int) (q : Int) = (s : Int) ∧ bits .xor .u32 (s : Int) (r : Int) = ((majU a b c : Nat) : Int) :=
  ⟨a &&& b, a &&& c, b &&& c, (a &&& b) ^^^ (a &&& c), u32_and_nat _ _ ha hb, u32_and_nat _ _ ha hc, u32_and_nat _ _ hb hc, u32_xor_nat _ _ (and_lt _ _ ha) (and_lt _ _ ha), u32_xor_nat _ _ (Nat.xor_lt_two_pow (n := 32) (and_lt _ _ ha) (and_lt _ _ ha)) (and_lt _ _ hb)⟩
theorem rounds_next (ws : List Nat) (t : Nat) (v : List Nat) : roundsU ws (t + 1) v = roundU (ksU.getD t 0) (ws.getD t 0) (roundsU ws t v) := rfl

end Go.Proofs.YtpnifmghbfajiaaDoor
