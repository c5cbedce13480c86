/-
  Sums of 32 bits: plain mathematics. No program is named here.
-/
import Derived.Test.YthcogjdbdadbaaaNumS
namespace Go.Proofs.Ythcogjdbdadbaaa
open Go.RowKit

/-- A step: half of it, and, if it is odd, by turns with the polynomial. -/
def stepU (c : Nat) : Nat := if c % 2 = 1 then (c / 2) ^^^ 3988292384 else c / 2
/-- k steps. -/
def stepsU : Nat → Nat → Nat
  | 0, c => c
  | k + 1, c => stepsU k (stepU c)
/-- A byte is taken up. -/
def byteU (c : Nat) (b : UInt8) : Nat := stepsU 8 (c ^^^ b.toNat)
def runU (c : Nat) (l : List UInt8) : Nat := l.foldl byteU c
def crcMoreU (s : Nat) (l : List UInt8) : Nat := runU (s ^^^ 4294967295) l ^^^ 4294967295
def crcU (l : List UInt8) : Nat := runU 4294967295 l ^^^ 4294967295

theorem poly_lt : (3988292384 : Nat) < 2 ^ 32 := by decide
theorem ones_lt : (4294967295 : Nat) < 2 ^ 32 := by decide
theorem xor_lt {a b : Nat} (ha : a < 2 ^ 32) (hb : b < 2 ^ 32) : a ^^^ b < 2 ^ 32 := Nat.xor_lt_two_pow ha hb
theorem byte_lt (b : UInt8) : b.toNat < 2 ^ 32 := Nat.lt_of_lt_of_le b.toNat_lt (by decide)
theorem stepU_lt {c : Nat} (h : c < 2 ^ 32) : stepU c < 2 ^ 32 := by
  unfold stepU
  split
  · exact xor_lt (by omega) poly_lt
  · omega
theorem stepsU_lt (k : Nat) : ∀ {c : Nat}, c < 2 ^ 32 → stepsU k c < 2 ^ 32 := by
  induction k with
  | zero => exact fun h => h
  | succ k ih => exact fun h => ih (stepU_lt h)
theorem stepsU_last (k : Nat) : ∀ c : Nat, stepsU (k + 1) c = stepU (stepsU k c) := by
  induction k with
  | zero => intro c; rfl
  | succ k ih => intro c; rw [stepsU, ih]; rfl
theorem byteU_lt {c : Nat} (b : UInt8) (h : c < 2 ^ 32) : byteU c b < 2 ^ 32 := stepsU_lt 8 (xor_lt h (byte_lt b))
theorem runU_lt (l : List UInt8) : ∀ {c : Nat}, c < 2 ^ 32 → runU c l < 2 ^ 32 := by
  induction l with
  | nil => exact fun h => h
  | cons b l ih => exact fun h => ih (byteU_lt b h)
theorem runU_append (c : Nat) (a b : List UInt8) : runU c (a ++ b) = runU (runU c a) b := List.foldl_append
theorem runU_snoc (c : Nat) (l : List UInt8) (b : UInt8) : runU c (l ++ [b]) = byteU (runU c l) b := by rw [runU_append]; rfl
theorem runU_take {c : Nat} {l : List UInt8} {k : Nat} (h : k < l.length) : runU c (l.take (k + 1)) = byteU (runU c (l.take k)) l[k] := by rw [take_succ_get _ _ h, runU_snoc]
theorem crcMoreU_lt {s : Nat} (l : List UInt8) (h : s < 2 ^ 32) : crcMoreU s l < 2 ^ 32 := xor_lt (runU_lt l (xor_lt h ones_lt)) ones_lt
theorem crcU_lt (l : List UInt8) : crcU l < 2 ^ 32 := xor_lt (runU_lt l ones_lt) ones_lt
theorem crcU_more (l : List UInt8) : crcU l = crcMoreU 0 l := by unfold crcU crcMoreU; rw [Nat.zero_xor]
/-- The sum of two rows goes on from the first one's. -/
theorem crcU_parts (a b : List UInt8) : crcU (a ++ b) = crcMoreU (crcU a) b := by
  unfold crcU crcMoreU
  rw [runU_append, Nat.xor_assoc, Nat.xor_self, Nat.xor_zero]

theorem half_bit {c : Nat} (h : c < 2 ^ 32) : (c / 2).testBit 31 = false := Nat.testBit_lt_two_pow (by omega)
theorem stepU_bit {c : Nat} (h : c < 2 ^ 32) : (stepU c).testBit 31 = decide (c % 2 = 1) := by
  unfold stepU
  split
  · rename_i h1
    rw [Nat.testBit_xor, half_bit h, decide_eq_true h1]
    decide
  · rename_i h1
    rw [half_bit h, decide_eq_false h1]
theorem xor_right {a b c : Nat} (h : a ^^^ c = b ^^^ c) : a = b := by
  have := congrArg (· ^^^ c) h
  simpa [Nat.xor_assoc] using this
/-- A step can be undone. -/
theorem stepU_inj {c d : Nat} (hc : c < 2 ^ 32) (hd : d < 2 ^ 32) (h : stepU c = stepU d) : c = d := by
  have hb : decide (c % 2 = 1) = decide (d % 2 = 1) := by rw [← stepU_bit hc, ← stepU_bit hd, h]
  have hb' : c % 2 = 1 ↔ d % 2 = 1 := by simpa using hb
  unfold stepU at h
  by_cases h1 : c % 2 = 1
  · rw [if_pos h1, if_pos (hb'.1 h1)] at h
    have := xor_right h
    have := hb'.1 h1
    omega
  · rw [if_neg h1, if_neg (fun e => h1 (hb'.2 e))] at h
    have : ¬ d % 2 = 1 := fun e => h1 (hb'.2 e)
    omega
theorem stepsU_inj (k : Nat) : ∀ {c d : Nat}, c < 2 ^ 32 → d < 2 ^ 32 → stepsU k c = stepsU k d → c = d := by
  induction k with
  | zero => exact fun _ _ h => h
  | succ k ih => exact fun hc hd h => stepU_inj hc hd (ih (stepU_lt hc) (stepU_lt hd) h)
theorem byteU_inj {c d : Nat} (b : UInt8) (hc : c < 2 ^ 32) (hd : d < 2 ^ 32) (h : byteU c b = byteU d b) : c = d :=
  xor_right (stepsU_inj 8 (xor_lt hc (byte_lt b)) (xor_lt hd (byte_lt b)) h)
theorem byteU_byte {c : Nat} {a b : UInt8} (hc : c < 2 ^ 32) (h : byteU c a = byteU c b) : a = b := by
  have h1 := stepsU_inj 8 (xor_lt hc (byte_lt a)) (xor_lt hc (byte_lt b)) h
  rw [Nat.xor_comm c, Nat.xor_comm c] at h1
  exact UInt8.toNat_inj.1 (xor_right h1)
theorem runU_inj (l : List UInt8) : ∀ {c d : Nat}, c < 2 ^ 32 → d < 2 ^ 32 → runU c l = runU d l → c = d := by
  induction l with
  | nil => exact fun _ _ h => h
  | cons b l ih => exact fun hc hd h => byteU_inj b hc hd (ih (byteU_lt b hc) (byteU_lt b hd) h)
/-- Bytes of which one is turned have another sum. -/
theorem crcU_turned {l : List UInt8} {i : Nat} (hi : i < l.length) {b : UInt8} (hb : b ≠ l[i]) : crcU (l.set i b) ≠ crcU l := by
  intro h
  have h1 : runU 4294967295 (l.set i b) = runU 4294967295 l := xor_right h
  have e1 : l.set i b = l.take i ++ b :: l.drop (i + 1) := List.set_eq_take_append_cons_drop.trans (if_pos hi)
  have e2 : l = l.take i ++ l[i] :: l.drop (i + 1) := by
    rw [← List.drop_eq_getElem_cons hi, List.take_append_drop]
  have q1 : runU 4294967295 (l.set i b) = runU (byteU (runU 4294967295 (l.take i)) b) (l.drop (i + 1)) := by rw [e1, runU_append]; rfl
  have q2 : runU 4294967295 l = runU (byteU (runU 4294967295 (l.take i)) l[i]) (l.drop (i + 1)) := by
    rw [show runU 4294967295 l = runU 4294967295 (l.take i ++ l[i] :: l.drop (i + 1)) from congrArg _ e2, runU_append]; rfl
  have h2 := q1.symm.trans (h1.trans q2)
  have hlt : runU 4294967295 (l.take i) < 2 ^ 32 := runU_lt _ ones_lt
  exact hb (byteU_byte hlt (runU_inj _ (byteU_lt _ hlt) (byteU_lt _ hlt) h2))

end Go.Proofs.Ythcogjdbdadbaaa
