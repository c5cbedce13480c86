/-
  Sums of 256 bits by blocks: plain mathematics. No program is named here.
-/
import Derived.Test.YtpnifmghbfajiaaDoorShaN
namespace Go.Proofs.YtpnifmghbfajiaaDoor
open Go.RowKit

/-- A word turned by n bits to the right. -/
def rotU (n x : Nat) : Nat := (x / 2 ^ n) ||| (x * 2 ^ (32 - n) % 4294967296)
def sig0U (x : Nat) : Nat := rotU 7 x ^^^ rotU 18 x ^^^ x / 8
def sig1U (x : Nat) : Nat := rotU 17 x ^^^ rotU 19 x ^^^ x / 1024
/-- The word at t, of those ahead of it. -/
def wordU (b : List UInt8) (l : List Nat) (t : Nat) : Nat :=
  if t < 16 then getL ((b.drop (4 * t)).take 4) else (sig1U (l.getD (t - 2) 0) + l.getD (t - 7) 0 + sig0U (l.getD (t - 15) 0) + l.getD (t - 16) 0) % 4294967296
def wordsL (b : List UInt8) : Nat → List Nat
  | 0 => []
  | t + 1 => wordsL b t ++ [wordU b (wordsL b t) t]
def wordsU (b : List UInt8) : List Nat := if b.length = 64 then wordsL b 64 else List.replicate 64 0
/-- A round. -/
def bigS1 (e : Nat) : Nat := rotU 6 e ^^^ rotU 11 e ^^^ rotU 25 e
def bigS0 (a : Nat) : Nat := rotU 2 a ^^^ rotU 13 a ^^^ rotU 22 a
def chU (e f g : Nat) : Nat := (e &&& f) ^^^ ((4294967295 - e) &&& g)
def majU (a b c : Nat) : Nat := (a &&& b) ^^^ (a &&& c) ^^^ (b &&& c)
def xU (k w e f g h : Nat) : Nat := (h + bigS1 e + chU e f g + k + w) % 4294967296
def yU (a b c : Nat) : Nat := (bigS0 a + majU a b c) % 4294967296
def roundU (k w : Nat) : List Nat → List Nat
  | [a, b, c, d, e, f, g, h] => [(xU k w e f g h + yU a b c) % 4294967296, a, b, c, (d + xU k w e f g h) % 4294967296, e, f, g]
  | v => v
def roundsU (ws : List Nat) : Nat → List Nat → List Nat
  | 0, v => v
  | t + 1, v => roundU (ksU.getD t 0) (ws.getD t 0) (roundsU ws t v)
def plusU (v h : List Nat) : List Nat := List.zipWith (fun x y => (x + y) % 4294967296) v h
def blockU (h : List Nat) (b : List UInt8) : List Nat := if b.length = 64 then plusU (roundsU (wordsU b) 64 h) h else h
/-- All whole blocks, one by one. -/
def blocksL : Nat → List Nat → List UInt8 → List Nat
  | 0, h, _ => h
  | k + 1, h, b => if b.length < 64 then h else blocksL k (blockU h (b.take 64)) (b.drop 64)
def blocksU (h : List Nat) (b : List UInt8) : List Nat := blocksL (b.length / 64) h b
def zerosU (n : Nat) : Nat := (119 - n % 64) % 64
def padU (n : Nat) : List UInt8 := 128 :: (List.replicate (zerosU n) 0 ++ putL (8 * n) 8)
/-- Pad, of any number. -/
def shaPadR (z : Int) : List UInt8 := if 0 ≤ z ∧ z ≤ 1099511627776 then padU z.toNat else []
def outU (h : List Nat) : List UInt8 := h.flatMap fun x => putL x 4
def sumU (b : List UInt8) : List UInt8 := outU (blocksU hsU (b ++ padU b.length))

theorem rotU_lt {n x : Nat} (h : x < 4294967296) : rotU n x < 4294967296 := by
  have h1 : x / 2 ^ n < 2 ^ 32 := Nat.lt_of_le_of_lt (Nat.div_le_self _ _) h
  exact Nat.or_lt_two_pow h1 (by omega)
theorem wordsL_length (b : List UInt8) (t : Nat) : (wordsL b t).length = t := by
  induction t with
  | zero => rfl
  | succ t ih => simp [wordsL, ih]
theorem wordsU_length (b : List UInt8) : (wordsU b).length = 64 := by
  unfold wordsU
  split
  · exact wordsL_length _ _
  · simp
theorem getL4_lt (l : List UInt8) : getL (l.take 4) < 4294967296 := by
  have h1 := getL_lt (l.take 4)
  have h2 : 256 ^ (l.take 4).length ≤ 256 ^ 4 := Nat.pow_le_pow_right (by omega) (List.length_take_le _ _)
  omega
theorem wordU_lt (b : List UInt8) (l : List Nat) (t : Nat) : wordU b l t < 4294967296 := by
  unfold wordU
  split
  · exact getL4_lt _
  · omega
theorem wordsL_lt (b : List UInt8) (t : Nat) : ∀ x ∈ wordsL b t, x < 4294967296 := by
  induction t with
  | zero => intro x h; cases h
  | succ t ih =>
    intro x h
    rcases List.mem_append.1 h with h | h
    · exact ih x h
    · rw [List.mem_singleton.1 h]; exact wordU_lt _ _ _
theorem wordsU_lt (b : List UInt8) : ∀ x ∈ wordsU b, x < 4294967296 := by
  unfold wordsU
  split
  · exact wordsL_lt _ _
  · intro x h; rw [(List.mem_replicate.1 h).2]; decide
/-- What is there stays. -/
theorem wordsL_prefix (b : List UInt8) (t k : Nat) : (wordsL b (t + k)).take t = wordsL b t := by
  induction k with
  | zero => exact List.take_of_length_le (by rw [wordsL_length]; omega)
  | succ k ih =>
    rw [show t + (k + 1) = t + k + 1 by omega, wordsL, List.take_append_of_le_length (by rw [wordsL_length]; omega), ih]
theorem wordsL_get (b : List UInt8) {j t : Nat} (h : j < t) : (wordsL b t).getD j 0 = wordU b (wordsL b j) j := by
  obtain ⟨k, rfl⟩ : ∃ k, t = (j + 1) + k := ⟨t - (j + 1), by omega⟩
  have h2 := wordsL_prefix b (j + 1) k
  have h3 : (wordsL b (j + 1 + k))[j]? = (wordsL b (j + 1))[j]? := by rw [← h2, List.getElem?_take_of_lt (by omega)]
  rw [List.getD_eq_getElem?_getD, h3, wordsL, List.getElem?_append_right (by rw [wordsL_length]; omega), wordsL_length, Nat.sub_self]
  rfl

/-- Eight words below 2^32. -/
def Eight (v : List Nat) : Prop := v.length = 8 ∧ ∀ x ∈ v, x < 4294967296
theorem Eight.form {v : List Nat} (h : Eight v) : ∃ a b c d e f g i, v = [a, b, c, d, e, f, g, i] := by
  obtain ⟨h, -⟩ := h
  match v, h with
  | [a, b, c, d, e, f, g, i], _ => exact ⟨a, b, c, d, e, f, g, i, rfl⟩
theorem roundU_eight {v : List Nat} (k w : Nat) (h : Eight v) : Eight (roundU k w v) := by
  obtain ⟨a, b, c, d, e, f, g, i, rfl⟩ := h.form
  refine ⟨rfl, fun x hx => ?_⟩
  have h2 := h.2
  simp only [roundU, List.mem_cons, List.not_mem_nil, or_false, forall_eq_or_imp, forall_eq] at h2 hx
  rcases hx with rfl | rfl | rfl | rfl | rfl | rfl | rfl | rfl <;> omega
theorem roundsU_eight (ws : List Nat) (t : Nat) {v : List Nat} (h : Eight v) : Eight (roundsU ws t v) := by
  induction t with
  | zero => exact h
  | succ t ih => exact roundU_eight _ _ ih
theorem plusU_eight {v h : List Nat} (hv : Eight v) (hh : Eight h) : Eight (plusU v h) := by
  refine ⟨by simp [plusU, hv.1, hh.1], fun x hx => ?_⟩
  obtain ⟨i, hi, rfl⟩ := List.getElem_of_mem hx
  simp only [plusU, List.getElem_zipWith]
  omega
theorem blockU_eight {h : List Nat} (b : List UInt8) (hh : Eight h) : Eight (blockU h b) := by
  unfold blockU
  split
  · exact plusU_eight (roundsU_eight _ _ hh) hh
  · exact hh
theorem blocksL_eight (k : Nat) : ∀ {h : List Nat} (b : List UInt8), Eight h → Eight (blocksL k h b) := by
  induction k with
  | zero => exact fun _ h => h
  | succ k ih =>
    intro h b hh
    unfold blocksL
    split
    · exact hh
    · exact ih _ (blockU_eight _ hh)
theorem hs_eight : Eight hsU := ⟨rfl, hs_lt⟩
theorem blocksU_eight {h : List Nat} (b : List UInt8) (hh : Eight h) : Eight (blocksU h b) := blocksL_eight _ _ hh
/-- A block ahead. -/
theorem blocksU_step {h : List Nat} {b : List UInt8} (hb : 64 ≤ b.length) : blocksU h b = blocksU (blockU h (b.take 64)) (b.drop 64) := by
  unfold blocksU
  obtain ⟨k, hk⟩ : ∃ k, b.length / 64 = k + 1 := ⟨b.length / 64 - 1, by omega⟩
  rw [hk, blocksL, if_neg (by omega), List.length_drop, show (b.length - 64) / 64 = k by omega]
theorem blocksU_none {h : List Nat} {b : List UInt8} (hb : b.length < 64) : blocksU h b = h := by
  unfold blocksU
  rw [show b.length / 64 = 0 by omega]; rfl
theorem zerosU_ok (n : Nat) : (n + 1 + zerosU n) % 64 = 56 ∧ zerosU n < 64 := by unfold zerosU; omega
/-- Fewer zeros do not do. -/
theorem zerosU_least {n k : Nat} (h : k < zerosU n) : (n + 1 + k) % 64 ≠ 56 := by unfold zerosU at h; omega
theorem padU_length (n : Nat) : (padU n).length = 9 + zerosU n := by simp [padU, putL_length]; omega
/-- With its padding each row is whole blocks. -/
theorem padded (b : List UInt8) : (b ++ padU b.length).length % 64 = 0 ∧ b.length + 9 ≤ (b ++ padU b.length).length ∧ (b ++ padU b.length).length ≤ b.length + 72 := by
  rw [List.length_append, padU_length]
  have := zerosU_ok b.length
  omega
theorem flat_length (h : List Nat) : (outU h).length = 4 * h.length := by
  induction h with
  | nil => rfl
  | cons a l ih => simp only [outU, List.flatMap_cons, List.length_append, putL_length, List.length_cons] at ih ⊢; omega
theorem outU_length {h : List Nat} (hh : Eight h) : (outU h).length = 32 := by rw [flat_length, hh.1]
theorem outU_snoc (h : List Nat) (x : Nat) : outU (h ++ [x]) = outU h ++ putL x 4 := by simp [outU]
theorem sumU_length (b : List UInt8) : (sumU b).length = 32 := outU_length (blocksU_eight _ hs_eight)
theorem sum_none : sumU [] = [227, 176, 196, 66, 152, 252, 28, 20, 154, 251, 244, 200, 153, 111, 185, 36, 39, 174, 65, 228, 100, 155, 147, 76, 164, 149, 153, 27, 120, 82, 184, 85] := by decide +kernel

end Go.Proofs.YtpnifmghbfajiaaDoor
