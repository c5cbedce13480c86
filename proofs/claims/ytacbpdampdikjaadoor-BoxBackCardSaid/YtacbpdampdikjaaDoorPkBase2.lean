/-
  Some of the texts that the last one of these needs: walks of the functions that the law calls, and the mathematics of their answers.
-/
import Derived.Test.YtacbpdampdikjaaDoorPkBase1
import Derived.Lib.SliceRun
import Derived.Deep.AppendLies
import Derived.Deep.RegionHeldLaw
import Derived.Laws.BitsAllLaws
import Derived.Deep.WholeRow
import Derived.Deep.MidRow
import Derived.Laws.Tables
/-
  Roots of prime numbers in whole numbers, by digits of 32 bits: plain mathematics. No program is named here.
-/
namespace Go.Proofs.YtacbpdampdikjaaDoor
open Go.RowKit

/-- Is nothing from d on, of so many, a divisor of n? -/
def noneU (n : Nat) : Nat → Nat → Bool
  | 0, _ => true
  | k + 1, d => n % d != 0 && noneU n k (d + 1)
def isPrimeU (n : Nat) : Bool := noneU n (n - 2) 2
/-- The prime numbers from n on, of so many numbers. -/
def primesU : Nat → Nat → List Nat
  | 0, _ => []
  | k + 1, n => if isPrimeU n then n :: primesU k (n + 1) else primesU k (n + 1)
/-- The prime number at a place; 0 where there is none below 400. -/
def primeU (t : Nat) : Nat := (primesU 398 2).getD t 0
theorem noneU_snoc (n k d : Nat) : noneU n (k + 1) d = (noneU n k d && n % (d + k) != 0) := by
  induction k generalizing d with
  | zero => simp [noneU]
  | succ k ih =>
    rw [noneU, ih, noneU, show d + 1 + k = d + (k + 1) by omega, Bool.and_assoc]
theorem primesU_mem (k : Nat) : ∀ n p, p ∈ primesU k n → n ≤ p ∧ p < n + k := by
  induction k with
  | zero => intro n p h; cases h
  | succ k ih =>
    intro n p h
    unfold primesU at h
    split at h
    · rcases List.mem_cons.1 h with rfl | h
      · omega
      · have := ih _ _ h; omega
    · have := ih _ _ h; omega
theorem primeU_lt (t : Nat) : primeU t < 400 := by
  unfold primeU
  rw [List.getD_eq_getElem?_getD]
  by_cases h : t < (primesU 398 2).length
  · rw [List.getElem?_eq_getElem h]
    have := primesU_mem _ _ _ (List.getElem_mem h)
    simp only [Option.getD_some]
    omega
  · rw [List.getElem?_eq_none (by omega)]
    decide

/-- A number of its digits, the lowest first. -/
def valW : List Nat → Nat
  | [] => 0
  | d :: l => d + 4294967296 * valW l
/-- All digits times low, and c ahead. -/
def lowW (low : Nat) : Nat → List Nat → List Nat
  | _, [] => []
  | c, a :: l => (a * low + c) % 4294967296 :: lowW low ((a * low + c) / 4294967296) l
/-- All digits times high, moved by 16 bits, and what is there. -/
def highW (high : Nat) : Nat → Nat → List Nat → List Nat → List Nat
  | c, s, a :: l, o :: m => ((a * high + c) % 4294967296 * 65536 + s + o) % 4294967296 :: highW high ((a * high + c) / 4294967296) (((a * high + c) % 4294967296 * 65536 + s + o) / 4294967296) l m
  | _, _, _, _ => []
def timesW (a : List Nat) (n : Nat) : List Nat := highW (n / 65536) 0 0 a (lowW (n % 65536) 0 a)
theorem lowW_length (low : Nat) (l : List Nat) : ∀ c, (lowW low c l).length = l.length := by
  induction l with
  | nil => intro c; rfl
  | cons a l ih => intro c; simp [lowW, ih]
theorem highW_length (high : Nat) (l : List Nat) : ∀ c s m, m.length = l.length → (highW high c s l m).length = l.length := by
  induction l with
  | nil => intro c s m _; simp [highW]
  | cons a l ih =>
    intro c s m h
    cases m with
    | nil => simp at h
    | cons o m => simp [highW, ih _ _ m (by simpa using h)]
theorem timesW_length (a : List Nat) (n : Nat) : (timesW a n).length = a.length := highW_length _ _ _ _ _ (lowW_length _ _ _)
theorem lowW_digit (low : Nat) (l : List Nat) : ∀ c, ∀ d ∈ lowW low c l, d < 4294967296 := by
  induction l with
  | nil => intro c d h; cases h
  | cons a l ih =>
    intro c d h
    rcases List.mem_cons.1 h with rfl | h
    · omega
    · exact ih _ _ h
theorem highW_digit (high : Nat) (l : List Nat) : ∀ c s m, ∀ d ∈ highW high c s l m, d < 4294967296 := by
  induction l with
  | nil => intro c s m d h; simp [highW] at h
  | cons a l ih =>
    intro c s m d h
    cases m with
    | nil => simp [highW] at h
    | cons o m =>
      rcases List.mem_cons.1 h with rfl | h
      · omega
      · exact ih _ _ _ _ h
theorem timesW_digit (a : List Nat) (n : Nat) : ∀ d ∈ timesW a n, d < 4294967296 := highW_digit _ _ _ _ _
theorem step_mod (x M y : Nat) : x % 4294967296 + 4294967296 * ((y + x / 4294967296) % M) = (x + 4294967296 * y) % (4294967296 * M) := by
  rw [Nat.mod_mul, show (x + 4294967296 * y) % 4294967296 = x % 4294967296 by omega, show (x + 4294967296 * y) / 4294967296 = y + x / 4294967296 by omega]
theorem lowW_val (low : Nat) (l : List Nat) : ∀ c, valW (lowW low c l) = (valW l * low + c) % 4294967296 ^ l.length := by
  induction l with
  | nil => intro c; simp [lowW, valW, Nat.mod_one]
  | cons a l ih =>
    intro c
    rw [lowW, valW, ih, step_mod, List.length_cons, Nat.pow_succ, Nat.mul_comm (4294967296 ^ _), valW]
    congr 1
    rw [Nat.add_mul, Nat.mul_assoc]
    omega
theorem high_step (v c s o u q M : Nat) : ((v + c) % 4294967296 * 65536 + s + o) % 4294967296 + 4294967296 * ((u * 65536 + (v + c) / 4294967296 * 65536 + ((v + c) % 4294967296 * 65536 + s + o) / 4294967296 + q) % M) =
    (v * 65536 + 4294967296 * (u * 65536) + c * 65536 + s + (o + 4294967296 * q)) % (4294967296 * M) := by
  obtain ⟨x, hx⟩ : ∃ x, v + c = x := ⟨_, rfl⟩
  have h := step_mod (x % 4294967296 * 65536 + s + o) M (u * 65536 + x / 4294967296 * 65536 + q)
  rw [hx]
  rw [show u * 65536 + x / 4294967296 * 65536 + (x % 4294967296 * 65536 + s + o) / 4294967296 + q = u * 65536 + x / 4294967296 * 65536 + q + (x % 4294967296 * 65536 + s + o) / 4294967296 by omega]
  refine h.trans (congrArg (· % _) ?_)
  omega
theorem highW_val (high : Nat) (l : List Nat) : ∀ c s m, m.length = l.length → valW (highW high c s l m) = (valW l * high * 65536 + c * 65536 + s + valW m) % 4294967296 ^ l.length := by
  induction l with
  | nil =>
    intro c s m h
    simp [highW, valW, Nat.mod_one]
  | cons a l ih =>
    intro c s m h
    cases m with
    | nil => simp at h
    | cons o m =>
      rw [highW, valW, ih _ _ _ (by simpa using h)]
      have e : valW (a :: l) * high = a * high + 4294967296 * (valW l * high) := by rw [valW, Nat.add_mul, Nat.mul_assoc]
      rw [e]
      rewrite [high_step (a * high) c s o (valW l * high) (valW m), List.length_cons, Nat.pow_succ, Nat.mul_comm (4294967296 ^ _), valW]
      exact congrArg (· % _) (by omega)
theorem timesW_val (a : List Nat) (n : Nat) : valW (timesW a n) = valW a * n % 4294967296 ^ a.length := by
  rw [timesW, highW_val _ _ _ _ _ (lowW_length _ _ _), lowW_val]
  simp only [Nat.zero_mul, Nat.add_zero]
  rw [Nat.add_mod_mod]
  congr 1
  rw [Nat.mul_assoc, ← Nat.mul_add]
  congr 1
  omega
/-- The greatest digit that differs decides. -/
theorem valW_lt (l : List Nat) (h : ∀ d ∈ l, d < 4294967296) : valW l < 4294967296 ^ l.length := by
  induction l with
  | nil => simp [valW]
  | cons a l ih =>
    have h1 := ih fun d hd => h d (List.mem_cons_of_mem _ hd)
    have h2 := h a (List.mem_cons_self ..)
    rw [valW, List.length_cons, Nat.pow_succ]
    generalize 4294967296 ^ l.length = M at h1 ⊢
    omega
theorem valW_append (a b : List Nat) : valW (a ++ b) = valW a + 4294967296 ^ a.length * valW b := by
  induction a with
  | nil => simp [valW]
  | cons x a ih =>
    rw [List.cons_append, valW, ih, valW, List.length_cons, Nat.pow_succ, Nat.mul_add, ← Nat.mul_assoc, Nat.mul_comm 4294967296 (4294967296 ^ _), Nat.add_assoc]
theorem valW_above {a b : List Nat} {i : Nat} (ha : ∀ d ∈ a, d < 4294967296) (hia : i < a.length) (hib : i < b.length) (hd : a.drop (i + 1) = b.drop (i + 1)) (hlt : a[i] < b[i]) : valW a < valW b := by
  have e1 : valW a = valW (a.take i) + 4294967296 ^ i * (a[i] + 4294967296 * valW (a.drop (i + 1))) := by
    conv => lhs; rw [← List.take_append_drop i a, valW_append, List.length_take, Nat.min_eq_left (by omega), List.drop_eq_getElem_cons hia, valW]
  have e2 : valW b = valW (b.take i) + 4294967296 ^ i * (b[i] + 4294967296 * valW (b.drop (i + 1))) := by
    conv => lhs; rw [← List.take_append_drop i b, valW_append, List.length_take, Nat.min_eq_left (by omega), List.drop_eq_getElem_cons hib, valW]
  have h1 := valW_lt (a.take i) fun d hd => ha d (List.mem_of_mem_take hd)
  rw [List.length_take, Nat.min_eq_left (by omega)] at h1
  rw [e1, e2, hd]
  generalize 4294967296 * valW (b.drop (i + 1)) = R
  have h2 : 4294967296 ^ i * (a[i] + R) + 4294967296 ^ i ≤ 4294967296 ^ i * (b[i] + R) := by
    rw [← Nat.mul_succ]
    exact Nat.mul_le_mul_left _ (by omega)
  omega
/-- Is one above the other? The highest digits first. -/
def aboveW (a b : List Nat) : Bool := decide (valW b < valW a)

/-- One bit of the root is tried. -/
def tryU (n power r bit : Nat) : Nat := if (r + bit) ^ power ≤ n * 4294967296 ^ power then r + bit else r
/-- The bits below the k-th. -/
def rootU (n power : Nat) : Nat → Nat → Nat
  | 0, r => r
  | k + 1, r => rootU n power k (tryU n power r (2 ^ k))
/-- The lowest 32 bits of the root. -/
def rootsU (n power : Nat) : Nat := rootU n power 36 0 % 4294967296
def kU (t : Int) : Nat := if 0 ≤ t ∧ t ≤ 63 then rootsU (primeU t.toNat) 3 else 0
/-- The numbers of all rounds, and those that it begins with. -/
def ksU : List Nat := [1116352408, 1899447441, 3049323471, 3921009573, 961987163, 1508970993, 2453635748, 2870763221, 3624381080, 310598401, 607225278, 1426881987, 1925078388, 2162078206, 2614888103, 3248222580, 3835390401, 4022224774, 264347078, 604807628, 770255983, 1249150122, 1555081692, 1996064986, 2554220882, 2821834349, 2952996808, 3210313671, 3336571891, 3584528711, 113926993, 338241895, 666307205, 773529912, 1294757372, 1396182291, 1695183700, 1986661051, 2177026350, 2456956037, 2730485921, 2820302411, 3259730800, 3345764771, 3516065817, 3600352804, 4094571909, 275423344, 430227734, 506948616, 659060556, 883997877, 958139571, 1322822218, 1537002063, 1747873779, 1955562222, 2024104815, 2227730452, 2361852424, 2428436474, 2756734187, 3204031479, 3329325298]
def hsU : List Nat := [1779033703, 3144134277, 1013904242, 2773480762, 1359893119, 2600822924, 528734635, 1541459225]
theorem ks_roots : (List.range 64).map (fun t => rootsU (primeU t) 3) = ksU := by decide +kernel
theorem hs_roots : (List.range 8).map (fun t => rootsU (primeU t) 2) = hsU := by decide +kernel
theorem ks_lt : ∀ k ∈ ksU, k < 4294967296 := by decide +kernel
theorem hs_lt : ∀ k ∈ hsU, k < 4294967296 := by decide +kernel
theorem ks_at {t : Nat} (h : t < 64) : rootsU (primeU t) 3 = ksU[t]'h := by
  have e : ksU[t]? = some (rootsU (primeU t) 3) := by rw [← ks_roots, List.getElem?_map, List.getElem?_range h]; rfl
  exact ((List.getElem?_eq_some_iff.1 e).2).symm
theorem hs_at {t : Nat} (h : t < 8) : rootsU (primeU t) 2 = hsU[t]'h := by
  have e : hsU[t]? = some (rootsU (primeU t) 2) := by rw [← hs_roots, List.getElem?_map, List.getElem?_range h]; rfl
  exact ((List.getElem?_eq_some_iff.1 e).2).symm
theorem kU_in {t : Nat} (h : t < 64) : kU (t : Int) = ksU[t]'h := by unfold kU; rw [if_pos (by omega), Int.toNat_natCast, ks_at h]
theorem kU_out {t : Int} (h : t < 0 ∨ 63 < t) : kU t = 0 := by unfold kU; rw [if_neg (by omega)]

/-- A bit tried leaves the root below what the bits can be. -/
theorem tryU_le {n power r k M : Nat} (h : r + 2 ^ (k + 1) ≤ M) : tryU n power r (2 ^ k) + 2 ^ k ≤ M := by
  rw [Nat.pow_succ] at h
  unfold tryU
  split <;> omega
/-- Powers: what 'times' makes of them. -/
def powW (x : Nat) : Nat → List Nat
  | 0 => [1, 0, 0, 0, 0]
  | i + 1 => timesW (powW x i) x
theorem powW_length (x i : Nat) : (powW x i).length = 5 := by
  induction i with
  | zero => rfl
  | succ i ih => rw [powW, timesW_length, ih]
theorem powW_digit (x i : Nat) : ∀ d ∈ powW x i, d < 4294967296 := by
  cases i with
  | zero => show ∀ d ∈ [1, 0, 0, 0, 0], d < 4294967296; decide
  | succ i => exact timesW_digit _ _
theorem pow_le3 {x i : Nat} (hx : x < 68719476736) (hi : i ≤ 3) : x ^ i < 4294967296 ^ 5 := by
  have h1 : x ^ i ≤ 68719476736 ^ i := Nat.pow_le_pow_left (by omega) i
  have h2 : 68719476736 ^ i ≤ 68719476736 ^ 3 := Nat.pow_le_pow_right (by decide) hi
  exact Nat.lt_of_le_of_lt (Nat.le_trans h1 h2) (by decide)
theorem powW_val {x : Nat} (hx : x < 68719476736) (i : Nat) (hi : i ≤ 3) : valW (powW x i) = x ^ i := by
  induction i with
  | zero => rw [Nat.pow_zero]; rfl
  | succ i ih =>
    rw [powW, timesW_val, powW_length, ih (by omega), ← Nat.pow_succ]
    exact Nat.mod_eq_of_lt (pow_le3 hx hi)
def limitW (n power : Nat) : List Nat := if power = 2 then [0, 0, n, 0, 0] else [0, 0, 0, n, 0]
theorem limitW_val {n power : Nat} (h : power = 2 ∨ power = 3) : valW (limitW n power) = n * 4294967296 ^ power := by
  rcases h with rfl | rfl
  · rw [limitW, if_pos rfl]; simp only [valW]; omega
  · rw [limitW, if_neg (by decide)]; simp only [valW]; omega
theorem aboveW_pow {x n power : Nat} (hx : x < 68719476736) (h : power = 2 ∨ power = 3) : aboveW (powW x power) (limitW n power) = decide (n * 4294967296 ^ power < x ^ power) := by
  unfold aboveW
  rw [powW_val hx power (by omega), limitW_val h]
theorem tryU_above {r bit n power : Nat} (hx : r + bit < 68719476736) (h : power = 2 ∨ power = 3) : tryU n power r bit = if aboveW (powW (r + bit) power) (limitW n power) then r else r + bit := by
  rw [aboveW_pow hx h]
  unfold tryU
  by_cases h1 : (r + bit) ^ power ≤ n * 4294967296 ^ power
  · rw [if_pos h1, decide_eq_false (by omega)]; rfl
  · rw [if_neg h1, decide_eq_true (by omega)]; rfl

/-- The prime numbers from n on. -/
def primeFrom (n t : Nat) : Nat := (primesU (400 - n) n).getD t 0
theorem primeU_from (t : Nat) : primeU t = primeFrom 2 t := rfl
theorem primeFrom_end (t : Nat) : primeFrom 400 t = 0 := rfl
theorem primeFrom_yes0 {n : Nat} (h : n < 400) (hp : isPrimeU n = true) : primeFrom n 0 = n := by
  unfold primeFrom
  obtain ⟨k, hk⟩ : ∃ k, 400 - n = k + 1 := ⟨399 - n, by omega⟩
  rw [hk, primesU, if_pos hp]; rfl
theorem primeFrom_yes {n : Nat} (t : Nat) (h : n < 400) (hp : isPrimeU n = true) : primeFrom n (t + 1) = primeFrom (n + 1) t := by
  unfold primeFrom
  obtain ⟨k, hk⟩ : ∃ k, 400 - n = k + 1 := ⟨399 - n, by omega⟩
  rw [hk, primesU, if_pos hp, show 400 - (n + 1) = k by omega]; rfl
theorem primeFrom_no {n : Nat} (t : Nat) (h : n < 400) (hp : isPrimeU n = false) : primeFrom n t = primeFrom (n + 1) t := by
  unfold primeFrom
  obtain ⟨k, hk⟩ : ∃ k, 400 - n = k + 1 := ⟨399 - n, by omega⟩
  rw [hk, primesU, if_neg (by rw [hp]; decide), show 400 - (n + 1) = k by omega]
/-- The rounds of 'times'. -/
theorem low_step (low c : Nat) {a : List Nat} {i : Nat} (h : i < a.length) : lowW low c (a.drop i) = (a[i] * low + c) % 4294967296 :: lowW low ((a[i] * low + c) / 4294967296) (a.drop (i + 1)) := by
  rw [List.drop_eq_getElem_cons h]; rfl
theorem high_next (high c s : Nat) {a m : List Nat} {i : Nat} (h : i < a.length) (hm : i < m.length) : highW high c s (a.drop i) (m.drop i) =
    ((a[i] * high + c) % 4294967296 * 65536 + s + m[i]) % 4294967296 :: highW high ((a[i] * high + c) / 4294967296) (((a[i] * high + c) % 4294967296 * 65536 + s + m[i]) / 4294967296) (a.drop (i + 1)) (m.drop (i + 1)) := by
  rw [List.drop_eq_getElem_cons h, List.drop_eq_getElem_cons hm]; rfl
theorem carry_le {a low c : Nat} (ha : a < 4294967296) (hc : c ≤ low) : (a * low + c) / 4294967296 ≤ low := by
  have h : a * low ≤ 4294967295 * low := Nat.mul_le_mul_right _ (by omega)
  omega
theorem product_lt {a low c M : Nat} (ha : a < 4294967296) (hc : c ≤ low) (hl : low < M) : a * low + c < 4294967296 * M := by
  have h : a * low ≤ 4294967295 * low := Nat.mul_le_mul_right _ (by omega)
  omega
theorem shift_le {x s o : Nat} (hs : s ≤ 65536) (ho : o < 4294967296) : (x % 4294967296 * 65536 + s + o) / 4294967296 ≤ 65536 := by omega

end Go.Proofs.YtacbpdampdikjaaDoor

/-
  Sums of 256 bits by blocks: plain mathematics. No program is named here.
-/
namespace Go.Proofs.YtacbpdampdikjaaDoor
open Go.RowKit

/-- A word turned by n bits to the right. -/
def rotU (n x : Nat) : Nat := (x / 2 ^ n) ||| (x * 2 ^ (32 - n) % 4294967296)
def sig0U (x : Nat) : Nat := rotU 7 x ^^^ rotU 18 x ^^^ x / 8
def sig1U (x : Nat) : Nat := rotU 17 x ^^^ rotU 19 x ^^^ x / 1024
/-- The word at t, of those ahead of it. -/
def wordU (b : List UInt8) (l : List Nat) (t : Nat) : Nat :=
  if t < 16 then getL ((b.drop (4 * t)).take 4) else (sig1U (l.getD (t - 2) 0) + l.getD (t - 7) 0 + sig0U (l.getD (t - 15) 0) + l.getD (t - 16) 0) % 4294967296
def wordsL (b : List UInt8) : Nat → List Nat
  | 0 => []
  | t + 1 => wordsL b t ++ [wordU b (wordsL b t) t]
def wordsU (b : List UInt8) : List Nat := if b.length = 64 then wordsL b 64 else List.replicate 64 0
/-- A round. -/
def bigS1 (e : Nat) : Nat := rotU 6 e ^^^ rotU 11 e ^^^ rotU 25 e
def bigS0 (a : Nat) : Nat := rotU 2 a ^^^ rotU 13 a ^^^ rotU 22 a
def chU (e f g : Nat) : Nat := (e &&& f) ^^^ ((4294967295 - e) &&& g)
def majU (a b c : Nat) : Nat := (a &&& b) ^^^ (a &&& c) ^^^ (b &&& c)
def xU (k w e f g h : Nat) : Nat := (h + bigS1 e + chU e f g + k + w) % 4294967296
def yU (a b c : Nat) : Nat := (bigS0 a + majU a b c) % 4294967296
def roundU (k w : Nat) : List Nat → List Nat
  | [a, b, c, d, e, f, g, h] => [(xU k w e f g h + yU a b c) % 4294967296, a, b, c, (d + xU k w e f g h) % 4294967296, e, f, g]
  | v => v
def roundsU (ws : List Nat) : Nat → List Nat → List Nat
  | 0, v => v
  | t + 1, v => roundU (ksU.getD t 0) (ws.getD t 0) (roundsU ws t v)
def plusU (v h : List Nat) : List Nat := List.zipWith (fun x y => (x + y) % 4294967296) v h
def blockU (h : List Nat) (b : List UInt8) : List Nat := if b.length = 64 then plusU (roundsU (wordsU b) 64 h) h else h
/-- All whole blocks, one by one. -/
def blocksL : Nat → List Nat → List UInt8 → List Nat
  | 0, h, _ => h
  | k + 1, h, b => if b.length < 64 then h else blocksL k (blockU h (b.take 64)) (b.drop 64)
def blocksU (h : List Nat) (b : List UInt8) : List Nat := blocksL (b.length / 64) h b
def zerosU (n : Nat) : Nat := (119 - n % 64) % 64
def padU (n : Nat) : List UInt8 := 128 :: (List.replicate (zerosU n) 0 ++ putL (8 * n) 8)
/-- Pad, of any number. -/
def shaPadR (z : Int) : List UInt8 := if 0 ≤ z ∧ z ≤ 1099511627776 then padU z.toNat else []
def outU (h : List Nat) : List UInt8 := h.flatMap fun x => putL x 4
def sumU (b : List UInt8) : List UInt8 := outU (blocksU hsU (b ++ padU b.length))

theorem rotU_lt {n x : Nat} (h : x < 4294967296) : rotU n x < 4294967296 := by
  have h1 : x / 2 ^ n < 2 ^ 32 := Nat.lt_of_le_of_lt (Nat.div_le_self _ _) h
  exact Nat.or_lt_two_pow h1 (by omega)
theorem wordsL_length (b : List UInt8) (t : Nat) : (wordsL b t).length = t := by
  induction t with
  | zero => rfl
  | succ t ih => simp [wordsL, ih]
theorem wordsU_length (b : List UInt8) : (wordsU b).length = 64 := by
  unfold wordsU
  split
  · exact wordsL_length _ _
  · simp
theorem getL4_lt (l : List UInt8) : getL (l.take 4) < 4294967296 := by
  have h1 := getL_lt (l.take 4)
  have h2 : 256 ^ (l.take 4).length ≤ 256 ^ 4 := Nat.pow_le_pow_right (by omega) (List.length_take_le _ _)
  omega
theorem wordU_lt (b : List UInt8) (l : List Nat) (t : Nat) : wordU b l t < 4294967296 := by
  unfold wordU
  split
  · exact getL4_lt _
  · omega
theorem wordsL_lt (b : List UInt8) (t : Nat) : ∀ x ∈ wordsL b t, x < 4294967296 := by
  induction t with
  | zero => intro x h; cases h
  | succ t ih =>
    intro x h
    rcases List.mem_append.1 h with h | h
    · exact ih x h
    · rw [List.mem_singleton.1 h]; exact wordU_lt _ _ _
theorem wordsU_lt (b : List UInt8) : ∀ x ∈ wordsU b, x < 4294967296 := by
  unfold wordsU
  split
  · exact wordsL_lt _ _
  · intro x h; rw [(List.mem_replicate.1 h).2]; decide
/-- What is there stays. -/
theorem wordsL_prefix (b : List UInt8) (t k : Nat) : (wordsL b (t + k)).take t = wordsL b t := by
  induction k with
  | zero => exact List.take_of_length_le (by rw [wordsL_length]; omega)
  | succ k ih =>
    rw [show t + (k + 1) = t + k + 1 by omega, wordsL, List.take_append_of_le_length (by rw [wordsL_length]; omega), ih]
theorem wordsL_get (b : List UInt8) {j t : Nat} (h : j < t) : (wordsL b t).getD j 0 = wordU b (wordsL b j) j := by
  obtain ⟨k, rfl⟩ : ∃ k, t = (j + 1) + k := ⟨t - (j + 1), by omega⟩
  have h2 := wordsL_prefix b (j + 1) k
  have h3 : (wordsL b (j + 1 + k))[j]? = (wordsL b (j + 1))[j]? := by rw [← h2, List.getElem?_take_of_lt (by omega)]
  rw [List.getD_eq_getElem?_getD, h3, wordsL, List.getElem?_append_right (by rw [wordsL_length]; omega), wordsL_length, Nat.sub_self]
  rfl

/-- Eight words below 2^32. -/
def Eight (v : List Nat) : Prop := v.length = 8 ∧ ∀ x ∈ v, x < 4294967296
theorem Eight.form {v : List Nat} (h : Eight v) : ∃ a b c d e f g i, v = [a, b, c, d, e, f, g, i] := by
  obtain ⟨h, -⟩ := h
  match v, h with
  | [a, b, c, d, e, f, g, i], _ => exact ⟨a, b, c, d, e, f, g, i, rfl⟩
theorem roundU_eight {v : List Nat} (k w : Nat) (h : Eight v) : Eight (roundU k w v) := by
  obtain ⟨a, b, c, d, e, f, g, i, rfl⟩ := h.form
  refine ⟨rfl, fun x hx => ?_⟩
  have h2 := h.2
  simp only [roundU, List.mem_cons, List.not_mem_nil, or_false, forall_eq_or_imp, forall_eq] at h2 hx
  rcases hx with rfl | rfl | rfl | rfl | rfl | rfl | rfl | rfl <;> omega
theorem roundsU_eight (ws : List Nat) (t : Nat) {v : List Nat} (h : Eight v) : Eight (roundsU ws t v) := by
  induction t with
  | zero => exact h
  | succ t ih => exact roundU_eight _ _ ih
theorem plusU_eight {v h : List Nat} (hv : Eight v) (hh : Eight h) : Eight (plusU v h) := by
  refine ⟨by simp [plusU, hv.1, hh.1], fun x hx => ?_⟩
  obtain ⟨i, hi, rfl⟩ := List.getElem_of_mem hx
  simp only [plusU, List.getElem_zipWith]
  omega
theorem blockU_eight {h : List Nat} (b : List UInt8) (hh : Eight h) : Eight (blockU h b) := by
  unfold blockU
  split
  · exact plusU_eight (roundsU_eight _ _ hh) hh
  · exact hh
theorem blocksL_eight (k : Nat) : ∀ {h : List Nat} (b : List UInt8), Eight h → Eight (blocksL k h b) := by
  induction k with
  | zero => exact fun _ h => h
  | succ k ih =>
    intro h b hh
    unfold blocksL
    split
    · exact hh
    · exact ih _ (blockU_eight _ hh)
theorem hs_eight : Eight hsU := ⟨rfl, hs_lt⟩
theorem blocksU_eight {h : List Nat} (b : List UInt8) (hh : Eight h) : Eight (blocksU h b) := blocksL_eight _ _ hh
/-- A block ahead. -/
theorem blocksU_step {h : List Nat} {b : List UInt8} (hb : 64 ≤ b.length) : blocksU h b = blocksU (blockU h (b.take 64)) (b.drop 64) := by
  unfold blocksU
  obtain ⟨k, hk⟩ : ∃ k, b.length / 64 = k + 1 := ⟨b.length / 64 - 1, by omega⟩
  rw [hk, blocksL, if_neg (by omega), List.length_drop, show (b.length - 64) / 64 = k by omega]
theorem blocksU_none {h : List Nat} {b : List UInt8} (hb : b.length < 64) : blocksU h b = h := by
  unfold blocksU
  rw [show b.length / 64 = 0 by omega]; rfl
theorem zerosU_ok (n : Nat) : (n + 1 + zerosU n) % 64 = 56 ∧ zerosU n < 64 := by unfold zerosU; omega
/-- Fewer zeros do not do. -/
theorem zerosU_least {n k : Nat} (h : k < zerosU n) : (n + 1 + k) % 64 ≠ 56 := by unfold zerosU at h; omega
theorem padU_length (n : Nat) : (padU n).length = 9 + zerosU n := by simp [padU, putL_length]; omega
/-- With its padding each row is whole blocks. -/
theorem padded (b : List UInt8) : (b ++ padU b.length).length % 64 = 0 ∧ b.length + 9 ≤ (b ++ padU b.length).length ∧ (b ++ padU b.length).length ≤ b.length + 72 := by
  rw [List.length_append, padU_length]
  have := zerosU_ok b.length
  omega
theorem flat_length (h : List Nat) : (outU h).length = 4 * h.length := by
  induction h with
  | nil => rfl
  | cons a l ih => simp only [outU, List.flatMap_cons, List.length_append, putL_length, List.length_cons] at ih ⊢; omega
theorem outU_length {h : List Nat} (hh : Eight h) : (outU h).length = 32 := by rw [flat_length, hh.1]
theorem outU_snoc (h : List Nat) (x : Nat) : outU (h ++ [x]) = outU h ++ putL x 4 := by simp [outU]
theorem sumU_length (b : List UInt8) : (sumU b).length = 32 := outU_length (blocksU_eight _ hs_eight)
theorem sum_none : sumU [] = [227, 176, 196, 66, 152, 252, 28, 20, 154, 251, 244, 200, 153, 111, 185, 36, 39, 174, 65, 228, 100, 155, 147, 76, 164, 149, 153, 27, 120, 82, 184, 85] := by decide +kernel

end Go.Proofs.YtacbpdampdikjaaDoor

/-
  Blocks as they come, one by one: plain mathematics. No program is named here.
-/
namespace Go.Proofs.YtacbpdampdikjaaDoor
open Go.RowKit

theorem blocksU_append : ∀ (k : Nat) (h : List Nat) (a b : List UInt8), a.length = 64 * k → blocksU h (a ++ b) = blocksU (blocksU h a) b
  | 0, h, a, b, hl => by
    have : a = [] := List.eq_nil_of_length_eq_zero (by omega)
    subst this
    rw [List.nil_append, blocksU_none (h := h) (b := []) (by decide)]
  | k + 1, h, a, b, hl => by
    rw [blocksU_step (h := h) (b := a ++ b) (by rw [List.length_append]; omega), blocksU_step (h := h) (b := a) (by omega),
      List.take_append_of_le_length (by omega), List.drop_append_of_le_length (by omega)]
    exact blocksU_append k _ _ _ (by rw [List.length_drop]; omega)
theorem blocksU_one {h : List Nat} {c : List UInt8} (hc : c.length = 64) : blocksU h c = blockU h c := by
  rw [blocksU_step (by omega), blocksU_none (by rw [List.length_drop]; omega), List.take_of_length_le (by omega)]
/-- The pieces of whole blocks, one by one. -/
theorem fold_cuts (h : List Nat) (l : List UInt8) : ∀ k, k * 64 ≤ l.length → (cutsU 64 l k).foldl blockU h = blocksU h (l.take (k * 64))
  | 0, _ => by rw [Nat.zero_mul, List.take_zero, blocksU_none (by decide)]; rfl
  | k + 1, hk => by
    have hk' : k * 64 ≤ l.length := by omega
    have hc : (cutU 64 l k).length = 64 := by rw [cut_len]; omega
    rw [cuts_succ, List.foldl_append, fold_cuts h l k hk', List.foldl_cons, List.foldl_nil, ← blocksU_one hc, ← blocksU_append k h _ _ (by rw [List.length_take]; omega)]
    congr 1
    unfold cutU
    rw [show (k + 1) * 64 = k * 64 + 64 by omega, List.take_add]
theorem num_whole {l : List UInt8} {k : Nat} (h : l.length = 64 * k) : numU 64 l = k := by unfold numU; omega
/-- All blocks of b and what stands behind it: those of the whole ones, and those of what is last. -/
def wholeN (n : Nat) : Nat := n / 64 * 64
def lastU (b : List UInt8) : List UInt8 := b.drop (wholeN b.length) ++ padU b.length
def allBlk (b : List UInt8) : List (List UInt8) := cutsU 64 (b.take (wholeN b.length)) (numU 64 (b.take (wholeN b.length))) ++ cutsU 64 (lastU b) (numU 64 (lastU b))
theorem last_len (b : List UInt8) : ∃ k, (lastU b).length = 64 * k ∧ 1 ≤ k ∧ k ≤ 2 := by
  have h1 := padded b
  have h2 := padU_length b.length
  have h3 := zerosU_ok b.length
  unfold lastU wholeN
  rw [List.length_append] at h1
  rw [List.length_append, List.length_drop]
  exact ⟨(b.length - b.length / 64 * 64 + (padU b.length).length) / 64, by omega, by omega, by omega⟩
theorem allBlk_fold (h : List Nat) (b : List UInt8) : (allBlk b).foldl blockU h = blocksU h (b ++ padU b.length) := by
  have hw : (b.take (wholeN b.length)).length = 64 * (b.length / 64) := by unfold wholeN; rw [List.length_take]; omega
  obtain ⟨k, hk, -, -⟩ := last_len b
  unfold allBlk
  rw [List.foldl_append, num_whole hw, num_whole hk, fold_cuts h _ _ (by omega), fold_cuts _ _ _ (by omega), List.take_of_length_le (by omega), List.take_of_length_le (show (lastU b).length ≤ k * 64 by omega),
    ← blocksU_append _ h _ _ hw]
  congr 1
  unfold lastU
  rw [← List.append_assoc, List.take_append_drop]

end Go.Proofs.YtacbpdampdikjaaDoor

/-
  'make([]byte, n, m)'. No program is named here.
-/
namespace Go.Proofs.YtacbpdampdikjaaDoor
open Go.RowKit

theorem wp_make_cap {P : Program} {w : World} {ops : Array Oper} {rest : List Oper} {o : Oper} {a : Act} {Q : Exit → Act → World → Prop}
    (hg : o.guard = none) (l c : Operand) (t : TypeId) (hop : o.op = Op.makeSlice t l c) (e : TypeId)
    (h1 : P.underlying t = some (.slice e)) (h2 : (P.info? e).map (fun i => (i.zero, i.size, i.bytes)) = some (some (.int .u8 0), 1, 1))
    (n m : Nat) (hl : a.eval l = .int .i64 (n : Int)) (hc : a.eval c = .int .i64 (m : Int)) (hnm : n ≤ m) (hm : m ≤ 281474976710656)
    (hK : ∀ w', w'.ownsRow w.heap.size e 1 (.slice (some ⟨w.heap.size, 0, none⟩) n m) n (Byt (List.replicate n 0)) → Below w.heap.size w w' → wpList P ops Q rest (a.put o.dst (.slice (some ⟨w.heap.size, 0, none⟩) n m)) w') :
    wpList P ops Q (o :: rest) a w := by
  obtain ⟨i0, hi, hz0, hz1, hz2⟩ := info_parts h2
  refine wpList_plain hg fun K hK' => ?_
  have hr := run_make (P := P) w t e i0 (.int .u8 0) h1 hi hz0 .i64 .i64 n m (by omega) (by omega) (by rw [hz2]; omega) (by omega)
  simp only [Int.toNat_natCast, hz1, Nat.mul_one] at hr
  have hq := hK' _ _ (hK (w.alloc (.cells (madeCells (Value.int .u8 0).cells m) e)) ⟨by simp [Byt], .inr ⟨w.heap.size, m, madeCells (Value.int .u8 0).cells m, rfl, Nat.le_refl _, heap_alloc_new w _, hnm, by unfold maxLen; omega, by rw [size_madeCells, Nat.mul_one], by
    rw [show (madeCells (Value.int .u8 0).cells m).toList = List.replicate m (.int .u8 0) from toList_madeCells_one _ _, Nat.mul_one, Byt_rep, List.take_replicate, Nat.min_eq_left hnm]⟩⟩ ((Below.refl _ _).alloc (Nat.le_refl _) _))
  unfold Oper.wp
  simp [execOp, hop, hl, hc, hr, Result.andThen]
  exact hq

end Go.Proofs.YtacbpdampdikjaaDoor

namespace Go.Proofs.YtacbpdampdikjaaDoor
open Go.RowKit

set_option maxHeartbeats 800000 in
theorem put_in (m0 size : Nat) (w : World) (hm : m0 < 18446744073709551616) (h1 : 1 ≤ size) (h8 : size ≤ 8) :
    Calls Tryd.prog 33 #[.int .u64 m0, .int .i64 size] w (NewB 5 w (putL m0 size)) := by
  go_enter Tryd.func33, Tryd.ntmps33
  go_wp2
  go_step3
  go_wp2_with (refine wp_make_bytes rfl _ _ 22 rfl 5 Tryd.underlying22 Tryd.info_u8 size rfl rfl (by omega) ?_)
  intro w1 hown hb
  go_wp2
  go_step3
  go_wp2
  go_loopw [0, 6] (fun n i wr => ∃ (q m : Nat) (done : List UInt8), q ≤ size ∧ i = .int .i64 ((q : Int) - 1) ∧ n = .int .u64 m ∧ m < 18446744073709551616 ∧ putL m0 size = putL m q ++ done ∧
      wr.ownsRow w.heap.size 5 1 (.slice (some ⟨w.heap.size, 0, none⟩) size size) size (Byt (List.replicate q 0 ++ done)) ∧ Below w.heap.size w wr) (fun _ i _ => (intOf i + 1).toNat)
  case atStart => exact ⟨size, m0, [], Nat.le_refl _, rfl, rfl, hm, by simp, by simpa using hown, hb⟩
  case round =>
    obtain ⟨q, m, done, hq, rfl, rfl, hm', hput, hownr, hbr⟩ := hrel
    have Hput := Lib.hid hput; clear hput
    have hlen := own_len hownr
    simp only [List.length_append, List.length_replicate] at hlen
    have Hlen := Lib.hid hlen; clear hlen
    have fin : putL m0 size = List.replicate q 0 ++ done → 
        NewB 5 w (putL m0 size) (.returned (.slice (some ⟨w.heap.size, 0, none⟩) size size)) wr := by
      intro e
      have hl := putL_length m0 size
      rw [← e] at hownr
      exact ⟨some ⟨w.heap.size, 0, none⟩, size, by rw [hl], by rw [hl]; exact hownr, hbr⟩
    have Fin := Lib.hid fin; clear fin
    rcases q with _ | q
    · go_wp2
      go_ret
      exact Fin.out (by simpa [putL] using Hput.out)
    · by_cases hm0 : m = 0
      · subst hm0
        have e0 : (((0 : Nat) : Int) == 0) = true := rfl
        go_wp2
        go_ret
        exact Fin.out (by rw [Hput.out, putL_zero])
      · obtain ⟨u, hu⟩ := own_any hownr (j := q) (by omega)
        have hf := hownr.frozenAt q
        have e0 : ((m : Int) == 0) = false := by simp; omega
        go_wp2
        go_roundw
        case rel =>
          have h2 := own_put hownr q ((m : Int) % 256) (UInt8.ofNat m) (u8_of m).symm
          rw [set_front] at h2
          exact ⟨q, m / 256, _, by omega, rfl, by go_num, by omega, by rw [Hput.out]; simp [putL], h2, hbr.setCell (Nat.le_refl _) _⟩
        case measure => simp [intOf]

set_option maxHeartbeats 400000 in
theorem put_out (m0 : Nat) (size : Int) (w : World) (h : size < 1 ∨ 8 < size) :
    Calls Tryd.prog 33 #[.int .u64 m0, .int .i64 size] w (NewB 5 w []) := by
  rcases h with h | h
  all_goals
    go_enter Tryd.func33, Tryd.ntmps33
    go_wp2
    go_step3
    go_wp2
    rw [Exit.noGoto_ret]
    go_ret
    exact newB_nil _ _ _ (Below.refl _ _)

theorem put_any (m0 : Nat) (size : Int) (w : World) (hm : m0 < 18446744073709551616) :
    Calls Tryd.prog 33 #[.int .u64 m0, .int .i64 size] w (NewB 5 w (putR m0 size)) := by
  by_cases h : 1 ≤ size ∧ size ≤ 8
  · obtain ⟨k, rfl⟩ := Int.eq_ofNat_of_zero_le (show 0 ≤ size by omega)
    rw [putR, if_pos h, Int.toNat_natCast]
    exact put_in m0 k w hm (by omega) (by omega)
  · rw [putR, if_neg h]
    exact put_out m0 size w (by omega)


end Go.Proofs.YtacbpdampdikjaaDoor

namespace Go.Proofs.YtacbpdampdikjaaDoor
open Go.RowKit

set_option maxHeartbeats 800000 in
theorem shpad_in (n : Nat) (w : World) (hn : n ≤ 1099511627776) :
    Calls Tryd.prog 79 #[.int .i64 (n : Int)] w (NewB 5 w (padU n)) := by
  obtain ⟨z, hz⟩ : ∃ z, zerosU n = z := ⟨_, rfl⟩
  have hz0 : z = (119 - n % 64) % 64 := hz.symm
  have hz64 : z ≤ 63 := by omega
  have Hp : Hid (padU n = 128 :: (List.replicate z 0 ++ putL (8 * n) 8)) := Lib.hid (by rw [← hz]; rfl)
  have hput := fun w' => put_any (8 * n) 8 w' (by omega)
  rw [show putR (8 * n) 8 = putL (8 * n) 8 from rfl] at hput
  have Hpl : Hid ((putL (8 * n) 8).length = 8) := Lib.hid (putL_length _ _)
  have z1 : (64 - ((n : Int) % 64 + 1 + 8) % 64) % 64 = (z : Int) := by omega
  have z3 : (8 : Int) * (n : Int) = ((8 * n : Nat) : Int) := by omega
  revert hput Hp Hpl z3
  generalize putL (8 * n) 8 = L
  generalize h8 : 8 * n = q
  intro Hp hput Hpl z3
  have hq : q ≤ 8796093022208 := by omega
  clear hz hz0 h8
  go_enter Tryd.func79, Tryd.ntmps79
  go_wp2_with (refine wp_make_cap rfl _ _ 22 rfl 5 Tryd.underlying22 Tryd.info_u8 (1 + z) (1 + z + 8) rfl rfl (by omega) (by omega) ?_)
  intro w1 hown hb
  have hset := own_put hown 0 128 128 rfl
  have hb2 := hb.setCell (p := ⟨w.heap.size, 0, none⟩) (Nat.le_refl _) (.int .u8 128)
  obtain ⟨u, hc⟩ := own_any hown (j := 0) (by omega)
  have hf := hown.frozenAt 0
  rw [show (List.replicate (1 + z) (0 : UInt8)).set 0 128 = 128 :: List.replicate z 0 by rw [Nat.add_comm]; rfl] at hset
  clear hown hb
  revert hset hb2
  generalize hw2 : w1.setCell ⟨w.heap.size, 0, none⟩ (.int .u8 128) = w2
  intro hset hb2
  have Hset := Lib.hid hset; clear hset
  have Hb2 := Lib.hid hb2; clear hb2
  go_wp2_with fail
  refine (hput _).mono ?_
  rintro e w3 ⟨A3, c3, rfl, hown3, hb3⟩
  have hown2 := own_below Hset.out hb3 (Nat.le_refl _)
  have hsz : w.heap.size ≤ w3.heap.size := Nat.le_trans Hb2.out.size hb3.size
  have hl8 : L.length ≤ 8 := by rw [Hpl.out]; omega
  go_wp2_with (refine wp_append_foot rfl _ _ 22 rfl 5 Tryd.underlying22 (.int .u8 0) 1 (by omega) rfl Tryd.info_u8 w.heap.size (1 + z) (1 + z + 8) (some ⟨w.heap.size, 0, none⟩) _ rfl hown2 w3.heap.size L.length c3 A3 _ rfl (Rd.of_own hown3) (SlOK.of_own hown3) (Byt_one _) (by omega) hsz ?_)
  intro A4 c4 w4 hown4 hg4 hat4
  have hb4 : Below w.heap.size w w4 := (Hb2.out.trans (hb3.mono Hb2.out.size)).grown hg4 hsz (fun k hk => (hown2.lt k hk).1)
  rw [← Byt_append] at hown4
  have Hown := Lib.hid hown4; clear hown4 hown3 hown2
  have Hb4 := Lib.hid hb4; clear hb4
  go_wp2
  go_ret
  have hl : (128 :: (List.replicate z 0 ++ L)).length = 1 + z + L.length := by simp; omega
  rw [Hp.out]
  refine ⟨A4, c4, by rw [hl]; rfl, by rw [hl]; exact Hown.out, Hb4.out⟩

theorem shpad_out (z : Int) (w : World) (hz : z < 0 ∨ 1099511627776 < z) :
    Calls Tryd.prog 79 #[.int .i64 z] w (NewB 5 w []) := by
  rcases hz with h | h
  all_goals
    go_enter Tryd.func79, Tryd.ntmps79
    go_wp2
    go_ret
    exact newB_nil _ _ _ (Below.refl _ _)

theorem shpad_any (z : Int) (w : World) : Calls Tryd.prog 79 #[.int .i64 z] w (NewB 5 w (shaPadR z)) := by
  by_cases h : 0 ≤ z ∧ z ≤ 1099511627776
  · obtain ⟨k, rfl⟩ := Int.eq_ofNat_of_zero_le h.1
    rw [shaPadR, if_pos h, Int.toNat_natCast]
    exact shpad_in k w (by omega)
  · rw [shaPadR, if_neg h]
    exact shpad_out z w (by omega)

end Go.Proofs.YtacbpdampdikjaaDoor

namespace Go.Proofs.YtacbpdampdikjaaDoor
open Go.RowKit

theorem own_lit0 (w : World) (e : TypeId) : (w.alloc (.cells #[] e)).ownsRow w.heap.size e 1 (.slice (some ⟨w.heap.size, 0, none⟩) 0 0) 0 (Byt []) :=
  World.ownsRow_lit w #[] 0 (Nat.le_refl _) (Nat.zero_le _) rfl

set_option maxHeartbeats 400000 in
theorem bclone_any (B n c : Nat) (A : Option Addr) (xs : List UInt8) (w : World) (hx : Rd w B A n (Byt xs)) (hok : SlOK A n c) (hB : B ≤ w.heap.size) (hn : n ≤ 8796093022208) :
    Calls Tryd.prog 78 #[.slice A n c] w (NewB 5 w xs) := by
  have hxl := hx.bytes
  have hnil := fun (w : World) (a : Option Addr) (n c : Nat) => Lib.run_eql_slice_nil (P := Tryd.prog) w 22 5 a n c 0 0 Tryd.underlying22
  rcases hok with ⟨rfl, rfl, rfl⟩ | ⟨a, rfl, hnc, hcm⟩
  · have h0 := List.eq_nil_of_length_eq_zero hxl
    subst h0
    go_enter Tryd.func78, Tryd.ntmps78
    go_wp2
    go_ret
    exact newB_nil _ _ _ (Below.refl _ _)
  · subst hxl
    go_enter Tryd.func78, Tryd.ntmps78
    go_wp2_with (refine wp_append_foot rfl _ _ 22 rfl 5 Tryd.underlying22 (.int .u8 0) 1 (by omega) rfl Tryd.info_u8 w.heap.size 0 0 (some ⟨w.heap.size, 0, none⟩) _ rfl (own_lit0 w _) B _ c _ _ rfl (hx.alloc hB _) (.inr ⟨a, rfl, hnc, hcm⟩) (Byt_one _) (by omega) (by simp) ?_)
    intro A' c' w' hown hg hat
    have hb : Below w.heap.size w w' := ((Below.refl w.heap.size w).alloc (Nat.le_refl _) _).grown hg (by simp) (fun k hk => by simp [Value.ownBlock] at hk; omega)
    go_wp2
    go_ret
    exact ⟨A', c', rfl, hown, hb⟩

end Go.Proofs.YtacbpdampdikjaaDoor

/-
  'append(row, other...)', both owned, in a region that draws. No program is named here.
-/
namespace Go.Proofs.YtacbpdampdikjaaDoor
open Go.RowKit

theorem step_append_owned {P : Program} {w : World} {ops : Array Oper} {o : Oper} {a : Act} {K : Act → World → Prop} {Q : Exit → Act → World → Prop} {E : Prop} (hgd : o.guard = none) (s x : Operand) (t : TypeId)
    (ho : o.op = .call { callee := .builtin .append, args := #[s, x], argTypes := #[t, t] }) (e : TypeId) (ht : P.underlying t = some (.slice e)) (hinfo : (P.info? e).map (fun i => (i.zero, i.size, i.bytes)) = some (some (.int .u8 0), 1, 1))
    (base n c : Nat) (A : Option Addr) (xs : List UInt8) (hs : a.eval s = .slice A n c) (hown : w.ownsRow base e 1 (.slice A n c) n (Byt xs))
    (base2 m c2 : Nat) (A2 : Option Addr) (ys : List UInt8) (hx : a.eval x = .slice A2 m c2) (hown2 : w.ownsRow base2 e 1 (.slice A2 m c2) m (Byt ys)) (hm : 0 < m) (hb : n + m ≤ 8796093022208) (hbase : base ≤ w.heap.size)
    (h : ∀ g cap w', w'.ownsRow base e 1 (.slice (some ⟨g, 0, none⟩) (n + m) cap) (n + m) (Byt (xs ++ ys)) → Moves (fun k => base ≤ k) w w' → K (a.put o.dst (.slice (some ⟨g, 0, none⟩) (n + m) cap)) w') :
    if Region.wanted o (yielded ops a.tmps) = true then Oper.wp P o a w K Q else E := by
  obtain ⟨i0, hi, hi0, hi1, hi2⟩ := info_parts hinfo
  obtain ⟨g2, rfl, _, _⟩ := own_some hown2 hm
  refine step_append_lies w hgd s x t ho base e i0 (.int .u8 0) 1 1 ht hi hi0 hi1 hi2 rfl (by decide) (.slice A n c) n (Byt xs) hs hown ⟨g2, 0, none⟩ m c2 (Byt ys) hx (by rw [Byt_length, Nat.mul_one]; exact own_len hown2) ?_ (Byt_one _) hm (by unfold maxLen; omega) (by omega) hbase _ rfl ?_
  · intro j u hj
    obtain ⟨b', o', e1, _, hc⟩ := (Rd.of_own hown2).2 hm
    injection e1 with e1
    injection e1 with e2 e3
    subst e2 e3
    rw [add_flat]
    exact hc j u hj
  · intro g cap w' h1 h2 _ _
    rw [← Byt_append] at h1
    exact h g cap w' h1 ((Moves.refl _ w).grown h2 (fun k hk => .inl (hown.lt k hk).1))

/-- What stands behind a region that is left by its end alone. -/
def OnlyN (Q : Exit → Act → World → Prop) : Exit → Act → World → Prop
  | .normal, a, w => Q .normal a w
  | _, _, _ => False
theorem wp_onlyN {P : Program} {c : Code} {Q : Exit → Act → World → Prop} {a : Act} {w : World} (h : c.wp P (OnlyN Q) a w) : c.wp P Q a w :=
  wp_mono h fun e a' w' hq => by cases e <;> first | exact hq | exact hq.elim

end Go.Proofs.YtacbpdampdikjaaDoor

/-
  The loop of the sequence of blocks: two rows, each in pieces.
-/
namespace Go.Proofs.YtacbpdampdikjaaDoor
open Go.RowKit Go.Shelf

attribute [local go_sem] Oper.semAt_some

/-- The first loop of a body. -/
def firstLoop : Code → Option Code
  | .loop c => some c
  | .seq a b => (firstLoop a).or (firstLoop b)
  | .block _ c => firstLoop c
  | .scope c => firstLoop c
  | _ => none

/-- What rounds and new things leave: all but block gh. -/
def Past (gh B : Nat) (w w' : World) : Prop := Moves (fun k => k = gh ∨ B ≤ k) w w'

theorem RoundIn.wide_any {m m' : Nat} {P : Program} {l l' : Nat} {f : FuncId} {tmps : Array Value} {assign body : Code} {w : World} {R : Ending → World → Prop} (h : RoundIn Fence.wide m P l f tmps assign body w R) :
    RoundIn (Fence.wide.inRound l') m' P l f tmps assign body w R := ⟨h.1, fun c cs _ => h.2 c cs (room_wide _)⟩
theorem Past.rd {gh B : Nat} {w w' : World} {A : Option Addr} {n : Nat} {xs : List Value} (h : Past gh B w w') (hr : Rd w w.heap.size A n xs) (hB : w.heap.size ≤ B) (ho : 0 < n → Off (fun k => k = gh) A) : Rd w' w'.heap.size A n xs :=
  (hr.moves h (Nat.le_refl _) (fun hn a ha => by
    obtain ⟨b, o, e, hb, _⟩ := hr.2 hn
    have := ho hn a ha
    rw [e] at ha
    injection ha with ha
    subst ha
    intro h2
    have h3 : b = gh ∨ B ≤ b := h2
    rcases h3 with h3 | h3
    · exact this h3
    · omega)).wider h.size
theorem Past.cell {gh B b o : Nat} {w w' : World} {v : Value} (h : Past gh B w w') (hc : w.cell? ⟨b, o, none⟩ = some v) (hb : b ≠ gh) (hB : w.heap.size ≤ B) : w'.cell? ⟨b, o, none⟩ = some v := by
  have hlt := block_lt_of_cell hc
  exact (Moves.cell h (p := ⟨b, o, none⟩) hlt (fun h2 => by
    have h3 : b = gh ∨ B ≤ b := h2
    have h4 : b < w.heap.size := hlt
    omega)).trans hc

set_option maxRecDepth 100000 in
set_option maxHeartbeats 4000000 in
theorem blocks1_loop (d l gh B s s6 n1 c1 n2 c2 : Nat) (A1 A2 : Option Addr) (L1 L2 : List UInt8) (J : List (List UInt8) → World → Prop) (R : Ending → World → Prop) (c : Code) (hc : ((Tryd.f77).body.bind firstLoop) = some c)
    (u1 u3 u4 u5 u6 u7 u8 u9 u10 u11 u12 u13 u14 u15 u16 u17 u18 u19 u20 u21 u22 u23 u27 u28 u29 u30 u31 u32 u33 u34 u35 u36 u37 : Value) (w : World) (hJ : Rests B J) (hY : Sq Tryd.prog l gh J) (hgB : gh < B) (hBw : B ≤ w.heap.size) (h0 : J [] w)
    (hs : w.cell? ⟨s, 0, none⟩ = some (.func (.yield l) #[] #[])) (hsg : s ≠ gh) (hl1 : w.cell? ⟨s6, 0, none⟩ = some (.slice A1 n1 c1)) (hl2 : w.cell? ⟨s6, 1, none⟩ = some (.slice A2 n2 c2)) (hs6 : s6 ≠ gh)
    (hR1 : Rd w w.heap.size A1 n1 (Byt L1)) (hO1 : 0 < n1 → Off (fun k => k = gh) A1) (hn1 : n1 ≤ c1) (hb1 : n1 ≤ 1099511627776)
    (hR2 : Rd w w.heap.size A2 n2 (Byt L2)) (hO2 : 0 < n2 → Off (fun k => k = gh) A2) (hn2 : n2 ≤ c2) (hb2 : n2 ≤ 1099511627776)
    (hR : ∀ v w', J (cutsU 64 L1 (numU 64 L1) ++ cutsU 64 L2 (numU 64 L2)) w' → R (.returned v) w') :
    (Code.loop c).wp Tryd.prog (Exit.inBlock 0 (bodyPostM Fence.wide d Tryd.prog Tryd.f77 R)) { tmps := #[.func (.yield l) #[] #[], u1, .pointer (some ⟨s, 0, none⟩), u3, u4, u5, u6, u7, u8, u9, u10, u11, u12, u13, u14, u15, u16, u17, u18, u19, u20, u21, u22, u23, .slice (some ⟨s6, 0, none⟩) 2 2, .int .i64 2, .int .i64 0, u27, u28, u29, u30, u31, u32, u33, u34, u35, u36, u37], defers := [] } w := by
  have hro : Fence.wide.round = none := rfl
  simp only [Tryd.f77, Option.bind_some, firstLoop, Option.or_some, Option.some.injEq] at hc
  subst hc
  refine wp_loop_rounds 3 ?_
  rw [rounds_succ]
  go_wp2_with fail
  refine (chunk_any n1 c1 64 A1 (by decide) _).mono ?_
  rintro e w' ⟨rfl, rfl⟩
  go_wp2_with fail
  have k1 : Below w.heap.size w ((w.alloc (.cells #[.slice A1 n1 c1] 22)).alloc (.cells #[.int .i64 64] 3)) := ((Below.refl _ w).alloc (Nat.le_refl _) _).alloc (by simp) _
  have a1 : ((w.alloc (.cells #[.slice A1 n1 c1] 22)).alloc (.cells #[.int .i64 64] 3)).cell? ⟨w.heap.size, 0, none⟩ = some (.slice A1 n1 c1) := (Boxed.new w 22 (.slice A1 n1 c1)).alloc _ |>.cell
  have b1 : ((w.alloc (.cells #[.slice A1 n1 c1] 22)).alloc (.cells #[.int .i64 64] 3)).cell? ⟨w.heap.size + 1, 0, none⟩ = some (.int .i64 64) := by
    have h := (Boxed.new (w.alloc (.cells #[.slice A1 n1 c1] 22)) 3 (.int .i64 64)).cell
    rwa [World.size_alloc] at h
  have z1 : ((w.alloc (.cells #[.slice A1 n1 c1] 22)).alloc (.cells #[.int .i64 64] 3)).heap.size = w.heap.size + 2 := by simp
  revert k1 a1 b1 z1
  generalize (w.alloc (.cells #[.slice A1 n1 c1] 22)).alloc (.cells #[.int .i64 64] 3) = x1
  intro k1 a1 b1 z1
  obtain ⟨pb1, po1, hA1⟩ : ∃ b o, 0 < n1 → A1 = some ⟨b, o, none⟩ := by
    rcases Nat.eq_zero_or_pos n1 with h | h
    · exact ⟨0, 0, fun h' => by omega⟩
    · obtain ⟨b, o, e, _⟩ := hR1.2 h
      exact ⟨b, o, fun _ => e⟩
  have p1 : Past gh x1.heap.size w x1 := (Moves.of_below k1)
  have j1 : J [] x1 := hJ _ _ _ h0 (Moves.of_below k1)
  have hb01 : B ≤ x1.heap.size := by omega
  have r1 : Rd x1 x1.heap.size A1 n1 (Byt L1) := (hR1.below k1).wider k1.size
  have s1 : x1.cell? ⟨s, 0, none⟩ = some (.func (.yield l) #[] #[]) := (k1.cell (p := ⟨s, 0, none⟩) (block_lt_of_cell hs)).trans hs
  refine (wpIn_wide (n := 20)).1 ?_
  refine' wpIn_rangeFunc_ownF hro (by decide) (gf := 92) (lb := #[.pointer (some ⟨w.heap.size, 0, none⟩), .pointer (some ⟨w.heap.size + 1, 0, none⟩)]) rfl trivial (enters_of Tryd.func92 (by kernel_rfl) rfl)
    (chunk_stops 19 (by decide) w.heap.size (w.heap.size + 1) pb1 po1 n1 c1 64 A1 hA1 L1 hR1.bytes hb1 hn1 (by decide) (by decide) x1 (by omega) (by omega) a1 b1) KC2.t (KC2.b (by omega) (by omega)) (Below.refl _ _) (fun _ => rfl)
    (fun (pre : List Nat) W' => J ([] ++ pre.map (cutU 64 L1)) W' ∧ Past gh x1.heap.size x1 W') (fun _ _ _ => False) ?hI (fun _ _ _ _ _ h _ _ => h) ⟨by simpa using j1, Moves.refl _ _⟩ _ ?assign ?body ?done ?stop
  case hI =>
    rintro pre X Y row ⟨hj, hp⟩ hg hr
    exact ⟨hJ _ X Y hj ((Moves.refl _ X).grown hg (fun k hk => .inl (Nat.le_trans hb01 (hr k hk).1))), Moves.grown hp hg (fun k hk => .inl (.inr (hr k hk).1))⟩
  case assign =>
    intro l' x W3 K hK
    gi_wp2
    exact hK
  case body =>
    rintro l' pre x W3 ⟨hj, hp⟩ hlt
    have hr3 := hp.rd r1 (Nat.le_refl _) hO1
    have hc3 := hp.cell s1 hsg (Nat.le_refl _)
    have hel : Elt (chunkV pb1 po1 n1 64 x) (cutU 64 L1 x) W3 := ⟨_, _, _, rfl, chunk_rd (m := 64) hr3 hA1 x, Nat.le_refl _, by omega⟩
    obtain ⟨fn, tmps, assign, body, hy, hRn⟩ := hY 17 _ _ _ W3 hj hel
    gi_wp2
    refine RoundIn.mono (RoundIn.wide_any hRn) ?_
    rintro e W4 ⟨rfl, hj4, hT⟩
    gi_wp2
    have q1 := (block_lt_of_cell (hp.cell a1 (by omega) (Nat.le_refl _)) : w.heap.size < W3.heap.size)
    have q2 := (block_lt_of_cell (hp.cell b1 (by omega) (Nat.le_refl _)) : w.heap.size + 1 < W3.heap.size)
    exact ⟨hT.2, ⟨hT.1.cell (p := ⟨w.heap.size, 0, none⟩) q1 (by show ¬ w.heap.size = gh; omega), hT.1.cell (p := ⟨w.heap.size + 1, 0, none⟩) q2 (by show ¬ w.heap.size + 1 = gh; omega)⟩, by simpa [List.append_assoc] using hj4, Moves.go hp (hT.1.wider fun k hk => .inl hk)⟩
  case stop =>
    rintro D c pre W3 hD hpre h hK
    exact h.elim
  case done =>
    rintro D1 ys w1 hD1 rfl ⟨J1, P1⟩ hK1
    have J1' : J (cutsU 64 L1 (numU 64 L1)) w1 := by simpa [cutsU] using J1
    have hs' := P1.cell s1 hsg (Nat.le_refl _)
    have hl2' : w1.cell? ⟨s6, 1, none⟩ = some (.slice A2 n2 c2) := P1.cell ((k1.cell (p := ⟨s6, 1, none⟩) (block_lt_of_cell hl2)).trans hl2) hs6 (Nat.le_refl _)
    have hR2' : Rd w1 w1.heap.size A2 n2 (Byt L2) := P1.rd ((hR2.below k1).wider k1.size) (Nat.le_refl _) hO2
    have hBw1 : B ≤ w1.heap.size := Nat.le_trans hb01 P1.size
    clear hR1 hR2 hs hl1 hl2 h0 J1 a1 b1 r1 s1 j1 p1 hA1 k1
    go_wp2_with fail
    rw [rounds_succ]
    go_wp2_with fail
    refine (chunk_any n2 c2 64 A2 (by decide) _).mono ?_
    rintro e w' ⟨rfl, rfl⟩
    go_wp2_with fail
    have k2 : Below w1.heap.size w1 ((w1.alloc (.cells #[.slice A2 n2 c2] 22)).alloc (.cells #[.int .i64 64] 3)) := ((Below.refl _ w1).alloc (Nat.le_refl _) _).alloc (by simp) _
    have a2 : ((w1.alloc (.cells #[.slice A2 n2 c2] 22)).alloc (.cells #[.int .i64 64] 3)).cell? ⟨w1.heap.size, 0, none⟩ = some (.slice A2 n2 c2) := (Boxed.new w1 22 (.slice A2 n2 c2)).alloc _ |>.cell
    have b2 : ((w1.alloc (.cells #[.slice A2 n2 c2] 22)).alloc (.cells #[.int .i64 64] 3)).cell? ⟨w1.heap.size + 1, 0, none⟩ = some (.int .i64 64) := by
      have h := (Boxed.new (w1.alloc (.cells #[.slice A2 n2 c2] 22)) 3 (.int .i64 64)).cell
      rwa [World.size_alloc] at h
    have z2 : ((w1.alloc (.cells #[.slice A2 n2 c2] 22)).alloc (.cells #[.int .i64 64] 3)).heap.size = w1.heap.size + 2 := by simp
    revert k2 a2 b2 z2
    generalize (w1.alloc (.cells #[.slice A2 n2 c2] 22)).alloc (.cells #[.int .i64 64] 3) = x2
    intro k2 a2 b2 z2
    obtain ⟨pb2, po2, hA2⟩ : ∃ b o, 0 < n2 → A2 = some ⟨b, o, none⟩ := by
      rcases Nat.eq_zero_or_pos n2 with h | h
      · exact ⟨0, 0, fun h' => by omega⟩
      · obtain ⟨b, o, e, _⟩ := hR2'.2 h
        exact ⟨b, o, fun _ => e⟩
    have p2 : Past gh x2.heap.size w1 x2 := (Moves.of_below k2)
    have j2 : J (cutsU 64 L1 (numU 64 L1)) x2 := hJ _ _ _ J1' (Moves.of_below k2)
    have hb02 : B ≤ x2.heap.size := by omega
    have r2 : Rd x2 x2.heap.size A2 n2 (Byt L2) := (hR2'.below k2).wider k2.size
    have s2 : x2.cell? ⟨s, 0, none⟩ = some (.func (.yield l) #[] #[]) := (k2.cell (p := ⟨s, 0, none⟩) (block_lt_of_cell hs')).trans hs'
    refine (wpIn_wide (n := 20)).1 ?_
    refine' wpIn_rangeFunc_ownF hro (by decide) (gf := 92) (lb := #[.pointer (some ⟨w1.heap.size, 0, none⟩), .pointer (some ⟨w1.heap.size + 1, 0, none⟩)]) rfl trivial (enters_of Tryd.func92 (by kernel_rfl) rfl)
      (chunk_stops 19 (by decide) w1.heap.size (w1.heap.size + 1) pb2 po2 n2 c2 64 A2 hA2 L2 hR2'.bytes hb2 hn2 (by decide) (by decide) x2 (by omega) (by omega) a2 b2) KC2.t (KC2.b (by omega) (by omega)) (Below.refl _ _) (fun _ => rfl)
      (fun (pre : List Nat) W' => J (cutsU 64 L1 (numU 64 L1) ++ pre.map (cutU 64 L2)) W' ∧ Past gh x2.heap.size x2 W') (fun _ _ _ => False) ?hI (fun _ _ _ _ _ h _ _ => h) ⟨by simpa using j2, Moves.refl _ _⟩ _ ?assign ?body ?done ?stop
    case hI =>
      rintro pre X Y row ⟨hj, hp⟩ hg hr
      exact ⟨hJ _ X Y hj ((Moves.refl _ X).grown hg (fun k hk => .inl (Nat.le_trans hb02 (hr k hk).1))), Moves.grown hp hg (fun k hk => .inl (.inr (hr k hk).1))⟩
    case assign =>
      intro l' x W3 K hK
      gi_wp2
      exact hK
    case body =>
      rintro l' pre x W3 ⟨hj, hp⟩ hlt
      have hr3 := hp.rd r2 (Nat.le_refl _) hO2
      have hc3 := hp.cell s2 hsg (Nat.le_refl _)
      have hel : Elt (chunkV pb2 po2 n2 64 x) (cutU 64 L2 x) W3 := ⟨_, _, _, rfl, chunk_rd (m := 64) hr3 hA2 x, Nat.le_refl _, by omega⟩
      obtain ⟨fn, tmps, assign, body, hy, hRn⟩ := hY 17 _ _ _ W3 hj hel
      gi_wp2
      refine RoundIn.mono (RoundIn.wide_any hRn) ?_
      rintro e W4 ⟨rfl, hj4, hT⟩
      gi_wp2
      have q3 := (block_lt_of_cell (hp.cell a2 (by omega) (Nat.le_refl _)) : w1.heap.size < W3.heap.size)
      have q4 := (block_lt_of_cell (hp.cell b2 (by omega) (Nat.le_refl _)) : w1.heap.size + 1 < W3.heap.size)
      exact ⟨hT.2, ⟨hT.1.cell (p := ⟨w1.heap.size, 0, none⟩) q3 (by show ¬ w1.heap.size = gh; omega), hT.1.cell (p := ⟨w1.heap.size + 1, 0, none⟩) q4 (by show ¬ w1.heap.size + 1 = gh; omega)⟩, by simpa [List.append_assoc] using hj4, Moves.go hp (hT.1.wider fun k hk => .inl hk)⟩
    case stop =>
      rintro D c pre W3 hD hpre h hK
      exact h.elim
    case done =>
      rintro D2 ys w2 hD2 rfl ⟨J2, P2⟩ hK2
      go_wp2_with fail
      rw [rounds_succ]
      have d1 : D1 < w1.heap.size := (Array.getElem?_eq_some_iff.1 hK1).1
      have d1x : D1 < x2.heap.size := by omega
      have hK1' : w2.heap[D1]? = some (.deferred (some [])) := (Moves.block P2 D1 d1x (fun h => by
        have h2 : D1 = gh ∨ x2.heap.size ≤ D1 := h
        omega)).trans ((k2.block D1 d1).trans hK1)
      have hK1'' : (w2.putObj D2 (.deferred none)).heap[D1]? = some (.deferred (some [])) := (World.putObj_heap_other (by omega)).trans hK1'
      have hfin : J (cutsU 64 L1 (numU 64 L1) ++ cutsU 64 L2 (numU 64 L2)) ((w2.putObj D2 (.deferred none)).putObj D1 (.deferred none)) :=
        hJ _ _ _ (hJ _ _ _ J2 (moves_put _ _ _ (show B ≤ D2 by omega))) (moves_put _ _ _ (show B ≤ D1 by omega))
      go_wp2
      exact ⟨by simp, .inl ⟨_, _, rfl, run_takeDeferred hK2, ⟨by simp, .inl ⟨_, _, rfl, run_takeDeferred hK1'', ⟨_, results_none rfl _ _ _, hR _ _ hfin⟩⟩⟩⟩⟩

end Go.Proofs.YtacbpdampdikjaaDoor

/-
  The blocks of a row and its padding, one by one: the sequence.
-/
namespace Go.Proofs.YtacbpdampdikjaaDoor
open Go.RowKit Go.Shelf

theorem Rd.take {w : World} {B n k : Nat} {A : Option Addr} {xs : List Value} (h : Rd w B A n xs) (hk : k ≤ n) : Rd w B A k (xs.take k) := by
  refine ⟨by rw [List.length_take, h.1]; omega, fun h0 => ?_⟩
  obtain ⟨b, o, e, hb, hc⟩ := h.2 (by omega)
  refine ⟨b, o, e, hb, fun j u hu => ?_⟩
  rw [List.getElem?_take] at hu
  split at hu
  · exact hc _ u hu
  · cases hu

theorem blocks_any (n c : Nat) (A : Option Addr) (w : World) : Calls Tryd.prog 60 #[.slice A n c] w fun e w' =>
    e = .returned (.func (.func 77) #[] #[.pointer (some ⟨w.heap.size, 0, none⟩)]) ∧ w' = w.alloc (.cells #[.slice A n c] 22) := by
  have hmf : ∀ (fn : Fn) (first cap : Array Value) (w : World), (Instr.makeFunc fn first cap).run Tryd.prog w = .ok (.func fn first cap) w := fun _ _ _ _ => rfl
  go_enter Tryd.func60, Tryd.ntmps60
  go_wp2
  go_ret
  exact ⟨rfl, rfl⟩

set_option maxRecDepth 100000 in
set_option maxHeartbeats 4000000 in
theorem blocks1_in (d l gh Bt B0 n c : Nat) (A : Option Addr) (xs : List UInt8) (J : List (List UInt8) → World → Prop) (W : World)
    (hJ : Rests W.heap.size J) (hY : Sq Tryd.prog l gh J) (hgh : gh < W.heap.size) (hx : Rd W B0 A n (Byt xs)) (hB0 : B0 ≤ gh) (hok : SlOK A n c) (hn : n ≤ 1099511627776)
    (hBs : Bt < W.heap.size) (hcell : W.cell? ⟨Bt, 0, none⟩ = some (.slice A n c)) (h0 : J [] W) :
    CallsIn Fence.wide d Tryd.prog 77 #[.func (.yield l) #[] #[], .pointer (some ⟨Bt, 0, none⟩)] W fun e W' => (∃ v, e = .returned v) ∧ J (allBlk xs) W' := by
  have hro : Fence.wide.round = none := rfl
  have hxl := hx.bytes
  obtain ⟨wh, hwh⟩ : ∃ wh, wholeN n = wh := ⟨_, rfl⟩
  have hwn : wh ≤ n := by rw [← hwh]; unfold wholeN; omega
  have hwi : (n : Int) / 64 * 64 = (wh : Int) := by rw [← hwh]; unfold wholeN; omega
  refine callsIn_of_wp_marks Tryd.func77 rfl trivial ?_ hro
  simp only [Tryd.ntmps77, List.size_toArray, List.length_cons, List.length_nil, Nat.reduceAdd, Nat.reduceSub, Array.replicate_succ, Array.replicate_zero, List.push_toArray, List.append_toArray, List.nil_append, List.cons_append]
  refine wpIn_wide.2 ?_
  go_wp2_with fail
  have e1 : (W.alloc (.cells #[.func (.yield l) #[] #[]] 88)).cell? ⟨W.heap.size, 0, none⟩ = some (.func (.yield l) #[] #[]) := by simp
  have m1 : Moves (fun k => W.heap.size ≤ k) W (W.alloc (.cells #[.func (.yield l) #[] #[]] 88)) := (Moves.refl _ W).alloc _
  have z1 : (W.alloc (.cells #[.func (.yield l) #[] #[]] 88)).heap.size = W.heap.size + 1 := by simp
  revert e1 m1 z1
  generalize W.alloc (.cells #[.func (.yield l) #[] #[]] 88) = W1
  intro e1 m1 z1
  have Z1 := Lib.hid z1; clear z1
  have M1 := Lib.hid m1; clear m1
  have E1 := Lib.hid e1; clear e1
  have hc1 : W1.cell? ⟨Bt, 0, none⟩ = some (.slice A n c) := (M1.out.cell (p := ⟨Bt, 0, none⟩) hBs (by show ¬ W.heap.size ≤ Bt; omega)).trans hcell
  have Hx1 : Hid (Rd W1 B0 A n (Byt xs)) := Lib.hid (hx.moves M1.out (by omega) (fun h => by
    obtain ⟨b, o, e, hb, _⟩ := hx.2 h
    intro a ha
    rw [e] at ha
    injection ha with ha
    subst ha
    show ¬ W.heap.size ≤ b
    omega))
  have hpad := fun w' => shpad_in n w' hn
  have Hpl : Hid (9 ≤ (padU n).length ∧ (padU n).length ≤ 72) := Lib.hid (by rw [padU_length]; have := (zerosU_ok n).2; omega)
  have Hla : Hid (lastU xs = xs.drop wh ++ padU n) := Lib.hid (by unfold lastU; rw [hxl, hwh])
  have Hxd : Hid ((xs.drop wh).length = n - wh) := Lib.hid (by rw [List.length_drop, hxl])
  have Hab : Hid (allBlk xs = cutsU 64 (xs.take wh) (numU 64 (xs.take wh)) ++ cutsU 64 (lastU xs) (numU 64 (lastU xs))) := Lib.hid (by unfold allBlk; rw [hxl, hwh])
  have Hx := Lib.hid hx; clear hx
  have Hok := Lib.hid hok
  rcases hok with ⟨rfl, rfl, rfl⟩ | ⟨a, rfl, hnc, hcm⟩
  · obtain rfl : wh = 0 := by omega
    have hclone : ∀ w', w'.heap.size ≥ W1.heap.size → Calls Tryd.prog 78 #[.slice none 0 0] w' (NewB 5 w' (xs.drop 0)) := fun w' hs => by
      refine bclone_any B0 0 0 none (xs.drop 0) w' ?_ (.inl ⟨rfl, rfl, rfl⟩) (by have := Z1.out; omega) (by omega)
      have h0 : xs.drop 0 = [] := List.drop_eq_nil_of_le (by omega)
      rw [h0]
      exact Rd.nil
    have hbt1 : Bt < W1.heap.size := by have := Z1.out; omega
    have Hbt1 := Lib.hid hbt1; clear hbt1
    refine wp_onlyN ?_
    first
      | (go_region_held_law (fun w' => w'.cell? ⟨Bt, 0, none⟩ = some (.slice none 0 0))
      (first | exact hc1 | exact hS3 | exact hS4 | exact hS5)
      (first
        | (go_simp; go_at_call 78; refine (hclone W1.drew (Nat.le_refl _)).mono ?_; rintro e w3 ⟨A3, c3, rfl, hown3, hb3⟩; have hS3 : w3.cell? ⟨Bt, 0, none⟩ = some (.slice none 0 0) := (hb3.cell (p := ⟨Bt, 0, none⟩) Hbt1.out).trans hc1; have hown3' : w3.ownsRow W1.drew.heap.size 5 1 (.slice A3 0 c3) 0 (Byt (xs.drop 0)) := Eq.mp (by rw [Hxd.out, Nat.sub_self]) hown3)
        | (go_simp; go_at_call 79; refine (hpad w3).mono ?_; rintro e w4 ⟨A4, c4, rfl, hown4, hb4⟩; have hS4 : w4.cell? ⟨Bt, 0, none⟩ = some (.slice none 0 0) := (hb4.cell (p := ⟨Bt, 0, none⟩) (Nat.lt_of_lt_of_le Hbt1.out hb3.size)).trans hS3)
        | (refine step_append_owned (by rfl) (.tmp 15) (.tmp 18) 22 (by rfl) 5 Tryd.underlying22 Tryd.info_u8 W1.drew.heap.size 0 c3 A3 (xs.drop 0) (by rfl) (own_below hown3' hb4 (Nat.le_refl _)) w3.heap.size (padU 0).length c4 A4 (padU 0) (by rfl) hown4 (by have := Hpl.out; omega) (by have := Hpl.out; omega) (Nat.le_trans hb3.size hb4.size) ?_; intro g5 c5 w5 hown5 hm5; have hS5 : w5.cell? ⟨Bt, 0, none⟩ = some (.slice none 0 0) := (hm5.cell (p := ⟨Bt, 0, none⟩) (Nat.lt_of_lt_of_le Hbt1.out (Nat.le_trans hb3.size hb4.size)) (Nat.not_le_of_lt Hbt1.out)).trans hS4)))
      | fail
    dsimp only [OnlyN]
    have mB : Moves (fun k => W1.heap.size ≤ k) W1 w5 := (((Moves.refl _ W1).drew.then hb3).then hb4).go hm5
    have J5 := Lib.hid (hJ [] W w5 h0 (M1.out.trans mB (fun k hk => .inl (by have := Z1.out; omega))))
    have hs5 : W1.heap.size ≤ w5.heap.size := mB.size
    have Hs5 := Lib.hid hs5; clear hs5
    have hE5 : w5.cell? ⟨W.heap.size, 0, none⟩ = some (.func (.yield l) #[] #[]) := (mB.cell (p := ⟨W.heap.size, 0, none⟩) (by have := Z1.out; show W.heap.size < W1.heap.size; omega) (by have := Z1.out; show ¬ W1.heap.size ≤ W.heap.size; omega)).trans E1.out
    have Hx5 : Hid (Rd w5 B0 none 0 (Byt xs)) := Lib.hid (Hx1.out.moves mB (by have := Z1.out; omega) (fun h => by
      obtain ⟨b, o, e, hb, _⟩ := Hx1.out.2 h
      intro a' ha
      rw [e] at ha
      injection ha with ha
      subst ha
      show ¬ W1.heap.size ≤ b
      have := Z1.out
      omega))
    have Hown5 : Hid (w5.ownsRow W1.heap.size 5 1 (.slice (some ⟨g5, 0, none⟩) ((padU 0).length) c5) ((padU 0).length) (Byt (lastU xs))) := Lib.hid (by rw [Hla.out]; rw [Nat.zero_add] at hown5; exact hown5)
    have Hbt5 : Hid (Bt < w5.heap.size) := Lib.hid (Nat.lt_of_lt_of_le Hbt1.out Hs5.out)
    have HE5 := Lib.hid hE5
    clear hown3 hown3' hown4 hown5 hb3 hb4 hm5 mB hS3 hS4 hc1 hclone hpad hcell hwi hE5 Hx1 E1
    go_wp2_with fail
    have hz5 := Z1.out
    have hs5 := Hs5.out
    obtain ⟨-, g5b⟩ := Hown5.out.lt g5 rfl
    have g5a := (Hown5.out.lt g5 rfl).1
    exact blocks1_loop d l gh W.heap.size W.heap.size w5.heap.size 0 0 ((padU 0).length) c5 none (some ⟨g5, 0, none⟩) (xs.take 0) (lastU xs) J _ _ rfl
      _ _ _ _ _ _ _ _ _ _ _ _ _ _ _ _ _ _ _ _ _ _ _ _ _ _ _ _ _ _ _ _ _ _ hJ hY hgh (by simp; omega) (hJ _ _ _ J5.out ((Moves.refl _ _).alloc _))
      ((World.cell?_alloc_lt w5 _ ⟨W.heap.size, 0, none⟩ (by show W.heap.size < _; omega)).trans HE5.out) (by omega)
      (by rw [cell_of_row _ _ 0 _ _ (0, 0) (heap_alloc_new w5 _)]; rfl) (by rw [cell_of_row _ _ 1 _ _ (0, 0) (heap_alloc_new w5 _)]; rfl) (by omega)
      ((by have h := Hx5.out.take (Nat.le_refl 0); rw [← Byt_take] at h; exact (h.alloc (by omega) _).wider (by simp; omega)))
      (fun h a' ha => by
        obtain ⟨b, o, e, hb, _⟩ := Hx5.out.2 (by omega)
        rw [e] at ha
        injection ha with ha
        subst ha
        show ¬ b = gh
        omega)
      (by omega) (by omega)
      (((Rd.of_own Hown5.out).alloc (Nat.le_refl _) _).wider (by simp))
      (fun _ a' ha => by
        injection ha with ha
        subst ha
        show ¬ g5 = gh
        omega)
      (own_form Hown5.out |>.elim fun _ h => h.elim fun _ h => by obtain ⟨e, h1, _⟩ := h; injection e with _ _ e; omega) (by have := Hpl.out; omega)
      (fun v w' h => ⟨⟨v, rfl⟩, by rw [Hab.out]; exact h⟩)
  · rcases Nat.lt_or_ge wh c with hwc | hwc
    · have hclone : ∀ w', w'.heap.size ≥ W1.heap.size → Rd w' B0 (some a) n (Byt xs) → Calls Tryd.prog 78 #[.slice (some (a.add wh)) (n - wh) (c - wh)] w' (NewB 5 w' (xs.drop wh)) := fun w' hs hr => by
        refine bclone_any B0 (n - wh) (c - wh) (some (a.add wh)) (xs.drop wh) w' ?_ (.inr ⟨_, rfl, by omega, by omega⟩) (by have := Z1.out; omega) (by omega)
        rw [Byt_drop]
        refine ⟨by rw [List.length_drop, hr.1], fun h => ?_⟩
        obtain ⟨b, o, e, hb, hc⟩ := hr.2 (by omega)
        injection e with e
        subst e
        exact ⟨b, o + wh, by rw [add_flat], hb, fun j u hu => by rw [List.getElem?_drop] at hu; rw [Nat.add_assoc]; exact hc _ u hu⟩
      have hwn' : (wh : Int) ≤ (n : Int) := by omega
      have hwc' : (wh : Int) ≤ (c : Int) := by omega
      have hbt1 : Bt < W1.heap.size := by have := Z1.out; omega
      have Hbt1 := Lib.hid hbt1; clear hbt1
      refine wp_onlyN ?_
      first
        | (go_region_held_law (fun w' => w'.cell? ⟨Bt, 0, none⟩ = some (.slice (some a) n c))
        (first | exact hc1 | exact hS3 | exact hS4 | exact hS5)
        (first
          | (go_simp; go_at_call 78; refine (hclone W1.drew (Nat.le_refl _) Hx1.out).mono ?_; rintro e w3 ⟨A3, c3, rfl, hown3, hb3⟩; have hS3 : w3.cell? ⟨Bt, 0, none⟩ = some (.slice (some a) n c) := (hb3.cell (p := ⟨Bt, 0, none⟩) Hbt1.out).trans hc1; have hown3' : w3.ownsRow W1.drew.heap.size 5 1 (.slice A3 (n - wh) c3) (n - wh) (Byt (xs.drop wh)) := Eq.mp (by rw [Hxd.out]) hown3)
          | (go_simp; go_at_call 79; refine (hpad w3).mono ?_; rintro e w4 ⟨A4, c4, rfl, hown4, hb4⟩; have hS4 : w4.cell? ⟨Bt, 0, none⟩ = some (.slice (some a) n c) := (hb4.cell (p := ⟨Bt, 0, none⟩) (Nat.lt_of_lt_of_le Hbt1.out hb3.size)).trans hS3)
          | (refine step_append_owned (by rfl) (.tmp 15) (.tmp 18) 22 (by rfl) 5 Tryd.underlying22 Tryd.info_u8 W1.drew.heap.size (n - wh) c3 A3 (xs.drop wh) (by rfl) (own_below hown3' hb4 (Nat.le_refl _)) w3.heap.size (padU n).length c4 A4 (padU n) (by rfl) hown4 (by have := Hpl.out; omega) (by have := Hpl.out; omega) (Nat.le_trans hb3.size hb4.size) ?_; intro g5 c5 w5 hown5 hm5; have hS5 : w5.cell? ⟨Bt, 0, none⟩ = some (.slice (some a) n c) := (hm5.cell (p := ⟨Bt, 0, none⟩) (Nat.lt_of_lt_of_le Hbt1.out (Nat.le_trans hb3.size hb4.size)) (Nat.not_le_of_lt Hbt1.out)).trans hS4)))
        | fail
      dsimp only [OnlyN]
      have mB : Moves (fun k => W1.heap.size ≤ k) W1 w5 := (((Moves.refl _ W1).drew.then hb3).then hb4).go hm5
      have J5 := Lib.hid (hJ [] W w5 h0 (M1.out.trans mB (fun k hk => .inl (by have := Z1.out; omega))))
      have hs5 : W1.heap.size ≤ w5.heap.size := mB.size
      have Hs5 := Lib.hid hs5; clear hs5
      have hE5 : w5.cell? ⟨W.heap.size, 0, none⟩ = some (.func (.yield l) #[] #[]) := (mB.cell (p := ⟨W.heap.size, 0, none⟩) (by have := Z1.out; show W.heap.size < W1.heap.size; omega) (by have := Z1.out; show ¬ W1.heap.size ≤ W.heap.size; omega)).trans E1.out
      have Hx5 : Hid (Rd w5 B0 (some a) n (Byt xs)) := Lib.hid (Hx1.out.moves mB (by have := Z1.out; omega) (fun h => by
        obtain ⟨b, o, e, hb, _⟩ := Hx1.out.2 h
        intro a' ha
        rw [e] at ha
        injection ha with ha
        subst ha
        show ¬ W1.heap.size ≤ b
        have := Z1.out
        omega))
      have Hown5 : Hid (w5.ownsRow W1.heap.size 5 1 (.slice (some ⟨g5, 0, none⟩) (n - wh + (padU n).length) c5) (n - wh + (padU n).length) (Byt (lastU xs))) := Lib.hid (by rw [Hla.out]; exact hown5)
      have Hbt5 : Hid (Bt < w5.heap.size) := Lib.hid (Nat.lt_of_lt_of_le Hbt1.out Hs5.out)
      have HE5 := Lib.hid hE5
      clear hown3 hown3' hown4 hown5 hb3 hb4 hm5 mB hS3 hS4 hc1 hclone hpad hcell hwi hE5 Hx1 E1
      go_wp2_with fail
      have hwb : n - wh ≤ 64 := by rw [← hwh]; unfold wholeN; omega
      have hz5 := Z1.out
      have hs5 := Hs5.out
      obtain ⟨-, g5b⟩ := Hown5.out.lt g5 rfl
      have g5a := (Hown5.out.lt g5 rfl).1
      exact blocks1_loop d l gh W.heap.size W.heap.size w5.heap.size wh c (n - wh + (padU n).length) c5 (some a) (some ⟨g5, 0, none⟩) (xs.take wh) (lastU xs) J _ _ rfl
        _ _ _ _ _ _ _ _ _ _ _ _ _ _ _ _ _ _ _ _ _ _ _ _ _ _ _ _ _ _ _ _ _ _ hJ hY hgh (by simp; omega) (hJ _ _ _ J5.out ((Moves.refl _ _).alloc _))
        ((World.cell?_alloc_lt w5 _ ⟨W.heap.size, 0, none⟩ (by show W.heap.size < _; omega)).trans HE5.out) (by omega)
        (by rw [cell_of_row _ _ 0 _ _ (0, 0) (heap_alloc_new w5 _)]; rfl) (by rw [cell_of_row _ _ 1 _ _ (0, 0) (heap_alloc_new w5 _)]; rfl) (by omega)
        ((by have h := Hx5.out.take hwn; rw [← Byt_take] at h; exact (h.alloc (by omega) _).wider (by simp; omega)))
        (fun h a' ha => by
          obtain ⟨b, o, e, hb, _⟩ := Hx5.out.2 (by omega)
          rw [e] at ha
          injection ha with ha
          subst ha
          show ¬ b = gh
          omega)
        (by omega) (by omega)
        (((Rd.of_own Hown5.out).alloc (Nat.le_refl _) _).wider (by simp))
        (fun _ a' ha => by
          injection ha with ha
          subst ha
          show ¬ g5 = gh
          omega)
        (own_form Hown5.out |>.elim fun _ h => h.elim fun _ h => by obtain ⟨e, h1, _⟩ := h; injection e with _ _ e; omega) (by have := Hpl.out; omega)
        (fun v w' h => ⟨⟨v, rfl⟩, by rw [Hab.out]; exact h⟩)
    · obtain rfl : wh = n := by omega
      obtain rfl : wh = c := by omega
      have hclone : ∀ w', w'.heap.size ≥ W1.heap.size → Calls Tryd.prog 78 #[.slice (some a) 0 0] w' (NewB 5 w' (xs.drop wh)) := fun w' hs => by
        refine bclone_any B0 0 0 (some a) (xs.drop wh) w' ?_ (.inr ⟨_, rfl, by omega, by unfold maxLen; omega⟩) (by have := Z1.out; omega) (by omega)
        have h0 : xs.drop wh = [] := List.drop_eq_nil_of_le (by omega)
        rw [h0]
        exact Rd.nil
      have hbt1 : Bt < W1.heap.size := by have := Z1.out; omega
      have Hbt1 := Lib.hid hbt1; clear hbt1
      refine wp_onlyN ?_
      first
        | (go_region_held_law (fun w' => w'.cell? ⟨Bt, 0, none⟩ = some (.slice (some a) wh wh))
        (first | exact hc1 | exact hS3 | exact hS4 | exact hS5)
        (first
          | (go_simp; go_at_call 78; refine (hclone W1.drew (Nat.le_refl _)).mono ?_; rintro e w3 ⟨A3, c3, rfl, hown3, hb3⟩; have hS3 : w3.cell? ⟨Bt, 0, none⟩ = some (.slice (some a) wh wh) := (hb3.cell (p := ⟨Bt, 0, none⟩) Hbt1.out).trans hc1; have hown3' : w3.ownsRow W1.drew.heap.size 5 1 (.slice A3 0 c3) 0 (Byt (xs.drop wh)) := Eq.mp (by rw [Hxd.out, Nat.sub_self]) hown3)
          | (go_simp; go_at_call 79; refine (hpad w3).mono ?_; rintro e w4 ⟨A4, c4, rfl, hown4, hb4⟩; have hS4 : w4.cell? ⟨Bt, 0, none⟩ = some (.slice (some a) wh wh) := (hb4.cell (p := ⟨Bt, 0, none⟩) (Nat.lt_of_lt_of_le Hbt1.out hb3.size)).trans hS3)
          | (refine step_append_owned (by rfl) (.tmp 15) (.tmp 18) 22 (by rfl) 5 Tryd.underlying22 Tryd.info_u8 W1.drew.heap.size 0 c3 A3 (xs.drop wh) (by rfl) (own_below hown3' hb4 (Nat.le_refl _)) w3.heap.size (padU wh).length c4 A4 (padU wh) (by rfl) hown4 (by have := Hpl.out; omega) (by have := Hpl.out; omega) (Nat.le_trans hb3.size hb4.size) ?_; intro g5 c5 w5 hown5 hm5; have hS5 : w5.cell? ⟨Bt, 0, none⟩ = some (.slice (some a) wh wh) := (hm5.cell (p := ⟨Bt, 0, none⟩) (Nat.lt_of_lt_of_le Hbt1.out (Nat.le_trans hb3.size hb4.size)) (Nat.not_le_of_lt Hbt1.out)).trans hS4)))
        | fail
      dsimp only [OnlyN]
      have mB : Moves (fun k => W1.heap.size ≤ k) W1 w5 := (((Moves.refl _ W1).drew.then hb3).then hb4).go hm5
      have J5 := Lib.hid (hJ [] W w5 h0 (M1.out.trans mB (fun k hk => .inl (by have := Z1.out; omega))))
      have hs5 : W1.heap.size ≤ w5.heap.size := mB.size
      have Hs5 := Lib.hid hs5; clear hs5
      have hE5 : w5.cell? ⟨W.heap.size, 0, none⟩ = some (.func (.yield l) #[] #[]) := (mB.cell (p := ⟨W.heap.size, 0, none⟩) (by have := Z1.out; show W.heap.size < W1.heap.size; omega) (by have := Z1.out; show ¬ W1.heap.size ≤ W.heap.size; omega)).trans E1.out
      have Hx5 : Hid (Rd w5 B0 (some a) wh (Byt xs)) := Lib.hid (Hx1.out.moves mB (by have := Z1.out; omega) (fun h => by
        obtain ⟨b, o, e, hb, _⟩ := Hx1.out.2 h
        intro a' ha
        rw [e] at ha
        injection ha with ha
        subst ha
        show ¬ W1.heap.size ≤ b
        have := Z1.out
        omega))
      have Hown5 : Hid (w5.ownsRow W1.heap.size 5 1 (.slice (some ⟨g5, 0, none⟩) ((padU wh).length) c5) ((padU wh).length) (Byt (lastU xs))) := Lib.hid (by rw [Hla.out]; rw [Nat.zero_add] at hown5; exact hown5)
      have Hbt5 : Hid (Bt < w5.heap.size) := Lib.hid (Nat.lt_of_lt_of_le Hbt1.out Hs5.out)
      have HE5 := Lib.hid hE5
      clear hown3 hown3' hown4 hown5 hb3 hb4 hm5 mB hS3 hS4 hc1 hclone hpad hcell hwi hE5 Hx1 E1
      go_wp2_with fail
      have hz5 := Z1.out
      have hs5 := Hs5.out
      obtain ⟨-, g5b⟩ := Hown5.out.lt g5 rfl
      have g5a := (Hown5.out.lt g5 rfl).1
      exact blocks1_loop d l gh W.heap.size W.heap.size w5.heap.size wh wh ((padU wh).length) c5 (some a) (some ⟨g5, 0, none⟩) (xs.take wh) (lastU xs) J _ _ rfl
        _ _ _ _ _ _ _ _ _ _ _ _ _ _ _ _ _ _ _ _ _ _ _ _ _ _ _ _ _ _ _ _ _ _ hJ hY hgh (by simp; omega) (hJ _ _ _ J5.out ((Moves.refl _ _).alloc _))
        ((World.cell?_alloc_lt w5 _ ⟨W.heap.size, 0, none⟩ (by show W.heap.size < _; omega)).trans HE5.out) (by omega)
        (by rw [cell_of_row _ _ 0 _ _ (0, 0) (heap_alloc_new w5 _)]; rfl) (by rw [cell_of_row _ _ 1 _ _ (0, 0) (heap_alloc_new w5 _)]; rfl) (by omega)
        ((by have h := Hx5.out.take (Nat.le_refl wh); rw [← Byt_take] at h; exact (h.alloc (by omega) _).wider (by simp; omega)))
        (fun h a' ha => by
          obtain ⟨b, o, e, hb, _⟩ := Hx5.out.2 (by omega)
          rw [e] at ha
          injection ha with ha
          subst ha
          show ¬ b = gh
          omega)
        (by omega) (by omega)
        (((Rd.of_own Hown5.out).alloc (Nat.le_refl _) _).wider (by simp))
        (fun _ a' ha => by
          injection ha with ha
          subst ha
          show ¬ g5 = gh
          omega)
        (own_form Hown5.out |>.elim fun _ h => h.elim fun _ h => by obtain ⟨e, h1, _⟩ := h; injection e with _ _ e; omega) (by have := Hpl.out; omega)
        (fun v w' h => ⟨⟨v, rfl⟩, by rw [Hab.out]; exact h⟩)

end Go.Proofs.YtacbpdampdikjaaDoor

namespace Go.Proofs.YtacbpdampdikjaaDoor
open Go.RowKit

/-- A word turned, as the walk shows it. -/
theorem rot_bits (x n : Nat) (hx : x < 4294967296) : bits .or .u32 ((x : Int) / 2 ^ n) ((x : Int) * 2 ^ (32 - n) % 4294967296) = ((rotU n x : Nat) : Int) := by
  have e1 : (x : Int) / 2 ^ n = ((x / 2 ^ n : Nat) : Int) := by push_cast; rfl
  have e2 : (x : Int) * 2 ^ (32 - n) % 4294967296 = ((x * 2 ^ (32 - n) % 4294967296 : Nat) : Int) := by rw [Int.natCast_emod, Int.natCast_mul, Int.natCast_pow]; rfl
  rw [e1, e2, u32_or_nat _ _ (Nat.lt_of_le_of_lt (Nat.div_le_self _ _) hx) (Nat.mod_lt _ (by decide))]
  rfl
theorem rot_bits2 (x m : Nat) (hx : x < 4294967296) (hm : m ≤ 32) : bits .or .u32 ((x : Int) * 2 ^ m % 4294967296) ((x : Int) / 2 ^ (32 - m)) = ((rotU (32 - m) x : Nat) : Int) := by
  have e1 : (x : Int) / 2 ^ (32 - m) = ((x / 2 ^ (32 - m) : Nat) : Int) := by push_cast; rfl
  have e2 : (x : Int) * 2 ^ m % 4294967296 = ((x * 2 ^ m % 4294967296 : Nat) : Int) := by rw [Int.natCast_emod, Int.natCast_mul, Int.natCast_pow]; rfl
  rw [e1, e2, u32_or_nat _ _ (Nat.mod_lt _ (by decide)) (Nat.lt_of_le_of_lt (Nat.div_le_self _ _) hx), Nat.or_comm]
  unfold rotU
  rw [show 32 - (32 - m) = m by omega]
theorem rot_neg : ∀ n : Fin 32, 1 ≤ n.val → bits .and .u64 (IntKind.u64.wrap (-(n.val : Int))) 31 = ((32 - n.val : Nat) : Int) := by decide +kernel

set_option maxHeartbeats 800000 in
theorem shright_any (x n : Nat) (w : World) (hx : x < 4294967296) (hn : 1 ≤ n) (hn' : n ≤ 31) :
    Calls Tryd.prog 68 #[.int .u32 x, .int .i64 (n : Int)] w fun e w' => e = .returned (.int .u32 (rotU n x : Nat)) ∧ ∃ k, w' = w.drewN k := by
  have hr := rot_bits x n hx
  go_enter Tryd.func68, Tryd.ntmps68
  go_wp2
  go_quiet (fail)
  go_wp2
  go_ret
  exact ⟨rfl, _, rfl⟩

set_option maxHeartbeats 800000 in
theorem rotl_any (x n : Nat) (w : World) (hx : x < 4294967296) (hn : 1 ≤ n) (hn' : n ≤ 31) :
    Calls Tryd.prog 82 #[.int .u32 x, .int .i64 (-(n : Int))] w fun e w' => e = .returned (.int .u32 (rotU n x : Nat)) ∧ w' = w := by
  have hneg := rot_neg ⟨n, by omega⟩ hn
  obtain ⟨m, hm⟩ : ∃ m, 32 - n = m := ⟨_, rfl⟩
  have hr := rot_bits2 x m hx (by omega)
  rw [show 32 - m = n by omega] at hr
  have hsub : 32 - m = n := by omega
  simp only at hneg
  rw [hm] at hneg
  have hm1 : 1 ≤ m := by omega
  have hm2 : m ≤ 31 := by omega
  go_enter Tryd.func82, Tryd.ntmps82
  go_wp2
  go_ret
  exact ⟨rfl, rfl⟩

end Go.Proofs.YtacbpdampdikjaaDoor

/-
  Whole arrays in blocks of their own. No program is named here.
-/
namespace Go.Proofs.YtacbpdampdikjaaDoor
open Go.RowKit

/-- Numbers of a kind, as the cells of an array. -/
def Nums (k : IntKind) (l : List Nat) : Array Value := (l.map fun (n : Nat) => Value.int k (n : Int)).toArray
theorem Nums_size (k : IntKind) (l : List Nat) : (Nums k l).size = l.length := by simp [Nums]
theorem Nums_get {k : IntKind} {l : List Nat} {j : Nat} (h : j < l.length) : (Nums k l)[j]? = some (.int k (l[j] : Int)) := by
  simp [Nums, h]
theorem Nums_set (k : IntKind) (l : List Nat) (j n : Nat) : (Nums k l).setIfInBounds j (.int k (n : Int)) = Nums k (l.set j n) := by
  simp [Nums, List.map_set]
theorem Nums_one (k : IntKind) (l : List Nat) : (Nums k l).all (·.oneCell') = true := by
  rw [Array.all_eq_true_iff_forall_mem]
  intro v hv
  simp only [Nums, List.mem_toArray, List.mem_map] at hv
  obtain ⟨n, _, rfl⟩ := hv
  rfl

/-- So many zeros. -/
def Zs (n : Nat) : List Nat := List.replicate n 0
theorem Zs_length (n : Nat) : (Zs n).length = n := List.length_replicate ..
theorem Zs_get {n j : Nat} (h : j < n) : (Zs n)[j]? = some 0 := by simp [Zs, h]

/-- Block b holds just these numbers, and may be written. -/
def Arr (w : World) (b : Nat) (t : TypeId) (k : IntKind) (l : List Nat) : Prop := w.heap[b]? = some (.cells (Nums k l) t (0, 0))

section
variable {w w' : World} {b : Nat} {t : TypeId} {k : IntKind} {l : List Nat}
theorem Arr.lt (h : Arr w b t k l) : b < w.heap.size := (Array.getElem?_eq_some_iff.1 h).1
theorem Arr.drewN (h : Arr w b t k l) (n : Nat) : Arr (w.drewN n) b t k l := h
theorem Arr.drew (h : Arr w b t k l) : Arr w.drew b t k l := h
theorem Arr.heap (h : Arr w b t k l) (e : w'.heap = w.heap) : Arr w' b t k l := by unfold Arr; rw [e]; exact h
theorem Arr.below {B : Nat} (h : Arr w b t k l) (hb : Below B w w') (hB : b < B) : Arr w' b t k l := (hb.block b hB).trans h
theorem Arr.moves {F : Nat → Prop} (h : Arr w b t k l) (hm : Moves F w w') (hF : ¬ F b) : Arr w' b t k l := (hm.block b h.lt hF).trans h
theorem Arr.cell {j : Nat} (h : Arr w b t k l) (hj : j < l.length) : w.cell? ⟨b, j, none⟩ = some (.int k (l[j] : Int)) := by
  rw [cell_of_row w b j _ t (0, 0) h, Nums_get hj]
theorem Arr.frozen (h : Arr w b t k l) (j : Nat) : w.frozen? ⟨b, j, none⟩ = false := frozen_of_row w b j _ t h
theorem Arr.set {j n : Nat} (h : Arr w b t k l) : Arr (w.setCell ⟨b, j, none⟩ (.int k (n : Int))) b t k (l.set j n) := by
  unfold Arr
  rw [heap_setCell_same w b j _ t _ h, Nums_set]
theorem Arr.put {j n : Nat} {z : Int} (h : Arr w b t k l) (hz : z = (n : Int)) : Arr (w.setCell ⟨b, j, none⟩ (.int k z)) b t k (l.set j n) := by subst hz; exact h.set
theorem Arr.other {p : Addr} {v : Value} (h : Arr w b t k l) (hp : b ≠ p.block) : Arr (w.setCell p v) b t k l := (heap_setCell_other w p b v hp).trans h
theorem Arr.alloc (h : Arr w b t k l) (o : Obj) : Arr (w.alloc o) b t k l := (heap_alloc_old w o h.lt).trans h
theorem Arr.new {w : World} {t : TypeId} {k : IntKind} {l : List Nat} : Arr (w.alloc (.cells (Nums k l) t)) w.heap.size t k l := heap_alloc_new w _
theorem Arr.setRow {l' : List Nat} (h : Arr w b t k l) : Arr (w.setRow b (Nums k l')) b t k l' := setRow_heap w b _ _ t _ h
theorem Arr.setRow_other {g : Nat} {cs : Array Value} (h : Arr w b t k l) (hg : b ≠ g) : Arr (w.setRow g cs) b t k l := (Go.setRow_other w g b cs hg).trans h
end

theorem Moves.setRow {F : Nat → Prop} {w w1 : World} (h : Moves F w w1) {g : Nat} (hg : F g ∨ w.heap.size ≤ g) (cs : Array Value) : Moves F w (w1.setRow g cs) :=
  ⟨h.os, h.tape, h.output, by simpa using h.size, fun k hk hn => (Go.setRow_other w1 g k cs (fun e => by subst e; exact hg.elim hn (by omega))).trans (h.block k hk hn)⟩
theorem bsetRow {B : Nat} {w w1 : World} (h : Below B w w1) {g : Nat} (hg : B ≤ g) (cs : Array Value) : Below B w (w1.setRow g cs) :=
  ⟨h.os, h.tape, h.output, by simpa using h.size, fun k hk => (Go.setRow_other w1 g k cs (by omega)).trans (h.block k hk)⟩

/-- A type that is an array of numbers, of one cell each. -/
structure ArrT (P : Program) (t e : TypeId) (k : IntKind) (n : Nat) : Prop where
  under : P.underlying t = some (.array n e)
  elem : P.underlying e = some (.int k)
  size : (P.info? t).map (·.size) = some n

section
variable {P : Program} {ops : Array Oper} {rest : List Oper} {o : Oper} {a : Act} {w : World} {Q : Exit → Act → World → Prop} {t e : TypeId} {k : IntKind} {l : List Nat} {b : Nat}

/-- The whole array is read. -/
theorem wp_load_arr {n : Nat} (T : ArrT P t e k n) (hgd : o.guard = none) (x : Operand) (ho : o.op = .load t x) (hx : a.eval x = .pointer (some ⟨b, 0, none⟩)) {tb : TypeId} (h : Arr w b tb k l) (hl : l.length = n)
    (hK : wpList P ops Q rest (a.put o.dst (.agg (Nums k l))) w) : wpList P ops Q (o :: rest) a w :=
  wpList_load_row hgd t x ho b hx tb (Nums k l) (0, 0) (.array n e) h T.under rfl (by rw [Nums_size, hl]; exact T.size) hK
/-- The whole array is written. -/
theorem wp_store_arr {n : Nat} (T : ArrT P t e k n) (hgd : o.guard = none) (x y : Operand) (ho : o.op = .store t x y) (hx : a.eval x = .pointer (some ⟨b, 0, none⟩)) {l' : List Nat} (hy : a.eval y = .agg (Nums k l')) {tb : TypeId} (h : Arr w b tb k l) (hl : l.length = n) (hl' : l'.length = n)
    (hK : wpList P ops Q rest (a.put o.dst undef) (w.setRow b (Nums k l'))) : wpList P ops Q (o :: rest) a w :=
  wpList_store_row hgd t x y ho b (Nums k l') hx hy tb (Nums k l) h (by rw [Nums_size, hl']; exact T.size) (by rw [Nums_size, Nums_size, hl, hl']) (Nums_one _ _) hK
end

/-- What a call ends in that answers an array. -/
def AnsA (w : World) (k : IntKind) (l : List Nat) (en : Ending) (w' : World) : Prop := en = .returned (.agg (Nums k l)) ∧ Below w.heap.size w w'

/-- The midst of what is read. -/
theorem Rd.part {w : World} {B n b o p q : Nat} {xs : List Value} (h : Rd w B (some ⟨b, o, none⟩) n xs) (hq : p + q ≤ n) : Rd w B (some ⟨b, o + p, none⟩) q ((xs.drop p).take q) := by
  refine ⟨by rw [List.length_take, List.length_drop, h.1]; omega, fun h0 => ?_⟩
  obtain ⟨b', o', e, hb, hc⟩ := h.2 (by omega)
  injection e with e
  injection e with e1 e2
  subst e1 e2
  refine ⟨b, o + p, rfl, hb, fun j u hu => ?_⟩
  rw [List.getElem?_take] at hu
  split at hu
  · rw [List.getElem?_drop] at hu
    rw [Nat.add_assoc]
    exact hc _ u hu
  · cases hu

/-- The way out of a function that answers an array. -/
theorem ret_arr {P : Program} {fn : Func} {a : Act} {w : World} {R : Ending → World → Prop} {t e : TypeId} {k : IntKind} {n b : Nat} {l : List Nat} (T : ArrT P t e k n) {p : Tmp} (hres : fn.results = #[.cell p t])
    (hp : a.tmps.getD p undef = .pointer (some ⟨b, 0, none⟩)) {tb : TypeId} (h : Arr w b tb k l) (hl : l.length = n) (hd : a.defers = []) (hR : R (.returned (.agg (Nums k l))) w) : bodyPost P fn R .ret a w :=
  bodyPost_ret (results_cell_row hres _ w b tb _ (0, 0) (.array n e) hp h T.under rfl (by rw [Nums_size, hl]; exact T.size)) hd hR

/-- One more is filled in. -/
theorem afill_set {α : Type} {L M : List α} {i : Nat} (h : i < L.length) (hm : i < M.length) : (L.take i ++ M.drop i).set i L[i] = L.take (i + 1) ++ M.drop (i + 1) := by
  have h1 : (L.take i).length = i := by simp; omega
  rw [List.set_append_right _ _ (by omega), h1, Nat.sub_self, List.drop_eq_getElem_cons hm, List.set_cons_zero, List.take_add_one, List.getElem?_eq_getElem h, List.append_assoc]
  rfl
theorem fill_length {α : Type} {L M : List α} {i : Nat} (h : L.length = M.length) : (L.take i ++ M.drop i).length = M.length := by simp; omega
theorem fill_get {α : Type} {L M : List α} {i : Nat} (h : i < M.length) (hl : i ≤ L.length) : (L.take i ++ M.drop i)[i]? = some M[i] := by
  rw [List.getElem?_append_right (by simp; omega), List.length_take, Nat.min_eq_left hl, Nat.sub_self, List.getElem?_drop, Nat.add_zero, List.getElem?_eq_getElem h]
theorem fill_all {α : Type} {L M : List α} {i : Nat} (h : L.length = i) (hm : M.length = i) : L.take i ++ M.drop i = L := by
  rw [List.take_of_length_le (by omega), List.drop_of_length_le (by omega), List.append_nil]
theorem Arr.at_ {w : World} {b : Nat} {t : TypeId} {k : IntKind} {l : List Nat} {j x : Nat} (h : Arr w b t k l) (hj : l[j]? = some x) : w.cell? ⟨b, j, none⟩ = some (.int k (x : Int)) := by
  obtain ⟨h1, h2⟩ := List.getElem?_eq_some_iff.1 hj
  rw [h.cell h1, h2]

/-- A store of a whole array, the world behind it a letter. -/
theorem Arr.store_moves {w : World} {b : Nat} {t : TypeId} {k : IntKind} {l : List Nat} (l' : List Nat) (h : Arr w b t k l) :
    Arr (w.setRow b (Nums k l')) b t k l' ∧ Moves (fun j => j = b) w (w.setRow b (Nums k l')) ∧ (w.setRow b (Nums k l')).heap.size = w.heap.size :=
  ⟨h.setRow, (Moves.refl (fun j => j = b) w).setRow (.inl rfl) _, by simp⟩

section
variable {P : Program} {ops : Array Oper} {rest : List Oper} {o : Oper} {a : Act} {w : World} {Q : Exit → Act → World → Prop} {k : IntKind}
/-- A new array of zeros. -/
theorem wp_alloc_arr (hg : o.guard = none) (t : TypeId) (ho : o.op = .alloc t) (n : Nat) (hz : (P.info? t).map (fun i => (i.zero, i.size)) = some (some (.agg (Nums k (Zs n))), n))
    (hK : ∀ w' g, Hid (g = w.heap.size) → Hid (Arr w' g t k (Zs n)) → Hid (Below w.heap.size w w') → Hid (w'.heap.size = w.heap.size + 1) → wpList P ops Q rest (a.put o.dst (.pointer (some ⟨g, 0, none⟩))) w') : wpList P ops Q (o :: rest) a w := by
  refine wpList_plain hg fun K hKK => ?_
  have hq := hKK _ _ (hK (w.alloc (.cells (Nums k (Zs n)) t)) _ (Lib.hid rfl) (Lib.hid Arr.new) (Lib.hid ((Below.refl _ _).alloc (Nat.le_refl _) _)) (Lib.hid (by simp)))
  have hz0 := (zero_of_info hz).1
  unfold Oper.wp execOp
  simp only [ho, Instr.alloc, hz0, Sem.run_bind, newVar, newRow, run_newObj_alloc, Sem.run_pure, Result.andThen_ok]
  exact hq
/-- A new array of what came in. -/
theorem wp_box_arr (hg : o.guard = none) (t : TypeId) (x : Operand) (ho : o.op = .box t x) (l : List Nat) (hx : a.eval x = .agg (Nums k l))
    (hK : ∀ w' g, Hid (g = w.heap.size) → Hid (Arr w' g t k l) → Hid (Below w.heap.size w w') → Hid (w'.heap.size = w.heap.size + 1) → wpList P ops Q rest (a.put o.dst (.pointer (some ⟨g, 0, none⟩))) w') : wpList P ops Q (o :: rest) a w := by
  refine wpList_plain hg fun K hKK => ?_
  have hq := hKK _ _ (hK (w.alloc (.cells (Nums k l) t)) _ (Lib.hid rfl) (Lib.hid Arr.new) (Lib.hid ((Below.refl _ _).alloc (Nat.le_refl _) _)) (Lib.hid (by simp)))
  unfold Oper.wp execOp
  simp only [ho, hx, Instr.box, Sem.run_bind, newVar, newRow, run_newObj_alloc, Sem.run_pure, Result.andThen_ok]
  exact hq
/-- The whole array is written, the world behind it a letter. -/
theorem wp_put_arr {t e : TypeId} {l l' : List Nat} {b n : Nat} (T : ArrT P t e k n) (hgd : o.guard = none) (x y : Operand) (ho : o.op = .store t x y) (hx : a.eval x = .pointer (some ⟨b, 0, none⟩)) (hy : a.eval y = .agg (Nums k l')) {tb : TypeId} (h : Arr w b tb k l) (hl : l.length = n) (hl' : l'.length = n)
    (hK : ∀ w', Hid (Arr w' b tb k l') → Hid (Moves (fun j => j = b) w w') → Hid (w'.heap.size = w.heap.size) → wpList P ops Q rest (a.put o.dst undef) w') : wpList P ops Q (o :: rest) a w :=
  wp_store_arr T hgd x y ho hx hy h hl hl' (hK _ (Lib.hid (h.store_moves l').1) (Lib.hid (h.store_moves l').2.1) (Lib.hid (h.store_moves l').2.2))
end

section
variable {P : Program} {ops : Array Oper} {rest : List Oper} {o : Oper} {a : Act} {w : World} {Q : Exit → Act → World → Prop}
/-- A literal of numbers. -/
theorem wp_build_arr (hg : o.guard = none) (t : TypeId) (parts : Array (Nat × Operand)) (ho : o.op = .build t parts) (k : IntKind) (l : List Nat)
    (hb : P.built t (parts.map fun (i, x) => (i, a.eval x)).toList = some (Nums k l))
    (h : wpList P ops Q rest (a.put o.dst (.agg (Nums k l))) w) : wpList P ops Q (o :: rest) a w :=
  wpList_build hg t parts ho (by rw [hb]; rfl) (by rw [hb]; exact h)
end

end Go.Proofs.YtacbpdampdikjaaDoor

namespace Go.Proofs.YtacbpdampdikjaaDoor
open Go.RowKit

theorem arr8 : ArrT Tryd.prog 59 56 .u32 8 := ⟨by kernel_rfl, by kernel_rfl, by kernel_rfl⟩
theorem arr64 : ArrT Tryd.prog 57 56 .u32 64 := ⟨by kernel_rfl, by kernel_rfl, by kernel_rfl⟩

/-- First. -/
theorem first_any (w : World) : Calls Tryd.prog 59 #[] w (AnsA w .u32 hsU) := by
  go_enter Tryd.func59, Tryd.ntmps59
  go_wp2
  exact ret_arr arr8 rfl rfl (Arr.new (l := hsU)) rfl rfl ⟨rfl, (Below.refl _ _).alloc (Nat.le_refl _) _⟩

set_option maxRecDepth 100000 in
/-- Table. -/
theorem rtable_any (w : World) : Calls Tryd.prog 45 #[] w (AnsA w .u32 ksU) := by
  go_enter Tryd.func45, Tryd.ntmps45
  go_wp2_with (refine wp_alloc_arr (k := .u32) rfl 57 rfl 64 (by kernel_rfl) ?_)
  intro w1 g1 G1 H1 Hb1 Hs1
  go_wp2_with (first
    | refine wp_build_arr rfl 57 _ rfl .u32 ksU (by kernel_rfl) ?_
    | refine wp_put_arr arr64 rfl (.tmp 0) (.tmp 1) rfl rfl (l' := ksU) rfl H1.out (Zs_length _) rfl ?_)
  intro w2 H2 Hm2 Hs2
  go_wp2
  exact ret_arr arr64 rfl rfl H2.out rfl rfl ⟨rfl, Hb1.out.trans (Hm2.out.below (fun j hj => by have := G1.out; omega) Hb1.out.size)⟩

end Go.Proofs.YtacbpdampdikjaaDoor

namespace Go.Proofs.YtacbpdampdikjaaDoor
open Go.RowKit

set_option maxHeartbeats 800000 in
/-- The closure of Words: a word turned twice, and moved. -/
theorem wturn_any (g j n1 n2 d x : Nat) (l : List Nat) (w : World) (hl : l.length = 64) (hj : l[j]? = some x) (hx : x < 4294967296) (h1 : 1 ≤ n1 ∧ n1 ≤ 31) (h2 : 1 ≤ n2 ∧ n2 ≤ 31) (hd : d ≤ 31) (h : Arr w g 57 .u32 l) :
    Calls Tryd.prog 94 #[.int .i64 (j : Int), .int .i64 (n1 : Int), .int .i64 (n2 : Int), .int .i64 (d : Int), .pointer (some ⟨g, 0, none⟩)] w
      fun e w' => e = .returned (.int .u32 ((rotU n1 x ^^^ rotU n2 x ^^^ x / 2 ^ d : Nat) : Int)) ∧ ∃ k, w' = w.drewN k := by
  have hj64 : j < 64 := by have := (List.getElem?_eq_some_iff.1 hj).1; omega
  have hcell := h.at_ hj
  have r1b : rotU n1 x < 4294967296 := rotU_lt hx
  have r2b : rotU n2 x < 4294967296 := rotU_lt hx
  have hxd : x / 2 ^ d < 4294967296 := Nat.lt_of_le_of_lt (Nat.div_le_self _ _) hx
  have e1 := u32_xor_nat (rotU n1 x) (rotU n2 x) r1b r2b
  have e2 := u32_xor_nat (rotU n1 x ^^^ rotU n2 x) (x / 2 ^ d) (Nat.xor_lt_two_pow (n := 32) r1b r2b) hxd
  rw [show ((x / 2 ^ d : Nat) : Int) = (x : Int) / 2 ^ d by push_cast; rfl] at e2
  have Hl := Lib.hid hl; clear hl hj
  revert e1 e2
  generalize rotU n1 x ^^^ rotU n2 x ^^^ x / 2 ^ d = r
  generalize rotU n1 x ^^^ rotU n2 x = y
  intro e1 e2
  clear r1b r2b hxd
  obtain ⟨h11, h12⟩ := h1
  obtain ⟨h21, h22⟩ := h2
  clear h
  go_enter Tryd.func94, Tryd.ntmps94
  go_wp2
  go_quiet (exact Calls.quiet_of_same (rotl_any x _ _ hx (by omega) (by omega)))
  go_wp2
  go_ret
  exact ⟨rfl, _, rfl⟩

set_option maxHeartbeats 800000 in
/-- The closure of Block: a word turned three times. -/
theorem bturn_any (g j n1 n2 n3 x : Nat) (l : List Nat) (w : World) (hl : l.length = 8) (hj : l[j]? = some x) (hx : x < 4294967296) (h1 : 1 ≤ n1 ∧ n1 ≤ 31) (h2 : 1 ≤ n2 ∧ n2 ≤ 31) (h3 : 1 ≤ n3 ∧ n3 ≤ 31) (h : Arr w g 59 .u32 l) :
    Calls Tryd.prog 81 #[.int .i64 (j : Int), .int .i64 (n1 : Int), .int .i64 (n2 : Int), .int .i64 (n3 : Int), .pointer (some ⟨g, 0, none⟩)] w
      fun e w' => e = .returned (.int .u32 ((rotU n1 x ^^^ rotU n2 x ^^^ rotU n3 x : Nat) : Int)) ∧ w' = w := by
  have hj8 : j < 8 := by have := (List.getElem?_eq_some_iff.1 hj).1; omega
  have hcell := h.at_ hj
  have r1b : rotU n1 x < 4294967296 := rotU_lt hx
  have r2b : rotU n2 x < 4294967296 := rotU_lt hx
  have r3b : rotU n3 x < 4294967296 := rotU_lt hx
  have e1 := u32_xor_nat (rotU n1 x) (rotU n2 x) r1b r2b
  have e2 := u32_xor_nat (rotU n1 x ^^^ rotU n2 x) (rotU n3 x) (Nat.xor_lt_two_pow (n := 32) r1b r2b) r3b
  have hc1 := fun w => rotl_any x n1 w hx h1.1 h1.2
  have hc2 := fun w => rotl_any x n2 w hx h2.1 h2.2
  have hc3 := fun w => rotl_any x n3 w hx h3.1 h3.2
  have Hl := Lib.hid hl; clear hl hj
  revert e1 e2 hc1 hc2 hc3
  generalize rotU n1 x ^^^ rotU n2 x ^^^ rotU n3 x = r
  generalize rotU n1 x ^^^ rotU n2 x = y
  generalize rotU n1 x = r1
  generalize rotU n2 x = r2
  generalize rotU n3 x = r3
  intro e1 e2 hc1 hc2 hc3
  clear r1b r2b r3b
  obtain ⟨h11, h12⟩ := h1
  obtain ⟨h21, h22⟩ := h2
  obtain ⟨h31, h32⟩ := h3
  clear h
  go_enter Tryd.func81, Tryd.ntmps81
  go_wp2_with fail
  refine (hc1 _).mono ?_
  rintro e w1 ⟨rfl, rfl⟩
  go_wp2_with fail
  refine (hc2 _).mono ?_
  rintro e w1 ⟨rfl, rfl⟩
  go_wp2_with fail
  refine (hc3 _).mono ?_
  rintro e w1 ⟨rfl, rfl⟩
  go_wp2
  go_ret
  exact ⟨rfl, rfl⟩

end Go.Proofs.YtacbpdampdikjaaDoor

/-
  The words of a block, one by one: plain mathematics. No program is named here.
-/
namespace Go.Proofs.YtacbpdampdikjaaDoor
open Go.RowKit

theorem words_low {b : List UInt8} {j : Nat} (h : j < 16) : (wordsL b 64).getD j 0 = getL ((b.drop (4 * j)).take 4) := by
  rw [wordsL_get b (show j < 64 by omega)]
  unfold wordU
  rw [if_pos h]
theorem words_high {b : List UInt8} {t : Nat} (h : 16 ≤ t) (h2 : t < 64) : (wordsL b 64).getD t 0 =
    (sig1U ((wordsL b 64).getD (t - 2) 0) + (wordsL b 64).getD (t - 7) 0 + sig0U ((wordsL b 64).getD (t - 15) 0) + (wordsL b 64).getD (t - 16) 0) % 4294967296 := by
  rw [wordsL_get b h2, wordsL_get b (show t - 2 < 64 by omega), wordsL_get b (show t - 7 < 64 by omega), wordsL_get b (show t - 15 < 64 by omega), wordsL_get b (show t - 16 < 64 by omega)]
  conv => lhs; unfold wordU
  rw [if_neg (by omega), wordsL_get b (show t - 2 < t by omega), wordsL_get b (show t - 7 < t by omega), wordsL_get b (show t - 15 < t by omega), wordsL_get b (show t - 16 < t by omega)]
theorem words_len (b : List UInt8) : (wordsL b 64).length = 64 := wordsL_length b 64
theorem getD_lt {l : List Nat} {M : Nat} (h : ∀ x ∈ l, x < M) (hM : 0 < M) (j : Nat) : l.getD j 0 < M := by
  rw [List.getD_eq_getElem?_getD]
  by_cases hj : j < l.length
  · rw [List.getElem?_eq_getElem hj]; exact h _ (List.getElem_mem hj)
  · rw [List.getElem?_eq_none (by omega)]; exact hM
theorem sig0U_lt {x : Nat} (h : x < 4294967296) : sig0U x < 4294967296 :=
  Nat.xor_lt_two_pow (n := 32) (Nat.xor_lt_two_pow (n := 32) (rotU_lt h) (rotU_lt h)) (Nat.lt_of_le_of_lt (Nat.div_le_self _ _) h)
theorem sig1U_lt {x : Nat} (h : x < 4294967296) : sig1U x < 4294967296 :=
  Nat.xor_lt_two_pow (n := 32) (Nat.xor_lt_two_pow (n := 32) (rotU_lt h) (rotU_lt h)) (Nat.lt_of_le_of_lt (Nat.div_le_self _ _) h)

end Go.Proofs.YtacbpdampdikjaaDoor

namespace Go.Proofs.YtacbpdampdikjaaDoor
open Go.RowKit

set_option maxHeartbeats 800000 in
theorem get_any (B n c : Nat) (A : Option Addr) (xs : List UInt8) (w : World) (hx : Rd w B A n (Byt xs)) (hn : n ≤ maxLen) :
    Calls Tryd.prog 93 #[.slice A n c] w (Ans w (getV xs)) := by
  unfold maxLen at hn
  have hxl := hx.bytes
  by_cases h : 1 ≤ n ∧ n ≤ 8
  · have hv : getV xs = .tuple #[.int .u64 (getL xs), .int .i64 0] := by rw [getV, if_pos (by omega)]
    rw [hv]
    obtain ⟨h1, h8⟩ := h
    have Hx := Lib.hid hxl; clear hxl hv
    go_enter Tryd.func93, Tryd.ntmps93
    go_wp2
    go_loop [4, 6, 17] (fun v _ i => ∃ k : Nat, k ≤ n ∧ i = .int .i64 k ∧ v = .int .u64 (getL (xs.take k))) (fun _ _ i => n - (intOf i).toNat)
    case atStart => exact ⟨0, Nat.zero_le _, rfl, rfl⟩
    case round =>
      obtain ⟨k, hk, rfl, rfl⟩ := hrel
      by_cases hlt : k < n
      · have hkx : k < xs.length := by rw [Hx.out]; exact hlt
        obtain ⟨b, o, rfl, hb, hc⟩ := hx.byte hlt hkx
        have hs : getL (xs.take (k + 1)) = getL (xs.take k) * 256 + xs[k].toNat := by rw [take_succ_get _ _ hkx, getL_snoc]
        have Hs := Lib.hid hs; clear hs
        have hbd := getL_take_lt (l := xs) (k := k) (by omega)
        have hby := xs[k].toNat_lt
        go_wp2
        go_roundw
        case rel => exact ⟨k + 1, by omega, by go_num, by rw [Hs.out, or_byte _ _ (by omega) hby]⟩
        case measure => simp [intOf]; omega
      · go_wp2
        go_ret2
        exact ⟨by rw [show xs.take k = xs from List.take_of_length_le (by rw [Hx.out]; omega)]; rfl, Below.refl _ _⟩
  · have hv : getV xs = .tuple #[.int .u64 0, .int .i64 4] := by rw [getV, if_neg (by omega)]
    rw [hv]
    rcases (show n < 1 ∨ 8 < n by omega) with h' | h'
    all_goals
      clear hxl hv
      go_enter Tryd.func93, Tryd.ntmps93
      go_wp2
      go_ret2
      exact ⟨rfl, Below.refl _ _⟩

end Go.Proofs.YtacbpdampdikjaaDoor
