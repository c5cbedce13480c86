/-
  Roots of prime numbers in whole numbers, by digits of 32 bits: plain mathematics. No program is named here.
-/
import Derived.Test.YtpnifmghbfajiaaDoorNumS
namespace Go.Proofs.YtpnifmghbfajiaaDoor
open Go.RowKit

/-- Is nothing from d on, of so many, a divisor of n? -/
def noneU (n : Nat) : Nat → Nat → Bool
  | 0, _ => true
  | k + 1, d => n % d != 0 && noneU n k (d + 1)
def isPrimeU (n : Nat) : Bool := noneU n (n - 2) 2
/-- The prime numbers from n on, of so many numbers. -/
def primesU : Nat → Nat → List Nat
  | 0, _ => []
  | k + 1, n => if isPrimeU n then n :: primesU k (n + 1) else primesU k (n + 1)
/-- The prime number at a place; 0 where there is none below 400. -/
def primeU (t : Nat) : Nat := (primesU 398 2).getD t 0
theorem noneU_snoc (n k d : Nat) : noneU n (k + 1) d = (noneU n k d && n % (d + k) != 0) := by
  induction k generalizing d with
  | zero => simp [noneU]
  | succ k ih =>
    rw [noneU, ih, noneU, show d + 1 + k = d + (k + 1) by omega, Bool.and_assoc]
theorem primesU_mem (k : Nat) : ∀ n p, p ∈ primesU k n → n ≤ p ∧ p < n + k := by
  induction k with
  | zero => intro n p h; cases h
  | succ k ih =>
    intro n p h
    unfold primesU at h
    split at h
    · rcases List.mem_cons.1 h with rfl | h
      · omega
      · have := ih _ _ h; omega
    · have := ih _ _ h; omega
theorem primeU_lt (t : Nat) : primeU t < 400 := by
  unfold primeU
  rw [List.getD_eq_getElem?_getD]
  by_cases h : t < (primesU 398 2).length
  · rw [List.getElem?_eq_getElem h]
    have := primesU_mem _ _ _ (List.getElem_mem h)
    simp only [Option.getD_some]
    omega
  · rw [List.getElem?_eq_none (by omega)]
    decide

/-- A number of its digits, the lowest first. -/
def valW : List Nat → Nat
  | [] => 0
  | d :: l => d + 4294967296 * valW l
/-- All digits times low, and c ahead. -/
def lowW (low : Nat) : Nat → List Nat → List Nat
  | _, [] => []
  | c, a :: l => (a * low + c) % 4294967296 :: lowW low ((a * low + c) / 4294967296) l
/-- All digits times high, moved by 16 bits, and what is there. -/
def highW (high : Nat) : Nat → Nat → List Nat → List Nat → List Nat
  | c, s, a :: l, o :: m => ((a * high + c) % 4294967296 * 65536 + s + o) % 4294967296 :: highW high ((a * high + c) / 4294967296) (((a * high + c) % 4294967296 * 65536 + s + o) / 4294967296) l m
  | _, _, _, _ => []
def timesW (a : List Nat) (n : Nat) : List Nat := highW (n / 65536) 0 0 a (lowW (n % 65536) 0 a)
theorem lowW_length (low : Nat) (l : List Nat) : ∀ c, (lowW low c l).length = l.length := by
  induction l with
  | nil => intro c; rfl
  | cons a l ih => intro c; simp [lowW, ih]
theorem highW_length (high : Nat) (l : List Nat) : ∀ c s m, m.length = l.length → (highW high c s l m).length = l.length := by
  induction l with
  | nil => intro c s m _; simp [highW]
  | cons a l ih =>
    intro c s m h
    cases m with
    | nil => simp at h
    | cons o m => simp [highW, ih _ _ m (by simpa using h)]
theorem timesW_length (a : List Nat) (n : Nat) : (timesW a n).length = a.length := highW_length _ _ _ _ _ (lowW_length _ _ _)
theorem lowW_digit (low : Nat) (l : List Nat) : ∀ c, ∀ d ∈ lowW low c l, d < 4294967296 := by
  induction l with
  | nil => intro c d h; cases h
  | cons a l ih =>
    intro c d h
    rcases List.mem_cons.1 h with rfl | h
    · omega
    · exact ih _ _ h
theorem highW_digit (high : Nat) (l : List Nat) : ∀ c s m, ∀ d ∈ highW high c s l m, d < 4294967296 := by
  induction l with
  | nil => intro c s m d h; simp [highW] at h
  | cons a l ih =>
    intro c s m d h
    cases m with
    | nil => simp [highW] at h
    | cons o m =>
      rcases List.mem_cons.1 h with rfl | h
      · omega
      · exact ih _ _ _ _ h
theorem timesW_digit (a : List Nat) (n : Nat) : ∀ d ∈ timesW a n, d < 4294967296 := highW_digit _ _ _ _ _
theorem step_mod (x M y : Nat) : x % 4294967296 + 4294967296 * ((y + x / 4294967296) % M) = (x + 4294967296 * y) % (4294967296 * M) := by
  rw [Nat.mod_mul, show (x + 4294967296 * y) % 4294967296 = x % 4294967296 by omega, show (x + 4294967296 * y) / 4294967296 = y + x / 4294967296 by omega]
theorem lowW_val (low : Nat) (l : List Nat) : ∀ c, valW (lowW low c l) = (valW l * low + c) % 4294967296 ^ l.length := by
  induction l with
  | nil => intro c; simp [lowW, valW, Nat.mod_one]
  | cons a l ih =>
    intro c
    rw [lowW, valW, ih, step_mod, List.length_cons, Nat.pow_succ, Nat.mul_comm (4294967296 ^ _), valW]
    congr 1
    rw [Nat.add_mul, Nat.mul_assoc]
    omega
theorem high_step (v c s o u q M : Nat) : ((v + c) % 4294967296 * 65536 + s + o) % 4294967296 + 4294967296 * ((u * 65536 + (v + c) / 4294967296 * 65536 + ((v + c) % 4294967296 * 65536 + s + o) / 4294967296 + q) % M) =
    (v * 65536 + 4294967296 * (u * 65536) + c * 65536 + s + (o + 4294967296 * q)) % (4294967296 * M) := by
  obtain ⟨x, hx⟩ : ∃ x, v + c = x := ⟨_, rfl⟩
  have h := step_mod (x % 4294967296 * 65536 + s + o) M (u * 65536 + x / 4294967296 * 65536 + q)
  rw [hx]
  rw [show u * 65536 + x / 4294967296 * 65536 + (x % 4294967296 * 65536 + s + o) / 4294967296 + q = u * 65536 + x / 4294967296 * 65536 + q + (x % 4294967296 * 65536 + s + o) / 4294967296 by omega]
  refine h.trans (congrArg (· % _) ?_)
  omega
theorem highW_val (high : Nat) (l : List Nat) : ∀ c s m, m.length = l.length → valW (highW high c s l m) = (valW l * high * 65536 + c * 65536 + s + valW m) % 4294967296 ^ l.length := by
  induction l with
  | nil =>
    intro c s m h
    simp [highW, valW, Nat.mod_one]
  | cons a l ih =>
    intro c s m h
    cases m with
    | nil => simp at h
    | cons o m =>
      rw [highW, valW, ih _ _ _ (by simpa using h)]
      have e : valW (a :: l) * high = a * high + 4294967296 * (valW l * high) := by rw [valW, Nat.add_mul, Nat.mul_assoc]
      rw [e]
      rewrite [high_step (a * high) c s o (valW l * high) (valW m), List.length_cons, Nat.pow_succ, Nat.mul_comm (4294967296 ^ _), valW]
      exact congrArg (· % _) (by omega)
theorem timesW_val (a : List Nat) (n : Nat) : valW (timesW a n) = valW a * n % 4294967296 ^ a.length := by
  rw [timesW, highW_val _ _ _ _ _ (lowW_length _ _ _), lowW_val]
  simp only [Nat.zero_mul, Nat.add_zero]
  rw [Nat.add_mod_mod]
  congr 1
  rw [Nat.mul_assoc, ← Nat.mul_add]
  congr 1
  omega
/-- The greatest digit that differs decides. -/
theorem valW_lt (l : List Nat) (h : ∀ d ∈ l, d < 4294967296) : valW l < 4294967296 ^ l.length := by
  induction l with
  | nil => simp [valW]
  | cons a l ih =>
    have h1 := ih fun d hd => h d (List.mem_cons_of_mem _ hd)
    have h2 := h a (List.mem_cons_self ..)
    rw [valW, List.length_cons, Nat.pow_succ]
    generalize 4294967296 ^ l.length = M at h1 ⊢
    omega
theorem valW_append (a b : List Nat) : valW (a ++ b) = valW a + 4294967296 ^ a.length * valW b := by
  induction a with
  | nil => simp [valW]
  | cons x a ih =>
    rw [List.cons_append, valW, ih, valW, List.length_cons, Nat.pow_succ, Nat.mul_add, ← Nat.mul_assoc, Nat.mul_comm 4294967296 (4294967296 ^ _), Nat.add_assoc]
theorem valW_above {a b : List Nat} {i : Nat} (ha : ∀ d ∈ a, d < 4294967296) (hia : i < a.length) (hib : i < b.length) (hd : a.drop (i + 1) = b.drop (i + 1)) (hlt : a[i] < b[i]) : valW a < valW b := by
  have e1 : valW a = valW (a.take i) + 4294967296 ^ i * (a[i] + 4294967296 * valW (a.drop (i + 1))) := by
    conv => lhs; rw [← List.take_append_drop i a, valW_append, List.length_take, Nat.min_eq_left (by omega), List.drop_eq_getElem_cons hia, valW]
  have e2 : valW b = valW (b.take i) + 4294967296 ^ i * (b[i] + 4294967296 * valW (b.drop (i + 1))) := by
    conv => lhs; rw [← List.take_append_drop i b, valW_append, List.length_take, Nat.min_eq_left (by omega), List.drop_eq_getElem_cons hib, valW]
  have h1 := valW_lt (a.take i) fun d hd => ha d (List.mem_of_mem_take hd)
  rw [List.length_take, Nat.min_eq_left (by omega)] at h1
  rw [e1, e2, hd]
  generalize 4294967296 * valW (b.drop (i + 1)) = R
  have h2 : 4294967296 ^ i * (a[i] + R) + 4294967296 ^ i ≤ 4294967296 ^ i * (b[i] + R) := by
    rw [← Nat.mul_succ]
    exact Nat.mul_le_mul_left _ (by omega)
  omega
/-- Is one above the other? The highest digits first. -/
def aboveW (a b : List Nat) : Bool := decide (valW b < valW a)

/-- One bit of the root is tried. -/
def tryU (n power r bit : Nat) : Nat := if (r + bit) ^ power ≤ n * 4294967296 ^ power then r + bit else r
/-- The bits below the k-th. -/
def rootU (n power : Nat) : Nat → Nat → Nat
  | 0, r => r
  | k + 1, r => rootU n power k (tryU n power r (2 ^ k))
/-- The lowest 32 bits of the root. -/
def rootsU (n power : Nat) : Nat := rootU n power 36 0 % 4294967296
def kU (t : Int) : Nat := if 0 ≤ t ∧ t ≤ 63 then rootsU (primeU t.toNat) 3 else 0
/-- The numbers of all rounds, and those that it begins with. -/
def ksU : List Nat := [1116352408, 1899447441, 3049323471, 3921009573, 961987163, 1508970993, 2453635748, 2870763221, 3624381080, 310598401, 607225278, 1426881987, 1925078388, 2162078206, 2614888103, 3248222580, 3835390401, 4022224774, 264347078, 604807628, 770255983, 1249150122, 1555081692, 1996064986, 2554220882, 2821834349, 2952996808, 3210313671, 3336571891, 3584528711, 113926993, 338241895, 666307205, 773529912, 1294757372, 1396182291, 1695183700, 1986661051, 2177026350, 2456956037, 2730485921, 2820302411, 3259730800, 3345764771, 3516065817, 3600352804, 4094571909, 275423344, 430227734, 506948616, 659060556, 883997877, 958139571, 1322822218, 1537002063, 1747873779, 1955562222, 2024104815, 2227730452, 2361852424, 2428436474, 2756734187, 3204031479, 3329325298]
def hsU : List Nat := [1779033703, 3144134277, 1013904242, 2773480762, 1359893119, 2600822924, 528734635, 1541459225]
theorem ks_roots : (List.range 64).map (fun t => rootsU (primeU t) 3) = ksU := by decide +kernel
theorem hs_roots : (List.range 8).map (fun t => rootsU (primeU t) 2) = hsU := by decide +kernel
theorem ks_lt : ∀ k ∈ ksU, k < 4294967296 := by decide +kernel
theorem hs_lt : ∀ k ∈ hsU, k < 4294967296 := by decide +kernel
theorem ks_at {t : Nat} (h : t < 64) : rootsU (primeU t) 3 = ksU[t]'h := by
  have e : ksU[t]? = some (rootsU (primeU t) 3) := by rw [← ks_roots, List.getElem?_map, List.getElem?_range h]; rfl
  exact ((List.getElem?_eq_some_iff.1 e).2).symm
theorem hs_at {t : Nat} (h : t < 8) : rootsU (primeU t) 2 = hsU[t]'h := by
  have e : hsU[t]? = some (rootsU (primeU t) 2) := by rw [← hs_roots, List.getElem?_map, List.getElem?_range h]; rfl
  exact ((List.getElem?_eq_some_iff.1 e).2).symm
theorem kU_in {t : Nat} (h : t < 64) : kU (t : Int) = ksU[t]'h := by unfold kU; rw [if_pos (by omega), Int.toNat_natCast, ks_at h]
theorem kU_out {t : Int} (h : t < 0 ∨ 63 < t) : kU t = 0 := by unfold kU; rw [if_neg (by omega)]

/-- A bit tried leaves the root below what the bits can be. -/
theorem tryU_le {n power r k M : Nat} (h : r + 2 ^ (k + 1) ≤ M) : tryU n power r (2 ^ k) + 2 ^ k ≤ M := by
  rw [Nat.pow_succ] at h
  unfold tryU
  split <;> omega
/-- Powers: what 'times' makes of them. -/
def powW (x : Nat) : Nat → List Nat
  | 0 => [1, 0, 0, 0, 0]
  | i + 1 => timesW (powW x i) x
theorem powW_length (x i : Nat) : (powW x i).length = 5 := by
  induction i with
  | zero => rfl
  | succ i ih => rw [powW, timesW_length, ih]
theorem powW_digit (x i : Nat) : ∀ d ∈ powW x i, d < 4294967296 := by
  cases i with
  | zero => show ∀ d ∈ [1, 0, 0, 0, 0], d < 4294967296; decide
  | succ i => exact timesW_digit _ _
theorem pow_le3 {x i : Nat} (hx : x < 68719476736) (hi : i ≤ 3) : x ^ i < 4294967296 ^ 5 := by
  have h1 : x ^ i ≤ 68719476736 ^ i := Nat.pow_le_pow_left (by omega) i
  have h2 : 68719476736 ^ i ≤ 68719476736 ^ 3 := Nat.pow_le_pow_right (by decide) hi
  exact Nat.lt_of_le_of_lt (Nat.le_trans h1 h2) (by decide)
theorem powW_val {x : Nat} (hx : x < 68719476736) (i : Nat) (hi : i ≤ 3) : valW (powW x i) = x ^ i := by
  induction i with
  | zero => rw [Nat.pow_zero]; rfl
  | succ i ih =>
    rw [powW, timesW_val, powW_length, ih (by omega), ← Nat.pow_succ]
    exact Nat.mod_eq_of_lt (pow_le3 hx hi)
def limitW (n power : Nat) : List Nat := if power = 2 then [0, 0, n, 0, 0] else [0, 0, 0, n, 0]
theorem limitW_val {n power : Nat} (h : power = 2 ∨ power = 3) : valW (limitW n power) = n * 4294967296 ^ power := by
  rcases h with rfl | rfl
  · rw [limitW, if_pos rfl]; simp only [valW]; omega
  · rw [limitW, if_neg (by decide)]; simp only [valW]; omega
theorem aboveW_pow {x n power : Nat} (hx : x < 68719476736) (h : power = 2 ∨ power = 3) : aboveW (powW x power) (limitW n power) = decide (n * 4294967296 ^ power < x ^ power) := by
  unfold aboveW
  rw [powW_val hx power (by omega), limitW_val h]
theorem tryU_above {r bit n power : Nat} (hx : r + bit < 68719476736) (h : power = 2 ∨ power = 3) : tryU n power r bit = if aboveW (powW (r + bit) power) (limitW n power) then r else r + bit := by
  rw [aboveW_pow hx h]
  unfold tryU
  by_cases h1 : (r + bit) ^ power ≤ n * 4294967296 ^ power
  · rw [if_pos h1, decide_eq_false (by omega)]; rfl
  · rw [if_neg h1, decide_eq_true (by omega)]; rfl

/-- The prime numbers from n on. -/
def primeFrom (n t : Nat) : Nat := (primesU (400 - n) n).getD t 0
theorem primeU_from (t : Nat) : primeU t = primeFrom 2 t := rfl
theorem primeFrom_end (t : Nat) : primeFrom 400 t = 0 := rfl
theorem primeFrom_yes0 {n : Nat} (h : n < 400) (hp : isPrimeU n = true) : primeFrom n 0 = n := by
  unfold primeFrom
  obtain ⟨k, hk⟩ : ∃ k, 400 - n = k + 1 := ⟨399 - n, by omega⟩
  rw [hk, primesU, if_pos hp]; rfl
theorem primeFrom_yes {n : Nat} (t : Nat) (h : n < 400) (hp : isPrimeU n = true) : primeFrom n (t + 1) = primeFrom (n + 1) t := by
  unfold primeFrom
  obtain ⟨k, hk⟩ : ∃ k, 400 - n = k + 1 := ⟨399 - n, by omega⟩
  rw [hk, primesU, if_pos hp, show 400 - (n + 1) = k by omega]; rfl
theorem primeFrom_no {n : Nat} (t : Nat) (h : n < 400) (hp : isPrimeU n = false) : primeFrom n t = primeFrom (n + 1) t := by
  unfold primeFrom
  obtain ⟨k, hk⟩ : ∃ k, 400 - n = k + 1 := ⟨399 - n, by omega⟩
  rw [hk, primesU, if_neg (by rw [hp]; decide), show 400 - (n + 1) = k by omega]
/-- The rounds of 'times'. -/
theorem low_step (low c : Nat) {a : List Nat} {i : Nat} (h : i < a.length) : lowW low c (a.drop i) = (a[i] * low + c) % 4294967296 :: lowW low ((a[i] * low + c) / 4294967296) (a.drop (i + 1)) := by
  rw [List.drop_eq_getElem_cons h]; rfl
theorem high_next (high c s : Nat) {a m : List Nat} {i : Nat} (h : i < a.length) (hm : i < m.length) : highW high c s (a.drop i) (m.drop i) =
    ((a[i] * high + c) % 4294967296 * 65536 + s + m[i]) % 4294967296 :: highW high ((a[i] * high + c) / 4294967296) (((a[i] * high + c) % 4294967296 * 65536 + s + m[i]) / 4294967296) (a.drop (i + 1)) (m.drop (i + 1)) := by
  rw [List.drop_eq_getElem_cons h, List.drop_eq_getElem_cons hm]; rfl
theorem carry_le {a low c : Nat} (ha : a < 4294967296) (hc : c ≤ low) : (a * low + c) / 4294967296 ≤ low := by
  have h : a * low ≤ 4294967295 * low := Nat.mul_le_mul_right _ (by omega)
  omega
theorem product_lt {a low c M : Nat} (ha : a < 4294967296) (hc : c ≤ low) (hl : low < M) : a * low + c < 4294967296 * M := by
  have h : a * low ≤ 4294967295 * low := Nat.mul_le_mul_right _ (by omega)
  omega
theorem shift_le {x s o : Nat} (hs : s ≤ 65536) (ho : o < 4294967296) : (x % 4294967296 * 65536 + s + o) / 4294967296 ≤ 65536 := by omega

end Go.Proofs.YtpnifmghbfajiaaDoor
