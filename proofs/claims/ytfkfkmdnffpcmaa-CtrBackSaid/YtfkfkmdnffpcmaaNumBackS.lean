import Derived.Test.YtfkfkmdnffpcmaaNumS2
import Derived.Test.YtfkfkmdnffpcmaaPrintS
namespace Go.Proofs.Ytfkfkmdnffpcmaa
open Go.RowKit

theorem getL_putL : ∀ (k m : Nat), getL (putL m k) = m % 256 ^ k
  | 0, m => by simp [getL, putL, Nat.mod_one]
  | k + 1, m => by
    rw [putL, getL_snoc, getL_putL k (m / 256), UInt8.toNat_ofNat', show 256 ^ (k + 1) = 256 * 256 ^ k by rw [Nat.pow_succ, Nat.mul_comm], Nat.mod_mul]
    omega
theorem get_put8 {n : Nat} (h : n < 18446744073709551616) : getV (putL n 8) = .tuple #[.int .u64 n, .int .i64 0] := by
  rw [getV, if_pos (by rw [putL_length]; omega), getL_putL, Nat.mod_eq_of_lt (by omega)]

theorem dec_all : ∀ (f n : Nat), n < f → (Lib.decDigits n).all isDig = true
  | 0, n, h => by omega
  | f + 1, n, h => by
    have hd : ∀ c : Nat, c < 10 → isDig (UInt8.ofNat (48 + c)) = true := fun c hc => by
      apply decide_eq_true
      rw [UInt8.toNat_ofNat']
      omega
    by_cases h10 : n < 10
    · rw [dec_small h10]; simp only [List.all_cons, List.all_nil, Bool.and_true]; exact hd n h10
    · rw [dec_big h10, List.all_append, dec_all f (n / 10) (by omega), dec_small (show n % 10 < 10 by omega)]
      simp only [List.all_cons, List.all_nil, Bool.and_true, Bool.true_and]
      exact hd _ (by omega)
theorem dec_num : ∀ (f n : Nat), n < f → numL (Lib.decDigits n) = n
  | 0, n, h => by omega
  | f + 1, n, h => by
    have hd : ∀ c : Nat, c < 10 → (UInt8.ofNat (48 + c)).toNat - 48 = c := fun c hc => by rw [UInt8.toNat_ofNat']; omega
    by_cases h10 : n < 10
    · rw [dec_small h10]
      have := hd n h10
      simp only [numL, List.foldl_cons, List.foldl_nil]
      omega
    · rw [dec_big h10, dec_small (show n % 10 < 10 by omega), numL_snoc, dec_num f (n / 10) (by omega), hd _ (by omega)]
      omega
theorem dec_head : ∀ (f n : Nat), n < f → 0 < n → (Lib.decDigits n).head? ≠ some 48
  | 0, n, h, _ => by omega
  | f + 1, n, h, h0 => by
    by_cases h10 : n < 10
    · rw [dec_small h10]
      intro e
      simp only [List.head?_cons, Option.some.injEq] at e
      have := congrArg UInt8.toNat e
      rw [UInt8.toNat_ofNat'] at this
      simp at this
      omega
    · rw [dec_big h10]
      have hne : Lib.decDigits (n / 10) ≠ [] := fun e => by
        have h1 := dec_num (n / 10 + 1) (n / 10) (by omega)
        rw [e] at h1
        simp [numL] at h1
        omega
      have hh := dec_head f (n / 10) (by omega) (by omega)
      obtain ⟨x, t, e⟩ := List.exists_cons_of_ne_nil hne
      rw [e] at hh ⊢
      exact hh
theorem dec_pos (n : Nat) : 1 ≤ (Lib.decDigits n).length := by
  by_cases h10 : n < 10
  · rw [dec_small h10]; simp
  · rw [dec_big h10, List.length_append, dec_small (show n % 10 < 10 by omega)]; simp
theorem parse_print {n : Nat} (h : n < 1000000000000000000) : parseV (Lib.decDigits n) n = .tuple #[.int .i64 n, .int .i64 0] := by
  have hl := dec_len_lt 17 n (by omega)
  have hp := dec_pos n
  have hbad : parseBad (Lib.decDigits n) = false := by
    unfold parseBad
    rw [decide_eq_false (show ¬ (Lib.decDigits n).length < 1 by omega), decide_eq_false (show ¬ 18 < (Lib.decDigits n).length by omega)]
    by_cases h10 : n < 10
    · rw [dec_small h10]; rfl
    · rw [decide_eq_false (dec_head (n + 1) n (by omega) (by omega)), Bool.and_false]; rfl
  have hn := dec_num (n + 1) n (by omega)
  rw [parse_ok (n : Int) hbad (dec_all (n + 1) n (by omega)) (by rw [hn]; omega), hn]

theorem parse_printL {z : Int} (h0 : 0 ≤ z) (h1 : z < 288230376151711744) : parseV (printL z) z = .tuple #[.int .i64 z, .int .i64 0] := by
  obtain ⟨k, rfl⟩ := Int.eq_ofNat_of_zero_le h0
  rw [printL, if_neg (by omega), Int.toNat_natCast]
  exact parse_print (by omega)

theorem xor_back {a b : List UInt8} (h : a.length ≤ b.length) : xorL (xorL a b) b = a := by
  induction a generalizing b with
  | nil => cases b <;> rfl
  | cons x a ih =>
    cases b with
    | nil => simp at h
    | cons y b =>
      simp only [List.length_cons, Nat.add_le_add_iff_right] at h
      show (x ^^^ y ^^^ y) :: xorL (xorL a b) b = x :: a
      rw [ih h, UInt8.xor_assoc, UInt8.xor_self, UInt8.xor_zero]

end Go.Proofs.Ytfkfkmdnffpcmaa
