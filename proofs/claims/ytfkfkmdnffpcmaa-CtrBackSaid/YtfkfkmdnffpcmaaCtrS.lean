/-
  Counter mode: plain mathematics. No program is named here.
-/
import Derived.Test.YtfkfkmdnffpcmaaAesS
import Derived.Test.YtfkfkmdnffpcmaaNumBackS
namespace Go.Proofs.Ytfkfkmdnffpcmaa
open Go.RowKit

/-- What is carried, behind k places from the last one on. -/
def cN (c : List UInt8) (n : Nat) : Nat → Nat
  | 0 => n
  | k + 1 => (cN c n k + (c.getD (15 - k) 0).toNat) / 256
/-- The bytes, behind k places. -/
def cD (c : List UInt8) (n : Nat) : Nat → List UInt8
  | 0 => c
  | k + 1 => (cD c n k).set (15 - k) (UInt8.ofNat (cN c n k + (c.getD (15 - k) 0).toNat))
/-- The number that is n more. -/
def cplusU (c : List UInt8) (n : Nat) : List UInt8 := cD c n 16

theorem cD_length (c : List UInt8) (n : Nat) : ∀ k, (cD c n k).length = c.length
  | 0 => rfl
  | k + 1 => by rw [cD, List.length_set, cD_length c n k]
theorem cplus_length {c : List UInt8} {n : Nat} (h : c.length = 16) : (cplusU c n).length = 16 := by rw [cplusU, cD_length, h]
/-- What lies ahead is as it was. -/
theorem cD_ahead (c : List UInt8) (n : Nat) : ∀ {k j : Nat}, k ≤ 16 → j + k < 16 → (cD c n k)[j]? = c[j]?
  | 0, _, _, _ => rfl
  | k + 1, j, hk, h => by
    rw [cD, List.getElem?_set_ne (by omega), cD_ahead c n (by omega) (by omega)]
theorem cD_at {c : List UInt8} (h : c.length = 16) (n : Nat) {k : Nat} (hk : k < 16) : ∃ b : UInt8, c[15 - k]? = some b ∧ (cD c n k)[15 - k]? = some b ∧ cN c n (k + 1) = (cN c n k + b.toNat) / 256 ∧ cD c n (k + 1) = (cD c n k).set (15 - k) (UInt8.ofNat (cN c n k + b.toNat)) := by
  have hj : 15 - k < c.length := by omega
  have hg : c[15 - k]? = some c[15 - k] := List.getElem?_eq_getElem hj
  have hd : c.getD (15 - k) 0 = c[15 - k] := by rw [List.getD_eq_getElem?_getD, hg, Option.getD_some]
  exact ⟨c[15 - k], hg, by rw [cD_ahead c n (by omega) (by omega), hg], by rw [cN, hd], by rw [cD, hd]⟩
theorem cN_bound (c : List UInt8) {n : Nat} (hn : n ≤ 65535) : ∀ k, cN c n k ≤ 65535
  | 0 => hn
  | k + 1 => by
    have h1 := cN_bound c hn k
    have h2 := (c.getD (15 - k) 0).toNat_lt
    rw [cN]
    omega
/-- Nothing is carried any more: it stays as it is. -/
theorem cD_none {c : List UInt8} (h : c.length = 16) {n : Nat} : ∀ (d : Nat) {k : Nat}, k + d = 16 → cN c n k = 0 → cD c n k = cplusU c n
  | 0, k, hk, _ => by rw [show k = 16 by omega]; rfl
  | d + 1, k, hk, hz => by
    obtain ⟨b, h1, h2, h3, h4⟩ := cD_at h n (k := k) (by omega)
    have hb := b.toNat_lt
    have e : cD c n (k + 1) = cD c n k := by
      rw [h4, hz, Nat.zero_add, UInt8.ofNat_toNat]
      obtain ⟨h5, h6⟩ := List.getElem?_eq_some_iff.1 h2
      rw [← h6]
      exact List.set_getElem_self h5
    rw [← e]
    exact cD_none h d (by omega) (by rw [h3, hz]; omega)
theorem cD_end {c : List UInt8} (h : c.length = 16) {n k : Nat} (hk : k ≤ 16) (hz : cN c n k = 0) : cD c n k = cplusU c n := cD_none h (16 - k) (by omega) hz

/-- A block of the stream. -/
def cblkU (k s : List UInt8) (i : Nat) : List UInt8 := aencU k (cplusU s i)
/-- The first m blocks. -/
def cblksU (k s : List UInt8) : Nat → List UInt8
  | 0 => []
  | m + 1 => cblksU k s m ++ cblkU k s m
/-- The stream's first bytes. -/
def cstreamU (k s : List UInt8) (n : Nat) : List UInt8 := (cblksU k s n).take n
def coverU (k s t : List UInt8) : List UInt8 := xorL t (cstreamU k s t.length)

section
variable {k s : List UInt8}
theorem cblk_length (hk : k.length = 240) (i : Nat) : (cblkU k s i).length = 16 := aenc_length hk
theorem cblks_length (hk : k.length = 240) : ∀ m, (cblksU k s m).length = 16 * m
  | 0 => rfl
  | m + 1 => by rw [cblksU, List.length_append, cblks_length hk m, cblk_length hk]; omega
theorem cblks_get (hk : k.length = 240) {m j : Nat} : ∀ d, j < 16 * m → (cblksU k s (m + d))[j]? = (cblksU k s m)[j]?
  | 0, _ => rfl
  | d + 1, h => by
    show (cblksU k s (m + d) ++ cblkU k s (m + d))[j]? = _
    rw [List.getElem?_append_left (by rw [cblks_length hk]; omega), cblks_get hk d h]
/-- So many blocks as there are bytes at least: it is all the same. -/
theorem cblks_take (hk : k.length = 240) {m n : Nat} (h : n ≤ 16 * m) : (cblksU k s m).take n = cstreamU k s n := by
  apply List.ext_getElem?
  intro j
  unfold cstreamU
  rw [List.getElem?_take, List.getElem?_take]
  split
  · next hj =>
    rcases Nat.le_total m n with h1 | h1
    · have := cblks_get (s := s) hk (m := m) (j := j) (n - m) (by omega)
      rw [← this, show m + (n - m) = n by omega]
    · have := cblks_get (s := s) hk (m := n) (j := j) (m - n) (by omega)
      rw [← this, show n + (m - n) = m by omega]
  · rfl
theorem cstream_length (hk : k.length = 240) (n : Nat) : (cstreamU k s n).length = n := by
  rw [cstreamU, List.length_take, cblks_length hk]; omega
/-- Less is the first of more. -/
theorem cstream_first (hk : k.length = 240) {m n : Nat} (h : m ≤ n) : (cstreamU k s n).take m = cstreamU k s m := by
  rw [cstreamU, List.take_take, Nat.min_eq_left h, cblks_take hk (by omega)]
/-- Where the block at place i lies. -/
theorem cstream_get (hk : k.length = 240) {n i j : Nat} {x : UInt8} (hx : (cblkU k s i)[j]? = some x) (hn : 16 * i + j < n) : (cstreamU k s n)[16 * i + j]? = some x := by
  have hj : j < 16 := by
    obtain ⟨h, _⟩ := List.getElem?_eq_some_iff.1 hx
    rwa [cblk_length hk] at h
  rw [cstreamU, List.getElem?_take_of_lt hn]
  have e := cblks_get (s := s) hk (m := i + 1) (j := 16 * i + j) (n - (i + 1)) (by omega)
  rcases Nat.lt_or_ge i n with h1 | h1
  · rw [show n = i + 1 + (n - (i + 1)) by omega, e]
    show (cblksU k s i ++ cblkU k s i)[16 * i + j]? = some x
    rw [List.getElem?_append_right (by rw [cblks_length hk]; omega), cblks_length hk, show 16 * i + j - 16 * i = j by omega, hx]
  · omega
theorem cstream_abn (hk : k.length = 240) (n i j x : Nat) (hx : (abn (cblkU k s i))[j]? = some x) (hn : 16 * i + j < n) : (abn (cstreamU k s n))[16 * i + j]? = some x := by
  unfold abn at hx
  rw [List.getElem?_map] at hx
  cases hq : (cblkU k s i)[j]? with
  | none => rw [hq] at hx; cases hx
  | some y =>
    rw [hq] at hx
    injection hx with hx
    rw [← hx]
    exact abn_get (cstream_get hk hq hn)
theorem cblk_abn (hk : k.length = 240) (i : Nat) : (abn (cblkU k s i)).length = 16 := by rw [abn_length, cblk_length hk]
theorem cover_length (hk : k.length = 240) (t : List UInt8) : (coverU k s t).length = t.length := by
  rw [coverU, xorL_length, cstream_length hk]; omega
/-- Twice it is as it was. -/
theorem cover_twice (hk : k.length = 240) (t : List UInt8) : coverU k s (coverU k s t) = t := by
  have h := cover_length (s := s) hk t
  unfold coverU at h ⊢
  rw [h]
  exact xor_back (by rw [cstream_length hk]; omega)
theorem xorL_take (a b : List UInt8) (n : Nat) : (xorL a b).take n = xorL (a.take n) (b.take n) := by
  unfold xorL
  rw [List.take_zipWith]
theorem cover_first (hk : k.length = 240) (t : List UInt8) {n : Nat} (h : n ≤ t.length) : coverU k s (t.take n) = (coverU k s t).take n := by
  unfold coverU
  rw [xorL_take, cstream_first hk h]
  congr 2
  rw [List.length_take]
  omega
end

/-- 0 .. 0, 255 and 1. -/
theorem cplus_alive : cplusU (List.replicate 15 0 ++ [255]) 1 = List.replicate 14 0 ++ [1, 0] := by decide +kernel

end Go.Proofs.Ytfkfkmdnffpcmaa
