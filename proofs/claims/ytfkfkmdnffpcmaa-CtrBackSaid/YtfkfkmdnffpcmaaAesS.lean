/-
  AES with keys of 256 bits: plain mathematics. No program is named here.
-/
import Derived.Test.YtfkfkmdnffpcmaaGfPow
namespace Go.Proofs.Ytfkfkmdnffpcmaa
open Go.RowKit

theorem amap_inj {α β : Type} {f : α → β} (hf : ∀ x y, f x = f y → x = y) : ∀ (a b : List α), a.map f = b.map f → a = b
  | [], [], _ => rfl
  | [], _ :: _, h => by simp at h
  | _ :: _, [], h => by simp at h
  | x :: a, y :: b, h => by
    simp only [List.map_cons, List.cons.injEq] at h
    rw [hf x y h.1, amap_inj hf a b h.2]
/-- Bytes as numbers. -/
def abn (l : List UInt8) : List Nat := l.map (·.toNat)
theorem abn_length (l : List UInt8) : (abn l).length = l.length := by simp [abn]
theorem abn_get {l : List UInt8} {k : Nat} {x : UInt8} (h : l[k]? = some x) : (abn l)[k]? = some x.toNat := by simp [abn, h]
theorem abn_append (a b : List UInt8) : abn (a ++ b) = abn a ++ abn b := by simp [abn]
theorem abn_inj {a b : List UInt8} (h : abn a = abn b) : a = b := by
  exact amap_inj (fun x y hxy => UInt8.toNat_inj.1 hxy) a b h

section
/-- The steps; the box is handed in. -/
def asubB (f : UInt8 → UInt8) (s : List UInt8) : List UInt8 := s.map f
def ashiftU (s : List UInt8) : List UInt8 := (List.range 16).map fun i => s.getD (4 * ((i / 4 + i % 4) % 4) + i % 4) 0
def amixU : List UInt8 → List UInt8
  | a :: b :: c :: d :: t => gmixU a b c d :: gmixU b c d a :: gmixU c d a b :: gmixU d a b c :: amixU t
  | _ => []
def aaddU (s k : List UInt8) : List UInt8 := List.zipWith (· ^^^ ·) s k

/-- The word ahead, as it is taken up into the one at place i. -/
def achgB (f : UInt8 → UInt8) (i : Nat) : List UInt8 → List UInt8
  | [a, b, c, d] => if i % 8 = 0 then [f b ^^^ gpowerU 2 ((i / 8 : Nat) - 1 : Int), f c, f d, f a] else if i % 4 = 0 then [f a, f b, f c, f d] else [a, b, c, d]
  | _ => []
/-- The word at place i, of those ahead. -/
def anextB (f : UInt8 → UInt8) (L : List UInt8) (i : Nat) : List UInt8 := List.zipWith (· ^^^ ·) ((L.drop (4 * (i - 8))).take 4) (achgB f i ((L.drop (4 * (i - 1))).take 4))
/-- The words, n behind the key's eight. -/
def aschB (f : UInt8 → UInt8) (key : List UInt8) : Nat → List UInt8
  | 0 => key
  | n + 1 => aschB f key n ++ anextB f (aschB f key n) (n + 8)
def akeysB (f : UInt8 → UInt8) (key : List UInt8) : List UInt8 := aschB f key 52

def akeyAt (k : List UInt8) (i : Nat) : List UInt8 := (k.drop (16 * i)).take 16
def aroundsB (f : UInt8 → UInt8) (k s : List UInt8) : Nat → List UInt8
  | 0 => aaddU s (akeyAt k 0)
  | i + 1 => aaddU (amixU (ashiftU (asubB f (aroundsB f k s i)))) (akeyAt k (i + 1))
def aencB (f : UInt8 → UInt8) (k s : List UInt8) : List UInt8 := aaddU (ashiftU (asubB f (aroundsB f k s 13))) (akeyAt k 14)
end
/-- The box. -/
def asubU := asubB gboxU
def akeysU := akeysB gboxU
def aencU := aencB gboxU

theorem asubB_length (f : UInt8 → UInt8) (s : List UInt8) : (asubB f s).length = s.length := by simp [asubB]
theorem ashift_length (s : List UInt8) : (ashiftU s).length = 16 := by simp [ashiftU]
theorem aadd_length {s k : List UInt8} {n : Nat} (h1 : s.length = n) (h2 : k.length = n) : (aaddU s k).length = n := by simp [aaddU, h1, h2]

/-- Sixteen, one by one. -/
theorem sixteen {s : List UInt8} (h : s.length = 16) : ∃ a0 a1 a2 a3 b0 b1 b2 b3 c0 c1 c2 c3 d0 d1 d2 d3 : UInt8, s = [a0, a1, a2, a3, b0, b1, b2, b3, c0, c1, c2, c3, d0, d1, d2, d3] := by
  match s, h with
  | [a0, a1, a2, a3, b0, b1, b2, b3, c0, c1, c2, c3, d0, d1, d2, d3], _ => exact ⟨_, _, _, _, _, _, _, _, _, _, _, _, _, _, _, _, rfl⟩
theorem amix_length {s : List UInt8} (h : s.length = 16) : (amixU s).length = 16 := by
  obtain ⟨a0, a1, a2, a3, b0, b1, b2, b3, c0, c1, c2, c3, d0, d1, d2, d3, rfl⟩ := sixteen h
  rfl

/-- Shifted four times: as it was. -/
theorem ashift_four {s : List UInt8} (h : s.length = 16) : ashiftU (ashiftU (ashiftU (ashiftU s))) = s := by
  obtain ⟨a0, a1, a2, a3, b0, b1, b2, b3, c0, c1, c2, c3, d0, d1, d2, d3, rfl⟩ := sixteen h
  rfl
theorem ashift_at {s : List UInt8} (h : s.length = 16) {c r : Nat} (hc : c < 4) (hr : r < 4) : ∃ x : UInt8, s[4 * ((c + r) % 4) + r]? = some x ∧ (ashiftU s)[4 * c + r]? = some x := by
  have hi : 4 * ((c + r) % 4) + r < s.length := by omega
  refine ⟨s[4 * ((c + r) % 4) + r], List.getElem?_eq_getElem hi, ?_⟩
  unfold ashiftU
  rw [List.getElem?_map, List.getElem?_range (by omega)]
  rw [Option.map_some]
  rw [show (4 * c + r) / 4 = c by omega, show (4 * c + r) % 4 = r by omega]
  rw [List.getD_eq_getElem?_getD, List.getElem?_eq_getElem hi, Option.getD_some]

/-- Two mixed once are two of the field, mixed twice. -/
theorem amix_four {s : List UInt8} (h : s.length = 16) : amixU (amixU (amixU (amixU s))) = s := by
  obtain ⟨a0, a1, a2, a3, b0, b1, b2, b3, c0, c1, c2, c3, d0, d1, d2, d3, rfl⟩ := sixteen h
  simp only [amixU]
  simp only [gmix_two]
  have e := fun a c => gmix_four a c
  dsimp only at e
  simp only [e]
theorem aadd_twice : ∀ (s k : List UInt8), s.length = k.length → aaddU (aaddU s k) k = s
  | [], k, _ => by simp [aaddU]
  | a :: s, [], h => by simp at h
  | a :: s, b :: k, h => by
    have ih := aadd_twice s k (by simpa using h)
    unfold aaddU at ih ⊢
    simp only [List.zipWith_cons_cons, ih]
    rw [UInt8.xor_assoc, UInt8.xor_self, UInt8.xor_zero]

theorem asub_inj {s t : List UInt8} (h : asubU s = asubU t) : s = t := amap_inj (fun _ _ hxy => gbox_inj hxy) s t h
theorem ashift_inj {s t : List UInt8} (hs : s.length = 16) (ht : t.length = 16) (h : ashiftU s = ashiftU t) : s = t := by rw [← ashift_four hs, ← ashift_four ht, h]
theorem amix_inj {s t : List UInt8} (hs : s.length = 16) (ht : t.length = 16) (h : amixU s = amixU t) : s = t := by rw [← amix_four hs, ← amix_four ht, h]
theorem aadd_inj {s t k : List UInt8} (hs : s.length = k.length) (ht : t.length = k.length) (h : aaddU s k = aaddU t k) : s = t := by rw [← aadd_twice s k hs, ← aadd_twice t k ht, h]

theorem akeyAt_length {k : List UInt8} (hk : k.length = 240) {i : Nat} (hi : i < 15) : (akeyAt k i).length = 16 := by simp [akeyAt, hk]; omega
theorem arounds_length {f : UInt8 → UInt8} {k s : List UInt8} (hk : k.length = 240) (hs : s.length = 16) : ∀ {i : Nat}, i < 15 → (aroundsB f k s i).length = 16
  | 0, _ => aadd_length hs (akeyAt_length hk (by omega))
  | i + 1, h => aadd_length (amix_length (ashift_length _)) (akeyAt_length hk h)
theorem aenc_length {f : UInt8 → UInt8} {k s : List UInt8} (hk : k.length = 240) : (aencB f k s).length = 16 := aadd_length (ashift_length _) (akeyAt_length hk (by omega))
theorem arounds_inj {k s t : List UInt8} (hk : k.length = 240) (hs : s.length = 16) (ht : t.length = 16) : ∀ {i : Nat}, i < 15 → aroundsB gboxU k s i = aroundsB gboxU k t i → s = t
  | 0, _, h => aadd_inj (by rw [hs, akeyAt_length hk (by omega)]) (by rw [ht, akeyAt_length hk (by omega)]) h
  | i + 1, hi, h => by
    have h1 : amixU (ashiftU (asubB gboxU (aroundsB gboxU k s i))) = amixU (ashiftU (asubB gboxU (aroundsB gboxU k t i))) := aadd_inj (by rw [amix_length (ashift_length _), akeyAt_length hk hi]) (by rw [amix_length (ashift_length _), akeyAt_length hk hi]) h
    have h2 := amix_inj (ashift_length _) (ashift_length _) h1
    have l1 := arounds_length (f := gboxU) hk hs (i := i) (by omega)
    have l2 := arounds_length (f := gboxU) hk ht (i := i) (by omega)
    have h3 := ashift_inj (by rw [asubB_length]; exact l1) (by rw [asubB_length]; exact l2) h2
    exact arounds_inj hk hs ht (by omega) (asub_inj h3)
/-- No two blocks are encrypted to one. -/
theorem aenc_inj {k s t : List UInt8} (hk : k.length = 240) (hs : s.length = 16) (ht : t.length = 16) (h : aencU k s = aencU k t) : s = t := by
  have h1 : ashiftU (asubB gboxU (aroundsB gboxU k s 13)) = ashiftU (asubB gboxU (aroundsB gboxU k t 13)) := aadd_inj (by rw [ashift_length, akeyAt_length hk (by omega)]) (by rw [ashift_length, akeyAt_length hk (by omega)]) h
  have l1 := arounds_length (f := gboxU) hk hs (i := 13) (by omega)
  have l2 := arounds_length (f := gboxU) hk ht (i := 13) (by omega)
  have h3 := ashift_inj (by rw [asubB_length]; exact l1) (by rw [asubB_length]; exact l2) h1
  exact arounds_inj hk hs ht (by omega) (asub_inj h3)

/-- Four, one by one. -/
theorem afour {s : List UInt8} (h : s.length = 4) : ∃ a b c d : UInt8, s = [a, b, c, d] := by
  match s, h with
  | [a, b, c, d], _ => exact ⟨_, _, _, _, rfl⟩
theorem achg_length (f : UInt8 → UInt8) (i : Nat) {w : List UInt8} (h : w.length = 4) : (achgB f i w).length = 4 := by
  obtain ⟨a, b, c, d, rfl⟩ := afour h
  simp only [achgB]
  split
  · rfl
  · split <;> rfl
theorem anext_length {f : UInt8 → UInt8} {L : List UInt8} {i : Nat} (h8 : 8 ≤ i) (h : L.length = 4 * i) : (anextB f L i).length = 4 := by
  unfold anextB
  rw [List.length_zipWith, achg_length f i (by simp [h]; omega)]
  simp [h]; omega
theorem asch_length {f : UInt8 → UInt8} {key : List UInt8} (h : key.length = 32) : ∀ n, (aschB f key n).length = 4 * (n + 8)
  | 0 => h
  | n + 1 => by
    show (aschB f key n ++ anextB f (aschB f key n) (n + 8)).length = _
    rw [List.length_append, asch_length h n, anext_length (by omega) (asch_length h n)]
    omega
theorem akeys_length {f : UInt8 → UInt8} {key : List UInt8} (h : key.length = 32) : (akeysB f key).length = 240 := asch_length h 52
theorem asch_get {f : UInt8 → UInt8} {key : List UInt8} (h : key.length = 32) : ∀ {n m j : Nat}, n ≤ m → j < 4 * (n + 8) → (aschB f key m)[j]? = (aschB f key n)[j]? := by
  intro n m j hnm hj
  induction m with
  | zero => rw [show n = 0 by omega]
  | succ m ih =>
    rcases Nat.lt_or_ge n (m + 1) with h1 | h1
    · show (aschB f key m ++ anextB f (aschB f key m) (m + 8))[j]? = _
      rw [List.getElem?_append_left (by rw [asch_length h]; omega), ih (by omega)]
    · rw [show n = m + 1 by omega]
/-- The first eight words are the key's. -/
theorem akeys_low {f : UInt8 → UInt8} {key : List UInt8} (h : key.length = 32) {j : Nat} (hj : j < 32) : (akeysB f key)[j]? = key[j]? := asch_get (n := 0) h (by omega) (by omega)
/-- The word at place i of 60. -/
def awordAt (L : List UInt8) (i : Nat) : List UInt8 := (L.drop (4 * i)).take 4
theorem awordAt_length {L : List UInt8} (h : L.length = 240) {i : Nat} (hi : i < 60) : (awordAt L i).length = 4 := by simp [awordAt, h]; omega
theorem awordAt_get {L : List UInt8} {i j : Nat} (hj : j < 4) : (awordAt L i)[j]? = L[4 * i + j]? := by
  unfold awordAt
  rw [List.getElem?_take_of_lt hj, List.getElem?_drop]
theorem aword_ext {L M : List UInt8} {i : Nat} (h : ∀ j, j < 4 → L[4 * i + j]? = M[4 * i + j]?) : awordAt L i = awordAt M i := by
  apply List.ext_getElem?
  intro j
  rcases Nat.lt_or_ge j 4 with hj | hj
  · rw [awordAt_get hj, awordAt_get hj, h j hj]
  · rw [List.getElem?_eq_none (by simp [awordAt]; omega), List.getElem?_eq_none (by simp [awordAt]; omega)]
/-- Each next one is the one eight ahead, by turns with the one ahead, changed. -/
theorem akeys_high {f : UInt8 → UInt8} {key : List UInt8} (h : key.length = 32) {i : Nat} (h8 : 8 ≤ i) (hi : i < 60) :
    awordAt (akeysB f key) i = List.zipWith (· ^^^ ·) (awordAt (akeysB f key) (i - 8)) (achgB f i (awordAt (akeysB f key) (i - 1))) := by
  obtain ⟨n, rfl⟩ : ∃ n, i = n + 8 := ⟨i - 8, by omega⟩
  have e1 : awordAt (akeysB f key) (n + 8 - 8) = awordAt (aschB f key n) (n + 8 - 8) := aword_ext fun j hj => asch_get h (by omega) (by omega)
  have e2 : awordAt (akeysB f key) (n + 8 - 1) = awordAt (aschB f key n) (n + 8 - 1) := aword_ext fun j hj => asch_get h (by omega) (by omega)
  have e3 : awordAt (akeysB f key) (n + 8) = awordAt (aschB f key (n + 1)) (n + 8) := aword_ext fun j hj => asch_get h (by omega) (by omega)
  rw [e1, e2, e3]
  show ((aschB f key n ++ anextB f (aschB f key n) (n + 8)).drop (4 * (n + 8))).take 4 = anextB f (aschB f key n) (n + 8)
  rw [List.drop_append_of_le_length (by rw [asch_length h]; omega), List.drop_of_length_le (by rw [asch_length h]; omega), List.nil_append]
  exact List.take_of_length_le (by rw [anext_length (by omega) (asch_length h n)]; omega)

/-- The box by its table: for what is reckoned. -/
def gboxT (a : UInt8) : UInt8 := UInt8.ofNat (gboxTab.getD a.toNat 0)
theorem gboxU_T : gboxU = gboxT := funext gbox_tab

def akeyX : List UInt8 := (List.range 32).map UInt8.ofNat
def ablockX : List UInt8 := (List.range 16).map fun i => UInt8.ofNat (17 * i)
theorem alive_math0 : (aencB gboxT (akeysB gboxT akeyX) ablockX).take 4 = [142, 162, 183, 202] := by decide +kernel
theorem alive_math : (aencU (akeysU akeyX) ablockX).take 4 = [142, 162, 183, 202] := by
  unfold aencU akeysU
  rw [gboxU_T]
  exact alive_math0

end Go.Proofs.Ytfkfkmdnffpcmaa
