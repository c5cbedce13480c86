/-
  Plain mathematics of hex: digits, bytes of digits, rows. No program is named here.
-/
import Derived.Test.YtpnifmghbfajiaaDoorStrs
namespace Go.Proofs.YtpnifmghbfajiaaDoor

/-- The digit of a number below 16. -/
def dig (n : Nat) : UInt8 := if n < 10 then UInt8.ofNat (48 + n) else UInt8.ofNat (87 + n)
def hex2 (b : UInt8) : List UInt8 := [dig (b.toNat / 16), dig (b.toNat % 16)]
def hexU (l : List UInt8) : List UInt8 := l.flatMap hex2
theorem hexU_nil : hexU [] = [] := rfl
theorem hexU_cons (b : UInt8) (l : List UInt8) : hexU (b :: l) = dig (b.toNat / 16) :: dig (b.toNat % 16) :: hexU l := rfl
theorem hexU_append (a b : List UInt8) : hexU (a ++ b) = hexU a ++ hexU b := by simp [hexU]
theorem hexU_length : ∀ l : List UInt8, (hexU l).length = 2 * l.length
  | [] => rfl
  | b :: l => by rw [hexU_cons, List.length_cons, List.length_cons, hexU_length l, List.length_cons]; omega
theorem hexU_take {l : List UInt8} {k : Nat} (hk : k < l.length) : hexU (l.take (k + 1)) = hexU (l.take k) ++ [dig (l[k].toNat / 16)] ++ [dig (l[k].toNat % 16)] := by
  rw [List.take_add_one, List.getElem?_eq_getElem hk, hexU_append]
  simp [hexU, hex2]
theorem dig_lo {n : Nat} (h : n < 10) : ((dig n).toNat : Int) = 48 + (n : Int) := by
  unfold dig; rw [if_pos h, UInt8.toNat_ofNat']; omega
theorem dig_hi {n : Nat} (h : ¬ n < 10) (h2 : n < 16) : ((dig n).toNat : Int) = 87 + (n : Int) := by
  unfold dig; rw [if_neg h, UInt8.toNat_ofNat']; omega

/-- What a sign is worth. -/
def valU (c : UInt8) : Option Nat := if 48 ≤ c.toNat ∧ c.toNat ≤ 57 then some (c.toNat - 48) else if 97 ≤ c.toNat ∧ c.toNat ≤ 102 then some (c.toNat - 87) else none
theorem val_dig : ∀ n : Fin 16, valU (dig n.val) = some n.val := by decide
theorem val_of {c : UInt8} {n : Nat} (h : valU c = some n) : n < 16 ∧ dig n = c := by
  unfold valU at h
  split at h
  · injection h with h
    subst h
    refine ⟨by omega, ?_⟩
    unfold dig
    rw [if_pos (by omega), show 48 + (c.toNat - 48) = c.toNat by omega, UInt8.ofNat_toNat]
  · split at h
    · injection h with h
      subst h
      refine ⟨by omega, ?_⟩
      unfold dig
      rw [if_neg (by omega), show 87 + (c.toNat - 87) = c.toNat by omega, UInt8.ofNat_toNat]
    · cases h
def okU (c : UInt8) : Bool := (valU c).isSome
def vU (c : UInt8) : Nat := (valU c).getD 0
theorem vU_lt (c : UInt8) : vU c < 16 := by
  unfold vU
  cases h : valU c with
  | none => decide
  | some n => exact (val_of h).1
theorem vU_some {c : UInt8} (h : okU c = true) : valU c = some (vU c) := by
  unfold okU at h; unfold vU
  cases hv : valU c with
  | none => rw [hv] at h; cases h
  | some n => rfl

/-- The byte of two signs. -/
def byU (a b : UInt8) : UInt8 := UInt8.ofNat (vU a * 16 + vU b)
theorem byU_nat (a b : UInt8) : (byU a b).toNat = vU a * 16 + vU b := by
  unfold byU; rw [UInt8.toNat_ofNat']; have := vU_lt a; have := vU_lt b; omega
def pairsU : List UInt8 → List UInt8
  | a :: b :: t => byU a b :: pairsU t
  | _ => []
theorem pairs_even : ∀ (x y : List UInt8), x.length % 2 = 0 → pairsU (x ++ y) = pairsU x ++ pairsU y
  | [], y, _ => rfl
  | [a], y, h => by simp at h
  | a :: b :: t, y, h => by
    have ht : t.length % 2 = 0 := by simp at h; omega
    show byU a b :: pairsU (t ++ y) = byU a b :: (pairsU t ++ pairsU y)
    rw [pairs_even t y ht]
theorem pairs_len : ∀ l : List UInt8, (pairsU l).length = l.length / 2
  | [] => rfl
  | [a] => by simp [pairsU]
  | a :: b :: t => by
    show (pairsU t).length + 1 = _
    rw [pairs_len t]; simp; omega
theorem pairs_step0 {l : List UInt8} {k : Nat} (hk : k < l.length) (he : k % 2 = 0) : pairsU (l.take (k + 1)) = pairsU (l.take k) := by
  rw [List.take_add_one, List.getElem?_eq_getElem hk, pairs_even _ _ (by rw [List.length_take]; omega)]
  simp [pairsU]
theorem pairs_step1 {l : List UInt8} {k : Nat} (hk : k + 1 < l.length) (he : k % 2 = 0) : pairsU (l.take (k + 1 + 1)) = pairsU (l.take k) ++ [byU l[k] l[k + 1]] := by
  rw [List.take_add_one, List.getElem?_eq_getElem hk, List.take_add_one, List.getElem?_eq_getElem (show k < l.length by omega), List.append_assoc, pairs_even _ _ (by rw [List.length_take]; omega)]
  rfl
theorem pairs_odd {l : List UInt8} {k : Nat} (hk : k < l.length) (ho : k % 2 = 1) : pairsU (l.take (k + 1)) = pairsU (l.take k) ++ [byU (l[k - 1]'(by omega)) l[k]] := by
  obtain ⟨j, rfl⟩ : ∃ j, k = j + 1 := ⟨k - 1, by omega⟩
  rw [pairs_step1 hk (by omega), pairs_step0 (show j < l.length by omega) (by omega)]
  rfl
/-- There and back. -/
theorem byU_dig (b : UInt8) : byU (dig (b.toNat / 16)) (dig (b.toNat % 16)) = b := by
  have h1 := val_dig ⟨b.toNat / 16, by have := b.toNat_lt; omega⟩
  have h2 := val_dig ⟨b.toNat % 16, by omega⟩
  apply UInt8.toNat_inj.1
  rw [byU_nat]
  unfold vU
  rw [h1, h2]
  simp; omega
theorem pairs_hex : ∀ l : List UInt8, pairsU (hexU l) = l
  | [] => rfl
  | b :: l => by
    rw [hexU_cons]
    show byU _ _ :: pairsU (hexU l) = _
    rw [byU_dig, pairs_hex l]
theorem hex_byU {a b : UInt8} (ha : okU a = true) (hb : okU b = true) : hex2 (byU a b) = [a, b] := by
  have h1 := val_of (vU_some ha)
  have h2 := val_of (vU_some hb)
  unfold hex2
  rw [byU_nat, show (vU a * 16 + vU b) / 16 = vU a by omega, show (vU a * 16 + vU b) % 16 = vU b by omega, h1.2, h2.2]
theorem hex_pairs : ∀ l : List UInt8, l.length % 2 = 0 → l.all okU = true → hexU (pairsU l) = l
  | [], _, _ => rfl
  | [a], h, _ => by simp at h
  | a :: b :: t, h, ha => by
    simp only [List.all_cons, Bool.and_eq_true] at ha
    show hex2 (byU a b) ++ hexU (pairsU t) = _
    rw [hex_byU ha.1 ha.2.1, hex_pairs t (by simp at h; omega) ha.2.2]
    rfl
theorem ok_dig {n : Nat} (h : n < 16) : okU (dig n) = true := by
  have := val_dig ⟨n, h⟩
  unfold okU
  rw [this]; rfl
theorem hex_ok : ∀ l : List UInt8, (hexU l).all okU = true
  | [] => rfl
  | b :: l => by
    rw [hexU_cons, List.all_cons, List.all_cons, ok_dig (by have := b.toNat_lt; omega), ok_dig (by omega), hex_ok l]
    rfl

/-- The first sign that is none. -/
def badAt : Nat → List UInt8 → Option Nat
  | _, [] => none
  | i, c :: t => if okU c then badAt (i + 1) t else some i
theorem bad_at {l : List UInt8} {k : Nat} (hk : k < l.length) (h : badAt 0 l = badAt k (l.drop k)) : (okU l[k] = true → badAt 0 l = badAt (k + 1) (l.drop (k + 1))) ∧ (okU l[k] = false → badAt 0 l = some k) := by
  rw [List.drop_eq_getElem_cons hk] at h
  rw [h]
  constructor
  · intro e; show (if okU l[k] = true then _ else _) = _; rw [if_pos e]
  · intro e; show (if okU l[k] = true then _ else _) = _; rw [if_neg (by rw [e]; simp)]
theorem bad_none : ∀ (l : List UInt8) (i : Nat), badAt i l = none → l.all okU = true
  | [], _, _ => rfl
  | c :: t, i, h => by
    unfold badAt at h
    split at h
    · rename_i hc
      rw [List.all_cons, hc, bad_none t _ h]; rfl
    · cases h
theorem none_bad : ∀ (l : List UInt8) (i : Nat), l.all okU = true → badAt i l = none
  | [], _, _ => rfl
  | c :: t, i, h => by
    rw [List.all_cons, Bool.and_eq_true] at h
    unfold badAt
    rw [if_pos h.1]
    exact none_bad t _ h.2
/-- What Parse answers. -/
def hparseV (l : List UInt8) : List UInt8 × Int × Int :=
  match badAt 0 l with
  | some p => ([], (p : Int), 3)
  | none => if l.length % 2 = 0 then (pairsU l, 0, 0) else ([], (l.length : Int), 3)
theorem hparse_bad {l : List UInt8} {p : Nat} (h : badAt 0 l = some p) : hparseV l = ([], (p : Int), 3) := by unfold hparseV; rw [h]
theorem hparse_odd {l : List UInt8} (h : badAt 0 l = none) (h2 : l.length % 2 = 1) : hparseV l = ([], (l.length : Int), 3) := by unfold hparseV; rw [h]; exact if_neg (by omega)
theorem hparse_ok {l : List UInt8} (h : badAt 0 l = none) (h2 : l.length % 2 = 0) : hparseV l = (pairsU l, 0, 0) := by unfold hparseV; rw [h]; exact if_pos h2
theorem hparse_hex (l : List UInt8) : hparseV (hexU l) = (l, 0, 0) := by
  rw [hparse_ok (none_bad _ _ (hex_ok l)) (by rw [hexU_length]; omega), pairs_hex]
theorem hparse_back (l : List UInt8) : ((hparseV l).2.2 = 0 ∧ hexU (hparseV l).1 = l) ∨ ((hparseV l).2.2 = 3 ∧ (hparseV l).1 = []) := by
  cases h : badAt 0 l with
  | some p => rw [hparse_bad h]; exact .inr ⟨rfl, rfl⟩
  | none =>
    by_cases h2 : l.length % 2 = 0
    · rw [hparse_ok h h2]; exact .inl ⟨rfl, hex_pairs l h2 (bad_none l 0 h)⟩
    · rw [hparse_odd h (by omega)]; exact .inr ⟨rfl, rfl⟩
theorem hparse_len (l : List UInt8) : (hparseV l).1.length ≤ l.length := by
  cases h : badAt 0 l with
  | some p => rw [hparse_bad h]; simp
  | none =>
    by_cases h2 : l.length % 2 = 0
    · rw [hparse_ok h h2]; show (pairsU l).length ≤ _; rw [pairs_len]; omega
    · rw [hparse_odd h (by omega)]; simp

/-- The j-th row of w bytes each. -/
def cutU (w : Nat) (l : List UInt8) (j : Nat) : List UInt8 := (l.drop (j * w)).take w
def cutsU (w : Nat) (l : List UInt8) (k : Nat) : List (List UInt8) := (List.range k).map (cutU w l)
def numU (w : Nat) (l : List UInt8) : Nat := (l.length + w - 1) / w
theorem cuts_succ (w : Nat) (l : List UInt8) (k : Nat) : cutsU w l (k + 1) = cutsU w l k ++ [cutU w l k] := by
  unfold cutsU; rw [List.range_succ, List.map_append]; rfl
theorem cuts_len (w : Nat) (l : List UInt8) (k : Nat) : (cutsU w l k).length = k := by simp [cutsU]
theorem num_lt {w : Nat} {l : List UInt8} {k : Nat} (hw : 0 < w) : k * w < l.length ↔ k < numU w l := by
  unfold numU
  rw [Nat.lt_div_iff_mul_lt hw]
  omega
theorem cut_len (w : Nat) (l : List UInt8) (j : Nat) : (cutU w l j).length = min w (l.length - j * w) := by simp [cutU]
theorem cuts_flat (w : Nat) (l : List UInt8) : ∀ k, (cutsU w l k).flatten = l.take (k * w)
  | 0 => by simp [cutsU]
  | k + 1 => by
    rw [cuts_succ, List.flatten_append, cuts_flat w l k, Nat.succ_mul, List.take_add]
    simp [cutU]
/-- What Rows answers. -/
def hrowsV (l : List UInt8) (z : Int) : List (List UInt8) := if z < 1 ∨ 64 < z then [] else (cutsU z.toNat l (numU z.toNat l)).map hexU
theorem flat_hex : ∀ L : List (List UInt8), (L.map hexU).flatten = hexU L.flatten
  | [] => rfl
  | x :: L => by rw [List.map_cons, List.flatten_cons, flat_hex L, List.flatten_cons, hexU_append]
theorem hrows_flat (l : List UInt8) (z : Int) (h1 : 1 ≤ z) (h2 : z ≤ 64) : (hrowsV l z).flatten = hexU l := by
  unfold hrowsV
  rw [if_neg (by omega), flat_hex, cuts_flat]
  have hz : 0 < z.toNat := by omega
  have : ¬ numU z.toNat l * z.toNat < l.length := fun h => by
    have := (num_lt (k := numU z.toNat l) hz).1 h
    omega
  rw [List.take_of_length_le (by omega)]
def hshortV (l : List UInt8) : List UInt8 := if l.length ≤ 4 then hexU l else hexU (l.take 3) ++ [46, 46]
theorem hshort_len (l : List UInt8) : (hshortV l).length ≤ 8 := by
  unfold hshortV
  split
  · rw [hexU_length]; omega
  · rw [List.length_append, hexU_length, List.length_take]; simp; omega

end Go.Proofs.YtpnifmghbfajiaaDoor
