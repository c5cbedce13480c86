import Derived.Test.YtipkimmlbdnbnaaUtfU
namespace Go.Proofs.Ytipkimmlbdnbnaa

/-- The rune with which a text begins, and how many bytes it has; 0: none. -/
def firstV (l : List UInt8) : Int × Int := if l = [] then (0, 0) else if badL l then (0, 0) else (((Lib.decodeL l).1 : Int), ((Lib.decodeL l).2 : Int))
/-- How many bytes the first one promises, and what it holds. -/
def headS (b : Nat) : Nat := if 240 ≤ b then 4 else if 224 ≤ b then 3 else if 192 ≤ b then 2 else 1
def headR (b : Nat) : Nat := if 240 ≤ b then b - 240 else if 224 ≤ b then b - 224 else if 192 ≤ b then b - 192 else b
def contB (b : UInt8) : Bool := decide (128 ≤ b.toNat ∧ b.toNat ≤ 191)
/-- What the bytes behind it add. -/
def addR (r : Nat) (l : List UInt8) : Nat := l.foldl (fun r b => r * 64 + (b.toNat - 128)) r
theorem addR_snoc (b : UInt8) (l : List UInt8) (r : Nat) : addR r (l ++ [b]) = addR r l * 64 + (b.toNat - 128) := by
  unfold addR
  rw [List.foldl_append, List.foldl_cons, List.foldl_nil]

section
variable {l : List UInt8}
theorem firstV_good (hne : l ≠ []) (r : Int) (n : Nat) (hv : validU r = true) (hl : Lib.encodeRune r = l.take n) (hn : n ≤ l.length) : firstV l = (r, (n : Int)) := by
  have hd := decode_encode r hv (l.drop n)
  rw [hl, List.take_append_drop, List.length_take, Nat.min_eq_left hn] at hd
  have hr : ((r.toNat : Nat) : Int) = r := by
    simp only [validU, Lib.validRune, decide_eq_true_eq] at hv; omega
  unfold firstV badL
  rw [if_neg hne, hd.1]
  simp only
  rw [if_neg (by simpa using hd.2), hr]
/-- A rune that stands there passes every test. -/
theorem first_shape (hne : l ≠ []) (hb : badL l = false) :
    headS (l.getD 0 0).toNat = (Lib.decodeL l).2 ∧ (Lib.decodeL l).2 ≤ l.length ∧ (∀ i, 1 ≤ i → i < (Lib.decodeL l).2 → contB (l.getD i 0) = true) ∧
    addR (headR (l.getD 0 0).toNat) ((l.take (Lib.decodeL l).2).drop 1) = (Lib.decodeL l).1 := by
  have hl : 0 < l.length := List.length_pos_iff.2 hne
  have hle := Lib.decodeL_le l hne
  have hg : ¬ ((Lib.decodeL l).1 = 65533 ∧ (Lib.decodeL l).2 = 1) := by simpa [badL] using hb
  rw [Lib.decodeL_N] at hg hle ⊢
  have k0 := (l.getD 0 0).toNat_lt
  have k1 := (l.getD 1 0).toNat_lt
  have k2 := (l.getD 2 0).toNat_lt
  have k3 := (l.getD 3 0).toNat_lt
  have hc : ∀ i, (l.getD i 0).toNat / 64 = 2 → contB (l.getD i 0) = true := fun i h => decide_eq_true (by omega)
  rcases Lib.decodeN_shape l.length (l.getD 0 0).toNat (l.getD 1 0).toNat (l.getD 2 0).toNat (l.getD 3 0).toNat with ⟨c, e⟩ | ⟨c1, c2, c3, cv, e⟩ | ⟨c1, c2, c3, c4, cv, cs, e⟩ | ⟨c1, c2, c3, c4, c5, cv, cw, e⟩ | e
  · rw [e] at hle ⊢
    refine ⟨by unfold headS; rw [if_neg (by omega), if_neg (by omega), if_neg (by omega)], hle, fun i h1 h2 => by dsimp only at h2; omega, ?_⟩
    dsimp only
    rw [Lib.takeA l hl]
    unfold headR
    rw [if_neg (by omega), if_neg (by omega), if_neg (by omega)]
    simp only [List.drop_succ_cons, List.drop_zero, addR, List.foldl_nil]
  · rw [e] at hle ⊢
    refine ⟨by unfold headS; rw [if_neg (by omega), if_neg (by omega), if_pos (by omega)], hle, fun i h1 h2 => ?_, ?_⟩
    · dsimp only at h2
      obtain rfl : i = 1 := by omega
      exact hc 1 c3
    · dsimp only
      rw [Lib.takeB l c2]
      unfold headR
      rw [if_neg (by omega), if_neg (by omega), if_pos (by omega)]
      simp only [List.drop_succ_cons, List.drop_zero, addR, List.foldl_cons, List.foldl_nil]
      omega
  · rw [e] at hle ⊢
    refine ⟨by unfold headS; rw [if_neg (by omega), if_pos (by omega)], hle, fun i h1 h2 => ?_, ?_⟩
    · dsimp only at h2
      rcases (by omega : i = 1 ∨ i = 2) with rfl | rfl
      · exact hc 1 c3
      · exact hc 2 c4
    · dsimp only
      rw [Lib.takeC l c2]
      unfold headR
      rw [if_neg (by omega), if_pos (by omega)]
      simp only [List.drop_succ_cons, List.drop_zero, addR, List.foldl_cons, List.foldl_nil]
      omega
  · rw [e] at hle ⊢
    refine ⟨by unfold headS; rw [if_pos (by omega)], hle, fun i h1 h2 => ?_, ?_⟩
    · dsimp only at h2
      rcases (by omega : i = 1 ∨ i = 2 ∨ i = 3) with rfl | rfl | rfl
      · exact hc 1 c3
      · exact hc 2 c4
      · exact hc 3 c5
    · dsimp only
      rw [Lib.takeD l c2]
      unfold headR
      rw [if_pos (by omega)]
      simp only [List.drop_succ_cons, List.drop_zero, addR, List.foldl_cons, List.foldl_nil]
      omega
  · rw [e] at hg
    exact absurd ⟨rfl, rfl⟩ hg
/-- Where a test fails there is none. -/
theorem firstV_not (hne : l ≠ []) (h : badL l = false → False) : firstV l = (0, 0) := by
  unfold firstV
  rw [if_neg hne, if_pos (by cases hb : badL l with | true => rfl | false => exact absurd hb h)]
theorem first_short (hne : l ≠ []) (h : l.length < headS (l.getD 0 0).toNat) : firstV l = (0, 0) :=
  firstV_not hne fun hb => by obtain ⟨h1, h2, _⟩ := first_shape hne hb; omega
theorem first_cont (hne : l ≠ []) (i : Nat) (h1 : 1 ≤ i) (hi : i < headS (l.getD 0 0).toNat) (h : contB (l.getD i 0) = false) : firstV l = (0, 0) :=
  firstV_not hne fun hb => by
    obtain ⟨e1, _, h3, _⟩ := first_shape hne hb
    rw [h3 i h1 (by omega)] at h
    cases h
theorem first_enc (hne : l ≠ []) (r : Nat) (hr : r = addR (headR (l.getD 0 0).toNat) ((l.take (headS (l.getD 0 0).toNat)).drop 1))
    (h : validU (r : Int) = false ∨ Lib.encodeRune (r : Int) ≠ l.take (headS (l.getD 0 0).toNat)) : firstV l = (0, 0) :=
  firstV_not hne fun hb => by
    obtain ⟨e1, _, _, h4⟩ := first_shape hne hb
    rw [e1, h4] at hr
    subst hr
    rcases h with h | h
    · rw [decode_valid l] at h; cases h
    · rw [e1] at h
      exact h (Lib.encode_decode l hne (by simpa [badL] using hb))
end

end Go.Proofs.Ytipkimmlbdnbnaa
