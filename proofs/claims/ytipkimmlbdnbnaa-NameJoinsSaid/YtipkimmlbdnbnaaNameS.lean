/-
  Plain mathematics of names: pieces between points, parts, what is joined, how two names stand. No program is named here.
-/
import Derived.Test.YtipkimmlbdnbnaaUtfU
import Derived.Lib.Join
namespace Go.Proofs.Ytipkimmlbdnbnaa
open Go.RowKit

/-! ### pieces -/
def stepP (st : List (List UInt8) × List UInt8) (b : UInt8) : List (List UInt8) × List UInt8 := if b = 46 then (st.1 ++ [st.2], []) else (st.1, st.2 ++ [b])
def foldP (l : List UInt8) : List (List UInt8) × List UInt8 := l.foldl stepP ([], [])
def pieces (l : List UInt8) : List (List UInt8) := (foldP l).1 ++ [(foldP l).2]
def joinD (ps : List (List UInt8)) : List UInt8 := Lib.join ps [46]

theorem foldP_snoc (l : List UInt8) (b : UInt8) : foldP (l ++ [b]) = stepP (foldP l) b := by simp [foldP, List.foldl_append]
theorem pieces_pos (l : List UInt8) : 0 < (pieces l).length := by simp [pieces]
theorem tail_snoc (r : List (List UInt8)) (q : List UInt8) : Lib.joinTail [46] (r ++ [q]) = Lib.joinTail [46] r ++ 46 :: q := by simp [Lib.joinTail]
theorem joinD_one (p : List UInt8) : joinD [p] = p := Lib.join_one _ _
theorem joinD_cons (p : List UInt8) (r : List (List UInt8)) : joinD (p :: r) = p ++ Lib.joinTail [46] r := Lib.join_cons _ _ _
theorem joinD_snoc (ps : List (List UInt8)) (q : List UInt8) (h : ps ≠ []) : joinD (ps ++ [q]) = joinD ps ++ 46 :: q := by
  cases ps with
  | nil => exact absurd rfl h
  | cons p r => rw [List.cons_append, joinD_cons, joinD_cons, tail_snoc, List.append_assoc]
theorem joinD_last (d : List (List UInt8)) (c t : List UInt8) : joinD (d ++ [c ++ t]) = joinD (d ++ [c]) ++ t := by
  cases d with
  | nil => simp [joinD_one]
  | cons p r => rw [joinD_snoc _ _ (by simp), joinD_snoc _ _ (by simp)]; simp
theorem join_fold : ∀ (l : List UInt8) (d : List (List UInt8)) (c : List UInt8), joinD ((l.foldl stepP (d, c)).1 ++ [(l.foldl stepP (d, c)).2]) = joinD (d ++ [c]) ++ l
  | [], d, c => by simp
  | b :: t, d, c => by
    rw [List.foldl_cons]
    by_cases h : b = 46
    · subst h
      have e : stepP (d, c) 46 = (d ++ [c], []) := rfl
      rw [e, join_fold t, joinD_snoc _ _ (by simp)]
      simp
    · have e : stepP (d, c) b = (d, c ++ [b]) := if_neg h
      rw [e, join_fold t, joinD_last]
      simp
theorem join_pieces (l : List UInt8) : joinD (pieces l) = l := by
  have := join_fold l [] []
  simpa [pieces, foldP, joinD_one] using this
theorem fold_no : ∀ (l : List UInt8) (d : List (List UInt8)) (c : List UInt8), (∀ p ∈ d, (46 : UInt8) ∉ p) → (46 : UInt8) ∉ c → ∀ p ∈ (l.foldl stepP (d, c)).1 ++ [(l.foldl stepP (d, c)).2], (46 : UInt8) ∉ p
  | [], d, c, hd, hc => by
    intro p hp
    rcases List.mem_append.1 hp with h | h
    · exact hd p h
    · rw [List.mem_singleton.1 h]; exact hc
  | b :: t, d, c, hd, hc => by
    rw [List.foldl_cons]
    by_cases h : b = 46
    · subst h
      have e : stepP (d, c) 46 = (d ++ [c], []) := rfl
      rw [e]
      refine fold_no t _ _ (fun p hp => ?_) (by simp)
      rcases List.mem_append.1 hp with h | h
      · exact hd p h
      · rw [List.mem_singleton.1 h]; exact hc
    · have e : stepP (d, c) b = (d, c ++ [b]) := if_neg h
      rw [e]
      refine fold_no t _ _ hd ?_
      intro hm
      rcases List.mem_append.1 hm with h' | h'
      · exact hc h'
      · exact h (List.mem_singleton.1 h').symm
theorem pieces_no (l : List UInt8) : ∀ p ∈ pieces l, (46 : UInt8) ∉ p := fold_no l [] [] (by simp) (by simp)
theorem fold_plain : ∀ (t : List UInt8) (d : List (List UInt8)) (c : List UInt8), (46 : UInt8) ∉ t → t.foldl stepP (d, c) = (d, c ++ t)
  | [], d, c, _ => by simp
  | b :: t, d, c, h => by
    rw [List.foldl_cons]
    have hb : b ≠ 46 := fun e => h (by simp [e])
    have e : stepP (d, c) b = (d, c ++ [b]) := if_neg hb
    rw [e, fold_plain t _ _ (fun hm => h (List.mem_cons_of_mem _ hm))]
    simp
theorem fold_tail : ∀ (r : List (List UInt8)) (d : List (List UInt8)) (c : List UInt8), (∀ p ∈ r, (46 : UInt8) ∉ p) →
    ((Lib.joinTail [46] r).foldl stepP (d, c)).1 ++ [((Lib.joinTail [46] r).foldl stepP (d, c)).2] = d ++ c :: r
  | [], d, c, _ => by simp [Lib.joinTail]
  | q :: r, d, c, h => by
    have e : Lib.joinTail [46] (q :: r) = 46 :: (q ++ Lib.joinTail [46] r) := by simp [Lib.joinTail]
    rw [e, List.foldl_cons, List.foldl_append]
    have e2 : stepP (d, c) 46 = (d ++ [c], []) := rfl
    rw [e2, fold_plain q _ _ (h q (by simp)), List.nil_append, fold_tail r _ _ (fun p hp => h p (List.mem_cons_of_mem _ hp))]
    simp
theorem pieces_join (ps : List (List UInt8)) (hne : ps ≠ []) (h : ∀ p ∈ ps, (46 : UInt8) ∉ p) : pieces (joinD ps) = ps := by
  cases ps with
  | nil => exact absurd rfl hne
  | cons p r =>
    unfold pieces foldP
    rw [joinD_cons, List.foldl_append, fold_plain p _ _ (h p (by simp)), List.nil_append, fold_tail r _ _ (fun q hq => h q (List.mem_cons_of_mem _ hq))]
    simp

/-! ### parts -/
def smallU (r : Int) : Bool := lowerU r || decide (48 ≤ r ∧ r ≤ 57)
def partU (l : List UInt8) : Bool := decide (1 ≤ (runesU l).length ∧ (runesU l).length ≤ 8) && (runesU l).all smallU
def rightU (l : List UInt8) : Bool := (pieces l).all partU && decide ((pieces l).length ≤ 4) && decide (countV l ≤ 24)
def splitU (l : List UInt8) : List (List UInt8) := if rightU l then pieces l else []
def joinU (ps : List (List UInt8)) : List UInt8 × Int :=
  if ps.length < 1 ∨ 4 < ps.length ∨ ps.all partU = false then ([], 3) else if 24 < countV (joinD ps) then ([], 6) else (joinD ps, 0)

theorem split_pos (l : List UInt8) : 0 < (splitU l).length ↔ rightU l = true := by
  unfold splitU
  cases h : rightU l
  · simp
  · simp [pieces_pos l]

theorem decode_46 (t : List UInt8) : Lib.decodeL (46 :: t) = (46, 1) := by
  have := (decode_encode 46 (by decide) t).1
  have e : Lib.encodeRune 46 = [46] := by decide
  rw [e] at this
  exact this
theorem mem_enc (r : Int) (h0 : 0 ≤ r) (h : (46 : UInt8) ∈ Lib.encodeRune r) : r = 46 := by
  obtain ⟨x, hx, e⟩ := List.mem_map.1 h
  have hb : x.toNat % 256 = 46 := by
    have := congrArg UInt8.toNat e
    simpa using this
  unfold Lib.encodeRuneZ at hx
  split at hx
  · have : x = r := by simpa using hx
    omega
  · split at hx
    · simp only [List.mem_cons, List.not_mem_nil, or_false] at hx
      omega
    · split at hx
      · simp only [List.mem_cons, List.not_mem_nil, or_false] at hx
        omega
      · split at hx
        · simp only [List.mem_cons, List.not_mem_nil, or_false] at hx
          omega
        · simp only [List.mem_cons, List.not_mem_nil, or_false] at hx
          omega
theorem byte_rune : ∀ (n : Nat) (l : List UInt8), l.length ≤ n → (46 : UInt8) ∈ l → (46 : Int) ∈ runesU l := by
  intro n
  induction n with
  | zero => intro l hl h; have : l = [] := List.eq_nil_of_length_eq_zero (by omega); subst this; cases h
  | succ n ih =>
    intro l hl h
    have hne : l ≠ [] := by intro e; subst e; cases h
    have hd := drop_less l hne
    rw [runesU_step l hne]
    rw [← List.take_append_drop (Lib.decodeL l).2 l] at h
    rcases List.mem_append.1 h with h | h
    · refine List.mem_cons.2 (.inl ?_)
      by_cases hb : (Lib.decodeL l).1 = 65533 ∧ (Lib.decodeL l).2 = 1
      · rw [hb.2] at h
        match l, hne with
        | b :: t, _ =>
          simp at h
          subst h
          rw [decode_46]; rfl
      · rw [← Lib.encode_decode l hne hb] at h
        exact (mem_enc _ (by omega) h).symm
    · exact List.mem_cons_of_mem _ (ih _ (by omega) h)
theorem small_no (l : List UInt8) (h : (runesU l).all smallU = true) : (46 : UInt8) ∉ l := by
  intro hm
  have := List.all_eq_true.1 h _ (byte_rune _ l (Nat.le_refl _) hm)
  revert this
  decide
theorem broken_mark : ∀ (n : Nat) (p q : Nat) (l : List UInt8), l.length ≤ n → brokenU p l = some q → (65533 : Int) ∈ runesU l := by
  intro n
  induction n with
  | zero => intro p q l hl h; have : l = [] := List.eq_nil_of_length_eq_zero (by omega); subst this; cases h
  | succ n ih =>
    intro p q l hl h
    have hne : l ≠ [] := by intro e; subst e; cases h
    have hd := drop_less l hne
    rw [brokenU_step p l hne] at h
    rw [runesU_step l hne]
    split at h
    · rename_i hb
      have hb : (Lib.decodeL l).1 = 65533 ∧ (Lib.decodeL l).2 = 1 := by simpa [badL] using hb
      rw [hb.1]
      exact List.mem_cons.2 (.inl rfl)
    · exact List.mem_cons_of_mem _ (ih _ _ _ (by omega) h)
theorem small_whole (l : List UInt8) (h : (runesU l).all smallU = true) : brokenU 0 l = none := by
  cases hb : brokenU 0 l with
  | none => rfl
  | some q =>
    have h1 : smallU 65533 = true := List.all_eq_true.1 h _ (broken_mark _ 0 q l (Nat.le_refl _) hb)
    exact absurd h1 (by decide)
theorem part_small {l : List UInt8} (h : partU l = true) : (runesU l).all smallU = true := by
  unfold partU at h
  exact (Bool.and_eq_true _ _ ▸ h).2

/-! ### valid texts -/
theorem whole_app {a b : List UInt8} (ha : brokenU 0 a = none) (hb : brokenU 0 b = none) : brokenU 0 (a ++ b) = none ∧ runesU (a ++ b) = runesU a ++ runesU b := by
  have ea := (enc_runes _ a (Nat.le_refl _) 0 ha).1
  have eb := (enc_runes _ b (Nat.le_refl _) 0 hb).1
  have hv : ∀ r ∈ runesU a ++ runesU b, validU r = true := by
    intro r hr
    rcases List.mem_append.1 hr with h | h
    · exact runes_valid _ a (Nat.le_refl _) r h
    · exact runes_valid _ b (Nat.le_refl _) r h
  have e : a ++ b = encU (runesU a ++ runesU b) := by rw [encU_append, ea, eb]
  rw [e]
  exact ⟨whole_enc _ _ hv, runes_enc _ hv⟩
theorem whole_tail : ∀ (r : List (List UInt8)), (∀ p ∈ r, brokenU 0 p = none) → brokenU 0 (Lib.joinTail [46] r) = none
  | [], _ => by simp [Lib.joinTail]; rfl
  | q :: r, h => by
    have e : Lib.joinTail [46] (q :: r) = ([46] ++ q) ++ Lib.joinTail [46] r := by simp [Lib.joinTail]
    rw [e]
    exact (whole_app (whole_app (show brokenU 0 [46] = none by decide) (h q (by simp))).1 (whole_tail r (fun p hp => h p (List.mem_cons_of_mem _ hp)))).1
theorem whole_join (ps : List (List UInt8)) (h : ∀ p ∈ ps, brokenU 0 p = none) : brokenU 0 (joinD ps) = none := by
  cases ps with
  | nil => rfl
  | cons p r =>
    rw [joinD_cons]
    exact (whole_app (h p (by simp)) (whole_tail r (fun q hq => h q (List.mem_cons_of_mem _ hq)))).1
theorem count_whole {l : List UInt8} (h : brokenU 0 l = none) : countV l = ((runesU l).length : Int) := by unfold countV; rw [h]
theorem tail_app (a b : List (List UInt8)) : Lib.joinTail [46] (a ++ b) = Lib.joinTail [46] a ++ Lib.joinTail [46] b := by simp [Lib.joinTail]
theorem count_take (ps : List (List UInt8)) (i : Nat) (hi : 1 ≤ i) (h : ∀ p ∈ ps, brokenU 0 p = none) : countV (joinD (ps.take i)) ≤ countV (joinD ps) := by
  cases ps with
  | nil => simp
  | cons p r =>
    obtain ⟨j, rfl⟩ : ∃ j, i = j + 1 := ⟨i - 1, by omega⟩
    have hr : ∀ q ∈ r, brokenU 0 q = none := fun q hq => h q (List.mem_cons_of_mem _ hq)
    have e : joinD (p :: r) = joinD (p :: r.take j) ++ Lib.joinTail [46] (r.drop j) := by
      rw [joinD_cons, joinD_cons, List.append_assoc, ← tail_app, List.take_append_drop]
    have h1 : brokenU 0 (joinD (p :: r.take j)) = none := whole_join _ (fun q hq => by
      rcases List.mem_cons.1 hq with rfl | hq
      · exact h _ (by simp)
      · exact hr q (List.mem_of_mem_take hq))
    have h2 := whole_tail (r.drop j) (fun q hq => hr q (List.mem_of_mem_drop hq))
    have h3 := whole_app h1 h2
    rw [List.take_succ_cons, e, count_whole h1, count_whole h3.1, h3.2, List.length_append]
    omega

/-! ### how two stand -/
def cmpB (x y : List UInt8) : Int := if Op.bytesLess x y then -1 else if !(Op.bytesLess x y || x == y) then 1 else 0
def cmpL : List (List UInt8) → List (List UInt8) → Int
  | [], [] => 0
  | [], _ :: _ => -1
  | _ :: _, [] => 1
  | x :: xs, y :: ys => if cmpB x y ≠ 0 then cmpB x y else cmpL xs ys
def cmpU (a b : List UInt8) : Int := if splitU a = [] ∨ splitU b = [] then 0 else cmpL (splitU a) (splitU b)
def belowU (s t : List UInt8) : Bool := decide (0 < (splitU t).length) && decide ((splitU t).length < (splitU s).length) && ((splitU s).take (splitU t).length == splitU t)

theorem less_irr : ∀ x : List UInt8, Op.bytesLess x x = false
  | [] => rfl
  | a :: x => by
    rw [Op.bytesLess, less_irr x]
    simp
theorem less_asym : ∀ x y : List UInt8, Op.bytesLess x y = true → Op.bytesLess y x = false
  | [], [], h => by cases h
  | [], _ :: _, _ => rfl
  | _ :: _, [], h => by cases h
  | a :: x, b :: y, h => by
    rw [Op.bytesLess] at h ⊢
    rcases Bool.or_eq_true_iff.1 h with h | h
    · have h : a < b := by simpa using h
      have h1 : ¬ b < a := by simp only [UInt8.lt_iff_toNat_lt] at h ⊢; omega
      have h2 : ¬ b = a := by intro e; subst e; simp at h
      simp [h1, h2]
    · obtain ⟨h1, h2⟩ := Bool.and_eq_true_iff.1 h
      have h1 : a = b := by simpa using h1
      subst h1
      rw [less_asym x y h2]
      simp
theorem less_total : ∀ x y : List UInt8, Op.bytesLess x y = false → x ≠ y → Op.bytesLess y x = true
  | [], [], _, h => absurd rfl h
  | [], _ :: _, h, _ => by cases h
  | _ :: _, [], _, _ => rfl
  | a :: x, b :: y, h, hne => by
    rw [Op.bytesLess] at h ⊢
    obtain ⟨h1, h2⟩ := (Bool.or_eq_false_iff).1 h
    have h1 : ¬ a < b := by simpa using h1
    by_cases e : a = b
    · subst e
      have h2 : Op.bytesLess x y = false := by simpa using h2
      rw [less_total x y h2 (fun e => hne (by rw [e]))]
      simp
    · have h3 : b < a := by
        simp only [UInt8.lt_iff_toNat_lt] at h1 ⊢
        have : a.toNat ≠ b.toNat := fun e' => e (UInt8.toNat_inj.1 e')
        omega
      simp [h3]
theorem cmpB_self (x : List UInt8) : cmpB x x = 0 := by simp [cmpB, less_irr]
theorem cmpB_neg (x y : List UInt8) : cmpB x y = - cmpB y x := by
  by_cases e : x = y
  · subst e; rw [cmpB_self]; rfl
  · have e' : y ≠ x := fun h => e h.symm
    unfold cmpB
    cases h : Op.bytesLess x y
    · rw [less_total x y h e]
      simp [e]
    · rw [less_asym x y h]
      simp [e']
theorem cmpL_neg : ∀ a b : List (List UInt8), cmpL a b = - cmpL b a
  | [], [] => rfl
  | [], _ :: _ => rfl
  | _ :: _, [] => rfl
  | x :: xs, y :: ys => by
    rw [cmpL, cmpL, cmpB_neg x y, cmpL_neg xs ys]
    by_cases h : cmpB y x = 0
    · simp [h]
    · have h' : - cmpB y x ≠ 0 := by omega
      rw [if_pos h', if_pos h]
theorem cmpU_neg (a b : List UInt8) : cmpU a b = - cmpU b a := by
  unfold cmpU
  by_cases h : splitU a = [] ∨ splitU b = []
  · rw [if_pos h, if_pos h.symm]; rfl
  · rw [if_neg h, if_neg (fun h' => h h'.symm), cmpL_neg]
theorem cmpL_take : ∀ (l : List (List UInt8)) (i : Nat), i < l.length → cmpL (l.take i) l = -1
  | [], i, h => by simp at h
  | x :: xs, 0, _ => rfl
  | x :: xs, i + 1, h => by
    rw [List.take_succ_cons, cmpL, cmpB_self, if_neg (by simp)]
    exact cmpL_take xs i (by simpa using h)
theorem cmp_at {xs ys : List (List UInt8)} {k : Nat} (hx : k < xs.length) (hy : k < ys.length) :
    cmpL (xs.drop k) (ys.drop k) = if cmpB xs[k] ys[k] ≠ 0 then cmpB xs[k] ys[k] else cmpL (xs.drop (k + 1)) (ys.drop (k + 1)) := by
  rw [List.drop_eq_getElem_cons hx, List.drop_eq_getElem_cons hy, cmpL]

/-! ### there and back -/
theorem right_parts {l : List UInt8} (h : rightU l = true) : (pieces l).all partU = true ∧ (pieces l).length ≤ 4 ∧ countV l ≤ 24 := by
  unfold rightU at h
  simp only [Bool.and_eq_true, decide_eq_true_eq] at h
  exact ⟨h.1.1, h.1.2, h.2⟩
theorem join_split {a : List UInt8} (h : rightU a = true) : splitU a = pieces a ∧ joinU (pieces a) = (a, 0) := by
  obtain ⟨h1, h2, h3⟩ := right_parts h
  refine ⟨if_pos h, ?_⟩
  have hp := pieces_pos a
  unfold joinU
  rw [if_neg (by rintro (h | h | h); omega; omega; rw [h1] at h; cases h), join_pieces, if_neg (by omega)]
theorem take_parts {l : List (List UInt8)} (i : Nat) (h : l.all partU = true) : (l.take i).all partU = true := by
  rw [List.all_eq_true] at h ⊢
  exact fun x hx => h x (List.mem_of_mem_take hx)
theorem whole_parts {l : List (List UInt8)} (h : l.all partU = true) : ∀ p ∈ l, brokenU 0 p = none := fun p hp => small_whole p (part_small (List.all_eq_true.1 h p hp))
theorem no_parts {l : List (List UInt8)} (h : l.all partU = true) : ∀ p ∈ l, (46 : UInt8) ∉ p := fun p hp => small_no p (part_small (List.all_eq_true.1 h p hp))
theorem top_back {a : List UInt8} (h : rightU a = true) {i : Nat} (hi : 1 ≤ i) (hl : i < (pieces a).length) :
    joinU ((pieces a).take i) = (joinD ((pieces a).take i), 0) ∧ splitU (joinD ((pieces a).take i)) = (pieces a).take i := by
  obtain ⟨h1, h2, h3⟩ := right_parts h
  have ht := take_parts i h1
  have hlen : ((pieces a).take i).length = i := by rw [List.length_take]; omega
  have hc : countV (joinD ((pieces a).take i)) ≤ 24 := by
    have := count_take (pieces a) i hi (whole_parts h1)
    rw [join_pieces] at this
    omega
  have hne : (pieces a).take i ≠ [] := by intro e; rw [e] at hlen; simp at hlen; omega
  have hp := pieces_join _ hne (no_parts ht)
  constructor
  · unfold joinU
    rw [if_neg (by rintro (h | h | h); omega; omega; rw [ht] at h; cases h), if_neg (by omega)]
  · unfold splitU
    rw [if_pos, hp]
    unfold rightU
    rw [hp, ht, hlen]
    simp only [Bool.and_eq_true, decide_eq_true_eq]
    exact ⟨⟨trivial, by omega⟩, hc⟩
/-- 'Join' by the document: what is joined is a name. -/
theorem right_join {ps : List (List UInt8)} (h0 : 1 ≤ ps.length) (h4 : ps.length ≤ 4) (h : ps.all partU = true) : rightU (joinD ps) = decide (countV (joinD ps) ≤ 24) := by
  have hne : ps ≠ [] := by intro e; rw [e] at h0; simp at h0
  unfold rightU
  rw [pieces_join ps hne (no_parts h), h]
  simp [h4]

end Go.Proofs.Ytipkimmlbdnbnaa
