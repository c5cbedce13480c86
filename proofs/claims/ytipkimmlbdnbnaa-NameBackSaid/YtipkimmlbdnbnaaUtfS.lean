/-
  Texts and their runes, plain mathematics: bytes read rune by rune, runes written as bytes. No program is named here.
-/
import Derived.Lib.MapLaws
import Derived.Lib.RuneBytes
import Derived.Laws.Cover4
import Derived.Laws.RangeAny
import Derived.Laws.Runes
import Derived.Laws.IdiomStrings
namespace Go.Proofs.Ytipkimmlbdnbnaa
open Go.Lib (decodeL decodeL_N decodeN decodeN_shape encodeRune encodeRuneZ encodeRuneZ_one encodeRuneZ_two encodeRuneZ_three encodeRuneZ_four encode_decode decodeL_le decodeL_width decodeL_drop takeA takeB takeC takeD toByte)

/-- The bytes begin with no rune's. -/
def badL (l : List UInt8) : Bool := decide ((decodeL l).1 = 65533 ∧ (decodeL l).2 = 1)
/-- Every rune that a range tells, fuel first. -/
def runesG : Nat → List UInt8 → List Int
  | 0, _ => []
  | f + 1, l => if l = [] then [] else ((decodeL l).1 : Int) :: runesG f (l.drop (decodeL l).2)
/-- Where the first bytes stand that are no rune's, counted from p. -/
def brokenG : Nat → Nat → List UInt8 → Option Nat
  | 0, _, _ => none
  | f + 1, p, l => if l = [] then none else if badL l then some p else brokenG f (p + (decodeL l).2) (l.drop (decodeL l).2)
def runesU (l : List UInt8) : List Int := runesG l.length l
def brokenU (p : Nat) (l : List UInt8) : Option Nat := brokenG l.length p l
/-- The bytes of runes. -/
def encU (ns : List Int) : List UInt8 := ns.flatMap encodeRune
def validU (r : Int) : Bool := Lib.validRune r
def firstBad : Nat → List Int → Option Nat
  | _, [] => none
  | i, r :: t => if validU r then firstBad (i + 1) t else some i

theorem drop_less (l : List UInt8) (hne : l ≠ []) : (l.drop (decodeL l).2).length < l.length := by
  have h1 := decodeL_width l
  have h2 : 0 < l.length := List.length_pos_iff.2 hne
  rw [List.length_drop]; omega

theorem runesG_nil : ∀ f, runesG f [] = []
  | 0 => rfl
  | _ + 1 => by simp [runesG]
theorem runesG_fuel : ∀ (n m : Nat) (l : List UInt8), l.length ≤ n → l.length ≤ m → runesG n l = runesG m l
  | 0, m, l, hn, _ => by
    obtain rfl : l = [] := List.eq_nil_of_length_eq_zero (by omega)
    rw [runesG_nil, runesG_nil]
  | n + 1, 0, l, _, hm => by
    obtain rfl : l = [] := List.eq_nil_of_length_eq_zero (by omega)
    rw [runesG_nil, runesG_nil]
  | n + 1, m + 1, l, hn, hm => by
    by_cases hne : l = []
    · subst hne; rw [runesG_nil, runesG_nil]
    · have hl := drop_less l hne
      simp only [runesG, if_neg hne]
      rw [runesG_fuel n m _ (by omega) (by omega)]
theorem runesU_nil : runesU [] = [] := rfl
theorem runesU_step (l : List UInt8) (hne : l ≠ []) : runesU l = ((decodeL l).1 : Int) :: runesU (l.drop (decodeL l).2) := by
  have hl := drop_less l hne
  have h2 : 0 < l.length := List.length_pos_iff.2 hne
  unfold runesU
  obtain ⟨n, hn⟩ : ∃ n, l.length = n + 1 := ⟨l.length - 1, by omega⟩
  rw [hn]
  simp only [runesG, if_neg hne]
  rw [runesG_fuel n _ _ (by omega) (Nat.le_refl _)]
theorem runesU_length : ∀ (n : Nat) (l : List UInt8), l.length ≤ n → (runesU l).length ≤ l.length
  | 0, l, h => by
    obtain rfl : l = [] := List.eq_nil_of_length_eq_zero (by omega)
    simp [runesU_nil]
  | n + 1, l, h => by
    by_cases hne : l = []
    · subst hne; simp [runesU_nil]
    · have hl := drop_less l hne
      have := runesU_length n (l.drop (decodeL l).2) (by omega)
      rw [runesU_step l hne, List.length_cons]; omega

theorem brokenG_nil : ∀ f p, brokenG f p [] = none
  | 0, _ => rfl
  | _ + 1, _ => by simp [brokenG]
theorem brokenG_fuel : ∀ (n m p : Nat) (l : List UInt8), l.length ≤ n → l.length ≤ m → brokenG n p l = brokenG m p l
  | 0, m, p, l, hn, _ => by
    obtain rfl : l = [] := List.eq_nil_of_length_eq_zero (by omega)
    rw [brokenG_nil, brokenG_nil]
  | n + 1, 0, p, l, _, hm => by
    obtain rfl : l = [] := List.eq_nil_of_length_eq_zero (by omega)
    rw [brokenG_nil, brokenG_nil]
  | n + 1, m + 1, p, l, hn, hm => by
    by_cases hne : l = []
    · subst hne; rw [brokenG_nil, brokenG_nil]
    · have hl := drop_less l hne
      simp only [brokenG, if_neg hne]
      rw [brokenG_fuel n m _ _ (by omega) (by omega)]
theorem brokenU_nil (p : Nat) : brokenU p [] = none := rfl
theorem brokenU_step (p : Nat) (l : List UInt8) (hne : l ≠ []) : brokenU p l = if badL l then some p else brokenU (p + (decodeL l).2) (l.drop (decodeL l).2) := by
  have hl := drop_less l hne
  have h2 : 0 < l.length := List.length_pos_iff.2 hne
  unfold brokenU
  obtain ⟨n, hn⟩ : ∃ n, l.length = n + 1 := ⟨l.length - 1, by omega⟩
  rw [hn]
  simp only [brokenG, if_neg hne]
  rw [brokenG_fuel n _ _ _ (by omega) (Nat.le_refl _)]
/-- Where it stands does not say whether it stands. -/
theorem brokenU_at : ∀ (n p q : Nat) (l : List UInt8), l.length ≤ n → brokenU p l = none → brokenU q l = none
  | 0, p, q, l, h, _ => by
    obtain rfl : l = [] := List.eq_nil_of_length_eq_zero (by omega)
    rfl
  | n + 1, p, q, l, h, hb => by
    by_cases hne : l = []
    · subst hne; rfl
    · have hl := drop_less l hne
      rw [brokenU_step _ l hne] at hb ⊢
      split
      · rename_i hbad; rw [if_pos hbad] at hb; cases hb
      · rename_i hbad
        rw [if_neg hbad] at hb
        exact brokenU_at n _ _ _ (by omega) hb
theorem brokenU_lt : ∀ (n p q : Nat) (l : List UInt8), l.length ≤ n → brokenU p l = some q → p ≤ q ∧ q < p + l.length
  | 0, p, q, l, h, hb => by
    obtain rfl : l = [] := List.eq_nil_of_length_eq_zero (by omega)
    cases hb
  | n + 1, p, q, l, h, hb => by
    by_cases hne : l = []
    · subst hne; cases hb
    · have hl := drop_less l hne
      have h2 : 0 < l.length := List.length_pos_iff.2 hne
      have hw := decodeL_le l hne
      rw [brokenU_step _ l hne] at hb
      split at hb
      · injection hb with hb; omega
      · have := brokenU_lt n _ _ _ (by omega) hb
        rw [List.length_drop] at this
        omega

/-- A rune that may be, written and read. -/
theorem decode_encode (r : Int) (hv : validU r = true) (t : List UInt8) : decodeL (encodeRune r ++ t) = (r.toNat, (encodeRune r).length) ∧ ((r.toNat = 65533 ∧ (encodeRune r).length = 1) → False) := by
  have hv' : (0 ≤ r ∧ r < 55296) ∨ (57343 < r ∧ r ≤ 1114111) := by simpa [validU, Lib.validRune] using hv
  obtain ⟨c, rfl⟩ : ∃ c : Nat, r = (c : Int) := ⟨r.toNat, by omega⟩
  have hb : ∀ (z : Int) (k : Nat), z = (k : Int) → k < 256 → (z.toNat.toUInt8).toNat = k := by
    intro z k h0 h1
    subst h0
    simp; omega
  rw [decodeL_N]
  unfold encodeRune
  by_cases h : c < 128
  · rw [encodeRuneZ_one (by omega) (by omega)]
    simp only [List.map_cons, List.map_nil, List.cons_append, List.nil_append, List.getD_cons_zero, List.length_cons, List.length_nil]
    rw [hb c c rfl (by omega)]
    refine ⟨?_, fun h' => by omega⟩
    unfold decodeN
    rw [if_pos (by omega)]
    rfl
  · by_cases h2 : c < 2048
    · rw [encodeRuneZ_two (by omega) (by omega)]
      simp only [List.map_cons, List.map_nil, List.cons_append, List.nil_append, List.getD_cons_zero, List.getD_cons_succ, List.length_cons, List.length_nil]
      rw [hb (192 + (c : Int) / 64) (192 + c / 64) (by omega) (by omega), hb (128 + (c : Int) % 64) (128 + c % 64) (by omega) (by omega)]
      refine ⟨?_, fun h' => by have h9 := h'.2; revert h9; decide⟩
      unfold decodeN
      rw [if_neg (by omega), if_pos ⟨by omega, by omega, by omega⟩, if_pos (by omega)]
      refine Prod.ext ?_ rfl
      simp only [Int.toNat_natCast]; omega
    · by_cases h3 : c < 65536
      · rw [encodeRuneZ_three (by omega)]
        simp only [List.map_cons, List.map_nil, List.cons_append, List.nil_append, List.getD_cons_zero, List.getD_cons_succ, List.length_cons, List.length_nil]
        rw [hb (224 + (c : Int) / 4096) (224 + c / 4096) (by omega) (by omega), hb (128 + (c : Int) / 64 % 64) (128 + c / 64 % 64) (by omega) (by omega), hb (128 + (c : Int) % 64) (128 + c % 64) (by omega) (by omega)]
        refine ⟨?_, fun h' => by have h9 := h'.2; revert h9; decide⟩
        unfold decodeN
        rw [if_neg (by omega), if_neg (by omega), if_pos ⟨by omega, ⟨by omega, by omega⟩, by omega, by omega⟩, if_pos (by omega)]
        refine Prod.ext ?_ rfl
        simp only [Int.toNat_natCast]; omega
      · rw [encodeRuneZ_four (by omega) (by omega)]
        simp only [List.map_cons, List.map_nil, List.cons_append, List.nil_append, List.getD_cons_zero, List.getD_cons_succ, List.length_cons, List.length_nil]
        rw [hb (240 + (c : Int) / 262144) (240 + c / 262144) (by omega) (by omega), hb (128 + (c : Int) / 4096 % 64) (128 + c / 4096 % 64) (by omega) (by omega), hb (128 + (c : Int) / 64 % 64) (128 + c / 64 % 64) (by omega) (by omega), hb (128 + (c : Int) % 64) (128 + c % 64) (by omega) (by omega)]
        refine ⟨?_, fun h' => by have h9 := h'.2; revert h9; decide⟩
        unfold decodeN
        rw [if_neg (by omega), if_neg (by omega), if_neg (by omega), if_pos ⟨by omega, ⟨by omega, by omega⟩, ⟨by omega, by omega⟩, by omega, by omega⟩, if_pos (by omega)]
        refine Prod.ext ?_ rfl
        simp only [Int.toNat_natCast]; omega

theorem enc_pos (r : Int) : 1 ≤ (encodeRune r).length ∧ (encodeRune r).length ≤ 4 := by
  have := Lib.encodeRuneZ_length r
  simpa [encodeRune] using this
theorem encU_cons (r : Int) (t : List Int) : encU (r :: t) = encodeRune r ++ encU t := rfl
theorem encU_append (a b : List Int) : encU (a ++ b) = encU a ++ encU b := by simp [encU]

/-- RUNES ARE READ OF THEIR TEXT AS THEY WERE. -/
theorem runes_enc (ns : List Int) (hv : ∀ r ∈ ns, validU r = true) : runesU (encU ns) = ns := by
  induction ns with
  | nil => rfl
  | cons r t ih =>
    have h1 := (decode_encode r (hv r (by simp)) (encU t)).1
    have h2 := enc_pos r
    have h0 : 0 ≤ r := by
      have := hv r (by simp)
      simp only [validU, Lib.validRune, decide_eq_true_eq] at this; omega
    rw [encU_cons, runesU_step _ (List.length_pos_iff.1 (by rw [List.length_append]; omega)), h1]
    simp only [List.drop_left]
    rw [ih fun r' hr' => hv r' (by simp [hr'])]
    congr 1
    omega
theorem whole_enc (p : Nat) (ns : List Int) (hv : ∀ r ∈ ns, validU r = true) : brokenU p (encU ns) = none := by
  induction ns generalizing p with
  | nil => rfl
  | cons r t ih =>
    obtain ⟨h1, h3⟩ := decode_encode r (hv r (by simp)) (encU t)
    have h2 := enc_pos r
    rw [encU_cons, brokenU_step _ _ (List.length_pos_iff.1 (by rw [List.length_append]; omega))]
    rw [if_neg (by unfold badL; rw [h1]; simpa using h3), h1]
    simp only [List.drop_left]
    exact ih _ fun r' hr' => hv r' (by simp [hr'])
/-- A rune that a range tells may be. -/
theorem decode_valid (l : List UInt8) : validU ((decodeL l).1 : Int) = true := by
  rw [decodeL_N]
  have k0 := (l.getD 0 0).toNat_lt
  simp only [validU, Lib.validRune, decide_eq_true_eq]
  rcases decodeN_shape l.length (l.getD 0 0).toNat (l.getD 1 0).toNat (l.getD 2 0).toNat (l.getD 3 0).toNat with ⟨c, e⟩ | ⟨c1, c2, c3, cv, e⟩ | ⟨c1, c2, c3, c4, cv, cs, e⟩ | ⟨c1, c2, c3, c4, c5, cv, cw, e⟩ | e
  all_goals (rw [e]; dsimp only; omega)
theorem runes_valid : ∀ (n : Nat) (l : List UInt8), l.length ≤ n → ∀ r ∈ runesU l, validU r = true
  | 0, l, h => by
    obtain rfl : l = [] := List.eq_nil_of_length_eq_zero (by omega)
    intro r hr; cases hr
  | n + 1, l, h => by
    by_cases hne : l = []
    · subst hne; intro r hr; cases hr
    · have hl := drop_less l hne
      rw [runesU_step l hne]
      intro r hr
      rcases List.mem_cons.1 hr with rfl | hr
      · exact decode_valid l
      · exact runes_valid n _ (by omega) r hr
/-- A whole text is its runes' bytes; the first ones' bytes begin it. -/
theorem enc_runes : ∀ (n : Nat) (l : List UInt8), l.length ≤ n → ∀ p, brokenU p l = none → encU (runesU l) = l ∧ ∀ k, ∃ j, encU ((runesU l).take k) = l.take j
  | 0, l, h, p, _ => by
    obtain rfl : l = [] := List.eq_nil_of_length_eq_zero (by omega)
    exact ⟨rfl, fun k => ⟨0, by simp [runesU_nil, encU]⟩⟩
  | n + 1, l, h, p, hb => by
    by_cases hne : l = []
    · subst hne; exact ⟨rfl, fun k => ⟨0, by simp [runesU_nil, encU]⟩⟩
    · have hl := drop_less l hne
      rw [brokenU_step _ l hne] at hb
      split at hb
      · cases hb
      · rename_i hbad
        have hg : ¬ ((decodeL l).1 = 65533 ∧ (decodeL l).2 = 1) := by unfold badL at hbad; simpa using hbad
        have he := encode_decode l hne hg
        obtain ⟨h1, h2⟩ := enc_runes n _ (by omega) _ hb
        rw [runesU_step l hne, encU_cons, h1, he, List.take_append_drop]
        refine ⟨rfl, fun k => ?_⟩
        match k with
        | 0 => exact ⟨0, by simp [encU]⟩
        | k + 1 =>
          obtain ⟨j, hj⟩ := h2 k
          refine ⟨(decodeL l).2 + j, ?_⟩
          rw [List.take_succ_cons, encU_cons, hj, he, List.take_add]

theorem bt (z : Int) (k : Nat) (h : z = (k : Int)) : z.toNat.toUInt8 = UInt8.ofNat k := by subst h; rfl
/-- The model's own words. -/
theorem encode_eq (r : Int) : Utf8.encode r = ⟨(encodeRune r).toArray⟩ := by
  unfold Utf8.encode encodeRune
  by_cases hv : (0 ≤ r ∧ r < 55296) ∨ (57343 < r ∧ r ≤ 1114111)
  · have hv' : Utf8.valid r = true := (validRune_eq r).trans (decide_eq_true hv)
    obtain ⟨c, rfl⟩ : ∃ c : Nat, r = (c : Int) := ⟨r.toNat, by omega⟩
    simp only [hv', if_true, Int.toNat_natCast]
    split
    · rw [encodeRuneZ_one (by omega) (by omega)]; rfl
    · split
      · rw [encodeRuneZ_two (by omega) (by omega)]
        simp only [List.map_cons, List.map_nil]
        rw [bt (192 + (c : Int) / 64) (192 + c / 64) (by omega), bt (128 + (c : Int) % 64) (128 + c % 64) (by omega)]
      · split
        · rw [encodeRuneZ_three (by omega)]
          simp only [List.map_cons, List.map_nil]
          rw [bt (224 + (c : Int) / 4096) (224 + c / 4096) (by omega), bt (128 + (c : Int) / 64 % 64) (128 + c / 64 % 64) (by omega), bt (128 + (c : Int) % 64) (128 + c % 64) (by omega)]
        · rw [encodeRuneZ_four (by omega) (by omega)]
          simp only [List.map_cons, List.map_nil]
          rw [bt (240 + (c : Int) / 262144) (240 + c / 262144) (by omega), bt (128 + (c : Int) / 4096 % 64) (128 + c / 4096 % 64) (by omega), bt (128 + (c : Int) / 64 % 64) (128 + c / 64 % 64) (by omega), bt (128 + (c : Int) % 64) (128 + c % 64) (by omega)]
  · have hv' : Utf8.valid r = false := (validRune_eq r).trans (decide_eq_false hv)
    simp only [hv', Bool.false_eq_true, if_false]
    rw [Lib.encodeRuneZ_bad (by omega)]
    decide
theorem foldl_enc (ns : List Int) : ∀ s : ByteArray, (ns.foldl (fun r n => r ++ Utf8.encode n) s).data.toList = s.data.toList ++ encU ns := by
  induction ns with
  | nil => intro s; simp [encU]
  | cons n ns ih =>
    intro s
    rw [List.foldl_cons, ih, encode_eq, encU_cons]
    simp
theorem runesBytes_eq (ns : List Int) : runesBytes ns = ⟨(encU ns).toArray⟩ := by
  have h := foldl_enc ns ByteArray.empty
  have : (runesBytes ns).data.toList = encU ns := by simpa [runesBytes] using h
  cases hr : runesBytes ns with
  | mk d => rw [hr] at this; simp [← this]
theorem convRunes (s : ByteArray) : ∀ (bound i : Nat) (acc : Array Value), s.size ≤ i + bound →
    Conv.runesFrom s bound i acc = acc ++ ((runesU (s.data.toList.drop i)).map (Value.int .i32)).toArray
  | 0, i, acc, h => by
    have : s.data.toList.drop i = [] := List.drop_eq_nil_of_le (by simpa using h)
    rw [this]; simp [Conv.runesFrom, runesU_nil]
  | bound + 1, i, acc, h => by
    unfold Conv.runesFrom
    split
    · rename_i hi
      have hw := decodeL_width (s.data.toList.drop i)
      have hne : s.data.toList.drop i ≠ [] := by
        intro h'; have := congrArg List.length h'; simp at this; have e : s.data.size = s.size := rfl; omega
      rw [runesU_step _ hne, List.drop_drop, decodeL_drop] at *
      show Conv.runesFrom s bound (i + (Utf8.decode s i).2) (acc.push (.int .i32 ((Utf8.decode s i).1 : Int))) = _
      rw [convRunes s bound _ _ (by omega)]
      simp
    · rename_i hi
      have : s.data.toList.drop i = [] := List.drop_eq_nil_of_le (by simpa using Nat.le_of_not_lt hi)
      rw [this]; simp [runesU_nil]

theorem firstBad_none : ∀ (i : Nat) (ns : List Int), firstBad i ns = none → ∀ r ∈ ns, validU r = true
  | _, [], _ => fun r hr => by cases hr
  | i, a :: t, h => by
    unfold firstBad at h
    split at h
    · rename_i hv
      intro r hr
      rcases List.mem_cons.1 hr with rfl | hr
      · exact hv
      · exact firstBad_none (i + 1) t h r hr
    · cases h
theorem firstBad_of : ∀ (i : Nat) (ns : List Int), (∀ r ∈ ns, validU r = true) → firstBad i ns = none
  | _, [], _ => rfl
  | i, a :: t, h => by
    unfold firstBad
    rw [if_pos (h a (by simp))]
    exact firstBad_of (i + 1) t fun r hr => h r (by simp [hr])

end Go.Proofs.Ytipkimmlbdnbnaa
