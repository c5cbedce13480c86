import Derived.Test.YtipkimmlbdnbnaaUtfS
import Derived.Test.YtipkimmlbdnbnaaInts
import Derived.Test.YtipkimmlbdnbnaaFacts
namespace Go.Proofs.Ytipkimmlbdnbnaa
open Go.RowKit

def upperU (r : Int) : Bool := decide ((65 ≤ r ∧ r ≤ 90) ∨ (192 ≤ r ∧ r ≤ 222 ∧ r ≠ 215))
def lowerU (r : Int) : Bool := decide ((97 ≤ r ∧ r ≤ 122) ∨ (223 ≤ r ∧ r ≤ 255 ∧ r ≠ 247))
def letterU (r : Int) : Bool := upperU r || lowerU r
def foldR (r : Int) : Int := if upperU r then r + 32 else r

theorem two_bands (r a b c d x : Int) : (a ≤ r ∧ r ≤ b) ∨ (r < a ∧ r < c) ∨ (r < a ∧ c ≤ r ∧ d < r) ∨ (r < a ∧ c ≤ r ∧ r ≤ d ∧ r = x) ∨ (r < a ∧ c ≤ r ∧ r ≤ d ∧ r ≠ x) ∨
    (a ≤ r ∧ b < r ∧ r < c) ∨ (a ≤ r ∧ b < r ∧ c ≤ r ∧ d < r) ∨ (a ≤ r ∧ b < r ∧ c ≤ r ∧ r ≤ d ∧ r = x) ∨ (a ≤ r ∧ b < r ∧ c ≤ r ∧ r ≤ d ∧ r ≠ x) := by omega

/-- What a walk over numbers alone ends in. -/
def Is (w : World) (v : Value) (en : Ending) (w' : World) : Prop := en = .returned v ∧ w' = w
theorem Is.of {w w' : World} {v v' : Value} (h : v = v') (hw : w' = w) : Is w v' (.returned v) w' := ⟨by rw [h], hw⟩

def sameI (a b : List Int) : Bool := decide (a = b)
theorem sameI_self (a : List Int) : sameI a a = true := by simp [sameI]
theorem same_stepI {xs ys : List Int} {k : Nat} (hx : k < xs.length) (hy : k < ys.length) (ht : xs.take k = ys.take k) (h : (xs[k] != ys[k]) = false) : xs.take (k + 1) = ys.take (k + 1) := by
  have he : xs[k] = ys[k] := by simpa using h
  rw [List.take_add_one, List.take_add_one, ht, List.getElem?_eq_getElem hx, List.getElem?_eq_getElem hy, he]
theorem same_notI {xs ys : List Int} {k : Nat} (hx : k < xs.length) (hy : k < ys.length) (h : (xs[k] != ys[k]) = true) : sameI xs ys = false := by
  refine decide_eq_false fun e => ?_
  subst e
  simp at h
theorem same_allI {xs ys : List Int} {k : Nat} (hx : xs.length ≤ k) (hy : ys.length ≤ k) (ht : xs.take k = ys.take k) : sameI xs ys = true := by
  rw [List.take_of_length_le hx, List.take_of_length_le hy] at ht
  exact decide_eq_true ht

/-- A whole U+FFFD is told from bytes that are none by its own three bytes. -/
theorem mark_prefix (l : List UInt8) (hne : l ≠ []) (h : (Lib.decodeL l).1 = 65533) : Lib.hasPrefix l [239, 191, 189] = !badL l := by
  cases hb : badL l with
  | false =>
    have hg : ¬ ((Lib.decodeL l).1 = 65533 ∧ (Lib.decodeL l).2 = 1) := by simpa [badL] using hb
    have he := Lib.encode_decode l hne hg
    rw [h] at he
    have e3 : Lib.encodeRune ((65533 : Nat) : Int) = [239, 191, 189] := by decide
    rw [e3] at he
    unfold Lib.hasPrefix
    rw [List.isPrefixOf_iff_prefix.2 ⟨l.drop (Lib.decodeL l).2, by rw [he, List.take_append_drop]⟩]
    rfl
  | true =>
    have hg : (Lib.decodeL l).1 = 65533 ∧ (Lib.decodeL l).2 = 1 := by simpa [badL] using hb
    cases hp : Lib.hasPrefix l [239, 191, 189] with
    | false => rfl
    | true =>
      obtain ⟨t, ht⟩ := List.isPrefixOf_iff_prefix.1 hp
      have e3 : Lib.encodeRune (65533 : Int) = [239, 191, 189] := by decide
      have hd := (decode_encode 65533 (by decide) t).1
      rw [e3, ht] at hd
      rw [hd] at hg
      have := hg.2
      simp at this
theorem bad_rune (l : List UInt8) (h : ¬ (Lib.decodeL l).1 = 65533) : badL l = false := by simp [badL, h]
/-- Where the first bytes stand that are no rune's, as an answer; -1: nowhere. -/
def brokenV (l : List UInt8) : Int := match brokenU 0 l with | none => -1 | some p => (p : Int)
def runesV (l : List UInt8) : List Int × Int × Int := match brokenU 0 l with | some p => ([], (p : Int), 4) | none => (runesU l, 0, 0)
def textV (ns : List Int) : List UInt8 × Int × Int := match firstBad 0 ns with | some p => ([], (p : Int), 4) | none => (encU ns, 0, 0)
def countV (l : List UInt8) : Int := match brokenU 0 l with | some _ => -1 | none => ((runesU l).length : Int)
def cutV (l : List UInt8) (n : Int) : List UInt8 := match brokenU 0 l with | some _ => [] | none => encU ((runesU l).take n.toNat)
def foldV (l : List UInt8) : List UInt8 := match brokenU 0 l with | some _ => [] | none => encU ((runesU l).map foldR)
theorem fold_valid (r : Int) (h : validU r = true) : validU (foldR r) = true := by
  simp only [validU, Lib.validRune, decide_eq_true_eq] at h ⊢
  unfold foldR
  split
  · rename_i hu
    simp only [upperU, decide_eq_true_eq] at hu
    omega
  · exact h
theorem fold_twice (r : Int) : foldR (foldR r) = foldR r := by
  cases hu : upperU r with
  | false => simp [foldR, hu]
  | true =>
    have h1 : foldR r = r + 32 := by simp [foldR, hu]
    rw [h1]
    simp only [upperU, decide_eq_true_eq] at hu
    have h2 : upperU (r + 32) = false := decide_eq_false (by omega)
    simp [foldR, h2]
theorem cutV_low (l : List UInt8) (n : Int) (h : n < 1) : cutV l n = [] := by
  unfold cutV
  split
  · rfl
  · rw [Int.toNat_of_nonpos (by omega)]; rfl

end Go.Proofs.Ytipkimmlbdnbnaa
