/-
  What is read in pieces of one width. No program is named here.
-/
import Derived.Test.YtpnifmghbfajiaaDoorHexS
namespace Go.Proofs.YtpnifmghbfajiaaDoor
open Go.RowKit

/-- The midst of what is read. -/
theorem Rd.mid {w : World} {B n b o p q : Nat} {xs : List Value} (h : Rd w B (some ⟨b, o, none⟩) n xs) (hq : p + q ≤ n) : Rd w B (some ⟨b, o + p, none⟩) q ((xs.drop p).take q) := by
  refine ⟨by rw [List.length_take, List.length_drop, h.1]; omega, fun h0 => ?_⟩
  obtain ⟨b', o', e, hb, hc⟩ := h.2 (by omega)
  injection e with e
  injection e with e1 e2
  subst e1 e2
  refine ⟨b, o + p, rfl, hb, fun j u hu => ?_⟩
  rw [List.getElem?_take] at hu
  split at hu
  · rw [List.getElem?_drop] at hu
    rw [Nat.add_assoc]
    exact hc _ u hu
  · cases hu
theorem Rd.cut {w : World} {B n b o p q m k : Nat} {xs : List UInt8} (h : Rd w B (some ⟨b, o, none⟩) n (Byt xs)) (hp : p = k * m) (hq : q = min m (n - p)) (hpn : p ≤ n) : Rd w B (some ⟨b, o + p, none⟩) q (Byt (cutU m xs k)) := by
  have := h.mid (p := p) (q := q) (by omega)
  have e : Byt (cutU m xs k) = ((Byt xs).drop p).take q := by
    unfold cutU
    rw [Byt_take, Byt_drop, ← hp, List.take_eq_take_min, List.length_drop, h.1, hq]
  rw [e]; exact this
theorem num_of {m n k p : Nat} {xs : List UInt8} (hx : xs.length = n) (hm : 0 < m) (hp : p = k * m) (h1 : ¬ p < n) (h2 : p < n + m) : k = numU m xs := by
  have a1 := (num_lt (l := xs) (k := k) hm)
  rcases k with _ | k
  · have : ¬ 0 < numU m xs := fun h => h1 (by rw [hp, ← hx]; exact a1.2 h)
    omega
  · have a2 := (num_lt (l := xs) (k := k) hm)
    rw [Nat.succ_mul] at hp
    have b1 : k < numU m xs := a2.1 (by rw [hx]; omega)
    have b2 : ¬ k + 1 < numU m xs := fun h => by
      have := a1.2 h
      rw [Nat.succ_mul, hx] at this
      omega
    omega

end Go.Proofs.YtpnifmghbfajiaaDoor
