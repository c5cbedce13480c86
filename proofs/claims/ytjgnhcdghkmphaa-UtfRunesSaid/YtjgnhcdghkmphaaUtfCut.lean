import Derived.Test.YtjgnhcdghkmphaaUtfRunes
namespace Go.Proofs.Ytjgnhcdghkmphaa
open Go.RowKit

theorem runesV_ok {l : List UInt8} (h : brokenU 0 l = none) : runesV l = (runesU l, 0, 0) := by unfold runesV; rw [h]
theorem runesV_bad {l : List UInt8} {p : Nat} (h : brokenU 0 l = some p) : runesV l = ([], (p : Int), 4) := by unfold runesV; rw [h]
theorem cutV_ok {l : List UInt8} {n : Int} (h : brokenU 0 l = none) : cutV l n = encU ((runesU l).take n.toNat) := by unfold cutV; rw [h]
theorem cutV_bad {l : List UInt8} {n : Int} {p : Nat} (h : brokenU 0 l = some p) : cutV l n = [] := by unfold cutV; rw [h]

set_option maxHeartbeats 1600000 in
theorem cut_any (s : ByteArray) (n : Int) (w : World) (hs : s.size ≤ 70368744177664) :
    Calls Try.prog 14 #[.string s, .int .i64 n] w (Ans w (.string ⟨(cutV s.data.toList n).toArray⟩)) := by
  have hr := runes_any s w hs
  have hf := runes_few s
  cases h : brokenU 0 s.data.toList with
  | some p =>
    rw [runesV_bad h] at hr
    rw [cutV_bad h]
    clear h hf
    go_enter Try.func14, Try.ntmps14
    go_wp2_with fail
    refine hr.mono ?_
    rintro e w1 ⟨A, c, rfl, _, hb1⟩
    go_wp2
    go_ret
    exact ⟨rfl, hb1⟩
  | none =>
    by_cases hn : n < 1
    · rw [runesV_ok h] at hr
      rw [cutV_low _ _ hn]
      clear h hf
      go_enter Try.func14, Try.ntmps14
      go_wp2_with fail
      refine hr.mono ?_
      rintro e w1 ⟨A, c, rfl, _, hb1⟩
      go_wp2
      go_ret
      exact ⟨rfl, hb1⟩
    · rw [runesV_ok h] at hr
      rw [cutV_ok h]
      clear h
      obtain ⟨m, rfl⟩ := Int.eq_ofNat_of_zero_le (show 0 ≤ n by omega)
      rw [Int.toNat_natCast]
      obtain ⟨k, hk, hmin, hte⟩ : ∃ k : Nat, k ≤ (runesU s.data.toList).length ∧ min (m : Int) ((runesU s.data.toList).length : Int) = (k : Int) ∧ (runesU s.data.toList).take m = (runesU s.data.toList).take k := by
        by_cases hle : m ≤ (runesU s.data.toList).length
        · exact ⟨m, hle, by omega, rfl⟩
        · exact ⟨(runesU s.data.toList).length, Nat.le_refl _, by omega, by rw [List.take_length, List.take_of_length_le (by omega)]⟩
      rw [hte]
      clear hte
      go_enter Try.func14, Try.ntmps14
      go_wp2_with fail
      refine hr.mono ?_
      rintro e w1 ⟨A, c, rfl, hown, hb1⟩
      obtain ⟨A', c', he, hc1, hc2⟩ := own_form hown
      injection he with he1 he2 he3
      subst he1 he3
      dsimp only at hown hc1
      have hx := (Rd.of_own hown).head hk
      rw [← Ris_take] at hx
      have hcv := hx.runes (P := Try.prog) (c := c) 22 9 21 Try.underlying22 Try.underlying21 Try.underlying9
      rw [runesBytes_eq] at hcv
      generalize hR : (runesU s.data.toList).length = R at *
      unfold maxLen at hc2
      go_wp2
      go_ret
      exact ⟨rfl, hb1⟩

end Go.Proofs.Ytjgnhcdghkmphaa
