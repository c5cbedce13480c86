import Derived.Test.YtjgnhcdghkmphaaRefUtfRest
import Derived.Test.YtjgnhcdghkmphaaUtfCount
import Derived.Test.YtjgnhcdghkmphaaLaw02Same
namespace Go.Proofs.Ytjgnhcdghkmphaa
open Go.RowKit

set_option maxHeartbeats 1600000 in
theorem alive2_any (w : World) : Calls Try.prog 6 #[] w (Ans w (.bool true)) := by
  have hr := runes_any ⟨#[97, 195, 169]⟩ w (by decide)
  rw [show runesV (⟨#[97, 195, 169]⟩ : ByteArray).data.toList = ([97, 233], 0, 0) by decide +kernel] at hr
  go_enter Try.func6, Try.ntmps6
  go_wp2_with fail
  refine hr.mono ?_
  rintro e w1 ⟨A, c, rfl, hown, hb1⟩
  dsimp only at hown
  have hf := fold_any ⟨#[65, 195, 132, 55]⟩ w1 (by decide)
  rw [show foldV (⟨#[65, 195, 132, 55]⟩ : ByteArray).data.toList = [97, 195, 164, 55] by decide +kernel] at hf
  go_wp2_with fail
  refine hf.mono ?_
  rintro e w2 ⟨rfl, hb2⟩
  obtain ⟨b, o, hA, hb, hc⟩ := ((Rd.of_own hown).below hb2).int (j := 1) (by decide) (by decide)
  subst hA
  go_wp2
  go_ret
  exact ⟨rfl, bon hb1 hb2⟩

theorem rd_few {w : World} {base : Nat} {e : TypeId} {A : Option Addr} {n c : Nat} {xs : List Value} (h : w.ownsRow base e 1 (.slice A n c) n xs) : n ≤ maxLen := by
  obtain ⟨_, _, e, h1, h2⟩ := own_form h
  injection e with _ _ e
  omega

set_option maxHeartbeats 3200000 in
theorem utfRunes_walk (B m c : Nat) (A : Option Addr) (xs : List Int) (s : ByteArray) (w : World) (hx : Rd w B A m (Ris .i32 xs)) (hB : B ≤ w.heap.size) :
    Calls Try.prog 3 #[.string s, .slice A m c] w (Ans w (.bool true)) := by
  have hsp : 300 < (s.size : Int) ∨ ((s.size : Int) ≤ 300 ∧ 100 < (m : Int)) ∨ ((s.size : Int) ≤ 300 ∧ (m : Int) ≤ 100) := by omega
  rcases hsp with h | ⟨h, h'⟩ | ⟨h, h'⟩
  · go_enter Try.func3, Try.ntmps3
    go_wp2_with fail
    refine (alive2_any _).mono ?_
    rintro e w1 ⟨rfl, hb⟩
    go_wp2
    go_ret
    exact ⟨rfl, hb⟩
  · have n1 : ¬ (300 < (s.size : Int)) := by omega
    clear h
    go_enter Try.func3, Try.ntmps3
    go_wp2_with fail
    refine (alive2_any _).mono ?_
    rintro e w1 ⟨rfl, hb⟩
    go_wp2
    go_ret
    exact ⟨rfl, hb⟩
  · have hs : s.size ≤ 300 := by omega
    have hm : m ≤ 100 := by omega
    have n1 : ¬ (300 < (s.size : Int)) := by omega
    have n2 : decide (100 < (m : Int)) = false := decide_eq_false (by omega)
    clear h h'
    have hr := fun w' => runes_any s w' (by omega)
    have hr' := fun w' => rrunes_any s w' (by omega)
    generalize runesV s.data.toList = V at hr hr'
    obtain ⟨R, v2, v3⟩ := V
    have ht := fun w' (h : Rd w' B A m (Ris .i32 xs)) => text_any B m c A xs w' h (by unfold maxLen; omega)
    have ht' := fun w' (h : Rd w' B A m (Ris .i32 xs)) (h2 : B ≤ w'.heap.size) => rtext_any B m c A xs w' h (by omega) h2
    generalize textV xs = V at ht ht'
    obtain ⟨T, t2, t3⟩ := V
    dsimp only at ht ht'
    go_enter Try.func3, Try.ntmps3
    go_wp2_with fail
    refine (hr w).mono ?_
    rintro e w1 ⟨A1, c1, rfl, hown1, hb1⟩
    dsimp only at hown1
    have hx1 := hx.below (hb1.mono hB)
    have hB1 := Nat.le_trans hB hb1.size
    have hr1 := Rd.of_own hown1
    go_wp2_with fail
    refine (hr' w1).mono ?_
    rintro e w2 ⟨A2, c2, rfl, hown2, hb2⟩
    dsimp only at hown2
    have hx2 := hx1.below (hb2.mono hB1)
    have hB2 := Nat.le_trans hB1 hb2.size
    have hr1' := (hr1.below hb2).wider hb2.size
    have hr2 := Rd.of_own hown2
    have hR := rd_few hown2
    go_wp2_with fail
    refine (ht w2 hx2).mono ?_
    rintro e w3 ⟨rfl, hb3⟩
    have hx3 := hx2.below (hb3.mono hB2)
    have hB3 := Nat.le_trans hB2 hb3.size
    go_wp2_with fail
    refine (ht' w3 hx3 hB3).mono ?_
    rintro e w4 ⟨rfl, hb4⟩
    go_wp2_with fail
    refine (same_any32 w2.heap.size _ _ _ _ _ _ _ _ w4 ((hr1'.below hb3).below (hb4.mono hb3.size)) ((hr2.below hb3).below (hb4.mono hb3.size)) hR hR).mono ?_
    rintro e w5 ⟨rfl, hb5⟩
    rw [sameI_self]
    go_wp2_with fail
    refine (alive2_any _).mono ?_
    rintro e w6 ⟨rfl, hb6⟩
    go_wp2
    go_ret
    exact ⟨rfl, bon (bon (bon (bon (bon hb1 hb2) hb3) hb4) hb5) hb6⟩

end Go.Proofs.Ytjgnhcdghkmphaa
