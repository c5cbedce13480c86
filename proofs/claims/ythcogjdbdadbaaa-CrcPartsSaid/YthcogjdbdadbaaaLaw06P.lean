import Derived.Test.YthcogjdbdadbaaaLaw06
import Derived.Test.YthcogjdbdadbaaaRefJoin
namespace Go.Proofs.Ythcogjdbdadbaaa
open Go.RowKit

set_option maxHeartbeats 1600000 in
theorem crcParts_walk (n cap m d : Nat) (A C : Option Addr) (xs ys : List UInt8) (w : World) (hxo : SlOK A n cap) (hx : Rd w w.heap.size A n (Byt xs)) (hyo : SlOK C m d) (hy : Rd w w.heap.size C m (Byt ys)) :
    Calls Try.prog 4 #[.slice A n cap, .slice C m d] w (Ans w (.bool true)) := by
  have hsp : 300 < (n : Int) ∨ ((n : Int) ≤ 300 ∧ 300 < (m : Int)) ∨ ((n : Int) ≤ 300 ∧ (m : Int) ≤ 300) := by omega
  rcases hsp with h | ⟨h, h'⟩ | ⟨h, h'⟩
  · go_enter Try.func4, Try.ntmps4
    go_wp2_with fail
    refine (alive6_any _).mono ?_
    rintro e w1 ⟨rfl, hb⟩
    go_wp2
    go_ret
    exact ⟨rfl, hb⟩
  · have n1 : ¬ (300 < (n : Int)) := by omega
    go_enter Try.func4, Try.ntmps4
    go_wp2_with fail
    refine (alive6_any _).mono ?_
    rintro e w1 ⟨rfl, hb⟩
    go_wp2
    go_ret
    exact ⟨rfl, hb⟩
  · have n1 : ¬ (300 < (n : Int)) := by omega
    have n2 : decide (300 < (m : Int)) = false := decide_eq_false (by omega)
    have hl : (xs ++ ys).length = n + m := by rw [List.length_append, hx.bytes, hy.bytes]
    obtain ⟨L, hL⟩ : ∃ L, xs ++ ys = L := ⟨_, rfl⟩
    have hj := rjoin_any w.heap.size n cap m d A C xs ys w hx hy hxo hyo (Nat.le_refl _) (by omega)
    rw [hL] at hl hj
    have Hl : Hid (L.length ≤ 8796093022208) := Lib.hid (by rw [hl]; omega)
    clear hl
    have h1 := fun W hx hB => cof_any w.heap.size n cap A xs W hx hB (by omega)
    have h3 := fun W hy hB => cmore_any w.heap.size m d (crcU xs) C ys W hy hB (by omega) (crcU_lt xs)
    rw [← crcU_parts, hL] at h3
    clear hL
    generalize crcU xs = s at h1 h3
    go_enter Try.func4, Try.ntmps4
    go_wp2_with fail
    refine hj.mono ?_
    rintro e w1 ⟨A1, c1, rfl, hown1, hb1⟩
    have r1 := Rd.of_own hown1
    have hx1 := hx.below hb1
    have hy1 := hy.below hb1
    have h2 := cof_any _ _ c1 A1 L w1 r1 (Nat.le_refl _) Hl.out
    generalize crcU L = t at h2 h3
    go_wp2_with fail
    refine h2.mono ?_
    rintro e w2 ⟨rfl, hb2⟩
    have Hb2 := Lib.hid (bon hb1 hb2); clear hb1 hb2
    have hx2 := hx.below Hb2.out
    go_wp2_with fail
    refine (h1 _ hx2 Hb2.out.size).mono ?_
    rintro e w3 ⟨rfl, hb3⟩
    have Hb3 := Lib.hid (bon Hb2.out hb3); clear hb3
    have hy3 := hy.below Hb3.out
    go_wp2_with fail
    refine (h3 _ hy3 Hb3.out.size).mono ?_
    rintro e w4 ⟨rfl, hb4⟩
    have Hb4 := Lib.hid (bon Hb3.out hb4); clear hb4
    go_wp2_with fail
    refine (alive6_any _).mono ?_
    rintro e w5 ⟨rfl, hb5⟩
    go_wp2
    go_ret
    exact ⟨rfl, bon Hb4.out hb5⟩

end Go.Proofs.Ythcogjdbdadbaaa
