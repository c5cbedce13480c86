import Derived.Test.YtmhmahimihhikaaRow
import Derived.Test.YtmhmahimihhikaaAlive1
import Derived.Test.YtmhmahimihhikaaNumPad
import Derived.Test.YtmhmahimihhikaaRefPad
import Derived.Test.YtmhmahimihhikaaNumXor
import Derived.Test.YtmhmahimihhikaaRefXor
import Derived.Test.YtmhmahimihhikaaNumSame
import Derived.Test.YtmhmahimihhikaaRefSame
namespace Go.Proofs.Ytmhmahimihhikaa
open Go.RowKit

set_option maxHeartbeats 1600000 in
theorem numRows_off (m c n d : Nat) (A C : Option Addr) (size : Int) (w : World) (h : 300 < m ∨ m ≤ 300 ∧ 300 < n ∨ m ≤ 300 ∧ n ≤ 300 ∧ 2000 < size ∧ size ≤ 65536) (hm : m ≤ maxLen) (hn : n ≤ maxLen) :
    Calls Try.prog 4 #[.slice A m c, .slice C n d, .int .i64 size] w (Ans w (.bool true)) := by
  unfold maxLen at hm hn
  rcases h with h | ⟨h, h'⟩ | ⟨h, h', h2, h3⟩
  all_goals
    go_enter Try.func4, Try.ntmps4
    go_wp2_with fail
    refine (alive_any _).mono ?_
    rintro e w1 ⟨rfl, hb⟩
    go_wp2
    go_ret
    exact ⟨rfl, hb⟩

set_option maxHeartbeats 3200000 in
theorem numRows_on (m c n d B : Nat) (A C : Option Addr) (xs ys : List UInt8) (size : Int) (w : World) (hx : Rd w B A m (Byt xs)) (hy : Rd w B C n (Byt ys)) (hB : B ≤ w.heap.size) (hm : m ≤ 300) (hn : n ≤ 300) (h : size ≤ 2000 ∨ 65536 < size) :
    Calls Try.prog 4 #[.slice A m c, .slice C n d, .int .i64 size] w (Ans w (.bool true)) := by
  have hml : m ≤ maxLen := by unfold maxLen; omega
  have hnl : n ≤ maxLen := by unfold maxLen; omega
  have h' : size ≤ 2000 ∨ 2000 < size ∧ 65536 < size := by omega
  rcases h' with h1 | ⟨h0, h1⟩
  all_goals
    clear h
    go_enter Try.func4, Try.ntmps4
    go_wp2_with fail
    refine (pad_any B m c size A xs _ hx hml hB).mono ?_
    rintro e w1 ⟨A1, c1, rfl, hown1, hb1⟩
    have hr1 := Rd.of_own hown1
    have hx1 := hx.below (hb1.mono hB)
    have hB1 : B ≤ w1.heap.size := Nat.le_trans hB hb1.size
    go_wp2_with fail
    refine (rpad_any B m c size A xs _ hx1 hml hB1).mono ?_
    rintro e w2 ⟨A2, c2, rfl, hown2, hb2⟩
    have hr2 := Rd.of_own hown2
    have hk : (padR xs size).length ≤ maxLen := by
      obtain ⟨_, _, e, h1, h2⟩ := own_form hown2
      exact Nat.le_trans h1 h2
    go_wp2_with fail
    refine (rsame_any w2.heap.size _ _ _ _ _ _ _ _ _ ((hr1.below hb2).wider hb2.size) hr2 hk hk).mono ?_
    rintro e w3 ⟨rfl, hb3⟩
    rw [sameL_self]
    have hb03 := bon (bon hb1 hb2) hb3
    have hx3 := hx.below (hb03.mono hB)
    have hy3 := hy.below (hb03.mono hB)
    go_wp2_with fail
    refine (same_any B m n c d A C xs ys _ hx3 hy3).mono ?_
    rintro e w4 ⟨rfl, hb4⟩
    have hb04 := bon hb03 hb4
    go_wp2_with fail
    refine (rsame_any B m n c d A C xs ys _ (hx.below (hb04.mono hB)) (hy.below (hb04.mono hB)) hml hnl).mono ?_
    rintro e w5 ⟨rfl, hb5⟩
    have hb05 := bon hb04 hb5
    go_wp2_with fail
    refine (xor_any B m c n d A C xs ys _ (hx.below (hb05.mono hB)) (hy.below (hb05.mono hB)) (by omega) (by omega) (Nat.le_trans hB hb05.size)).mono ?_
    rintro e w6 ⟨A6, c6, rfl, hown6, hb6⟩
    have hr6 := Rd.of_own hown6
    have hb06 := bon hb05 hb6
    go_wp2_with fail
    refine (rxor_any B m c n d A C xs ys _ (hx.below (hb06.mono hB)) (hy.below (hb06.mono hB)) (by omega) (by omega) (Nat.le_trans hB hb06.size)).mono ?_
    rintro e w7 ⟨A7, c7, rfl, hown7, hb7⟩
    have hr7 := Rd.of_own hown7
    have hb07 := bon hb06 hb7
    have hk7 : (xorL xs ys).length ≤ maxLen := by
      obtain ⟨_, _, e, h1, h2⟩ := own_form hown7
      exact Nat.le_trans h1 h2
    go_wp2_with fail
    refine (rsame_any w7.heap.size _ _ _ _ _ _ _ _ _ ((hr6.below hb7).wider hb7.size) hr7 hk7 hk7).mono ?_
    rintro e w8 ⟨rfl, hb8⟩
    rw [sameL_self]
    go_wp2_with fail
    refine (alive_any _).mono ?_
    rintro e w9 ⟨rfl, hb9⟩
    go_wp2
    go_ret
    exact ⟨rfl, bon (bon hb07 hb8) hb9⟩

theorem numRows_walk (m c n d B : Nat) (A C : Option Addr) (xs ys : List UInt8) (size : Int) (w : World) (hx : Rd w B A m (Byt xs)) (hy : Rd w B C n (Byt ys)) (hB : B ≤ w.heap.size) (hm : m ≤ maxLen) (hn : n ≤ maxLen) :
    Calls Try.prog 4 #[.slice A m c, .slice C n d, .int .i64 size] w (Ans w (.bool true)) := by
  by_cases h : 300 < m ∨ m ≤ 300 ∧ 300 < n ∨ m ≤ 300 ∧ n ≤ 300 ∧ 2000 < size ∧ size ≤ 65536
  · exact numRows_off m c n d A C size w h hm hn
  · exact numRows_on m c n d B A C xs ys size w hx hy hB (by omega) (by omega) (by omega)

end Go.Proofs.Ytmhmahimihhikaa
