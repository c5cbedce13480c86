import Derived.Test.YtfahiamogjcikaaLaw04
namespace Go.Proofs.Ytfahiamogjcikaa
open Go.RowKit

set_option maxHeartbeats 1600000 in
theorem hexTexts_out (n c : Nat) (A : Option Addr) (s : ByteArray) (z : Int) (w : World) (h : 300 < (n : Int) ∨ ((n : Int) ≤ 300 ∧ 300 < (s.size : Int))) :
    Calls Try.prog 3 #[.slice A n c, .string s, .int .i64 z] w (Ans w (.bool true)) := by
  rcases h with h | ⟨h', h⟩
  all_goals
    go_enter Try.func3, Try.ntmps3
    go_wp2_with fail
    refine (alive4_any _).mono ?_
    rintro e w1 ⟨rfl, hb1⟩
    go_wp2
    go_ret
    exact ⟨rfl, hb1⟩

set_option maxHeartbeats 6400000 in
theorem hexTexts_in (n c : Nat) (A : Option Addr) (xs : List UInt8) (s : ByteArray) (z : Int) (w : World) (hx : Rd w w.heap.size A n (Byt xs)) (hn : n ≤ 300) (hnc : n ≤ c) (hs : s.size ≤ 300) :
    Calls Try.prog 3 #[.slice A n c, .string s, .int .i64 z] w (Ans w (.bool true)) := by
  have h1 := fun w => hparse_any s w (by omega)
  have h2 := fun w => rhparse_any s w (by omega)
  generalize hparseV s.data.toList = V at h1 h2
  obtain ⟨X, i, f⟩ := V
  have h3 := fun w (hx : Rd w w.heap.size A n (Byt xs)) => hprint_any _ n c A xs w hx (Nat.le_refl _) (by omega)
  have h4 := fun w (hx : Rd w w.heap.size A n (Byt xs)) => rhprint_any _ n c A xs w hx (by omega)
  generalize tx (hexU xs) = T at h3 h4
  have h6 := fun w (hx : Rd w w.heap.size A n (Byt xs)) => hrows_any _ n c A xs z w hx (Nat.le_refl _) (by omega) hnc
  have h7 := fun w (hx : Rd w w.heap.size A n (Byt xs)) => rhrows_any _ n c A xs z w hx (Nat.le_refl _) (by omega) hnc
  generalize hrowsV xs z = R at h6 h7
  have h9 := fun w (hx : Rd w w.heap.size A n (Byt xs)) => hshort_any _ n c A xs w hx (Nat.le_refl _) (by omega) hnc
  have h10 := fun w (hx : Rd w w.heap.size A n (Byt xs)) => rhshort_any _ n c A xs w hx (by omega) hnc
  generalize tx (hshortV xs) = U at h9 h10
  have t1 : ¬ ((300 : Int) < (n : Int)) := by omega
  have t2 : decide ((300 : Int) < (s.size : Int)) = false := decide_eq_false (by omega)
  have t2' : decide (300 < s.size) = false := decide_eq_false (by omega)
  go_enter Try.func3, Try.ntmps3
  go_wp2_with fail
  refine (h1 _).mono ?_
  rintro e w1 ⟨A1, c1, rfl, hown1, hb1⟩
  dsimp only at hown1
  go_wp2_with fail
  refine (h2 _).mono ?_
  rintro e w2 ⟨A2, c2, rfl, hown2, hb2⟩
  dsimp only at hown2
  have g2 := bon hb1 hb2
  have r1 := ((Rd.of_own hown1).below hb2).wider hb2.size
  have r2 := Rd.of_own hown2
  have hX := few_of hown2
  go_wp2_with fail
  refine (h3 _ ((hx.below g2).wider g2.size)).mono ?_
  rintro e w3 ⟨rfl, hb3⟩
  have g3 := bon g2 hb3
  go_wp2_with fail
  refine (h4 _ ((hx.below g3).wider g3.size)).mono ?_
  rintro e w4 ⟨rfl, hb4⟩
  have g4 := bon g3 hb4
  have r1' := (r1.below (bon hb3 hb4)).wider (bon hb3 hb4).size
  have r2' := (r2.below (bon hb3 hb4)).wider (bon hb3 hb4).size
  go_wp2_with fail
  refine (rsame_any _ _ _ _ _ _ _ _ _ w4 r1' r2' hX hX).mono ?_
  rintro e w5 ⟨rfl, hb5⟩
  rw [sameL_self]
  have g5 := bon g4 hb5
  go_wp2_with fail
  refine (h6 _ ((hx.below g5).wider g5.size)).mono ?_
  rintro e w6 ⟨A6, c6, rfl, hown6, hb6⟩
  have g6 := bon g5 hb6
  go_wp2_with fail
  refine (h7 _ ((hx.below g6).wider g6.size)).mono ?_
  rintro e w7 ⟨A7, c7, rfl, hown7, hb7⟩
  have g7 := bon g6 hb7
  have r6 := ((Rd.of_own hown6).below hb7).wider hb7.size
  have r7 := Rd.of_own hown7
  go_wp2_with fail
  refine (words_same _ _ c6 c7 _ _ R _ r6 r7 (few_of hown7)).mono ?_
  rintro e w8 ⟨rfl, hb8⟩
  have g8 := bon g7 hb8
  go_wp2_with fail
  refine (h9 _ ((hx.below g8).wider g8.size)).mono ?_
  rintro e w9 ⟨rfl, hb9⟩
  have g9 := bon g8 hb9
  go_wp2_with fail
  refine (h10 _ ((hx.below g9).wider g9.size)).mono ?_
  rintro e w10 ⟨rfl, hb10⟩
  have g10 := bon g9 hb10
  go_wp2_with fail
  refine (alive4_any _).mono ?_
  rintro e w11 ⟨rfl, hb11⟩
  go_wp2
  go_ret
  exact ⟨rfl, bon g10 hb11⟩

theorem hexTexts_walk (n c : Nat) (A : Option Addr) (xs : List UInt8) (s : ByteArray) (z : Int) (w : World) (hx : Rd w w.heap.size A n (Byt xs)) (hnc : n ≤ c) :
    Calls Try.prog 3 #[.slice A n c, .string s, .int .i64 z] w (Ans w (.bool true)) := by
  by_cases h1 : 300 < n
  · exact hexTexts_out n c A s z w (.inl (by omega))
  · by_cases h2 : 300 < s.size
    · exact hexTexts_out n c A s z w (.inr ⟨by omega, by omega⟩)
    · exact hexTexts_in n c A xs s z w hx (by omega) hnc (by omega)

end Go.Proofs.Ytfahiamogjcikaa
