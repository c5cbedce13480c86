import Derived.Test.YtipkimmlbdnbnaaLaw03
namespace Go.Proofs.Ytipkimmlbdnbnaa
open Go.RowKit

theorem cmpB_range (x y : List UInt8) : -1 ≤ cmpB x y ∧ cmpB x y ≤ 1 := by
  unfold cmpB
  repeat' split
  all_goals omega
theorem cmpL_range : ∀ a b : List (List UInt8), -1 ≤ cmpL a b ∧ cmpL a b ≤ 1
  | [], [] => by decide
  | [], _ :: _ => ⟨by rw [cmpL]; omega, by rw [cmpL]; omega⟩
  | _ :: _, [] => ⟨by rw [cmpL]; omega, by rw [cmpL]; omega⟩
  | x :: xs, y :: ys => by
    rw [cmpL]
    split
    · exact cmpB_range x y
    · exact cmpL_range xs ys
theorem cmpU_range (a b : List UInt8) : -1 ≤ cmpU a b ∧ cmpU a b ≤ 1 := by
  unfold cmpU
  split
  · omega
  · exact cmpL_range _ _
theorem below_self (a : List UInt8) : belowU a a = false := by
  unfold belowU
  rw [decide_eq_false (show ¬ (splitU a).length < (splitU a).length by omega), Bool.and_false, Bool.false_and]
theorem below_none {a b : List UInt8} (h : rightU a = false) : belowU a b = false := by
  have e : splitU a = [] := by unfold splitU; rw [h]; rfl
  unfold belowU
  rw [e, decide_eq_false (show ¬ (splitU b).length < ([] : List (List UInt8)).length by simp), Bool.and_false, Bool.false_and]
/-- What stands at each first part. -/
theorem top_facts {a : List UInt8} (h : rightU a = true) {i : Nat} (hi : 1 ≤ i) (hl : i < (pieces a).length) :
    joinU ((pieces a).take i) = (joinD ((pieces a).take i), 0) ∧ belowU a (joinD ((pieces a).take i)) = true ∧ belowU (joinD ((pieces a).take i)) a = false ∧ cmpU (joinD ((pieces a).take i)) a = -1 ∧ (joinD ((pieces a).take i)).length ≤ 200 := by
  obtain ⟨h1, h2⟩ := top_back h hi hl
  have hs := (join_split h).1
  have hlen : ((pieces a).take i).length = i := by rw [List.length_take]; omega
  obtain ⟨p1, p2, _⟩ := right_parts h
  refine ⟨h1, ?_, ?_, ?_, ?_⟩
  · unfold belowU
    rw [h2, hs, hlen, decide_eq_true (by omega), decide_eq_true hl]
    simp
  · unfold belowU
    rw [h2, hs, hlen, decide_eq_false (show ¬ (pieces a).length < i by omega), Bool.and_false, Bool.false_and]
  · unfold cmpU
    have n1 : ¬ (pieces a).take i = [] := fun e => by rw [e] at hlen; simp at hlen; omega
    have n2 : ¬ pieces a = [] := fun e => by rw [e] at hl; simp at hl
    rw [h2, hs, if_neg (fun h => h.elim n1 n2)]
    exact cmpL_take _ i hl
  · have := join_len (take_parts i p1)
    rw [hlen] at this
    omega

set_option maxHeartbeats 1600000 in
theorem nameBack_out (a b : ByteArray) (w : World) (h : 200 < (a.size : Int) ∨ ((a.size : Int) ≤ 200 ∧ 200 < (b.size : Int))) :
    Calls Try.prog 4 #[.string a, .string b] w (Ans w (.bool true)) := by
  rcases h with h | ⟨h', h⟩
  all_goals
    go_enter Try.func4, Try.ntmps4
    go_wp2_with fail
    refine (alive_any _).mono ?_
    rintro e w1 ⟨rfl, hb1⟩
    go_wp2
    go_ret
    exact ⟨rfl, hb1⟩

set_option maxHeartbeats 3200000 in
theorem nameBack_none (a b : ByteArray) (w : World) (ha : a.size ≤ 200) (hb : b.size ≤ 200) (hr : rightU a.data.toList = false) :
    Calls Try.prog 4 #[.string a, .string b] w (Ans w (.bool true)) := by
  have t1 : ¬ ((200 : Int) < (a.size : Int)) := by omega
  have t1' : decide ((200 : Int) < (a.size : Int)) = false := decide_eq_false t1
  have t2' : decide ((200 : Int) < (b.size : Int)) = false := decide_eq_false (by omega)
  have t2'' : decide (200 < b.size) = false := decide_eq_false (by omega)
  have t1'' : decide (200 < a.size) = false := decide_eq_false (by omega)
  have c1 := fun w => cmp_any a b w (by omega) (by omega)
  have c2 := fun w => cmp_any b a w (by omega) (by omega)
  have hbl := fun w => below_any a b w (by omega) (by omega)
  rw [below_none hr] at hbl
  have hsp := fun w => split_any a w (by omega)
  have hri := fun w => nright_any a w (by omega)
  have e : splitU a.data.toList = [] := by unfold splitU; rw [hr]; rfl
  rw [e] at hsp hri
  obtain ⟨y1, y2⟩ := cmpU_range b.data.toList a.data.toList
  rw [cmpU_neg a.data.toList] at c1
  obtain ⟨y, hy⟩ : ∃ y, cmpU b.data.toList a.data.toList = y := ⟨_, rfl⟩
  rw [hy] at c1 c2 y1 y2
  clear hy e hr ha hb
  go_enter Try.func4, Try.ntmps4
  go_wp2_with fail
  refine (c1 _).mono ?_
  rintro e w1 ⟨rfl, hb1⟩
  go_wp2_with fail
  refine (c2 _).mono ?_
  rintro e w2 ⟨rfl, hb2⟩
  go_wp2_with fail
  refine (hsp _).mono ?_
  rintro e w3 ⟨A3, c3, rfl, hown3, hb3⟩
  go_wp2_with fail
  refine (hri _).mono ?_
  rintro e w4 ⟨rfl, hb4⟩
  go_wp2_with fail
  refine (hbl _).mono ?_
  rintro e w5 ⟨rfl, hb5⟩
  go_wp2_with fail
  refine (alive_any _).mono ?_
  rintro e w6 ⟨rfl, hb6⟩
  go_wp2
  go_ret
  exact ⟨rfl, bon (bon (bon (bon (bon hb1 hb2) hb3) hb4) hb5) hb6⟩

theorem own_head {w : World} {base : Nat} {e : TypeId} {A : Option Addr} {n c : Nat} {l : List (List UInt8)} (h : w.ownsRow base e 1 (.slice A n c) n (Sts l)) {i : Nat} (hi : i ≤ n) : Rd w w.heap.size A i (Sts (l.take i)) := by
  rw [Sts_take]
  exact (Rd.of_own h).head hi

set_option maxHeartbeats 6400000 in
theorem nameBack_some (a b : ByteArray) (w : World) (ha : a.size ≤ 200) (hb : b.size ≤ 200) (hr : rightU a.data.toList = true) :
    Calls Try.prog 4 #[.string a, .string b] w (Ans w (.bool true)) := by
  have t1 : ¬ ((200 : Int) < (a.size : Int)) := by omega
  have t1' : decide ((200 : Int) < (a.size : Int)) = false := decide_eq_false t1
  have t2' : decide ((200 : Int) < (b.size : Int)) = false := decide_eq_false (by omega)
  have t2'' : decide (200 < b.size) = false := decide_eq_false (by omega)
  have t1'' : decide (200 < a.size) = false := decide_eq_false (by omega)
  have c1 := fun w => cmp_any a b w (by omega) (by omega)
  have c2 := fun w => cmp_any b a w (by omega) (by omega)
  have hself := fun w => below_any a a w (by omega) (by omega)
  rw [below_self] at hself
  have hsp := fun w => split_any a w (by omega)
  have hri := fun w => nright_any a w (by omega)
  obtain ⟨e1, e2⟩ := join_split hr
  obtain ⟨q1, q2, q3⟩ := right_parts hr
  rw [e1] at hsp hri
  have hpos := pieces_pos a.data.toList
  rw [decide_eq_true hpos] at hri
  obtain ⟨y1, y2⟩ := cmpU_range b.data.toList a.data.toList
  rw [cmpU_neg a.data.toList] at c1
  obtain ⟨y, hy⟩ : ∃ y, cmpU b.data.toList a.data.toList = y := ⟨_, rfl⟩
  rw [hy] at c1 c2 y1 y2
  have htop := fun i (h1 : 1 ≤ i) (h2 : i < (pieces a.data.toList).length) => top_facts hr h1 h2
  have hbe := fun t w (ht : t.size ≤ 200) => below_any a t w (by omega) (by omega)
  have hbe2 := fun t w (ht : t.size ≤ 200) => below_any t a w (by omega) (by omega)
  have hcm := fun t w (ht : t.size ≤ 200) => cmp_any t a w (by omega) (by omega)
  obtain ⟨X, hX⟩ : ∃ X, pieces a.data.toList = X := ⟨_, rfl⟩
  rw [hX] at hsp hpos q2 e2 htop
  have Htop := Lib.hid htop; clear htop
  have E2 := Lib.hid e2; clear e2
  clear hy hr hb hX e1 q1 q3
  go_enter Try.func4, Try.ntmps4
  go_wp2_with fail
  refine (c1 _).mono ?_
  rintro e w1 ⟨rfl, hb1⟩
  go_wp2_with fail
  refine (c2 _).mono ?_
  rintro e w2 ⟨rfl, hb2⟩
  go_wp2_with fail
  refine (hsp _).mono ?_
  rintro e w3 ⟨A, c, rfl, hown, hb3⟩
  go_wp2_with fail
  refine (hri _).mono ?_
  rintro e w4 ⟨rfl, hb4⟩
  have hown4 := own_below hown hb4 (Nat.le_refl _)
  obtain ⟨_, c', hcc, hc1, hc2⟩ := own_form hown4
  obtain ⟨-, hcc'⟩ : _ ∧ c = c' := by simpa using hcc
  subst hcc'
  clear hcc
  have hj4 := njoin_any X.length c A X w4 (Rd.of_own hown4) (by unfold maxLen; omega) hc1
  rw [E2.out, tx_of] at hj4
  go_wp2_with fail
  refine hj4.mono ?_
  rintro e w5 ⟨rfl, hb5⟩
  have hown5 := own_below hown4 hb5 (Nat.le_refl _)
  go_wp2
  go_loopw [8] (fun i wr => ∃ k : Nat, 1 ≤ k ∧ k ≤ X.length ∧ i = .int .i64 k ∧ Below w5.heap.size w5 wr) (fun i _ => X.length - (intOf i).toNat)
  case atStart => exact ⟨1, Nat.le_refl _, hpos, rfl, Below.refl _ _⟩
  case round =>
    obtain ⟨k, hk1, hk, rfl, hbr⟩ := hrel
    by_cases hlt : k < X.length
    · have hownr := own_below hown5 hbr (Nat.le_refl _)
      obtain ⟨f1, f2, f3, f4, f5⟩ := Htop.out k hk1 hlt
      obtain ⟨T, hT⟩ : ∃ T, joinD (X.take k) = T := ⟨_, rfl⟩
      rw [hT] at f1 f2 f3 f4 f5
      have hjk := njoin_any k c A (X.take k) wr (own_head hownr (by omega)) (by unfold maxLen; omega) (by omega)
      rw [f1] at hjk
      have hb1' := fun w => hbe (tx T) w (by rw [tx_size]; exact f5)
      have hb2' := fun w => hbe2 (tx T) w (by rw [tx_size]; exact f5)
      have hc' := fun w => hcm (tx T) w (by rw [tx_size]; exact f5)
      simp only [tx_list, f2] at hb1'
      simp only [tx_list, f3] at hb2'
      simp only [tx_list, f4] at hc'
      have HT := Lib.hid hT; clear hT
      clear f1 f2 f3 f4
      go_wp2_with fail
      refine hjk.mono ?_
      rintro e w6 ⟨rfl, hb6⟩
      go_wp2_with fail
      refine (hb1' _).mono ?_
      rintro e w7 ⟨rfl, hb7⟩
      go_wp2_with fail
      refine (hb2' _).mono ?_
      rintro e w8 ⟨rfl, hb8⟩
      go_wp2_with fail
      refine (hc' _).mono ?_
      rintro e w9 ⟨rfl, hb9⟩
      go_wp2
      go_roundw
      case rel => exact ⟨k + 1, by omega, by omega, by go_num, hbr.trans ((bon (bon (bon hb6 hb7) hb8) hb9).mono hbr.size)⟩
      case measure => simp [intOf]; omega
    · go_wp2_with fail
      refine (hself _).mono ?_
      rintro e w6 ⟨rfl, hb6⟩
      go_wp2_with fail
      refine (alive_any _).mono ?_
      rintro e w7 ⟨rfl, hb7⟩
      go_wp2
      go_ret
      exact ⟨rfl, bon (bon (bon (bon (bon hb1 hb2) hb3) hb4) hb5) (hbr.trans ((bon hb6 hb7).mono hbr.size))⟩

theorem nameBack_walk (a b : ByteArray) (w : World) : Calls Try.prog 4 #[.string a, .string b] w (Ans w (.bool true)) := by
  by_cases h1 : 200 < a.size
  · exact nameBack_out a b w (.inl (by omega))
  · by_cases h2 : 200 < b.size
    · exact nameBack_out a b w (.inr ⟨by omega, by omega⟩)
    · cases hr : rightU a.data.toList with
      | true => exact nameBack_some a b w (by omega) (by omega) hr
      | false => exact nameBack_none a b w (by omega) (by omega) hr

end Go.Proofs.Ytipkimmlbdnbnaa
