import Derived.Test.YtipkimmlbdnbnaaNameCmp
namespace Go.Proofs.Ytipkimmlbdnbnaa
open Go.RowKit

set_option maxHeartbeats 800000 in
theorem nright_any (s : ByteArray) (w : World) (hs : s.size ≤ 1099511627776) :
    Calls Try.prog 12 #[.string s] w (Ans w (.bool (decide (0 < (splitU s.data.toList).length)))) := by
  have h1 := fun w => split_any s w hs
  have f1 := split_few s.data.toList
  go_enter Try.func12, Try.ntmps12
  go_wp2_with fail
  refine (h1 _).mono ?_
  rintro e w1 ⟨A, c, rfl, hown1, hb1⟩
  go_wp2
  go_ret
  exact ⟨by simp, hb1⟩

theorem map_tx {a b : List (List UInt8)} : a.map tx = b.map tx ↔ a = b := by
  constructor
  · intro h
    have := congrArg (List.map fun s : ByteArray => s.data.toList) h
    simpa [tx_list, Function.comp_def] using this
  · intro h; rw [h]
theorem getD_tx (l : List (List UInt8)) (j : Nat) (h : j < l.length) : (l.map tx).getD j ByteArray.empty = tx l[j] := by
  rw [List.getD, List.getElem?_map, List.getElem?_eq_getElem h]; rfl
theorem equal_tx (X Y : List (List UInt8)) (m : Nat) (h : m = Y.length) : decide ((X.map tx).take m = (Y.map tx).take m) = (X.take m == Y) := by
  subst h
  rw [← List.map_take, ← List.map_take, List.take_length]
  by_cases h : X.take Y.length = Y
  · rw [decide_eq_true (map_tx.2 h)]; simp [h]
  · rw [decide_eq_false (fun h' => h (map_tx.1 h'))]; simp [h]

set_option maxHeartbeats 1600000 in
theorem below_any (s t : ByteArray) (w : World) (hs : s.size ≤ 1099511627776) (ht : t.size ≤ 1099511627776) :
    Calls Try.prog 13 #[.string s, .string t] w (Ans w (.bool (belowU s.data.toList t.data.toList))) := by
  have h1 := fun w => split_any s w hs
  have h2 := fun w => split_any t w ht
  have f1 := split_few s.data.toList
  have f2 := split_few t.data.toList
  unfold belowU
  obtain ⟨X, hX⟩ : ∃ X, splitU s.data.toList = X := ⟨_, rfl⟩
  obtain ⟨Y, hY⟩ : ∃ Y, splitU t.data.toList = Y := ⟨_, rfl⟩
  rw [hX] at h1 f1 ⊢
  rw [hY] at h2 f2 ⊢
  clear hX hY
  by_cases hy : 0 < Y.length
  · rw [decide_eq_true hy, Bool.true_and]
    by_cases hl : Y.length < X.length
    · rw [decide_eq_true hl, Bool.true_and]
      go_enter Try.func13, Try.ntmps13
      go_wp2_with fail
      refine (h1 _).mono ?_
      rintro e w1 ⟨A, c, rfl, hown1, hb1⟩
      go_wp2_with fail
      refine (h2 _).mono ?_
      rintro e w2 ⟨C, d, rfl, hown2, hb2⟩
      have r1 := ((Rd.of_own hown1).below hb2).wider hb2.size
      have r2 := Rd.of_own hown2
      obtain ⟨g1, rfl, -, -⟩ := own_some hown1 (by omega)
      obtain ⟨g2, rfl, -, -⟩ := own_some hown2 hy
      obtain ⟨_, c', hcc, hc1, hc2⟩ := own_form hown1
      obtain ⟨-, rfl⟩ : _ ∧ c = c' := by simpa using hcc
      unfold maxLen at hc2
      have heq := Try.slices_Equal_string g1 0 Y.length c g2 0 Y.length d (X.map tx) (Y.map tx) w2 (by simp; omega) (by simp) (by omega) (by omega)
        (fun j hj => by
          have hj' : j < X.length := by simpa using hj
          rw [getD_tx _ _ hj']
          obtain ⟨b, o, e, _, hc⟩ := r1.str hj' hj'
          cases e
          exact hc)
        (fun j hj => by
          have hj' : j < Y.length := by simpa using hj
          rw [getD_tx _ _ hj']
          obtain ⟨b, o, e, _, hc⟩ := r2.str hj' hj'
          cases e
          exact hc)
      rw [equal_tx X Y Y.length rfl] at heq
      go_wp2_with fail
      refine heq.mono ?_
      rintro e w3 ⟨rfl, q, rfl⟩
      go_wp2
      go_ret
      exact ⟨rfl, bdrewN (bon hb1 hb2) _⟩
    · rw [decide_eq_false hl, Bool.false_and]
      have hl' : ¬ ((Y.length : Int) < (X.length : Int)) := by omega
      go_enter Try.func13, Try.ntmps13
      go_wp2_with fail
      refine (h1 _).mono ?_
      rintro e w1 ⟨A, c, rfl, hown1, hb1⟩
      go_wp2_with fail
      refine (h2 _).mono ?_
      rintro e w2 ⟨C, d, rfl, hown2, hb2⟩
      go_wp2
      go_ret
      exact ⟨rfl, bon hb1 hb2⟩
  · rw [decide_eq_false hy, Bool.false_and, Bool.false_and]
    have hY0 : Y = [] := List.eq_nil_of_length_eq_zero (by omega)
    subst hY0
    clear hy
    go_enter Try.func13, Try.ntmps13
    go_wp2_with fail
    refine (h1 _).mono ?_
    rintro e w1 ⟨A, c, rfl, hown1, hb1⟩
    go_wp2_with fail
    refine (h2 _).mono ?_
    rintro e w2 ⟨C, d, rfl, hown2, hb2⟩
    go_wp2
    go_ret
    exact ⟨rfl, bon hb1 hb2⟩

end Go.Proofs.Ytipkimmlbdnbnaa
