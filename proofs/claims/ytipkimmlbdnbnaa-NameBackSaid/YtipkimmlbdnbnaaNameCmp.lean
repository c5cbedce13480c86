import Derived.Test.YtipkimmlbdnbnaaNameSplit
namespace Go.Proofs.Ytipkimmlbdnbnaa
open Go.RowKit

theorem tx_toList (l : List UInt8) : (tx l).toList = l := by rw [Lib.toList_data]; rfl

set_option maxHeartbeats 800000 in
theorem isnan_any (s : ByteArray) (w : World) : Calls Try.prog 45 #[.string s] w (Is w (.bool false)) := by
  go_enter Try.func45, Try.ntmps45
  go_wp2
  go_ret
  exact ⟨by simp, rfl⟩

set_option maxHeartbeats 1600000 in
theorem cmpS_any (x y : List UInt8) (w : World) : Calls Try.prog 37 #[.string (tx x), .string (tx y)] w (Is w (.int .i64 (cmpB x y))) := by
  have h1 := tx_toList x
  have h2 := tx_toList y
  unfold cmpB
  cases hl : Op.bytesLess x y with
  | true =>
    go_enter Try.func37, Try.ntmps37
    go_wp2_with (go_at_call 45; refine (isnan_any _ _).mono ?_; rintro e w1 ⟨rfl, rfl⟩)
    go_ret
    exact ⟨rfl, rfl⟩
  | false =>
    cases he : x == y with
    | true =>
      go_enter Try.func37, Try.ntmps37
      go_wp2_with (go_at_call 45; refine (isnan_any _ _).mono ?_; rintro e w1 ⟨rfl, rfl⟩)
      go_ret
      exact ⟨rfl, rfl⟩
    | false =>
      go_enter Try.func37, Try.ntmps37
      go_wp2_with (go_at_call 45; refine (isnan_any _ _).mono ?_; rintro e w1 ⟨rfl, rfl⟩)
      go_ret
      exact ⟨rfl, rfl⟩

theorem cmpL_out {xs : List (List UInt8)} (h : xs ≠ []) : cmpL xs [] = 1 := by
  cases xs with
  | nil => exact absurd rfl h
  | cons x xs => rfl
theorem cmpL_in {ys : List (List UInt8)} (h : ys ≠ []) : cmpL [] ys = -1 := by
  cases ys with
  | nil => exact absurd rfl h
  | cons x xs => rfl
theorem drop_some {α : Type} {l : List α} {k : Nat} (h : k < l.length) : l.drop k ≠ [] := List.length_pos_iff.1 (by rw [List.length_drop]; omega)

set_option maxHeartbeats 3200000 in
theorem compare_any (B n m c d : Nat) (A C : Option Addr) (xs ys : List (List UInt8)) (w : World) (hx : Rd w B A n (Sts xs)) (hy : Rd w B C m (Sts ys)) (hn : n ≤ maxLen) (hm : m ≤ maxLen) :
    Calls Try.prog 23 #[.slice A n c, .slice C m d] w (Is w (.int .i64 (cmpL xs ys))) := by
  unfold maxLen at hn hm
  have Hx := Lib.hid hx.strs
  have Hy := Lib.hid hy.strs
  go_enter Try.func23, Try.ntmps23
  go_wp2
  go_loop [11] (fun i => ∃ k : Nat, k ≤ n ∧ k ≤ m ∧ i = .int .i64 k ∧ cmpL (xs.drop k) (ys.drop k) = cmpL xs ys) (fun i => n - (intOf i).toNat)
  case atStart => exact ⟨0, Nat.zero_le _, Nat.zero_le _, rfl, rfl⟩
  case round =>
    obtain ⟨k, hk, hkm, rfl, hc⟩ := hrel
    by_cases hlt : k < n
    · have hkx : k < xs.length := by rw [Hx.out]; exact hlt
      obtain ⟨b, o, rfl, hb, hc1⟩ := hx.str hlt hkx
      by_cases hlm : k < m
      · have hky : k < ys.length := by rw [Hy.out]; exact hlm
        obtain ⟨b', o', rfl, hb', hc2⟩ := hy.str hlm hky
        rw [cmp_at hkx hky] at hc
        have hcp := fun w => cmpS_any xs[k] ys[k] w
        by_cases h0 : cmpB xs[k] ys[k] = 0
        · rw [if_neg (by omega)] at hc
          rw [h0] at hcp
          have Hc := Lib.hid hc; clear hc
          have H0 := Lib.hid h0; clear h0
          go_wp2_with (go_at_call 37; refine (hcp _).mono ?_; rintro e w1 ⟨rfl, rfl⟩)
          go_round
          case rel => exact ⟨k + 1, by omega, by omega, by go_num, Hc.out⟩
          case measure => simp [intOf]; omega
        · rw [if_pos (by omega)] at hc
          obtain ⟨z, hz⟩ : ∃ z, cmpB xs[k] ys[k] = z := ⟨_, rfl⟩
          rw [hz] at hcp hc h0
          have hz0 : (z != 0) = true := by simpa using h0
          have Hc := Lib.hid hc; clear hc
          have Hz := Lib.hid hz; clear hz
          clear h0
          go_wp2_with (go_at_call 37; refine (hcp _).mono ?_; rintro e w1 ⟨rfl, rfl⟩)
          go_ret
          exact ⟨by rw [← Hc.out]; rfl, rfl⟩
      · obtain rfl : k = m := by omega
        rw [show ys.drop k = [] from List.drop_eq_nil_of_le (by rw [Hy.out]; omega), cmpL_out (drop_some hkx)] at hc
        have Hc := Lib.hid hc; clear hc
        go_wp2
        go_ret
        exact ⟨by rw [← Hc.out]; rfl, rfl⟩
    · obtain rfl : k = n := by omega
      rw [show xs.drop k = [] from List.drop_eq_nil_of_le (by rw [Hx.out]; omega)] at hc
      by_cases hlm : k < m
      · rw [cmpL_in (drop_some (by rw [Hy.out]; exact hlm))] at hc
        have Hc := Lib.hid hc; clear hc
        go_wp2
        go_ret
        exact ⟨by rw [← Hc.out]; rfl, rfl⟩
      · rw [show ys.drop k = [] from List.drop_eq_nil_of_le (by rw [Hy.out]; omega)] at hc
        have Hc := Lib.hid hc; clear hc
        go_wp2
        go_ret
        exact ⟨by rw [← Hc.out]; rfl, rfl⟩

theorem split_few (l : List UInt8) : (splitU l).length ≤ 4 := by
  unfold splitU
  cases h : rightU l with
  | false => simp
  | true => exact (right_parts h).2.1

set_option maxHeartbeats 1600000 in
theorem cmp_any (s t : ByteArray) (w : World) (hs : s.size ≤ 1099511627776) (ht : t.size ≤ 1099511627776) :
    Calls Try.prog 11 #[.string s, .string t] w (Ans w (.int .i64 (cmpU s.data.toList t.data.toList))) := by
  have h1 := fun w => split_any s w hs
  have h2 := fun w => split_any t w ht
  have f1 := split_few s.data.toList
  have f2 := split_few t.data.toList
  unfold cmpU
  obtain ⟨X, hX⟩ : ∃ X, splitU s.data.toList = X := ⟨_, rfl⟩
  obtain ⟨Y, hY⟩ : ∃ Y, splitU t.data.toList = Y := ⟨_, rfl⟩
  rw [hX] at h1 f1 ⊢
  rw [hY] at h2 f2 ⊢
  clear hX hY
  by_cases h0 : X = [] ∨ Y = []
  · rw [if_pos h0]
    by_cases hX : X = []
    · subst hX
      clear h0
      go_enter Try.func11, Try.ntmps11
      go_wp2_with fail
      refine (h1 _).mono ?_
      rintro e w1 ⟨A, c, rfl, hown1, hb1⟩
      go_wp2_with fail
      refine (h2 _).mono ?_
      rintro e w2 ⟨C, d, rfl, hown2, hb2⟩
      go_wp2
      go_ret
      exact ⟨rfl, bon hb1 hb2⟩
    · have hY : Y = [] := h0.resolve_left hX
      subst hY
      clear h0
      have hX' : ((X.length : Nat) == 0) = false := by simp [hX]
      have hX2 : (((X.length : Nat) : Int) == 0) = false := by simp [hX]
      have Hne := Lib.hid hX; clear hX
      go_enter Try.func11, Try.ntmps11
      go_wp2_with fail
      refine (h1 _).mono ?_
      rintro e w1 ⟨A, c, rfl, hown1, hb1⟩
      go_wp2_with fail
      refine (h2 _).mono ?_
      rintro e w2 ⟨C, d, rfl, hown2, hb2⟩
      go_wp2
      go_ret
      exact ⟨rfl, bon hb1 hb2⟩
  · rw [if_neg h0]
    have hX : X ≠ [] := fun h => h0 (.inl h)
    have hY : Y ≠ [] := fun h => h0 (.inr h)
    clear h0
    have hX2 : (((X.length : Nat) : Int) == 0) = false := by simp [hX]
    have hY2 : (((Y.length : Nat) : Int) == 0) = false := by simp [hY]
    have HX := Lib.hid hX; clear hX
    have HY := Lib.hid hY; clear hY
    go_enter Try.func11, Try.ntmps11
    go_wp2_with fail
    refine (h1 _).mono ?_
    rintro e w1 ⟨A, c, rfl, hown1, hb1⟩
    go_wp2_with fail
    refine (h2 _).mono ?_
    rintro e w2 ⟨C, d, rfl, hown2, hb2⟩
    have r1 := ((Rd.of_own hown1).below hb2).wider hb2.size
    have r2 := Rd.of_own hown2
    have hcmp := compare_any _ _ _ c d _ _ X Y w2 r1 r2 (by unfold maxLen; omega) (by unfold maxLen; omega)
    go_wp2_with fail
    refine hcmp.mono ?_
    rintro e w3 ⟨rfl, rfl⟩
    go_wp2
    go_ret
    exact ⟨rfl, bon hb1 hb2⟩

end Go.Proofs.Ytipkimmlbdnbnaa
