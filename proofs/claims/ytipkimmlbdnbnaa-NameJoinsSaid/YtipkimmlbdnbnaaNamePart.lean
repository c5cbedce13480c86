import Derived.Test.YtipkimmlbdnbnaaNameS
import Derived.Test.YtipkimmlbdnbnaaUtfLetter
import Derived.Test.YtipkimmlbdnbnaaUtfCount
namespace Go.Proofs.Ytipkimmlbdnbnaa
open Go.RowKit

set_option maxHeartbeats 1600000 in
theorem none_any (r : Int) (w : World) : Calls Try.prog 25 #[.int .i32 r] w (Is w (.bool (!smallU r))) := by
  have hl : ∀ w, Calls Try.prog 26 #[.int .i32 r] w (Is w (.bool (upperU r || lowerU r))) := fun w => letter_any r w
  have hr : ∀ w, Calls Try.prog 27 #[.int .i32 r] w (Is w (.bool (upperU r))) := fun w => upper_any r w
  unfold smallU
  cases hu : upperU r with
  | true =>
    rw [hu] at hr
    simp only [hu, Bool.true_or] at hl
    simp only [upperU, decide_eq_true_eq] at hu
    have e : lowerU r = false := decide_eq_false (by omega)
    have e2 : decide (48 ≤ r ∧ r ≤ 57) = false := decide_eq_false (by omega)
    have h1 : 57 < r := by omega
    have h2 : ¬ r < 48 := by omega
    rw [e, e2]
    clear e e2 hu
    go_enter Try.func25, Try.ntmps25
    go_wp2_with fail
    refine (hl _).mono ?_
    rintro e w1 ⟨rfl, rfl⟩
    go_wp2_with fail
    refine (hr _).mono ?_
    rintro e w2 ⟨rfl, rfl⟩
    go_wp2
    go_ret
    try exact ⟨rfl, rfl⟩
  | false =>
    rw [hu] at hr
    simp only [hu, Bool.false_or] at hl
    clear hu
    cases hlow : lowerU r with
    | true =>
      simp only [hlow] at hl
      clear hlow
      rw [Bool.true_or]
      go_enter Try.func25, Try.ntmps25
      go_wp2_with fail
      refine (hl _).mono ?_
      rintro e w1 ⟨rfl, rfl⟩
      go_wp2_with fail
      refine (hr _).mono ?_
      rintro e w2 ⟨rfl, rfl⟩
      go_wp2
      go_ret
      try exact ⟨rfl, rfl⟩
    | false =>
      simp only [hlow] at hl
      clear hlow
      rw [Bool.false_or]
      have hs : r < 48 ∨ (48 ≤ r ∧ r ≤ 57) ∨ (48 ≤ r ∧ 57 < r) := by omega
      rcases hs with h | h | h
      · have e : decide (48 ≤ r ∧ r ≤ 57) = false := decide_eq_false (by omega)
        rw [e]; clear e
        go_enter Try.func25, Try.ntmps25
        go_wp2_with fail
        refine (hl _).mono ?_
        rintro e w1 ⟨rfl, rfl⟩
        go_wp2
        go_ret
        try exact ⟨rfl, rfl⟩
      · have e : decide (48 ≤ r ∧ r ≤ 57) = true := decide_eq_true (by omega)
        have h1 : ¬ r < 48 := by omega
        have h2 : decide (57 < r) = false := decide_eq_false (by omega)
        have h3 : decide (r < 48) = false := decide_eq_false h1
        clear h h1
        rw [e]; clear e
        go_enter Try.func25, Try.ntmps25
        go_wp2_with fail
        refine (hl _).mono ?_
        rintro e w1 ⟨rfl, rfl⟩
        go_wp2
        go_ret
        try exact ⟨rfl, rfl⟩
      · have e : decide (48 ≤ r ∧ r ≤ 57) = false := decide_eq_false (by omega)
        have h1 : ¬ r < 48 := by omega
        have h2 : 57 < r := by omega
        clear h
        rw [e]; clear e
        go_enter Try.func25, Try.ntmps25
        go_wp2_with fail
        refine (hl _).mono ?_
        rintro e w1 ⟨rfl, rfl⟩
        go_wp2
        go_ret
        try exact ⟨rfl, rfl⟩

theorem part_big {l : List UInt8} (h : 8 < (runesU l).length) : partU l = false := by
  unfold partU
  rw [decide_eq_false (by omega)]
  rfl
theorem part_none {l : List UInt8} (h : (runesU l).all smallU = false) : partU l = false := by
  unfold partU
  rw [h, Bool.and_false]
theorem part_done {l : List UInt8} {k : Nat} (h1 : (runesU l).length = k) (h2 : k ≤ 8) (h3 : (runesU l).all smallU = true) : partU l = decide (0 < k) := by
  unfold partU
  rw [h3, Bool.and_true, h1]
  congr 1
  exact propext (by omega)

set_option maxHeartbeats 3200000 in
theorem part_any (s : ByteArray) (w : World) :
    Calls Try.prog 15 #[.string s] w (Ans w (.bool (partU s.data.toList))) := by
  go_enter Try.func15, Try.ntmps15
  go_wp2
  go_loopw [4] (fun nv wr => ∃ p k : Nat, p ≤ s.size ∧ k ≤ 8 ∧ nv = .int .i64 k ∧ wr = w.iter s p ∧ k + (runesU (s.data.toList.drop p)).length = (runesU s.data.toList).length ∧ (runesU (s.data.toList.drop p)).all smallU = (runesU s.data.toList).all smallU) (fun _ wr => s.size - wr.iterPos w.heap.size)
  case atStart => exact ⟨0, 0, Nat.zero_le _, Nat.zero_le _, rfl, rfl, by simp, by simp⟩
  case round =>
    obtain ⟨p, k, hp, hk, rfl, rfl, hc, ha⟩ := hrel
    by_cases hlt : p < s.size
    · have hnx : ∀ ty, (Instr.next (.pointer (some ⟨w.heap.size, 0, none⟩)) true ty).run Try.prog (w.iter s p) = _ := fun ty => run_next_any w s p ty hlt
      obtain ⟨hw1, hw2⟩ := step_le hlt
      rw [runesU_step _ (drop_ne hlt), Lib.decodeL_drop, List.drop_drop] at hc ha
      rw [List.length_cons] at hc
      rw [List.all_cons] at ha
      have hn := none_any (((Utf8.decode s p).1 : Nat) : Int)
      have Hc := Lib.hid hc; clear hc
      by_cases h8 : k = 8
      · subst h8
        have Ha := Lib.hid ha; clear ha
        clear hn
        go_wp2
        go_ret
        exact ⟨by rw [part_big (by have := Hc.out; omega)]; rfl, (Below.refl _ _).alloc (Nat.le_refl _) _⟩
      · have hk8 : ((k : Int) == 8) = false := by
          have : ¬ (k : Int) = 8 := by omega
          simpa using this
        cases hsm : smallU (((Utf8.decode s p).1 : Nat) : Int) with
        | false =>
          rw [hsm] at hn ha
          have Ha := Lib.hid ha; clear ha
          have Hs := Lib.hid hsm; clear hsm
          go_wp2_with fail
          refine (hn _).mono ?_
          rintro e w1 ⟨rfl, rfl⟩
          go_wp2
          go_ret
          exact ⟨by rw [part_none Ha.out.symm]; rfl, (Below.refl _ _).alloc (Nat.le_refl _) _⟩
        | true =>
          rw [hsm, Bool.true_and] at ha
          rw [hsm] at hn
          have Ha := Lib.hid ha; clear ha
          have Hs := Lib.hid hsm; clear hsm
          go_wp2_with fail
          refine (hn _).mono ?_
          rintro e w1 ⟨rfl, rfl⟩
          go_wp2
          go_roundw
          case rel => exact ⟨p + (Utf8.decode s p).2, k + 1, hw1, by omega, by go_num, rfl, by have := Hc.out; omega, Ha.out⟩
          case measure => simp; omega
    · have hnx : ∀ ty, (Instr.next (.pointer (some ⟨w.heap.size, 0, none⟩)) true ty).run Try.prog (w.iter s p) = _ := fun ty => run_next_end w s p ty hlt
      have h0 : s.data.toList.drop p = [] := List.drop_eq_nil_of_le (by simp; omega)
      rw [h0, runesU_nil] at hc ha
      have Hd := part_done (l := s.data.toList) (k := k) (by rw [← hc]; simp) hk ha.symm
      have HD := Lib.hid Hd; clear Hd
      clear h0 hc ha
      go_wp2
      go_ret
      exact ⟨by rw [HD.out]; rfl, (Below.refl _ _).alloc (Nat.le_refl _) _⟩

end Go.Proofs.Ytipkimmlbdnbnaa
