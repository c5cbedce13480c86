import Derived.Test.YtipkimmlbdnbnaaNameS
import Derived.Test.YtipkimmlbdnbnaaRefUtfLetter
import Derived.Test.YtipkimmlbdnbnaaRefUtfCount
namespace Go.Proofs.Ytipkimmlbdnbnaa
open Go.RowKit

set_option maxHeartbeats 1600000 in
theorem rsmall_any (r : Int) (w : World) : Calls Try.prog 34 #[.int .i32 r] w (Is w (.bool (smallU r))) := by
  have hl : ∀ w, Calls Try.prog 43 #[.int .i32 r] w (Is w (.bool (upperU r || lowerU r))) := fun w => rletter_any r w
  have hr : ∀ w, Calls Try.prog 44 #[.int .i32 r] w (Is w (.bool (upperU r))) := fun w => rupper_any r w
  unfold smallU
  have hs : (48 ≤ r ∧ r ≤ 57) ∨ (¬ 48 ≤ r) ∨ (48 ≤ r ∧ 57 < r) := by omega
  rcases hs with h | h | h
  · rw [decide_eq_true h, Bool.or_true]
    obtain ⟨h1, h2⟩ := h
    go_enter Try.func34, Try.ntmps34
    go_wp2
    go_ret
    exact ⟨rfl, rfl⟩
  all_goals
    have e : decide (48 ≤ r ∧ r ≤ 57) = false := decide_eq_false (by omega)
    rw [e, Bool.or_false]; clear e
    cases hu : upperU r with
    | true =>
      have hlow : lowerU r = false := by
        simp only [upperU, decide_eq_true_eq] at hu
        exact decide_eq_false (by omega)
      rw [hlow]
      simp only [hu, Bool.true_or] at hl
      rw [hu] at hr
      clear hu hlow
      try (obtain ⟨h1, h2⟩ := h; have h3 : ¬ r ≤ 57 := (by omega); have h4 : decide (r ≤ 57) = false := decide_eq_false h3; clear h2 h3)
      go_enter Try.func34, Try.ntmps34
      go_wp2_with fail
      refine (hl _).mono ?_
      rintro e w1 ⟨rfl, rfl⟩
      go_wp2_with fail
      refine (hr _).mono ?_
      rintro e w2 ⟨rfl, rfl⟩
      go_wp2
      go_ret
      exact ⟨rfl, rfl⟩
    | false =>
      simp only [hu, Bool.false_or] at hl
      rw [hu] at hr
      clear hu
      try (obtain ⟨h1, h2⟩ := h; have h3 : ¬ r ≤ 57 := (by omega); have h4 : decide (r ≤ 57) = false := decide_eq_false h3; clear h2 h3)
      cases hlow : lowerU r with
      | true =>
        simp only [hlow] at hl
        clear hlow
        go_enter Try.func34, Try.ntmps34
        go_wp2_with fail
        refine (hl _).mono ?_
        rintro e w1 ⟨rfl, rfl⟩
        go_wp2_with fail
        refine (hr _).mono ?_
        rintro e w2 ⟨rfl, rfl⟩
        go_wp2
        go_ret
        exact ⟨rfl, rfl⟩
      | false =>
        simp only [hlow] at hl
        clear hlow
        go_enter Try.func34, Try.ntmps34
        go_wp2_with fail
        refine (hl _).mono ?_
        rintro e w1 ⟨rfl, rfl⟩
        go_wp2
        go_ret
        exact ⟨rfl, rfl⟩

theorem small_step {ns : List Int} {k : Nat} (hk : k < ns.length) : ((ns.take k).all smallU = true → smallU ns[k] = true → (ns.take (k + 1)).all smallU = true) ∧ (smallU ns[k] = false → ns.all smallU = false) := by
  constructor
  · intro h1 h2
    rw [List.take_add_one, List.getElem?_eq_getElem hk, List.all_append, h1]
    simp [h2]
  · intro h
    cases ha : ns.all smallU with
    | false => rfl
    | true =>
      have := List.all_eq_true.1 ha _ (List.getElem_mem hk)
      rw [this] at h; cases h
theorem part_broken {l : List UInt8} {p : Nat} (h : brokenU 0 l = some p) : partU l = false := by
  cases hp : partU l with
  | false => rfl
  | true => rw [small_whole l (part_small hp)] at h; cases h
theorem part_len_bad {l : List UInt8} (h : (runesU l).length < 1 ∨ 8 < (runesU l).length) : partU l = false := by
  unfold partU
  rw [decide_eq_false (by omega)]; rfl
theorem part_few {l : List UInt8} (h1 : 1 ≤ (runesU l).length) (h2 : (runesU l).length ≤ 8) : partU l = (runesU l).all smallU := by
  unfold partU
  rw [decide_eq_true ⟨h1, h2⟩, Bool.true_and]

set_option maxHeartbeats 3200000 in
theorem rpart_any (s : ByteArray) (w : World) (hs : s.size ≤ 1099511627776) :
    Calls Try.prog 19 #[.string s] w (Ans w (.bool (partU s.data.toList))) := by
  have hr := rrunes_any s w hs
  have hf := runes_few s
  cases h : brokenU 0 s.data.toList with
  | some p =>
    rw [runesV_bad h] at hr
    rw [part_broken h]
    clear h hf
    go_enter Try.func19, Try.ntmps19
    go_wp2_with fail
    refine hr.mono ?_
    rintro e w1 ⟨A, c, rfl, _, hb1⟩
    go_wp2
    go_ret
    exact ⟨rfl, hb1⟩
  | none =>
    rw [runesV_ok h] at hr
    have hval := runes_valid s.data.toList.length s.data.toList (Nat.le_refl _)
    clear h
    obtain ⟨R, hR⟩ : ∃ R, runesU s.data.toList = R := ⟨_, rfl⟩
    by_cases hbad : R.length < 1 ∨ 8 < R.length
    · rw [part_len_bad (by rw [hR]; exact hbad)]
      rw [hR] at hr
      clear hR hval hf
      rcases hbad with h | h
      · have h0 : R = [] := List.eq_nil_of_length_eq_zero (by omega)
        subst h0
        clear h
        go_enter Try.func19, Try.ntmps19
        go_wp2_with fail
        refine hr.mono ?_
        rintro e w1 ⟨A, c, rfl, _, hb1⟩
        go_wp2
        go_ret
        exact ⟨rfl, hb1⟩
      · have h1 : ¬ ((R.length : Int) < 1) := by omega
        have h2 : (8 : Int) < (R.length : Int) := by omega
        clear h
        go_enter Try.func19, Try.ntmps19
        go_wp2_with fail
        refine hr.mono ?_
        rintro e w1 ⟨A, c, rfl, _, hb1⟩
        go_wp2
        go_ret
        exact ⟨rfl, hb1⟩
    · rw [part_few (by rw [hR]; omega) (by rw [hR]; omega)]
      rw [hR] at hr ⊢
      clear hR hval hf
      have h1 : ¬ ((R.length : Int) < 1) := by omega
      have h1' : ¬ (R.length < 1) := by omega
      have h2 : decide ((8 : Int) < (R.length : Int)) = false := decide_eq_false (by omega)
      have h2' : decide (8 < R.length) = false := decide_eq_false (by omega)
      have h8 : R.length ≤ 8 := by omega
      clear hbad
      go_enter Try.func19, Try.ntmps19
      go_wp2_with fail
      refine hr.mono ?_
      rintro e w1 ⟨A, c, rfl, hown, hb1⟩
      have hx := Rd.of_own hown
      go_wp2
      go_loopw [6] (fun i wr => ∃ k : Nat, k ≤ R.length ∧ i = .int .i64 k ∧ wr = w1 ∧ (R.take k).all smallU = true) (fun i _ => R.length - (intOf i).toNat)
      case atStart => exact ⟨0, Nat.zero_le _, rfl, rfl, rfl⟩
      case round =>
        obtain ⟨k, hk, rfl, rfl, ha⟩ := hrel
        have Ha := Lib.hid ha; clear ha
        by_cases hlt : k < R.length
        · obtain ⟨b, o, rfl, hbb, hc1⟩ := hx.int hlt hlt
          have hj := fun w => rsmall_any R[k] w
          cases hp : smallU R[k] with
          | true =>
            rw [hp] at hj
            have Hp := Lib.hid hp; clear hp
            go_wp2_with (go_at_call 34; refine (hj _).mono ?_; rintro e w2 ⟨rfl, rfl⟩)
            go_roundw
            case rel => exact ⟨k + 1, by omega, by go_num, by first | trivial | rfl, (small_step hlt).1 Ha.out Hp.out⟩
            case measure => simp [intOf]; omega
          | false =>
            rw [hp] at hj
            have hno := (small_step hlt).2 hp
            have Hno := Lib.hid hno; clear hno
            have Hp := Lib.hid hp; clear hp
            go_wp2_with (go_at_call 34; refine (hj _).mono ?_; rintro e w2 ⟨rfl, rfl⟩)
            go_ret
            exact ⟨by rw [Hno.out]; rfl, hb1⟩
        · have hall : R.all smallU = true := by rw [← Ha.out, List.take_of_length_le (by omega)]
          have Hall := Lib.hid hall; clear hall
          go_wp2
          go_ret
          exact ⟨by rw [Hall.out]; rfl, hb1⟩

end Go.Proofs.Ytipkimmlbdnbnaa
