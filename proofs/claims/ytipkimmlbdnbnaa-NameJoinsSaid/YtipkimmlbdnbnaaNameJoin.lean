import Derived.Test.YtipkimmlbdnbnaaNameSplit
namespace Go.Proofs.Ytipkimmlbdnbnaa
open Go.RowKit

theorem rdB {w w' : World} {B n : Nat} {A : Option Addr} {xs : List Value} (h : Rd w B A n xs) (hb : Below w.heap.size w w') (hB : B ≤ w.heap.size) : Rd w' B A n xs := h.keep fun _ hp => hb.cell (by omega)

set_option maxHeartbeats 800000 in
theorem join1_any (s : ByteArray) (w : World) : Calls Try.prog 14 #[.string s] w (Ans w (.bool (!partU s.data.toList))) := by
  go_enter Try.func14, Try.ntmps14
  go_wp2_with fail
  refine (part_any _ _).mono ?_
  rintro e w1 ⟨rfl, hb1⟩
  go_wp2
  go_ret
  exact ⟨rfl, hb1⟩

/-- Whether one is no part, as the index that is found. -/
def FoundNo (w : World) (all : Bool) (en : Ending) (w' : World) : Prop := ∃ z : Int, en = .returned (.int .i64 z) ∧ decide (0 ≤ z) = !all ∧ Below w.heap.size w w'
theorem all_step {xs : List (List UInt8)} {k : Nat} (hk : k < xs.length) : ((xs.take k).all partU = true → partU xs[k] = true → (xs.take (k + 1)).all partU = true) ∧ (partU xs[k] = false → xs.all partU = false) := by
  constructor
  · intro h1 h2
    rw [List.take_add_one, List.getElem?_eq_getElem hk, List.all_append, h1]
    simp [h2]
  · intro h
    cases ha : xs.all partU with
    | false => rfl
    | true =>
      have := List.all_eq_true.1 ha _ (List.getElem_mem hk)
      rw [this] at h; cases h

set_option maxHeartbeats 1600000 in
theorem indexNo_any (n c : Nat) (A : Option Addr) (xs : List (List UInt8)) (w : World) (hx : Rd w w.heap.size A n (Sts xs)) (hn : n ≤ maxLen) :
    Calls Try.prog 28 #[.slice A n c, .func (.func 14) #[] #[]] w (FoundNo w (xs.all partU)) := by
  unfold maxLen at hn
  have Hx := Lib.hid hx.strs
  go_enter Try.func28, Try.ntmps28
  go_wp2
  go_loopw [8] (fun i wr => ∃ k : Nat, k ≤ n ∧ i = .int .i64 k ∧ Below w.heap.size w wr ∧ (xs.take k).all partU = true) (fun i _ => n - (intOf i).toNat)
  case atStart => exact ⟨0, Nat.zero_le _, rfl, Below.refl _ _, rfl⟩
  case round =>
    obtain ⟨k, hk, rfl, hb, ha⟩ := hrel
    have Ha := Lib.hid ha; clear ha
    by_cases hlt : k < n
    · have hkx : k < xs.length := by rw [Hx.out]; exact hlt
      obtain ⟨b, o, rfl, hbb, hc1⟩ := (rdB hx hb (Nat.le_refl _)).str hlt hkx
      have hj := fun w => join1_any (tx xs[k]) w
      simp only [tx_list] at hj
      cases hp : partU xs[k] with
      | true =>
        rw [hp] at hj
        have Hp := Lib.hid hp; clear hp
        go_wp2_with (go_at_call 14; refine (hj _).mono ?_; rintro e w1 ⟨rfl, hb1⟩)
        go_roundw
        case rel => exact ⟨k + 1, by omega, by go_num, hb.trans (hb1.mono hb.size), (all_step hkx).1 Ha.out Hp.out⟩
        case measure => simp [intOf]; omega
      | false =>
        rw [hp] at hj
        have hno := (all_step hkx).2 hp
        have Hno := Lib.hid hno; clear hno
        have Hp := Lib.hid hp; clear hp
        go_wp2_with (go_at_call 14; refine (hj _).mono ?_; rintro e w1 ⟨rfl, hb1⟩)
        go_ret
        exact ⟨k, rfl, by rw [Hno.out, decide_eq_true (by omega)]; rfl, hb.trans (hb1.mono hb.size)⟩
    · obtain rfl : k = n := by omega
      have hall : xs.all partU = true := by rw [← Ha.out, List.take_of_length_le (by rw [Hx.out]; omega)]
      have Hall := Lib.hid hall; clear hall
      go_wp2
      go_ret
      exact ⟨-1, rfl, by rw [Hall.out]; rfl, hb⟩

set_option maxHeartbeats 800000 in
theorem containsNo_any (n c : Nat) (A : Option Addr) (xs : List (List UInt8)) (w : World) (hx : Rd w w.heap.size A n (Sts xs)) (hn : n ≤ maxLen) :
    Calls Try.prog 16 #[.slice A n c, .func (.func 14) #[] #[]] w (Ans w (.bool (!xs.all partU))) := by
  go_enter Try.func16, Try.ntmps16
  go_wp2_with fail
  refine (indexNo_any n c A xs _ hx hn).mono ?_
  rintro e w1 ⟨z, rfl, hz, hb1⟩
  have Hz := Lib.hid hz; clear hz
  go_wp2
  go_ret
  exact ⟨by rw [← Hz.out]; rfl, hb1⟩

theorem part_len {l : List UInt8} (h : partU l = true) : l.length ≤ 32 := by
  have hs := part_small h
  have hw := small_whole l hs
  have he := (enc_runes _ l (Nat.le_refl _) 0 hw).1
  have hl : (runesU l).length ≤ 8 := by
    unfold partU at h
    simp only [Bool.and_eq_true, decide_eq_true_eq] at h
    omega
  have : ∀ ns : List Int, (encU ns).length ≤ 4 * ns.length := by
    intro ns
    induction ns with
    | nil => simp [encU]
    | cons r t ih => rw [encU_cons, List.length_append, List.length_cons]; have := (enc_pos r).2; omega
  have := this (runesU l)
  rw [he] at this
  omega
theorem tail_len : ∀ (r : List (List UInt8)), (∀ p ∈ r, p.length ≤ 32) → (Lib.joinTail [46] r).length ≤ 33 * r.length
  | [], _ => by simp [Lib.joinTail]
  | q :: r, h => by
    have e : Lib.joinTail [46] (q :: r) = 46 :: (q ++ Lib.joinTail [46] r) := by simp [Lib.joinTail]
    have h1 := h q (by simp)
    have h2 := tail_len r (fun p hp => h p (List.mem_cons_of_mem _ hp))
    rw [e, List.length_cons, List.length_append, List.length_cons]
    omega
theorem join_len {ps : List (List UInt8)} (h : ps.all partU = true) : (joinD ps).length ≤ 33 * ps.length := by
  cases ps with
  | nil => simp [joinD, Lib.join_nil]
  | cons p r =>
    have hp := fun q hq => part_len (List.all_eq_true.1 h q hq)
    rw [joinD_cons, List.length_append, List.length_cons]
    have h1 := hp p (by simp)
    have h2 := tail_len r (fun q hq => hp q (List.mem_cons_of_mem _ hq))
    omega

set_option maxHeartbeats 3200000 in
theorem njoin_any (n c : Nat) (A : Option Addr) (ps : List (List UInt8)) (w : World) (hx : Rd w w.heap.size A n (Sts ps)) (hn : n ≤ maxLen) (hnc : n ≤ c) :
    Calls Try.prog 6 #[.slice A n c] w (Ans w (.tuple #[.string (tx (joinU ps).1), .int .i64 (joinU ps).2])) := by
  have hps := hx.strs
  have hno := fun w hx => containsNo_any n c A ps w hx hn
  unfold maxLen at hn
  unfold joinU
  by_cases h1 : n < 1
  · rw [if_pos (.inl (by omega))]
    obtain rfl : n = 0 := by omega
    have Hps := Lib.hid hps; clear hps
    clear h1 hno
    go_enter Try.func6, Try.ntmps6
    go_wp2
    go_ret2
    exact ⟨rfl, Below.refl _ _⟩
  · by_cases h4 : 4 < n
    · rw [if_pos (.inr (.inl (by omega)))]
      have Hps := Lib.hid hps; clear hps
      clear hno
      go_enter Try.func6, Try.ntmps6
      go_wp2
      go_ret2
      exact ⟨rfl, Below.refl _ _⟩
    · have h1' : ¬ ((n : Int) < 1) := by omega
      have h4' : decide ((4 : Int) < (n : Int)) = false := decide_eq_false (by omega)
      cases hall : ps.all partU with
      | false =>
        rw [if_pos (.inr (.inr rfl))]
        rw [hall] at hno
        have Hps := Lib.hid hps; clear hps
        clear h1 h4 hall
        have hno := hno w hx
        go_enter Try.func6, Try.ntmps6
        go_wp2_with fail
        refine hno.mono ?_
        rintro e w1 ⟨rfl, hb1⟩
        go_wp2
        go_ret2
        exact ⟨rfl, hb1⟩
      | true =>
        rw [if_neg (by rintro (h | h | h); omega; omega; cases h)]
        rw [hall] at hno
        have hno := hno w hx
        have hjl := join_len hall
        obtain ⟨b, o, rfl, hb, hcell⟩ := hx.2 (by omega)
        have hj := fun w1 (hb1 : Below w.heap.size w w1) => Try.strings_Join b o c (ps.map tx) ⟨#[46]⟩ w1
          (fun j x hj => by
            rw [hb1.cell (by omega)]
            refine hcell j _ ?_
            rw [List.getElem?_map, Option.map_eq_some_iff] at hj
            obtain ⟨p, hp, rfl⟩ := hj
            rw [Sts, List.getElem?_map, hp]; rfl)
          (by have := hb1.size; omega) (by simp; omega) (by simp; omega) (by
            have e : (ps.map tx).map (·.data.toList) = ps := by simp [tx_list, Function.comp_def]
            rw [e]; show (joinD ps).length ≤ _; omega)
        have e2 : (ps.map tx).length = n := by rw [List.length_map, hps]
        have e3 : (⟨(Lib.join ((ps.map tx).map (·.data.toList)) (⟨#[46]⟩ : ByteArray).data.toList).toArray⟩ : ByteArray) = tx (joinD ps) := by
          have e : (ps.map tx).map (·.data.toList) = ps := by simp [tx_list, Function.comp_def]
          rw [e]; rfl
        rw [e2, e3] at hj
        have hcnt := fun w => count_any (tx (joinD ps)) w (by rw [tx_size]; omega)
        rw [tx_list] at hcnt
        clear e2 e3 hcell h1 h4
        have Hps := Lib.hid hps; clear hps
        have Hall := Lib.hid hall; clear hall
        by_cases hbig : 24 < countV (joinD ps)
        · rw [if_pos hbig]
          go_enter Try.func6, Try.ntmps6
          go_wp2_with fail
          refine hno.mono ?_
          rintro e w1 ⟨rfl, hb1⟩
          go_wp2_with fail
          refine (hj _ hb1).mono ?_
          rintro e w2 ⟨rfl, hb2⟩
          go_wp2_with fail
          refine (hcnt _).mono ?_
          rintro e w3 ⟨rfl, hb3⟩
          go_wp2
          go_ret2
          exact ⟨rfl, bon (bon hb1 hb2) hb3⟩
        · rw [if_neg hbig]
          have hnb : countV (joinD ps) ≤ 24 := by omega
          go_enter Try.func6, Try.ntmps6
          go_wp2_with fail
          refine hno.mono ?_
          rintro e w1 ⟨rfl, hb1⟩
          go_wp2_with fail
          refine (hj _ hb1).mono ?_
          rintro e w2 ⟨rfl, hb2⟩
          go_wp2_with fail
          refine (hcnt _).mono ?_
          rintro e w3 ⟨rfl, hb3⟩
          go_wp2
          go_ret2
          exact ⟨rfl, bon (bon hb1 hb2) hb3⟩

end Go.Proofs.Ytipkimmlbdnbnaa
