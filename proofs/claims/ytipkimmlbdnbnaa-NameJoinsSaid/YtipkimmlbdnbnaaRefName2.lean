import Derived.Test.YtipkimmlbdnbnaaRefName1
import Derived.Test.YtipkimmlbdnbnaaRefPieces
namespace Go.Proofs.Ytipkimmlbdnbnaa
open Go.RowKit

theorem allp_step {xs : List (List UInt8)} {k : Nat} (hk : k < xs.length) : ((xs.take k).all partU = true → partU xs[k] = true → (xs.take (k + 1)).all partU = true) ∧ (partU xs[k] = false → xs.all partU = false) := by
  constructor
  · intro h1 h2
    rw [List.take_add_one, List.getElem?_eq_getElem hk, List.all_append, h1]
    simp [h2]
  · intro h
    cases ha : xs.all partU with
    | false => rfl
    | true =>
      have := List.all_eq_true.1 ha _ (List.getElem_mem hk)
      rw [this] at h; cases h
theorem pieces_few (l : List UInt8) : (pieces l).length ≤ l.length + 1 := by
  have : ∀ (t : List UInt8) (d : List (List UInt8)) (c : List UInt8), (t.foldl stepP (d, c)).1.length ≤ d.length + t.length := by
    intro t
    induction t with
    | nil => intro d c; simp
    | cons b t ih =>
      intro d c
      rw [List.foldl_cons]
      by_cases h : b = 46
      · subst h
        have e : stepP (d, c) 46 = (d ++ [c], []) := rfl
        rw [e]
        have := ih (d ++ [c]) []
        simp at this ⊢; omega
      · have e : stepP (d, c) b = (d, c ++ [b]) := if_neg h
        rw [e]
        have := ih d (c ++ [b])
        simp at this ⊢; omega
  have := this l [] []
  unfold pieces foldP
  simp at this ⊢; omega
theorem pieces_elem (l : List UInt8) : ∀ p ∈ pieces l, p.length ≤ l.length := by
  have : ∀ (t : List UInt8) (d : List (List UInt8)) (c : List UInt8) (N : Nat), (∀ p ∈ d, p.length ≤ N) → c.length + t.length ≤ N → ∀ p ∈ (t.foldl stepP (d, c)).1 ++ [(t.foldl stepP (d, c)).2], p.length ≤ N := by
    intro t
    induction t with
    | nil =>
      intro d c N hd hc p hp
      rcases List.mem_append.1 hp with h | h
      · exact hd p h
      · rw [List.mem_singleton.1 h]; simp at hc ⊢; omega
    | cons b t ih =>
      intro d c N hd hc
      rw [List.foldl_cons]
      rw [List.length_cons] at hc
      by_cases h : b = 46
      · subst h
        have e : stepP (d, c) 46 = (d ++ [c], []) := rfl
        rw [e]
        refine ih _ _ N (fun p hp => ?_) (by simp; omega)
        rcases List.mem_append.1 hp with h | h
        · exact hd p h
        · rw [List.mem_singleton.1 h]; omega
      · have e : stepP (d, c) b = (d, c ++ [b]) := if_neg h
        rw [e]
        exact ih _ _ N hd (by simp; omega)
  exact this l [] [] l.length (by simp) (by simp)

set_option maxHeartbeats 3200000 in
theorem rright_any (s : ByteArray) (w : World) (hs : s.size ≤ 68719476736) :
    Calls Try.prog 20 #[.string s] w (Ans w (.bool (rightU s.data.toList))) := by
  have hpc := fun w => pieces_any s w (by omega)
  have hcnt := fun w => rcount_any s w (by omega)
  have hfew := pieces_few s.data.toList
  have hel := pieces_elem s.data.toList
  have hsl : s.data.toList.length = s.size := by simp
  rw [hsl] at hfew hel
  unfold rightU
  obtain ⟨X, hX⟩ : ∃ X, pieces s.data.toList = X := ⟨_, rfl⟩
  rw [hX] at hpc hfew hel ⊢
  have Hel := Lib.hid hel; clear hel
  clear hX hsl
  obtain ⟨C, hC⟩ : ∃ C, countV s.data.toList = C := ⟨_, rfl⟩
  rw [hC] at hcnt ⊢
  clear hC
  go_enter Try.func20, Try.ntmps20
  go_wp2_with fail
  refine (hpc _).mono ?_
  rintro e w1 ⟨A, c, rfl, hown, hb1⟩
  have hx := Rd.of_own hown
  go_wp2
  go_loopw [4] (fun i wr => ∃ k : Nat, k ≤ X.length ∧ i = .int .i64 k ∧ Below w1.heap.size w1 wr ∧ (X.take k).all partU = true) (fun i _ => X.length - (intOf i).toNat)
  case atStart => exact ⟨0, Nat.zero_le _, rfl, Below.refl _ _, rfl⟩
  case round =>
    obtain ⟨k, hk, rfl, hb, ha⟩ := hrel
    have Ha := Lib.hid ha; clear ha
    by_cases hlt : k < X.length
    · obtain ⟨b, o, rfl, hbb, hc1⟩ := (hx.below hb).str hlt hlt
      have hj := fun w => rpart_any (tx X[k]) w (by rw [tx_size]; have := Hel.out _ (List.getElem_mem hlt); omega)
      simp only [tx_list] at hj
      cases hp : partU X[k] with
      | true =>
        rw [hp] at hj
        have Hp := Lib.hid hp; clear hp
        go_wp2_with (go_at_call 19; refine (hj _).mono ?_; rintro e w2 ⟨rfl, hb2⟩)
        go_roundw
        case rel => exact ⟨k + 1, by omega, by go_num, hb.trans (hb2.mono hb.size), (allp_step hlt).1 Ha.out Hp.out⟩
        case measure => simp [intOf]; omega
      | false =>
        rw [hp] at hj
        have hno := (allp_step hlt).2 hp
        have Hno := Lib.hid hno; clear hno
        have Hp := Lib.hid hp; clear hp
        go_wp2_with (go_at_call 19; refine (hj _).mono ?_; rintro e w2 ⟨rfl, hb2⟩)
        go_ret
        exact ⟨by rw [Hno.out]; rfl, bon hb1 (hb.trans (hb2.mono hb.size))⟩
    · have hall : X.all partU = true := by rw [← Ha.out, List.take_of_length_le (by omega)]
      have Hall := Lib.hid hall; clear hall
      by_cases h4 : X.length ≤ 4
      · have h4' : (X.length : Int) ≤ 4 := by omega
        go_wp2_with (go_at_call 35; refine (hcnt _).mono ?_; rintro e w2 ⟨rfl, hb2⟩)
        go_ret
        exact ⟨by rw [Hall.out, decide_eq_true h4]; rfl, bon hb1 (hb.trans (hb2.mono hb.size))⟩
      · have h4' : decide ((X.length : Int) ≤ 4) = false := decide_eq_false (by omega)
        have h4'' : decide (X.length ≤ 4) = false := decide_eq_false h4
        have H4 := Lib.hid h4; clear h4
        go_wp2
        go_ret
        exact ⟨by rw [Hall.out]; simp [h4''], bon hb1 hb⟩

set_option maxHeartbeats 800000 in
theorem rsplit_any (s : ByteArray) (w : World) (hs : s.size ≤ 68719476736) :
    Calls Try.prog 10 #[.string s] w (NewS 9 w (splitU s.data.toList)) := by
  have hr := fun w => rright_any s w hs
  have hpc := fun w => pieces_any s w (by omega)
  unfold splitU
  cases h : rightU s.data.toList with
  | false =>
    rw [h] at hr
    go_enter Try.func10, Try.ntmps10
    go_wp2_with fail
    refine (hr _).mono ?_
    rintro e w1 ⟨rfl, hb1⟩
    go_wp2
    go_ret
    exact ⟨none, 0, rfl, own_nil _ _ _, hb1⟩
  | true =>
    rw [h] at hr
    have H := Lib.hid h; clear h
    go_enter Try.func10, Try.ntmps10
    go_wp2_with fail
    refine (hr _).mono ?_
    rintro e w1 ⟨rfl, hb1⟩
    go_wp2_with fail
    refine (hpc _).mono ?_
    rintro e w2 ⟨A, c, rfl, hown, hb2⟩
    go_wp2
    go_ret
    exact ⟨A, c, rfl, own_base hown hb1.size, bon hb1 hb2⟩

theorem joined_step {ps : List (List UInt8)} {k : Nat} (hk : k < ps.length) : joinD (ps.take (k + 1)) = (if 0 < k then joinD (ps.take k) ++ [46] else joinD (ps.take k)) ++ ps[k] := by
  rw [List.take_add_one, List.getElem?_eq_getElem hk]
  show joinD (ps.take k ++ [ps[k]]) = _
  by_cases h : 0 < k
  · rw [if_pos h, joinD_snoc _ _ (by intro e; have := congrArg List.length e; rw [List.length_take, List.length_nil] at this; omega), List.append_assoc]; rfl
  · obtain rfl : k = 0 := by omega
    rw [if_neg h]
    show joinD ([] ++ [ps[0]]) = joinD [] ++ ps[0]
    rw [List.nil_append, joinD_one]
    rfl

theorem rjoin_le {ps : List (List UInt8)} (N : Nat) (hN : ∀ p ∈ ps, p.length ≤ N) : (joinD ps).length ≤ (N + 1) * ps.length := by
  cases ps with
  | nil => simp [joinD, Lib.join_nil]
  | cons p r =>
    have : ∀ r : List (List UInt8), (∀ p ∈ r, p.length ≤ N) → (Lib.joinTail [46] r).length ≤ (N + 1) * r.length := by
      intro r
      induction r with
      | nil => simp [Lib.joinTail]
      | cons q r ih =>
        intro h
        have e : Lib.joinTail [46] (q :: r) = 46 :: (q ++ Lib.joinTail [46] r) := by simp [Lib.joinTail]
        have h1 := h q (by simp)
        have h2 := ih (fun p hp => h p (List.mem_cons_of_mem _ hp))
        rw [e, List.length_cons, List.length_append, List.length_cons, Nat.mul_add]
        omega
    have h1 := hN p (by simp)
    have h2 := this r (fun q hq => hN q (List.mem_cons_of_mem _ hq))
    rw [joinD_cons, List.length_append, List.length_cons, Nat.mul_add]
    omega
theorem run_cat {P : Program} (w : World) (a b c : List UInt8) (h : a.length + b.length ≤ 9223372036854775807) (e : a ++ b = c) : (Op.stringOp .add (tx a) (tx b)).run P w = .ok (.string (tx c)) w := by
  subst e
  have e2 : tx a ++ tx b = tx (a ++ b) := by rw [app_tx, tx_list, tx_list]
  rw [← e2]
  exact run_string_add_sum w (tx a) (tx b) (by rw [tx_size, tx_size]; exact h)

theorem joinU_syn {ps : List (List UInt8)} (h : ps.length < 1 ∨ 4 < ps.length ∨ ps.all partU = false) : joinU ps = ([], 3) := if_pos h
theorem joinU_big {ps : List (List UInt8)} (h1 : 1 ≤ ps.length) (h2 : ps.length ≤ 4) (h3 : ps.all partU = true) (h : 24 < countV (joinD ps)) : joinU ps = ([], 6) := by
  unfold joinU
  rw [if_neg (by rw [h3]; rintro (h | h | h); omega; omega; cases h), if_pos h]
theorem joinU_ok {ps : List (List UInt8)} (h1 : 1 ≤ ps.length) (h2 : ps.length ≤ 4) (h3 : ps.all partU = true) (h : ¬ 24 < countV (joinD ps)) : joinU ps = (joinD ps, 0) := by
  unfold joinU
  rw [if_neg (by rw [h3]; rintro (h | h | h); omega; omega; cases h), if_neg h]

set_option maxHeartbeats 6400000 in
theorem rnjoin_any (n c : Nat) (A : Option Addr) (ps : List (List UInt8)) (w : World) (hx : Rd w w.heap.size A n (Sts ps)) (hn : n ≤ maxLen) (hN : ∀ p ∈ ps, p.length ≤ 1073741824) :
    Calls Try.prog 7 #[.slice A n c] w (Ans w (.tuple #[.string (tx (joinU ps).1), .int .i64 (joinU ps).2])) := by
  have hps := hx.strs
  unfold maxLen at hn
  by_cases h1 : n < 1
  · rw [joinU_syn (.inl (by omega))]
    obtain rfl : n = 0 := by omega
    have Hps := Lib.hid hps; clear hps
    have HN := Lib.hid hN; clear hN
    clear h1
    go_enter Try.func7, Try.ntmps7
    go_wp2
    go_ret2
    exact ⟨rfl, Below.refl _ _⟩
  · by_cases h4 : 4 < n
    · rw [joinU_syn (.inr (.inl (by omega)))]
      have Hps := Lib.hid hps; clear hps
      have HN := Lib.hid hN; clear hN
      go_enter Try.func7, Try.ntmps7
      go_wp2
      go_ret2
      exact ⟨rfl, Below.refl _ _⟩
    · have h1' : ¬ ((n : Int) < 1) := by omega
      have h4' : decide ((4 : Int) < (n : Int)) = false := decide_eq_false (by omega)
      have h4'' : decide (4 < n) = false := decide_eq_false (by omega)
      have hn4 : n ≤ 4 := by omega
      have hlen : ∀ k, (joinD (ps.take k)).length ≤ 4294967300 := fun k => by
        have := rjoin_le (ps := ps.take k) 1073741824 (fun p hp => hN p (List.mem_of_mem_take hp))
        have h2 : (ps.take k).length ≤ 4 := by rw [List.length_take]; omega
        have h3 : (1073741824 + 1) * (ps.take k).length ≤ (1073741824 + 1) * 4 := Nat.mul_le_mul_left _ h2
        omega
      have Hlen := Lib.hid hlen; clear hlen
      have HN := Lib.hid hN; clear hN
      have Hps := Lib.hid hps; clear hps
      clear h4
      go_enter Try.func7, Try.ntmps7
      go_wp2
      go_loopw [4, 5] (fun v i wr => ∃ k : Nat, k ≤ n ∧ i = .int .i64 k ∧ v = .string (tx (joinD (ps.take k))) ∧ Below w.heap.size w wr ∧ (ps.take k).all partU = true) (fun _ i _ => n - (intOf i).toNat)
      case atStart => exact ⟨0, Nat.zero_le _, rfl, rfl, Below.refl _ _, rfl⟩
      case round =>
        obtain ⟨k, hk, rfl, rfl, hb, ha⟩ := hrel
        have Ha := Lib.hid ha; clear ha
        by_cases hlt : k < n
        · have hkx : k < ps.length := by rw [Hps.out]; exact hlt
          obtain ⟨b, o, rfl, hbb, hc1⟩ := (hx.keep (w' := wr) fun _ hp => hb.cell (by omega)).str hlt hkx
          have hpl := HN.out _ (List.getElem_mem hkx)
          have hj := fun w => rpart_any (tx ps[k]) w (by rw [tx_size]; omega)
          simp only [tx_list] at hj
          have hjl := Hlen.out k
          cases hp : partU ps[k] with
          | false =>
            rw [hp] at hj
            have hno := (allp_step hkx).2 hp
            have Hno := Lib.hid hno; clear hno
            have Hp := Lib.hid hp; clear hp
            go_wp2_with (go_at_call 19; refine (hj _).mono ?_; rintro e w2 ⟨rfl, hb2⟩)
            go_ret2
            exact ⟨by rw [joinU_syn (.inr (.inr Hno.out))]; rfl, hb.trans (hb2.mono hb.size)⟩
          | true =>
            rw [hp] at hj
            have Hp := Lib.hid hp; clear hp
            have hst := joined_step hkx
            obtain ⟨J, hJ⟩ : ∃ J, joinD (ps.take k) = J := ⟨_, rfl⟩
            obtain ⟨J1, hJ1⟩ : ∃ J, joinD (ps.take (k + 1)) = J := ⟨_, rfl⟩
            rw [hJ] at hst hjl ⊢
            rw [hJ1] at hst
            have HJ1 := Lib.hid hJ1; clear hJ1
            have HJ := Lib.hid hJ; clear hJ
            by_cases h0 : 0 < k
            · rw [if_pos h0] at hst
              have hcat1 : ∀ w, (Op.stringOp .add (tx J) ⟨#[46]⟩).run Try.prog w = .ok (.string (tx (J ++ [46]))) w := fun w => run_cat w _ [46] _ (by simp; omega) rfl
              have hcat2 : ∀ w, (Op.stringOp .add (tx (J ++ [46])) (tx ps[k])).run Try.prog w = .ok (.string (tx J1)) w := fun w => run_cat w _ _ _ (by simp; omega) hst.symm
              have Hst := Lib.hid hst; clear hst
              go_wp2_with (go_at_call 19; refine (hj _).mono ?_; rintro e w2 ⟨rfl, hb2⟩; have hc2 := (hb2.cell (p := ⟨b, o + k, none⟩) (by have := hb.size; show b < _; omega)).trans hc1)
              go_roundw
              case rel => exact ⟨k + 1, by omega, by go_num, by rw [HJ1.out], hb.trans (hb2.mono hb.size), (allp_step hkx).1 Ha.out Hp.out⟩
              case measure => simp [intOf]; omega
            · rw [if_neg h0] at hst
              obtain rfl : k = 0 := by omega
              have hcat2 : ∀ w, (Op.stringOp .add (tx J) (tx ps[0])).run Try.prog w = .ok (.string (tx J1)) w := fun w => run_cat w _ _ _ (by omega) hst.symm
              have Hst := Lib.hid hst; clear hst
              rw [Nat.add_zero] at hc1
              clear h0
              go_wp2_with (go_at_call 19; refine (hj _).mono ?_; rintro e w2 ⟨rfl, hb2⟩; have hc2 := (hb2.cell (p := ⟨b, o, none⟩) (by have := hb.size; show b < _; omega)).trans hc1)
              go_roundw
              case rel => exact ⟨0 + 1, by omega, by go_num, by rw [HJ1.out], hb.trans (hb2.mono hb.size), (allp_step hkx).1 Ha.out Hp.out⟩
              case measure => simp [intOf]; omega
        · obtain rfl : k = n := by omega
          have hall0 : ps.take k = ps := List.take_of_length_le (by rw [Hps.out]; omega)
          have hall := Ha.out
          have hl := Hlen.out k
          rw [hall0] at hall hl ⊢
          have hrj := right_join (ps := ps) (by rw [Hps.out]; omega) (by rw [Hps.out]; omega) hall
          have hr := fun w => rright_any (tx (joinD ps)) w (by rw [tx_size]; omega)
          rw [tx_list, hrj] at hr
          have Hall := Lib.hid hall; clear hall
          have Hall0 := Lib.hid hall0; clear hall0
          have Hrj := Lib.hid hrj; clear hrj
          by_cases hbig : 24 < countV (joinD ps)
          · rw [decide_eq_false (show ¬ countV (joinD ps) ≤ 24 by omega)] at hr
            go_wp2_with (go_at_call 20; refine (hr _).mono ?_; rintro e w2 ⟨rfl, hb2⟩)
            go_ret2
            exact ⟨by rw [joinU_big (by rw [Hps.out]; omega) (by rw [Hps.out]; omega) Hall.out (by omega)]; rfl, hb.trans (hb2.mono hb.size)⟩
          · rw [decide_eq_true (show countV (joinD ps) ≤ 24 by omega)] at hr
            go_wp2_with (go_at_call 20; refine (hr _).mono ?_; rintro e w2 ⟨rfl, hb2⟩)
            go_ret2
            exact ⟨by rw [joinU_ok (by rw [Hps.out]; omega) (by rw [Hps.out]; omega) Hall.out (by omega)]; rfl, hb.trans (hb2.mono hb.size)⟩

end Go.Proofs.Ytipkimmlbdnbnaa
