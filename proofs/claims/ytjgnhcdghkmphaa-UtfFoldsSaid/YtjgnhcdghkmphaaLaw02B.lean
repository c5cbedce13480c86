import Derived.Test.YtjgnhcdghkmphaaLaw02
namespace Go.Proofs.Ytjgnhcdghkmphaa
open Go.RowKit

theorem foldV_len (s : ByteArray) : (foldV s.data.toList).length ≤ 4 * s.size := by
  cases h : brokenU 0 s.data.toList with
  | some p => rw [foldV_bad h]; simp
  | none =>
    rw [foldV_ok h]
    have h1 := enc_len ((runesU s.data.toList).map foldR)
    have h2 := runes_few s
    rw [List.length_map] at h1
    omega
theorem foldV_twice (s : ByteArray) : foldV (⟨(foldV s.data.toList).toArray⟩ : ByteArray).data.toList = foldV s.data.toList := by
  show foldV (foldV s.data.toList).toArray.toList = _
  rw [List.toList_toArray]
  cases h : brokenU 0 s.data.toList with
  | some p => rw [foldV_bad h]; rfl
  | none =>
    have hv := runes_valid s.data.toList.length s.data.toList (Nat.le_refl _)
    have hv' : ∀ r ∈ (runesU s.data.toList).map foldR, validU r = true := fun r hr => by
      obtain ⟨r', h', rfl⟩ := List.mem_map.1 hr
      exact fold_valid r' (hv r' h')
    rw [foldV_ok h, foldV_ok (whole_enc 0 _ hv'), runes_enc _ hv', List.map_map]
    congr 1
    apply List.map_congr_left
    intro r _
    exact fold_twice r
/-- What is cut off begins the text, and has so many runes at most. -/
theorem cutV_facts (s : ByteArray) (n : Int) : ∃ C, cutV s.data.toList n = C ∧ C.length ≤ s.size ∧ s.extract 0 C.length = ⟨C.toArray⟩ ∧ ∃ q M : Int, countV C = q ∧ max n 0 = M ∧ q ≤ M := by
  have hl : s.data.toList.length = s.size := by simp
  obtain ⟨C, hC, j, hj, hcnt⟩ : ∃ C, cutV s.data.toList n = C ∧ ∃ j, C = s.data.toList.take j ∧ countV C ≤ max n 0 := by
    cases h : brokenU 0 s.data.toList with
    | some p => exact ⟨[], cutV_bad h, 0, rfl, by rw [countV_ok (by rfl), runesU_nil, List.length_nil]; omega⟩
    | none =>
      obtain ⟨j, hj⟩ := (enc_runes s.data.toList.length s.data.toList (Nat.le_refl _) 0 h).2 n.toNat
      refine ⟨_, cutV_ok h, j, hj, ?_⟩
      have hv : ∀ r ∈ (runesU s.data.toList).take n.toNat, validU r = true := fun r hr => runes_valid s.data.toList.length s.data.toList (Nat.le_refl _) r (List.mem_of_mem_take hr)
      rw [countV_ok (whole_enc 0 _ hv), runes_enc _ hv, List.length_take]
      omega
  have hlen : C.length ≤ s.size := by rw [hj, List.length_take]; omega
  refine ⟨C, hC, hlen, ?_, _, _, rfl, rfl, hcnt⟩
  refine bytes_ext ?_
  rw [take_str]
  show _ = C.toArray.toList
  rw [List.toList_toArray]
  exact (List.prefix_iff_eq_take.1 ⟨s.data.toList.drop j, by rw [hj, List.take_append_drop]⟩).symm

set_option maxHeartbeats 3200000 in
theorem utfFolds_walk (s : ByteArray) (n r : Int) (w : World) :
    Calls Try.prog 4 #[.string s, .int .i64 n, .int .i32 r] w (Ans w (.bool true)) := by
  by_cases h : 300 < (s.size : Int)
  · go_enter Try.func4, Try.ntmps4
    go_wp2_with fail
    refine (alive2_any _).mono ?_
    rintro e w1 ⟨rfl, hb⟩
    go_wp2
    go_ret
    exact ⟨rfl, hb⟩
  · have hs : s.size ≤ 300 := by omega
    have k1 := fun w' => count_any s w' (by omega)
    have k2 := fun w' => rcount_any s w' (by omega)
    have k3 := fun w' => cut_any s n w' (by omega)
    have k4 := fun w' => rcut_any s n w' (by omega)
    have k5 := fun w' => fold_any s w' (by omega)
    have k6 := fun w' => rfold_any s w' (by omega)
    generalize countV s.data.toList = V1 at k1 k2
    generalize cutV s.data.toList n = V2 at k3 k4
    generalize foldV s.data.toList = V3 at k5 k6
    go_enter Try.func4, Try.ntmps4
    go_wp2_with fail
    refine (k1 w).mono ?_
    rintro e w1 ⟨rfl, b1⟩
    go_wp2_with fail
    refine (k2 w1).mono ?_
    rintro e w2 ⟨rfl, b2⟩
    go_wp2_with fail
    refine (k3 w2).mono ?_
    rintro e w3 ⟨rfl, b3⟩
    go_wp2_with fail
    refine (k4 w3).mono ?_
    rintro e w4 ⟨rfl, b4⟩
    go_wp2_with fail
    refine (k5 w4).mono ?_
    rintro e w5 ⟨rfl, b5⟩
    go_wp2_with fail
    refine (k6 w5).mono ?_
    rintro e w6 ⟨rfl, b6⟩
    go_wp2_with fail
    refine (letter_any r w6).mono ?_
    rintro e w7 ⟨rfl, rfl⟩
    go_wp2_with fail
    refine (rletter_any r w7).mono ?_
    rintro e w8 ⟨rfl, rfl⟩
    go_wp2_with fail
    refine (upper_any r w8).mono ?_
    rintro e w9 ⟨rfl, rfl⟩
    go_wp2_with fail
    refine (rupper_any r w9).mono ?_
    rintro e w10 ⟨rfl, rfl⟩
    go_wp2_with fail
    refine (alive2_any _).mono ?_
    rintro e w11 ⟨rfl, b7⟩
    go_wp2
    go_ret
    exact ⟨rfl, bon (bon (bon (bon (bon (bon b1 b2) b3) b4) b5) b6) b7⟩

theorem text_len (xs : List Int) : (textV xs).1.length ≤ 4 * xs.length := by
  unfold textV
  split
  · simp
  · exact enc_len xs

/-- Behind the first half: what the second half asks. -/
theorem utfBack_out (m c : Nat) (n : Int) (A : Option Addr) (s : ByteArray) (w : World) (h : 100 < (m : Int) ∨ ((m : Int) ≤ 100 ∧ 300 < (s.size : Int))) :
    Calls Try.prog 5 #[.slice A m c, .string s, .int .i64 n] w (Ans w (.bool true)) := by
  rcases h with h | ⟨h', h⟩
  · go_enter Try.func5, Try.ntmps5
    go_wp2_with fail
    refine (alive2_any _).mono ?_
    rintro e w1 ⟨rfl, hb⟩
    go_wp2
    go_ret
    exact ⟨rfl, hb⟩
  · have n1 : ¬ (100 < (m : Int)) := by omega
    clear h'
    go_enter Try.func5, Try.ntmps5
    go_wp2_with fail
    refine (alive2_any _).mono ?_
    rintro e w1 ⟨rfl, hb⟩
    go_wp2
    go_ret
    exact ⟨rfl, hb⟩

set_option maxHeartbeats 6400000 in
set_option maxRecDepth 100000 in
theorem utfBack_ok (B m c : Nat) (n : Int) (A : Option Addr) (xs : List Int) (s : ByteArray) (w : World) (hx : Rd w B A m (Ris .i32 xs)) (hB : B ≤ w.heap.size) (hm : m ≤ 100) (hs : s.size ≤ 300) (hb : firstBad 0 xs = none) :
    Calls Try.prog 5 #[.slice A m c, .string s, .int .i64 n] w (Ans w (.bool true)) := by
  have hxl := hx.ints
  have hv := firstBad_none 0 xs hb
  have ht := text_any B m c A xs w hx (by unfold maxLen; omega)
  rw [textV_ok hb] at ht
  have hel := enc_len xs
  obtain ⟨T, hT⟩ : ∃ T, T = encU xs := ⟨_, rfl⟩
  rw [← hT] at ht hel
  have hsz : (⟨T.toArray⟩ : ByteArray).size ≤ 400 := by show T.toArray.size ≤ 400; rw [List.size_toArray]; omega
  have hr := fun w' => runes_any ⟨T.toArray⟩ w' (by omega)
  have hc := fun w' => count_any ⟨T.toArray⟩ w' (by omega)
  have e1 : (⟨T.toArray⟩ : ByteArray).data.toList = encU xs := by show T.toArray.toList = _; rw [List.toList_toArray, hT]
  rw [e1] at hr hc
  rw [runesV_ok (whole_enc 0 xs hv), runes_enc xs hv] at hr
  rw [countV_ok (whole_enc 0 xs hv), runes_enc xs hv] at hc
  obtain ⟨C, hC, hC1, hC2, q, M, hq, hM, hqM⟩ := cutV_facts s n
  have kcut := fun w' => cut_any s n w' (by omega)
  rw [hC] at kcut
  have hCs : (⟨C.toArray⟩ : ByteArray).size ≤ 300 := by show C.toArray.size ≤ 300; rw [List.size_toArray]; omega
  have kcnt := fun w' => count_any ⟨C.toArray⟩ w' (by omega)
  rw [show (⟨C.toArray⟩ : ByteArray).data.toList = C from List.toList_toArray, hq] at kcnt
  have kf := fun w' => fold_any s w' (by omega)
  have hfl := foldV_len s
  have kf2 := fun w' => fold_any ⟨(foldV s.data.toList).toArray⟩ w' (by show (foldV s.data.toList).toArray.size ≤ _; rw [List.size_toArray]; omega)
  rw [foldV_twice s] at kf2
  generalize foldV s.data.toList = F at kf kf2 hfl
  clear hC hq e1 hel hfl hv hb
  have HT := Lib.hid hT; clear hT
  have hm' : (xs.length : Int) = (m : Int) := by omega
  have HX := Lib.hid hxl; clear hxl
  have hmL : m ≤ maxLen := by unfold maxLen; omega
  have n1 : ¬ (100 < (m : Int)) := by omega
  have n2 : decide (300 < (s.size : Int)) = false := decide_eq_false (by omega)
  have hC1' : (C.length : Int) ≤ (s.size : Int) := by omega
  go_enter Try.func5, Try.ntmps5
  go_wp2_with fail
  refine ht.mono ?_
  rintro e w1 ⟨rfl, b1⟩
  have hx1 := hx.below (b1.mono hB)
  have hB1 := Nat.le_trans hB b1.size
  go_wp2_with fail
  refine (hr w1).mono ?_
  rintro e w2 ⟨A2, c2, rfl, hown2, b2⟩
  dsimp only at hown2
  have hx2 := hx1.below (b2.mono hB1)
  have hB2 := Nat.le_trans hB1 b2.size
  have hr2 := Rd.of_own hown2
  have hR := rd_few hown2
  go_wp2_with fail
  refine (same_any32 w2.heap.size _ _ _ _ _ _ _ _ w2 hr2 (hx2.wider hB2) hR hmL).mono ?_
  rintro e w3 ⟨rfl, b3⟩
  rw [sameI_self]
  go_wp2_with fail
  refine (hc w3).mono ?_
  rintro e w4 ⟨rfl, b4⟩
  rw [hm']
  go_wp2_with fail
  refine (kcut w4).mono ?_
  rintro e w5 ⟨rfl, b5⟩
  go_wp2_with fail
  refine (kf w5).mono ?_
  rintro e w6 ⟨rfl, b6⟩
  go_wp2_with fail
  refine (kf2 w6).mono ?_
  rintro e w7 ⟨rfl, b7⟩
  go_wp2_with fail
  refine (kf w7).mono ?_
  rintro e w8 ⟨rfl, b8⟩
  go_wp2_with fail
  refine (kcnt w8).mono ?_
  rintro e w9 ⟨rfl, b9⟩
  go_wp2_with fail
  refine (alive2_any _).mono ?_
  rintro e w10 ⟨rfl, b10⟩
  go_wp2
  go_ret
  exact ⟨rfl, bon (bon (bon (bon (bon (bon (bon (bon (bon b1 b2) b3) b4) b5) b6) b7) b8) b9) b10⟩

set_option maxHeartbeats 6400000 in
set_option maxRecDepth 100000 in
theorem utfBack_bad (B m c p : Nat) (n : Int) (A : Option Addr) (xs : List Int) (s : ByteArray) (w : World) (hx : Rd w B A m (Ris .i32 xs)) (hm : m ≤ 100) (hs : s.size ≤ 300) (hb : firstBad 0 xs = some p) :
    Calls Try.prog 5 #[.slice A m c, .string s, .int .i64 n] w (Ans w (.bool true)) := by
  have ht := text_any B m c A xs w hx (by unfold maxLen; omega)
  rw [textV_bad hb] at ht
  obtain ⟨C, hC, hC1, hC2, q, M, hq, hM, hqM⟩ := cutV_facts s n
  have kcut := fun w' => cut_any s n w' (by omega)
  rw [hC] at kcut
  have hCs : (⟨C.toArray⟩ : ByteArray).size ≤ 300 := by show C.toArray.size ≤ 300; rw [List.size_toArray]; omega
  have kcnt := fun w' => count_any ⟨C.toArray⟩ w' (by omega)
  rw [show (⟨C.toArray⟩ : ByteArray).data.toList = C from List.toList_toArray, hq] at kcnt
  have kf := fun w' => fold_any s w' (by omega)
  have hfl := foldV_len s
  have kf2 := fun w' => fold_any ⟨(foldV s.data.toList).toArray⟩ w' (by show (foldV s.data.toList).toArray.size ≤ _; rw [List.size_toArray]; omega)
  rw [foldV_twice s] at kf2
  generalize foldV s.data.toList = F at kf kf2 hfl
  clear hC hq hfl hb
  have n1 : ¬ (100 < (m : Int)) := by omega
  have n2 : decide (300 < (s.size : Int)) = false := decide_eq_false (by omega)
  have hC1' : (C.length : Int) ≤ (s.size : Int) := by omega
  go_enter Try.func5, Try.ntmps5
  go_wp2_with fail
  refine ht.mono ?_
  rintro e w4 ⟨rfl, b4⟩
  go_wp2_with fail
  refine (kcut w4).mono ?_
  rintro e w5 ⟨rfl, b5⟩
  go_wp2_with fail
  refine (kf w5).mono ?_
  rintro e w6 ⟨rfl, b6⟩
  go_wp2_with fail
  refine (kf2 w6).mono ?_
  rintro e w7 ⟨rfl, b7⟩
  go_wp2_with fail
  refine (kf w7).mono ?_
  rintro e w8 ⟨rfl, b8⟩
  go_wp2_with fail
  refine (kcnt w8).mono ?_
  rintro e w9 ⟨rfl, b9⟩
  go_wp2_with fail
  refine (alive2_any _).mono ?_
  rintro e w10 ⟨rfl, b10⟩
  go_wp2
  go_ret
  exact ⟨rfl, bon (bon (bon (bon (bon (bon b4 b5) b6) b7) b8) b9) b10⟩

theorem utfBack_walk (B m c : Nat) (n : Int) (A : Option Addr) (xs : List Int) (s : ByteArray) (w : World) (hx : Rd w B A m (Ris .i32 xs)) (hB : B ≤ w.heap.size) :
    Calls Try.prog 5 #[.slice A m c, .string s, .int .i64 n] w (Ans w (.bool true)) := by
  by_cases h1 : 100 < m
  · exact utfBack_out m c n A s w (.inl (by omega))
  · by_cases h2 : 300 < s.size
    · exact utfBack_out m c n A s w (.inr ⟨by omega, by omega⟩)
    · cases hb : firstBad 0 xs with
      | none => exact utfBack_ok B m c n A xs s w hx hB (by omega) (by omega) hb
      | some p => exact utfBack_bad B m c p n A xs s w hx (by omega) (by omega) hb

end Go.Proofs.Ytjgnhcdghkmphaa
