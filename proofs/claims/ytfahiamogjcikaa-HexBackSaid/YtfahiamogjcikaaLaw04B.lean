import Derived.Test.YtfahiamogjcikaaLaw04
namespace Go.Proofs.Ytfahiamogjcikaa
open Go.RowKit

set_option maxHeartbeats 1600000 in
theorem hexBack_out (n c : Nat) (A : Option Addr) (s : ByteArray) (z : Int) (w : World) (h : 300 < (n : Int) ∨ ((n : Int) ≤ 300 ∧ 300 < (s.size : Int))) :
    Calls Try.prog 4 #[.slice A n c, .string s, .int .i64 z] w (Ans w (.bool true)) := by
  rcases h with h | ⟨h', h⟩
  all_goals
    go_enter Try.func4, Try.ntmps4
    go_wp2_with fail
    refine (alive4_any _).mono ?_
    rintro e w1 ⟨rfl, hb1⟩
    go_wp2
    go_ret
    exact ⟨rfl, hb1⟩

theorem join_step {R : List (List UInt8)} {k : Nat} (hk : k < R.length) : tx ((R.take (k + 1)).flatten) = tx (R.take k).flatten ++ tx R[k] := by
  rw [List.take_add_one, List.getElem?_eq_getElem hk, List.flatten_append, app_tx, tx_list, tx_list]
  simp
theorem join_len {R : List (List UInt8)} {k : Nat} : (R.take k).flatten.length ≤ R.flatten.length := by
  have : R.flatten = (R.take k).flatten ++ (R.drop k).flatten := by rw [← List.flatten_append, List.take_append_drop]
  rw [this, List.length_append]; omega

set_option maxHeartbeats 6400000 in
/-- From the loop over the rows on. -/
theorem hexBack_in (n c : Nat) (A : Option Addr) (xs : List UInt8) (s : ByteArray) (z : Int) (w : World) (hx : Rd w w.heap.size A n (Byt xs)) (hn : n ≤ 300) (hnc : n ≤ c) (hs : s.size ≤ 300) :
    Calls Try.prog 4 #[.slice A n c, .string s, .int .i64 z] w (Ans w (.bool true)) := by
  have hxl := hx.bytes
  have h1 := fun w (hx : Rd w w.heap.size A n (Byt xs)) => hprint_any _ n c A xs w hx (Nat.le_refl _) (by omega)
  have h2 := fun w => hparse_any (tx (hexU xs)) w (by rw [tx_size, hexU_length]; omega)
  rw [tx_list, hparse_hex] at h2
  have h3 := fun w => hparse_any s w (by omega)
  have hb := hparse_back s.data.toList
  have hl3 := hparse_len s.data.toList
  have hsl : s.data.toList.length = s.size := by simp
  rw [hsl] at hl3
  generalize hparseV s.data.toList = V at h3 hb hl3
  obtain ⟨Y, i, g⟩ := V
  dsimp only at hb hl3 h3
  have h4 := fun w (hx : Rd w w.heap.size A n (Byt xs)) => hrows_any _ n c A xs z w hx (Nat.le_refl _) (by omega) hnc
  have hflat : (z < 1 ∨ 64 < z) ∧ hrowsV xs z = [] ∨ (1 ≤ z ∧ z ≤ 64) ∧ (hrowsV xs z).flatten = hexU xs := by
    by_cases h : z < 1 ∨ 64 < z
    · exact .inl ⟨h, hrowsV_out h⟩
    · exact .inr ⟨by omega, hrows_flat xs z (by omega) (by omega)⟩
  have hTs : (tx (hexU xs)).size ≤ 600 := by rw [tx_size, hexU_length]; omega
  have hRl : (hrowsV xs z).flatten.length ≤ 600 := by
    rcases hflat with ⟨_, h⟩ | ⟨_, h⟩
    · rw [h]; simp
    · rw [h, hexU_length]; omega
  have hnum : (hrowsV xs z).length ≤ 300 := by
    rcases hflat with ⟨_, h⟩ | ⟨h, _⟩
    · rw [h]; simp
    · unfold hrowsV
      rw [if_neg (by omega), List.length_map, cuts_len]
      have h0 : 0 < z.toNat := by omega
      rcases Nat.eq_zero_or_pos (numU z.toNat xs) with h' | h'
      · omega
      · have := (num_lt (l := xs) (k := numU z.toNat xs - 1) h0).2 (by omega)
        have h2 : (numU z.toNat xs - 1) * 1 ≤ (numU z.toNat xs - 1) * z.toNat := Nat.mul_le_mul_left _ h0
        omega
  generalize hrowsV xs z = R at h4 hflat hRl hnum
  have t1 : ¬ ((300 : Int) < (n : Int)) := by omega
  have t2 : decide ((300 : Int) < (s.size : Int)) = false := decide_eq_false (by omega)
  have t2' : decide (300 < s.size) = false := decide_eq_false (by omega)
  have Hxl := Lib.hid hxl; clear hxl
  have Hflat := Lib.hid hflat; clear hflat
  have Hsl := Lib.hid hsl; clear hsl
  rcases hb with ⟨hg, hb⟩ | ⟨hg, hb⟩
  · subst hg
    have h5 := fun w c A (hy : Rd w w.heap.size A Y.length (Byt Y)) => hprint_any _ Y.length c A Y w hy (Nat.le_refl _) (by omega)
    rw [hb, tx_of] at h5
    have Hb := Lib.hid hb; clear hb
    have Hl3 := Lib.hid hl3; clear hl3
    go_enter Try.func4, Try.ntmps4
    go_wp2_with fail
    refine (h1 _ hx).mono ?_
    rintro e w1 ⟨rfl, hb1⟩
    go_wp2_with fail
    refine (h2 _).mono ?_
    rintro e w2 ⟨A2, c2, rfl, hown2, hb2⟩
    dsimp only at hown2
    have g2 := bon hb1 hb2
    go_wp2_with fail
    refine (rsame_any _ _ _ _ _ _ _ _ _ w2 (Rd.of_own hown2) ((hx.below g2).wider g2.size) (few_of hown2) (by unfold maxLen; omega)).mono ?_
    rintro e w3 ⟨rfl, hb3⟩
    rw [sameL_self]
    have g3 := bon g2 hb3
    go_wp2_with fail
    refine (h3 _).mono ?_
    rintro e w4 ⟨A4, c4, rfl, hown4, hb4⟩
    have g4 := bon g3 hb4
    go_wp2_with fail
    refine (h5 _ _ _ (Rd.of_own hown4)).mono ?_
    rintro e w5 ⟨rfl, hb5⟩
    have g5 := bon g4 hb5
    go_wp2_with fail
    refine (h4 _ ((hx.below g5).wider g5.size)).mono ?_
    rintro e w6 ⟨A6, c6, rfl, hown6, hb6⟩
    have g6 := bon g5 hb6
    have r6 := Rd.of_own hown6
    go_wp2
    go_loopw [13, 15] (fun v i wr => ∃ k : Nat, k ≤ R.length ∧ i = .int .i64 k ∧ v = .string (tx (R.take k).flatten) ∧ wr = w6) (fun _ i _ => R.length - (intOf i).toNat)
    case atStart => exact ⟨0, Nat.zero_le _, rfl, rfl, rfl⟩
    case round =>
      obtain ⟨k, hk, rfl, rfl, rfl⟩ := hrel
      by_cases hlt : k < R.length
      · obtain ⟨b, o, rfl, hbb, hcell⟩ := r6.str hlt hlt
        have hcat : ∀ w, (Op.stringOp .add (tx (R.take k).flatten) (tx R[k])).run Try.prog w = .ok (.string (tx (R.take (k + 1)).flatten)) w := fun w => by
          have e := join_step hlt
          have h1 := join_len (R := R) (k := k + 1)
          rw [e]
          refine run_string_add_sum w (tx (R.take k).flatten) (tx R[k]) ?_
          have h2 : (tx (R.take (k + 1)).flatten).size = (tx (R.take k).flatten).size + (tx R[k]).size := by rw [e, ByteArray.size_append]
          rw [tx_size] at h2
          omega
        obtain ⟨T, hT⟩ : ∃ T, tx (R.take k).flatten = T := ⟨_, rfl⟩
        obtain ⟨T', hT'⟩ : ∃ T, tx (R.take (k + 1)).flatten = T := ⟨_, rfl⟩
        rw [hT, hT'] at hcat
        rw [hT]
        have HT' := Lib.hid hT'; clear hT'
        clear hT
        go_wp2
        go_roundw
        case rel => exact ⟨k + 1, by omega, by go_num, by rw [HT'.out], by first | trivial | rfl⟩
        case measure => simp [intOf]; omega
      · obtain rfl : k = R.length := by omega
        have hall : R.take R.length = R := List.take_length
        rw [hall]
        clear hall
        rcases Hflat.out with ⟨h | h, _⟩ | ⟨⟨h, h'⟩, hf⟩
        · go_wp2_with fail
          refine (alive4_any _).mono ?_
          rintro e w7 ⟨rfl, hb7⟩
          go_wp2
          go_ret
          exact ⟨rfl, bon g6 hb7⟩
        · have h' : ¬ z < 1 := by omega
          go_wp2_with fail
          refine (alive4_any _).mono ?_
          rintro e w7 ⟨rfl, hb7⟩
          go_wp2
          go_ret
          exact ⟨rfl, bon g6 hb7⟩
        · have z1 : ¬ z < 1 := by omega
          have z2 : decide (64 < z) = false := decide_eq_false (by omega)
          rw [hf]
          have hp := h1 _ ((hx.below g6).wider g6.size)
          generalize tx (hexU xs) = T at hp
          clear h h' hf
          go_wp2_with fail
          refine hp.mono ?_
          rintro e w7 ⟨rfl, hb7⟩
          go_wp2_with fail
          refine (alive4_any _).mono ?_
          rintro e w8 ⟨rfl, hb8⟩
          go_wp2
          go_ret
          exact ⟨rfl, bon (bon g6 hb7) hb8⟩
  · subst hg hb
    go_enter Try.func4, Try.ntmps4
    go_wp2_with fail
    refine (h1 _ hx).mono ?_
    rintro e w1 ⟨rfl, hb1⟩
    go_wp2_with fail
    refine (h2 _).mono ?_
    rintro e w2 ⟨A2, c2, rfl, hown2, hb2⟩
    dsimp only at hown2
    have g2 := bon hb1 hb2
    go_wp2_with fail
    refine (rsame_any _ _ _ _ _ _ _ _ _ w2 (Rd.of_own hown2) ((hx.below g2).wider g2.size) (few_of hown2) (by unfold maxLen; omega)).mono ?_
    rintro e w3 ⟨rfl, hb3⟩
    rw [sameL_self]
    have g3 := bon g2 hb3
    go_wp2_with fail
    refine (h3 _).mono ?_
    rintro e w4 ⟨A4, c4, rfl, hown4, hb4⟩
    have g4 := bon g3 hb4
    go_wp2_with fail
    refine (h4 _ ((hx.below g4).wider g4.size)).mono ?_
    rintro e w6 ⟨A6, c6, rfl, hown6, hb6⟩
    have g6 := bon g4 hb6
    have r6 := Rd.of_own hown6
    go_wp2
    go_loopw [13, 15] (fun v i wr => ∃ k : Nat, k ≤ R.length ∧ i = .int .i64 k ∧ v = .string (tx (R.take k).flatten) ∧ wr = w6) (fun _ i _ => R.length - (intOf i).toNat)
    case atStart => exact ⟨0, Nat.zero_le _, rfl, rfl, rfl⟩
    case round =>
      obtain ⟨k, hk, rfl, rfl, rfl⟩ := hrel
      by_cases hlt : k < R.length
      · obtain ⟨b, o, rfl, hbb, hcell⟩ := r6.str hlt hlt
        have hcat : ∀ w, (Op.stringOp .add (tx (R.take k).flatten) (tx R[k])).run Try.prog w = .ok (.string (tx (R.take (k + 1)).flatten)) w := fun w => by
          have e := join_step hlt
          have h1 := join_len (R := R) (k := k + 1)
          rw [e]
          refine run_string_add_sum w (tx (R.take k).flatten) (tx R[k]) ?_
          have h2 : (tx (R.take (k + 1)).flatten).size = (tx (R.take k).flatten).size + (tx R[k]).size := by rw [e, ByteArray.size_append]
          rw [tx_size] at h2
          omega
        obtain ⟨T, hT⟩ : ∃ T, tx (R.take k).flatten = T := ⟨_, rfl⟩
        obtain ⟨T', hT'⟩ : ∃ T, tx (R.take (k + 1)).flatten = T := ⟨_, rfl⟩
        rw [hT, hT'] at hcat
        rw [hT]
        have HT' := Lib.hid hT'; clear hT'
        clear hT
        go_wp2
        go_roundw
        case rel => exact ⟨k + 1, by omega, by go_num, by rw [HT'.out], by first | trivial | rfl⟩
        case measure => simp [intOf]; omega
      · obtain rfl : k = R.length := by omega
        have hall : R.take R.length = R := List.take_length
        rw [hall]
        clear hall
        rcases Hflat.out with ⟨h | h, _⟩ | ⟨⟨h, h'⟩, hf⟩
        · go_wp2_with fail
          refine (alive4_any _).mono ?_
          rintro e w7 ⟨rfl, hb7⟩
          go_wp2
          go_ret
          exact ⟨rfl, bon g6 hb7⟩
        · have h' : ¬ z < 1 := by omega
          go_wp2_with fail
          refine (alive4_any _).mono ?_
          rintro e w7 ⟨rfl, hb7⟩
          go_wp2
          go_ret
          exact ⟨rfl, bon g6 hb7⟩
        · have z1 : ¬ z < 1 := by omega
          have z2 : decide (64 < z) = false := decide_eq_false (by omega)
          rw [hf]
          have hp := h1 _ ((hx.below g6).wider g6.size)
          generalize tx (hexU xs) = T at hp
          clear h h' hf
          go_wp2_with fail
          refine hp.mono ?_
          rintro e w7 ⟨rfl, hb7⟩
          go_wp2_with fail
          refine (alive4_any _).mono ?_
          rintro e w8 ⟨rfl, hb8⟩
          go_wp2
          go_ret
          exact ⟨rfl, bon (bon g6 hb7) hb8⟩

theorem hexBack_walk (n c : Nat) (A : Option Addr) (xs : List UInt8) (s : ByteArray) (z : Int) (w : World) (hx : Rd w w.heap.size A n (Byt xs)) (hnc : n ≤ c) :
    Calls Try.prog 4 #[.slice A n c, .string s, .int .i64 z] w (Ans w (.bool true)) := by
  by_cases h1 : 300 < n
  · exact hexBack_out n c A s z w (.inl (by omega))
  · by_cases h2 : 300 < s.size
    · exact hexBack_out n c A s z w (.inr ⟨by omega, by omega⟩)
    · exact hexBack_in n c A xs s z w hx (by omega) hnc (by omega)

end Go.Proofs.Ytfahiamogjcikaa
