import Derived.Test.YtmhmahimihhikaaDoorNumS
import Derived.Test.YtmhmahimihhikaaDoorFacts
namespace Go.Proofs.YtmhmahimihhikaaDoor
open Go.RowKit

set_option maxHeartbeats 400000 in
theorem parse_dig (b k : Nat) (s : ByteArray) (w : World) (hk : k < s.size) (_hs : s.size ≤ 18) (hc : w.cell? ⟨b, 0, none⟩ = some (.string s)) :
    Calls Tryd.prog 14 #[.int .i64 k, .pointer (some ⟨b, 0, none⟩)] w fun e w' => e = .returned (.tuple #[.int .i64 ((s[k].toNat : Int) - 48), .bool (isDig s[k])]) ∧ w = w' := by
  have hb := s[k].toNat_lt
  by_cases h : 48 ≤ (s[k].toNat : Int) ∧ (s[k].toNat : Int) ≤ 57
  · have hd : isDig s[k] = true := decide_eq_true h
    rw [hd]
    obtain ⟨h1, h2⟩ := h
    clear hd
    go_enter Tryd.func14, Tryd.ntmps14
    go_wp2
    go_ret2
    exact ⟨rfl, rfl⟩
  · have hd : isDig s[k] = false := decide_eq_false h
    rw [hd]
    clear hd
    have e : ¬ (48 ≤ (s[k].toNat : Int)) ∨ 48 ≤ (s[k].toNat : Int) ∧ decide ((s[k].toNat : Int) ≤ 57) = false := by
      by_cases h57 : (s[k].toNat : Int) ≤ 57
      · exact .inl (by omega)
      · exact .inr ⟨by omega, decide_eq_false h57⟩
    rcases e with h' | ⟨h', h''⟩
    all_goals
      clear h
      go_enter Tryd.func14, Tryd.ntmps14
      go_wp2
      go_ret2
      exact ⟨rfl, rfl⟩

set_option maxHeartbeats 400000 in
theorem parse_out (s : ByteArray) (most : Int) (w : World) (h : s.size < 1 ∨ 18 < s.size) :
    Calls Tryd.prog 6 #[.string s, .int .i64 most] w (Ans w (.tuple #[.int .i64 0, .int .i64 3])) := by
  rcases h with h | h
  all_goals
    go_enter Tryd.func6, Tryd.ntmps6
    go_wp2
    go_ret2
    exact ⟨rfl, (Below.refl _ _).alloc (Nat.le_refl _) _⟩

set_option maxHeartbeats 400000 in
theorem parse_ahead (s : ByteArray) (most : Int) (w : World) (h1 : 1 < s.size) (h18 : s.size ≤ 18) (h0 : ((s[0].toNat : Int) == 48) = true) :
    Calls Tryd.prog 6 #[.string s, .int .i64 most] w (Ans w (.tuple #[.int .i64 0, .int .i64 3])) := by
  go_enter Tryd.func6, Tryd.ntmps6
  go_wp2
  go_ret2
  exact ⟨rfl, (Below.refl _ _).alloc (Nat.le_refl _) _⟩

set_option maxHeartbeats 1600000 in
theorem parse_in (s : ByteArray) (most : Int) (w : World) (h1 : 0 < s.size) (h18 : s.size ≤ 18) (h0 : s.size = 1 ∨ 1 < s.size ∧ ((s[0].toNat : Int) == 48) = false) (hbad : parseBad s.data.toList = false) :
    Calls Tryd.prog 6 #[.string s, .int .i64 most] w (Ans w (parseV s.data.toList most)) := by
  have hc : (w.alloc (.cells #[.string s] 9)).cell? ⟨w.heap.size, 0, none⟩ = some (.string s) := by
    rw [World.cell?_alloc_at _ _ _ _ rfl]; rfl
  have fsyn : ∀ k (hk : k < s.size), isDig s[k] = false → parseV s.data.toList most = .tuple #[.int .i64 0, .int .i64 3] := fun k hk h =>
    parse_sig most (dig_not (l := s.data.toList) (k := k) (by simpa using hk) h)
  have Hsyn := Lib.hid fsyn; clear fsyn
  have Hbad := Lib.hid hbad; clear hbad
  have hA : s.size ≤ 1 ∨ 1 < s.size ∧ ((s[0].toNat : Int) == 48) = false := by
    rcases h0 with h | h
    · exact .inl (by omega)
    · exact .inr h
  clear h0
  have bel : Below w.heap.size w (w.alloc (.cells #[.string s] 9)) := (Below.refl _ _).alloc (Nat.le_refl _) _
  rcases hA with hA | ⟨hA, hB⟩
  all_goals
    go_enter Tryd.func6, Tryd.ntmps6
    go_wp2
    go_loop [7, 8, 32] (fun v _ i => ∃ k : Nat, k ≤ s.size ∧ i = .int .i64 k ∧ v = .int .i64 (numL (s.data.toList.take k)) ∧ (s.data.toList.take k).all isDig = true) (fun _ _ i => s.size - (intOf i).toNat)
    case atStart => exact ⟨0, Nat.zero_le _, rfl, rfl, rfl⟩
    case round =>
      obtain ⟨k, hk, rfl, rfl, hall⟩ := hrel
      have Hall := Lib.hid hall; clear hall
      by_cases hlt : k < s.size
      · by_cases hd : isDig s[k] = true
        · have hn : numL (s.data.toList.take (k + 1)) = 10 * numL (s.data.toList.take k) + (s[k].toNat - 48) := by rw [str_take s k hlt, numL_snoc]
          have Hn := Lib.hid hn; clear hn
          have hall' := dig_step (l := s.data.toList) (k := k) (by simpa using hlt) hd Hall.out
          have Hall' := Lib.hid hall'; clear hall'
          have hbd := numL_take_lt Hall.out (k := k) (by omega)
          obtain ⟨hd1, hd2⟩ := isDig_yes hd
          go_wp2_with (go_at_call 14; refine (parse_dig _ k s _ hlt h18 hc).mono ?_; rintro e w' ⟨rfl, rfl⟩)
          go_round
          case rel => exact ⟨k + 1, by omega, by go_num, by rw [Hn.out]; go_num, Hall'.out⟩
          case measure => simp [intOf]; omega
        · have hd' : isDig s[k] = false := by simpa using hd
          clear hd
          go_wp2_with (go_at_call 14; refine (parse_dig _ k s _ hlt h18 hc).mono ?_; rintro e w' ⟨rfl, rfl⟩)
          go_ret2
          exact ⟨by rw [Hsyn.out k hlt hd']; rfl, bel⟩
      · have hfull : s.data.toList.take k = s.data.toList := List.take_of_length_le (by simp; omega)
        have Hfull := Lib.hid hfull; clear hfull
        by_cases hm : most < (numL (s.data.toList.take k) : Int)
        · go_wp2
          go_ret2
          refine ⟨?_, bel⟩
          rw [parse_far most Hbad.out (by rw [← Hfull.out]; exact Hall.out) (by rw [← Hfull.out]; exact hm)]
          rfl
        · go_wp2
          go_ret2
          refine ⟨?_, bel⟩
          rw [parse_ok most Hbad.out (by rw [← Hfull.out]; exact Hall.out) (by rw [← Hfull.out]; omega)]
          rw [Hfull.out]
          rfl

theorem parse_any (s : ByteArray) (most : Int) (w : World) :
    Calls Tryd.prog 6 #[.string s, .int .i64 most] w (Ans w (parseV s.data.toList most)) := by
  by_cases h : s.size < 1 ∨ 18 < s.size
  · rw [parse_syn most (by rcases h with h | h; exact parseBad_few h; exact parseBad_many h)]
    exact parse_out s most w h
  · by_cases h1 : s.size = 1
    · exact parse_in s most w (by omega) (by omega) (.inl h1) (parseBad_one h1)
    · cases h0 : (((s[0]'(by omega)).toNat : Int) == 48) with
      | true =>
        rw [parse_syn most (parseBad_ahead (by omega) h0)]
        exact parse_ahead s most w (by omega) (by omega) h0
      | false => exact parse_in s most w (by omega) (by omega) (.inr ⟨by omega, h0⟩) (parseBad_more (by omega) (by omega) h0)

end Go.Proofs.YtmhmahimihhikaaDoor
