import Derived.Test.YtmhmahimihhikaaDoorNumS
import Derived.Test.YtmhmahimihhikaaDoorFacts
namespace Go.Proofs.YtmhmahimihhikaaDoor
open Go.RowKit

set_option maxHeartbeats 400000 in
theorem rparse_out (s : ByteArray) (most : Int) (w : World) (h : s.size < 1 ∨ 18 < s.size) :
    Calls Tryd.prog 7 #[.string s, .int .i64 most] w (Ans w (.tuple #[.int .i64 0, .int .i64 3])) := by
  rcases h with h | h
  all_goals
    go_enter Tryd.func7, Tryd.ntmps7
    go_wp2
    go_ret2
    exact ⟨rfl, Below.refl _ _⟩

set_option maxHeartbeats 400000 in
theorem rparse_ahead (s : ByteArray) (most : Int) (w : World) (h1 : 1 < s.size) (h18 : s.size ≤ 18) (h0 : ((s[0].toNat : Int) == 48) = true) :
    Calls Tryd.prog 7 #[.string s, .int .i64 most] w (Ans w (.tuple #[.int .i64 0, .int .i64 3])) := by
  go_enter Tryd.func7, Tryd.ntmps7
  go_wp2
  go_ret2
  exact ⟨rfl, Below.refl _ _⟩

set_option maxHeartbeats 1600000 in
theorem rparse_in (s : ByteArray) (most : Int) (w : World) (h1 : 0 < s.size) (h18 : s.size ≤ 18) (h0 : s.size = 1 ∨ 1 < s.size ∧ ((s[0].toNat : Int) == 48) = false) (hbad : parseBad s.data.toList = false) :
    Calls Tryd.prog 7 #[.string s, .int .i64 most] w (Ans w (parseV s.data.toList most)) := by
  have fsyn : ∀ k (hk : k < s.size), isDig s[k] = false → parseV s.data.toList most = .tuple #[.int .i64 0, .int .i64 3] := fun k hk h =>
    parse_sig most (dig_not (l := s.data.toList) (k := k) (by simpa using hk) h)
  have Hsyn := Lib.hid fsyn; clear fsyn
  have Hbad := Lib.hid hbad; clear hbad
  have hA : s.size ≤ 1 ∨ 1 < s.size ∧ ((s[0].toNat : Int) == 48) = false := by
    rcases h0 with h | h
    · exact .inl (by omega)
    · exact .inr h
  clear h0
  have bel : Below w.heap.size w w := Below.refl _ _
  rcases hA with hA | ⟨hA, hB⟩
  all_goals
    go_enter Tryd.func7, Tryd.ntmps7
    go_wp2
    go_loop [6, 7] (fun v i => ∃ k : Nat, k ≤ s.size ∧ i = .int .i64 k ∧ v = .int .i64 (numL (s.data.toList.take k)) ∧ (s.data.toList.take k).all isDig = true) (fun _ i => s.size - (intOf i).toNat)
    case atStart => exact ⟨0, Nat.zero_le _, rfl, rfl, rfl⟩
    case round =>
      obtain ⟨k, hk, rfl, rfl, hall⟩ := hrel
      have Hall := Lib.hid hall; clear hall
      by_cases hlt : k < s.size
      · by_cases hd : isDig s[k] = true
        · have hn : numL (s.data.toList.take (k + 1)) = 10 * numL (s.data.toList.take k) + (s[k].toNat - 48) := by rw [str_take s k hlt, numL_snoc]
          have Hn := Lib.hid hn; clear hn
          have hall' := dig_step (l := s.data.toList) (k := k) (by simpa using hlt) hd Hall.out
          have Hall' := Lib.hid hall'; clear hall'
          have hbd := numL_take_lt Hall.out (k := k) (by omega)
          obtain ⟨hd1, hd2⟩ := isDig_yes hd
          go_wp2
          go_round
          case rel => exact ⟨k + 1, by omega, by go_num, by rw [Hn.out]; go_num, Hall'.out⟩
          case measure => simp [intOf]; omega
        · have hd' : isDig s[k] = false := by simpa using hd
          clear hd
          have hcase : (s[k].toNat : Int) < 48 ∨ 48 ≤ (s[k].toNat : Int) ∧ 57 < (s[k].toNat : Int) := by
            have := of_decide_eq_false hd'
            omega
          have Hd := Lib.hid hd'; clear hd'
          rcases hcase with h48 | ⟨h48, h57⟩
          · go_wp2
            go_ret2
            exact ⟨by rw [Hsyn.out k hlt Hd.out]; rfl, bel⟩
          · go_wp2
            go_ret2
            exact ⟨by rw [Hsyn.out k hlt Hd.out]; rfl, bel⟩
      · have hfull : s.data.toList.take k = s.data.toList := List.take_of_length_le (by simp; omega)
        have Hfull := Lib.hid hfull; clear hfull
        by_cases hm : most < (numL (s.data.toList.take k) : Int)
        · go_wp2
          go_ret2
          refine ⟨?_, bel⟩
          rw [parse_far most Hbad.out (by rw [← Hfull.out]; exact Hall.out) (by rw [← Hfull.out]; exact hm)]
          rfl
        · go_wp2
          go_ret2
          refine ⟨?_, bel⟩
          rw [parse_ok most Hbad.out (by rw [← Hfull.out]; exact Hall.out) (by rw [← Hfull.out]; omega)]
          rw [Hfull.out]
          rfl

theorem rparse_any (s : ByteArray) (most : Int) (w : World) :
    Calls Tryd.prog 7 #[.string s, .int .i64 most] w (Ans w (parseV s.data.toList most)) := by
  by_cases h : s.size < 1 ∨ 18 < s.size
  · rw [parse_syn most (by rcases h with h | h; exact parseBad_few h; exact parseBad_many h)]
    exact rparse_out s most w h
  · by_cases h1 : s.size = 1
    · exact rparse_in s most w (by omega) (by omega) (.inl h1) (parseBad_one h1)
    · cases h0 : (((s[0]'(by omega)).toNat : Int) == 48) with
      | true =>
        rw [parse_syn most (parseBad_ahead (by omega) h0)]
        exact rparse_ahead s most w (by omega) (by omega) h0
      | false => exact rparse_in s most w (by omega) (by omega) (.inr ⟨by omega, h0⟩) (parseBad_more (by omega) (by omega) h0)

end Go.Proofs.YtmhmahimihhikaaDoor
