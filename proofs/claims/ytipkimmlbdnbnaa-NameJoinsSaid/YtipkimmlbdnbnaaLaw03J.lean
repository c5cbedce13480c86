import Derived.Test.YtipkimmlbdnbnaaLaw03
import Derived.Test.YtipkimmlbdnbnaaRefName2
import Derived.Test.YtipkimmlbdnbnaaRefWords
namespace Go.Proofs.Ytipkimmlbdnbnaa
open Go.RowKit

theorem long_step {ps : List (List UInt8)} {k : Nat} (hk : k < ps.length) (h : ∀ p ∈ ps.take k, p.length ≤ 100) (h2 : ps[k].length ≤ 100) : ∀ p ∈ ps.take (k + 1), p.length ≤ 100 := by
  intro p hp
  rw [List.take_add_one, List.getElem?_eq_getElem hk] at hp
  rcases List.mem_append.1 hp with h' | h'
  · exact h p h'
  · simp at h'; subst h'; exact h2

set_option maxHeartbeats 1600000 in
theorem nameJoins_out (n c : Nat) (A : Option Addr) (s : ByteArray) (w : World) (h : 20 < (n : Int) ∨ ((n : Int) ≤ 20 ∧ 200 < (s.size : Int))) :
    Calls Try.prog 3 #[.slice A n c, .string s] w (Ans w (.bool true)) := by
  rcases h with h | ⟨h', h⟩
  all_goals
    go_enter Try.func3, Try.ntmps3
    go_wp2_with fail
    refine (alive_any _).mono ?_
    rintro e w1 ⟨rfl, hb1⟩
    go_wp2
    go_ret
    exact ⟨rfl, hb1⟩

set_option maxHeartbeats 3200000 in
theorem nameJoins_in (n c : Nat) (A : Option Addr) (ps : List (List UInt8)) (s : ByteArray) (w : World) (hx : Rd w w.heap.size A n (Sts ps)) (hn : n ≤ 20) (hnc : n ≤ c) (hs : s.size ≤ 200) :
    Calls Try.prog 3 #[.slice A n c, .string s] w (Ans w (.bool true)) := by
  have hps := hx.strs
  have Hps := Lib.hid hps; clear hps
  have h1 := fun w => split_any s w (by omega)
  have h2 := fun w => rsplit_any s w (by omega)
  have hfew := split_few s.data.toList
  obtain ⟨X, hX⟩ : ∃ X, splitU s.data.toList = X := ⟨_, rfl⟩
  rw [hX] at h1 h2 hfew
  clear hX
  have t1 : ¬ ((20 : Int) < (n : Int)) := by omega
  have t1' : decide ((20 : Int) < (n : Int)) = false := decide_eq_false t1
  have t2 : decide ((200 : Int) < (s.size : Int)) = false := decide_eq_false (by omega)
  have t2' : decide (200 < s.size) = false := decide_eq_false (by omega)
  go_enter Try.func3, Try.ntmps3
  go_wp2
  go_loopw [5] (fun i wr => ∃ k : Nat, k ≤ n ∧ i = .int .i64 k ∧ wr = w ∧ ∀ p ∈ ps.take k, p.length ≤ 100) (fun i _ => n - (intOf i).toNat)
  case atStart => exact ⟨0, Nat.zero_le _, rfl, rfl, fun p hp => by simp at hp⟩
  case round =>
    obtain ⟨k, hk, rfl, rfl, hlong⟩ := hrel
    have Hl := Lib.hid hlong; clear hlong
    by_cases hlt : k < n
    · have hkx : k < ps.length := by rw [Hps.out]; exact hlt
      obtain ⟨b, o, rfl, hbb, hc1⟩ := hx.str hlt hkx
      have hsz := tx_size ps[k]
      by_cases h100 : 100 < ps[k].length
      · go_wp2_with fail
        refine (alive_any _).mono ?_
        rintro e w1 ⟨rfl, hb1⟩
        go_wp2
        go_ret
        exact ⟨rfl, hb1⟩
      · have h100' : ps[k].length ≤ 100 := by omega
        have h100b : ¬ ((100 : Int) < (ps[k].length : Int)) := by omega
        go_wp2
        go_roundw
        case rel => exact ⟨k + 1, by omega, by go_num, by first | trivial | rfl, long_step hkx Hl.out h100'⟩
        case measure => simp [intOf]; omega
    · obtain rfl : k = n := by omega
      have hall : ∀ p ∈ ps, p.length ≤ 1073741824 := fun p hp => by
        have := Hl.out p (by rw [List.take_of_length_le (by rw [Hps.out]; omega)]; exact hp)
        omega
      have hj := njoin_any k c A ps wr hx (by unfold maxLen; omega) hnc
      have hrj := fun w hx => rnjoin_any k c A ps w hx (by unfold maxLen; omega) hall
      have Hall := Lib.hid hall; clear hall
      obtain ⟨V, hV⟩ : ∃ V, joinU ps = V := ⟨_, rfl⟩
      rw [hV] at hj hrj
      obtain ⟨V1, V2⟩ := V
      have HV := Lib.hid hV; clear hV
      go_wp2_with fail
      refine hj.mono ?_
      rintro e w1 ⟨rfl, hb1⟩
      go_wp2_with fail
      refine (hrj w1 ((hx.below hb1).wider hb1.size)).mono ?_
      rintro e w2 ⟨rfl, hb2⟩
      go_wp2_with fail
      refine (h1 _).mono ?_
      rintro e w3 ⟨A3, c3, rfl, hown3, hb3⟩
      go_wp2_with fail
      refine (h2 _).mono ?_
      rintro e w4 ⟨A4, c4, rfl, hown4, hb4⟩
      have r3 := ((Rd.of_own hown3).below hb4).wider hb4.size
      have r4 := Rd.of_own hown4
      go_wp2_with fail
      refine (words_same _ _ c3 c4 _ _ X _ r3 r4 (by unfold maxLen; omega)).mono ?_
      rintro e w5 ⟨rfl, hb5⟩
      go_wp2_with fail
      refine (alive_any _).mono ?_
      rintro e w6 ⟨rfl, hb6⟩
      go_wp2
      go_ret
      exact ⟨rfl, bon (bon (bon (bon (bon hb1 hb2) hb3) hb4) hb5) hb6⟩

theorem nameJoins_walk (n c : Nat) (A : Option Addr) (ps : List (List UInt8)) (s : ByteArray) (w : World) (hx : Rd w w.heap.size A n (Sts ps)) (hnc : n ≤ c) :
    Calls Try.prog 3 #[.slice A n c, .string s] w (Ans w (.bool true)) := by
  by_cases h1 : 20 < n
  · exact nameJoins_out n c A s w (.inl (by omega))
  · by_cases h2 : 200 < s.size
    · exact nameJoins_out n c A s w (.inr ⟨by omega, by omega⟩)
    · exact nameJoins_in n c A ps s w hx (by omega) hnc (by omega)

end Go.Proofs.Ytipkimmlbdnbnaa
