import Derived.Test.YtfahiamogjcikaaRefHexValue
import Derived.Test.YtfahiamogjcikaaNewP
import Derived.Test.YtfahiamogjcikaaFacts
import Derived.Test.YtfahiamogjcikaaBaseCopy
namespace Go.Proofs.Ytfahiamogjcikaa
open Go.RowKit

theorem worth_ok {c : UInt8} (h : okU c = true) : worthU c = (vU c : Int) := if_pos h
theorem worth_bad {c : UInt8} (h : okU c = false) : worthU c = -1 := if_neg (by rw [h]; simp)

set_option maxHeartbeats 6400000 in
theorem rhparse_any (s : ByteArray) (w : World) (hs : s.size ≤ 1099511627776) :
    Calls Try.prog 8 #[.string s] w (NewP 5 w (hparseV s.data.toList)) := by
  have hsl : s.data.toList.length = s.size := by simp
  have Hsl := Lib.hid hsl; clear hsl
  go_enter Try.func8, Try.ntmps8
  go_wp2
  go_loopw [5] (fun i wr => ∃ k : Nat, k ≤ s.size ∧ i = .int .i64 k ∧ w = wr ∧ Hid (badAt 0 s.data.toList = badAt k (s.data.toList.drop k))) (fun i _ => s.size - (intOf i).toNat)
  case atStart => exact ⟨0, Nat.zero_le _, rfl, rfl, Lib.hid rfl⟩
  case round =>
    obtain ⟨k, hk, rfl, rfl, Hb⟩ := hrel
    by_cases hlt : k < s.size
    · have hkl : k < s.data.toList.length := by simpa using hlt
      obtain ⟨b1, b2⟩ := bad_at hkl Hb.out
      have hv := fun w => hvalue_any s[k] w
      cases ho : okU s[k] with
      | true =>
        have hb' := b1 ho
        rw [worth_ok ho] at hv
        have Hb' := Lib.hid hb'; clear hb' b1 b2
        have hnn : ¬ ((vU s[k] : Int) < 0) := by omega
        have Ho := Lib.hid ho; clear ho
        go_wp2_with fail
        refine (hv _).mono ?_
        rintro e w1 ⟨rfl, rfl⟩
        go_wp2
        go_roundw
        case rel => exact ⟨k + 1, by omega, by go_num, by first | trivial | rfl, Hb'⟩
        case measure => simp [intOf]; omega
      | false =>
        have hb' := b2 ho
        rw [worth_bad ho] at hv
        have Hb' := Lib.hid hb'; clear hb' b1 b2
        have Ho := Lib.hid ho; clear ho
        go_wp2_with fail
        refine (hv _).mono ?_
        rintro e w1 ⟨rfl, rfl⟩
        go_wp2
        go_ret3
        exact ⟨none, 0, by rw [hparse_bad Hb'.out]; rfl, by rw [hparse_bad Hb'.out]; exact own_nil _ _ _, Below.refl _ _⟩
    · obtain rfl : k = s.size := by omega
      have hb : badAt 0 s.data.toList = none := by rw [Hb.out, ← Hsl.out, List.drop_length]; rfl
      have Hb2 := Lib.hid hb; clear hb
      by_cases hev : s.size % 2 = 1
      · have he2 : ((s.size : Int) % 2 == 1) = true := by simp; omega
        have hp := hparse_odd Hb2.out (by rw [Hsl.out]; exact hev)
        rw [Hsl.out] at hp
        have Hp := Lib.hid hp; clear hp
        go_wp2
        go_ret3
        exact ⟨none, 0, by rw [Hp.out]; rfl, by rw [Hp.out]; exact own_nil _ _ _, Below.refl _ _⟩
      · have he2 : ((s.size : Int) % 2 == 1) = false := by simp; omega
        have hp := hparse_ok Hb2.out (by rw [Hsl.out]; omega)
        have hall := bad_none _ _ Hb2.out
        have Hp := Lib.hid hp; clear hp
        have Hall := Lib.hid hall; clear hall
        go_wp2
        go_loopw [6, 7] (fun v i wr => ∃ (k n c : Nat) (A : Option Addr), k ≤ s.size ∧ k % 2 = 0 ∧ Hid (n = k / 2) ∧ i = .int .i64 k ∧ v = .slice A n c ∧ wr.ownsRow w.heap.size 5 1 (.slice A n c) n (Byt (pairsU (s.data.toList.take k))) ∧ Below w.heap.size w wr) (fun _ i _ => s.size - (intOf i).toNat)
        case atStart => exact ⟨0, 0, 0, none, Nat.zero_le _, rfl, Lib.hid rfl, rfl, rfl, own_nil _ _ _, Below.refl _ _⟩
        case round =>
          obtain ⟨k, n, c, A, hk, hk2, Hn, rfl, rfl, hown, hbr⟩ := hrel
          by_cases hlt : k < s.size
          · have hlt2 : k + 1 < s.size := by omega
            have hkl : k < s.data.toList.length := by simpa using hlt
            have hkl2 : k + 1 < s.data.toList.length := by simpa using hlt2
            have o1 : okU s[k] = true := List.all_eq_true.1 Hall.out _ (List.getElem_mem hkl)
            have o2 : okU s[k + 1] = true := List.all_eq_true.1 Hall.out _ (List.getElem_mem hkl2)
            have hv1 := worth_ok o1
            have hv2 := worth_ok o2
            have hst := pairs_step1 hkl2 hk2
            have hz : ((byU s[k] s[k + 1]).toNat : Int) = ((vU s[k] : Nat) : Int) * 16 + ((vU s[k + 1] : Nat) : Int) := by rw [byU_nat]; omega
            have l1 := vU_lt s[k]
            have l2 := vU_lt s[k + 1]
            obtain ⟨a, ha⟩ : ∃ a, vU s[k] = a := ⟨_, rfl⟩
            obtain ⟨b, hb⟩ : ∃ b, vU s[k + 1] = b := ⟨_, rfl⟩
            rw [ha] at hv1 hz l1
            rw [hb] at hv2 hz l2
            have Hst := Lib.hid hst; clear hst
            have Hz := Lib.hid hz; clear hz
            have Ha := Lib.hid ha; clear ha
            have Hb := Lib.hid hb; clear hb
            clear o1 o2
            have hsz := hbr.size
            have hk0 : (0 : Int) ≤ (k : Int) := by omega
            have hk1 : (0 : Int) ≤ (k : Int) + 1 := by omega
            have hk3 : (k : Int) < (s.size : Int) := by omega
            have hk4 : (k : Int) + 1 < (s.size : Int) := by omega
            have hsm : n + 1 ≤ 17592186044416 := by have := Hn.out; omega
            have hkn : ((k : Int) + 1).toNat = k + 1 := by omega
            have hwk : IntKind.i64.wrap ((k : Int) + 1) = (k : Int) + 1 := IntWalk.i64_in _ ⟨by omega, by omega⟩
            have hw1 : IntKind.i64.wrap ((a : Int) * 16) = (a : Int) * 16 := IntWalk.i64_in _ ⟨by omega, by omega⟩
            have hw2 : IntKind.i64.wrap ((a : Int) * 16 + (b : Int)) = (a : Int) * 16 + (b : Int) := IntWalk.i64_in _ ⟨by omega, by omega⟩
            have hw3 : IntKind.u8.wrap ((a : Int) * 16 + (b : Int)) = (a : Int) * 16 + (b : Int) := wraps_u8 _ (by omega) (by omega)
            go_wp2
            go_region_law (first | (refine step_append_byte (by rfl) _ _ _ (by rfl) 5 Try.underlying22 Try.info_u8 w.heap.size n c wr.heap.size A _ (by rfl) (by rfl) (by exact hown.alloc _) _ (byU s[k] s[k + 1]) Hz.out.symm (by go_simp) (by omega) (by simp; omega) w w.heap.size (by exact (hbr.alloc hsz _).drew) (Nat.le_refl _) ?_; intro A2 c2 w2 hown2 hb2) | (go_simp; refine (hvalue_any _ _).mono ?_; rintro e w1 ⟨rfl, rfl⟩))
            all_goals
              have hown3 : w2.ownsRow w.heap.size 5 1 (.slice A2 (n + 1) c2) (n + 1) (Byt (pairsU (s.data.toList.take (k + 1 + 1)))) := by rw [Hst.out]; exact hown2
              clear hown2
              go_wp2
              go_roundw
              case rel => exact ⟨k + 1 + 1, n + 1, c2, A2, by omega, by omega, Lib.hid (by have := Hn.out; omega), by go_num, rfl, hown3, hb2⟩
              case measure => simp [intOf]; omega
          · obtain rfl : k = s.size := by omega
            have hall : s.data.toList.take s.size = s.data.toList := List.take_of_length_le (by simp)
            rw [hall] at hown
            clear hall
            have hln := own_len hown
            have Hln := Lib.hid hln; clear hln
            go_wp2
            go_ret3
            exact ⟨A, c, by rw [Hp.out, Hln.out]; rfl, by rw [Hp.out, Hln.out]; exact hown, hbr⟩

end Go.Proofs.Ytfahiamogjcikaa
