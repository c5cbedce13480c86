import Derived.Test.YtfahiamogjcikaaHexS
import Derived.Test.YtfahiamogjcikaaHexBuilder
import Derived.Test.YtfahiamogjcikaaRow
namespace Go.Proofs.Ytfahiamogjcikaa
open Go.RowKit

set_option maxHeartbeats 1000000 in
theorem hdigit_any (n : Nat) (hn : n < 16) (w : World) : Calls Try.prog 19 #[.int .u8 (n : Int)] w fun e w' => e = .returned (.int .u8 ((dig n).toNat : Int)) ∧ w' = w := by
  by_cases h : n < 10
  · have hd := dig_lo h
    have h' : (n : Int) < 10 := by omega
    have Hd := Lib.hid hd; clear hd
    go_enter Try.func19, Try.ntmps19
    go_wp2
    go_ret
    exact ⟨by rw [Hd.out]; rfl, rfl⟩
  · have hd : ((dig n).toNat : Int) = 97 + ((n : Int) - 10) := by rw [dig_hi h hn]; omega
    have h' : ¬ (n : Int) < 10 := by omega
    have Hd := Lib.hid hd; clear hd
    go_enter Try.func19, Try.ntmps19
    go_wp2
    go_ret
    exact ⟨by rw [Hd.out]; rfl, rfl⟩

set_option maxHeartbeats 3200000 in
theorem hprint_any (B n c : Nat) (A : Option Addr) (xs : List UInt8) (w : World) (hx : Rd w B A n (Byt xs)) (hB : B ≤ w.heap.size) (hn : n ≤ 1099511627776) :
    Calls Try.prog 9 #[.slice A n c] w (Ans w (.string (tx (hexU xs)))) := by
  have hxl := hx.bytes
  have Hx := Lib.hid hxl; clear hxl
  go_enter Try.func9, Try.ntmps9
  go_wp2
  go_loopw [9] (fun i wr => ∃ k : Nat, k ≤ n ∧ i = .int .i64 k ∧ Lib.IsBuilder 41 5 w.heap.size w.heap.size (Byt (hexU (xs.take k))) wr ∧ Below w.heap.size w wr) (fun i _ => n - (intOf i).toNat)
  case atStart => exact ⟨0, Nat.zero_le _, rfl, Lib.fresh_isBuilder _ _ w, (Below.refl _ _).alloc (Nat.le_refl _) _⟩
  case round =>
    obtain ⟨k, hk, rfl, hbd, hbr⟩ := hrel
    have hsz := hbr.size
    by_cases hlt : k < n
    · have hkx : k < xs.length := by rw [Hx.out]; exact hlt
      obtain ⟨b, o, rfl, hb, hc⟩ := (hx.keep fun _ hp => hbr.cell (by omega)).byte hlt hkx
      have htk := hexU_take hkx
      obtain ⟨m, hm⟩ : ∃ m : Nat, xs[k].toNat = m := ⟨_, rfl⟩
      have hm256 : m < 256 := by have := xs[k].toNat_lt; omega
      rw [hm] at hc htk
      have hlen : (hexU (xs.take k)).length ≤ 2 * n := by rw [hexU_length, List.length_take]; omega
      have hd1 := fun w => hdigit_any (m / 16) (by omega) w
      have hd2 := fun w => hdigit_any (m % 16) (by omega) w
      rw [show ((m / 16 : Nat) : Int) = (m : Int) / 16 by omega] at hd1
      rw [show ((m % 16 : Nat) : Int) = (m : Int) % 16 by omega] at hd2
      have Htk := Lib.hid htk; clear htk
      have Hm := Lib.hid hm; clear hm
      go_wp2_with fail
      refine (hd1 _).mono ?_
      rintro e w1 ⟨rfl, rfl⟩
      go_wp2_with fail
      refine (byte_any _ _ _ _ _ rfl _ hbd (by omega) hsz).mono ?_
      rintro e w1 ⟨rfl, hbd1, hb1⟩
      go_wp2_with fail
      refine (hd2 _).mono ?_
      rintro e w2 ⟨rfl, rfl⟩
      go_wp2_with fail
      refine (byte_any _ _ _ _ _ rfl _ hbd1 (by rw [List.length_append, List.length_singleton]; omega) (by have := hb1.size; omega)).mono ?_
      rintro e w2 ⟨rfl, hbd2, hb2⟩
      rw [← Htk.out] at hbd2
      go_wp2
      go_roundw
      case rel => exact ⟨k + 1, by omega, by go_num, hbd2, (hbr.trans hb1).trans hb2⟩
      case measure => simp [intOf]; omega
    · obtain rfl : k = n := by omega
      have hall : xs.take k = xs := List.take_of_length_le (by rw [Hx.out]; omega)
      rw [hall] at hbd
      clear hall
      go_wp2_with fail
      refine (text_bld _ _ _ _ hbd hbr.size).mono ?_
      rintro e w1 ⟨rfl, hb1⟩
      go_wp2
      go_ret
      exact ⟨rfl, hbr.trans hb1⟩

end Go.Proofs.Ytfahiamogjcikaa
