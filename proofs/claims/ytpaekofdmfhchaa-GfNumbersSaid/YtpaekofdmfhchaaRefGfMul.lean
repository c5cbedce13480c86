import Derived.Test.YtpaekofdmfhchaaGfMul
namespace Go.Proofs.Ytpaekofdmfhchaa
open Go.RowKit

set_option maxHeartbeats 1600000 in
theorem rgmul_any (a b : UInt8) (w : World) :
    Calls Try.prog 9 #[.int .u8 (a.toNat : Int), .int .u8 (b.toNat : Int)] w (fun e w' => e = .returned (.int .u8 ((gmulU a b).toNat : Int)) ∧ w' = w) := by
  have Hm : Hid (gmulU a b = gloopU 8 a b 0) := Lib.hid rfl
  revert Hm
  generalize gmulU a b = m
  intro Hm
  go_enter Try.func9, Try.ntmps9
  go_wp2
  go_loopw [0, 1, 5, 6] (fun x y z i wr => ∃ (p : Nat) (a' b' s' : UInt8), p ≤ 8 ∧ i = .int .i64 p ∧ x = .int .u8 (a'.toNat : Int) ∧ y = .int .u8 (b'.toNat : Int) ∧ z = .int .u8 (s'.toNat : Int) ∧ Hid (m = gloopU (8 - p) a' b' s') ∧ wr = w) (fun _ _ _ i _ => 8 - (intOf i).toNat)
  case atStart => exact ⟨0, a, b, 0, Nat.zero_le _, rfl, rfl, rfl, rfl, Hm, rfl⟩
  case round =>
    obtain ⟨p, a', b', s', hp, rfl, rfl, rfl, rfl, Hl, rfl⟩ := hrel
    by_cases h8 : p < 8
    · have hd : (a' / 2).toNat = a'.toNat / 2 := by rw [UInt8.toNat_div]; rfl
      have hd1 : (a'.toNat : Int) / 2 = ((a' / 2).toNat : Int) := by omega
      have hz0 : 0 ≤ (a'.toNat : Int) := by omega
      have hz1 : (a'.toNat : Int) < 256 := by have := a'.toNat_lt; omega
      have hx := gxor_u8 s' b'
      have hc := fun w => rgtwice_any b' w
      have ha : (a'.toNat : Int) % 2 = ((a'.toNat % 2 : Nat) : Int) := by omega
      have Hl1 : Hid (m = gloopU (8 - (p + 1) + 1) a' b' s') := Lib.hid (by rw [show 8 - (p + 1) + 1 = 8 - p by omega]; exact Hl.out)
      rcases Nat.mod_two_eq_zero_or_one a'.toNat with h1 | h1
      · rw [h1] at ha
        have Hl' : Hid (m = gloopU (8 - (p + 1)) (a' / 2) (gtwiceU b') s') := Lib.hid (by rw [Hl1.out, gloop_even h1])
        clear h1 hd hx Hl Hl1
        revert hd1 hz0 hz1 hc ha Hl'
        generalize (a' / 2) = a2
        generalize (a'.toNat : Int) = z
        intro hd1 hz0 hz1 hc ha Hl'
        go_wp2_with fail
        refine (hc _).mono ?_
        rintro e w1 ⟨rfl, rfl⟩
        go_wp2
        go_roundw
        case rel => exact ⟨p + 1, a2, _, s', by omega, by go_num, rfl, rfl, rfl, Hl', trivial⟩
        case measure => simp [intOf]; omega
      · rw [h1] at ha
        have Hl' : Hid (m = gloopU (8 - (p + 1)) (a' / 2) (gtwiceU b') (s' ^^^ b')) := Lib.hid (by rw [Hl1.out, gloop_odd h1])
        clear h1 hd Hl Hl1
        revert hd1 hz0 hz1 hx hc ha Hl'
        generalize (a' / 2) = a2
        generalize (s' ^^^ b') = s2
        generalize (a'.toNat : Int) = z
        intro hd1 hz0 hz1 hx hc ha Hl'
        go_wp2_with fail
        refine (hc _).mono ?_
        rintro e w1 ⟨rfl, rfl⟩
        go_wp2
        go_roundw
        case rel => exact ⟨p + 1, a2, _, s2, by omega, by go_num, rfl, rfl, rfl, Hl', trivial⟩
        case measure => simp [intOf]; omega
    · have Hr : Hid (m = s') := Lib.hid (by rw [Hl.out, show 8 - p = 0 by omega]; rfl)
      go_wp2
      go_ret
      exact ⟨by rw [Hr.out]; rfl, rfl⟩

end Go.Proofs.Ytpaekofdmfhchaa
