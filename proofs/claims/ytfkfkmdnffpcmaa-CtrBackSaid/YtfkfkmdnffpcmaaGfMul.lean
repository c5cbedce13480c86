import Derived.Test.YtfkfkmdnffpcmaaGfTwice
namespace Go.Proofs.Ytfkfkmdnffpcmaa
open Go.RowKit

theorem gloop_zero (k : Nat) (b s : UInt8) : gloopU k 0 b s = s := by
  induction k generalizing b with
  | zero => rfl
  | succ k ih => unfold gloopU; exact ih _
theorem gloop_odd {k : Nat} {a b s : UInt8} (h : a.toNat % 2 = 1) : gloopU (k + 1) a b s = gloopU k (a / 2) (gtwiceU b) (s ^^^ b) := by
  rw [gloopU, if_pos h]
theorem gloop_even {k : Nat} {a b s : UInt8} (h : a.toNat % 2 = 0) : gloopU (k + 1) a b s = gloopU k (a / 2) (gtwiceU b) s := by
  rw [gloopU, if_neg (by omega)]
theorem and_one_u8 (a : UInt8) : bits .and .u8 (a.toNat : Int) 1 = ((a.toNat % 2 : Nat) : Int) := by
  have h := and_u8 a 1
  rw [odd_u8] at h
  exact h

set_option maxHeartbeats 1600000 in
theorem gmul_any (a b : UInt8) (w : World) :
    Calls Try.prog 48 #[.int .u8 (a.toNat : Int), .int .u8 (b.toNat : Int)] w (fun e w' => e = .returned (.int .u8 ((gmulU a b).toNat : Int)) ∧ w' = w) := by
  have Hm : Hid (gmulU a b = gloopU 8 a b 0) := Lib.hid rfl
  have Ha : Hid (a.toNat < 2 ^ 8) := Lib.hid a.toNat_lt
  revert Hm Ha
  generalize gmulU a b = m
  intro Hm Ha
  go_enter Try.func48, Try.ntmps48
  go_wp2
  go_step3
  go_wp2
  go_step3
  go_wp2
  go_loopw [0, 1, 5] (fun x y z wr => ∃ (k : Nat) (a' b' s' : UInt8), x = .int .u8 (a'.toNat : Int) ∧ y = .int .u8 (b'.toNat : Int) ∧ z = .int .u8 (s'.toNat : Int) ∧ Hid (a'.toNat < 2 ^ k) ∧ Hid (m = gloopU k a' b' s') ∧ wr = w) (fun x _ _ _ => (intOf x).toNat)
  case atStart => exact ⟨8, a, b, 0, rfl, rfl, rfl, Ha, Hm, rfl⟩
  case round =>
    obtain ⟨k, a', b', s', rfl, rfl, rfl, Hk, Hl, rfl⟩ := hrel
    by_cases h0 : a'.toNat = 0
    · have e0 : (a'.toNat : Int) = 0 := by omega
      have Hr : Hid (m = s') := Lib.hid (by rw [Hl.out, show a' = 0 from UInt8.toNat_inj.1 h0, gloop_zero])
      clear h0
      revert e0
      generalize (a'.toNat : Int) = z
      intro e0
      subst e0
      go_wp2
      rw [Exit.noGoto_ret]
      go_ret
      exact ⟨by rw [Hr.out]; rfl, rfl⟩
    · rcases k with _ | k
      · exact absurd Hk.out (by simp; omega)
      have e0 : ((a'.toNat : Int) == 0) = false := by simp; omega
      have hd : (a' / 2).toNat = a'.toNat / 2 := by rw [UInt8.toNat_div]; rfl
      have Hk' : Hid ((a' / 2).toNat < 2 ^ k) := Lib.hid (by have := Hk.out; rw [Nat.pow_succ] at this; omega)
      have hd' : (a'.toNat : Int) / 2 = ((a' / 2).toNat : Int) := by omega
      have hlt : Hid (((a' / 2).toNat : Int).toNat < (a'.toNat : Int).toNat) := Lib.hid (by omega)
      have hx := gxor_u8 s' b'
      have hc := fun w => gtwice_any b' w
      have ha := and_one_u8 a'
      rcases Nat.mod_two_eq_zero_or_one a'.toNat with h1 | h1
      · rw [h1] at ha
        have Hl' : Hid (m = gloopU k (a' / 2) (gtwiceU b') s') := Lib.hid (by rw [Hl.out, gloop_even h1])
        clear h1 h0 hd hx Hl Hk
        revert e0 Hk' hd' hlt hc ha Hl'
        generalize (a' / 2) = a2
        generalize (a'.toNat : Int) = z
        intro e0 Hk' hd' hlt hc ha Hl'
        go_wp2_with fail
        refine (hc _).mono ?_
        rintro e w1 ⟨rfl, rfl⟩
        go_wp2
        go_roundw
        case rel => exact ⟨k, a2, _, s', rfl, rfl, rfl, Hk', Hl', trivial⟩
        case measure => exact hlt.out
      · rw [h1] at ha
        have Hl' : Hid (m = gloopU k (a' / 2) (gtwiceU b') (s' ^^^ b')) := Lib.hid (by rw [Hl.out, gloop_odd h1])
        clear h1 h0 hd Hl Hk
        revert e0 Hk' hd' hlt hx hc ha Hl'
        generalize (a' / 2) = a2
        generalize (s' ^^^ b') = s2
        generalize (a'.toNat : Int) = z
        intro e0 Hk' hd' hlt hx hc ha Hl'
        go_wp2_with fail
        refine (hc _).mono ?_
        rintro e w1 ⟨rfl, rfl⟩
        go_wp2
        go_roundw
        case rel => exact ⟨k, a2, _, s2, rfl, rfl, rfl, Hk', Hl', trivial⟩
        case measure => exact hlt.out

end Go.Proofs.Ytfkfkmdnffpcmaa
