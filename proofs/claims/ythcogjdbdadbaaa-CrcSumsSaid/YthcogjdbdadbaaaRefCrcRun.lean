import Derived.Test.YthcogjdbdadbaaaRefCrcStep
namespace Go.Proofs.Ythcogjdbdadbaaa
open Go.RowKit

set_option maxHeartbeats 1600000 in
theorem rcrun_any (B n cap c : Nat) (A : Option Addr) (xs : List UInt8) (w : World) (hx : Rd w B A n (Byt xs)) (hn : n ≤ 8796093022208) (hc : c < 4294967296) :
    Calls Try.prog 18 #[.int .u32 c, .slice A n cap] w (Ans w (.int .u32 (runU c xs : Nat))) := by
  have hxl := hx.bytes
  have Hx := Lib.hid hxl; clear hxl
  go_enter Try.func18, Try.ntmps18
  go_wp2
  go_loopw [0, 5] (fun s i wr => ∃ (k j z : Nat), k ≤ n ∧ i = .int .i64 k ∧ s = .int .u32 z ∧ z < 4294967296 ∧ Hid (z = runU c (xs.take k)) ∧ wr = w.drewN j) (fun _ i _ => n - (intOf i).toNat)
  case atStart => exact ⟨0, 0, c, Nat.zero_le _, rfl, rfl, hc, Lib.hid rfl, rfl⟩
  case round =>
    obtain ⟨k, j, z, hk, rfl, rfl, hz, Hz, rfl⟩ := hrel
    by_cases hlt : k < n
    · have hkx : k < xs.length := by rw [Hx.out]; exact hlt
      obtain ⟨b, o, rfl, hb, hcell⟩ := hx.byte hlt hkx
      have hxb := xor_u32_byte z xs[k] hz
      have hzb : z ^^^ xs[k].toNat < 4294967296 := xor_lt hz (byte_lt _)
      have hs : runU c (xs.take (k + 1)) = stepsU 8 (z ^^^ xs[k].toNat) := by rw [runU_take hkx, ← Hz.out]; rfl
      have Hs := Lib.hid hs; clear hs
      have hd0 : 0 ≤ (xs[k].toNat : Int) := by omega
      have hd1 : (xs[k].toNat : Int) < 256 := by have := xs[k].toNat_lt; omega
      have hdm : (xs[k].toNat : Int) % 4294967296 = (xs[k].toNat : Int) := by omega
      revert hxb hzb Hs hd0 hd1 hdm
      generalize hd : (xs[k].toNat : Int) = d at hcell ⊢
      generalize z ^^^ xs[k].toNat = y
      intro hxb hy Hs hd0 hd1 hdm
      clear hd
      have hxb' : bits .xor .u32 (z : Int) (d % 4294967296) = (y : Int) := by rw [hdm]; exact hxb
      go_wp2
      go_loopw [0, 6] (fun s i wr => ∃ (p y' j' : Nat), p ≤ 8 ∧ i = .int .i64 p ∧ s = .int .u32 y' ∧ y' < 4294967296 ∧ Hid (stepsU 8 y = stepsU (8 - p) y') ∧ wr = w.drewN j') (fun _ i _ => 8 - (intOf i).toNat)
      case atStart => exact ⟨0, y, _, Nat.zero_le _, rfl, rfl, hy, Lib.hid rfl, rfl⟩
      case round =>
        obtain ⟨p, y', j', hp, rfl, rfl, hy', Hy, rfl⟩ := hrel
        by_cases hp8 : p < 8
        · go_wp2_with (refine (rcstep_any y' _ hy').mono ?_; rintro e w1 ⟨rfl, rfl⟩)
          go_roundw
          case rel => exact ⟨p + 1, stepU y', _, by omega, by go_num, rfl, stepU_lt hy', Lib.hid (by rw [Hy.out, show 8 - p = (8 - (p + 1)) + 1 by omega]; rfl), rfl⟩
          case measure => simp [intOf]; omega
        · have Hs8 : Hid (runU c (xs.take (k + 1)) = y') := Lib.hid (by rw [Hs.out, Hy.out, show 8 - p = 0 by omega]; rfl)
          go_wp2
          go_roundw
          case rel => exact ⟨k + 1, _, y', by omega, by go_num, rfl, hy', Lib.hid Hs8.out.symm, rfl⟩
          case measure => simp [intOf]; omega
    · go_wp2
      go_ret
      exact ⟨by rw [Hz.out, show xs.take k = xs from List.take_of_length_le (by rw [Hx.out]; omega)]; rfl, bdrewN (Below.refl _ _) _⟩

end Go.Proofs.Ythcogjdbdadbaaa
