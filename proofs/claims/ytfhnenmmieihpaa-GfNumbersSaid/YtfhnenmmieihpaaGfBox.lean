import Derived.Test.YtfhnenmmieihpaaGfInv
import Derived.Test.YtfhnenmmieihpaaGfRot
namespace Go.Proofs.Ytfhnenmmieihpaa
open Go.RowKit

/-- What comes together till the bits were turned by k. -/
def gboxP (n : UInt8) : Nat → UInt8
  | 0 => n ^^^ 99
  | k + 1 => gboxP n k ^^^ gleftU n (k + 1)
theorem gboxP_four (n : UInt8) : gboxP n 4 = n ^^^ gleftU n 1 ^^^ gleftU n 2 ^^^ gleftU n 3 ^^^ gleftU n 4 ^^^ 99 := by
  show n ^^^ 99 ^^^ gleftU n 1 ^^^ gleftU n 2 ^^^ gleftU n 3 ^^^ gleftU n 4 = _
  generalize gleftU n 1 = a
  generalize gleftU n 2 = b
  generalize gleftU n 3 = c
  generalize gleftU n 4 = d
  simp only [UInt8.xor_assoc]
  congr 1
  rw [UInt8.xor_comm 99]
  simp only [UInt8.xor_assoc]

set_option maxHeartbeats 1600000 in
set_option maxRecDepth 20000 in
theorem gbox_any (a : UInt8) (w : World) :
    Calls Try.prog 15 #[.int .u8 (a.toNat : Int)] w (fun e w' => e = .returned (.int .u8 ((gboxU a).toNat : Int)) ∧ w' = w) := by
  have hc := fun w => ginv_any a w
  have Hm : Hid (gboxU a = gboxP (ginvU a) 4) := Lib.hid (by rw [gboxP_four]; rfl)
  have hx0 := gxor_u8 (ginvU a) 99
  have H0 : Hid (ginvU a ^^^ 99 = gboxP (ginvU a) 0) := Lib.hid rfl
  revert hc Hm hx0 H0
  generalize gboxU a = m
  generalize ginvU a = n
  intro hc Hm hx0 H0
  generalize n ^^^ 99 = p at *
  have hx0' : bits .xor .u8 (n.toNat : Int) 99 = (p.toNat : Int) := hx0
  clear hx0
  go_enter Try.func15, Try.ntmps15
  go_wp2_with fail
  refine (hc _).mono ?_
  rintro e w1 ⟨rfl, rfl⟩
  go_wp2
  go_loopw [4, 5] (fun x i wr => ∃ (k : Nat) (o : UInt8), k ≤ 4 ∧ i = .int .i64 ((k : Int) + 1) ∧ x = .int .u8 (o.toNat : Int) ∧ Hid (o = gboxP n k) ∧ wr = w1) (fun _ i _ => 5 - (intOf i).toNat)
  case atStart => exact ⟨0, p, by omega, rfl, rfl, H0, rfl⟩
  case round =>
    obtain ⟨k, o, hk, rfl, rfl, Ho, rfl⟩ := hrel
    by_cases hlt : k < 4
    · have hcr : ∀ w, Calls Try.prog 19 #[.int .u8 (n.toNat : Int), .int .i64 ((k : Int) + 1)] w (fun e w' => e = .returned (.int .u8 ((gleftU n (k + 1)).toNat : Int)) ∧ w' = w) := fun w => rot8_any n (k + 1) w (by omega) (by omega)
      have hx := gxor_u8 o (gleftU n (k + 1))
      have Hr : Hid (o ^^^ gleftU n (k + 1) = gboxP n (k + 1)) := Lib.hid (by rw [Ho.out]; rfl)
      generalize o ^^^ gleftU n (k + 1) = o2 at *
      generalize gleftU n (k + 1) = r at *
      go_wp2_with fail
      refine (hcr _).mono ?_
      rintro e w1 ⟨rfl, rfl⟩
      go_wp2
      go_roundw
      case rel => exact ⟨k + 1, o2, by omega, by go_num, rfl, Hr, trivial⟩
      case measure => simp [intOf]; omega
    · have Hr : Hid (m = o) := Lib.hid (by rw [Hm.out, Ho.out, show k = 4 by omega])
      go_wp2
      go_ret
      exact ⟨by rw [Hr.out]; rfl, rfl⟩

end Go.Proofs.Ytfhnenmmieihpaa
