import Derived.Test.YtfkfkmdnffpcmaaGfW
namespace Go.Proofs.Ytfkfkmdnffpcmaa
open Go.RowKit

set_option maxHeartbeats 400000 in
theorem gtwice_any (a : UInt8) (w : World) :
    Calls Try.prog 50 #[.int .u8 (a.toNat : Int)] w (fun e w' => e = .returned (.int .u8 ((gtwiceU a).toNat : Int)) ∧ w' = w) := by
  have h1 := and_u8 a 128
  have h3 := gxor_u8 (a + a) 27
  have h4 := dbl_u8 a
  have hb := a.toNat_lt
  rw [top_u8] at h1
  go_enter Try.func50, Try.ntmps50
  by_cases h : 128 ≤ a.toNat
  · have hu : gtwiceU a = (a + a) ^^^ 27 := if_pos h
    rw [if_pos h] at h1
    rw [← hu, h4] at h3
    have ha : bits .and .u8 (a.toNat : Int) 128 = 128 := h1
    have hx : bits .xor .u8 ((a.toNat : Int) * 2 % 256) 27 = ((gtwiceU a).toNat : Int) := by rw [← h3]; rfl
    clear h1 h3 h4 hu
    generalize gtwiceU a = s at *
    go_wp2
    go_ret
    exact ⟨rfl, rfl⟩
  · have hu : gtwiceU a = a + a := if_neg h
    rw [if_neg h] at h1
    rw [← hu] at h4
    have ha : bits .and .u8 (a.toNat : Int) 128 = 0 := h1
    have hx : (a.toNat : Int) * 2 = ((gtwiceU a).toNat : Int) := by omega
    clear h1 h3 h4 hu
    generalize gtwiceU a = s at *
    go_wp2
    go_ret
    exact ⟨rfl, rfl⟩

set_option maxHeartbeats 400000 in
theorem rgtwice_any (a : UInt8) (w : World) :
    Calls Try.prog 47 #[.int .u8 (a.toNat : Int)] w (fun e w' => e = .returned (.int .u8 ((gtwiceU a).toNat : Int)) ∧ w' = w) := by
  have h3 := gxor_u8 (a + a) 27
  have h4 := dbl_u8 a
  have hb := a.toNat_lt
  by_cases h : 128 ≤ a.toNat
  · have hu : gtwiceU a = (a + a) ^^^ 27 := if_pos h
    rw [← hu, h4] at h3
    have hx : bits .xor .u8 ((a.toNat : Int) * 2 % 256) 27 = ((gtwiceU a).toNat : Int) := by rw [← h3]; rfl
    have hz : 128 ≤ (a.toNat : Int) := by omega
    clear h3 h4 hu hb h
    revert hx hz
    generalize gtwiceU a = s
    generalize (a.toNat : Int) = z
    intro hx hz
    go_enter Try.func47, Try.ntmps47
    go_wp2
    go_ret
    exact ⟨rfl, rfl⟩
  · have hu : gtwiceU a = a + a := if_neg h
    rw [← hu] at h4
    have hx : (a.toNat : Int) * 2 = ((gtwiceU a).toNat : Int) := by omega
    have hz : (a.toNat : Int) < 128 := by omega
    clear h3 h4 hu hb h
    revert hx hz
    generalize gtwiceU a = s
    generalize (a.toNat : Int) = z
    intro hx hz
    go_enter Try.func47, Try.ntmps47
    go_wp2
    go_ret
    exact ⟨rfl, rfl⟩

end Go.Proofs.Ytfkfkmdnffpcmaa
