import Derived.Test.YtodabjfddobkkaaWireNumber1
namespace Go.Proofs.Ytodabjfddobkkaa
open Go.RowKit

theorem num1_lt {s : RS} : (numStep 1 s).1 < 256 := by
  unfold numStep
  split
  · split
    · rename_i n r h
      unfold numR at h
      split at h
      · injection h with h
        injection h with h _
        subst h
        have h1 := getL_lt (s.left.take (1 : Int).toNat)
        have h2 : 256 ^ (s.left.take (1 : Int).toNat).length ≤ 256 ^ 1 := Nat.pow_le_pow_right (by omega) (Nat.le_trans (List.length_take_le _ _) (by decide))
        show getL _ < 256
        omega
      · cases h
    · exact Nat.zero_lt_succ _
  · exact Nat.zero_lt_succ _

set_option maxHeartbeats 400000 in
theorem wrbyte_any (br : Nat) (s : RS) (w : World) (h : RdrS w br s) :
    Calls Try.prog 21 #[.pointer (some ⟨br, 0, none⟩)] w fun e w' =>
      e = .returned (.int .u8 ((numStep 1 s).1 : Int)) ∧ RdrS w' br (numStep 1 s).2 ∧ Moves (Blk br) w w' := by
  have hp := wrnum_any br s 1 w h
  have hlt := @num1_lt s
  obtain ⟨z, hz⟩ : ∃ z : Int, z = ((numStep 1 s).1 : Int) := ⟨_, rfl⟩
  have hz0 : 0 ≤ z := by omega
  have hz1 : z < 256 := by omega
  have hmod : z % 256 = z := by omega
  rw [← hz] at hp ⊢
  clear hlt hz
  go_enter Try.func21, Try.ntmps21
  go_wp2_with fail
  refine hp.mono ?_
  rintro e w1 ⟨rfl, hlt, hs1, hm1⟩
  clear hlt
  go_wp2
  go_ret
  exact ⟨rfl, hs1, hm1⟩

set_option maxHeartbeats 400000 in
theorem wrbyte_nil (w : World) :
    Calls Try.prog 21 #[.pointer none] w fun e w' => e = .returned (.int .u8 0) ∧ Below w.heap.size w w' := by
  go_enter Try.func21, Try.ntmps21
  go_wp2_with fail
  refine (wrnum_nil 1 _).mono ?_
  rintro e w1 ⟨rfl, hb⟩
  go_wp2
  go_ret
  exact ⟨rfl, hb⟩

end Go.Proofs.Ytodabjfddobkkaa
