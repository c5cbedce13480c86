import Derived.Test.YtpnifmghbfajiaaDoorShaRot
import Derived.Test.YtpnifmghbfajiaaDoorShaFirst
namespace Go.Proofs.YtpnifmghbfajiaaDoor
open Go.RowKit

set_option maxHeartbeats 800000 in
/-- The closure of Words: a word turned twice, and moved. -/
theorem wturn_any (g j n1 n2 d x : Nat) (l : List Nat) (w : World) (hl : l.length = 64) (hj : l[j]? = some x) (hx : x < 4294967296) (h1 : 1 ≤ n1 ∧ n1 ≤ 31) (h2 : 1 ≤ n2 ∧ n2 ≤ 31) (hd : d ≤ 31) (h : Arr w g 26 .u32 l) :
    Calls Tryd.prog 29 #[.int .i64 (j : Int), .int .i64 (n1 : Int), .int .i64 (n2 : Int), .int .i64 (d : Int), .pointer (some ⟨g, 0, none⟩)] w
      fun e w' => e = .returned (.int .u32 ((rotU n1 x ^^^ rotU n2 x ^^^ x / 2 ^ d : Nat) : Int)) ∧ ∃ k, w' = w.drewN k := by
  have hj64 : j < 64 := by have := (List.getElem?_eq_some_iff.1 hj).1; omega
  have hcell := h.at_ hj
  have r1b : rotU n1 x < 4294967296 := rotU_lt hx
  have r2b : rotU n2 x < 4294967296 := rotU_lt hx
  have hxd : x / 2 ^ d < 4294967296 := Nat.lt_of_le_of_lt (Nat.div_le_self _ _) hx
  have e1 := u32_xor_nat (rotU n1 x) (rotU n2 x) r1b r2b
  have e2 := u32_xor_nat (rotU n1 x ^^^ rotU n2 x) (x / 2 ^ d) (Nat.xor_lt_two_pow (n := 32) r1b r2b) hxd
  rw [show ((x / 2 ^ d : Nat) : Int) = (x : Int) / 2 ^ d by push_cast; rfl] at e2
  have Hl := Lib.hid hl; clear hl hj
  revert e1 e2
  generalize rotU n1 x ^^^ rotU n2 x ^^^ x / 2 ^ d = r
  generalize rotU n1 x ^^^ rotU n2 x = y
  intro e1 e2
  clear r1b r2b hxd
  obtain ⟨h11, h12⟩ := h1
  obtain ⟨h21, h22⟩ := h2
  clear h
  go_enter Tryd.func29, Tryd.ntmps29
  go_wp2
  go_quiet (exact Calls.quiet_of_same (rotl_any x _ _ hx (by omega) (by omega)))
  go_wp2
  go_ret
  exact ⟨rfl, _, rfl⟩

set_option maxHeartbeats 800000 in
/-- The closure of Block: a word turned three times. -/
theorem bturn_any (g j n1 n2 n3 x : Nat) (l : List Nat) (w : World) (hl : l.length = 8) (hj : l[j]? = some x) (hx : x < 4294967296) (h1 : 1 ≤ n1 ∧ n1 ≤ 31) (h2 : 1 ≤ n2 ∧ n2 ≤ 31) (h3 : 1 ≤ n3 ∧ n3 ≤ 31) (h : Arr w g 24 .u32 l) :
    Calls Tryd.prog 33 #[.int .i64 (j : Int), .int .i64 (n1 : Int), .int .i64 (n2 : Int), .int .i64 (n3 : Int), .pointer (some ⟨g, 0, none⟩)] w
      fun e w' => e = .returned (.int .u32 ((rotU n1 x ^^^ rotU n2 x ^^^ rotU n3 x : Nat) : Int)) ∧ w' = w := by
  have hj8 : j < 8 := by have := (List.getElem?_eq_some_iff.1 hj).1; omega
  have hcell := h.at_ hj
  have r1b : rotU n1 x < 4294967296 := rotU_lt hx
  have r2b : rotU n2 x < 4294967296 := rotU_lt hx
  have r3b : rotU n3 x < 4294967296 := rotU_lt hx
  have e1 := u32_xor_nat (rotU n1 x) (rotU n2 x) r1b r2b
  have e2 := u32_xor_nat (rotU n1 x ^^^ rotU n2 x) (rotU n3 x) (Nat.xor_lt_two_pow (n := 32) r1b r2b) r3b
  have hc1 := fun w => rotl_any x n1 w hx h1.1 h1.2
  have hc2 := fun w => rotl_any x n2 w hx h2.1 h2.2
  have hc3 := fun w => rotl_any x n3 w hx h3.1 h3.2
  have Hl := Lib.hid hl; clear hl hj
  revert e1 e2 hc1 hc2 hc3
  generalize rotU n1 x ^^^ rotU n2 x ^^^ rotU n3 x = r
  generalize rotU n1 x ^^^ rotU n2 x = y
  generalize rotU n1 x = r1
  generalize rotU n2 x = r2
  generalize rotU n3 x = r3
  intro e1 e2 hc1 hc2 hc3
  clear r1b r2b r3b
  obtain ⟨h11, h12⟩ := h1
  obtain ⟨h21, h22⟩ := h2
  obtain ⟨h31, h32⟩ := h3
  clear h
  go_enter Tryd.func33, Tryd.ntmps33
  go_wp2_with fail
  refine (hc1 _).mono ?_
  rintro e w1 ⟨rfl, rfl⟩
  go_wp2_with fail
  refine (hc2 _).mono ?_
  rintro e w1 ⟨rfl, rfl⟩
  go_wp2_with fail
  refine (hc3 _).mono ?_
  rintro e w1 ⟨rfl, rfl⟩
  go_wp2
  go_ret
  exact ⟨rfl, rfl⟩

end Go.Proofs.YtpnifmghbfajiaaDoor
