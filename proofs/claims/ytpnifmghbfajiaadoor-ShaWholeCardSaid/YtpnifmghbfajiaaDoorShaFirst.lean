import Derived.Test.YtpnifmghbfajiaaDoorArr
import Derived.Test.YtpnifmghbfajiaaDoorFacts
import Derived.Test.YtpnifmghbfajiaaDoorShaS
namespace Go.Proofs.YtpnifmghbfajiaaDoor
open Go.RowKit

theorem arr8 : ArrT Tryd.prog 24 22 .u32 8 := ⟨by kernel_rfl, by kernel_rfl, by kernel_rfl⟩
theorem arr64 : ArrT Tryd.prog 26 22 .u32 64 := ⟨by kernel_rfl, by kernel_rfl, by kernel_rfl⟩

/-- First. -/
theorem first_any (w : World) : Calls Tryd.prog 9 #[] w (AnsA w .u32 hsU) := by
  go_enter Tryd.func9, Tryd.ntmps9
  go_wp2
  exact ret_arr arr8 rfl rfl (Arr.new (l := hsU)) rfl rfl ⟨rfl, (Below.refl _ _).alloc (Nat.le_refl _) _⟩

set_option maxRecDepth 100000 in
/-- Table. -/
theorem rtable_any (w : World) : Calls Tryd.prog 11 #[] w (AnsA w .u32 ksU) := by
  go_enter Tryd.func11, Tryd.ntmps11
  go_wp2_with (refine wp_alloc_arr (k := .u32) rfl 26 rfl 64 (by kernel_rfl) ?_)
  intro w1 g1 G1 H1 Hb1 Hs1
  go_wp2_with (first
    | refine wp_build_arr rfl 26 _ rfl .u32 ksU (by kernel_rfl) ?_
    | refine wp_put_arr arr64 rfl (.tmp 0) (.tmp 1) rfl rfl (l' := ksU) rfl H1.out (Zs_length _) rfl ?_)
  intro w2 H2 Hm2 Hs2
  go_wp2
  exact ret_arr arr64 rfl rfl H2.out rfl rfl ⟨rfl, Hb1.out.trans (Hm2.out.below (fun j hj => by have := G1.out; omega) Hb1.out.size)⟩

end Go.Proofs.YtpnifmghbfajiaaDoor
