import Derived.Test.YtfkfkmdnffpcmaaCtrPlus
namespace Go.Proofs.Ytfkfkmdnffpcmaa
open Go.RowKit

set_option maxHeartbeats 1600000 in
theorem cnext_any (c : List UInt8) (w : World) (hc : c.length = 16) :
    Calls Try.prog 11 #[.agg (Nums .u8 (abn c))] w (AnsA w .u8 (abn (cplusU c 1))) := by
  have Hc : Hid ((abn c).length = 16) := Lib.hid (by rw [abn_length, hc])
  have HL : Hid ((abn (cplusU c 1)).length = 16) := Lib.hid (by rw [abn_length, cplus_length hc])
  have c1 : ∀ W, Calls Try.prog 22 #[.agg (Nums .u8 (abn c)), .int .i64 1] W (AnsA W .u8 (abn (cplusU c 1))) := fun W => cplus_any c 1 W hc (by omega)
  clear hc
  revert Hc HL c1
  generalize abn (cplusU c 1) = L
  generalize abn c = l
  intro Hc HL c1
  go_enter Try.func11, Try.ntmps11
  go_wp2_with (refine wp_box_arr (k := .u8) rfl 23 (.tmp 0) rfl l rfl ?_)
  intro w1 g1 G1 H1 Hb1 Hs1
  go_wp2_with (refine wp_alloc_arr (k := .u8) rfl 23 rfl 16 zero16 ?_)
  intro w2 g2 G2 H2 Hb2 Hs2
  go_wp2_with (refine wp_load_arr arr16 rfl (.tmp 1) rfl rfl (H1.out.below Hb2.out H1.out.lt) Hc.out ?_)
  refine (c1 _).mono ?_
  rintro e w3 ⟨rfl, hb3⟩
  have H3 := Lib.hid (H2.out.below hb3 H2.out.lt)
  have B3 := Lib.hid (abon (abon Hb1.out Hb2.out) hb3)
  have Hg : Hid (w.heap.size ≤ g2) := Lib.hid (by have := G2.out; have := Hs1.out; omega)
  clear hb3 H2 Hb2 G2 Hs2
  go_wp2_with (refine wp_put_arr arr16 rfl (.tmp 2) (.tmp 4) rfl rfl (l' := L) rfl H3.out (Zs_length _) HL.out ?_)
  intro w5 H5 Hm5 Hs5
  go_wp2
  exact ret_arr arr16 rfl rfl H5.out HL.out rfl ⟨rfl, B3.out.trans (Hm5.out.below (fun j hj => by have := Hg.out; omega) B3.out.size)⟩

end Go.Proofs.Ytfkfkmdnffpcmaa
