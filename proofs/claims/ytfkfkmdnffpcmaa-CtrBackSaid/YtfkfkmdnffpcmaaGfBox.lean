import Derived.Test.YtfkfkmdnffpcmaaArr
import Derived.Test.YtfkfkmdnffpcmaaGfW
namespace Go.Proofs.Ytfkfkmdnffpcmaa
open Go.RowKit

theorem arr256 : ArrT Try.prog 62 5 .u8 256 := ⟨by kernel_rfl, by kernel_rfl, by kernel_rfl⟩
theorem gboxTab_length : gboxTab.length = 256 := by decide +kernel
theorem gboxTab_small : (gboxTab.all fun n => decide (n < 256)) = true := by decide +kernel
theorem gboxTab_at (a : UInt8) : gboxTab[a.toNat]? = some (gboxU a).toNat := by
  have h : a.toNat < gboxTab.length := by rw [gboxTab_length]; exact a.toNat_lt
  have h2 : gboxTab[a.toNat] < 256 := of_decide_eq_true (List.all_eq_true.1 gboxTab_small _ (List.getElem_mem h))
  rw [gbox_tab, List.getD_eq_getElem?_getD, List.getElem?_eq_getElem h, Option.getD_some]
  rw [UInt8.toNat_ofNat', Nat.mod_eq_of_lt h2]

set_option maxHeartbeats 1600000 in
set_option maxRecDepth 100000 in
theorem gbox_any (a : UInt8) (w : World) :
    Calls Try.prog 41 #[.int .u8 (a.toNat : Int)] w (Ans w (.int .u8 ((gboxU a).toNat : Int))) := by
  have Hat : Hid (gboxTab[a.toNat]? = some (gboxU a).toNat) := Lib.hid (gboxTab_at a)
  have h0 : (0 : Int) ≤ (a.toNat : Int) := by omega
  have h1 : (a.toNat : Int) < 256 := by have := a.toNat_lt; omega
  obtain ⟨n, hn⟩ : ∃ n, n = a.toNat := ⟨_, rfl⟩
  obtain ⟨r, hr⟩ : ∃ r, r = (gboxU a).toNat := ⟨_, rfl⟩
  rw [← hn] at Hat h0 h1 ⊢
  rw [← hr] at Hat ⊢
  clear hn hr
  go_enter Try.func41, Try.ntmps41
  go_wp2_with (first
    | refine wp_build_arr rfl 62 _ rfl .u8 gboxTab (by kernel_rfl) ?_
    | refine wp_alloc_arr (k := .u8) rfl 62 rfl 256 (by kernel_rfl) ?_)
  intro w1 g1 G1 H1 Hb1 Hs1
  go_wp2_with (refine wp_put_arr arr256 rfl (.tmp 3) (.tmp 4) rfl rfl (l' := gboxTab) rfl H1.out (Zs_length _) gboxTab_length ?_)
  intro w2 H2 Hm2 Hs2
  have hc : w2.cell? ⟨g1, n, none⟩ = some (.int .u8 (r : Int)) := H2.out.at_ Hat.out
  have hB : Hid (Below w.heap.size w w2) := Lib.hid (Hb1.out.trans (Hm2.out.below (fun j hj => by have := G1.out; omega) Hb1.out.size))
  go_wp2
  go_ret
  exact ⟨rfl, hB.out⟩

end Go.Proofs.Ytfkfkmdnffpcmaa
