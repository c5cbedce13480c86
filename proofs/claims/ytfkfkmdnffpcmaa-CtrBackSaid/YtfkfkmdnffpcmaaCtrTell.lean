import Derived.Test.YtfkfkmdnffpcmaaCtrPlus
import Derived.Test.YtfkfkmdnffpcmaaAesEnc
import Derived.Test.YtfkfkmdnffpcmaaHeldK
namespace Go.Proofs.Ytfkfkmdnffpcmaa
open Go.RowKit

set_option maxHeartbeats 1600000 in
/-- The closure that tells a block by its place. -/
theorem ctell_any (k s : List UInt8) (i g1 g2 : Nat) (w : World) (hk : k.length = 240) (hs : s.length = 16) (hi : i ≤ 65535)
    (hS : SK w [(g1, 47, abn k), (g2, 23, abn s)] w) :
    Calls Try.prog 26 #[.int .i64 (i : Int), .pointer (some ⟨g1, 0, none⟩), .pointer (some ⟨g2, 0, none⟩)] w (AnsA w .u8 (abn (cblkU k s i))) := by
  have H1 : Hid ((abn s).length = 16) := Lib.hid (by rw [abn_length, hs])
  have H2 : Hid ((abn k).length = 240) := Lib.hid (by rw [abn_length, hk])
  have H3 : Hid ((abn (cplusU s i)).length = 16) := Lib.hid (by rw [abn_length, cplus_length hs])
  have H4 : Hid ((abn (cblkU k s i)).length = 16) := Lib.hid (by rw [abn_length, cblk_length hk])
  have c1 := fun W => cplus_any s i W hs hi
  have c2 : ∀ W, Calls Try.prog 27 #[.agg (Nums .u8 (abn k)), .agg (Nums .u8 (abn (cplusU s i)))] W (AnsA W .u8 (abn (cblkU k s i))) := fun W => aenc_any k (cplusU s i) W hk (cplus_length hs)
  have HS := Lib.hid hS
  clear hk hs hi hS
  revert H1 H2 H3 H4 c1 c2 HS
  generalize abn (cblkU k s i) = R
  generalize abn (cplusU s i) = M
  generalize abn s = L
  generalize abn k = K
  intro H1 H2 H3 H4 c1 c2 HS
  go_enter Try.func26, Try.ntmps26
  go_wp2_with (refine wp_alloc_arr (k := .u8) rfl 23 rfl 16 zero16 ?_)
  intro w1 g3 G3 H5 Hb1 Hs1
  have Hg : Hid (w.heap.size ≤ g3 ∧ g1 ≠ g3 ∧ g2 ≠ g3) := Lib.hid (by
    have e := G3.out
    have h1 := (sk_hd HS.out).lt
    have h2 := (HS.out.1 (g2, 23, L) (by simp)).lt
    dsimp only at h2
    omega)
  have F1 : Hid (SK w [(g3, 23, Zs 16), (g1, 47, K), (g2, 23, L)] w1) := Lib.hid (sk_cons (sk_below HS.out Hb1.out) H5.out)
  have Hne : Hid (∀ x ∈ [(g1, 47, K), (g2, 23, L)], x.1 ≠ g3) := Lib.hid (by
    have h5 := Hg.out
    intro x hx
    simp only [List.mem_cons, List.not_mem_nil, or_false] at hx
    rcases hx with rfl | rfl
    · exact h5.2.1
    · exact h5.2.2)
  clear H5 Hb1 Hs1 G3 HS
  go_wp2_with fail
  refine wp_region_ends (fun w' => SK w [(g3, 23, Zs 16), (g1, 47, K), (g2, 23, L)] w') 5 (by kernel_rfl) ?_
  refine wpAnyE_take (i := 0) (some 5) rfl rfl (by kernel_rfl) (fun _ _ _ h => h) (yields_arr (k := .u8) (l := K) (off := 0) (b := g1) (by rfl) _ rfl rfl (fun w' h => sk_range (t := 47) (l := K) h (by simp)) arrKeys.under rfl (by rw [H2.out]; exact arrKeys.size)) (sk_drewN F1.out 1) ?_
  simp only [Act.put, List.setIfInBounds_toArray, List.set_cons_zero, List.set_cons_succ]
  refine wpAnyE_take (i := 1) (some 6) rfl rfl (by kernel_rfl) (fun _ _ _ h => h) (yields_arr (k := .u8) (l := L) (off := 0) (b := g2) (by rfl) _ rfl rfl (fun w' h => sk_range (t := 23) (l := L) h (by simp)) arr16.under rfl (by rw [H1.out]; exact info_16)) (sk_drewN F1.out 1) ?_
  simp only [Act.put, List.setIfInBounds_toArray, List.set_cons_zero, List.set_cons_succ]
  refine wpAnyE_take (i := 2) (v := .int .i64 (i : Int)) (some 7) rfl rfl (by kernel_rfl) (fun _ _ _ h => h) (.inl ⟨by rfl, fun W _ => rfl⟩) (sk_drewN F1.out 1) ?_
  simp only [Act.put, List.setIfInBounds_toArray, List.set_cons_zero, List.set_cons_succ]
  refine wpAnyE_one (i := 3) (by kernel_rfl) rfl (fun K1 hK1 => ?_)
  refine stepE_call (v := .agg (Nums .u8 M)) (R := fun w' => Below _ _ w') (some 8) rfl rfl 22 Try.func22 (by kernel_rfl) rfl _ _ rfl [.agg (Nums .u8 L), .int .i64 (i : Int)] rfl (c1 _) (fun W1 hW => hK1.out _ _ (.inr (sk_below (sk_drewN F1.out 1) hW)) ?_)
  have F2 := Lib.hid (sk_below (sk_drewN F1.out 1) hW)
  clear hW hK1 K1
  simp only [Act.put, List.setIfInBounds_toArray, List.set_cons_zero, List.set_cons_succ]
  refine wpAnyE_one (i := 4) (by kernel_rfl) rfl (fun K1 hK1 => ?_)
  refine stepE_call (v := .agg (Nums .u8 R)) (R := fun w' => Below _ _ w') (some 9) rfl rfl 27 Try.func27 (by kernel_rfl) rfl _ _ rfl [.agg (Nums .u8 K), .agg (Nums .u8 M)] rfl (c2 _) (fun W2 hW => hK1.out _ _ (.inr (sk_below F2.out hW)) ?_)
  have F3 := Lib.hid (sk_below F2.out hW)
  clear hW hK1 K1
  simp only [Act.put, List.setIfInBounds_toArray, List.set_cons_zero, List.set_cons_succ]
  refine wpAnyE_one (i := 5) (by kernel_rfl) rfl (fun K1 hK1 => ?_)
  refine stepE_put arr16 none rfl rfl _ _ rfl rfl rfl (sk_hd F3.out) (Zs_length _) H4.out (fun W5 A5 M5 _ => hK1.out _ _ (.inl rfl) ?_)
  have F5 := Lib.hid (sk_put F3.out M5.out A5.out Hne.out Hg.out.1)
  clear A5 M5 hK1 K1
  simp only [Act.put]
  refine wpAnyE_done (by kernel_rfl) ?_
  go_wp2
  exact ret_arr arr16 rfl rfl (sk_hd F5.out) H4.out rfl ⟨rfl, F5.out.2⟩

end Go.Proofs.Ytfkfkmdnffpcmaa
