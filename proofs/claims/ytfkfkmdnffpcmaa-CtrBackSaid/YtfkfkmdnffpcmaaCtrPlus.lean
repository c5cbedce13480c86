import Derived.Test.YtfkfkmdnffpcmaaCtrS
import Derived.Test.YtfkfkmdnffpcmaaAesW
namespace Go.Proofs.Ytfkfkmdnffpcmaa
open Go.RowKit

set_option maxHeartbeats 1600000 in
theorem cplus_any (c : List UInt8) (n : Nat) (w : World) (hc : c.length = 16) (hn : n ≤ 65535) :
    Calls Try.prog 22 #[.agg (Nums .u8 (abn c)), .int .i64 (n : Int)] w (AnsA w .u8 (abn (cplusU c n))) := by
  have Hc := Lib.hid hc
  have HL : Hid ((abn (cplusU c n)).length = 16) := Lib.hid (by rw [abn_length, cplus_length hc])
  have Hlen : Hid (∀ k, (abn (cD c n k)).length = 16) := Lib.hid (fun k => by rw [abn_length, cD_length, hc])
  have Hn : Hid (∀ k, cN c n k ≤ 65535) := Lib.hid (cN_bound c hn)
  have H0 : Hid (cN c n 0 = n ∧ cD c n 0 = c) := Lib.hid ⟨rfl, rfl⟩
  clear hc hn
  go_enter Try.func22, Try.ntmps22
  go_wp2_with (refine wp_box_arr (k := .u8) rfl 23 (.tmp 0) rfl (abn c) rfl ?_)
  intro w1 g1 G1 H1 Hb1 Hs1
  go_wp2_with (refine wp_alloc_arr (k := .u8) rfl 23 rfl 16 zero16 ?_)
  intro w2 g2 G2 H2 Hb2 Hs2
  have Hg : Hid (w.heap.size ≤ g1 ∧ w.heap.size ≤ g2 ∧ g1 ≠ g2) := Lib.hid (by have := G1.out; have := G2.out; have := Hs1.out; omega)
  have K1 : Hid (Arr w2 g1 23 .u8 (abn (cD c n 0))) := Lib.hid (H1.out.below Hb2.out H1.out.lt)
  have B2 : Hid (Below w.heap.size w w2) := Lib.hid (abon Hb1.out Hb2.out)
  clear H1 Hb1 Hb2 G1 G2 Hs1 Hs2
  go_wp2
  go_step3
  go_wp2
  go_step3
  go_wp2
  go_loopw [1, 5] (fun u v wr => ∃ (k : Nat) (z : Int), k ≤ 16 ∧ u = .int .i64 ((cN c n k : Nat) : Int) ∧ v = .int .i64 z ∧ Hid (z + (k : Int) = 15) ∧ Hid (Arr wr g1 23 .u8 (abn (cD c n k))) ∧ Hid (Arr wr g2 23 .u8 (Zs 16)) ∧ Hid (Below w.heap.size w wr)) (fun _ v _ => (intOf v + 1).toNat)
  case atStart => exact ⟨0, 15, by omega, by rw [H0.out.1], rfl, Lib.hid rfl, K1, H2, B2⟩
  case round =>
    clear K1 B2 H2
    obtain ⟨k, z, hk, rfl, rfl, Hz, K1, K2, B2⟩ := hrel
    by_cases hlt : k < 16
    · obtain ⟨m, rfl⟩ : ∃ m : Nat, z = (m : Int) := ⟨z.toNat, by have := Hz.out; omega⟩
      have Hm : Hid (15 - k = m) := Lib.hid (by have := Hz.out; omega)
      have hm : m < 16 := by have := Hz.out; omega
      by_cases h0 : cN c n k = 0
      · have Hend := Lib.hid (cD_end Hc.out hk h0)
        rw [h0]
        have K3 : Hid (Arr wr g1 23 .u8 (abn (cplusU c n))) := Lib.hid (by rw [← Hend.out]; exact K1.out)
        clear K1 Hend h0
        go_wp2_with (first
          | refine wp_load_arr arr16 rfl (.tmp 2) rfl rfl K3.out HL.out ?_
          | refine wp_put_arr arr16 rfl (.tmp 4) (.tmp 24) rfl rfl (l' := abn (cplusU c n)) rfl K2.out (Zs_length _) HL.out ?_)
        intro w5 H5 Hm5 Hs5
        go_wp2
        rw [Exit.noGoto_ret]
        exact ret_arr arr16 rfl rfl H5.out HL.out rfl ⟨rfl, B2.out.trans (Hm5.out.below (fun j hj => by have := Hg.out; omega) B2.out.size)⟩
      · have e0 : (((cN c n k : Nat) : Int) == 0) = false := by simp; omega
        obtain ⟨b, h1, h2, h3, h4⟩ := cD_at Hc.out n hlt
        rw [Hm.out] at h1 h2 h4
        have hq := Hn.out k
        have hcell := K1.out.at_ (abn_get h2)
        have hfz := K1.out.frozen m
        have hb := b.toNat_lt
        have Hset : Hid (abn (cD c n (k + 1)) = (abn (cD c n k)).set m (UInt8.ofNat (cN c n k + b.toNat)).toNat) := Lib.hid (by rw [h4]; simp [abn, List.map_set])
        have Hnx := Lib.hid h3
        clear h1 h2 h3 h4 h0
        generalize hqq : cN c n k = q at *
        generalize hbb : b.toNat = p at *
        go_wp2
        go_roundw
        case rel =>
          refine ⟨k + 1, (m : Int) - 1, by omega, by rw [Hnx.out]; rfl, rfl, Lib.hid (by have := Hz.out; omega), Lib.hid ?_, Lib.hid (K2.out.other Hg.out.2.2.symm), Lib.hid (B2.out.setCell Hg.out.1 _)⟩
          rw [Hset.out]
          exact K1.out.put (by rw [u8_of]; rfl)
        case measure => simp [intOf]
    · have hk16 : k = 16 := by omega
      have K3 : Hid (Arr wr g1 23 .u8 (abn (cplusU c n))) := Lib.hid (by have h := K1.out; rw [hk16] at h; exact h)
      have hz : z = -1 := by have := Hz.out; omega
      subst hz
      clear K1 Hz
      go_wp2_with (first
        | refine wp_load_arr arr16 rfl (.tmp 2) rfl rfl K3.out HL.out ?_
        | refine wp_put_arr arr16 rfl (.tmp 4) (.tmp 24) rfl rfl (l' := abn (cplusU c n)) rfl K2.out (Zs_length _) HL.out ?_)
      intro w5 H5 Hm5 Hs5
      go_wp2
      rw [Exit.noGoto_ret]
      exact ret_arr arr16 rfl rfl H5.out HL.out rfl ⟨rfl, B2.out.trans (Hm5.out.below (fun j hj => by have := Hg.out; omega) B2.out.size)⟩

end Go.Proofs.Ytfkfkmdnffpcmaa
