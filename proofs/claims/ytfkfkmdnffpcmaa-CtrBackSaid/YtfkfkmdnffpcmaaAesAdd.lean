import Derived.Test.YtfkfkmdnffpcmaaAesW
import Derived.Test.YtfkfkmdnffpcmaaGfW
namespace Go.Proofs.Ytfkfkmdnffpcmaa
open Go.RowKit

set_option maxHeartbeats 1600000 in
theorem aadd_any (s t : List UInt8) (w : World) (hs : s.length = 16) (ht : t.length = 16) :
    Calls Try.prog 34 #[.agg (Nums .u8 (abn s)), .agg (Nums .u8 (abn t))] w (AnsA w .u8 (abn (aaddU s t))) := by
  have Hat : Hid (∀ k, k < 16 → ∃ x y : UInt8, (abn s)[k]? = some x.toNat ∧ (abn t)[k]? = some y.toNat ∧ (abn (aaddU s t))[k]? = some (x ^^^ y).toNat) := Lib.hid (fun k hk => by
    obtain ⟨x, y, h1, h2, h3⟩ := aadd_at (s := s) (t := t) (k := k) (by omega) (by omega)
    exact ⟨x, y, abn_get h1, abn_get h2, abn_get h3⟩)
  have Hl : Hid ((abn s).length = 16) := Lib.hid (by rw [abn_length, hs])
  have Hm : Hid ((abn t).length = 16) := Lib.hid (by rw [abn_length, ht])
  have HL : Hid ((abn (aaddU s t)).length = 16) := Lib.hid (by rw [abn_length, aadd_length hs ht])
  clear hs ht
  revert Hat Hl Hm HL
  generalize abn (aaddU s t) = L
  generalize abn s = l
  generalize abn t = m
  intro Hat Hl Hm HL
  go_enter Try.func34, Try.ntmps34
  go_wp2_with (refine wp_box_arr (k := .u8) rfl 23 (.tmp 0) rfl l rfl ?_)
  intro w1 g1 G1 H1 Hb1 Hs1
  go_wp2_with (refine wp_box_arr (k := .u8) rfl 23 (.tmp 1) rfl m rfl ?_)
  intro w2 g2 G2 H2 Hb2 Hs2
  go_wp2_with (refine wp_alloc_arr (k := .u8) rfl 23 rfl 16 zero16 ?_)
  intro w3 g3 G3 H3 Hb3 Hs3
  have Hg : Hid (w.heap.size ≤ g1 ∧ w.heap.size ≤ g2 ∧ w.heap.size ≤ g3 ∧ g1 ≠ g3 ∧ g2 ≠ g3 ∧ g1 ≠ g2) := Lib.hid (by have := G1.out; have := G2.out; have := G3.out; have := Hs1.out; have := Hs2.out; omega)
  have K1 : Hid (Arr w3 g1 23 .u8 (L.take 0 ++ l.drop 0)) := Lib.hid ((H1.out.below Hb2.out H1.out.lt).below Hb3.out (Nat.lt_of_lt_of_le H1.out.lt Hb2.out.size))
  have K2 : Hid (Arr w3 g2 23 .u8 m) := Lib.hid (H2.out.below Hb3.out H2.out.lt)
  have B3 : Hid (Below w.heap.size w w3) := Lib.hid ((Hb1.out.trans (Hb2.out.mono Hb1.out.size)).trans (Hb3.out.mono (Nat.le_trans Hb1.out.size Hb2.out.size)))
  clear H1 H2 Hb1 Hb2 Hb3 G1 G2 G3 Hs1 Hs2 Hs3
  go_wp2_with (refine wp_load_arr arr16 rfl (.tmp 3) rfl rfl K2.out Hm.out ?_)
  go_wp2
  go_loopw [8] (fun i wr => ∃ k : Nat, k ≤ 16 ∧ i = .int .i64 (k : Int) ∧ Hid (Arr wr g2 23 .u8 m) ∧ Hid (Arr wr g3 23 .u8 (Zs 16)) ∧ Hid (Arr wr g1 23 .u8 (L.take k ++ l.drop k)) ∧ Hid (Below w.heap.size w wr)) (fun i _ => 16 - (intOf i).toNat)
  case atStart => exact ⟨0, by omega, rfl, K2, H3, K1, B3⟩
  case round =>
    clear K1 K2 B3 H3
    obtain ⟨k, hk, rfl, K2, K3, K1, B3⟩ := hrel
    by_cases hlt : k < 16
    · obtain ⟨x, y, hx, hy, hxy⟩ := Hat.out k hlt
      have hix := fun w' => run_index_arr arr16 info_u8n Hm.out hy w'
      have hin := K1.out.at_ (afill_at hx (L := L) (by rw [HL.out]; omega))
      have hin2 := K2.out.at_ hy
      have hfz := K1.out.frozen k
      have hxor := gxor_u8 x y
      have Hy : Hid (L[k]? = some (x ^^^ y).toNat) := Lib.hid hxy
      clear hx hy hxy
      generalize x ^^^ y = z at *
      go_wp2
      go_roundw
      case rel =>
        refine ⟨k + 1, by omega, by go_num, Lib.hid (K2.out.other Hg.out.2.2.2.2.2.symm), Lib.hid (K3.out.other Hg.out.2.2.2.1.symm), Lib.hid ?_, Lib.hid (B3.out.setCell Hg.out.1 _)⟩
        rw [← afill_step Hy.out (by rw [Hl.out]; exact hlt)]
        exact K1.out.set
      case measure => simp [intOf]; omega
    · have hk4 : k = 16 := by omega
      have Hr : Hid (Arr wr g1 23 .u8 L) := Lib.hid (by have h := K1.out; rw [hk4, fill_all HL.out Hl.out] at h; exact h)
      go_wp2_with (first
        | refine wp_load_arr arr16 rfl (.tmp 2) rfl rfl Hr.out HL.out ?_
        | refine wp_put_arr arr16 rfl (.tmp 4) (.tmp 19) rfl rfl (l' := L) rfl K3.out (Zs_length _) HL.out ?_)
      intro w5 H5 Hm5 Hs5
      go_wp2
      exact ret_arr arr16 rfl rfl H5.out HL.out rfl ⟨rfl, B3.out.trans (Hm5.out.below (fun j hj => by have := Hg.out; omega) B3.out.size)⟩

end Go.Proofs.Ytfkfkmdnffpcmaa
