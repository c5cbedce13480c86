import Derived.Test.YtfkfkmdnffpcmaaAesW
import Derived.Test.YtfkfkmdnffpcmaaGfBox
namespace Go.Proofs.Ytfkfkmdnffpcmaa
open Go.RowKit

set_option maxHeartbeats 1600000 in
theorem asub_any (s : List UInt8) (w : World) (hs : s.length = 16) :
    Calls Try.prog 37 #[.agg (Nums .u8 (abn s))] w (AnsA w .u8 (abn (asubU s))) := by
  have Hat : Hid (∀ k, k < 16 → ∃ x : UInt8, (abn s)[k]? = some x.toNat ∧ (abn (asubU s))[k]? = some (gboxU x).toNat) := Lib.hid (fun k hk => by
    obtain ⟨x, h1, h2⟩ := asub_at gboxU (s := s) (k := k) (by omega)
    exact ⟨x, abn_get h1, abn_get h2⟩)
  have Hl : Hid ((abn s).length = 16) := Lib.hid (by rw [abn_length, hs])
  have HL : Hid ((abn (asubU s)).length = 16) := Lib.hid (by rw [abn_length, asubU, asubB_length, hs])
  clear hs
  revert Hat Hl HL
  generalize abn (asubU s) = L
  generalize abn s = l
  intro Hat Hl HL
  go_enter Try.func37, Try.ntmps37
  go_wp2_with (refine wp_box_arr (k := .u8) rfl 23 (.tmp 0) rfl l rfl ?_)
  intro w1 g1 G1 H1 Hb1 Hs1
  go_wp2_with (refine wp_alloc_arr (k := .u8) rfl 23 rfl 16 zero16 ?_)
  intro w2 g2 G2 H2 Hb2 Hs2
  have Hg : Hid (w.heap.size ≤ g1 ∧ w.heap.size ≤ g2 ∧ g1 ≠ g2) := Lib.hid (by have := G1.out; have := G2.out; have := Hs1.out; omega)
  have K1 : Hid (Arr w2 g1 23 .u8 l) := Lib.hid (H1.out.below Hb2.out H1.out.lt)
  have B2 : Hid (Below w.heap.size w w2) := Lib.hid (Hb1.out.trans (Hb2.out.mono Hb1.out.size))
  have K3 : Hid (Arr w2 g1 23 .u8 (L.take 0 ++ l.drop 0)) := Lib.hid K1.out
  clear H1 Hb1 Hb2 G1 G2 Hs1 Hs2
  go_wp2_with (refine wp_load_arr arr16 rfl (.tmp 1) rfl rfl K1.out Hl.out ?_)
  go_wp2
  go_loopw [6] (fun i wr => ∃ k : Nat, k ≤ 16 ∧ i = .int .i64 (k : Int) ∧ Hid (Arr wr g2 23 .u8 (Zs 16)) ∧ Hid (Arr wr g1 23 .u8 (L.take k ++ l.drop k)) ∧ Hid (Below w.heap.size w wr)) (fun i _ => 16 - (intOf i).toNat)
  case atStart => exact ⟨0, by omega, rfl, H2, K3, B2⟩
  case round =>
    clear K1 K3 B2 H2
    obtain ⟨k, hk, rfl, K2, K3, B3⟩ := hrel
    by_cases hlt : k < 16
    · obtain ⟨x, hx, hy⟩ := Hat.out k hlt
      have hix := fun w' => run_index_arr arr16 info_u8n Hl.out hx w'
      have hc := fun w' => gbox_any x w'
      have Hy : Hid (L[k]? = some (gboxU x).toNat) := Lib.hid hy
      clear hx hy
      generalize gboxU x = y at *
      go_wp2_with fail
      refine (hc _).mono ?_
      rintro e w4 ⟨rfl, hb4⟩
      have A1 : Hid (Arr w4 g1 23 .u8 (L.take k ++ l.drop k)) := Lib.hid (K3.out.below hb4 K3.out.lt)
      have A2 : Hid (Arr w4 g2 23 .u8 (Zs 16)) := Lib.hid (K2.out.below hb4 K2.out.lt)
      have A3 : Hid (Below w.heap.size w w4) := Lib.hid (abon B3.out hb4)
      have hout := A1.out.at_ (fill_get (L := L) (M := l) (i := k) (by rw [Hl.out]; exact hlt) (by rw [HL.out]; omega))
      have hfz := A1.out.frozen k
      clear hb4 K2 K3 B3
      go_wp2
      go_roundw
      case rel =>
        refine ⟨k + 1, by omega, by go_num, Lib.hid (A2.out.other Hg.out.2.2.symm), Lib.hid ?_, Lib.hid (A3.out.setCell Hg.out.1 _)⟩
        rw [← afill_step Hy.out (by rw [Hl.out]; exact hlt)]
        exact A1.out.set
      case measure => simp [intOf]; omega
    · have hk4 : k = 16 := by omega
      have Hr : Hid (Arr wr g1 23 .u8 L) := Lib.hid (by have h := K3.out; rw [hk4, fill_all HL.out Hl.out] at h; exact h)
      go_wp2_with (first
        | refine wp_load_arr arr16 rfl (.tmp 1) rfl rfl Hr.out HL.out ?_
        | refine wp_put_arr arr16 rfl (.tmp 2) (.tmp 15) rfl rfl (l' := L) rfl K2.out (Zs_length _) HL.out ?_)
      intro w5 H5 Hm5 Hs5
      go_wp2
      exact ret_arr arr16 rfl rfl H5.out HL.out rfl ⟨rfl, B3.out.trans (Hm5.out.below (fun j hj => by have := Hg.out; omega) B3.out.size)⟩

end Go.Proofs.Ytfkfkmdnffpcmaa
