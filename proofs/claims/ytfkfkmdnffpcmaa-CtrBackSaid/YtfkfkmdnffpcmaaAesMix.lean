import Derived.Test.YtfkfkmdnffpcmaaAesMem
import Derived.Test.YtfkfkmdnffpcmaaGfCol
namespace Go.Proofs.Ytfkfkmdnffpcmaa
open Go.RowKit

set_option maxHeartbeats 1600000 in
theorem amix_any (s : List UInt8) (w : World) (hs : s.length = 16) :
    Calls Try.prog 35 #[.agg (Nums .u8 (abn s))] w (AnsA w .u8 (abn (amixU s))) := by
  have Hat := Lib.hid (fun c (hc : c < 4) => amix_at hs hc)
  have Hl : Hid ((abn s).length = 16) := Lib.hid (by rw [abn_length, hs])
  have HL : Hid ((abn (amixU s)).length = 16) := Lib.hid (by rw [abn_length, amix_length hs])
  clear hs
  revert Hat Hl HL
  generalize abn (amixU s) = L
  generalize abn s = l
  intro Hat Hl HL
  go_enter Try.func35, Try.ntmps35
  go_wp2_with (refine wp_box_arr (k := .u8) rfl 23 (.tmp 0) rfl l rfl ?_)
  intro w1 g1 G1 H1 Hb1 Hs1
  go_wp2_with (refine wp_alloc_arr (k := .u8) rfl 23 rfl 16 zero16 ?_)
  intro w2 g2 G2 H2 Hb2 Hs2
  have Hg : Hid (w.heap.size ≤ g1 ∧ w.heap.size ≤ g2 ∧ g1 ≠ g2) := Lib.hid (by have := G1.out; have := G2.out; have := Hs1.out; omega)
  have K1 : Hid (Arr w2 g1 23 .u8 (L.take (4 * 0) ++ l.drop (4 * 0))) := Lib.hid (H1.out.below Hb2.out H1.out.lt)
  have B2 : Hid (Below w.heap.size w w2) := Lib.hid (Hb1.out.trans (Hb2.out.mono Hb1.out.size))
  clear H1 Hb1 Hb2 G1 G2 Hs1 Hs2
  go_wp2
  go_loopw [6] (fun i wr => ∃ c : Nat, c ≤ 4 ∧ i = .int .i64 (c : Int) ∧ Hid (Arr wr g2 23 .u8 (Zs 16)) ∧ Hid (Arr wr g1 23 .u8 (L.take (4 * c) ++ l.drop (4 * c))) ∧ Hid (Below w.heap.size w wr)) (fun i _ => 4 - (intOf i).toNat)
  case atStart => exact ⟨0, by omega, rfl, H2, K1, B2⟩
  case round =>
    clear K1 B2 H2
    obtain ⟨c, hc, rfl, K2, K1, B3⟩ := hrel
    by_cases hlt : c < 4
    · obtain ⟨p, q, r, t, hin, hout⟩ := Hat.out c hlt
      have Hin := Lib.hid hin
      have Hout := Lib.hid hout
      clear hin hout
      have hc' := fun w' => gcolumn_any p q r t w'
      have hsl := fun W => run_slice_arr (g := g1) arr16 info_u8n (4 * c) (4 * (c + 1)) (4 * (c : Int)) (4 * ((c : Int) + 1)) (by omega) (by omega) (by omega) (by omega) (by omega) W
      obtain ⟨o, ho⟩ : ∃ o, 4 * c = o := ⟨_, rfl⟩
      obtain ⟨m, hm⟩ : ∃ m, 16 - o = m := ⟨_, rfl⟩
      rw [ho, show 4 * (c + 1) - o = 4 by omega, hm] at hsl
      rw [ho] at K1 Hin Hout
      have Ho := Lib.hid ho
      clear ho hm
      have harr := fun W => run_arrayAt (P := Try.prog) arr4 (some ⟨g1, o, none⟩) 4 m (by omega) W
      have Ho16 : Hid (o + 4 ≤ 16) := Lib.hid (by have := Ho.out; omega)
      have Hcol : Hid (wr.rangeAt g1 o ((four p q r t).map fun (n : Nat) => Value.int .u8 (n : Int))) := Lib.hid (K1.out.range (fun j x hx => by
        have h16 := Ho16.out
        have hlen : (List.take o L).length = o := by rw [List.length_take, HL.out]; omega
        rw [List.getElem?_append_right (by omega), hlen, List.getElem?_drop, ← Hin.out j x hx]
        congr 1
        omega))
      go_wp2_with (first
        | refine wpList_load_mid rfl 51 (.tmp 16) rfl g1 o rfl _ _ Hcol.out arr4.under rfl rfl ?_
        | fail)
      refine (hc' _).mono ?_
      rintro e w4 ⟨rfl, hb4⟩
      have A1 : Hid (Arr w4 g1 23 .u8 (L.take o ++ l.drop o)) := Lib.hid (K1.out.below hb4 K1.out.lt)
      have A2 : Hid (Arr w4 g2 23 .u8 (Zs 16)) := Lib.hid (K2.out.below hb4 K2.out.lt)
      have A3 : Hid (Below w.heap.size w w4) := Lib.hid (abon B3.out hb4)
      clear hb4 K1 K2 B3 Hcol
      go_wp2_with (refine wp_alloc_arr (k := .u8) rfl 51 rfl 4 zero4 ?_)
      intro w5 g5 G5 H5 Hb5 Hs5
      go_wp2_with (refine wp_put_arr arr4 rfl (.tmp 5) (.tmp 18) rfl rfl (l' := gcolU p q r t) rfl H5.out (Zs_length _) rfl ?_)
      intro w6 H6 Hm6 Hs6
      have hne : Hid (g1 ≠ g5 ∧ g2 ≠ g5 ∧ w.heap.size ≤ g5) := Lib.hid (by have := G5.out; have := A1.out.lt; have := A2.out.lt; have := A3.out.size; omega)
      have C1 : Hid (Arr w6 g1 23 .u8 (L.take o ++ l.drop o)) := Lib.hid ((A1.out.below Hb5.out A1.out.lt).moves Hm6.out (fun h => hne.out.1 h))
      have C2 : Hid (Arr w6 g2 23 .u8 (Zs 16)) := Lib.hid ((A2.out.below Hb5.out A2.out.lt).moves Hm6.out (fun h => hne.out.2.1 h))
      have C3 : Hid (Below w.heap.size w w6) := Lib.hid ((abon A3.out Hb5.out).trans (Hm6.out.below (fun j hj => by rw [hj]; exact hne.out.2.2) (by have := A3.out.size; have := Hb5.out.size; omega)))
      clear A1 A2 A3 H5 Hb5 Hs5 Hm6 Hs6 G5
      go_wp2_with (refine wp_copy_arr (k := .u8) (g := g1) rfl (.tmp 19) (.tmp 20) 22 22 rfl 5 Try.underlying22 info_u8n o 4 m ⟨g5, 0, none⟩ 4 4 rfl rfl _ (gcolU p q r t) C1.out rfl (fun j x hx => by rw [add_flat, Nat.zero_add]; exact H6.out.at_ hx) (by have := Ho16.out; have h4 : (gcolU p q r t).length = 4 := rfl; rw [h4, List.length_append, List.length_take, List.length_drop, HL.out, Hl.out]; omega) ?_)
      intro w7 H7 Hm7 Hs7
      rw [afill_splice (L := L) (M := l) (ns := gcolU p q r t) (off := o) (by rw [HL.out, Hl.out]) (by have := Ho16.out; have h4 : (gcolU p q r t).length = 4 := rfl; rw [h4, Hl.out]; omega) Hout.out] at H7
      go_wp2
      go_roundw
      case rel =>
        refine ⟨c + 1, by omega, by go_num, Lib.hid (C2.out.moves Hm7.out (fun h => Hg.out.2.2 h.symm)), Lib.hid ?_, Lib.hid (C3.out.trans (Hm7.out.below (fun j hj => by rw [hj]; exact Hg.out.1) C3.out.size))⟩
        have h := H7.out
        have e4 : o + (gcolU p q r t).length = 4 * (c + 1) := by have := Ho.out; have h4 : (gcolU p q r t).length = 4 := rfl; omega
        rw [e4] at h
        exact h
      case measure => simp [intOf]; omega
    · have hk4 : c = 4 := by omega
      have Hr : Hid (Arr wr g1 23 .u8 L) := Lib.hid (by have h := K1.out; rw [hk4, fill_all HL.out Hl.out] at h; exact h)
      go_wp2_with (first
        | refine wp_load_arr arr16 rfl (.tmp 1) rfl rfl Hr.out HL.out ?_
        | refine wp_put_arr arr16 rfl (.tmp 2) (.tmp 23) rfl rfl (l' := L) rfl K2.out (Zs_length _) HL.out ?_)
      intro w5 H5 Hm5 Hs5
      go_wp2
      exact ret_arr arr16 rfl rfl H5.out HL.out rfl ⟨rfl, B3.out.trans (Hm5.out.below (fun j hj => by have := Hg.out; omega) B3.out.size)⟩

end Go.Proofs.Ytfkfkmdnffpcmaa
