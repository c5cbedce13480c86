import Derived.Test.YtpaekofdmfhchaaGfCol
namespace Go.Proofs.Ytpaekofdmfhchaa
open Go.RowKit

set_option maxHeartbeats 3200000 in
theorem rgcolumn_any (a b c d : UInt8) (w : World) :
    Calls Try.prog 18 #[.agg (Nums .u8 (four a b c d))] w (AnsA w .u8 (gcolU a b c d)) := by
  have Hat := Lib.hid (gcol_at a b c d)
  have HL : Hid ((gcolU a b c d).length = 4) := Lib.hid rfl
  revert Hat HL
  generalize four a b c d = l
  generalize gcolU a b c d = L
  intro Hat HL
  go_enter Try.func18, Try.ntmps18
  go_wp2_with (refine wp_box_arr (k := .u8) rfl 27 (.tmp 0) rfl l rfl ?_)
  intro w1 g1 G1 H1 Hb1 Hs1
  go_wp2_with (refine wp_alloc_arr (k := .u8) rfl 27 rfl 4 zero4 ?_)
  intro w2 g2 G2 H2 Hb2 Hs2
  go_wp2_with (refine wp_alloc_arr (k := .u8) rfl 27 rfl 4 zero4 ?_)
  intro w3 g3 G3 H3 Hb3 Hs3
  have Hg : Hid (w.heap.size ≤ g1 ∧ w.heap.size ≤ g2 ∧ w.heap.size ≤ g3 ∧ g1 ≠ g3 ∧ g2 ≠ g3 ∧ g1 ≠ g2) := Lib.hid (by have := G1.out; have := G2.out; have := G3.out; have := Hs1.out; have := Hs2.out; omega)
  have K1 : Hid (Arr w3 g1 27 .u8 l) := Lib.hid ((H1.out.below Hb2.out H1.out.lt).below Hb3.out (Nat.lt_of_lt_of_le H1.out.lt Hb2.out.size))
  have K2 : Hid (Arr w3 g2 27 .u8 (Zs 4)) := Lib.hid (H2.out.below Hb3.out H2.out.lt)
  have B3 : Hid (Below w.heap.size w w3) := Lib.hid ((Hb1.out.trans (Hb2.out.mono Hb1.out.size)).trans (Hb3.out.mono (Nat.le_trans Hb1.out.size Hb2.out.size)))
  have K3 : Hid (Arr w3 g3 27 .u8 (L.take 0 ++ (Zs 4).drop 0)) := Lib.hid H3.out
  clear H1 H2 H3 Hb1 Hb2 Hb3 G1 G2 G3 Hs1 Hs2 Hs3
  go_wp2
  go_loopw [4] (fun i wr => ∃ k : Nat, k ≤ 4 ∧ i = .int .i64 (k : Int) ∧ Hid (Arr wr g1 27 .u8 l) ∧ Hid (Arr wr g2 27 .u8 (Zs 4)) ∧ Hid (Arr wr g3 27 .u8 (L.take k ++ (Zs 4).drop k)) ∧ Hid (Below w.heap.size w wr)) (fun i _ => 4 - (intOf i).toNat)
  case atStart => exact ⟨0, by omega, rfl, K1, K2, K3, B3⟩
  case round =>
    clear K1 K2 K3 B3
    obtain ⟨k, hk, rfl, K1, K2, K3, B3⟩ := hrel
    by_cases hlt : k < 4
    · obtain ⟨p, q, r, s, hp, hq, hr, hs, hm⟩ := Hat.out k hlt
      rw [Nat.mod_eq_of_lt hlt] at hp
      obtain ⟨j1, hj1⟩ : ∃ j, (k + 1) % 4 = j := ⟨_, rfl⟩
      obtain ⟨j2, hj2⟩ : ∃ j, (k + 2) % 4 = j := ⟨_, rfl⟩
      obtain ⟨j3, hj3⟩ : ∃ j, (k + 3) % 4 = j := ⟨_, rfl⟩
      rw [hj1] at hq
      rw [hj2] at hr
      rw [hj3] at hs
      have d0 := K1.out.at_ hp
      have d1 := K1.out.at_ hq
      have d2 := K1.out.at_ hr
      have d3 := K1.out.at_ hs
      have i1 : ((k : Int) + 1) % 4 = (j1 : Int) := by omega
      have i2 : ((k : Int) + 2) % 4 = (j2 : Int) := by omega
      have i3 : ((k : Int) + 3) % 4 = (j3 : Int) := by omega
      have b1 : j1 < 4 := by omega
      have b2 : j2 < 4 := by omega
      have b3 : j3 < 4 := by omega
      have b1' : (j1 : Int) < 4 := by omega
      have b2' : (j2 : Int) < 4 := by omega
      have b3' : (j3 : Int) < 4 := by omega
      have b0' : (k : Int) < 4 := by omega
      clear hj1 hj2 hj3
      have m2 : ((k : Int) + 2).tmod 4 = (j2 : Int) := by rw [Int.tmod_eq_emod_of_nonneg (by omega)]; exact i2
      have m3 : ((k : Int) + 3).tmod 4 = (j3 : Int) := by rw [Int.tmod_eq_emod_of_nonneg (by omega)]; exact i3
      have w1' : IntKind.i64.wrap ((k : Int) + 1) = (k : Int) + 1 := IntWalk.i64_in _ ⟨by omega, by omega⟩
      have w2' : IntKind.i64.wrap ((k : Int) + 2) = (k : Int) + 2 := IntWalk.i64_in _ ⟨by omega, by omega⟩
      have w3' : IntKind.i64.wrap ((k : Int) + 3) = (k : Int) + 3 := IntWalk.i64_in _ ⟨by omega, by omega⟩
      have t0 := fun w => rgtwice_any p w
      have t1 := fun w => rgtwice_any q w
      have x1 := gxor_u8 (gtwiceU p) q
      have x2 := gxor_u8 (gtwiceU p ^^^ q) (gtwiceU q)
      have x3 := gxor_u8 (gtwiceU p ^^^ q ^^^ gtwiceU q) r
      have x4 := gxor_u8 (gtwiceU p ^^^ q ^^^ gtwiceU q ^^^ r) s
      have Hm : Hid (L[k]? = some (gtwiceU p ^^^ q ^^^ gtwiceU q ^^^ r ^^^ s).toNat) := Lib.hid hm
      have hout := K3.out.at_ (fill_get (L := L) (M := Zs 4) (i := k) (by rw [Zs_length]; exact hlt) (by rw [HL.out]; omega))
      have hfz := K3.out.frozen k
      clear hp hq hr hs hm
      generalize gtwiceU p ^^^ q ^^^ gtwiceU q ^^^ r ^^^ s = y4 at *
      generalize gtwiceU p ^^^ q ^^^ gtwiceU q ^^^ r = y3 at *
      generalize gtwiceU p ^^^ q ^^^ gtwiceU q = y2 at *
      generalize gtwiceU p ^^^ q = y1 at *
      generalize gtwiceU p = tp at *
      generalize gtwiceU q = tq at *
      go_wp2
      go_still_tail 23, (by kernel_rfl)
      still_call (t0 _)
      repeat still_step
      still_call (t1 _)
      repeat still_step
      refine wpStill_nil ?_
      change wpList _ _ _ _ _ wr.drew
      go_wp2
      go_roundw
      case rel =>
        obtain ⟨hk2, hy⟩ := List.getElem?_eq_some_iff.1 Hm.out
        have e4 : (L.take k ++ (Zs 4).drop k).set k y4.toNat = L.take (k + 1) ++ (Zs 4).drop (k + 1) := by rw [← hy]; exact afill_set hk2 (by rw [Zs_length]; exact hlt)
        have hne : g1 ≠ g3 ∧ g2 ≠ g3 ∧ w.heap.size ≤ g3 := ⟨Hg.out.2.2.2.1, Hg.out.2.2.2.2.1, Hg.out.2.2.1⟩
        refine ⟨k + 1, by omega, by go_num, Lib.hid (K1.out.other hne.1), Lib.hid (K2.out.other hne.2.1), Lib.hid ?_, Lib.hid (B3.out.setCell (p := ⟨g3, k, none⟩) hne.2.2 _).drew⟩
        rw [← e4]
        exact K3.out.set
      case measure => simp [intOf]; omega
    · have hk4 : k = 4 := by omega
      have Hr : Hid (Arr wr g3 27 .u8 L) := Lib.hid (by have h := K3.out; rw [hk4, fill_all HL.out (Zs_length 4)] at h; exact h)
      go_wp2_with (first
        | refine wp_load_arr arr4 rfl (.tmp 3) rfl rfl Hr.out HL.out ?_
        | refine wp_put_arr arr4 rfl (.tmp 2) (.tmp 38) rfl rfl (l' := L) rfl K2.out (Zs_length _) HL.out ?_)
      intro w5 H5 Hm5 Hs5
      go_wp2
      exact ret_arr arr4 rfl rfl H5.out HL.out rfl ⟨rfl, B3.out.trans (Hm5.out.below (fun j hj => by have := Hg.out; omega) B3.out.size)⟩

end Go.Proofs.Ytpaekofdmfhchaa
