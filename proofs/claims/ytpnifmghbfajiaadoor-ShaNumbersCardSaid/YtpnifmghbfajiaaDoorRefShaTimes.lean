import Derived.Test.YtpnifmghbfajiaaDoorRefShaAbove
namespace Go.Proofs.YtpnifmghbfajiaaDoor
open Go.RowKit

theorem zero5 : (Tryd.prog.info? 55).map (fun i => (i.zero, i.size)) = some (some (.agg (Nums .u64 (Zs 5))), 5) := by kernel_rfl

set_option maxHeartbeats 1600000 in
theorem rtimes_any (a : List Nat) (n : Nat) (w : World) (ha : a.length = 5) (hda : ∀ d ∈ a, d < 4294967296) (hn : n < 68719476736) :
    Calls Tryd.prog 35 #[.agg (Nums .u64 a), .int .u64 n] w (AnsA w .u64 (timesW a n)) := by
  obtain ⟨low, hlow⟩ : ∃ low, n % 65536 = low := ⟨_, rfl⟩
  obtain ⟨high, hhigh⟩ : ∃ high, n / 65536 = high := ⟨_, rfl⟩
  have hlow' : (n : Int) % 65536 = (low : Int) := by omega
  have hhigh' : (n : Int) / 65536 = (high : Int) := by omega
  have Hl : Hid (low < 65536) := Lib.hid (by omega)
  have Hh : Hid (high < 1048576) := Lib.hid (by omega)
  obtain ⟨L, hL⟩ : ∃ L, lowW low 0 a = L := ⟨_, rfl⟩
  have HT : Hid (timesW a n = highW high 0 0 a L) := Lib.hid (by subst hL hlow hhigh; rfl)
  have HL : Hid (L.drop 0 = lowW low 0 (a.drop 0)) := Lib.hid hL.symm
  have HLl : Hid (L.length = 5) := Lib.hid (by rw [← hL, lowW_length, ha])
  have HHl : Hid ((timesW a n).length = 5) := Lib.hid (by rw [timesW_length, ha])
  have HLd : Hid (∀ d ∈ L, d < 4294967296) := Lib.hid (by rw [← hL]; exact lowW_digit _ _ _)
  have Ha := Lib.hid ha
  clear hlow hhigh hL ha
  revert HT HHl
  generalize timesW a n = T
  intro HT HHl
  go_enter Tryd.func35, Tryd.ntmps35
  go_wp2_with (refine wp_box_arr (k := .u64) rfl 55 (.tmp 0) rfl a rfl ?_)
  intro w1 g1 G1 H1 Hb1 Hs1
  go_wp2_with (refine wp_alloc_arr (k := .u64) rfl 55 rfl 5 zero5 ?_)
  intro w2 g2 G2 H2 Hb2 Hs2
  go_wp2_with (refine wp_alloc_arr (k := .u64) rfl 55 rfl 5 zero5 ?_)
  intro w3 g3 G3 H3 Hb3 Hs3
  have H23 : Hid (g1 ≠ g3 ∧ g2 ≠ g3 ∧ g1 ≠ g2 ∧ w.heap.size ≤ g1 ∧ w.heap.size ≤ g2 ∧ w.heap.size ≤ g3) := Lib.hid (by have := G1.out; have := G2.out; have := G3.out; have := Hs1.out; have := Hs2.out; omega)
  have H13 : Hid (Arr w3 g1 55 .u64 a) := Lib.hid ((H1.out.below Hb2.out (by have := G1.out; have := Hs1.out; omega)).below Hb3.out (by have := G1.out; have := Hs1.out; have := Hs2.out; omega))
  have H2' : Hid (Arr w3 g2 55 .u64 (Zs 5)) := Lib.hid (H2.out.below Hb3.out (by have := G2.out; have := Hs2.out; omega))
  have Hb : Hid (Below w.heap.size w w3) := Lib.hid ((Hb1.out.trans (Hb2.out.mono (by have := Hs1.out; omega))).trans (Hb3.out.mono (by have := Hs1.out; have := Hs2.out; omega)))
  clear G1 G2 G3 H1 H2 Hb1 Hb2 Hb3 Hs1 Hs2 Hs3
  go_wp2
  go_loopw [8, 9] (fun c i wr => ∃ (j cy : Nat), j ≤ 5 ∧ i = .int .i64 (j : Int) ∧ c = .int .u64 (cy : Int) ∧ Hid (cy ≤ low) ∧ Hid (L.drop j = lowW low cy (a.drop j)) ∧ Hid (Arr wr g1 55 .u64 a) ∧ Hid (Arr wr g2 55 .u64 (Zs 5)) ∧
    Hid (Arr wr g3 55 .u64 (L.take j ++ (Zs 5).drop j)) ∧ Hid (Below w.heap.size w wr)) (fun _ i _ => 5 - (intOf i).toNat)
  case atStart => exact ⟨0, 0, by omega, rfl, rfl, Lib.hid (Nat.zero_le _), HL, H13, H2', H3, Hb⟩
  case round =>
    obtain ⟨j, cy, hj, rfl, rfl, Hcy, HLj, A1, A2, A3, Hbr⟩ := hrel
    by_cases hj5 : j < 5
    · have hja : j < a.length := by rw [Ha.out]; exact hj5
      have hc1 := A1.out.cell hja
      have hxd := hda _ (List.getElem_mem hja)
      have Hst : Hid (L.drop j = (a[j] * low + cy) % 4294967296 :: lowW low ((a[j] * low + cy) / 4294967296) (a.drop (j + 1))) := Lib.hid (HLj.out.trans (low_step low cy hja))
      revert hc1 hxd Hst
      generalize a[j] = x
      intro hc1 hxd Hst
      obtain ⟨p, hp⟩ : ∃ p, x * low = p := ⟨_, rfl⟩
      have hp' : (x : Int) * (low : Int) = (p : Int) := by rw [← hp]; push_cast; rfl
      rw [hp] at Hst
      have hpb : p ≤ 281470681677825 := by
        rw [← hp]
        exact Nat.le_trans (Nat.mul_le_mul (show x ≤ 4294967295 by omega) (show low ≤ 65535 by have := Hl.out; omega)) (by decide)
      have hcb : cy ≤ 65535 := by have := Hcy.out; have := Hl.out; omega
      have hjL : j < L.length := by rw [HLl.out]; exact hj5
      have hjZ : j < (Zs 5).length := by rw [Zs_length]; exact hj5
      have HLe : Hid (L[j] = (p + cy) % 4294967296 ∧ L.drop (j + 1) = lowW low ((p + cy) / 4294967296) (a.drop (j + 1))) := Lib.hid (by
        have h := Hst.out
        rw [List.drop_eq_getElem_cons hjL] at h
        exact List.cons.inj h)
      have Hle : Hid ((p + cy) / 4294967296 ≤ low) := Lib.hid (by rw [← hp]; exact carry_le hxd Hcy.out)
      clear hp
      have A3' : Hid (Arr (wr.setCell ⟨g3, j, none⟩ (.int .u64 (((p : Int) + cy) % 4294967296))) g3 55 .u64 (L.take (j + 1) ++ (Zs 5).drop (j + 1))) := Lib.hid (by
        rw [← fill_set hjL hjZ]
        exact A3.out.put (by rw [HLe.out.1]; omega))
      have A1' : Hid (Arr (wr.setCell ⟨g3, j, none⟩ (.int .u64 (((p : Int) + cy) % 4294967296))) g1 55 .u64 a) := Lib.hid (A1.out.other H23.out.1)
      have A2' : Hid (Arr (wr.setCell ⟨g3, j, none⟩ (.int .u64 (((p : Int) + cy) % 4294967296))) g2 55 .u64 (Zs 5)) := Lib.hid (A2.out.other H23.out.2.1)
      have Hb' : Hid (Below w.heap.size w (wr.setCell ⟨g3, j, none⟩ (.int .u64 (((p : Int) + cy) % 4294967296)))) := Lib.hid (Hbr.out.setCell H23.out.2.2.2.2.2 _)
      have hc3 := A3.out.at_ (fill_get hjZ (Nat.le_of_lt hjL))
      have hf3 := A3.out.frozen j
      revert hc3
      generalize (Zs 5)[j] = z0
      intro hc3
      go_wp2
      go_roundw
      case rel => exact ⟨j + 1, (p + cy) / 4294967296, by omega, by go_num, congrArg (Value.int .u64) (by omega), Hle, Lib.hid HLe.out.2, A1', A2', A3', Hb'⟩
      case measure => simp [intOf]; omega
    · obtain rfl : j = 5 := by omega
      have A3' : Hid (Arr wr g3 55 .u64 (T.take 0 ++ L.drop 0)) := Lib.hid (by have h := A3.out; rwa [fill_all HLl.out (Zs_length 5)] at h)
      go_wp2
      go_loopw [8, 11, 12] (fun c s i wr => ∃ (j cy sh : Nat), j ≤ 5 ∧ i = .int .i64 (j : Int) ∧ c = .int .u64 (cy : Int) ∧ s = .int .u64 (sh : Int) ∧ Hid (cy ≤ high) ∧ sh ≤ 65536 ∧ Hid (T.drop j = highW high cy sh (a.drop j) (L.drop j)) ∧ Hid (Arr wr g1 55 .u64 a) ∧ Hid (Arr wr g2 55 .u64 (Zs 5)) ∧
        Hid (Arr wr g3 55 .u64 (T.take j ++ L.drop j)) ∧ Hid (Below w.heap.size w wr)) (fun _ _ i _ => 5 - (intOf i).toNat)
      case atStart => exact ⟨0, 0, 0, by omega, rfl, rfl, rfl, Lib.hid (Nat.zero_le _), by omega, HT, A1, A2, A3', Hbr⟩
      case round =>
        clear A1 A2 A3 A3' Hbr HLj
        obtain ⟨j, cy, sh, hj, rfl, rfl, rfl, Hcy, hsh, HTj, A1, A2, A3, Hbr⟩ := hrel
        by_cases hj5 : j < 5
        · have hja : j < a.length := by rw [Ha.out]; exact hj5
          have hjL : j < L.length := by rw [HLl.out]; exact hj5
          have hjT : j < T.length := by rw [HHl.out]; exact hj5
          have hc1 := A1.out.cell hja
          have hc3 := A3.out.at_ (fill_get hjL (Nat.le_of_lt hjT))
          have hxd := hda _ (List.getElem_mem hja)
          have hod := HLd.out _ (List.getElem_mem hjL)
          have Hst : Hid (T.drop j = ((a[j] * high + cy) % 4294967296 * 65536 + sh + L[j]) % 4294967296 :: highW high ((a[j] * high + cy) / 4294967296) (((a[j] * high + cy) % 4294967296 * 65536 + sh + L[j]) / 4294967296) (a.drop (j + 1)) (L.drop (j + 1))) := Lib.hid (HTj.out.trans (high_next high cy sh hja hjL))
          have Hset : Hid ((T.take j ++ L.drop j).set j T[j] = T.take (j + 1) ++ L.drop (j + 1)) := Lib.hid (fill_set hjT hjL)
          revert hc1 hxd Hst hc3 hod
          generalize a[j] = x
          generalize L[j] = o
          intro hc1 hc3 hxd hod Hst
          obtain ⟨p, hp⟩ : ∃ p, x * high = p := ⟨_, rfl⟩
          have hp' : (x : Int) * (high : Int) = (p : Int) := by rw [← hp]; push_cast; rfl
          rw [hp] at Hst
          have hpb : p ≤ 4503595332403200 := by
            rw [← hp]
            exact Nat.le_trans (Nat.mul_le_mul (show x ≤ 4294967295 by omega) (show high ≤ 1048575 by have := Hh.out; omega)) (by decide)
          have hcb : cy ≤ 1048575 := by have := Hcy.out; have := Hh.out; omega
          have Hle : Hid ((p + cy) / 4294967296 ≤ high) := Lib.hid (by rw [← hp]; exact carry_le hxd Hcy.out)
          clear hp
          have hf3 := A3.out.frozen j
          have HTe : Hid (T[j] = ((p + cy) % 4294967296 * 65536 + sh + o) % 4294967296 ∧ T.drop (j + 1) = highW high ((p + cy) / 4294967296) (((p + cy) % 4294967296 * 65536 + sh + o) / 4294967296) (a.drop (j + 1)) (L.drop (j + 1))) := Lib.hid (by
            have h := Hst.out
            rw [List.drop_eq_getElem_cons hjT] at h
            exact List.cons.inj h)
          have A3' : Hid (Arr (wr.setCell ⟨g3, j, none⟩ (.int .u64 ((((p : Int) + cy) % 4294967296 * 65536 + sh + o) % 4294967296))) g3 55 .u64 (T.take (j + 1) ++ L.drop (j + 1))) := Lib.hid (by
            rw [← Hset.out]
            exact A3.out.put (by rw [HTe.out.1]; omega))
          have A1' : Hid (Arr (wr.setCell ⟨g3, j, none⟩ (.int .u64 ((((p : Int) + cy) % 4294967296 * 65536 + sh + o) % 4294967296))) g1 55 .u64 a) := Lib.hid (A1.out.other H23.out.1)
          have A2' : Hid (Arr (wr.setCell ⟨g3, j, none⟩ (.int .u64 ((((p : Int) + cy) % 4294967296 * 65536 + sh + o) % 4294967296))) g2 55 .u64 (Zs 5)) := Lib.hid (A2.out.other H23.out.2.1)
          have Hb' : Hid (Below w.heap.size w (wr.setCell ⟨g3, j, none⟩ (.int .u64 ((((p : Int) + cy) % 4294967296 * 65536 + sh + o) % 4294967296)))) := Lib.hid (Hbr.out.setCell H23.out.2.2.2.2.2 _)
          go_wp2
          go_roundw
          case rel => exact ⟨j + 1, (p + cy) / 4294967296, ((p + cy) % 4294967296 * 65536 + sh + o) / 4294967296, by omega, by go_num, congrArg (Value.int .u64) (by omega), congrArg (Value.int .u64) (by omega), Hle, shift_le hsh hod, Lib.hid HTe.out.2, A1', A2', A3', Hb'⟩
          case measure => simp [intOf]; omega
        · obtain rfl : j = 5 := by omega
          have A3' : Hid (Arr wr g3 55 .u64 T) := Lib.hid (by have h := A3.out; rwa [fill_all HHl.out HLl.out] at h)
          go_wp2_with (first
            | refine wp_load_arr arr5 rfl (.tmp 5) rfl rfl A3'.out HHl.out ?_
            | refine wp_put_arr arr5 rfl (.tmp 4) (.tmp 64) rfl rfl (l' := T) rfl A2.out (Zs_length _) HHl.out ?_)
          intro w4 A4 Hm4 Hs4
          go_wp2
          exact ret_arr arr5 rfl rfl A4.out HHl.out rfl ⟨rfl, Hbr.out.trans (Hm4.out.below (fun k hk => by have := H23.out; omega) Hbr.out.size)⟩

end Go.Proofs.YtpnifmghbfajiaaDoor
