import Derived.Test.YtpnifmghbfajiaaDoorRefShaWith
import Derived.Test.YtpnifmghbfajiaaDoorRefShaPad
import Derived.Test.YtpnifmghbfajiaaDoorRefJoin
import Derived.Test.YtpnifmghbfajiaaDoorRefPut
import Derived.Test.YtpnifmghbfajiaaDoorShaFirst
namespace Go.Proofs.YtpnifmghbfajiaaDoor
open Go.RowKit

theorem outU_get {l : List Nat} {j : Nat} (h : j < l.length) : outU (l.take (j + 1)) = outU (l.take j) ++ putL l[j] 4 := by
  rw [List.take_add_one, List.getElem?_eq_getElem h]
  exact outU_snoc _ _
theorem outU_len (l : List Nat) : (outU l).length = 4 * l.length := flat_length l

set_option maxRecDepth 100000 in
set_option maxHeartbeats 4000000 in
theorem rsum_any (B n c : Nat) (A : Option Addr) (xs : List UInt8) (w : World) (hx : Rd w B A n (Byt xs)) (hok : SlOK A n c) (hn : n ≤ 1099511627776) (hB : B ≤ w.heap.size) :
    Calls Tryd.prog 22 #[.slice A n c] w (NewB 5 w (sumU xs)) := by
  have hxl := hx.bytes
  have hpad := fun w' => rpad07_in n w' hn
  have Hjoin := Lib.hid (fun w' (hb : Below w.heap.size w w') m d D ys (hy : Rd w' w'.heap.size D m (Byt ys)) (hyo : SlOK D m d) (hm : n + m ≤ 8796093022208) => rjoin_any w'.heap.size n c m d A D xs ys w' ((hx.below (hb.mono hB)).wider (Nat.le_trans hB hb.size)) hy hok hyo (Nat.le_refl _) hm)
  have Hs : Hid (sumU xs = outU (blocksU hsU (xs ++ padU n))) := Lib.hid (by unfold sumU; rw [hxl])
  have hpl : (padU n).length ≤ 72 := by rw [padU_length]; have := (zerosU_ok n).2; omega
  have Hxl := Lib.hid hxl; clear hxl
  have H8 : Hid (Eight hsU) := Lib.hid hs_eight
  have htab := rtable_any
  have hwith := rwith_any
  rw [Hs.out]
  revert hpad hpl
  generalize hp : padU n = pd
  intro hpad hpl
  clear hp Hs
  go_enter Tryd.func22, Tryd.ntmps22
  go_wp2_with fail
  refine (htab _).mono ?_
  rintro e w1 ⟨rfl, hb1⟩
  have HKl : Hid (ksU.length = 64) := Lib.hid rfl
  revert hwith HKl
  generalize ksU = K
  intro hwith HKl
  clear htab
  have Hwith := Lib.hid hwith; clear hwith
  go_wp2_with (refine wp_alloc_arr (k := .u32) rfl 26 rfl 64 zero64 ?_)
  intro w2 g1 G1 H1 Hb2 Hs2
  go_wp2_with (refine wp_put_arr arr64 rfl (.tmp 3) (.tmp 9) rfl rfl (l' := K) rfl H1.out (Zs_length _) HKl.out ?_)
  intro w3 H3 Hm3 Hs3
  have hs1 := hb1.size
  have B3 : Hid (Below w.heap.size w w3) := Lib.hid ((hb1.trans (Hb2.out.mono hs1)).trans (Hm3.out.below (fun k hk => by have := G1.out; omega) (Nat.le_trans hs1 Hb2.out.size)))
  go_wp2_with (first
    | refine wp_build_arr rfl 24 _ rfl .u32 hsU (by kernel_rfl) ?_
    | refine wp_alloc_arr (k := .u32) rfl 24 rfl 8 zero8 ?_)
  intro w4 g2 G2 H4 Hb4 Hs4
  go_wp2_with (refine wp_put_arr arr8 rfl (.tmp 4) (.tmp 10) rfl rfl (l' := hsU) rfl H4.out (Zs_length _) rfl ?_)
  intro w5 H5 Hm5 Hs5
  have Hg : Hid (w.heap.size ≤ g1 ∧ w.heap.size ≤ g2 ∧ g1 ≠ g2 ∧ g1 < w5.heap.size ∧ g2 < w5.heap.size ∧ w.heap.size ≤ w5.heap.size) := Lib.hid (by have := G1.out; have := G2.out; have := Hs2.out; have := Hs3.out; have := Hs4.out; have := Hs5.out; omega)
  have H3' : Hid (Arr w5 g1 26 .u32 K) := Lib.hid ((H3.out.below Hb4.out H3.out.lt).moves Hm5.out Hg.out.2.2.1)
  have B5 : Hid (Below w.heap.size w w5) := Lib.hid ((B3.out.trans (Hb4.out.mono B3.out.size)).trans (Hm5.out.below (fun k hk => by have := Hg.out; omega) (Nat.le_trans B3.out.size Hb4.out.size)))
  clear hb1 hs1 H1 Hb2 Hs2 Hm3 Hs3 H3 B3 H4 Hb4 Hs4 Hm5 Hs5 G1 G2
  go_wp2_with fail
  refine (hpad _).mono ?_
  rintro e w6 ⟨A6, c6, rfl, hown6, hb6⟩
  have B6 : Hid (Below w.heap.size w w6) := Lib.hid (B5.out.trans (hb6.mono B5.out.size))
  have hj := Hjoin.out w6 B6.out pd.length c6 A6 pd (Rd.of_own hown6) (SlOK.of_own hown6) (by omega)
  have H3'' : Hid (Arr w6 g1 26 .u32 K) := Lib.hid (H3'.out.below hb6 H3'.out.lt)
  have H5'' : Hid (Arr w6 g2 24 .u32 hsU) := Lib.hid (H5.out.below hb6 H5.out.lt)
  clear hown6 hb6 Hjoin
  go_wp2_with fail
  refine hj.mono ?_
  rintro e w7 ⟨A7, c7, rfl, hown7, hb7⟩
  have B7 : Hid (Below w.heap.size w w7) := Lib.hid (B6.out.trans (hb7.mono B6.out.size))
  have N1 : Hid (Arr w7 g1 26 .u32 K) := Lib.hid (H3''.out.below hb7 H3''.out.lt)
  have N2 : Hid (Arr w7 g2 24 .u32 hsU) := Lib.hid (H5''.out.below hb7 H5''.out.lt)
  have hown7b := own_base hown7 B6.out.size
  have Hlen : Hid ((xs ++ pd).length ≤ n + 72) := Lib.hid (by rw [List.length_append, Hxl.out]; omega)
  obtain ⟨A7', c7', e7, hnc7, hcm7⟩ := own_form hown7b
  injection e7 with e1 e2 e3
  subst e1 e3
  have Ho7 : Hid (w7.ownsRow w6.heap.size 5 1 (.slice A7 (xs ++ pd).length c7) (xs ++ pd).length (Byt (xs ++ pd))) := Lib.hid hown7
  have Hg6 : Hid (g1 < w6.heap.size ∧ g2 < w6.heap.size) := Lib.hid ⟨H3''.out.lt, H5''.out.lt⟩
  clear hown7 hown7b e2 hb7 H3'' H5'' B6 H3' H5 B5 hj
  obtain ⟨fin, hfin⟩ : ∃ fin, blocksU hsU (xs ++ pd) = fin := ⟨_, rfl⟩
  have HR : Hid (fin = blocksU hsU ((xs ++ pd).drop 0)) := Lib.hid (by rw [← hfin]; rfl)
  have Hfin := Lib.hid hfin; clear hfin
  revert Ho7 hnc7 Hlen HR
  generalize xs ++ pd = M
  intro Hlen hnc7 Ho7 HR
  obtain ⟨N, hN⟩ : ∃ N, M.length = N := ⟨_, rfl⟩
  rw [hN] at Hlen hnc7 Ho7 ⊢
  have HN := Lib.hid hN; clear hN
  have hNb : N ≤ 1099511627848 := by have := Hlen.out; omega
  clear Hlen
  revert N2 H8 HR
  generalize hsU = h0
  intro H8 N2 HR
  go_wp2
  go_loopw [6] (fun i wr => ∃ (p : Nat) (v : List Nat), p ≤ N ∧ i = .int .i64 (p : Int) ∧ Hid (Eight v) ∧ Hid (fin = blocksU v (M.drop p)) ∧ Hid (Arr wr g1 26 .u32 K) ∧ Hid (Arr wr g2 24 .u32 v) ∧
    Hid (wr.ownsRow w6.heap.size 5 1 (.slice A7 N c7) N (Byt M)) ∧ Hid (Below w.heap.size w wr)) (fun i _ => N - (intOf i).toNat)
  case atStart => exact ⟨0, h0, Nat.zero_le _, rfl, H8, HR, N1, N2, Ho7, B7⟩
  case round =>
    clear N1 N2 Ho7 B7 HR
    obtain ⟨p, v, hp, rfl, Hv, Hf, A1, A2, Ho, Hbr⟩ := hrel
    by_cases hp64 : p + 64 ≤ N
    · obtain ⟨g7, rfl, hg7, hg7s⟩ := own_some Ho.out (by omega)
      have hpart := (Rd.of_own Ho.out).part (p := p) (q := 64) (by omega)
      rw [← Byt_drop, ← Byt_take, Nat.zero_add] at hpart
      have Hpart := Lib.hid hpart; clear hpart
      have Hstep : Hid (fin = blocksU (blockU v ((M.drop p).take 64)) (M.drop (p + 64))) := Lib.hid (by
        rw [Hf.out, blocksU_step (by rw [List.length_drop, HN.out]; omega), List.drop_drop])
      have Hv2 : Hid (Eight (blockU v ((M.drop p).take 64))) := Lib.hid (blockU_eight _ Hv.out)
      have hcall := fun w' (hw : w'.heap = wr.heap) => Hwith.out wr.heap.size 64 (c7 - p) (some ⟨g7, p, none⟩) ((M.drop p).take 64) v w' Hv.out (Hpart.out.keep fun q _ => by simp only [World.cell?, hw]) (by omega) (by omega) (by rw [hw]; exact Nat.le_refl _)
      revert Hstep Hv2 hcall
      generalize hv2 : blockU v ((M.drop p).take 64) = v2
      intro Hstep Hv2 hcall
      have q1 : IntKind.i64.wrap ((p : Int) + 64) = (p : Int) + 64 := IntWalk.i64_in _ ⟨by omega, by omega⟩
      have q2 : ((p : Int) + 64).toNat - p = 64 := by omega
      have q3 : (p : Int) ≤ (p : Int) + 64 := by omega
      have q4 : (p : Int) + 64 ≤ (N : Int) := by omega
      have q5 : (p : Int) + 64 ≤ (c7 : Int) := by omega
      have q6 : (0 : Int) ≤ (p : Int) + 64 := by omega
      have q7 : ((p : Int) + 64).toNat ≤ c7 := by omega
      go_wp2_with fail
      refine wp_region_still_tail 7 (by kernel_rfl) (by kernel_rfl) ?_
      simp only [List.take_succ_cons, List.take_zero, List.drop_succ_cons, List.drop_zero]
      refine still_load_arr arr64 rfl (.tmp 3) rfl rfl (A1.out.heap rfl) HKl.out ?_
      refine still_load_arr arr8 rfl (.tmp 4) rfl rfl (A2.out.heap rfl) Hv.out.1 ?_
      repeat still_step
      try refine wpStill_nil ?_
      change wpList _ _ _ _ _ wr.drew
      go_wp2_with fail
      refine (hcall wr.drew rfl).mono ?_
      rintro e w8 ⟨rfl, hb8⟩
      have hb8' : Below wr.heap.size wr w8 := ⟨hb8.os, hb8.tape, hb8.output, hb8.size, hb8.block⟩
      have A1' : Hid (Arr w8 g1 26 .u32 K) := Lib.hid (A1.out.below hb8' A1.out.lt)
      have A2' : Hid (Arr w8 g2 24 .u32 v) := Lib.hid (A2.out.below hb8' A2.out.lt)
      have Ho8 : Hid (w8.ownsRow w6.heap.size 5 1 (.slice (some ⟨g7, 0, none⟩) N c7) N (Byt M)) := Lib.hid (own_below Ho.out hb8' (Nat.le_refl _))
      have Hb8 : Hid (Below w.heap.size w w8) := Lib.hid (Hbr.out.trans (hb8'.mono Hbr.out.size))
      clear hb8 hb8'
      go_wp2_with (refine wp_put_arr arr8 rfl (.tmp 4) (.tmp 30) rfl rfl (l' := v2) rfl A2'.out Hv.out.1 Hv2.out.1 ?_)
      intro w9 P2 Hm9 Hs9
      have hg12 : g1 ≠ g2 ∧ g2 < w6.heap.size ∧ w.heap.size ≤ g2 := by have := Hg.out; have := Hg6.out; omega
      have P1 : Hid (Arr w9 g1 26 .u32 K) := Lib.hid (A1'.out.moves Hm9.out hg12.1)
      have Po : Hid (w9.ownsRow w6.heap.size 5 1 (.slice (some ⟨g7, 0, none⟩) N c7) N (Byt M)) := Lib.hid (own_moves Ho8.out Hm9.out (fun k hk => by simp [Value.ownBlock] at hk; omega))
      have PB : Hid (Below w.heap.size w w9) := Lib.hid (Hb8.out.trans (Hm9.out.below (fun k hk => by omega) Hb8.out.size))
      clear hg12 A1' A2' Ho8 Hb8 Hm9 Hs9
      go_wp2
      go_roundw
      case rel => exact ⟨p + 64, v2, by omega, by go_num, Hv2, Hstep, P1, P2, Po, PB⟩
      case measure => simp [intOf]; omega
    · have Hend : Hid (fin = v) := Lib.hid (by rw [Hf.out, blocksU_none (by rw [List.length_drop, HN.out]; omega)])
      have Hvl : Hid (v.length = 8) := Lib.hid Hv.out.1
      have Hvb : Hid (∀ x ∈ v, x < 4294967296) := Lib.hid Hv.out.2
      have Hout : Hid (outU (blocksU hsU (xs ++ pd)) = outU v) := Lib.hid (by rw [Hfin.out, Hend.out])
      clear Hf Hv Hend HN Ho A1
      go_wp2
      go_loopw [7, 8] (fun s i wr => ∃ (j c9 : Nat) (A9 : Option Addr), j ≤ 8 ∧ i = .int .i64 (j : Int) ∧ s = .slice A9 (4 * j) c9 ∧ Hid (Arr wr g2 24 .u32 v) ∧
        Hid (wr.ownsRow (g2 + 1) 5 1 (.slice A9 (4 * j) c9) (4 * j) (Byt (outU (v.take j)))) ∧ Hid (Below w.heap.size w wr)) (fun _ i _ => 8 - (intOf i).toNat)
      case atStart => exact ⟨0, 0, none, by omega, rfl, rfl, A2, Lib.hid (World.ownsRow_nil _ _ _ _), Hbr⟩
      case round =>
        clear A2 Hbr
        obtain ⟨j, c9, A9, hj, rfl, rfl, A2, Ho, Hbr⟩ := hrel
        by_cases hj8 : j < 8
        · have hjv : j < v.length := by rw [Hvl.out]; exact hj8
          have hcell := A2.out.cell hjv
          have hxb := Hvb.out _ (List.getElem_mem hjv)
          have Hsnoc : Hid (outU (v.take (j + 1)) = outU (v.take j) ++ putL v[j] 4) := Lib.hid (outU_get hjv)
          have hput := fun w' => rput_any v[j] 4 w' (by omega)
          rw [show putR v[j] 4 = putL v[j] 4 from rfl] at hput
          have Hpl4 : Hid ((putL v[j] 4).length = 4) := Lib.hid (putL_length _ _)
          revert hput Hpl4 Hsnoc hcell hxb
          generalize putL v[j] 4 = L
          generalize v[j] = x
          intro hcell hxb Hsnoc hput Hpl4
          go_wp2_with fail
          refine (hput _).mono ?_
          rintro e w10 ⟨A10, c10, rfl, hown10, hb10⟩
          have hown2 := own_below Ho.out hb10 (Nat.le_refl _)
          have hl4 : L.length ≤ 4 := by rw [Hpl4.out]; omega
          have A2a : Hid (Arr w10 g2 24 .u32 v) := Lib.hid (A2.out.below hb10 A2.out.lt)
          have hsz10 : g2 + 1 ≤ w10.heap.size := A2a.out.lt
          have hszw : w.heap.size ≤ g2 := Hg.out.2.1
          go_wp2_with (refine wp_append_foot rfl _ _ 30 rfl 5 Tryd.underlying30 (.int .u8 0) 1 (by omega) rfl Tryd.info_u8 (g2 + 1) (4 * j) c9 A9 _ rfl hown2 w10.heap.size L.length c10 A10 _ rfl (Rd.of_own hown10) (SlOK.of_own hown10) (Byt_one _) (by omega) hsz10 ?_)
          intro A11 c11 w11 hown11 hg11 hat11
          have hm11 : Moves (fun k => g2 < k) w10 w11 := (Moves.refl _ _).grown hg11 (fun k hk => .inl (hown2.lt k hk).1)
          have A2b : Hid (Arr w11 g2 24 .u32 v) := Lib.hid (A2a.out.moves hm11 (by omega))
          have Hb11 : Hid (Below w.heap.size w w11) := Lib.hid ((Hbr.out.trans (hb10.mono Hbr.out.size)).trans (hm11.below (fun k hk => by omega) (by omega)))
          rw [← Byt_append, ← Hsnoc.out, Hpl4.out, show 4 * j + 4 = 4 * (j + 1) by omega] at hown11
          have Ho11 := Lib.hid hown11
          clear hown11 hown10 hown2 hg11 hat11 hm11 hb10 hsz10
          have hlen11 : 4 * j + L.length = 4 * (j + 1) := by rw [Hpl4.out]; omega
          rw [hlen11]
          go_wp2
          go_roundw
          case rel => exact ⟨j + 1, c11, A11, by omega, by go_num, rfl, A2b, Ho11, Hb11⟩
          case measure => simp [intOf]; omega
        · obtain rfl : j = 8 := by omega
          have Ho' : Hid (wr.ownsRow w.heap.size 5 1 (.slice A9 32 c9) 32 (Byt (outU v))) := Lib.hid (by
            have h := Ho.out
            rw [List.take_of_length_le (by rw [Hvl.out]; omega)] at h
            exact own_base h (by have := Hg.out; omega))
          have hl : (outU v).length = 32 := by rw [outU_len, Hvl.out]
          have Hl := Lib.hid hl; clear hl
          go_wp2
          go_ret
          rw [Hout.out]
          exact ⟨A9, c9, by rw [Hl.out]; rfl, by rw [Hl.out]; exact Ho'.out, Hbr.out⟩

end Go.Proofs.YtpnifmghbfajiaaDoor
