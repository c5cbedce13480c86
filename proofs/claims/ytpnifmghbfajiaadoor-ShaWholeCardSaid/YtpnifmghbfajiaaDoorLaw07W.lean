import Derived.Test.YtpnifmghbfajiaaDoorShaAlive
import Derived.Test.YtpnifmghbfajiaaDoorRefShaSum
import Derived.Test.YtpnifmghbfajiaaDoorRefSame
import Derived.Test.YtpnifmghbfajiaaDoorRow
namespace Go.Proofs.YtpnifmghbfajiaaDoor
open Go.RowKit

set_option maxRecDepth 100000 in
set_option maxHeartbeats 4000000 in
theorem shaWhole_walk (n cap : Nat) (A : Option Addr) (xs : List UInt8) (w : World) (hx : Rd w w.heap.size A n (Byt xs)) (hok : SlOK A n cap) (hK : KsAt w) :
    Calls Tryd.prog 6 #[.slice A n cap] w (Ans w (.bool true)) := by
  have hxl := hx.bytes
  have HK := Lib.hid hK; clear hK
  by_cases hn : n ≤ 300
  · have n1 : ¬ (300 < (n : Int)) := by omega
    have hpad := fun w' => pad_any (n : Int) w'
    rw [show shaPadR (n : Int) = padU n by unfold shaPadR; rw [if_pos (by omega), Int.toNat_natCast]] at hpad
    have hsum := fun W hx hB hk => sum_any w.heap.size n cap A xs W hx hok (by omega) hB hk
    have Hjoin := Lib.hid (fun w' (hb : Below w.heap.size w w') m d D ys (hy : Rd w' w'.heap.size D m (Byt ys)) (hyo : SlOK D m d) (hm : n + m ≤ 8796093022208) => rjoin_any w'.heap.size n cap m d A D xs ys w' ((hx.below hb).wider hb.size) hy hok hyo (Nat.le_refl _) hm)
    have Hs : Hid (sumU xs = outU (blocksU hsU (xs ++ padU n))) := Lib.hid (by unfold sumU; rw [hxl])
    have hpd := padded xs
    rw [hxl] at hpd
    have hpl : (padU n).length ≤ 72 := by rw [padU_length]; have := (zerosU_ok n).2; omega
    have Hx := Lib.hid hx; clear hx
    have Hxl := Lib.hid hxl; clear hxl
    have H8 : Hid (Eight hsU) := Lib.hid hs_eight
    have Hsum := Lib.hid hsum; clear hsum
    rw [Hs.out] at Hsum
    have hfirst := first_any
    revert hpad hpl hpd Hsum
    generalize hp : padU n = pd
    intro hpad hpd hpl Hsum
    clear hp Hs
    have Hpd := Lib.hid hpd; clear hpd
    revert hfirst H8 Hsum
    generalize hsU = h0
    intro H8 hfirst Hsum
    go_enter Tryd.func6, Tryd.ntmps6
    go_wp2_with fail
    refine (hpad _).mono ?_
    rintro e w6 ⟨A6, c6, rfl, hown6, hb6⟩
    have B6 : Hid (Below w.heap.size w w6) := Lib.hid hb6
    have hj := Hjoin.out w6 B6.out pd.length c6 A6 pd (Rd.of_own hown6) (SlOK.of_own hown6) (by omega)
    clear hown6 hb6 Hjoin
    go_wp2_with fail
    refine hj.mono ?_
    rintro e w7 ⟨A7, c7, rfl, hown7, hb7⟩
    have B7 : Hid (Below w.heap.size w w7) := Lib.hid (B6.out.trans (hb7.mono B6.out.size))
    have hown7b := own_base hown7 B6.out.size
    obtain ⟨A7', c7', e7, hnc7, hcm7⟩ := own_form hown7b
    injection e7 with e1 e2 e3
    subst e1 e3
    have Ho7 : Hid (w7.ownsRow w6.heap.size 5 1 (.slice A7 (xs ++ pd).length c7) (xs ++ pd).length (Byt (xs ++ pd))) := Lib.hid hown7
    have H67 : Hid (w.heap.size ≤ w6.heap.size ∧ w6.heap.size ≤ w7.heap.size) := Lib.hid ⟨B6.out.size, hb7.size⟩
    clear hown7 hown7b e2 hb7 B6 hj hpad
    obtain ⟨fin, hfin⟩ : ∃ fin, blocksU h0 (xs ++ pd) = fin := ⟨_, rfl⟩
    have HR : Hid (fin = blocksU h0 ((xs ++ pd).drop 0)) := Lib.hid (by rw [← hfin]; rfl)
    rw [hfin] at Hsum
    clear hfin hpl
    revert Ho7 hnc7 HR Hpd
    generalize xs ++ pd = M
    intro Hpd hnc7 Ho7 HR
    obtain ⟨N, hN⟩ : ∃ N, M.length = N := ⟨_, rfl⟩
    rw [hN] at Hpd hnc7 Ho7 ⊢
    have HN := Lib.hid hN; clear hN
    obtain ⟨g7, rfl, hg7, hg7s⟩ := own_some Ho7.out (by have := Hpd.out; omega)
    have Hg7 : Hid (w6.heap.size ≤ g7 ∧ g7 < w7.heap.size) := Lib.hid ⟨hg7, hg7s⟩
    clear hg7 hg7s
    have hN1 : (N : Int).tmod 64 = 0 := by rw [Int.tmod_eq_emod_of_nonneg (by omega)]; have := Hpd.out.1; omega
    have hN2 : ¬ (N : Int) < (n : Int) + 9 := by have := Hpd.out; omega
    have hN3 : ¬ (n : Int) + 72 < (N : Int) := by have := Hpd.out; omega
    have hNb : N ≤ 372 := by have := Hpd.out; omega
    go_wp2_with fail
    refine (hfirst _).mono ?_
    rintro e w1 ⟨rfl, hb1⟩
    clear hfirst hN1 hN2 hN3
    have B1 : Hid (Below w.heap.size w w1) := Lib.hid (bon B7.out hb1)
    have Ho1 : Hid (w1.ownsRow w6.heap.size 5 1 (.slice (some ⟨g7, 0, none⟩) N c7) N (Byt M)) := Lib.hid (own_below Ho7.out hb1 (Nat.le_refl _))
    have H61 : Hid (w.heap.size ≤ w6.heap.size ∧ w6.heap.size ≤ w1.heap.size ∧ w7.heap.size ≤ w1.heap.size) := Lib.hid ⟨H67.out.1, Nat.le_trans H67.out.2 hb1.size, hb1.size⟩
    clear hb1 Ho7 B7 H67
    go_wp2_with (refine wp_alloc_arr (k := .u32) rfl 24 rfl 8 zero8 ?_)
    intro w2 g2 G2 H2 Hb2 Hs2
    go_wp2_with (refine wp_put_arr arr8 rfl (.tmp 4) (.tmp 37) rfl rfl (l' := h0) rfl H2.out (Zs_length _) H8.out.1 ?_)
    intro w3 N2 Hm3 Hs3
    have Hg : Hid (w6.heap.size ≤ g2 ∧ w.heap.size ≤ g2 ∧ g2 < w3.heap.size ∧ w.heap.size ≤ w3.heap.size ∧ g7 < g2 ∧ w.heap.size ≤ w6.heap.size ∧ w6.heap.size ≤ g7) := Lib.hid (by have := G2.out; have := Hs2.out; have := Hs3.out; have := H61.out; have := Hg7.out; omega)
    have B3 : Hid (Below w.heap.size w w3) := Lib.hid ((B1.out.trans (Hb2.out.mono B1.out.size)).trans (Hm3.out.below (fun k hk => by have := Hg.out; omega) (Nat.le_trans B1.out.size Hb2.out.size)))
    have Ho3 : Hid (w3.ownsRow w6.heap.size 5 1 (.slice (some ⟨g7, 0, none⟩) N c7) N (Byt M)) := Lib.hid (own_moves (own_below Ho1.out Hb2.out (Nat.le_refl _)) Hm3.out (fun k hk => by simp [Value.ownBlock] at hk; have := Hg.out; omega))
    clear B1 Ho1 G2 H2 Hb2 Hs2 Hm3 Hs3 H61 Hg7
    go_wp2
    go_loopw [5] (fun i wr => ∃ (p : Nat) (v : List Nat), p ≤ N ∧ i = .int .i64 (p : Int) ∧ Hid (Eight v) ∧ Hid (fin = blocksU v (M.drop p)) ∧ Hid (Arr wr g2 24 .u32 v) ∧
      Hid (wr.ownsRow w6.heap.size 5 1 (.slice (some ⟨g7, 0, none⟩) N c7) N (Byt M)) ∧ Hid (Below w.heap.size w wr)) (fun i _ => N - (intOf i).toNat)
    case atStart => exact ⟨0, h0, Nat.zero_le _, rfl, H8, HR, N2, Ho3, B3⟩
    case round =>
      clear N2 Ho3 B3 HR
      obtain ⟨p, v, hp, rfl, Hv, Hf, A2, Ho, Hbr⟩ := hrel
      by_cases hp64 : p + 64 ≤ N
      · have hpart := (Rd.of_own Ho.out).part (p := p) (q := 64) (by omega)
        rw [← Byt_drop, ← Byt_take, Nat.zero_add] at hpart
        have Hpart := Lib.hid hpart; clear hpart
        have Hstep : Hid (fin = blocksU (blockU v ((M.drop p).take 64)) (M.drop (p + 64))) := Lib.hid (by
          rw [Hf.out, blocksU_step (by rw [List.length_drop, HN.out]; omega), List.drop_drop])
        have Hv2 : Hid (Eight (blockU v ((M.drop p).take 64))) := Lib.hid (blockU_eight _ Hv.out)
        have hcall := fun w' (hw : w'.heap = wr.heap) (hk : KsAt w') => block_any wr.heap.size 64 (c7 - p) (some ⟨g7, p, none⟩) ((M.drop p).take 64) v w' Hv.out (Hpart.out.keep fun q _ => by simp only [World.cell?, hw]) (by omega) (by omega) (by rw [hw]; exact Nat.le_refl _) hk
        revert Hstep Hv2 hcall
        generalize hv2 : blockU v ((M.drop p).take 64) = v2
        intro Hstep Hv2 hcall
        have q1 : IntKind.i64.wrap ((p : Int) + 64) = (p : Int) + 64 := IntWalk.i64_in _ ⟨by omega, by omega⟩
        have q2 : ((p : Int) + 64).toNat - p = 64 := by omega
        have q3 : (p : Int) ≤ (p : Int) + 64 := by omega
        have q4 : (p : Int) + 64 ≤ (N : Int) := by omega
        have q5 : (p : Int) + 64 ≤ (c7 : Int) := by omega
        have q6 : (0 : Int) ≤ (p : Int) + 64 := by omega
        have q7 : ((p : Int) + 64).toNat ≤ c7 := by omega
        go_wp2_with fail
        refine wp_region_still_tail 6 (by kernel_rfl) (by kernel_rfl) ?_
        simp only [List.take_succ_cons, List.take_zero, List.drop_succ_cons, List.drop_zero]
        refine still_load_arr arr8 rfl (.tmp 4) rfl rfl (A2.out.heap rfl) Hv.out.1 ?_
        repeat still_step
        try refine wpStill_nil ?_
        change wpList _ _ _ _ _ wr.drew
        go_wp2_with fail
        refine (hcall wr.drew rfl (HK.out.below Hbr.out.drew)).mono ?_
        rintro e w8 ⟨rfl, hb8⟩
        have hb8' : Below wr.heap.size wr w8 := ⟨hb8.os, hb8.tape, hb8.output, hb8.size, hb8.block⟩
        have A2' : Hid (Arr w8 g2 24 .u32 v) := Lib.hid (A2.out.below hb8' A2.out.lt)
        have Ho8 : Hid (w8.ownsRow w6.heap.size 5 1 (.slice (some ⟨g7, 0, none⟩) N c7) N (Byt M)) := Lib.hid (own_below Ho.out hb8' (Nat.le_refl _))
        have Hb8 : Hid (Below w.heap.size w w8) := Lib.hid (Hbr.out.trans (hb8'.mono Hbr.out.size))
        clear hb8 hb8'
        go_wp2_with (refine wp_put_arr arr8 rfl (.tmp 4) (.tmp 51) rfl rfl (l' := v2) rfl A2'.out Hv.out.1 Hv2.out.1 ?_)
        intro w9 P2 Hm9 Hs9
        have Po : Hid (w9.ownsRow w6.heap.size 5 1 (.slice (some ⟨g7, 0, none⟩) N c7) N (Byt M)) := Lib.hid (own_moves Ho8.out Hm9.out (fun k hk => by simp [Value.ownBlock] at hk; have := Hg.out; omega))
        have PB : Hid (Below w.heap.size w w9) := Lib.hid (Hb8.out.trans (Hm9.out.below (fun k hk => by have := Hg.out; omega) Hb8.out.size))
        clear A2' Ho8 Hb8 Hm9 Hs9
        go_wp2
        go_roundw
        case rel => exact ⟨p + 64, v2, by omega, by go_num, Hv2, Hstep, P2, Po, PB⟩
        case measure => simp [intOf]; omega
      · have Hend : Hid (fin = v) := Lib.hid (by rw [Hf.out, blocksU_none (by rw [List.length_drop, HN.out]; omega)])
        have Hvl : Hid (v.length = 8) := Lib.hid Hv.out.1
        have Hvb : Hid (∀ x ∈ v, x < 4294967296) := Lib.hid Hv.out.2
        rw [Hend.out] at Hsum
        clear Hf Hv Hend HN Ho
        go_wp2
        go_loopw [6, 7] (fun s i wr => ∃ (j c9 : Nat) (A9 : Option Addr), j ≤ 8 ∧ i = .int .i64 (j : Int) ∧ s = .slice A9 (4 * j) c9 ∧ Hid (Arr wr g2 24 .u32 v) ∧
          Hid (wr.ownsRow (g2 + 1) 5 1 (.slice A9 (4 * j) c9) (4 * j) (Byt (outU (v.take j)))) ∧ Hid (Below w.heap.size w wr)) (fun _ i _ => 8 - (intOf i).toNat)
        case atStart => exact ⟨0, 0, none, by omega, rfl, rfl, A2, Lib.hid (World.ownsRow_nil _ _ _ _), Hbr⟩
        case round =>
          clear A2 Hbr
          obtain ⟨j, c9, A9, hj, rfl, rfl, A2, Ho, Hbr⟩ := hrel
          by_cases hj8 : j < 8
          · have hjv : j < v.length := by rw [Hvl.out]; exact hj8
            have hcell := A2.out.cell hjv
            have hxb := Hvb.out _ (List.getElem_mem hjv)
            have Hsnoc : Hid (outU (v.take (j + 1)) = outU (v.take j) ++ putL v[j] 4) := Lib.hid (outU_get hjv)
            have hput := fun w' => rput_any v[j] 4 w' (by omega)
            rw [show putR v[j] 4 = putL v[j] 4 from rfl] at hput
            have Hpl4 : Hid ((putL v[j] 4).length = 4) := Lib.hid (putL_length _ _)
            revert hput Hpl4 Hsnoc hcell hxb
            generalize putL v[j] 4 = L
            generalize v[j] = x
            intro hcell hxb Hsnoc hput Hpl4
            go_wp2_with fail
            refine (hput _).mono ?_
            rintro e w10 ⟨A10, c10, rfl, hown10, hb10⟩
            have hown2 := own_below Ho.out hb10 (Nat.le_refl _)
            have hl4 : L.length ≤ 4 := by rw [Hpl4.out]; omega
            have A2a : Hid (Arr w10 g2 24 .u32 v) := Lib.hid (A2.out.below hb10 A2.out.lt)
            have hsz10 : g2 + 1 ≤ w10.heap.size := A2a.out.lt
            have hszw : w.heap.size ≤ g2 := Hg.out.2.1
            go_wp2_with (refine wp_append_foot rfl _ _ 30 rfl 5 Tryd.underlying30 (.int .u8 0) 1 (by omega) rfl Tryd.info_u8 (g2 + 1) (4 * j) c9 A9 _ rfl hown2 w10.heap.size L.length c10 A10 _ rfl (Rd.of_own hown10) (SlOK.of_own hown10) (Byt_one _) (by omega) hsz10 ?_)
            intro A11 c11 w11 hown11 hg11 hat11
            have hm11 : Moves (fun k => g2 < k) w10 w11 := (Moves.refl _ _).grown hg11 (fun k hk => .inl (hown2.lt k hk).1)
            have A2b : Hid (Arr w11 g2 24 .u32 v) := Lib.hid (A2a.out.moves hm11 (by omega))
            have Hb11 : Hid (Below w.heap.size w w11) := Lib.hid ((Hbr.out.trans (hb10.mono Hbr.out.size)).trans (hm11.below (fun k hk => by omega) (by omega)))
            rw [← Byt_append, ← Hsnoc.out, Hpl4.out, show 4 * j + 4 = 4 * (j + 1) by omega] at hown11
            have Ho11 := Lib.hid hown11
            clear hown11 hown10 hown2 hg11 hat11 hm11 hb10 hsz10
            have hlen11 : 4 * j + L.length = 4 * (j + 1) := by rw [Hpl4.out]; omega
            rw [hlen11]
            go_wp2
            go_roundw
            case rel => exact ⟨j + 1, c11, A11, by omega, by go_num, rfl, A2b, Ho11, Hb11⟩
            case measure => simp [intOf]; omega
          · obtain rfl : j = 8 := by omega
            have Ho' : Hid (wr.ownsRow (g2 + 1) 5 1 (.slice A9 32 c9) 32 (Byt (outU v))) := Lib.hid (by
              have h := Ho.out
              rw [List.take_of_length_le (by rw [Hvl.out]; omega)] at h
              exact h)
            have hl : (outU v).length = 32 := by rw [outU_len, Hvl.out]
            have Hl := Lib.hid hl; clear hl
            have hlm : Hid ((outU v).length ≤ maxLen) := Lib.hid (by rw [Hl.out]; decide)
            clear Ho A2 Hvb Hvl
            revert Ho' Hl hlm Hsum
            generalize outU v = L
            intro Hsum Ho' Hl hlm
            go_wp2_with fail
            refine (Hsum.out _ (Hx.out.below Hbr.out) Hbr.out.size (HK.out.below Hbr.out)).mono ?_
            rintro e w12 ⟨A12, c12, rfl, hown12, hb12⟩
            have Hb12 := Lib.hid (bon Hbr.out hb12)
            have r9 : Rd w12 w12.heap.size A9 32 (Byt L) := ((Rd.of_own Ho'.out).below hb12).wider hb12.size
            have r12 : Rd w12 w12.heap.size A12 32 (Byt L) := by have h := Rd.of_own hown12; rwa [Hl.out] at h
            have hs := rsame_any w12.heap.size 32 32 c12 c9 A12 A9 L L w12 r12 r9 (by decide) (by decide)
            rw [sameL_self] at hs
            rw [Hl.out]
            clear r9 r12 hown12 hb12
            go_wp2_with fail
            refine hs.mono ?_
            rintro e w13 ⟨rfl, hb13⟩
            have Hb13 := Lib.hid (bon Hb12.out hb13); clear hb13 hs
            go_wp2_with fail
            refine (alive7_any _ (HK.out.below Hb13.out)).mono ?_
            rintro e w14 ⟨rfl, hb14⟩
            go_wp2
            go_ret
            exact ⟨rfl, bon Hb13.out hb14⟩
  · have n1 : 300 < (n : Int) := by omega
    go_enter Tryd.func6, Tryd.ntmps6
    go_wp2_with fail
    refine (alive7_any _ HK.out).mono ?_
    rintro e w1 ⟨rfl, hb⟩
    go_wp2
    go_ret
    exact ⟨rfl, hb⟩

end Go.Proofs.YtpnifmghbfajiaaDoor
