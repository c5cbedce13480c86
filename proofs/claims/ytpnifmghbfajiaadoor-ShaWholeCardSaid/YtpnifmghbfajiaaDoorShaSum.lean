/-
  The sum: all blocks of a row and its padding, one by one.
-/
import Derived.Test.YtpnifmghbfajiaaDoorShaBlocks1
import Derived.Test.YtpnifmghbfajiaaDoorShaBlock
import Derived.Test.YtpnifmghbfajiaaDoorShaFirst
import Derived.Test.YtpnifmghbfajiaaDoorNumPut
import Derived.Test.YtpnifmghbfajiaaDoorMakeCap
import Derived.Test.YtpnifmghbfajiaaDoorArrIn
import Derived.Test.YtpnifmghbfajiaaDoorArrIndex
namespace Go.Proofs.YtpnifmghbfajiaaDoor
open Go.RowKit Go.Shelf

attribute [local go_sem] Oper.semAt_some

theorem keeps_of_below {W W1 : World} (hb : Below W.heap.size W W1) : KeepsOthers W W1 := ⟨hb.size, fun k _ hk _ => (hb.block k (Array.getElem?_eq_some_iff.1 hk).1).trans hk⟩

theorem outU_snocT {l : List Nat} {j : Nat} (h : j < l.length) : outU (l.take (j + 1)) = outU (l.take j) ++ putL l[j] 4 := by
  rw [List.take_add_one, List.getElem?_eq_getElem h]
  exact outU_snoc _ _
theorem foldl_eight (bs : List (List UInt8)) : ∀ {h : List Nat}, Eight h → Eight (bs.foldl blockU h) := by
  induction bs with
  | nil => exact fun h => h
  | cons b l ih => exact fun h => ih (blockU_eight b h)
theorem keeps_put {g : Nat} {w w' : World} {t : TypeId} {k : IntKind} {l : List Nat} (h : Arr w g t k l) (hm : Moves (fun j => j = g) w w') : KeepsOthers w w' :=
  ⟨hm.size, fun j o hj ho => (hm.block j (Array.getElem?_eq_some_iff.1 hj).1 (fun e => by
    subst e
    rw [h] at hj
    injection hj with hj
    subst hj
    cases ho)).trans hj⟩

set_option maxRecDepth 100000 in
set_option maxHeartbeats 4000000 in
theorem sum_in (B n c : Nat) (A : Option Addr) (xs : List UInt8) (w : World) (hx : Rd w B A n (Byt xs)) (hok : SlOK A n c) (hn : n ≤ 1099511627776) (hB : B ≤ w.heap.size) (hks : KsAt w) :
    CallsIn Fence.wide 21 Tryd.prog 21 #[.slice A n c] w (NewB 5 w (sumU xs)) := by
  have hro : Fence.wide.round = none := rfl
  have hxl := hx.bytes
  have Hsum : Hid (sumU xs = outU ((allBlk xs).foldl blockU hsU)) := Lib.hid (by rw [allBlk_fold]; rfl)
  refine callsIn_of_wp_marks Tryd.func21 rfl trivial ?_ hro
  simp only [Tryd.ntmps21, List.size_toArray, List.length_cons, List.length_nil, Nat.reduceAdd, Nat.reduceSub, Array.replicate_succ, Array.replicate_zero, List.push_toArray, List.append_toArray, List.nil_append, List.cons_append]
  refine wpIn_wide.2 ?_
  have Hks := Lib.hid hks; clear hks
  have Hx := Lib.hid hx; clear hx
  have H8 : Hid (Eight hsU) := Lib.hid hs_eight
  have hfirst := first_any
  revert hfirst H8 Hsum
  generalize hsU = h0
  intro Hsum H8 hfirst
  go_wp2_with fail
  refine (hfirst _).mono ?_
  rintro e w1 ⟨rfl, hb1⟩
  clear hfirst
  go_wp2_with (refine wp_alloc_arr (k := .u32) rfl 24 rfl 8 zero8 ?_)
  intro w2 gh G1 H1 Hb2 Hs2
  go_wp2_with (refine wp_put_arr arr8 rfl (.tmp 3) (.tmp 8) rfl rfl (l' := h0) rfl H1.out (Zs_length _) H8.out.1 ?_)
  intro w3 H3 Hm3 Hs3
  have hs1 := hb1.size
  have B3 : Hid (Below w.heap.size w w3) := Lib.hid ((hb1.trans (Hb2.out.mono hs1)).trans (Hm3.out.below (fun k hk => by have := G1.out; omega) (Nat.le_trans hs1 Hb2.out.size)))
  have Hgh : Hid (w.heap.size ≤ gh ∧ gh < w3.heap.size) := Lib.hid (by have := G1.out; have := Hs2.out; have := Hs3.out; omega)
  clear hb1 hs1 H1 Hb2 Hs2 Hm3 Hs3 G1
  go_wp2_with fail
  refine (blocks_any n c A w3).mono ?_
  rintro e w4 ⟨rfl, hw4⟩
  have Hcell : Hid (w4.cell? ⟨w3.heap.size, 0, none⟩ = some (.slice A n c)) := Lib.hid (by rw [hw4]; exact (Boxed.new w3 30 (.slice A n c)).cell)
  have Hz4 : Hid (w4.heap.size = w3.heap.size + 1) := Lib.hid (by rw [hw4]; simp)
  have H4 : Hid (Arr w4 gh 24 .u32 h0) := Lib.hid (by rw [hw4]; exact H3.out.alloc _)
  have B4 : Hid (Below w.heap.size w w4) := Lib.hid (by rw [hw4]; exact B3.out.alloc B3.out.size _)
  clear hw4 H3
  have HI : Hid (Rests w4.heap.size (fun (pre : List (List UInt8)) W => Arr W gh 24 .u32 (pre.foldl blockU h0) ∧ Below w.heap.size w W)) := Lib.hid (by
    rintro pre X Y ⟨ha, hb⟩ hm
    refine ⟨ha.moves hm (by have := Hgh.out; have := Hz4.out; omega), hb.trans (hm.below (fun k hk => by have := Hgh.out; have := Hz4.out; omega) hb.size)⟩)
  go_wp2_with fail
  refine (wpIn_wide (n := 20)).1 ?_
  refine' wpIn_range_all (by decide) (gf := 37) (lb := #[.pointer (some ⟨w3.heap.size, 0, none⟩)]) rfl (enters_of Tryd.func37 (by kernel_rfl) rfl) gh (by have := Hgh.out; have := Hz4.out; omega) (allBlk xs)
    (fun (pre : List (List UInt8)) W => Arr W gh 24 .u32 (pre.foldl blockU h0) ∧ Below w.heap.size w W) HI.out ⟨H4.out, B4.out⟩ rfl ?hseq _ ?assign ?body ?done
  case hseq =>
    intro l J W hb hsz hJ hY hj0
    have hgh := Hgh.out
    have hz := Hz4.out
    refine blocks1_in 19 l gh w3.heap.size B n c A xs J W hJ hY (by omega) ((Hx.out.below (B4.out.mono hB)).below (hb.mono ?_)) (by omega) hok hn (by omega) ((hb.cell (p := ⟨w3.heap.size, 0, none⟩) (by show w3.heap.size < w4.heap.size; omega)).trans Hcell.out) hj0
    omega
  case assign =>
    intro m l v W K hK
    gi_wp2
    exact hK
  case body =>
    rintro m l pre x v W ⟨hA, hB4⟩ ⟨A5, n5, c5, rfl, hr5, hnc5, hn5⟩
    have HA := Lib.hid hA; clear hA
    have H8p : Hid (Eight (pre.foldl blockU h0)) := Lib.hid (foldl_eight pre H8.out)
    have HKw : Hid (KsAt W) := Lib.hid (Hks.out.below hB4)
    obtain ⟨hv, hhv⟩ : ∃ hv, pre.foldl blockU h0 = hv := ⟨_, rfl⟩
    rw [hhv] at HA H8p
    have Hhv := Lib.hid hhv; clear hhv
    gi_wp2_with (first
      | refine wpListIn_load_arr arr8 rfl (.tmp 3) rfl rfl HA.out H8p.out.1 ?_
      | (refine ⟨trivial, fun h => absurd h (by decide), ?_⟩; gi_at_call 19; refine (CallsIn.inRound l (callsIn_wide.2 (block_any W.heap.size n5 c5 A5 x hv W H8p.out hr5 hnc5 (by omega) (Nat.le_refl _) HKw.out))).mono ?_; rintro e w5 ⟨rfl, hb5⟩; have HA5 : Hid (Arr w5 gh 24 .u32 hv) := Lib.hid (HA.out.below hb5 HA.out.lt); have H8v : Hid (Eight (blockU hv x)) := Lib.hid (blockU_eight x H8p.out))
      | (refine wpListIn_put_arr arr8 rfl (.tmp 3) (.tmp 14) rfl rfl (l' := blockU hv x) rfl HA5.out H8p.out.1 H8v.out.1 ?_; intro w6 HA6 Hm6 Hs6))
    refine ⟨⟨by rw [Hhv.out]; exact HA6.out, ?_⟩, (Moves.of_below hb5).trans Hm6.out (fun k hk => .inl hk), (keeps_of_below hb5).trans (keeps_put HA5.out Hm6.out)⟩
    exact (hB4.trans (hb5.mono hB4.size)).trans (Hm6.out.below (fun k hk => by have := Hgh.out; omega) (Nat.le_trans hB4.size hb5.size))
  case done =>
    rintro D W hD ⟨hA, hBW⟩ hK
    have HA := Lib.hid hA; clear hA
    have Hv : Hid (Eight ((allBlk xs).foldl blockU h0)) := Lib.hid (foldl_eight _ H8.out)
    revert HA Hv Hsum
    generalize (allBlk xs).foldl blockU h0 = v
    intro Hsum HA Hv
    have HK := Lib.hid hK; clear hK
    have HBW := Lib.hid hBW; clear hBW
    go_wp2_with (first
      | (refine wp_make_cap rfl (.const (.int .i64 0)) (.const (.int .i64 32)) 30 rfl 5 Tryd.underlying30 Tryd.info_u8 0 32 rfl rfl (by decide) (by decide) ?_; intro w7 hown7 hb7; have HA7 : Hid (Arr w7 gh 24 .u32 v) := Lib.hid (HA.out.below hb7 HA.out.lt))
      | refine wp_load_arr arr8 rfl (.tmp 3) rfl rfl HA7.out Hv.out.1 ?_)
    have hw7 : w.heap.size ≤ W.heap.size := HBW.out.size
    have hD7 : D < W.heap.size := (Array.getElem?_eq_some_iff.1 HK.out).1
    have HD : Hid (w.heap.size ≤ D ∧ D < W.heap.size ∧ w.heap.size ≤ W.heap.size) := Lib.hid ⟨by have := Hgh.out; have := Hz4.out; omega, hD7, hw7⟩
    have Hb7 : Hid (Below w.heap.size w w7) := Lib.hid (HBW.out.trans (hb7.mono HBW.out.size))
    have HK7 : Hid (w7.heap[D]? = some (.deferred (some []))) := Lib.hid ((hb7.block D hD7).trans HK.out)
    have Ho7 := Lib.hid hown7
    have Hs7 : Hid (W.heap.size ≤ w7.heap.size) := Lib.hid hb7.size
    have Hvl : Hid (v.length = 8) := Lib.hid Hv.out.1
    have Hvb : Hid (∀ x ∈ v, x < 4294967296) := Lib.hid Hv.out.2
    clear hown7 hb7 hD7 hw7 HBW HK HA HA7 Hv H8 Hks Hx HI Hcell Hz4 H4 B4 B3
    go_loopw [5, 17] (fun s i wr => ∃ (j c9 : Nat) (A9 : Option Addr), j ≤ 8 ∧ i = .int .i64 (j : Int) ∧ s = .slice A9 (4 * j) c9 ∧
        Hid (wr.ownsRow W.heap.size 5 1 (.slice A9 (4 * j) c9) (4 * j) (Byt (outU (v.take j)))) ∧ Hid (Below w.heap.size w wr) ∧ Hid (wr.heap[D]? = some (.deferred (some []))) ∧ Hid (W.heap.size ≤ wr.heap.size)) (fun _ i _ => 8 - (intOf i).toNat)
    case atStart => exact ⟨0, 32, _, by omega, rfl, rfl, Ho7, Hb7, HK7, Hs7⟩
    case round =>
      clear Ho7 Hb7 HK7 Hs7
      obtain ⟨j, c9, A9, hj, rfl, rfl, Ho, Hbr, HKr, Hsr⟩ := hrel
      by_cases hj8 : j < 8
      · have hjv : j < v.length := by rw [Hvl.out]; exact hj8
        have hix := fun w' => run_index_arr (P := Tryd.prog) arr8 info_u32s Hvl.out (List.getElem?_eq_getElem hjv) w'
        have hxb := Hvb.out _ (List.getElem_mem hjv)
        have Hsnoc : Hid (outU (v.take (j + 1)) = outU (v.take j) ++ putL v[j] 4) := Lib.hid (outU_snocT hjv)
        have hput := fun w' => put_any v[j] 4 w' (by omega)
        rw [show putR v[j] 4 = putL v[j] 4 from rfl] at hput
        have Hpl4 : Hid ((putL v[j] 4).length = 4) := Lib.hid (putL_length _ _)
        revert hput Hpl4 Hsnoc hix hxb
        generalize putL v[j] 4 = L
        generalize v[j] = x
        intro hix hxb Hsnoc hput Hpl4
        go_wp2_with fail
        refine (hput _).mono ?_
        rintro e w10 ⟨A10, c10, rfl, hown10, hb10⟩
        have hown2 := own_below Ho.out hb10 (Nat.le_refl _)
        have hl4 : L.length ≤ 4 := by rw [Hpl4.out]; omega
        have hsz10 : W.heap.size ≤ w10.heap.size := Nat.le_trans Hsr.out hb10.size
        have hK10 : w10.heap[D]? = some (.deferred (some [])) := (hb10.block D (Array.getElem?_eq_some_iff.1 HKr.out).1).trans HKr.out
        go_wp2_with (refine wp_append_foot rfl _ _ 30 rfl 5 Tryd.underlying30 (.int .u8 0) 1 (by omega) rfl Tryd.info_u8 W.heap.size (4 * j) c9 A9 _ rfl hown2 w10.heap.size L.length c10 A10 _ rfl (Rd.of_own hown10) (SlOK.of_own hown10) (Byt_one _) (by omega) hsz10 ?_)
        intro A11 c11 w11 hown11 hg11 hat11
        have hm11 : Moves (fun k => W.heap.size ≤ k) w10 w11 := (Moves.refl _ _).grown hg11 (fun k hk => .inl (hown2.lt k hk).1)
        have Hb11 : Hid (Below w.heap.size w w11) := Lib.hid ((Hbr.out.trans (hb10.mono Hbr.out.size)).trans (hm11.below (fun k hk => by have := HD.out; omega) (by have := HD.out; omega)))
        have HK11 : Hid (w11.heap[D]? = some (.deferred (some []))) := Lib.hid ((hm11.block D (Array.getElem?_eq_some_iff.1 hK10).1 (by have := HD.out; omega)).trans hK10)
        have Hs11 : Hid (W.heap.size ≤ w11.heap.size) := Lib.hid (Nat.le_trans hsz10 hm11.size)
        rw [← Byt_append, ← Hsnoc.out, Hpl4.out, show 4 * j + 4 = 4 * (j + 1) by omega] at hown11
        have Ho11 := Lib.hid hown11
        clear hown11 hown10 hown2 hg11 hat11 hm11 hb10 hsz10 hK10
        have hlen11 : 4 * j + L.length = 4 * (j + 1) := by rw [Hpl4.out]; omega
        rw [hlen11]
        go_wp2
        go_roundw
        case rel => exact ⟨j + 1, c11, A11, by omega, by go_num, rfl, Ho11, Hb11, HK11, Hs11⟩
        case measure => simp [intOf]; omega
      · obtain rfl : j = 8 := by omega
        have hown8 := Ho.out
        rw [List.take_of_length_le (by rw [Hvl.out]; omega)] at hown8
        have hl : (outU v).length = 32 := by have := flat_length v; rw [this, Hvl.out]
        have Hl := Lib.hid hl; clear hl
        have hd := HD.out
        have hrow2 := own_base (base' := w.heap.size) (ownsRow_putObj hown8 (.deferred none) HKr.out rfl) (by omega)
        have Hfin := Lib.hid hrow2; clear hrow2 hown8
        go_wp2
        refine ⟨by simp, .inl ⟨_, _, rfl, run_takeDeferred HKr.out, ⟨.slice A9 32 c9, ?_, by rw [Hsum.out]; exact ⟨A9, c9, by rw [Hl.out], by rw [Hl.out]; exact Hfin.out, Hbr.out.trans (belowK_b (w := w) (Nat.le_refl _) _ D _ _ hd.1 HKr.out rfl rfl)⟩⟩⟩⟩
        simp [results, Tryd.f21, go_sem]

theorem sum_any (B n c : Nat) (A : Option Addr) (xs : List UInt8) (w : World) (hx : Rd w B A n (Byt xs)) (hok : SlOK A n c) (hn : n ≤ 1099511627776) (hB : B ≤ w.heap.size) (hks : KsAt w) :
    Calls Tryd.prog 21 #[.slice A n c] w (NewB 5 w (sumU xs)) := callsIn_wide.1 (sum_in B n c A xs w hx hok hn hB hks)

end Go.Proofs.YtpnifmghbfajiaaDoor
