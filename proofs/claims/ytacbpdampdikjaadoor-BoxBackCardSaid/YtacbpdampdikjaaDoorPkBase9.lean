/-
  Some of the texts that the last one of these needs: walks of the functions that the law calls, and the mathematics of their answers.
-/
import Derived.Test.YtacbpdampdikjaaDoorPkBase5
import Derived.Test.YtacbpdampdikjaaDoorPkBase8
import Derived.Test.YtacbpdampdikjaaDoorPkBase4
import Derived.Deep.RegionHeld3
import Derived.Test.YtacbpdampdikjaaDoorPkBase6
import Derived.Test.YtacbpdampdikjaaDoorPkBase1
import Derived.Test.YtacbpdampdikjaaDoorPkBase3
import Derived.Test.YtacbpdampdikjaaDoorPkBase7
namespace Go.Proofs.YtacbpdampdikjaaDoor
open Go.RowKit

set_option maxHeartbeats 1600000 in
set_option maxRecDepth 100000 in
theorem rasched_none (n c : Nat) (A : Option Addr) (w : World) (hn : n ≠ 32) :
    Calls Tryd.prog 42 #[.slice A n c] w (Ans w (.tuple #[.agg (Nums .u8 (Zs 240)), .int .i64 4])) := by
  have hz : ((n : Int) != 32) = true := by simp; omega
  go_enter Tryd.func42, Tryd.ntmps42
  go_wp2_with (refine wp_alloc_arr (k := .u8) rfl 51 rfl 240 zeroKeysR ?_)
  intro w1 g1 G1 H1 Hb1 Hs1
  go_wp2_with (refine wp_alloc_arr (k := .u8) rfl 51 rfl 240 zeroKeysR ?_)
  intro w2 g2 G2 H2 Hb2 Hs2
  go_wp2_with (first
    | refine wp_load_w arrKeysR rfl (.tmp 4) rfl rfl H2.out (Zs_length _) ?_
    | refine wp_put_w arrKeysR rfl (.tmp 2) (.tmp 11) rfl rfl (l' := Zs 240) rfl (H1.out.below Hb2.out H1.out.lt) (Zs_length _) (Zs_length _) ?_)
  intro w3 H3 Hm3 Hs3
  go_wp2
  exact ret_two arrKeysR rfl rfl H3.out (Zs_length _) rfl rfl ⟨rfl, (abon Hb1.out Hb2.out).trans (Hm3.out.below (fun j hj => by have := G1.out; omega) (abon Hb1.out Hb2.out).size)⟩

set_option maxHeartbeats 3200000 in
theorem rasched_key (key : List UInt8) (c B : Nat) (A : Option Addr) (w : World) (hr : Rd w B A 32 (Byt key)) (hB : B ≤ w.heap.size) :
    Calls Tryd.prog 42 #[.slice A 32 c] w (Ans w (.tuple #[.agg (Nums .u8 (abn (akeysU key))), .int .i64 0])) := by
  have HL : Hid ((abn (akeysU key)).length = 240) := Lib.hid (by rw [abn_length]; exact akeys_length hr.bytes)
  have cw : ∀ W, Hid (Below w.heap.size w W) → Calls Tryd.prog 62 #[.slice A 32 c] W (AnsA W .u8 (abn (akeysU key))) := fun W hb => raeswords_any key c B A W (hr.below (hb.out.mono hB)) (by have := hb.out.size; omega)
  clear hr hB
  revert HL cw
  generalize abn (akeysU key) = L
  intro HL cw
  go_enter Tryd.func42, Tryd.ntmps42
  go_wp2_with (refine wp_alloc_arr (k := .u8) rfl 51 rfl 240 zeroKeysR ?_)
  intro w1 g1 G1 H1 Hb1 Hs1
  go_wp2_with (refine wp_alloc_arr (k := .u8) rfl 51 rfl 240 zeroKeysR ?_)
  intro w2 g2 G2 H2 Hb2 Hs2
  have F2 : Hid (SK w [(g2, 51, Zs 240), (g1, 51, Zs 240)] w2) := Lib.hid ⟨by
    intro x hx
    simp only [List.mem_cons, List.not_mem_nil, or_false] at hx
    rcases hx with rfl | rfl
    · exact H2.out
    · exact H1.out.below Hb2.out H1.out.lt, abon Hb1.out Hb2.out⟩
  have Hg0 : Hid (w.heap.size ≤ g1 ∧ w.heap.size ≤ g2 ∧ g1 ≠ g2) := Lib.hid (by have := G1.out; have := G2.out; have := Hs1.out; omega)
  have cw2 := cw w2 (Lib.hid F2.out.2)
  clear H1 H2 Hb1 Hb2 G1 G2 Hs1 Hs2 cw
  go_wp2_with fail
  refine cw2.mono ?_
  rintro e w3 ⟨rfl, hb3⟩
  have F3 := Lib.hid (sk_below F2.out hb3)
  clear cw2 F2 hb3
  go_wp2_with (refine wp_alloc_arr (k := .u8) rfl 76 rfl 240 zeroWords ?_)
  intro w4 g3 G3 H3 Hb3 Hs3
  go_wp2_with (refine wp_put_w arrWords rfl (.tmp 5) (.tmp 13) rfl rfl (l' := L) rfl H3.out (Zs_length _) HL.out ?_)
  intro w5 H5 Hm5 Hs5
  have Hg : Hid (w.heap.size ≤ g1 ∧ w.heap.size ≤ g2 ∧ w.heap.size ≤ g3 ∧ g1 ≠ g2 ∧ g2 ≠ g3 ∧ g1 ≠ g3) := Lib.hid (by
    have e := G3.out
    have h0 := (sk_hd F3.out).lt
    have h1 := (F3.out.1 (g1, 51, Zs 240) (by simp)).lt
    have h2 := F3.out.2.size
    have h3 := Hg0.out
    dsimp only at h1
    omega)
  have F5 : Hid (SK w [(g2, 51, L.take (4 * 0) ++ (Zs 240).drop (4 * 0)), (g3, 76, L), (g1, 51, Zs 240)] w5) := Lib.hid (sk_sub (sk_cons (sk_keep (sk_below F3.out Hb3.out) Hm5.out (by
    have h4 := Hg.out
    intro x hx
    simp only [List.mem_cons, List.not_mem_nil, or_false] at hx
    rcases hx with rfl | rfl
    · exact h4.2.2.2.2.1
    · exact h4.2.2.2.2.2) Hg.out.2.2.1) H5.out) (by intro x hx; simp only [List.mem_cons, List.not_mem_nil, or_false] at hx ⊢; rcases hx with rfl | rfl | rfl <;> simp))
  have Hne2 : Hid (∀ x ∈ [(g3, 76, L), (g1, 51, Zs 240)], x.1 ≠ g2) := Lib.hid (by
    have h4 := Hg.out
    intro x hx
    simp only [List.mem_cons, List.not_mem_nil, or_false] at hx
    rcases hx with rfl | rfl
    · exact h4.2.2.2.2.1.symm
    · exact h4.2.2.2.1)
  clear F3 H3 H5 Hb3 Hs3 Hm5 Hs5 G3 Hg0
  go_wp2
  go_loopw [6] (fun u wr => ∃ i : Nat, i ≤ 60 ∧ u = .int .i64 (i : Int) ∧ Hid (SK w [(g2, 51, L.take (4 * i) ++ (Zs 240).drop (4 * i)), (g3, 76, L), (g1, 51, Zs 240)] wr)) (fun u _ => 60 - (intOf u).toNat)
  case atStart => exact ⟨0, by omega, rfl, F5⟩
  case round =>
    clear F5
    obtain ⟨i, hi, rfl, F5⟩ := hrel
    by_cases hlt : i < 60
    · obtain ⟨o, ho⟩ : ∃ o, 4 * i = o := ⟨_, rfl⟩
      have Ho := Lib.hid ho
      obtain ⟨qd, hqd⟩ : ∃ qd, i / 4 = qd := ⟨_, rfl⟩
      obtain ⟨rm, hrm⟩ : ∃ rm, i % 4 = rm := ⟨_, rfl⟩
      obtain ⟨o1, ho1⟩ : ∃ o1, qd * 16 = o1 := ⟨_, rfl⟩
      have z0 : (0 : Int) ≤ (i : Int) := by omega
      have e1 : (i : Int) / 4 = (qd : Int) := by omega
      have e1t : (i : Int).tdiv 4 = (qd : Int) := by rw [Int.tdiv_eq_ediv_of_nonneg z0]; exact e1
      have e2 : (i : Int) % 4 = (rm : Int) := by omega
      have e2t : (i : Int).tmod 4 = (rm : Int) := by rw [Int.tmod_eq_emod_of_nonneg z0]; exact e2
      have hwq : IntKind.i64.wrap (qd : Int) = (qd : Int) := IntWalk.i64_in _ ⟨by omega, by omega⟩
      have hwm : IntKind.i64.wrap (4 * (rm : Int)) = 4 * (rm : Int) := IntWalk.i64_in _ ⟨by omega, by omega⟩
      have ix3 := fun W => run_indexAt_w (b := g3) arrWords info_4 i o (i : Int) rfl hlt (by omega) W
      have ix2 := fun W => run_indexAt_w (b := g2) arrKeysR info_16 qd o1 (qd : Int) rfl (by omega) ho1 W
      have Hrel : Hid (o1 + 4 * rm = o ∧ rm < 4) := Lib.hid (by omega)
      clear ho hqd hrm ho1
      have Fz : Hid (SK w [(g2, 51, L.take (4 * i + 0) ++ (Zs 240).drop (4 * i + 0)), (g3, 76, L), (g1, 51, Zs 240)] wr) := Lib.hid (show SK w [(g2, 51, L.take (4 * i + 0) ++ (Zs 240).drop (4 * i + 0)), (g3, 76, L), (g1, 51, Zs 240)] wr from F5.out)
      clear F5
      go_wp2
      have hd1 : decide ((i : Int) < 60) = true := by simp; omega
      simp only [hd1]
      go_loopw [7] (fun u wr => ∃ v : Nat, v ≤ 4 ∧ u = .int .i64 (v : Int) ∧ Hid (SK w [(g2, 51, L.take (4 * i + v) ++ (Zs 240).drop (4 * i + v)), (g3, 76, L), (g1, 51, Zs 240)] wr)) (fun u _ => 4 - (intOf u).toNat)
      case atStart => exact ⟨0, by omega, rfl, Fz⟩
      case round =>
        clear Fz
        obtain ⟨v, hv, rfl, F7⟩ := hrel
        by_cases hlv : v < 4
        · obtain ⟨q, hq⟩ : ∃ q, 4 * i + v = q := ⟨_, rfl⟩
          have hq240 : q < 240 := by omega
          obtain ⟨x, hx⟩ : ∃ x : Nat, L[q]? = some x := ⟨_, List.getElem?_eq_getElem (show q < L.length by rw [HL.out]; omega)⟩
          have ixq := fun W => run_indexAt_off (P := Tryd.prog) (b := g3) arr4 info_u8n o v q hlv (by have := Ho.out; omega) W
          have hr4 : 4 * rm + v < 16 := by have := Hrel.out; omega
          have hwa : IntKind.i64.wrap (4 * (rm : Int) + (v : Int)) = 4 * (rm : Int) + (v : Int) := IntWalk.i64_in _ ⟨by omega, by omega⟩
          have ixg : ∀ W, (Instr.indexAt 49 (.pointer (some ⟨g2, o1, none⟩)) (.int .i64 (4 * (rm : Int) + (v : Int)))).run Tryd.prog W = .ok (.pointer (some ⟨g2, q, none⟩)) W := fun W => by
            have h := run_indexAt_off (P := Tryd.prog) (b := g2) arr16 info_u8n o1 (4 * rm + v) q hr4 (by have := Ho.out; have := Hrel.out; omega) W
            rw [show ((4 * rm + v : Nat) : Int) = 4 * (rm : Int) + (v : Int) by omega] at h
            exact h
          rw [hq] at F7
          have Hx := Lib.hid hx
          have Hq := Lib.hid hq
          clear hx hq hr4
          have hfz := (sk_hd F7.out).drew.frozen q
          have hcl := (sk_hd F7.out).drew.at_ (fill_get (L := L) (M := Zs 240) (i := q) (by rw [Zs_length]; omega) (by rw [HL.out]; omega))
          go_wp2_with fail
          refine wp_region_ends (fun w' => SK w [(g2, 51, L.take (q) ++ (Zs 240).drop (q)), (g3, 76, L), (g1, 51, Zs 240)] w') 14 (by kernel_rfl) ?_
          refine wpAnyE_take (i := 0) (v := .int .i64 (i : Int)) (some 22) rfl rfl (by kernel_rfl) (fun _ _ _ h => h) (.inl ⟨by rfl, fun W _ => rfl⟩) (sk_drewN F7.out 1) ?_
          simp only [Act.put, List.setIfInBounds_toArray, List.set_cons_zero, List.set_cons_succ]
          refine wpAnyE_take (i := 1) (v := .int .i64 (qd : Int)) (some 23) rfl rfl (by kernel_rfl) (fun _ _ _ h => h) (.inl ⟨by rfl, fun W _ => by go_simp⟩) (sk_drewN F7.out 1) ?_
          simp only [Act.put, List.setIfInBounds_toArray, List.set_cons_zero, List.set_cons_succ]
          refine wpAnyE_take (i := 2) (v := .int .i64 (i : Int)) (some 24) rfl rfl (by kernel_rfl) (fun _ _ _ h => h) (.inl ⟨by rfl, fun W _ => rfl⟩) (sk_drewN F7.out 1) ?_
          simp only [Act.put, List.setIfInBounds_toArray, List.set_cons_zero, List.set_cons_succ]
          refine wpAnyE_take (i := 3) (v := .int .i64 (rm : Int)) (some 25) rfl rfl (by kernel_rfl) (fun _ _ _ h => h) (.inl ⟨by rfl, fun W _ => by go_simp⟩) (sk_drewN F7.out 1) ?_
          simp only [Act.put, List.setIfInBounds_toArray, List.set_cons_zero, List.set_cons_succ]
          refine wpAnyE_take (i := 4) (v := .int .i64 (4 * (rm : Int))) (some 26) rfl rfl (by kernel_rfl) (fun _ _ _ h => h) (.inl ⟨by rfl, fun W _ => by go_simp⟩) (sk_drewN F7.out 1) ?_
          simp only [Act.put, List.setIfInBounds_toArray, List.set_cons_zero, List.set_cons_succ]
          refine wpAnyE_take (i := 5) (v := .int .i64 (v : Int)) (some 27) rfl rfl (by kernel_rfl) (fun _ _ _ h => h) (.inl ⟨by rfl, fun W _ => rfl⟩) (sk_drewN F7.out 1) ?_
          simp only [Act.put, List.setIfInBounds_toArray, List.set_cons_zero, List.set_cons_succ]
          refine wpAnyE_take (i := 6) (v := .int .i64 (4 * (rm : Int) + (v : Int))) (some 28) rfl rfl (by kernel_rfl) (fun _ _ _ h => h) (.inl ⟨by rfl, fun W _ => by go_simp⟩) (sk_drewN F7.out 1) ?_
          simp only [Act.put, List.setIfInBounds_toArray, List.set_cons_zero, List.set_cons_succ]
          refine wpAnyE_take (i := 7) (v := .int .i64 (i : Int)) (some 29) rfl rfl (by kernel_rfl) (fun _ _ _ h => h) (.inl ⟨by rfl, fun W _ => rfl⟩) (sk_drewN F7.out 1) ?_
          simp only [Act.put, List.setIfInBounds_toArray, List.set_cons_zero, List.set_cons_succ]
          refine wpAnyE_take (i := 8) (v := .int .i64 (v : Int)) (some 30) rfl rfl (by kernel_rfl) (fun _ _ _ h => h) (.inl ⟨by rfl, fun W _ => rfl⟩) (sk_drewN F7.out 1) ?_
          simp only [Act.put, List.setIfInBounds_toArray, List.set_cons_zero, List.set_cons_succ]
          refine wpAnyE_take (i := 9) (v := .pointer (some ⟨g3, o, none⟩)) (some 31) rfl rfl (by kernel_rfl) (fun _ _ _ h => h) (.inl ⟨by rfl, fun W _ => by go_simp⟩) (sk_drewN F7.out 1) ?_
          simp only [Act.put, List.setIfInBounds_toArray, List.set_cons_zero, List.set_cons_succ]
          refine wpAnyE_take (i := 10) (v := .pointer (some ⟨g3, q, none⟩)) (some 32) rfl rfl (by kernel_rfl) (fun _ _ _ h => h) (.inl ⟨by rfl, fun W _ => by go_simp⟩) (sk_drewN F7.out 1) ?_
          simp only [Act.put, List.setIfInBounds_toArray, List.set_cons_zero, List.set_cons_succ]
          refine wpAnyE_take (i := 11) (v := .int .u8 (x : Int)) (some 33) rfl rfl (by kernel_rfl) (fun _ _ _ h => h) (.inl ⟨by rfl, fun W h => by have hc := (Arr.at_ (t := 76) (k := .u8) (l := L) (h.1 (g3, 76, L) (by simp)) Hx.out); go_simp⟩) (sk_drewN F7.out 1) ?_
          simp only [Act.put, List.setIfInBounds_toArray, List.set_cons_zero, List.set_cons_succ]
          refine wpAnyE_one (i := 12) (by kernel_rfl) rfl (fun K7 hK7 => ?_)
          go_simp
          refine hK7.out _ _ (.inr (sk_drewN F7.out 1)) ?_
          clear hK7 K7
          refine wpAnyE_take (i := 13) (v := .pointer (some ⟨g2, q, none⟩)) (some 35) rfl rfl (by kernel_rfl) (fun _ _ _ h => h) (.inl ⟨by rfl, fun W _ => by go_simp⟩) (sk_drewN F7.out 1) ?_
          simp only [Act.put, List.setIfInBounds_toArray, List.set_cons_zero, List.set_cons_succ]
          refine wpAnyE_one (i := 14) (by kernel_rfl) rfl (fun K6 hK6 => ?_)
          go_simp
          refine hK6.out _ _ (.inl rfl) ?_
          have F8 : Hid (SK w [(g2, 51, L.take (4 * i + (v + 1)) ++ (Zs 240).drop (4 * i + (v + 1))), (g3, 76, L), (g1, 51, Zs 240)] ((wr.setCell ⟨g2, q, none⟩ (.int .u8 (x : Int))).drew)) := Lib.hid (by
            have h := sk_drewN (sk_set F7.out Hne2.out Hg.out.2.1 q x) 1
            rw [afill_step Hx.out (by rw [Zs_length]; omega)] at h
            rw [show 4 * i + (v + 1) = q + 1 by have := Hq.out; omega]
            exact h)
          clear hK6 K6 F7
          refine wpAnyE_done (by kernel_rfl) ?_
          go_wp2
          go_roundw
          case rel => exact ⟨v + 1, by omega, by go_num, F8⟩
          case measure => simp [intOf]; omega
        · obtain rfl : v = 4 := by omega
          have F9 : Hid (SK w [(g2, 51, L.take (4 * (i + 1)) ++ (Zs 240).drop (4 * (i + 1))), (g3, 76, L), (g1, 51, Zs 240)] wr) := Lib.hid F7.out
          clear F7
          go_wp2
          go_roundw
          case rel => exact ⟨i + 1, by omega, by go_num, F9⟩
          case measure => simp [intOf]; omega
    · obtain rfl : i = 60 := by omega
      have A2 : Hid (Arr wr g2 51 .u8 L) := Lib.hid (by have h := sk_hd F5.out; rw [show 4 * 60 = 240 from rfl, fill_all HL.out (Zs_length _)] at h; exact h)
      have A1 : Hid (Arr wr g1 51 .u8 (Zs 240)) := Lib.hid (F5.out.1 (g1, 51, Zs 240) (by simp))
      go_wp2_with (first
        | refine wp_load_w arrKeysR rfl (.tmp 4) rfl rfl A2.out HL.out ?_
        | refine wp_put_w arrKeysR rfl (.tmp 2) (.tmp 36) rfl rfl (l' := L) rfl A1.out (Zs_length _) HL.out ?_)
      intro w9 H9 Hm9 Hs9
      go_wp2
      exact ret_two arrKeysR rfl rfl H9.out HL.out rfl rfl ⟨rfl, F5.out.2.trans (Hm9.out.below (fun j hj => by rw [hj]; exact Hg.out.1) F5.out.2.size)⟩

end Go.Proofs.YtacbpdampdikjaaDoor

namespace Go.Proofs.YtacbpdampdikjaaDoor
open Go.RowKit

set_option maxHeartbeats 1600000 in
theorem rasub_any (s : List UInt8) (w : World) (hs : s.length = 16) :
    Calls Tryd.prog 65 #[.agg (Nums .u8 (abn s))] w (AnsA w .u8 (abn (asubU s))) := by
  have Hat : Hid (∀ k, k < 16 → ∃ x : UInt8, (abn s)[k]? = some x.toNat ∧ (abn (asubU s))[k]? = some (gboxU x).toNat) := Lib.hid (fun k hk => by
    obtain ⟨x, h1, h2⟩ := asub_at gboxU (s := s) (k := k) (by omega)
    exact ⟨x, abn_get h1, abn_get h2⟩)
  have Hl : Hid ((abn s).length = 16) := Lib.hid (by rw [abn_length, hs])
  have HL : Hid ((abn (asubU s)).length = 16) := Lib.hid (by rw [abn_length, asubU, asubB_length, hs])
  clear hs
  revert Hat Hl HL
  generalize abn (asubU s) = L
  generalize abn s = l
  intro Hat Hl HL
  go_enter Tryd.func65, Tryd.ntmps65
  go_wp2_with (refine wp_box_arr (k := .u8) rfl 49 (.tmp 0) rfl l rfl ?_)
  intro w1 g1 G1 H1 Hb1 Hs1
  go_wp2_with (refine wp_alloc_arr (k := .u8) rfl 49 rfl 16 zero16 ?_)
  intro w2 g2 G2 H2 Hb2 Hs2
  have Hg : Hid (w.heap.size ≤ g1 ∧ w.heap.size ≤ g2 ∧ g1 ≠ g2) := Lib.hid (by have := G1.out; have := G2.out; have := Hs1.out; omega)
  have K1 : Hid (Arr w2 g1 49 .u8 l) := Lib.hid (H1.out.below Hb2.out H1.out.lt)
  have B2 : Hid (Below w.heap.size w w2) := Lib.hid (Hb1.out.trans (Hb2.out.mono Hb1.out.size))
  have K3 : Hid (Arr w2 g1 49 .u8 (L.take 0 ++ l.drop 0)) := Lib.hid K1.out
  clear H1 Hb1 Hb2 G1 G2 Hs1 Hs2
  go_wp2
  go_loopw [3] (fun i wr => ∃ k : Nat, k ≤ 16 ∧ i = .int .i64 (k : Int) ∧ Hid (Arr wr g2 49 .u8 (Zs 16)) ∧ Hid (Arr wr g1 49 .u8 (L.take k ++ l.drop k)) ∧ Hid (Below w.heap.size w wr)) (fun i _ => 16 - (intOf i).toNat)
  case atStart => exact ⟨0, by omega, rfl, H2, K3, B2⟩
  case round =>
    clear K1 K3 B2 H2
    obtain ⟨k, hk, rfl, K2, K3, B3⟩ := hrel
    by_cases hlt : k < 16
    · obtain ⟨x, hx, hy⟩ := Hat.out k hlt
      have hc := fun w' => rgbox_any x w'
      have hin := K3.out.at_ (afill_at hx (L := L) (by rw [HL.out]; omega))
      have Hy : Hid (L[k]? = some (gboxU x).toNat) := Lib.hid hy
      clear hx hy
      generalize gboxU x = y at *
      go_wp2_with fail
      refine (hc _).mono ?_
      rintro e w4 ⟨rfl, n4, rfl⟩
      have hb4 : Below wr.heap.size wr (wr.drewN n4) := bdrewN (Below.refl _ _) n4
      have A1 : Hid (Arr (wr.drewN n4) g1 49 .u8 (L.take k ++ l.drop k)) := Lib.hid (K3.out.below hb4 K3.out.lt)
      have A2 : Hid (Arr (wr.drewN n4) g2 49 .u8 (Zs 16)) := Lib.hid (K2.out.below hb4 K2.out.lt)
      have A3 : Hid (Below w.heap.size w (wr.drewN n4)) := Lib.hid (abon B3.out hb4)
      have hout := A1.out.at_ (fill_get (L := L) (M := l) (i := k) (by rw [Hl.out]; exact hlt) (by rw [HL.out]; omega))
      have hfz := A1.out.frozen k
      clear hb4 K2 K3 B3
      go_wp2
      go_roundw
      case rel =>
        refine ⟨k + 1, by omega, by go_num, Lib.hid (A2.out.other Hg.out.2.2.symm), Lib.hid ?_, Lib.hid (A3.out.setCell Hg.out.1 _)⟩
        rw [← afill_step Hy.out (by rw [Hl.out]; exact hlt)]
        exact A1.out.set
      case measure => simp [intOf]; omega
    · have hk4 : k = 16 := by omega
      have Hr : Hid (Arr wr g1 49 .u8 L) := Lib.hid (by have h := K3.out; rw [hk4, fill_all HL.out Hl.out] at h; exact h)
      go_wp2_with (first
        | refine wp_load_arr arr16 rfl (.tmp 1) rfl rfl Hr.out HL.out ?_
        | refine wp_put_arr arr16 rfl (.tmp 2) (.tmp 14) rfl rfl (l' := L) rfl K2.out (Zs_length _) HL.out ?_)
      intro w5 H5 Hm5 Hs5
      go_wp2
      exact ret_arr arr16 rfl rfl H5.out HL.out rfl ⟨rfl, B3.out.trans (Hm5.out.below (fun j hj => by have := Hg.out; omega) B3.out.size)⟩

end Go.Proofs.YtacbpdampdikjaaDoor

namespace Go.Proofs.YtacbpdampdikjaaDoor
open Go.RowKit

set_option maxHeartbeats 1600000 in
theorem rashift_any (s : List UInt8) (w : World) (hs : s.length = 16) :
    Calls Tryd.prog 64 #[.agg (Nums .u8 (abn s))] w (AnsA w .u8 (abn (ashiftU s))) := by
  have Hat : Hid (∀ c r, c < 4 → r < 4 → ∃ x : UInt8, (abn s)[4 * ((c + r) % 4) + r]? = some x.toNat ∧ (abn (ashiftU s))[4 * c + r]? = some x.toNat) := Lib.hid (fun c r hc hr => by
    obtain ⟨x, h1, h2⟩ := ashift_at hs hc hr
    exact ⟨x, abn_get h1, abn_get h2⟩)
  have Hl : Hid ((abn s).length = 16) := Lib.hid (by rw [abn_length, hs])
  have HL : Hid ((abn (ashiftU s)).length = 16) := Lib.hid (by rw [abn_length, ashift_length])
  clear hs
  revert Hat Hl HL
  generalize abn (ashiftU s) = L
  generalize abn s = l
  intro Hat Hl HL
  go_enter Tryd.func64, Tryd.ntmps64
  go_wp2_with (refine wp_box_arr (k := .u8) rfl 49 (.tmp 0) rfl l rfl ?_)
  intro w1 g1 G1 H1 Hb1 Hs1
  go_wp2_with (refine wp_alloc_arr (k := .u8) rfl 49 rfl 16 zero16 ?_)
  intro w2 g2 G2 H2 Hb2 Hs2
  go_wp2_with (refine wp_alloc_arr (k := .u8) rfl 49 rfl 16 zero16 ?_)
  intro w3 g3 G3 H3 Hb3 Hs3
  have Hg : Hid (w.heap.size ≤ g1 ∧ w.heap.size ≤ g2 ∧ w.heap.size ≤ g3 ∧ g1 ≠ g3 ∧ g2 ≠ g3 ∧ g1 ≠ g2) := Lib.hid (by have := G1.out; have := G2.out; have := G3.out; have := Hs1.out; have := Hs2.out; omega)
  have K1 : Hid (Arr w3 g1 49 .u8 l) := Lib.hid ((H1.out.below Hb2.out H1.out.lt).below Hb3.out (Nat.lt_of_lt_of_le H1.out.lt Hb2.out.size))
  have K2 : Hid (Arr w3 g2 49 .u8 (Zs 16)) := Lib.hid (H2.out.below Hb3.out H2.out.lt)
  have B3 : Hid (Below w.heap.size w w3) := Lib.hid ((Hb1.out.trans (Hb2.out.mono Hb1.out.size)).trans (Hb3.out.mono (Nat.le_trans Hb1.out.size Hb2.out.size)))
  have K3 : Hid (Arr w3 g3 49 .u8 (L.take 0 ++ (Zs 16).drop 0)) := Lib.hid H3.out
  clear H1 H2 H3 Hb1 Hb2 Hb3 G1 G2 G3 Hs1 Hs2 Hs3
  go_wp2
  go_loopw [4] (fun i wr => ∃ c : Nat, c ≤ 4 ∧ i = .int .i64 (c : Int) ∧ Hid (Arr wr g1 49 .u8 l) ∧ Hid (Arr wr g2 49 .u8 (Zs 16)) ∧ Hid (Arr wr g3 49 .u8 (L.take (4 * c) ++ (Zs 16).drop (4 * c))) ∧ Hid (Below w.heap.size w wr)) (fun i _ => 4 - (intOf i).toNat)
  case atStart => exact ⟨0, by omega, rfl, K1, K2, K3, B3⟩
  case round =>
    clear K1 K2 K3 B3
    obtain ⟨c, hc, rfl, K1, K2, K3, B3⟩ := hrel
    by_cases hlt : c < 4
    · have K4 : Hid (Arr wr g3 49 .u8 (L.take (4 * c + 0) ++ (Zs 16).drop (4 * c + 0))) := Lib.hid K3.out
      go_wp2
      go_loopw [5] (fun i wr => ∃ r : Nat, r ≤ 4 ∧ i = .int .i64 (r : Int) ∧ Hid (Arr wr g1 49 .u8 l) ∧ Hid (Arr wr g2 49 .u8 (Zs 16)) ∧ Hid (Arr wr g3 49 .u8 (L.take (4 * c + r) ++ (Zs 16).drop (4 * c + r))) ∧ Hid (Below w.heap.size w wr)) (fun i _ => 4 - (intOf i).toNat)
      case atStart => exact ⟨0, by omega, rfl, K1, K2, K4, B3⟩
      case round =>
        clear K1 K2 K3 K4 B3
        obtain ⟨r, hr, rfl, K1, K2, K3, B3⟩ := hrel
        by_cases hlr : r < 4
        · obtain ⟨x, hx, hy⟩ := Hat.out c r hlt hlr
          obtain ⟨p, hp⟩ : ∃ p, (c + r) % 4 = p := ⟨_, rfl⟩
          rw [hp] at hx
          have hp4 : p < 4 := by omega
          have ep : ((c : Int) + (r : Int)) % 4 = (p : Int) := by omega
          obtain ⟨q, hq⟩ : ∃ q, 4 * p + r = q := ⟨_, rfl⟩
          rw [hq] at hx
          have hq16 : q < 16 := by omega
          have eq : 4 * (p : Int) + (r : Int) = (q : Int) := by omega
          obtain ⟨o, ho⟩ : ∃ o, 4 * c + r = o := ⟨_, rfl⟩
          rw [ho] at hy K3
          have ho16 : o < 16 := by omega
          have eo : 4 * (c : Int) + (r : Int) = (o : Int) := by omega
          have Ho := Lib.hid ho
          have Hy := Lib.hid hy
          have hin := K1.out.at_ hx
          have hout := K3.out.at_ (fill_get (L := L) (M := Zs 16) (i := o) (by rw [Zs_length]; exact ho16) (by rw [HL.out]; omega))
          have hfz := K3.out.frozen o
          clear hp hq ho hx hy
          go_wp2
          go_roundw
          case rel =>
            refine ⟨r + 1, by omega, by go_num, Lib.hid (K1.out.other Hg.out.2.2.2.1), Lib.hid (K2.out.other Hg.out.2.2.2.2.1), Lib.hid ?_, Lib.hid (B3.out.setCell Hg.out.2.2.1 _)⟩
            rw [show 4 * c + (r + 1) = o + 1 by have := Ho.out; omega, ← afill_step Hy.out (by rw [Zs_length]; exact ho16)]
            exact K3.out.set
          case measure => simp [intOf]; omega
        · have hr4 : r = 4 := by omega
          subst hr4
          have K4 : Hid (Arr wr g3 49 .u8 (L.take (4 * (c + 1)) ++ (Zs 16).drop (4 * (c + 1)))) := Lib.hid K3.out
          go_wp2
          go_roundw
          case rel => exact ⟨c + 1, by omega, by go_num, K1, K2, K4, B3⟩
          case measure => simp [intOf]; omega
    · have hk4 : c = 4 := by omega
      have Hr : Hid (Arr wr g3 49 .u8 L) := Lib.hid (by have h := K3.out; rw [hk4, fill_all HL.out (Zs_length _)] at h; exact h)
      go_wp2_with (first
        | refine wp_load_arr arr16 rfl (.tmp 3) rfl rfl Hr.out HL.out ?_
        | refine wp_put_arr arr16 rfl (.tmp 2) (.tmp 28) rfl rfl (l' := L) rfl K2.out (Zs_length _) HL.out ?_)
      intro w5 H5 Hm5 Hs5
      go_wp2
      exact ret_arr arr16 rfl rfl H5.out HL.out rfl ⟨rfl, B3.out.trans (Hm5.out.below (fun j hj => by have := Hg.out; omega) B3.out.size)⟩

end Go.Proofs.YtacbpdampdikjaaDoor

namespace Go.Proofs.YtacbpdampdikjaaDoor
open Go.RowKit

set_option maxRecDepth 4096 in
set_option maxHeartbeats 3200000 in
theorem rgcolumn_any (a b c d : UInt8) (w : World) :
    Calls Tryd.prog 87 #[.agg (Nums .u8 (four a b c d))] w (AnsA w .u8 (gcolU a b c d)) := by
  have Hat := Lib.hid (gcol_at a b c d)
  have HL : Hid ((gcolU a b c d).length = 4) := Lib.hid rfl
  revert Hat HL
  generalize four a b c d = l
  generalize gcolU a b c d = L
  intro Hat HL
  go_enter Tryd.func87, Tryd.ntmps87
  go_wp2_with (refine wp_box_arr (k := .u8) rfl 75 (.tmp 0) rfl l rfl ?_)
  intro w1 g1 G1 H1 Hb1 Hs1
  go_wp2_with (refine wp_alloc_arr (k := .u8) rfl 75 rfl 4 zero4 ?_)
  intro w2 g2 G2 H2 Hb2 Hs2
  go_wp2_with (refine wp_alloc_arr (k := .u8) rfl 75 rfl 4 zero4 ?_)
  intro w3 g3 G3 H3 Hb3 Hs3
  have Hg : Hid (w.heap.size ≤ g1 ∧ w.heap.size ≤ g2 ∧ w.heap.size ≤ g3 ∧ g1 ≠ g3 ∧ g2 ≠ g3 ∧ g1 ≠ g2) := Lib.hid (by have := G1.out; have := G2.out; have := G3.out; have := Hs1.out; have := Hs2.out; omega)
  have K1 : Hid (Arr w3 g1 75 .u8 l) := Lib.hid ((H1.out.below Hb2.out H1.out.lt).below Hb3.out (Nat.lt_of_lt_of_le H1.out.lt Hb2.out.size))
  have K2 : Hid (Arr w3 g2 75 .u8 (Zs 4)) := Lib.hid (H2.out.below Hb3.out H2.out.lt)
  have B3 : Hid (Below w.heap.size w w3) := Lib.hid ((Hb1.out.trans (Hb2.out.mono Hb1.out.size)).trans (Hb3.out.mono (Nat.le_trans Hb1.out.size Hb2.out.size)))
  have K3 : Hid (Arr w3 g3 75 .u8 (L.take 0 ++ (Zs 4).drop 0)) := Lib.hid H3.out
  clear H1 H2 H3 Hb1 Hb2 Hb3 G1 G2 G3 Hs1 Hs2 Hs3
  go_wp2
  go_loopw [4] (fun i wr => ∃ k : Nat, k ≤ 4 ∧ i = .int .i64 (k : Int) ∧ Hid (Arr wr g1 75 .u8 l) ∧ Hid (Arr wr g2 75 .u8 (Zs 4)) ∧ Hid (Arr wr g3 75 .u8 (L.take k ++ (Zs 4).drop k)) ∧ Hid (Below w.heap.size w wr)) (fun i _ => 4 - (intOf i).toNat)
  case atStart => exact ⟨0, by omega, rfl, K1, K2, K3, B3⟩
  case round =>
    clear K1 K2 K3 B3
    obtain ⟨k, hk, rfl, K1, K2, K3, B3⟩ := hrel
    by_cases hlt : k < 4
    · obtain ⟨p, q, r, s, hp, hq, hr, hs, hm⟩ := Hat.out k hlt
      rw [Nat.mod_eq_of_lt hlt] at hp
      obtain ⟨j1, hj1⟩ : ∃ j, (k + 1) % 4 = j := ⟨_, rfl⟩
      obtain ⟨j2, hj2⟩ : ∃ j, (k + 2) % 4 = j := ⟨_, rfl⟩
      obtain ⟨j3, hj3⟩ : ∃ j, (k + 3) % 4 = j := ⟨_, rfl⟩
      rw [hj1] at hq
      rw [hj2] at hr
      rw [hj3] at hs
      have d0 := K1.out.at_ hp
      have d1 := K1.out.at_ hq
      have d2 := K1.out.at_ hr
      have d3 := K1.out.at_ hs
      have i1 : ((k : Int) + 1) % 4 = (j1 : Int) := by omega
      have i2 : ((k : Int) + 2) % 4 = (j2 : Int) := by omega
      have i3 : ((k : Int) + 3) % 4 = (j3 : Int) := by omega
      have b1 : j1 < 4 := by omega
      have b2 : j2 < 4 := by omega
      have b3 : j3 < 4 := by omega
      have b1' : (j1 : Int) < 4 := by omega
      have b2' : (j2 : Int) < 4 := by omega
      have b3' : (j3 : Int) < 4 := by omega
      have b0' : (k : Int) < 4 := by omega
      clear hj1 hj2 hj3
      have m2 : ((k : Int) + 2).tmod 4 = (j2 : Int) := by rw [Int.tmod_eq_emod_of_nonneg (by omega)]; exact i2
      have m3 : ((k : Int) + 3).tmod 4 = (j3 : Int) := by rw [Int.tmod_eq_emod_of_nonneg (by omega)]; exact i3
      have w1' : IntKind.i64.wrap ((k : Int) + 1) = (k : Int) + 1 := IntWalk.i64_in _ ⟨by omega, by omega⟩
      have w2' : IntKind.i64.wrap ((k : Int) + 2) = (k : Int) + 2 := IntWalk.i64_in _ ⟨by omega, by omega⟩
      have w3' : IntKind.i64.wrap ((k : Int) + 3) = (k : Int) + 3 := IntWalk.i64_in _ ⟨by omega, by omega⟩
      have t0 := fun w => rgtwice_any p w
      have t1 := fun w => rgtwice_any q w
      have x1 := gxor_u8 (gtwiceU p) q
      have x2 := gxor_u8 (gtwiceU p ^^^ q) (gtwiceU q)
      have x3 := gxor_u8 (gtwiceU p ^^^ q ^^^ gtwiceU q) r
      have x4 := gxor_u8 (gtwiceU p ^^^ q ^^^ gtwiceU q ^^^ r) s
      have Hm : Hid (L[k]? = some (gtwiceU p ^^^ q ^^^ gtwiceU q ^^^ r ^^^ s).toNat) := Lib.hid hm
      have hout := K3.out.at_ (fill_get (L := L) (M := Zs 4) (i := k) (by rw [Zs_length]; exact hlt) (by rw [HL.out]; omega))
      have hfz := K3.out.frozen k
      clear hp hq hr hs hm
      generalize gtwiceU p ^^^ q ^^^ gtwiceU q ^^^ r ^^^ s = y4 at *
      generalize gtwiceU p ^^^ q ^^^ gtwiceU q ^^^ r = y3 at *
      generalize gtwiceU p ^^^ q ^^^ gtwiceU q = y2 at *
      generalize gtwiceU p ^^^ q = y1 at *
      generalize gtwiceU p = tp at *
      generalize gtwiceU q = tq at *
      go_wp2
      go_still_tail 23, (by kernel_rfl)
      still_call (t0 _)
      repeat still_step
      still_call (t1 _)
      repeat still_step
      refine wpStill_nil ?_
      change wpList _ _ _ _ _ wr.drew
      go_wp2
      go_roundw
      case rel =>
        obtain ⟨hk2, hy⟩ := List.getElem?_eq_some_iff.1 Hm.out
        have e4 : (L.take k ++ (Zs 4).drop k).set k y4.toNat = L.take (k + 1) ++ (Zs 4).drop (k + 1) := by rw [← hy]; exact afill_set hk2 (by rw [Zs_length]; exact hlt)
        have hne : g1 ≠ g3 ∧ g2 ≠ g3 ∧ w.heap.size ≤ g3 := ⟨Hg.out.2.2.2.1, Hg.out.2.2.2.2.1, Hg.out.2.2.1⟩
        refine ⟨k + 1, by omega, by go_num, Lib.hid (K1.out.other hne.1), Lib.hid (K2.out.other hne.2.1), Lib.hid ?_, Lib.hid (B3.out.setCell (p := ⟨g3, k, none⟩) hne.2.2 _).drew⟩
        rw [← e4]
        exact K3.out.set
      case measure => simp [intOf]; omega
    · have hk4 : k = 4 := by omega
      have Hr : Hid (Arr wr g3 75 .u8 L) := Lib.hid (by have h := K3.out; rw [hk4, fill_all HL.out (Zs_length 4)] at h; exact h)
      go_wp2_with (first
        | refine wp_load_arr arr4 rfl (.tmp 3) rfl rfl Hr.out HL.out ?_
        | refine wp_put_arr arr4 rfl (.tmp 2) (.tmp 38) rfl rfl (l' := L) rfl K2.out (Zs_length _) HL.out ?_)
      intro w5 H5 Hm5 Hs5
      go_wp2
      exact ret_arr arr4 rfl rfl H5.out HL.out rfl ⟨rfl, B3.out.trans (Hm5.out.below (fun j hj => by have := Hg.out; omega) B3.out.size)⟩

end Go.Proofs.YtacbpdampdikjaaDoor

namespace Go.Proofs.YtacbpdampdikjaaDoor
open Go.RowKit

/-- The three arrays, and what was there. -/
def RMixS (w : World) (B g1 g2 g3 : Nat) (t : TypeId) (l m n : List Nat) (w' : World) : Prop :=
  Arr w' g1 t .u8 l ∧ Arr w' g2 t .u8 m ∧ Arr w' g3 t .u8 n ∧ Below w.heap.size w w' ∧ g1 < B ∧ g2 < B ∧ g3 < B ∧ w.heap.size ≤ B ∧ B ≤ w'.heap.size
section
variable {w w' : World} {B g1 g2 g3 : Nat} {t : TypeId} {l m n : List Nat}
theorem rmix_drewN (h : RMixS w B g1 g2 g3 t l m n w') (k : Nat) : RMixS w B g1 g2 g3 t l m n (w'.drewN k) := ⟨h.1, h.2.1, h.2.2.1, bdrewN h.2.2.2.1 k, h.2.2.2.2⟩
theorem rmix_alloc (h : RMixS w B g1 g2 g3 t l m n w') (o : Obj) : RMixS w B g1 g2 g3 t l m n (w'.alloc o) :=
  ⟨h.1.alloc o, h.2.1.alloc o, h.2.2.1.alloc o, h.2.2.2.1.alloc h.2.2.2.1.size o, h.2.2.2.2.1, h.2.2.2.2.2.1, h.2.2.2.2.2.2.1, h.2.2.2.2.2.2.2.1, by have := h.2.2.2.2.2.2.2.2; simp; omega⟩
theorem rmix_below (h : RMixS w B g1 g2 g3 t l m n w') {w2 : World} (hb : Below w'.heap.size w' w2) : RMixS w B g1 g2 g3 t l m n w2 :=
  ⟨h.1.below hb h.1.lt, h.2.1.below hb h.2.1.lt, h.2.2.1.below hb h.2.2.1.lt, abon h.2.2.2.1 hb, h.2.2.2.2.1, h.2.2.2.2.2.1, h.2.2.2.2.2.2.1, h.2.2.2.2.2.2.2.1, by have := h.2.2.2.2.2.2.2.2; have := hb.size; omega⟩
theorem rmix_row (h : RMixS w B g1 g2 g3 t l m n w') {g : Nat} (hg : B ≤ g) (cs : Array Value) : RMixS w B g1 g2 g3 t l m n (w'.setRow g cs) :=
  ⟨h.1.setRow_other (by have := h.2.2.2.2.1; omega), h.2.1.setRow_other (by have := h.2.2.2.2.2.1; omega), h.2.2.1.setRow_other (by have := h.2.2.2.2.2.2.1; omega), bsetRow h.2.2.2.1 (by have := h.2.2.2.2.2.2.2.1; omega) cs, h.2.2.2.2.1, h.2.2.2.2.2.1, h.2.2.2.2.2.2.1, h.2.2.2.2.2.2.2.1, by simpa using h.2.2.2.2.2.2.2.2⟩
theorem rmix_set (h : RMixS w B g1 g2 g3 t l m n w') (h1 : g1 ≠ g3) (h2 : g2 ≠ g3) (h3 : w.heap.size ≤ g3) (j x : Nat) : RMixS w B g1 g2 g3 t l m (n.set j x) (w'.setCell ⟨g3, j, none⟩ (.int .u8 (x : Int))) :=
  ⟨h.1.other h1, h.2.1.other h2, h.2.2.1.set, h.2.2.2.1.setCell h3 _, h.2.2.2.2.1, h.2.2.2.2.2.1, h.2.2.2.2.2.2.1, h.2.2.2.2.2.2.2.1, by simpa using h.2.2.2.2.2.2.2.2⟩
end

set_option maxHeartbeats 1600000 in
theorem ramix_any (s : List UInt8) (w : World) (hs : s.length = 16) :
    Calls Tryd.prog 66 #[.agg (Nums .u8 (abn s))] w (AnsA w .u8 (abn (amixU s))) := by
  have Hat := Lib.hid (fun c (hc : c < 4) => amix_at hs hc)
  have Hl : Hid ((abn s).length = 16) := Lib.hid (by rw [abn_length, hs])
  have HL : Hid ((abn (amixU s)).length = 16) := Lib.hid (by rw [abn_length, amix_length hs])
  clear hs
  revert Hat Hl HL
  generalize abn (amixU s) = L
  generalize abn s = l
  intro Hat Hl HL
  go_enter Tryd.func66, Tryd.ntmps66
  go_wp2_with (refine wp_box_arr (k := .u8) rfl 49 (.tmp 0) rfl l rfl ?_)
  intro w1 g1 G1 H1 Hb1 Hs1
  go_wp2_with (refine wp_alloc_arr (k := .u8) rfl 49 rfl 16 zero16 ?_)
  intro w2 g2 G2 H2 Hb2 Hs2
  go_wp2_with (refine wp_alloc_arr (k := .u8) rfl 49 rfl 16 zero16 ?_)
  intro w3 g3 G3 H3 Hb3 Hs3
  have Hg : Hid (w.heap.size ≤ g1 ∧ w.heap.size ≤ g2 ∧ w.heap.size ≤ g3 ∧ g1 ≠ g3 ∧ g2 ≠ g3 ∧ g1 ≠ g2) := Lib.hid (by have := G1.out; have := G2.out; have := G3.out; have := Hs1.out; have := Hs2.out; omega)
  have K1 : Hid (Arr w3 g1 49 .u8 l) := Lib.hid ((H1.out.below Hb2.out H1.out.lt).below Hb3.out (Nat.lt_of_lt_of_le H1.out.lt Hb2.out.size))
  have K2 : Hid (Arr w3 g2 49 .u8 (Zs 16)) := Lib.hid (H2.out.below Hb3.out H2.out.lt)
  have B3 : Hid (Below w.heap.size w w3) := Lib.hid ((Hb1.out.trans (Hb2.out.mono Hb1.out.size)).trans (Hb3.out.mono (Nat.le_trans Hb1.out.size Hb2.out.size)))
  have K3 : Hid (Arr w3 g3 49 .u8 (L.take (4 * 0) ++ (Zs 16).drop (4 * 0))) := Lib.hid H3.out
  clear H1 H2 H3 Hb1 Hb2 Hb3 G1 G2 G3 Hs1 Hs2 Hs3
  go_wp2
  go_loopw [4] (fun i wr => ∃ c : Nat, c ≤ 4 ∧ i = .int .i64 (c : Int) ∧ Hid (Arr wr g1 49 .u8 l) ∧ Hid (Arr wr g2 49 .u8 (Zs 16)) ∧ Hid (Arr wr g3 49 .u8 (L.take (4 * c) ++ (Zs 16).drop (4 * c))) ∧ Hid (Below w.heap.size w wr)) (fun i _ => 4 - (intOf i).toNat)
  case atStart => exact ⟨0, by omega, rfl, K1, K2, K3, B3⟩
  case round =>
    clear K1 K2 K3 B3
    obtain ⟨c, hc, rfl, K1, K2, K3, B3⟩ := hrel
    by_cases hlt : c < 4
    · obtain ⟨p, q, r, t, hin, hout⟩ := Hat.out c hlt
      have Hout := Lib.hid hout
      have Hin := Lib.hid hin
      have c0 := K1.out.at_ (hin 0 _ rfl)
      have c1 := K1.out.at_ (hin 1 _ rfl)
      have c2 := K1.out.at_ (hin 2 _ rfl)
      have c3 := K1.out.at_ (hin 3 _ rfl)
      have hc' : ∀ w, Calls Tryd.prog 87 #[.agg #[.int .u8 (p.toNat : Int), .int .u8 (q.toNat : Int), .int .u8 (r.toNat : Int), .int .u8 (t.toNat : Int)]] w (AnsA w .u8 (gcolU p q r t)) := fun w => rgcolumn_any p q r t w
      obtain ⟨o, ho⟩ : ∃ o, 4 * c = o := ⟨_, rfl⟩
      rw [ho] at K3 Hin Hout c0 c1 c2 c3
      rw [Nat.add_zero] at c0
      have ho16 : o < 13 := by omega
      have Ho := Lib.hid ho
      have r0 : IntKind.i64.wrap (4 * (c : Int)) = 4 * (c : Int) := IntWalk.i64_in _ ⟨by omega, by omega⟩
      have r1 : IntKind.i64.wrap (4 * (c : Int) + 1) = 4 * (c : Int) + 1 := IntWalk.i64_in _ ⟨by omega, by omega⟩
      have r2 : IntKind.i64.wrap (4 * (c : Int) + 2) = 4 * (c : Int) + 2 := IntWalk.i64_in _ ⟨by omega, by omega⟩
      have r3 : IntKind.i64.wrap (4 * (c : Int) + 3) = 4 * (c : Int) + 3 := IntWalk.i64_in _ ⟨by omega, by omega⟩
      have i0 := fun W => run_indexAt_arr (g := g1) arr16 info_u8n o (4 * (c : Int)) (by omega) (by omega) W
      have i1 := fun W => run_indexAt_arr (g := g1) arr16 info_u8n (o + 1) (4 * (c : Int) + 1) (by omega) (by omega) W
      have i2 := fun W => run_indexAt_arr (g := g1) arr16 info_u8n (o + 2) (4 * (c : Int) + 2) (by omega) (by omega) W
      have i3 := fun W => run_indexAt_arr (g := g1) arr16 info_u8n (o + 3) (4 * (c : Int) + 3) (by omega) (by omega) W
      clear hin hout ho
      go_wp2_with fail
      obtain ⟨B0, HB0⟩ : ∃ B0, Hid (wr.heap.size = B0) := ⟨_, Lib.hid rfl⟩
      have F0 : Hid (RMixS w B0 g1 g2 g3 49 l (Zs 16) (L.take o ++ (Zs 16).drop o) wr) := Lib.hid (by rw [← HB0.out]; exact ⟨K1.out, K2.out, K3.out, B3.out, K1.out.lt, K2.out.lt, K3.out.lt, B3.out.size, Nat.le_refl _⟩)
      have mk : Hid (∀ W, RMixS w B0 g1 g2 g3 49 l (Zs 16) (L.take o ++ (Zs 16).drop o) W → W.cell? ⟨g1, o, none⟩ = some (.int .u8 (p.toNat : Int)) ∧ W.cell? ⟨g1, o + 1, none⟩ = some (.int .u8 (q.toNat : Int)) ∧ W.cell? ⟨g1, o + 2, none⟩ = some (.int .u8 (r.toNat : Int)) ∧ W.cell? ⟨g1, o + 3, none⟩ = some (.int .u8 (t.toNat : Int)) ∧ Hid (RMixS w B0 g1 g2 g3 49 l (Zs 16) (L.take o ++ (Zs 16).drop o) W)) :=
        Lib.hid fun W h => ⟨h.1.at_ (Hin.out 0 _ rfl), h.1.at_ (Hin.out 1 _ rfl), h.1.at_ (Hin.out 2 _ rfl), h.1.at_ (Hin.out 3 _ rfl), Lib.hid h⟩
      have back : Hid (∀ W, (W.cell? ⟨g1, o, none⟩ = some (.int .u8 (p.toNat : Int)) ∧ W.cell? ⟨g1, o + 1, none⟩ = some (.int .u8 (q.toNat : Int)) ∧ W.cell? ⟨g1, o + 2, none⟩ = some (.int .u8 (r.toNat : Int)) ∧ W.cell? ⟨g1, o + 3, none⟩ = some (.int .u8 (t.toNat : Int)) ∧ Hid (RMixS w B0 g1 g2 g3 49 l (Zs 16) (L.take o ++ (Zs 16).drop o) W)) → RMixS w B0 g1 g2 g3 49 l (Zs 16) (L.take o ++ (Zs 16).drop o) W) :=
        Lib.hid fun W h => h.2.2.2.2.out
      have hstA : ∀ W : World, (storeCells ⟨W.heap.size, 0, none⟩ (Nums .u8 (gcolU p q r t)).toList).run Tryd.prog (W.alloc (.cells #[.int .u8 0, .int .u8 0, .int .u8 0, .int .u8 0] 75)) = .ok () ((W.alloc (.cells #[.int .u8 0, .int .u8 0, .int .u8 0, .int .u8 0] 75)).setRow W.heap.size (Nums .u8 (gcolU p q r t))) := fun W => run_storeCells_arr (t := 75) (l := Zs 4) (by have h := Arr.new (w := W) (t := 75) (k := .u8) (l := Zs 4); exact h) rfl
      clear K1 K2 K3 B3 c0 c1 c2 c3
      go_region_held3 (fun w' => w'.cell? ⟨g1, o, none⟩ = some (.int .u8 (p.toNat : Int)) ∧ w'.cell? ⟨g1, o + 1, none⟩ = some (.int .u8 (q.toNat : Int)) ∧ w'.cell? ⟨g1, o + 2, none⟩ = some (.int .u8 (r.toNat : Int)) ∧ w'.cell? ⟨g1, o + 3, none⟩ = some (.int .u8 (t.toNat : Int)) ∧ Hid (RMixS w B0 g1 g2 g3 49 l (Zs 16) (L.take o ++ (Zs 16).drop o) w'))
        (first
          | exact mk.out _ (rmix_drewN F0.out 1)
          | exact mk.out _ (rmix_drewN (rmix_alloc F0.out _) 1)
          | exact mk.out _ (rmix_alloc (back.out _ (by assumption)) _)
          | exact mk.out _ (rmix_below (back.out _ (by assumption)) (by exact Hb5.out))
          | exact mk.out _ (rmix_row (back.out _ (by assumption)) (by first | exact HB5.out | exact Nat.le_of_eq HB0.out.symm) _))
        (first
          | (go_at_call 87; (with_reducible refine (hc' wr.drew).mono ?_); rintro e w5 ⟨rfl, hb5⟩; have Hb5 := Lib.hid hb5; have HB5 : Hid (B0 ≤ w5.heap.size) := Lib.hid (by rw [← HB0.out]; exact hb5.size); clear hb5)
          | (go_at_call 87; (with_reducible refine (hc' (wr.alloc (.cells #[.int .u8 0, .int .u8 0, .int .u8 0, .int .u8 0] 75)).drew).mono ?_); rintro e w5 ⟨rfl, hb5⟩; have Hb5 := Lib.hid hb5; have A5 : Hid (Arr w5 wr.heap.size 75 .u8 (Zs 4)) := Lib.hid ((Arr.new (w := wr) (t := 75) (k := .u8) (l := Zs 4)).drew.below hb5 (by simp)); have hstB : (storeCells ⟨wr.heap.size, 0, none⟩ (Nums .u8 (gcolU p q r t)).toList).run Tryd.prog w5 = .ok () (w5.setRow wr.heap.size (Nums .u8 (gcolU p q r t))) := run_storeCells_arr A5.out rfl; clear hb5))
      all_goals first
        | (have F5 : Hid (RMixS w B0 g1 g2 g3 49 l (Zs 16) (L.take o ++ (Zs 16).drop o) ((w5.alloc (.cells #[.int .u8 0, .int .u8 0, .int .u8 0, .int .u8 0] 75)).setRow w5.heap.size (Nums .u8 (gcolU p q r t)))) := Lib.hid (back.out _ (by assumption))
           have H5 : Hid (Arr ((w5.alloc (.cells #[.int .u8 0, .int .u8 0, .int .u8 0, .int .u8 0] 75)).setRow w5.heap.size (Nums .u8 (gcolU p q r t))) w5.heap.size 75 .u8 (gcolU p q r t)) := Lib.hid (Arr.setRow (l := Zs 4) (by have h := Arr.new (w := w5) (t := 75) (k := .u8) (l := Zs 4); exact h))
           have HB : Hid (B0 ≤ w5.heap.size) := HB5
           revert F5 H5 HB
           generalize (w5.alloc (.cells #[.int .u8 0, .int .u8 0, .int .u8 0, .int .u8 0] 75)).setRow w5.heap.size (Nums .u8 (gcolU p q r t)) = W5
           generalize w5.heap.size = g5
           intro F5 H5 HB)
        | (have F5 : Hid (RMixS w B0 g1 g2 g3 49 l (Zs 16) (L.take o ++ (Zs 16).drop o) (w5.setRow wr.heap.size (Nums .u8 (gcolU p q r t)))) := Lib.hid (back.out _ (by assumption))
           have H5 : Hid (Arr (w5.setRow wr.heap.size (Nums .u8 (gcolU p q r t))) wr.heap.size 75 .u8 (gcolU p q r t)) := Lib.hid A5.out.setRow
           have HB : Hid (B0 ≤ wr.heap.size) := Lib.hid (Nat.le_of_eq HB0.out.symm)
           revert F5 H5 HB
           generalize w5.setRow wr.heap.size (Nums .u8 (gcolU p q r t)) = W5
           generalize wr.heap.size = g5
           intro F5 H5 HB)
      all_goals
        clear mk back hstA i0 i1 i2 i3 r0 r1 r2 r3 hc' HB0 F0
        have F6 : Hid (RMixS w B0 g1 g2 g3 49 l (Zs 16) (L.take (o + 0) ++ (Zs 16).drop (o + 0)) W5) := F5
        go_wp2
        go_loopw [6] (fun i wr => ∃ v : Nat, v ≤ 4 ∧ i = .int .i64 (v : Int) ∧ Hid (Arr wr g5 75 .u8 (gcolU p q r t)) ∧ Hid (RMixS w B0 g1 g2 g3 49 l (Zs 16) (L.take (o + v) ++ (Zs 16).drop (o + v)) wr)) (fun i _ => 4 - (intOf i).toNat)
        case atStart => exact ⟨0, by omega, rfl, H5, F6⟩
        case round =>
          clear F5 F6 H5
          obtain ⟨v, hv, rfl, H5, F5⟩ := hrel
          by_cases hlv : v < 4
          · obtain ⟨x, hx⟩ : ∃ x : Nat, (gcolU p q r t)[v]? = some x := ⟨_, List.getElem?_eq_getElem (show v < (gcolU p q r t).length from hlv)⟩
            have Hx := Lib.hid (Hout.out v x hx)
            obtain ⟨q', hq'⟩ : ∃ q', o + v = q' := ⟨_, rfl⟩
            rw [hq'] at Hx F5
            have Hq := Lib.hid hq'
            have hq16 : q' < 16 := by omega
            have eq' : 4 * (c : Int) + (v : Int) = (q' : Int) := by have := Ho.out; omega
            have hin := H5.out.at_ hx
            have hout := F5.out.2.2.1.at_ (fill_get (L := L) (M := Zs 16) (i := q') (by rw [Zs_length]; exact hq16) (by rw [HL.out]; omega))
            have hfz := F5.out.2.2.1.frozen q'
            clear hx hq'
            go_wp2
            go_roundw
            case rel =>
              refine ⟨v + 1, by omega, by go_num, Lib.hid (H5.out.other (show g5 ≠ g3 by have := F5.out.2.2.2.2.2.2.1; have := HB.out; omega)), Lib.hid ?_⟩
              have h := rmix_set F5.out Hg.out.2.2.2.1 Hg.out.2.2.2.2.1 Hg.out.2.2.1 q' x
              rw [afill_step Hx.out (by rw [Zs_length]; exact hq16)] at h
              rw [show o + (v + 1) = q' + 1 by have := Hq.out; omega]
              exact h
            case measure => simp [intOf]; omega
          · obtain rfl : v = 4 := by omega
            have e4 : o + 4 = 4 * (c + 1) := by have := Ho.out; omega
            rw [e4] at F5
            clear e4
            go_wp2
            go_roundw
            case rel => exact ⟨c + 1, by omega, by go_num, Lib.hid F5.out.1, Lib.hid F5.out.2.1, Lib.hid F5.out.2.2.1, Lib.hid F5.out.2.2.2.1⟩
            case measure => simp [intOf]; omega
    · have hk4 : c = 4 := by omega
      have Hr : Hid (Arr wr g3 49 .u8 L) := Lib.hid (by have h := K3.out; rw [hk4, fill_all HL.out (Zs_length _)] at h; exact h)
      go_wp2_with (first
        | refine wp_load_arr arr16 rfl (.tmp 3) rfl rfl Hr.out HL.out ?_
        | refine wp_put_arr arr16 rfl (.tmp 2) (.tmp 44) rfl rfl (l' := L) rfl K2.out (Zs_length _) HL.out ?_)
      intro w5 H5 Hm5 Hs5
      go_wp2
      exact ret_arr arr16 rfl rfl H5.out HL.out rfl ⟨rfl, B3.out.trans (Hm5.out.below (fun j hj => by have := Hg.out; omega) B3.out.size)⟩

end Go.Proofs.YtacbpdampdikjaaDoor

namespace Go.Proofs.YtacbpdampdikjaaDoor
open Go.RowKit

set_option maxHeartbeats 1600000 in
theorem raadd_any (s t : List UInt8) (w : World) (hs : s.length = 16) (ht : t.length = 16) :
    Calls Tryd.prog 63 #[.agg (Nums .u8 (abn s)), .agg (Nums .u8 (abn t))] w (AnsA w .u8 (abn (aaddU s t))) := by
  have Hat : Hid (∀ k, k < 16 → ∃ x y : UInt8, (abn s)[k]? = some x.toNat ∧ (abn t)[k]? = some y.toNat ∧ (abn (aaddU s t))[k]? = some (x ^^^ y).toNat) := Lib.hid (fun k hk => by
    obtain ⟨x, y, h1, h2, h3⟩ := aadd_at (s := s) (t := t) (k := k) (by omega) (by omega)
    exact ⟨x, y, abn_get h1, abn_get h2, abn_get h3⟩)
  have Hl : Hid ((abn s).length = 16) := Lib.hid (by rw [abn_length, hs])
  have Hm : Hid ((abn t).length = 16) := Lib.hid (by rw [abn_length, ht])
  have HL : Hid ((abn (aaddU s t)).length = 16) := Lib.hid (by rw [abn_length, aadd_length hs ht])
  clear hs ht
  revert Hat Hl Hm HL
  generalize abn (aaddU s t) = L
  generalize abn s = l
  generalize abn t = m
  intro Hat Hl Hm HL
  go_enter Tryd.func63, Tryd.ntmps63
  go_wp2_with (refine wp_box_arr (k := .u8) rfl 49 (.tmp 0) rfl l rfl ?_)
  intro w1 g1 G1 H1 Hb1 Hs1
  go_wp2_with (refine wp_box_arr (k := .u8) rfl 49 (.tmp 1) rfl m rfl ?_)
  intro w2 g2 G2 H2 Hb2 Hs2
  go_wp2_with (refine wp_alloc_arr (k := .u8) rfl 49 rfl 16 zero16 ?_)
  intro w3 g3 G3 H3 Hb3 Hs3
  have Hg : Hid (w.heap.size ≤ g1 ∧ w.heap.size ≤ g2 ∧ w.heap.size ≤ g3 ∧ g1 ≠ g3 ∧ g2 ≠ g3 ∧ g1 ≠ g2) := Lib.hid (by have := G1.out; have := G2.out; have := G3.out; have := Hs1.out; have := Hs2.out; omega)
  have K1 : Hid (Arr w3 g1 49 .u8 (L.take 0 ++ l.drop 0)) := Lib.hid ((H1.out.below Hb2.out H1.out.lt).below Hb3.out (Nat.lt_of_lt_of_le H1.out.lt Hb2.out.size))
  have K2 : Hid (Arr w3 g2 49 .u8 m) := Lib.hid (H2.out.below Hb3.out H2.out.lt)
  have B3 : Hid (Below w.heap.size w w3) := Lib.hid ((Hb1.out.trans (Hb2.out.mono Hb1.out.size)).trans (Hb3.out.mono (Nat.le_trans Hb1.out.size Hb2.out.size)))
  clear H1 H2 Hb1 Hb2 Hb3 G1 G2 G3 Hs1 Hs2 Hs3
  go_wp2
  go_loopw [5] (fun i wr => ∃ k : Nat, k ≤ 16 ∧ i = .int .i64 (k : Int) ∧ Hid (Arr wr g2 49 .u8 m) ∧ Hid (Arr wr g3 49 .u8 (Zs 16)) ∧ Hid (Arr wr g1 49 .u8 (L.take k ++ l.drop k)) ∧ Hid (Below w.heap.size w wr)) (fun i _ => 16 - (intOf i).toNat)
  case atStart => exact ⟨0, by omega, rfl, K2, H3, K1, B3⟩
  case round =>
    clear K1 K2 B3 H3
    obtain ⟨k, hk, rfl, K2, K3, K1, B3⟩ := hrel
    by_cases hlt : k < 16
    · obtain ⟨x, y, hx, hy, hxy⟩ := Hat.out k hlt
      have hin := K1.out.at_ (afill_at hx (L := L) (by rw [HL.out]; omega))
      have hin2 := K2.out.at_ hy
      have hfz := K1.out.frozen k
      have hxor := gxor_u8 x y
      have Hy : Hid (L[k]? = some (x ^^^ y).toNat) := Lib.hid hxy
      clear hx hy hxy
      generalize x ^^^ y = z at *
      go_wp2
      go_region
      go_wp2
      go_roundw
      case rel =>
        refine ⟨k + 1, by omega, by go_num, Lib.hid (K2.out.other Hg.out.2.2.2.2.2.symm), Lib.hid (K3.out.other Hg.out.2.2.2.1.symm), Lib.hid ?_, Lib.hid (bdrewN (B3.out.setCell (p := ⟨g1, k, none⟩) Hg.out.1 _) 1)⟩
        rw [← afill_step Hy.out (by rw [Hl.out]; exact hlt)]
        exact K1.out.set
      case measure => simp [intOf]; omega
    · have hk4 : k = 16 := by omega
      have Hr : Hid (Arr wr g1 49 .u8 L) := Lib.hid (by have h := K1.out; rw [hk4, fill_all HL.out Hl.out] at h; exact h)
      go_wp2_with (first
        | refine wp_load_arr arr16 rfl (.tmp 2) rfl rfl Hr.out HL.out ?_
        | refine wp_put_arr arr16 rfl (.tmp 4) (.tmp 19) rfl rfl (l' := L) rfl K3.out (Zs_length _) HL.out ?_)
      intro w5 H5 Hm5 Hs5
      go_wp2
      exact ret_arr arr16 rfl rfl H5.out HL.out rfl ⟨rfl, B3.out.trans (Hm5.out.below (fun j hj => by have := Hg.out; omega) B3.out.size)⟩

end Go.Proofs.YtacbpdampdikjaaDoor

namespace Go.Proofs.YtacbpdampdikjaaDoor
open Go.RowKit

/-- What stands there behind n rounds. -/
def aroundsR (k s : List UInt8) (n : Nat) : List UInt8 := if n < 14 then aroundsB gboxU k s n else aencU k s
theorem aroundsR_lt {k s : List UInt8} {n : Nat} (h : n < 14) : aroundsR k s n = aroundsB gboxU k s n := if_pos h

set_option maxRecDepth 4096 in
set_option maxHeartbeats 1600000 in
theorem raenc_any (k s : List UInt8) (w : World) (hk : k.length = 240) (hs : s.length = 16) :
    Calls Tryd.prog 43 #[.agg (Nums .u8 (abn k)), .agg (Nums .u8 (abn s))] w (AnsA w .u8 (abn (aencU k s))) := by
  have Hl : ∀ x : List UInt8, x.length = 16 → Hid ((abn x).length = 16) := fun x hx => Lib.hid (by rw [abn_length, hx])
  have Hs := Lib.hid hs
  have Hr : Hid (∀ i, i < 15 → (aroundsR k s i).length = 16) := Lib.hid fun i hi => by
    unfold aroundsR
    split
    · exact arounds_length hk hs hi
    · exact aenc_length hk
  have Hkey : Hid (∀ i, i < 15 → (akeyAt k i).length = 16) := Lib.hid fun i hi => akeyAt_length hk hi
  have HA : Hid (∀ n, n < 13 → aaddU (amixU (ashiftU (asubU (aroundsR k s n)))) (akeyAt k (n + 1)) = aroundsR k s (n + 1)) := Lib.hid fun n hn => by rw [aroundsR_lt (show n < 14 by omega), aroundsR_lt (show n + 1 < 14 by omega)]; rfl
  have HB : Hid (aaddU (ashiftU (asubU (aroundsR k s 13))) (akeyAt k 14) = aroundsR k s 14) := Lib.hid rfl
  clear hk hs
  have cadd : ∀ (x y : List UInt8) (W : World), Hid (x.length = 16) → Hid (y.length = 16) → Calls Tryd.prog 63 #[.agg (Nums .u8 (abn x)), .agg (Nums .u8 (abn y))] W (AnsA W .u8 (abn (aaddU x y))) := fun x y W hx hy => raadd_any x y W hx.out hy.out
  go_enter Tryd.func43, Tryd.ntmps43
  go_wp2_with (refine wp_box_arr (k := .u8) rfl 51 (.tmp 0) rfl (abn k) rfl ?_)
  intro w1 g1 G1 H1 Hb1 Hs1
  go_wp2_with (refine wp_box_arr (k := .u8) rfl 49 (.tmp 1) rfl (abn s) rfl ?_)
  intro w2 g2 G2 H2 Hb2 Hs2
  go_wp2_with (refine wp_alloc_arr (k := .u8) rfl 49 rfl 16 zero16 ?_)
  intro w3 g3 G3 H3 Hb3 Hs3
  have Hg : Hid (w.heap.size ≤ g1 ∧ w.heap.size ≤ g2 ∧ w.heap.size ≤ g3 ∧ g1 ≠ g3 ∧ g2 ≠ g3 ∧ g1 ≠ g2) := Lib.hid (by have := G1.out; have := G2.out; have := G3.out; have := Hs1.out; have := Hs2.out; omega)
  have F3 : Hid (SK w [(g2, 49, abn s), (g1, 51, abn k), (g3, 49, Zs 16)] w3) := Lib.hid ⟨by
    intro x hx
    simp only [List.mem_cons, List.not_mem_nil, or_false] at hx
    rcases hx with rfl | rfl | rfl
    · exact H2.out.below Hb3.out H2.out.lt
    · exact (H1.out.below Hb2.out H1.out.lt).below Hb3.out (Nat.lt_of_lt_of_le H1.out.lt Hb2.out.size)
    · exact H3.out, abon (abon Hb1.out Hb2.out) Hb3.out⟩
  have Hne : Hid (∀ x ∈ [(g1, 51, abn k), (g3, 49, Zs 16)], x.1 ≠ g2) := Lib.hid (by
    have h5 := Hg.out
    intro x hx
    simp only [List.mem_cons, List.not_mem_nil, or_false] at hx
    rcases hx with rfl | rfl
    · exact h5.2.2.2.2.2
    · exact h5.2.2.2.2.1.symm)
  clear H1 H2 H3 Hb1 Hb2 Hb3 G1 G2 G3 Hs1 Hs2 Hs3
  have K1 : Hid (Arr w3 g1 51 .u8 (abn k)) := Lib.hid (F3.out.1 (g1, 51, abn k) (by simp))
  have ix0 := fun W => run_indexAt_w (b := g1) arrKeysR info_16 0 0 0 rfl (by omega) (by omega) W
  go_wp2_with (first
    | refine wp_load_arr arr16 rfl (.tmp 3) rfl rfl (sk_hd F3.out) (Hl s Hs.out).out ?_
    | refine wp_load_part (ns := abn (akeyAt k 0)) arr16.under rfl info_16 rfl (.tmp 7) rfl 0 rfl K1.out (Hl _ (Hkey.out 0 (by omega))).out (fun j x hx => akeyAt_get (i := 0) j x hx) ?_)
  refine (cadd _ _ _ Hs (Lib.hid (Hkey.out 0 (by omega)))).mono ?_
  rintro e w4 ⟨rfl, hb4⟩
  have F4 := Lib.hid (sk_below F3.out hb4)
  have Hrd0 : Hid (aroundsR k s 0 = aaddU s (akeyAt k 0)) := Lib.hid rfl
  have Hrl := Hr.out 0 (by omega)
  rw [← Hrd0.out]
  clear hb4 F3 K1
  go_wp2_with (refine wp_put_arr arr16 rfl (.tmp 3) (.tmp 9) rfl rfl (l' := abn (aroundsR k s 0)) rfl (sk_hd F4.out) (Hl _ Hs.out).out (Hl _ Hrl).out ?_)
  intro w6 H6 Hm6 Hs6
  have F6 : Hid (SK w [(g2, 49, abn (aroundsR k s 0)), (g1, 51, abn k), (g3, 49, Zs 16)] w6) := Lib.hid (sk_put F4.out Hm6.out H6.out Hne.out Hg.out.2.1)
  clear F4 Hm6 Hs6 H6 Hrd0 Hrl ix0 Hs
  go_wp2
  go_loopw [5] (fun i wr => ∃ n : Nat, n ≤ 14 ∧ i = .int .i64 ((n : Int) + 1) ∧ Hid (SK w [(g2, 49, abn (aroundsR k s n)), (g1, 51, abn k), (g3, 49, Zs 16)] wr)) (fun i _ => 15 - (intOf i).toNat)
  case atStart => exact ⟨0, by omega, rfl, F6⟩
  case round =>
    clear F6
    obtain ⟨n, hn, rfl, F6⟩ := hrel
    by_cases hlt : n < 14
    · obtain ⟨q, hq⟩ : ∃ q, (n + 1) * 16 = q := ⟨_, rfl⟩
      have ix := fun W => run_indexAt_w (b := g1) arrKeysR info_16 (n + 1) q ((n : Int) + 1) (by omega) (by omega) hq W
      have Hq : Hid (16 * (n + 1) = q) := Lib.hid (by omega)
      clear hq
      have Hkl := Lib.hid (Hkey.out (n + 1) (by omega))
      have Hsl := Lib.hid (Hr.out n (by omega))
      have Hpart : Hid (∀ j x : Nat, (abn (akeyAt k (n + 1)))[j]? = some x → (abn k)[q + j]? = some x) := Lib.hid (fun j x hx => by have h := akeyAt_get (i := n + 1) j x hx; rw [Hq.out] at h; exact h)
      have Hsn := Lib.hid (Hr.out (n + 1) (by omega))
      have csub := fun W => rasub_any (aroundsR k s n) W Hsl.out
      have H1l : Hid ((asubU (aroundsR k s n)).length = 16) := Lib.hid (by rw [asubU, asubB_length]; exact Hsl.out)
      have cshift := fun W => rashift_any (asubU (aroundsR k s n)) W H1l.out
      have H2l : Hid ((ashiftU (asubU (aroundsR k s n))).length = 16) := Lib.hid (ashift_length _)
      have cmix := fun W => ramix_any (ashiftU (asubU (aroundsR k s n))) W H2l.out
      have H3l : Hid ((amixU (ashiftU (asubU (aroundsR k s n)))).length = 16) := Lib.hid (amix_length H2l.out)
      have caddA := fun W => cadd (amixU (ashiftU (asubU (aroundsR k s n)))) (akeyAt k (n + 1)) W H3l Hkl
      have caddB := fun W => cadd (ashiftU (asubU (aroundsR k s n))) (akeyAt k (n + 1)) W H2l Hkl
      have HX0 := Hl _ Hsl.out
      have HX2 := Hl _ H2l.out
      have HX3 := Hl _ H3l.out
      have HXk := Hl _ Hkl.out
      have HXn := Hl _ Hsn.out
      obtain ⟨X4, hX4⟩ : ∃ X4, abn (aroundsR k s (n + 1)) = X4 := ⟨_, rfl⟩
      have HX4 := Lib.hid hX4
      rw [hX4] at HXn
      clear hX4
      have Hcase : (n < 13 → Hid (∀ W, Calls Tryd.prog 63 #[.agg (Nums .u8 (abn (amixU (ashiftU (asubU (aroundsR k s n)))))), .agg (Nums .u8 (abn (akeyAt k (n + 1))))] W (AnsA W .u8 X4))) ∧ (n = 13 → Hid (∀ W, Calls Tryd.prog 63 #[.agg (Nums .u8 (abn (ashiftU (asubU (aroundsR k s n))))), .agg (Nums .u8 (abn (akeyAt k (n + 1))))] W (AnsA W .u8 X4))) := ⟨fun h => by
          rw [HA.out n h, HX4.out] at caddA
          exact Lib.hid caddA, fun h => by
          subst h
          rw [HB.out, HX4.out] at caddB
          exact Lib.hid caddB⟩
      clear Hsl Hkl Hsn H1l H2l H3l caddA caddB
      revert F6 csub cshift cmix Hcase HX0 HX2 HX3 HXk Hpart
      generalize abn (amixU (ashiftU (asubU (aroundsR k s n)))) = X3
      generalize abn (ashiftU (asubU (aroundsR k s n))) = X2
      generalize abn (asubU (aroundsR k s n)) = X1
      generalize abn (aroundsR k s n) = X0
      generalize abn (akeyAt k (n + 1)) = XK
      intro F6 Hpart csub cshift cmix HX0 HX2 HX3 HXk Hcase
      go_wp2_with (refine wp_load_arr arr16 rfl (.tmp 3) rfl rfl (sk_hd F6.out) HX0.out ?_)
      refine (csub _).mono ?_
      rintro e w7 ⟨rfl, hb7⟩
      have F7 := Lib.hid (sk_below F6.out hb7)
      clear hb7 F6
      go_wp2_with fail
      refine (cshift _).mono ?_
      rintro e w8 ⟨rfl, hb8⟩
      have F8 := Lib.hid (sk_below F7.out hb8)
      clear hb8 F7
      go_wp2_with (refine wp_put_arr arr16 rfl (.tmp 3) (.tmp 16) rfl rfl (l' := X2) rfl (sk_hd F8.out) HX0.out HX2.out ?_)
      intro w9 H9 Hm9 Hs9
      have F9 : Hid (SK w [(g2, 49, X2), (g1, 51, abn k), (g3, 49, Zs 16)] w9) := Lib.hid (sk_put F8.out Hm9.out H9.out Hne.out Hg.out.2.1)
      clear H9 Hm9 Hs9 F8
      by_cases h13 : n < 13
      · have caddA := Hcase.1 h13
        go_wp2_with (refine wp_load_arr arr16 rfl (.tmp 3) rfl rfl (sk_hd F9.out) HX2.out ?_)
        refine (cmix _).mono ?_
        rintro e wa ⟨rfl, hba⟩
        have Fa := Lib.hid (sk_below F9.out hba)
        clear hba F9
        go_wp2_with (refine wp_put_arr arr16 rfl (.tmp 3) (.tmp 20) rfl rfl (l' := X3) rfl (sk_hd Fa.out) HX2.out HX3.out ?_)
        intro wb Hb Hmb Hsb
        have Fb : Hid (SK w [(g2, 49, X3), (g1, 51, abn k), (g3, 49, Zs 16)] wb) := Lib.hid (sk_put Fa.out Hmb.out Hb.out Hne.out Hg.out.2.1)
        clear Hb Hmb Hsb Fa
        go_wp2_with fail
        refine wp_region_ends (fun w' => SK w [(g2, 49, X3), (g1, 51, abn k), (g3, 49, Zs 16)] w') 5 (by kernel_rfl) ?_
        refine wpAnyE_take (i := 0) (some 21) rfl rfl (by kernel_rfl) (fun _ _ _ h => h) (yields_arr (k := .u8) (l := X3) (off := 0) (b := g2) (by rfl) _ rfl rfl (fun w' h => (sk_hd h).range (fun j x hx => by rw [Nat.zero_add]; exact hx)) arr16.under rfl (by rw [HX3.out]; exact info_16)) (sk_drewN Fb.out 1) ?_
        simp only [Act.put, List.setIfInBounds_toArray, List.set_cons_zero, List.set_cons_succ]
        refine wpAnyE_take (i := 1) (v := .int .i64 ((n : Int) + 1)) (some 22) rfl rfl (by kernel_rfl) (fun _ _ _ h => h) (.inl ⟨by rfl, fun _ _ => rfl⟩) (sk_drewN Fb.out 1) ?_
        simp only [Act.put, List.setIfInBounds_toArray, List.set_cons_zero, List.set_cons_succ]
        refine wpAnyE_take (i := 2) (v := .pointer (some ⟨g1, q, none⟩)) (some 23) rfl rfl (by kernel_rfl) (fun _ _ _ h => h) (.inl ⟨by rfl, fun W _ => by go_simp⟩) (sk_drewN Fb.out 1) ?_
        simp only [Act.put, List.setIfInBounds_toArray, List.set_cons_zero, List.set_cons_succ]
        refine wpAnyE_take (i := 3) (some 24) rfl rfl (by kernel_rfl) (fun _ _ _ h => h) (yields_arr (k := .u8) (l := XK) (off := q) (b := g1) (by rfl) _ rfl rfl (fun w' h => Arr.range (t := 51) (l := abn k) (h.1 (g1, 51, abn k) (by simp)) Hpart.out) arr16.under rfl (by rw [HXk.out]; exact info_16)) (sk_drewN Fb.out 1) ?_
        simp only [Act.put, List.setIfInBounds_toArray, List.set_cons_zero, List.set_cons_succ]
        refine wpAnyE_one (i := 4) (by kernel_rfl) rfl (fun K4 hK4 => ?_)
        refine stepE_call (v := .agg (Nums .u8 X4)) (R := fun w' => Below _ _ w') (some 25) rfl rfl 63 Tryd.func63 (by kernel_rfl) rfl _ _ rfl [.agg (Nums .u8 X3), .agg (Nums .u8 XK)] rfl (caddA.out _) (fun W4 hW4 => hK4.out _ _ (.inr (sk_below (sk_drewN Fb.out 1) hW4)) ?_)
        have S4 := Lib.hid (sk_below (sk_drewN Fb.out 1) hW4)
        clear hW4
        simp only [Act.put, List.setIfInBounds_toArray, List.set_cons_zero, List.set_cons_succ]
        refine wpAnyE_one (i := 5) (by kernel_rfl) rfl (fun K5 hK5 => ?_)
        refine stepE_put arr16 none rfl rfl _ _ rfl rfl rfl (sk_hd S4.out) HX3.out HXn.out (fun W5 A5 M5 _ => hK5.out _ _ (.inl rfl) ?_)
        have S5 := Lib.hid (sk_put S4.out M5.out A5.out Hne.out Hg.out.2.1)
        rw [← HX4.out] at S5
        clear hK4 hK5 K4 K5 S4 M5 A5 Fb
        simp only [Act.put]
        refine wpAnyE_done (by kernel_rfl) ?_
        go_wp2
        go_roundw
        case rel => exact ⟨n + 1, by omega, by go_num, S5⟩
        case measure => simp [intOf]; omega
      · have caddB := Hcase.2 (by omega)
        go_wp2_with fail
        refine wp_region_ends (fun w' => SK w [(g2, 49, X2), (g1, 51, abn k), (g3, 49, Zs 16)] w') 5 (by kernel_rfl) ?_
        refine wpAnyE_take (i := 0) (some 21) rfl rfl (by kernel_rfl) (fun _ _ _ h => h) (yields_arr (k := .u8) (l := X2) (off := 0) (b := g2) (by rfl) _ rfl rfl (fun w' h => (sk_hd h).range (fun j x hx => by rw [Nat.zero_add]; exact hx)) arr16.under rfl (by rw [HX2.out]; exact info_16)) (sk_drewN F9.out 1) ?_
        simp only [Act.put, List.setIfInBounds_toArray, List.set_cons_zero, List.set_cons_succ]
        refine wpAnyE_take (i := 1) (v := .int .i64 ((n : Int) + 1)) (some 22) rfl rfl (by kernel_rfl) (fun _ _ _ h => h) (.inl ⟨by rfl, fun _ _ => rfl⟩) (sk_drewN F9.out 1) ?_
        simp only [Act.put, List.setIfInBounds_toArray, List.set_cons_zero, List.set_cons_succ]
        refine wpAnyE_take (i := 2) (v := .pointer (some ⟨g1, q, none⟩)) (some 23) rfl rfl (by kernel_rfl) (fun _ _ _ h => h) (.inl ⟨by rfl, fun W _ => by go_simp⟩) (sk_drewN F9.out 1) ?_
        simp only [Act.put, List.setIfInBounds_toArray, List.set_cons_zero, List.set_cons_succ]
        refine wpAnyE_take (i := 3) (some 24) rfl rfl (by kernel_rfl) (fun _ _ _ h => h) (yields_arr (k := .u8) (l := XK) (off := q) (b := g1) (by rfl) _ rfl rfl (fun w' h => Arr.range (t := 51) (l := abn k) (h.1 (g1, 51, abn k) (by simp)) Hpart.out) arr16.under rfl (by rw [HXk.out]; exact info_16)) (sk_drewN F9.out 1) ?_
        simp only [Act.put, List.setIfInBounds_toArray, List.set_cons_zero, List.set_cons_succ]
        refine wpAnyE_one (i := 4) (by kernel_rfl) rfl (fun K4 hK4 => ?_)
        refine stepE_call (v := .agg (Nums .u8 X4)) (R := fun w' => Below _ _ w') (some 25) rfl rfl 63 Tryd.func63 (by kernel_rfl) rfl _ _ rfl [.agg (Nums .u8 X2), .agg (Nums .u8 XK)] rfl (caddB.out _) (fun W4 hW4 => hK4.out _ _ (.inr (sk_below (sk_drewN F9.out 1) hW4)) ?_)
        have S4 := Lib.hid (sk_below (sk_drewN F9.out 1) hW4)
        clear hW4
        simp only [Act.put, List.setIfInBounds_toArray, List.set_cons_zero, List.set_cons_succ]
        refine wpAnyE_one (i := 5) (by kernel_rfl) rfl (fun K5 hK5 => ?_)
        refine stepE_put arr16 none rfl rfl _ _ rfl rfl rfl (sk_hd S4.out) HX2.out HXn.out (fun W5 A5 M5 _ => hK5.out _ _ (.inl rfl) ?_)
        have S5 := Lib.hid (sk_put S4.out M5.out A5.out Hne.out Hg.out.2.1)
        rw [← HX4.out] at S5
        clear hK4 hK5 K4 K5 S4 M5 A5 F9
        simp only [Act.put]
        refine wpAnyE_done (by kernel_rfl) ?_
        go_wp2
        go_roundw
        case rel => exact ⟨n + 1, by omega, by go_num, S5⟩
        case measure => simp [intOf]; omega
    · obtain rfl : n = 14 := by omega
      have Hfin : Hid (aroundsR k s 14 = aencU k s) := Lib.hid rfl
      have HXn := Hl _ (Hr.out 14 (by omega))
      rw [Hfin.out] at F6 HXn
      go_wp2_with (first
        | refine wp_load_arr arr16 rfl (.tmp 3) rfl rfl (sk_hd F6.out) HXn.out ?_
        | refine wp_put_arr arr16 rfl (.tmp 4) (.tmp 26) rfl rfl (l' := abn (aencU k s)) rfl (F6.out.1 (g3, 49, Zs 16) (by simp)) (Zs_length _) HXn.out ?_)
      intro w5 H5 Hm5 Hs5
      go_wp2
      exact ret_arr arr16 rfl rfl H5.out HXn.out rfl ⟨rfl, F6.out.2.trans (Hm5.out.below (fun j hj => by rw [hj]; exact Hg.out.2.2.1) F6.out.2.size)⟩

end Go.Proofs.YtacbpdampdikjaaDoor

namespace Go.Proofs.YtacbpdampdikjaaDoor
open Go.RowKit

theorem rright_any (m d n c : Nat) (A C : Option Addr) (w : World) : Calls Tryd.prog 41 #[.slice A m d, .slice C n c] w (fun e w' => e = .returned (.bool (decide (m = 32 ∧ n = 16))) ∧ w' = w) := by
  by_cases hm : m = 32
  · subst hm
    by_cases hn : n = 16
    · subst hn
      go_enter Tryd.func41, Tryd.ntmps41
      go_wp2
      go_ret
      exact ⟨rfl, rfl⟩
    · have h1 : ((n : Int) == 16) = false := by simp; omega
      go_enter Tryd.func41, Tryd.ntmps41
      go_wp2
      go_ret
      exact ⟨by rw [decide_eq_false (by omega)]; rfl, rfl⟩
  · have h1 : ((m : Int) == 32) = false := by simp; omega
    go_enter Tryd.func41, Tryd.ntmps41
    go_wp2
    go_ret
    exact ⟨by rw [decide_eq_false (by omega)]; rfl, rfl⟩

end Go.Proofs.YtacbpdampdikjaaDoor

namespace Go.Proofs.YtacbpdampdikjaaDoor
open Go.RowKit

theorem rcstream_form (m d n c : Nat) (A C : Option Addr) (z : Int) (w : World) (h : m ≠ 32 ∨ n ≠ 16) :
    Calls Tryd.prog 29 #[.slice A m d, .slice C n c, .int .i64 z] w (NewRF w [] 4) := by
  have c1 := fun W => rright_any m d n c A C W
  rw [decide_eq_false (by omega)] at c1
  go_enter Tryd.func29, Tryd.ntmps29
  go_wp2_with fail
  refine (c1 _).mono ?_
  rintro e w1 ⟨rfl, rfl⟩
  go_wp2
  go_ret2
  exact ⟨none, 0, rfl, Rd.nil, SlOK.nil, Below.refl _ _⟩
theorem rcstream_range (d c : Nat) (A C : Option Addr) (z : Int) (w : World) (hz : z < 0 ∨ 65536 < z) :
    Calls Tryd.prog 29 #[.slice A 32 d, .slice C 16 c, .int .i64 z] w (NewRF w [] 2) := by
  have c1 := fun W => rright_any 32 d 16 c A C W
  rw [decide_eq_true (by omega)] at c1
  rcases hz with hz | hz
  all_goals
    go_enter Tryd.func29, Tryd.ntmps29
    go_wp2_with fail
    refine (c1 _).mono ?_
    rintro e w1 ⟨rfl, rfl⟩
    go_wp2
    go_ret2
    exact ⟨none, 0, rfl, Rd.nil, SlOK.nil, Below.refl _ _⟩

set_option maxRecDepth 4096 in
set_option maxHeartbeats 3200000 in
theorem rcstream_any (key s : List UInt8) (c d B n : Nat) (A C : Option Addr) (w : World) (hr : Rd w B A 32 (Byt key)) (hs : Rd w B C 16 (Byt s)) (hB : B ≤ w.heap.size) (hn : n ≤ 65536) :
    Calls Tryd.prog 29 #[.slice A 32 c, .slice C 16 d, .int .i64 (n : Int)] w (NewRF w (cstreamU (akeysU key) s n) 0) := by
  have c1 := fun W => rright_any 32 c 16 d A C W
  rw [decide_eq_true (by omega)] at c1
  have hk : (akeysU key).length = 240 := akeys_length hr.bytes
  have hsl := hs.bytes
  have Hr := Lib.hid hr
  have Hs := Lib.hid hs
  have c2 := fun W (h : Below w.heap.size w W) => rasched_key key c B A W (Hr.out.below (h.mono hB)) (Nat.le_trans hB h.size)
  have c3 := fun i W (h : Below w.heap.size w W) hi => rcounter_any s i B d C W (Hs.out.below (h.mono hB)) (Nat.le_trans hB h.size) hi
  have c4 : ∀ i W, Calls Tryd.prog 43 #[.agg (Nums .u8 (abn (akeysU key))), .agg (Nums .u8 (abn (cplusU s i)))] W (AnsA W .u8 (abn (cblkU (akeysU key) s i))) := fun i W => raenc_any (akeysU key) (cplusU s i) W hk (cplus_length hsl)
  have Hkl : Hid ((abn (akeysU key)).length = 240) := Lib.hid (by rw [abn_length, hk])
  have Hbl : Hid (∀ i, (cblkU (akeysU key) s i).length = 16) := Lib.hid (cblk_length hk)
  have Hstep : Hid (∀ i, cblksU (akeysU key) s i ++ cblkU (akeysU key) s i = cblksU (akeysU key) s (i + 1)) := Lib.hid (fun _ => rfl)
  have H0 : Hid (cblksU (akeysU key) s 0 = []) := Lib.hid rfl
  have Hfin : Hid (∀ m, n ≤ 16 * m → (cblksU (akeysU key) s m).take n = cstreamU (akeysU key) s n) := Lib.hid (fun m h => cblks_take hk h)
  have Hlen := Lib.hid (cstream_length (s := s) hk n)
  clear hr hs hk hsl Hr Hs
  revert c2 c3 c4 Hkl Hbl Hstep H0 Hfin Hlen
  generalize cstreamU (akeysU key) s n = X
  generalize cblksU (akeysU key) s = bs
  generalize cblkU (akeysU key) s = bl
  generalize abn (akeysU key) = K
  generalize cplusU s = ct
  intro c2 c3 c4 Hkl Hbl Hstep H0 Hfin Hlen
  go_enter Tryd.func29, Tryd.ntmps29
  go_wp2_with fail
  refine (c1 _).mono ?_
  rintro e w1 ⟨rfl, hw1⟩
  have hw1 := hw1.symm
  subst hw1
  go_wp2_with fail
  refine (c2 _ (Below.refl _ _)).mono ?_
  rintro e w2 ⟨rfl, hb⟩
  have B2 := Lib.hid hb
  clear hb c1 c2
  go_wp2_with (refine wp_alloc_arr (k := .u8) rfl 51 rfl 240 zeroKeysR ?_)
  intro w4 g8 G4 H4 Hb4 Hs4
  go_wp2_with (refine wp_put_w arrKeysR rfl (.tmp 8) (.tmp 27) rfl rfl (l' := K) rfl H4.out (Zs_length _) Hkl.out ?_)
  intro w5 H5 Hm5 Hs5
  have Hg8 : Hid (w.heap.size ≤ g8) := Lib.hid (by have := G4.out; have := B2.out.size; omega)
  have B5 : Hid (Below w.heap.size w w5) := Lib.hid (by
    have h := abon B2.out Hb4.out
    exact h.trans (Hm5.out.below (fun j hj => by rw [hj]; exact Hg8.out) h.size))
  clear B2 H4 Hb4 Hs4 G4 Hm5 Hs5
  -- what is owned lies behind w5's blocks
  have Hg8' : Hid (g8 < w5.heap.size) := Lib.hid H5.out.lt
  have hbs5 := B5.out.size
  obtain ⟨D, hD⟩ : ∃ D, w5.heap.size = D := ⟨_, rfl⟩
  have B5r : Hid (Below D w5 w5) := Lib.hid (Below.refl _ _)
  have Hd : Hid (w.heap.size ≤ D ∧ g8 < D) := Lib.hid (by have := Hg8'.out; omega)
  have HD5 : Hid (D ≤ w5.heap.size) := Lib.hid (by omega)
  have Hnil : Hid (w5.ownsRow D 5 1 (.slice none 0 0) 0 (Byt (bs 0))) := Lib.hid (by rw [H0.out]; exact World.ownsRow_nil _ _ _ _)
  clear hD hbs5
  go_wp2
  go_loopw [10, 11] (fun v u wr => ∃ (i p c' : Nat) (A' : Option Addr), v = .slice A' p c' ∧ u = .int .i64 (i : Int) ∧ p < n + 16 ∧ Hid (16 * i = p) ∧ (p = 0 → A' = none ∧ c' = 0) ∧ Hid (wr.ownsRow D 5 1 (.slice A' p c') p (Byt (bs i))) ∧ Hid (Below D w5 wr) ∧ Hid (D ≤ wr.heap.size)) (fun v _ _ => match v with | .slice _ p _ => n - p | _ => 0)
  case atStart => exact ⟨0, 0, 0, none, rfl, rfl, by omega, Lib.hid rfl, fun _ => ⟨rfl, rfl⟩, Hnil, B5r, HD5⟩
  case round =>
    clear Hnil B5r HD5
    obtain ⟨i, p, c', A', rfl, rfl, hp, Hp, h0, Hown, Hb, HDr⟩ := hrel
    by_cases hlt : p < n
    · clear h0
      have HK : Hid (Arr wr g8 51 .u8 K) := Lib.hid (H5.out.below Hb.out Hd.out.2)
      have BW : Hid (Below w.heap.size w wr) := Lib.hid (B5.out.trans (Hb.out.mono Hd.out.1))
      have c5 : ∀ W, Below wr.heap.size wr W → Calls Tryd.prog 44 #[.slice C 16 d, .int .i64 (i : Int)] W (AnsA W .u8 (abn (ct i))) := fun W h => c3 i W (abon BW.out h) (by have := Hp.out; omega)
      have c6 := c4 i
      have Hbi : Hid ((abn (bl i)).length = 16) := Lib.hid (by rw [abn_length, Hbl.out])
      revert c5 c6 Hbi
      generalize abn (ct i) = M
      generalize hL : abn (bl i) = L
      intro c5 c6 Hbi
      have HL := Lib.hid hL
      clear hL
      go_wp2_with fail
      refine wp_region_to (fun g a => (((((a.put (some 35) (.agg (Nums .u8 K))).put (some 36) (.slice C 16 d)).put (some 37) (.int .i64 (i : Int))).put (some 38) (.agg (Nums .u8 M))).put (some 39) (.agg (Nums .u8 L))).put (some 12) (.pointer (some ⟨g, 0, none⟩))) (fun g w' => Below wr.heap.size wr w' ∧ Arr w' g 49 .u8 L ∧ wr.heap.size ≤ g) ?_ ?_
      · refine wp_region_heldD (S := fun w' => Below wr.heap.size wr w') (by kernel_rfl) ?_
        refine wpAnyH_takeD (i := 0) (some 35) rfl rfl (by kernel_rfl) (fun _ _ _ h => by cases h.1) (yields_arr (k := .u8) (l := K) (off := 0) (b := g8) (by rfl) _ rfl rfl (fun w' h => (HK.out.below h HK.out.lt).range (fun j x hx => by rw [Nat.zero_add]; exact hx)) arrKeysR.under rfl (by rw [Hkl.out]; exact arrKeysR.size)) ((bdrewN (Below.refl _ _) 1 : Below wr.heap.size wr (wr.drewN 1))) ?_
        simp only [Act.put, List.setIfInBounds_toArray, List.set_cons_zero, List.set_cons_succ]
        refine wpAnyH_takeD (i := 1) (v := .slice C 16 d) (some 36) rfl rfl (by kernel_rfl) (fun _ _ _ h => by cases h.1) (.inl ⟨by rfl, fun W _ => rfl⟩) ((bdrewN (Below.refl _ _) 1 : Below wr.heap.size wr (wr.drewN 1))) ?_
        simp only [Act.put, List.setIfInBounds_toArray, List.set_cons_zero, List.set_cons_succ]
        refine wpAnyH_takeD (i := 2) (v := .int .i64 (i : Int)) (some 37) rfl rfl (by kernel_rfl) (fun _ _ _ h => by cases h.1) (.inl ⟨by rfl, fun W _ => rfl⟩) ((bdrewN (Below.refl _ _) 1 : Below wr.heap.size wr (wr.drewN 1))) ?_
        simp only [Act.put, List.setIfInBounds_toArray, List.set_cons_zero, List.set_cons_succ]
        refine wpAnyH_twoD (i := 3) (j := 5) (by kernel_rfl) rfl rfl (fun K1 hK1 => ?_) (fun K1 hK1 => ?_)
        · refine stepE_callW (v := .agg (Nums .u8 M)) (R := fun w' => Below _ _ w') (some 38) rfl (by rfl) 44 Tryd.func44 (by kernel_rfl) rfl _ _ rfl [.slice C 16 d, .int .i64 (i : Int)] rfl (c5 _ ((bdrewN (Below.refl _ _) 1 : Below wr.heap.size wr (wr.drewN 1)))) (fun WQ1 hW => hK1.out _ _ (abon ((bdrewN (Below.refl _ _) 1 : Below wr.heap.size wr (wr.drewN 1))) hW) ?_)
          have Q1 := Lib.hid (abon ((bdrewN (Below.refl _ _) 1 : Below wr.heap.size wr (wr.drewN 1))) hW)
          clear hW hK1 K1
          simp only [Act.put, List.setIfInBounds_toArray, List.set_cons_zero, List.set_cons_succ]
          refine wpAnyH_twoD (i := 4) (j := 5) (by kernel_rfl) rfl rfl (fun K1 hK1 => ?_) (fun K1 hK1 => ?_)
          · refine stepE_callW (v := .agg (Nums .u8 L)) (R := fun w' => Below _ _ w') (some 39) rfl (by rfl) 43 Tryd.func43 (by kernel_rfl) rfl _ _ rfl [.agg (Nums .u8 K), .agg (Nums .u8 M)] rfl (c6 _) (fun WQ2 hW => hK1.out _ _ (abon (Q1.out) hW) ?_)
            have Q2 := Lib.hid (abon (Q1.out) hW)
            clear hW hK1 K1
            simp only [Act.put, List.setIfInBounds_toArray, List.set_cons_zero, List.set_cons_succ]
            refine wpAnyH_oneD (i := 5) (by kernel_rfl) rfl (fun K1 hK1 => ?_)
            refine stepE_alloc (k := .u8) (some 12) rfl rfl 49 rfl 16 zero16 (fun WQ3 g G HA hW => hK1.out _ _ (abon (Q2.out) hW.out) ?_)
            have Q3 := Lib.hid (abon (Q2.out) hW.out)
            have Gg : Hid (wr.heap.size ≤ g) := Lib.hid (by rw [G.out]; exact (Q2.out).size)
            clear hW hK1 K1 G
            simp only [Act.put, List.setIfInBounds_toArray, List.set_cons_zero, List.set_cons_succ]
            refine wpAnyH_oneD (i := 6) (by kernel_rfl) rfl (fun K1 hK1 => ?_)
            refine stepE_put arr16 none rfl rfl _ _ rfl rfl rfl HA.out (Zs_length _) Hbi.out (fun W9 A9 M9 _ => hK1.out _ _ (Q3.out.trans (M9.out.below (fun j hj => by rw [hj]; exact Gg.out) (Q3.out).size)) ?_)
            refine wpAnyH_doneD (by kernel_rfl) ⟨rfl, g, rfl, Q3.out.trans (M9.out.below (fun j hj => by rw [hj]; exact Gg.out) (Q3.out).size), A9.out, Gg.out⟩
          · refine stepE_alloc (k := .u8) (some 12) rfl rfl 49 rfl 16 zero16 (fun WQ2 g G HA hW => hK1.out _ _ (abon (Q1.out) hW.out) ?_)
            have Q2 := Lib.hid (abon (Q1.out) hW.out)
            have Gg : Hid (wr.heap.size ≤ g) := Lib.hid (by rw [G.out]; exact (Q1.out).size)
            clear hW hK1 K1 G
            simp only [Act.put, List.setIfInBounds_toArray, List.set_cons_zero, List.set_cons_succ]
            refine wpAnyH_oneD (i := 4) (by kernel_rfl) rfl (fun K1 hK1 => ?_)
            refine stepE_callW (v := .agg (Nums .u8 L)) (R := fun w' => Below _ _ w') (some 39) rfl (by rfl) 43 Tryd.func43 (by kernel_rfl) rfl _ _ rfl [.agg (Nums .u8 K), .agg (Nums .u8 M)] rfl (c6 _) (fun WQ3 hW => hK1.out _ _ (abon (Q2.out) hW) ?_)
            have Q3 := Lib.hid (abon (Q2.out) hW)
            replace HA := Lib.hid (HA.out.below hW HA.out.lt)
            clear hW hK1 K1
            simp only [Act.put, List.setIfInBounds_toArray, List.set_cons_zero, List.set_cons_succ]
            refine wpAnyH_oneD (i := 6) (by kernel_rfl) rfl (fun K1 hK1 => ?_)
            refine stepE_put arr16 none rfl rfl _ _ rfl rfl rfl HA.out (Zs_length _) Hbi.out (fun W9 A9 M9 _ => hK1.out _ _ (Q3.out.trans (M9.out.below (fun j hj => by rw [hj]; exact Gg.out) (Q3.out).size)) ?_)
            refine wpAnyH_doneD (by kernel_rfl) ⟨rfl, g, rfl, Q3.out.trans (M9.out.below (fun j hj => by rw [hj]; exact Gg.out) (Q3.out).size), A9.out, Gg.out⟩
        · refine stepE_alloc (k := .u8) (some 12) rfl rfl 49 rfl 16 zero16 (fun WQ1 g G HA hW => hK1.out _ _ (abon ((bdrewN (Below.refl _ _) 1 : Below wr.heap.size wr (wr.drewN 1))) hW.out) ?_)
          have Q1 := Lib.hid (abon ((bdrewN (Below.refl _ _) 1 : Below wr.heap.size wr (wr.drewN 1))) hW.out)
          have Gg : Hid (wr.heap.size ≤ g) := Lib.hid (by rw [G.out]; exact ((bdrewN (Below.refl _ _) 1 : Below wr.heap.size wr (wr.drewN 1))).size)
          clear hW hK1 K1 G
          simp only [Act.put, List.setIfInBounds_toArray, List.set_cons_zero, List.set_cons_succ]
          refine wpAnyH_oneD (i := 3) (by kernel_rfl) rfl (fun K1 hK1 => ?_)
          refine stepE_callW (v := .agg (Nums .u8 M)) (R := fun w' => Below _ _ w') (some 38) rfl (by rfl) 44 Tryd.func44 (by kernel_rfl) rfl _ _ rfl [.slice C 16 d, .int .i64 (i : Int)] rfl (c5 _ (Q1.out)) (fun WQ2 hW => hK1.out _ _ (abon (Q1.out) hW) ?_)
          have Q2 := Lib.hid (abon (Q1.out) hW)
          replace HA := Lib.hid (HA.out.below hW HA.out.lt)
          clear hW hK1 K1
          simp only [Act.put, List.setIfInBounds_toArray, List.set_cons_zero, List.set_cons_succ]
          refine wpAnyH_oneD (i := 4) (by kernel_rfl) rfl (fun K1 hK1 => ?_)
          refine stepE_callW (v := .agg (Nums .u8 L)) (R := fun w' => Below _ _ w') (some 39) rfl (by rfl) 43 Tryd.func43 (by kernel_rfl) rfl _ _ rfl [.agg (Nums .u8 K), .agg (Nums .u8 M)] rfl (c6 _) (fun WQ3 hW => hK1.out _ _ (abon (Q2.out) hW) ?_)
          have Q3 := Lib.hid (abon (Q2.out) hW)
          replace HA := Lib.hid (HA.out.below hW HA.out.lt)
          clear hW hK1 K1
          simp only [Act.put, List.setIfInBounds_toArray, List.set_cons_zero, List.set_cons_succ]
          refine wpAnyH_oneD (i := 6) (by kernel_rfl) rfl (fun K1 hK1 => ?_)
          refine stepE_put arr16 none rfl rfl _ _ rfl rfl rfl HA.out (Zs_length _) Hbi.out (fun W9 A9 M9 _ => hK1.out _ _ (Q3.out.trans (M9.out.below (fun j hj => by rw [hj]; exact Gg.out) (Q3.out).size)) ?_)
          refine wpAnyH_doneD (by kernel_rfl) ⟨rfl, g, rfl, Q3.out.trans (M9.out.below (fun j hj => by rw [hj]; exact Gg.out) (Q3.out).size), A9.out, Gg.out⟩
      · rintro g w6 ⟨hb6, hA6, hg6⟩
        have HA6 := Lib.hid hA6
        have Hb6 : Hid (Below D w5 w6) := Lib.hid (Hb.out.trans (hb6.mono HDr.out))
        have HD6 : Hid (D ≤ w6.heap.size) := Lib.hid (Nat.le_trans HDr.out hb6.size)
        have Hown6 : Hid (w6.ownsRow D 5 1 (.slice A' p c') p (Byt (bs i ++ (bl i).take 0))) := Lib.hid (by rw [List.take_zero, List.append_nil]; exact own_below Hown.out hb6 (Nat.le_refl _))
        have Hlt6 : Hid (∀ k, (Value.slice A' p c').ownBlock = some k → k ≠ g) := Lib.hid (fun k hk => by have := (Hown.out.lt k hk).2; omega)
        clear hb6 hA6 hg6 Hown HK BW c5 c6 Hb HDr
        simp only [Act.put, List.setIfInBounds_toArray, List.set_cons_zero, List.set_cons_succ]
        have Hbn : Hid (∀ j, j < 16 → ∃ x : UInt8, (bl i).take (j + 1) = (bl i).take j ++ [x] ∧ L[j]? = some x.toNat) := Lib.hid (fun j hj => by
          have hl := Hbl.out i
          have e := List.getElem?_eq_getElem (show j < (bl i).length by omega)
          exact ⟨(bl i)[j], by rw [List.take_add_one, e]; rfl, by rw [← HL.out]; exact abn_get e⟩)
        go_wp2
        go_loopw [10, 13] (fun v u wq => ∃ (j q c1 : Nat) (A1 : Option Addr), j ≤ 16 ∧ v = .slice A1 q c1 ∧ u = .int .i64 (j : Int) ∧ Hid (q = p + j) ∧ Hid (wq.ownsRow D 5 1 (.slice A1 q c1) q (Byt (bs i ++ (bl i).take j))) ∧ Hid (Arr wq g 49 .u8 L) ∧ Hid (∀ k, (Value.slice A1 q c1).ownBlock = some k → k ≠ g) ∧ Hid (Below D w5 wq) ∧ Hid (D ≤ wq.heap.size)) (fun _ u _ => 16 - (intOf u).toNat)
        case atStart => exact ⟨0, p, c', A', by omega, rfl, rfl, Lib.hid rfl, Hown6, HA6, Hlt6, Hb6, HD6⟩
        case round =>
          clear Hown6 HA6 Hlt6 Hb6 HD6
          obtain ⟨j, q, c1, A1, hj, rfl, rfl, Hq, Hown, HA, Hne, Hb, HDw⟩ := hrel
          by_cases hlj : j < 16
          · obtain ⟨x, hx1, hx2⟩ := Hbn.out j hlj
            have hcl := HA.out.at_ hx2
            have Hx1 := Lib.hid hx1
            have hqb : q ≤ 65600 := by have := Hq.out; omega
            clear hx1 hx2
            go_wp2_with (refine wp_append_foot rfl _ _ 22 rfl 5 Tryd.underlying22 (.int .u8 0) 1 (by omega) rfl Tryd.info_u8 D q c1 A1 _ rfl (Hown.out.alloc _) (wr.heap.size + 1) 1 1 _ _ rfl (Rd.new wr _ #[.int .u8 (x.toNat : Int)] rfl) (.inr ⟨_, rfl, Nat.le_refl _, by decide⟩) (by intro u hu; simp at hu; subst hu; rfl) (by omega) (by have := HDw.out; simp; omega) ?_)
            intro A2 c2 w7 hown7 hg7 hat7
            have HA7 : Hid (Arr w7 g 49 .u8 L) := Lib.hid ((hg7.block g (by have := HA.out.lt; simp; omega) (fun e => Hne.out g e.symm rfl)).trans (HA.out.alloc _))
            have Hne7 : Hid (∀ k, (Value.slice A2 (q + 1) c2).ownBlock = some k → k ≠ g) := Lib.hid (fun k hk => by
              rcases hat7 with h | h
              · rw [h] at hk
                exact Hne.out k hk
              · rw [h] at hk
                injection hk with hk
                have := HA.out.lt
                omega)
            have Hb7 : Hid (Below D w5 w7) := Lib.hid ((Hb.out.alloc HDw.out _).grown hg7 (by have := HDw.out; simp; omega) (fun k hk => (Hown.out.lt k hk).1))
            have HD7 : Hid (D ≤ w7.heap.size) := Lib.hid (by have h := hg7.size; have := HDw.out; simp at h; omega)
            have Hown7 : Hid (w7.ownsRow D 5 1 (.slice A2 (q + 1) c2) (q + 1) (Byt (bs i ++ (bl i).take (j + 1)))) := Lib.hid (by
              rw [Hx1.out, ← List.append_assoc, Byt_append]
              exact hown7)
            clear hown7 hg7 hat7 Hown HA Hne Hb HDw
            go_wp2
            go_roundw
            case rel => exact ⟨j + 1, q + 1, c2, A2, by omega, rfl, by go_num, Lib.hid (by have := Hq.out; omega), Hown7, HA7, Hne7, Hb7, HD7⟩
            case measure => simp [intOf]; omega
          · obtain rfl : j = 16 := by omega
            have Hown8 : Hid (wr.ownsRow D 5 1 (.slice A1 q c1) q (Byt (bs (i + 1)))) := Lib.hid (by
              have h := Hown.out
              rw [List.take_of_length_le (by rw [Hbl.out]; omega), Hstep.out] at h
              exact h)
            clear Hown HA Hne
            have hib : i ≤ 65535 := by have := Hp.out; omega
            go_wp2
            go_roundw
            case rel => exact ⟨i + 1, q, c1, A1, rfl, by go_num, by have := Hq.out; omega, Lib.hid (by have := Hp.out; have := Hq.out; omega), fun h => by have := Hq.out; omega, Hown8, Hb, HDw⟩
            case measure => have := Hq.out; show n - q < n - p; omega
    · have hcov : n ≤ p := by omega
      have Hx : Hid ((bs i).take n = X) := Lib.hid (Hfin.out i (by have := Hp.out; omega))
      have BW : Hid (Below w.heap.size w wr) := Lib.hid (B5.out.trans (Hb.out.mono Hd.out.1))
      have hr := (Rd.of_own Hown.out).front hcov
      rw [Hx.out] at hr
      by_cases hn0 : n = 0
      · subst hn0
        have h0' := Hp.out
        obtain rfl : p = 0 := by omega
        obtain ⟨rfl, rfl⟩ := h0 rfl
        have Hf : Hid (NewRF w X 0 (.returned (.tuple #[.slice none 0 0, .int .i64 0])) wr) := Lib.hid ⟨_, 0, by rw [Hlen.out], by rw [Hlen.out]; exact hr, by rw [Hlen.out]; exact SlOK.nil, BW.out⟩
        clear hr Hx BW h0 h0'
        go_wp2
        go_ret2
        exact Hf.out
      · obtain ⟨g, rfl, -, -⟩ := own_some Hown.out (by omega)
        have hcap : p ≤ c' ∧ c' ≤ maxLen := (SlOK.of_own Hown.out).le
        have hcap2 : c' ≤ 9223372036854775807 := by unfold maxLen at hcap; omega
        have Hf : Hid (NewRF w X 0 (.returned (.tuple #[.slice (some ⟨g, 0, none⟩) n c', .int .i64 0])) wr) := Lib.hid ⟨_, c', by rw [Hlen.out], by rw [Hlen.out]; exact hr, .inr ⟨_, rfl, by rw [Hlen.out]; omega, hcap.2⟩, BW.out⟩
        have hsc : n ≤ c' := by omega
        clear hr Hx BW h0
        go_wp2
        go_ret2
        exact Hf.out

end Go.Proofs.YtacbpdampdikjaaDoor

namespace Go.Proofs.YtacbpdampdikjaaDoor
open Go.RowKit

set_option maxHeartbeats 800000 in
theorem rxor_any (B m c n d : Nat) (A C : Option Addr) (xs ys : List UInt8) (w : World) (hx : Rd w B A m (Byt xs)) (hy : Rd w B C n (Byt ys)) (hm : m ≤ 140737488355328) (_hn : n ≤ 140737488355328) (hB : B ≤ w.heap.size) :
    Calls Tryd.prog 30 #[.slice A m c, .slice C n d] w (NewB 5 w (xorL xs ys)) := by
  have hxl := hx.bytes
  have hyl := hy.bytes
  have Hx := Lib.hid hxl; clear hxl
  have Hy := Lib.hid hyl; clear hyl
  go_enter Tryd.func30, Tryd.ntmps30
  go_wp2
  go_loopw [5, 6] (fun v i wr => ∃ (k : Nat) (A' : Option Addr) (c' : Nat), k ≤ m ∧ k ≤ n ∧ i = .int .i64 k ∧ v = .slice A' k c' ∧
      wr.ownsRow w.heap.size 5 1 (.slice A' k c') k (Byt ((xorL xs ys).take k)) ∧ Below w.heap.size w wr) (fun _ i _ => m - (intOf i).toNat)
  case atStart => exact ⟨0, none, 0, Nat.zero_le _, Nat.zero_le _, rfl, rfl, World.ownsRow_nil _ _ _ _, Below.refl _ _⟩
  case round =>
    obtain ⟨k, A', c', hkm, hkn, rfl, rfl, hownr, hbr⟩ := hrel
    by_cases h1 : k < m
    · by_cases h2 : k < n
      · have hkx : k < xs.length := by rw [Hx.out]; omega
        have hky : k < ys.length := by rw [Hy.out]; omega
        obtain ⟨b, o, rfl, hbB, hc⟩ := (hx.below (hbr.mono hB)).byte h1 hkx
        obtain ⟨b', o', rfl, hbB', hc'⟩ := (hy.below (hbr.mono hB)).byte h2 hky
        go_wp2
        go_region_law (refine step_append_byte (by rfl) _ _ _ (by rfl) 5 Tryd.underlying22 Tryd.info_u8 w.heap.size k c' wr.heap.size A' _ (by rfl) (by rfl) (by exact hownr.alloc _) _ (xs[k] ^^^ ys[k]) (xor_u8 _ _) (by go_simp) (by omega) (by have := hbr.size; simp; omega) w w.heap.size (by exact (hbr.alloc hbr.size _).drew) (Nat.le_refl _) ?_; intro A2 c2 w2 hown2 hb2)
        all_goals
          rw [← xorL_step hkx hky] at hown2
          go_wp2
          go_roundw
          case rel => exact ⟨k + 1, A2, c2, by omega, by omega, by go_num, rfl, hown2, hb2⟩
          case measure => simp [intOf]; omega
      · go_wp2
        go_ret
        have hl : (xorL xs ys).length = k := by rw [xorL_length, Hx.out, Hy.out]; omega
        rw [List.take_of_length_le (by omega)] at hownr
        exact ⟨A', c', by rw [hl]; rfl, by rw [hl]; exact hownr, hbr⟩
    · go_wp2
      go_ret
      have hl : (xorL xs ys).length = k := by rw [xorL_length, Hx.out, Hy.out]; omega
      rw [List.take_of_length_le (by omega)] at hownr
      exact ⟨A', c', by rw [hl]; rfl, by rw [hl]; exact hownr, hbr⟩

end Go.Proofs.YtacbpdampdikjaaDoor

namespace Go.Proofs.YtacbpdampdikjaaDoor
open Go.RowKit

set_option maxHeartbeats 800000 in
theorem rcover_form (m d n c p q B : Nat) (A C D : Option Addr) (t : List UInt8) (w : World) (ht : Rd w B D p (Byt t)) (hp : p ≤ 140737488355328) (hB : B ≤ w.heap.size) (h : m ≠ 32 ∨ n ≠ 16) :
    Calls Tryd.prog 18 #[.slice A m d, .slice C n c, .slice D p q] w (NewRF w [] 4) := by
  have c1 := fun W => rcstream_form m d n c A C (p : Int) W h
  have Ht := Lib.hid ht
  have HB := Lib.hid hB
  clear ht hB
  go_enter Tryd.func18, Tryd.ntmps18
  go_wp2_with fail
  refine (c1 _).mono ?_
  rintro e w1 ⟨A1, k1, rfl, hr1, ho1, hb1⟩
  have c2 := rxor_any w1.heap.size p q 0 k1 D A1 t [] w1 ((Ht.out.below (hb1.mono HB.out)).wider (Nat.le_trans HB.out hb1.size)) hr1 (by omega) (by omega) (Nat.le_refl _)
  rw [show xorL t [] = [] by simp [xorL]] at c2
  have Hb1 := Lib.hid hb1
  clear hr1 ho1 hb1
  go_wp2_with fail
  refine c2.mono ?_
  rintro e w2 ⟨A2, k2, rfl, hown, hb2⟩
  go_wp2
  go_ret2
  exact ⟨A2, k2, rfl, Rd.of_own hown, SlOK.of_own hown, Hb1.out.trans (hb2.mono Hb1.out.size)⟩

set_option maxHeartbeats 800000 in
theorem rcover_any (key s t : List UInt8) (c d q B n : Nat) (A C D : Option Addr) (w : World) (hr : Rd w B A 32 (Byt key)) (hs : Rd w B C 16 (Byt s)) (ht : Rd w B D n (Byt t)) (hB : B ≤ w.heap.size) (hn : n ≤ 65536) :
    Calls Tryd.prog 18 #[.slice A 32 c, .slice C 16 d, .slice D n q] w (NewRF w (coverU (akeysU key) s t) 0) := by
  have htl := ht.bytes
  have c1 := rcstream_any key s c d B n A C w hr hs hB hn
  have hl : (cstreamU (akeysU key) s n).length = n := cstream_length (akeys_length hr.bytes) n
  have Hfin : Hid (coverU (akeysU key) s t = xorL t (cstreamU (akeysU key) s n)) := Lib.hid (by rw [coverU, htl])
  revert c1 hl Hfin
  generalize coverU (akeysU key) s t = R
  generalize cstreamU (akeysU key) s n = L
  intro c1 hl Hfin
  have Hl := Lib.hid hl
  have Ht := Lib.hid ht
  have HB := Lib.hid hB
  unfold NewRF at c1
  rw [hl] at c1
  clear hl htl hr hs ht hB
  go_enter Tryd.func18, Tryd.ntmps18
  go_wp2_with fail
  refine c1.mono ?_
  rintro e w1 ⟨A1, k1, rfl, hr1, ho1, hb1⟩
  have c2 := rxor_any w1.heap.size n q n k1 D A1 t L w1 ((Ht.out.below (hb1.mono HB.out)).wider (Nat.le_trans HB.out hb1.size)) hr1 (by omega) (by omega) (Nat.le_refl _)
  rw [← Hfin.out] at c2
  have Hb1 := Lib.hid hb1
  clear hr1 ho1 hb1
  go_wp2_with fail
  refine c2.mono ?_
  rintro e w2 ⟨A2, k2, rfl, hown, hb2⟩
  go_wp2
  go_ret2
  exact ⟨A2, k2, rfl, Rd.of_own hown, SlOK.of_own hown, Hb1.out.trans (hb2.mono Hb1.out.size)⟩

end Go.Proofs.YtacbpdampdikjaaDoor

namespace Go.Proofs.YtacbpdampdikjaaDoor
open Go.RowKit

theorem rbseal_form (m d n c p q : Nat) (A C D : Option Addr) (w : World) (h : m ≠ 32 ∨ n ≠ 16) :
    Calls Tryd.prog 8 #[.slice A m d, .slice C n c, .slice D p q] w (NewRF w [] 4) := by
  by_cases h1 : m = 32
  · subst h1
    have n2 : ((n : Int) != 16) = true := by simp; omega
    go_enter Tryd.func8, Tryd.ntmps8
    go_wp2
    go_ret2
    exact ⟨none, 0, rfl, Rd.nil, SlOK.nil, Below.refl _ _⟩
  · have n1 : ((m : Int) != 32) = true := by simp; omega
    go_enter Tryd.func8, Tryd.ntmps8
    go_wp2
    go_ret2
    exact ⟨none, 0, rfl, Rd.nil, SlOK.nil, Below.refl _ _⟩

set_option maxRecDepth 4096 in
set_option maxHeartbeats 1600000 in
theorem rbseal_any (B d c p q : Nat) (A C D : Option Addr) (ks ss ts : List UInt8) (w : World) (hk : Rd w B A 32 (Byt ks)) (hko : SlOK A 32 d) (hs : Rd w B C 16 (Byt ss)) (hso : SlOK C 16 c) (ht : Rd w B D p (Byt ts)) (hp : p ≤ 60000) (hB : B ≤ w.heap.size) :
    Calls Tryd.prog 8 #[.slice A 32 d, .slice C 16 c, .slice D p q] w (NewRF w (boxU ks ss ts) 0) := by
  have n3 : ¬ (60000 < (p : Int)) := by omega
  have htl := ht.bytes
  have hsl := hs.bytes
  have C1 := fun (s : ByteArray) (h : s.size ≤ 1073741824) W (hb : Below w.heap.size w W) => rderive_any W.heap.size 32 d A ks s W ((hk.below (hb.mono hB)).wider (Nat.le_trans hB hb.size)) hko (by decide) h (Nat.le_refl _)
  have D1 := C1 sealT (by decide)
  have D2 := C1 tagT (by decide)
  rw [show sealT.data.toList = sealB from rfl] at D1
  rw [show tagT.data.toList = tagB from rfl] at D2
  unfold sealT at D1
  unfold tagT at D2
  have hd1 : (deriveU ks sealB).length = 32 := deriveU_length _ _
  have hd2 : (deriveU ks tagB).length = 32 := deriveU_length _ _
  have C2 := fun A1 c1 W (hb : Below w.heap.size w W) (h1 : Rd W W.heap.size A1 32 (Byt (deriveU ks sealB))) =>
    rcover_any (deriveU ks sealB) ss ts c1 c q W.heap.size p A1 C D W h1 ((hs.below (hb.mono hB)).wider (Nat.le_trans hB hb.size)) ((ht.below (hb.mono hB)).wider (Nat.le_trans hB hb.size)) (Nat.le_refl _) (by omega)
  have hl : (coverU (akeysU (deriveU ks sealB)) ss ts).length = p := (bhide_length (key := ks) (s := ss) (t := ts)).trans htl
  have Hbox : Hid (boxU ks ss ts = ss ++ coverU (akeysU (deriveU ks sealB)) ss ts ++ macU (deriveU ks tagB) (ss ++ coverU (akeysU (deriveU ks sealB)) ss ts)) := Lib.hid rfl
  have Hbl : Hid ((boxU ks ss ts).length = 16 + p + 32) := Lib.hid (by rw [box_length, hsl, htl])
  have Htl : Hid (∀ t, (macU (deriveU ks tagB) t).length = 32) := Lib.hid (fun t => macU_length _ _)
  have HS := Lib.hid (fun W (hb : Below w.heap.size w W) => (hs.below (hb.mono hB)).wider (Nat.le_trans hB hb.size))
  have Hso := Lib.hid hso
  have Hsl := Lib.hid hsl
  clear hk hs ht hko hso C1
  revert D1 D2 C2 hl Hbox Hbl Htl hd1 hd2
  generalize boxU ks ss ts = R
  generalize coverU (akeysU (deriveU ks sealB)) ss ts = X
  generalize deriveU ks sealB = K1
  generalize deriveU ks tagB = K2
  intro D1 D2 hd1 hd2 C2 hl Hbox Hbl Htl
  unfold NewR at D1 D2
  rw [hd1] at D1
  rw [hd2] at D2
  unfold NewRF at C2
  rw [hl] at C2
  have H1 := Lib.hid D1
  have H3 := Lib.hid D2
  have H2 := Lib.hid C2
  have Hl := Lib.hid hl
  have Hfin : Hid (∀ A' c' w', Rd w' w'.heap.size A' (16 + p + 32) (Byt R) → SlOK A' (16 + p + 32) c' → Below w.heap.size w w' → NewRF w R 0 (.returned (.tuple #[.slice A' (16 + p + 32) c', .int .i64 0])) w') := Lib.hid (by
    intro A' c' w' hr ho hb
    refine ⟨A', c', by rw [Hbl.out], ?_, ?_, hb⟩
    · rw [Hbl.out]; exact hr
    · rw [Hbl.out]; exact ho)
  clear D1 D2 C2 hl htl hsl hd1 hd2
  generalize NewRF w R 0 = G at Hfin ⊢
  go_enter Tryd.func8, Tryd.ntmps8
  go_wp2_with fail
  refine (H1.out w (Below.refl _ _)).mono ?_
  rintro e w1 ⟨A1, c1, rfl, hr1, ho1, hb1⟩
  have Hr1 := Lib.hid hr1
  have Hb1 := Lib.hid hb1
  clear hr1 ho1 hb1
  go_wp2_with fail
  refine (H2.out A1 c1 w1 Hb1.out Hr1.out).mono ?_
  rintro e w2 ⟨A3, c3, rfl, hr3, ho3, hb2⟩
  have Hb2 := Lib.hid (bon Hb1.out hb2)
  have h4 := rjoin_any w2.heap.size 16 c p c3 C A3 ss X w2 (HS.out w2 Hb2.out) hr3 Hso.out ho3 (Nat.le_refl _) (by omega)
  unfold NewB at h4
  rw [show (ss ++ X).length = 16 + p by rw [List.length_append, Hsl.out, Hl.out]] at h4
  clear hr3 ho3 hb2 Hr1
  go_wp2_with fail
  refine h4.mono ?_
  rintro e w3 ⟨A4, k4, rfl, hown4, hb3⟩
  have Hr4 := Lib.hid (Rd.of_own hown4)
  have Ho4 := Lib.hid (SlOK.of_own hown4)
  have Hb3 := Lib.hid (bon Hb2.out hb3)
  clear hown4 hb3 h4
  go_wp2_with fail
  refine (H3.out w3 Hb3.out).mono ?_
  rintro e w4 ⟨A5, c5, rfl, hr5, ho5, hb4⟩
  have Hr44 := Lib.hid ((Hr4.out.below hb4).wider hb4.size)
  have Hb4 := Lib.hid (bon Hb3.out hb4)
  have h6 := rof_any w4.heap.size 32 c5 (16 + p) k4 A5 A4 K2 (ss ++ X) w4 hr5 ho5 (by decide) Hr44.out Ho4.out (by omega) (Nat.le_refl _)
  unfold NewB at h6
  rw [Htl.out] at h6
  clear hr5 ho5 hb4 Hr4
  go_wp2_with fail
  refine h6.mono ?_
  rintro e w5 ⟨A6, k6, rfl, hown6, hb5⟩
  have Hb5 := Lib.hid (bon Hb4.out hb5)
  have h7 := rjoin_any w5.heap.size (16 + p) k4 32 k6 A4 A6 (ss ++ X) (macU K2 (ss ++ X)) w5 ((Hr44.out.below hb5).wider hb5.size) (Rd.of_own hown6) Ho4.out (SlOK.of_own hown6) (Nat.le_refl _) (by omega)
  unfold NewB at h7
  rw [← Hbox.out, Hbl.out] at h7
  clear hown6 hb5 h6 Hr44
  go_wp2_with fail
  refine h7.mono ?_
  rintro e w6 ⟨A7, k7, rfl, hown7, hb6⟩
  have Hown7 := Lib.hid hown7
  have Hb6 := Lib.hid (bon Hb5.out hb6)
  clear hown7 hb6 h7
  go_wp2
  exact Hfin.out A7 k7 w6 (Rd.of_own Hown7.out) (SlOK.of_own Hown7.out) Hb6.out

end Go.Proofs.YtacbpdampdikjaaDoor

namespace Go.Proofs.YtacbpdampdikjaaDoor
open Go.RowKit

set_option maxHeartbeats 400000 in
theorem rsame_any (B n m c d : Nat) (A C : Option Addr) (xs ys : List UInt8) (w : World) (hx : Rd w B A n (Byt xs)) (hy : Rd w B C m (Byt ys)) (hn : n ≤ maxLen) (hm : m ≤ maxLen) :
    Calls Tryd.prog 10 #[.slice A n c, .slice C m d] w (Ans w (.bool (sameL xs ys))) := by
  unfold maxLen at hn hm
  have hxl := hx.bytes
  have hyl := hy.bytes
  have Hx := Lib.hid hxl; clear hxl
  have Hy := Lib.hid hyl; clear hyl
  by_cases hnm : n = m
  · subst hnm
    go_enter Tryd.func10, Tryd.ntmps10
    go_wp2
    go_loopw [5] (fun i wr => ∃ k j : Nat, k ≤ n ∧ i = .int .i64 k ∧ xs.take k = ys.take k ∧ wr = w.drewN j) (fun i _ => n - (intOf i).toNat)
    case atStart => exact ⟨0, 0, Nat.zero_le _, rfl, rfl, rfl⟩
    case round =>
      obtain ⟨k, j, hk, rfl, ht, rfl⟩ := hrel
      have Ht := Lib.hid ht; clear ht
      by_cases hlt : k < n
      · have hkx : k < xs.length := by rw [Hx.out]; exact hlt
        have hky : k < ys.length := by rw [Hy.out]; exact hlt
        obtain ⟨b, o, rfl, hb, hc⟩ := hx.byte hlt hkx
        obtain ⟨b', o', rfl, hb', hc'⟩ := hy.byte hlt hky
        go_wp2
        go_quiet (fail)
        go_wp2
        · have h := same_not hkx hky (by assumption)
          go_ret
          exact ⟨by rw [h]; rfl, by first | exact bdrewN (Below.refl _ _) _ | exact bdrewN (bdrewN (Below.refl _ _) _) _⟩
        · have h := same_step hkx hky Ht.out (by assumption)
          go_roundw
          case rel => exact ⟨k + 1, _, by omega, by go_num, h, rfl⟩
          case measure => simp [intOf]; omega
      · have h := same_all (by rw [Hx.out]; omega) (by rw [Hy.out]; omega) Ht.out
        go_wp2
        go_ret
        exact ⟨by rw [h]; rfl, by first | exact bdrewN (Below.refl _ _) _ | exact bdrewN (bdrewN (Below.refl _ _) _) _⟩
  · have hne : (((n : Nat) : Int) != (m : Int)) = true := by simp; omega
    have h : sameL xs ys = false := decide_eq_false (fun e => hnm (by rw [← Hx.out, ← Hy.out, e]))
    have H := Lib.hid h; clear h
    go_enter Tryd.func10, Tryd.ntmps10
    go_wp2
    go_ret
    exact ⟨by rw [H.out]; rfl, Below.refl _ _⟩


end Go.Proofs.YtacbpdampdikjaaDoor
