import Derived.Test.YtckljalcmjomgaaAesRow
import Derived.Test.YtckljalcmjomgaaTakes
import Derived.Test.YtckljalcmjomgaaRefAesWords
namespace Go.Proofs.Ytckljalcmjomgaa
open Go.RowKit

set_option maxHeartbeats 1600000 in
set_option maxRecDepth 100000 in
theorem rasched_none (n c : Nat) (A : Option Addr) (w : World) (hn : n ≠ 32) :
    Calls Try.prog 16 #[.slice A n c] w (Ans w (.tuple #[.agg (Nums .u8 (Zs 240)), .int .i64 4])) := by
  have hz : ((n : Int) != 32) = true := by simp; omega
  go_enter Try.func16, Try.ntmps16
  go_wp2_with (refine wp_alloc_arr (k := .u8) rfl 28 rfl 240 zeroKeysR ?_)
  intro w1 g1 G1 H1 Hb1 Hs1
  go_wp2_with (refine wp_alloc_arr (k := .u8) rfl 28 rfl 240 zeroKeysR ?_)
  intro w2 g2 G2 H2 Hb2 Hs2
  go_wp2_with (first
    | refine wp_load_w arrKeysR rfl (.tmp 4) rfl rfl H2.out (Zs_length _) ?_
    | refine wp_put_w arrKeysR rfl (.tmp 2) (.tmp 11) rfl rfl (l' := Zs 240) rfl (H1.out.below Hb2.out H1.out.lt) (Zs_length _) (Zs_length _) ?_)
  intro w3 H3 Hm3 Hs3
  go_wp2
  exact ret_two arrKeysR rfl rfl H3.out (Zs_length _) rfl rfl ⟨rfl, (abon Hb1.out Hb2.out).trans (Hm3.out.below (fun j hj => by have := G1.out; omega) (abon Hb1.out Hb2.out).size)⟩

set_option maxHeartbeats 3200000 in
theorem rasched_key (key : List UInt8) (c B : Nat) (A : Option Addr) (w : World) (hr : Rd w B A 32 (Byt key)) (hB : B ≤ w.heap.size) :
    Calls Try.prog 16 #[.slice A 32 c] w (Ans w (.tuple #[.agg (Nums .u8 (abn (akeysU key))), .int .i64 0])) := by
  have HL : Hid ((abn (akeysU key)).length = 240) := Lib.hid (by rw [abn_length]; exact akeys_length hr.bytes)
  have cw : ∀ W, Hid (Below w.heap.size w W) → Calls Try.prog 24 #[.slice A 32 c] W (AnsA W .u8 (abn (akeysU key))) := fun W hb => rwords_any key c B A W (hr.below (hb.out.mono hB)) (by have := hb.out.size; omega)
  clear hr hB
  revert HL cw
  generalize abn (akeysU key) = L
  intro HL cw
  go_enter Try.func16, Try.ntmps16
  go_wp2_with (refine wp_alloc_arr (k := .u8) rfl 28 rfl 240 zeroKeysR ?_)
  intro w1 g1 G1 H1 Hb1 Hs1
  go_wp2_with (refine wp_alloc_arr (k := .u8) rfl 28 rfl 240 zeroKeysR ?_)
  intro w2 g2 G2 H2 Hb2 Hs2
  have F2 : Hid (SK w [(g2, 28, Zs 240), (g1, 28, Zs 240)] w2) := Lib.hid ⟨by
    intro x hx
    simp only [List.mem_cons, List.not_mem_nil, or_false] at hx
    rcases hx with rfl | rfl
    · exact H2.out
    · exact H1.out.below Hb2.out H1.out.lt, abon Hb1.out Hb2.out⟩
  have Hg0 : Hid (w.heap.size ≤ g1 ∧ w.heap.size ≤ g2 ∧ g1 ≠ g2) := Lib.hid (by have := G1.out; have := G2.out; have := Hs1.out; omega)
  have cw2 := cw w2 (Lib.hid F2.out.2)
  clear H1 H2 Hb1 Hb2 G1 G2 Hs1 Hs2 cw
  go_wp2_with fail
  refine cw2.mono ?_
  rintro e w3 ⟨rfl, hb3⟩
  have F3 := Lib.hid (sk_below F2.out hb3)
  clear cw2 F2 hb3
  go_wp2_with (refine wp_alloc_arr (k := .u8) rfl 42 rfl 240 zeroWords ?_)
  intro w4 g3 G3 H3 Hb3 Hs3
  go_wp2_with (refine wp_put_w arrWords rfl (.tmp 5) (.tmp 13) rfl rfl (l' := L) rfl H3.out (Zs_length _) HL.out ?_)
  intro w5 H5 Hm5 Hs5
  have Hg : Hid (w.heap.size ≤ g1 ∧ w.heap.size ≤ g2 ∧ w.heap.size ≤ g3 ∧ g1 ≠ g2 ∧ g2 ≠ g3 ∧ g1 ≠ g3) := Lib.hid (by
    have e := G3.out
    have h0 := (sk_hd F3.out).lt
    have h1 := (F3.out.1 (g1, 28, Zs 240) (by simp)).lt
    have h2 := F3.out.2.size
    have h3 := Hg0.out
    dsimp only at h1
    omega)
  have F5 : Hid (SK w [(g2, 28, L.take (4 * 0) ++ (Zs 240).drop (4 * 0)), (g3, 42, L), (g1, 28, Zs 240)] w5) := Lib.hid (sk_sub (sk_cons (sk_keep (sk_below F3.out Hb3.out) Hm5.out (by
    have h4 := Hg.out
    intro x hx
    simp only [List.mem_cons, List.not_mem_nil, or_false] at hx
    rcases hx with rfl | rfl
    · exact h4.2.2.2.2.1
    · exact h4.2.2.2.2.2) Hg.out.2.2.1) H5.out) (by intro x hx; simp only [List.mem_cons, List.not_mem_nil, or_false] at hx ⊢; rcases hx with rfl | rfl | rfl <;> simp))
  have Hne2 : Hid (∀ x ∈ [(g3, 42, L), (g1, 28, Zs 240)], x.1 ≠ g2) := Lib.hid (by
    have h4 := Hg.out
    intro x hx
    simp only [List.mem_cons, List.not_mem_nil, or_false] at hx
    rcases hx with rfl | rfl
    · exact h4.2.2.2.2.1.symm
    · exact h4.2.2.2.1)
  clear F3 H3 H5 Hb3 Hs3 Hm5 Hs5 G3 Hg0
  go_wp2
  go_loopw [6] (fun u wr => ∃ i : Nat, i ≤ 60 ∧ u = .int .i64 (i : Int) ∧ Hid (SK w [(g2, 28, L.take (4 * i) ++ (Zs 240).drop (4 * i)), (g3, 42, L), (g1, 28, Zs 240)] wr)) (fun u _ => 60 - (intOf u).toNat)
  case atStart => exact ⟨0, by omega, rfl, F5⟩
  case round =>
    clear F5
    obtain ⟨i, hi, rfl, F5⟩ := hrel
    by_cases hlt : i < 60
    · obtain ⟨o, ho⟩ : ∃ o, 4 * i = o := ⟨_, rfl⟩
      have Ho := Lib.hid ho
      obtain ⟨qd, hqd⟩ : ∃ qd, i / 4 = qd := ⟨_, rfl⟩
      obtain ⟨rm, hrm⟩ : ∃ rm, i % 4 = rm := ⟨_, rfl⟩
      obtain ⟨o1, ho1⟩ : ∃ o1, qd * 16 = o1 := ⟨_, rfl⟩
      have z0 : (0 : Int) ≤ (i : Int) := by omega
      have e1 : (i : Int) / 4 = (qd : Int) := by omega
      have e1t : (i : Int).tdiv 4 = (qd : Int) := by rw [Int.tdiv_eq_ediv_of_nonneg z0]; exact e1
      have e2 : (i : Int) % 4 = (rm : Int) := by omega
      have e2t : (i : Int).tmod 4 = (rm : Int) := by rw [Int.tmod_eq_emod_of_nonneg z0]; exact e2
      have hwq : IntKind.i64.wrap (qd : Int) = (qd : Int) := IntWalk.i64_in _ ⟨by omega, by omega⟩
      have hwm : IntKind.i64.wrap (4 * (rm : Int)) = 4 * (rm : Int) := IntWalk.i64_in _ ⟨by omega, by omega⟩
      have ix3 := fun W => run_indexAt_w (b := g3) arrWords info_4 i o (i : Int) rfl hlt (by omega) W
      have ix2 := fun W => run_indexAt_w (b := g2) arrKeysR info_16 qd o1 (qd : Int) rfl (by omega) ho1 W
      have Hrel : Hid (o1 + 4 * rm = o ∧ rm < 4) := Lib.hid (by omega)
      clear ho hqd hrm ho1
      have Fz : Hid (SK w [(g2, 28, L.take (4 * i + 0) ++ (Zs 240).drop (4 * i + 0)), (g3, 42, L), (g1, 28, Zs 240)] wr) := Lib.hid (show SK w [(g2, 28, L.take (4 * i + 0) ++ (Zs 240).drop (4 * i + 0)), (g3, 42, L), (g1, 28, Zs 240)] wr from F5.out)
      clear F5
      go_wp2
      have hd1 : decide ((i : Int) < 60) = true := by simp; omega
      simp only [hd1]
      go_loopw [7] (fun u wr => ∃ v : Nat, v ≤ 4 ∧ u = .int .i64 (v : Int) ∧ Hid (SK w [(g2, 28, L.take (4 * i + v) ++ (Zs 240).drop (4 * i + v)), (g3, 42, L), (g1, 28, Zs 240)] wr)) (fun u _ => 4 - (intOf u).toNat)
      case atStart => exact ⟨0, by omega, rfl, Fz⟩
      case round =>
        clear Fz
        obtain ⟨v, hv, rfl, F7⟩ := hrel
        by_cases hlv : v < 4
        · obtain ⟨q, hq⟩ : ∃ q, 4 * i + v = q := ⟨_, rfl⟩
          have hq240 : q < 240 := by omega
          obtain ⟨x, hx⟩ : ∃ x : Nat, L[q]? = some x := ⟨_, List.getElem?_eq_getElem (show q < L.length by rw [HL.out]; omega)⟩
          have ixq := fun W => run_indexAt_off (P := Try.prog) (b := g3) arr4 info_u8n o v q hlv (by have := Ho.out; omega) W
          have hr4 : 4 * rm + v < 16 := by have := Hrel.out; omega
          have hwa : IntKind.i64.wrap (4 * (rm : Int) + (v : Int)) = 4 * (rm : Int) + (v : Int) := IntWalk.i64_in _ ⟨by omega, by omega⟩
          have ixg : ∀ W, (Instr.indexAt 22 (.pointer (some ⟨g2, o1, none⟩)) (.int .i64 (4 * (rm : Int) + (v : Int)))).run Try.prog W = .ok (.pointer (some ⟨g2, q, none⟩)) W := fun W => by
            have h := run_indexAt_off (P := Try.prog) (b := g2) arr16 info_u8n o1 (4 * rm + v) q hr4 (by have := Ho.out; have := Hrel.out; omega) W
            rw [show ((4 * rm + v : Nat) : Int) = 4 * (rm : Int) + (v : Int) by omega] at h
            exact h
          rw [hq] at F7
          have Hx := Lib.hid hx
          have Hq := Lib.hid hq
          clear hx hq hr4
          have hfz := (sk_hd F7.out).drew.frozen q
          have hcl := (sk_hd F7.out).drew.at_ (fill_get (L := L) (M := Zs 240) (i := q) (by rw [Zs_length]; omega) (by rw [HL.out]; omega))
          go_wp2_with fail
          refine wp_region_ends (fun w' => SK w [(g2, 28, L.take (q) ++ (Zs 240).drop (q)), (g3, 42, L), (g1, 28, Zs 240)] w') 14 (by kernel_rfl) ?_
          refine wpAnyE_take (i := 0) (v := .int .i64 (i : Int)) (some 22) rfl rfl (by kernel_rfl) (fun _ _ _ h => h) (.inl ⟨by rfl, fun W _ => rfl⟩) (sk_drewN F7.out 1) ?_
          simp only [Act.put, List.setIfInBounds_toArray, List.set_cons_zero, List.set_cons_succ]
          refine wpAnyE_take (i := 1) (v := .int .i64 (qd : Int)) (some 23) rfl rfl (by kernel_rfl) (fun _ _ _ h => h) (.inl ⟨by rfl, fun W _ => by go_simp⟩) (sk_drewN F7.out 1) ?_
          simp only [Act.put, List.setIfInBounds_toArray, List.set_cons_zero, List.set_cons_succ]
          refine wpAnyE_take (i := 2) (v := .int .i64 (i : Int)) (some 24) rfl rfl (by kernel_rfl) (fun _ _ _ h => h) (.inl ⟨by rfl, fun W _ => rfl⟩) (sk_drewN F7.out 1) ?_
          simp only [Act.put, List.setIfInBounds_toArray, List.set_cons_zero, List.set_cons_succ]
          refine wpAnyE_take (i := 3) (v := .int .i64 (rm : Int)) (some 25) rfl rfl (by kernel_rfl) (fun _ _ _ h => h) (.inl ⟨by rfl, fun W _ => by go_simp⟩) (sk_drewN F7.out 1) ?_
          simp only [Act.put, List.setIfInBounds_toArray, List.set_cons_zero, List.set_cons_succ]
          refine wpAnyE_take (i := 4) (v := .int .i64 (4 * (rm : Int))) (some 26) rfl rfl (by kernel_rfl) (fun _ _ _ h => h) (.inl ⟨by rfl, fun W _ => by go_simp⟩) (sk_drewN F7.out 1) ?_
          simp only [Act.put, List.setIfInBounds_toArray, List.set_cons_zero, List.set_cons_succ]
          refine wpAnyE_take (i := 5) (v := .int .i64 (v : Int)) (some 27) rfl rfl (by kernel_rfl) (fun _ _ _ h => h) (.inl ⟨by rfl, fun W _ => rfl⟩) (sk_drewN F7.out 1) ?_
          simp only [Act.put, List.setIfInBounds_toArray, List.set_cons_zero, List.set_cons_succ]
          refine wpAnyE_take (i := 6) (v := .int .i64 (4 * (rm : Int) + (v : Int))) (some 28) rfl rfl (by kernel_rfl) (fun _ _ _ h => h) (.inl ⟨by rfl, fun W _ => by go_simp⟩) (sk_drewN F7.out 1) ?_
          simp only [Act.put, List.setIfInBounds_toArray, List.set_cons_zero, List.set_cons_succ]
          refine wpAnyE_take (i := 7) (v := .int .i64 (i : Int)) (some 29) rfl rfl (by kernel_rfl) (fun _ _ _ h => h) (.inl ⟨by rfl, fun W _ => rfl⟩) (sk_drewN F7.out 1) ?_
          simp only [Act.put, List.setIfInBounds_toArray, List.set_cons_zero, List.set_cons_succ]
          refine wpAnyE_take (i := 8) (v := .int .i64 (v : Int)) (some 30) rfl rfl (by kernel_rfl) (fun _ _ _ h => h) (.inl ⟨by rfl, fun W _ => rfl⟩) (sk_drewN F7.out 1) ?_
          simp only [Act.put, List.setIfInBounds_toArray, List.set_cons_zero, List.set_cons_succ]
          refine wpAnyE_take (i := 9) (v := .pointer (some ⟨g3, o, none⟩)) (some 31) rfl rfl (by kernel_rfl) (fun _ _ _ h => h) (.inl ⟨by rfl, fun W _ => by go_simp⟩) (sk_drewN F7.out 1) ?_
          simp only [Act.put, List.setIfInBounds_toArray, List.set_cons_zero, List.set_cons_succ]
          refine wpAnyE_take (i := 10) (v := .pointer (some ⟨g3, q, none⟩)) (some 32) rfl rfl (by kernel_rfl) (fun _ _ _ h => h) (.inl ⟨by rfl, fun W _ => by go_simp⟩) (sk_drewN F7.out 1) ?_
          simp only [Act.put, List.setIfInBounds_toArray, List.set_cons_zero, List.set_cons_succ]
          refine wpAnyE_take (i := 11) (v := .int .u8 (x : Int)) (some 33) rfl rfl (by kernel_rfl) (fun _ _ _ h => h) (.inl ⟨by rfl, fun W h => by have hc := (Arr.at_ (t := 42) (k := .u8) (l := L) (h.1 (g3, 42, L) (by simp)) Hx.out); go_simp⟩) (sk_drewN F7.out 1) ?_
          simp only [Act.put, List.setIfInBounds_toArray, List.set_cons_zero, List.set_cons_succ]
          refine wpAnyE_one (i := 12) (by kernel_rfl) rfl (fun K7 hK7 => ?_)
          go_simp
          refine hK7.out _ _ (.inr (sk_drewN F7.out 1)) ?_
          clear hK7 K7
          refine wpAnyE_take (i := 13) (v := .pointer (some ⟨g2, q, none⟩)) (some 35) rfl rfl (by kernel_rfl) (fun _ _ _ h => h) (.inl ⟨by rfl, fun W _ => by go_simp⟩) (sk_drewN F7.out 1) ?_
          simp only [Act.put, List.setIfInBounds_toArray, List.set_cons_zero, List.set_cons_succ]
          refine wpAnyE_one (i := 14) (by kernel_rfl) rfl (fun K6 hK6 => ?_)
          go_simp
          refine hK6.out _ _ (.inl rfl) ?_
          have F8 : Hid (SK w [(g2, 28, L.take (4 * i + (v + 1)) ++ (Zs 240).drop (4 * i + (v + 1))), (g3, 42, L), (g1, 28, Zs 240)] ((wr.setCell ⟨g2, q, none⟩ (.int .u8 (x : Int))).drew)) := Lib.hid (by
            have h := sk_drewN (sk_set F7.out Hne2.out Hg.out.2.1 q x) 1
            rw [afill_step Hx.out (by rw [Zs_length]; omega)] at h
            rw [show 4 * i + (v + 1) = q + 1 by have := Hq.out; omega]
            exact h)
          clear hK6 K6 F7
          refine wpAnyE_done (by kernel_rfl) ?_
          go_wp2
          go_roundw
          case rel => exact ⟨v + 1, by omega, by go_num, F8⟩
          case measure => simp [intOf]; omega
        · obtain rfl : v = 4 := by omega
          have F9 : Hid (SK w [(g2, 28, L.take (4 * (i + 1)) ++ (Zs 240).drop (4 * (i + 1))), (g3, 42, L), (g1, 28, Zs 240)] wr) := Lib.hid F7.out
          clear F7
          go_wp2
          go_roundw
          case rel => exact ⟨i + 1, by omega, by go_num, F9⟩
          case measure => simp [intOf]; omega
    · obtain rfl : i = 60 := by omega
      have A2 : Hid (Arr wr g2 28 .u8 L) := Lib.hid (by have h := sk_hd F5.out; rw [show 4 * 60 = 240 from rfl, fill_all HL.out (Zs_length _)] at h; exact h)
      have A1 : Hid (Arr wr g1 28 .u8 (Zs 240)) := Lib.hid (F5.out.1 (g1, 28, Zs 240) (by simp))
      go_wp2_with (first
        | refine wp_load_w arrKeysR rfl (.tmp 4) rfl rfl A2.out HL.out ?_
        | refine wp_put_w arrKeysR rfl (.tmp 2) (.tmp 36) rfl rfl (l' := L) rfl A1.out (Zs_length _) HL.out ?_)
      intro w9 H9 Hm9 Hs9
      go_wp2
      exact ret_two arrKeysR rfl rfl H9.out HL.out rfl rfl ⟨rfl, F5.out.2.trans (Hm9.out.below (fun j hj => by rw [hj]; exact Hg.out.1) F5.out.2.size)⟩

end Go.Proofs.Ytckljalcmjomgaa
