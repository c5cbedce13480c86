import Derived.Test.YtfkfkmdnffpcmaaAesRow
import Derived.Test.YtfkfkmdnffpcmaaTakes
import Derived.Test.YtfkfkmdnffpcmaaAesChg
namespace Go.Proofs.Ytfkfkmdnffpcmaa
open Go.RowKit

set_option maxHeartbeats 1600000 in
set_option maxRecDepth 100000 in
theorem asched_none (n c : Nat) (A : Option Addr) (w : World) (hn : n ≠ 32) :
    Calls Try.prog 25 #[.slice A n c] w (Ans w (.tuple #[.agg (Nums .u8 (Zs 240)), .int .i64 4])) := by
  have hz : ((n : Int) != 32) = true := by simp; omega
  go_enter Try.func25, Try.ntmps25
  go_wp2_with (refine wp_alloc_arr (k := .u8) rfl 47 rfl 240 zeroKeys ?_)
  intro w1 g1 G1 H1 Hb1 Hs1
  go_wp2
  go_step3
  go_wp2_with (refine wp_alloc_arr (k := .u8) rfl 47 rfl 240 zeroKeys ?_)
  intro w2 g2 G2 H2 Hb2 Hs2
  go_wp2_with (first
    | refine wp_load_w arrKeys rfl (.tmp 4) rfl rfl H2.out (Zs_length _) ?_
    | refine wp_put_w arrKeys rfl (.tmp 2) (.tmp 15) rfl rfl (l' := Zs 240) rfl (H1.out.below Hb2.out H1.out.lt) (Zs_length _) (Zs_length _) ?_)
  intro w3 H3 Hm3 Hs3
  go_wp2
  rw [Exit.noGoto_ret]
  exact ret_two arrKeys rfl rfl H3.out (Zs_length _) rfl rfl ⟨rfl, (abon Hb1.out Hb2.out).trans (Hm3.out.below (fun j hj => by have := G1.out; omega) (abon Hb1.out Hb2.out).size)⟩

set_option maxHeartbeats 3200000 in
theorem asched_key (key : List UInt8) (c B : Nat) (A : Option Addr) (w : World) (hr : Rd w B A 32 (Byt key)) (hc : 32 ≤ c) (hB : B ≤ w.heap.size) :
    Calls Try.prog 25 #[.slice A 32 c] w (Ans w (.tuple #[.agg (Nums .u8 (abn (akeysU key))), .int .i64 0])) := by
  have HF := Lib.hid (keyFacts hr.bytes)
  obtain ⟨kb, ko, rfl, hkb, hcells⟩ := hr.2 (by omega)
  have Hkb : Hid (kb < w.heap.size) := Lib.hid (by omega)
  have Hkey : Hid (∀ j, j < 32 → ∃ x : UInt8, key[j]? = some x ∧ w.cell? ⟨kb, ko + j, none⟩ = some (.int .u8 (x.toNat : Int))) := Lib.hid (fun j hj => by
    have hl : j < key.length := by have := hr.bytes; omega
    exact ⟨key[j], List.getElem?_eq_getElem hl, hcells j _ (Byt_get hl)⟩)
  have Hlow : Hid (∀ j, j < 32 → ∃ x : Nat, (abn (akeysU key))[j]? = some x ∧ w.cell? ⟨kb, ko + j, none⟩ = some (.int .u8 (x : Int))) := Lib.hid (fun j hj => by
    obtain ⟨x, h1, h2⟩ := Hkey.out j hj
    obtain ⟨y, h3, h4⟩ := HF.out.low j hj
    rw [h1] at h3
    injection h3 with h3
    subst h3
    exact ⟨_, h4, h2⟩)
  clear Hkey hcells hr hkb hB
  have HL := Lib.hid HF.out.len
  have Hhigh := Lib.hid HF.out.high
  clear HF
  revert Hlow HL Hhigh
  generalize abn (akeysU key) = L
  intro Hlow HL Hhigh
  go_enter Try.func25, Try.ntmps25
  go_wp2_with (refine wp_alloc_arr (k := .u8) rfl 47 rfl 240 zeroKeys ?_)
  intro w1 g1 G1 H1 Hb1 Hs1
  go_wp2
  go_step3
  go_wp2_with (refine wp_alloc_arr (k := .u8) rfl 47 rfl 240 zeroKeys ?_)
  intro w2 g2 G2 H2 Hb2 Hs2
  go_wp2_with (refine wp_alloc_arr (k := .u8) rfl 52 rfl 240 zeroWords ?_)
  intro w3 g3 G3 H3 Hb3 Hs3
  have Hg : Hid (w.heap.size ≤ g1 ∧ w.heap.size ≤ g2 ∧ w.heap.size ≤ g3 ∧ g1 ≠ g3 ∧ g2 ≠ g3 ∧ g1 ≠ g2) := Lib.hid (by have := G1.out; have := G2.out; have := G3.out; have := Hs1.out; have := Hs2.out; omega)
  have F3 : Hid (SK w [(g3, 52, L.take (4 * 0) ++ (Zs 240).drop (4 * 0)), (g2, 47, Zs 240), (g1, 47, Zs 240)] w3) := Lib.hid ⟨by
    intro x hx
    simp only [List.mem_cons, List.not_mem_nil, or_false] at hx
    rcases hx with rfl | rfl | rfl
    · exact H3.out
    · exact H2.out.below Hb3.out H2.out.lt
    · exact (H1.out.below Hb2.out H1.out.lt).below Hb3.out (Nat.lt_of_lt_of_le H1.out.lt Hb2.out.size), abon (abon Hb1.out Hb2.out) Hb3.out⟩
  have Hne3 : Hid (∀ x ∈ [(g2, 47, Zs 240), (g1, 47, Zs 240)], x.1 ≠ g3) := Lib.hid (by
    have h5 := Hg.out
    intro x hx
    simp only [List.mem_cons, List.not_mem_nil, or_false] at hx
    rcases hx with rfl | rfl
    · exact h5.2.2.2.2.1
    · exact h5.2.2.2.1)
  clear H1 H2 H3 Hb1 Hb2 Hb3 G1 G2 G3 Hs1 Hs2 Hs3
  go_wp2
  go_step3
  go_wp2
  go_loopw [16] (fun v wr => ∃ i : Nat, i ≤ 60 ∧ v = .int .i64 (i : Int) ∧ Hid (SK w [(g3, 52, L.take (4 * i) ++ (Zs 240).drop (4 * i)), (g2, 47, Zs 240), (g1, 47, Zs 240)] wr)) (fun v _ => 60 - (intOf v).toNat)
  case atStart => exact ⟨0, by omega, rfl, F3⟩
  case round =>
    clear F3
    obtain ⟨i, hi, rfl, F5⟩ := hrel
    by_cases hlt : i < 60
    · obtain ⟨o, ho⟩ : ∃ o, 4 * i = o := ⟨_, rfl⟩
      have Ho := Lib.hid ho
      have ix := fun W => run_indexAt_w (b := g3) arrWords info_4 i o (i : Int) rfl hlt (by omega) W
      by_cases h8 : i < 8
      · have HA0 := Lib.hid (awn_length HL.out (i := i) hlt)
        have Hmin : Hid (4 = Nat.min (32 - o) 4) := Lib.hid (by show 4 = min (32 - o) 4; omega)
        have Hcell : Hid (∀ j x : Nat, (awn L i)[j]? = some x → wr.drew.cell? ⟨kb, ko + (o + j), none⟩ = some (.int .u8 (x : Int))) := Lib.hid (fun j x hx => by
          have hj : j < 4 := by have := (List.getElem?_eq_some_iff.1 hx).1; have := HA0.out; omega
          have h1 := awn_get j x hx
          obtain ⟨y, h2, h3⟩ := Hlow.out (o + j) (by omega)
          rw [ho] at h1
          rw [h1] at h2
          injection h2 with h2
          subst h2
          exact (F5.out.2.cell (p := ⟨kb, ko + (o + j), none⟩) Hkb.out).trans h3)
        have Hfit : Hid (o + 4 ≤ (L.take (4 * i) ++ (Zs 240).drop (4 * i)).length) := Lib.hid (by rw [fill_length (by rw [HL.out, Zs_length]), Zs_length]; omega)
        have Hspl : Hid (splice (L.take (4 * i) ++ (Zs 240).drop (4 * i)) o (awn L i) = L.take (4 * (i + 1)) ++ (Zs 240).drop (4 * (i + 1))) := Lib.hid (by
          rw [← ho, afill_splice (L := L) (M := Zs 240) (ns := awn L i) (off := 4 * i) (by rw [HL.out, Zs_length]) (by rw [HA0.out, Zs_length]; omega) (fun j x hx => awn_get j x hx), HA0.out]
          rfl)
        have sl1 := fun W => run_slice_arr_all (P := Try.prog) (b := g3) arr4 info_u8n o W
        have sl2 := fun W => run_slice_from (P := Try.prog) (b := kb) (t := 22) (e := 5) Try.underlying22 info_u8n ko 32 c o (4 * (i : Int)) (by omega) (by omega) hc W
        have hwr : IntKind.i64.wrap (4 * (i : Int)) = 4 * (i : Int) := IntWalk.i64_in _ ⟨by omega, by omega⟩
        have Hsrc : Hid (∀ j x : Nat, (awn L i)[j]? = some x → wr.drew.cell? ((⟨kb, ko + o, none⟩ : Addr).add j) = some (.int .u8 (x : Int))) := Lib.hid (fun j x hx => by rw [add_flat, Nat.add_assoc]; exact Hcell.out j x hx)
        clear ho Hcell
        go_wp2_with fail
        refine wp_region_takes (by kernel_rfl) ?_
        refine wpAnyT_take (i := 0) (v := .int .i64 (i : Int)) (some 21) rfl rfl (by kernel_rfl) (fun _ _ _ h => h) (.inl ⟨by rfl, fun W => rfl⟩) ?_
        simp only [Act.put, List.setIfInBounds_toArray, List.set_cons_zero, List.set_cons_succ]
        refine wpAnyT_take (i := 1) (v := .pointer (some ⟨g3, o, none⟩)) (some 22) rfl rfl (by kernel_rfl) (fun _ _ _ h => h) (.inl ⟨by rfl, fun W => by go_simp⟩) ?_
        simp only [Act.put, List.setIfInBounds_toArray, List.set_cons_zero, List.set_cons_succ]
        refine wpAnyT_take (i := 2) (v := .slice (some ⟨g3, o, none⟩) 4 4) (some 23) rfl rfl (by kernel_rfl) (fun _ _ _ h => h) (.inl ⟨by rfl, fun W => by go_simp⟩) ?_
        simp only [Act.put, List.setIfInBounds_toArray, List.set_cons_zero, List.set_cons_succ]
        refine wpAnyT_take (i := 3) (v := .slice (some ⟨kb, ko, none⟩) 32 c) (some 24) rfl rfl (by kernel_rfl) (fun _ _ _ h => h) (.inl ⟨by rfl, fun W => rfl⟩) ?_
        simp only [Act.put, List.setIfInBounds_toArray, List.set_cons_zero, List.set_cons_succ]
        refine wpAnyT_take (i := 4) (v := .int .i64 (i : Int)) (some 25) rfl rfl (by kernel_rfl) (fun _ _ _ h => h) (.inl ⟨by rfl, fun W => rfl⟩) ?_
        simp only [Act.put, List.setIfInBounds_toArray, List.set_cons_zero, List.set_cons_succ]
        refine wpAnyT_take (i := 5) (v := .int .i64 (4 * (i : Int))) (some 26) rfl rfl (by kernel_rfl) (fun _ _ _ h => h) (.inl ⟨by rfl, fun W => by go_simp⟩) ?_
        simp only [Act.put, List.setIfInBounds_toArray, List.set_cons_zero, List.set_cons_succ]
        refine wpAnyT_take (i := 6) (v := .slice (some ⟨kb, ko + o, none⟩) (32 - o) (c - o)) (some 27) rfl rfl (by kernel_rfl) (fun _ _ _ h => h) (.inl ⟨by rfl, fun W => by go_simp⟩) ?_
        simp only [Act.put, List.setIfInBounds_toArray, List.set_cons_zero, List.set_cons_succ]
        refine wpAnyT_one (i := 7) (by kernel_rfl) rfl (fun K5 hK5 => ?_)
        refine stepT_copy (k := .u8) (g := g3) (some 28) rfl rfl (.tmp 23) (.tmp 27) 22 22 rfl 5 Try.underlying22 info_u8n o 4 4 ⟨kb, ko + o, none⟩ (32 - o) (c - o) rfl rfl _ (awn L i) 4 HA0.out (sk_hd F5.out).drew Hmin.out Hsrc.out Hfit.out (fun W6 A6 M6 _ => hK5.out _ _ ?_)
        have F6 := Lib.hid (sk_put (sk_drewN F5.out 1) M6.out A6.out Hne3.out Hg.out.2.2.1)
        rw [Hspl.out] at F6
        clear A6 M6 F5 hK5 K5
        simp only [Act.put, List.setIfInBounds_toArray, List.set_cons_zero, List.set_cons_succ]
        refine wpAnyT_done (by kernel_rfl) ?_
        go_wp2
        go_roundw
        case rel => exact ⟨i + 1, by omega, by go_num, F6⟩
        case measure => simp [intOf]; omega
      · obtain ⟨a, b, c', d, hw, hx⟩ := Hhigh.out i (by omega) hlt
        have Hw := Lib.hid hw
        have Hx := Lib.hid hx
        obtain ⟨o1, ho1⟩ : ∃ o1, 4 * (i - 1) = o1 := ⟨_, rfl⟩
        obtain ⟨o8, ho8⟩ : ∃ o8, 4 * (i - 8) = o8 := ⟨_, rfl⟩
        have ix1 := fun W => run_indexAt_w (b := g3) arrWords info_4 (i - 1) o1 ((i : Int) - 1) (by omega) (by omega) (by omega) W
        have ix8 := fun W => run_indexAt_w (b := g3) arrWords info_4 (i - 8) o8 ((i : Int) - 8) (by omega) (by omega) (by omega) W
        have Hn1 : Hid (∀ j x : Nat, (four a b c' d)[j]? = some x → (L.take (4 * i) ++ (Zs 240).drop (4 * i))[o1 + j]? = some x) := Lib.hid (fun j x hj => by
          have h4 : j < 4 := (List.getElem?_eq_some_iff.1 hj).1
          rw [afill_low (by omega) (by rw [HL.out]; omega), ← ho1]
          rw [← hw] at hj
          exact awn_get j x hj)
        have H8l := Lib.hid (awn_length HL.out (i := i - 8) (by omega))
        have Hn8 : Hid (∀ j x : Nat, (awn L (i - 8))[j]? = some x → (L.take (4 * i) ++ (Zs 240).drop (4 * i))[o8 + j]? = some x) := Lib.hid (fun j x hj => by
          have h4 : j < 4 := by have := (List.getElem?_eq_some_iff.1 hj).1; have := H8l.out; omega
          rw [afill_low (by omega) (by rw [HL.out]; omega), ← ho8]
          exact awn_get j x hj)
        have cchg := fun W => achanged_any a b c' d i W (by omega)
        have HC : Hid ((abn (achgB gboxU i [a, b, c', d])).length = 4) := Lib.hid (by rw [abn_length]; exact achg_length _ _ rfl)
        have hw1 : IntKind.i64.wrap ((i : Int) - 1) = (i : Int) - 1 := IntWalk.i64_in _ ⟨by omega, by omega⟩
        have hw8 : IntKind.i64.wrap ((i : Int) - 8) = (i : Int) - 8 := IntWalk.i64_in _ ⟨by omega, by omega⟩
        clear hw hx ho1 ho8 ho Hw
        revert Hx cchg HC
        generalize abn (achgB gboxU i [a, b, c', d]) = C
        generalize hW8 : awn L (i - 8) = W8 at *
        intro Hx cchg HC
        clear hW8
        go_wp2_with (refine wp_load_part (ns := four a b c' d) arr4.under rfl info_4 rfl (.tmp 31) rfl o1 rfl (sk_hd F5.out) rfl Hn1.out ?_)
        refine (cchg _).mono ?_
        rintro e w4 ⟨rfl, hb4⟩
        have F6 := Lib.hid (sk_below F5.out hb4)
        clear hb4 F5 cchg
        go_wp2_with (refine wp_alloc_arr (k := .u8) rfl 51 rfl 4 zero4 ?_)
        intro w5 g7 G7 H7 Hb7 Hs7
        go_wp2_with (refine wp_put_arr arr4 rfl (.tmp 7) (.tmp 34) rfl rfl (l' := C) rfl H7.out (Zs_length _) HC.out ?_)
        intro w6 H8 Hm8 Hs8
        have Hg7 : Hid (g3 ≠ g7 ∧ g2 ≠ g7 ∧ g1 ≠ g7 ∧ w.heap.size ≤ g7) := Lib.hid (by
          have e := G7.out
          have h0 := (sk_hd F6.out).lt
          have h1 := (F6.out.1 (g2, 47, Zs 240) (by simp)).lt
          have h2 := (F6.out.1 (g1, 47, Zs 240) (by simp)).lt
          have h3 := F6.out.2.size
          dsimp only at h1 h2
          omega)
        have F7 : Hid (SK w [(g3, 52, L.take (4 * i) ++ (Zs 240).drop (4 * i)), (g7, 51, C), (g2, 47, Zs 240), (g1, 47, Zs 240)] w6) := Lib.hid (sk_sub (sk_cons (sk_keep (sk_below F6.out Hb7.out) Hm8.out (by
          have h4 := Hg7.out
          intro x hx
          simp only [List.mem_cons, List.not_mem_nil, or_false] at hx
          rcases hx with rfl | rfl | rfl
          · exact h4.1
          · exact h4.2.1
          · exact h4.2.2.1) Hg7.out.2.2.2) H8.out) (by intro x hx; simp only [List.mem_cons, List.not_mem_nil, or_false] at hx ⊢; rcases hx with rfl | rfl | rfl | rfl <;> simp))
        have Hne7 : Hid (∀ x ∈ [(g7, 51, C), (g2, 47, Zs 240), (g1, 47, Zs 240)], x.1 ≠ g3) := Lib.hid (by
          have h4 := Hg7.out
          have h5 := Hg.out
          intro x hx
          simp only [List.mem_cons, List.not_mem_nil, or_false] at hx
          rcases hx with rfl | rfl | rfl
          · exact h4.1.symm
          · exact h5.2.2.2.2.1
          · exact h5.2.2.2.1)
        clear F6 H7 H8 Hb7 Hs7 Hm8 Hs8 G7
        have Hn8' : Hid (Arr w6 g3 52 .u8 (L.take (4 * i) ++ (Zs 240).drop (4 * i))) := Lib.hid (sk_hd F7.out)
        go_wp2_with (refine wp_load_part (ns := W8) arr4.under rfl info_4 rfl (.tmp 37) rfl o8 rfl Hn8'.out H8l.out Hn8.out ?_)
        have F8 : Hid (SK w [(g3, 52, L.take (o + 0) ++ (Zs 240).drop (o + 0)), (g7, 51, C), (g2, 47, Zs 240), (g1, 47, Zs 240)] w6) := Lib.hid (by have h := F7.out; rw [Ho.out] at h; exact h)
        clear Hn8' Hn8 Hn1 F7 ix1 ix8 hw1 hw8
        go_wp2
        go_loopw [39] (fun v wr => ∃ j : Nat, j ≤ 4 ∧ v = .int .i64 (j : Int) ∧ Hid (SK w [(g3, 52, L.take (o + j) ++ (Zs 240).drop (o + j)), (g7, 51, C), (g2, 47, Zs 240), (g1, 47, Zs 240)] wr)) (fun v _ => 4 - (intOf v).toNat)
        case atStart => exact ⟨0, by omega, rfl, F8⟩
        case round =>
          clear F8
          obtain ⟨j, hj, rfl, F7⟩ := hrel
          by_cases hlj : j < 4
          · obtain ⟨x, y, hx, hy, hz⟩ := Hx.out j hlj
            have hii := fun W => run_index_arr arr4 info_u8n H8l.out hx W
            obtain ⟨q, hq⟩ : ∃ q, o + j = q := ⟨_, rfl⟩
            have ixj := fun W => run_indexAt_arr (g := g7) arr4 info_u8n j (j : Int) rfl hlj W
            have ixq := fun W => run_indexAt_off (P := Try.prog) (b := g3) arr4 info_u8n o j q hlj hq W
            have hxor := gxor_u8 x y
            rw [Ho.out, hq] at hz
            rw [hq] at F7
            have hq240 : q < 240 := by have := Ho.out; omega
            have Hz := Lib.hid hz
            have Hy := Lib.hid hy
            have Hq := Lib.hid hq
            clear hx hy hz hq
            generalize x ^^^ y = z at *
            have hfz := (sk_hd F7.out).drew.frozen q
            have hcl := (sk_hd F7.out).drew.at_ (fill_get (L := L) (M := Zs 240) (i := q) (by rw [Zs_length]; omega) (by rw [HL.out]; omega))
            go_wp2_with fail
            refine wp_region_ends (fun w' => SK w [(g3, 52, L.take q ++ (Zs 240).drop q), (g7, 51, C), (g2, 47, Zs 240), (g1, 47, Zs 240)] w') 9 (by kernel_rfl) ?_
            refine wpAnyE_take (i := 0) (v := .int .i64 (i : Int)) (some 43) rfl rfl (by kernel_rfl) (fun _ _ _ h => h) (.inl ⟨by rfl, fun W _ => rfl⟩) (sk_drewN F7.out 1) ?_
            simp only [Act.put, List.setIfInBounds_toArray, List.set_cons_zero, List.set_cons_succ]
            refine wpAnyE_take (i := 1) (v := .int .i64 (j : Int)) (some 44) rfl rfl (by kernel_rfl) (fun _ _ _ h => h) (.inl ⟨by rfl, fun W _ => rfl⟩) (sk_drewN F7.out 1) ?_
            simp only [Act.put, List.setIfInBounds_toArray, List.set_cons_zero, List.set_cons_succ]
            refine wpAnyE_take (i := 2) (v := .int .u8 (x.toNat : Int)) (some 45) rfl rfl (by kernel_rfl) (fun _ _ _ h => h) (.inl ⟨by rfl, fun W _ => rfl⟩) (sk_drewN F7.out 1) ?_
            simp only [Act.put, List.setIfInBounds_toArray, List.set_cons_zero, List.set_cons_succ]
            refine wpAnyE_take (i := 3) (v := .int .i64 (j : Int)) (some 46) rfl rfl (by kernel_rfl) (fun _ _ _ h => h) (.inl ⟨by rfl, fun W _ => rfl⟩) (sk_drewN F7.out 1) ?_
            simp only [Act.put, List.setIfInBounds_toArray, List.set_cons_zero, List.set_cons_succ]
            refine wpAnyE_take (i := 4) (v := .pointer (some ⟨g7, j, none⟩)) (some 47) rfl rfl (by kernel_rfl) (fun _ _ _ h => h) (.inl ⟨by rfl, fun W _ => by go_simp⟩) (sk_drewN F7.out 1) ?_
            simp only [Act.put, List.setIfInBounds_toArray, List.set_cons_zero, List.set_cons_succ]
            refine wpAnyE_take (i := 5) (v := .int .u8 (y.toNat : Int)) (some 48) rfl rfl (by kernel_rfl) (fun _ _ _ h => h) (.inl ⟨by rfl, fun W h => by have hc := (Arr.at_ (t := 51) (k := .u8) (l := C) (h.1 (g7, 51, C) (by simp)) Hy.out); go_simp⟩) (sk_drewN F7.out 1) ?_
            simp only [Act.put, List.setIfInBounds_toArray, List.set_cons_zero, List.set_cons_succ]
            refine wpAnyE_take (i := 6) (v := .int .u8 (z.toNat : Int)) (some 49) rfl rfl (by kernel_rfl) (fun _ _ _ h => h) (.inl ⟨by rfl, fun W _ => by go_simp⟩) (sk_drewN F7.out 1) ?_
            simp only [Act.put, List.setIfInBounds_toArray, List.set_cons_zero, List.set_cons_succ]
            refine wpAnyE_one (i := 7) (by kernel_rfl) rfl (fun K7 hK7 => ?_)
            go_simp
            refine hK7.out _ _ (.inr (sk_drewN F7.out 1)) ?_
            clear hK7 K7
            refine wpAnyE_take (i := 8) (v := .pointer (some ⟨g3, q, none⟩)) (some 51) rfl rfl (by kernel_rfl) (fun _ _ _ h => h) (.inl ⟨by rfl, fun W _ => by go_simp⟩) (sk_drewN F7.out 1) ?_
            simp only [Act.put, List.setIfInBounds_toArray, List.set_cons_zero, List.set_cons_succ]
            refine wpAnyE_one (i := 9) (by kernel_rfl) rfl (fun K6 hK6 => ?_)
            go_simp
            refine hK6.out _ _ (.inl rfl) ?_
            have F8 : Hid (SK w [(g3, 52, L.take (o + (j + 1)) ++ (Zs 240).drop (o + (j + 1))), (g7, 51, C), (g2, 47, Zs 240), (g1, 47, Zs 240)] ((wr.setCell ⟨g3, q, none⟩ (.int .u8 (z.toNat : Int))).drew)) := Lib.hid (by
              have h := sk_drewN (sk_set F7.out Hne7.out Hg.out.2.2.1 q z.toNat) 1
              rw [afill_step Hz.out (by rw [Zs_length]; omega)] at h
              rw [show o + (j + 1) = q + 1 by have := Hq.out; omega]
              exact h)
            clear hK6 K6 F7
            refine wpAnyE_done (by kernel_rfl) ?_
            go_wp2
            go_roundw
            case rel => exact ⟨j + 1, by omega, by go_num, F8⟩
            case measure => simp [intOf]; omega
          · obtain rfl : j = 4 := by omega
            have F9 : Hid (SK w [(g3, 52, L.take (4 * (i + 1)) ++ (Zs 240).drop (4 * (i + 1))), (g2, 47, Zs 240), (g1, 47, Zs 240)] wr) := Lib.hid (by
              have h := sk_sub (M := [(g3, 52, L.take (o + 4) ++ (Zs 240).drop (o + 4)), (g2, 47, Zs 240), (g1, 47, Zs 240)]) F7.out (by intro x hx; simp only [List.mem_cons, List.not_mem_nil, or_false] at hx ⊢; rcases hx with rfl | rfl | rfl <;> simp)
              rw [show o + 4 = 4 * (i + 1) by have := Ho.out; omega] at h
              exact h)
            clear F7
            go_wp2
            go_roundw
            case rel => exact ⟨i + 1, by omega, by go_num, F9⟩
            case measure => simp [intOf]; omega
    · obtain rfl : i = 60 := by omega
      have A3 : Hid (Arr wr g3 52 .u8 L) := Lib.hid (by have h := sk_hd F5.out; rw [show 4 * 60 = 240 from rfl, fill_all HL.out (Zs_length _)] at h; exact h)
      have F6 : Hid (SK w [(g2, 47, L.take (4 * 0) ++ (Zs 240).drop (4 * 0)), (g1, 47, Zs 240)] wr) := Lib.hid (sk_sub F5.out (by intro x hx; simp only [List.mem_cons, List.not_mem_nil, or_false] at hx ⊢; rcases hx with rfl | rfl <;> simp))
      have Hne1 : Hid (∀ x ∈ [(g1, 47, Zs 240)], x.1 ≠ g2) := Lib.hid (by
        have h5 := Hg.out
        intro x hx
        simp only [List.mem_cons, List.not_mem_nil, or_false] at hx
        rcases hx with rfl
        exact h5.2.2.2.2.2)
      clear F5
      go_wp2_with (refine wp_load_w arrWords rfl (.tmp 5) rfl rfl A3.out HL.out ?_)
      clear A3
      go_wp2
      go_loopw [55] (fun v wr => ∃ i : Nat, i ≤ 60 ∧ v = .int .i64 (i : Int) ∧ Hid (SK w [(g2, 47, L.take (4 * i) ++ (Zs 240).drop (4 * i)), (g1, 47, Zs 240)] wr)) (fun v _ => 60 - (intOf v).toNat)
      case atStart => exact ⟨0, by omega, rfl, F6⟩
      case round =>
        clear F6
        obtain ⟨i, hi, rfl, F6⟩ := hrel
        by_cases hlt : i < 60
        · have HA0 := Lib.hid (awn_length HL.out (i := i) hlt)
          have hii := fun W => run_index_w (k := .u8) arrWords arr4.under info_4 L (awn L i) i hlt HA0.out (by rw [HL.out]; omega) (fun j x hx => by rw [Nat.mul_comm i 4]; exact awn_get j x hx) W
          go_wp2_with (refine wp_alloc_arr (k := .u8) rfl 51 rfl 4 zero4 ?_)
          intro w5 g7 G7 H7 Hb7 Hs7
          go_wp2_with (refine wp_put_arr arr4 rfl (.tmp 11) (.tmp 58) rfl rfl (l' := awn L i) rfl H7.out (Zs_length _) HA0.out ?_)
          intro w6 H8 Hm8 Hs8
          have Hg7 : Hid (g2 ≠ g7 ∧ g1 ≠ g7 ∧ w.heap.size ≤ g7) := Lib.hid (by
            have e := G7.out
            have h0 := (sk_hd F6.out).lt
            have h2 := (F6.out.1 (g1, 47, Zs 240) (by simp)).lt
            have h3 := F6.out.2.size
            dsimp only at h2
            omega)
          have F7 : Hid (SK w [(g2, 47, L.take (4 * i) ++ (Zs 240).drop (4 * i)), (g1, 47, Zs 240)] w6) := Lib.hid (sk_keep (sk_below F6.out Hb7.out) Hm8.out (by
            have h4 := Hg7.out
            intro x hx
            simp only [List.mem_cons, List.not_mem_nil, or_false] at hx
            rcases hx with rfl | rfl
            · exact h4.1
            · exact h4.2.1) Hg7.out.2.2)
          clear F6 H7 Hb7 Hs7 Hm8 Hs8 G7 hii
          obtain ⟨o, ho⟩ : ∃ o, 4 * i = o := ⟨_, rfl⟩
          obtain ⟨qd, hqd⟩ : ∃ qd, i / 4 = qd := ⟨_, rfl⟩
          obtain ⟨rm, hrm⟩ : ∃ rm, i % 4 = rm := ⟨_, rfl⟩
          obtain ⟨r4, hr4⟩ : ∃ r4, rm * 4 = r4 := ⟨_, rfl⟩
          obtain ⟨o1, ho1⟩ : ∃ o1, qd * 16 = o1 := ⟨_, rfl⟩
          have z0 : (0 : Int) ≤ (i : Int) := by omega
          have e1 : (i : Int) / 4 = (qd : Int) := by omega
          have e1t : (i : Int).tdiv 4 = (qd : Int) := by rw [Int.tdiv_eq_ediv_of_nonneg z0]; exact e1
          have e2 : (i : Int) % 4 = (rm : Int) := by omega
          have e2t : (i : Int).tmod 4 = (rm : Int) := by rw [Int.tmod_eq_emod_of_nonneg z0]; exact e2
          have hwq : IntKind.i64.wrap (qd : Int) = (qd : Int) := IntWalk.i64_in _ ⟨by omega, by omega⟩
          have hwm : IntKind.i64.wrap ((rm : Int) * 4) = (rm : Int) * 4 := IntWalk.i64_in _ ⟨by omega, by omega⟩
          have ix := fun W => run_indexAt_w (b := g2) arrKeys info_16 qd o1 (qd : Int) rfl (by omega) ho1 W
          have sl1 := fun W => run_slice_arr_from (P := Try.prog) (b := g2) arr16 info_u8n o1 r4 ((rm : Int) * 4) (by omega) (by omega) W
          rw [show o1 + r4 = o by omega] at sl1
          have sl2 := fun W => run_slice_arr_all (P := Try.prog) (b := g7) arr4 info_u8n 0 W
          have Hmin : Hid (4 = Nat.min 4 (16 - r4)) := Lib.hid (by show 4 = min 4 (16 - r4); omega)
          have Hsrc : Hid (∀ j x : Nat, (awn L i)[j]? = some x → w6.drew.cell? ((⟨g7, 0, none⟩ : Addr).add j) = some (.int .u8 (x : Int))) := Lib.hid (fun j x hx => by rw [add_flat, Nat.zero_add]; exact H8.out.at_ hx)
          have Hfit : Hid (o + 4 ≤ (L.take (4 * i) ++ (Zs 240).drop (4 * i)).length) := Lib.hid (by rw [fill_length (by rw [HL.out, Zs_length]), Zs_length]; omega)
          have Hspl : Hid (splice (L.take (4 * i) ++ (Zs 240).drop (4 * i)) o (awn L i) = L.take (4 * (i + 1)) ++ (Zs 240).drop (4 * (i + 1))) := Lib.hid (by
            rw [← ho, afill_splice (L := L) (M := Zs 240) (ns := awn L i) (off := 4 * i) (by rw [HL.out, Zs_length]) (by rw [HA0.out, Zs_length]; omega) (fun j x hx => awn_get j x hx), HA0.out]
            rfl)
          clear ho hqd hrm hr4 ho1 H8
          go_wp2_with fail
          refine wp_region_takes (by kernel_rfl) ?_
          refine wpAnyT_take (i := 0) (v := .int .i64 (i : Int)) (some 59) rfl rfl (by kernel_rfl) (fun _ _ _ h => h) (.inl ⟨by rfl, fun W => rfl⟩) ?_
          simp only [Act.put, List.setIfInBounds_toArray, List.set_cons_zero, List.set_cons_succ]
          refine wpAnyT_take (i := 1) (v := .int .i64 (qd : Int)) (some 60) rfl rfl (by kernel_rfl) (fun _ _ _ h => h) (.inl ⟨by rfl, fun W => by go_simp⟩) ?_
          simp only [Act.put, List.setIfInBounds_toArray, List.set_cons_zero, List.set_cons_succ]
          refine wpAnyT_take (i := 2) (v := .pointer (some ⟨g2, o1, none⟩)) (some 61) rfl rfl (by kernel_rfl) (fun _ _ _ h => h) (.inl ⟨by rfl, fun W => by go_simp⟩) ?_
          simp only [Act.put, List.setIfInBounds_toArray, List.set_cons_zero, List.set_cons_succ]
          refine wpAnyT_take (i := 3) (v := .int .i64 (i : Int)) (some 62) rfl rfl (by kernel_rfl) (fun _ _ _ h => h) (.inl ⟨by rfl, fun W => rfl⟩) ?_
          simp only [Act.put, List.setIfInBounds_toArray, List.set_cons_zero, List.set_cons_succ]
          refine wpAnyT_take (i := 4) (v := .int .i64 (rm : Int)) (some 63) rfl rfl (by kernel_rfl) (fun _ _ _ h => h) (.inl ⟨by rfl, fun W => by go_simp⟩) ?_
          simp only [Act.put, List.setIfInBounds_toArray, List.set_cons_zero, List.set_cons_succ]
          refine wpAnyT_take (i := 5) (v := .int .i64 ((rm : Int) * 4)) (some 64) rfl rfl (by kernel_rfl) (fun _ _ _ h => h) (.inl ⟨by rfl, fun W => by go_simp⟩) ?_
          simp only [Act.put, List.setIfInBounds_toArray, List.set_cons_zero, List.set_cons_succ]
          refine wpAnyT_take (i := 6) (v := .slice (some ⟨g2, o, none⟩) (16 - r4) (16 - r4)) (some 65) rfl rfl (by kernel_rfl) (fun _ _ _ h => h) (.inl ⟨by rfl, fun W => by go_simp⟩) ?_
          simp only [Act.put, List.setIfInBounds_toArray, List.set_cons_zero, List.set_cons_succ]
          refine wpAnyT_take (i := 7) (v := .slice (some ⟨g7, 0, none⟩) 4 4) (some 66) rfl rfl (by kernel_rfl) (fun _ _ _ h => h) (.inl ⟨by rfl, fun W => by go_simp⟩) ?_
          simp only [Act.put, List.setIfInBounds_toArray, List.set_cons_zero, List.set_cons_succ]
          refine wpAnyT_one (i := 8) (by kernel_rfl) rfl (fun K5 hK5 => ?_)
          refine stepT_copy (k := .u8) (g := g2) (some 67) rfl rfl (.tmp 65) (.tmp 66) 22 22 rfl 5 Try.underlying22 info_u8n o (16 - r4) (16 - r4) ⟨g7, 0, none⟩ 4 4 rfl rfl _ (awn L i) 4 HA0.out (sk_hd F7.out).drew Hmin.out Hsrc.out Hfit.out (fun W6 A6 M6 _ => hK5.out _ _ ?_)
          have F8 := Lib.hid (sk_put (sk_drewN F7.out 1) M6.out A6.out Hne1.out Hg.out.2.1)
          rw [Hspl.out] at F8
          clear A6 M6 F7 hK5 K5
          simp only [Act.put, List.setIfInBounds_toArray, List.set_cons_zero, List.set_cons_succ]
          refine wpAnyT_done (by kernel_rfl) ?_
          go_wp2
          go_roundw
          case rel => exact ⟨i + 1, by omega, by go_num, F8⟩
          case measure => simp [intOf]; omega
        · obtain rfl : i = 60 := by omega
          have A2 : Hid (Arr wr g2 47 .u8 L) := Lib.hid (by have h := sk_hd F6.out; rw [show 4 * 60 = 240 from rfl, fill_all HL.out (Zs_length _)] at h; exact h)
          have A1 : Hid (Arr wr g1 47 .u8 (Zs 240)) := Lib.hid (F6.out.1 (g1, 47, Zs 240) (by simp))
          go_wp2_with (first
            | refine wp_load_w arrKeys rfl (.tmp 4) rfl rfl A2.out HL.out ?_
            | refine wp_put_w arrKeys rfl (.tmp 2) (.tmp 69) rfl rfl (l' := L) rfl A1.out (Zs_length _) HL.out ?_)
          intro w9 H9 Hm9 Hs9
          go_wp2
          exact ret_two arrKeys rfl rfl H9.out HL.out rfl rfl ⟨rfl, F6.out.2.trans (Hm9.out.below (fun j hj => by rw [hj]; exact Hg.out.1) F6.out.2.size)⟩


end Go.Proofs.Ytfkfkmdnffpcmaa
