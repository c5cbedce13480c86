/-
  Some of the texts that the last one of these needs: walks of the functions that the law calls, and the mathematics of their answers.
-/
import Derived.Test.YtfkfkmdnffpcmaaPkBase2
namespace Go.Proofs.Ytfkfkmdnffpcmaa
open Go.RowKit

set_option maxHeartbeats 6400000 in
set_option maxRecDepth 20000 in
theorem rwords_any (key : List UInt8) (c B : Nat) (A : Option Addr) (w : World) (hr : Rd w B A 32 (Byt key)) (hB : B ≤ w.heap.size) :
    Calls Try.prog 28 #[.slice A 32 c] w (AnsA w .u8 (abn (akeysU key))) := by
  have HF := Lib.hid (keyFacts hr.bytes)
  obtain ⟨kb, ko, rfl, hkb, hcells⟩ := hr.2 (by omega)
  have Hkb : Hid (kb < w.heap.size) := Lib.hid (by omega)
  have Hkey : Hid (∀ j, j < 32 → ∃ x : UInt8, key[j]? = some x ∧ w.cell? ⟨kb, ko + j, none⟩ = some (.int .u8 (x.toNat : Int))) := Lib.hid (fun j hj => by
    have hl : j < key.length := by have := hr.bytes; omega
    exact ⟨key[j], List.getElem?_eq_getElem hl, hcells j _ (Byt_get hl)⟩)
  have Hlow : Hid (∀ j, j < 32 → ∃ x : Nat, (abn (akeysU key))[j]? = some x ∧ w.cell? ⟨kb, ko + j, none⟩ = some (.int .u8 (x : Int))) := Lib.hid (fun j hj => by
    obtain ⟨x, h1, h2⟩ := Hkey.out j hj
    obtain ⟨y, h3, h4⟩ := HF.out.low j hj
    rw [h1] at h3
    injection h3 with h3
    subst h3
    exact ⟨_, h4, h2⟩)
  clear Hkey hcells hr hkb hB
  have HL := Lib.hid HF.out.len
  have Hhigh := Lib.hid HF.out.high
  clear HF
  revert Hlow HL Hhigh
  generalize abn (akeysU key) = L
  intro Hlow HL Hhigh
  go_enter Try.func28, Try.ntmps28
  go_wp2_with (refine wp_alloc_arr (k := .u8) rfl 52 rfl 240 zeroWords ?_)
  intro w1 g1 G1 H1 Hb1 Hs1
  go_wp2_with (refine wp_alloc_arr (k := .u8) rfl 52 rfl 240 zeroWords ?_)
  intro w2 g2 G2 H2 Hb2 Hs2
  have Hg : Hid ((w.heap.size ≤ g1 ∧ g1 ≠ g2) ∧ w.heap.size ≤ g2) := Lib.hid (by have := G1.out; have := G2.out; have := Hs1.out; omega)
  have F3 : Hid (SK w [(g2, 52, L.take (4 * 0) ++ (Zs 240).drop (4 * 0)), (g1, 52, Zs 240)] w2) := Lib.hid ⟨by
    intro x hx
    simp only [List.mem_cons, List.not_mem_nil, or_false] at hx
    rcases hx with rfl | rfl
    · exact H2.out
    · exact H1.out.below Hb2.out H1.out.lt, abon Hb1.out Hb2.out⟩
  have Hne2 : Hid (∀ x ∈ [(g1, 52, Zs 240)], x.1 ≠ g2) := Lib.hid (by
    have h5 := Hg.out
    intro x hx
    simp only [List.mem_cons, List.not_mem_nil, or_false] at hx
    rcases hx with rfl
    exact h5.1.2)
  clear H1 H2 Hb1 Hb2 G1 G2 Hs1 Hs2
  go_wp2
  go_loopw [4] (fun v wr => ∃ i : Nat, i ≤ 60 ∧ v = .int .i64 (i : Int) ∧ Hid (SK w [(g2, 52, L.take (4 * i) ++ (Zs 240).drop (4 * i)), (g1, 52, Zs 240)] wr)) (fun v _ => 60 - (intOf v).toNat)
  case atStart => exact ⟨0, by omega, rfl, F3⟩
  case round =>
    clear F3
    obtain ⟨i, hi, rfl, F5⟩ := hrel
    by_cases hlt : i < 60
    · obtain ⟨o, ho⟩ : ∃ o, 4 * i = o := ⟨_, rfl⟩
      have Ho := Lib.hid ho
      have ix := fun W => run_indexAt_w (b := g2) arrWords info_4 i o (i : Int) rfl hlt (by omega) W
      by_cases h8 : i < 8
      · obtain ⟨x0, hl0, hc0⟩ := Hlow.out o (by omega)
        obtain ⟨x1, hl1, hc1⟩ := Hlow.out (o + 1) (by omega)
        obtain ⟨x2, hl2, hc2⟩ := Hlow.out (o + 2) (by omega)
        obtain ⟨x3, hl3, hc3⟩ := Hlow.out (o + 3) (by omega)
        have Hfit : Hid (o + [x0, x1, x2, x3].length ≤ (L.take (4 * i) ++ (Zs 240).drop (4 * i)).length) := Lib.hid (by rw [fill_length (by rw [HL.out, Zs_length]), Zs_length]; show o + 4 ≤ 240; omega)
        have Hspl : Hid (splice (L.take (4 * i) ++ (Zs 240).drop (4 * i)) o [x0, x1, x2, x3] = L.take (4 * (i + 1)) ++ (Zs 240).drop (4 * (i + 1))) := Lib.hid (by
          rw [← ho, afill_splice (L := L) (M := Zs 240) (ns := [x0, x1, x2, x3]) (off := 4 * i) (by rw [HL.out, Zs_length]) (by rw [Zs_length]; show 4 * i + 4 ≤ 240; omega) (fun j x hx => by
            rw [ho]
            match j, hx with
            | 0, hx => injection hx with hx; rw [← hx]; exact hl0
            | 1, hx => injection hx with hx; rw [← hx]; exact hl1
            | 2, hx => injection hx with hx; rw [← hx]; exact hl2
            | 3, hx => injection hx with hx; rw [← hx]; exact hl3
            | j + 4, hx => simp at hx)]
          rfl)
        have Hc0 := Lib.hid hc0
        have Hc1 := Lib.hid hc1
        have Hc2 := Lib.hid hc2
        have Hc3 := Lib.hid hc3
        have k0 := fun W => run_indexAt_row (P := Try.prog) (b := kb) (t := 22) (e := 5) Try.underlying22 info_u8n ko 32 c o (ko + o) (4 * (i : Int)) (by omega) (by omega) (by omega) W
        have k1 := fun W => run_indexAt_row (P := Try.prog) (b := kb) (t := 22) (e := 5) Try.underlying22 info_u8n ko 32 c (o + 1) (ko + (o + 1)) (4 * (i : Int) + 1) (by omega) (by omega) (by omega) W
        have k2 := fun W => run_indexAt_row (P := Try.prog) (b := kb) (t := 22) (e := 5) Try.underlying22 info_u8n ko 32 c (o + 2) (ko + (o + 2)) (4 * (i : Int) + 2) (by omega) (by omega) (by omega) W
        have k3 := fun W => run_indexAt_row (P := Try.prog) (b := kb) (t := 22) (e := 5) Try.underlying22 info_u8n ko 32 c (o + 3) (ko + (o + 3)) (4 * (i : Int) + 3) (by omega) (by omega) (by omega) W
        have hw0 : IntKind.i64.wrap (4 * (i : Int)) = 4 * (i : Int) := IntWalk.i64_in _ ⟨by omega, by omega⟩
        have hw1 : IntKind.i64.wrap (4 * (i : Int) + 1) = 4 * (i : Int) + 1 := IntWalk.i64_in _ ⟨by omega, by omega⟩
        have hw2 : IntKind.i64.wrap (4 * (i : Int) + 2) = 4 * (i : Int) + 2 := IntWalk.i64_in _ ⟨by omega, by omega⟩
        have hw3 : IntKind.i64.wrap (4 * (i : Int) + 3) = 4 * (i : Int) + 3 := IntWalk.i64_in _ ⟨by omega, by omega⟩
        clear hl0 hl1 hl2 hl3 hc0 hc1 hc2 hc3 ho
        go_wp2_with fail
        refine wp_region_ends (fun w' => SK w [(g2, 52, L.take (4 * i) ++ (Zs 240).drop (4 * i)), (g1, 52, Zs 240)] w') 26 (by kernel_rfl) ?_
        refine wpAnyE_take (i := 0) (v := .int .i64 (i : Int)) (some 14) rfl rfl (by kernel_rfl) (fun _ _ _ h => h) (.inl ⟨by rfl, fun W _ => rfl⟩) (sk_drewN F5.out 1) ?_
        simp only [Act.put, List.setIfInBounds_toArray, List.set_cons_zero, List.set_cons_succ]
        refine wpAnyE_take (i := 1) (v := .slice (some ⟨kb, ko, none⟩) 32 c) (some 15) rfl rfl (by kernel_rfl) (fun _ _ _ h => h) (.inl ⟨by rfl, fun W _ => rfl⟩) (sk_drewN F5.out 1) ?_
        simp only [Act.put, List.setIfInBounds_toArray, List.set_cons_zero, List.set_cons_succ]
        refine wpAnyE_take (i := 2) (v := .int .i64 (i : Int)) (some 16) rfl rfl (by kernel_rfl) (fun _ _ _ h => h) (.inl ⟨by rfl, fun W _ => rfl⟩) (sk_drewN F5.out 1) ?_
        simp only [Act.put, List.setIfInBounds_toArray, List.set_cons_zero, List.set_cons_succ]
        refine wpAnyE_take (i := 3) (v := .int .i64 (4 * (i : Int))) (some 17) rfl rfl (by kernel_rfl) (fun _ _ _ h => h) (.inl ⟨by rfl, fun W _ => by go_simp⟩) (sk_drewN F5.out 1) ?_
        simp only [Act.put, List.setIfInBounds_toArray, List.set_cons_zero, List.set_cons_succ]
        refine wpAnyE_take (i := 4) (v := .pointer (some ⟨kb, ko + o, none⟩)) (some 18) rfl rfl (by kernel_rfl) (fun _ _ _ h => h) (.inl ⟨by rfl, fun W _ => by go_simp⟩) (sk_drewN F5.out 1) ?_
        simp only [Act.put, List.setIfInBounds_toArray, List.set_cons_zero, List.set_cons_succ]
        refine wpAnyE_take (i := 5) (v := .int .u8 (x0 : Int)) (some 19) rfl rfl (by kernel_rfl) (fun _ _ _ h => h) (.inl ⟨by rfl, fun W h => by have hc := (h.2.cell (p := ⟨kb, ko + o, none⟩) Hkb.out).trans Hc0.out; go_simp⟩) (sk_drewN F5.out 1) ?_
        simp only [Act.put, List.setIfInBounds_toArray, List.set_cons_zero, List.set_cons_succ]
        refine wpAnyE_take (i := 6) (v := .slice (some ⟨kb, ko, none⟩) 32 c) (some 20) rfl rfl (by kernel_rfl) (fun _ _ _ h => h) (.inl ⟨by rfl, fun W _ => rfl⟩) (sk_drewN F5.out 1) ?_
        simp only [Act.put, List.setIfInBounds_toArray, List.set_cons_zero, List.set_cons_succ]
        refine wpAnyE_take (i := 7) (v := .int .i64 (i : Int)) (some 21) rfl rfl (by kernel_rfl) (fun _ _ _ h => h) (.inl ⟨by rfl, fun W _ => rfl⟩) (sk_drewN F5.out 1) ?_
        simp only [Act.put, List.setIfInBounds_toArray, List.set_cons_zero, List.set_cons_succ]
        refine wpAnyE_take (i := 8) (v := .int .i64 (4 * (i : Int))) (some 22) rfl rfl (by kernel_rfl) (fun _ _ _ h => h) (.inl ⟨by rfl, fun W _ => by go_simp⟩) (sk_drewN F5.out 1) ?_
        simp only [Act.put, List.setIfInBounds_toArray, List.set_cons_zero, List.set_cons_succ]
        refine wpAnyE_take (i := 9) (v := .int .i64 (4 * (i : Int) + 1)) (some 23) rfl rfl (by kernel_rfl) (fun _ _ _ h => h) (.inl ⟨by rfl, fun W _ => by go_simp⟩) (sk_drewN F5.out 1) ?_
        simp only [Act.put, List.setIfInBounds_toArray, List.set_cons_zero, List.set_cons_succ]
        refine wpAnyE_take (i := 10) (v := .pointer (some ⟨kb, ko + (o + 1), none⟩)) (some 24) rfl rfl (by kernel_rfl) (fun _ _ _ h => h) (.inl ⟨by rfl, fun W _ => by go_simp⟩) (sk_drewN F5.out 1) ?_
        simp only [Act.put, List.setIfInBounds_toArray, List.set_cons_zero, List.set_cons_succ]
        refine wpAnyE_take (i := 11) (v := .int .u8 (x1 : Int)) (some 25) rfl rfl (by kernel_rfl) (fun _ _ _ h => h) (.inl ⟨by rfl, fun W h => by have hc := (h.2.cell (p := ⟨kb, ko + (o + 1), none⟩) Hkb.out).trans Hc1.out; go_simp⟩) (sk_drewN F5.out 1) ?_
        simp only [Act.put, List.setIfInBounds_toArray, List.set_cons_zero, List.set_cons_succ]
        refine wpAnyE_take (i := 12) (v := .slice (some ⟨kb, ko, none⟩) 32 c) (some 26) rfl rfl (by kernel_rfl) (fun _ _ _ h => h) (.inl ⟨by rfl, fun W _ => rfl⟩) (sk_drewN F5.out 1) ?_
        simp only [Act.put, List.setIfInBounds_toArray, List.set_cons_zero, List.set_cons_succ]
        refine wpAnyE_take (i := 13) (v := .int .i64 (i : Int)) (some 27) rfl rfl (by kernel_rfl) (fun _ _ _ h => h) (.inl ⟨by rfl, fun W _ => rfl⟩) (sk_drewN F5.out 1) ?_
        simp only [Act.put, List.setIfInBounds_toArray, List.set_cons_zero, List.set_cons_succ]
        refine wpAnyE_take (i := 14) (v := .int .i64 (4 * (i : Int))) (some 28) rfl rfl (by kernel_rfl) (fun _ _ _ h => h) (.inl ⟨by rfl, fun W _ => by go_simp⟩) (sk_drewN F5.out 1) ?_
        simp only [Act.put, List.setIfInBounds_toArray, List.set_cons_zero, List.set_cons_succ]
        refine wpAnyE_take (i := 15) (v := .int .i64 (4 * (i : Int) + 2)) (some 29) rfl rfl (by kernel_rfl) (fun _ _ _ h => h) (.inl ⟨by rfl, fun W _ => by go_simp⟩) (sk_drewN F5.out 1) ?_
        simp only [Act.put, List.setIfInBounds_toArray, List.set_cons_zero, List.set_cons_succ]
        refine wpAnyE_take (i := 16) (v := .pointer (some ⟨kb, ko + (o + 2), none⟩)) (some 30) rfl rfl (by kernel_rfl) (fun _ _ _ h => h) (.inl ⟨by rfl, fun W _ => by go_simp⟩) (sk_drewN F5.out 1) ?_
        simp only [Act.put, List.setIfInBounds_toArray, List.set_cons_zero, List.set_cons_succ]
        refine wpAnyE_take (i := 17) (v := .int .u8 (x2 : Int)) (some 31) rfl rfl (by kernel_rfl) (fun _ _ _ h => h) (.inl ⟨by rfl, fun W h => by have hc := (h.2.cell (p := ⟨kb, ko + (o + 2), none⟩) Hkb.out).trans Hc2.out; go_simp⟩) (sk_drewN F5.out 1) ?_
        simp only [Act.put, List.setIfInBounds_toArray, List.set_cons_zero, List.set_cons_succ]
        refine wpAnyE_take (i := 18) (v := .slice (some ⟨kb, ko, none⟩) 32 c) (some 32) rfl rfl (by kernel_rfl) (fun _ _ _ h => h) (.inl ⟨by rfl, fun W _ => rfl⟩) (sk_drewN F5.out 1) ?_
        simp only [Act.put, List.setIfInBounds_toArray, List.set_cons_zero, List.set_cons_succ]
        refine wpAnyE_take (i := 19) (v := .int .i64 (i : Int)) (some 33) rfl rfl (by kernel_rfl) (fun _ _ _ h => h) (.inl ⟨by rfl, fun W _ => rfl⟩) (sk_drewN F5.out 1) ?_
        simp only [Act.put, List.setIfInBounds_toArray, List.set_cons_zero, List.set_cons_succ]
        refine wpAnyE_take (i := 20) (v := .int .i64 (4 * (i : Int))) (some 34) rfl rfl (by kernel_rfl) (fun _ _ _ h => h) (.inl ⟨by rfl, fun W _ => by go_simp⟩) (sk_drewN F5.out 1) ?_
        simp only [Act.put, List.setIfInBounds_toArray, List.set_cons_zero, List.set_cons_succ]
        refine wpAnyE_take (i := 21) (v := .int .i64 (4 * (i : Int) + 3)) (some 35) rfl rfl (by kernel_rfl) (fun _ _ _ h => h) (.inl ⟨by rfl, fun W _ => by go_simp⟩) (sk_drewN F5.out 1) ?_
        simp only [Act.put, List.setIfInBounds_toArray, List.set_cons_zero, List.set_cons_succ]
        refine wpAnyE_take (i := 22) (v := .pointer (some ⟨kb, ko + (o + 3), none⟩)) (some 36) rfl rfl (by kernel_rfl) (fun _ _ _ h => h) (.inl ⟨by rfl, fun W _ => by go_simp⟩) (sk_drewN F5.out 1) ?_
        simp only [Act.put, List.setIfInBounds_toArray, List.set_cons_zero, List.set_cons_succ]
        refine wpAnyE_take (i := 23) (v := .int .u8 (x3 : Int)) (some 37) rfl rfl (by kernel_rfl) (fun _ _ _ h => h) (.inl ⟨by rfl, fun W h => by have hc := (h.2.cell (p := ⟨kb, ko + (o + 3), none⟩) Hkb.out).trans Hc3.out; go_simp⟩) (sk_drewN F5.out 1) ?_
        simp only [Act.put, List.setIfInBounds_toArray, List.set_cons_zero, List.set_cons_succ]
        refine wpAnyE_take (i := 24) (v := .agg (Nums .u8 [x0, x1, x2, x3])) (some 38) rfl rfl (by kernel_rfl) (fun _ _ _ h => h) (.inl ⟨by rfl, fun W _ => by go_simp; rfl⟩) (sk_drewN F5.out 1) ?_
        simp only [Act.put, List.setIfInBounds_toArray, List.set_cons_zero, List.set_cons_succ]
        refine wpAnyE_take (i := 25) (v := .pointer (some ⟨g2, o, none⟩)) (some 39) rfl rfl (by kernel_rfl) (fun _ _ _ h => h) (.inl ⟨by rfl, fun W _ => by go_simp⟩) (sk_drewN F5.out 1) ?_
        simp only [Act.put, List.setIfInBounds_toArray, List.set_cons_zero, List.set_cons_succ]
        refine wpAnyE_one (i := 26) (by kernel_rfl) rfl (fun K5 hK5 => ?_)
        refine stepE_put_part none rfl rfl _ _ rfl o rfl rfl (sk_hd F5.out).drew Hfit.out info_4 (fun W6 A6 M6 _ => hK5.out _ _ (.inl rfl) ?_)
        have F6 := Lib.hid (sk_put (sk_drewN F5.out 1) M6.out A6.out Hne2.out Hg.out.2)
        rw [Hspl.out] at F6
        clear hK5 K5 A6 M6 F5
        simp only [Act.put]
        refine wpAnyE_done (by kernel_rfl) ?_
        go_wp2
        go_roundw
        case rel => exact ⟨i + 1, by omega, by go_num, F6⟩
        case measure => simp [intOf]; omega
      · obtain ⟨a, b, c', d, hw, hx⟩ := Hhigh.out i (by omega) hlt
        have HR : Hid (abn (achgB gboxU i [a, b, c', d]) = if i % 8 = 0 then four (gboxU b ^^^ gpowerU 2 ((i / 8 : Nat) - 1 : Int)) (gboxU c') (gboxU d) (gboxU a) else if i % 4 = 0 then four (gboxU a) (gboxU b) (gboxU c') (gboxU d) else four a b c' d) := Lib.hid (by
          simp only [achgB]
          split
          · rfl
          · split <;> rfl)
        obtain ⟨o1, ho1⟩ : ∃ o1, 4 * (i - 1) = o1 := ⟨_, rfl⟩
        obtain ⟨o8, ho8⟩ : ∃ o8, 4 * (i - 8) = o8 := ⟨_, rfl⟩
        have Ho8 := Lib.hid ho8
        have ix1 := fun W => run_indexAt_w (b := g2) arrWords info_4 (i - 1) o1 ((i : Int) - 1) (by omega) (by omega) (by omega) W
        have ix8 := fun W => run_indexAt_w (b := g2) arrWords info_4 (i - 8) o8 ((i : Int) - 8) (by omega) (by omega) (by omega) W
        have Hn1 : Hid (∀ j x : Nat, (four a b c' d)[j]? = some x → (L.take (4 * i) ++ (Zs 240).drop (4 * i))[o1 + j]? = some x) := Lib.hid (fun j x hj => by
          have h4 : j < 4 := (List.getElem?_eq_some_iff.1 hj).1
          rw [afill_low (by omega) (by rw [HL.out]; omega), ← ho1]
          rw [← hw] at hj
          exact awn_get j x hj)
        have hw1 : IntKind.i64.wrap ((i : Int) - 1) = (i : Int) - 1 := IntWalk.i64_in _ ⟨by omega, by omega⟩
        have hw8 : IntKind.i64.wrap ((i : Int) - 8) = (i : Int) - 8 := IntWalk.i64_in _ ⟨by omega, by omega⟩
        have Hx := Lib.hid hx
        have z0 : (0 : Int) ≤ (i : Int) := by omega
        obtain ⟨m, hm⟩ : ∃ m, i % 8 = m := ⟨_, rfl⟩
        have em : (i : Int) % 8 = (m : Int) := by omega
        have emt : (i : Int).tmod 8 = (m : Int) := by rw [Int.tmod_eq_emod_of_nonneg z0]; exact em
        have hm8 : m < 8 := by omega
        obtain ⟨m4, hm4⟩ : ∃ m4, i % 4 = m4 := ⟨_, rfl⟩
        have em4 : (i : Int) % 4 = (m4 : Int) := by omega
        have emt4 : (i : Int).tmod 4 = (m4 : Int) := by rw [Int.tmod_eq_emod_of_nonneg z0]; exact em4
        have hm44 : m4 < 4 := by omega
        have hmm : m4 = m % 4 := by omega
        obtain ⟨q, hq⟩ : ∃ q, i / 8 = q := ⟨_, rfl⟩
        have eq : (i : Int) / 8 = (q : Int) := by omega
        have eqt : (i : Int).tdiv 8 = (q : Int) := by rw [Int.tdiv_eq_ediv_of_nonneg z0]; exact eq
        have hq8 : q < 1000 := by omega
        have hwq : IntKind.i64.wrap (q : Int) = (q : Int) := IntWalk.i64_in _ ⟨by omega, by omega⟩
        have hwr : IntKind.i64.wrap ((q : Int) - 1) = (q : Int) - 1 := IntWalk.i64_in _ ⟨by omega, by omega⟩
        rw [hm, hm4, hq] at HR
        clear hw hx ho1 ho8 ho hm hm4 hq
        go_wp2_with (first
          | refine wp_load_part (ns := four a b c' d) arr4.under rfl info_4 rfl (.tmp 42) rfl o1 rfl (sk_hd F5.out) rfl Hn1.out ?_
          | refine wp_alloc_arr (k := .u8) rfl 51 rfl 4 zero4 ?_)
        intro w5 g5 G5 H7 Hb7 Hs7
        go_wp2_with (refine wp_put_arr arr4 rfl (.tmp 5) (.tmp 43) rfl rfl (l' := four a b c' d) rfl H7.out (Zs_length _) rfl ?_)
        intro w6 H8 Hm8 Hs8
        have Hg7 : Hid (g2 ≠ g5 ∧ g1 ≠ g5 ∧ w.heap.size ≤ g5) := Lib.hid (by
          have e := G5.out
          have h0 := (sk_hd F5.out).lt
          have h2 := (F5.out.1 (g1, 52, Zs 240) (by simp)).lt
          have h3 := F5.out.2.size
          dsimp only at h2
          omega)
        have Hg5 := Lib.hid Hg7.out.2.2
        have F7 : Hid (SK w [(g5, 51, four a b c' d), (g2, 52, L.take (4 * i) ++ (Zs 240).drop (4 * i)), (g1, 52, Zs 240)] w6) := Lib.hid (sk_cons (sk_keep (sk_below F5.out Hb7.out) Hm8.out (by
          have h4 := Hg7.out
          intro x hx
          simp only [List.mem_cons, List.not_mem_nil, or_false] at hx
          rcases hx with rfl | rfl
          · exact h4.1
          · exact h4.2.1) Hg7.out.2.2) H8.out)
        have Hne5 : Hid (∀ x ∈ [(g2, 52, L.take (4 * i) ++ (Zs 240).drop (4 * i)), (g1, 52, Zs 240)], x.1 ≠ g5) := Lib.hid (by
          have h4 := Hg7.out
          intro x hx
          simp only [List.mem_cons, List.not_mem_nil, or_false] at hx
          rcases hx with rfl | rfl
          · exact h4.1
          · exact h4.2.1)
        have Hne25 : Hid (∀ C : List Nat, ∀ x ∈ [(g5, 51, C), (g1, 52, Zs 240)], x.1 ≠ g2) := Lib.hid (by
          have h4 := Hg7.out
          have h5 := Hg.out
          intro C x hx
          simp only [List.mem_cons, List.not_mem_nil, or_false] at hx
          rcases hx with rfl | rfl
          · exact h4.1.symm
          · exact h5.1.2)
        clear F5 H7 H8 Hb7 Hs7 Hm8 Hs8 G5 Hn1 ix1 hw1
        by_cases h0 : m = 0
        · subst h0
          obtain rfl : m4 = 0 := by omega
          have HC : Hid (abn (achgB gboxU i [a, b, c', d]) = four (gboxU b ^^^ gpowerU 2 ((q : Int) - 1)) (gboxU c') (gboxU d) (gboxU a)) := Lib.hid HR.out
          rw [HC.out] at Hx
          clear HR HC hmm
          have cpow : ∀ w, Calls Try.prog 39 #[.int .u8 2, .int .i64 ((q : Int) - 1)] w (fun e w' => e = .returned (.int .u8 ((gpowerU 2 ((q : Int) - 1)).toNat : Int)) ∧ w' = w) := fun w => rgpower_any 2 ((q : Int) - 1) w (by omega)
          have hxp := gxor_u8 (gboxU b) (gpowerU 2 ((q : Int) - 1))
          have HY : Hid (∀ k, k < 4 → ∃ u : UInt8, (four b c' d a)[k]? = some u.toNat ∧ (four (gboxU b) (gboxU c') (gboxU d) (gboxU a))[k]? = some (gboxU u).toNat) := Lib.hid (fun k hk => match k, hk with
            | 0, _ => ⟨b, rfl, rfl⟩
            | 1, _ => ⟨c', rfl, rfl⟩
            | 2, _ => ⟨d, rfl, rfl⟩
            | 3, _ => ⟨a, rfl, rfl⟩)
          revert Hx cpow hxp HY
          generalize gboxU b ^^^ gpowerU 2 ((q : Int) - 1) = px
          generalize gpowerU 2 ((q : Int) - 1) = pw
          generalize gboxU a = pa
          generalize gboxU b = pb
          generalize gboxU c' = pc
          generalize gboxU d = pd
          intro Hx cpow hxp HY
          have d0 := (sk_hd F7.out).at_ (j := 0) (x := a.toNat) rfl
          have d1 := (sk_hd F7.out).at_ (j := 1) (x := b.toNat) rfl
          have d2 := (sk_hd F7.out).at_ (j := 2) (x := c'.toNat) rfl
          have d3 := (sk_hd F7.out).at_ (j := 3) (x := d.toNat) rfl
          go_wp2_with (refine wp_put_arr arr4 rfl (.tmp 5) (.tmp 55) rfl rfl (l' := four b c' d a) rfl (sk_hd F7.out) rfl rfl ?_)
          intro w7 H9 Hm9 Hs9
          have F8 : Hid (SK w [(g5, 51, four b c' d a), (g2, 52, L.take (4 * i) ++ (Zs 240).drop (4 * i)), (g1, 52, Zs 240)] w7) := Lib.hid (sk_put F7.out Hm9.out H9.out Hne5.out Hg5.out)
          clear F7 H9 Hm9 Hs9 d0 d1 d2 d3
          have Fk : Hid (SK w [(g5, 51, (four pb pc pd pa).take 0 ++ (four b c' d a).drop 0), (g2, 52, L.take (4 * i) ++ (Zs 240).drop (4 * i)), (g1, 52, Zs 240)] _) := Lib.hid (show SK w [(g5, 51, four b c' d a), (g2, 52, L.take (4 * i) ++ (Zs 240).drop (4 * i)), (g1, 52, Zs 240)] _ from F8.out)
          clear F8
          go_wp2
          go_loopw [6] (fun u wr => ∃ k : Nat, k ≤ 4 ∧ u = .int .i64 (k : Int) ∧ Hid (SK w [(g5, 51, (four pb pc pd pa).take k ++ (four b c' d a).drop k), (g2, 52, L.take (4 * i) ++ (Zs 240).drop (4 * i)), (g1, 52, Zs 240)] wr)) (fun u _ => 4 - (intOf u).toNat)
          case atStart => exact ⟨0, by omega, rfl, Fk⟩
          case round =>
            clear Fk
            obtain ⟨k, hk, rfl, F7⟩ := hrel
            by_cases hlk : k < 4
            · obtain ⟨u, hu, hu2⟩ := HY.out k hlk
              have hc := fun w' => rgbox_any u w'
              have hin := (sk_hd F7.out).at_ (afill_at hu (L := four pb pc pd pa) (show k ≤ 4 by omega))
              have Hu := Lib.hid hu2
              clear hu hu2
              generalize gboxU u = uu at *
              go_wp2_with fail
              refine (hc _).mono ?_
              rintro e w4 ⟨rfl, n4, rfl⟩
              have F8 := Lib.hid (sk_drewN F7.out n4)
              have hout := (sk_hd F8.out).at_ (fill_get (L := four pb pc pd pa) (M := four b c' d a) (i := k) (show k < 4 from hlk) (show k ≤ 4 by omega))
              have hfz := (sk_hd F8.out).frozen k
              clear F7
              go_wp2
              go_roundw
              case rel =>
                refine ⟨k + 1, by omega, by go_num, Lib.hid ?_⟩
                rw [← afill_step Hu.out (show k < (four b c' d a).length from hlk)]
                exact sk_set F8.out Hne5.out Hg5.out k _
              case measure => simp [intOf]; omega
            · have F9 : Hid (SK w [(g5, 51, four pb pc pd pa), (g2, 52, L.take (4 * i) ++ (Zs 240).drop (4 * i)), (g1, 52, Zs 240)] wr) := Lib.hid (by have h := F7.out; rw [show k = 4 by omega] at h; exact h)
              clear F7
              go_wp2_with fail
              refine wp_region_ends (fun w' => SK w [(g5, 51, four pb pc pd pa), (g2, 52, L.take (4 * i) ++ (Zs 240).drop (4 * i)), (g1, 52, Zs 240)] w') 8 (by kernel_rfl) ?_
              refine wpAnyE_take (i := 0) (v := .pointer (some ⟨g5, 0, none⟩)) (some 72) rfl rfl (by kernel_rfl) (fun _ _ _ h => h) (.inl ⟨by rfl, fun W _ => by go_simp⟩) (sk_drewN F9.out 1) ?_
              simp only [Act.put, List.setIfInBounds_toArray, List.set_cons_zero, List.set_cons_succ]
              refine wpAnyE_take (i := 1) (v := .int .u8 (pb.toNat : Int)) (some 73) rfl rfl (by kernel_rfl) (fun _ _ _ h => h) (.inl ⟨by rfl, fun W h => by have hc := (sk_hd h).at_ (j := 0) (x := pb.toNat) rfl; go_simp⟩) (sk_drewN F9.out 1) ?_
              simp only [Act.put, List.setIfInBounds_toArray, List.set_cons_zero, List.set_cons_succ]
              refine wpAnyE_take (i := 2) (v := .int .i64 (i : Int)) (some 74) rfl rfl (by kernel_rfl) (fun _ _ _ h => h) (.inl ⟨by rfl, fun W _ => rfl⟩) (sk_drewN F9.out 1) ?_
              simp only [Act.put, List.setIfInBounds_toArray, List.set_cons_zero, List.set_cons_succ]
              refine wpAnyE_take (i := 3) (v := .int .i64 (q : Int)) (some 75) rfl rfl (by kernel_rfl) (fun _ _ _ h => h) (.inl ⟨by rfl, fun W _ => by go_simp⟩) (sk_drewN F9.out 1) ?_
              simp only [Act.put, List.setIfInBounds_toArray, List.set_cons_zero, List.set_cons_succ]
              refine wpAnyE_take (i := 4) (v := .int .i64 ((q : Int) - 1)) (some 76) rfl rfl (by kernel_rfl) (fun _ _ _ h => h) (.inl ⟨by rfl, fun W _ => by go_simp⟩) (sk_drewN F9.out 1) ?_
              simp only [Act.put, List.setIfInBounds_toArray, List.set_cons_zero, List.set_cons_succ]
              refine wpAnyE_one (i := 5) (by kernel_rfl) rfl (fun K5 hK5 => ?_)
              refine stepE_call (v := .int .u8 (pw.toNat : Int)) (R := fun w' => w' = _) (some 77) rfl rfl 39 Try.func39 (by kernel_rfl) rfl _ _ rfl [.int .u8 2, .int .i64 ((q : Int) - 1)] rfl (cpow _) (fun W5 hW => hK5.out _ _ (.inr (by rw [hW]; exact sk_drewN F9.out 1)) ?_)
              obtain rfl := hW
              clear hK5 K5
              simp only [Act.put, List.setIfInBounds_toArray, List.set_cons_zero, List.set_cons_succ]
              refine wpAnyE_take (i := 6) (v := .int .u8 (px.toNat : Int)) (some 78) rfl rfl (by kernel_rfl) (fun _ _ _ h => h) (.inl ⟨by rfl, fun W _ => by go_simp⟩) (sk_drewN F9.out 1) ?_
              simp only [Act.put, List.setIfInBounds_toArray, List.set_cons_zero, List.set_cons_succ]
              refine wpAnyE_take (i := 7) (v := .pointer (some ⟨g5, 0, none⟩)) (some 79) rfl rfl (by kernel_rfl) (fun _ _ _ h => h) (.inl ⟨by rfl, fun W _ => by go_simp⟩) (sk_drewN F9.out 1) ?_
              simp only [Act.put, List.setIfInBounds_toArray, List.set_cons_zero, List.set_cons_succ]
              refine wpAnyE_one (i := 8) (by kernel_rfl) rfl (fun K6 hK6 => ?_)
              have hfz := (sk_hd F9.out).drew.frozen 0
              have hcl := (sk_hd F9.out).drew.at_ (j := 0) (x := pb.toNat) rfl
              go_simp
              refine hK6.out _ _ (.inl rfl) ?_
              have F10 : Hid (SK w [(g5, 51, four px pc pd pa), (g2, 52, L.take (4 * i) ++ (Zs 240).drop (4 * i)), (g1, 52, Zs 240)] ((wr.setCell ⟨g5, 0, none⟩ (.int .u8 (px.toNat : Int))).drew)) := Lib.hid (sk_drewN (sk_set F9.out Hne5.out Hg5.out 0 px.toNat) 1)
              revert F10
              generalize (wr.setCell ⟨g5, 0, none⟩ (.int .u8 (px.toNat : Int))).drew = W6
              intro F10
              clear hK6 K6 F9 hfz hcl
              refine wpAnyE_done (by kernel_rfl) ?_
              have Fz : Hid (SK w [(g5, 51, four px pc pd pa), (g2, 52, L.take (o + 0) ++ (Zs 240).drop (o + 0)), (g1, 52, Zs 240)] _) := Lib.hid (by have h := F10.out; rw [Ho.out] at h; exact h)
              clear F10
              go_wp2
              go_loopw [7] (fun u wr => ∃ v : Nat, v ≤ 4 ∧ u = .int .i64 (v : Int) ∧ Hid (SK w [(g5, 51, four px pc pd pa), (g2, 52, L.take (o + v) ++ (Zs 240).drop (o + v)), (g1, 52, Zs 240)] wr)) (fun u _ => 4 - (intOf u).toNat)
              case atStart => exact ⟨0, by omega, rfl, Fz⟩
              case round =>
                clear Fz
                obtain ⟨v, hv, rfl, F7⟩ := hrel
                by_cases hlv : v < 4
                · obtain ⟨x, y, hx, hy, hz⟩ := Hx.out v hlv
                  obtain ⟨q, hq⟩ : ∃ q, o + v = q := ⟨_, rfl⟩
                  obtain ⟨q8, hq8⟩ : ∃ q8, o8 + v = q8 := ⟨_, rfl⟩
                  have ixj := fun W => run_indexAt_arr (g := g5) arr4 info_u8n v (v : Int) rfl hlv W
                  have ixq := fun W => run_indexAt_off (P := Try.prog) (b := g2) arr4 info_u8n o v q hlv hq W
                  have ixq8 := fun W => run_indexAt_off (P := Try.prog) (b := g2) arr4 info_u8n o8 v q8 hlv hq8 W
                  have hxor := gxor_u8 x y
                  rw [Ho.out, hq] at hz
                  rw [hq] at F7
                  have hq240 : q < 240 := by have := Ho.out; omega
                  have Hx8 : Hid ((L.take q ++ (Zs 240).drop q)[q8]? = some x.toNat) := Lib.hid (by
                    rw [afill_low (by have := Ho.out; have := Ho8.out; omega) (by rw [HL.out]; omega), ← hq8, ← Ho8.out]
                    exact awn_get v _ hx)
                  have Hz := Lib.hid hz
                  have Hy := Lib.hid hy
                  have Hq := Lib.hid hq
                  clear hx hy hz hq hq8
                  generalize x ^^^ y = z at *
                  have hfz := (sk_hd (sk_sub (M := [(g2, 52, L.take (q) ++ (Zs 240).drop (q)), (g1, 52, Zs 240)]) F7.out (by intro y hy; simp only [List.mem_cons, List.not_mem_nil, or_false] at hy ⊢; rcases hy with rfl | rfl <;> simp))).drew.frozen q
                  have hcl := (sk_hd (sk_sub (M := [(g2, 52, L.take (q) ++ (Zs 240).drop (q)), (g1, 52, Zs 240)]) F7.out (by intro y hy; simp only [List.mem_cons, List.not_mem_nil, or_false] at hy ⊢; rcases hy with rfl | rfl <;> simp))).drew.at_ (fill_get (L := L) (M := Zs 240) (i := q) (by rw [Zs_length]; omega) (by rw [HL.out]; omega))
                  go_wp2_with fail
                  refine wp_region_ends (fun w' => SK w [(g5, 51, four px pc pd pa), (g2, 52, L.take (q) ++ (Zs 240).drop (q)), (g1, 52, Zs 240)] w') 14 (by kernel_rfl) ?_
                  refine wpAnyE_take (i := 0) (v := .int .i64 (i : Int)) (some 84) rfl rfl (by kernel_rfl) (fun _ _ _ h => h) (.inl ⟨by rfl, fun W _ => rfl⟩) (sk_drewN F7.out 1) ?_
                  simp only [Act.put, List.setIfInBounds_toArray, List.set_cons_zero, List.set_cons_succ]
                  refine wpAnyE_take (i := 1) (v := .int .i64 (v : Int)) (some 85) rfl rfl (by kernel_rfl) (fun _ _ _ h => h) (.inl ⟨by rfl, fun W _ => rfl⟩) (sk_drewN F7.out 1) ?_
                  simp only [Act.put, List.setIfInBounds_toArray, List.set_cons_zero, List.set_cons_succ]
                  refine wpAnyE_take (i := 2) (v := .int .i64 (i : Int)) (some 86) rfl rfl (by kernel_rfl) (fun _ _ _ h => h) (.inl ⟨by rfl, fun W _ => rfl⟩) (sk_drewN F7.out 1) ?_
                  simp only [Act.put, List.setIfInBounds_toArray, List.set_cons_zero, List.set_cons_succ]
                  refine wpAnyE_take (i := 3) (v := .int .i64 ((i : Int) - 8)) (some 87) rfl rfl (by kernel_rfl) (fun _ _ _ h => h) (.inl ⟨by rfl, fun W _ => by go_simp⟩) (sk_drewN F7.out 1) ?_
                  simp only [Act.put, List.setIfInBounds_toArray, List.set_cons_zero, List.set_cons_succ]
                  refine wpAnyE_take (i := 4) (v := .int .i64 (v : Int)) (some 88) rfl rfl (by kernel_rfl) (fun _ _ _ h => h) (.inl ⟨by rfl, fun W _ => rfl⟩) (sk_drewN F7.out 1) ?_
                  simp only [Act.put, List.setIfInBounds_toArray, List.set_cons_zero, List.set_cons_succ]
                  refine wpAnyE_take (i := 5) (v := .pointer (some ⟨g2, o8, none⟩)) (some 89) rfl rfl (by kernel_rfl) (fun _ _ _ h => h) (.inl ⟨by rfl, fun W _ => by go_simp⟩) (sk_drewN F7.out 1) ?_
                  simp only [Act.put, List.setIfInBounds_toArray, List.set_cons_zero, List.set_cons_succ]
                  refine wpAnyE_take (i := 6) (v := .pointer (some ⟨g2, q8, none⟩)) (some 90) rfl rfl (by kernel_rfl) (fun _ _ _ h => h) (.inl ⟨by rfl, fun W _ => by go_simp⟩) (sk_drewN F7.out 1) ?_
                  simp only [Act.put, List.setIfInBounds_toArray, List.set_cons_zero, List.set_cons_succ]
                  refine wpAnyE_take (i := 7) (v := .int .u8 (x.toNat : Int)) (some 91) rfl rfl (by kernel_rfl) (fun _ _ _ h => h) (.inl ⟨by rfl, fun W h => by have hc := (sk_hd (sk_sub (M := [(g2, 52, L.take (q) ++ (Zs 240).drop (q)), (g1, 52, Zs 240)]) h (by intro y hy; simp only [List.mem_cons, List.not_mem_nil, or_false] at hy ⊢; rcases hy with rfl | rfl <;> simp))).at_ Hx8.out; go_simp⟩) (sk_drewN F7.out 1) ?_
                  simp only [Act.put, List.setIfInBounds_toArray, List.set_cons_zero, List.set_cons_succ]
                  refine wpAnyE_take (i := 8) (v := .int .i64 (v : Int)) (some 92) rfl rfl (by kernel_rfl) (fun _ _ _ h => h) (.inl ⟨by rfl, fun W _ => rfl⟩) (sk_drewN F7.out 1) ?_
                  simp only [Act.put, List.setIfInBounds_toArray, List.set_cons_zero, List.set_cons_succ]
                  refine wpAnyE_take (i := 9) (v := .pointer (some ⟨g5, v, none⟩)) (some 93) rfl rfl (by kernel_rfl) (fun _ _ _ h => h) (.inl ⟨by rfl, fun W _ => by go_simp⟩) (sk_drewN F7.out 1) ?_
                  simp only [Act.put, List.setIfInBounds_toArray, List.set_cons_zero, List.set_cons_succ]
                  refine wpAnyE_take (i := 10) (v := .int .u8 (y.toNat : Int)) (some 94) rfl rfl (by kernel_rfl) (fun _ _ _ h => h) (.inl ⟨by rfl, fun W h => by have hc := (sk_hd h).at_ Hy.out; go_simp⟩) (sk_drewN F7.out 1) ?_
                  simp only [Act.put, List.setIfInBounds_toArray, List.set_cons_zero, List.set_cons_succ]
                  refine wpAnyE_take (i := 11) (v := .int .u8 (z.toNat : Int)) (some 95) rfl rfl (by kernel_rfl) (fun _ _ _ h => h) (.inl ⟨by rfl, fun W _ => by go_simp⟩) (sk_drewN F7.out 1) ?_
                  simp only [Act.put, List.setIfInBounds_toArray, List.set_cons_zero, List.set_cons_succ]
                  refine wpAnyE_one (i := 12) (by kernel_rfl) rfl (fun K7 hK7 => ?_)
                  go_simp
                  refine hK7.out _ _ (.inr (sk_drewN F7.out 1)) ?_
                  clear hK7 K7
                  refine wpAnyE_take (i := 13) (v := .pointer (some ⟨g2, q, none⟩)) (some 97) rfl rfl (by kernel_rfl) (fun _ _ _ h => h) (.inl ⟨by rfl, fun W _ => by go_simp⟩) (sk_drewN F7.out 1) ?_
                  simp only [Act.put, List.setIfInBounds_toArray, List.set_cons_zero, List.set_cons_succ]
                  refine wpAnyE_one (i := 14) (by kernel_rfl) rfl (fun K6 hK6 => ?_)
                  go_simp
                  refine hK6.out _ _ (.inl rfl) ?_
                  have F8 : Hid (SK w [(g5, 51, four px pc pd pa), (g2, 52, L.take (o + (v + 1)) ++ (Zs 240).drop (o + (v + 1))), (g1, 52, Zs 240)] ((wr.setCell ⟨g2, q, none⟩ (.int .u8 (z.toNat : Int))).drew)) := Lib.hid (by
                    have h := sk_drewN (sk_set (sk_sub (M := [(g2, 52, L.take (q) ++ (Zs 240).drop (q)), (g5, 51, four px pc pd pa), (g1, 52, Zs 240)]) F7.out (by intro y hy; simp only [List.mem_cons, List.not_mem_nil, or_false] at hy ⊢; rcases hy with rfl | rfl | rfl <;> simp)) (Hne25.out _) Hg.out.2 q z.toNat) 1
                    rw [afill_step Hz.out (by rw [Zs_length]; omega)] at h
                    rw [show o + (v + 1) = q + 1 by have := Hq.out; omega]
                    exact sk_sub h (by intro y hy; simp only [List.mem_cons, List.not_mem_nil, or_false] at hy ⊢; rcases hy with rfl | rfl | rfl <;> simp))
                  clear hK6 K6 F7
                  refine wpAnyE_done (by kernel_rfl) ?_
                  go_wp2
                  go_roundw
                  case rel => exact ⟨v + 1, by omega, by go_num, F8⟩
                  case measure => simp [intOf]; omega
                · obtain rfl : v = 4 := by omega
                  have F9 : Hid (SK w [(g2, 52, L.take (4 * (i + 1)) ++ (Zs 240).drop (4 * (i + 1))), (g1, 52, Zs 240)] wr) := Lib.hid (by
                    have h := sk_sub (M := [(g2, 52, L.take (o + 4) ++ (Zs 240).drop (o + 4)), (g1, 52, Zs 240)]) F7.out (by intro y hy; simp only [List.mem_cons, List.not_mem_nil, or_false] at hy ⊢; rcases hy with rfl | rfl <;> simp)
                    rw [show o + 4 = 4 * (i + 1) by have := Ho.out; omega] at h
                    exact h)
                  clear F7
                  go_wp2
                  go_roundw
                  case rel => exact ⟨i + 1, by omega, by go_num, F9⟩
                  case measure => simp [intOf]; omega
        · by_cases h4 : m = 4
          · subst h4
            obtain rfl : m4 = 0 := by omega
            have HC : Hid (abn (achgB gboxU i [a, b, c', d]) = four (gboxU a) (gboxU b) (gboxU c') (gboxU d)) := Lib.hid HR.out
            rw [HC.out] at Hx
            clear HR HC hmm
            have HY : Hid (∀ k, k < 4 → ∃ u : UInt8, (four a b c' d)[k]? = some u.toNat ∧ (four (gboxU a) (gboxU b) (gboxU c') (gboxU d))[k]? = some (gboxU u).toNat) := Lib.hid (fun k hk => match k, hk with
              | 0, _ => ⟨a, rfl, rfl⟩
              | 1, _ => ⟨b, rfl, rfl⟩
              | 2, _ => ⟨c', rfl, rfl⟩
              | 3, _ => ⟨d, rfl, rfl⟩)
            revert Hx HY
            generalize gboxU a = pa
            generalize gboxU b = pb
            generalize gboxU c' = pc
            generalize gboxU d = pd
            intro Hx HY
            have F8 := F7
            clear F7
            have Fk : Hid (SK w [(g5, 51, (four pa pb pc pd).take 0 ++ (four a b c' d).drop 0), (g2, 52, L.take (4 * i) ++ (Zs 240).drop (4 * i)), (g1, 52, Zs 240)] _) := Lib.hid (show SK w [(g5, 51, four a b c' d), (g2, 52, L.take (4 * i) ++ (Zs 240).drop (4 * i)), (g1, 52, Zs 240)] _ from F8.out)
            clear F8
            go_wp2
            go_loopw [6] (fun u wr => ∃ k : Nat, k ≤ 4 ∧ u = .int .i64 (k : Int) ∧ Hid (SK w [(g5, 51, (four pa pb pc pd).take k ++ (four a b c' d).drop k), (g2, 52, L.take (4 * i) ++ (Zs 240).drop (4 * i)), (g1, 52, Zs 240)] wr)) (fun u _ => 4 - (intOf u).toNat)
            case atStart => exact ⟨0, by omega, rfl, Fk⟩
            case round =>
              clear Fk
              obtain ⟨k, hk, rfl, F7⟩ := hrel
              by_cases hlk : k < 4
              · obtain ⟨u, hu, hu2⟩ := HY.out k hlk
                have hc := fun w' => rgbox_any u w'
                have hin := (sk_hd F7.out).at_ (afill_at hu (L := four pa pb pc pd) (show k ≤ 4 by omega))
                have Hu := Lib.hid hu2
                clear hu hu2
                generalize gboxU u = uu at *
                go_wp2_with fail
                refine (hc _).mono ?_
                rintro e w4 ⟨rfl, n4, rfl⟩
                have F8 := Lib.hid (sk_drewN F7.out n4)
                have hout := (sk_hd F8.out).at_ (fill_get (L := four pa pb pc pd) (M := four a b c' d) (i := k) (show k < 4 from hlk) (show k ≤ 4 by omega))
                have hfz := (sk_hd F8.out).frozen k
                clear F7
                go_wp2
                go_roundw
                case rel =>
                  refine ⟨k + 1, by omega, by go_num, Lib.hid ?_⟩
                  rw [← afill_step Hu.out (show k < (four a b c' d).length from hlk)]
                  exact sk_set F8.out Hne5.out Hg5.out k _
                case measure => simp [intOf]; omega
              · have F9 : Hid (SK w [(g5, 51, four pa pb pc pd), (g2, 52, L.take (4 * i) ++ (Zs 240).drop (4 * i)), (g1, 52, Zs 240)] wr) := Lib.hid (by have h := F7.out; rw [show k = 4 by omega] at h; exact h)
                clear F7
                have Fz : Hid (SK w [(g5, 51, four pa pb pc pd), (g2, 52, L.take (o + 0) ++ (Zs 240).drop (o + 0)), (g1, 52, Zs 240)] _) := Lib.hid (by have h := F9.out; rw [Ho.out] at h; exact h)
                clear F9
                go_wp2
                have hd1 : decide ((i : Int) < 8) = false := by simp; omega
                have hd2 : decide ((k : Int) < 4) = false := by simp; omega
                try (simp only [hd1])
                try (simp only [hd2])
                go_loopw [7] (fun u wr => ∃ v : Nat, v ≤ 4 ∧ u = .int .i64 (v : Int) ∧ Hid (SK w [(g5, 51, four pa pb pc pd), (g2, 52, L.take (o + v) ++ (Zs 240).drop (o + v)), (g1, 52, Zs 240)] wr)) (fun u _ => 4 - (intOf u).toNat)
                case atStart => exact ⟨0, by omega, rfl, Fz⟩
                case round =>
                  clear Fz
                  obtain ⟨v, hv, rfl, F7⟩ := hrel
                  by_cases hlv : v < 4
                  · obtain ⟨x, y, hx, hy, hz⟩ := Hx.out v hlv
                    obtain ⟨q, hq⟩ : ∃ q, o + v = q := ⟨_, rfl⟩
                    obtain ⟨q8, hq8⟩ : ∃ q8, o8 + v = q8 := ⟨_, rfl⟩
                    have ixj := fun W => run_indexAt_arr (g := g5) arr4 info_u8n v (v : Int) rfl hlv W
                    have ixq := fun W => run_indexAt_off (P := Try.prog) (b := g2) arr4 info_u8n o v q hlv hq W
                    have ixq8 := fun W => run_indexAt_off (P := Try.prog) (b := g2) arr4 info_u8n o8 v q8 hlv hq8 W
                    have hxor := gxor_u8 x y
                    rw [Ho.out, hq] at hz
                    rw [hq] at F7
                    have hq240 : q < 240 := by have := Ho.out; omega
                    have Hx8 : Hid ((L.take q ++ (Zs 240).drop q)[q8]? = some x.toNat) := Lib.hid (by
                      rw [afill_low (by have := Ho.out; have := Ho8.out; omega) (by rw [HL.out]; omega), ← hq8, ← Ho8.out]
                      exact awn_get v _ hx)
                    have Hz := Lib.hid hz
                    have Hy := Lib.hid hy
                    have Hq := Lib.hid hq
                    clear hx hy hz hq hq8
                    generalize x ^^^ y = z at *
                    have hfz := (sk_hd (sk_sub (M := [(g2, 52, L.take (q) ++ (Zs 240).drop (q)), (g1, 52, Zs 240)]) F7.out (by intro y hy; simp only [List.mem_cons, List.not_mem_nil, or_false] at hy ⊢; rcases hy with rfl | rfl <;> simp))).drew.frozen q
                    have hcl := (sk_hd (sk_sub (M := [(g2, 52, L.take (q) ++ (Zs 240).drop (q)), (g1, 52, Zs 240)]) F7.out (by intro y hy; simp only [List.mem_cons, List.not_mem_nil, or_false] at hy ⊢; rcases hy with rfl | rfl <;> simp))).drew.at_ (fill_get (L := L) (M := Zs 240) (i := q) (by rw [Zs_length]; omega) (by rw [HL.out]; omega))
                    go_wp2_with fail
                    refine wp_region_ends (fun w' => SK w [(g5, 51, four pa pb pc pd), (g2, 52, L.take (q) ++ (Zs 240).drop (q)), (g1, 52, Zs 240)] w') 14 (by kernel_rfl) ?_
                    refine wpAnyE_take (i := 0) (v := .int .i64 (i : Int)) (some 84) rfl rfl (by kernel_rfl) (fun _ _ _ h => h) (.inl ⟨by rfl, fun W _ => rfl⟩) (sk_drewN F7.out 1) ?_
                    simp only [Act.put, List.setIfInBounds_toArray, List.set_cons_zero, List.set_cons_succ]
                    refine wpAnyE_take (i := 1) (v := .int .i64 (v : Int)) (some 85) rfl rfl (by kernel_rfl) (fun _ _ _ h => h) (.inl ⟨by rfl, fun W _ => rfl⟩) (sk_drewN F7.out 1) ?_
                    simp only [Act.put, List.setIfInBounds_toArray, List.set_cons_zero, List.set_cons_succ]
                    refine wpAnyE_take (i := 2) (v := .int .i64 (i : Int)) (some 86) rfl rfl (by kernel_rfl) (fun _ _ _ h => h) (.inl ⟨by rfl, fun W _ => rfl⟩) (sk_drewN F7.out 1) ?_
                    simp only [Act.put, List.setIfInBounds_toArray, List.set_cons_zero, List.set_cons_succ]
                    refine wpAnyE_take (i := 3) (v := .int .i64 ((i : Int) - 8)) (some 87) rfl rfl (by kernel_rfl) (fun _ _ _ h => h) (.inl ⟨by rfl, fun W _ => by go_simp⟩) (sk_drewN F7.out 1) ?_
                    simp only [Act.put, List.setIfInBounds_toArray, List.set_cons_zero, List.set_cons_succ]
                    refine wpAnyE_take (i := 4) (v := .int .i64 (v : Int)) (some 88) rfl rfl (by kernel_rfl) (fun _ _ _ h => h) (.inl ⟨by rfl, fun W _ => rfl⟩) (sk_drewN F7.out 1) ?_
                    simp only [Act.put, List.setIfInBounds_toArray, List.set_cons_zero, List.set_cons_succ]
                    refine wpAnyE_take (i := 5) (v := .pointer (some ⟨g2, o8, none⟩)) (some 89) rfl rfl (by kernel_rfl) (fun _ _ _ h => h) (.inl ⟨by rfl, fun W _ => by go_simp⟩) (sk_drewN F7.out 1) ?_
                    simp only [Act.put, List.setIfInBounds_toArray, List.set_cons_zero, List.set_cons_succ]
                    refine wpAnyE_take (i := 6) (v := .pointer (some ⟨g2, q8, none⟩)) (some 90) rfl rfl (by kernel_rfl) (fun _ _ _ h => h) (.inl ⟨by rfl, fun W _ => by go_simp⟩) (sk_drewN F7.out 1) ?_
                    simp only [Act.put, List.setIfInBounds_toArray, List.set_cons_zero, List.set_cons_succ]
                    refine wpAnyE_take (i := 7) (v := .int .u8 (x.toNat : Int)) (some 91) rfl rfl (by kernel_rfl) (fun _ _ _ h => h) (.inl ⟨by rfl, fun W h => by have hc := (sk_hd (sk_sub (M := [(g2, 52, L.take (q) ++ (Zs 240).drop (q)), (g1, 52, Zs 240)]) h (by intro y hy; simp only [List.mem_cons, List.not_mem_nil, or_false] at hy ⊢; rcases hy with rfl | rfl <;> simp))).at_ Hx8.out; go_simp⟩) (sk_drewN F7.out 1) ?_
                    simp only [Act.put, List.setIfInBounds_toArray, List.set_cons_zero, List.set_cons_succ]
                    refine wpAnyE_take (i := 8) (v := .int .i64 (v : Int)) (some 92) rfl rfl (by kernel_rfl) (fun _ _ _ h => h) (.inl ⟨by rfl, fun W _ => rfl⟩) (sk_drewN F7.out 1) ?_
                    simp only [Act.put, List.setIfInBounds_toArray, List.set_cons_zero, List.set_cons_succ]
                    refine wpAnyE_take (i := 9) (v := .pointer (some ⟨g5, v, none⟩)) (some 93) rfl rfl (by kernel_rfl) (fun _ _ _ h => h) (.inl ⟨by rfl, fun W _ => by go_simp⟩) (sk_drewN F7.out 1) ?_
                    simp only [Act.put, List.setIfInBounds_toArray, List.set_cons_zero, List.set_cons_succ]
                    refine wpAnyE_take (i := 10) (v := .int .u8 (y.toNat : Int)) (some 94) rfl rfl (by kernel_rfl) (fun _ _ _ h => h) (.inl ⟨by rfl, fun W h => by have hc := (sk_hd h).at_ Hy.out; go_simp⟩) (sk_drewN F7.out 1) ?_
                    simp only [Act.put, List.setIfInBounds_toArray, List.set_cons_zero, List.set_cons_succ]
                    refine wpAnyE_take (i := 11) (v := .int .u8 (z.toNat : Int)) (some 95) rfl rfl (by kernel_rfl) (fun _ _ _ h => h) (.inl ⟨by rfl, fun W _ => by go_simp⟩) (sk_drewN F7.out 1) ?_
                    simp only [Act.put, List.setIfInBounds_toArray, List.set_cons_zero, List.set_cons_succ]
                    refine wpAnyE_one (i := 12) (by kernel_rfl) rfl (fun K7 hK7 => ?_)
                    go_simp
                    refine hK7.out _ _ (.inr (sk_drewN F7.out 1)) ?_
                    clear hK7 K7
                    refine wpAnyE_take (i := 13) (v := .pointer (some ⟨g2, q, none⟩)) (some 97) rfl rfl (by kernel_rfl) (fun _ _ _ h => h) (.inl ⟨by rfl, fun W _ => by go_simp⟩) (sk_drewN F7.out 1) ?_
                    simp only [Act.put, List.setIfInBounds_toArray, List.set_cons_zero, List.set_cons_succ]
                    refine wpAnyE_one (i := 14) (by kernel_rfl) rfl (fun K6 hK6 => ?_)
                    go_simp
                    refine hK6.out _ _ (.inl rfl) ?_
                    have F8 : Hid (SK w [(g5, 51, four pa pb pc pd), (g2, 52, L.take (o + (v + 1)) ++ (Zs 240).drop (o + (v + 1))), (g1, 52, Zs 240)] ((wr.setCell ⟨g2, q, none⟩ (.int .u8 (z.toNat : Int))).drew)) := Lib.hid (by
                      have h := sk_drewN (sk_set (sk_sub (M := [(g2, 52, L.take (q) ++ (Zs 240).drop (q)), (g5, 51, four pa pb pc pd), (g1, 52, Zs 240)]) F7.out (by intro y hy; simp only [List.mem_cons, List.not_mem_nil, or_false] at hy ⊢; rcases hy with rfl | rfl | rfl <;> simp)) (Hne25.out _) Hg.out.2 q z.toNat) 1
                      rw [afill_step Hz.out (by rw [Zs_length]; omega)] at h
                      rw [show o + (v + 1) = q + 1 by have := Hq.out; omega]
                      exact sk_sub h (by intro y hy; simp only [List.mem_cons, List.not_mem_nil, or_false] at hy ⊢; rcases hy with rfl | rfl | rfl <;> simp))
                    clear hK6 K6 F7
                    refine wpAnyE_done (by kernel_rfl) ?_
                    go_wp2
                    go_roundw
                    case rel => exact ⟨v + 1, by omega, by go_num, F8⟩
                    case measure => simp [intOf]; omega
                  · obtain rfl : v = 4 := by omega
                    have F9 : Hid (SK w [(g2, 52, L.take (4 * (i + 1)) ++ (Zs 240).drop (4 * (i + 1))), (g1, 52, Zs 240)] wr) := Lib.hid (by
                      have h := sk_sub (M := [(g2, 52, L.take (o + 4) ++ (Zs 240).drop (o + 4)), (g1, 52, Zs 240)]) F7.out (by intro y hy; simp only [List.mem_cons, List.not_mem_nil, or_false] at hy ⊢; rcases hy with rfl | rfl <;> simp)
                      rw [show o + 4 = 4 * (i + 1) by have := Ho.out; omega] at h
                      exact h)
                    clear F7
                    go_wp2
                    go_roundw
                    case rel => exact ⟨i + 1, by omega, by go_num, F9⟩
                    case measure => simp [intOf]; omega
          · have HC : Hid (abn (achgB gboxU i [a, b, c', d]) = four a b c' d) := Lib.hid (by rw [HR.out, if_neg h0, if_neg (by omega)])
            rw [HC.out] at Hx
            have hm40 : m4 ≠ 0 := by omega
            clear HR HC hmm
            go_wp2
            go_loopw [6] (fun u wr => ∃ k : Nat, k ≤ 4 ∧ u = .int .i64 (k : Int) ∧ Hid (SK w [(g5, 51, four a b c' d), (g2, 52, L.take (4 * i) ++ (Zs 240).drop (4 * i)), (g1, 52, Zs 240)] wr)) (fun u _ => 4 - (intOf u).toNat)
            case atStart => exact ⟨0, by omega, rfl, F7⟩
            case round =>
              clear F7
              obtain ⟨k, hk, rfl, F7⟩ := hrel
              by_cases hlk : k < 4
              · go_wp2
                go_roundw
                case rel => exact ⟨k + 1, by omega, by go_num, F7⟩
                case measure => simp [intOf]; omega
              · have F9 := F7
                clear F7
                have Fz : Hid (SK w [(g5, 51, four a b c' d), (g2, 52, L.take (o + 0) ++ (Zs 240).drop (o + 0)), (g1, 52, Zs 240)] _) := Lib.hid (by have h := F9.out; rw [Ho.out] at h; exact h)
                clear F9
                go_wp2
                have hd1 : decide ((i : Int) < 8) = false := by simp; omega
                have hd2 : decide ((k : Int) < 4) = false := by simp; omega
                try (simp only [hd1])
                try (simp only [hd2])
                have hd3 : ((m : Int) == 0) = false := by simp; omega
                try (simp only [hd3])
                go_loopw [7] (fun u wr => ∃ v : Nat, v ≤ 4 ∧ u = .int .i64 (v : Int) ∧ Hid (SK w [(g5, 51, four a b c' d), (g2, 52, L.take (o + v) ++ (Zs 240).drop (o + v)), (g1, 52, Zs 240)] wr)) (fun u _ => 4 - (intOf u).toNat)
                case atStart => exact ⟨0, by omega, rfl, Fz⟩
                case round =>
                  clear Fz
                  obtain ⟨v, hv, rfl, F7⟩ := hrel
                  by_cases hlv : v < 4
                  · obtain ⟨x, y, hx, hy, hz⟩ := Hx.out v hlv
                    obtain ⟨q, hq⟩ : ∃ q, o + v = q := ⟨_, rfl⟩
                    obtain ⟨q8, hq8⟩ : ∃ q8, o8 + v = q8 := ⟨_, rfl⟩
                    have ixj := fun W => run_indexAt_arr (g := g5) arr4 info_u8n v (v : Int) rfl hlv W
                    have ixq := fun W => run_indexAt_off (P := Try.prog) (b := g2) arr4 info_u8n o v q hlv hq W
                    have ixq8 := fun W => run_indexAt_off (P := Try.prog) (b := g2) arr4 info_u8n o8 v q8 hlv hq8 W
                    have hxor := gxor_u8 x y
                    rw [Ho.out, hq] at hz
                    rw [hq] at F7
                    have hq240 : q < 240 := by have := Ho.out; omega
                    have Hx8 : Hid ((L.take q ++ (Zs 240).drop q)[q8]? = some x.toNat) := Lib.hid (by
                      rw [afill_low (by have := Ho.out; have := Ho8.out; omega) (by rw [HL.out]; omega), ← hq8, ← Ho8.out]
                      exact awn_get v _ hx)
                    have Hz := Lib.hid hz
                    have Hy := Lib.hid hy
                    have Hq := Lib.hid hq
                    clear hx hy hz hq hq8
                    generalize x ^^^ y = z at *
                    have hfz := (sk_hd (sk_sub (M := [(g2, 52, L.take (q) ++ (Zs 240).drop (q)), (g1, 52, Zs 240)]) F7.out (by intro y hy; simp only [List.mem_cons, List.not_mem_nil, or_false] at hy ⊢; rcases hy with rfl | rfl <;> simp))).drew.frozen q
                    have hcl := (sk_hd (sk_sub (M := [(g2, 52, L.take (q) ++ (Zs 240).drop (q)), (g1, 52, Zs 240)]) F7.out (by intro y hy; simp only [List.mem_cons, List.not_mem_nil, or_false] at hy ⊢; rcases hy with rfl | rfl <;> simp))).drew.at_ (fill_get (L := L) (M := Zs 240) (i := q) (by rw [Zs_length]; omega) (by rw [HL.out]; omega))
                    go_wp2_with fail
                    refine wp_region_ends (fun w' => SK w [(g5, 51, four a b c' d), (g2, 52, L.take (q) ++ (Zs 240).drop (q)), (g1, 52, Zs 240)] w') 14 (by kernel_rfl) ?_
                    refine wpAnyE_take (i := 0) (v := .int .i64 (i : Int)) (some 84) rfl rfl (by kernel_rfl) (fun _ _ _ h => h) (.inl ⟨by rfl, fun W _ => rfl⟩) (sk_drewN F7.out 1) ?_
                    simp only [Act.put, List.setIfInBounds_toArray, List.set_cons_zero, List.set_cons_succ]
                    refine wpAnyE_take (i := 1) (v := .int .i64 (v : Int)) (some 85) rfl rfl (by kernel_rfl) (fun _ _ _ h => h) (.inl ⟨by rfl, fun W _ => rfl⟩) (sk_drewN F7.out 1) ?_
                    simp only [Act.put, List.setIfInBounds_toArray, List.set_cons_zero, List.set_cons_succ]
                    refine wpAnyE_take (i := 2) (v := .int .i64 (i : Int)) (some 86) rfl rfl (by kernel_rfl) (fun _ _ _ h => h) (.inl ⟨by rfl, fun W _ => rfl⟩) (sk_drewN F7.out 1) ?_
                    simp only [Act.put, List.setIfInBounds_toArray, List.set_cons_zero, List.set_cons_succ]
                    refine wpAnyE_take (i := 3) (v := .int .i64 ((i : Int) - 8)) (some 87) rfl rfl (by kernel_rfl) (fun _ _ _ h => h) (.inl ⟨by rfl, fun W _ => by go_simp⟩) (sk_drewN F7.out 1) ?_
                    simp only [Act.put, List.setIfInBounds_toArray, List.set_cons_zero, List.set_cons_succ]
                    refine wpAnyE_take (i := 4) (v := .int .i64 (v : Int)) (some 88) rfl rfl (by kernel_rfl) (fun _ _ _ h => h) (.inl ⟨by rfl, fun W _ => rfl⟩) (sk_drewN F7.out 1) ?_
                    simp only [Act.put, List.setIfInBounds_toArray, List.set_cons_zero, List.set_cons_succ]
                    refine wpAnyE_take (i := 5) (v := .pointer (some ⟨g2, o8, none⟩)) (some 89) rfl rfl (by kernel_rfl) (fun _ _ _ h => h) (.inl ⟨by rfl, fun W _ => by go_simp⟩) (sk_drewN F7.out 1) ?_
                    simp only [Act.put, List.setIfInBounds_toArray, List.set_cons_zero, List.set_cons_succ]
                    refine wpAnyE_take (i := 6) (v := .pointer (some ⟨g2, q8, none⟩)) (some 90) rfl rfl (by kernel_rfl) (fun _ _ _ h => h) (.inl ⟨by rfl, fun W _ => by go_simp⟩) (sk_drewN F7.out 1) ?_
                    simp only [Act.put, List.setIfInBounds_toArray, List.set_cons_zero, List.set_cons_succ]
                    refine wpAnyE_take (i := 7) (v := .int .u8 (x.toNat : Int)) (some 91) rfl rfl (by kernel_rfl) (fun _ _ _ h => h) (.inl ⟨by rfl, fun W h => by have hc := (sk_hd (sk_sub (M := [(g2, 52, L.take (q) ++ (Zs 240).drop (q)), (g1, 52, Zs 240)]) h (by intro y hy; simp only [List.mem_cons, List.not_mem_nil, or_false] at hy ⊢; rcases hy with rfl | rfl <;> simp))).at_ Hx8.out; go_simp⟩) (sk_drewN F7.out 1) ?_
                    simp only [Act.put, List.setIfInBounds_toArray, List.set_cons_zero, List.set_cons_succ]
                    refine wpAnyE_take (i := 8) (v := .int .i64 (v : Int)) (some 92) rfl rfl (by kernel_rfl) (fun _ _ _ h => h) (.inl ⟨by rfl, fun W _ => rfl⟩) (sk_drewN F7.out 1) ?_
                    simp only [Act.put, List.setIfInBounds_toArray, List.set_cons_zero, List.set_cons_succ]
                    refine wpAnyE_take (i := 9) (v := .pointer (some ⟨g5, v, none⟩)) (some 93) rfl rfl (by kernel_rfl) (fun _ _ _ h => h) (.inl ⟨by rfl, fun W _ => by go_simp⟩) (sk_drewN F7.out 1) ?_
                    simp only [Act.put, List.setIfInBounds_toArray, List.set_cons_zero, List.set_cons_succ]
                    refine wpAnyE_take (i := 10) (v := .int .u8 (y.toNat : Int)) (some 94) rfl rfl (by kernel_rfl) (fun _ _ _ h => h) (.inl ⟨by rfl, fun W h => by have hc := (sk_hd h).at_ Hy.out; go_simp⟩) (sk_drewN F7.out 1) ?_
                    simp only [Act.put, List.setIfInBounds_toArray, List.set_cons_zero, List.set_cons_succ]
                    refine wpAnyE_take (i := 11) (v := .int .u8 (z.toNat : Int)) (some 95) rfl rfl (by kernel_rfl) (fun _ _ _ h => h) (.inl ⟨by rfl, fun W _ => by go_simp⟩) (sk_drewN F7.out 1) ?_
                    simp only [Act.put, List.setIfInBounds_toArray, List.set_cons_zero, List.set_cons_succ]
                    refine wpAnyE_one (i := 12) (by kernel_rfl) rfl (fun K7 hK7 => ?_)
                    go_simp
                    refine hK7.out _ _ (.inr (sk_drewN F7.out 1)) ?_
                    clear hK7 K7
                    refine wpAnyE_take (i := 13) (v := .pointer (some ⟨g2, q, none⟩)) (some 97) rfl rfl (by kernel_rfl) (fun _ _ _ h => h) (.inl ⟨by rfl, fun W _ => by go_simp⟩) (sk_drewN F7.out 1) ?_
                    simp only [Act.put, List.setIfInBounds_toArray, List.set_cons_zero, List.set_cons_succ]
                    refine wpAnyE_one (i := 14) (by kernel_rfl) rfl (fun K6 hK6 => ?_)
                    go_simp
                    refine hK6.out _ _ (.inl rfl) ?_
                    have F8 : Hid (SK w [(g5, 51, four a b c' d), (g2, 52, L.take (o + (v + 1)) ++ (Zs 240).drop (o + (v + 1))), (g1, 52, Zs 240)] ((wr.setCell ⟨g2, q, none⟩ (.int .u8 (z.toNat : Int))).drew)) := Lib.hid (by
                      have h := sk_drewN (sk_set (sk_sub (M := [(g2, 52, L.take (q) ++ (Zs 240).drop (q)), (g5, 51, four a b c' d), (g1, 52, Zs 240)]) F7.out (by intro y hy; simp only [List.mem_cons, List.not_mem_nil, or_false] at hy ⊢; rcases hy with rfl | rfl | rfl <;> simp)) (Hne25.out _) Hg.out.2 q z.toNat) 1
                      rw [afill_step Hz.out (by rw [Zs_length]; omega)] at h
                      rw [show o + (v + 1) = q + 1 by have := Hq.out; omega]
                      exact sk_sub h (by intro y hy; simp only [List.mem_cons, List.not_mem_nil, or_false] at hy ⊢; rcases hy with rfl | rfl | rfl <;> simp))
                    clear hK6 K6 F7
                    refine wpAnyE_done (by kernel_rfl) ?_
                    go_wp2
                    go_roundw
                    case rel => exact ⟨v + 1, by omega, by go_num, F8⟩
                    case measure => simp [intOf]; omega
                  · obtain rfl : v = 4 := by omega
                    have F9 : Hid (SK w [(g2, 52, L.take (4 * (i + 1)) ++ (Zs 240).drop (4 * (i + 1))), (g1, 52, Zs 240)] wr) := Lib.hid (by
                      have h := sk_sub (M := [(g2, 52, L.take (o + 4) ++ (Zs 240).drop (o + 4)), (g1, 52, Zs 240)]) F7.out (by intro y hy; simp only [List.mem_cons, List.not_mem_nil, or_false] at hy ⊢; rcases hy with rfl | rfl <;> simp)
                      rw [show o + 4 = 4 * (i + 1) by have := Ho.out; omega] at h
                      exact h)
                    clear F7
                    go_wp2
                    go_roundw
                    case rel => exact ⟨i + 1, by omega, by go_num, F9⟩
                    case measure => simp [intOf]; omega
    · obtain rfl : i = 60 := by omega
      have A2 : Hid (Arr wr g2 52 .u8 L) := Lib.hid (by have h := sk_hd F5.out; rw [show 4 * 60 = 240 from rfl, fill_all HL.out (Zs_length _)] at h; exact h)
      have A1 : Hid (Arr wr g1 52 .u8 (Zs 240)) := Lib.hid (F5.out.1 (g1, 52, Zs 240) (by simp))
      go_wp2_with (first
        | refine wp_load_w arrWords rfl (.tmp 3) rfl rfl A2.out HL.out ?_
        | refine wp_put_w arrWords rfl (.tmp 2) (.tmp 98) rfl rfl (l' := L) rfl A1.out (Zs_length _) HL.out ?_)
      intro w9 H9 Hm9 Hs9
      go_wp2
      exact ret_w arrWords rfl rfl H9.out HL.out rfl ⟨rfl, F5.out.2.trans (Hm9.out.below (fun j hj => by rw [hj]; exact Hg.out.1.1) F5.out.2.size)⟩

end Go.Proofs.Ytfkfkmdnffpcmaa

namespace Go.Proofs.Ytfkfkmdnffpcmaa
open Go.RowKit

set_option maxHeartbeats 1600000 in
set_option maxRecDepth 100000 in
theorem rasched_none (n c : Nat) (A : Option Addr) (w : World) (hn : n ≠ 32) :
    Calls Try.prog 19 #[.slice A n c] w (Ans w (.tuple #[.agg (Nums .u8 (Zs 240)), .int .i64 4])) := by
  have hz : ((n : Int) != 32) = true := by simp; omega
  go_enter Try.func19, Try.ntmps19
  go_wp2_with (refine wp_alloc_arr (k := .u8) rfl 40 rfl 240 zeroKeysR ?_)
  intro w1 g1 G1 H1 Hb1 Hs1
  go_wp2_with (refine wp_alloc_arr (k := .u8) rfl 40 rfl 240 zeroKeysR ?_)
  intro w2 g2 G2 H2 Hb2 Hs2
  go_wp2_with (first
    | refine wp_load_w arrKeysR rfl (.tmp 4) rfl rfl H2.out (Zs_length _) ?_
    | refine wp_put_w arrKeysR rfl (.tmp 2) (.tmp 11) rfl rfl (l' := Zs 240) rfl (H1.out.below Hb2.out H1.out.lt) (Zs_length _) (Zs_length _) ?_)
  intro w3 H3 Hm3 Hs3
  go_wp2
  exact ret_two arrKeysR rfl rfl H3.out (Zs_length _) rfl rfl ⟨rfl, (abon Hb1.out Hb2.out).trans (Hm3.out.below (fun j hj => by have := G1.out; omega) (abon Hb1.out Hb2.out).size)⟩

set_option maxHeartbeats 3200000 in
theorem rasched_key (key : List UInt8) (c B : Nat) (A : Option Addr) (w : World) (hr : Rd w B A 32 (Byt key)) (hB : B ≤ w.heap.size) :
    Calls Try.prog 19 #[.slice A 32 c] w (Ans w (.tuple #[.agg (Nums .u8 (abn (akeysU key))), .int .i64 0])) := by
  have HL : Hid ((abn (akeysU key)).length = 240) := Lib.hid (by rw [abn_length]; exact akeys_length hr.bytes)
  have cw : ∀ W, Hid (Below w.heap.size w W) → Calls Try.prog 28 #[.slice A 32 c] W (AnsA W .u8 (abn (akeysU key))) := fun W hb => rwords_any key c B A W (hr.below (hb.out.mono hB)) (by have := hb.out.size; omega)
  clear hr hB
  revert HL cw
  generalize abn (akeysU key) = L
  intro HL cw
  go_enter Try.func19, Try.ntmps19
  go_wp2_with (refine wp_alloc_arr (k := .u8) rfl 40 rfl 240 zeroKeysR ?_)
  intro w1 g1 G1 H1 Hb1 Hs1
  go_wp2_with (refine wp_alloc_arr (k := .u8) rfl 40 rfl 240 zeroKeysR ?_)
  intro w2 g2 G2 H2 Hb2 Hs2
  have F2 : Hid (SK w [(g2, 40, Zs 240), (g1, 40, Zs 240)] w2) := Lib.hid ⟨by
    intro x hx
    simp only [List.mem_cons, List.not_mem_nil, or_false] at hx
    rcases hx with rfl | rfl
    · exact H2.out
    · exact H1.out.below Hb2.out H1.out.lt, abon Hb1.out Hb2.out⟩
  have Hg0 : Hid (w.heap.size ≤ g1 ∧ w.heap.size ≤ g2 ∧ g1 ≠ g2) := Lib.hid (by have := G1.out; have := G2.out; have := Hs1.out; omega)
  have cw2 := cw w2 (Lib.hid F2.out.2)
  clear H1 H2 Hb1 Hb2 G1 G2 Hs1 Hs2 cw
  go_wp2_with fail
  refine cw2.mono ?_
  rintro e w3 ⟨rfl, hb3⟩
  have F3 := Lib.hid (sk_below F2.out hb3)
  clear cw2 F2 hb3
  go_wp2_with (refine wp_alloc_arr (k := .u8) rfl 52 rfl 240 zeroWords ?_)
  intro w4 g3 G3 H3 Hb3 Hs3
  go_wp2_with (refine wp_put_w arrWords rfl (.tmp 5) (.tmp 13) rfl rfl (l' := L) rfl H3.out (Zs_length _) HL.out ?_)
  intro w5 H5 Hm5 Hs5
  have Hg : Hid (w.heap.size ≤ g1 ∧ w.heap.size ≤ g2 ∧ w.heap.size ≤ g3 ∧ g1 ≠ g2 ∧ g2 ≠ g3 ∧ g1 ≠ g3) := Lib.hid (by
    have e := G3.out
    have h0 := (sk_hd F3.out).lt
    have h1 := (F3.out.1 (g1, 40, Zs 240) (by simp)).lt
    have h2 := F3.out.2.size
    have h3 := Hg0.out
    dsimp only at h1
    omega)
  have F5 : Hid (SK w [(g2, 40, L.take (4 * 0) ++ (Zs 240).drop (4 * 0)), (g3, 52, L), (g1, 40, Zs 240)] w5) := Lib.hid (sk_sub (sk_cons (sk_keep (sk_below F3.out Hb3.out) Hm5.out (by
    have h4 := Hg.out
    intro x hx
    simp only [List.mem_cons, List.not_mem_nil, or_false] at hx
    rcases hx with rfl | rfl
    · exact h4.2.2.2.2.1
    · exact h4.2.2.2.2.2) Hg.out.2.2.1) H5.out) (by intro x hx; simp only [List.mem_cons, List.not_mem_nil, or_false] at hx ⊢; rcases hx with rfl | rfl | rfl <;> simp))
  have Hne2 : Hid (∀ x ∈ [(g3, 52, L), (g1, 40, Zs 240)], x.1 ≠ g2) := Lib.hid (by
    have h4 := Hg.out
    intro x hx
    simp only [List.mem_cons, List.not_mem_nil, or_false] at hx
    rcases hx with rfl | rfl
    · exact h4.2.2.2.2.1.symm
    · exact h4.2.2.2.1)
  clear F3 H3 H5 Hb3 Hs3 Hm5 Hs5 G3 Hg0
  go_wp2
  go_loopw [6] (fun u wr => ∃ i : Nat, i ≤ 60 ∧ u = .int .i64 (i : Int) ∧ Hid (SK w [(g2, 40, L.take (4 * i) ++ (Zs 240).drop (4 * i)), (g3, 52, L), (g1, 40, Zs 240)] wr)) (fun u _ => 60 - (intOf u).toNat)
  case atStart => exact ⟨0, by omega, rfl, F5⟩
  case round =>
    clear F5
    obtain ⟨i, hi, rfl, F5⟩ := hrel
    by_cases hlt : i < 60
    · obtain ⟨o, ho⟩ : ∃ o, 4 * i = o := ⟨_, rfl⟩
      have Ho := Lib.hid ho
      obtain ⟨qd, hqd⟩ : ∃ qd, i / 4 = qd := ⟨_, rfl⟩
      obtain ⟨rm, hrm⟩ : ∃ rm, i % 4 = rm := ⟨_, rfl⟩
      obtain ⟨o1, ho1⟩ : ∃ o1, qd * 16 = o1 := ⟨_, rfl⟩
      have z0 : (0 : Int) ≤ (i : Int) := by omega
      have e1 : (i : Int) / 4 = (qd : Int) := by omega
      have e1t : (i : Int).tdiv 4 = (qd : Int) := by rw [Int.tdiv_eq_ediv_of_nonneg z0]; exact e1
      have e2 : (i : Int) % 4 = (rm : Int) := by omega
      have e2t : (i : Int).tmod 4 = (rm : Int) := by rw [Int.tmod_eq_emod_of_nonneg z0]; exact e2
      have hwq : IntKind.i64.wrap (qd : Int) = (qd : Int) := IntWalk.i64_in _ ⟨by omega, by omega⟩
      have hwm : IntKind.i64.wrap (4 * (rm : Int)) = 4 * (rm : Int) := IntWalk.i64_in _ ⟨by omega, by omega⟩
      have ix3 := fun W => run_indexAt_w (b := g3) arrWords info_4 i o (i : Int) rfl hlt (by omega) W
      have ix2 := fun W => run_indexAt_w (b := g2) arrKeysR info_16 qd o1 (qd : Int) rfl (by omega) ho1 W
      have Hrel : Hid (o1 + 4 * rm = o ∧ rm < 4) := Lib.hid (by omega)
      clear ho hqd hrm ho1
      have Fz : Hid (SK w [(g2, 40, L.take (4 * i + 0) ++ (Zs 240).drop (4 * i + 0)), (g3, 52, L), (g1, 40, Zs 240)] wr) := Lib.hid (show SK w [(g2, 40, L.take (4 * i + 0) ++ (Zs 240).drop (4 * i + 0)), (g3, 52, L), (g1, 40, Zs 240)] wr from F5.out)
      clear F5
      go_wp2
      have hd1 : decide ((i : Int) < 60) = true := by simp; omega
      simp only [hd1]
      go_loopw [7] (fun u wr => ∃ v : Nat, v ≤ 4 ∧ u = .int .i64 (v : Int) ∧ Hid (SK w [(g2, 40, L.take (4 * i + v) ++ (Zs 240).drop (4 * i + v)), (g3, 52, L), (g1, 40, Zs 240)] wr)) (fun u _ => 4 - (intOf u).toNat)
      case atStart => exact ⟨0, by omega, rfl, Fz⟩
      case round =>
        clear Fz
        obtain ⟨v, hv, rfl, F7⟩ := hrel
        by_cases hlv : v < 4
        · obtain ⟨q, hq⟩ : ∃ q, 4 * i + v = q := ⟨_, rfl⟩
          have hq240 : q < 240 := by omega
          obtain ⟨x, hx⟩ : ∃ x : Nat, L[q]? = some x := ⟨_, List.getElem?_eq_getElem (show q < L.length by rw [HL.out]; omega)⟩
          have ixq := fun W => run_indexAt_off (P := Try.prog) (b := g3) arr4 info_u8n o v q hlv (by have := Ho.out; omega) W
          have hr4 : 4 * rm + v < 16 := by have := Hrel.out; omega
          have hwa : IntKind.i64.wrap (4 * (rm : Int) + (v : Int)) = 4 * (rm : Int) + (v : Int) := IntWalk.i64_in _ ⟨by omega, by omega⟩
          have ixg : ∀ W, (Instr.indexAt 23 (.pointer (some ⟨g2, o1, none⟩)) (.int .i64 (4 * (rm : Int) + (v : Int)))).run Try.prog W = .ok (.pointer (some ⟨g2, q, none⟩)) W := fun W => by
            have h := run_indexAt_off (P := Try.prog) (b := g2) arr16 info_u8n o1 (4 * rm + v) q hr4 (by have := Ho.out; have := Hrel.out; omega) W
            rw [show ((4 * rm + v : Nat) : Int) = 4 * (rm : Int) + (v : Int) by omega] at h
            exact h
          rw [hq] at F7
          have Hx := Lib.hid hx
          have Hq := Lib.hid hq
          clear hx hq hr4
          have hfz := (sk_hd F7.out).drew.frozen q
          have hcl := (sk_hd F7.out).drew.at_ (fill_get (L := L) (M := Zs 240) (i := q) (by rw [Zs_length]; omega) (by rw [HL.out]; omega))
          go_wp2_with fail
          refine wp_region_ends (fun w' => SK w [(g2, 40, L.take (q) ++ (Zs 240).drop (q)), (g3, 52, L), (g1, 40, Zs 240)] w') 14 (by kernel_rfl) ?_
          refine wpAnyE_take (i := 0) (v := .int .i64 (i : Int)) (some 22) rfl rfl (by kernel_rfl) (fun _ _ _ h => h) (.inl ⟨by rfl, fun W _ => rfl⟩) (sk_drewN F7.out 1) ?_
          simp only [Act.put, List.setIfInBounds_toArray, List.set_cons_zero, List.set_cons_succ]
          refine wpAnyE_take (i := 1) (v := .int .i64 (qd : Int)) (some 23) rfl rfl (by kernel_rfl) (fun _ _ _ h => h) (.inl ⟨by rfl, fun W _ => by go_simp⟩) (sk_drewN F7.out 1) ?_
          simp only [Act.put, List.setIfInBounds_toArray, List.set_cons_zero, List.set_cons_succ]
          refine wpAnyE_take (i := 2) (v := .int .i64 (i : Int)) (some 24) rfl rfl (by kernel_rfl) (fun _ _ _ h => h) (.inl ⟨by rfl, fun W _ => rfl⟩) (sk_drewN F7.out 1) ?_
          simp only [Act.put, List.setIfInBounds_toArray, List.set_cons_zero, List.set_cons_succ]
          refine wpAnyE_take (i := 3) (v := .int .i64 (rm : Int)) (some 25) rfl rfl (by kernel_rfl) (fun _ _ _ h => h) (.inl ⟨by rfl, fun W _ => by go_simp⟩) (sk_drewN F7.out 1) ?_
          simp only [Act.put, List.setIfInBounds_toArray, List.set_cons_zero, List.set_cons_succ]
          refine wpAnyE_take (i := 4) (v := .int .i64 (4 * (rm : Int))) (some 26) rfl rfl (by kernel_rfl) (fun _ _ _ h => h) (.inl ⟨by rfl, fun W _ => by go_simp⟩) (sk_drewN F7.out 1) ?_
          simp only [Act.put, List.setIfInBounds_toArray, List.set_cons_zero, List.set_cons_succ]
          refine wpAnyE_take (i := 5) (v := .int .i64 (v : Int)) (some 27) rfl rfl (by kernel_rfl) (fun _ _ _ h => h) (.inl ⟨by rfl, fun W _ => rfl⟩) (sk_drewN F7.out 1) ?_
          simp only [Act.put, List.setIfInBounds_toArray, List.set_cons_zero, List.set_cons_succ]
          refine wpAnyE_take (i := 6) (v := .int .i64 (4 * (rm : Int) + (v : Int))) (some 28) rfl rfl (by kernel_rfl) (fun _ _ _ h => h) (.inl ⟨by rfl, fun W _ => by go_simp⟩) (sk_drewN F7.out 1) ?_
          simp only [Act.put, List.setIfInBounds_toArray, List.set_cons_zero, List.set_cons_succ]
          refine wpAnyE_take (i := 7) (v := .int .i64 (i : Int)) (some 29) rfl rfl (by kernel_rfl) (fun _ _ _ h => h) (.inl ⟨by rfl, fun W _ => rfl⟩) (sk_drewN F7.out 1) ?_
          simp only [Act.put, List.setIfInBounds_toArray, List.set_cons_zero, List.set_cons_succ]
          refine wpAnyE_take (i := 8) (v := .int .i64 (v : Int)) (some 30) rfl rfl (by kernel_rfl) (fun _ _ _ h => h) (.inl ⟨by rfl, fun W _ => rfl⟩) (sk_drewN F7.out 1) ?_
          simp only [Act.put, List.setIfInBounds_toArray, List.set_cons_zero, List.set_cons_succ]
          refine wpAnyE_take (i := 9) (v := .pointer (some ⟨g3, o, none⟩)) (some 31) rfl rfl (by kernel_rfl) (fun _ _ _ h => h) (.inl ⟨by rfl, fun W _ => by go_simp⟩) (sk_drewN F7.out 1) ?_
          simp only [Act.put, List.setIfInBounds_toArray, List.set_cons_zero, List.set_cons_succ]
          refine wpAnyE_take (i := 10) (v := .pointer (some ⟨g3, q, none⟩)) (some 32) rfl rfl (by kernel_rfl) (fun _ _ _ h => h) (.inl ⟨by rfl, fun W _ => by go_simp⟩) (sk_drewN F7.out 1) ?_
          simp only [Act.put, List.setIfInBounds_toArray, List.set_cons_zero, List.set_cons_succ]
          refine wpAnyE_take (i := 11) (v := .int .u8 (x : Int)) (some 33) rfl rfl (by kernel_rfl) (fun _ _ _ h => h) (.inl ⟨by rfl, fun W h => by have hc := (Arr.at_ (t := 52) (k := .u8) (l := L) (h.1 (g3, 52, L) (by simp)) Hx.out); go_simp⟩) (sk_drewN F7.out 1) ?_
          simp only [Act.put, List.setIfInBounds_toArray, List.set_cons_zero, List.set_cons_succ]
          refine wpAnyE_one (i := 12) (by kernel_rfl) rfl (fun K7 hK7 => ?_)
          go_simp
          refine hK7.out _ _ (.inr (sk_drewN F7.out 1)) ?_
          clear hK7 K7
          refine wpAnyE_take (i := 13) (v := .pointer (some ⟨g2, q, none⟩)) (some 35) rfl rfl (by kernel_rfl) (fun _ _ _ h => h) (.inl ⟨by rfl, fun W _ => by go_simp⟩) (sk_drewN F7.out 1) ?_
          simp only [Act.put, List.setIfInBounds_toArray, List.set_cons_zero, List.set_cons_succ]
          refine wpAnyE_one (i := 14) (by kernel_rfl) rfl (fun K6 hK6 => ?_)
          go_simp
          refine hK6.out _ _ (.inl rfl) ?_
          have F8 : Hid (SK w [(g2, 40, L.take (4 * i + (v + 1)) ++ (Zs 240).drop (4 * i + (v + 1))), (g3, 52, L), (g1, 40, Zs 240)] ((wr.setCell ⟨g2, q, none⟩ (.int .u8 (x : Int))).drew)) := Lib.hid (by
            have h := sk_drewN (sk_set F7.out Hne2.out Hg.out.2.1 q x) 1
            rw [afill_step Hx.out (by rw [Zs_length]; omega)] at h
            rw [show 4 * i + (v + 1) = q + 1 by have := Hq.out; omega]
            exact h)
          clear hK6 K6 F7
          refine wpAnyE_done (by kernel_rfl) ?_
          go_wp2
          go_roundw
          case rel => exact ⟨v + 1, by omega, by go_num, F8⟩
          case measure => simp [intOf]; omega
        · obtain rfl : v = 4 := by omega
          have F9 : Hid (SK w [(g2, 40, L.take (4 * (i + 1)) ++ (Zs 240).drop (4 * (i + 1))), (g3, 52, L), (g1, 40, Zs 240)] wr) := Lib.hid F7.out
          clear F7
          go_wp2
          go_roundw
          case rel => exact ⟨i + 1, by omega, by go_num, F9⟩
          case measure => simp [intOf]; omega
    · obtain rfl : i = 60 := by omega
      have A2 : Hid (Arr wr g2 40 .u8 L) := Lib.hid (by have h := sk_hd F5.out; rw [show 4 * 60 = 240 from rfl, fill_all HL.out (Zs_length _)] at h; exact h)
      have A1 : Hid (Arr wr g1 40 .u8 (Zs 240)) := Lib.hid (F5.out.1 (g1, 40, Zs 240) (by simp))
      go_wp2_with (first
        | refine wp_load_w arrKeysR rfl (.tmp 4) rfl rfl A2.out HL.out ?_
        | refine wp_put_w arrKeysR rfl (.tmp 2) (.tmp 36) rfl rfl (l' := L) rfl A1.out (Zs_length _) HL.out ?_)
      intro w9 H9 Hm9 Hs9
      go_wp2
      exact ret_two arrKeysR rfl rfl H9.out HL.out rfl rfl ⟨rfl, F5.out.2.trans (Hm9.out.below (fun j hj => by rw [hj]; exact Hg.out.1) F5.out.2.size)⟩

end Go.Proofs.Ytfkfkmdnffpcmaa

namespace Go.Proofs.Ytfkfkmdnffpcmaa
open Go.RowKit

set_option maxHeartbeats 1600000 in
theorem rasub_any (s : List UInt8) (w : World) (hs : s.length = 16) :
    Calls Try.prog 31 #[.agg (Nums .u8 (abn s))] w (AnsA w .u8 (abn (asubU s))) := by
  have Hat : Hid (∀ k, k < 16 → ∃ x : UInt8, (abn s)[k]? = some x.toNat ∧ (abn (asubU s))[k]? = some (gboxU x).toNat) := Lib.hid (fun k hk => by
    obtain ⟨x, h1, h2⟩ := asub_at gboxU (s := s) (k := k) (by omega)
    exact ⟨x, abn_get h1, abn_get h2⟩)
  have Hl : Hid ((abn s).length = 16) := Lib.hid (by rw [abn_length, hs])
  have HL : Hid ((abn (asubU s)).length = 16) := Lib.hid (by rw [abn_length, asubU, asubB_length, hs])
  clear hs
  revert Hat Hl HL
  generalize abn (asubU s) = L
  generalize abn s = l
  intro Hat Hl HL
  go_enter Try.func31, Try.ntmps31
  go_wp2_with (refine wp_box_arr (k := .u8) rfl 23 (.tmp 0) rfl l rfl ?_)
  intro w1 g1 G1 H1 Hb1 Hs1
  go_wp2_with (refine wp_alloc_arr (k := .u8) rfl 23 rfl 16 zero16 ?_)
  intro w2 g2 G2 H2 Hb2 Hs2
  have Hg : Hid (w.heap.size ≤ g1 ∧ w.heap.size ≤ g2 ∧ g1 ≠ g2) := Lib.hid (by have := G1.out; have := G2.out; have := Hs1.out; omega)
  have K1 : Hid (Arr w2 g1 23 .u8 l) := Lib.hid (H1.out.below Hb2.out H1.out.lt)
  have B2 : Hid (Below w.heap.size w w2) := Lib.hid (Hb1.out.trans (Hb2.out.mono Hb1.out.size))
  have K3 : Hid (Arr w2 g1 23 .u8 (L.take 0 ++ l.drop 0)) := Lib.hid K1.out
  clear H1 Hb1 Hb2 G1 G2 Hs1 Hs2
  go_wp2
  go_loopw [3] (fun i wr => ∃ k : Nat, k ≤ 16 ∧ i = .int .i64 (k : Int) ∧ Hid (Arr wr g2 23 .u8 (Zs 16)) ∧ Hid (Arr wr g1 23 .u8 (L.take k ++ l.drop k)) ∧ Hid (Below w.heap.size w wr)) (fun i _ => 16 - (intOf i).toNat)
  case atStart => exact ⟨0, by omega, rfl, H2, K3, B2⟩
  case round =>
    clear K1 K3 B2 H2
    obtain ⟨k, hk, rfl, K2, K3, B3⟩ := hrel
    by_cases hlt : k < 16
    · obtain ⟨x, hx, hy⟩ := Hat.out k hlt
      have hc := fun w' => rgbox_any x w'
      have hin := K3.out.at_ (afill_at hx (L := L) (by rw [HL.out]; omega))
      have Hy : Hid (L[k]? = some (gboxU x).toNat) := Lib.hid hy
      clear hx hy
      generalize gboxU x = y at *
      go_wp2_with fail
      refine (hc _).mono ?_
      rintro e w4 ⟨rfl, n4, rfl⟩
      have hb4 : Below wr.heap.size wr (wr.drewN n4) := bdrewN (Below.refl _ _) n4
      have A1 : Hid (Arr (wr.drewN n4) g1 23 .u8 (L.take k ++ l.drop k)) := Lib.hid (K3.out.below hb4 K3.out.lt)
      have A2 : Hid (Arr (wr.drewN n4) g2 23 .u8 (Zs 16)) := Lib.hid (K2.out.below hb4 K2.out.lt)
      have A3 : Hid (Below w.heap.size w (wr.drewN n4)) := Lib.hid (abon B3.out hb4)
      have hout := A1.out.at_ (fill_get (L := L) (M := l) (i := k) (by rw [Hl.out]; exact hlt) (by rw [HL.out]; omega))
      have hfz := A1.out.frozen k
      clear hb4 K2 K3 B3
      go_wp2
      go_roundw
      case rel =>
        refine ⟨k + 1, by omega, by go_num, Lib.hid (A2.out.other Hg.out.2.2.symm), Lib.hid ?_, Lib.hid (A3.out.setCell Hg.out.1 _)⟩
        rw [← afill_step Hy.out (by rw [Hl.out]; exact hlt)]
        exact A1.out.set
      case measure => simp [intOf]; omega
    · have hk4 : k = 16 := by omega
      have Hr : Hid (Arr wr g1 23 .u8 L) := Lib.hid (by have h := K3.out; rw [hk4, fill_all HL.out Hl.out] at h; exact h)
      go_wp2_with (first
        | refine wp_load_arr arr16 rfl (.tmp 1) rfl rfl Hr.out HL.out ?_
        | refine wp_put_arr arr16 rfl (.tmp 2) (.tmp 14) rfl rfl (l' := L) rfl K2.out (Zs_length _) HL.out ?_)
      intro w5 H5 Hm5 Hs5
      go_wp2
      exact ret_arr arr16 rfl rfl H5.out HL.out rfl ⟨rfl, B3.out.trans (Hm5.out.below (fun j hj => by have := Hg.out; omega) B3.out.size)⟩

end Go.Proofs.Ytfkfkmdnffpcmaa

namespace Go.Proofs.Ytfkfkmdnffpcmaa
open Go.RowKit

set_option maxHeartbeats 1600000 in
theorem rashift_any (s : List UInt8) (w : World) (hs : s.length = 16) :
    Calls Try.prog 30 #[.agg (Nums .u8 (abn s))] w (AnsA w .u8 (abn (ashiftU s))) := by
  have Hat : Hid (∀ c r, c < 4 → r < 4 → ∃ x : UInt8, (abn s)[4 * ((c + r) % 4) + r]? = some x.toNat ∧ (abn (ashiftU s))[4 * c + r]? = some x.toNat) := Lib.hid (fun c r hc hr => by
    obtain ⟨x, h1, h2⟩ := ashift_at hs hc hr
    exact ⟨x, abn_get h1, abn_get h2⟩)
  have Hl : Hid ((abn s).length = 16) := Lib.hid (by rw [abn_length, hs])
  have HL : Hid ((abn (ashiftU s)).length = 16) := Lib.hid (by rw [abn_length, ashift_length])
  clear hs
  revert Hat Hl HL
  generalize abn (ashiftU s) = L
  generalize abn s = l
  intro Hat Hl HL
  go_enter Try.func30, Try.ntmps30
  go_wp2_with (refine wp_box_arr (k := .u8) rfl 23 (.tmp 0) rfl l rfl ?_)
  intro w1 g1 G1 H1 Hb1 Hs1
  go_wp2_with (refine wp_alloc_arr (k := .u8) rfl 23 rfl 16 zero16 ?_)
  intro w2 g2 G2 H2 Hb2 Hs2
  go_wp2_with (refine wp_alloc_arr (k := .u8) rfl 23 rfl 16 zero16 ?_)
  intro w3 g3 G3 H3 Hb3 Hs3
  have Hg : Hid (w.heap.size ≤ g1 ∧ w.heap.size ≤ g2 ∧ w.heap.size ≤ g3 ∧ g1 ≠ g3 ∧ g2 ≠ g3 ∧ g1 ≠ g2) := Lib.hid (by have := G1.out; have := G2.out; have := G3.out; have := Hs1.out; have := Hs2.out; omega)
  have K1 : Hid (Arr w3 g1 23 .u8 l) := Lib.hid ((H1.out.below Hb2.out H1.out.lt).below Hb3.out (Nat.lt_of_lt_of_le H1.out.lt Hb2.out.size))
  have K2 : Hid (Arr w3 g2 23 .u8 (Zs 16)) := Lib.hid (H2.out.below Hb3.out H2.out.lt)
  have B3 : Hid (Below w.heap.size w w3) := Lib.hid ((Hb1.out.trans (Hb2.out.mono Hb1.out.size)).trans (Hb3.out.mono (Nat.le_trans Hb1.out.size Hb2.out.size)))
  have K3 : Hid (Arr w3 g3 23 .u8 (L.take 0 ++ (Zs 16).drop 0)) := Lib.hid H3.out
  clear H1 H2 H3 Hb1 Hb2 Hb3 G1 G2 G3 Hs1 Hs2 Hs3
  go_wp2
  go_loopw [4] (fun i wr => ∃ c : Nat, c ≤ 4 ∧ i = .int .i64 (c : Int) ∧ Hid (Arr wr g1 23 .u8 l) ∧ Hid (Arr wr g2 23 .u8 (Zs 16)) ∧ Hid (Arr wr g3 23 .u8 (L.take (4 * c) ++ (Zs 16).drop (4 * c))) ∧ Hid (Below w.heap.size w wr)) (fun i _ => 4 - (intOf i).toNat)
  case atStart => exact ⟨0, by omega, rfl, K1, K2, K3, B3⟩
  case round =>
    clear K1 K2 K3 B3
    obtain ⟨c, hc, rfl, K1, K2, K3, B3⟩ := hrel
    by_cases hlt : c < 4
    · have K4 : Hid (Arr wr g3 23 .u8 (L.take (4 * c + 0) ++ (Zs 16).drop (4 * c + 0))) := Lib.hid K3.out
      go_wp2
      go_loopw [5] (fun i wr => ∃ r : Nat, r ≤ 4 ∧ i = .int .i64 (r : Int) ∧ Hid (Arr wr g1 23 .u8 l) ∧ Hid (Arr wr g2 23 .u8 (Zs 16)) ∧ Hid (Arr wr g3 23 .u8 (L.take (4 * c + r) ++ (Zs 16).drop (4 * c + r))) ∧ Hid (Below w.heap.size w wr)) (fun i _ => 4 - (intOf i).toNat)
      case atStart => exact ⟨0, by omega, rfl, K1, K2, K4, B3⟩
      case round =>
        clear K1 K2 K3 K4 B3
        obtain ⟨r, hr, rfl, K1, K2, K3, B3⟩ := hrel
        by_cases hlr : r < 4
        · obtain ⟨x, hx, hy⟩ := Hat.out c r hlt hlr
          obtain ⟨p, hp⟩ : ∃ p, (c + r) % 4 = p := ⟨_, rfl⟩
          rw [hp] at hx
          have hp4 : p < 4 := by omega
          have ep : ((c : Int) + (r : Int)) % 4 = (p : Int) := by omega
          obtain ⟨q, hq⟩ : ∃ q, 4 * p + r = q := ⟨_, rfl⟩
          rw [hq] at hx
          have hq16 : q < 16 := by omega
          have eq : 4 * (p : Int) + (r : Int) = (q : Int) := by omega
          obtain ⟨o, ho⟩ : ∃ o, 4 * c + r = o := ⟨_, rfl⟩
          rw [ho] at hy K3
          have ho16 : o < 16 := by omega
          have eo : 4 * (c : Int) + (r : Int) = (o : Int) := by omega
          have Ho := Lib.hid ho
          have Hy := Lib.hid hy
          have hin := K1.out.at_ hx
          have hout := K3.out.at_ (fill_get (L := L) (M := Zs 16) (i := o) (by rw [Zs_length]; exact ho16) (by rw [HL.out]; omega))
          have hfz := K3.out.frozen o
          clear hp hq ho hx hy
          go_wp2
          go_roundw
          case rel =>
            refine ⟨r + 1, by omega, by go_num, Lib.hid (K1.out.other Hg.out.2.2.2.1), Lib.hid (K2.out.other Hg.out.2.2.2.2.1), Lib.hid ?_, Lib.hid (B3.out.setCell Hg.out.2.2.1 _)⟩
            rw [show 4 * c + (r + 1) = o + 1 by have := Ho.out; omega, ← afill_step Hy.out (by rw [Zs_length]; exact ho16)]
            exact K3.out.set
          case measure => simp [intOf]; omega
        · have hr4 : r = 4 := by omega
          subst hr4
          have K4 : Hid (Arr wr g3 23 .u8 (L.take (4 * (c + 1)) ++ (Zs 16).drop (4 * (c + 1)))) := Lib.hid K3.out
          go_wp2
          go_roundw
          case rel => exact ⟨c + 1, by omega, by go_num, K1, K2, K4, B3⟩
          case measure => simp [intOf]; omega
    · have hk4 : c = 4 := by omega
      have Hr : Hid (Arr wr g3 23 .u8 L) := Lib.hid (by have h := K3.out; rw [hk4, fill_all HL.out (Zs_length _)] at h; exact h)
      go_wp2_with (first
        | refine wp_load_arr arr16 rfl (.tmp 3) rfl rfl Hr.out HL.out ?_
        | refine wp_put_arr arr16 rfl (.tmp 2) (.tmp 28) rfl rfl (l' := L) rfl K2.out (Zs_length _) HL.out ?_)
      intro w5 H5 Hm5 Hs5
      go_wp2
      exact ret_arr arr16 rfl rfl H5.out HL.out rfl ⟨rfl, B3.out.trans (Hm5.out.below (fun j hj => by have := Hg.out; omega) B3.out.size)⟩

end Go.Proofs.Ytfkfkmdnffpcmaa

namespace Go.Proofs.Ytfkfkmdnffpcmaa
open Go.RowKit

set_option maxHeartbeats 3200000 in
theorem rgcolumn_any (a b c d : UInt8) (w : World) :
    Calls Try.prog 40 #[.agg (Nums .u8 (four a b c d))] w (AnsA w .u8 (gcolU a b c d)) := by
  have Hat := Lib.hid (gcol_at a b c d)
  have HL : Hid ((gcolU a b c d).length = 4) := Lib.hid rfl
  revert Hat HL
  generalize four a b c d = l
  generalize gcolU a b c d = L
  intro Hat HL
  go_enter Try.func40, Try.ntmps40
  go_wp2_with (refine wp_box_arr (k := .u8) rfl 51 (.tmp 0) rfl l rfl ?_)
  intro w1 g1 G1 H1 Hb1 Hs1
  go_wp2_with (refine wp_alloc_arr (k := .u8) rfl 51 rfl 4 zero4 ?_)
  intro w2 g2 G2 H2 Hb2 Hs2
  go_wp2_with (refine wp_alloc_arr (k := .u8) rfl 51 rfl 4 zero4 ?_)
  intro w3 g3 G3 H3 Hb3 Hs3
  have Hg : Hid (w.heap.size ≤ g1 ∧ w.heap.size ≤ g2 ∧ w.heap.size ≤ g3 ∧ g1 ≠ g3 ∧ g2 ≠ g3 ∧ g1 ≠ g2) := Lib.hid (by have := G1.out; have := G2.out; have := G3.out; have := Hs1.out; have := Hs2.out; omega)
  have K1 : Hid (Arr w3 g1 51 .u8 l) := Lib.hid ((H1.out.below Hb2.out H1.out.lt).below Hb3.out (Nat.lt_of_lt_of_le H1.out.lt Hb2.out.size))
  have K2 : Hid (Arr w3 g2 51 .u8 (Zs 4)) := Lib.hid (H2.out.below Hb3.out H2.out.lt)
  have B3 : Hid (Below w.heap.size w w3) := Lib.hid ((Hb1.out.trans (Hb2.out.mono Hb1.out.size)).trans (Hb3.out.mono (Nat.le_trans Hb1.out.size Hb2.out.size)))
  have K3 : Hid (Arr w3 g3 51 .u8 (L.take 0 ++ (Zs 4).drop 0)) := Lib.hid H3.out
  clear H1 H2 H3 Hb1 Hb2 Hb3 G1 G2 G3 Hs1 Hs2 Hs3
  go_wp2
  go_loopw [4] (fun i wr => ∃ k : Nat, k ≤ 4 ∧ i = .int .i64 (k : Int) ∧ Hid (Arr wr g1 51 .u8 l) ∧ Hid (Arr wr g2 51 .u8 (Zs 4)) ∧ Hid (Arr wr g3 51 .u8 (L.take k ++ (Zs 4).drop k)) ∧ Hid (Below w.heap.size w wr)) (fun i _ => 4 - (intOf i).toNat)
  case atStart => exact ⟨0, by omega, rfl, K1, K2, K3, B3⟩
  case round =>
    clear K1 K2 K3 B3
    obtain ⟨k, hk, rfl, K1, K2, K3, B3⟩ := hrel
    by_cases hlt : k < 4
    · obtain ⟨p, q, r, s, hp, hq, hr, hs, hm⟩ := Hat.out k hlt
      rw [Nat.mod_eq_of_lt hlt] at hp
      obtain ⟨j1, hj1⟩ : ∃ j, (k + 1) % 4 = j := ⟨_, rfl⟩
      obtain ⟨j2, hj2⟩ : ∃ j, (k + 2) % 4 = j := ⟨_, rfl⟩
      obtain ⟨j3, hj3⟩ : ∃ j, (k + 3) % 4 = j := ⟨_, rfl⟩
      rw [hj1] at hq
      rw [hj2] at hr
      rw [hj3] at hs
      have d0 := K1.out.at_ hp
      have d1 := K1.out.at_ hq
      have d2 := K1.out.at_ hr
      have d3 := K1.out.at_ hs
      have i1 : ((k : Int) + 1) % 4 = (j1 : Int) := by omega
      have i2 : ((k : Int) + 2) % 4 = (j2 : Int) := by omega
      have i3 : ((k : Int) + 3) % 4 = (j3 : Int) := by omega
      have b1 : j1 < 4 := by omega
      have b2 : j2 < 4 := by omega
      have b3 : j3 < 4 := by omega
      have b1' : (j1 : Int) < 4 := by omega
      have b2' : (j2 : Int) < 4 := by omega
      have b3' : (j3 : Int) < 4 := by omega
      have b0' : (k : Int) < 4 := by omega
      clear hj1 hj2 hj3
      have m2 : ((k : Int) + 2).tmod 4 = (j2 : Int) := by rw [Int.tmod_eq_emod_of_nonneg (by omega)]; exact i2
      have m3 : ((k : Int) + 3).tmod 4 = (j3 : Int) := by rw [Int.tmod_eq_emod_of_nonneg (by omega)]; exact i3
      have w1' : IntKind.i64.wrap ((k : Int) + 1) = (k : Int) + 1 := IntWalk.i64_in _ ⟨by omega, by omega⟩
      have w2' : IntKind.i64.wrap ((k : Int) + 2) = (k : Int) + 2 := IntWalk.i64_in _ ⟨by omega, by omega⟩
      have w3' : IntKind.i64.wrap ((k : Int) + 3) = (k : Int) + 3 := IntWalk.i64_in _ ⟨by omega, by omega⟩
      have t0 := fun w => rgtwice_any p w
      have t1 := fun w => rgtwice_any q w
      have x1 := gxor_u8 (gtwiceU p) q
      have x2 := gxor_u8 (gtwiceU p ^^^ q) (gtwiceU q)
      have x3 := gxor_u8 (gtwiceU p ^^^ q ^^^ gtwiceU q) r
      have x4 := gxor_u8 (gtwiceU p ^^^ q ^^^ gtwiceU q ^^^ r) s
      have Hm : Hid (L[k]? = some (gtwiceU p ^^^ q ^^^ gtwiceU q ^^^ r ^^^ s).toNat) := Lib.hid hm
      have hout := K3.out.at_ (fill_get (L := L) (M := Zs 4) (i := k) (by rw [Zs_length]; exact hlt) (by rw [HL.out]; omega))
      have hfz := K3.out.frozen k
      clear hp hq hr hs hm
      generalize gtwiceU p ^^^ q ^^^ gtwiceU q ^^^ r ^^^ s = y4 at *
      generalize gtwiceU p ^^^ q ^^^ gtwiceU q ^^^ r = y3 at *
      generalize gtwiceU p ^^^ q ^^^ gtwiceU q = y2 at *
      generalize gtwiceU p ^^^ q = y1 at *
      generalize gtwiceU p = tp at *
      generalize gtwiceU q = tq at *
      go_wp2
      go_still_tail 23, (by kernel_rfl)
      still_call (t0 _)
      repeat still_step
      still_call (t1 _)
      repeat still_step
      refine wpStill_nil ?_
      change wpList _ _ _ _ _ wr.drew
      go_wp2
      go_roundw
      case rel =>
        obtain ⟨hk2, hy⟩ := List.getElem?_eq_some_iff.1 Hm.out
        have e4 : (L.take k ++ (Zs 4).drop k).set k y4.toNat = L.take (k + 1) ++ (Zs 4).drop (k + 1) := by rw [← hy]; exact afill_set hk2 (by rw [Zs_length]; exact hlt)
        have hne : g1 ≠ g3 ∧ g2 ≠ g3 ∧ w.heap.size ≤ g3 := ⟨Hg.out.2.2.2.1, Hg.out.2.2.2.2.1, Hg.out.2.2.1⟩
        refine ⟨k + 1, by omega, by go_num, Lib.hid (K1.out.other hne.1), Lib.hid (K2.out.other hne.2.1), Lib.hid ?_, Lib.hid (B3.out.setCell (p := ⟨g3, k, none⟩) hne.2.2 _).drew⟩
        rw [← e4]
        exact K3.out.set
      case measure => simp [intOf]; omega
    · have hk4 : k = 4 := by omega
      have Hr : Hid (Arr wr g3 51 .u8 L) := Lib.hid (by have h := K3.out; rw [hk4, fill_all HL.out (Zs_length 4)] at h; exact h)
      go_wp2_with (first
        | refine wp_load_arr arr4 rfl (.tmp 3) rfl rfl Hr.out HL.out ?_
        | refine wp_put_arr arr4 rfl (.tmp 2) (.tmp 38) rfl rfl (l' := L) rfl K2.out (Zs_length _) HL.out ?_)
      intro w5 H5 Hm5 Hs5
      go_wp2
      exact ret_arr arr4 rfl rfl H5.out HL.out rfl ⟨rfl, B3.out.trans (Hm5.out.below (fun j hj => by have := Hg.out; omega) B3.out.size)⟩

end Go.Proofs.Ytfkfkmdnffpcmaa
