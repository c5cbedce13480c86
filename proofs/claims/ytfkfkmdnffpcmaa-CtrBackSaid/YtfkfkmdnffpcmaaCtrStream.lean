import Derived.Test.YtfkfkmdnffpcmaaCtrBlocks
import Derived.Test.YtfkfkmdnffpcmaaArrMake
namespace Go.Proofs.Ytfkfkmdnffpcmaa
open Go.RowKit

theorem cstream_form (m d n c : Nat) (A C : Option Addr) (z : Int) (w : World) (h : m ≠ 32 ∨ n ≠ 16) :
    Calls Try.prog 9 #[.slice A m d, .slice C n c, .int .i64 z] w (NewRF w [] 4) := by
  have c1 : ∀ W, Calls Try.prog 17 #[.slice A m d, .slice C n c] W (Ans W (.tuple #[.nilFunc, .int .i64 4])) := fun W => by
    by_cases hn : n = 16
    · subst hn
      exact cblocks_none m d c A C W (h.resolve_right fun h => h rfl)
    · exact (cblocks_form m d n c A C W hn).mono fun e w' hw => ⟨hw.1, by rw [hw.2]; exact Below.refl _ _⟩
  go_enter Try.func9, Try.ntmps9
  go_wp2_with fail
  refine (c1 _).mono ?_
  rintro e w1 ⟨rfl, hb⟩
  go_wp2
  go_ret2
  exact ⟨none, 0, rfl, Rd.nil, SlOK.nil, hb⟩
theorem cstream_range (key s : List UInt8) (c d B : Nat) (A C : Option Addr) (z : Int) (w : World) (hr : Rd w B A 32 (Byt key)) (hc : 32 ≤ c) (hs : Rd w B C 16 (Byt s)) (hB : B ≤ w.heap.size) (hz : z < 0 ∨ 65536 < z) :
    Calls Try.prog 9 #[.slice A 32 c, .slice C 16 d, .int .i64 z] w (NewRF w [] 2) := by
  have c1 := cblocks_any key s c d B A C w hr hc hs hB
  rcases hz with hz | hz
  all_goals
    go_enter Try.func9, Try.ntmps9
    go_wp2_with fail
    refine c1.mono ?_
    rintro e w1 ⟨g1, g2, rfl, S1, hg1, hg2⟩
    go_wp2
    go_ret2
    exact ⟨none, 0, rfl, Rd.nil, SlOK.nil, S1.2⟩

set_option maxHeartbeats 1600000 in
theorem cstream_any (key s : List UInt8) (c d B n : Nat) (A C : Option Addr) (w : World) (hr : Rd w B A 32 (Byt key)) (hc : 32 ≤ c) (hs : Rd w B C 16 (Byt s)) (hB : B ≤ w.heap.size) (hn : n ≤ 65536) :
    Calls Try.prog 9 #[.slice A 32 c, .slice C 16 d, .int .i64 (n : Int)] w (NewRF w (cstreamU (akeysU key) s n) 0) := by
  have c1 := cblocks_any key s c d B A C w hr hc hs hB
  have hk : (akeysU key).length = 240 := akeys_length hr.bytes
  have hsl := hs.bytes
  have c2 := fun i g1 g2 W (hi : i ≤ 65535) hS => ctell_any (akeysU key) s i g1 g2 W hk hsl hi hS
  have Hlen := Lib.hid (cstream_length (s := s) hk n)
  have Hbl : Hid (∀ i, (abn (cblkU (akeysU key) s i)).length = 16) := Lib.hid (cblk_abn hk)
  have Hget : Hid (∀ i j x, (abn (cblkU (akeysU key) s i))[j]? = some x → 16 * i + j < n → (abn (cstreamU (akeysU key) s n))[16 * i + j]? = some x) := Lib.hid (cstream_abn hk n)
  clear hr hs hB hk hsl
  revert c1 c2 Hlen Hbl Hget
  unfold ctellV
  generalize cstreamU (akeysU key) s n = L
  generalize hblk : (fun i => abn (cblkU (akeysU key) s i)) = blk
  have hblk' : ∀ i, abn (cblkU (akeysU key) s i) = blk i := fun i => by rw [← hblk]
  simp only [hblk']
  clear hblk hblk'
  generalize abn (akeysU key) = K
  generalize abn s = S
  intro c1 c2 Hlen Hbl Hget
  go_enter Try.func9, Try.ntmps9
  go_wp2_with fail
  refine c1.mono ?_
  rintro e w1 ⟨g1, g2, rfl, S1, hg1, hg2⟩
  have hh1 := (S1.1 (g1, 47, K) (by simp)).lt
  have hh2 := (S1.1 (g2, 23, S) (by simp)).lt
  have HS1 := Lib.hid S1
  clear S1 c1
  go_wp2_with (refine wp_make_arr rfl _ _ 22 rfl 5 Try.underlying22 Try.info_u8 n rfl rfl (by omega) ?_)
  intro w2 g3 G3 H3 Hb3 Hs3
  have Hg : Hid (w.heap.size ≤ g3 ∧ g1 ≠ g3 ∧ g2 ≠ g3) := Lib.hid (by
    have e := G3.out
    have h3 := HS1.out.2.size
    omega)
  have F2 : Hid (SK w [(g3, 5, (abn L).take (16 * 0) ++ (Zs n).drop (16 * 0)), (g1, 47, K), (g2, 23, S)] w2) := Lib.hid (sk_cons (sk_below HS1.out Hb3.out) H3.out)
  have Hne : Hid (∀ x ∈ [(g1, 47, K), (g2, 23, S)], x.1 ≠ g3) := Lib.hid (by
    have h5 := Hg.out
    intro x hx
    simp only [List.mem_cons, List.not_mem_nil, or_false] at hx
    rcases hx with rfl | rfl
    · exact h5.2.1
    · exact h5.2.2)
  have HL : Hid ((abn L).length = n) := Lib.hid (by rw [abn_length, Hlen.out])
  clear H3 Hb3 Hs3 G3 HS1 hh1 hh2 hg1 hg2
  go_wp2
  go_loopw [11] (fun v wr => ∃ (i p : Nat), v = .int .i64 (p : Int) ∧ p < n + 16 ∧ Hid (16 * i = p) ∧ Hid (SK w [(g3, 5, (abn L).take p ++ (Zs n).drop p), (g1, 47, K), (g2, 23, S)] wr)) (fun v _ => n - (intOf v).toNat)
  case atStart => exact ⟨0, 0, rfl, by omega, Lib.hid rfl, F2⟩
  case round =>
    clear F2
    obtain ⟨i, p, rfl, hp, Hp, F2⟩ := hrel
    by_cases hlt : p < n
    · have e1 : (p : Int) / 16 = (i : Int) := by have := Hp.out; omega
      have e1t : (p : Int).tdiv 16 = (i : Int) := by rw [Int.tdiv_eq_ediv_of_nonneg (by omega)]; exact e1
      have c3 := fun W => c2 i g1 g2 W (by have := Hp.out; omega)
      go_wp2_with fail
      refine (c3 _ ⟨fun x hx => F2.out.1 x (List.mem_cons_of_mem _ hx), Below.refl _ _⟩).mono ?_
      rintro e w3 ⟨rfl, hb⟩
      have F3 := Lib.hid (sk_below F2.out hb)
      clear hb F2 c3
      go_wp2_with (refine wp_alloc_arr (k := .u8) rfl 23 rfl 16 zero16 ?_)
      intro w4 g4 G4 H4 Hb4 Hs4
      go_wp2_with (refine wp_put_arr arr16 rfl (.tmp 12) (.tmp 38) rfl rfl (l' := blk i) rfl H4.out (Zs_length _) (Hbl.out i) ?_)
      intro w5 H5 Hm5 Hs5
      have Hg4 : Hid (g3 ≠ g4 ∧ g1 ≠ g4 ∧ g2 ≠ g4 ∧ w.heap.size ≤ g4) := Lib.hid (by
        have e := G4.out
        have h0 := (sk_hd F3.out).lt
        have h1 := (F3.out.1 (g1, 47, K) (by simp)).lt
        have h2 := (F3.out.1 (g2, 23, S) (by simp)).lt
        have h3 := F3.out.2.size
        dsimp only at h1 h2
        omega)
      have F5 : Hid (SK w [(g3, 5, (abn L).take p ++ (Zs n).drop p), (g1, 47, K), (g2, 23, S)] w5) := Lib.hid (sk_keep (sk_below F3.out Hb4.out) Hm5.out (by
        have h5 := Hg4.out
        intro x hx
        simp only [List.mem_cons, List.not_mem_nil, or_false] at hx
        rcases hx with rfl | rfl | rfl
        · exact h5.1
        · exact h5.2.1
        · exact h5.2.2.1) Hg4.out.2.2.2)
      obtain ⟨q, hq⟩ : ∃ q, min 16 (n - p) = q := ⟨_, rfl⟩
      have Hns : Hid (((blk i).take q).length = q) := Lib.hid (by rw [List.length_take, Hbl.out i]; omega)
      have Hmin : Hid (q = Nat.min 16 (n - p)) := Lib.hid hq.symm
      have Hsrc : Hid (∀ j x : Nat, ((blk i).take q)[j]? = some x → w5.drew.cell? ((⟨g4, 0, none⟩ : Addr).add j) = some (.int .u8 (x : Int))) := Lib.hid (fun j x hx => by
        rw [add_flat, Nat.zero_add]
        refine H5.out.at_ ?_
        rw [List.getElem?_take] at hx
        split at hx
        · exact hx
        · cases hx)
      have Hfit : Hid (p + q ≤ ((abn L).take p ++ (Zs n).drop p).length) := Lib.hid (by rw [fill_length (by rw [HL.out, Zs_length]), Zs_length]; omega)
      have Hspl : Hid (splice ((abn L).take p ++ (Zs n).drop p) p ((blk i).take q) = (abn L).take (p + 16) ++ (Zs n).drop (p + 16)) := Lib.hid (by
        rw [afill_splice (L := abn L) (M := Zs n) (ns := (blk i).take q) (off := p) (by rw [HL.out, Zs_length]) (by rw [Hns.out, Zs_length]; omega) (fun j x hx => by
          rw [List.getElem?_take] at hx
          split at hx
          · next hj =>
            have h := Hget.out i j x hx (by have := Hp.out; omega)
            rwa [Hp.out] at h
          · cases hx), Hns.out]
        rcases Nat.lt_or_ge (n - p) 16 with h16 | h16
        · rw [List.take_of_length_le (by rw [HL.out]; omega), List.take_of_length_le (by rw [HL.out]; omega), List.drop_of_length_le (by rw [Zs_length]; omega), List.drop_of_length_le (by rw [Zs_length]; omega)]
        · rw [show q = 16 by omega])
      have sl1 := fun W => run_slice_from (P := Try.prog) (b := g3) Try.underlying22 info_u8n 0 n n p (p : Int) rfl hlt (Nat.le_refl _) W
      rw [Nat.zero_add] at sl1
      have sl2 := fun W => run_slice_arr_all (P := Try.prog) (b := g4) arr16 info_u8n 0 W
      clear F3 H4 Hb4 Hs4 Hm5 Hs5 G4 H5 hq e1 e1t
      go_wp2_with fail
      refine wp_region_takes (by kernel_rfl) ?_
      refine wpAnyT_take (i := 0) (v := .slice (some ⟨g3, 0, none⟩) n n) (some 39) rfl rfl (by kernel_rfl) (fun _ _ _ h => h) (.inl ⟨by rfl, fun W => rfl⟩) ?_
      simp only [Act.put, List.setIfInBounds_toArray, List.set_cons_zero, List.set_cons_succ]
      refine wpAnyT_take (i := 1) (v := .int .i64 (p : Int)) (some 40) rfl rfl (by kernel_rfl) (fun _ _ _ h => h) (.inl ⟨by rfl, fun W => rfl⟩) ?_
      simp only [Act.put, List.setIfInBounds_toArray, List.set_cons_zero, List.set_cons_succ]
      refine wpAnyT_take (i := 2) (v := .slice (some ⟨g3, p, none⟩) (n - p) (n - p)) (some 41) rfl rfl (by kernel_rfl) (fun _ _ _ h => h) (.inl ⟨by rfl, fun W => by go_simp⟩) ?_
      simp only [Act.put, List.setIfInBounds_toArray, List.set_cons_zero, List.set_cons_succ]
      refine wpAnyT_take (i := 3) (v := .slice (some ⟨g4, 0, none⟩) 16 16) (some 42) rfl rfl (by kernel_rfl) (fun _ _ _ h => h) (.inl ⟨by rfl, fun W => by go_simp⟩) ?_
      simp only [Act.put, List.setIfInBounds_toArray, List.set_cons_zero, List.set_cons_succ]
      refine wpAnyT_one (i := 4) (by kernel_rfl) rfl (fun K5 hK5 => ?_)
      refine stepT_copy (k := .u8) (g := g3) (some 43) rfl rfl (.tmp 41) (.tmp 42) 22 22 rfl 5 Try.underlying22 info_u8n p (n - p) (n - p) ⟨g4, 0, none⟩ 16 16 rfl rfl _ ((blk i).take q) q Hns.out (sk_hd F5.out).drew Hmin.out Hsrc.out Hfit.out (fun W6 A6 M6 _ => hK5.out _ _ ?_)
      have F8 := Lib.hid (sk_put (sk_drewN F5.out 1) M6.out A6.out Hne.out Hg.out.1)
      rw [Hspl.out] at F8
      clear A6 M6 F5 hK5 K5
      simp only [Act.put, List.setIfInBounds_toArray, List.set_cons_zero, List.set_cons_succ]
      refine wpAnyT_done (by kernel_rfl) ?_
      go_wp2
      go_roundw
      case rel => exact ⟨i + 1, p + 16, by go_num, by omega, Lib.hid (by have := Hp.out; omega), F8⟩
      case measure => simp [intOf]; omega
    · have A3 : Hid (Arr wr g3 5 .u8 (abn L)) := Lib.hid (by
        have h := sk_hd F2.out
        rwa [List.take_of_length_le (by rw [HL.out]; omega), List.drop_of_length_le (by rw [Zs_length]; omega), List.append_nil] at h)
      go_wp2
      go_ret2
      exact ⟨some ⟨g3, 0, none⟩, n, by rw [Hlen.out]; rfl, A3.out.rd, .inr ⟨_, rfl, by rw [Hlen.out]; exact Nat.le_refl _, by unfold maxLen; omega⟩, F2.out.2⟩

end Go.Proofs.Ytfkfkmdnffpcmaa
