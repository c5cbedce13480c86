import Derived.Test.YtfkfkmdnffpcmaaCtrStream
import Derived.Test.YtfkfkmdnffpcmaaCtrNext
import Derived.Test.YtfkfkmdnffpcmaaHeldTwo
namespace Go.Proofs.Ytfkfkmdnffpcmaa
open Go.RowKit

/-- 0 .. 0, 255. -/
def caliveC : List UInt8 := List.replicate 15 0 ++ [255]
theorem calive_c : abn caliveC = (Zs 16).set 15 255 := by decide +kernel
theorem calive_d : abn (cplusU caliveC 1) = List.replicate 14 0 ++ [1, 0] := by rw [show caliveC = List.replicate 15 0 ++ [255] from rfl, cplus_alive]; decide +kernel

set_option maxHeartbeats 1600000 in
theorem alive12_any (w : World) : Calls Try.prog 6 #[] w (Ans w (.bool true)) := by
  have c1 : ∀ W, Calls Try.prog 11 #[.agg (Nums .u8 ((Zs 16).set 15 255))] W (AnsA W .u8 (List.replicate 14 0 ++ [1, 0])) := fun W => by
    have h := cnext_any caliveC W rfl
    rw [calive_c, calive_d] at h
    exact h
  have Hst : Hid (∀ W ga gb, Arr W ga 5 .u8 (Zs 32) → Arr W gb 5 .u8 (Zs 16) → Calls Try.prog 9 #[.slice (some ⟨ga, 0, none⟩) 32 32, .slice (some ⟨gb, 0, none⟩) 16 16, .int .i64 3] W (fun e w' => ∃ v, e = .returned v ∧ ∃ A c, v = .tuple #[.slice A 3 c, .int .i64 0] ∧ Below W.heap.size W w')) := Lib.hid (fun W ga gb h1 h2 => by
    have e1 : abn (List.replicate 32 0) = Zs 32 := by simp [abn, Zs]
    have e2 : abn (List.replicate 16 0) = Zs 16 := by simp [abn, Zs]
    rw [← e1] at h1
    rw [← e2] at h2
    have r1 := h1.rd
    have r2 := h2.rd
    rw [List.length_replicate] at r1 r2
    refine (cstream_any (List.replicate 32 0) (List.replicate 16 0) 32 16 W.heap.size 3 _ _ W r1 (Nat.le_refl _) r2 (Nat.le_refl _) (by omega)).mono ?_
    have hl := cstream_length (s := List.replicate 16 0) (akeys_length (f := gboxU) (key := List.replicate 32 0) (List.length_replicate ..)) 3
    have hl' : (cstreamU (akeysU (List.replicate 32 0)) (List.replicate 16 0) 3).length = 3 := hl
    clear hl
    revert hl'
    generalize cstreamU (akeysU (List.replicate 32 0)) (List.replicate 16 0) 3 = L
    intro hl'
    rintro e w' ⟨A, c, rfl, _, _, hb⟩
    rw [hl']
    exact ⟨_, rfl, A, c, rfl, hb⟩)
  have Hz : Hid (((Zs 16).set 15 255).length = 16) := Lib.hid (by rw [List.length_set, Zs_length])
  have Hd : Hid ((List.replicate 14 0 ++ [1, 0] : List Nat).length = 16 ∧ (List.replicate 14 0 ++ [1, 0] : List Nat)[14]? = some 1 ∧ (List.replicate 14 0 ++ [1, 0] : List Nat)[15]? = some 0) := Lib.hid ⟨rfl, rfl, rfl⟩
  revert c1 Hd
  generalize (List.replicate 14 0 ++ [1, 0] : List Nat) = E
  intro c1 Hd
  go_enter Try.func6, Try.ntmps6
  go_wp2_with (refine wp_alloc_arr (k := .u8) rfl 23 rfl 16 zero16 ?_)
  intro w1 g1 G1 H1 Hb1 Hs1
  have hcl := H1.out.at_ (Zs_get (n := 16) (j := 15) (by omega))
  have hfz := H1.out.frozen 15
  have H2 : Hid (Arr (w1.setCell ⟨g1, 15, none⟩ (.int .u8 255)) g1 23 .u8 ((Zs 16).set 15 255)) := Lib.hid (H1.out.put rfl)
  have B2 : Hid (Below w.heap.size w (w1.setCell ⟨g1, 15, none⟩ (.int .u8 255))) := Lib.hid (Hb1.out.setCell (by have := G1.out; show w.heap.size ≤ g1; omega) _)
  clear H1 Hb1 Hs1
  go_wp2_with (refine wp_load_arr arr16 rfl (.tmp 1) rfl rfl H2.out Hz.out ?_)
  revert H2 B2
  generalize w1.setCell ⟨g1, 15, none⟩ (.int .u8 255) = w2
  intro H2 B2
  refine (c1 _).mono ?_
  rintro e w3 ⟨rfl, hb3⟩
  have B3 := Lib.hid (abon B2.out hb3)
  clear hb3 H2 B2 hcl hfz
  go_wp2_with (refine wp_alloc_arr (k := .u8) rfl 23 rfl 16 zero16 ?_)
  intro w4 g2 G2 H4 Hb4 Hs4
  go_wp2_with (refine wp_put_arr arr16 rfl (.tmp 2) (.tmp 7) rfl rfl (l' := E) rfl H4.out (Zs_length _) Hd.out.1 ?_)
  intro w5 H5 Hm5 Hs5
  have B5 : Hid (Below w.heap.size w w5) := Lib.hid (by
    have h := abon B3.out Hb4.out
    exact h.trans (Hm5.out.below (fun j hj => by rw [hj, G2.out]; exact B3.out.size) h.size))
  clear H4 Hb4 Hs4 Hm5 Hs5 B3
  go_wp2_with fail
  refine wp_region_to (fun (b : Nat × Nat × Option Addr × Nat) a => (((((((a.put (some 9) (.slice (some ⟨b.1, 0, none⟩) 32 32)).put (some 10) (.slice (some ⟨b.2.1, 0, none⟩) 16 16)).put (some 11) (.tuple #[.slice b.2.2.1 3 b.2.2.2, .int .i64 0])).put (some 8) (.tuple #[.slice b.2.2.1 3 b.2.2.2, .int .i64 0])).put (some 12) (.slice b.2.2.1 3 b.2.2.2)).put (some 13) (.int .i64 0)).put (some 3) (.slice b.2.2.1 3 b.2.2.2)).put (some 4) (.int .i64 0)) (fun _ w' => Below w5.heap.size w5 w') ?_ ?_
  · refine wp_region_heldD (S := fun w' => Below w5.heap.size w5 w') (by kernel_rfl) ?_
    refine wpAnyH_twoD (i := 0) (j := 1) (by kernel_rfl) rfl rfl (fun K1 hK1 => ?_) (fun K1 hK1 => ?_)
    · refine stepE_make (some 9) rfl rfl _ _ 22 rfl 5 Try.underlying22 Try.info_u8 32 rfl rfl (by omega) (fun WQ1 ga G HA hW => hK1.out _ _ (abon ((bdrewN (Below.refl _ _) 1 : Below w5.heap.size w5 (w5.drewN 1))) hW.out) ?_)
      have Q1 := Lib.hid (abon ((bdrewN (Below.refl _ _) 1 : Below w5.heap.size w5 (w5.drewN 1))) hW.out)
      have QA := HA
      clear hW hK1 K1 G HA
      simp only [Act.put, List.setIfInBounds_toArray, List.set_cons_zero, List.set_cons_succ]
      refine wpAnyH_oneD (i := 1) (by kernel_rfl) rfl (fun K1 hK1 => ?_)
      refine stepE_make (some 10) rfl rfl _ _ 22 rfl 5 Try.underlying22 Try.info_u8 16 rfl rfl (by omega) (fun WQ2 gb G HA hW => hK1.out _ _ (abon (Q1.out) hW.out) ?_)
      have Q2 := Lib.hid (abon (Q1.out) hW.out)
      have Q2B := HA
      have Q2A := Lib.hid (QA.out.below hW.out QA.out.lt)
      clear hW hK1 K1 G HA QA
      simp only [Act.put, List.setIfInBounds_toArray, List.set_cons_zero, List.set_cons_succ]
      refine wpAnyH_oneD (i := 2) (by kernel_rfl) rfl (fun K1 hK1 => ?_)
      refine stepE_callV (R := fun v w' => ∃ A c, v = .tuple #[.slice A 3 c, .int .i64 0] ∧ Below _ _ w') (some 11) rfl (by rfl) 9 Try.func9 (by kernel_rfl) rfl _ _ rfl [.slice (some ⟨ga, 0, none⟩) 32 32, .slice (some ⟨gb, 0, none⟩) 16 16, .int .i64 3] rfl (Hst.out _ ga gb Q2A.out Q2B.out) (fun v W3 hW => ?_)
      obtain ⟨A, c, rfl, hW⟩ := hW
      refine hK1.out _ _ (abon Q2.out hW) ?_
      have Q3 := Lib.hid (abon Q2.out hW)
      clear hW hK1 K1
      simp only [Act.put, List.setIfInBounds_toArray, List.set_cons_zero, List.set_cons_succ]
      refine wpAnyH_takeD (i := 3) (v := .tuple #[.slice A 3 c, .int .i64 0]) (some 8) rfl rfl (by kernel_rfl) (fun _ _ _ h => by cases h.1) (.inl ⟨by rfl, fun W _ => rfl⟩) (Q3.out) ?_
      simp only [Act.put, List.setIfInBounds_toArray, List.set_cons_zero, List.set_cons_succ]
      refine wpAnyH_takeD (i := 4) (v := .slice A 3 c) (some 12) rfl rfl (by kernel_rfl) (fun _ _ _ h => by cases h.1) (.inl ⟨by rfl, fun W _ => rfl⟩) (Q3.out) ?_
      simp only [Act.put, List.setIfInBounds_toArray, List.set_cons_zero, List.set_cons_succ]
      refine wpAnyH_takeD (i := 5) (v := .int .i64 0) (some 13) rfl rfl (by kernel_rfl) (fun _ _ _ h => by cases h.1) (.inl ⟨by rfl, fun W _ => rfl⟩) (Q3.out) ?_
      simp only [Act.put, List.setIfInBounds_toArray, List.set_cons_zero, List.set_cons_succ]
      refine wpAnyH_oneD (i := 6) (by kernel_rfl) rfl (fun K1 hK1 => ?_)
      go_simp
      refine hK1.out _ _ Q3.out ?_
      clear hK1 K1
      refine wpAnyH_oneD (i := 7) (by kernel_rfl) rfl (fun K1 hK1 => ?_)
      go_simp
      refine hK1.out _ _ Q3.out ?_
      exact wpAnyH_doneD (by kernel_rfl) ⟨rfl, (ga, gb, A, c), rfl, Q3.out⟩
    · refine stepE_make (some 10) rfl rfl _ _ 22 rfl 5 Try.underlying22 Try.info_u8 16 rfl rfl (by omega) (fun WQ1 gb G HA hW => hK1.out _ _ (abon ((bdrewN (Below.refl _ _) 1 : Below w5.heap.size w5 (w5.drewN 1))) hW.out) ?_)
      have Q1 := Lib.hid (abon ((bdrewN (Below.refl _ _) 1 : Below w5.heap.size w5 (w5.drewN 1))) hW.out)
      have QA := HA
      clear hW hK1 K1 G HA
      simp only [Act.put, List.setIfInBounds_toArray, List.set_cons_zero, List.set_cons_succ]
      refine wpAnyH_oneD (i := 0) (by kernel_rfl) rfl (fun K1 hK1 => ?_)
      refine stepE_make (some 9) rfl rfl _ _ 22 rfl 5 Try.underlying22 Try.info_u8 32 rfl rfl (by omega) (fun WQ2 ga G HA hW => hK1.out _ _ (abon (Q1.out) hW.out) ?_)
      have Q2 := Lib.hid (abon (Q1.out) hW.out)
      have Q2A := HA
      have Q2B := Lib.hid (QA.out.below hW.out QA.out.lt)
      clear hW hK1 K1 G HA QA
      simp only [Act.put, List.setIfInBounds_toArray, List.set_cons_zero, List.set_cons_succ]
      refine wpAnyH_oneD (i := 2) (by kernel_rfl) rfl (fun K1 hK1 => ?_)
      refine stepE_callV (R := fun v w' => ∃ A c, v = .tuple #[.slice A 3 c, .int .i64 0] ∧ Below _ _ w') (some 11) rfl (by rfl) 9 Try.func9 (by kernel_rfl) rfl _ _ rfl [.slice (some ⟨ga, 0, none⟩) 32 32, .slice (some ⟨gb, 0, none⟩) 16 16, .int .i64 3] rfl (Hst.out _ ga gb Q2A.out Q2B.out) (fun v W3 hW => ?_)
      obtain ⟨A, c, rfl, hW⟩ := hW
      refine hK1.out _ _ (abon Q2.out hW) ?_
      have Q3 := Lib.hid (abon Q2.out hW)
      clear hW hK1 K1
      simp only [Act.put, List.setIfInBounds_toArray, List.set_cons_zero, List.set_cons_succ]
      refine wpAnyH_takeD (i := 3) (v := .tuple #[.slice A 3 c, .int .i64 0]) (some 8) rfl rfl (by kernel_rfl) (fun _ _ _ h => by cases h.1) (.inl ⟨by rfl, fun W _ => rfl⟩) (Q3.out) ?_
      simp only [Act.put, List.setIfInBounds_toArray, List.set_cons_zero, List.set_cons_succ]
      refine wpAnyH_takeD (i := 4) (v := .slice A 3 c) (some 12) rfl rfl (by kernel_rfl) (fun _ _ _ h => by cases h.1) (.inl ⟨by rfl, fun W _ => rfl⟩) (Q3.out) ?_
      simp only [Act.put, List.setIfInBounds_toArray, List.set_cons_zero, List.set_cons_succ]
      refine wpAnyH_takeD (i := 5) (v := .int .i64 0) (some 13) rfl rfl (by kernel_rfl) (fun _ _ _ h => by cases h.1) (.inl ⟨by rfl, fun W _ => rfl⟩) (Q3.out) ?_
      simp only [Act.put, List.setIfInBounds_toArray, List.set_cons_zero, List.set_cons_succ]
      refine wpAnyH_oneD (i := 6) (by kernel_rfl) rfl (fun K1 hK1 => ?_)
      go_simp
      refine hK1.out _ _ Q3.out ?_
      clear hK1 K1
      refine wpAnyH_oneD (i := 7) (by kernel_rfl) rfl (fun K1 hK1 => ?_)
      go_simp
      refine hK1.out _ _ Q3.out ?_
      exact wpAnyH_doneD (by kernel_rfl) ⟨rfl, (ga, gb, A, c), rfl, Q3.out⟩
  · rintro ⟨ga, gb, A, c⟩ w6 hb6
    have h1 := H5.out.below hb6 H5.out.lt
    have c14 := h1.at_ Hd.out.2.1
    have c15 := h1.at_ Hd.out.2.2
    have B6 : Hid (Below w.heap.size w w6) := Lib.hid (abon B5.out hb6)
    clear hb6 h1
    simp only [Act.put, List.setIfInBounds_toArray, List.set_cons_zero, List.set_cons_succ]
    go_wp2
    go_ret
    exact ⟨rfl, B6.out⟩

end Go.Proofs.Ytfkfkmdnffpcmaa
