import Derived.Test.YtfkfkmdnffpcmaaAesKey
import Derived.Test.YtfkfkmdnffpcmaaHeldEnd
import Derived.Test.YtfkfkmdnffpcmaaGfBox
import Derived.Test.YtfkfkmdnffpcmaaGfCol
import Derived.Test.YtfkfkmdnffpcmaaGfPower
namespace Go.Proofs.Ytfkfkmdnffpcmaa
open Go.RowKit

set_option maxHeartbeats 1600000 in
theorem achanged_any (a b c d : UInt8) (i : Nat) (w : World) (hi : i < 1000) :
    Calls Try.prog 33 #[.agg (Nums .u8 (four a b c d)), .int .i64 (i : Int)] w (AnsA w .u8 (abn (achgB gboxU i [a, b, c, d]))) := by
  have HR : Hid (abn (achgB gboxU i [a, b, c, d]) = if i % 8 = 0 then four (gboxU b ^^^ gpowerU 2 ((i / 8 : Nat) - 1 : Int)) (gboxU c) (gboxU d) (gboxU a) else if i % 4 = 0 then four (gboxU a) (gboxU b) (gboxU c) (gboxU d) else four a b c d) := Lib.hid (by
    simp only [achgB]
    split
    · rfl
    · split <;> rfl)
  have ca := fun w => gbox_any a w
  have cb := fun w => gbox_any b w
  have cc := fun w => gbox_any c w
  have cd := fun w => gbox_any d w
  have z0 : (0 : Int) ≤ (i : Int) := by omega
  obtain ⟨m, hm⟩ : ∃ m, i % 8 = m := ⟨_, rfl⟩
  have em : (i : Int) % 8 = (m : Int) := by omega
  have emt : (i : Int).tmod 8 = (m : Int) := by rw [Int.tmod_eq_emod_of_nonneg z0]; exact em
  have hm8 : m < 8 := by omega
  obtain ⟨q, hq⟩ : ∃ q, i / 8 = q := ⟨_, rfl⟩
  have eq : (i : Int) / 8 = (q : Int) := by omega
  have eqt : (i : Int).tdiv 8 = (q : Int) := by rw [Int.tdiv_eq_ediv_of_nonneg z0]; exact eq
  have hq8 : q < 1000 := by omega
  have h4 : i % 4 = m % 4 := by omega
  have cpow : ∀ w, Calls Try.prog 42 #[.int .u8 2, .int .i64 ((q : Int) - 1)] w (fun e w' => e = .returned (.int .u8 ((gpowerU 2 ((q : Int) - 1)).toNat : Int)) ∧ w' = w) := fun w => gpower_any 2 ((q : Int) - 1) w (by omega)
  have hx := gxor_u8 (gboxU b) (gpowerU 2 ((q : Int) - 1))
  rw [hm, hq, h4] at HR
  revert HR
  generalize abn (achgB gboxU i [a, b, c, d]) = L
  intro HR
  have hwq : IntKind.i64.wrap (q : Int) = (q : Int) := IntWalk.i64_in _ ⟨by omega, by omega⟩
  have hwr : IntKind.i64.wrap ((q : Int) - 1) = (q : Int) - 1 := IntWalk.i64_in _ ⟨by omega, by omega⟩
  clear hm hq h4
  generalize gboxU b ^^^ gpowerU 2 ((q : Int) - 1) = px at *
  generalize gpowerU 2 ((q : Int) - 1) = pw at *
  generalize gboxU a = pa at *
  generalize gboxU b = pb at *
  generalize gboxU c = pc at *
  generalize gboxU d = pd at *
  go_enter Try.func33, Try.ntmps33
  go_wp2_with (refine wp_box_arr (k := .u8) rfl 51 (.tmp 0) rfl (four a b c d) rfl ?_)
  intro w1 g1 G1 H1 Hb1 Hs1
  go_wp2_with (refine wp_alloc_arr (k := .u8) rfl 51 rfl 4 zero4 ?_)
  intro w2 g2 G2 H2 Hb2 Hs2
  have Hg : Hid (w.heap.size ≤ g1 ∧ w.heap.size ≤ g2 ∧ g1 ≠ g2) := Lib.hid (by have := G1.out; have := G2.out; have := Hs1.out; omega)
  have F2 : Hid (SK w [(g1, 51, four a b c d), (g2, 51, Zs 4)] w2) := Lib.hid ⟨by
    intro x hx
    simp only [List.mem_cons, List.not_mem_nil, or_false] at hx
    rcases hx with rfl | rfl
    · exact H1.out.below Hb2.out H1.out.lt
    · exact H2.out, abon Hb1.out Hb2.out⟩
  have Hne : Hid (∀ x ∈ [(g2, 51, Zs 4)], x.1 ≠ g1) := Lib.hid (by
    have h5 := Hg.out
    intro x hx
    simp only [List.mem_cons, List.not_mem_nil, or_false] at hx
    rcases hx with rfl
    exact h5.2.2.symm)
  clear H1 H2 Hb1 Hb2 G1 G2 Hs1 Hs2
  by_cases h0 : m = 0
  · subst h0
    have HR1 : Hid (L = four px pc pd pa) := Lib.hid HR.out
    clear HR
    go_wp2_with fail
    refine wp_region_ends (fun w' => SK w [(g1, 51, four a b c d), (g2, 51, Zs 4)] w') 13 (by kernel_rfl) ?_
    refine wpAnyE_take (i := 0) (v := .pointer (some ⟨g1, 1, none⟩)) (some 9) rfl rfl (by kernel_rfl) (fun _ _ _ h => h) (.inl ⟨by rfl, fun W _ => by go_simp⟩) (sk_drewN F2.out 1) ?_
    simp only [Act.put, List.setIfInBounds_toArray, List.set_cons_zero, List.set_cons_succ]
    refine wpAnyE_take (i := 1) (v := .int .u8 (b.toNat : Int)) (some 10) rfl rfl (by kernel_rfl) (fun _ _ _ h => h) (.inl ⟨by rfl, fun W h => by have hc := (sk_hd h).at_ (j := 1) (x := b.toNat) rfl; go_simp⟩) (sk_drewN F2.out 1) ?_
    simp only [Act.put, List.setIfInBounds_toArray, List.set_cons_zero, List.set_cons_succ]
    refine wpAnyE_take (i := 3) (v := .pointer (some ⟨g1, 2, none⟩)) (some 12) rfl rfl (by kernel_rfl) (fun _ _ _ h => h) (.inl ⟨by rfl, fun W _ => by go_simp⟩) (sk_drewN F2.out 1) ?_
    simp only [Act.put, List.setIfInBounds_toArray, List.set_cons_zero, List.set_cons_succ]
    refine wpAnyE_take (i := 4) (v := .int .u8 (c.toNat : Int)) (some 13) rfl rfl (by kernel_rfl) (fun _ _ _ h => h) (.inl ⟨by rfl, fun W h => by have hc := (sk_hd h).at_ (j := 2) (x := c.toNat) rfl; go_simp⟩) (sk_drewN F2.out 1) ?_
    simp only [Act.put, List.setIfInBounds_toArray, List.set_cons_zero, List.set_cons_succ]
    refine wpAnyE_take (i := 6) (v := .pointer (some ⟨g1, 3, none⟩)) (some 15) rfl rfl (by kernel_rfl) (fun _ _ _ h => h) (.inl ⟨by rfl, fun W _ => by go_simp⟩) (sk_drewN F2.out 1) ?_
    simp only [Act.put, List.setIfInBounds_toArray, List.set_cons_zero, List.set_cons_succ]
    refine wpAnyE_take (i := 7) (v := .int .u8 (d.toNat : Int)) (some 16) rfl rfl (by kernel_rfl) (fun _ _ _ h => h) (.inl ⟨by rfl, fun W h => by have hc := (sk_hd h).at_ (j := 3) (x := d.toNat) rfl; go_simp⟩) (sk_drewN F2.out 1) ?_
    simp only [Act.put, List.setIfInBounds_toArray, List.set_cons_zero, List.set_cons_succ]
    refine wpAnyE_take (i := 9) (v := .pointer (some ⟨g1, 0, none⟩)) (some 18) rfl rfl (by kernel_rfl) (fun _ _ _ h => h) (.inl ⟨by rfl, fun W _ => by go_simp⟩) (sk_drewN F2.out 1) ?_
    simp only [Act.put, List.setIfInBounds_toArray, List.set_cons_zero, List.set_cons_succ]
    refine wpAnyE_take (i := 10) (v := .int .u8 (a.toNat : Int)) (some 19) rfl rfl (by kernel_rfl) (fun _ _ _ h => h) (.inl ⟨by rfl, fun W h => by have hc := (sk_hd h).at_ (j := 0) (x := a.toNat) rfl; go_simp⟩) (sk_drewN F2.out 1) ?_
    simp only [Act.put, List.setIfInBounds_toArray, List.set_cons_zero, List.set_cons_succ]
    refine wpAnyE_one (i := 2) (by kernel_rfl) rfl (fun K0 hK0 => ?_)
    refine stepE_call (v := .int .u8 (pb.toNat : Int)) (R := fun w' => Below _ _ w') (some 11) rfl rfl 41 Try.func41 (by kernel_rfl) rfl _ _ rfl [.int .u8 (b.toNat : Int)] rfl (cb _) (fun W0 hW => hK0.out _ _ (.inr (sk_below (sk_drewN F2.out 1) hW)) ?_)
    have S0 := Lib.hid (sk_below (sk_drewN F2.out 1) hW)
    clear hW hK0 K0
    simp only [Act.put, List.setIfInBounds_toArray, List.set_cons_zero, List.set_cons_succ]
    refine wpAnyE_one (i := 5) (by kernel_rfl) rfl (fun K3 hK3 => ?_)
    refine stepE_call (v := .int .u8 (pc.toNat : Int)) (R := fun w' => Below _ _ w') (some 14) rfl rfl 41 Try.func41 (by kernel_rfl) rfl _ _ rfl [.int .u8 (c.toNat : Int)] rfl (cc _) (fun W3 hW => hK3.out _ _ (.inr (sk_below S0.out hW)) ?_)
    have S3 := Lib.hid (sk_below S0.out hW)
    clear hW hK3 K3
    simp only [Act.put, List.setIfInBounds_toArray, List.set_cons_zero, List.set_cons_succ]
    refine wpAnyE_one (i := 8) (by kernel_rfl) rfl (fun K6 hK6 => ?_)
    refine stepE_call (v := .int .u8 (pd.toNat : Int)) (R := fun w' => Below _ _ w') (some 17) rfl rfl 41 Try.func41 (by kernel_rfl) rfl _ _ rfl [.int .u8 (d.toNat : Int)] rfl (cd _) (fun W6 hW => hK6.out _ _ (.inr (sk_below S3.out hW)) ?_)
    have S6 := Lib.hid (sk_below S3.out hW)
    clear hW hK6 K6
    simp only [Act.put, List.setIfInBounds_toArray, List.set_cons_zero, List.set_cons_succ]
    refine wpAnyE_one (i := 11) (by kernel_rfl) rfl (fun K9 hK9 => ?_)
    refine stepE_call (v := .int .u8 (pa.toNat : Int)) (R := fun w' => Below _ _ w') (some 20) rfl rfl 41 Try.func41 (by kernel_rfl) rfl _ _ rfl [.int .u8 (a.toNat : Int)] rfl (ca _) (fun W9 hW => hK9.out _ _ (.inr (sk_below S6.out hW)) ?_)
    have S9 := Lib.hid (sk_below S6.out hW)
    clear hW hK9 K9
    simp only [Act.put, List.setIfInBounds_toArray, List.set_cons_zero, List.set_cons_succ]
    refine wpAnyE_take (i := 12) (v := .agg (Nums .u8 (four pb pc pd pa))) (some 21) rfl rfl (by kernel_rfl) (fun _ _ _ h => h) (.inl ⟨by rfl, fun W _ => by go_simp; rfl⟩) S9.out ?_
    simp only [Act.put, List.setIfInBounds_toArray, List.set_cons_zero, List.set_cons_succ]
    refine wpAnyE_one (i := 13) (by kernel_rfl) rfl (fun K5 hK5 => ?_)
    refine stepE_put arr4 none rfl rfl _ _ rfl rfl rfl (sk_hd S9.out) rfl (show (four pb pc pd pa).length = 4 from rfl) (fun W5 A5 M5 _ => hK5.out _ _ (.inl rfl) ?_)
    have F5 := Lib.hid (sk_put S9.out M5.out A5.out Hne.out Hg.out.1)
    clear hK5 K5 M5 A5 F2 S0 S3 S6 S9
    simp only [Act.put]
    refine wpAnyE_done (by kernel_rfl) ?_
    go_wp2_with fail
    refine wp_region_ends (fun w' => SK w [(g1, 51, four pb pc pd pa), (g2, 51, Zs 4)] w') 8 (by kernel_rfl) ?_
    refine wpAnyE_take (i := 0) (v := .pointer (some ⟨g1, 0, none⟩)) (some 22) rfl rfl (by kernel_rfl) (fun _ _ _ h => h) (.inl ⟨by rfl, fun W _ => by go_simp⟩) (sk_drewN F5.out 1) ?_
    simp only [Act.put, List.setIfInBounds_toArray, List.set_cons_zero, List.set_cons_succ]
    refine wpAnyE_take (i := 1) (v := .int .u8 (pb.toNat : Int)) (some 23) rfl rfl (by kernel_rfl) (fun _ _ _ h => h) (.inl ⟨by rfl, fun W h => by have hc := (sk_hd h).at_ (j := 0) (x := pb.toNat) rfl; go_simp⟩) (sk_drewN F5.out 1) ?_
    simp only [Act.put, List.setIfInBounds_toArray, List.set_cons_zero, List.set_cons_succ]
    refine wpAnyE_take (i := 2) (v := .int .i64 (i : Int)) (some 24) rfl rfl (by kernel_rfl) (fun _ _ _ h => h) (.inl ⟨by rfl, fun W _ => rfl⟩) (sk_drewN F5.out 1) ?_
    simp only [Act.put, List.setIfInBounds_toArray, List.set_cons_zero, List.set_cons_succ]
    refine wpAnyE_take (i := 3) (v := .int .i64 (q : Int)) (some 25) rfl rfl (by kernel_rfl) (fun _ _ _ h => h) (.inl ⟨by rfl, fun W _ => by go_simp⟩) (sk_drewN F5.out 1) ?_
    simp only [Act.put, List.setIfInBounds_toArray, List.set_cons_zero, List.set_cons_succ]
    refine wpAnyE_take (i := 4) (v := .int .i64 ((q : Int) - 1)) (some 26) rfl rfl (by kernel_rfl) (fun _ _ _ h => h) (.inl ⟨by rfl, fun W _ => by go_simp⟩) (sk_drewN F5.out 1) ?_
    simp only [Act.put, List.setIfInBounds_toArray, List.set_cons_zero, List.set_cons_succ]
    refine wpAnyE_one (i := 5) (by kernel_rfl) rfl (fun K5 hK5 => ?_)
    refine stepE_call (v := .int .u8 (pw.toNat : Int)) (R := fun w' => w' = _) (some 27) rfl rfl 42 Try.func42 (by kernel_rfl) rfl _ _ rfl [.int .u8 2, .int .i64 ((q : Int) - 1)] rfl (cpow _) (fun W5 hW => hK5.out _ _ (.inr (by rw [hW]; exact sk_drewN F5.out 1)) ?_)
    subst hW
    clear hK5 K5
    simp only [Act.put, List.setIfInBounds_toArray, List.set_cons_zero, List.set_cons_succ]
    refine wpAnyE_take (i := 6) (v := .int .u8 (px.toNat : Int)) (some 28) rfl rfl (by kernel_rfl) (fun _ _ _ h => h) (.inl ⟨by rfl, fun W _ => by go_simp⟩) (sk_drewN F5.out 1) ?_
    simp only [Act.put, List.setIfInBounds_toArray, List.set_cons_zero, List.set_cons_succ]
    refine wpAnyE_take (i := 7) (v := .pointer (some ⟨g1, 0, none⟩)) (some 29) rfl rfl (by kernel_rfl) (fun _ _ _ h => h) (.inl ⟨by rfl, fun W _ => by go_simp⟩) (sk_drewN F5.out 1) ?_
    simp only [Act.put, List.setIfInBounds_toArray, List.set_cons_zero, List.set_cons_succ]
    refine wpAnyE_one (i := 8) (by kernel_rfl) rfl (fun K6 hK6 => ?_)
    have hfz := (sk_hd F5.out).drew.frozen 0
    have hcl := (sk_hd F5.out).drew.at_ (j := 0) (x := pb.toNat) rfl
    go_simp
    refine hK6.out _ _ (.inl rfl) ?_
    have F6 : Hid (SK w [(g1, 51, four px pc pd pa), (g2, 51, Zs 4)] ((W5.setCell ⟨g1, 0, none⟩ (.int .u8 (px.toNat : Int))).drew)) := Lib.hid (sk_drewN (sk_set F5.out Hne.out Hg.out.1 0 px.toNat) 1)
    revert F6
    generalize (W5.setCell ⟨g1, 0, none⟩ (.int .u8 (px.toNat : Int))).drew = W6
    intro F6
    clear hK6 K6 F5 hfz hcl
    refine wpAnyE_done (by kernel_rfl) ?_
    go_wp2_with (first
      | refine wp_load_arr arr4 rfl (.tmp 2) rfl rfl (sk_hd F6.out) rfl ?_
      | refine wp_put_arr arr4 rfl (.tmp 4) (.tmp 45) rfl rfl (l' := four px pc pd pa) rfl (F6.out.1 (g2, 51, Zs 4) (by simp)) (Zs_length _) rfl ?_)
    intro w9 H9 Hm9 Hs9
    go_wp2
    rw [HR1.out]
    exact ret_arr arr4 rfl rfl H9.out rfl rfl ⟨rfl, F6.out.2.trans (Hm9.out.below (fun j hj => by rw [hj]; exact Hg.out.2.1) F6.out.2.size)⟩
  · by_cases h4 : m = 4
    · subst h4
      have HR1 : Hid (L = four pa pb pc pd) := Lib.hid HR.out
      clear HR
      go_wp2_with fail
      refine wp_region_ends (fun w' => SK w [(g1, 51, four a b c d), (g2, 51, Zs 4)] w') 13 (by kernel_rfl) ?_
      refine wpAnyE_take (i := 0) (v := .pointer (some ⟨g1, 0, none⟩)) (some 32) rfl rfl (by kernel_rfl) (fun _ _ _ h => h) (.inl ⟨by rfl, fun W _ => by go_simp⟩) (sk_drewN F2.out 1) ?_
      simp only [Act.put, List.setIfInBounds_toArray, List.set_cons_zero, List.set_cons_succ]
      refine wpAnyE_take (i := 1) (v := .int .u8 (a.toNat : Int)) (some 33) rfl rfl (by kernel_rfl) (fun _ _ _ h => h) (.inl ⟨by rfl, fun W h => by have hc := (sk_hd h).at_ (j := 0) (x := a.toNat) rfl; go_simp⟩) (sk_drewN F2.out 1) ?_
      simp only [Act.put, List.setIfInBounds_toArray, List.set_cons_zero, List.set_cons_succ]
      refine wpAnyE_take (i := 3) (v := .pointer (some ⟨g1, 1, none⟩)) (some 35) rfl rfl (by kernel_rfl) (fun _ _ _ h => h) (.inl ⟨by rfl, fun W _ => by go_simp⟩) (sk_drewN F2.out 1) ?_
      simp only [Act.put, List.setIfInBounds_toArray, List.set_cons_zero, List.set_cons_succ]
      refine wpAnyE_take (i := 4) (v := .int .u8 (b.toNat : Int)) (some 36) rfl rfl (by kernel_rfl) (fun _ _ _ h => h) (.inl ⟨by rfl, fun W h => by have hc := (sk_hd h).at_ (j := 1) (x := b.toNat) rfl; go_simp⟩) (sk_drewN F2.out 1) ?_
      simp only [Act.put, List.setIfInBounds_toArray, List.set_cons_zero, List.set_cons_succ]
      refine wpAnyE_take (i := 6) (v := .pointer (some ⟨g1, 2, none⟩)) (some 38) rfl rfl (by kernel_rfl) (fun _ _ _ h => h) (.inl ⟨by rfl, fun W _ => by go_simp⟩) (sk_drewN F2.out 1) ?_
      simp only [Act.put, List.setIfInBounds_toArray, List.set_cons_zero, List.set_cons_succ]
      refine wpAnyE_take (i := 7) (v := .int .u8 (c.toNat : Int)) (some 39) rfl rfl (by kernel_rfl) (fun _ _ _ h => h) (.inl ⟨by rfl, fun W h => by have hc := (sk_hd h).at_ (j := 2) (x := c.toNat) rfl; go_simp⟩) (sk_drewN F2.out 1) ?_
      simp only [Act.put, List.setIfInBounds_toArray, List.set_cons_zero, List.set_cons_succ]
      refine wpAnyE_take (i := 9) (v := .pointer (some ⟨g1, 3, none⟩)) (some 41) rfl rfl (by kernel_rfl) (fun _ _ _ h => h) (.inl ⟨by rfl, fun W _ => by go_simp⟩) (sk_drewN F2.out 1) ?_
      simp only [Act.put, List.setIfInBounds_toArray, List.set_cons_zero, List.set_cons_succ]
      refine wpAnyE_take (i := 10) (v := .int .u8 (d.toNat : Int)) (some 42) rfl rfl (by kernel_rfl) (fun _ _ _ h => h) (.inl ⟨by rfl, fun W h => by have hc := (sk_hd h).at_ (j := 3) (x := d.toNat) rfl; go_simp⟩) (sk_drewN F2.out 1) ?_
      simp only [Act.put, List.setIfInBounds_toArray, List.set_cons_zero, List.set_cons_succ]
      refine wpAnyE_one (i := 2) (by kernel_rfl) rfl (fun K0 hK0 => ?_)
      refine stepE_call (v := .int .u8 (pa.toNat : Int)) (R := fun w' => Below _ _ w') (some 34) rfl rfl 41 Try.func41 (by kernel_rfl) rfl _ _ rfl [.int .u8 (a.toNat : Int)] rfl (ca _) (fun W0 hW => hK0.out _ _ (.inr (sk_below (sk_drewN F2.out 1) hW)) ?_)
      have S0 := Lib.hid (sk_below (sk_drewN F2.out 1) hW)
      clear hW hK0 K0
      simp only [Act.put, List.setIfInBounds_toArray, List.set_cons_zero, List.set_cons_succ]
      refine wpAnyE_one (i := 5) (by kernel_rfl) rfl (fun K3 hK3 => ?_)
      refine stepE_call (v := .int .u8 (pb.toNat : Int)) (R := fun w' => Below _ _ w') (some 37) rfl rfl 41 Try.func41 (by kernel_rfl) rfl _ _ rfl [.int .u8 (b.toNat : Int)] rfl (cb _) (fun W3 hW => hK3.out _ _ (.inr (sk_below S0.out hW)) ?_)
      have S3 := Lib.hid (sk_below S0.out hW)
      clear hW hK3 K3
      simp only [Act.put, List.setIfInBounds_toArray, List.set_cons_zero, List.set_cons_succ]
      refine wpAnyE_one (i := 8) (by kernel_rfl) rfl (fun K6 hK6 => ?_)
      refine stepE_call (v := .int .u8 (pc.toNat : Int)) (R := fun w' => Below _ _ w') (some 40) rfl rfl 41 Try.func41 (by kernel_rfl) rfl _ _ rfl [.int .u8 (c.toNat : Int)] rfl (cc _) (fun W6 hW => hK6.out _ _ (.inr (sk_below S3.out hW)) ?_)
      have S6 := Lib.hid (sk_below S3.out hW)
      clear hW hK6 K6
      simp only [Act.put, List.setIfInBounds_toArray, List.set_cons_zero, List.set_cons_succ]
      refine wpAnyE_one (i := 11) (by kernel_rfl) rfl (fun K9 hK9 => ?_)
      refine stepE_call (v := .int .u8 (pd.toNat : Int)) (R := fun w' => Below _ _ w') (some 43) rfl rfl 41 Try.func41 (by kernel_rfl) rfl _ _ rfl [.int .u8 (d.toNat : Int)] rfl (cd _) (fun W9 hW => hK9.out _ _ (.inr (sk_below S6.out hW)) ?_)
      have S9 := Lib.hid (sk_below S6.out hW)
      clear hW hK9 K9
      simp only [Act.put, List.setIfInBounds_toArray, List.set_cons_zero, List.set_cons_succ]
      refine wpAnyE_take (i := 12) (v := .agg (Nums .u8 (four pa pb pc pd))) (some 44) rfl rfl (by kernel_rfl) (fun _ _ _ h => h) (.inl ⟨by rfl, fun W _ => by go_simp; rfl⟩) S9.out ?_
      simp only [Act.put, List.setIfInBounds_toArray, List.set_cons_zero, List.set_cons_succ]
      refine wpAnyE_one (i := 13) (by kernel_rfl) rfl (fun K5 hK5 => ?_)
      refine stepE_put arr4 none rfl rfl _ _ rfl rfl rfl (sk_hd S9.out) rfl (show (four pa pb pc pd).length = 4 from rfl) (fun W5 A5 M5 _ => hK5.out _ _ (.inl rfl) ?_)
      have F5 := Lib.hid (sk_put S9.out M5.out A5.out Hne.out Hg.out.1)
      clear hK5 K5 M5 A5 F2 S0 S3 S6 S9
      simp only [Act.put]
      refine wpAnyE_done (by kernel_rfl) ?_
      go_wp2_with (first
        | refine wp_load_arr arr4 rfl (.tmp 2) rfl rfl (sk_hd F5.out) rfl ?_
        | refine wp_put_arr arr4 rfl (.tmp 4) (.tmp 45) rfl rfl (l' := four pa pb pc pd) rfl (F5.out.1 (g2, 51, Zs 4) (by simp)) (Zs_length _) rfl ?_)
      intro w9 H9 Hm9 Hs9
      go_wp2
      rw [HR1.out]
      exact ret_arr arr4 rfl rfl H9.out rfl rfl ⟨rfl, F5.out.2.trans (Hm9.out.below (fun j hj => by rw [hj]; exact Hg.out.2.1) F5.out.2.size)⟩
    · have HR1 : Hid (L = four a b c d) := Lib.hid (by rw [HR.out, if_neg h0, if_neg (by omega)])
      clear HR
      go_wp2_with (first
        | refine wp_load_arr arr4 rfl (.tmp 2) rfl rfl (sk_hd F2.out) rfl ?_
        | refine wp_put_arr arr4 rfl (.tmp 4) (.tmp 45) rfl rfl (l' := four a b c d) rfl (F2.out.1 (g2, 51, Zs 4) (by simp)) (Zs_length _) rfl ?_)
      intro w9 H9 Hm9 Hs9
      go_wp2
      rw [HR1.out]
      exact ret_arr arr4 rfl rfl H9.out rfl rfl ⟨rfl, F2.out.2.trans (Hm9.out.below (fun j hj => by rw [hj]; exact Hg.out.2.1) F2.out.2.size)⟩

end Go.Proofs.Ytfkfkmdnffpcmaa
