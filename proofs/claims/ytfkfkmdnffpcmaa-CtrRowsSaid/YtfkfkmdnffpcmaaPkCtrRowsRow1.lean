/-
  CtrRows: for every input the law returns true, and what came in reads behind the call as it did. No condition.
-/
import Derived.Test.YtfkfkmdnffpcmaaPkBase5
import Derived.Test.YtfkfkmdnffpcmaaPkBase6
import Derived.Test.YtfkfkmdnffpcmaaPkBase2
import Derived.Test.YtfkfkmdnffpcmaaPkBase1
import Derived.OpenShut
import Derived.Deep.Grids
namespace Go.Proofs.Ytfkfkmdnffpcmaa
open Go.RowKit

/-- Both answers for the block at hand. -/
theorem at_both (m d n c : Nat) (A C : Option Addr) (z : Int) (ks ss : List UInt8) (w : World) (hk : Rd w w.heap.size A m (Byt ks)) (hd : m ≤ d) (hs : Rd w w.heap.size C n (Byt ss)) :
    ∃ (L : List Nat) (fv : Int), L.length = 16 ∧ 0 ≤ fv ∧ fv < 5 ∧
      (∀ W, Below w.heap.size w W → Calls Try.prog 7 #[.slice A m d, .slice C n c, .int .i64 z] W (Ans W (.tuple #[.agg (Nums .u8 L), .int .i64 fv]))) ∧
      (∀ W, Below w.heap.size w W → Calls Try.prog 8 #[.slice A m d, .slice C n c, .int .i64 z] W (Ans W (.tuple #[.agg (Nums .u8 L), .int .i64 fv]))) := by
  by_cases h : m = 32 ∧ n = 16
  · obtain ⟨rfl, rfl⟩ := h
    by_cases hz : 0 ≤ z ∧ z ≤ 65535
    · obtain ⟨i, rfl⟩ := Int.eq_ofNat_of_zero_le hz.1
      exact ⟨abn (cblkU (akeysU ks) ss i), 0, cblk_abn (akeys_length hk.bytes) i, by omega, by omega, fun W hb => cat_any ks ss d c w.heap.size i A C W (hk.below hb) hd (hs.below hb) hb.size (by omega), fun W hb => rcat_any ks ss d c w.heap.size i A C W (hk.below hb) (hs.below hb) hb.size (by omega)⟩
    · exact ⟨Zs 16, 2, Zs_length _, by omega, by omega, fun W hb => cat_range ks ss d c w.heap.size A C z W (hk.below hb) hd (hs.below hb) hb.size (by omega), fun W _ => rcat_range d c A C z W (by omega)⟩
  · exact ⟨Zs 16, 4, Zs_length _, by omega, by omega, fun W _ => cat_form m d n c A C z W (by omega), fun W _ => rcat_form m d n c A C z W (by omega)⟩
/-- Both answers for the size at hand. -/
theorem stream_both (m d n c : Nat) (A C : Option Addr) (z : Int) (ks ss : List UInt8) (w : World) (hk : Rd w w.heap.size A m (Byt ks)) (hd : m ≤ d) (hs : Rd w w.heap.size C n (Byt ss)) :
    ∃ (R : List UInt8) (fv : Int), R.length ≤ 65536 ∧ 0 ≤ fv ∧ fv < 5 ∧
      (∀ W, Below w.heap.size w W → Calls Try.prog 9 #[.slice A m d, .slice C n c, .int .i64 z] W (NewRF W R fv)) ∧
      (∀ W, Below w.heap.size w W → Calls Try.prog 10 #[.slice A m d, .slice C n c, .int .i64 z] W (NewRF W R fv)) := by
  by_cases h : m = 32 ∧ n = 16
  · obtain ⟨rfl, rfl⟩ := h
    by_cases hz : 0 ≤ z ∧ z ≤ 65536
    · obtain ⟨i, rfl⟩ := Int.eq_ofNat_of_zero_le hz.1
      have hl : (cstreamU (akeysU ks) ss i).length = i := cstream_length (akeys_length hk.bytes) i
      exact ⟨cstreamU (akeysU ks) ss i, 0, by rw [hl]; omega, by omega, by omega, fun W hb => cstream_any ks ss d c w.heap.size i A C W (hk.below hb) hd (hs.below hb) hb.size (by omega), fun W hb => rcstream_any ks ss d c w.heap.size i A C W (hk.below hb) (hs.below hb) hb.size (by omega)⟩
    · exact ⟨[], 2, by simp, by omega, by omega, fun W hb => cstream_range ks ss d c w.heap.size A C z W (hk.below hb) hd (hs.below hb) hb.size (by omega), fun W _ => rcstream_range d c A C z W (by omega)⟩
  · exact ⟨[], 4, by simp, by omega, by omega, fun W _ => cstream_form m d n c A C z W (by omega), fun W _ => rcstream_form m d n c A C z W (by omega)⟩

set_option maxHeartbeats 6400000 in
set_option maxRecDepth 100000 in
theorem ctrRows_in (m d n c : Nat) (A C : Option Addr) (z y : Int) (ks ss xs : List UInt8) (w : World) (hk : Rd w w.heap.size A m (Byt ks)) (hd : m ≤ d) (hs : Rd w w.heap.size C n (Byt ss)) (hx : xs.length = 16) (hm : m ≤ 100) (hn : n ≤ 100) (hz : z ≤ 300 ∨ 65535 < z) (hy : y ≤ 200 ∨ 65536 < y) :
    Calls Try.prog 3 #[.slice A m d, .slice C n c, .agg (Nums .u8 (abn xs)), .int .i64 z, .int .i64 y] w (Ans w (.bool true)) := by
  have n1 : ¬ (100 < (m : Int)) := by omega
  have n2 : ¬ (100 < (n : Int)) := by omega
  obtain ⟨L, fv, hL, hf0, hf5, h1, h2⟩ := at_both m d n c A C z ks ss w hk hd hs
  obtain ⟨R, gv, hR, hg0, hg5, h3, h4⟩ := stream_both m d n c A C y ks ss w hk hd hs
  have h5 := fun W => cnext_any xs W hx
  have h6 := fun W => rcnext_any xs W hx
  have h9 := fun W => alive12_any W
  have g16 := eqg16
  have HL := Lib.hid hL
  have HX : Hid ((abn xs).length = 16) := Lib.hid (by rw [abn_length, hx])
  have hE : (abn (cplusU xs 1)).length = 16 := by rw [abn_length, cplus_length hx]
  have q1 := fun W => eq16_same (l := abn (cplusU xs 1)) hE W
  have q2 := fun W => eq16_same (l := L) hL W
  have hRm : R.length ≤ maxLen := by unfold maxLen; omega
  obtain ⟨r, hr⟩ : ∃ r, R.length = r := ⟨_, rfl⟩
  unfold NewRF at h3 h4
  rw [hr] at h3 h4 hRm
  have H1 := Lib.hid h1
  have H2 := Lib.hid h2
  have H3 := Lib.hid h3
  have H4 := Lib.hid h4
  have HRm := Lib.hid hRm
  clear h1 h2 h3 h4 hk hd hs hr hm hn hRm hR hL hE hx
  revert h5 h6 HX q1
  generalize abn (cplusU xs 1) = E
  generalize abn xs = X
  intro h5 h6 HX q1
  have hzc : (z ≤ 300 ∧ decide (300 < z) = false) ∨ (300 < z ∧ ¬ z ≤ 65535) := by
    rcases hz with h | h
    · exact .inl ⟨h, decide_eq_false (by omega)⟩
    · exact .inr ⟨by omega, by omega⟩
  have hyc : (y ≤ 200 ∧ decide (200 < y) = false) ∨ (200 < y ∧ ¬ y ≤ 65536) := by
    rcases hy with h | h
    · exact .inl ⟨h, decide_eq_false (by omega)⟩
    · exact .inr ⟨by omega, by omega⟩
  clear hz hy
  rcases hzc with ⟨hz1, hz2⟩ | ⟨hz1, hz2⟩ <;> rcases hyc with ⟨hy1, hy2⟩ | ⟨hy1, hy2⟩
  all_goals
    go_enter Try.func3, Try.ntmps3
    go_wp2_with (refine wp_box_arr (k := .u8) rfl 23 (.tmp 2) rfl X rfl ?_)
    intro w1 g7 G1 K1 Hb1 Hs1
    clear G1 Hs1
    go_wp2_with fail
    refine (H1.out w1 Hb1.out).mono ?_
    rintro e w2 ⟨rfl, hb2⟩
    have K2 := Lib.hid (K1.out.below hb2 K1.out.lt)
    have Hb2 := Lib.hid (bon Hb1.out hb2)
    clear hb2 K1 Hb1
    go_wp2_with (refine wp_alloc_arr (k := .u8) rfl 23 rfl 16 zero16 ?_)
    intro w3 g11 G3 J3 Hb3 Hs3
    go_wp2_with (refine wp_put_arr arr16 rfl (.tmp 11) (.tmp 49) rfl rfl (l' := L) rfl J3.out (Zs_length _) HL.out ?_)
    intro w4 J4 Hm4 Hs4
    have hg : w2.heap.size ≤ g11 := by have := G3.out; omega
    have b24 : Below w2.heap.size w2 w4 := Hb3.out.trans (Hm4.out.below (fun j hj => by rw [hj]; exact hg) Hb3.out.size)
    have K4 := Lib.hid (K2.out.below b24 K2.out.lt)
    have Hb4 := Lib.hid (bon Hb2.out b24)
    clear b24 hg G3 J3 Hb3 Hs3 Hm4 Hs4 K2 Hb2
    go_wp2_with fail
    refine (H2.out w4 Hb4.out).mono ?_
    rintro e w5 ⟨rfl, hb5⟩
    have K5 := Lib.hid (K4.out.below hb5 K4.out.lt)
    have J5 := Lib.hid (J4.out.below hb5 J4.out.lt)
    have Hb5 := Lib.hid (bon Hb4.out hb5)
    clear hb5 K4 J4 Hb4
    go_wp2_with (refine wp_alloc_arr (k := .u8) rfl 23 rfl 16 zero16 ?_)
    intro w6 g13 G6 I6 Hb6 Hs6
    go_wp2_with (refine wp_put_arr arr16 rfl (.tmp 13) (.tmp 56) rfl rfl (l' := L) rfl I6.out (Zs_length _) HL.out ?_)
    intro w7 I7 Hm7 Hs7
    have hg : w5.heap.size ≤ g13 := by have := G6.out; omega
    have b57 : Below w5.heap.size w5 w7 := Hb6.out.trans (Hm7.out.below (fun j hj => by rw [hj]; exact hg) Hb6.out.size)
    have K7 := Lib.hid (K5.out.below b57 K5.out.lt)
    have J7 := Lib.hid (J5.out.below b57 J5.out.lt)
    have Hb7 := Lib.hid (bon Hb5.out b57)
    clear b57 hg G6 I6 Hb6 Hs6 Hm7 Hs7 K5 J5 Hb5
    go_wp2_with fail
    refine (H3.out w7 Hb7.out).mono ?_
    rintro e w8 ⟨A8, c8, rfl, hr8, ho8, hb8⟩
    have Hr8 := Lib.hid hr8
    have K8 := Lib.hid (K7.out.below hb8 K7.out.lt)
    have J8 := Lib.hid (J7.out.below hb8 J7.out.lt)
    have I8 := Lib.hid (I7.out.below hb8 I7.out.lt)
    have Hb8 := Lib.hid (bon Hb7.out hb8)
    clear hb8 hr8 ho8 K7 J7 I7 Hb7
    go_wp2_with fail
    refine (H4.out w8 Hb8.out).mono ?_
    rintro e w9 ⟨A9, c9, rfl, hr9, ho9, hb9⟩
    have Hr9 := Lib.hid hr9
    have HR8 := Lib.hid ((Hr8.out.below hb9).wider hb9.size)
    have K9 := Lib.hid (K8.out.below hb9 K8.out.lt)
    have J9 := Lib.hid (J8.out.below hb9 J8.out.lt)
    have I9 := Lib.hid (I8.out.below hb9 I8.out.lt)
    have Hb9 := Lib.hid (bon Hb8.out hb9)
    clear hb9 hr9 ho9 K8 J8 I8 Hb8 Hr8
    have Hsame : Hid (∀ W, Below w9.heap.size w9 W → Calls Try.prog 13 #[.slice A8 r c8, .slice A9 r c9] W (Ans W (.bool true))) := Lib.hid (fun W hb => by
      have h := rsame_any W.heap.size r r c8 c9 A8 A9 R R W ((HR8.out.below hb).wider hb.size) ((Hr9.out.below hb).wider hb.size) HRm.out HRm.out
      rw [sameL_self] at h
      exact h)
    clear HR8 Hr9
    go_wp2_with fail
    refine wp_region_heldD (S := fun w' => Below w9.heap.size w9 w') (by kernel_rfl) ?_
    refine wpAnyH_takeD (i := 0) (some 72) rfl rfl (by kernel_rfl) (fun _ _ _ h => h) (yields_arr (k := .u8) (l := X) (off := 0) (b := g7) (by rfl) _ rfl rfl (fun w' h => (K9.out.below h K9.out.lt).range (fun j x hx => by rw [Nat.zero_add]; exact hx)) arr16.under rfl (by rw [HX.out]; exact info_16)) ((bdrewN (Below.refl _ _) 1 : Below w9.heap.size w9 (w9.drewN 1))) ?_
    simp only [Act.put, List.setIfInBounds_toArray, List.set_cons_zero, List.set_cons_succ]
    refine wpAnyH_takeD (i := 2) (some 74) rfl rfl (by kernel_rfl) (fun _ _ _ h => h) (yields_arr (k := .u8) (l := X) (off := 0) (b := g7) (by rfl) _ rfl rfl (fun w' h => (K9.out.below h K9.out.lt).range (fun j x hx => by rw [Nat.zero_add]; exact hx)) arr16.under rfl (by rw [HX.out]; exact info_16)) ((bdrewN (Below.refl _ _) 1 : Below w9.heap.size w9 (w9.drewN 1))) ?_
    simp only [Act.put, List.setIfInBounds_toArray, List.set_cons_zero, List.set_cons_succ]
    refine wpAnyH_oneD (i := 1) (by kernel_rfl) rfl (fun Ka hKa => ?_)
    refine stepE_callW (v := .agg (Nums .u8 E)) (R := fun w' => Below _ _ w') (some 73) rfl (by rfl) 11 Try.func11 (by kernel_rfl) rfl _ _ rfl [.agg (Nums .u8 X)] rfl (h5 _) (fun Wa hW => hKa.out _ _ (abon ((bdrewN (Below.refl _ _) 1 : Below w9.heap.size w9 (w9.drewN 1))) hW) ?_)
    have S1 := Lib.hid (abon ((bdrewN (Below.refl _ _) 1 : Below w9.heap.size w9 (w9.drewN 1))) hW)
    clear hW hKa Ka
    simp only [Act.put, List.setIfInBounds_toArray, List.set_cons_zero, List.set_cons_succ]
    refine wpAnyH_oneD (i := 3) (by kernel_rfl) rfl (fun Kb hKb => ?_)
    refine stepE_callW (v := .agg (Nums .u8 E)) (R := fun w' => Below _ _ w') (some 75) rfl (by rfl) 12 Try.func12 (by kernel_rfl) rfl _ _ rfl [.agg (Nums .u8 X)] rfl (h6 _) (fun Wb hW => hKb.out _ _ (abon (S1.out) hW) ?_)
    have S2 := Lib.hid (abon (S1.out) hW)
    clear hW hKb Kb
    simp only [Act.put, List.setIfInBounds_toArray, List.set_cons_zero, List.set_cons_succ]
    refine wpAnyH_takeD (i := 4) (v := .bool true) (some 76) rfl rfl (by kernel_rfl) (fun _ _ _ h => h) (.inl ⟨by rfl, fun W _ => by go_simp⟩) (S2.out) ?_
    simp only [Act.put, List.setIfInBounds_toArray, List.set_cons_zero, List.set_cons_succ]
    refine wpAnyH_takeD (i := 5) (v := .bool true) (some 77) rfl rfl (by kernel_rfl) (fun _ _ _ h => h) (.inl ⟨by rfl, fun W _ => rfl⟩) (S2.out) ?_
    simp only [Act.put, List.setIfInBounds_toArray, List.set_cons_zero, List.set_cons_succ]
    refine wpAnyH_takeD (i := 6) (some 78) rfl rfl (by kernel_rfl) (fun _ _ _ h => h) (yields_arr (k := .u8) (l := L) (off := 0) (b := g11) (by rfl) _ rfl rfl (fun w' h => (J9.out.below h J9.out.lt).range (fun j x hx => by rw [Nat.zero_add]; exact hx)) arr16.under rfl (by rw [HL.out]; exact info_16)) (S2.out) ?_
    simp only [Act.put, List.setIfInBounds_toArray, List.set_cons_zero, List.set_cons_succ]
    refine wpAnyH_takeD (i := 7) (some 79) rfl rfl (by kernel_rfl) (fun _ _ _ h => h) (yields_arr (k := .u8) (l := L) (off := 0) (b := g13) (by rfl) _ rfl rfl (fun w' h => (I9.out.below h I9.out.lt).range (fun j x hx => by rw [Nat.zero_add]; exact hx)) arr16.under rfl (by rw [HL.out]; exact info_16)) (S2.out) ?_
    simp only [Act.put, List.setIfInBounds_toArray, List.set_cons_zero, List.set_cons_succ]
    refine wpAnyH_takeD (i := 8) (v := .bool true) (some 80) rfl rfl (by kernel_rfl) (fun _ _ _ h => h) (.inl ⟨by rfl, fun W _ => by go_simp⟩) (S2.out) ?_
    simp only [Act.put, List.setIfInBounds_toArray, List.set_cons_zero, List.set_cons_succ]
    refine wpAnyH_takeD (i := 9) (v := .bool true) (some 81) rfl rfl (by kernel_rfl) (fun _ _ _ h => h) (.inl ⟨by rfl, fun W _ => by go_simp⟩) (S2.out) ?_
    simp only [Act.put, List.setIfInBounds_toArray, List.set_cons_zero, List.set_cons_succ]
    refine wpAnyH_takeD (i := 10) (v := .bool true) (some 82) rfl rfl (by kernel_rfl) (fun _ _ _ h => h) (.inl ⟨by rfl, fun W _ => rfl⟩) (S2.out) ?_
    simp only [Act.put, List.setIfInBounds_toArray, List.set_cons_zero, List.set_cons_succ]
    refine wpAnyH_takeD (i := 11) (v := .int .i64 fv) (some 83) rfl rfl (by kernel_rfl) (fun _ _ _ h => h) (.inl ⟨by rfl, fun W _ => rfl⟩) (S2.out) ?_
    simp only [Act.put, List.setIfInBounds_toArray, List.set_cons_zero, List.set_cons_succ]
    refine wpAnyH_takeD (i := 12) (v := .int .i64 fv) (some 84) rfl rfl (by kernel_rfl) (fun _ _ _ h => h) (.inl ⟨by rfl, fun W _ => rfl⟩) (S2.out) ?_
    simp only [Act.put, List.setIfInBounds_toArray, List.set_cons_zero, List.set_cons_succ]
    refine wpAnyH_takeD (i := 13) (v := .bool true) (some 85) rfl rfl (by kernel_rfl) (fun _ _ _ h => h) (.inl ⟨by rfl, fun W _ => by go_simp⟩) (S2.out) ?_
    simp only [Act.put, List.setIfInBounds_toArray, List.set_cons_zero, List.set_cons_succ]
    refine wpAnyH_takeD (i := 14) (v := .bool true) (some 86) rfl rfl (by kernel_rfl) (fun _ _ _ h => h) (.inl ⟨by rfl, fun W _ => by go_simp⟩) (S2.out) ?_
    simp only [Act.put, List.setIfInBounds_toArray, List.set_cons_zero, List.set_cons_succ]
    refine wpAnyH_takeD (i := 15) (v := .bool true) (some 87) rfl rfl (by kernel_rfl) (fun _ _ _ h => h) (.inl ⟨by rfl, fun W _ => rfl⟩) (S2.out) ?_
    simp only [Act.put, List.setIfInBounds_toArray, List.set_cons_zero, List.set_cons_succ]
    refine wpAnyH_takeD (i := 16) (v := .slice A8 r c8) (some 88) rfl rfl (by kernel_rfl) (fun _ _ _ h => h) (.inl ⟨by rfl, fun W _ => rfl⟩) (S2.out) ?_
    simp only [Act.put, List.setIfInBounds_toArray, List.set_cons_zero, List.set_cons_succ]
    refine wpAnyH_takeD (i := 17) (v := .slice A9 r c9) (some 89) rfl rfl (by kernel_rfl) (fun _ _ _ h => h) (.inl ⟨by rfl, fun W _ => rfl⟩) (S2.out) ?_
    simp only [Act.put, List.setIfInBounds_toArray, List.set_cons_zero, List.set_cons_succ]
    refine wpAnyH_oneD (i := 18) (by kernel_rfl) rfl (fun Kc hKc => ?_)
    refine stepE_callW (v := .bool true) (R := fun w' => Below _ _ w') (some 90) rfl (by rfl) 13 Try.func13 (by kernel_rfl) rfl _ _ rfl [.slice A8 r c8, .slice A9 r c9] rfl (Hsame.out _ S2.out) (fun Wc hW => hKc.out _ _ (abon (S2.out) hW) ?_)
    have S3 := Lib.hid (abon (S2.out) hW)
    clear hW hKc Kc
    simp only [Act.put, List.setIfInBounds_toArray, List.set_cons_zero, List.set_cons_succ]
    refine wpAnyH_takeD (i := 19) (v := .bool true) (some 91) rfl rfl (by kernel_rfl) (fun _ _ _ h => h) (.inl ⟨by rfl, fun W _ => by go_simp⟩) (S3.out) ?_
    simp only [Act.put, List.setIfInBounds_toArray, List.set_cons_zero, List.set_cons_succ]
    refine wpAnyH_takeD (i := 20) (v := .bool true) (some 92) rfl rfl (by kernel_rfl) (fun _ _ _ h => h) (.inl ⟨by rfl, fun W _ => rfl⟩) (S3.out) ?_
    simp only [Act.put, List.setIfInBounds_toArray, List.set_cons_zero, List.set_cons_succ]
    refine wpAnyH_takeD (i := 21) (v := .int .i64 gv) (some 93) rfl rfl (by kernel_rfl) (fun _ _ _ h => h) (.inl ⟨by rfl, fun W _ => rfl⟩) (S3.out) ?_
    simp only [Act.put, List.setIfInBounds_toArray, List.set_cons_zero, List.set_cons_succ]
    refine wpAnyH_takeD (i := 22) (v := .int .i64 gv) (some 94) rfl rfl (by kernel_rfl) (fun _ _ _ h => h) (.inl ⟨by rfl, fun W _ => rfl⟩) (S3.out) ?_
    simp only [Act.put, List.setIfInBounds_toArray, List.set_cons_zero, List.set_cons_succ]
    refine wpAnyH_takeD (i := 23) (v := .bool true) (some 95) rfl rfl (by kernel_rfl) (fun _ _ _ h => h) (.inl ⟨by rfl, fun W _ => by go_simp⟩) (S3.out) ?_
    simp only [Act.put, List.setIfInBounds_toArray, List.set_cons_zero, List.set_cons_succ]
    refine wpAnyH_takeD (i := 24) (v := .bool true) (some 96) rfl rfl (by kernel_rfl) (fun _ _ _ h => h) (.inl ⟨by rfl, fun W _ => by go_simp⟩) (S3.out) ?_
    simp only [Act.put, List.setIfInBounds_toArray, List.set_cons_zero, List.set_cons_succ]
    refine wpAnyH_takeD (i := 25) (v := .bool true) (some 97) rfl rfl (by kernel_rfl) (fun _ _ _ h => h) (.inl ⟨by rfl, fun W _ => rfl⟩) (S3.out) ?_
    simp only [Act.put, List.setIfInBounds_toArray, List.set_cons_zero, List.set_cons_succ]
    refine wpAnyH_oneD (i := 26) (by kernel_rfl) rfl (fun Kd hKd => ?_)
    refine stepE_callW (v := .bool true) (R := fun w' => Below _ _ w') (some 98) rfl (by rfl) 6 Try.func6 (by kernel_rfl) rfl _ _ rfl [] rfl (h9 _) (fun Wd hW => hKd.out _ _ (abon (S3.out) hW) ?_)
    have S4 := Lib.hid (abon (S3.out) hW)
    clear hW hKd Kd
    simp only [Act.put, List.setIfInBounds_toArray, List.set_cons_zero, List.set_cons_succ]
    refine wpAnyH_takeD (i := 27) (v := .bool true) (some 99) rfl rfl (by kernel_rfl) (fun _ _ _ h => h) (.inl ⟨by rfl, fun W _ => by go_simp⟩) (S4.out) ?_
    simp only [Act.put, List.setIfInBounds_toArray, List.set_cons_zero, List.set_cons_succ]
    refine wpAnyH_takeD (i := 28) (v := .bool true) (some 10) rfl rfl (by kernel_rfl) (fun _ _ _ h => h) (.inl ⟨by rfl, fun W _ => rfl⟩) (S4.out) ?_
    simp only [Act.put, List.setIfInBounds_toArray, List.set_cons_zero, List.set_cons_succ]
    refine wpAnyH_doneD (by kernel_rfl) ?_
    go_wp2
    go_ret
    exact ⟨rfl, bon Hb9.out S4.out⟩

set_option maxHeartbeats 1600000 in
theorem ctrRows_walk (m d n c : Nat) (A C : Option Addr) (z y : Int) (ks ss xs : List UInt8) (w : World) (hk : Rd w w.heap.size A m (Byt ks)) (hd : SlOK A m d) (hs : Rd w w.heap.size C n (Byt ss)) (hx : xs.length = 16) :
    Calls Try.prog 3 #[.slice A m d, .slice C n c, .agg (Nums .u8 (abn xs)), .int .i64 z, .int .i64 y] w (Ans w (.bool true)) := by
  have hin : m ≤ 100 → n ≤ 100 → (z ≤ 300 ∨ 65535 < z) → (y ≤ 200 ∨ 65536 < y) → Calls Try.prog 3 #[.slice A m d, .slice C n c, .agg (Nums .u8 (abn xs)), .int .i64 z, .int .i64 y] w (Ans w (.bool true)) :=
    fun h1 h2 h3 h4 => ctrRows_in m d n c A C z y ks ss xs w hk hd.le.1 hs hx h1 h2 h3 h4
  clear hk hs hx hd
  have hs : ∀ h : Prop, h ∨ ¬ h := fun h => Classical.em h
  generalize abn xs = X at *
  rcases hs (100 < (m : Int)) with n1 | n1
  · clear hin hs
    go_enter Try.func3, Try.ntmps3
    go_wp2_with (refine wp_box_arr (k := .u8) rfl 23 (.tmp 2) rfl X rfl ?_)
    intro w1 g7 G1 K1 Hb1 Hs1
    go_wp2_with fail
    refine (alive12_any _).mono ?_
    rintro e w2 ⟨rfl, hb⟩
    go_wp2
    go_ret
    exact ⟨rfl, bon Hb1.out hb⟩
  rcases hs (100 < (n : Int)) with n2 | n2
  · clear hin hs
    go_enter Try.func3, Try.ntmps3
    go_wp2_with (refine wp_box_arr (k := .u8) rfl 23 (.tmp 2) rfl X rfl ?_)
    intro w1 g7 G1 K1 Hb1 Hs1
    go_wp2_with fail
    refine (alive12_any _).mono ?_
    rintro e w2 ⟨rfl, hb⟩
    go_wp2
    go_ret
    exact ⟨rfl, bon Hb1.out hb⟩
  rcases hs (300 < z ∧ z ≤ 65535) with n3 | n3
  · clear hin hs
    obtain ⟨n3, n4⟩ := n3
    go_enter Try.func3, Try.ntmps3
    go_wp2_with (refine wp_box_arr (k := .u8) rfl 23 (.tmp 2) rfl X rfl ?_)
    intro w1 g7 G1 K1 Hb1 Hs1
    go_wp2_with fail
    refine (alive12_any _).mono ?_
    rintro e w2 ⟨rfl, hb⟩
    go_wp2
    go_ret
    exact ⟨rfl, bon Hb1.out hb⟩
  rcases hs (200 < y ∧ y ≤ 65536) with n5 | n5
  · clear hin hs
    obtain ⟨n5, n6⟩ := n5
    have hzc : (z ≤ 300 ∧ decide (300 < z) = false) ∨ (300 < z ∧ ¬ z ≤ 65535) := by
      rcases Int.lt_or_le 300 z with h | h
      · exact .inr ⟨h, by omega⟩
      · exact .inl ⟨h, decide_eq_false (by omega)⟩
    clear n3
    rcases hzc with ⟨hz1, hz2⟩ | ⟨hz1, hz2⟩
    all_goals
      go_enter Try.func3, Try.ntmps3
      go_wp2_with (refine wp_box_arr (k := .u8) rfl 23 (.tmp 2) rfl X rfl ?_)
      intro w1 g7 G1 K1 Hb1 Hs1
      go_wp2_with fail
      refine (alive12_any _).mono ?_
      rintro e w2 ⟨rfl, hb⟩
      go_wp2
      go_ret
      exact ⟨rfl, bon Hb1.out hb⟩
  · exact hin (by omega) (by omega) (by omega) (by omega)

end Go.Proofs.Ytfkfkmdnffpcmaa

namespace Go.Proofs.Ytfkfkmdnffpcmaa

theorem own : ownKnob Try.prog.godebug = none := by kernel_rfl
theorem laidOut : laidOutB Try.prog = true := by kernel_rfl
theorem cells_u8 : Try.prog.cellsOf 5 = 1 := by kernel_rfl

end Go.Proofs.Ytfkfkmdnffpcmaa

/-
  A byte that came in.
-/
namespace Go.Proofs.Ytfkfkmdnffpcmaa
open Go.ChangeShapes Go.WideShapes Go.ChangeAt Go.RowKit

theorem wf_u8 {n : Int} (h : (Lit.int .u8 n).wf = true) : ∃ b : UInt8, n = (b.toNat : Int) := by
  simp only [Lit.wf, Bool.and_eq_true, decide_eq_true_eq] at h
  have e1 : IntKind.u8.min = 0 := rfl
  have e2 : IntKind.u8.max = 255 := rfl
  exact ⟨UInt8.ofNat n.toNat, by rw [UInt8.toNat_ofNat']; omega⟩

end Go.Proofs.Ytfkfkmdnffpcmaa

/-
  An array of bytes that came in. No program is named here.
-/
namespace Go.Proofs.Ytfkfkmdnffpcmaa
open Go.ChangeShapes Go.WideShapes Go.ChangeAt Go.RowKit

theorem open_arr8b {H : Type} {enc : TypeId × Value → H} {P : Program} {w : World} {base : Nat} {held : Bool} {sp : Nat → Bool} {t e : TypeId} {n : Nat} (ht : P.underlying t = some (.array n e)) (he : P.underlying e = some (.int .u8)) (ce : P.cellsOf e = 1) (ct : P.cellsOf t = n)
    {r : Reach} {b0 : Nat} {v : Value} {d : DataW H} {ps : List MemPlace} (hval : Value.okWide P w r b0 t v) (hd : DataW.Trod enc P w base sp held t v d ps) :
    ∃ l : List UInt8, v = .agg (Nums .u8 (l.map (·.toNat))) ∧ l.length = n := by
  obtain ⟨cs, rfl, hsz, _⟩ : ∃ cs, v = .agg cs ∧ cs.size = P.cellsOf t ∧ Row.okWide P w r b0 t cs := by
    simpa [Value.okWide, ht] using hval
  rw [ct] at hsz
  obtain ⟨fuel, hf⟩ := hd
  obtain ⟨xs, m, _, _, _, hl, hel⟩ := DataW.trod_array ht hf
  have each : ∀ i, i < n → ∃ z : UInt8, cs[i]? = some (.int .u8 (z.toNat : Int)) := by
    intro i hi
    have h1 := hel i hi
    rw [List.getElem?_eq_getElem (by omega)] at h1
    obtain ⟨z, h2, -, hw⟩ := DataW.trod_int he h1
    obtain ⟨k, rfl⟩ := wf_u8 hw
    refine ⟨k, ?_⟩
    have h3 : ((cs.toList.drop (i * 1)).take 1)[0]? = some (.int .u8 (k.toNat : Int)) := by
      have h4 : ((Value.agg cs).cells.toList.drop (i * P.cellsOf e)).take (P.cellsOf e) = [.int .u8 (k.toNat : Int)] := h2
      rw [ce] at h4
      have h5 : (Value.agg cs).cells = cs := rfl
      rw [h5] at h4
      rw [h4]; rfl
    rw [List.getElem?_take_of_lt (by omega), List.getElem?_drop, Nat.mul_one, Nat.add_zero] at h3
    simpa using h3
  obtain ⟨G, hG⟩ := Go.Deep.choose_lt (α := UInt8) (p := fun i z => cs[i]? = some (.int .u8 (z.toNat : Int))) each
  refine ⟨(List.range n).map G, ?_, by simp⟩
  · congr 1
    apply Array.ext_getElem?
    intro i
    by_cases hi : i < n
    · rw [hG i hi, Nums_get (by simpa using hi)]
      simp
    · rw [Array.getElem?_eq_none (by omega), Array.getElem?_eq_none (by rw [Nums_size]; simp; omega)]

end Go.Proofs.Ytfkfkmdnffpcmaa

/-
  Five parameters opened at once. No program is named here.
-/
namespace Go.Proofs.Ytfkfkmdnffpcmaa
open Go.RowKit Go.ChangeShapes
section
variable {H : Type} {enc : TypeId × Value → H} {P : Program} {w : World} {base : Nat} {spare : TypeId → Bool} {held : Bool}
theorem trodAll_five {t t' t'' t3 t4 : TypeId} {args : Array Value} {ds : List (DataW H)} {ps : List MemPlace} (h : DataW.TrodAll enc P w base spare held [t, t', t'', t3, t4] args.toList ds ps) :
    ∃ v v' v'' v3 v4 d d' d'' d3 d4 p p' p'' p3 p4, args = #[v, v', v'', v3, v4] ∧ ds = [d, d', d'', d3, d4] ∧ ps = p ++ p' ++ p'' ++ p3 ++ p4 ∧ DataW.Trod enc P w base spare held t v d p ∧ DataW.Trod enc P w base spare held t' v' d' p' ∧ DataW.Trod enc P w base spare held t'' v'' d'' p'' ∧
      DataW.Trod enc P w base spare held t3 v3 d3 p3 ∧ DataW.Trod enc P w base spare held t4 v4 d4 p4 := by
  obtain ⟨v, vs, d, ds', p, q, hargs, rfl, rfl, hd, hrest⟩ := trodAll_cons h
  obtain ⟨v', vs', d', ds'', p', q', rfl, rfl, rfl, hd', hrest'⟩ := trodAll_cons hrest
  obtain ⟨v'', vs'', d'', ds''', p'', q'', rfl, rfl, rfl, hd'', hrest''⟩ := trodAll_cons hrest'
  obtain ⟨v3, vs3, d3, ds3, p3, q3, rfl, rfl, rfl, hd3, hrest3⟩ := trodAll_cons hrest''
  obtain ⟨v4, vs4, d4, ds4, p4, q4, rfl, rfl, rfl, hd4, hrest4⟩ := trodAll_cons hrest3
  obtain ⟨rfl, rfl, rfl⟩ := trodAll_nil hrest4
  exact ⟨v, v', v'', v3, v4, d, d', d'', d3, d4, p, p', p'', p3, p4, by cases args; simp_all, rfl, by simp, hd, hd', hd'', hd3, hd4⟩
end

end Go.Proofs.Ytfkfkmdnffpcmaa

namespace Go.Proofs.Ytfkfkmdnffpcmaa
open Go.ChangeShapes Go.WideShapes Go.ChangeAt Go.RowKit

set_option maxRecDepth 100000 in
theorem ctrRows_lifted (os : Os) (started : os.Started) (H : Type) (enc : TypeId × Value → H) :
    ReturnsInHanded {} Try.checked os 3 .any (Rows.ctrRowsSpec.pre6 enc Try.prog Try.f3 Rows.ctrRowsRow.domain false) (Rows.ctrRowsSpec.post enc Try.prog Try.f3 false true false false) := by
  refine returnsInHanded_of_change (C := Try.checked) own started (by kernel_rfl) Try.func3
    (ChangeSpec.witness6 (enc := enc) (C := Try.checked) false ⟨#[], #[.slice none 0 0, .slice none 0 0, .agg #[.int .u8 0, .int .u8 0, .int .u8 0, .int .u8 0, .int .u8 0, .int .u8 0, .int .u8 0, .int .u8 0, .int .u8 0, .int .u8 0, .int .u8 0, .int .u8 0, .int .u8 0, .int .u8 0, .int .u8 0, .int .u8 0], .int .i64 0, .int .i64 0], []⟩ 8 (by kernel_rfl) (by kernel_rfl) (by kernel_rfl) (by kernel_rfl)) ?_
  intro W base args ds gs before hval0 hW hcnd _
  have hval : ∀ (j : Nat) t v, Try.f3.params[j]? = some t → args[j]? = some v → Value.okWide Try.prog W .any base t v := hval0
  have hW' := hW
  obtain ⟨p, q, hA0, hV, rfl, hfz, hnd⟩ := hW
  have hA : DataW.TrodAll enc Try.prog W 0 (fun _ => true) true Try.f3.params.toList args.toList ds p := hA0
  rw [Try.params3] at hA hval
  obtain ⟨v0, v1, v2, v3, v4, d0, d1, d2, d3, d4, p0, p1, p2, p3, p4, rfl, rfl, rfl, h0, h1, h2, h3, h4⟩ := trodAll_five hA
  have hlt : ∀ x ∈ p0 ++ p1 ++ p2 ++ p3 ++ p4 ++ q, x.block < W.heap.size := fun x hx => by simpa using hW'.lt x hx
  obtain ⟨A0, n0, c0, xs0, rfl, hk0, hx0⟩ := open_bytesk Try.underlying22 Try.underlying5 cells_u8 (hval 0 22 v0 rfl rfl) h0 (fun x hx => hlt x (by simp [hx]))
  obtain ⟨A1, n1, c1, xs1, rfl, hk1, hx1⟩ := open_bytesk Try.underlying22 Try.underlying5 cells_u8 (hval 1 22 v1 rfl rfl) h1 (fun x hx => hlt x (by simp [hx]))
  obtain ⟨l2, rfl, hl2⟩ := open_arr8b Try.underlying23 Try.underlying5 (by kernel_rfl) (by kernel_rfl) (hval 2 23 v2 rfl rfl) h2
  obtain ⟨z3, rfl, rfl, rfl, w3⟩ := open_int Try.underlying3 (hval 3 3 v3 rfl rfl) h3
  have hz3 := wf_int w3
  obtain ⟨z4, rfl, rfl, rfl, w4⟩ := open_int Try.underlying3 (hval 4 3 v4 rfl rfl) h4
  have hz4 := wf_int w4
  refine (ctrRows_walk n0 c0 n1 c1 A0 A1 z3 z4 xs0 xs1 l2 W hx0 hk0 hx1 hl2).mono fun e W' ⟨he, hb⟩ => ?_
  subst he
  exact ⟨_, rfl, law_post laidOut rfl rfl Try.underlying4 (by kernel_rfl) hW' rfl hb⟩

theorem ctrRows_holds : Rows.CtrRowsSaid :=
  OpenClaim.holds_of_wide 3 Try.f3 rfl rfl rfl rfl rfl rfl rfl ⟨rfl, rfl, rfl, rfl, rfl⟩ rfl rfl rfl rfl rfl (by kernel_rfl) Try.func3 (by kernel_rfl)
    (of_decide_eq_true (by kernel_rfl)) (by unfold Func.isWrapper; first | (rw [if_pos (by decide +kernel)]; kernel_rfl) | (rw [if_neg (by decide +kernel)]; exact ⟨rfl, rfl⟩))
    (fun os started H enc _ => ctrRows_lifted os started H enc)

end Go.Proofs.Ytfkfkmdnffpcmaa
