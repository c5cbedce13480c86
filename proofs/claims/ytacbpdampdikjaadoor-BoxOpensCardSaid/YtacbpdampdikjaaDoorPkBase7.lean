/-
  Some of the texts that the last one of these needs: walks of the functions that the law calls, and the mathematics of their answers.
-/
import Derived.Test.YtacbpdampdikjaaDoorPkBase6
import Derived.Test.YtacbpdampdikjaaDoorPkBase1
import Derived.Test.YtacbpdampdikjaaDoorPkBase3
import Derived.Test.YtacbpdampdikjaaDoorPkBase4
import Derived.Test.YtacbpdampdikjaaDoorPkBase2
namespace Go.Proofs.YtacbpdampdikjaaDoor
open Go.RowKit

set_option maxRecDepth 4096 in
set_option maxHeartbeats 1600000 in
theorem alive13_any (w : World) (hK : KsAt w) : Calls Tryd.prog 6 #[] w (Ans w (.bool true)) := by
  have Hst : Hid (∀ W ga gb, Below w.heap.size w W → Arr W ga 5 .u8 (Zs 32) → Arr W gb 5 .u8 (Zs 16) → Calls Tryd.prog 7 #[.slice (some ⟨ga, 0, none⟩) 32 32, .slice (some ⟨gb, 0, none⟩) 16 16, .slice none 0 0] W (fun e w' => ∃ v, e = .returned v ∧ ∃ A c, v = .tuple #[.slice A 48 c, .int .i64 0] ∧ Below W.heap.size W w')) := Lib.hid (fun W ga gb hb h1 h2 => by
    have e1 : abn (List.replicate 32 0) = Zs 32 := by simp [abn, Zs]
    have e2 : abn (List.replicate 16 0) = Zs 16 := by simp [abn, Zs]
    rw [← e1] at h1
    rw [← e2] at h2
    have r1 := h1.rd
    have r2 := h2.rd
    rw [List.length_replicate] at r1 r2
    refine (bseal_any W.heap.size 32 16 0 0 _ _ none (List.replicate 32 0) (List.replicate 16 0) [] W r1 (.inr ⟨_, rfl, Nat.le_refl _, by decide⟩) r2 (.inr ⟨_, rfl, Nat.le_refl _, by decide⟩) Rd.nil (by decide) (Nat.le_refl _) (hK.below hb)).mono ?_
    have hl : (boxU (List.replicate 32 0) (List.replicate 16 0) []).length = 48 := by rw [box_length, List.length_replicate]; rfl
    revert hl
    generalize boxU (List.replicate 32 0) (List.replicate 16 0) [] = L
    intro hl
    rintro e w' ⟨A, c, rfl, _, _, hb'⟩
    rw [hl]
    exact ⟨_, rfl, A, c, rfl, hb'⟩)
  have hsz := fun W => bsize_any 0 W (by decide) (by decide)
  rw [show max (0 : Int) 0 + 48 = 48 from rfl] at hsz
  have Hsz := Lib.hid hsz
  clear hsz hK
  go_enter Tryd.func6, Tryd.ntmps6
  go_wp2_with fail
  refine wp_region_to (fun (b : Nat × Nat × Option Addr × Nat) a => (((((((a.put (some 4) (.slice (some ⟨b.1, 0, none⟩) 32 32)).put (some 5) (.slice (some ⟨b.2.1, 0, none⟩) 16 16)).put (some 6) (.tuple #[.slice b.2.2.1 48 b.2.2.2, .int .i64 0])).put (some 3) (.tuple #[.slice b.2.2.1 48 b.2.2.2, .int .i64 0])).put (some 7) (.slice b.2.2.1 48 b.2.2.2)).put (some 8) (.int .i64 0)).put (some 1) (.slice b.2.2.1 48 b.2.2.2)).put (some 2) (.int .i64 0)) (fun _ w' => Below w.heap.size w w') ?_ ?_
  · refine wp_region_heldD (S := fun w' => Below w.heap.size w w') (by kernel_rfl) ?_
    refine wpAnyH_twoD (i := 0) (j := 1) (by kernel_rfl) rfl rfl (fun K1 hK1 => ?_) (fun K1 hK1 => ?_)
    · refine stepE_make (some 4) rfl rfl _ _ 22 rfl 5 Tryd.underlying22 Tryd.info_u8 32 rfl rfl (by omega) (fun WQ1 ga G HA hW => hK1.out _ _ (abon ((Below.refl w.heap.size w).drew) hW.out) ?_)
      have Q1 := Lib.hid (abon ((Below.refl w.heap.size w).drew) hW.out)
      have QA := HA
      clear hW hK1 K1 G HA
      simp only [Act.put, List.setIfInBounds_toArray, List.set_cons_zero, List.set_cons_succ]
      refine wpAnyH_oneD (i := 1) (by kernel_rfl) rfl (fun K1 hK1 => ?_)
      refine stepE_make (some 5) rfl rfl _ _ 22 rfl 5 Tryd.underlying22 Tryd.info_u8 16 rfl rfl (by omega) (fun WQ2 gb G HA hW => hK1.out _ _ (abon (Q1.out) hW.out) ?_)
      have Q2 := Lib.hid (abon (Q1.out) hW.out)
      have Q2B := HA
      have Q2A := Lib.hid (QA.out.below hW.out QA.out.lt)
      clear hW hK1 K1 G HA QA
      simp only [Act.put, List.setIfInBounds_toArray, List.set_cons_zero, List.set_cons_succ]
      refine wpAnyH_oneD (i := 2) (by kernel_rfl) rfl (fun K1 hK1 => ?_)
      refine stepE_callV (R := fun v w' => ∃ A c, v = .tuple #[.slice A 48 c, .int .i64 0] ∧ Below _ _ w') (some 6) rfl (by rfl) 7 Tryd.func7 (by kernel_rfl) rfl _ _ rfl [.slice (some ⟨ga, 0, none⟩) 32 32, .slice (some ⟨gb, 0, none⟩) 16 16, .slice none 0 0] rfl (Hst.out _ ga gb Q2.out Q2A.out Q2B.out) (fun v W3 hW => ?_)
      obtain ⟨A, c, rfl, hW⟩ := hW
      refine hK1.out _ _ (abon Q2.out hW) ?_
      have Q3 := Lib.hid (abon Q2.out hW)
      clear hW hK1 K1
      simp only [Act.put, List.setIfInBounds_toArray, List.set_cons_zero, List.set_cons_succ]
      refine wpAnyH_takeD (i := 3) (v := .tuple #[.slice A 48 c, .int .i64 0]) (some 3) rfl rfl (by kernel_rfl) (fun _ _ _ h => by cases h.1) (.inl ⟨by rfl, fun W _ => rfl⟩) (Q3.out) ?_
      simp only [Act.put, List.setIfInBounds_toArray, List.set_cons_zero, List.set_cons_succ]
      refine wpAnyH_takeD (i := 4) (v := .slice A 48 c) (some 7) rfl rfl (by kernel_rfl) (fun _ _ _ h => by cases h.1) (.inl ⟨by rfl, fun W _ => rfl⟩) (Q3.out) ?_
      simp only [Act.put, List.setIfInBounds_toArray, List.set_cons_zero, List.set_cons_succ]
      refine wpAnyH_takeD (i := 5) (v := .int .i64 0) (some 8) rfl rfl (by kernel_rfl) (fun _ _ _ h => by cases h.1) (.inl ⟨by rfl, fun W _ => rfl⟩) (Q3.out) ?_
      simp only [Act.put, List.setIfInBounds_toArray, List.set_cons_zero, List.set_cons_succ]
      refine wpAnyH_oneD (i := 6) (by kernel_rfl) rfl (fun K1 hK1 => ?_)
      go_simp
      refine hK1.out _ _ Q3.out ?_
      clear hK1 K1
      refine wpAnyH_oneD (i := 7) (by kernel_rfl) rfl (fun K1 hK1 => ?_)
      go_simp
      refine hK1.out _ _ Q3.out ?_
      exact wpAnyH_doneD (by kernel_rfl) ⟨rfl, (ga, gb, A, c), rfl, Q3.out⟩
    · refine stepE_make (some 5) rfl rfl _ _ 22 rfl 5 Tryd.underlying22 Tryd.info_u8 16 rfl rfl (by omega) (fun WQ1 gb G HA hW => hK1.out _ _ (abon ((Below.refl w.heap.size w).drew) hW.out) ?_)
      have Q1 := Lib.hid (abon ((Below.refl w.heap.size w).drew) hW.out)
      have QA := HA
      clear hW hK1 K1 G HA
      simp only [Act.put, List.setIfInBounds_toArray, List.set_cons_zero, List.set_cons_succ]
      refine wpAnyH_oneD (i := 0) (by kernel_rfl) rfl (fun K1 hK1 => ?_)
      refine stepE_make (some 4) rfl rfl _ _ 22 rfl 5 Tryd.underlying22 Tryd.info_u8 32 rfl rfl (by omega) (fun WQ2 ga G HA hW => hK1.out _ _ (abon (Q1.out) hW.out) ?_)
      have Q2 := Lib.hid (abon (Q1.out) hW.out)
      have Q2A := HA
      have Q2B := Lib.hid (QA.out.below hW.out QA.out.lt)
      clear hW hK1 K1 G HA QA
      simp only [Act.put, List.setIfInBounds_toArray, List.set_cons_zero, List.set_cons_succ]
      refine wpAnyH_oneD (i := 2) (by kernel_rfl) rfl (fun K1 hK1 => ?_)
      refine stepE_callV (R := fun v w' => ∃ A c, v = .tuple #[.slice A 48 c, .int .i64 0] ∧ Below _ _ w') (some 6) rfl (by rfl) 7 Tryd.func7 (by kernel_rfl) rfl _ _ rfl [.slice (some ⟨ga, 0, none⟩) 32 32, .slice (some ⟨gb, 0, none⟩) 16 16, .slice none 0 0] rfl (Hst.out _ ga gb Q2.out Q2A.out Q2B.out) (fun v W3 hW => ?_)
      obtain ⟨A, c, rfl, hW⟩ := hW
      refine hK1.out _ _ (abon Q2.out hW) ?_
      have Q3 := Lib.hid (abon Q2.out hW)
      clear hW hK1 K1
      simp only [Act.put, List.setIfInBounds_toArray, List.set_cons_zero, List.set_cons_succ]
      refine wpAnyH_takeD (i := 3) (v := .tuple #[.slice A 48 c, .int .i64 0]) (some 3) rfl rfl (by kernel_rfl) (fun _ _ _ h => by cases h.1) (.inl ⟨by rfl, fun W _ => rfl⟩) (Q3.out) ?_
      simp only [Act.put, List.setIfInBounds_toArray, List.set_cons_zero, List.set_cons_succ]
      refine wpAnyH_takeD (i := 4) (v := .slice A 48 c) (some 7) rfl rfl (by kernel_rfl) (fun _ _ _ h => by cases h.1) (.inl ⟨by rfl, fun W _ => rfl⟩) (Q3.out) ?_
      simp only [Act.put, List.setIfInBounds_toArray, List.set_cons_zero, List.set_cons_succ]
      refine wpAnyH_takeD (i := 5) (v := .int .i64 0) (some 8) rfl rfl (by kernel_rfl) (fun _ _ _ h => by cases h.1) (.inl ⟨by rfl, fun W _ => rfl⟩) (Q3.out) ?_
      simp only [Act.put, List.setIfInBounds_toArray, List.set_cons_zero, List.set_cons_succ]
      refine wpAnyH_oneD (i := 6) (by kernel_rfl) rfl (fun K1 hK1 => ?_)
      go_simp
      refine hK1.out _ _ Q3.out ?_
      clear hK1 K1
      refine wpAnyH_oneD (i := 7) (by kernel_rfl) rfl (fun K1 hK1 => ?_)
      go_simp
      refine hK1.out _ _ Q3.out ?_
      exact wpAnyH_doneD (by kernel_rfl) ⟨rfl, (ga, gb, A, c), rfl, Q3.out⟩
  · rintro ⟨ga, gb, A, c⟩ w6 hb6
    have B6 := Lib.hid hb6
    clear hb6
    have h0 := Hsz.out w6
    simp only [Act.put, List.setIfInBounds_toArray, List.set_cons_zero, List.set_cons_succ]
    go_wp2_with fail
    refine h0.mono ?_
    rintro e w7 ⟨rfl, rfl⟩
    go_wp2
    go_ret
    exact ⟨rfl, B6.out⟩

end Go.Proofs.YtacbpdampdikjaaDoor

namespace Go.Proofs.YtacbpdampdikjaaDoor
open Go.RowKit

set_option maxHeartbeats 400000 in
theorem bequal_any (B n m c d : Nat) (A C : Option Addr) (xs ys : List UInt8) (w : World) (hx : Rd w B A n (Byt xs)) (hy : Rd w B C m (Byt ys)) :
    Calls Tryd.prog 51 #[.slice A n c, .slice C m d] w (Ans w (.bool (sameL xs ys))) := by
  have h1 := hx.conv (P := Tryd.prog) (c := c) 22 9 5 Tryd.underlying22 Tryd.underlying5 Tryd.underlying9
  have h2 := hy.conv (P := Tryd.prog) (c := d) 22 9 5 Tryd.underlying22 Tryd.underlying5 Tryd.underlying9
  go_enter Tryd.func51, Tryd.ntmps51
  go_wp2
  go_ret
  refine ⟨?_, Below.refl _ _⟩
  rw [show sameL xs ys = (xs == ys) by unfold sameL; by_cases h : xs = ys <;> simp [h]]
  rfl


end Go.Proofs.YtacbpdampdikjaaDoor

namespace Go.Proofs.YtacbpdampdikjaaDoor
open Go.RowKit

set_option maxHeartbeats 400000 in
theorem same_any (B n m c d : Nat) (A C : Option Addr) (xs ys : List UInt8) (w : World) (hx : Rd w B A n (Byt xs)) (hy : Rd w B C m (Byt ys)) :
    Calls Tryd.prog 35 #[.slice A n c, .slice C m d] w (Ans w (.bool (sameL xs ys))) := by
  go_enter Tryd.func35, Tryd.ntmps35
  go_wp2_with fail
  refine (bequal_any B n m c d A C xs ys _ hx hy).mono ?_
  rintro e w1 ⟨rfl, hb⟩
  go_wp2
  go_ret
  exact ⟨rfl, hb⟩

end Go.Proofs.YtacbpdampdikjaaDoor

namespace Go.Proofs.YtacbpdampdikjaaDoor
open Go.RowKit

set_option maxHeartbeats 800000 in
theorem check_any (B n c m d k f : Nat) (A C D : Option Addr) (xs ys zs : List UInt8) (w : World) (hx : Rd w B A n (Byt xs)) (hok : SlOK A n c) (hn : n ≤ 1099511627776)
    (hy : Rd w B C m (Byt ys)) (hyo : SlOK C m d) (hm : m ≤ 549755813888) (hz : Rd w B D k (Byt zs)) (hB : B ≤ w.heap.size) (hK : KsAt w) :
    Calls Tryd.prog 24 #[.slice A n c, .slice C m d, .slice D k f] w (Ans w (.bool (sameL zs (macU xs ys)))) := by
  have h := of_any B n c m d A C xs ys w hx hok hn hy hyo hm hB hK
  have Hz := Lib.hid (fun W (hb : Below w.heap.size w W) => (hz.below (hb.mono hB)).wider (Nat.le_trans hB hb.size))
  clear hx hy hz hB
  generalize macU xs ys = M at h ⊢
  go_enter Tryd.func24, Tryd.ntmps24
  go_wp2_with fail
  refine h.mono ?_
  rintro e w1 ⟨A1, c1, rfl, hown1, hb1⟩
  have h2 := same_any w1.heap.size k M.length f c1 D A1 zs M w1 (Hz.out w1 hb1) (Rd.of_own hown1)
  have Hb1 := Lib.hid hb1; clear hb1 hown1
  go_wp2_with fail
  refine h2.mono ?_
  rintro e w2 ⟨rfl, hb2⟩
  go_wp2
  go_ret
  exact ⟨rfl, bon Hb1.out hb2⟩

end Go.Proofs.YtacbpdampdikjaaDoor

namespace Go.Proofs.YtacbpdampdikjaaDoor
open Go.RowKit

theorem bopen_form (n c m q : Nat) (A C : Option Addr) (w : World) (h : n ≠ 32 ∨ m < 48 ∨ 60048 < m) :
    Calls Tryd.prog 13 #[.slice A n c, .slice C m q] w (NewRF w [] 4) := by
  by_cases h1 : n = 32
  · subst h1
    by_cases h2 : m < 48
    · have n2 : (m : Int) < 48 := by omega
      go_enter Tryd.func13, Tryd.ntmps13
      go_wp2
      go_ret2
      exact ⟨none, 0, rfl, Rd.nil, SlOK.nil, Below.refl _ _⟩
    · have n2 : ¬ ((m : Int) < 48) := by omega
      have n3 : 60048 < (m : Int) := by omega
      go_enter Tryd.func13, Tryd.ntmps13
      go_wp2
      go_ret2
      exact ⟨none, 0, rfl, Rd.nil, SlOK.nil, Below.refl _ _⟩
  · have n1 : ((n : Int) != 32) = true := by simp; omega
    go_enter Tryd.func13, Tryd.ntmps13
    go_wp2
    go_ret2
    exact ⟨none, 0, rfl, Rd.nil, SlOK.nil, Below.refl _ _⟩

set_option maxRecDepth 4096 in
set_option maxHeartbeats 1600000 in
theorem bopen_any (B d m q bb oo : Nat) (A : Option Addr) (ks bs : List UInt8) (w : World) (hk : Rd w B A 32 (Byt ks)) (hko : SlOK A 32 d) (hb : Rd w B (some ⟨bb, oo, none⟩) m (Byt bs)) (hbo : SlOK (some ⟨bb, oo, none⟩) m q) (hm : 48 ≤ m) (hm2 : m ≤ 60048) (hB : B ≤ w.heap.size) (hK : KsAt w) :
    Calls Tryd.prog 13 #[.slice A 32 d, .slice (some ⟨bb, oo, none⟩) m q] w (fun en w' => if bokU ks bs = true then NewRF w (bopenU ks bs) 0 en w' else NewRF w [] 11 en w') := by
  have n2 : ¬ ((m : Int) < 48) := by omega
  have n3 : ¬ (60048 < (m : Int)) := by omega
  obtain ⟨e, he⟩ : ∃ e : Nat, m = e + 32 := ⟨m - 32, by omega⟩
  have hme : (m : Int) - 32 = (e : Int) := by omega
  have hq := hbo.le
  have hq1 : m ≤ q := hq.1
  have he16 : 16 ≤ e := by omega
  have heq : e ≤ q := by omega
  have hqe : e < q := by omega
  have hqn : ¬ q = e := by omega
  have hem : e ≤ m := by omega
  have hq16 : 16 ≤ q := by omega
  have hbl := hb.bytes
  have C1 := bkeys_any B 32 d A ks w hk hko (by decide) hB hK
  have HB := Lib.hid (fun W (h : Below w.heap.size w W) => (hb.below (h.mono hB)).wider (Nat.le_trans hB h.size))
  have HK := Lib.hid hK
  -- the parts of the box
  obtain ⟨E1, hE1, hr1, ho1⟩ : ∃ E1, (if e = 16 then some (⟨bb, oo, none⟩ : Addr) else some ⟨bb, oo + 16, none⟩) = E1 ∧ (∀ W, Below w.heap.size w W → Rd W W.heap.size E1 (e - 16) (Byt ((bs.take e).drop 16))) ∧ SlOK E1 (e - 16) (e - 16) := by
    by_cases h : e = 16
    · subst h
      refine ⟨_, rfl, fun W hW => ?_, ?_⟩
      · rw [if_pos rfl, show (bs.take 16).drop 16 = [] from List.drop_eq_nil_of_le (by rw [List.length_take]; omega)]
        exact ⟨rfl, fun h => absurd h (by omega)⟩
      · rw [if_pos rfl]; exact .inr ⟨_, rfl, Nat.le_refl _, by unfold maxLen; omega⟩
    · refine ⟨_, rfl, fun W hW => ?_, ?_⟩
      · rw [if_neg h, Byt_drop]
        exact ((HB.out W hW).front hem).tail he16
      · rw [if_neg h]; exact .inr ⟨_, rfl, Nat.le_refl _, by unfold maxLen; omega⟩
  have Hf : Hid (∀ W, Below w.heap.size w W → Rd W W.heap.size (some ⟨bb, oo, none⟩) e (Byt (bs.take e))) := Lib.hid (fun W hW => (HB.out W hW).front hem)
  have Hn : Hid (∀ W, Below w.heap.size w W → Rd W W.heap.size (some ⟨bb, oo, none⟩) 16 (Byt (bs.take 16))) := Lib.hid (fun W hW => (HB.out W hW).front (by omega))
  have Ht : Hid (∀ W, Below w.heap.size w W → Rd W W.heap.size (some ⟨bb, oo + e, none⟩) 32 (Byt (bs.drop e))) := Lib.hid (fun W hW => by
    have := (HB.out W hW).tail hem
    rw [show m - e = 32 by omega, ← Byt_drop] at this
    exact this)
  have Hok : Hid (bokU ks bs = sameL (bs.drop e) (macU (deriveU ks tagB) (bs.take e))) := Lib.hid (by rw [bokU, hbl, show m - 32 = e by omega]; rfl)
  have Hop : Hid (bopenU ks bs = coverU (akeysU (deriveU ks sealB)) (bs.take 16) ((bs.take e).drop 16)) := Lib.hid (by rw [bopenU, hbl, show m - 32 = e by omega]; rfl)
  have hol : (bopenU ks bs).length = e - 16 := by rw [bopenU, bhide_length, hbl, List.length_drop, List.length_take, hbl]; omega
  have C2 := fun A2 c2 W (h : Below w.heap.size w W) (hr : Rd W W.heap.size A2 32 (Byt (deriveU ks tagB))) (ho : SlOK A2 32 c2) =>
    check_any W.heap.size 32 c2 e e 32 (q - e) A2 (some ⟨bb, oo, none⟩) (some ⟨bb, oo + e, none⟩) _ _ _ W hr ho (by decide) (Hf.out W h) (.inr ⟨_, rfl, Nat.le_refl _, by unfold maxLen; omega⟩) (by omega) (Ht.out W h) (Nat.le_refl _) (HK.out.below h)
  have C3 := fun A1 c1 W (h : Below w.heap.size w W) (hr : Rd W W.heap.size A1 32 (Byt (deriveU ks sealB))) (ho : SlOK A1 32 c1) =>
    cover_any _ _ _ c1 16 (e - 16) W.heap.size (e - 16) A1 (some ⟨bb, oo, none⟩) E1 W hr ho.le.1 (Hn.out W h) (hr1 W h) (Nat.le_refl _) (by omega)
  rw [← Hok.out] at C2
  rw [← Hop.out] at C3
  unfold NewRF at C3
  rw [hol] at C3
  have Hfin : Hid (∀ A' c' w', Rd w' w'.heap.size A' (e - 16) (Byt (bopenU ks bs)) → SlOK A' (e - 16) c' → Below w.heap.size w w' → NewRF w (bopenU ks bs) 0 (.returned (.tuple #[.slice A' (e - 16) c', .int .i64 0])) w') := Lib.hid (by
    intro A' c' w' hr ho hb
    refine ⟨A', c', by rw [hol], ?_, ?_, hb⟩
    · rw [hol]; exact hr
    · rw [hol]; exact ho)
  have Hno : Hid (∀ w', Below w.heap.size w w' → NewRF w [] 11 (.returned (.tuple #[.slice none 0 0, .int .i64 11])) w') := Lib.hid (fun w' hb => ⟨none, 0, rfl, Rd.nil, SlOK.nil, hb⟩)
  clear hol hk hb hbo hK hr1 ho1 hbl hko
  revert C1 C2 C3 Hfin Hno
  clear Hok Hop Hf Hn Ht HB HK
  generalize bokU ks bs = ok
  generalize bopenU ks bs = X
  generalize deriveU ks sealB = K1
  generalize deriveU ks tagB = K2
  intro C1 C2 C3 Hfin Hno
  have H1 := Lib.hid C1
  have H2 := Lib.hid C2
  have H3 := Lib.hid C3
  clear C1 C2 C3
  revert Hfin Hno
  generalize NewRF w X 0 = G1
  generalize NewRF w [] 11 = G2
  intro Hfin Hno
  have hme2 : m - e = 32 := by omega
  have He := Lib.hid he
  clear he hm hm2 hq
  have HE1 := Lib.hid hE1
  clear hE1
  generalize hG : (fun (en : Ending) w' => if ok = true then G1 en w' else G2 en w') = G
  have HG := Lib.hid hG
  clear hG
  go_enter Tryd.func13, Tryd.ntmps13
  go_wp2_with fail
  refine H1.out.mono ?_
  rintro en w1 ⟨A1, c1, A2, c2, rfl, hr1, ho1, hr2, ho2, hb1⟩
  have Hr1 := Lib.hid hr1
  have Ho1 := Lib.hid ho1
  have Hr2 := Lib.hid hr2
  have Ho2 := Lib.hid ho2
  have Hb1 := Lib.hid hb1
  clear hr1 ho1 hr2 ho2 hb1
  go_wp2_with fail
  go_region
  simp only [HE1.out]
  go_wp2_with fail
  have c3 := fun W hb => H2.out A2 c2 W (bon Hb1.out hb) ((Hr2.out.below hb).wider hb.size) Ho2.out
  have C3 := Lib.hid c3
  clear c3
  refine wp_region_heldD (S := fun w' => Below w1.heap.size w1 w') (by kernel_rfl) ?_
  refine wpAnyH_takeD (i := 0) (v := .slice A2 32 c2) (some 38) rfl rfl (by kernel_rfl) (fun _ _ _ h => h) (.inl ⟨by rfl, fun W _ => rfl⟩) (((Below.refl w1.heap.size w1).drew.drew)) ?_
  simp only [Act.put, List.setIfInBounds_toArray, List.set_cons_zero, List.set_cons_succ]
  refine wpAnyH_takeD (i := 1) (v := .slice (some ⟨bb, oo, none⟩) m q) (some 39) rfl rfl (by kernel_rfl) (fun _ _ _ h => h) (.inl ⟨by rfl, fun W _ => rfl⟩) (((Below.refl w1.heap.size w1).drew.drew)) ?_
  simp only [Act.put, List.setIfInBounds_toArray, List.set_cons_zero, List.set_cons_succ]
  refine wpAnyH_takeD (i := 2) (v := .int .i64 (e : Int)) (some 40) rfl rfl (by kernel_rfl) (fun _ _ _ h => h) (.inl ⟨by rfl, fun W _ => rfl⟩) (((Below.refl w1.heap.size w1).drew.drew)) ?_
  simp only [Act.put, List.setIfInBounds_toArray, List.set_cons_zero, List.set_cons_succ]
  refine wpAnyH_takeD (i := 3) (v := .int .i64 (e : Int)) (some 41) rfl rfl (by kernel_rfl) (fun _ _ _ h => h) (.inl ⟨by rfl, fun W _ => rfl⟩) (((Below.refl w1.heap.size w1).drew.drew)) ?_
  simp only [Act.put, List.setIfInBounds_toArray, List.set_cons_zero, List.set_cons_succ]
  refine wpAnyH_takeD (i := 4) (v := .slice (some ⟨bb, oo, none⟩) e e) (some 42) rfl rfl (by kernel_rfl) (fun _ _ _ h => h) (.inl ⟨by rfl, fun W _ => by go_simp⟩) (((Below.refl w1.heap.size w1).drew.drew)) ?_
  simp only [Act.put, List.setIfInBounds_toArray, List.set_cons_zero, List.set_cons_succ]
  refine wpAnyH_takeD (i := 5) (v := .slice (some ⟨bb, oo, none⟩) m q) (some 43) rfl rfl (by kernel_rfl) (fun _ _ _ h => h) (.inl ⟨by rfl, fun W _ => rfl⟩) (((Below.refl w1.heap.size w1).drew.drew)) ?_
  simp only [Act.put, List.setIfInBounds_toArray, List.set_cons_zero, List.set_cons_succ]
  refine wpAnyH_takeD (i := 6) (v := .int .i64 (e : Int)) (some 44) rfl rfl (by kernel_rfl) (fun _ _ _ h => h) (.inl ⟨by rfl, fun W _ => rfl⟩) (((Below.refl w1.heap.size w1).drew.drew)) ?_
  simp only [Act.put, List.setIfInBounds_toArray, List.set_cons_zero, List.set_cons_succ]
  refine wpAnyH_takeD (i := 7) (v := .slice (some ⟨bb, oo + e, none⟩) 32 (q - e)) (some 45) rfl rfl (by kernel_rfl) (fun _ _ _ h => h) (.inl ⟨by rfl, fun W _ => by go_simp⟩) (((Below.refl w1.heap.size w1).drew.drew)) ?_
  simp only [Act.put, List.setIfInBounds_toArray, List.set_cons_zero, List.set_cons_succ]
  refine wpAnyH_oneD (i := 8) (by kernel_rfl) rfl (fun K1 hK1 => ?_)
  refine stepE_callW (v := .bool ok) (R := fun w' => Below _ _ w') (some 46) rfl (by rfl) 24 Tryd.func24 (by kernel_rfl) rfl _ _ rfl [.slice A2 32 c2, .slice (some ⟨bb, oo, none⟩) e e, .slice (some ⟨bb, oo + e, none⟩) 32 (q - e)] rfl (C3.out _ ((Below.refl w1.heap.size w1).drew.drew)) (fun W1 hW => hK1.out _ _ (bon ((Below.refl w1.heap.size w1).drew.drew) hW) ?_)
  have F1 := Lib.hid (bon ((Below.refl w1.heap.size w1).drew.drew) hW)
  clear hW hK1 K1
  simp only [Act.put, List.setIfInBounds_toArray, List.set_cons_zero, List.set_cons_succ]
  refine wpAnyH_takeD (i := 9) (v := .bool (!ok)) (some 47) rfl rfl (by kernel_rfl) (fun _ _ _ h => h) (.inl ⟨by rfl, fun W _ => by go_simp⟩) (F1.out) ?_
  simp only [Act.put, List.setIfInBounds_toArray, List.set_cons_zero, List.set_cons_succ]
  refine wpAnyH_doneD (by kernel_rfl) ?_
  have Hb2 := Lib.hid (bon Hb1.out F1.out)
  have Hr12 := Lib.hid ((Hr1.out.below F1.out).wider F1.out.size)
  clear F1 Hr1 Hr2 Ho2 C3
  cases ok
  · have Hg : Hid (G (.returned (.tuple #[.slice none 0 0, .int .i64 11])) W1) := Lib.hid (by rw [← HG.out]; exact Hno.out _ Hb2.out)
    go_wp2
    exact Hg.out
  · have h3 := H3.out A1 c1 W1 Hb2.out Hr12.out Ho1.out
    go_wp2_with fail
    refine h3.mono ?_
    rintro en w3 ⟨A3, c3, rfl, hr3, ho3, hb3⟩
    have Hg : Hid (G (.returned (.tuple #[.slice A3 (e - 16) c3, .int .i64 0])) w3) := Lib.hid (by rw [← HG.out]; exact Hfin.out A3 c3 w3 hr3 ho3 (bon Hb2.out hb3))
    clear hr3 ho3 hb3 h3
    go_wp2
    exact Hg.out

end Go.Proofs.YtacbpdampdikjaaDoor

namespace Go.Proofs.YtacbpdampdikjaaDoor
open Go.RowKit

set_option maxHeartbeats 800000 in
theorem rget_any (B n c : Nat) (A : Option Addr) (xs : List UInt8) (w : World) (hx : Rd w B A n (Byt xs)) (hn : n ≤ maxLen) :
    Calls Tryd.prog 88 #[.slice A n c] w (Ans w (getV xs)) := by
  unfold maxLen at hn
  have hxl := hx.bytes
  by_cases h : 1 ≤ n ∧ n ≤ 8
  · have hv : getV xs = .tuple #[.int .u64 (getL xs), .int .i64 0] := by rw [getV, if_pos (by omega)]
    rw [hv]
    obtain ⟨h1, h8⟩ := h
    have Hx := Lib.hid hxl; clear hxl hv
    go_enter Tryd.func88, Tryd.ntmps88
    go_wp2
    go_loop [4, 5] (fun v i => ∃ k : Nat, k ≤ n ∧ i = .int .i64 k ∧ v = .int .u64 (getL (xs.take k))) (fun _ i => n - (intOf i).toNat)
    case atStart => exact ⟨0, Nat.zero_le _, rfl, rfl⟩
    case round =>
      obtain ⟨k, hk, rfl, rfl⟩ := hrel
      by_cases hlt : k < n
      · have hkx : k < xs.length := by rw [Hx.out]; exact hlt
        obtain ⟨b, o, rfl, hb, hc⟩ := hx.byte hlt hkx
        have hs : getL (xs.take (k + 1)) = getL (xs.take k) * 256 + xs[k].toNat := by rw [take_succ_get _ _ hkx, getL_snoc]
        have Hs := Lib.hid hs; clear hs
        have hbd := getL_take_lt (l := xs) (k := k) (by omega)
        have hby := xs[k].toNat_lt
        go_wp2
        go_round
        case rel => exact ⟨k + 1, by omega, by go_num, by rw [Hs.out]; go_num⟩
        case measure => simp [intOf]; omega
      · go_wp2
        go_ret2
        exact ⟨by rw [show xs.take k = xs from List.take_of_length_le (by rw [Hx.out]; omega)]; rfl, Below.refl _ _⟩
  · have hv : getV xs = .tuple #[.int .u64 0, .int .i64 4] := by rw [getV, if_neg (by omega)]
    rw [hv]
    rcases (show n < 1 ∨ 8 < n by omega) with h' | h'
    all_goals
      clear hxl hv
      go_enter Tryd.func88, Tryd.ntmps88
      go_wp2
      go_ret2
      exact ⟨rfl, Below.refl _ _⟩


end Go.Proofs.YtacbpdampdikjaaDoor

namespace Go.Proofs.YtacbpdampdikjaaDoor
open Go.RowKit

set_option maxHeartbeats 1600000 in
theorem rwords_any (B n c : Nat) (A : Option Addr) (xs : List UInt8) (w : World) (hx : Rd w B A n (Byt xs)) (hnc : n ≤ c) (hn : n ≤ 8796093022208) (hB : B ≤ w.heap.size) :
    Calls Tryd.prog 67 #[.slice A n c] w (AnsA w .u32 (wordsU xs)) := by
  have hxl := hx.bytes
  by_cases h64 : n = 64
  · subst h64
    have Hw : Hid (wordsU xs = wordsL xs 64) := Lib.hid (by unfold wordsU; rw [if_pos hxl])
    have Hlow : Hid (∀ j, j < 16 → (wordsL xs 64).getD j 0 = getL ((xs.drop (4 * j)).take 4)) := Lib.hid fun j h => words_low h
    have Hhigh : Hid (∀ t, 16 ≤ t → t < 64 → (wordsL xs 64).getD t 0 = (sig1U ((wordsL xs 64).getD (t - 2) 0) + (wordsL xs 64).getD (t - 7) 0 + sig0U ((wordsL xs 64).getD (t - 15) 0) + (wordsL xs 64).getD (t - 16) 0) % 4294967296) := Lib.hid fun t h h2 => words_high h h2
    have Hlen : Hid ((wordsL xs 64).length = 64) := Lib.hid (words_len xs)
    have Hlt : Hid (∀ j, (wordsL xs 64).getD j 0 < 4294967296) := Lib.hid (getD_lt (wordsL_lt xs 64) (by decide))
    rw [Hw.out]
    clear Hw
    revert Hlow Hhigh Hlen Hlt
    generalize wordsL xs 64 = L
    intro Hlow Hhigh Hlen Hlt
    obtain ⟨b, o, rfl, hbB, -⟩ := hx.2 (by decide)
    have Hx := Lib.hid hx
    have Hxl := Lib.hid hxl
    clear hx hxl
    go_enter Tryd.func67, Tryd.ntmps67
    go_wp2_with (refine wp_alloc_arr (k := .u32) rfl 57 rfl 64 zero64 ?_)
    intro w1 g1 G1 H1 Hb1 Hs1
    go_wp2_with (refine wp_alloc_arr (k := .u32) rfl 57 rfl 64 zero64 ?_)
    intro w2 g2 G2 H2 Hb2 Hs2
    have Hg : Hid (w.heap.size ≤ g1 ∧ g1 ≠ g2 ∧ w.heap.size ≤ g2) := Lib.hid (by have := G1.out; have := G2.out; have := Hs1.out; omega)
    have H1' : Hid (Arr w2 g1 57 .u32 (Zs 64)) := Lib.hid (H1.out.below Hb2.out (by have := G1.out; have := Hs1.out; omega))
    have Hb : Hid (Below w.heap.size w w2) := Lib.hid (Hb1.out.trans (Hb2.out.mono (by have := Hs1.out; omega)))
    clear H1 Hb1 Hb2 G1 G2 Hs1 Hs2
    go_wp2
    go_loopw [4] (fun i wr => ∃ j : Nat, j ≤ 16 ∧ i = .int .i64 (j : Int) ∧ Hid (Arr wr g1 57 .u32 (Zs 64)) ∧ Hid (Arr wr g2 57 .u32 (L.take j ++ (Zs 64).drop j)) ∧ Hid (Below w.heap.size w wr)) (fun i _ => 16 - (intOf i).toNat)
    case atStart => exact ⟨0, by omega, rfl, H1', H2, Hb⟩
    case round =>
      clear H1' H2 Hb
      obtain ⟨j, hj, rfl, A1, A2, Hbr⟩ := hrel
      by_cases hj16 : j < 16
      · have hp := (Hx.out.below (Hbr.out.mono hB)).part (p := 4 * j) (q := 4) (by omega)
        rw [← Byt_drop, ← Byt_take] at hp
        have Hp := Lib.hid hp; clear hp
        have hV : getV ((xs.drop (4 * j)).take 4) = .tuple #[.int .u64 ((L.getD j 0 : Nat) : Int), .int .i64 0] := by
          have hl4 : ((xs.drop (4 * j)).take 4).length = 4 := by rw [List.length_take, List.length_drop, Hxl.out]; omega
          unfold getV
          rw [if_pos (by omega), Hlow.out j hj16]
        have hg := fun c' => rget_any B 4 c' (some ⟨b, o + 4 * j, none⟩) _ wr Hp.out (by unfold maxLen; omega)
        rw [hV] at hg
        have hxb := Hlt.out j
        have hjL : j < L.length := by rw [Hlen.out]; omega
        have hjZ : j < (Zs 64).length := by rw [Zs_length]; omega
        have Hset : Hid ((L.take j ++ (Zs 64).drop j).set j (L.getD j 0) = L.take (j + 1) ++ (Zs 64).drop (j + 1)) := Lib.hid (by
          rw [List.getD_eq_getElem?_getD, List.getElem?_eq_getElem hjL]; exact afill_set hjL hjZ)
        have hc3 := A2.out.at_ (fill_get hjZ (Nat.le_of_lt hjL))
        revert hg hxb Hset hc3
        generalize L.getD j 0 = x
        generalize (Zs 64)[j] = z0
        intro hg hxb Hset hc3
        have t1 : (4 * (j : Int)).toNat = 4 * j := by omega
        have t2 : (4 * (j : Int) + 4).toNat - 4 * j = 4 := by omega
        have hxc : (x : Int) % 4294967296 = (x : Int) := by omega
        have hf3 := A2.out.frozen j
        go_wp2_with fail
        refine (hg _).mono ?_
        rintro e w3 ⟨rfl, hb3⟩
        have A3 : Hid (Arr w3 g2 57 .u32 (L.take j ++ (Zs 64).drop j)) := Lib.hid (A2.out.below hb3 A2.out.lt)
        have A1' : Hid (Arr w3 g1 57 .u32 (Zs 64)) := Lib.hid (A1.out.below hb3 A1.out.lt)
        have Hbr3 : Hid (Below w.heap.size w w3) := Lib.hid (Hbr.out.trans (hb3.mono Hbr.out.size))
        have hc3' := A3.out.cell (j := j) (by rw [fill_length (by rw [Hlen.out, Zs_length])]; exact hjZ)
        have hf3' := A3.out.frozen j
        clear hb3
        go_wp2
        go_roundw
        case rel => exact ⟨j + 1, by omega, by go_num, Lib.hid (A1'.out.other Hg.out.2.1), Lib.hid (by rw [← Hset.out]; exact A3.out.set), Lib.hid (Hbr3.out.setCell Hg.out.2.2 _)⟩
        case measure => simp [intOf]; omega
      · obtain rfl : j = 16 := by omega
        rw [show ((16 : Nat) : Int) = 16 from rfl]
        go_wp2
        go_loopw [7] (fun i wr => ∃ t : Nat, 16 ≤ t ∧ t ≤ 64 ∧ i = .int .i64 (t : Int) ∧ Hid (Arr wr g1 57 .u32 (Zs 64)) ∧ Hid (Arr wr g2 57 .u32 (L.take t ++ (Zs 64).drop t)) ∧ Hid (Below w.heap.size w wr)) (fun i _ => 64 - (intOf i).toNat)
        case atStart => exact ⟨16, by omega, by omega, rfl, A1, A2, Hbr⟩
        case round =>
          clear A1 A2 Hbr
          obtain ⟨t, ht16, ht, rfl, A1, A2, Hbr⟩ := hrel
          by_cases ht64 : t < 64
          · have hL : L.length = 64 := Hlen.out
            have hst := Hhigh.out t ht16 ht64
            have q2 : (L.take t ++ (Zs 64).drop t)[t - 2]? = some (L.getD (t - 2) 0) := take_get (by omega) (by omega)
            have q15 : (L.take t ++ (Zs 64).drop t)[t - 15]? = some (L.getD (t - 15) 0) := take_get (by omega) (by omega)
            have q7 : (L.take t ++ (Zs 64).drop t)[t - 7]? = some (L.getD (t - 7) 0) := take_get (by omega) (by omega)
            have q16 : (L.take t ++ (Zs 64).drop t)[t - 16]? = some (L.getD (t - 16) 0) := take_get (by omega) (by omega)
            have htL : t < L.length := by omega
            have htZ : t < (Zs 64).length := by rw [Zs_length]; omega
            have hlen2 : (L.take t ++ (Zs 64).drop t).length = 64 := by rw [fill_length (by rw [hL, Zs_length]), Zs_length]
            have Hset : Hid ((L.take t ++ (Zs 64).drop t).set t (L.getD t 0) = L.take (t + 1) ++ (Zs 64).drop (t + 1)) := Lib.hid (by
              rw [List.getD_eq_getElem?_getD, List.getElem?_eq_getElem htL]; exact afill_set htL htZ)
            have c7 := A2.out.at_ q7
            have c16 := A2.out.at_ q16
            obtain ⟨zt, ct⟩ : ∃ zt, wr.cell? ⟨g2, t, none⟩ = some zt := ⟨_, A2.out.cell (j := t) (by omega)⟩
            have ft := A2.out.frozen t
            have b2 := Hlt.out (t - 2)
            have b7 := Hlt.out (t - 7)
            have b15 := Hlt.out (t - 15)
            have b16 := Hlt.out (t - 16)
            have c2 := A2.out.at_ q2
            have c15 := A2.out.at_ q15
            have Hs1 : Hid (sig1U (L.getD (t - 2) 0) = rotU 17 (L.getD (t - 2) 0) ^^^ rotU 19 (L.getD (t - 2) 0) ^^^ L.getD (t - 2) 0 / 1024) := Lib.hid rfl
            have Hs0 : Hid (sig0U (L.getD (t - 15) 0) = rotU 7 (L.getD (t - 15) 0) ^^^ rotU 18 (L.getD (t - 15) 0) ^^^ L.getD (t - 15) 0 / 8) := Lib.hid rfl
            have s1b : sig1U (L.getD (t - 2) 0) < 4294967296 := sig1U_lt b2
            have s0b : sig0U (L.getD (t - 15) 0) < 4294967296 := sig0U_lt b15
            have hxt := Hlt.out t
            clear q2 q15 q7 q16 hlen2 hL
            revert hst c7 c16 c2 c15 s1b s0b Hs1 Hs0 Hset b7 b16 b2 b15 hxt
            generalize sig1U (L.getD (t - 2) 0) = s1
            generalize sig0U (L.getD (t - 15) 0) = s0
            generalize L.getD (t - 2) 0 = x
            generalize L.getD (t - 15) 0 = y
            generalize L.getD (t - 7) 0 = w7
            generalize L.getD (t - 16) 0 = w16
            generalize L.getD t 0 = wt
            obtain ⟨i2, e2⟩ : ∃ i2 : Nat, t - 2 = i2 := ⟨_, rfl⟩
            obtain ⟨i7, e7⟩ : ∃ i7 : Nat, t - 7 = i7 := ⟨_, rfl⟩
            obtain ⟨i15, e15⟩ : ∃ i15 : Nat, t - 15 = i15 := ⟨_, rfl⟩
            obtain ⟨i16, e16⟩ : ∃ i16 : Nat, t - 16 = i16 := ⟨_, rfl⟩
            rw [e2, e7, e15, e16]
            intro hst Hset c7 c16 b2 b7 b15 b16 c2 c15 Hs1 Hs0 s1b s0b hxt
            have hr1 : ∀ w', Calls Tryd.prog 68 #[.int .u32 (x : Int), .int .i64 17] w' fun e w'' => e = .returned (.int .u32 ((rotU 17 x : Nat) : Int)) ∧ ∃ k, w'' = w'.drewN k := fun w' => shright_any x 17 w' b2 (by decide) (by decide)
            have hr2 : ∀ w', Calls Tryd.prog 68 #[.int .u32 (x : Int), .int .i64 19] w' fun e w'' => e = .returned (.int .u32 ((rotU 19 x : Nat) : Int)) ∧ ∃ k, w'' = w'.drewN k := fun w' => shright_any x 19 w' b2 (by decide) (by decide)
            have hr3 : ∀ w', Calls Tryd.prog 68 #[.int .u32 (y : Int), .int .i64 7] w' fun e w'' => e = .returned (.int .u32 ((rotU 7 y : Nat) : Int)) ∧ ∃ k, w'' = w'.drewN k := fun w' => shright_any y 7 w' b15 (by decide) (by decide)
            have hr4 : ∀ w', Calls Tryd.prog 68 #[.int .u32 (y : Int), .int .i64 18] w' fun e w'' => e = .returned (.int .u32 ((rotU 18 y : Nat) : Int)) ∧ ∃ k, w'' = w'.drewN k := fun w' => shright_any y 18 w' b15 (by decide) (by decide)
            have r1b : rotU 17 x < 4294967296 := rotU_lt b2
            have r2b : rotU 19 x < 4294967296 := rotU_lt b2
            have r3b : rotU 7 y < 4294967296 := rotU_lt b15
            have r4b : rotU 18 y < 4294967296 := rotU_lt b15
            have m1 := u32_xor_nat (rotU 17 x) (rotU 19 x) r1b r2b
            have m2 := u32_xor_nat (rotU 17 x ^^^ rotU 19 x) (x / 1024) (Nat.xor_lt_two_pow (n := 32) r1b r2b) (by omega)
            have m3 := u32_xor_nat (rotU 7 y) (rotU 18 y) r3b r4b
            have m4 := u32_xor_nat (rotU 7 y ^^^ rotU 18 y) (y / 8) (Nat.xor_lt_two_pow (n := 32) r3b r4b) (by omega)
            rw [← Hs1.out, show ((x / 1024 : Nat) : Int) = (x : Int) / 1024 by rw [Int.natCast_ediv]; rfl] at m2
            rw [← Hs0.out, show ((y / 8 : Nat) : Int) = (y : Int) / 8 by rw [Int.natCast_ediv]; rfl] at m4
            clear Hs1 Hs0 r1b r2b r3b r4b
            revert hr1 hr2 hr3 hr4 m1 m2 m3 m4
            generalize rotU 17 x ^^^ rotU 19 x = a1
            generalize rotU 7 y ^^^ rotU 18 y = a0
            generalize rotU 17 x = r1
            generalize rotU 19 x = r2
            generalize rotU 7 y = r3
            generalize rotU 18 y = r4
            intro hr1 hr2 hr3 hr4 m1 m2 m3 m4
            have p10 : (2 : Int) ^ 10 = 1024 := by decide
            have p3 : (2 : Int) ^ 3 = 8 := by decide
            have f2 : (t : Int) - 2 = (i2 : Int) := by omega
            have f7 : (t : Int) - 7 = (i7 : Int) := by omega
            have f15 : (t : Int) - 15 = (i15 : Int) := by omega
            have f16 : (t : Int) - 16 = (i16 : Int) := by omega
            have l7 : i7 < 64 := by omega
            have l16 : i16 < 64 := by omega
            have l7' : (i7 : Int) < 64 := by omega
            have l2' : (i2 : Int) < 64 := by omega
            have l15' : (i15 : Int) < 64 := by omega
            have l2 : i2 < 64 := by omega
            have l15 : i15 < 64 := by omega
            have l16' : (i16 : Int) < 64 := by omega
            have n7 : i7 ≠ t := by omega
            have n16 : i16 ≠ t := by omega
            have x2 : IntKind.i64.wrap (i2 : Int) = (i2 : Int) := IntWalk.i64_in _ ⟨by omega, by omega⟩
            have x7 : IntKind.i64.wrap (i7 : Int) = (i7 : Int) := IntWalk.i64_in _ ⟨by omega, by omega⟩
            have x15 : IntKind.i64.wrap (i15 : Int) = (i15 : Int) := IntWalk.i64_in _ ⟨by omega, by omega⟩
            have x16 : IntKind.i64.wrap (i16 : Int) = (i16 : Int) := IntWalk.i64_in _ ⟨by omega, by omega⟩
            obtain ⟨y1, hy1⟩ : ∃ y1 : Nat, (s1 + w7) % 4294967296 = y1 := ⟨_, rfl⟩
            obtain ⟨y2, hy2⟩ : ∃ y2 : Nat, (y1 + s0) % 4294967296 = y2 := ⟨_, rfl⟩
            have u1 : IntKind.u32.wrap ((s1 : Int) + (w7 : Int)) = (y1 : Int) := by rw [IntKind.wrap_u32]; omega
            have u2 : IntKind.u32.wrap ((y1 : Int) + (s0 : Int)) = (y2 : Int) := by rw [IntKind.wrap_u32]; omega
            have u3 : IntKind.u32.wrap ((y2 : Int) + (w16 : Int)) = (wt : Int) := by rw [IntKind.wrap_u32]; omega
            clear e2 e7 e15 e16 hy1 hy2 hst
            go_wp2_with fail
            go_quiet (fail)
            go_wp2_with fail
            first
              | (go_region_held (fun w' => w'.cell? ⟨g2, i7, none⟩ = some (.int .u32 (w7 : Int)) ∧ w'.cell? ⟨g2, i16, none⟩ = some (.int .u32 (w16 : Int)))
                (first | exact ⟨c7, c16⟩ | exact ⟨(World.cell?_setCell_other _ _ _ _ (by first | (simp; done) | (simp; omega))).trans c7, (World.cell?_setCell_other _ _ _ _ (by first | (simp; done) | (simp; omega))).trans c16⟩)
                (first | (go_at_call 68; (with_reducible refine (hr1 _).mono ?_); rintro e w3 ⟨rfl, k1, rfl⟩) | (go_at_call 68; (with_reducible refine (hr2 _).mono ?_); rintro e w3 ⟨rfl, k2, rfl⟩) | (go_at_call 68; (with_reducible refine (hr3 _).mono ?_); rintro e w3 ⟨rfl, k3, rfl⟩) | (go_at_call 68; (with_reducible refine (hr4 _).mono ?_); rintro e w3 ⟨rfl, k4, rfl⟩)))
              | fail
            have A2' : ∀ k, Hid (Arr ((wr.drewN k).setCell ⟨g2, t, none⟩ (.int .u32 (wt : Int))) g2 57 .u32 (L.take (t + 1) ++ (Zs 64).drop (t + 1))) := fun k => Lib.hid (by rw [← Hset.out]; exact (A2.out.drewN k).set)
            have A1' : ∀ k, Hid (Arr ((wr.drewN k).setCell ⟨g2, t, none⟩ (.int .u32 (wt : Int))) g1 57 .u32 (Zs 64)) := fun k => Lib.hid ((A1.out.drewN k).other Hg.out.2.1)
            have Hb' : ∀ k, Hid (Below w.heap.size w ((wr.drewN k).setCell ⟨g2, t, none⟩ (.int .u32 (wt : Int)))) := fun k => Lib.hid ((bdrewN Hbr.out k).setCell Hg.out.2.2 _)
            go_wp2
            go_roundw
            case rel => exact ⟨t + 1, by omega, by omega, by go_num, A1' _, A2' _, Hb' _⟩
            case measure => simp [intOf]; omega
          · obtain rfl : t = 64 := by omega
            have A2' : Hid (Arr wr g2 57 .u32 L) := Lib.hid (by have h := A2.out; rwa [fill_all Hlen.out (Zs_length 64)] at h)
            go_wp2_with (first
              | refine wp_load_arr arr64 rfl (.tmp 3) rfl rfl A2'.out Hlen.out ?_
              | refine wp_put_arr arr64 rfl (.tmp 2) (.tmp 74) rfl rfl (l' := L) rfl A1.out (Zs_length _) Hlen.out ?_)
            intro w4 A4 Hm4 Hs4
            go_wp2
            exact ret_arr arr64 rfl rfl A4.out Hlen.out rfl ⟨rfl, Hbr.out.trans (Hm4.out.below (fun k hk => by have := Hg.out; omega) Hbr.out.size)⟩
  · have Hw : Hid (wordsU xs = Zs 64) := Lib.hid (by unfold wordsU; rw [if_neg (by omega)]; rfl)
    rw [Hw.out]
    have h64' : ¬ (n : Int) = 64 := by omega
    go_enter Tryd.func67, Tryd.ntmps67
    go_wp2_with (refine wp_alloc_arr (k := .u32) rfl 57 rfl 64 zero64 ?_)
    intro w1 g1 G1 H1 Hb1 Hs1
    go_wp2_with (refine wp_alloc_arr (k := .u32) rfl 57 rfl 64 zero64 ?_)
    intro w2 g2 G2 H2 Hb2 Hs2
    have H1' : Hid (Arr w2 g1 57 .u32 (Zs 64)) := Lib.hid (H1.out.below Hb2.out (by have := G1.out; have := Hs1.out; omega))
    have Hb : Hid (Below w.heap.size w w2) := Lib.hid (Hb1.out.trans (Hb2.out.mono (by have := Hs1.out; omega)))
    go_wp2_with (first
      | refine wp_load_arr arr64 rfl (.tmp 3) rfl rfl H2.out (Zs_length _) ?_
      | refine wp_put_arr arr64 rfl (.tmp 2) (.tmp 13) rfl rfl (l' := Zs 64) rfl H1'.out (Zs_length _) (Zs_length _) ?_)
    intro w4 A4 Hm4 Hs4
    go_wp2
    exact ret_arr arr64 rfl rfl A4.out (Zs_length _) rfl ⟨rfl, Hb.out.trans (Hm4.out.below (fun k hk => by have := G1.out; omega) Hb.out.size)⟩

end Go.Proofs.YtacbpdampdikjaaDoor

namespace Go.Proofs.YtacbpdampdikjaaDoor
open Go.RowKit

/-- Three turns by turns. -/
theorem turn3_bits (x n1 n2 n3 : Nat) (hx : x < 4294967296) : ∃ a1 : Nat, bits .xor .u32 ((rotU n1 x : Nat) : Int) ((rotU n2 x : Nat) : Int) = (a1 : Int) ∧ bits .xor .u32 (a1 : Int) ((rotU n3 x : Nat) : Int) = ((rotU n1 x ^^^ rotU n2 x ^^^ rotU n3 x : Nat) : Int) :=
  ⟨rotU n1 x ^^^ rotU n2 x, u32_xor_nat _ _ (rotU_lt hx) (rotU_lt hx), u32_xor_nat _ _ (Nat.xor_lt_two_pow (n := 32) (rotU_lt hx) (rotU_lt hx)) (rotU_lt hx)⟩

set_option maxRecDepth 100000 in
set_option maxHeartbeats 4000000 in
theorem rwith_any (B n c : Nat) (A : Option Addr) (xs : List UInt8) (hs : List Nat) (w : World) (hh : Eight hs) (hx : Rd w B A n (Byt xs)) (hnc : n ≤ c) (hn : n ≤ 8796093022208) (hB : B ≤ w.heap.size) :
    Calls Tryd.prog 47 #[.agg (Nums .u32 ksU), .agg (Nums .u32 hs), .slice A n c] w (AnsA w .u32 (blockU hs xs)) := by
  have hxl := hx.bytes
  have Hh := Lib.hid hh; clear hh
  by_cases h64 : n = 64
  · subst h64
    have Hw : Hid (blockU hs xs = plusU (roundsU (wordsU xs) 64 hs) hs) := Lib.hid (by unfold blockU; rw [if_pos hxl])
    have hcw := fun w' (hb : Below w.heap.size w w') => rwords_any B 64 c A xs w' (hx.below (hb.mono hB)) hnc hn (Nat.le_trans hB hb.size)
    have Hcw := Lib.hid hcw
    have HWl : Hid ((wordsU xs).length = 64) := Lib.hid (wordsU_length xs)
    have HWb : Hid (∀ j, (wordsU xs).getD j 0 < 4294967296) := Lib.hid (getD_lt (wordsU_lt xs) (by decide))
    have Hnx : Hid (∀ t v, roundsU (wordsU xs) (t + 1) v = roundU (ksU.getD t 0) ((wordsU xs).getD t 0) (roundsU (wordsU xs) t v)) := Lib.hid fun t v => rfl
    have HKl : Hid (ksU.length = 64) := Lib.hid rfl
    have HKb : Hid (∀ j, ksU.getD j 0 < 4294967296) := Lib.hid (getD_lt ks_lt (by decide))
    have H8 : Hid (∀ W t, Eight (roundsU W t hs)) := Lib.hid fun W t => roundsU_eight W t Hh.out
    have H0 : Hid (roundsU (wordsU xs) 0 hs = hs) := Lib.hid rfl
    clear hcw hx hxl
    rw [Hw.out]
    clear Hw
    revert Hcw HWl HWb Hnx H0 HKl HKb
    generalize wordsU xs = W
    generalize ksU = K
    intro Hcw HWl HWb Hnx HKl HKb H0
    have HS : Hid (∀ t, Eight (roundsU W t hs)) := Lib.hid fun t => H8.out W t
    clear H8
    obtain ⟨R, hR⟩ : ∃ R : Nat → List Nat, ∀ t, roundsU W t hs = R t := ⟨_, fun _ => rfl⟩
    have HS2 : Hid (∀ t, Eight (R t)) := Lib.hid fun t => by rw [← hR]; exact HS.out t
    have HN2 : Hid (∀ t, R (t + 1) = roundU (K.getD t 0) (W.getD t 0) (R t)) := Lib.hid fun t => by rw [← hR, ← hR]; exact Hnx.out t hs
    have HR0 : Hid (R 0 = hs) := Lib.hid (by rw [← hR]; exact H0.out)
    rw [hR 64]
    clear hR HS Hnx H0
    go_enter Tryd.func47, Tryd.ntmps47
    go_wp2_with (refine wp_box_arr (k := .u32) rfl 57 (.tmp 0) rfl K rfl ?_)
    intro w1 g1 G1 H1 Hb1 Hs1
    go_wp2_with (refine wp_box_arr (k := .u32) rfl 59 (.tmp 1) rfl hs rfl ?_)
    intro w2 g2 G2 H2 Hb2 Hs2
    go_wp2_with (refine wp_alloc_arr (k := .u32) rfl 59 rfl 8 zero8 ?_)
    intro w3 g3 G3 H3 Hb3 Hs3
    have B3 : Hid (Below w.heap.size w w3) := Lib.hid ((Hb1.out.trans (Hb2.out.mono Hb1.out.size)).trans (Hb3.out.mono (Nat.le_trans Hb1.out.size Hb2.out.size)))
    have K1 : Hid (Arr w3 g1 57 .u32 K) := Lib.hid ((H1.out.below Hb2.out H1.out.lt).below Hb3.out (Nat.lt_of_lt_of_le H1.out.lt Hb2.out.size))
    have K2 : Hid (Arr w3 g2 59 .u32 hs) := Lib.hid (H2.out.below Hb3.out H2.out.lt)
    have Hg : Hid (w.heap.size ≤ g1 ∧ w.heap.size ≤ g2 ∧ w.heap.size ≤ g3 ∧ g1 ≠ g2 ∧ g1 ≠ g3 ∧ g2 ≠ g3 ∧ g1 < w3.heap.size ∧ g2 < w3.heap.size ∧ g3 < w3.heap.size) := Lib.hid (by have := G1.out; have := G2.out; have := G3.out; have := Hs1.out; have := Hs2.out; have := Hs3.out; omega)
    clear H1 H2 Hb1 Hb2 Hb3 Hs1 Hs2 Hs3 G1 G2 G3
    go_wp2_with fail
    refine (Hcw.out _ B3.out).mono ?_
    rintro e w5 ⟨rfl, hb5⟩
    have hsz : w3.heap.size ≤ w5.heap.size := hb5.size
    have L1 : Hid (Arr w5 g1 57 .u32 K) := Lib.hid (K1.out.below hb5 K1.out.lt)
    have L2 : Hid (Arr w5 g2 59 .u32 hs) := Lib.hid (K2.out.below hb5 K2.out.lt)
    have L3 : Hid (Arr w5 g3 59 .u32 (Zs 8)) := Lib.hid (H3.out.below hb5 H3.out.lt)
    have B5 : Hid (Below w.heap.size w w5) := Lib.hid (B3.out.trans (hb5.mono B3.out.size))
    have Hg5 : Hid (w.heap.size ≤ g1 ∧ w.heap.size ≤ g2 ∧ w.heap.size ≤ g3 ∧ g1 ≠ g2 ∧ g1 ≠ g3 ∧ g2 ≠ g3 ∧ g1 < w5.heap.size ∧ g2 < w5.heap.size ∧ g3 < w5.heap.size) := Lib.hid (by have := Hg.out; omega)
    clear hb5 hsz B3 K1 K2 H3 Hcw Hg
    go_wp2_with (refine wp_alloc_arr (k := .u32) rfl 57 rfl 64 zero64 ?_)
    intro w6 g4 G4 H4 Hb6 Hs6
    go_wp2_with (refine wp_put_arr arr64 rfl (.tmp 7) (.tmp 20) rfl rfl (l' := W) rfl H4.out (Zs_length _) HWl.out ?_)
    intro w7 H7 Hm7 Hs7
    have hg4 : ¬ g1 = g4 ∧ ¬ g2 = g4 ∧ ¬ g3 = g4 ∧ w.heap.size ≤ g4 := by have := Hg5.out; have := G4.out; omega
    have M1 : Hid (Arr w7 g1 57 .u32 K) := Lib.hid ((L1.out.below Hb6.out L1.out.lt).moves Hm7.out hg4.1)
    have M2 : Hid (Arr w7 g2 59 .u32 hs) := Lib.hid ((L2.out.below Hb6.out L2.out.lt).moves Hm7.out hg4.2.1)
    have M3 : Hid (Arr w7 g3 59 .u32 (Zs 8)) := Lib.hid ((L3.out.below Hb6.out L3.out.lt).moves Hm7.out hg4.2.2.1)
    have B7 : Hid (Below w.heap.size w w7) := Lib.hid ((B5.out.trans (Hb6.out.mono B5.out.size)).trans (Hm7.out.below (fun k hk => by omega) (Nat.le_trans B5.out.size Hb6.out.size)))
    have Hg7 : Hid (w.heap.size ≤ g3 ∧ g1 ≠ g3 ∧ g2 ≠ g3 ∧ g3 ≠ g4 ∧ g1 < w7.heap.size ∧ g2 < w7.heap.size ∧ g3 < w7.heap.size ∧ g4 < w7.heap.size) := Lib.hid (by have := Hg5.out; have := Hs6.out; have := Hs7.out; have := G4.out; omega)
    clear hg4 L1 L2 L3 B5 Hg5 Hb6 Hm7 H4 G4 Hs6 Hs7
    go_wp2_with (first
      | refine wp_load_arr arr8 rfl (.tmp 4) rfl rfl M2.out Hh.out.1 ?_
      | refine wp_alloc_arr (k := .u32) rfl 59 rfl 8 zero8 ?_)
    intro w8 g5 G5 H8 Hb8 Hs8
    go_wp2_with (refine wp_put_arr arr8 rfl (.tmp 8) (.tmp 21) rfl rfl (l' := hs) rfl H8.out (Zs_length _) Hh.out.1 ?_)
    intro w9 H9 Hm9 Hs9
    have Hg : Hid (w.heap.size ≤ g3 ∧ w.heap.size ≤ g5 ∧ g1 ≠ g5 ∧ g2 ≠ g5 ∧ g3 ≠ g5 ∧ g4 ≠ g5) := Lib.hid (by have := Hg7.out; have := G5.out; have := B7.out.size; omega)
    have N1 : Hid (Arr w9 g1 57 .u32 K) := Lib.hid ((M1.out.below Hb8.out M1.out.lt).moves Hm9.out Hg.out.2.2.1)
    have N2 : Hid (Arr w9 g2 59 .u32 hs) := Lib.hid ((M2.out.below Hb8.out M2.out.lt).moves Hm9.out Hg.out.2.2.2.1)
    have N3 : Hid (Arr w9 g3 59 .u32 (Zs 8)) := Lib.hid ((M3.out.below Hb8.out M3.out.lt).moves Hm9.out Hg.out.2.2.2.2.1)
    have N4 : Hid (Arr w9 g4 57 .u32 W) := Lib.hid ((H7.out.below Hb8.out H7.out.lt).moves Hm9.out Hg.out.2.2.2.2.2)
    have N5 : Hid (Arr w9 g5 59 .u32 (R 0)) := Lib.hid (by rw [HR0.out]; exact H9.out)
    have B9 : Hid (Below w.heap.size w w9) := Lib.hid ((B7.out.trans (Hb8.out.mono B7.out.size)).trans (Hm9.out.below (fun k hk => by have := Hg.out; omega) (Nat.le_trans B7.out.size Hb8.out.size)))
    clear M1 M2 M3 B7 Hg7 H7 H8 H9 Hb8 Hm9 G5 Hs8 Hs9 HR0
    go_wp2
    go_loopw [9] (fun i wr => ∃ t : Nat, t ≤ 64 ∧ i = .int .i64 (t : Int) ∧ Hid (Arr wr g1 57 .u32 K) ∧ Hid (Arr wr g2 59 .u32 hs) ∧ Hid (Arr wr g3 59 .u32 (Zs 8)) ∧ Hid (Arr wr g4 57 .u32 W) ∧ Hid (Arr wr g5 59 .u32 (R t)) ∧ Hid (Below w.heap.size w wr)) (fun i _ => 64 - (intOf i).toNat)
    case atStart => exact ⟨0, by omega, rfl, N1, N2, N3, N4, N5, B9⟩
    case round =>
      clear N1 N2 N3 N4 N5 B9
      obtain ⟨t, ht, rfl, A1, A2, A3, A4, A5, Hbr⟩ := hrel
      by_cases ht64 : t < 64
      · have hv := HS2.out t
        have Hnext := Lib.hid (HN2.out t)
        have hkb := HKb.out t
        have hwb := HWb.out t
        have hWt : W[t]? = some (W.getD t 0) := by rw [List.getD_eq_getElem?_getD, List.getElem?_eq_getElem (by rw [HWl.out]; exact ht64)]; rfl
        have hKt : K[t]? = some (K.getD t 0) := by rw [List.getD_eq_getElem?_getD, List.getElem?_eq_getElem (by rw [HKl.out]; exact ht64)]; rfl
        have ck := A1.out.at_ hKt
        have cw := A4.out.at_ hWt
        clear hWt hKt
        revert ck cw Hnext hkb hwb A5 hv
        generalize K.getD t 0 = kt
        generalize W.getD t 0 = wt
        generalize R t = v
        generalize hv2 : R (t + 1) = v'
        intro A5 hv Hnext hkb hwb ck cw
        have Hv2 := Lib.hid hv2; clear hv2
        obtain ⟨a, b, cc, d, e, f, g, i, rfl⟩ := hv.form
        have c0 := A5.out.at_ (j := 0) rfl
        have c1 := A5.out.at_ (j := 1) rfl
        have c2 := A5.out.at_ (j := 2) rfl
        have c3 := A5.out.at_ (j := 3) rfl
        have c4 := A5.out.at_ (j := 4) rfl
        have c5 := A5.out.at_ (j := 5) rfl
        have c6 := A5.out.at_ (j := 6) rfl
        have c7 := A5.out.at_ (j := 7) rfl
        have hlt := hv.2
        simp only [List.mem_cons, List.not_mem_nil, or_false, forall_eq_or_imp, forall_eq] at hlt
        obtain ⟨ba, bb, bc, bd, be, bf, bg, bi⟩ := hlt
        clear hv
        have hr1 : ∀ w', Calls Tryd.prog 68 #[.int .u32 (e : Int), .int .i64 6] w' fun r w'' => r = .returned (.int .u32 ((rotU 6 e : Nat) : Int)) ∧ ∃ k, w'' = w'.drewN k := fun w' => shright_any e 6 w' be (by decide) (by decide)
        have hr2 : ∀ w', Calls Tryd.prog 68 #[.int .u32 (e : Int), .int .i64 11] w' fun r w'' => r = .returned (.int .u32 ((rotU 11 e : Nat) : Int)) ∧ ∃ k, w'' = w'.drewN k := fun w' => shright_any e 11 w' be (by decide) (by decide)
        have hr3 : ∀ w', Calls Tryd.prog 68 #[.int .u32 (e : Int), .int .i64 25] w' fun r w'' => r = .returned (.int .u32 ((rotU 25 e : Nat) : Int)) ∧ ∃ k, w'' = w'.drewN k := fun w' => shright_any e 25 w' be (by decide) (by decide)
        have hr4 : ∀ w', Calls Tryd.prog 68 #[.int .u32 (a : Int), .int .i64 2] w' fun r w'' => r = .returned (.int .u32 ((rotU 2 a : Nat) : Int)) ∧ ∃ k, w'' = w'.drewN k := fun w' => shright_any a 2 w' ba (by decide) (by decide)
        have hr5 : ∀ w', Calls Tryd.prog 68 #[.int .u32 (a : Int), .int .i64 13] w' fun r w'' => r = .returned (.int .u32 ((rotU 13 a : Nat) : Int)) ∧ ∃ k, w'' = w'.drewN k := fun w' => shright_any a 13 w' ba (by decide) (by decide)
        have hr6 : ∀ w', Calls Tryd.prog 68 #[.int .u32 (a : Int), .int .i64 22] w' fun r w'' => r = .returned (.int .u32 ((rotU 22 a : Nat) : Int)) ∧ ∃ k, w'' = w'.drewN k := fun w' => shright_any a 22 w' ba (by decide) (by decide)
        obtain ⟨a1, m1, m2⟩ := turn3_bits e 6 11 25 be
        obtain ⟨a0, m3, m4⟩ := turn3_bits a 2 13 22 ba
        rw [show rotU 6 e ^^^ rotU 11 e ^^^ rotU 25 e = bigS1 e from rfl] at m2
        rw [show rotU 2 a ^^^ rotU 13 a ^^^ rotU 22 a = bigS0 a from rfl] at m4
        obtain ⟨p1, q1, r1, k1, k2, k3, k4⟩ := ch_bits e f g be bf bg
        obtain ⟨p2, q2, r2, s2, k5, k6, k7, k8, k9⟩ := maj_bits a b cc ba bb bc
        have Hx : Hid (xU kt wt e f g i = (i + bigS1 e + chU e f g + kt + wt) % 4294967296) := Lib.hid rfl
        have Hy : Hid (yU a b cc = (bigS0 a + majU a b cc) % 4294967296) := Lib.hid rfl
        have Hr : Hid (v' = [(xU kt wt e f g i + yU a b cc) % 4294967296, a, b, cc, (d + xU kt wt e f g i) % 4294967296, e, f, g]) := Hnext
        have z1 := bigS1_lt be
        have z0 := bigS0_lt ba
        have zc := chU_lt (f := f) (g := g) be
        have zm := majU_lt (c := cc) ba bb
        clear Hnext
        revert Hx Hy Hr k4 k9 z1 z0 zc zm hr1 hr2 hr3 hr4 hr5 hr6 m1 m2 m3 m4
        generalize xU kt wt e f g i = x
        generalize yU a b cc = y
        generalize bigS1 e = S1
        generalize bigS0 a = S0
        generalize chU e f g = ch
        generalize majU a b cc = mj
        generalize rotU 6 e = t1
        generalize rotU 11 e = t2
        generalize rotU 25 e = t3
        generalize rotU 2 a = t4
        generalize rotU 13 a = t5
        generalize rotU 22 a = t6
        intro hr1 hr2 hr3 hr4 hr5 hr6 m1 m2 m3 m4 k4 k9 Hx Hy Hr z1 z0 zc zm
        obtain ⟨y1, hy1⟩ : ∃ y1 : Nat, (i + S1) % 4294967296 = y1 := ⟨_, rfl⟩
        obtain ⟨y2, hy2⟩ : ∃ y2 : Nat, (y1 + ch) % 4294967296 = y2 := ⟨_, rfl⟩
        obtain ⟨y3, hy3⟩ : ∃ y3 : Nat, (y2 + kt) % 4294967296 = y3 := ⟨_, rfl⟩
        have hx := Hx.out
        have hy := Hy.out
        have u1 : IntKind.u32.wrap ((i : Int) + (S1 : Int)) = (y1 : Int) := by rw [IntKind.wrap_u32]; omega
        have u2 : IntKind.u32.wrap ((y1 : Int) + (ch : Int)) = (y2 : Int) := by rw [IntKind.wrap_u32]; omega
        have u3 : IntKind.u32.wrap ((y2 : Int) + (kt : Int)) = (y3 : Int) := by rw [IntKind.wrap_u32]; omega
        have u4 : IntKind.u32.wrap ((y3 : Int) + (wt : Int)) = (x : Int) := by rw [IntKind.wrap_u32]; omega
        have u5 : IntKind.u32.wrap ((S0 : Int) + (mj : Int)) = (y : Int) := by rw [IntKind.wrap_u32]; omega
        have v1 : ((i : Int) + (S1 : Int)) % 4294967296 = (y1 : Int) := by omega
        have v2 : ((y1 : Int) + (ch : Int)) % 4294967296 = (y2 : Int) := by omega
        have v3 : ((y2 : Int) + (kt : Int)) % 4294967296 = (y3 : Int) := by omega
        have v4 : ((y3 : Int) + (wt : Int)) % 4294967296 = (x : Int) := by omega
        have v5 : ((S0 : Int) + (mj : Int)) % 4294967296 = (y : Int) := by omega
        have v6 : ((y1 : Int) + (ch : Int) + (kt : Int) + (wt : Int)) % 4294967296 = (x : Int) := by omega
        obtain ⟨sx, hsx⟩ : ∃ sx : Nat, (x + y) % 4294967296 = sx := ⟨_, rfl⟩
        obtain ⟨sd, hsd⟩ : ∃ sd : Nat, (d + x) % 4294967296 = sd := ⟨_, rfl⟩
        have v7 : ((x : Int) + (y : Int)) % 4294967296 = (sx : Int) := by omega
        have v8 : ((d : Int) + (x : Int)) % 4294967296 = (sd : Int) := by omega
        have Hr2 : Hid (v' = [sx, a, b, cc, sd, e, f, g]) := Lib.hid (by rw [Hr.out, hsx, hsd])
        clear hsx hsd Hr
        clear hy1 hy2 hy3 hx hy Hx Hy
        go_wp2_with fail
        go_quiet (fail)
        go_wp2_with fail
        go_quiet (first | (with_reducible exact Calls.quiet_two_of (hr1 _)) | (with_reducible exact Calls.quiet_two_of (hr2 _)) | (with_reducible exact Calls.quiet_two_of (hr3 _)))
        (try rw [v6])
        go_wp2_with fail
        go_quiet (first | (with_reducible exact Calls.quiet_two_of (hr4 _)) | (with_reducible exact Calls.quiet_two_of (hr5 _)) | (with_reducible exact Calls.quiet_two_of (hr6 _)))
        go_wp2_with (first
          | refine wp_build_arr rfl 59 _ rfl .u32 [sx, a, b, cc, sd, e, f, g] (by (try rw [v7]); (try rw [v8]); kernel_rfl) ?_
          | refine wp_put_arr arr8 rfl (.tmp 8) (.tmp 103) rfl rfl (l' := [sx, a, b, cc, sd, e, f, g]) rfl (A5.out.heap rfl) rfl rfl ?_)
        intro w6 P5 Hm6 Hs6
        have Hw6 : Hid (∀ k, k < wr.heap.size → k ≠ g5 → w6.heap[k]? = wr.heap[k]?) := Lib.hid fun k h1 h2 => Hm6.out.block k h1 h2
        have P1 : Hid (Arr w6 g1 57 .u32 K) := Lib.hid ((Hw6.out g1 A1.out.lt Hg.out.2.2.1).trans A1.out)
        have P2 : Hid (Arr w6 g2 59 .u32 hs) := Lib.hid ((Hw6.out g2 A2.out.lt Hg.out.2.2.2.1).trans A2.out)
        have P3 : Hid (Arr w6 g3 59 .u32 (Zs 8)) := Lib.hid ((Hw6.out g3 A3.out.lt Hg.out.2.2.2.2.1).trans A3.out)
        have P4 : Hid (Arr w6 g4 57 .u32 W) := Lib.hid ((Hw6.out g4 A4.out.lt Hg.out.2.2.2.2.2).trans A4.out)
        have P5' : Hid (Arr w6 g5 59 .u32 (R (t + 1))) := Lib.hid (by rw [Hv2.out, Hr2.out]; exact P5.out)
        have PB : Hid (Below w.heap.size w w6) := Lib.hid (below_put Hbr.out Hbr.out.size Hg.out.2.1 Hm6.out)
        go_wp2
        go_roundw
        case rel => exact ⟨t + 1, by omega, by go_num, P1, P2, P3, P4, P5', PB⟩
        case measure => simp [intOf]; omega
      · obtain rfl : t = 64 := by omega
        rw [show ((64 : Nat) : Int) = 64 from rfl]
        have hv := HS2.out 64
        revert hv A5
        generalize hv3 : R 64 = v
        intro A5 hv
        have Hvl : Hid (v.length = 8) := Lib.hid hv.1
        have Hpl : Hid ((plusU v hs).length = 8) := Lib.hid (plusU_eight hv Hh.out).1
        have Hhl : Hid (hs.length = 8) := Lib.hid Hh.out.1
        have Hpg : Hid (∀ j x y, v[j]? = some x → hs[j]? = some y → (plusU v hs)[j]? = some ((x + y) % 4294967296)) := Lib.hid (by
          intro j x y h1 h2
          unfold plusU
          rw [List.getElem?_zipWith, h1, h2])
        clear hv
        revert Hpl Hpg
        generalize hp3 : plusU v hs = p
        intro Hpl Hpg
        have HP : Hid (plusU (R 64) hs = p) := Lib.hid (by rw [hv3, hp3])
        clear hv3 hp3
        go_wp2
        go_loopw [14] (fun i wr => ∃ j : Nat, j ≤ 8 ∧ i = .int .i64 (j : Int) ∧ Hid (Arr wr g2 59 .u32 hs) ∧ Hid (Arr wr g3 59 .u32 (Zs 8)) ∧ Hid (Arr wr g5 59 .u32 (p.take j ++ v.drop j)) ∧ Hid (Below w.heap.size w wr)) (fun i _ => 8 - (intOf i).toNat)
        case atStart => exact ⟨0, by omega, rfl, A2, A3, A5, Hbr⟩
        case round =>
          clear A1 A2 A3 A4 A5 Hbr
          obtain ⟨j, hj, rfl, A2, A3, A5, Hbr⟩ := hrel
          by_cases hj8 : j < 8
          · have hjp : j < p.length := by rw [Hpl.out]; exact hj8
            have hjv : j < v.length := by rw [Hvl.out]; exact hj8
            have hjh : j < hs.length := by rw [Hhl.out]; exact hj8
            have c3 := A5.out.at_ (fill_get hjv (Nat.le_of_lt hjp))
            have c1 := A2.out.cell hjh
            have f3 := A5.out.frozen j
            have hp := Hpg.out j _ _ (List.getElem?_eq_getElem hjv) (List.getElem?_eq_getElem hjh)
            have hpe : p[j] = (v[j] + hs[j]) % 4294967296 := (List.getElem?_eq_some_iff.1 hp).2
            have Hset : Hid ((p.take j ++ v.drop j).set j ((v[j] + hs[j]) % 4294967296) = p.take (j + 1) ++ v.drop (j + 1)) := Lib.hid (by rw [← hpe]; exact afill_set hjp hjv)
            clear hp hpe
            revert c3 c1 Hset
            generalize v[j] = x
            generalize hs[j] = y
            intro c3 c1 Hset
            obtain ⟨z, hz⟩ : ∃ z : Nat, (x + y) % 4294967296 = z := ⟨_, rfl⟩
            rw [hz] at Hset
            have v1 : ((x : Int) + (y : Int)) % 4294967296 = (z : Int) := by omega
            have u1 : IntKind.u32.wrap ((x : Int) + (y : Int)) = (z : Int) := by rw [IntKind.wrap_u32]; omega
            clear hz
            go_wp2
            go_region
            go_wp2
            go_roundw
            case rel => exact ⟨j + 1, by omega, by go_num, Lib.hid (A2.out.other Hg.out.2.2.2.1), Lib.hid (A3.out.other Hg.out.2.2.2.2.1), Lib.hid (by rw [← Hset.out]; exact A5.out.set), Lib.hid ((Hbr.out.setCell Hg.out.2.1 _).drew)⟩
            case measure => simp [intOf]; omega
          · obtain rfl : j = 8 := by omega
            have A3' : Hid (Arr wr g5 59 .u32 p) := Lib.hid (by have h := A5.out; rwa [fill_all Hpl.out Hvl.out] at h)
            go_wp2_with (first
              | refine wp_load_arr arr8 rfl (.tmp 8) rfl rfl A3'.out Hpl.out ?_
              | refine wp_put_arr arr8 rfl (.tmp 6) (.tmp 117) rfl rfl (l' := p) rfl A3.out (Zs_length _) Hpl.out ?_)
            intro w4 A4 Hm4 Hs4
            go_wp2
            exact ret_arr arr8 rfl rfl A4.out Hpl.out rfl ⟨by rw [HP.out], Hbr.out.trans (Hm4.out.below (fun k hk => by have := Hg.out; omega) Hbr.out.size)⟩
  · have Hw : Hid (blockU hs xs = hs) := Lib.hid (by unfold blockU; rw [if_neg (by omega)])
    rw [Hw.out]
    have h64' : ¬ (n : Int) = 64 := by omega
    generalize ksU = K
    go_enter Tryd.func47, Tryd.ntmps47
    go_wp2_with (refine wp_box_arr (k := .u32) rfl 57 (.tmp 0) rfl K rfl ?_)
    intro w1 g1 G1 H1 Hb1 Hs1
    go_wp2_with (refine wp_box_arr (k := .u32) rfl 59 (.tmp 1) rfl hs rfl ?_)
    intro w2 g2 G2 H2 Hb2 Hs2
    go_wp2_with (refine wp_alloc_arr (k := .u32) rfl 59 rfl 8 zero8 ?_)
    intro w3 g3 G3 H3 Hb3 Hs3
    have B3 : Hid (Below w.heap.size w w3) := Lib.hid ((Hb1.out.trans (Hb2.out.mono Hb1.out.size)).trans (Hb3.out.mono (Nat.le_trans Hb1.out.size Hb2.out.size)))
    have K2 : Hid (Arr w3 g2 59 .u32 hs) := Lib.hid (H2.out.below Hb3.out H2.out.lt)
    go_wp2_with (first
      | refine wp_load_arr arr8 rfl (.tmp 4) rfl rfl K2.out Hh.out.1 ?_
      | refine wp_put_arr arr8 rfl (.tmp 6) (.tmp 18) rfl rfl (l' := hs) rfl H3.out (Zs_length _) Hh.out.1 ?_)
    intro w4 A4 Hm4 Hs4
    go_wp2
    exact ret_arr arr8 rfl rfl A4.out Hh.out.1 rfl ⟨rfl, B3.out.trans (Hm4.out.below (fun k hk => by have := G3.out; have := Hs1.out; have := Hs2.out; omega) B3.out.size)⟩

end Go.Proofs.YtacbpdampdikjaaDoor

namespace Go.Proofs.YtacbpdampdikjaaDoor
open Go.RowKit

set_option maxHeartbeats 800000 in
theorem rput_in (m0 size : Nat) (w : World) (hm : m0 < 18446744073709551616) (h1 : 1 ≤ size) (h8 : size ≤ 8) :
    Calls Tryd.prog 48 #[.int .u64 m0, .int .i64 size] w (NewB 5 w (putL m0 size)) := by
  go_enter Tryd.func48, Tryd.ntmps48
  go_wp2_with (refine wp_make_bytes rfl _ _ 22 rfl 5 Tryd.underlying22 Tryd.info_u8 size rfl rfl (by omega) ?_)
  intro w1 hown hb
  go_wp2
  go_loopw [0, 6] (fun n i wr => ∃ (q m : Nat) (done : List UInt8), q ≤ size ∧ i = .int .i64 ((q : Int) - 1) ∧ n = .int .u64 m ∧ m < 18446744073709551616 ∧ putL m0 size = putL m q ++ done ∧
      wr.ownsRow w.heap.size 5 1 (.slice (some ⟨w.heap.size, 0, none⟩) size size) size (Byt (List.replicate q 0 ++ done)) ∧ Below w.heap.size w wr) (fun _ i _ => (intOf i + 1).toNat)
  case atStart => exact ⟨size, m0, [], Nat.le_refl _, rfl, rfl, hm, by simp, by simpa using hown, hb⟩
  case round =>
    obtain ⟨q, m, done, hq, rfl, rfl, hm', hput, hownr, hbr⟩ := hrel
    have Hput := Lib.hid hput; clear hput
    have hlen := own_len hownr
    simp only [List.length_append, List.length_replicate] at hlen
    have Hlen := Lib.hid hlen; clear hlen
    rcases q with _ | q
    · go_wp2
      go_ret
      have e : putL m0 size = done := by simpa [putL] using Hput.out
      have hl := putL_length m0 size
      rw [← e] at hownr
      refine ⟨some ⟨w.heap.size, 0, none⟩, size, by rw [hl]; rfl, by rw [hl]; simpa using hownr, hbr⟩
    · obtain ⟨u, hu⟩ := own_any hownr (j := q) (by omega)
      have hf := hownr.frozenAt q
      go_wp2
      go_roundw
      case rel =>
        have h2 := own_put hownr q ((m : Int) % 256) (UInt8.ofNat m) (u8_of m).symm
        rw [set_front] at h2
        exact ⟨q, m / 256, _, by omega, rfl, by go_num, by omega, by rw [Hput.out]; simp [putL], h2, hbr.setCell (Nat.le_refl _) _⟩
      case measure => simp [intOf]

set_option maxHeartbeats 400000 in
theorem rput_out (m0 : Nat) (size : Int) (w : World) (h : size < 1 ∨ 8 < size) :
    Calls Tryd.prog 48 #[.int .u64 m0, .int .i64 size] w (NewB 5 w []) := by
  rcases h with h | h
  all_goals
    go_enter Tryd.func48, Tryd.ntmps48
    go_wp2
    go_ret
    exact newB_nil _ _ _ (Below.refl _ _)

theorem rput_any (m0 : Nat) (size : Int) (w : World) (hm : m0 < 18446744073709551616) :
    Calls Tryd.prog 48 #[.int .u64 m0, .int .i64 size] w (NewB 5 w (putR m0 size)) := by
  by_cases h : 1 ≤ size ∧ size ≤ 8
  · obtain ⟨k, rfl⟩ := Int.eq_ofNat_of_zero_le (show 0 ≤ size by omega)
    rw [putR, if_pos h, Int.toNat_natCast]
    exact rput_in m0 k w hm (by omega) (by omega)
  · rw [putR, if_neg h]
    exact rput_out m0 size w (by omega)


end Go.Proofs.YtacbpdampdikjaaDoor

namespace Go.Proofs.YtacbpdampdikjaaDoor
open Go.RowKit

/-- How long a slice is. -/
def lenV : Value → Nat
  | .slice _ n _ => n
  | _ => 0

set_option maxHeartbeats 1600000 in
theorem rpad07_in (n : Nat) (w : World) (hn : n ≤ 1099511627776) :
    Calls Tryd.prog 46 #[.int .i64 (n : Int)] w (NewB 5 w (padU n)) := by
  have hzok := zerosU_ok n
  have Hzl : Hid (∀ k, k < zerosU n → (n + 1 + k) % 64 ≠ 56) := Lib.hid fun k h => zerosU_least h
  have Hp0 : Hid (padU n = 128 :: (List.replicate (zerosU n) 0 ++ putL (8 * n) 8)) := Lib.hid rfl
  have hput := fun w' => rput_any (8 * n) 8 w' (by omega)
  rw [show putR (8 * n) 8 = putL (8 * n) 8 from rfl] at hput
  have Hpl : Hid ((putL (8 * n) 8).length = 8) := Lib.hid (putL_length _ _)
  have z3 : (n : Int) * (8 : Int) = ((8 * n : Nat) : Int) := by omega
  revert hput Hp0 Hpl z3 hzok Hzl
  generalize zerosU n = z
  generalize putL (8 * n) 8 = L
  generalize h8 : 8 * n = q
  intro hzok Hzl Hp hput Hpl z3
  have hq : q ≤ 8796093022208 := by omega
  clear h8
  go_enter Tryd.func46, Tryd.ntmps46
  go_wp2
  have h0 : (w.alloc (.cells #[.int .u8 128] 5)).ownsRow w.heap.size 5 1 (.slice (some ⟨w.heap.size, 0, none⟩) 1 1) 1 (Byt [128]) := World.ownsRow_lit w #[.int .u8 128] 1 (Nat.le_refl _) (by unfold maxLen; omega) rfl
  go_loopw [3] (fun s wr => ∃ (k c : Nat) (A : Option Addr), k ≤ z ∧ s = .slice A (1 + k) c ∧ Hid (wr.ownsRow w.heap.size 5 1 (.slice A (1 + k) c) (1 + k) (Byt (128 :: List.replicate k 0))) ∧ Hid (Below w.heap.size w wr)) (fun s _ => z + 2 - lenV s)
  case atStart => exact ⟨0, 1, _, Nat.zero_le _, rfl, Lib.hid h0, Lib.hid ((Below.refl _ _).alloc (Nat.le_refl _) _)⟩
  case round =>
    clear h0
    obtain ⟨k, c, A, hk, rfl, Hown, Hbr⟩ := hrel
    by_cases hkz : k < z
    · have hne : ¬ ((n : Int) + (1 + (k : Int))) % 64 = 56 := by have := Hzl.out k hkz; omega
      have hsz := Hbr.out.size
      go_wp2_with (refine wp_append_rd rfl _ _ 22 rfl 5 Tryd.underlying22 (.int .u8 0) 1 (by omega) rfl Tryd.info_u8 w.heap.size (1 + k) c A _ rfl (Hown.out.alloc _) (wr.heap.size + 1) 1 1 _ _ rfl (Rd.new wr _ #[.int .u8 0] rfl) (by intro u hu; simp at hu; subst hu; rfl) (by omega) (by omega) (by simp; omega) w w.heap.size (Hbr.out.alloc hsz _) (Nat.le_refl _) ?_)
      intro A1 c1 w1 hown1 hb1
      have Hown1 : Hid (w1.ownsRow w.heap.size 5 1 (.slice A1 (1 + (k + 1)) c1) (1 + (k + 1)) (Byt (128 :: List.replicate (k + 1) 0))) := Lib.hid (by
        have e : Byt (128 :: List.replicate (k + 1) 0) = Byt (128 :: List.replicate k 0) ++ [.int .u8 0] := by
          rw [List.replicate_succ', ← List.cons_append, Byt_append]; rfl
        rw [e]; exact hown1)
      have Hb1 := Lib.hid hb1
      clear hown1 hb1
      go_wp2
      go_roundw
      case rel => exact ⟨k + 1, c1, A1, by omega, rfl, Hown1, Hb1⟩
      case measure => simp [lenV]; omega
    · obtain rfl : k = z := by omega
      have hne : ((n : Int) + (1 + (k : Int))) % 64 = 56 := by omega
      have hsz := Hbr.out.size
      go_wp2_with fail
      refine (hput _).mono ?_
      rintro e w3 ⟨A3, c3, rfl, hown3, hb3⟩
      have hown2 := own_below Hown.out hb3 (Nat.le_refl _)
      have hsz3 : w.heap.size ≤ w3.heap.size := Nat.le_trans hsz hb3.size
      have hl8 : L.length ≤ 8 := by rw [Hpl.out]; omega
      go_wp2_with (refine wp_append_foot rfl _ _ 22 rfl 5 Tryd.underlying22 (.int .u8 0) 1 (by omega) rfl Tryd.info_u8 w.heap.size (1 + k) c A _ rfl hown2 w3.heap.size L.length c3 A3 _ rfl (Rd.of_own hown3) (SlOK.of_own hown3) (Byt_one _) (by omega) hsz3 ?_)
      intro A4 c4 w4 hown4 hg4 hat4
      have hb4 : Below w.heap.size w w4 := (Hbr.out.trans (hb3.mono hsz)).grown hg4 hsz3 (fun j hj => (hown2.lt j hj).1)
      rw [← Byt_append] at hown4
      have Hown4 := Lib.hid hown4; clear hown4 hown3 hown2
      have Hb4 := Lib.hid hb4; clear hb4
      go_wp2
      go_ret
      have hl : (128 :: (List.replicate k 0 ++ L)).length = 1 + k + L.length := by simp; omega
      rw [Hp.out]
      refine ⟨A4, c4, by rw [hl]; rfl, by rw [hl]; exact Hown4.out, Hb4.out⟩

theorem rpad07_out (z : Int) (w : World) (hz : z < 0 ∨ 1099511627776 < z) :
    Calls Tryd.prog 46 #[.int .i64 z] w (NewB 5 w []) := by
  rcases hz with h | h
  all_goals
    go_enter Tryd.func46, Tryd.ntmps46
    go_wp2
    go_ret
    exact newB_nil _ _ _ (Below.refl _ _)

theorem rpad07_any (z : Int) (w : World) : Calls Tryd.prog 46 #[.int .i64 z] w (NewB 5 w (shaPadR z)) := by
  by_cases h : 0 ≤ z ∧ z ≤ 1099511627776
  · obtain ⟨k, rfl⟩ := Int.eq_ofNat_of_zero_le h.1
    rw [shaPadR, if_pos h, Int.toNat_natCast]
    exact rpad07_in k w (by omega)
  · rw [shaPadR, if_neg h]
    exact rpad07_out z w (by omega)

end Go.Proofs.YtacbpdampdikjaaDoor

namespace Go.Proofs.YtacbpdampdikjaaDoor
open Go.RowKit

set_option maxHeartbeats 800000 in
theorem rjoin_any (B n c m d : Nat) (A C : Option Addr) (xs ys : List UInt8) (w : World) (hx : Rd w B A n (Byt xs)) (hy : Rd w B C m (Byt ys)) (hxo : SlOK A n c) (hyo : SlOK C m d) (hB : B ≤ w.heap.size) (hn : n + m ≤ 8796093022208) :
    Calls Tryd.prog 19 #[.slice A n c, .slice C m d] w (NewB 5 w (xs ++ ys)) := by
  have hxl := hx.bytes
  have hyl := hy.bytes
  have hlen : (xs ++ ys).length = n + m := by rw [List.length_append]; omega
  unfold NewB
  rw [hlen]
  clear hxl hyl hlen
  go_enter Tryd.func19, Tryd.ntmps19
  go_wp2_with (refine wp_append_foot rfl _ _ 22 rfl 5 Tryd.underlying22 (.int .u8 0) 1 (by omega) rfl Tryd.info_u8 w.heap.size 0 0 none [] rfl (own_nil _ _ _) B n c A _ rfl hx hxo (Byt_one _) (by omega) (Nat.le_refl _) ?_)
  intro A1 c1 w1 hown1 hg1 hat1
  have hb1 : Below w.heap.size w w1 := (Below.refl w.heap.size w).grown hg1 (Nat.le_refl _) (fun k hk => by cases hk)
  have hsz := hb1.size
  go_wp2_with (refine wp_append_foot rfl _ _ 22 rfl 5 Tryd.underlying22 (.int .u8 0) 1 (by omega) rfl Tryd.info_u8 w.heap.size n c1 A1 _ rfl hown1 B m d C _ rfl (hy.keep fun _ hp => hb1.cell (by omega)) hyo (Byt_one _) (by omega) hsz ?_)
  intro A2 c2 w2 hown2 hg2 hat2
  have hb2 : Below w.heap.size w w2 := hb1.grown hg2 hsz (fun k hk => (hown1.lt k hk).1)
  rw [← Byt_append] at hown2
  have Hown := Lib.hid hown2; clear hown2 hown1 hx hy
  go_wp2
  go_ret
  exact ⟨A2, c2, rfl, Hown.out, hb2⟩

end Go.Proofs.YtacbpdampdikjaaDoor

namespace Go.Proofs.YtacbpdampdikjaaDoor
open Go.RowKit

theorem outU_get {l : List Nat} {j : Nat} (h : j < l.length) : outU (l.take (j + 1)) = outU (l.take j) ++ putL l[j] 4 := by
  rw [List.take_add_one, List.getElem?_eq_getElem h]
  exact outU_snoc _ _
theorem outU_len (l : List Nat) : (outU l).length = 4 * l.length := flat_length l

set_option maxRecDepth 100000 in
set_option maxHeartbeats 4000000 in
theorem rsum_any (B n c : Nat) (A : Option Addr) (xs : List UInt8) (w : World) (hx : Rd w B A n (Byt xs)) (hok : SlOK A n c) (hn : n ≤ 1099511627776) (hB : B ≤ w.heap.size) :
    Calls Tryd.prog 31 #[.slice A n c] w (NewB 5 w (sumU xs)) := by
  have hxl := hx.bytes
  have hpad := fun w' => rpad07_in n w' hn
  have Hjoin := Lib.hid (fun w' (hb : Below w.heap.size w w') m d D ys (hy : Rd w' w'.heap.size D m (Byt ys)) (hyo : SlOK D m d) (hm : n + m ≤ 8796093022208) => rjoin_any w'.heap.size n c m d A D xs ys w' ((hx.below (hb.mono hB)).wider (Nat.le_trans hB hb.size)) hy hok hyo (Nat.le_refl _) hm)
  have Hs : Hid (sumU xs = outU (blocksU hsU (xs ++ padU n))) := Lib.hid (by unfold sumU; rw [hxl])
  have hpl : (padU n).length ≤ 72 := by rw [padU_length]; have := (zerosU_ok n).2; omega
  have Hxl := Lib.hid hxl; clear hxl
  have H8 : Hid (Eight hsU) := Lib.hid hs_eight
  have htab := rtable_any
  have hwith := rwith_any
  rw [Hs.out]
  revert hpad hpl
  generalize hp : padU n = pd
  intro hpad hpl
  clear hp Hs
  go_enter Tryd.func31, Tryd.ntmps31
  go_wp2_with fail
  refine (htab _).mono ?_
  rintro e w1 ⟨rfl, hb1⟩
  have HKl : Hid (ksU.length = 64) := Lib.hid rfl
  revert hwith HKl
  generalize ksU = K
  intro hwith HKl
  clear htab
  have Hwith := Lib.hid hwith; clear hwith
  go_wp2_with (refine wp_alloc_arr (k := .u32) rfl 57 rfl 64 zero64 ?_)
  intro w2 g1 G1 H1 Hb2 Hs2
  go_wp2_with (refine wp_put_arr arr64 rfl (.tmp 3) (.tmp 9) rfl rfl (l' := K) rfl H1.out (Zs_length _) HKl.out ?_)
  intro w3 H3 Hm3 Hs3
  have hs1 := hb1.size
  have B3 : Hid (Below w.heap.size w w3) := Lib.hid ((hb1.trans (Hb2.out.mono hs1)).trans (Hm3.out.below (fun k hk => by have := G1.out; omega) (Nat.le_trans hs1 Hb2.out.size)))
  go_wp2_with (first
    | refine wp_build_arr rfl 59 _ rfl .u32 hsU (by kernel_rfl) ?_
    | refine wp_alloc_arr (k := .u32) rfl 59 rfl 8 zero8 ?_)
  intro w4 g2 G2 H4 Hb4 Hs4
  go_wp2_with (refine wp_put_arr arr8 rfl (.tmp 4) (.tmp 10) rfl rfl (l' := hsU) rfl H4.out (Zs_length _) rfl ?_)
  intro w5 H5 Hm5 Hs5
  have Hg : Hid (w.heap.size ≤ g1 ∧ w.heap.size ≤ g2 ∧ g1 ≠ g2 ∧ g1 < w5.heap.size ∧ g2 < w5.heap.size ∧ w.heap.size ≤ w5.heap.size) := Lib.hid (by have := G1.out; have := G2.out; have := Hs2.out; have := Hs3.out; have := Hs4.out; have := Hs5.out; omega)
  have H3' : Hid (Arr w5 g1 57 .u32 K) := Lib.hid ((H3.out.below Hb4.out H3.out.lt).moves Hm5.out Hg.out.2.2.1)
  have B5 : Hid (Below w.heap.size w w5) := Lib.hid ((B3.out.trans (Hb4.out.mono B3.out.size)).trans (Hm5.out.below (fun k hk => by have := Hg.out; omega) (Nat.le_trans B3.out.size Hb4.out.size)))
  clear hb1 hs1 H1 Hb2 Hs2 Hm3 Hs3 H3 B3 H4 Hb4 Hs4 Hm5 Hs5 G1 G2
  go_wp2_with fail
  refine (hpad _).mono ?_
  rintro e w6 ⟨A6, c6, rfl, hown6, hb6⟩
  have B6 : Hid (Below w.heap.size w w6) := Lib.hid (B5.out.trans (hb6.mono B5.out.size))
  have hj := Hjoin.out w6 B6.out pd.length c6 A6 pd (Rd.of_own hown6) (SlOK.of_own hown6) (by omega)
  have H3'' : Hid (Arr w6 g1 57 .u32 K) := Lib.hid (H3'.out.below hb6 H3'.out.lt)
  have H5'' : Hid (Arr w6 g2 59 .u32 hsU) := Lib.hid (H5.out.below hb6 H5.out.lt)
  clear hown6 hb6 Hjoin
  go_wp2_with fail
  refine hj.mono ?_
  rintro e w7 ⟨A7, c7, rfl, hown7, hb7⟩
  have B7 : Hid (Below w.heap.size w w7) := Lib.hid (B6.out.trans (hb7.mono B6.out.size))
  have N1 : Hid (Arr w7 g1 57 .u32 K) := Lib.hid (H3''.out.below hb7 H3''.out.lt)
  have N2 : Hid (Arr w7 g2 59 .u32 hsU) := Lib.hid (H5''.out.below hb7 H5''.out.lt)
  have hown7b := own_base hown7 B6.out.size
  have Hlen : Hid ((xs ++ pd).length ≤ n + 72) := Lib.hid (by rw [List.length_append, Hxl.out]; omega)
  obtain ⟨A7', c7', e7, hnc7, hcm7⟩ := own_form hown7b
  injection e7 with e1 e2 e3
  subst e1 e3
  have Ho7 : Hid (w7.ownsRow w6.heap.size 5 1 (.slice A7 (xs ++ pd).length c7) (xs ++ pd).length (Byt (xs ++ pd))) := Lib.hid hown7
  have Hg6 : Hid (g1 < w6.heap.size ∧ g2 < w6.heap.size) := Lib.hid ⟨H3''.out.lt, H5''.out.lt⟩
  clear hown7 hown7b e2 hb7 H3'' H5'' B6 H3' H5 B5 hj
  obtain ⟨fin, hfin⟩ : ∃ fin, blocksU hsU (xs ++ pd) = fin := ⟨_, rfl⟩
  have HR : Hid (fin = blocksU hsU ((xs ++ pd).drop 0)) := Lib.hid (by rw [← hfin]; rfl)
  have Hfin := Lib.hid hfin; clear hfin
  revert Ho7 hnc7 Hlen HR
  generalize xs ++ pd = M
  intro Hlen hnc7 Ho7 HR
  obtain ⟨N, hN⟩ : ∃ N, M.length = N := ⟨_, rfl⟩
  rw [hN] at Hlen hnc7 Ho7 ⊢
  have HN := Lib.hid hN; clear hN
  have hNb : N ≤ 1099511627848 := by have := Hlen.out; omega
  clear Hlen
  revert N2 H8 HR
  generalize hsU = h0
  intro H8 N2 HR
  go_wp2
  go_loopw [6] (fun i wr => ∃ (p : Nat) (v : List Nat), p ≤ N ∧ i = .int .i64 (p : Int) ∧ Hid (Eight v) ∧ Hid (fin = blocksU v (M.drop p)) ∧ Hid (Arr wr g1 57 .u32 K) ∧ Hid (Arr wr g2 59 .u32 v) ∧
    Hid (wr.ownsRow w6.heap.size 5 1 (.slice A7 N c7) N (Byt M)) ∧ Hid (Below w.heap.size w wr)) (fun i _ => N - (intOf i).toNat)
  case atStart => exact ⟨0, h0, Nat.zero_le _, rfl, H8, HR, N1, N2, Ho7, B7⟩
  case round =>
    clear N1 N2 Ho7 B7 HR
    obtain ⟨p, v, hp, rfl, Hv, Hf, A1, A2, Ho, Hbr⟩ := hrel
    by_cases hp64 : p + 64 ≤ N
    · obtain ⟨g7, rfl, hg7, hg7s⟩ := own_some Ho.out (by omega)
      have hpart := (Rd.of_own Ho.out).part (p := p) (q := 64) (by omega)
      rw [← Byt_drop, ← Byt_take, Nat.zero_add] at hpart
      have Hpart := Lib.hid hpart; clear hpart
      have Hstep : Hid (fin = blocksU (blockU v ((M.drop p).take 64)) (M.drop (p + 64))) := Lib.hid (by
        rw [Hf.out, blocksU_step (by rw [List.length_drop, HN.out]; omega), List.drop_drop])
      have Hv2 : Hid (Eight (blockU v ((M.drop p).take 64))) := Lib.hid (blockU_eight _ Hv.out)
      have hcall := fun w' (hw : w'.heap = wr.heap) => Hwith.out wr.heap.size 64 (c7 - p) (some ⟨g7, p, none⟩) ((M.drop p).take 64) v w' Hv.out (Hpart.out.keep fun q _ => by simp only [World.cell?, hw]) (by omega) (by omega) (by rw [hw]; exact Nat.le_refl _)
      revert Hstep Hv2 hcall
      generalize hv2 : blockU v ((M.drop p).take 64) = v2
      intro Hstep Hv2 hcall
      have q1 : IntKind.i64.wrap ((p : Int) + 64) = (p : Int) + 64 := IntWalk.i64_in _ ⟨by omega, by omega⟩
      have q2 : ((p : Int) + 64).toNat - p = 64 := by omega
      have q3 : (p : Int) ≤ (p : Int) + 64 := by omega
      have q4 : (p : Int) + 64 ≤ (N : Int) := by omega
      have q5 : (p : Int) + 64 ≤ (c7 : Int) := by omega
      have q6 : (0 : Int) ≤ (p : Int) + 64 := by omega
      have q7 : ((p : Int) + 64).toNat ≤ c7 := by omega
      go_wp2_with fail
      refine wp_region_still_tail 7 (by kernel_rfl) (by kernel_rfl) ?_
      simp only [List.take_succ_cons, List.take_zero, List.drop_succ_cons, List.drop_zero]
      refine still_load_arr arr64 rfl (.tmp 3) rfl rfl (A1.out.heap rfl) HKl.out ?_
      refine still_load_arr arr8 rfl (.tmp 4) rfl rfl (A2.out.heap rfl) Hv.out.1 ?_
      repeat still_step
      try refine wpStill_nil ?_
      change wpList _ _ _ _ _ wr.drew
      go_wp2_with fail
      refine (hcall wr.drew rfl).mono ?_
      rintro e w8 ⟨rfl, hb8⟩
      have hb8' : Below wr.heap.size wr w8 := ⟨hb8.os, hb8.tape, hb8.output, hb8.size, hb8.block⟩
      have A1' : Hid (Arr w8 g1 57 .u32 K) := Lib.hid (A1.out.below hb8' A1.out.lt)
      have A2' : Hid (Arr w8 g2 59 .u32 v) := Lib.hid (A2.out.below hb8' A2.out.lt)
      have Ho8 : Hid (w8.ownsRow w6.heap.size 5 1 (.slice (some ⟨g7, 0, none⟩) N c7) N (Byt M)) := Lib.hid (own_below Ho.out hb8' (Nat.le_refl _))
      have Hb8 : Hid (Below w.heap.size w w8) := Lib.hid (Hbr.out.trans (hb8'.mono Hbr.out.size))
      clear hb8 hb8'
      go_wp2_with (refine wp_put_arr arr8 rfl (.tmp 4) (.tmp 30) rfl rfl (l' := v2) rfl A2'.out Hv.out.1 Hv2.out.1 ?_)
      intro w9 P2 Hm9 Hs9
      have hg12 : g1 ≠ g2 ∧ g2 < w6.heap.size ∧ w.heap.size ≤ g2 := by have := Hg.out; have := Hg6.out; omega
      have P1 : Hid (Arr w9 g1 57 .u32 K) := Lib.hid (A1'.out.moves Hm9.out hg12.1)
      have Po : Hid (w9.ownsRow w6.heap.size 5 1 (.slice (some ⟨g7, 0, none⟩) N c7) N (Byt M)) := Lib.hid (own_moves Ho8.out Hm9.out (fun k hk => by simp [Value.ownBlock] at hk; omega))
      have PB : Hid (Below w.heap.size w w9) := Lib.hid (Hb8.out.trans (Hm9.out.below (fun k hk => by omega) Hb8.out.size))
      clear hg12 A1' A2' Ho8 Hb8 Hm9 Hs9
      go_wp2
      go_roundw
      case rel => exact ⟨p + 64, v2, by omega, by go_num, Hv2, Hstep, P1, P2, Po, PB⟩
      case measure => simp [intOf]; omega
    · have Hend : Hid (fin = v) := Lib.hid (by rw [Hf.out, blocksU_none (by rw [List.length_drop, HN.out]; omega)])
      have Hvl : Hid (v.length = 8) := Lib.hid Hv.out.1
      have Hvb : Hid (∀ x ∈ v, x < 4294967296) := Lib.hid Hv.out.2
      have Hout : Hid (outU (blocksU hsU (xs ++ pd)) = outU v) := Lib.hid (by rw [Hfin.out, Hend.out])
      clear Hf Hv Hend HN Ho A1
      go_wp2
      go_loopw [7, 8] (fun s i wr => ∃ (j c9 : Nat) (A9 : Option Addr), j ≤ 8 ∧ i = .int .i64 (j : Int) ∧ s = .slice A9 (4 * j) c9 ∧ Hid (Arr wr g2 59 .u32 v) ∧
        Hid (wr.ownsRow (g2 + 1) 5 1 (.slice A9 (4 * j) c9) (4 * j) (Byt (outU (v.take j)))) ∧ Hid (Below w.heap.size w wr)) (fun _ i _ => 8 - (intOf i).toNat)
      case atStart => exact ⟨0, 0, none, by omega, rfl, rfl, A2, Lib.hid (World.ownsRow_nil _ _ _ _), Hbr⟩
      case round =>
        clear A2 Hbr
        obtain ⟨j, c9, A9, hj, rfl, rfl, A2, Ho, Hbr⟩ := hrel
        by_cases hj8 : j < 8
        · have hjv : j < v.length := by rw [Hvl.out]; exact hj8
          have hcell := A2.out.cell hjv
          have hxb := Hvb.out _ (List.getElem_mem hjv)
          have Hsnoc : Hid (outU (v.take (j + 1)) = outU (v.take j) ++ putL v[j] 4) := Lib.hid (outU_get hjv)
          have hput := fun w' => rput_any v[j] 4 w' (by omega)
          rw [show putR v[j] 4 = putL v[j] 4 from rfl] at hput
          have Hpl4 : Hid ((putL v[j] 4).length = 4) := Lib.hid (putL_length _ _)
          revert hput Hpl4 Hsnoc hcell hxb
          generalize putL v[j] 4 = L
          generalize v[j] = x
          intro hcell hxb Hsnoc hput Hpl4
          go_wp2_with fail
          refine (hput _).mono ?_
          rintro e w10 ⟨A10, c10, rfl, hown10, hb10⟩
          have hown2 := own_below Ho.out hb10 (Nat.le_refl _)
          have hl4 : L.length ≤ 4 := by rw [Hpl4.out]; omega
          have A2a : Hid (Arr w10 g2 59 .u32 v) := Lib.hid (A2.out.below hb10 A2.out.lt)
          have hsz10 : g2 + 1 ≤ w10.heap.size := A2a.out.lt
          have hszw : w.heap.size ≤ g2 := Hg.out.2.1
          go_wp2_with (refine wp_append_foot rfl _ _ 22 rfl 5 Tryd.underlying22 (.int .u8 0) 1 (by omega) rfl Tryd.info_u8 (g2 + 1) (4 * j) c9 A9 _ rfl hown2 w10.heap.size L.length c10 A10 _ rfl (Rd.of_own hown10) (SlOK.of_own hown10) (Byt_one _) (by omega) hsz10 ?_)
          intro A11 c11 w11 hown11 hg11 hat11
          have hm11 : Moves (fun k => g2 < k) w10 w11 := (Moves.refl _ _).grown hg11 (fun k hk => .inl (hown2.lt k hk).1)
          have A2b : Hid (Arr w11 g2 59 .u32 v) := Lib.hid (A2a.out.moves hm11 (by omega))
          have Hb11 : Hid (Below w.heap.size w w11) := Lib.hid ((Hbr.out.trans (hb10.mono Hbr.out.size)).trans (hm11.below (fun k hk => by omega) (by omega)))
          rw [← Byt_append, ← Hsnoc.out, Hpl4.out, show 4 * j + 4 = 4 * (j + 1) by omega] at hown11
          have Ho11 := Lib.hid hown11
          clear hown11 hown10 hown2 hg11 hat11 hm11 hb10 hsz10
          have hlen11 : 4 * j + L.length = 4 * (j + 1) := by rw [Hpl4.out]; omega
          rw [hlen11]
          go_wp2
          go_roundw
          case rel => exact ⟨j + 1, c11, A11, by omega, by go_num, rfl, A2b, Ho11, Hb11⟩
          case measure => simp [intOf]; omega
        · obtain rfl : j = 8 := by omega
          have Ho' : Hid (wr.ownsRow w.heap.size 5 1 (.slice A9 32 c9) 32 (Byt (outU v))) := Lib.hid (by
            have h := Ho.out
            rw [List.take_of_length_le (by rw [Hvl.out]; omega)] at h
            exact own_base h (by have := Hg.out; omega))
          have hl : (outU v).length = 32 := by rw [outU_len, Hvl.out]
          have Hl := Lib.hid hl; clear hl
          go_wp2
          go_ret
          rw [Hout.out]
          exact ⟨A9, c9, by rw [Hl.out]; rfl, by rw [Hl.out]; exact Ho'.out, Hbr.out⟩

end Go.Proofs.YtacbpdampdikjaaDoor

namespace Go.Proofs.YtacbpdampdikjaaDoor
open Go.RowKit

set_option maxHeartbeats 800000 in
theorem rpad_in (B m c size : Nat) (A : Option Addr) (xs : List UInt8) (w : World) (hx : Rd w B A m (Byt xs)) (hm : m ≤ maxLen) (hB : B ≤ w.heap.size) (h1 : 1 ≤ size) (h2 : size ≤ 65536) :
    Calls Tryd.prog 69 #[.slice A m c, .int .i64 size] w (NewB 5 w (padL xs size)) := by
  unfold maxLen at hm
  have hxl := hx.bytes
  have Hx := Lib.hid hxl; clear hxl
  go_enter Tryd.func69, Tryd.ntmps69
  go_wp2_with (refine wp_make_bytes rfl _ _ 22 rfl 5 Tryd.underlying22 Tryd.info_u8 size rfl rfl (by omega) ?_)
  intro w1 hown hb
  go_wp2
  go_loopw [6] (fun i wr => ∃ k : Nat, k ≤ size ∧ k ≤ m ∧ i = .int .i64 k ∧
      wr.ownsRow w.heap.size 5 1 (.slice (some ⟨w.heap.size, 0, none⟩) size size) size (Byt (xs.take k ++ List.replicate (size - k) 0)) ∧ Below w.heap.size w wr) (fun i _ => size - (intOf i).toNat)
  case atStart => exact ⟨0, Nat.zero_le _, Nat.zero_le _, rfl, by simpa using hown, hb⟩
  case round =>
    obtain ⟨k, hk, hkm, rfl, hownr, hbr⟩ := hrel
    have fin : size ≤ k ∨ m ≤ k → NewB 5 w (padL xs size) (.returned (.slice (some ⟨w.heap.size, 0, none⟩) size size)) wr := by
      intro h
      rw [pad_fin hk (by rw [Hx.out]; exact hkm) (by rw [Hx.out]; exact h)] at hownr
      have hl := padL_length xs size
      exact ⟨some ⟨w.heap.size, 0, none⟩, size, by rw [hl], by rw [hl]; exact hownr, hbr⟩
    have Fin := Lib.hid fin; clear fin
    by_cases hks : k < size
    · by_cases hkx : k < m
      · have hkl : k < xs.length := by rw [Hx.out]; exact hkx
        obtain ⟨b, o, rfl, hbB, hc⟩ := (hx.below (hbr.mono hB)).byte hkx hkl
        obtain ⟨u, hu⟩ := own_any hownr hks
        have hf := hownr.frozenAt k
        go_wp2
        go_roundw
        case rel =>
          have h2 := own_put hownr k _ xs[k] rfl
          rw [pad_set hks hkl] at h2
          exact ⟨k + 1, by omega, by omega, by go_num, h2, hbr.setCell (Nat.le_refl _) _⟩
        case measure => simp [intOf]; omega
      · go_wp2
        go_ret
        exact Fin.out (.inr (by omega))
    · go_wp2
      go_ret
      exact Fin.out (.inl (by omega))

set_option maxHeartbeats 400000 in
theorem rpad_out (m c : Nat) (size : Int) (A : Option Addr) (w : World) (h : size < 1 ∨ 65536 < size) :
    Calls Tryd.prog 69 #[.slice A m c, .int .i64 size] w (NewB 5 w []) := by
  rcases h with h | h
  all_goals
    go_enter Tryd.func69, Tryd.ntmps69
    go_wp2
    go_ret
    exact newB_nil _ _ _ (Below.refl _ _)

theorem rpad_any (B m c : Nat) (size : Int) (A : Option Addr) (xs : List UInt8) (w : World) (hx : Rd w B A m (Byt xs)) (hm : m ≤ maxLen) (hB : B ≤ w.heap.size) :
    Calls Tryd.prog 69 #[.slice A m c, .int .i64 size] w (NewB 5 w (padR xs size)) := by
  by_cases h : 1 ≤ size ∧ size ≤ 65536
  · obtain ⟨k, rfl⟩ := Int.eq_ofNat_of_zero_le (show 0 ≤ size by omega)
    rw [padR, if_pos h, Int.toNat_natCast]
    exact rpad_in B m c k A xs w hx hm hB (by omega) (by omega)
  · rw [padR, if_neg h]
    exact rpad_out m c size A w (by omega)

end Go.Proofs.YtacbpdampdikjaaDoor

namespace Go.Proofs.YtacbpdampdikjaaDoor
open Go.RowKit

set_option maxHeartbeats 800000 in
theorem rkey_any (B n c : Nat) (A : Option Addr) (xs : List UInt8) (w : World) (hx : Rd w B A n (Byt xs)) (hok : SlOK A n c) (hn : n ≤ 1099511627776) (hB : B ≤ w.heap.size) :
    Calls Tryd.prog 49 #[.slice A n c] w (NewB 5 w (keyU xs)) := by
  have hxl := hx.bytes
  by_cases h : 64 < n
  · have hk : keyU xs = padL (sumU xs) 64 := by rw [keyU, if_pos (by omega)]
    rw [hk]
    have hl : (sumU xs).length = 32 := sumU_length _
    have hs := rsum_any B n c A xs w hx hok hn hB
    generalize sumU xs = L at hs hl
    subst hxl
    have Hl := Lib.hid hl; clear hl hk
    have HB := Lib.hid hB; clear hB
    go_enter Tryd.func49, Tryd.ntmps49
    go_wp2_with fail
    refine hs.mono ?_
    rintro e w1 ⟨A1, c1, rfl, hown1, hb1⟩
    have h2 := rpad_in w1.heap.size L.length c1 64 A1 L w1 (Rd.of_own hown1) (by rw [Hl.out]; decide) (Nat.le_refl _) (by decide) (by decide)
    have Hb1 := Lib.hid hb1; clear hb1
    clear hown1
    go_wp2_with fail
    refine h2.mono ?_
    rintro e w2 ⟨A2, c2, rfl, hown2, hb2⟩
    go_wp2
    go_ret
    exact ⟨A2, c2, rfl, own_base hown2 Hb1.out.size, bon Hb1.out hb2⟩
  · have hk : keyU xs = padL xs 64 := by rw [keyU, if_neg (by omega)]
    rw [hk]
    have h2 := rpad_in B n c 64 A xs w hx (by unfold maxLen; omega) hB (by decide) (by decide)
    clear hxl hk hx
    go_enter Tryd.func49, Tryd.ntmps49
    go_wp2_with fail
    refine h2.mono ?_
    rintro e w2 ⟨A2, c2, rfl, hown2, hb2⟩
    go_wp2
    go_ret
    exact ⟨A2, c2, rfl, hown2, hb2⟩

end Go.Proofs.YtacbpdampdikjaaDoor

namespace Go.Proofs.YtacbpdampdikjaaDoor
open Go.RowKit

/-- What a call ends in that answers new bytes and two numbers. -/
def NewP (e : TypeId) (w : World) (v : List UInt8 × Int × Int) (en : Ending) (w' : World) : Prop :=
  ∃ A c, en = .returned (.tuple #[.slice A v.1.length c, .int .i64 v.2.1, .int .i64 v.2.2]) ∧ w'.ownsRow w.heap.size e 1 (.slice A v.1.length c) v.1.length (Byt v.1) ∧ Below w.heap.size w w'
/-- A byte in a new block of its own reads as a row of one. -/
theorem Rd.byte1 (w : World) (e : TypeId) (z : Int) (c : UInt8) (hz : z = (c.toNat : Int)) : Rd (w.alloc (.cells #[.int .u8 z] e)) (w.heap.size + 1) (some ⟨w.heap.size, 0, none⟩) 1 (Byt [c]) := by
  subst hz; exact Rd.new w e #[.int .u8 (c.toNat : Int)] rfl

end Go.Proofs.YtacbpdampdikjaaDoor

namespace Go.Proofs.YtacbpdampdikjaaDoor
open Go.RowKit

set_option maxHeartbeats 800000 in
theorem rover_any (b : UInt8) (B n c : Nat) (A : Option Addr) (xs : List UInt8) (w : World) (hx : Rd w B A n (Byt xs)) (hok : SlOK A n c) (hn : n ≤ 1099511627776) (hB : B ≤ w.heap.size) :
    Calls Tryd.prog 32 #[.slice A n c, .int .u8 (b.toNat : Int)] w (NewB 5 w (overU xs b)) := by
  have hk := rkey_any B n c A xs w hx hok hn hB
  have hl := keyU_length xs
  have hstep := fun j h => over_step xs b (j := j) h
  have hol := overU_length xs b
  generalize hO : overU xs b = O at hstep hol ⊢
  clear hO
  generalize keyU xs = L at hk hl hstep
  clear hx hn hB
  have Hl := Lib.hid hl; clear hl
  have Hs := Lib.hid hstep; clear hstep
  have Ho := Lib.hid hol; clear hol
  go_enter Tryd.func32, Tryd.ntmps32
  go_wp2_with fail
  refine hk.mono ?_
  rintro e w1 ⟨A1, c1, rfl, hown1, hb1⟩
  go_wp2
  have hr1 := Rd.of_own hown1
  have Hb1 := Lib.hid hb1; clear hb1
  go_loopw [5, 7] (fun v i wr => ∃ (j : Nat) (A' : Option Addr) (c' : Nat), j ≤ 64 ∧ i = .int .i64 j ∧ v = .slice A' j c' ∧
      Hid (wr.ownsRow w1.heap.size 5 1 (.slice A' j c') j (Byt (O.take j))) ∧ Hid (Below w1.heap.size w1 wr)) (fun _ i _ => 64 - (intOf i).toNat)
  case atStart => exact ⟨0, none, 0, Nat.zero_le _, rfl, rfl, Lib.hid (World.ownsRow_nil _ _ _ _), Lib.hid (Below.refl _ _)⟩
  case round =>
    obtain ⟨j, A', c', hj, rfl, rfl, Hown, Hbr⟩ := hrel
    by_cases hlt : j < 64
    · have hjl : j < L.length := by rw [Hl.out]; exact hlt
      obtain ⟨b2, o2, e2, hb2, hc2⟩ := (hr1.below Hbr.out).byte hjl hjl
      subst e2
      have Hz := Lib.hid (xor_u8 L[j] b)
      have hsz := Hbr.out.size
      go_wp2_with (refine wp_append_rd rfl _ _ 22 rfl 5 Tryd.underlying22 (.int .u8 0) 1 (by omega) rfl Tryd.info_u8 w1.heap.size j c' A' _ rfl (Hown.out.alloc _) (wr.heap.size + 1) 1 1 _ _ rfl (Rd.byte1 wr _ _ _ Hz.out) (Byt_one _) (by omega) (by omega) (by simp; omega) w1 w1.heap.size (Hbr.out.alloc hsz _) (Nat.le_refl _) ?_)
      intro A3 c3 w3 hown3 hb3
      rw [← Byt_append, ← Hs.out j hjl] at hown3
      have Hown3 := Lib.hid hown3; clear hown3
      go_wp2
      go_roundw
      case rel => exact ⟨j + 1, A3, c3, by omega, by go_num, rfl, Hown3, Lib.hid hb3⟩
      case measure => simp [intOf]; omega
    · obtain rfl : j = 64 := by omega
      go_wp2
      go_ret
      rw [List.take_of_length_le (by rw [Ho.out]; exact Nat.le_refl _)] at Hown
      exact ⟨A', c', by rw [Ho.out]; rfl, by rw [Ho.out]; exact own_base Hown.out Hb1.out.size, bon Hb1.out Hbr.out⟩

end Go.Proofs.YtacbpdampdikjaaDoor

namespace Go.Proofs.YtacbpdampdikjaaDoor
open Go.RowKit

set_option maxHeartbeats 1600000 in
theorem rof_any (B n c m d : Nat) (A C : Option Addr) (xs ys : List UInt8) (w : World) (hx : Rd w B A n (Byt xs)) (hok : SlOK A n c) (hn : n ≤ 1099511627776)
    (hy : Rd w B C m (Byt ys)) (hyo : SlOK C m d) (hm : m ≤ 549755813888) (hB : B ≤ w.heap.size) :
    Calls Tryd.prog 20 #[.slice A n c, .slice C m d] w (NewB 5 w (macU xs ys)) := by
  have h1 := rover_any 0x36 B n c A xs w hx hok hn hB
  have hl1 := overU_length xs 0x36
  have hl2 := overU_length xs 0x5c
  have Hm : Hid (macU xs ys = sumU (overU xs 0x5c ++ sumU (overU xs 0x36 ++ ys))) := Lib.hid rfl
  have hyl := hy.bytes
  have Hyl := Lib.hid hyl; clear hyl
  have H2 := Lib.hid (fun W (hb : Below w.heap.size w W) => rover_any 0x5c B n c A xs W (hx.below (hb.mono hB)) hok hn (Nat.le_trans hB hb.size))
  have HY := Lib.hid (fun W (hb : Below w.heap.size w W) => (hy.below (hb.mono hB)).wider (Nat.le_trans hB hb.size))
  generalize overU xs 0x36 = L1 at h1 hl1 Hm
  generalize overU xs 0x5c = L2 at H2 hl2 Hm
  generalize macU xs ys = M at Hm ⊢
  have Hl1 := Lib.hid hl1; clear hl1
  have Hl2 := Lib.hid hl2; clear hl2
  clear hx hy hn hB
  go_enter Tryd.func20, Tryd.ntmps20
  go_wp2_with fail
  refine h1.mono ?_
  rintro e w1 ⟨A1, c1, rfl, hown1, hb1⟩
  have h3 := rjoin_any w1.heap.size L1.length c1 m d A1 C L1 ys w1 (Rd.of_own hown1) (HY.out w1 hb1) (SlOK.of_own hown1) hyo (Nat.le_refl _) (by rw [Hl1.out]; omega)
  have Hb1 := Lib.hid hb1; clear hb1
  clear hown1
  go_wp2_with fail
  refine h3.mono ?_
  rintro e w2 ⟨A2, c2, rfl, hown2, hb2⟩
  have hln : (L1 ++ ys).length ≤ 1099511627776 := by rw [List.length_append, Hl1.out, Hyl.out]; omega
  have h4 := rsum_any w2.heap.size (L1 ++ ys).length c2 A2 (L1 ++ ys) w2 (Rd.of_own hown2) (SlOK.of_own hown2) hln (Nat.le_refl _)
  clear hown2 hln h3
  have Hls : Hid ((sumU (L1 ++ ys)).length = 32) := Lib.hid (sumU_length _)
  generalize sumU (L1 ++ ys) = L3 at h4 Hm Hls
  generalize (L1 ++ ys).length = n2 at h4 ⊢
  have Hb2 := Lib.hid (bon Hb1.out hb2); clear hb2
  go_wp2_with fail
  refine h4.mono ?_
  rintro e w3 ⟨A3, c3, rfl, hown3, hb3⟩
  have Hb3 := Lib.hid (bon Hb2.out hb3); clear hb3
  have h5 := H2.out w3 Hb3.out
  have Hr3 := Lib.hid (Rd.of_own hown3)
  have Ho3 := Lib.hid (SlOK.of_own hown3)
  clear hown3 h4
  go_wp2_with fail
  refine h5.mono ?_
  rintro e w4 ⟨A4, c4, rfl, hown4, hb4⟩
  have h6 := rjoin_any w4.heap.size L2.length c4 L3.length c3 A4 A3 L2 L3 w4 (Rd.of_own hown4) ((Hr3.out.below hb4).wider hb4.size) (SlOK.of_own hown4) Ho3.out (Nat.le_refl _) (by rw [Hl2.out, Hls.out]; omega)
  have Hb4 := Lib.hid (bon Hb3.out hb4); clear hb4
  clear hown4 h5
  go_wp2_with fail
  refine h6.mono ?_
  rintro e w5 ⟨A5, c5, rfl, hown5, hb5⟩
  have hln : (L2 ++ L3).length ≤ 1099511627776 := by rw [List.length_append, Hl2.out, Hls.out]; omega
  have h7 := rsum_any w5.heap.size (L2 ++ L3).length c5 A5 (L2 ++ L3) w5 (Rd.of_own hown5) (SlOK.of_own hown5) hln (Nat.le_refl _)
  rw [← Hm.out] at h7
  have Hb5 := Lib.hid (bon Hb4.out hb5); clear hb5
  clear hown5 hln h6
  generalize (L2 ++ L3).length = n5 at h7 ⊢
  go_wp2_with fail
  refine h7.mono ?_
  rintro e w6 ⟨A6, c6, rfl, hown6, hb6⟩
  have Hb6 := Lib.hid (bon Hb5.out hb6)
  go_wp2
  go_ret
  exact ⟨A6, c6, rfl, own_base hown6 Hb5.out.size, Hb6.out⟩

end Go.Proofs.YtacbpdampdikjaaDoor
