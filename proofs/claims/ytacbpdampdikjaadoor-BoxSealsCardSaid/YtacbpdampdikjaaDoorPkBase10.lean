/-
  Some of the texts that the last one of these needs: walks of the functions that the law calls, and the mathematics of their answers.
-/
import Derived.Test.YtacbpdampdikjaaDoorPkBase8
import Derived.Test.YtacbpdampdikjaaDoorPkBase9
import Derived.Test.YtacbpdampdikjaaDoorPkBase7
import Derived.Test.YtacbpdampdikjaaDoorPkBase6
import Derived.Test.YtacbpdampdikjaaDoorPkBase4
import Derived.Test.YtacbpdampdikjaaDoorPkBase3
import Derived.Test.YtacbpdampdikjaaDoorPkBase1
import Derived.Deep.Slices
import Derived.LaidMore
import Derived.OpenShut
import Derived.Stop.Joined
import Derived.Lib.LaidTab
import Derived.Test.YtacbpdampdikjaaDoorTie
import Derived.SevenTiedAt
namespace Go.Proofs.YtacbpdampdikjaaDoor
open Go.RowKit

theorem bsame_comm (a b : List UInt8) : sameL a b = sameL b a := by
  unfold sameL
  exact decide_eq_decide.2 ⟨Eq.symm, Eq.symm⟩

theorem rbopen_form (n c m q : Nat) (A C : Option Addr) (w : World) (h : n ≠ 32 ∨ m < 48 ∨ 60048 < m) :
    Calls Tryd.prog 14 #[.slice A n c, .slice C m q] w (NewRF w [] 4) := by
  by_cases h1 : n = 32
  · subst h1
    by_cases h2 : m < 48
    · have n2 : (m : Int) < 48 := by omega
      go_enter Tryd.func14, Tryd.ntmps14
      go_wp2
      go_ret2
      exact ⟨none, 0, rfl, Rd.nil, SlOK.nil, Below.refl _ _⟩
    · have n2 : ¬ ((m : Int) < 48) := by omega
      have n3 : 60048 < (m : Int) := by omega
      go_enter Tryd.func14, Tryd.ntmps14
      go_wp2
      go_ret2
      exact ⟨none, 0, rfl, Rd.nil, SlOK.nil, Below.refl _ _⟩
  · have n1 : ((n : Int) != 32) = true := by simp; omega
    go_enter Tryd.func14, Tryd.ntmps14
    go_wp2
    go_ret2
    exact ⟨none, 0, rfl, Rd.nil, SlOK.nil, Below.refl _ _⟩

set_option maxRecDepth 4096 in
set_option maxHeartbeats 1600000 in
theorem rbopen_any (B d m q bb oo : Nat) (A : Option Addr) (ks bs : List UInt8) (w : World) (hk : Rd w B A 32 (Byt ks)) (hko : SlOK A 32 d) (hb : Rd w B (some ⟨bb, oo, none⟩) m (Byt bs)) (hbo : SlOK (some ⟨bb, oo, none⟩) m q) (hm : 48 ≤ m) (hm2 : m ≤ 60048) (hB : B ≤ w.heap.size) :
    Calls Tryd.prog 14 #[.slice A 32 d, .slice (some ⟨bb, oo, none⟩) m q] w (fun en w' => if bokU ks bs = true then NewRF w (bopenU ks bs) 0 en w' else NewRF w [] 11 en w') := by
  have n2 : ¬ ((m : Int) < 48) := by omega
  have n3 : ¬ (60048 < (m : Int)) := by omega
  obtain ⟨e, he⟩ : ∃ e : Nat, m = e + 32 := ⟨m - 32, by omega⟩
  have hme : (m : Int) - 32 = (e : Int) := by omega
  have hq := hbo.le
  have hq1 : m ≤ q := hq.1
  have he16 : 16 ≤ e := by omega
  have heq : e ≤ q := by omega
  have hqe : e < q := by omega
  have hqn : ¬ q = e := by omega
  have hqn2 : ¬ q = 16 := by omega
  have hqi : ¬ ((q : Int) < 16) := by omega
  have hei : ¬ ((e : Int) < 16) := by omega
  have hem : e ≤ m := by omega
  have hq16 : 16 ≤ q := by omega
  have hbl := hb.bytes
  have D := fun (s : ByteArray) (h : s.size ≤ 1073741824) W (hb : Below w.heap.size w W) => rderive_any W.heap.size 32 d A ks s W ((hk.below (hb.mono hB)).wider (Nat.le_trans hB hb.size)) hko (by decide) h (Nat.le_refl _)
  have D1 := D sealT (by decide)
  have D2 := D tagT (by decide)
  rw [show sealT.data.toList = sealB from rfl] at D1
  rw [show tagT.data.toList = tagB from rfl] at D2
  unfold sealT at D1
  unfold tagT at D2
  have hd1 : (deriveU ks sealB).length = 32 := deriveU_length _ _
  have hd2 : (deriveU ks tagB).length = 32 := deriveU_length _ _
  unfold NewR at D1 D2
  rw [hd1] at D1
  rw [hd2] at D2
  have HB := Lib.hid (fun W (h : Below w.heap.size w W) => (hb.below (h.mono hB)).wider (Nat.le_trans hB h.size))
  -- the parts of the box
  have Hm : Hid (∀ W, Below w.heap.size w W → Rd W W.heap.size (some ⟨bb, oo + 16, none⟩) (e - 16) (Byt ((bs.take e).drop 16))) := Lib.hid (fun W hW => by
    rw [Byt_drop]
    exact ((HB.out W hW).front hem).tail he16)
  have Hf : Hid (∀ W, Below w.heap.size w W → Rd W W.heap.size (some ⟨bb, oo, none⟩) e (Byt (bs.take e))) := Lib.hid (fun W hW => (HB.out W hW).front hem)
  have Hn : Hid (∀ W, Below w.heap.size w W → Rd W W.heap.size (some ⟨bb, oo, none⟩) 16 (Byt (bs.take 16))) := Lib.hid (fun W hW => (HB.out W hW).front (by omega))
  have Ht : Hid (∀ W, Below w.heap.size w W → Rd W W.heap.size (some ⟨bb, oo + e, none⟩) 32 (Byt (bs.drop e))) := Lib.hid (fun W hW => by
    have := (HB.out W hW).tail hem
    rw [show m - e = 32 by omega, ← Byt_drop] at this
    exact this)
  have Hok : Hid (bokU ks bs = sameL (macU (deriveU ks tagB) (bs.take e)) (bs.drop e)) := Lib.hid (by rw [bokU, hbl, show m - 32 = e by omega, bsame_comm]; rfl)
  have Hml : Hid ((macU (deriveU ks tagB) (bs.take e)).length = 32) := Lib.hid (macU_length _ _)
  have Hop : Hid (bopenU ks bs = coverU (akeysU (deriveU ks sealB)) (bs.take 16) ((bs.take e).drop 16)) := Lib.hid (by rw [bopenU, hbl, show m - 32 = e by omega]; rfl)
  have hol : (bopenU ks bs).length = e - 16 := by rw [bopenU, bhide_length, hbl, List.length_drop, List.length_take, hbl]; omega
  have C2 := fun A1 c1 W (h : Below w.heap.size w W) (hr : Rd W W.heap.size A1 32 (Byt (deriveU ks tagB))) (ho : SlOK A1 32 c1) =>
    rof_any W.heap.size 32 c1 e q A1 (some ⟨bb, oo, none⟩) _ _ W hr ho (by decide) (Hf.out W h) (.inr ⟨_, rfl, heq, hq.2⟩) (by omega) (Nat.le_refl _)
  have C4 := fun A2 c2 W (h : Below w.heap.size w W) (hr : Rd W W.heap.size A2 32 (Byt (macU (deriveU ks tagB) (bs.take e)))) =>
    rsame_any W.heap.size 32 32 c2 (q - e) A2 (some ⟨bb, oo + e, none⟩) _ _ W hr (Ht.out W h) (by decide) (by decide)
  have C3 := fun A1 c1 W (h : Below w.heap.size w W) (hr : Rd W W.heap.size A1 32 (Byt (deriveU ks sealB))) =>
    rcover_any _ _ _ c1 q (q - 16) W.heap.size (e - 16) A1 (some ⟨bb, oo, none⟩) (some ⟨bb, oo + 16, none⟩) W hr (Hn.out W h) (Hm.out W h) (Nat.le_refl _) (by omega)
  rw [← Hok.out] at C4
  rw [← Hop.out] at C3
  unfold NewRF at C3
  rw [hol] at C3
  unfold NewB at C2
  rw [Hml.out] at C2
  have Hfin : Hid (∀ A' c' w', Rd w' w'.heap.size A' (e - 16) (Byt (bopenU ks bs)) → SlOK A' (e - 16) c' → Below w.heap.size w w' → NewRF w (bopenU ks bs) 0 (.returned (.tuple #[.slice A' (e - 16) c', .int .i64 0])) w') := Lib.hid (by
    intro A' c' w' hr ho hb
    refine ⟨A', c', by rw [hol], ?_, ?_, hb⟩
    · rw [hol]; exact hr
    · rw [hol]; exact ho)
  have Hno : Hid (∀ w', Below w.heap.size w w' → NewRF w [] 11 (.returned (.tuple #[.slice none 0 0, .int .i64 11])) w') := Lib.hid (fun w' hb => ⟨none, 0, rfl, Rd.nil, SlOK.nil, hb⟩)
  clear hol hk hb hbo hbl hko D
  revert D1 D2 hd1 hd2 C2 C4 C3 Hfin Hno
  clear Hok Hop Hf Hn Ht HB Hm Hml
  generalize bokU ks bs = ok
  generalize bopenU ks bs = X
  generalize macU (deriveU ks tagB) (bs.take e) = M
  generalize deriveU ks sealB = K1
  generalize deriveU ks tagB = K2
  intro D1 D2 hd1 hd2 C2 C4 C3 Hfin Hno
  have H1 : Hid (∀ W, Below w.heap.size w W → Calls Tryd.prog 11 #[.slice A 32 d, .string ⟨#[115, 101, 97, 108]⟩] W (fun en w' => ∃ v, en = .returned v ∧ ∃ A c, v = .slice A 32 c ∧ Rd w' w'.heap.size A 32 (Byt K1) ∧ SlOK A 32 c ∧ Below W.heap.size W w')) := Lib.hid (fun W h => (D1 W h).mono (by rintro en w' ⟨A1, c1, rfl, h1, h2, h3⟩; exact ⟨_, rfl, A1, c1, rfl, h1, h2, h3⟩))
  have H2 : Hid (∀ W, Below w.heap.size w W → Calls Tryd.prog 11 #[.slice A 32 d, .string ⟨#[116, 97, 103]⟩] W (fun en w' => ∃ v, en = .returned v ∧ ∃ A c, v = .slice A 32 c ∧ Rd w' w'.heap.size A 32 (Byt K2) ∧ SlOK A 32 c ∧ Below W.heap.size W w')) := Lib.hid (fun W h => (D2 W h).mono (by rintro en w' ⟨A1, c1, rfl, h1, h2, h3⟩; exact ⟨_, rfl, A1, c1, rfl, h1, h2, h3⟩))
  have H4 : Hid (∀ A1 c1 W, Below w.heap.size w W → Rd W W.heap.size A1 32 (Byt K2) → SlOK A1 32 c1 → Calls Tryd.prog 20 #[.slice A1 32 c1, .slice (some ⟨bb, oo, none⟩) e q] W (fun en w' => ∃ v, en = .returned v ∧ ∃ A c, v = .slice A 32 c ∧ Rd w' w'.heap.size A 32 (Byt M) ∧ SlOK A 32 c ∧ Below W.heap.size W w')) := Lib.hid (fun A1 c1 W h hr ho => (C2 A1 c1 W h hr ho).mono (by rintro en w' ⟨A1, c1, rfl, h1, h3⟩; exact ⟨_, rfl, A1, c1, rfl, Rd.of_own h1, SlOK.of_own h1, h3⟩))
  have H3 : Hid (∀ A1 c1 W, Below w.heap.size w W → Rd W W.heap.size A1 32 (Byt K1) → Calls Tryd.prog 18 #[.slice A1 32 c1, .slice (some ⟨bb, oo, none⟩) 16 q, .slice (some ⟨bb, oo + 16, none⟩) (e - 16) (q - 16)] W (fun en w' => ∃ v, en = .returned v ∧ ∃ A c, v = .tuple #[.slice A (e - 16) c, .int .i64 0] ∧ Rd w' w'.heap.size A (e - 16) (Byt X) ∧ SlOK A (e - 16) c ∧ Below W.heap.size W w')) := Lib.hid (fun A1 c1 W h hr => (C3 A1 c1 W h hr).mono (by rintro en w' ⟨A1, c1, rfl, h1, h2, h3⟩; exact ⟨_, rfl, A1, c1, rfl, h1, h2, h3⟩))
  have H5 := Lib.hid C4
  clear C2 C3 C4 D1 D2 hd1 hd2
  revert Hfin Hno
  generalize NewRF w X 0 = G1
  generalize NewRF w [] 11 = G2
  intro Hfin Hno
  have hme2 : m - e = 32 := by omega
  have He := Lib.hid he
  clear he hm hm2 hq
  generalize hG : (fun (en : Ending) w' => if ok = true then G1 en w' else G2 en w') = G
  have HG := Lib.hid hG
  clear hG
  go_enter Tryd.func14, Tryd.ntmps14
  go_wp2_with fail
  refine wp_region_heldD (S := fun w' => Below w.heap.size w w') (by kernel_rfl) ?_
  refine wpAnyH_takeD (i := 0) (v := .slice A 32 d) (some 23) rfl rfl (by kernel_rfl) (fun _ _ _ h => h) (.inl ⟨by rfl, fun W _ => rfl⟩) ((Below.refl w.heap.size w).drew) ?_
  simp only [Act.put, List.setIfInBounds_toArray, List.set_cons_zero, List.set_cons_succ]
  refine wpAnyH_takeD (i := 2) (v := .slice (some ⟨bb, oo, none⟩) m q) (some 25) rfl rfl (by kernel_rfl) (fun _ _ _ h => h) (.inl ⟨by rfl, fun W _ => rfl⟩) ((Below.refl w.heap.size w).drew) ?_
  simp only [Act.put, List.setIfInBounds_toArray, List.set_cons_zero, List.set_cons_succ]
  refine wpAnyH_takeD (i := 3) (v := .int .i64 (e : Int)) (some 26) rfl rfl (by kernel_rfl) (fun _ _ _ h => h) (.inl ⟨by rfl, fun W _ => rfl⟩) ((Below.refl w.heap.size w).drew) ?_
  simp only [Act.put, List.setIfInBounds_toArray, List.set_cons_zero, List.set_cons_succ]
  refine wpAnyH_takeD (i := 4) (v := .slice (some ⟨bb, oo, none⟩) e q) (some 27) rfl rfl (by kernel_rfl) (fun _ _ _ h => h) (.inl ⟨by rfl, fun W _ => by go_simp⟩) ((Below.refl w.heap.size w).drew) ?_
  simp only [Act.put, List.setIfInBounds_toArray, List.set_cons_zero, List.set_cons_succ]
  refine wpAnyH_takeD (i := 6) (v := .slice (some ⟨bb, oo, none⟩) m q) (some 29) rfl rfl (by kernel_rfl) (fun _ _ _ h => h) (.inl ⟨by rfl, fun W _ => rfl⟩) ((Below.refl w.heap.size w).drew) ?_
  simp only [Act.put, List.setIfInBounds_toArray, List.set_cons_zero, List.set_cons_succ]
  refine wpAnyH_takeD (i := 7) (v := .int .i64 (e : Int)) (some 30) rfl rfl (by kernel_rfl) (fun _ _ _ h => h) (.inl ⟨by rfl, fun W _ => rfl⟩) ((Below.refl w.heap.size w).drew) ?_
  simp only [Act.put, List.setIfInBounds_toArray, List.set_cons_zero, List.set_cons_succ]
  refine wpAnyH_takeD (i := 8) (v := .slice (some ⟨bb, oo + e, none⟩) 32 (q - e)) (some 31) rfl rfl (by kernel_rfl) (fun _ _ _ h => h) (.inl ⟨by rfl, fun W _ => by go_simp⟩) ((Below.refl w.heap.size w).drew) ?_
  simp only [Act.put, List.setIfInBounds_toArray, List.set_cons_zero, List.set_cons_succ]
  refine wpAnyH_oneD (i := 1) (by kernel_rfl) rfl (fun K1 hK1 => ?_)
  refine stepE_callV (R := fun v w' => ∃ A c, v = .slice A 32 c ∧ Rd w' w'.heap.size A 32 (Byt K2) ∧ SlOK A 32 c ∧ Below _ _ w') (some 24) rfl (by rfl) 11 Tryd.func11 (by kernel_rfl) rfl _ _ rfl [.slice A 32 d, .string ⟨#[116, 97, 103]⟩] rfl (H2.out _ ((Below.refl w.heap.size w).drew)) (fun v W1 hW => ?_)
  obtain ⟨A1, c1, rfl, hr1, ho1, hW⟩ := hW
  refine hK1.out _ _ (bon ((Below.refl w.heap.size w).drew) hW) ?_
  have F1 := Lib.hid (bon ((Below.refl w.heap.size w).drew) hW)
  have Hr1 := Lib.hid hr1
  have Ho1 := Lib.hid ho1
  clear hr1 ho1 hW hK1 K1
  simp only [Act.put, List.setIfInBounds_toArray, List.set_cons_zero, List.set_cons_succ]
  refine wpAnyH_oneD (i := 5) (by kernel_rfl) rfl (fun K3 hK3 => ?_)
  refine stepE_callV (R := fun v w' => ∃ A c, v = .slice A 32 c ∧ Rd w' w'.heap.size A 32 (Byt M) ∧ SlOK A 32 c ∧ Below _ _ w') (some 28) rfl (by rfl) 20 Tryd.func20 (by kernel_rfl) rfl _ _ rfl [.slice A1 32 c1, .slice (some ⟨bb, oo, none⟩) e q] rfl (H4.out A1 c1 _ F1.out Hr1.out Ho1.out) (fun v W3 hW => ?_)
  obtain ⟨A2, c2, rfl, hr2, ho2, hW⟩ := hW
  refine hK3.out _ _ (bon (F1.out) hW) ?_
  have F2 := Lib.hid (bon (F1.out) hW)
  have Hr2 := Lib.hid hr2
  have Ho2 := Lib.hid ho2
  clear hr2 ho2 hW hK3 K3 Hr1 Ho1
  simp only [Act.put, List.setIfInBounds_toArray, List.set_cons_zero, List.set_cons_succ]
  refine wpAnyH_oneD (i := 9) (by kernel_rfl) rfl (fun K4 hK4 => ?_)
  refine stepE_callW (v := .bool ok) (R := fun w' => Below _ _ w') (some 32) rfl (by rfl) 10 Tryd.func10 (by kernel_rfl) rfl _ _ rfl [.slice A2 32 c2, .slice (some ⟨bb, oo + e, none⟩) 32 (q - e)] rfl (H5.out A2 c2 _ F2.out Hr2.out) (fun W4 hW => hK4.out _ _ (bon F2.out hW) ?_)
  have F4 := Lib.hid (bon F2.out hW)
  clear hW hK4 K4 Hr2 Ho2 F1 F2
  simp only [Act.put, List.setIfInBounds_toArray, List.set_cons_zero, List.set_cons_succ]
  refine wpAnyH_takeD (i := 10) (v := .bool (!ok)) (some 33) rfl rfl (by kernel_rfl) (fun _ _ _ h => h) (.inl ⟨by rfl, fun W _ => by go_simp⟩) (F4.out) ?_
  simp only [Act.put, List.setIfInBounds_toArray, List.set_cons_zero, List.set_cons_succ]
  refine wpAnyH_doneD (by kernel_rfl) ?_
  cases ok
  · have Hg : Hid (G (.returned (.tuple #[.slice none 0 0, .int .i64 11])) W4) := Lib.hid (by rw [← HG.out]; exact Hno.out _ F4.out)
    go_wp2
    exact Hg.out
  · go_wp2_with fail
    refine wp_region_heldD (S := fun w' => Below w.heap.size w w') (by kernel_rfl) ?_
    refine wpAnyH_takeD (i := 0) (v := .slice A 32 d) (some 34) rfl rfl (by kernel_rfl) (fun _ _ _ h => h) (.inl ⟨by rfl, fun W _ => rfl⟩) ((F4.out.drew)) ?_
    simp only [Act.put, List.setIfInBounds_toArray, List.set_cons_zero, List.set_cons_succ]
    refine wpAnyH_takeD (i := 2) (v := .slice (some ⟨bb, oo, none⟩) m q) (some 36) rfl rfl (by kernel_rfl) (fun _ _ _ h => h) (.inl ⟨by rfl, fun W _ => rfl⟩) ((F4.out.drew)) ?_
    simp only [Act.put, List.setIfInBounds_toArray, List.set_cons_zero, List.set_cons_succ]
    refine wpAnyH_takeD (i := 3) (v := .slice (some ⟨bb, oo, none⟩) 16 q) (some 37) rfl rfl (by kernel_rfl) (fun _ _ _ h => h) (.inl ⟨by rfl, fun W _ => by go_simp⟩) ((F4.out.drew)) ?_
    simp only [Act.put, List.setIfInBounds_toArray, List.set_cons_zero, List.set_cons_succ]
    refine wpAnyH_takeD (i := 4) (v := .slice (some ⟨bb, oo, none⟩) m q) (some 38) rfl rfl (by kernel_rfl) (fun _ _ _ h => h) (.inl ⟨by rfl, fun W _ => rfl⟩) ((F4.out.drew)) ?_
    simp only [Act.put, List.setIfInBounds_toArray, List.set_cons_zero, List.set_cons_succ]
    refine wpAnyH_takeD (i := 5) (v := .int .i64 (e : Int)) (some 39) rfl rfl (by kernel_rfl) (fun _ _ _ h => h) (.inl ⟨by rfl, fun W _ => rfl⟩) ((F4.out.drew)) ?_
    simp only [Act.put, List.setIfInBounds_toArray, List.set_cons_zero, List.set_cons_succ]
    refine wpAnyH_takeD (i := 6) (v := .slice (some ⟨bb, oo + 16, none⟩) (e - 16) (q - 16)) (some 40) rfl rfl (by kernel_rfl) (fun _ _ _ h => h) (.inl ⟨by rfl, fun W _ => by go_simp⟩) ((F4.out.drew)) ?_
    simp only [Act.put, List.setIfInBounds_toArray, List.set_cons_zero, List.set_cons_succ]
    refine wpAnyH_oneD (i := 1) (by kernel_rfl) rfl (fun K5 hK5 => ?_)
    refine stepE_callV (R := fun v w' => ∃ A c, v = .slice A 32 c ∧ Rd w' w'.heap.size A 32 (Byt K1) ∧ SlOK A 32 c ∧ Below _ _ w') (some 35) rfl (by rfl) 11 Tryd.func11 (by kernel_rfl) rfl _ _ rfl [.slice A 32 d, .string ⟨#[115, 101, 97, 108]⟩] rfl (H1.out _ ((F4.out.drew))) (fun v W5 hW => ?_)
    obtain ⟨A1, c1, rfl, hr1, ho1, hW⟩ := hW
    refine hK5.out _ _ (bon ((F4.out.drew)) hW) ?_
    have F5 := Lib.hid (bon ((F4.out.drew)) hW)
    have Hr1 := Lib.hid hr1
    have Ho1 := Lib.hid ho1
    clear hr1 ho1 hW hK5 K5
    simp only [Act.put, List.setIfInBounds_toArray, List.set_cons_zero, List.set_cons_succ]
    refine wpAnyH_oneD (i := 7) (by kernel_rfl) rfl (fun K6 hK6 => ?_)
    refine stepE_callV (R := fun v w' => ∃ A c, v = .tuple #[.slice A (e - 16) c, .int .i64 0] ∧ Rd w' w'.heap.size A (e - 16) (Byt X) ∧ SlOK A (e - 16) c ∧ Below _ _ w') (some 41) rfl (by rfl) 18 Tryd.func18 (by kernel_rfl) rfl _ _ rfl [.slice A1 32 c1, .slice (some ⟨bb, oo, none⟩) 16 q, .slice (some ⟨bb, oo + 16, none⟩) (e - 16) (q - 16)] rfl (H3.out A1 c1 _ F5.out Hr1.out) (fun v W6 hW => ?_)
    obtain ⟨A2, c2, rfl, hr2, ho2, hW⟩ := hW
    refine hK6.out _ _ (bon (F5.out) hW) ?_
    have F6 := Lib.hid (bon (F5.out) hW)
    have Hr2 := Lib.hid hr2
    have Ho2 := Lib.hid ho2
    clear hr2 ho2 hW hK6 K6 Hr1 Ho1
    simp only [Act.put, List.setIfInBounds_toArray, List.set_cons_zero, List.set_cons_succ]
    refine wpAnyH_takeD (i := 8) (v := .slice A2 (e - 16) c2) (some 42) rfl rfl (by kernel_rfl) (fun _ _ _ h => h) (.inl ⟨by rfl, fun W _ => rfl⟩) (F6.out) ?_
    simp only [Act.put, List.setIfInBounds_toArray, List.set_cons_zero, List.set_cons_succ]
    refine wpAnyH_takeD (i := 9) (v := .int .i64 0) (some 43) rfl rfl (by kernel_rfl) (fun _ _ _ h => h) (.inl ⟨by rfl, fun W _ => rfl⟩) (F6.out) ?_
    simp only [Act.put, List.setIfInBounds_toArray, List.set_cons_zero, List.set_cons_succ]
    refine wpAnyH_takeD (i := 10) (v := .slice A2 (e - 16) c2) (some 4) rfl rfl (by kernel_rfl) (fun _ _ _ h => h) (.inl ⟨by rfl, fun W _ => rfl⟩) (F6.out) ?_
    simp only [Act.put, List.setIfInBounds_toArray, List.set_cons_zero, List.set_cons_succ]
    refine wpAnyH_takeD (i := 11) (v := .int .i64 0) (some 5) rfl rfl (by kernel_rfl) (fun _ _ _ h => h) (.inl ⟨by rfl, fun W _ => rfl⟩) (F6.out) ?_
    simp only [Act.put, List.setIfInBounds_toArray, List.set_cons_zero, List.set_cons_succ]
    refine wpAnyH_doneD (by kernel_rfl) ?_
    have Hg : Hid (G (.returned (.tuple #[.slice A2 (e - 16) c2, .int .i64 0])) W6) := Lib.hid (by rw [← HG.out]; exact Hfin.out A2 c2 W6 Hr2.out Ho2.out F6.out)
    clear Hr2 Ho2 F6
    go_wp2
    exact Hg.out

end Go.Proofs.YtacbpdampdikjaaDoor

namespace Go.Proofs.YtacbpdampdikjaaDoor

theorem own : ownKnob Tryd.prog.godebug = none := by kernel_rfl
theorem laidOut : laidOutB Tryd.prog = true := by kernel_rfl
theorem cells_u8 : Tryd.prog.cellsOf 5 = 1 := by kernel_rfl

end Go.Proofs.YtacbpdampdikjaaDoor

/-
  Rows of fields (a struct of two ints, a number and bytes). No program is named here.
-/
namespace Go.Proofs.YtacbpdampdikjaaDoor
open Go.RowKit

/-- A field: what it holds, and where its bytes lie. -/
structure Fld where
  kind : Int
  size : Int
  num : Nat
  A : Option Addr
  m : Nat
  c : Nat
  bs : List UInt8
instance : Inhabited Fld := ⟨⟨0, 0, 0, none, 0, 0, []⟩⟩
def Fld.cells (f : Fld) : Array Value := #[.int .i64 f.kind, .int .i64 f.size, .int .u64 (f.num : Int), .slice f.A f.m f.c]
/-- What the field's parts keep. -/
structure FldOK (w : World) (B : Nat) (f : Fld) : Prop where
  kind : -9223372036854775808 ≤ f.kind ∧ f.kind ≤ 9223372036854775807
  size : -9223372036854775808 ≤ f.size ∧ f.size ≤ 9223372036854775807
  num : f.num < 18446744073709551616
  ok : SlOK f.A f.m f.c
  rd : Rd w B f.A f.m (Byt f.bs)
/-- The slice reads as fields: four cells each. -/
def Flds (w : World) (B : Nat) (A : Option Addr) (n : Nat) (fs : List Fld) : Prop :=
  fs.length = n ∧ (∀ f ∈ fs, FldOK w B f) ∧ (0 < n → ∃ b o, A = some ⟨b, o, none⟩ ∧ b < B ∧ ∀ j (hj : j < fs.length),
    w.cell? ⟨b, o + j * 4, none⟩ = some (.int .i64 fs[j].kind) ∧ w.cell? ⟨b, o + j * 4 + 1, none⟩ = some (.int .i64 fs[j].size) ∧ w.cell? ⟨b, o + j * 4 + 2, none⟩ = some (.int .u64 (fs[j].num : Int)) ∧ w.cell? ⟨b, o + j * 4 + 3, none⟩ = some (.slice fs[j].A fs[j].m fs[j].c))
section
variable {w w' : World} {B n : Nat} {A : Option Addr} {fs : List Fld}
theorem FldOK.keep {f : Fld} (h : FldOK w B f) (hk : ∀ p : Addr, p.block < B → w'.cell? p = w.cell? p) : FldOK w' B f := ⟨h.kind, h.size, h.num, h.ok, h.rd.keep hk⟩
theorem Flds.keep (h : Flds w B A n fs) (hk : ∀ p : Addr, p.block < B → w'.cell? p = w.cell? p) : Flds w' B A n fs :=
  ⟨h.1, fun f hf => (h.2.1 f hf).keep hk, fun hn => by
    obtain ⟨b, o, e, hb, hc⟩ := h.2.2 hn
    exact ⟨b, o, e, hb, fun j hj => by
      obtain ⟨h0, h1, h2, h3⟩ := hc j hj
      exact ⟨(hk _ hb).trans h0, (hk _ hb).trans h1, (hk _ hb).trans h2, (hk _ hb).trans h3⟩⟩⟩
theorem Flds.below (h : Flds w B A n fs) (hb : Below B w w') : Flds w' B A n fs := h.keep fun _ hp => hb.cell hp
theorem Flds.get (h : Flds w B A n fs) {j : Nat} (hj : j < fs.length) : FldOK w B fs[j] := h.2.1 _ (List.getElem_mem hj)
theorem Flds.at_ (h : Flds w B A n fs) {j : Nat} (hj : j < fs.length) : ∃ b o, A = some ⟨b, o, none⟩ ∧ b < B ∧
    w.cell? ⟨b, o + j * 4, none⟩ = some (.int .i64 fs[j].kind) ∧ w.cell? ⟨b, o + j * 4 + 1, none⟩ = some (.int .i64 fs[j].size) ∧ w.cell? ⟨b, o + j * 4 + 2, none⟩ = some (.int .u64 (fs[j].num : Int)) ∧ w.cell? ⟨b, o + j * 4 + 3, none⟩ = some (.slice fs[j].A fs[j].m fs[j].c) := by
  obtain ⟨b, o, e, hb, hc⟩ := h.2.2 (by have := h.1; omega)
  exact ⟨b, o, e, hb, hc j hj⟩
end

end Go.Proofs.YtacbpdampdikjaaDoor

/-
  A slice of fields that came in. No program is named here.
-/
namespace Go.Proofs.YtacbpdampdikjaaDoor
open Go.ChangeShapes Go.WideShapes Go.ChangeAt Go.RowKit

section
variable {H : Type} {enc : TypeId × Value → H} {P : Program} {w : World} {base : Nat} {held : Bool}

/-- A slice of bytes in a cell. -/
theorem bytes_cell {t e : TypeId} (ht : P.underlying t = some (.slice e)) (he : P.underlying e = some (.int .u8)) (hc : P.cellsOf e = 1)
    {fuel : Nat} {v : Value} {x : DataW H × List MemPlace} (hf : DataW.trod enc P w base (fun _ => true) held fuel t [v] = some x) (hlt : ∀ p ∈ x.2, p.block < w.heap.size) :
    ∃ A n c bs, v = .slice A n c ∧ SlOK A n c ∧ Rd w w.heap.size A n (Byt bs) := by
  rcases open_ints ht he hc hf with ⟨hcs, _⟩ | ⟨a, n, c, zs, hcs, _, hl, hm, hz, hx, hcell, hwz⟩
  · simp at hcs
    subst hcs
    exact ⟨none, 0, 0, [], rfl, .nil, Rd.nil⟩
  · simp at hcs
    subst hcs
    obtain ⟨x1, x2⟩ := x
    simp only [Prod.mk.injEq] at hx
    obtain ⟨-, rfl⟩ := hx
    simp only [if_true] at hz
    have hby : ∀ i (hi : i < zs.length), zs[i] = ((UInt8.ofNat zs[i].toNat).toNat : Int) := by
      intro i hi
      have h := hwz zs[i] (List.getElem_mem hi)
      simp only [Lit.wf, Bool.and_eq_true, decide_eq_true_eq] at h
      have h1 : IntKind.u8.min = 0 := rfl
      have h2 : IntKind.u8.max = 255 := rfl
      rw [UInt8.toNat_ofNat']
      omega
    rcases Nat.eq_zero_or_pos c with h0 | h0
    · subst h0
      obtain rfl : n = 0 := by omega
      exact ⟨_, 0, 0, [], rfl, .inr ⟨a, rfl, by omega, Nat.zero_le _⟩, ⟨rfl, fun h => by omega⟩⟩
    · have hlen : ((zs.take n).map fun z => UInt8.ofNat z.toNat).length = n := by simp; omega
      obtain ⟨b, o, sp⟩ := a
      have hsp : sp = none := by simpa [Addr.add] using World.cell?_spot (hcell 0 (by omega))
      subst hsp
      refine ⟨some ⟨b, o, none⟩, n, c, (zs.take n).map (fun z => UInt8.ofNat z.toNat), rfl, .inr ⟨_, rfl, hl, hm⟩, by rw [Byt_length]; exact hlen, fun hn => ?_⟩
      refine ⟨b, o, rfl, hlt (.cell b o) (MemPlace.mem_row.2 ⟨0, by omega, by simp⟩), fun j u hj => ?_⟩
      have hj' : j < ((zs.take n).map fun z => UInt8.ofNat z.toNat).length := by
        have := (List.getElem?_eq_some_iff.1 hj).1
        rwa [Byt_length] at this
      rw [Byt_get hj'] at hj
      injection hj with hj
      rw [← hj, ← add_flat, hcell j (by omega)]
      simp only [List.getElem_map, List.getElem_take]
      rw [← hby j (by omega)]
      simp [List.getD, List.getElem?_eq_getElem (show j < zs.length by omega)]

/-- A slice of bytes that came in, with what it may look like. -/
theorem open_bytesk {t e : TypeId} (ht : P.underlying t = some (.slice e)) (he : P.underlying e = some (.int .u8)) (hc : P.cellsOf e = 1)
    {r : Reach} {b0 : Nat} {v : Value} {d : DataW H} {ps : List MemPlace} (hval : Value.okWide P w r b0 t v) (hd : DataW.Trod enc P w base (fun _ => true) held t v d ps) (hlt : ∀ x ∈ ps, x.block < w.heap.size) :
    ∃ A n c bs, v = .slice A n c ∧ SlOK A n c ∧ Rd w w.heap.size A n (Byt bs) := by
  obtain ⟨A, n, c, rfl⟩ := okWide_slice ht hval
  obtain ⟨fuel, hf⟩ := hd
  exact bytes_cell ht he hc hf hlt

theorem take1 {v0 v1 v2 v3 : Value} : ([v0, v1, v2, v3].drop 0).take 1 = [v0] ∧ ([v0, v1, v2, v3].drop 1).take 1 = [v1] ∧ ([v0, v1, v2, v3].drop 2).take 1 = [v2] ∧ ([v0, v1, v2, v3].drop 3).take 1 = [v3] := ⟨rfl, rfl, rfl, rfl⟩

/-- A field in four cells. -/
theorem fld_cells {t ti tn tb te : TypeId} {f0 f1 f2 f3 : Field} (ht : P.underlying t = some (.struct #[f0, f1, f2, f3])) (o0 : f0.offset = 0 ∧ f0.type = ti) (o1 : f1.offset = 1 ∧ f1.type = ti) (o2 : f2.offset = 2 ∧ f2.type = tn) (o3 : f3.offset = 3 ∧ f3.type = tb)
    (hi : P.underlying ti = some (.int .i64)) (hn : P.underlying tn = some (.int .u64)) (hb : P.underlying tb = some (.slice te)) (he : P.underlying te = some (.int .u8)) (ce : P.cellsOf te = 1) (ci : P.cellsOf ti = 1) (cn : P.cellsOf tn = 1) (cb : P.cellsOf tb = 1) (ct : P.cellsOf t = 4)
    {fuel : Nat} {cs : List Value} {x : DataW H × List MemPlace} (h : DataW.trod enc P w base (fun _ => true) held fuel t cs = some x) (hlt : ∀ p ∈ x.2, p.block < w.heap.size) :
    ∃ f : Fld, FldOK w w.heap.size f ∧ cs = [.int .i64 f.kind, .int .i64 f.size, .int .u64 (f.num : Int), .slice f.A f.m f.c] := by
  obtain ⟨xs, n, _, hx, hl, hxl, hfs⟩ := DataW.trod_struct ht h
  rw [ct] at hl
  match cs, hl with
  | [v0, v1, v2, v3], _ =>
    obtain ⟨t0, t1, t2, t3⟩ := @take1 v0 v1 v2 v3
    have g0 := hfs 0 f0 rfl
    have g1 := hfs 1 f1 rfl
    have g2 := hfs 2 f2 rfl
    have g3 := hfs 3 f3 rfl
    rw [o0.1, o0.2, ci, t0] at g0
    rw [o1.1, o1.2, ci, t1] at g1
    rw [o2.1, o2.2, cn, t2] at g2
    rw [o3.1, o3.2, cb, t3] at g3
    have hxl4 : xs.length = 4 := hxl
    match xs, hxl4 with
    | [x0, x1, x2, x3], _ =>
      simp at g0 g1 g2 g3
      obtain ⟨z0, e0, _, w0⟩ := DataW.trod_int hi g0
      obtain ⟨z1, e1, _, w1⟩ := DataW.trod_int hi g1
      obtain ⟨z2, e2, _, w2⟩ := DataW.trod_int hn g2
      obtain ⟨A, m, c, bs, e3, hok, hrd⟩ := bytes_cell hb he ce g3 (fun p hp => hlt p (by rw [hx]; simp [hp]))
      obtain ⟨k, rfl, hk⟩ := wf_u64 w2
      injection e0 with e0 _
      injection e1 with e1 _
      injection e2 with e2 _
      subst e0 e1 e2 e3
      exact ⟨⟨z0, z1, k, A, m, c, bs⟩, ⟨wf_int w0, wf_int w1, hk, hok, hrd⟩, rfl⟩

/-- A slice of fields that came in. -/
theorem open_flds {t e ti tn tb te : TypeId} {f0 f1 f2 f3 : Field} (hs : P.underlying t = some (.slice e)) (ht : P.underlying e = some (.struct #[f0, f1, f2, f3])) (o0 : f0.offset = 0 ∧ f0.type = ti) (o1 : f1.offset = 1 ∧ f1.type = ti) (o2 : f2.offset = 2 ∧ f2.type = tn) (o3 : f3.offset = 3 ∧ f3.type = tb)
    (hi : P.underlying ti = some (.int .i64)) (hn : P.underlying tn = some (.int .u64)) (hb : P.underlying tb = some (.slice te)) (he : P.underlying te = some (.int .u8)) (ce : P.cellsOf te = 1) (ci : P.cellsOf ti = 1) (cn : P.cellsOf tn = 1) (cb : P.cellsOf tb = 1) (ct : P.cellsOf e = 4)
    {r : Reach} {b0 : Nat} {v : Value} {d : DataW H} {ps : List MemPlace} (hval : Value.okWide P w r b0 t v) (hd : DataW.Trod enc P w base (fun _ => true) held t v d ps) (hlt : ∀ x ∈ ps, x.block < w.heap.size) :
    ∃ A n c fs, v = .slice A n c ∧ n ≤ maxLen ∧ Flds w w.heap.size A n fs := by
  obtain ⟨A, n, c, rfl⟩ := okWide_slice hs hval
  obtain ⟨fuel, hf⟩ := hd
  rcases Go.Deep.open_slice hs hf with ⟨hcs, _⟩ | ⟨a, n', c', m, q, D, Pl, hcs, _, hl, hm, hmm, hx, hel⟩
  · simp [Value.cells] at hcs
    obtain ⟨rfl, rfl, rfl⟩ := hcs
    exact ⟨none, 0, 0, [], rfl, Nat.zero_le _, rfl, (fun f hf => by cases hf), (fun h => by omega)⟩
  · simp [Value.cells] at hcs
    obtain ⟨rfl, rfl, rfl⟩ := hcs
    simp only [if_true] at hmm
    subst hmm
    simp only [Prod.mk.injEq] at hx
    obtain ⟨-, rfl⟩ := hx
    rw [ct] at hel
    have each : ∀ i, i < n → ∃ f : Fld, FldOK w w.heap.size f ∧ w.cells? base (a.add (i * 4)) 4 = some [.int .i64 f.kind, .int .i64 f.size, .int .u64 (f.num : Int), .slice f.A f.m f.c] := by
      intro i hi'
      obtain ⟨cs, h1, h2⟩ := hel i (by omega)
      obtain ⟨f, hok, rfl⟩ := fld_cells ht o0 o1 o2 o3 hi hn hb he ce ci cn cb ct h2 (fun p hp => hlt p (List.mem_append.2 (.inr (List.mem_flatMap.2 ⟨i, List.mem_range.2 (by omega), hp⟩))))
      exact ⟨f, hok, h1⟩
    obtain ⟨G, hG⟩ := Go.Deep.choose_lt (α := Fld) (p := fun i f => FldOK w w.heap.size f ∧ w.cells? base (a.add (i * 4)) 4 = some [.int .i64 f.kind, .int .i64 f.size, .int .u64 (f.num : Int), .slice f.A f.m f.c]) each
    refine ⟨some a, n, _, (List.range n).map G, rfl, by omega, by simp, fun f hf => ?_, fun h0 => ?_⟩
    · obtain ⟨i, hi', rfl⟩ := List.mem_map.1 hf
      exact (hG i (List.mem_range.1 hi')).1
    · obtain ⟨b, o, sp⟩ := a
      have hsp : sp = none := by
        have := World.cells?_some (hG 0 h0).2
        have h1 := this.2.2 0 (by omega)
        simpa [Addr.add] using World.cell?_spot h1
      subst hsp
      refine ⟨b, o, rfl, hlt (.cell b o) (List.mem_append.2 (.inl (MemPlace.mem_row.2 ⟨0, by rw [ct]; omega, by simp⟩))), fun j hj => ?_⟩
      have hj' : j < n := by simpa using hj
      have hc := (World.cells?_some (hG j hj').2).2.2
      simp only [add_flat] at hc
      have e : ((List.range n).map G)[j] = G j := by simp
      rw [e]
      exact ⟨hc 0 (by omega), hc 1 (by omega), hc 2 (by omega), hc 3 (by omega)⟩
end

end Go.Proofs.YtacbpdampdikjaaDoor

/-
  A table among the listed variables, at every world of a call. No program is named here.
-/
namespace Go.Proofs.YtacbpdampdikjaaDoor
open Go.RowKit

/-- A table among the listed variables. -/
theorem tabIs_mem {P : Program} {W : World} {name : String} {k : IntKind} {zs : List Int} {g : Nat} {t e : TypeId} {n : Nat}
    (hg : P.globalNamed name = some g) (hty : (P.globals[g]?).map (·.type) = some t) (ht : P.underlying t = some (.array n e)) (he : P.underlying e = some (.int k)) (hce : P.cellsOf e = 1) (hct : P.cellsOf t = n) :
    ∀ (l : List (String × DataW Unit)) (ps : List MemPlace), DataW.LaidVars P W l ps → (name, Lib.tabData k zs) ∈ l → Lib.TabIs P W name k zs
  | [], _, _, hm => by cases hm
  | (n', d') :: r, ps, h, hm => by
    obtain ⟨g', t', cs, fuel, p, q, hg', ht', hvar, hd, hr, _⟩ := h
    rcases List.mem_cons.1 hm with e1 | hm
    · injection e1 with e1 e2
      subst e1
      subst e2
      obtain rfl := Option.some.inj (hg.symm.trans hg')
      obtain rfl := Option.some.inj (hty.symm.trans ht')
      unfold Lib.TabIs
      rw [hvar, ← Lib.cells_of_tab ht he hce hct hd]
    · exact tabIs_mem hg hty ht he hce hct r q hr hm

end Go.Proofs.YtacbpdampdikjaaDoor

/-
  What the rows' listed variable gives: the numbers of the rounds, at the world of a call.
-/
namespace Go.Proofs.YtacbpdampdikjaaDoor
open Go.ChangeShapes Go.WideShapes Go.ChangeAt Go.RowKit

theorem ks_laid : (Rows.laid_oubliette_sha_cubeRoots : DataW Unit) = Lib.tabData .u32 (ksU.map fun (n : Nat) => (n : Int)) := by kernel_rfl
theorem ks_of {W : World} {ps : List MemPlace} (h : DataW.LaidVars Tryd.prog W [("oubliette/sha.cubeRoots", Rows.laid_oubliette_sha_cubeRoots)] ps) : KsAt W := by
  rw [ks_laid] at h
  have ht := tabIs_mem (g := 1) (t := 57) (e := 56) (n := 64) (by kernel_rfl) (by kernel_rfl) (by kernel_rfl) Tryd.underlying56 (by kernel_rfl) (by kernel_rfl) _ ps h (List.mem_singleton.2 rfl)
  intro i hi
  have hc := ht.cell (g := 1) (by kernel_rfl) i (by rw [List.length_map]; exact hi)
  rw [hc, List.getD_eq_getElem?_getD, List.getElem?_map, List.getElem?_eq_getElem (show i < ksU.length from hi)]
  rfl

end Go.Proofs.YtacbpdampdikjaaDoor
