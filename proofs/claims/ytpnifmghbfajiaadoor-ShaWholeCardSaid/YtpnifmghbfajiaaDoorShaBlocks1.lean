/-
  The blocks of a row and its padding, one by one: the sequence.
-/
import Derived.Test.YtpnifmghbfajiaaDoorRangeAll
import Derived.Test.YtpnifmghbfajiaaDoorHexChunk
import Derived.Test.YtpnifmghbfajiaaDoorShaBlk
import Derived.Test.YtpnifmghbfajiaaDoorShaPad
import Derived.Test.YtpnifmghbfajiaaDoorBytesClone
import Derived.Test.YtpnifmghbfajiaaDoorStepOwned
import Derived.Test.YtpnifmghbfajiaaDoorShaBlocksLoop
namespace Go.Proofs.YtpnifmghbfajiaaDoor
open Go.RowKit Go.Shelf

theorem Rd.take {w : World} {B n k : Nat} {A : Option Addr} {xs : List Value} (h : Rd w B A n xs) (hk : k ≤ n) : Rd w B A k (xs.take k) := by
  refine ⟨by rw [List.length_take, h.1]; omega, fun h0 => ?_⟩
  obtain ⟨b, o, e, hb, hc⟩ := h.2 (by omega)
  refine ⟨b, o, e, hb, fun j u hu => ?_⟩
  rw [List.getElem?_take] at hu
  split at hu
  · exact hc _ u hu
  · cases hu

theorem blocks_any (n c : Nat) (A : Option Addr) (w : World) : Calls Tryd.prog 34 #[.slice A n c] w fun e w' =>
    e = .returned (.func (.func 37) #[] #[.pointer (some ⟨w.heap.size, 0, none⟩)]) ∧ w' = w.alloc (.cells #[.slice A n c] 30) := by
  have hmf : ∀ (fn : Fn) (first cap : Array Value) (w : World), (Instr.makeFunc fn first cap).run Tryd.prog w = .ok (.func fn first cap) w := fun _ _ _ _ => rfl
  go_enter Tryd.func34, Tryd.ntmps34
  go_wp2
  go_ret
  exact ⟨rfl, rfl⟩

set_option maxRecDepth 100000 in
set_option maxHeartbeats 4000000 in
theorem blocks1_in (d l gh Bt B0 n c : Nat) (A : Option Addr) (xs : List UInt8) (J : List (List UInt8) → World → Prop) (W : World)
    (hJ : Rests W.heap.size J) (hY : Sq Tryd.prog l gh J) (hgh : gh < W.heap.size) (hx : Rd W B0 A n (Byt xs)) (hB0 : B0 ≤ gh) (hok : SlOK A n c) (hn : n ≤ 1099511627776)
    (hBs : Bt < W.heap.size) (hcell : W.cell? ⟨Bt, 0, none⟩ = some (.slice A n c)) (h0 : J [] W) :
    CallsIn Fence.wide d Tryd.prog 37 #[.func (.yield l) #[] #[], .pointer (some ⟨Bt, 0, none⟩)] W fun e W' => (∃ v, e = .returned v) ∧ J (allBlk xs) W' := by
  have hro : Fence.wide.round = none := rfl
  have hxl := hx.bytes
  obtain ⟨wh, hwh⟩ : ∃ wh, wholeN n = wh := ⟨_, rfl⟩
  have hwn : wh ≤ n := by rw [← hwh]; unfold wholeN; omega
  have hwi : (n : Int) / 64 * 64 = (wh : Int) := by rw [← hwh]; unfold wholeN; omega
  refine callsIn_of_wp_marks Tryd.func37 rfl trivial ?_ hro
  simp only [Tryd.ntmps37, List.size_toArray, List.length_cons, List.length_nil, Nat.reduceAdd, Nat.reduceSub, Array.replicate_succ, Array.replicate_zero, List.push_toArray, List.append_toArray, List.nil_append, List.cons_append]
  refine wpIn_wide.2 ?_
  go_wp2_with fail
  have e1 : (W.alloc (.cells #[.func (.yield l) #[] #[]] 38)).cell? ⟨W.heap.size, 0, none⟩ = some (.func (.yield l) #[] #[]) := by simp
  have m1 : Moves (fun k => W.heap.size ≤ k) W (W.alloc (.cells #[.func (.yield l) #[] #[]] 38)) := (Moves.refl _ W).alloc _
  have z1 : (W.alloc (.cells #[.func (.yield l) #[] #[]] 38)).heap.size = W.heap.size + 1 := by simp
  revert e1 m1 z1
  generalize W.alloc (.cells #[.func (.yield l) #[] #[]] 38) = W1
  intro e1 m1 z1
  have Z1 := Lib.hid z1; clear z1
  have M1 := Lib.hid m1; clear m1
  have E1 := Lib.hid e1; clear e1
  have hc1 : W1.cell? ⟨Bt, 0, none⟩ = some (.slice A n c) := (M1.out.cell (p := ⟨Bt, 0, none⟩) hBs (by show ¬ W.heap.size ≤ Bt; omega)).trans hcell
  have Hx1 : Hid (Rd W1 B0 A n (Byt xs)) := Lib.hid (hx.moves M1.out (by omega) (fun h => by
    obtain ⟨b, o, e, hb, _⟩ := hx.2 h
    intro a ha
    rw [e] at ha
    injection ha with ha
    subst ha
    show ¬ W.heap.size ≤ b
    omega))
  have hpad := fun w' => pad_in n w' hn
  have Hpl : Hid (9 ≤ (padU n).length ∧ (padU n).length ≤ 72) := Lib.hid (by rw [padU_length]; have := (zerosU_ok n).2; omega)
  have Hla : Hid (lastU xs = xs.drop wh ++ padU n) := Lib.hid (by unfold lastU; rw [hxl, hwh])
  have Hxd : Hid ((xs.drop wh).length = n - wh) := Lib.hid (by rw [List.length_drop, hxl])
  have Hab : Hid (allBlk xs = cutsU 64 (xs.take wh) (numU 64 (xs.take wh)) ++ cutsU 64 (lastU xs) (numU 64 (lastU xs))) := Lib.hid (by unfold allBlk; rw [hxl, hwh])
  have Hx := Lib.hid hx; clear hx
  have Hok := Lib.hid hok
  rcases hok with ⟨rfl, rfl, rfl⟩ | ⟨a, rfl, hnc, hcm⟩
  · obtain rfl : wh = 0 := by omega
    have hclone : ∀ w', w'.heap.size ≥ W1.heap.size → Calls Tryd.prog 38 #[.slice none 0 0] w' (NewB 5 w' (xs.drop 0)) := fun w' hs => by
      refine bclone_any B0 0 0 none (xs.drop 0) w' ?_ (.inl ⟨rfl, rfl, rfl⟩) (by have := Z1.out; omega) (by omega)
      have h0 : xs.drop 0 = [] := List.drop_eq_nil_of_le (by omega)
      rw [h0]
      exact Rd.nil
    have hbt1 : Bt < W1.heap.size := by have := Z1.out; omega
    have Hbt1 := Lib.hid hbt1; clear hbt1
    refine wp_onlyN ?_
    first
      | (go_region_held_law (fun w' => w'.cell? ⟨Bt, 0, none⟩ = some (.slice none 0 0))
      (first | exact hc1 | exact hS3 | exact hS4 | exact hS5)
      (first
        | (go_simp; go_at_call 38; refine (hclone W1.drew (Nat.le_refl _)).mono ?_; rintro e w3 ⟨A3, c3, rfl, hown3, hb3⟩; have hS3 : w3.cell? ⟨Bt, 0, none⟩ = some (.slice none 0 0) := (hb3.cell (p := ⟨Bt, 0, none⟩) Hbt1.out).trans hc1; have hown3' : w3.ownsRow W1.drew.heap.size 5 1 (.slice A3 0 c3) 0 (Byt (xs.drop 0)) := Eq.mp (by rw [Hxd.out, Nat.sub_self]) hown3)
        | (go_simp; go_at_call 15; refine (hpad w3).mono ?_; rintro e w4 ⟨A4, c4, rfl, hown4, hb4⟩; have hS4 : w4.cell? ⟨Bt, 0, none⟩ = some (.slice none 0 0) := (hb4.cell (p := ⟨Bt, 0, none⟩) (Nat.lt_of_lt_of_le Hbt1.out hb3.size)).trans hS3)
        | (refine step_append_owned (by rfl) (.tmp 15) (.tmp 18) 30 (by rfl) 5 Tryd.underlying30 Tryd.info_u8 W1.drew.heap.size 0 c3 A3 (xs.drop 0) (by rfl) (own_below hown3' hb4 (Nat.le_refl _)) w3.heap.size (padU 0).length c4 A4 (padU 0) (by rfl) hown4 (by have := Hpl.out; omega) (by have := Hpl.out; omega) (Nat.le_trans hb3.size hb4.size) ?_; intro g5 c5 w5 hown5 hm5; have hS5 : w5.cell? ⟨Bt, 0, none⟩ = some (.slice none 0 0) := (hm5.cell (p := ⟨Bt, 0, none⟩) (Nat.lt_of_lt_of_le Hbt1.out (Nat.le_trans hb3.size hb4.size)) (Nat.not_le_of_lt Hbt1.out)).trans hS4)))
      | fail
    dsimp only [OnlyN]
    have mB : Moves (fun k => W1.heap.size ≤ k) W1 w5 := (((Moves.refl _ W1).drew.then hb3).then hb4).go hm5
    have J5 := Lib.hid (hJ [] W w5 h0 (M1.out.trans mB (fun k hk => .inl (by have := Z1.out; omega))))
    have hs5 : W1.heap.size ≤ w5.heap.size := mB.size
    have Hs5 := Lib.hid hs5; clear hs5
    have hE5 : w5.cell? ⟨W.heap.size, 0, none⟩ = some (.func (.yield l) #[] #[]) := (mB.cell (p := ⟨W.heap.size, 0, none⟩) (by have := Z1.out; show W.heap.size < W1.heap.size; omega) (by have := Z1.out; show ¬ W1.heap.size ≤ W.heap.size; omega)).trans E1.out
    have Hx5 : Hid (Rd w5 B0 none 0 (Byt xs)) := Lib.hid (Hx1.out.moves mB (by have := Z1.out; omega) (fun h => by
      obtain ⟨b, o, e, hb, _⟩ := Hx1.out.2 h
      intro a' ha
      rw [e] at ha
      injection ha with ha
      subst ha
      show ¬ W1.heap.size ≤ b
      have := Z1.out
      omega))
    have Hown5 : Hid (w5.ownsRow W1.heap.size 5 1 (.slice (some ⟨g5, 0, none⟩) ((padU 0).length) c5) ((padU 0).length) (Byt (lastU xs))) := Lib.hid (by rw [Hla.out]; rw [Nat.zero_add] at hown5; exact hown5)
    have Hbt5 : Hid (Bt < w5.heap.size) := Lib.hid (Nat.lt_of_lt_of_le Hbt1.out Hs5.out)
    have HE5 := Lib.hid hE5
    clear hown3 hown3' hown4 hown5 hb3 hb4 hm5 mB hS3 hS4 hc1 hclone hpad hcell hwi hE5 Hx1 E1
    go_wp2_with fail
    have hz5 := Z1.out
    have hs5 := Hs5.out
    obtain ⟨-, g5b⟩ := Hown5.out.lt g5 rfl
    have g5a := (Hown5.out.lt g5 rfl).1
    exact blocks1_loop d l gh W.heap.size W.heap.size w5.heap.size 0 0 ((padU 0).length) c5 none (some ⟨g5, 0, none⟩) (xs.take 0) (lastU xs) J _ _ rfl
      _ _ _ _ _ _ _ _ _ _ _ _ _ _ _ _ _ _ _ _ _ _ _ _ _ _ _ _ _ _ _ _ _ _ hJ hY hgh (by simp; omega) (hJ _ _ _ J5.out ((Moves.refl _ _).alloc _))
      ((World.cell?_alloc_lt w5 _ ⟨W.heap.size, 0, none⟩ (by show W.heap.size < _; omega)).trans HE5.out) (by omega)
      (by rw [cell_of_row _ _ 0 _ _ (0, 0) (heap_alloc_new w5 _)]; rfl) (by rw [cell_of_row _ _ 1 _ _ (0, 0) (heap_alloc_new w5 _)]; rfl) (by omega)
      ((by have h := Hx5.out.take (Nat.le_refl 0); rw [← Byt_take] at h; exact (h.alloc (by omega) _).wider (by simp; omega)))
      (fun h a' ha => by
        obtain ⟨b, o, e, hb, _⟩ := Hx5.out.2 (by omega)
        rw [e] at ha
        injection ha with ha
        subst ha
        show ¬ b = gh
        omega)
      (by omega) (by omega)
      (((Rd.of_own Hown5.out).alloc (Nat.le_refl _) _).wider (by simp))
      (fun _ a' ha => by
        injection ha with ha
        subst ha
        show ¬ g5 = gh
        omega)
      (own_form Hown5.out |>.elim fun _ h => h.elim fun _ h => by obtain ⟨e, h1, _⟩ := h; injection e with _ _ e; omega) (by have := Hpl.out; omega)
      (fun v w' h => ⟨⟨v, rfl⟩, by rw [Hab.out]; exact h⟩)
  · rcases Nat.lt_or_ge wh c with hwc | hwc
    · have hclone : ∀ w', w'.heap.size ≥ W1.heap.size → Rd w' B0 (some a) n (Byt xs) → Calls Tryd.prog 38 #[.slice (some (a.add wh)) (n - wh) (c - wh)] w' (NewB 5 w' (xs.drop wh)) := fun w' hs hr => by
        refine bclone_any B0 (n - wh) (c - wh) (some (a.add wh)) (xs.drop wh) w' ?_ (.inr ⟨_, rfl, by omega, by omega⟩) (by have := Z1.out; omega) (by omega)
        rw [Byt_drop]
        refine ⟨by rw [List.length_drop, hr.1], fun h => ?_⟩
        obtain ⟨b, o, e, hb, hc⟩ := hr.2 (by omega)
        injection e with e
        subst e
        exact ⟨b, o + wh, by rw [add_flat], hb, fun j u hu => by rw [List.getElem?_drop] at hu; rw [Nat.add_assoc]; exact hc _ u hu⟩
      have hwn' : (wh : Int) ≤ (n : Int) := by omega
      have hwc' : (wh : Int) ≤ (c : Int) := by omega
      have hbt1 : Bt < W1.heap.size := by have := Z1.out; omega
      have Hbt1 := Lib.hid hbt1; clear hbt1
      refine wp_onlyN ?_
      first
        | (go_region_held_law (fun w' => w'.cell? ⟨Bt, 0, none⟩ = some (.slice (some a) n c))
        (first | exact hc1 | exact hS3 | exact hS4 | exact hS5)
        (first
          | (go_simp; go_at_call 38; refine (hclone W1.drew (Nat.le_refl _) Hx1.out).mono ?_; rintro e w3 ⟨A3, c3, rfl, hown3, hb3⟩; have hS3 : w3.cell? ⟨Bt, 0, none⟩ = some (.slice (some a) n c) := (hb3.cell (p := ⟨Bt, 0, none⟩) Hbt1.out).trans hc1; have hown3' : w3.ownsRow W1.drew.heap.size 5 1 (.slice A3 (n - wh) c3) (n - wh) (Byt (xs.drop wh)) := Eq.mp (by rw [Hxd.out]) hown3)
          | (go_simp; go_at_call 15; refine (hpad w3).mono ?_; rintro e w4 ⟨A4, c4, rfl, hown4, hb4⟩; have hS4 : w4.cell? ⟨Bt, 0, none⟩ = some (.slice (some a) n c) := (hb4.cell (p := ⟨Bt, 0, none⟩) (Nat.lt_of_lt_of_le Hbt1.out hb3.size)).trans hS3)
          | (refine step_append_owned (by rfl) (.tmp 15) (.tmp 18) 30 (by rfl) 5 Tryd.underlying30 Tryd.info_u8 W1.drew.heap.size (n - wh) c3 A3 (xs.drop wh) (by rfl) (own_below hown3' hb4 (Nat.le_refl _)) w3.heap.size (padU n).length c4 A4 (padU n) (by rfl) hown4 (by have := Hpl.out; omega) (by have := Hpl.out; omega) (Nat.le_trans hb3.size hb4.size) ?_; intro g5 c5 w5 hown5 hm5; have hS5 : w5.cell? ⟨Bt, 0, none⟩ = some (.slice (some a) n c) := (hm5.cell (p := ⟨Bt, 0, none⟩) (Nat.lt_of_lt_of_le Hbt1.out (Nat.le_trans hb3.size hb4.size)) (Nat.not_le_of_lt Hbt1.out)).trans hS4)))
        | fail
      dsimp only [OnlyN]
      have mB : Moves (fun k => W1.heap.size ≤ k) W1 w5 := (((Moves.refl _ W1).drew.then hb3).then hb4).go hm5
      have J5 := Lib.hid (hJ [] W w5 h0 (M1.out.trans mB (fun k hk => .inl (by have := Z1.out; omega))))
      have hs5 : W1.heap.size ≤ w5.heap.size := mB.size
      have Hs5 := Lib.hid hs5; clear hs5
      have hE5 : w5.cell? ⟨W.heap.size, 0, none⟩ = some (.func (.yield l) #[] #[]) := (mB.cell (p := ⟨W.heap.size, 0, none⟩) (by have := Z1.out; show W.heap.size < W1.heap.size; omega) (by have := Z1.out; show ¬ W1.heap.size ≤ W.heap.size; omega)).trans E1.out
      have Hx5 : Hid (Rd w5 B0 (some a) n (Byt xs)) := Lib.hid (Hx1.out.moves mB (by have := Z1.out; omega) (fun h => by
        obtain ⟨b, o, e, hb, _⟩ := Hx1.out.2 h
        intro a' ha
        rw [e] at ha
        injection ha with ha
        subst ha
        show ¬ W1.heap.size ≤ b
        have := Z1.out
        omega))
      have Hown5 : Hid (w5.ownsRow W1.heap.size 5 1 (.slice (some ⟨g5, 0, none⟩) (n - wh + (padU n).length) c5) (n - wh + (padU n).length) (Byt (lastU xs))) := Lib.hid (by rw [Hla.out]; exact hown5)
      have Hbt5 : Hid (Bt < w5.heap.size) := Lib.hid (Nat.lt_of_lt_of_le Hbt1.out Hs5.out)
      have HE5 := Lib.hid hE5
      clear hown3 hown3' hown4 hown5 hb3 hb4 hm5 mB hS3 hS4 hc1 hclone hpad hcell hwi hE5 Hx1 E1
      go_wp2_with fail
      have hwb : n - wh ≤ 64 := by rw [← hwh]; unfold wholeN; omega
      have hz5 := Z1.out
      have hs5 := Hs5.out
      obtain ⟨-, g5b⟩ := Hown5.out.lt g5 rfl
      have g5a := (Hown5.out.lt g5 rfl).1
      exact blocks1_loop d l gh W.heap.size W.heap.size w5.heap.size wh c (n - wh + (padU n).length) c5 (some a) (some ⟨g5, 0, none⟩) (xs.take wh) (lastU xs) J _ _ rfl
        _ _ _ _ _ _ _ _ _ _ _ _ _ _ _ _ _ _ _ _ _ _ _ _ _ _ _ _ _ _ _ _ _ _ hJ hY hgh (by simp; omega) (hJ _ _ _ J5.out ((Moves.refl _ _).alloc _))
        ((World.cell?_alloc_lt w5 _ ⟨W.heap.size, 0, none⟩ (by show W.heap.size < _; omega)).trans HE5.out) (by omega)
        (by rw [cell_of_row _ _ 0 _ _ (0, 0) (heap_alloc_new w5 _)]; rfl) (by rw [cell_of_row _ _ 1 _ _ (0, 0) (heap_alloc_new w5 _)]; rfl) (by omega)
        ((by have h := Hx5.out.take hwn; rw [← Byt_take] at h; exact (h.alloc (by omega) _).wider (by simp; omega)))
        (fun h a' ha => by
          obtain ⟨b, o, e, hb, _⟩ := Hx5.out.2 (by omega)
          rw [e] at ha
          injection ha with ha
          subst ha
          show ¬ b = gh
          omega)
        (by omega) (by omega)
        (((Rd.of_own Hown5.out).alloc (Nat.le_refl _) _).wider (by simp))
        (fun _ a' ha => by
          injection ha with ha
          subst ha
          show ¬ g5 = gh
          omega)
        (own_form Hown5.out |>.elim fun _ h => h.elim fun _ h => by obtain ⟨e, h1, _⟩ := h; injection e with _ _ e; omega) (by have := Hpl.out; omega)
        (fun v w' h => ⟨⟨v, rfl⟩, by rw [Hab.out]; exact h⟩)
    · obtain rfl : wh = n := by omega
      obtain rfl : wh = c := by omega
      have hclone : ∀ w', w'.heap.size ≥ W1.heap.size → Calls Tryd.prog 38 #[.slice (some a) 0 0] w' (NewB 5 w' (xs.drop wh)) := fun w' hs => by
        refine bclone_any B0 0 0 (some a) (xs.drop wh) w' ?_ (.inr ⟨_, rfl, by omega, by unfold maxLen; omega⟩) (by have := Z1.out; omega) (by omega)
        have h0 : xs.drop wh = [] := List.drop_eq_nil_of_le (by omega)
        rw [h0]
        exact Rd.nil
      have hbt1 : Bt < W1.heap.size := by have := Z1.out; omega
      have Hbt1 := Lib.hid hbt1; clear hbt1
      refine wp_onlyN ?_
      first
        | (go_region_held_law (fun w' => w'.cell? ⟨Bt, 0, none⟩ = some (.slice (some a) wh wh))
        (first | exact hc1 | exact hS3 | exact hS4 | exact hS5)
        (first
          | (go_simp; go_at_call 38; refine (hclone W1.drew (Nat.le_refl _)).mono ?_; rintro e w3 ⟨A3, c3, rfl, hown3, hb3⟩; have hS3 : w3.cell? ⟨Bt, 0, none⟩ = some (.slice (some a) wh wh) := (hb3.cell (p := ⟨Bt, 0, none⟩) Hbt1.out).trans hc1; have hown3' : w3.ownsRow W1.drew.heap.size 5 1 (.slice A3 0 c3) 0 (Byt (xs.drop wh)) := Eq.mp (by rw [Hxd.out, Nat.sub_self]) hown3)
          | (go_simp; go_at_call 15; refine (hpad w3).mono ?_; rintro e w4 ⟨A4, c4, rfl, hown4, hb4⟩; have hS4 : w4.cell? ⟨Bt, 0, none⟩ = some (.slice (some a) wh wh) := (hb4.cell (p := ⟨Bt, 0, none⟩) (Nat.lt_of_lt_of_le Hbt1.out hb3.size)).trans hS3)
          | (refine step_append_owned (by rfl) (.tmp 15) (.tmp 18) 30 (by rfl) 5 Tryd.underlying30 Tryd.info_u8 W1.drew.heap.size 0 c3 A3 (xs.drop wh) (by rfl) (own_below hown3' hb4 (Nat.le_refl _)) w3.heap.size (padU wh).length c4 A4 (padU wh) (by rfl) hown4 (by have := Hpl.out; omega) (by have := Hpl.out; omega) (Nat.le_trans hb3.size hb4.size) ?_; intro g5 c5 w5 hown5 hm5; have hS5 : w5.cell? ⟨Bt, 0, none⟩ = some (.slice (some a) wh wh) := (hm5.cell (p := ⟨Bt, 0, none⟩) (Nat.lt_of_lt_of_le Hbt1.out (Nat.le_trans hb3.size hb4.size)) (Nat.not_le_of_lt Hbt1.out)).trans hS4)))
        | fail
      dsimp only [OnlyN]
      have mB : Moves (fun k => W1.heap.size ≤ k) W1 w5 := (((Moves.refl _ W1).drew.then hb3).then hb4).go hm5
      have J5 := Lib.hid (hJ [] W w5 h0 (M1.out.trans mB (fun k hk => .inl (by have := Z1.out; omega))))
      have hs5 : W1.heap.size ≤ w5.heap.size := mB.size
      have Hs5 := Lib.hid hs5; clear hs5
      have hE5 : w5.cell? ⟨W.heap.size, 0, none⟩ = some (.func (.yield l) #[] #[]) := (mB.cell (p := ⟨W.heap.size, 0, none⟩) (by have := Z1.out; show W.heap.size < W1.heap.size; omega) (by have := Z1.out; show ¬ W1.heap.size ≤ W.heap.size; omega)).trans E1.out
      have Hx5 : Hid (Rd w5 B0 (some a) wh (Byt xs)) := Lib.hid (Hx1.out.moves mB (by have := Z1.out; omega) (fun h => by
        obtain ⟨b, o, e, hb, _⟩ := Hx1.out.2 h
        intro a' ha
        rw [e] at ha
        injection ha with ha
        subst ha
        show ¬ W1.heap.size ≤ b
        have := Z1.out
        omega))
      have Hown5 : Hid (w5.ownsRow W1.heap.size 5 1 (.slice (some ⟨g5, 0, none⟩) ((padU wh).length) c5) ((padU wh).length) (Byt (lastU xs))) := Lib.hid (by rw [Hla.out]; rw [Nat.zero_add] at hown5; exact hown5)
      have Hbt5 : Hid (Bt < w5.heap.size) := Lib.hid (Nat.lt_of_lt_of_le Hbt1.out Hs5.out)
      have HE5 := Lib.hid hE5
      clear hown3 hown3' hown4 hown5 hb3 hb4 hm5 mB hS3 hS4 hc1 hclone hpad hcell hwi hE5 Hx1 E1
      go_wp2_with fail
      have hz5 := Z1.out
      have hs5 := Hs5.out
      obtain ⟨-, g5b⟩ := Hown5.out.lt g5 rfl
      have g5a := (Hown5.out.lt g5 rfl).1
      exact blocks1_loop d l gh W.heap.size W.heap.size w5.heap.size wh wh ((padU wh).length) c5 (some a) (some ⟨g5, 0, none⟩) (xs.take wh) (lastU xs) J _ _ rfl
        _ _ _ _ _ _ _ _ _ _ _ _ _ _ _ _ _ _ _ _ _ _ _ _ _ _ _ _ _ _ _ _ _ _ hJ hY hgh (by simp; omega) (hJ _ _ _ J5.out ((Moves.refl _ _).alloc _))
        ((World.cell?_alloc_lt w5 _ ⟨W.heap.size, 0, none⟩ (by show W.heap.size < _; omega)).trans HE5.out) (by omega)
        (by rw [cell_of_row _ _ 0 _ _ (0, 0) (heap_alloc_new w5 _)]; rfl) (by rw [cell_of_row _ _ 1 _ _ (0, 0) (heap_alloc_new w5 _)]; rfl) (by omega)
        ((by have h := Hx5.out.take (Nat.le_refl wh); rw [← Byt_take] at h; exact (h.alloc (by omega) _).wider (by simp; omega)))
        (fun h a' ha => by
          obtain ⟨b, o, e, hb, _⟩ := Hx5.out.2 (by omega)
          rw [e] at ha
          injection ha with ha
          subst ha
          show ¬ b = gh
          omega)
        (by omega) (by omega)
        (((Rd.of_own Hown5.out).alloc (Nat.le_refl _) _).wider (by simp))
        (fun _ a' ha => by
          injection ha with ha
          subst ha
          show ¬ g5 = gh
          omega)
        (own_form Hown5.out |>.elim fun _ h => h.elim fun _ h => by obtain ⟨e, h1, _⟩ := h; injection e with _ _ e; omega) (by have := Hpl.out; omega)
        (fun v w' h => ⟨⟨v, rfl⟩, by rw [Hab.out]; exact h⟩)

end Go.Proofs.YtpnifmghbfajiaaDoor
