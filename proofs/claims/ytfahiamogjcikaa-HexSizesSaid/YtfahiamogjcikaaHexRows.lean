import Derived.Test.YtfahiamogjcikaaHexChunk
import Derived.Test.YtfahiamogjcikaaHexPrint
import Derived.Shelf.RegionOpenPlain
namespace Go.Proofs.Ytfahiamogjcikaa
open Go.RowKit Go.Shelf

attribute [local go_sem] Oper.semAt_some

theorem boxedB {W W1 : World} {B : Nat} {t : TypeId} {v : Value} (h : Boxed W B t v) (hb : Below W.heap.size W W1) : Boxed W1 B t v := (hb.block B h.lt).trans h
theorem keepsB {W W1 : World} (hb : Below W.heap.size W W1) : KeepsOthers W W1 := ⟨hb.size, fun k _ hk _ => (hb.block k (Array.getElem?_eq_some_iff.1 hk).1).trans hk⟩
theorem ownNe {W : World} {base B n : Nat} {e : TypeId} {v : Value} {xs : List Value} (h : W.ownsRow base e 1 v n xs) (hB : B < base) : some B ≠ v.ownBlock := by
  rcases h.2 with ⟨rfl, _⟩ | ⟨g, cap, cur, rfl, hg, _⟩
  · simp [Value.ownBlock]
  · intro e'
    simp only [Value.ownBlock, Option.some.injEq] at e'
    omega

set_option maxRecDepth 100000 in
set_option maxHeartbeats 6400000 in
theorem hrows_in (B n c m : Nat) (A : Option Addr) (xs : List UInt8) (w : World) (hx : Rd w B A n (Byt xs)) (hB : B ≤ w.heap.size) (hn : n ≤ 1099511627776) (hnc : n ≤ c) (hm : 0 < m) (hm64 : m ≤ 64) :
    CallsIn Fence.wide 5 Try.prog 13 #[.slice A n c, .int .i64 (m : Int)] w (NewS 9 w ((cutsU m xs (numU m xs)).map hexU)) := by
  have hro : Fence.wide.round = none := rfl
  have hmix : Try.prog.follows .mixedOrders = true := by kernel_rfl
  have hxl := hx.bytes
  obtain ⟨b, o, hA⟩ : ∃ b o, 0 < n → A = some ⟨b, o, none⟩ := by
    rcases Nat.eq_zero_or_pos n with h | h
    · exact ⟨0, 0, fun h' => by omega⟩
    · obtain ⟨b, o, e, _⟩ := hx.2 h
      exact ⟨b, o, fun _ => e⟩
  obtain ⟨i0, hi, hz0, hz1, hz2⟩ := info_parts Try.infoStrH
  have t1 : ¬ ((m : Int) < 1) := by omega
  have t2 : decide ((64 : Int) < (m : Int)) = false := decide_eq_false (by omega)
  have Hxl := Lib.hid hxl; clear hxl
  refine callsIn_of_wp_marks Try.func13 rfl trivial ?_ hro
  simp only [Try.ntmps13, List.size_toArray, List.length_cons, List.length_nil, Nat.reduceAdd, Nat.reduceSub, Array.replicate_succ, Array.replicate_zero, List.push_toArray, List.append_toArray, List.nil_append, List.cons_append]
  gi_wp2_with (refine ⟨trivial, ?_⟩; gi_at_call 22; refine (callsIn_wide.2 (chunk_any n c m A hm _)).mono ?_; rintro e w' ⟨rfl, rfl⟩)
  have bO := Boxed.new w 30 (.slice none 0 0)
  have bS := Boxed.new (w.alloc (.cells #[.slice none 0 0] 30)) 22 (.slice A n c)
  have bI := Boxed.new ((w.alloc (.cells #[.slice none 0 0] 30)).alloc (.cells #[.slice A n c] 22)) 3 (.int .i64 (m : Int))
  rw [World.size_alloc] at bS
  rw [World.size_alloc, World.size_alloc] at bI
  have hB0 : Below w.heap.size w (((w.alloc (.cells #[.slice none 0 0] 30)).alloc (.cells #[.slice A n c] 22)).alloc (.cells #[.int .i64 (m : Int)] 3)) := (((Below.refl _ w).alloc (Nat.le_refl _) _).alloc (by simp) _).alloc (by simp; omega) _
  have hIown : OwnFrom (((w.alloc (.cells #[.slice none 0 0] 30)).alloc (.cells #[.slice A n c] 22)).alloc (.cells #[.int .i64 (m : Int)] 3)).heap.size (fun (pre : List Nat) W => ((∃ v, Boxed W w.heap.size 30 v ∧ W.ownsRow (w.heap.size + 1 + 1 + 1) 9 1 v pre.length (Sts (pre.map fun j => hexU (cutU m xs j))) ∧ True) ∧ Boxed W (w.heap.size + 1) 22 (.slice A n c) ∧ Boxed W (w.heap.size + 1 + 1) 3 (.int .i64 (m : Int))) ∧ Below w.heap.size w W) :=
    OwnFrom.and (OwnFrom.and (Own.from (holdsRow_own (w.heap.size + 1 + 1 + 1) w.heap.size 30 9 1 (fun (pre : List Nat) => pre.length) (fun (pre : List Nat) => Sts (pre.map fun j => hexU (cutU m xs j))) (fun _ _ => True)) _) (OwnFrom.and (Own.from (boxed_own _ _ (fun _ => .slice A n c)) _) (Own.from (boxed_own _ _ (fun _ => .int .i64 (m : Int))) _))) (ownFrom_below (Nat.le_refl _) (by simp; omega))
  have hXown : ∀ cd : Code, OwnFrom (((w.alloc (.cells #[.slice none 0 0] 30)).alloc (.cells #[.slice A n c] 22)).alloc (.cells #[.int .i64 (m : Int)] 3)).heap.size (fun (_ : List Nat) (_ : World) => False) := fun _ s W W' row h _ _ => h
  refine wpIn_rangeFunc_ownF hro (by decide) (gf := 24) (lb := #[.pointer (some ⟨w.heap.size + 1, 0, none⟩), .pointer (some ⟨w.heap.size + 1 + 1, 0, none⟩)]) rfl trivial (enters_of Try.func24 (by kernel_rfl) rfl)
    (chunk_stops 4 (by decide) (w.heap.size + 1) (w.heap.size + 1 + 1) b o n c m A hA xs Hxl.out hn hnc hm hm64 _ (by simp) (by simp) (bS.alloc _).cell bI.cell) KC2.t (KC2.b (by simp) (by simp)) (Below.refl _ _) (fun _ => rfl)
    (fun (pre : List Nat) W => ((∃ v, Boxed W w.heap.size 30 v ∧ W.ownsRow (w.heap.size + 1 + 1 + 1) 9 1 v pre.length (Sts (pre.map fun j => hexU (cutU m xs j))) ∧ True) ∧ Boxed W (w.heap.size + 1) 22 (.slice A n c) ∧ Boxed W (w.heap.size + 1 + 1) 3 (.int .i64 (m : Int))) ∧ Below w.heap.size w W) (fun _ _ _ => False) hIown hXown
    ⟨⟨⟨_, (bO.alloc _).alloc _, own_nil _ _ _, trivial⟩, bS.alloc _, bI⟩, hB0⟩
    (fun x => { tmps := #[.slice A n c, .int .i64 (m : Int), undef, undef, .slice none 0 0, .pointer (some ⟨w.heap.size, 0, none⟩), chunkV b o n m x, .int .i64 (m : Int), .bool false, .bool false, .int .i64 (m : Int), .bool false, .bool false, .slice A n c, .int .i64 (m : Int), .func (.func 24) #[] #[.pointer (some ⟨w.heap.size + 1, 0, none⟩), .pointer (some ⟨w.heap.size + 1 + 1, 0, none⟩)], chunkV b o n m x, undef, undef, undef, undef, undef, undef], defers := [] }) ?assign ?body ?done ?stop
  case assign =>
    intro l x W K hK
    gi_wp2
    exact hK
  case body =>
    rintro l pre x W ⟨⟨⟨v, hv, hrow, -⟩, hs, hi2⟩, hBel⟩ hlt
    obtain ⟨A', c', rfl, -, -⟩ := own_form hrow
    have hc1 := hv.cell
    have hsz := hBel.size
    obtain ⟨k, hk⟩ : ∃ k, pre.length = k := ⟨_, rfl⟩
    rw [hk] at hv hc1 hrow hlt
    have hkn : k ≤ n := by
      have := (num_lt (l := xs) (k := k) hm).2 hlt
      rw [Hxl.out] at this
      have h2 : k * 1 ≤ k * m := Nat.mul_le_mul_left _ hm
      omega
    have hrd : Rd W.drew B _ _ (Byt (cutU m xs x)) := (chunk_rd (m := m) (hx.keep fun p hp => hBel.cell (p := p) (by omega)) hA x).drew
    have hp := hprint_any B (min m (n - x * m)) (min m (n - x * m)) _ (cutU m xs x) W.drew hrd (by show B ≤ W.heap.size; omega) (by omega)
    have Hk := Lib.hid hk; clear hk
    have hcv : chunkV b o n m x = .slice (some ⟨b, o + x * m, none⟩) (min m (n - x * m)) (min m (n - x * m)) := rfl
    gi_wp2
    refine wpIn_region_any (by kernel_rfl) ?_
    change wpAnyIn _ _ _ _ _ _ _ _ _ (World.drew _)
    refine wpAnyIn_ready (rs := [0, 1]) (by kernel_rfl) (by simp) ?_
    refine AllReadyIn.cons rfl (fun K hK => ?_) (AllReadyIn.cons rfl (fun K hK => ?_) AllReadyIn.nil)
    · go_simp
      refine hK _ _ ?_; clear hK K
      refine wpAnyIn_ready (rs := [1]) (by kernel_rfl) (by simp) ?_
      refine AllReadyIn.cons rfl (fun K hK => ?_) AllReadyIn.nil
      go_simp
      refine hK _ _ ?_; clear hK K
      refine wpAnyIn_ready (rs := [2]) (by kernel_rfl) (by simp) ?_
      refine AllReadyIn.cons rfl (fun K hK => ?_) AllReadyIn.nil
      go_simp
      refine ⟨trivial, (CallsIn.inRound l (callsIn_wide.2 hp)).mono ?_⟩
      rintro e w1 ⟨rfl, hb1⟩
      have hb1' : Below W.heap.size W w1 := ⟨hb1.os, hb1.tape, hb1.output, hb1.size, hb1.block⟩
      have hv1 := boxedB hv hb1'
      have hs1 := boxedB hs hb1'
      have hi1 := boxedB hi2 hb1'
      have hrow1 := own_below hrow hb1' (Nat.le_refl _)
      have hc2 := hv1.cell
      have hc2' := (hv1.alloc (.cells #[.string (tx (hexU (cutU m xs x)))] 9)).cell
      have hz1' := hb1'.size
      refine hK _ _ ?_; clear hK K
      refine wpAnyIn_ready (rs := [3]) (by kernel_rfl) (by simp) ?_
      refine AllReadyIn.cons rfl (fun K hK => ?_) AllReadyIn.nil
      go_simp
      refine hK _ _ ?_; clear hK K
      refine wpAnyIn_ready (rs := [4]) (by kernel_rfl) (by simp) ?_
      refine AllReadyIn.cons rfl (fun K hK => ?_) AllReadyIn.nil
      refine stepIn_append rfl _ _ 30 rfl (w.heap.size + 1 + 1 + 1) 9 i0 (.string ⟨#[]⟩) 1 16 Try.underlying30 hi hz0 hz1 hz2 rfl (by decide) _ _ _ rfl (hrow1.alloc _) ⟨w1.heap.size, 0, none⟩ 1 1 [.string (tx (hexU (cutU m xs x)))] rfl rfl (cell_one_new _ _ _) (by simp [Value.oneCell']) (by unfold maxLen; omega) (by omega) (by have := hi1.lt; simp; omega) ?_
      intro v' w2 hown' hgrow
      obtain ⟨g', cap', rfl⟩ := ownsRow_succ hown'
      obtain ⟨hv2, hv3, hr3, hk3', hb3⟩ := hv1.appended (by decide) (own_base (base' := w.heap.size) hrow1 (by omega)) (by omega) (Nat.le_refl _) (own_base (base' := w.heap.size) hown' (by omega)) hgrow
      have hs3 := ((hs1.alloc (.cells #[.string (tx (hexU (cutU m xs x)))] 9)).kept hgrow (ownNe hrow1 (by omega))).other (B' := w.heap.size) (by omega) (.slice (some ⟨g', 0, none⟩) (k + 1) cap')
      have hi3 := ((hi1.alloc (.cells #[.string (tx (hexU (cutU m xs x)))] 9)).kept hgrow (ownNe hrow1 (by omega))).other (B' := w.heap.size) (by omega) (.slice (some ⟨g', 0, none⟩) (k + 1) cap')
      have hrow3 := hown'.kept (grownBy_setCell' w2 w.heap.size (.slice (some ⟨g', 0, none⟩) (k + 1) cap')) (.inr (hv2.not_row (by decide) hown').symm)
      have hc3 := hv2.cell
      have hf3 := hv2.frozen
      refine hK _ _ ?_; clear hK K
      refine wpAnyIn_ready (rs := [5]) (by kernel_rfl) (by simp) ?_
      refine AllReadyIn.cons rfl (fun K hK => ?_) AllReadyIn.nil
      go_simp
      refine hK _ _ ?_; clear hK K
      refine wpAnyIn_done (by kernel_rfl) ?_ _
      have e1 : (pre ++ [x]).length = k + 1 := by rw [List.length_append, Hk.out]; rfl
      exact ⟨(keepsB hb1').trans hk3', ⟨hs3.cell.trans hs.cell.symm, hi3.cell.trans hi2.cell.symm⟩, ⟨⟨⟨_, hv3, by rw [e1, List.map_append, Sts_append]; exact hrow3, trivial⟩, hs3, hi3⟩, hBel.trans ((hb1'.mono hBel.size).trans hb3)⟩⟩
    · go_simp
      refine hK _ _ ?_; clear hK K
      refine wpAnyIn_ready (rs := [0, 2]) (by kernel_rfl) (by simp) ?_
      refine AllReadyIn.cons rfl (fun K hK => ?_) (AllReadyIn.cons rfl (fun K hK => ?_) AllReadyIn.nil)
      · go_simp
        refine hK _ _ ?_; clear hK K
        refine wpAnyIn_ready (rs := [2]) (by kernel_rfl) (by simp) ?_
        refine AllReadyIn.cons rfl (fun K hK => ?_) AllReadyIn.nil
        go_simp
        refine ⟨trivial, (CallsIn.inRound l (callsIn_wide.2 hp)).mono ?_⟩
        rintro e w1 ⟨rfl, hb1⟩
        have hb1' : Below W.heap.size W w1 := ⟨hb1.os, hb1.tape, hb1.output, hb1.size, hb1.block⟩
        have hv1 := boxedB hv hb1'
        have hs1 := boxedB hs hb1'
        have hi1 := boxedB hi2 hb1'
        have hrow1 := own_below hrow hb1' (Nat.le_refl _)
        have hc2 := hv1.cell
        have hc2' := (hv1.alloc (.cells #[.string (tx (hexU (cutU m xs x)))] 9)).cell
        have hz1' := hb1'.size
        refine hK _ _ ?_; clear hK K
        refine wpAnyIn_ready (rs := [3]) (by kernel_rfl) (by simp) ?_
        refine AllReadyIn.cons rfl (fun K hK => ?_) AllReadyIn.nil
        go_simp
        refine hK _ _ ?_; clear hK K
        refine wpAnyIn_ready (rs := [4]) (by kernel_rfl) (by simp) ?_
        refine AllReadyIn.cons rfl (fun K hK => ?_) AllReadyIn.nil
        refine stepIn_append rfl _ _ 30 rfl (w.heap.size + 1 + 1 + 1) 9 i0 (.string ⟨#[]⟩) 1 16 Try.underlying30 hi hz0 hz1 hz2 rfl (by decide) _ _ _ rfl (hrow1.alloc _) ⟨w1.heap.size, 0, none⟩ 1 1 [.string (tx (hexU (cutU m xs x)))] rfl rfl (cell_one_new _ _ _) (by simp [Value.oneCell']) (by unfold maxLen; omega) (by omega) (by have := hi1.lt; simp; omega) ?_
        intro v' w2 hown' hgrow
        obtain ⟨g', cap', rfl⟩ := ownsRow_succ hown'
        obtain ⟨hv2, hv3, hr3, hk3', hb3⟩ := hv1.appended (by decide) (own_base (base' := w.heap.size) hrow1 (by omega)) (by omega) (Nat.le_refl _) (own_base (base' := w.heap.size) hown' (by omega)) hgrow
        have hs3 := ((hs1.alloc (.cells #[.string (tx (hexU (cutU m xs x)))] 9)).kept hgrow (ownNe hrow1 (by omega))).other (B' := w.heap.size) (by omega) (.slice (some ⟨g', 0, none⟩) (k + 1) cap')
        have hi3 := ((hi1.alloc (.cells #[.string (tx (hexU (cutU m xs x)))] 9)).kept hgrow (ownNe hrow1 (by omega))).other (B' := w.heap.size) (by omega) (.slice (some ⟨g', 0, none⟩) (k + 1) cap')
        have hrow3 := hown'.kept (grownBy_setCell' w2 w.heap.size (.slice (some ⟨g', 0, none⟩) (k + 1) cap')) (.inr (hv2.not_row (by decide) hown').symm)
        have hc3 := hv2.cell
        have hf3 := hv2.frozen
        refine hK _ _ ?_; clear hK K
        refine wpAnyIn_ready (rs := [5]) (by kernel_rfl) (by simp) ?_
        refine AllReadyIn.cons rfl (fun K hK => ?_) AllReadyIn.nil
        go_simp
        refine hK _ _ ?_; clear hK K
        refine wpAnyIn_done (by kernel_rfl) ?_ _
        have e1 : (pre ++ [x]).length = k + 1 := by rw [List.length_append, Hk.out]; rfl
        exact ⟨(keepsB hb1').trans hk3', ⟨hs3.cell.trans hs.cell.symm, hi3.cell.trans hi2.cell.symm⟩, ⟨⟨⟨_, hv3, by rw [e1, List.map_append, Sts_append]; exact hrow3, trivial⟩, hs3, hi3⟩, hBel.trans ((hb1'.mono hBel.size).trans hb3)⟩⟩
      · go_simp
        refine ⟨trivial, (CallsIn.inRound l (callsIn_wide.2 hp)).mono ?_⟩
        rintro e w1 ⟨rfl, hb1⟩
        have hb1' : Below W.heap.size W w1 := ⟨hb1.os, hb1.tape, hb1.output, hb1.size, hb1.block⟩
        have hv1 := boxedB hv hb1'
        have hs1 := boxedB hs hb1'
        have hi1 := boxedB hi2 hb1'
        have hrow1 := own_below hrow hb1' (Nat.le_refl _)
        have hc2 := hv1.cell
        have hc2' := (hv1.alloc (.cells #[.string (tx (hexU (cutU m xs x)))] 9)).cell
        have hz1' := hb1'.size
        refine hK _ _ ?_; clear hK K
        refine wpAnyIn_ready (rs := [0, 3]) (by kernel_rfl) (by simp) ?_
        refine AllReadyIn.cons rfl (fun K hK => ?_) (AllReadyIn.cons rfl (fun K hK => ?_) AllReadyIn.nil)
        · go_simp
          refine hK _ _ ?_; clear hK K
          refine wpAnyIn_ready (rs := [3]) (by kernel_rfl) (by simp) ?_
          refine AllReadyIn.cons rfl (fun K hK => ?_) AllReadyIn.nil
          go_simp
          refine hK _ _ ?_; clear hK K
          refine wpAnyIn_ready (rs := [4]) (by kernel_rfl) (by simp) ?_
          refine AllReadyIn.cons rfl (fun K hK => ?_) AllReadyIn.nil
          refine stepIn_append rfl _ _ 30 rfl (w.heap.size + 1 + 1 + 1) 9 i0 (.string ⟨#[]⟩) 1 16 Try.underlying30 hi hz0 hz1 hz2 rfl (by decide) _ _ _ rfl (hrow1.alloc _) ⟨w1.heap.size, 0, none⟩ 1 1 [.string (tx (hexU (cutU m xs x)))] rfl rfl (cell_one_new _ _ _) (by simp [Value.oneCell']) (by unfold maxLen; omega) (by omega) (by have := hi1.lt; simp; omega) ?_
          intro v' w2 hown' hgrow
          obtain ⟨g', cap', rfl⟩ := ownsRow_succ hown'
          obtain ⟨hv2, hv3, hr3, hk3', hb3⟩ := hv1.appended (by decide) (own_base (base' := w.heap.size) hrow1 (by omega)) (by omega) (Nat.le_refl _) (own_base (base' := w.heap.size) hown' (by omega)) hgrow
          have hs3 := ((hs1.alloc (.cells #[.string (tx (hexU (cutU m xs x)))] 9)).kept hgrow (ownNe hrow1 (by omega))).other (B' := w.heap.size) (by omega) (.slice (some ⟨g', 0, none⟩) (k + 1) cap')
          have hi3 := ((hi1.alloc (.cells #[.string (tx (hexU (cutU m xs x)))] 9)).kept hgrow (ownNe hrow1 (by omega))).other (B' := w.heap.size) (by omega) (.slice (some ⟨g', 0, none⟩) (k + 1) cap')
          have hrow3 := hown'.kept (grownBy_setCell' w2 w.heap.size (.slice (some ⟨g', 0, none⟩) (k + 1) cap')) (.inr (hv2.not_row (by decide) hown').symm)
          have hc3 := hv2.cell
          have hf3 := hv2.frozen
          refine hK _ _ ?_; clear hK K
          refine wpAnyIn_ready (rs := [5]) (by kernel_rfl) (by simp) ?_
          refine AllReadyIn.cons rfl (fun K hK => ?_) AllReadyIn.nil
          go_simp
          refine hK _ _ ?_; clear hK K
          refine wpAnyIn_done (by kernel_rfl) ?_ _
          have e1 : (pre ++ [x]).length = k + 1 := by rw [List.length_append, Hk.out]; rfl
          exact ⟨(keepsB hb1').trans hk3', ⟨hs3.cell.trans hs.cell.symm, hi3.cell.trans hi2.cell.symm⟩, ⟨⟨⟨_, hv3, by rw [e1, List.map_append, Sts_append]; exact hrow3, trivial⟩, hs3, hi3⟩, hBel.trans ((hb1'.mono hBel.size).trans hb3)⟩⟩
        · go_simp
          refine hK _ _ ?_; clear hK K
          refine wpAnyIn_ready (rs := [0]) (by kernel_rfl) (by simp) ?_
          refine AllReadyIn.cons rfl (fun K hK => ?_) AllReadyIn.nil
          go_simp
          refine hK _ _ ?_; clear hK K
          refine wpAnyIn_ready (rs := [4]) (by kernel_rfl) (by simp) ?_
          refine AllReadyIn.cons rfl (fun K hK => ?_) AllReadyIn.nil
          refine stepIn_append rfl _ _ 30 rfl (w.heap.size + 1 + 1 + 1) 9 i0 (.string ⟨#[]⟩) 1 16 Try.underlying30 hi hz0 hz1 hz2 rfl (by decide) _ _ _ rfl (hrow1.alloc _) ⟨w1.heap.size, 0, none⟩ 1 1 [.string (tx (hexU (cutU m xs x)))] rfl rfl (cell_one_new _ _ _) (by simp [Value.oneCell']) (by unfold maxLen; omega) (by omega) (by have := hi1.lt; simp; omega) ?_
          intro v' w2 hown' hgrow
          obtain ⟨g', cap', rfl⟩ := ownsRow_succ hown'
          obtain ⟨hv2, hv3, hr3, hk3', hb3⟩ := hv1.appended (by decide) (own_base (base' := w.heap.size) hrow1 (by omega)) (by omega) (Nat.le_refl _) (own_base (base' := w.heap.size) hown' (by omega)) hgrow
          have hs3 := ((hs1.alloc (.cells #[.string (tx (hexU (cutU m xs x)))] 9)).kept hgrow (ownNe hrow1 (by omega))).other (B' := w.heap.size) (by omega) (.slice (some ⟨g', 0, none⟩) (k + 1) cap')
          have hi3 := ((hi1.alloc (.cells #[.string (tx (hexU (cutU m xs x)))] 9)).kept hgrow (ownNe hrow1 (by omega))).other (B' := w.heap.size) (by omega) (.slice (some ⟨g', 0, none⟩) (k + 1) cap')
          have hrow3 := hown'.kept (grownBy_setCell' w2 w.heap.size (.slice (some ⟨g', 0, none⟩) (k + 1) cap')) (.inr (hv2.not_row (by decide) hown').symm)
          have hc3 := hv2.cell
          have hf3 := hv2.frozen
          refine hK _ _ ?_; clear hK K
          refine wpAnyIn_ready (rs := [5]) (by kernel_rfl) (by simp) ?_
          refine AllReadyIn.cons rfl (fun K hK => ?_) AllReadyIn.nil
          go_simp
          refine hK _ _ ?_; clear hK K
          refine wpAnyIn_done (by kernel_rfl) ?_ _
          have e1 : (pre ++ [x]).length = k + 1 := by rw [List.length_append, Hk.out]; rfl
          exact ⟨(keepsB hb1').trans hk3', ⟨hs3.cell.trans hs.cell.symm, hi3.cell.trans hi2.cell.symm⟩, ⟨⟨⟨_, hv3, by rw [e1, List.map_append, Sts_append]; exact hrow3, trivial⟩, hs3, hi3⟩, hBel.trans ((hb1'.mono hBel.size).trans hb3)⟩⟩
  case done =>
    rintro D ys W hD rfl ⟨⟨⟨v, hv, hrow, -⟩, hs, hi2⟩, hBel⟩ hK
    obtain ⟨A', c', rfl, -, -⟩ := own_form hrow
    rw [List.length_range] at hv hrow
    have hc1 := hv.cell
    have hfin : ((cutsU m xs (numU m xs)).map hexU) = (List.range (numU m xs)).map fun j => hexU (cutU m xs j) := by unfold cutsU; rw [List.map_map]; rfl
    have hlen : ((cutsU m xs (numU m xs)).map hexU).length = numU m xs := by rw [List.length_map, cuts_len]
    rw [← hfin] at hrow
    have Hfin := Lib.hid hfin; clear hfin
    have Hlen := Lib.hid hlen; clear hlen
    gi_wp2
    refine ⟨by simp, .inl ⟨_, _, rfl, run_takeDeferred hK, ?_⟩⟩
    refine ⟨.slice A' (numU m xs) c', ?_, A', c', by rw [Hlen.out], by rw [Hlen.out]; exact own_base (ownsRow_putObj hrow _ hK rfl) (by omega), hBel.trans (belowK_b (w := w) (Nat.le_refl _) _ D _ _ (by simp at hD; omega) hK rfl rfl)⟩
    simp [results, Try.f13, go_sem]
  case stop =>
    rintro D c pre W hD hpre h hK
    exact h.elim

end Go.Proofs.Ytfahiamogjcikaa
