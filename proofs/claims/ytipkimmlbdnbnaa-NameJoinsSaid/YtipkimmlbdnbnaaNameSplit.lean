import Derived.Test.YtipkimmlbdnbnaaNameBetween
import Derived.Test.YtipkimmlbdnbnaaNamePart
namespace Go.Proofs.Ytipkimmlbdnbnaa
open Go.RowKit Go.Shelf

attribute [local go_sem] Oper.semAt_some

theorem Try.infoStr : (Try.prog.info? 9).map (fun i => (i.zero, i.size, i.bytes)) = some (some (.string ⟨#[]⟩), 1, 16) := by kernel_rfl

set_option maxHeartbeats 400000 in
theorem between_any (s : ByteArray) (w : World) : Calls Try.prog 21 #[.string s] w fun e w' => e = .returned (.func (.func 36) #[] #[.pointer (some ⟨w.heap.size, 0, none⟩)]) ∧ w' = w.alloc (.cells #[.string s] 9) := by
  go_enter Try.func21, Try.ntmps21
  go_wp2
  go_ret
  exact ⟨rfl, rfl⟩

theorem between_stops (F : Fence) (n : Nat) (hF : F.fn 36) (hro : F.round = none) (hn : 1 ≤ n) (Bn : Nat) (s : ByteArray) (hs : s.size ≤ 1099511627776) (w : World) (hBn : Bn < w.heap.size)
    (hc : w.cell? ⟨Bn, 0, none⟩ = some (.string s)) :
    SeqStopsK F n Try.prog 36 #[.pointer (some ⟨Bn, 0, none⟩)] (fun x : List UInt8 => #[Value.string (tx x)]) (KCW Bn) (fun ys => ys = pieces s.data.toList) (fun pre => pre <+: pieces s.data.toList) (pieces s.data.toList).length w :=
  fun l J Jx W hW hJ hJx hY h0 => between1_in F n hF hro hn l Bn s hs J Jx hY W hJ hJx (by have := hW.size; omega) ((hW.cell (p := ⟨Bn, 0, none⟩) hBn).trans hc) h0

theorem split_no {l : List UInt8} {pre : List (List UInt8)} (h : pre <+: pieces l) (hb : 4 < pre.length ∨ pre.all partU = false) : splitU l = [] := by
  have hr : rightU l = false := by
    cases hr : rightU l with
    | false => rfl
    | true =>
      obtain ⟨h1, h2, _⟩ := right_parts hr
      rcases hb with hb | hb
      · have := h.length_le; omega
      · have : pre.all partU = true := List.all_eq_true.2 fun x hx => List.all_eq_true.1 h1 x (h.subset hx)
        rw [this] at hb; cases hb
  unfold splitU
  rw [hr]; rfl
theorem split_yes {l : List UInt8} (h1 : (pieces l).all partU = true) (h2 : (pieces l).length ≤ 4) : splitU l = if 24 < countV l then [] else pieces l := by
  unfold splitU rightU
  rw [h1]
  by_cases h : 24 < countV l
  · rw [if_pos h, decide_eq_false (show ¬ countV l ≤ 24 by omega), Bool.and_false]; rfl
  · rw [if_neg h, decide_eq_true (show countV l ≤ 24 by omega), decide_eq_true h2]; rfl

theorem boxed_below {W W1 : World} {B : Nat} {t : TypeId} {v : Value} (h : Boxed W B t v) (hb : Below W.heap.size W W1) : Boxed W1 B t v := (hb.block B h.lt).trans h
theorem keeps_below {W W1 : World} (hb : Below W.heap.size W W1) : KeepsOthers W W1 := ⟨hb.size, fun k _ hk _ => (hb.block k (Array.getElem?_eq_some_iff.1 hk).1).trans hk⟩
theorem own_ne {W : World} {base B n : Nat} {e : TypeId} {v : Value} {xs : List Value} (h : W.ownsRow base e 1 v n xs) (hB : B < base) : some B ≠ v.ownBlock := by
  rcases h.2 with ⟨rfl, _⟩ | ⟨g, cap, cur, rfl, hg, _⟩
  · simp [Value.ownBlock]
  · intro e'
    simp only [Value.ownBlock, Option.some.injEq] at e'
    omega
theorem kcw_below {W W1 : World} {Bn : Nat} (hn : Bn < W.heap.size) (hb : Below W.heap.size W W1) : KCW Bn W W1 := ⟨hb.cell (p := ⟨Bn, 0, none⟩) hn, (keeps_below hb).walks⟩

set_option maxRecDepth 100000 in
set_option maxHeartbeats 4000000 in
theorem split_in (s : ByteArray) (hs : s.size ≤ 1099511627776) (w : World) :
    CallsIn Fence.wide 5 Try.prog 9 #[.string s] w (NewS 9 w (splitU s.data.toList)) := by
  have hro : Fence.wide.round = none := rfl
  obtain ⟨i0, hi, hz0, hz1, hz2⟩ := info_parts Try.infoStr
  refine callsIn_of_wp_marks Try.func9 rfl trivial ?_ hro
  simp only [Try.ntmps9, List.size_toArray, List.length_cons, List.length_nil, Nat.reduceAdd, Nat.reduceSub, Array.replicate_succ, Array.replicate_zero, List.push_toArray, List.append_toArray, List.nil_append, List.cons_append]
  gi_wp2_with (refine ⟨trivial, ?_⟩; gi_at_call 21; refine (callsIn_wide.2 (between_any _ _)).mono ?_; rintro e w' ⟨rfl, rfl⟩)
  have bR := Boxed.new w 22 (.slice none 0 0)
  have bO := Boxed.new (w.alloc (.cells #[.slice none 0 0] 22)) 22 (.slice none 0 0)
  have bS := Boxed.new ((w.alloc (.cells #[.slice none 0 0] 22)).alloc (.cells #[.slice none 0 0] 22)) 9 (.string s)
  rw [World.size_alloc] at bO
  rw [World.size_alloc, World.size_alloc] at bS
  have hB0 : Below w.heap.size w (((w.alloc (.cells #[.slice none 0 0] 22)).alloc (.cells #[.slice none 0 0] 22)).alloc (.cells #[.string s] 9)) := (((Below.refl _ w).alloc (Nat.le_refl _) _).alloc (by simp) _).alloc (by simp; omega) _
  have hIown : OwnFrom (((w.alloc (.cells #[.slice none 0 0] 22)).alloc (.cells #[.slice none 0 0] 22)).alloc (.cells #[.string s] 9)).heap.size (fun (pre : List (List UInt8)) W => ((∃ v, Boxed W (w.heap.size + 1) 22 v ∧ W.ownsRow (w.heap.size + 1 + 1 + 1) 9 1 v pre.length (Sts pre) ∧ True) ∧ Boxed W w.heap.size 22 (.slice none 0 0) ∧ Boxed W (w.heap.size + 1 + 1) 9 (.string s)) ∧ (pre.length ≤ 4 ∧ pre.all partU = true) ∧ Below w.heap.size w W) :=
    OwnFrom.and (OwnFrom.and (Own.from (holdsRow_own (w.heap.size + 1 + 1 + 1) (w.heap.size + 1) 22 9 1 (fun pre => pre.length) (fun pre => Sts pre) (fun _ _ => True)) _) (OwnFrom.and (Own.from (boxed_own _ _ (fun _ => .slice none 0 0)) _) (Own.from (boxed_own _ _ (fun _ => .string s)) _))) (OwnFrom.and (ownFrom_pure _ (fun pre : List (List UInt8) => pre.length ≤ 4 ∧ pre.all partU = true)) (ownFrom_below (Nat.le_refl _) (by simp; omega)))
  have hXown : ∀ c : Code, OwnFrom (((w.alloc (.cells #[.slice none 0 0] 22)).alloc (.cells #[.slice none 0 0] 22)).alloc (.cells #[.string s] 9)).heap.size (fun (pre : List (List UInt8)) W => (c = Code.ret ∧ (4 < pre.length ∨ pre.all partU = false)) ∧ Boxed W w.heap.size 22 (.slice none 0 0) ∧ Below w.heap.size w W) := fun c =>
    OwnFrom.and (ownFrom_pure _ (fun pre : List (List UInt8) => c = Code.ret ∧ (4 < pre.length ∨ pre.all partU = false))) (OwnFrom.and (Own.from (boxed_own _ _ (fun _ => .slice none 0 0)) _) (ownFrom_below (Nat.le_refl _) (by simp; omega)))
  refine wpIn_rangeFunc_ownF hro (by decide) (gf := 36) (lb := #[.pointer (some ⟨w.heap.size + 1 + 1, 0, none⟩)]) rfl trivial (enters_of Try.func36 (by kernel_rfl) rfl)
    (between_stops Fence.wide 4 trivial rfl (by decide) (w.heap.size + 1 + 1) s hs _ (by simp) bS.cell) KCW.t (KCW.b (by simp)) (Below.refl _ _) (fun _ => rfl)
    (fun (pre : List (List UInt8)) W => ((∃ v, Boxed W (w.heap.size + 1) 22 v ∧ W.ownsRow (w.heap.size + 1 + 1 + 1) 9 1 v pre.length (Sts pre) ∧ True) ∧ Boxed W w.heap.size 22 (.slice none 0 0) ∧ Boxed W (w.heap.size + 1 + 1) 9 (.string s)) ∧ (pre.length ≤ 4 ∧ pre.all partU = true) ∧ Below w.heap.size w W)
    (fun c (pre : List (List UInt8)) W => (c = Code.ret ∧ (4 < pre.length ∨ pre.all partU = false)) ∧ Boxed W w.heap.size 22 (.slice none 0 0) ∧ Below w.heap.size w W)
    hIown hXown
    ⟨⟨⟨_, bO.alloc _, own_nil _ _ _, trivial⟩, (bR.alloc _).alloc _, bS⟩, ⟨by simp, rfl⟩, hB0⟩
    (fun x => { tmps := #[.string s, undef, .pointer (some ⟨w.heap.size, 0, none⟩), .pointer (some ⟨w.heap.size + 1, 0, none⟩), .string (tx x), .string s, .func (.func 36) #[] #[.pointer (some ⟨w.heap.size + 1 + 1, 0, none⟩)], .string (tx x), undef, undef, undef, undef, undef, undef, undef, undef, undef, undef, undef, undef, undef, undef, undef, undef], defers := [] }) ?assign ?body ?done ?stop
  case assign =>
    intro l x W K hK
    gi_wp2
    exact hK
  case body =>
    rintro l pre x W ⟨⟨⟨v, hv, hrow, -⟩, hres, hbs⟩, ⟨hp4, hall⟩, hB⟩ hlt
    obtain ⟨A, c, rfl, -, -⟩ := own_form hrow
    have hc1 := hv.cell
    have hcr := hres.cell
    have hfr := hres.frozen
    by_cases h4 : pre.length = 4
    · have hbad : 4 < (pre ++ [x]).length := by simp; omega
      rw [h4] at hc1
      have Hbad := Lib.hid hbad; clear hbad
      have H4 := Lib.hid h4; clear h4
      gi_wp2
      refine ⟨trivial, ?_⟩
      gi_wp2
      exact ⟨KeepsOthers.setCell _ _ _, ⟨rfl, .inl Hbad.out⟩, hres.set _, hB.setCell (p := ⟨w.heap.size, 0, none⟩) (Nat.le_refl _) _⟩
    · obtain ⟨k, hk⟩ : ∃ k, pre.length = k := ⟨_, rfl⟩
      have hk4 : ((k : Int) == 4) = false := by
        have : ¬ (k : Int) = 4 := by omega
        simpa using this
      rw [hk] at hv hc1 hrow
      have hk3 : k ≤ 3 := by omega
      have Hk := Lib.hid hk; clear hk
      have hpt := part_any (tx x)
      rw [tx_list] at hpt
      cases hgood : partU x with
      | false =>
        rw [hgood] at hpt
        have hbad : (pre ++ [x]).all partU = false := by rw [List.all_append, hall]; simp [hgood]
        have Hbad := Lib.hid hbad; clear hbad
        have Hg := Lib.hid hgood; clear hgood
        gi_wp2_with (refine ⟨trivial, ?_⟩; gi_at_call 15; refine (CallsIn.inRound l (callsIn_wide.2 (hpt _))).mono ?_; rintro e w1 ⟨rfl, hb1⟩; have hv1 := boxed_below hv hb1; have hr1 := boxed_below hres hb1; have hc2 := hv1.cell; have hcr2 := hr1.cell; have hfr2 := hr1.frozen)
        exact ⟨(keeps_below hb1).trans (KeepsOthers.setCell _ _ _), ⟨rfl, .inr Hbad.out⟩, hr1.set _, (hB.trans (hb1.mono hB.size)).setCell (p := ⟨w.heap.size, 0, none⟩) (Nat.le_refl _) _⟩
      | true =>
        rw [hgood] at hpt
        have hgd : (pre ++ [x]).all partU = true := by rw [List.all_append, hall]; simp [hgood]
        have Hgd := Lib.hid hgd; clear hgd
        have Hg := Lib.hid hgood; clear hgood
        gi_wp2_with (first | (refine ⟨trivial, ?_⟩; gi_at_call 15; refine (CallsIn.inRound l (callsIn_wide.2 (hpt _))).mono ?_; rintro e w1 ⟨rfl, hb1⟩; have hv1 := boxed_below hv hb1; have hbs1 := boxed_below hbs hb1; have hr1 := boxed_below hres hb1; have hrow1 := own_below hrow hb1 (Nat.le_refl _); have hc2 := hv1.cell) | (gi_at_builtin; go_loud (refine wpListIn_append_own _ rfl _ _ 22 rfl (w.heap.size + 1 + 1 + 1) 9 i0 (.string ⟨#[]⟩) 1 16 Try.underlying22 hi hz0 hz1 hz2 rfl (by decide) _ _ _ rfl (hrow1.alloc _) ⟨w1.heap.size, 0, none⟩ 1 1 [.string (tx x)] rfl rfl (cell_one_new _ _ _) (by simp [Value.oneCell']) (by unfold maxLen; omega) (by omega) (by have := hbs.lt; have := hb1.size; simp; omega) ?_; intro v' w2 hown' hgrow _; obtain ⟨g', cap', rfl⟩ := ownsRow_succ hown'; obtain ⟨hv2, hv3, hr3, hk3', hb3⟩ := hv1.appended (by decide) (own_base (base' := w.heap.size) hrow1 (by omega)) (by have := hB.size; have := hb1.size; omega) (by omega) (own_base (base' := w.heap.size) hown' (by omega)) hgrow; have hbs3 := ((hbs1.alloc (.cells #[.string (tx x)] 9)).kept hgrow (own_ne hrow1 (by omega))).other (B' := w.heap.size + 1) (by omega) (.slice (some ⟨g', 0, none⟩) (k + 1) cap'); have hrs3 := ((hr1.alloc (.cells #[.string (tx x)] 9)).kept hgrow (own_ne hrow1 (by omega))).other (B' := w.heap.size + 1) (by omega) (.slice (some ⟨g', 0, none⟩) (k + 1) cap'); have hrow3 := hown'.kept (grownBy_setCell' w2 (w.heap.size + 1) (.slice (some ⟨g', 0, none⟩) (k + 1) cap')) (.inr (hv2.not_row (by decide) hown').symm); have hc3 := hv2.cell; have hf3 := hv2.frozen)))
        have e1 : (pre ++ [x]).length = k + 1 := by rw [List.length_append, Hk.out]; rfl
        exact ⟨(keeps_below hb1).trans hk3', ⟨hbs3.cell.trans hbs.cell.symm, ((keeps_below hb1).trans hk3').walks⟩, ⟨⟨_, hv3, by rw [e1, Sts_append]; exact hrow3, trivial⟩, hrs3, hbs3⟩, ⟨by omega, Hgd.out⟩, hB.trans ((hb1.mono hB.size).trans hb3)⟩
  case done =>
    rintro D ys W hD rfl ⟨⟨⟨v, hv, hrow, -⟩, hres, hbs⟩, ⟨hp4, hall⟩, hB⟩ hK
    obtain ⟨A, c, rfl, -, -⟩ := own_form hrow
    have hyes := split_yes hall hp4
    have hcnt := fun w => count_any s w (by omega)
    by_cases hbig : 24 < countV s.data.toList
    · rw [if_pos hbig] at hyes
      have Hy := Lib.hid hyes; clear hyes
      gi_wp2_with (refine ⟨trivial, ?_⟩; gi_at_call 18; refine (callsIn_wide.2 (hcnt _)).mono ?_; rintro e w1 ⟨rfl, hb1⟩; have hr1 := boxed_below hres hb1; have hcr2 := hr1.cell; have hfr2 := hr1.frozen; have hK1 := (hb1.block D (Array.getElem?_eq_some_iff.1 hK).1).trans hK)
      have hK' := (KeepsOthers.setCell w1 ⟨w.heap.size, 0, none⟩ (.slice none 0 0)).same D _ hK1 rfl
      refine ⟨by simp, .inl ⟨_, _, rfl, run_takeDeferred hK', ?_⟩⟩
      have hc5 := cell_kept (hr1.set (.slice none 0 0)).cell (grownBy_putObj' _ D (.deferred none)) (fun r e => by cases e; exact ⟨_, hK', rfl⟩)
      refine ⟨.slice none 0 0, ?_, by rw [Hy.out]; exact ⟨none, 0, rfl, own_nil _ _ _, (hB.trans ((hb1.mono hB.size).setCell (p := ⟨w.heap.size, 0, none⟩) (Nat.le_refl _) _)).trans (belowK_b (w := w) (Nat.le_refl _) _ D _ _ (by simp at hD; omega) hK' rfl rfl)⟩⟩
      simp [results, Try.f9, go_sem, hc5]
    · rw [if_neg hbig] at hyes
      have Hy := Lib.hid hyes; clear hyes
      obtain ⟨k, hk⟩ : ∃ k, (pieces s.data.toList).length = k := ⟨_, rfl⟩
      rw [hk] at hv hrow
      have Hk := Lib.hid hk; clear hk
      have hnb : countV s.data.toList ≤ 24 := by omega
      gi_wp2_with (refine ⟨trivial, ?_⟩; gi_at_call 18; refine (callsIn_wide.2 (hcnt _)).mono ?_; rintro e w1 ⟨rfl, hb1⟩; have hv1 := boxed_below hv hb1; have hr1 := boxed_below hres hb1; have hrow1 := own_below hrow hb1 (Nat.le_refl _); have hc2 := hv1.cell; have hcr2 := hr1.cell; have hfr2 := hr1.frozen; have hK1 := (hb1.block D (Array.getElem?_eq_some_iff.1 hK).1).trans hK)
      have hK' := (KeepsOthers.setCell w1 ⟨w.heap.size, 0, none⟩ (.slice A k c)).same D _ hK1 rfl
      refine ⟨by simp, .inl ⟨_, _, rfl, run_takeDeferred hK', ?_⟩⟩
      have hc5 := cell_kept (hr1.set (.slice A k c)).cell (grownBy_putObj' _ D (.deferred none)) (fun r e => by cases e; exact ⟨_, hK', rfl⟩)
      have hrow2 := hrow1.kept (grownBy_setCell' w1 w.heap.size (.slice A k c)) (.inr (hr1.not_row (by decide) hrow1).symm)
      refine ⟨.slice A k c, ?_, by rw [Hy.out]; exact ⟨A, c, by rw [Hk.out], by rw [Hk.out]; exact own_base (ownsRow_putObj hrow2 _ hK' rfl) (by omega), (hB.trans ((hb1.mono hB.size).setCell (p := ⟨w.heap.size, 0, none⟩) (Nat.le_refl _) _)).trans (belowK_b (w := w) (Nat.le_refl _) _ D _ _ (by simp at hD; omega) hK' rfl rfl)⟩⟩
      simp [results, Try.f9, go_sem, hc5]
  case stop =>
    rintro D c pre W hD hpre ⟨⟨rfl, hbad⟩, hbx, hB⟩ hK
    have hno := split_no hpre hbad
    rw [hno]
    gi_wp2
    refine ⟨by simp, .inl ⟨_, _, rfl, run_takeDeferred hK, ?_⟩⟩
    have hc5 := cell_kept hbx.cell (grownBy_putObj' _ D (.deferred none)) (fun r e => by cases e; exact ⟨_, hK, rfl⟩)
    refine ⟨.slice none 0 0, ?_, none, 0, rfl, own_nil _ _ _, hB.trans (belowK_b (w := w) (Nat.le_refl _) W D _ _ (by simp at hD; omega) hK rfl rfl)⟩
    simp [results, Try.f9, go_sem, hc5]

theorem split_any (s : ByteArray) (w : World) (hs : s.size ≤ 1099511627776) : Calls Try.prog 9 #[.string s] w (NewS 9 w (splitU s.data.toList)) := callsIn_wide.1 (split_in s hs w)

end Go.Proofs.Ytipkimmlbdnbnaa
