/-
  KdfFewer: for every input the law returns true, and what came in reads behind the call as it did. No condition. The variables that the program lists are tied to its text (the card).
-/
import Derived.Test.YtcmmfghkjfadcaaDoorPkBase4
import Derived.Test.YtcmmfghkjfadcaaDoorPkBase5
import Derived.Test.YtcmmfghkjfadcaaDoorPkBase3
import Derived.Test.YtcmmfghkjfadcaaDoorCards
namespace Go.Proofs.YtcmmfghkjfadcaaDoor
open Go.RowKit

set_option maxHeartbeats 3200000 in
theorem kdfFewer_in (n c m d p q : Nat) (A C : Option Addr) (xs ys : List UInt8) (s : ByteArray) (w : World) (hx : Rd w w.heap.size A n (Byt xs)) (hok : SlOK A n c) (hn : n ≤ 200)
    (hy : Rd w w.heap.size C m (Byt ys)) (hyo : SlOK C m d) (hm : m ≤ 200) (hp1 : 1 ≤ p) (hp2 : p ≤ 100) (hq : q ≤ 100) (hs : s.size ≤ 100) (hK : KsAt w) :
    Calls Tryd.prog 5 #[.slice A n c, .slice C m d, .int .i64 (p : Int), .int .i64 (q : Int), .string s] w (Ans w (.bool true)) := by
  have n1 : ¬ (200 < (n : Int)) := by omega
  have n2 : ¬ (200 < (m : Int)) := by omega
  have n3 : ¬ ((p : Int) < 1) := by omega
  have n4 : ¬ (100 < (p : Int)) := by omega
  have n5 : ¬ ((q : Int) < 0) := by omega
  have n6 : ¬ (100 < (q : Int)) := by omega
  have n7 : ¬ (100 < (s.size : Int)) := by omega
  have hxl := hx.bytes
  have HX := Lib.hid (fun W (hb : Below w.heap.size w W) => (hx.below hb).wider hb.size)
  have HY := Lib.hid (fun W (hb : Below w.heap.size w W) => (hy.below hb).wider hb.size)
  have HK := Lib.hid hK
  obtain ⟨t, ht⟩ : ∃ t : Nat, t = p + q := ⟨_, rfl⟩
  have hti : (p : Int) + (q : Int) = (t : Int) := by omega
  have htl : p ≤ t := by omega
  have C1 := fun W (hb : Below w.heap.size w W) => expand_in W.heap.size n c m d p A C xs ys W (HX.out W hb) hok (by omega) (HY.out W hb) hyo (by omega) hp1 (by omega) (Nat.le_refl _) (HK.out.below hb)
  have C2 := fun W (hb : Below w.heap.size w W) => expand_in W.heap.size n c m d t A C xs ys W (HX.out W hb) hok (by omega) (HY.out W hb) hyo (by omega) (by omega) (by omega) (Nat.le_refl _) (HK.out.below hb)
  have C3 := fun W (hb : Below w.heap.size w W) => chain_any W.heap.size n c A xs s 2 W (HX.out W hb) hok (by omega) (by omega) (Nat.le_refl _) (HK.out.below hb)
  have C5 := fun W (hb : Below w.heap.size w W) => chain_any W.heap.size n c A xs s 3 W (HX.out W hb) hok (by omega) (by omega) (Nat.le_refl _) (HK.out.below hb)
  rw [show (min (2 : Int) 1000).toNat = 2 from by decide] at C3
  rw [show (min (3 : Int) 1000).toNat = 3 from by decide] at C5
  have C4 := fun (e f : Nat) D W (hb : Below w.heap.size w W) (hr : Rd W W.heap.size D e (Byt (chainU xs s.data.toList 2))) (ho : SlOK D e f) => chain_any W.heap.size e f D _ s 1 W hr ho (by have := hr.bytes; have := chainU_le xs s.data.toList 2; omega) (by omega) (Nat.le_refl _) (HK.out.below hb)
  rw [show (min (1 : Int) 1000).toNat = 1 from by decide, chainU_more] at C4
  have Hl1 := Lib.hid (expU_length xs ys (size := p) (by omega))
  have Hl2 := Lib.hid (expU_length xs ys (size := t) (by omega))
  have Hl12 : Hid ((expU xs ys t).take p = expU xs ys p) := Lib.hid (by rw [ht]; exact expU_less xs ys)
  have Hl3 : Hid ((chainU xs s.data.toList 3).length = 32) := Lib.hid (deriveU_length _ _)
  generalize chainU xs s.data.toList 2 = M3 at C3 C4
  generalize chainU xs s.data.toList (2 + 1) = M4 at C4 C5 Hl3
  generalize expU xs ys p = M1 at C1 Hl1 Hl12
  generalize expU xs ys t = M2 at C2 Hl2 Hl12
  unfold NewRF at C1 C2
  unfold NewR at C3 C4 C5
  rw [Hl1.out] at C1
  rw [Hl2.out] at C2
  rw [Hl3.out] at C4 C5
  have H1 := Lib.hid C1; have H2 := Lib.hid C2; have H3 := Lib.hid C3; have H4 := Lib.hid C4; have H5 := Lib.hid C5
  have hpm : p ≤ maxLen := by unfold maxLen; omega
  have htm : t ≤ 8160 := by omega
  have Ht := Lib.hid ht
  clear C1 C2 C3 C4 C5 hx hy hK hxl ht
  go_enter Tryd.func5, Tryd.ntmps5
  go_wp2_with fail
  refine (H1.out w (Below.refl _ _)).mono ?_
  rintro e w1 ⟨A1, c1, rfl, hr1, ho1, hb1⟩
  have Hr1 := Lib.hid hr1
  have Hb1 := Lib.hid hb1; clear hr1 ho1 hb1
  go_wp2_with fail
  refine (H2.out _ Hb1.out).mono ?_
  rintro e w2 ⟨A2, c2, rfl, hr2, ho2, hb2⟩
  obtain ⟨bb, oo, rfl, -, -⟩ := hr2.2 (by omega)
  have hcap := ho2.le
  have hcap2 : c2 ≤ 9223372036854775807 := by have := hcap.2; unfold maxLen at this; omega
  have hcap1 : p ≤ c2 := by omega
  have hs2 := rsame_any w2.heap.size p p c1 c2 A1 (some ⟨bb, oo, none⟩) M1 (M2.take p) w2 ((Hr1.out.below hb2).wider hb2.size) (hr2.front htl) hpm hpm
  rw [Hl12.out, sameL_self] at hs2
  have Hb2 := Lib.hid (bon Hb1.out hb2); clear hr2 ho2 hb2 Hr1
  go_wp2_with fail
  refine hs2.mono ?_
  rintro e w3 ⟨rfl, hb3⟩
  have Hb3 := Lib.hid (bon Hb2.out hb3); clear hb3 hs2
  go_wp2_with fail
  refine (H3.out _ Hb3.out).mono ?_
  rintro e w4 ⟨A4, c4, rfl, hr4, ho4, hb4⟩
  have Hb4 := Lib.hid (bon Hb3.out hb4)
  have h5 := H4.out _ c4 A4 w4 Hb4.out hr4 ho4
  clear hr4 ho4 hb4
  go_wp2_with fail
  refine h5.mono ?_
  rintro e w5 ⟨A5, c5, rfl, hr5, ho5, hb5⟩
  have Hr5 := Lib.hid hr5
  have Hb5 := Lib.hid (bon Hb4.out hb5); clear hr5 ho5 hb5 h5
  go_wp2_with fail
  refine (H5.out _ Hb5.out).mono ?_
  rintro e w6 ⟨A6, c6, rfl, hr6, ho6, hb6⟩
  have hs6 := rsame_any w6.heap.size 32 32 c5 c6 A5 A6 M4 M4 w6 ((Hr5.out.below hb6).wider hb6.size) hr6 (by decide) (by decide)
  rw [sameL_self] at hs6
  have Hb6 := Lib.hid (bon Hb5.out hb6); clear hr6 ho6 hb6 Hr5
  go_wp2_with fail
  refine hs6.mono ?_
  rintro e w7 ⟨rfl, hb7⟩
  have Hb7 := Lib.hid (bon Hb6.out hb7); clear hb7 hs6
  go_wp2_with fail
  refine (alive9_any _ (HK.out.below Hb7.out)).mono ?_
  rintro e w8 ⟨rfl, hb8⟩
  go_wp2
  go_ret
  exact ⟨rfl, bon Hb7.out hb8⟩

set_option maxHeartbeats 1600000 in
theorem kdfFewer_walk (n c m d : Nat) (A C : Option Addr) (xs ys : List UInt8) (z y : Int) (s : ByteArray) (w : World) (hx : Rd w w.heap.size A n (Byt xs)) (hok : SlOK A n c)
    (hy : Rd w w.heap.size C m (Byt ys)) (hyo : SlOK C m d) (hK : KsAt w) :
    Calls Tryd.prog 5 #[.slice A n c, .slice C m d, .int .i64 z, .int .i64 y, .string s] w (Ans w (.bool true)) := by
  have hin : n ≤ 200 → m ≤ 200 → 1 ≤ z → z ≤ 100 → 0 ≤ y → y ≤ 100 → s.size ≤ 100 → Calls Tryd.prog 5 #[.slice A n c, .slice C m d, .int .i64 z, .int .i64 y, .string s] w (Ans w (.bool true)) := by
    intro h1 h2 h3 h4 h5 h6 h7
    obtain ⟨p, rfl⟩ := Int.eq_ofNat_of_zero_le (show 0 ≤ z by omega)
    obtain ⟨q, rfl⟩ := Int.eq_ofNat_of_zero_le h5
    exact kdfFewer_in n c m d p q A C xs ys s w hx hok h1 hy hyo h2 (by omega) (by omega) (by omega) h7 hK
  clear hx hy
  have hs : ∀ h : Prop, h ∨ ¬ h := fun h => Classical.em h
  rcases hs (200 < (n : Int)) with n1 | n1
  · clear hin hs
    go_enter Tryd.func5, Tryd.ntmps5
    go_wp2_with fail
    refine (alive9_any _ hK).mono ?_
    rintro e w1 ⟨rfl, hb⟩
    go_wp2
    go_ret
    exact ⟨rfl, hb⟩
  rcases hs (200 < (m : Int)) with n2 | n2
  · clear hin hs
    go_enter Tryd.func5, Tryd.ntmps5
    go_wp2_with fail
    refine (alive9_any _ hK).mono ?_
    rintro e w1 ⟨rfl, hb⟩
    go_wp2
    go_ret
    exact ⟨rfl, hb⟩
  rcases hs (z < 1) with n3 | n3
  · clear hin hs
    go_enter Tryd.func5, Tryd.ntmps5
    go_wp2_with fail
    refine (alive9_any _ hK).mono ?_
    rintro e w1 ⟨rfl, hb⟩
    go_wp2
    go_ret
    exact ⟨rfl, hb⟩
  rcases hs (100 < z) with n4 | n4
  · clear hin hs
    go_enter Tryd.func5, Tryd.ntmps5
    go_wp2_with fail
    refine (alive9_any _ hK).mono ?_
    rintro e w1 ⟨rfl, hb⟩
    go_wp2
    go_ret
    exact ⟨rfl, hb⟩
  rcases hs (y < 0) with n5 | n5
  · clear hin hs
    go_enter Tryd.func5, Tryd.ntmps5
    go_wp2_with fail
    refine (alive9_any _ hK).mono ?_
    rintro e w1 ⟨rfl, hb⟩
    go_wp2
    go_ret
    exact ⟨rfl, hb⟩
  rcases hs (100 < y) with n6 | n6
  · clear hin hs
    go_enter Tryd.func5, Tryd.ntmps5
    go_wp2_with fail
    refine (alive9_any _ hK).mono ?_
    rintro e w1 ⟨rfl, hb⟩
    go_wp2
    go_ret
    exact ⟨rfl, hb⟩
  rcases hs (100 < (s.size : Int)) with n7 | n7
  · clear hin hs
    go_enter Tryd.func5, Tryd.ntmps5
    go_wp2_with fail
    refine (alive9_any _ hK).mono ?_
    rintro e w1 ⟨rfl, hb⟩
    go_wp2
    go_ret
    exact ⟨rfl, hb⟩
  exact hin (by omega) (by omega) (by omega) (by omega) (by omega) (by omega) (by omega)

end Go.Proofs.YtcmmfghkjfadcaaDoor

/-
  Five parameters opened at once. No program is named here.
-/
namespace Go.Proofs.YtcmmfghkjfadcaaDoor
open Go.RowKit Go.ChangeShapes
section
variable {H : Type} {enc : TypeId × Value → H} {P : Program} {w : World} {base : Nat} {spare : TypeId → Bool} {held : Bool}
theorem trodAll_five {t t' t'' t3 t4 : TypeId} {args : Array Value} {ds : List (DataW H)} {ps : List MemPlace} (h : DataW.TrodAll enc P w base spare held [t, t', t'', t3, t4] args.toList ds ps) :
    ∃ v v' v'' v3 v4 d d' d'' d3 d4 p p' p'' p3 p4, args = #[v, v', v'', v3, v4] ∧ ds = [d, d', d'', d3, d4] ∧ ps = p ++ p' ++ p'' ++ p3 ++ p4 ∧ DataW.Trod enc P w base spare held t v d p ∧ DataW.Trod enc P w base spare held t' v' d' p' ∧ DataW.Trod enc P w base spare held t'' v'' d'' p'' ∧
      DataW.Trod enc P w base spare held t3 v3 d3 p3 ∧ DataW.Trod enc P w base spare held t4 v4 d4 p4 := by
  obtain ⟨v, vs, d, ds', p, q, hargs, rfl, rfl, hd, hrest⟩ := trodAll_cons h
  obtain ⟨v', vs', d', ds'', p', q', rfl, rfl, rfl, hd', hrest'⟩ := trodAll_cons hrest
  obtain ⟨v'', vs'', d'', ds''', p'', q'', rfl, rfl, rfl, hd'', hrest''⟩ := trodAll_cons hrest'
  obtain ⟨v3, vs3, d3, ds3, p3, q3, rfl, rfl, rfl, hd3, hrest3⟩ := trodAll_cons hrest''
  obtain ⟨v4, vs4, d4, ds4, p4, q4, rfl, rfl, rfl, hd4, hrest4⟩ := trodAll_cons hrest3
  obtain ⟨rfl, rfl, rfl⟩ := trodAll_nil hrest4
  exact ⟨v, v', v'', v3, v4, d, d', d'', d3, d4, p, p', p'', p3, p4, by cases args; simp_all, rfl, by simp, hd, hd', hd'', hd3, hd4⟩
end

end Go.Proofs.YtcmmfghkjfadcaaDoor

namespace Go.Proofs.YtcmmfghkjfadcaaDoor
open Go.ChangeShapes Go.WideShapes Go.ChangeAt Go.RowKit

theorem kdfFewer_met (os : Os) (args : Array Value) : laidMetH Tryd.prog Rows.kdfFewerRow.laid ((World.doorLaid Tryd.prog 400 os).forCall (fun _ _ => 0) ⟨#[], args, []⟩).memory :=
  laidMetH_of_parts3 (fuel := 8) (laidMet_of_run' 8 (by kernel_rfl) (by kernel_rfl)) (by kernel_rfl) (by kernel_rfl)

set_option maxRecDepth 100000 in
theorem kdfFewer_lifted (os : Os) (started : os.Started) (H : Type) (enc : TypeId × Value → H) :
    ReturnsInHanded {} Tryd.checked os 5 .any (fun w args => (Rows.kdfFewerSpec.pre enc Tryd.prog Tryd.f5 [] false w args ∧ laidMetH Tryd.prog Rows.kdfFewerRow.laid w) ∧ sizedMet enc Tryd.prog Tryd.f5 (OpenSpec.ofChange Rows.kdfFewerSpec) false w args)
      (Rows.kdfFewerSpec.post enc Tryd.prog Tryd.f5 false true false false) := by
  refine returnsInHanded_of_change_and (C := Tryd.checked) (X := fun w _ => laidMetH Tryd.prog Rows.kdfFewerRow.laid w) (fun _ _ _ hh h => h.of_heap hh) own started (by kernel_rfl) Tryd.func5
    (ChangeSpec.witness_shaped (enc := enc) (C := Tryd.checked) (os := os) (X := fun w _ => laidMetH Tryd.prog Rows.kdfFewerRow.laid w) false (World.doorLaid Tryd.prog 400 os) #[.slice none 0 0, .slice none 0 0, .int .i64 0, .int .i64 0, .string ByteArray.empty] 8 rfl (World.shaped_of_RefB (by kernel_rfl) (by kernel_rfl)) (by kernel_rfl) (by kernel_rfl) (by kernel_rfl) (kdfFewer_met os _)) ?_
  intro W base args ds gs before hval0 hW _ _ hL _
  rw [MakeChecks.laidMetH_plain _ _ _ (by kernel_rfl)] at hL
  obtain ⟨lps, hlaid, -, -⟩ := hL
  have hval : ∀ (j : Nat) t v, Tryd.f5.params[j]? = some t → args[j]? = some v → Value.okWide Tryd.prog W .any base t v := hval0
  have hW' := hW
  obtain ⟨p, q, hA0, hV, rfl, hfz, hnd⟩ := hW
  have hA : DataW.TrodAll enc Tryd.prog W 0 (fun _ => true) true Tryd.f5.params.toList args.toList ds p := hA0
  rw [Tryd.params5] at hA hval
  obtain ⟨v0, v1, v2, v3, v4, d0, d1, d2, d3, d4, p0, p1, p2, p3, p4, rfl, rfl, rfl, h0, h1, h2, h3, h4⟩ := trodAll_five hA
  have hlt : ∀ x ∈ p0 ++ p1 ++ p2 ++ p3 ++ p4 ++ q, x.block < W.heap.size := fun x hx => by simpa using hW'.lt x hx
  obtain ⟨A0, n0, c0, xs0, rfl, hk0, hx0⟩ := open_bytesk Tryd.underlying22 Tryd.underlying5 cells_u8 (hval 0 22 v0 rfl rfl) h0 (fun x hx => hlt x (by simp [hx]))
  obtain ⟨A1, n1, c1, xs1, rfl, hk1, hx1⟩ := open_bytesk Tryd.underlying22 Tryd.underlying5 cells_u8 (hval 1 22 v1 rfl rfl) h1 (fun x hx => hlt x (by simp [hx]))
  obtain ⟨z2, rfl, rfl, rfl, w2⟩ := open_int Tryd.underlying3 (hval 2 3 v2 rfl rfl) h2
  have hz2 := wf_int w2
  obtain ⟨z3, rfl, rfl, rfl, w3⟩ := open_int Tryd.underlying3 (hval 3 3 v3 rfl rfl) h3
  have hz3 := wf_int w3
  obtain ⟨s4, rfl, hd4, rfl, ws4⟩ := Go.ChangeMaps.open_string Tryd.underlying9 (hval 4 9 v4 rfl rfl) h4
  refine (kdfFewer_walk n0 c0 n1 c1 A0 A1 xs0 xs1 z2 z3 s4 W hx0 hk0 hx1 hk1 (ks_of hlaid)).mono fun e W' ⟨he, hb⟩ => ?_
  subst he
  exact ⟨_, rfl, law_post laidOut rfl rfl Tryd.underlying4 (by kernel_rfl) hW' rfl hb⟩

theorem kdfFewer_said : Rows.KdfFewerSaid :=
  OpenClaim.holds_of_wide 5 Tryd.f5 rfl rfl rfl rfl rfl rfl rfl ⟨rfl, rfl, rfl, rfl, rfl⟩ rfl rfl rfl rfl rfl (by kernel_rfl) Tryd.func5 (by kernel_rfl)
    (of_decide_eq_true (by kernel_rfl)) (by unfold Func.isWrapper; first | (rw [if_pos (by decide +kernel)]; kernel_rfl) | (rw [if_neg (by decide +kernel)]; exact ⟨rfl, rfl⟩))
    (fun os started H enc _ => kdfFewer_lifted os started H enc)

/-- THE CARD: what the row lists is tied to the program. -/
theorem kdfFewer_card : Rows.KdfFewerCardSaid :=
  Claim7.holds_tied_plain_at .later [] _ true _ false
    kdfFewer_said (fun _ h => by cases h) (by kernel_rfl) (fun _ h => by cases h) kdfFewer_row_tie rfl ⟨rfl, rfl⟩ (by kernel_rfl) rfl
    (fun f fn hf hfn => by
      obtain rfl : f = 5 := Option.some.inj ((show Tryd.prog.funcNamed Rows.kdfFewerRow.func = some 5 by kernel_rfl).symm.trans hf) |>.symm
      obtain rfl : fn = Tryd.f5 := (Option.some.inj (Tryd.func5.symm.trans hfn)).symm
      exact ⟨by kernel_rfl, fun j t ht => by
        rw [Tryd.params5] at ht
        have hm : t ∈ [22, 22, 3, 3, 9] := by simpa using Array.mem_of_getElem? ht
        have hall : ([22, 22, 3, 3, 9].all fun u => !Tryd.prog.wantsStandIn u) = true := by kernel_rfl
        exact (show Tryd.prog.wantsStandIn t = false by simpa using List.all_eq_true.1 hall t hm)⟩)
    (by kernel_rfl)

end Go.Proofs.YtcmmfghkjfadcaaDoor
