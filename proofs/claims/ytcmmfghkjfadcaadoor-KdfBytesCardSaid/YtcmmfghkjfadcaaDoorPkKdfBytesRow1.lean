/-
  KdfBytes: for every input the law returns true, and what came in reads behind the call as it did. No condition. The variables that the program lists are tied to its text (the card).
-/
import Derived.Test.YtcmmfghkjfadcaaDoorPkBase4
import Derived.Test.YtcmmfghkjfadcaaDoorPkBase5
import Derived.Test.YtcmmfghkjfadcaaDoorPkBase3
import Derived.Test.YtcmmfghkjfadcaaDoorCards
namespace Go.Proofs.YtcmmfghkjfadcaaDoor
open Go.RowKit

set_option maxHeartbeats 1600000 in
theorem kdfBytes_in (n c m d k f : Nat) (A C D : Option Addr) (xs ys zs : List UInt8) (z : Int) (w : World) (hx : Rd w w.heap.size A n (Byt xs)) (hok : SlOK A n c) (hn : n ≤ 200)
    (hy : Rd w w.heap.size C m (Byt ys)) (hyo : SlOK C m d) (hm : m ≤ 200) (hz : Rd w w.heap.size D k (Byt zs)) (hzo : SlOK D k f) (hk : k ≤ 200) (hs : ¬ (300 < z) ∨ (300 < z ∧ ¬ (z ≤ 8160))) (hK : KsAt w) :
    Calls Tryd.prog 3 #[.slice A n c, .slice C m d, .slice D k f, .int .i64 z] w (Ans w (.bool true)) := by
  have n1 : ¬ (200 < (n : Int)) := by omega
  have n2 : ¬ (200 < (m : Int)) := by omega
  have n3 : ¬ (200 < (k : Int)) := by omega
  have HX := Lib.hid (fun W (hb : Below w.heap.size w W) => (hx.below hb).wider hb.size)
  have HY := Lib.hid (fun W (hb : Below w.heap.size w W) => (hy.below hb).wider hb.size)
  have HZ := Lib.hid (fun W (hb : Below w.heap.size w W) => (hz.below hb).wider hb.size)
  have HK := Lib.hid hK
  have C1 := fun W (hb : Below w.heap.size w W) => expand_any W.heap.size m d k f C D ys zs z W (HY.out W hb) hyo (by omega) (HZ.out W hb) hzo (by omega) (Nat.le_refl _) (HK.out.below hb)
  have C2 := fun W (hb : Below w.heap.size w W) => rexpand_any W.heap.size m d k f C D ys zs z W (HY.out W hb) hyo (by omega) (HZ.out W hb) hzo (by omega) (Nat.le_refl _)
  have C3 := fun W (hb : Below w.heap.size w W) => extract_any W.heap.size n c m d A C xs ys W (HX.out W hb) hok (by omega) (HY.out W hb) hyo (by omega) (Nat.le_refl _) (HK.out.below hb)
  have C4 := fun W (hb : Below w.heap.size w W) => rof_any W.heap.size n c m d A C xs ys W (HX.out W hb) hok (by omega) (HY.out W hb) hyo (by omega) (Nat.le_refl _)
  have Hl1 := Lib.hid (macU_length xs ys)
  have Hl2 : Hid ((expR ys zs z).length ≤ maxLen) := Lib.hid (by
    unfold expR maxLen
    split
    · rw [expU_length _ _ (by omega)]; omega
    · exact Nat.zero_le _)
  generalize macU xs ys = M1 at C3 C4 Hl1
  generalize expR ys zs z = M2 at C1 C2 Hl2
  generalize expF z = g at C1 C2
  unfold NewB at C3 C4
  unfold NewRF at C1 C2
  rw [Hl1.out] at C3 C4
  have H1 := Lib.hid C1; have H2 := Lib.hid C2; have H3 := Lib.hid C3; have H4 := Lib.hid C4
  clear C1 C2 C3 C4 hx hy hz hK
  generalize M2.length = e2 at H1 H2 Hl2
  rcases hs with hs | ⟨hs, hs'⟩
  all_goals
    go_enter Tryd.func3, Tryd.ntmps3
    go_wp2_with fail
    refine (H1.out w (Below.refl _ _)).mono ?_
    rintro e w1 ⟨A1, c1, rfl, hr1, ho1, hb1⟩
    have Hr1 := Lib.hid hr1
    have Hb1 := Lib.hid hb1; clear hr1 ho1 hb1
    go_wp2_with fail
    refine (H2.out _ Hb1.out).mono ?_
    rintro e w2 ⟨A2, c2, rfl, hr2, ho2, hb2⟩
    have HR1 := Lib.hid ((Hr1.out.below hb2).wider hb2.size)
    have Hr2 := Lib.hid hr2
    have Hb2 := Lib.hid (bon Hb1.out hb2); clear hr2 ho2 hb2 Hr1
    go_wp2_with fail
    refine (H3.out _ Hb2.out).mono ?_
    rintro e w3 ⟨A3, c3, rfl, hown3, hb3⟩
    have Hr3 := Lib.hid (Rd.of_own hown3)
    have Hb3 := Lib.hid (bon Hb2.out hb3); have Hq3 := Lib.hid hb3; clear hown3 hb3
    go_wp2_with fail
    refine (H4.out _ Hb3.out).mono ?_
    rintro e w4 ⟨A4, c4, rfl, hown4, hb4⟩
    have hs4 := rsame_any w4.heap.size 32 32 c3 c4 A3 A4 M1 M1 w4 ((Hr3.out.below hb4).wider hb4.size) (Rd.of_own hown4) (by decide) (by decide)
    rw [sameL_self] at hs4
    have Hb4 := Lib.hid (bon Hb3.out hb4); have Hq4 := Lib.hid (bon Hq3.out hb4); clear hown4 hb4
    go_wp2_with fail
    refine hs4.mono ?_
    rintro e w5 ⟨rfl, hb5⟩
    have Hb5 := Lib.hid (bon Hb4.out hb5); have Hq5 := Lib.hid (bon Hq4.out hb5); clear hb5 hs4
    have hs5 := rsame_any w5.heap.size e2 e2 c1 c2 A1 A2 M2 M2 w5 ((HR1.out.below Hq5.out).wider Hq5.out.size) ((Hr2.out.below Hq5.out).wider Hq5.out.size) Hl2.out Hl2.out
    rw [sameL_self] at hs5
    go_wp2_with fail
    refine hs5.mono ?_
    rintro e w6 ⟨rfl, hb6⟩
    have Hb6 := Lib.hid (bon Hb5.out hb6); clear hb6 hs5
    go_wp2_with fail
    refine (alive9_any _ (HK.out.below Hb6.out)).mono ?_
    rintro e w7 ⟨rfl, hb7⟩
    go_wp2
    go_ret
    exact ⟨rfl, bon Hb6.out hb7⟩

set_option maxHeartbeats 1600000 in
theorem kdfBytes_walk (n c m d k f : Nat) (A C D : Option Addr) (xs ys zs : List UInt8) (z : Int) (w : World) (hx : Rd w w.heap.size A n (Byt xs)) (hok : SlOK A n c)
    (hy : Rd w w.heap.size C m (Byt ys)) (hyo : SlOK C m d) (hz : Rd w w.heap.size D k (Byt zs)) (hzo : SlOK D k f) (hK : KsAt w) :
    Calls Tryd.prog 3 #[.slice A n c, .slice C m d, .slice D k f, .int .i64 z] w (Ans w (.bool true)) := by
  by_cases h1 : n ≤ 200
  · by_cases h2 : m ≤ 200
    · by_cases h3 : k ≤ 200
      · by_cases h4 : 300 < z ∧ z ≤ 8160
        · have n1 : ¬ (200 < (n : Int)) := by omega
          have n2 : ¬ (200 < (m : Int)) := by omega
          have n3 : ¬ (200 < (k : Int)) := by omega
          have n4 : 300 < z := by omega
          have n5 : z ≤ 8160 := by omega
          clear hx hy hz
          go_enter Tryd.func3, Tryd.ntmps3
          go_wp2_with fail
          refine (alive9_any _ hK).mono ?_
          rintro e w1 ⟨rfl, hb⟩
          go_wp2
          go_ret
          exact ⟨rfl, hb⟩
        · exact kdfBytes_in n c m d k f A C D xs ys zs z w hx hok h1 hy hyo h2 hz hzo h3 (by omega) hK
      · have n1 : ¬ (200 < (n : Int)) := by omega
        have n2 : ¬ (200 < (m : Int)) := by omega
        have n3 : 200 < (k : Int) := by omega
        clear hx hy hz
        go_enter Tryd.func3, Tryd.ntmps3
        go_wp2_with fail
        refine (alive9_any _ hK).mono ?_
        rintro e w1 ⟨rfl, hb⟩
        go_wp2
        go_ret
        exact ⟨rfl, hb⟩
    · have n1 : ¬ (200 < (n : Int)) := by omega
      have n2 : 200 < (m : Int) := by omega
      clear hx hy hz
      go_enter Tryd.func3, Tryd.ntmps3
      go_wp2_with fail
      refine (alive9_any _ hK).mono ?_
      rintro e w1 ⟨rfl, hb⟩
      go_wp2
      go_ret
      exact ⟨rfl, hb⟩
  · have n1 : 200 < (n : Int) := by omega
    clear hx hy hz
    go_enter Tryd.func3, Tryd.ntmps3
    go_wp2_with fail
    refine (alive9_any _ hK).mono ?_
    rintro e w1 ⟨rfl, hb⟩
    go_wp2
    go_ret
    exact ⟨rfl, hb⟩

end Go.Proofs.YtcmmfghkjfadcaaDoor

namespace Go.Proofs.YtcmmfghkjfadcaaDoor
open Go.ChangeShapes Go.WideShapes Go.ChangeAt Go.RowKit

theorem kdfBytes_met (os : Os) (args : Array Value) : laidMetH Tryd.prog Rows.kdfBytesRow.laid ((World.doorLaid Tryd.prog 400 os).forCall (fun _ _ => 0) ⟨#[], args, []⟩).memory :=
  laidMetH_of_parts3 (fuel := 8) (laidMet_of_run' 8 (by kernel_rfl) (by kernel_rfl)) (by kernel_rfl) (by kernel_rfl)

set_option maxRecDepth 100000 in
theorem kdfBytes_lifted (os : Os) (started : os.Started) (H : Type) (enc : TypeId × Value → H) :
    ReturnsInHanded {} Tryd.checked os 3 .any (fun w args => (Rows.kdfBytesSpec.pre enc Tryd.prog Tryd.f3 [] false w args ∧ laidMetH Tryd.prog Rows.kdfBytesRow.laid w) ∧ sizedMet enc Tryd.prog Tryd.f3 (OpenSpec.ofChange Rows.kdfBytesSpec) false w args)
      (Rows.kdfBytesSpec.post enc Tryd.prog Tryd.f3 false true false false) := by
  refine returnsInHanded_of_change_and (C := Tryd.checked) (X := fun w _ => laidMetH Tryd.prog Rows.kdfBytesRow.laid w) (fun _ _ _ hh h => h.of_heap hh) own started (by kernel_rfl) Tryd.func3
    (ChangeSpec.witness_shaped (enc := enc) (C := Tryd.checked) (os := os) (X := fun w _ => laidMetH Tryd.prog Rows.kdfBytesRow.laid w) false (World.doorLaid Tryd.prog 400 os) #[.slice none 0 0, .slice none 0 0, .slice none 0 0, .int .i64 0] 8 rfl (World.shaped_of_RefB (by kernel_rfl) (by kernel_rfl)) (by kernel_rfl) (by kernel_rfl) (by kernel_rfl) (kdfBytes_met os _)) ?_
  intro W base args ds gs before hval0 hW _ _ hL _
  rw [MakeChecks.laidMetH_plain _ _ _ (by kernel_rfl)] at hL
  obtain ⟨lps, hlaid, -, -⟩ := hL
  have hval : ∀ (j : Nat) t v, Tryd.f3.params[j]? = some t → args[j]? = some v → Value.okWide Tryd.prog W .any base t v := hval0
  have hW' := hW
  obtain ⟨p, q, hA0, hV, rfl, hfz, hnd⟩ := hW
  have hA : DataW.TrodAll enc Tryd.prog W 0 (fun _ => true) true Tryd.f3.params.toList args.toList ds p := hA0
  rw [Tryd.params3] at hA hval
  obtain ⟨v0, v1, v2, v3, d0, d1, d2, d3, p0, p1, p2, p3, rfl, rfl, rfl, h0, h1, h2, h3⟩ := trodAll_four hA
  have hlt : ∀ x ∈ p0 ++ p1 ++ p2 ++ p3 ++ q, x.block < W.heap.size := fun x hx => by simpa using hW'.lt x hx
  obtain ⟨A0, n0, c0, xs0, rfl, hk0, hx0⟩ := open_bytesk Tryd.underlying22 Tryd.underlying5 cells_u8 (hval 0 22 v0 rfl rfl) h0 (fun x hx => hlt x (by simp [hx]))
  obtain ⟨A1, n1, c1, xs1, rfl, hk1, hx1⟩ := open_bytesk Tryd.underlying22 Tryd.underlying5 cells_u8 (hval 1 22 v1 rfl rfl) h1 (fun x hx => hlt x (by simp [hx]))
  obtain ⟨A2, n2, c2, xs2, rfl, hk2, hx2⟩ := open_bytesk Tryd.underlying22 Tryd.underlying5 cells_u8 (hval 2 22 v2 rfl rfl) h2 (fun x hx => hlt x (by simp [hx]))
  obtain ⟨z3, rfl, rfl, rfl, w3⟩ := open_int Tryd.underlying3 (hval 3 3 v3 rfl rfl) h3
  have hz3 := wf_int w3
  refine (kdfBytes_walk n0 c0 n1 c1 n2 c2 A0 A1 A2 xs0 xs1 xs2 z3 W hx0 hk0 hx1 hk1 hx2 hk2 (ks_of hlaid)).mono fun e W' ⟨he, hb⟩ => ?_
  subst he
  exact ⟨_, rfl, law_post laidOut rfl rfl Tryd.underlying4 (by kernel_rfl) hW' rfl hb⟩

theorem kdfBytes_said : Rows.KdfBytesSaid :=
  OpenClaim.holds_of_wide 3 Tryd.f3 rfl rfl rfl rfl rfl rfl rfl ⟨rfl, rfl, rfl, rfl, rfl⟩ rfl rfl rfl rfl rfl (by kernel_rfl) Tryd.func3 (by kernel_rfl)
    (of_decide_eq_true (by kernel_rfl)) (by unfold Func.isWrapper; first | (rw [if_pos (by decide +kernel)]; kernel_rfl) | (rw [if_neg (by decide +kernel)]; exact ⟨rfl, rfl⟩))
    (fun os started H enc _ => kdfBytes_lifted os started H enc)

/-- THE CARD: what the row lists is tied to the program. -/
theorem kdfBytes_card : Rows.KdfBytesCardSaid :=
  Claim7.holds_tied_plain_at .later [] _ true _ false
    kdfBytes_said (fun _ h => by cases h) (by kernel_rfl) (fun _ h => by cases h) kdfBytes_row_tie rfl ⟨rfl, rfl⟩ (by kernel_rfl) rfl
    (fun f fn hf hfn => by
      obtain rfl : f = 3 := Option.some.inj ((show Tryd.prog.funcNamed Rows.kdfBytesRow.func = some 3 by kernel_rfl).symm.trans hf) |>.symm
      obtain rfl : fn = Tryd.f3 := (Option.some.inj (Tryd.func3.symm.trans hfn)).symm
      exact ⟨by kernel_rfl, fun j t ht => by
        rw [Tryd.params3] at ht
        have hm : t ∈ [22, 22, 22, 3] := by simpa using Array.mem_of_getElem? ht
        have hall : ([22, 22, 22, 3].all fun u => !Tryd.prog.wantsStandIn u) = true := by kernel_rfl
        exact (show Tryd.prog.wantsStandIn t = false by simpa using List.all_eq_true.1 hall t hm)⟩)
    (by kernel_rfl)

end Go.Proofs.YtcmmfghkjfadcaaDoor
