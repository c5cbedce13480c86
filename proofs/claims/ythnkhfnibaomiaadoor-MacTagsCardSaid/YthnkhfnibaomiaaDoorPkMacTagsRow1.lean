/-
  MacTags: for every input the law returns true, and what came in reads behind the call as it did. No condition. The variables that the program lists are tied to its text (the card).
-/
import Derived.Test.YthnkhfnibaomiaaDoorPkBase3
import Derived.Test.YthnkhfnibaomiaaDoorPkBase4
import Derived.Test.YthnkhfnibaomiaaDoorCards
namespace Go.Proofs.YthnkhfnibaomiaaDoor
open Go.RowKit

theorem sameL_comm (a b : List UInt8) : sameL a b = sameL b a := by
  unfold sameL
  exact decide_eq_decide.2 ⟨Eq.symm, Eq.symm⟩

set_option maxHeartbeats 1600000 in
theorem macTags_in (n c m d k f q r : Nat) (A C D E : Option Addr) (xs ys zs ts : List UInt8) (w : World) (hx : Rd w w.heap.size A n (Byt xs)) (hok : SlOK A n c) (hn : n ≤ 300)
    (hy : Rd w w.heap.size C m (Byt ys)) (hyo : SlOK C m d) (hm : m ≤ 300) (hz : Rd w w.heap.size D k (Byt zs)) (hzo : SlOK D k f) (hk : k ≤ 300) (ht : Rd w w.heap.size E q (Byt ts)) (hq : q ≤ 100) (hK : KsAt w) :
    Calls Tryd.prog 3 #[.slice A n c, .slice C m d, .slice D k f, .slice E q r] w (Ans w (.bool true)) := by
  have n1 : ¬ (300 < (n : Int)) := by omega
  have n2 : ¬ (300 < (m : Int)) := by omega
  have n3 : ¬ (300 < (k : Int)) := by omega
  have n4 : ¬ (100 < (q : Int)) := by omega
  have HX := Lib.hid (fun W (hb : Below w.heap.size w W) => (hx.below hb).wider hb.size)
  have HY := Lib.hid (fun W (hb : Below w.heap.size w W) => (hy.below hb).wider hb.size)
  have HZ := Lib.hid (fun W (hb : Below w.heap.size w W) => (hz.below hb).wider hb.size)
  have HT := Lib.hid (fun W (hb : Below w.heap.size w W) => (ht.below hb).wider hb.size)
  have HK := Lib.hid hK
  have C1 := fun W (hb : Below w.heap.size w W) => rof_any W.heap.size n c m d A C xs ys W (HX.out W hb) hok (by omega) (HY.out W hb) hyo (by omega) (Nat.le_refl _)
  have C2 := fun W (hb : Below w.heap.size w W) => of_any W.heap.size n c m d A C xs ys W (HX.out W hb) hok (by omega) (HY.out W hb) hyo (by omega) (Nat.le_refl _) (HK.out.below hb)
  have C3 := fun W (hb : Below w.heap.size w W) => key_any W.heap.size n c A xs W (HX.out W hb) hok (by omega) (Nat.le_refl _) (HK.out.below hb)
  have C4 := fun W (hb : Below w.heap.size w W) => rkey_any W.heap.size n c A xs W (HX.out W hb) hok (by omega) (Nat.le_refl _)
  have C5 := fun W (hb : Below w.heap.size w W) => two_any W.heap.size n c m d k f A C D xs ys zs W (HX.out W hb) hok (by omega) (HY.out W hb) hyo (by omega) (HZ.out W hb) hzo (by omega) (Nat.le_refl _) (HK.out.below hb)
  have C6 := fun W (hb : Below w.heap.size w W) => rtwo_any W.heap.size n c m d k f A C D xs ys zs W (HX.out W hb) hok (by omega) (HY.out W hb) hyo (by omega) (HZ.out W hb) hzo (by omega) (Nat.le_refl _)
  have C7 := fun W (hb : Below w.heap.size w W) G g e gs (hg : Rd W W.heap.size G g (Byt gs)) => check_any W.heap.size n c m d g e A C G xs ys gs W (HX.out W hb) hok (by omega) (HY.out W hb) hyo (by omega) hg (Nat.le_refl _) (HK.out.below hb)
  have Hl1 := Lib.hid (macU_length xs ys)
  have Hl2 := Lib.hid (keyU_length xs)
  have Hl3 : Hid ((twoU xs ys zs).length = 32) := Lib.hid (macU_length _ _)
  generalize macU xs ys = M1 at C1 C2 C7 Hl1
  generalize keyU xs = M2 at C3 C4 Hl2
  generalize twoU xs ys zs = M3 at C5 C6 Hl3
  unfold NewB at C1 C2 C3 C4 C5 C6
  rw [Hl1.out] at C1 C2
  rw [Hl2.out] at C3 C4
  rw [Hl3.out] at C5 C6
  have H1 := Lib.hid C1; have H2 := Lib.hid C2; have H3 := Lib.hid C3; have H4 := Lib.hid C4; have H5 := Lib.hid C5; have H6 := Lib.hid C6; have H7 := Lib.hid C7
  clear C1 C2 C3 C4 C5 C6 C7 hx hy hz ht hK
  have hqm : q ≤ maxLen := by unfold maxLen; omega
  go_enter Tryd.func3, Tryd.ntmps3
  go_wp2_with fail
  refine (H1.out w (Below.refl _ _)).mono ?_
  rintro e w1 ⟨A1, c1, rfl, hown1, hb1⟩
  have Hr1 := Lib.hid (Rd.of_own hown1)
  have Hb1 := Lib.hid hb1; clear hown1 hb1
  go_wp2_with fail
  refine (H2.out _ Hb1.out).mono ?_
  rintro e w2 ⟨A2, c2, rfl, hown2, hb2⟩
  have Hr2 := Lib.hid (Rd.of_own hown2)
  have hs2 := rsame_any w2.heap.size 32 32 c2 c1 A2 A1 M1 M1 w2 Hr2.out ((Hr1.out.below hb2).wider hb2.size) (by decide) (by decide)
  rw [sameL_self] at hs2
  have HR2 := Lib.hid ((Hr1.out.below hb2).wider hb2.size)
  have Hb2 := Lib.hid (bon Hb1.out hb2); clear hown2 hb2 Hr1 Hr2
  go_wp2_with fail
  refine hs2.mono ?_
  rintro e w3 ⟨rfl, hb3⟩
  have HR3 := Lib.hid ((HR2.out.below hb3).wider hb3.size)
  have Hb3 := Lib.hid (bon Hb2.out hb3); clear hb3 HR2
  go_wp2_with fail
  refine (H3.out _ Hb3.out).mono ?_
  rintro e w4 ⟨A4, c4, rfl, hown4, hb4⟩
  have Hr4 := Lib.hid (Rd.of_own hown4)
  have Hb4 := Lib.hid (bon Hb3.out hb4); have Hq4 := Lib.hid hb4; clear hown4 hb4
  go_wp2_with fail
  refine (H4.out _ Hb4.out).mono ?_
  rintro e w5 ⟨A5, c5, rfl, hown5, hb5⟩
  have Hr5 := Lib.hid (Rd.of_own hown5)
  have hs5 := rsame_any w5.heap.size 64 64 c4 c5 A4 A5 M2 M2 w5 ((Hr4.out.below hb5).wider hb5.size) Hr5.out (by decide) (by decide)
  rw [sameL_self] at hs5
  have Hb5 := Lib.hid (bon Hb4.out hb5); have Hq5 := Lib.hid (bon Hq4.out hb5); clear hown5 hb5
  go_wp2_with fail
  refine hs5.mono ?_
  rintro e w6 ⟨rfl, hb6⟩
  have Hb6 := Lib.hid (bon Hb5.out hb6); have Hq6 := Lib.hid (bon Hq5.out hb6); clear hb6
  have HR6 := Lib.hid (show Rd w6 w6.heap.size A1 32 (Byt M1) from by
    have h45 : Below w3.heap.size w3 w6 := Hq6.out
    exact (HR3.out.below h45).wider h45.size)
  go_wp2_with fail
  refine (H5.out _ Hb6.out).mono ?_
  rintro e w7 ⟨A7, c7, rfl, hown7, hb7⟩
  have Hr7 := Lib.hid (Rd.of_own hown7)
  have Hb7 := Lib.hid (bon Hb6.out hb7); have Hq7 := Lib.hid hb7; clear hown7 hb7
  go_wp2_with fail
  refine (H6.out _ Hb7.out).mono ?_
  rintro e w8 ⟨A8, c8, rfl, hown8, hb8⟩
  have Hr8 := Lib.hid (Rd.of_own hown8)
  have hs8 := rsame_any w8.heap.size 32 32 c7 c8 A7 A8 M3 M3 w8 ((Hr7.out.below hb8).wider hb8.size) Hr8.out (by decide) (by decide)
  rw [sameL_self] at hs8
  have Hb8 := Lib.hid (bon Hb7.out hb8); have Hq8 := Lib.hid (bon Hq7.out hb8); clear hown8 hb8
  go_wp2_with fail
  refine hs8.mono ?_
  rintro e w9 ⟨rfl, hb9⟩
  have Hb9 := Lib.hid (bon Hb8.out hb9); have Hq9 := Lib.hid (bon Hq8.out hb9); clear hb9
  have HR9 := Lib.hid (show Rd w9 w9.heap.size A1 32 (Byt M1) from by
    have h45 : Below w6.heap.size w6 w9 := Hq9.out
    exact (HR6.out.below h45).wider h45.size)
  go_wp2_with fail
  refine (H7.out w9 Hb9.out E q r ts (HT.out _ Hb9.out)).mono ?_
  rintro e w10 ⟨rfl, hb10⟩
  have HR10 := Lib.hid ((HR9.out.below hb10).wider hb10.size)
  have Hb10 := Lib.hid (bon Hb9.out hb10); clear hb10
  have hs11 := rsame_any w10.heap.size 32 q c1 r A1 E M1 ts w10 HR10.out (HT.out _ Hb10.out) (by decide) hqm
  rw [sameL_comm] at hs11
  have hbe : ((sameL ts M1) == (sameL ts M1)) = true := by simp
  generalize sameL ts M1 = z at hs11 hbe ⊢
  go_wp2_with fail
  refine hs11.mono ?_
  rintro e w11 ⟨rfl, hb11⟩
  have HR11 := Lib.hid ((HR10.out.below hb11).wider hb11.size)
  have Hb11 := Lib.hid (bon Hb10.out hb11); clear hb11
  have hc := H7.out w11 Hb11.out A1 32 c1 M1 HR11.out
  rw [sameL_self] at hc
  go_wp2_with fail
  refine hc.mono ?_
  rintro e w12 ⟨rfl, hb12⟩
  have Hb12 := Lib.hid (bon Hb11.out hb12); clear hb12
  go_wp2_with fail
  refine (alive8_any _ (HK.out.below Hb12.out)).mono ?_
  rintro e w13 ⟨rfl, hb13⟩
  go_wp2
  go_ret
  exact ⟨rfl, bon Hb12.out hb13⟩

set_option maxHeartbeats 1600000 in
theorem macTags_walk (n c m d k f q r : Nat) (A C D E : Option Addr) (xs ys zs ts : List UInt8) (w : World) (hx : Rd w w.heap.size A n (Byt xs)) (hok : SlOK A n c)
    (hy : Rd w w.heap.size C m (Byt ys)) (hyo : SlOK C m d) (hz : Rd w w.heap.size D k (Byt zs)) (hzo : SlOK D k f) (ht : Rd w w.heap.size E q (Byt ts)) (hK : KsAt w) :
    Calls Tryd.prog 3 #[.slice A n c, .slice C m d, .slice D k f, .slice E q r] w (Ans w (.bool true)) := by
  by_cases h1 : n ≤ 300
  · by_cases h2 : m ≤ 300
    · by_cases h3 : k ≤ 300
      · by_cases h4 : q ≤ 100
        · exact macTags_in n c m d k f q r A C D E xs ys zs ts w hx hok h1 hy hyo h2 hz hzo h3 ht h4 hK
        · have n1 : ¬ (300 < (n : Int)) := by omega
          have n2 : ¬ (300 < (m : Int)) := by omega
          have n3 : ¬ (300 < (k : Int)) := by omega
          have n4 : 100 < (q : Int) := by omega
          clear hx hy hz ht
          go_enter Tryd.func3, Tryd.ntmps3
          go_wp2_with fail
          refine (alive8_any _ hK).mono ?_
          rintro e w1 ⟨rfl, hb⟩
          go_wp2
          go_ret
          exact ⟨rfl, hb⟩
      · have n1 : ¬ (300 < (n : Int)) := by omega
        have n2 : ¬ (300 < (m : Int)) := by omega
        have n3 : 300 < (k : Int) := by omega
        clear hx hy hz ht
        go_enter Tryd.func3, Tryd.ntmps3
        go_wp2_with fail
        refine (alive8_any _ hK).mono ?_
        rintro e w1 ⟨rfl, hb⟩
        go_wp2
        go_ret
        exact ⟨rfl, hb⟩
    · have n1 : ¬ (300 < (n : Int)) := by omega
      have n2 : 300 < (m : Int) := by omega
      clear hx hy hz ht
      go_enter Tryd.func3, Tryd.ntmps3
      go_wp2_with fail
      refine (alive8_any _ hK).mono ?_
      rintro e w1 ⟨rfl, hb⟩
      go_wp2
      go_ret
      exact ⟨rfl, hb⟩
  · have n1 : 300 < (n : Int) := by omega
    clear hx hy hz ht
    go_enter Tryd.func3, Tryd.ntmps3
    go_wp2_with fail
    refine (alive8_any _ hK).mono ?_
    rintro e w1 ⟨rfl, hb⟩
    go_wp2
    go_ret
    exact ⟨rfl, hb⟩

end Go.Proofs.YthnkhfnibaomiaaDoor

namespace Go.Proofs.YthnkhfnibaomiaaDoor
open Go.ChangeShapes Go.WideShapes Go.ChangeAt Go.RowKit

theorem macTags_met (os : Os) (args : Array Value) : laidMetH Tryd.prog Rows.macTagsRow.laid ((World.doorLaid Tryd.prog 400 os).forCall (fun _ _ => 0) ⟨#[], args, []⟩).memory :=
  laidMetH_of_parts3 (fuel := 8) (laidMet_of_run' 8 (by kernel_rfl) (by kernel_rfl)) (by kernel_rfl) (by kernel_rfl)

set_option maxRecDepth 100000 in
theorem macTags_lifted (os : Os) (started : os.Started) (H : Type) (enc : TypeId × Value → H) :
    ReturnsInHanded {} Tryd.checked os 3 .any (fun w args => (Rows.macTagsSpec.pre enc Tryd.prog Tryd.f3 [] false w args ∧ laidMetH Tryd.prog Rows.macTagsRow.laid w) ∧ sizedMet enc Tryd.prog Tryd.f3 (OpenSpec.ofChange Rows.macTagsSpec) false w args)
      (Rows.macTagsSpec.post enc Tryd.prog Tryd.f3 false true false false) := by
  refine returnsInHanded_of_change_and (C := Tryd.checked) (X := fun w _ => laidMetH Tryd.prog Rows.macTagsRow.laid w) (fun _ _ _ hh h => h.of_heap hh) own started (by kernel_rfl) Tryd.func3
    (ChangeSpec.witness_shaped (enc := enc) (C := Tryd.checked) (os := os) (X := fun w _ => laidMetH Tryd.prog Rows.macTagsRow.laid w) false (World.doorLaid Tryd.prog 400 os) #[.slice none 0 0, .slice none 0 0, .slice none 0 0, .slice none 0 0] 8 rfl (World.shaped_of_RefB (by kernel_rfl) (by kernel_rfl)) (by kernel_rfl) (by kernel_rfl) (by kernel_rfl) (macTags_met os _)) ?_
  intro W base args ds gs before hval0 hW _ _ hL _
  rw [MakeChecks.laidMetH_plain _ _ _ (by kernel_rfl)] at hL
  obtain ⟨lps, hlaid, -, -⟩ := hL
  have hval : ∀ (j : Nat) t v, Tryd.f3.params[j]? = some t → args[j]? = some v → Value.okWide Tryd.prog W .any base t v := hval0
  have hW' := hW
  obtain ⟨p, q, hA0, hV, rfl, hfz, hnd⟩ := hW
  have hA : DataW.TrodAll enc Tryd.prog W 0 (fun _ => true) true Tryd.f3.params.toList args.toList ds p := hA0
  rw [Tryd.params3] at hA hval
  obtain ⟨v0, v1, v2, v3, d0, d1, d2, d3, p0, p1, p2, p3, rfl, rfl, rfl, h0, h1, h2, h3⟩ := trodAll_four hA
  have hlt : ∀ x ∈ p0 ++ p1 ++ p2 ++ p3 ++ q, x.block < W.heap.size := fun x hx => by simpa using hW'.lt x hx
  obtain ⟨A0, n0, c0, xs0, rfl, hk0, hx0⟩ := open_bytesk Tryd.underlying22 Tryd.underlying5 cells_u8 (hval 0 22 v0 rfl rfl) h0 (fun x hx => hlt x (by simp [hx]))
  obtain ⟨A1, n1, c1, xs1, rfl, hk1, hx1⟩ := open_bytesk Tryd.underlying22 Tryd.underlying5 cells_u8 (hval 1 22 v1 rfl rfl) h1 (fun x hx => hlt x (by simp [hx]))
  obtain ⟨A2, n2, c2, xs2, rfl, hk2, hx2⟩ := open_bytesk Tryd.underlying22 Tryd.underlying5 cells_u8 (hval 2 22 v2 rfl rfl) h2 (fun x hx => hlt x (by simp [hx]))
  obtain ⟨A3, n3, c3, xs3, rfl, hk3, hx3⟩ := open_bytesk Tryd.underlying22 Tryd.underlying5 cells_u8 (hval 3 22 v3 rfl rfl) h3 (fun x hx => hlt x (by simp [hx]))
  refine (macTags_walk n0 c0 n1 c1 n2 c2 n3 c3 A0 A1 A2 A3 xs0 xs1 xs2 xs3 W hx0 hk0 hx1 hk1 hx2 hk2 hx3 (ks_of hlaid)).mono fun e W' ⟨he, hb⟩ => ?_
  subst he
  exact ⟨_, rfl, law_post laidOut rfl rfl Tryd.underlying4 (by kernel_rfl) hW' rfl hb⟩

theorem macTags_said : Rows.MacTagsSaid :=
  OpenClaim.holds_of_wide 3 Tryd.f3 rfl rfl rfl rfl rfl rfl rfl ⟨rfl, rfl, rfl, rfl, rfl⟩ rfl rfl rfl rfl rfl (by kernel_rfl) Tryd.func3 (by kernel_rfl)
    (of_decide_eq_true (by kernel_rfl)) (by unfold Func.isWrapper; first | (rw [if_pos (by decide +kernel)]; kernel_rfl) | (rw [if_neg (by decide +kernel)]; exact ⟨rfl, rfl⟩))
    (fun os started H enc _ => macTags_lifted os started H enc)

/-- THE CARD: what the row lists is tied to the program. -/
theorem macTags_card : Rows.MacTagsCardSaid :=
  Claim7.holds_tied_plain_at .later [] _ true _ false
    macTags_said (fun _ h => by cases h) (by kernel_rfl) (fun _ h => by cases h) macTags_row_tie rfl ⟨rfl, rfl⟩ (by kernel_rfl) rfl
    (fun f fn hf hfn => by
      obtain rfl : f = 3 := Option.some.inj ((show Tryd.prog.funcNamed Rows.macTagsRow.func = some 3 by kernel_rfl).symm.trans hf) |>.symm
      obtain rfl : fn = Tryd.f3 := (Option.some.inj (Tryd.func3.symm.trans hfn)).symm
      exact ⟨by kernel_rfl, fun j t ht => by
        rw [Tryd.params3] at ht
        have hm : t ∈ [22, 22, 22, 22] := by simpa using Array.mem_of_getElem? ht
        have hall : ([22, 22, 22, 22].all fun u => !Tryd.prog.wantsStandIn u) = true := by kernel_rfl
        exact (show Tryd.prog.wantsStandIn t = false by simpa using List.all_eq_true.1 hall t hm)⟩)
    (by kernel_rfl)

end Go.Proofs.YthnkhfnibaomiaaDoor
