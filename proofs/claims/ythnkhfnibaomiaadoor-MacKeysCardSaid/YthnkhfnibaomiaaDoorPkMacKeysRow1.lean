/-
  MacKeys: for every input the law returns true, and what came in reads behind the call as it did. No condition. The variables that the program lists are tied to its text (the card).
-/
import Derived.Test.YthnkhfnibaomiaaDoorPkBase3
import Derived.Test.YthnkhfnibaomiaaDoorPkBase4
import Derived.Test.YthnkhfnibaomiaaDoorCards
namespace Go.Proofs.YthnkhfnibaomiaaDoor
open Go.RowKit

set_option maxHeartbeats 1600000 in
theorem macKeys_in (n c m d : Nat) (z : Int) (A C : Option Addr) (xs ys : List UInt8) (w : World) (hx : Rd w w.heap.size A n (Byt xs)) (hok : SlOK A n c) (hn : n ≤ 300)
    (hy : Rd w w.heap.size C m (Byt ys)) (hyo : SlOK C m d) (hm : m ≤ 300) (hK : KsAt w) :
    Calls Tryd.prog 4 #[.slice A n c, .slice C m d, .int .i64 z] w (Ans w (.bool true)) := by
  have n1 : ¬ (300 < (n : Int)) := by omega
  have n2 : ¬ (300 < (m : Int)) := by omega
  have HX := Lib.hid (fun W (hb : Below w.heap.size w W) => (hx.below hb).wider hb.size)
  have HY := Lib.hid (fun W (hb : Below w.heap.size w W) => (hy.below hb).wider hb.size)
  have HK := Lib.hid hK
  have C2 := fun W (hb : Below w.heap.size w W) => of_any W.heap.size n c m d A C xs ys W (HX.out W hb) hok (by omega) (HY.out W hb) hyo (by omega) (Nat.le_refl _) (HK.out.below hb)
  have C3 := fun W (hb : Below w.heap.size w W) => key_any W.heap.size n c A xs W (HX.out W hb) hok (by omega) (Nat.le_refl _) (HK.out.below hb)
  have C4 := fun W (hb : Below w.heap.size w W) G g e gs (hg : Rd W W.heap.size G g (Byt gs)) (hgo : SlOK G g e) (hg2 : g ≤ 1000) => of_any W.heap.size g e m d G C gs ys W hg hgo (by omega) (HY.out W hb) hyo (by omega) (Nat.le_refl _) (HK.out.below hb)
  have hk := macU_key xs ys
  have hmore := fun p => macU_more xs ys p
  have hxl := hx.bytes
  have Hl1 := Lib.hid (macU_length xs ys)
  have Hl2 := Lib.hid (keyU_length xs)
  generalize macU xs ys = M1 at C2 Hl1 hk hmore
  generalize keyU xs = M2 at C3 Hl2 hk
  unfold NewB at C2 C3
  rw [Hl1.out] at C2
  rw [Hl2.out] at C3
  have C5 := fun W hb G e hg hgo => C4 W hb G 64 e M2 hg hgo (by decide)
  unfold NewB at C5
  rw [hk, Hl1.out] at C5
  have C6 : ∀ W (hb : Below w.heap.size w W) G e p, n + p ≤ 64 → Rd W W.heap.size G (n + p) (Byt (xs ++ List.replicate p 0)) → SlOK G (n + p) e → Calls Tryd.prog 9 #[.slice G (n + p) e, .slice C m d] W fun en w' =>
      ∃ A c, en = .returned (.slice A 32 c) ∧ w'.ownsRow W.heap.size 5 1 (.slice A 32 c) 32 (Byt M1) ∧ Below W.heap.size W w' := by
    intro W hb G e p hp hg hgo
    have := C4 W hb G (n + p) e _ hg hgo (by omega)
    unfold NewB at this
    rw [hmore p (by rw [hxl]; exact hp), Hl1.out] at this
    exact this
  have C7 := fun W (hb : Below w.heap.size w W) G p e (hg : Rd W W.heap.size G p (Byt (List.replicate p 0))) (hgo : SlOK G p e) (hp : n + p ≤ 64) => rjoin_any W.heap.size n c p e A G xs _ W (HX.out W hb) hg hok hgo (Nat.le_refl _) (by omega)
  unfold NewB at C7
  simp only [List.length_append, List.length_replicate, hxl] at C7
  have H2 := Lib.hid C2; have H3 := Lib.hid C3; have H5 := Lib.hid C5; have H6 := Lib.hid C6; have H7 := Lib.hid C7
  clear C2 C3 C4 C5 C6 C7 hx hy hK hk hmore hxl
  go_enter Tryd.func4, Tryd.ntmps4
  go_wp2_with fail
  refine (H3.out w (Below.refl _ _)).mono ?_
  rintro e w1 ⟨A1, c1, rfl, hown1, hb1⟩
  have Hr1 := Lib.hid (Rd.of_own hown1)
  have Ho1 := Lib.hid (SlOK.of_own hown1)
  have Hb1 := Lib.hid hb1; clear hown1 hb1
  go_wp2_with fail
  refine (H5.out _ Hb1.out A1 c1 Hr1.out Ho1.out).mono ?_
  rintro e w2 ⟨A2, c2, rfl, hown2, hb2⟩
  have Hr2 := Lib.hid (Rd.of_own hown2)
  have Hb2 := Lib.hid (bon Hb1.out hb2); clear hown2 hb2 Hr1 Ho1
  go_wp2_with fail
  refine (H2.out _ Hb2.out).mono ?_
  rintro e w3 ⟨A3, c3, rfl, hown3, hb3⟩
  have hs3 := rsame_any w3.heap.size 32 32 c2 c3 A2 A3 M1 M1 w3 ((Hr2.out.below hb3).wider hb3.size) (Rd.of_own hown3) (by decide) (by decide)
  rw [sameL_self] at hs3
  have Hb3 := Lib.hid (bon Hb2.out hb3); clear hown3 hb3 Hr2
  have hw : wrap64 (64 - (n : Int)) = 64 - (n : Int) := by unfold wrap64; omega
  have hw2 : IntKind.i64.wrap (64 - (n : Int)) = 64 - (n : Int) := IntWalk.i64_in _ ⟨by omega, by omega⟩
  go_wp2_with fail
  refine hs3.mono ?_
  rintro e w4 ⟨rfl, hb4⟩
  have Hb4 := Lib.hid (bon Hb3.out hb4); clear hb4
  by_cases g1 : (n : Int) < 64
  · by_cases g2 : 0 ≤ z
    · by_cases g3 : z ≤ 64 - (n : Int)
      · obtain ⟨p, rfl⟩ := Int.eq_ofNat_of_zero_le g2
        have hp : n + p ≤ 64 := by omega
        go_wp2_with (refine wp_make_bytes rfl _ _ 22 rfl 5 Tryd.underlying22 Tryd.info_u8 p rfl rfl (by omega) ?_)
        intro w5 hown5 hb5
        have Hb5 := Lib.hid (bon Hb4.out hb5)
        have h6 := H7.out w5 Hb5.out _ p p (Rd.of_own hown5) (SlOK.of_own hown5) hp
        clear hown5 hb5
        go_wp2_with fail
        refine h6.mono ?_
        rintro e w6 ⟨A6, c6, rfl, hown6, hb6⟩
        have Hb6 := Lib.hid (bon Hb5.out hb6)
        have h7 := H6.out w6 Hb6.out A6 c6 p hp (Rd.of_own hown6) (SlOK.of_own hown6)
        clear hown6 hb6
        go_wp2_with fail
        refine h7.mono ?_
        rintro e w7 ⟨A7, c7, rfl, hown7, hb7⟩
        have Hr7 := Lib.hid (Rd.of_own hown7)
        have Hb7 := Lib.hid (bon Hb6.out hb7); clear hown7 hb7
        go_wp2_with fail
        refine (H2.out _ Hb7.out).mono ?_
        rintro e w8 ⟨A8, c8, rfl, hown8, hb8⟩
        have hs8 := rsame_any w8.heap.size 32 32 c7 c8 A7 A8 M1 M1 w8 ((Hr7.out.below hb8).wider hb8.size) (Rd.of_own hown8) (by decide) (by decide)
        rw [sameL_self] at hs8
        have Hb8 := Lib.hid (bon Hb7.out hb8); clear hown8 hb8 Hr7
        go_wp2_with fail
        refine hs8.mono ?_
        rintro e w9 ⟨rfl, hb9⟩
        have Hb9 := Lib.hid (bon Hb8.out hb9); clear hb9
        go_wp2_with fail
        refine (alive8_any _ (HK.out.below Hb9.out)).mono ?_
        rintro e w10 ⟨rfl, hb10⟩
        go_wp2
        go_ret
        exact ⟨rfl, bon Hb9.out hb10⟩
      · have g4 : 64 - (n : Int) < z := by omega
        go_wp2_with fail
        refine (alive8_any _ (HK.out.below Hb4.out)).mono ?_
        rintro e w5 ⟨rfl, hb5⟩
        go_wp2
        go_ret
        exact ⟨rfl, bon Hb4.out hb5⟩
    · have g4 : z < 0 := by omega
      go_wp2_with fail
      refine (alive8_any _ (HK.out.below Hb4.out)).mono ?_
      rintro e w5 ⟨rfl, hb5⟩
      go_wp2
      go_ret
      exact ⟨rfl, bon Hb4.out hb5⟩
  · have g4 : 64 ≤ (n : Int) := by omega
    go_wp2_with fail
    refine (alive8_any _ (HK.out.below Hb4.out)).mono ?_
    rintro e w5 ⟨rfl, hb5⟩
    go_wp2
    go_ret
    exact ⟨rfl, bon Hb4.out hb5⟩

set_option maxHeartbeats 1600000 in
theorem macKeys_walk (n c m d : Nat) (z : Int) (A C : Option Addr) (xs ys : List UInt8) (w : World) (hx : Rd w w.heap.size A n (Byt xs)) (hok : SlOK A n c)
    (hy : Rd w w.heap.size C m (Byt ys)) (hyo : SlOK C m d) (hK : KsAt w) :
    Calls Tryd.prog 4 #[.slice A n c, .slice C m d, .int .i64 z] w (Ans w (.bool true)) := by
  by_cases h1 : n ≤ 300
  · by_cases h2 : m ≤ 300
    · exact macKeys_in n c m d z A C xs ys w hx hok h1 hy hyo h2 hK
    · have n1 : ¬ (300 < (n : Int)) := by omega
      have n2 : 300 < (m : Int) := by omega
      clear hx hy
      go_enter Tryd.func4, Tryd.ntmps4
      go_wp2_with fail
      refine (alive8_any _ hK).mono ?_
      rintro e w1 ⟨rfl, hb⟩
      go_wp2
      go_ret
      exact ⟨rfl, hb⟩
  · have n1 : 300 < (n : Int) := by omega
    clear hx hy
    go_enter Tryd.func4, Tryd.ntmps4
    go_wp2_with fail
    refine (alive8_any _ hK).mono ?_
    rintro e w1 ⟨rfl, hb⟩
    go_wp2
    go_ret
    exact ⟨rfl, hb⟩

end Go.Proofs.YthnkhfnibaomiaaDoor

namespace Go.Proofs.YthnkhfnibaomiaaDoor
open Go.ChangeShapes Go.WideShapes Go.ChangeAt Go.RowKit

theorem macKeys_met (os : Os) (args : Array Value) : laidMetH Tryd.prog Rows.macKeysRow.laid ((World.doorLaid Tryd.prog 400 os).forCall (fun _ _ => 0) ⟨#[], args, []⟩).memory :=
  laidMetH_of_parts3 (fuel := 8) (laidMet_of_run' 8 (by kernel_rfl) (by kernel_rfl)) (by kernel_rfl) (by kernel_rfl)

set_option maxRecDepth 100000 in
theorem macKeys_lifted (os : Os) (started : os.Started) (H : Type) (enc : TypeId × Value → H) :
    ReturnsInHanded {} Tryd.checked os 4 .any (fun w args => (Rows.macKeysSpec.pre enc Tryd.prog Tryd.f4 [] false w args ∧ laidMetH Tryd.prog Rows.macKeysRow.laid w) ∧ sizedMet enc Tryd.prog Tryd.f4 (OpenSpec.ofChange Rows.macKeysSpec) false w args)
      (Rows.macKeysSpec.post enc Tryd.prog Tryd.f4 false true false false) := by
  refine returnsInHanded_of_change_and (C := Tryd.checked) (X := fun w _ => laidMetH Tryd.prog Rows.macKeysRow.laid w) (fun _ _ _ hh h => h.of_heap hh) own started (by kernel_rfl) Tryd.func4
    (ChangeSpec.witness_shaped (enc := enc) (C := Tryd.checked) (os := os) (X := fun w _ => laidMetH Tryd.prog Rows.macKeysRow.laid w) false (World.doorLaid Tryd.prog 400 os) #[.slice none 0 0, .slice none 0 0, .int .i64 0] 8 rfl (World.shaped_of_RefB (by kernel_rfl) (by kernel_rfl)) (by kernel_rfl) (by kernel_rfl) (by kernel_rfl) (macKeys_met os _)) ?_
  intro W base args ds gs before hval0 hW _ _ hL _
  rw [MakeChecks.laidMetH_plain _ _ _ (by kernel_rfl)] at hL
  obtain ⟨lps, hlaid, -, -⟩ := hL
  have hval : ∀ (j : Nat) t v, Tryd.f4.params[j]? = some t → args[j]? = some v → Value.okWide Tryd.prog W .any base t v := hval0
  have hW' := hW
  obtain ⟨p, q, hA0, hV, rfl, hfz, hnd⟩ := hW
  have hA : DataW.TrodAll enc Tryd.prog W 0 (fun _ => true) true Tryd.f4.params.toList args.toList ds p := hA0
  rw [Tryd.params4] at hA hval
  obtain ⟨v0, v1, v2, d0, d1, d2, p0, p1, p2, rfl, rfl, rfl, h0, h1, h2⟩ := trodAll_three hA
  have hlt : ∀ x ∈ p0 ++ p1 ++ p2 ++ q, x.block < W.heap.size := fun x hx => by simpa using hW'.lt x hx
  obtain ⟨A0, n0, c0, xs0, rfl, hk0, hx0⟩ := open_bytesk Tryd.underlying22 Tryd.underlying5 cells_u8 (hval 0 22 v0 rfl rfl) h0 (fun x hx => hlt x (by simp [hx]))
  obtain ⟨A1, n1, c1, xs1, rfl, hk1, hx1⟩ := open_bytesk Tryd.underlying22 Tryd.underlying5 cells_u8 (hval 1 22 v1 rfl rfl) h1 (fun x hx => hlt x (by simp [hx]))
  obtain ⟨z2, rfl, rfl, rfl, w2⟩ := open_int Tryd.underlying3 (hval 2 3 v2 rfl rfl) h2
  have hz2 := wf_int w2
  refine (macKeys_walk n0 c0 n1 c1 z2 A0 A1 xs0 xs1 W hx0 hk0 hx1 hk1 (ks_of hlaid)).mono fun e W' ⟨he, hb⟩ => ?_
  subst he
  exact ⟨_, rfl, law_post laidOut rfl rfl Tryd.underlying4 (by kernel_rfl) hW' rfl hb⟩

theorem macKeys_said : Rows.MacKeysSaid :=
  OpenClaim.holds_of_wide 4 Tryd.f4 rfl rfl rfl rfl rfl rfl rfl ⟨rfl, rfl, rfl, rfl, rfl⟩ rfl rfl rfl rfl rfl (by kernel_rfl) Tryd.func4 (by kernel_rfl)
    (of_decide_eq_true (by kernel_rfl)) (by unfold Func.isWrapper; first | (rw [if_pos (by decide +kernel)]; kernel_rfl) | (rw [if_neg (by decide +kernel)]; exact ⟨rfl, rfl⟩))
    (fun os started H enc _ => macKeys_lifted os started H enc)

/-- THE CARD: what the row lists is tied to the program. -/
theorem macKeys_card : Rows.MacKeysCardSaid :=
  Claim7.holds_tied_plain_at .later [] _ true _ false
    macKeys_said (fun _ h => by cases h) (by kernel_rfl) (fun _ h => by cases h) macKeys_row_tie rfl ⟨rfl, rfl⟩ (by kernel_rfl) rfl
    (fun f fn hf hfn => by
      obtain rfl : f = 4 := Option.some.inj ((show Tryd.prog.funcNamed Rows.macKeysRow.func = some 4 by kernel_rfl).symm.trans hf) |>.symm
      obtain rfl : fn = Tryd.f4 := (Option.some.inj (Tryd.func4.symm.trans hfn)).symm
      exact ⟨by kernel_rfl, fun j t ht => by
        rw [Tryd.params4] at ht
        have hm : t ∈ [22, 22, 3] := by simpa using Array.mem_of_getElem? ht
        have hall : ([22, 22, 3].all fun u => !Tryd.prog.wantsStandIn u) = true := by kernel_rfl
        exact (show Tryd.prog.wantsStandIn t = false by simpa using List.all_eq_true.1 hall t hm)⟩)
    (by kernel_rfl)

end Go.Proofs.YthnkhfnibaomiaaDoor
