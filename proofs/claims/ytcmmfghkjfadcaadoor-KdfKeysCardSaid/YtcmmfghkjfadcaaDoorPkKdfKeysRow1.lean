/-
  KdfKeys: for every input the law returns true, and what came in reads behind the call as it did. No condition. The variables that the program lists are tied to its text (the card).
-/
import Derived.Test.YtcmmfghkjfadcaaDoorPkBase4
import Derived.Test.YtcmmfghkjfadcaaDoorPkBase5
import Derived.Test.YtcmmfghkjfadcaaDoorPkBase3
import Derived.Test.YtcmmfghkjfadcaaDoorCards
namespace Go.Proofs.YtcmmfghkjfadcaaDoor
open Go.RowKit

set_option maxHeartbeats 1600000 in
theorem kdfKeys_in (n c m d : Nat) (A C : Option Addr) (xs ys : List UInt8) (s : ByteArray) (z : Int) (w : World) (hx : Rd w w.heap.size A n (Byt xs)) (hok : SlOK A n c) (hn : n ≤ 200)
    (hy : Rd w w.heap.size C m (Byt ys)) (hyo : SlOK C m d) (hm : m ≤ 200) (hs : s.size ≤ 400) (hz : ¬ (6 < z)) (hK : KsAt w) :
    Calls Tryd.prog 4 #[.slice A n c, .slice C m d, .string s, .int .i64 z] w (Ans w (.bool true)) := by
  have n1 : ¬ (200 < (n : Int)) := by omega
  have n2 : ¬ (200 < (m : Int)) := by omega
  have n3 : ¬ (400 < (s.size : Int)) := by omega
  have hxl := hx.bytes
  have HX := Lib.hid (fun W (hb : Below w.heap.size w W) => (hx.below hb).wider hb.size)
  have HY := Lib.hid (fun W (hb : Below w.heap.size w W) => (hy.below hb).wider hb.size)
  have HK := Lib.hid hK
  have C1 := fun W (hb : Below w.heap.size w W) => derive_any W.heap.size n c A xs s W (HX.out W hb) hok (by omega) (by omega) (Nat.le_refl _) (HK.out.below hb)
  have C2 := fun W (hb : Below w.heap.size w W) => rderive_any W.heap.size n c A xs s W (HX.out W hb) hok (by omega) (by omega) (Nat.le_refl _)
  have C3 := fun W (hb : Below w.heap.size w W) => mix_any W.heap.size n c m d A C xs ys W (HX.out W hb) hok (by omega) (HY.out W hb) hyo (by omega) (Nat.le_refl _) (HK.out.below hb)
  have C4 := fun W (hb : Below w.heap.size w W) => rmix_any W.heap.size n c m d A C xs ys W (HX.out W hb) hok (by omega) (HY.out W hb) hyo (by omega) (Nat.le_refl _)
  have C5 := fun W (hb : Below w.heap.size w W) => chain_any W.heap.size n c A xs s z W (HX.out W hb) hok (by omega) (by omega) (Nat.le_refl _) (HK.out.below hb)
  have C6 := fun W (hb : Below w.heap.size w W) => rchain_any W.heap.size n c A xs s z W (HX.out W hb) hok (by omega) (by omega) (Nat.le_refl _)
  have Hl1 := Lib.hid (deriveU_length xs s.data.toList)
  have Hl2 := Lib.hid (macU_length xs ys)
  have Hl3 : Hid ((chainU xs s.data.toList (min z 1000).toNat).length ≤ maxLen) := Lib.hid (by
    have := chainU_le xs s.data.toList (min z 1000).toNat
    unfold maxLen; omega)
  generalize deriveU xs s.data.toList = M1 at C1 C2 Hl1
  generalize macU xs ys = M2 at C3 C4 Hl2
  generalize chainU xs s.data.toList (min z 1000).toNat = M3 at C5 C6 Hl3
  unfold NewR at C1 C2 C5 C6
  unfold NewB at C3 C4
  rw [Hl1.out] at C1 C2
  rw [Hl2.out] at C3 C4
  generalize M3.length = e3 at C5 C6 Hl3
  have H1 := Lib.hid C1; have H2 := Lib.hid C2; have H3 := Lib.hid C3; have H4 := Lib.hid C4; have H5 := Lib.hid C5; have H6 := Lib.hid C6
  clear C1 C2 C3 C4 C5 C6 hx hy hK hxl
  go_enter Tryd.func4, Tryd.ntmps4
  go_wp2_with fail
  refine (H1.out w (Below.refl _ _)).mono ?_
  rintro e w1 ⟨A1, c1, rfl, hr1, ho1, hb1⟩
  have Hr1 := Lib.hid hr1
  have Hb1 := Lib.hid hb1; clear hr1 ho1 hb1
  go_wp2_with fail
  refine (H2.out _ Hb1.out).mono ?_
  rintro e w2 ⟨A2, c2, rfl, hr2, ho2, hb2⟩
  have hs2 := rsame_any w2.heap.size 32 32 c1 c2 A1 A2 M1 M1 w2 ((Hr1.out.below hb2).wider hb2.size) hr2 (by decide) (by decide)
  rw [sameL_self] at hs2
  have Hb2 := Lib.hid (bon Hb1.out hb2); clear hr2 ho2 hb2 Hr1
  go_wp2_with fail
  refine hs2.mono ?_
  rintro e w3 ⟨rfl, hb3⟩
  have Hb3 := Lib.hid (bon Hb2.out hb3); clear hb3 hs2
  go_wp2_with fail
  refine (H3.out _ Hb3.out).mono ?_
  rintro e w4 ⟨A4, c4, rfl, hown4, hb4⟩
  have Hr4 := Lib.hid (Rd.of_own hown4)
  have Hb4 := Lib.hid (bon Hb3.out hb4); clear hown4 hb4
  go_wp2_with fail
  refine (H4.out _ Hb4.out).mono ?_
  rintro e w5 ⟨A5, c5, rfl, hown5, hb5⟩
  have hs5 := rsame_any w5.heap.size 32 32 c4 c5 A4 A5 M2 M2 w5 ((Hr4.out.below hb5).wider hb5.size) (Rd.of_own hown5) (by decide) (by decide)
  rw [sameL_self] at hs5
  have Hb5 := Lib.hid (bon Hb4.out hb5); clear hown5 hb5 Hr4
  go_wp2_with fail
  refine hs5.mono ?_
  rintro e w6 ⟨rfl, hb6⟩
  have Hb6 := Lib.hid (bon Hb5.out hb6); clear hb6 hs5
  go_wp2_with fail
  refine (H5.out _ Hb6.out).mono ?_
  rintro e w7 ⟨A7, c7, rfl, hr7, ho7, hb7⟩
  have Hr7 := Lib.hid hr7
  have Hb7 := Lib.hid (bon Hb6.out hb7); clear hr7 ho7 hb7
  go_wp2_with fail
  refine (H6.out _ Hb7.out).mono ?_
  rintro e w8 ⟨A8, c8, rfl, hr8, ho8, hb8⟩
  have hs8 := rsame_any w8.heap.size e3 e3 c7 c8 A7 A8 M3 M3 w8 ((Hr7.out.below hb8).wider hb8.size) hr8 Hl3.out Hl3.out
  rw [sameL_self] at hs8
  have Hb8 := Lib.hid (bon Hb7.out hb8); clear hr8 ho8 hb8 Hr7
  go_wp2_with fail
  refine hs8.mono ?_
  rintro e w9 ⟨rfl, hb9⟩
  have Hb9 := Lib.hid (bon Hb8.out hb9); clear hb9 hs8
  go_wp2_with fail
  refine (alive9_any _ (HK.out.below Hb9.out)).mono ?_
  rintro e w10 ⟨rfl, hb10⟩
  go_wp2
  go_ret
  exact ⟨rfl, bon Hb9.out hb10⟩

set_option maxHeartbeats 1600000 in
theorem kdfKeys_walk (n c m d : Nat) (A C : Option Addr) (xs ys : List UInt8) (s : ByteArray) (z : Int) (w : World) (hx : Rd w w.heap.size A n (Byt xs)) (hok : SlOK A n c)
    (hy : Rd w w.heap.size C m (Byt ys)) (hyo : SlOK C m d) (hK : KsAt w) :
    Calls Tryd.prog 4 #[.slice A n c, .slice C m d, .string s, .int .i64 z] w (Ans w (.bool true)) := by
  by_cases h1 : n ≤ 200
  · by_cases h2 : m ≤ 200
    · by_cases h3 : s.size ≤ 400
      · by_cases h4 : 6 < z
        · have n1 : ¬ (200 < (n : Int)) := by omega
          have n2 : ¬ (200 < (m : Int)) := by omega
          have n3 : ¬ (400 < (s.size : Int)) := by omega
          clear hx hy
          go_enter Tryd.func4, Tryd.ntmps4
          go_wp2_with fail
          refine (alive9_any _ hK).mono ?_
          rintro e w1 ⟨rfl, hb⟩
          go_wp2
          go_ret
          exact ⟨rfl, hb⟩
        · exact kdfKeys_in n c m d A C xs ys s z w hx hok h1 hy hyo h2 h3 h4 hK
      · have n1 : ¬ (200 < (n : Int)) := by omega
        have n2 : ¬ (200 < (m : Int)) := by omega
        have n3 : 400 < (s.size : Int) := by omega
        clear hx hy
        go_enter Tryd.func4, Tryd.ntmps4
        go_wp2_with fail
        refine (alive9_any _ hK).mono ?_
        rintro e w1 ⟨rfl, hb⟩
        go_wp2
        go_ret
        exact ⟨rfl, hb⟩
    · have n1 : ¬ (200 < (n : Int)) := by omega
      have n2 : 200 < (m : Int) := by omega
      clear hx hy
      go_enter Tryd.func4, Tryd.ntmps4
      go_wp2_with fail
      refine (alive9_any _ hK).mono ?_
      rintro e w1 ⟨rfl, hb⟩
      go_wp2
      go_ret
      exact ⟨rfl, hb⟩
  · have n1 : 200 < (n : Int) := by omega
    clear hx hy
    go_enter Tryd.func4, Tryd.ntmps4
    go_wp2_with fail
    refine (alive9_any _ hK).mono ?_
    rintro e w1 ⟨rfl, hb⟩
    go_wp2
    go_ret
    exact ⟨rfl, hb⟩

end Go.Proofs.YtcmmfghkjfadcaaDoor

namespace Go.Proofs.YtcmmfghkjfadcaaDoor
open Go.ChangeShapes Go.WideShapes Go.ChangeAt Go.RowKit

theorem kdfKeys_met (os : Os) (args : Array Value) : laidMetH Tryd.prog Rows.kdfKeysRow.laid ((World.doorLaid Tryd.prog 400 os).forCall (fun _ _ => 0) ⟨#[], args, []⟩).memory :=
  laidMetH_of_parts3 (fuel := 8) (laidMet_of_run' 8 (by kernel_rfl) (by kernel_rfl)) (by kernel_rfl) (by kernel_rfl)

set_option maxRecDepth 100000 in
theorem kdfKeys_lifted (os : Os) (started : os.Started) (H : Type) (enc : TypeId × Value → H) :
    ReturnsInHanded {} Tryd.checked os 4 .any (fun w args => (Rows.kdfKeysSpec.pre enc Tryd.prog Tryd.f4 [] false w args ∧ laidMetH Tryd.prog Rows.kdfKeysRow.laid w) ∧ sizedMet enc Tryd.prog Tryd.f4 (OpenSpec.ofChange Rows.kdfKeysSpec) false w args)
      (Rows.kdfKeysSpec.post enc Tryd.prog Tryd.f4 false true false false) := by
  refine returnsInHanded_of_change_and (C := Tryd.checked) (X := fun w _ => laidMetH Tryd.prog Rows.kdfKeysRow.laid w) (fun _ _ _ hh h => h.of_heap hh) own started (by kernel_rfl) Tryd.func4
    (ChangeSpec.witness_shaped (enc := enc) (C := Tryd.checked) (os := os) (X := fun w _ => laidMetH Tryd.prog Rows.kdfKeysRow.laid w) false (World.doorLaid Tryd.prog 400 os) #[.slice none 0 0, .slice none 0 0, .string ByteArray.empty, .int .i64 0] 8 rfl (World.shaped_of_RefB (by kernel_rfl) (by kernel_rfl)) (by kernel_rfl) (by kernel_rfl) (by kernel_rfl) (kdfKeys_met os _)) ?_
  intro W base args ds gs before hval0 hW _ _ hL _
  rw [MakeChecks.laidMetH_plain _ _ _ (by kernel_rfl)] at hL
  obtain ⟨lps, hlaid, -, -⟩ := hL
  have hval : ∀ (j : Nat) t v, Tryd.f4.params[j]? = some t → args[j]? = some v → Value.okWide Tryd.prog W .any base t v := hval0
  have hW' := hW
  obtain ⟨p, q, hA0, hV, rfl, hfz, hnd⟩ := hW
  have hA : DataW.TrodAll enc Tryd.prog W 0 (fun _ => true) true Tryd.f4.params.toList args.toList ds p := hA0
  rw [Tryd.params4] at hA hval
  obtain ⟨v0, v1, v2, v3, d0, d1, d2, d3, p0, p1, p2, p3, rfl, rfl, rfl, h0, h1, h2, h3⟩ := trodAll_four hA
  have hlt : ∀ x ∈ p0 ++ p1 ++ p2 ++ p3 ++ q, x.block < W.heap.size := fun x hx => by simpa using hW'.lt x hx
  obtain ⟨A0, n0, c0, xs0, rfl, hk0, hx0⟩ := open_bytesk Tryd.underlying22 Tryd.underlying5 cells_u8 (hval 0 22 v0 rfl rfl) h0 (fun x hx => hlt x (by simp [hx]))
  obtain ⟨A1, n1, c1, xs1, rfl, hk1, hx1⟩ := open_bytesk Tryd.underlying22 Tryd.underlying5 cells_u8 (hval 1 22 v1 rfl rfl) h1 (fun x hx => hlt x (by simp [hx]))
  obtain ⟨s2, rfl, hd2, rfl, ws2⟩ := Go.ChangeMaps.open_string Tryd.underlying9 (hval 2 9 v2 rfl rfl) h2
  obtain ⟨z3, rfl, rfl, rfl, w3⟩ := open_int Tryd.underlying3 (hval 3 3 v3 rfl rfl) h3
  have hz3 := wf_int w3
  refine (kdfKeys_walk n0 c0 n1 c1 A0 A1 xs0 xs1 s2 z3 W hx0 hk0 hx1 hk1 (ks_of hlaid)).mono fun e W' ⟨he, hb⟩ => ?_
  subst he
  exact ⟨_, rfl, law_post laidOut rfl rfl Tryd.underlying4 (by kernel_rfl) hW' rfl hb⟩

theorem kdfKeys_said : Rows.KdfKeysSaid :=
  OpenClaim.holds_of_wide 4 Tryd.f4 rfl rfl rfl rfl rfl rfl rfl ⟨rfl, rfl, rfl, rfl, rfl⟩ rfl rfl rfl rfl rfl (by kernel_rfl) Tryd.func4 (by kernel_rfl)
    (of_decide_eq_true (by kernel_rfl)) (by unfold Func.isWrapper; first | (rw [if_pos (by decide +kernel)]; kernel_rfl) | (rw [if_neg (by decide +kernel)]; exact ⟨rfl, rfl⟩))
    (fun os started H enc _ => kdfKeys_lifted os started H enc)

/-- THE CARD: what the row lists is tied to the program. -/
theorem kdfKeys_card : Rows.KdfKeysCardSaid :=
  Claim7.holds_tied_plain_at .later [] _ true _ false
    kdfKeys_said (fun _ h => by cases h) (by kernel_rfl) (fun _ h => by cases h) kdfKeys_row_tie rfl ⟨rfl, rfl⟩ (by kernel_rfl) rfl
    (fun f fn hf hfn => by
      obtain rfl : f = 4 := Option.some.inj ((show Tryd.prog.funcNamed Rows.kdfKeysRow.func = some 4 by kernel_rfl).symm.trans hf) |>.symm
      obtain rfl : fn = Tryd.f4 := (Option.some.inj (Tryd.func4.symm.trans hfn)).symm
      exact ⟨by kernel_rfl, fun j t ht => by
        rw [Tryd.params4] at ht
        have hm : t ∈ [22, 22, 9, 3] := by simpa using Array.mem_of_getElem? ht
        have hall : ([22, 22, 9, 3].all fun u => !Tryd.prog.wantsStandIn u) = true := by kernel_rfl
        exact (show Tryd.prog.wantsStandIn t = false by simpa using List.all_eq_true.1 hall t hm)⟩)
    (by kernel_rfl)

end Go.Proofs.YtcmmfghkjfadcaaDoor
