/-
  MacParts: for every input the law returns true, and what came in reads behind the call as it did. No condition. The variables that the program lists are tied to its text (the card).
-/
import Derived.Test.YthnkhfnibaomiaaDoorPkBase3
import Derived.Test.YthnkhfnibaomiaaDoorPkBase4
import Derived.Test.YthnkhfnibaomiaaDoorCards
namespace Go.Proofs.YthnkhfnibaomiaaDoor
open Go.RowKit

/-- What is read up to place q. -/
theorem Rd.upto {w : World} {B n b o q : Nat} {l : List UInt8} (h : Rd w B (some ⟨b, o, none⟩) n (Byt l)) (hq : q ≤ n) : Rd w B (some ⟨b, o, none⟩) q (Byt (l.take q)) := by
  have := h.part (p := 0) (q := q) (by omega)
  rwa [Nat.add_zero, List.drop_zero, ← Byt_take] at this

set_option maxHeartbeats 1600000 in
theorem macParts_in (n c m d k f : Nat) (A C D : Option Addr) (xs ys zs : List UInt8) (w : World) (hx : Rd w w.heap.size A n (Byt xs)) (hok : SlOK A n c) (hn : n ≤ 300)
    (hy : Rd w w.heap.size C m (Byt ys)) (hyo : SlOK C m d) (hm : m ≤ 200) (hz : Rd w w.heap.size D k (Byt zs)) (hzo : SlOK D k f) (hk : k ≤ 200) (hK : KsAt w) :
    Calls Tryd.prog 5 #[.slice A n c, .slice C m d, .slice D k f] w (Ans w (.bool true)) := by
  have n1 : ¬ (300 < (n : Int)) := by omega
  have n2 : ¬ (200 < (m : Int)) := by omega
  have n3 : ¬ (200 < (k : Int)) := by omega
  have hyl := hy.bytes
  have hzl := hz.bytes
  have HX := Lib.hid (fun W (hb : Below w.heap.size w W) => (hx.below hb).wider hb.size)
  have HY := Lib.hid (fun W (hb : Below w.heap.size w W) => (hy.below hb).wider hb.size)
  have HZ := Lib.hid (fun W (hb : Below w.heap.size w W) => (hz.below hb).wider hb.size)
  have HK := Lib.hid hK
  have C1 := rput_in m 4 w (by omega) (by decide) (by decide)
  have hpl := putL_length m 4
  have Htw : Hid (twoU xs ys zs = macU xs (putL m 4 ++ ys ++ zs)) := Lib.hid (by rw [twoU, hyl])
  generalize putL m 4 = L1 at C1 hpl Htw
  unfold NewB at C1
  rw [hpl] at C1
  have hl2 : (L1 ++ ys).length = 4 + m := by rw [List.length_append, hpl, hyl]
  have hl3 : (L1 ++ ys ++ zs).length = 4 + m + k := by rw [List.length_append, hl2, hzl]
  have C2 := fun W (hb : Below w.heap.size w W) G e (hg : Rd W W.heap.size G 4 (Byt L1)) (hgo : SlOK G 4 e) => rjoin_any W.heap.size 4 e m d G C L1 ys W hg (HY.out W hb) hgo hyo (Nat.le_refl _) (by omega)
  unfold NewB at C2
  rw [hl2] at C2
  have C3 := fun W (hb : Below w.heap.size w W) G e (hg : Rd W W.heap.size G (4 + m) (Byt (L1 ++ ys))) (hgo : SlOK G (4 + m) e) => rjoin_any W.heap.size (4 + m) e k f G D (L1 ++ ys) zs W hg (HZ.out W hb) hgo hzo (Nat.le_refl _) (by omega)
  unfold NewB at C3
  rw [hl3] at C3
  have C4 := fun W (hb : Below w.heap.size w W) => two_any W.heap.size n c m d k f A C D xs ys zs W (HX.out W hb) hok (by omega) (HY.out W hb) hyo (by omega) (HZ.out W hb) hzo (by omega) (Nat.le_refl _) (HK.out.below hb)
  generalize hT : L1 ++ ys ++ zs = T at C3 Htw
  have C5 := fun W (hb : Below w.heap.size w W) G e (hg : Rd W W.heap.size G (4 + m + k) (Byt T)) (hgo : SlOK G (4 + m + k) e) => of_any W.heap.size n c (4 + m + k) e A G xs T W (HX.out W hb) hok (by omega) hg hgo (by omega) (Nat.le_refl _) (HK.out.below hb)
  have C6 := fun W (hb : Below w.heap.size w W) G e (hg : Rd W W.heap.size G (4 + m + k) (Byt T)) (hgo : SlOK G (4 + m + k) e) J j i js (hj : Rd W W.heap.size J j (Byt js)) => check_any W.heap.size n c (4 + m + k) e j i A G J xs T js W (HX.out W hb) hok (by omega) hg hgo (by omega) hj (Nat.le_refl _) (HK.out.below hb)
  rw [Htw.out] at C4
  have hml := macU_length xs T
  have hsh := mac_short _ hml
  generalize macU xs T = M at C4 C5 C6 hml hsh
  unfold NewB at C4 C5
  rw [hml] at C4 C5
  have H2 := Lib.hid C2; have H3 := Lib.hid C3; have H4 := Lib.hid C4; have H5 := Lib.hid C5; have H6 := Lib.hid C6; have Hsh := Lib.hid hsh; have Hml := Lib.hid hml
  clear C2 C3 C4 C5 C6 hx hy hz hK hsh hml hl2 hl3 hyl hzl hpl hT Htw
  have hw : IntKind.u64.wrap (m : Int) = (m : Int) := by rw [IntKind.wrap_u64]; omega
  go_enter Tryd.func5, Tryd.ntmps5
  go_wp2_with fail
  refine C1.mono ?_
  rintro e w1 ⟨A1, c1, rfl, hown1, hb1⟩
  have h2 := H2.out w1 hb1 A1 c1 (Rd.of_own hown1) (SlOK.of_own hown1)
  have Hb1 := Lib.hid hb1; clear hown1 hb1
  go_wp2_with fail
  refine h2.mono ?_
  rintro e w2 ⟨A2, c2, rfl, hown2, hb2⟩
  have Hb2 := Lib.hid (bon Hb1.out hb2)
  have h3 := H3.out w2 Hb2.out A2 c2 (Rd.of_own hown2) (SlOK.of_own hown2)
  clear hown2 hb2
  go_wp2_with fail
  refine h3.mono ?_
  rintro e w3 ⟨A3, c3, rfl, hown3, hb3⟩
  have Hr3 := Lib.hid (Rd.of_own hown3)
  have Ho3 := Lib.hid (SlOK.of_own hown3)
  have Hb3 := Lib.hid (bon Hb2.out hb3); clear hown3 hb3
  go_wp2_with fail
  refine (H4.out w3 Hb3.out).mono ?_
  rintro e w4 ⟨A4, c4, rfl, hown4, hb4⟩
  have Hr4 := Lib.hid (Rd.of_own hown4)
  have Ho4 := Lib.hid (SlOK.of_own hown4)
  have HR4 := Lib.hid ((Hr3.out.below hb4).wider hb4.size)
  have Hb4 := Lib.hid (bon Hb3.out hb4); clear hown4 hb4 Hr3
  go_wp2_with fail
  refine (H5.out w4 Hb4.out A3 c3 HR4.out Ho3.out).mono ?_
  rintro e w5 ⟨A5, c5, rfl, hown5, hb5⟩
  have HR5 := Lib.hid ((HR4.out.below hb5).wider hb5.size)
  have HT5 := Lib.hid ((Hr4.out.below hb5).wider hb5.size)
  have hs5 := rsame_any w5.heap.size 32 32 c4 c5 A4 A5 M M w5 HT5.out (Rd.of_own hown5) (by decide) (by decide)
  rw [sameL_self] at hs5
  have Hb5 := Lib.hid (bon Hb4.out hb5); clear hown5 hb5 Hr4 HR4
  go_wp2_with fail
  refine hs5.mono ?_
  rintro e w6 ⟨rfl, hb6⟩
  have HR6 := Lib.hid ((HR5.out.below hb6).wider hb6.size)
  have HT6 := Lib.hid ((HT5.out.below hb6).wider hb6.size)
  have Hb6 := Lib.hid (bon Hb5.out hb6); clear hb6 HR5 HT5
  have h6 := H6.out w6 Hb6.out A3 c3 HR6.out Ho3.out A4 32 c4 M HT6.out
  rw [sameL_self] at h6
  go_wp2_with fail
  refine h6.mono ?_
  rintro e w7 ⟨rfl, hb7⟩
  have HR7 := Lib.hid ((HR6.out.below hb7).wider hb7.size)
  have HT7 := Lib.hid ((HT6.out.below hb7).wider hb7.size)
  have Hb7 := Lib.hid (bon Hb6.out hb7); clear hb7 HR6 HT6
  obtain ⟨b4, o4, rfl, -, -⟩ := HT7.out.byte (k := 0) (by decide) (by rw [Hml.out]; decide)
  have hc4 : (32 : Int) ≤ (c4 : Int) := by have := Ho4.out.le.1; omega
  have h7 := H6.out w7 Hb7.out A3 c3 HR7.out Ho3.out (some ⟨b4, o4, none⟩) 31 c4 (M.take 31) (HT7.out.upto (by decide))
  rw [Hsh.out] at h7
  go_wp2_with fail
  refine h7.mono ?_
  rintro e w8 ⟨rfl, hb8⟩
  have Hb8 := Lib.hid (bon Hb7.out hb8); clear hb8
  go_wp2_with fail
  refine (alive8_any _ (HK.out.below Hb8.out)).mono ?_
  rintro e w9 ⟨rfl, hb9⟩
  go_wp2
  go_ret
  exact ⟨rfl, bon Hb8.out hb9⟩

set_option maxHeartbeats 1600000 in
theorem macParts_walk (n c m d k f : Nat) (A C D : Option Addr) (xs ys zs : List UInt8) (w : World) (hx : Rd w w.heap.size A n (Byt xs)) (hok : SlOK A n c)
    (hy : Rd w w.heap.size C m (Byt ys)) (hyo : SlOK C m d) (hz : Rd w w.heap.size D k (Byt zs)) (hzo : SlOK D k f) (hK : KsAt w) :
    Calls Tryd.prog 5 #[.slice A n c, .slice C m d, .slice D k f] w (Ans w (.bool true)) := by
  by_cases h1 : n ≤ 300
  · by_cases h2 : m ≤ 200
    · by_cases h3 : k ≤ 200
      · exact macParts_in n c m d k f A C D xs ys zs w hx hok h1 hy hyo h2 hz hzo h3 hK
      · have n1 : ¬ (300 < (n : Int)) := by omega
        have n2 : ¬ (200 < (m : Int)) := by omega
        have n3 : 200 < (k : Int) := by omega
        clear hx hy hz
        go_enter Tryd.func5, Tryd.ntmps5
        go_wp2_with fail
        refine (alive8_any _ hK).mono ?_
        rintro e w1 ⟨rfl, hb⟩
        go_wp2
        go_ret
        exact ⟨rfl, hb⟩
    · have n1 : ¬ (300 < (n : Int)) := by omega
      have n2 : 200 < (m : Int) := by omega
      clear hx hy hz
      go_enter Tryd.func5, Tryd.ntmps5
      go_wp2_with fail
      refine (alive8_any _ hK).mono ?_
      rintro e w1 ⟨rfl, hb⟩
      go_wp2
      go_ret
      exact ⟨rfl, hb⟩
  · have n1 : 300 < (n : Int) := by omega
    clear hx hy hz
    go_enter Tryd.func5, Tryd.ntmps5
    go_wp2_with fail
    refine (alive8_any _ hK).mono ?_
    rintro e w1 ⟨rfl, hb⟩
    go_wp2
    go_ret
    exact ⟨rfl, hb⟩

end Go.Proofs.YthnkhfnibaomiaaDoor

namespace Go.Proofs.YthnkhfnibaomiaaDoor
open Go.ChangeShapes Go.WideShapes Go.ChangeAt Go.RowKit

theorem macParts_met (os : Os) (args : Array Value) : laidMetH Tryd.prog Rows.macPartsRow.laid ((World.doorLaid Tryd.prog 400 os).forCall (fun _ _ => 0) ⟨#[], args, []⟩).memory :=
  laidMetH_of_parts3 (fuel := 8) (laidMet_of_run' 8 (by kernel_rfl) (by kernel_rfl)) (by kernel_rfl) (by kernel_rfl)

set_option maxRecDepth 100000 in
theorem macParts_lifted (os : Os) (started : os.Started) (H : Type) (enc : TypeId × Value → H) :
    ReturnsInHanded {} Tryd.checked os 5 .any (fun w args => (Rows.macPartsSpec.pre enc Tryd.prog Tryd.f5 [] false w args ∧ laidMetH Tryd.prog Rows.macPartsRow.laid w) ∧ sizedMet enc Tryd.prog Tryd.f5 (OpenSpec.ofChange Rows.macPartsSpec) false w args)
      (Rows.macPartsSpec.post enc Tryd.prog Tryd.f5 false true false false) := by
  refine returnsInHanded_of_change_and (C := Tryd.checked) (X := fun w _ => laidMetH Tryd.prog Rows.macPartsRow.laid w) (fun _ _ _ hh h => h.of_heap hh) own started (by kernel_rfl) Tryd.func5
    (ChangeSpec.witness_shaped (enc := enc) (C := Tryd.checked) (os := os) (X := fun w _ => laidMetH Tryd.prog Rows.macPartsRow.laid w) false (World.doorLaid Tryd.prog 400 os) #[.slice none 0 0, .slice none 0 0, .slice none 0 0] 8 rfl (World.shaped_of_RefB (by kernel_rfl) (by kernel_rfl)) (by kernel_rfl) (by kernel_rfl) (by kernel_rfl) (macParts_met os _)) ?_
  intro W base args ds gs before hval0 hW _ _ hL _
  rw [MakeChecks.laidMetH_plain _ _ _ (by kernel_rfl)] at hL
  obtain ⟨lps, hlaid, -, -⟩ := hL
  have hval : ∀ (j : Nat) t v, Tryd.f5.params[j]? = some t → args[j]? = some v → Value.okWide Tryd.prog W .any base t v := hval0
  have hW' := hW
  obtain ⟨p, q, hA0, hV, rfl, hfz, hnd⟩ := hW
  have hA : DataW.TrodAll enc Tryd.prog W 0 (fun _ => true) true Tryd.f5.params.toList args.toList ds p := hA0
  rw [Tryd.params5] at hA hval
  obtain ⟨v0, v1, v2, d0, d1, d2, p0, p1, p2, rfl, rfl, rfl, h0, h1, h2⟩ := trodAll_three hA
  have hlt : ∀ x ∈ p0 ++ p1 ++ p2 ++ q, x.block < W.heap.size := fun x hx => by simpa using hW'.lt x hx
  obtain ⟨A0, n0, c0, xs0, rfl, hk0, hx0⟩ := open_bytesk Tryd.underlying22 Tryd.underlying5 cells_u8 (hval 0 22 v0 rfl rfl) h0 (fun x hx => hlt x (by simp [hx]))
  obtain ⟨A1, n1, c1, xs1, rfl, hk1, hx1⟩ := open_bytesk Tryd.underlying22 Tryd.underlying5 cells_u8 (hval 1 22 v1 rfl rfl) h1 (fun x hx => hlt x (by simp [hx]))
  obtain ⟨A2, n2, c2, xs2, rfl, hk2, hx2⟩ := open_bytesk Tryd.underlying22 Tryd.underlying5 cells_u8 (hval 2 22 v2 rfl rfl) h2 (fun x hx => hlt x (by simp [hx]))
  refine (macParts_walk n0 c0 n1 c1 n2 c2 A0 A1 A2 xs0 xs1 xs2 W hx0 hk0 hx1 hk1 hx2 hk2 (ks_of hlaid)).mono fun e W' ⟨he, hb⟩ => ?_
  subst he
  exact ⟨_, rfl, law_post laidOut rfl rfl Tryd.underlying4 (by kernel_rfl) hW' rfl hb⟩

theorem macParts_said : Rows.MacPartsSaid :=
  OpenClaim.holds_of_wide 5 Tryd.f5 rfl rfl rfl rfl rfl rfl rfl ⟨rfl, rfl, rfl, rfl, rfl⟩ rfl rfl rfl rfl rfl (by kernel_rfl) Tryd.func5 (by kernel_rfl)
    (of_decide_eq_true (by kernel_rfl)) (by unfold Func.isWrapper; first | (rw [if_pos (by decide +kernel)]; kernel_rfl) | (rw [if_neg (by decide +kernel)]; exact ⟨rfl, rfl⟩))
    (fun os started H enc _ => macParts_lifted os started H enc)

/-- THE CARD: what the row lists is tied to the program. -/
theorem macParts_card : Rows.MacPartsCardSaid :=
  Claim7.holds_tied_plain_at .later [] _ true _ false
    macParts_said (fun _ h => by cases h) (by kernel_rfl) (fun _ h => by cases h) macParts_row_tie rfl ⟨rfl, rfl⟩ (by kernel_rfl) rfl
    (fun f fn hf hfn => by
      obtain rfl : f = 5 := Option.some.inj ((show Tryd.prog.funcNamed Rows.macPartsRow.func = some 5 by kernel_rfl).symm.trans hf) |>.symm
      obtain rfl : fn = Tryd.f5 := (Option.some.inj (Tryd.func5.symm.trans hfn)).symm
      exact ⟨by kernel_rfl, fun j t ht => by
        rw [Tryd.params5] at ht
        have hm : t ∈ [22, 22, 22] := by simpa using Array.mem_of_getElem? ht
        have hall : ([22, 22, 22].all fun u => !Tryd.prog.wantsStandIn u) = true := by kernel_rfl
        exact (show Tryd.prog.wantsStandIn t = false by simpa using List.all_eq_true.1 hall t hm)⟩)
    (by kernel_rfl)

end Go.Proofs.YthnkhfnibaomiaaDoor
