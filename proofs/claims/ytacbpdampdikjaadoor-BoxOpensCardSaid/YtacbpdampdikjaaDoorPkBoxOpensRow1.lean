/-
  BoxOpens: for every input the law returns true, and what came in reads behind the call as it did. No condition. The variables that the program lists are tied to its text (the card).
-/
import Derived.Test.YtacbpdampdikjaaDoorPkBase7
import Derived.Test.YtacbpdampdikjaaDoorPkBase10
import Derived.Test.YtacbpdampdikjaaDoorPkBase9
import Derived.Test.YtacbpdampdikjaaDoorPkBase3
import Derived.Test.YtacbpdampdikjaaDoorCards
namespace Go.Proofs.YtacbpdampdikjaaDoor
open Go.RowKit

/-- Both answers for the key and the box at hand. -/
theorem open_both (n c m q : Nat) (A C : Option Addr) (ks bs : List UInt8) (w : World) (hk : Rd w w.heap.size A n (Byt ks)) (hd : SlOK A n c) (hs : Rd w w.heap.size C m (Byt bs)) (hc : SlOK C m q) (hK : KsAt w) :
    ∃ (R : List UInt8) (fv : Int), R.length ≤ 60048 ∧ 0 ≤ fv ∧ fv < 12 ∧
      (∀ W, Below w.heap.size w W → Calls Tryd.prog 13 #[.slice A n c, .slice C m q] W (NewRF W R fv)) ∧
      (∀ W, Below w.heap.size w W → Calls Tryd.prog 14 #[.slice A n c, .slice C m q] W (NewRF W R fv)) := by
  by_cases h : n = 32 ∧ 48 ≤ m ∧ m ≤ 60048
  · obtain ⟨rfl, h1, h2⟩ := h
    obtain ⟨bb, oo, rfl, -, -⟩ := hs.2 (by omega)
    have c1 := fun W (hb : Below w.heap.size w W) => bopen_any w.heap.size c m q bb oo A ks bs W (hk.below hb) hd (hs.below hb) hc h1 h2 hb.size (hK.below hb)
    have c2 := fun W (hb : Below w.heap.size w W) => rbopen_any w.heap.size c m q bb oo A ks bs W (hk.below hb) hd (hs.below hb) hc h1 h2 hb.size
    have hl : (bopenU ks bs).length ≤ 60048 := by
      have hbl := hs.bytes
      rw [bopenU, bhide_length, List.length_drop, List.length_take]
      omega
    revert c1 c2 hl
    generalize bokU ks bs = ok
    generalize bopenU ks bs = X
    intro c1 c2 hl
    cases ok
    · exact ⟨[], 11, by simp, by omega, by omega, c1, c2⟩
    · exact ⟨X, 0, hl, by omega, by omega, c1, c2⟩
  · exact ⟨[], 4, by simp, by omega, by omega, fun W hb => bopen_form n c m q A C W (by omega), fun W hb => rbopen_form n c m q A C W (by omega)⟩

set_option maxRecDepth 4096 in
set_option maxHeartbeats 1600000 in
theorem boxOpens_in (n c m q : Nat) (A C : Option Addr) (ks bs : List UInt8) (w : World) (hk : Rd w w.heap.size A n (Byt ks)) (hd : SlOK A n c) (hs : Rd w w.heap.size C m (Byt bs)) (hc : SlOK C m q) (hn : n ≤ 100) (hm : m ≤ 300) (hK : KsAt w) :
    Calls Tryd.prog 4 #[.slice A n c, .slice C m q] w (Ans w (.bool true)) := by
  have n1 : ¬ (100 < (n : Int)) := by omega
  have n2 : ¬ (300 < (m : Int)) := by omega
  obtain ⟨R, fv, hR, hf0, hf5, h1, h2⟩ := open_both n c m q A C ks bs w hk hd hs hc hK
  have h7 := fun W (hb : Below w.heap.size w W) => alive13_any W (hK.below hb)
  have hRm : R.length ≤ maxLen := by unfold maxLen; omega
  obtain ⟨r, hr⟩ : ∃ r, R.length = r := ⟨_, rfl⟩
  unfold NewRF at h1 h2
  rw [hr] at h1 h2 hR hRm
  have H1 := Lib.hid h1
  have H2 := Lib.hid h2
  have H7 := Lib.hid h7
  have HRm := Lib.hid hRm
  clear h1 h2 h7 hk hd hs hc hr hm hn hRm hR hK
  go_enter Tryd.func4, Tryd.ntmps4
  go_wp2_with fail
  refine (H1.out w (Below.refl _ _)).mono ?_
  rintro e w1 ⟨A1, c1, rfl, hr1, ho1, hb1⟩
  have Hr1 := Lib.hid hr1
  have Hb1 := Lib.hid hb1
  clear hr1 ho1 hb1
  go_wp2_with fail
  refine (H2.out w1 Hb1.out).mono ?_
  rintro e w2 ⟨A2, c2, rfl, hr2, ho2, hb2⟩
  have hs3 := rsame_any w2.heap.size r r c1 c2 A1 A2 R R w2 ((Hr1.out.below hb2).wider hb2.size) hr2 HRm.out HRm.out
  rw [sameL_self] at hs3
  have Hb2 := Lib.hid (bon Hb1.out hb2)
  clear hr2 ho2 hb2 Hr1
  go_wp2_with fail
  refine hs3.mono ?_
  rintro e w3 ⟨rfl, hb3⟩
  have Hb3 := Lib.hid (bon Hb2.out hb3)
  clear hb3 hs3
  go_wp2_with fail
  refine (H7.out _ Hb3.out).mono ?_
  rintro e w4 ⟨rfl, hb4⟩
  go_wp2
  go_ret
  exact ⟨rfl, bon Hb3.out hb4⟩

set_option maxHeartbeats 1600000 in
theorem boxOpens_walk (n c m q : Nat) (A C : Option Addr) (ks bs : List UInt8) (w : World) (hk : Rd w w.heap.size A n (Byt ks)) (hd : SlOK A n c) (hs : Rd w w.heap.size C m (Byt bs)) (hc : SlOK C m q) (hK : KsAt w) :
    Calls Tryd.prog 4 #[.slice A n c, .slice C m q] w (Ans w (.bool true)) := by
  by_cases h1 : n ≤ 100
  · have n1 : ¬ (100 < (n : Int)) := by omega
    by_cases h2 : m ≤ 300
    · exact boxOpens_in n c m q A C ks bs w hk hd hs hc h1 h2 hK
    · have n2 : 300 < (m : Int) := by omega
      clear hk hd hs hc
      go_enter Tryd.func4, Tryd.ntmps4
      go_wp2_with fail
      refine (alive13_any _ hK).mono ?_
      rintro e w1 ⟨rfl, hb⟩
      go_wp2
      go_ret
      exact ⟨rfl, hb⟩
  · have n1 : 100 < (n : Int) := by omega
    clear hk hd hs hc
    go_enter Tryd.func4, Tryd.ntmps4
    go_wp2_with fail
    refine (alive13_any _ hK).mono ?_
    rintro e w1 ⟨rfl, hb⟩
    go_wp2
    go_ret
    exact ⟨rfl, hb⟩

end Go.Proofs.YtacbpdampdikjaaDoor

namespace Go.Proofs.YtacbpdampdikjaaDoor
open Go.ChangeShapes Go.WideShapes Go.ChangeAt Go.RowKit

theorem boxOpens_met (os : Os) (args : Array Value) : laidMetH Tryd.prog Rows.boxOpensRow.laid ((World.doorLaid Tryd.prog 400 os).forCall (fun _ _ => 0) ⟨#[], args, []⟩).memory :=
  laidMetH_of_parts3 (fuel := 8) (laidMet_of_run' 8 (by kernel_rfl) (by kernel_rfl)) (by kernel_rfl) (by kernel_rfl)

set_option maxRecDepth 100000 in
theorem boxOpens_lifted (os : Os) (started : os.Started) (H : Type) (enc : TypeId × Value → H) :
    ReturnsInHanded {} Tryd.checked os 4 .any (fun w args => (Rows.boxOpensSpec.pre enc Tryd.prog Tryd.f4 [] false w args ∧ laidMetH Tryd.prog Rows.boxOpensRow.laid w) ∧ sizedMet enc Tryd.prog Tryd.f4 (OpenSpec.ofChange Rows.boxOpensSpec) false w args)
      (Rows.boxOpensSpec.post enc Tryd.prog Tryd.f4 false true false false) := by
  refine returnsInHanded_of_change_and (C := Tryd.checked) (X := fun w _ => laidMetH Tryd.prog Rows.boxOpensRow.laid w) (fun _ _ _ hh h => h.of_heap hh) own started (by kernel_rfl) Tryd.func4
    (ChangeSpec.witness_shaped (enc := enc) (C := Tryd.checked) (os := os) (X := fun w _ => laidMetH Tryd.prog Rows.boxOpensRow.laid w) false (World.doorLaid Tryd.prog 400 os) #[.slice none 0 0, .slice none 0 0] 8 rfl (World.shaped_of_RefB (by kernel_rfl) (by kernel_rfl)) (by kernel_rfl) (by kernel_rfl) (by kernel_rfl) (boxOpens_met os _)) ?_
  intro W base args ds gs before hval0 hW _ _ hL _
  rw [MakeChecks.laidMetH_plain _ _ _ (by kernel_rfl)] at hL
  obtain ⟨lps, hlaid, -, -⟩ := hL
  have hval : ∀ (j : Nat) t v, Tryd.f4.params[j]? = some t → args[j]? = some v → Value.okWide Tryd.prog W .any base t v := hval0
  have hW' := hW
  obtain ⟨p, q, hA0, hV, rfl, hfz, hnd⟩ := hW
  have hA : DataW.TrodAll enc Tryd.prog W 0 (fun _ => true) true Tryd.f4.params.toList args.toList ds p := hA0
  rw [Tryd.params4] at hA hval
  obtain ⟨v0, v1, d0, d1, p0, p1, rfl, rfl, rfl, h0, h1⟩ := trodAll_two hA
  have hlt : ∀ x ∈ p0 ++ p1 ++ q, x.block < W.heap.size := fun x hx => by simpa using hW'.lt x hx
  obtain ⟨A0, n0, c0, xs0, rfl, hk0, hx0⟩ := open_bytesk Tryd.underlying22 Tryd.underlying5 cells_u8 (hval 0 22 v0 rfl rfl) h0 (fun x hx => hlt x (by simp [hx]))
  obtain ⟨A1, n1, c1, xs1, rfl, hk1, hx1⟩ := open_bytesk Tryd.underlying22 Tryd.underlying5 cells_u8 (hval 1 22 v1 rfl rfl) h1 (fun x hx => hlt x (by simp [hx]))
  refine (boxOpens_walk n0 c0 n1 c1 A0 A1 xs0 xs1 W hx0 hk0 hx1 hk1 (ks_of hlaid)).mono fun e W' ⟨he, hb⟩ => ?_
  subst he
  exact ⟨_, rfl, law_post laidOut rfl rfl Tryd.underlying4 (by kernel_rfl) hW' rfl hb⟩

theorem boxOpens_said : Rows.BoxOpensSaid :=
  OpenClaim.holds_of_wide 4 Tryd.f4 rfl rfl rfl rfl rfl rfl rfl ⟨rfl, rfl, rfl, rfl, rfl⟩ rfl rfl rfl rfl rfl (by kernel_rfl) Tryd.func4 (by kernel_rfl)
    (of_decide_eq_true (by kernel_rfl)) (by unfold Func.isWrapper; first | (rw [if_pos (by decide +kernel)]; kernel_rfl) | (rw [if_neg (by decide +kernel)]; exact ⟨rfl, rfl⟩))
    (fun os started H enc _ => boxOpens_lifted os started H enc)

/-- THE CARD: what the row lists is tied to the program. -/
theorem boxOpens_card : Rows.BoxOpensCardSaid :=
  Claim7.holds_tied_plain_at .later [] _ true _ false
    boxOpens_said (fun _ h => by cases h) (by kernel_rfl) (fun _ h => by cases h) boxOpens_row_tie rfl ⟨rfl, rfl⟩ (by kernel_rfl) rfl
    (fun f fn hf hfn => by
      obtain rfl : f = 4 := Option.some.inj ((show Tryd.prog.funcNamed Rows.boxOpensRow.func = some 4 by kernel_rfl).symm.trans hf) |>.symm
      obtain rfl : fn = Tryd.f4 := (Option.some.inj (Tryd.func4.symm.trans hfn)).symm
      exact ⟨by kernel_rfl, fun j t ht => by
        rw [Tryd.params4] at ht
        have hm : t ∈ [22, 22] := by simpa using Array.mem_of_getElem? ht
        have hall : ([22, 22].all fun u => !Tryd.prog.wantsStandIn u) = true := by kernel_rfl
        exact (show Tryd.prog.wantsStandIn t = false by simpa using List.all_eq_true.1 hall t hm)⟩)
    (by kernel_rfl)

end Go.Proofs.YtacbpdampdikjaaDoor
