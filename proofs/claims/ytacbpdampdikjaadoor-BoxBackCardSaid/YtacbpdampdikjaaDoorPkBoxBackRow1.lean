/-
  BoxBack: for every input the law returns true, and what came in reads behind the call as it did. No condition. The variables that the program lists are tied to its text (the card).
-/
import Derived.Test.YtacbpdampdikjaaDoorPkBase7
import Derived.Test.YtacbpdampdikjaaDoorPkBase9
import Derived.Test.YtacbpdampdikjaaDoorPkBase3
import Derived.Test.YtacbpdampdikjaaDoorPkBase10
import Derived.Test.YtacbpdampdikjaaDoorCards
namespace Go.Proofs.YtacbpdampdikjaaDoor
open Go.RowKit

set_option maxRecDepth 4096 in
set_option maxHeartbeats 1600000 in
theorem boxBack_in (d c p q : Nat) (A C D : Option Addr) (ks ss ts : List UInt8) (w : World) (hk : Rd w w.heap.size A 32 (Byt ks)) (hd : SlOK A 32 d) (hs : Rd w w.heap.size C 16 (Byt ss)) (hc : SlOK C 16 c) (ht : Rd w w.heap.size D p (Byt ts)) (hp : p ≤ 200) (hK : KsAt w) :
    Calls Tryd.prog 5 #[.slice A 32 d, .slice C 16 c, .slice D p q] w (Ans w (.bool true)) := by
  have n3 : ¬ (200 < (p : Int)) := by omega
  have htl := ht.bytes
  have hsl := hs.bytes
  obtain ⟨r, hr⟩ : ∃ r, (boxU ks ss ts).length = r := ⟨_, rfl⟩
  have hrp : r = 16 + p + 32 := by rw [← hr, box_length, hsl, htl]
  have h1 := bseal_any w.heap.size d c p q A C D ks ss ts w hk hd hs hc ht (by omega) (Nat.le_refl _) hK
  have h2 : ∀ A1 c1 W, Below w.heap.size w W → Rd W W.heap.size A1 r (Byt (boxU ks ss ts)) → SlOK A1 r c1 → Calls Tryd.prog 13 #[.slice A 32 d, .slice A1 r c1] W (NewRF W ts 0) := by
    intro A1 c1 W hb h1 h2
    obtain ⟨bb, oo, rfl, -, -⟩ := h1.2 (by omega)
    refine (bopen_any W.heap.size d r c1 bb oo A ks (boxU ks ss ts) W ((hk.below hb).wider hb.size) hd h1 h2 (by omega) (by omega) (Nat.le_refl _) (hK.below hb)).mono ?_
    rw [box_ok, box_back hsl]
    exact fun _ _ h => h
  have h6 := fun W => bsize_any (p : Int) W (by omega) (by omega)
  have h7 := fun W (hb : Below w.heap.size w W) => alive13_any W (hK.below hb)
  have hT := fun W (hb : Below w.heap.size w W) => (ht.below hb).wider hb.size
  have hpm : p ≤ maxLen := by unfold maxLen; omega
  have hri : (r : Int) = (p : Int) + 48 := by omega
  rw [show max (p : Int) 0 + 48 = (p : Int) + 48 by omega] at h6
  unfold NewRF at h1 h2
  rw [hr] at h1
  rw [htl] at h2
  revert h1 h2
  generalize boxU ks ss ts = R
  intro h1 h2
  have H1 := Lib.hid h1
  have H2 := Lib.hid h2
  have H6 := Lib.hid h6
  have H7 := Lib.hid h7
  have HT := Lib.hid hT
  have Hri := Lib.hid hri
  have Hpm := Lib.hid hpm
  clear h1 h2 h6 h7 hT hk hd hs hc ht hr hrp hri hpm hp hK htl hsl
  go_enter Tryd.func5, Tryd.ntmps5
  go_wp2_with fail
  refine H1.out.mono ?_
  rintro e w1 ⟨A1, c1, rfl, hr1, ho1, hb1⟩
  have h2 := H2.out A1 c1 w1 hb1 hr1 ho1
  have Hb1 := Lib.hid hb1
  clear hr1 ho1 hb1
  go_wp2_with fail
  refine h2.mono ?_
  rintro e w2 ⟨A2, c2, rfl, hr2, ho2, hb2⟩
  have hs3 := rsame_any w2.heap.size p p c2 q A2 D ts ts w2 hr2 (HT.out w2 (bon Hb1.out hb2)) Hpm.out Hpm.out
  rw [sameL_self] at hs3
  have Hb2 := Lib.hid (bon Hb1.out hb2)
  clear hr2 ho2 hb2 h2
  go_wp2_with fail
  refine hs3.mono ?_
  rintro e w3 ⟨rfl, hb3⟩
  have Hb3 := Lib.hid (bon Hb2.out hb3)
  clear hb3 hs3
  go_wp2_with fail
  refine (H6.out w3).mono ?_
  rintro e w4 ⟨rfl, hw⟩
  subst hw
  have hri := Hri.out
  have h7 := H7.out w4 Hb3.out
  go_wp2_with fail
  refine h7.mono ?_
  rintro e w5 ⟨rfl, hb5⟩
  go_wp2
  go_ret
  exact ⟨rfl, bon Hb3.out hb5⟩

set_option maxHeartbeats 1600000 in
theorem boxBack_walk (m d n c p q : Nat) (A C D : Option Addr) (ks ss ts : List UInt8) (w : World) (hk : Rd w w.heap.size A m (Byt ks)) (hd : SlOK A m d) (hs : Rd w w.heap.size C n (Byt ss)) (hc : SlOK C n c) (ht : Rd w w.heap.size D p (Byt ts)) (hK : KsAt w) :
    Calls Tryd.prog 5 #[.slice A m d, .slice C n c, .slice D p q] w (Ans w (.bool true)) := by
  by_cases h1 : m = 32
  · subst h1
    by_cases h2 : n = 16
    · subst h2
      by_cases h3 : p ≤ 200
      · exact boxBack_in d c p q A C D ks ss ts w hk hd hs hc ht h3 hK
      · have n3 : 200 < (p : Int) := by omega
        clear hk hd hs hc ht
        go_enter Tryd.func5, Tryd.ntmps5
        go_wp2_with fail
        refine (alive13_any _ hK).mono ?_
        rintro e w1 ⟨rfl, hb⟩
        go_wp2
        go_ret
        exact ⟨rfl, hb⟩
    · have n2 : ((n : Int) != 16) = true := by simp; omega
      clear hk hd hs hc ht
      go_enter Tryd.func5, Tryd.ntmps5
      go_wp2_with fail
      refine (alive13_any _ hK).mono ?_
      rintro e w1 ⟨rfl, hb⟩
      go_wp2
      go_ret
      exact ⟨rfl, hb⟩
  · have n1 : ((m : Int) != 32) = true := by simp; omega
    clear hk hd hs hc ht
    go_enter Tryd.func5, Tryd.ntmps5
    go_wp2_with fail
    refine (alive13_any _ hK).mono ?_
    rintro e w1 ⟨rfl, hb⟩
    go_wp2
    go_ret
    exact ⟨rfl, hb⟩

end Go.Proofs.YtacbpdampdikjaaDoor

namespace Go.Proofs.YtacbpdampdikjaaDoor
open Go.ChangeShapes Go.WideShapes Go.ChangeAt Go.RowKit

theorem boxBack_met (os : Os) (args : Array Value) : laidMetH Tryd.prog Rows.boxBackRow.laid ((World.doorLaid Tryd.prog 400 os).forCall (fun _ _ => 0) ⟨#[], args, []⟩).memory :=
  laidMetH_of_parts3 (fuel := 8) (laidMet_of_run' 8 (by kernel_rfl) (by kernel_rfl)) (by kernel_rfl) (by kernel_rfl)

set_option maxRecDepth 100000 in
theorem boxBack_lifted (os : Os) (started : os.Started) (H : Type) (enc : TypeId × Value → H) :
    ReturnsInHanded {} Tryd.checked os 5 .any (fun w args => (Rows.boxBackSpec.pre enc Tryd.prog Tryd.f5 [] false w args ∧ laidMetH Tryd.prog Rows.boxBackRow.laid w) ∧ sizedMet enc Tryd.prog Tryd.f5 (OpenSpec.ofChange Rows.boxBackSpec) false w args)
      (Rows.boxBackSpec.post enc Tryd.prog Tryd.f5 false true false false) := by
  refine returnsInHanded_of_change_and (C := Tryd.checked) (X := fun w _ => laidMetH Tryd.prog Rows.boxBackRow.laid w) (fun _ _ _ hh h => h.of_heap hh) own started (by kernel_rfl) Tryd.func5
    (ChangeSpec.witness_shaped (enc := enc) (C := Tryd.checked) (os := os) (X := fun w _ => laidMetH Tryd.prog Rows.boxBackRow.laid w) false (World.doorLaid Tryd.prog 400 os) #[.slice none 0 0, .slice none 0 0, .slice none 0 0] 8 rfl (World.shaped_of_RefB (by kernel_rfl) (by kernel_rfl)) (by kernel_rfl) (by kernel_rfl) (by kernel_rfl) (boxBack_met os _)) ?_
  intro W base args ds gs before hval0 hW _ _ hL _
  rw [MakeChecks.laidMetH_plain _ _ _ (by kernel_rfl)] at hL
  obtain ⟨lps, hlaid, -, -⟩ := hL
  have hval : ∀ (j : Nat) t v, Tryd.f5.params[j]? = some t → args[j]? = some v → Value.okWide Tryd.prog W .any base t v := hval0
  have hW' := hW
  obtain ⟨p, q, hA0, hV, rfl, hfz, hnd⟩ := hW
  have hA : DataW.TrodAll enc Tryd.prog W 0 (fun _ => true) true Tryd.f5.params.toList args.toList ds p := hA0
  rw [Tryd.params5] at hA hval
  obtain ⟨v0, v1, v2, d0, d1, d2, p0, p1, p2, rfl, rfl, rfl, h0, h1, h2⟩ := trodAll_three hA
  have hlt : ∀ x ∈ p0 ++ p1 ++ p2 ++ q, x.block < W.heap.size := fun x hx => by simpa using hW'.lt x hx
  obtain ⟨A0, n0, c0, xs0, rfl, hk0, hx0⟩ := open_bytesk Tryd.underlying22 Tryd.underlying5 cells_u8 (hval 0 22 v0 rfl rfl) h0 (fun x hx => hlt x (by simp [hx]))
  obtain ⟨A1, n1, c1, xs1, rfl, hk1, hx1⟩ := open_bytesk Tryd.underlying22 Tryd.underlying5 cells_u8 (hval 1 22 v1 rfl rfl) h1 (fun x hx => hlt x (by simp [hx]))
  obtain ⟨A2, n2, c2, xs2, rfl, hk2, hx2⟩ := open_bytesk Tryd.underlying22 Tryd.underlying5 cells_u8 (hval 2 22 v2 rfl rfl) h2 (fun x hx => hlt x (by simp [hx]))
  refine (boxBack_walk n0 c0 n1 c1 n2 c2 A0 A1 A2 xs0 xs1 xs2 W hx0 hk0 hx1 hk1 hx2 (ks_of hlaid)).mono fun e W' ⟨he, hb⟩ => ?_
  subst he
  exact ⟨_, rfl, law_post laidOut rfl rfl Tryd.underlying4 (by kernel_rfl) hW' rfl hb⟩

theorem boxBack_said : Rows.BoxBackSaid :=
  OpenClaim.holds_of_wide 5 Tryd.f5 rfl rfl rfl rfl rfl rfl rfl ⟨rfl, rfl, rfl, rfl, rfl⟩ rfl rfl rfl rfl rfl (by kernel_rfl) Tryd.func5 (by kernel_rfl)
    (of_decide_eq_true (by kernel_rfl)) (by unfold Func.isWrapper; first | (rw [if_pos (by decide +kernel)]; kernel_rfl) | (rw [if_neg (by decide +kernel)]; exact ⟨rfl, rfl⟩))
    (fun os started H enc _ => boxBack_lifted os started H enc)

/-- THE CARD: what the row lists is tied to the program. -/
theorem boxBack_card : Rows.BoxBackCardSaid :=
  Claim7.holds_tied_plain_at .later [] _ true _ false
    boxBack_said (fun _ h => by cases h) (by kernel_rfl) (fun _ h => by cases h) boxBack_row_tie rfl ⟨rfl, rfl⟩ (by kernel_rfl) rfl
    (fun f fn hf hfn => by
      obtain rfl : f = 5 := Option.some.inj ((show Tryd.prog.funcNamed Rows.boxBackRow.func = some 5 by kernel_rfl).symm.trans hf) |>.symm
      obtain rfl : fn = Tryd.f5 := (Option.some.inj (Tryd.func5.symm.trans hfn)).symm
      exact ⟨by kernel_rfl, fun j t ht => by
        rw [Tryd.params5] at ht
        have hm : t ∈ [22, 22, 22] := by simpa using Array.mem_of_getElem? ht
        have hall : ([22, 22, 22].all fun u => !Tryd.prog.wantsStandIn u) = true := by kernel_rfl
        exact (show Tryd.prog.wantsStandIn t = false by simpa using List.all_eq_true.1 hall t hm)⟩)
    (by kernel_rfl)

end Go.Proofs.YtacbpdampdikjaaDoor
