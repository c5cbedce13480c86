/-
  CtrTexts: for every input the law returns true, and what came in reads behind the call as it did. No condition.
-/
import Derived.Test.YtfkfkmdnffpcmaaPkBase6
import Derived.Test.YtfkfkmdnffpcmaaPkBase2
namespace Go.Proofs.Ytfkfkmdnffpcmaa
open Go.RowKit

/-- Both answers for the key, the nonce and the text at hand. -/
theorem over_both (m d n c p q : Nat) (A C D : Option Addr) (ks ss ts : List UInt8) (w : World) (hk : Rd w w.heap.size A m (Byt ks)) (hd : m ≤ d) (hs : Rd w w.heap.size C n (Byt ss)) (ht : Rd w w.heap.size D p (Byt ts)) (hp : p ≤ 65536) :
    ∃ (R : List UInt8) (fv : Int), R.length ≤ 65536 ∧ 0 ≤ fv ∧ fv < 5 ∧
      (∀ W, Below w.heap.size w W → Calls Try.prog 14 #[.slice A m d, .slice C n c, .slice D p q] W (NewRF W R fv)) ∧
      (∀ W, Below w.heap.size w W → Calls Try.prog 15 #[.slice A m d, .slice C n c, .slice D p q] W (NewRF W R fv)) := by
  by_cases h : m = 32 ∧ n = 16
  · obtain ⟨rfl, rfl⟩ := h
    refine ⟨coverU (akeysU ks) ss ts, 0, ?_, by omega, by omega, fun W hb => cover_any ks ss ts d c q w.heap.size p A C D W (hk.below hb) hd (hs.below hb) (ht.below hb) hb.size hp, fun W hb => rcover_any ks ss ts d c q w.heap.size p A C D W (hk.below hb) (hs.below hb) (ht.below hb) hb.size hp⟩
    have hl : (coverU (akeysU ks) ss ts).length = ts.length := cover_length (akeys_length hk.bytes) ts
    rw [hl, ht.bytes]
    exact hp
  · exact ⟨[], 4, by simp, by omega, by omega, fun W hb => cover_form m d n c p q A C D W (by omega), fun W hb => rcover_form m d n c p q w.heap.size A C D ts W (ht.below hb) (by omega) hb.size (by omega)⟩

set_option maxHeartbeats 1600000 in
theorem ctrTexts_in (m d n c p q : Nat) (A C D : Option Addr) (ks ss ts : List UInt8) (w : World) (hk : Rd w w.heap.size A m (Byt ks)) (hd : m ≤ d) (hs : Rd w w.heap.size C n (Byt ss)) (ht : Rd w w.heap.size D p (Byt ts)) (hm : m ≤ 100) (hn : n ≤ 100) (hp : p ≤ 200) :
    Calls Try.prog 4 #[.slice A m d, .slice C n c, .slice D p q] w (Ans w (.bool true)) := by
  have n1 : ¬ (100 < (m : Int)) := by omega
  have n2 : ¬ (100 < (n : Int)) := by omega
  have n3 : ¬ (200 < (p : Int)) := by omega
  obtain ⟨R, fv, hR, hf0, hf5, h1, h2⟩ := over_both m d n c p q A C D ks ss ts w hk hd hs ht (by omega)
  have hRm : R.length ≤ maxLen := by unfold maxLen; omega
  obtain ⟨r, hr⟩ : ∃ r, R.length = r := ⟨_, rfl⟩
  unfold NewRF at h1 h2
  rw [hr] at h1 h2 hR hRm
  have H1 := Lib.hid h1
  have H2 := Lib.hid h2
  have HRm := Lib.hid hRm
  clear h1 h2 hk hd hs ht hr hm hn hp hRm hR
  go_enter Try.func4, Try.ntmps4
  go_wp2_with fail
  refine (H1.out w (Below.refl _ _)).mono ?_
  rintro e w1 ⟨A1, c1, rfl, hr1, ho1, hb1⟩
  have Hr1 := Lib.hid hr1
  have Hb1 := Lib.hid hb1
  clear hr1 ho1 hb1
  go_wp2_with fail
  refine (H2.out w1 Hb1.out).mono ?_
  rintro e w2 ⟨A2, c2, rfl, hr2, ho2, hb2⟩
  have hs3 := rsame_any w2.heap.size r r c1 c2 A1 A2 R R w2 ((Hr1.out.below hb2).wider hb2.size) hr2 HRm.out HRm.out
  rw [sameL_self] at hs3
  have Hb2 := Lib.hid (bon Hb1.out hb2)
  clear hr2 ho2 hb2 Hr1
  go_wp2_with fail
  refine hs3.mono ?_
  rintro e w3 ⟨rfl, hb3⟩
  have Hb3 := Lib.hid (bon Hb2.out hb3)
  clear hb3 hs3
  go_wp2_with fail
  refine (alive12_any _).mono ?_
  rintro e w4 ⟨rfl, hb4⟩
  go_wp2
  go_ret
  exact ⟨rfl, bon Hb3.out hb4⟩

set_option maxHeartbeats 1600000 in
theorem ctrTexts_walk (m d n c p q : Nat) (A C D : Option Addr) (ks ss ts : List UInt8) (w : World) (hk : Rd w w.heap.size A m (Byt ks)) (hd : SlOK A m d) (hs : Rd w w.heap.size C n (Byt ss)) (ht : Rd w w.heap.size D p (Byt ts)) :
    Calls Try.prog 4 #[.slice A m d, .slice C n c, .slice D p q] w (Ans w (.bool true)) := by
  by_cases h1 : m ≤ 100
  · by_cases h2 : n ≤ 100
    · by_cases h3 : p ≤ 200
      · exact ctrTexts_in m d n c p q A C D ks ss ts w hk hd.le.1 hs ht h1 h2 h3
      · have n1 : ¬ (100 < (m : Int)) := by omega
        have n2 : ¬ (100 < (n : Int)) := by omega
        have n3 : 200 < (p : Int) := by omega
        clear hk hd hs ht
        go_enter Try.func4, Try.ntmps4
        go_wp2_with fail
        refine (alive12_any _).mono ?_
        rintro e w1 ⟨rfl, hb⟩
        go_wp2
        go_ret
        exact ⟨rfl, hb⟩
    · have n1 : ¬ (100 < (m : Int)) := by omega
      have n2 : 100 < (n : Int) := by omega
      clear hk hd hs ht
      go_enter Try.func4, Try.ntmps4
      go_wp2_with fail
      refine (alive12_any _).mono ?_
      rintro e w1 ⟨rfl, hb⟩
      go_wp2
      go_ret
      exact ⟨rfl, hb⟩
  · have n1 : 100 < (m : Int) := by omega
    clear hk hd hs ht
    go_enter Try.func4, Try.ntmps4
    go_wp2_with fail
    refine (alive12_any _).mono ?_
    rintro e w1 ⟨rfl, hb⟩
    go_wp2
    go_ret
    exact ⟨rfl, hb⟩

end Go.Proofs.Ytfkfkmdnffpcmaa

namespace Go.Proofs.Ytfkfkmdnffpcmaa

theorem own : ownKnob Try.prog.godebug = none := by kernel_rfl
theorem laidOut : laidOutB Try.prog = true := by kernel_rfl
theorem cells_u8 : Try.prog.cellsOf 5 = 1 := by kernel_rfl

end Go.Proofs.Ytfkfkmdnffpcmaa

namespace Go.Proofs.Ytfkfkmdnffpcmaa
open Go.ChangeShapes Go.WideShapes Go.ChangeAt Go.RowKit

set_option maxRecDepth 100000 in
theorem ctrTexts_lifted (os : Os) (started : os.Started) (H : Type) (enc : TypeId × Value → H) :
    ReturnsInHanded {} Try.checked os 4 .any (Rows.ctrTextsSpec.pre6 enc Try.prog Try.f4 Rows.ctrTextsRow.domain false) (Rows.ctrTextsSpec.post enc Try.prog Try.f4 false true false false) := by
  refine returnsInHanded_of_change (C := Try.checked) own started (by kernel_rfl) Try.func4
    (ChangeSpec.witness6 (enc := enc) (C := Try.checked) false ⟨#[], #[.slice none 0 0, .slice none 0 0, .slice none 0 0], []⟩ 8 (by kernel_rfl) (by kernel_rfl) (by kernel_rfl) (by kernel_rfl)) ?_
  intro W base args ds gs before hval0 hW hcnd _
  have hval : ∀ (j : Nat) t v, Try.f4.params[j]? = some t → args[j]? = some v → Value.okWide Try.prog W .any base t v := hval0
  have hW' := hW
  obtain ⟨p, q, hA0, hV, rfl, hfz, hnd⟩ := hW
  have hA : DataW.TrodAll enc Try.prog W 0 (fun _ => true) true Try.f4.params.toList args.toList ds p := hA0
  rw [Try.params4] at hA hval
  obtain ⟨v0, v1, v2, d0, d1, d2, p0, p1, p2, rfl, rfl, rfl, h0, h1, h2⟩ := trodAll_three hA
  have hlt : ∀ x ∈ p0 ++ p1 ++ p2 ++ q, x.block < W.heap.size := fun x hx => by simpa using hW'.lt x hx
  obtain ⟨A0, n0, c0, xs0, rfl, hk0, hx0⟩ := open_bytesk Try.underlying22 Try.underlying5 cells_u8 (hval 0 22 v0 rfl rfl) h0 (fun x hx => hlt x (by simp [hx]))
  obtain ⟨A1, n1, c1, xs1, rfl, hk1, hx1⟩ := open_bytesk Try.underlying22 Try.underlying5 cells_u8 (hval 1 22 v1 rfl rfl) h1 (fun x hx => hlt x (by simp [hx]))
  obtain ⟨A2, n2, c2, xs2, rfl, hk2, hx2⟩ := open_bytesk Try.underlying22 Try.underlying5 cells_u8 (hval 2 22 v2 rfl rfl) h2 (fun x hx => hlt x (by simp [hx]))
  refine (ctrTexts_walk n0 c0 n1 c1 n2 c2 A0 A1 A2 xs0 xs1 xs2 W hx0 hk0 hx1 hx2).mono fun e W' ⟨he, hb⟩ => ?_
  subst he
  exact ⟨_, rfl, law_post laidOut rfl rfl Try.underlying4 (by kernel_rfl) hW' rfl hb⟩

theorem ctrTexts_holds : Rows.CtrTextsSaid :=
  OpenClaim.holds_of_wide 4 Try.f4 rfl rfl rfl rfl rfl rfl rfl ⟨rfl, rfl, rfl, rfl, rfl⟩ rfl rfl rfl rfl rfl (by kernel_rfl) Try.func4 (by kernel_rfl)
    (of_decide_eq_true (by kernel_rfl)) (by unfold Func.isWrapper; first | (rw [if_pos (by decide +kernel)]; kernel_rfl) | (rw [if_neg (by decide +kernel)]; exact ⟨rfl, rfl⟩))
    (fun os started H enc _ => ctrTexts_lifted os started H enc)

end Go.Proofs.Ytfkfkmdnffpcmaa
