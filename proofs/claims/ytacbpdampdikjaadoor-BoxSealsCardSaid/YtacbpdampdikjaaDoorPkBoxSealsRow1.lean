/-
  BoxSeals: for every input the law returns true, and what came in reads behind the call as it did. No condition. The variables that the program lists are tied to its text (the card).
-/
import Derived.Test.YtacbpdampdikjaaDoorPkBase7
import Derived.Test.YtacbpdampdikjaaDoorPkBase9
import Derived.Test.YtacbpdampdikjaaDoorPkBase3
import Derived.Test.YtacbpdampdikjaaDoorPkBase10
import Derived.Test.YtacbpdampdikjaaDoorCards
namespace Go.Proofs.YtacbpdampdikjaaDoor
open Go.RowKit

/-- Both answers for the key, the nonce and the text at hand. -/
theorem seal_both (m d n c p q : Nat) (A C D : Option Addr) (ks ss ts : List UInt8) (w : World) (hk : Rd w w.heap.size A m (Byt ks)) (hd : SlOK A m d) (hs : Rd w w.heap.size C n (Byt ss)) (hc : SlOK C n c) (ht : Rd w w.heap.size D p (Byt ts)) (hp : p ≤ 60000) (hK : KsAt w) :
    ∃ (R : List UInt8) (fv : Int), R.length ≤ 60048 ∧ 0 ≤ fv ∧ fv < 12 ∧
      (∀ W, Below w.heap.size w W → Calls Tryd.prog 7 #[.slice A m d, .slice C n c, .slice D p q] W (NewRF W R fv)) ∧
      (∀ W, Below w.heap.size w W → Calls Tryd.prog 8 #[.slice A m d, .slice C n c, .slice D p q] W (NewRF W R fv)) := by
  by_cases h : m = 32 ∧ n = 16
  · obtain ⟨rfl, rfl⟩ := h
    refine ⟨boxU ks ss ts, 0, ?_, by omega, by omega, fun W hb => bseal_any w.heap.size d c p q A C D ks ss ts W (hk.below hb) hd (hs.below hb) hc (ht.below hb) hp hb.size (hK.below hb), fun W hb => rbseal_any w.heap.size d c p q A C D ks ss ts W (hk.below hb) hd (hs.below hb) hc (ht.below hb) hp hb.size⟩
    rw [box_length, hs.bytes, ht.bytes]
    omega
  · exact ⟨[], 4, by simp, by omega, by omega, fun W hb => bseal_form m d n c p q A C D W (by omega), fun W hb => rbseal_form m d n c p q A C D W (by omega)⟩

set_option maxRecDepth 4096 in
set_option maxHeartbeats 1600000 in
theorem boxSeals_in (m d n c p q : Nat) (A C D : Option Addr) (z : Int) (ks ss ts : List UInt8) (w : World) (hk : Rd w w.heap.size A m (Byt ks)) (hd : SlOK A m d) (hs : Rd w w.heap.size C n (Byt ss)) (hc : SlOK C n c) (ht : Rd w w.heap.size D p (Byt ts)) (hm : m ≤ 100) (hn : n ≤ 100) (hp : p ≤ 200) (hz1 : -9223372036854775808 ≤ z) (hz2 : z ≤ 1099511627776) (hK : KsAt w) :
    Calls Tryd.prog 3 #[.slice A m d, .slice C n c, .slice D p q, .int .i64 z] w (Ans w (.bool true)) := by
  have n1 : ¬ (100 < (m : Int)) := by omega
  have n2 : ¬ (100 < (n : Int)) := by omega
  have n3 : ¬ (200 < (p : Int)) := by omega
  have n4 : ¬ (1099511627776 < z) := by omega
  obtain ⟨R, fv, hR, hf0, hf5, h1, h2⟩ := seal_both m d n c p q A C D ks ss ts w hk hd hs hc ht (by omega) hK
  have h3 := fun W (hb : Below w.heap.size w W) => bkeys_any w.heap.size m d A ks W (hk.below hb) hd (by omega) hb.size (hK.below hb)
  have d0 := fun (s : ByteArray) (h : s.size ≤ 1073741824) W (hb : Below w.heap.size w W) => rderive_any W.heap.size m d A ks s W ((hk.below hb).wider hb.size) hd (by omega) h (Nat.le_refl _)
  have d1 := d0 sealT (by decide)
  have d2 := d0 tagT (by decide)
  rw [show sealT.data.toList = sealB from rfl] at d1
  rw [show tagT.data.toList = tagB from rfl] at d2
  unfold sealT at d1
  unfold tagT at d2
  have hd1 : (deriveU ks sealB).length = 32 := deriveU_length _ _
  have hd2 : (deriveU ks tagB).length = 32 := deriveU_length _ _
  have h6 := fun W => bsize_any z W hz1 hz2
  have h7 := fun W (hb : Below w.heap.size w W) => alive13_any W (hK.below hb)
  have hRm : R.length ≤ maxLen := by unfold maxLen; omega
  obtain ⟨r, hr⟩ : ∃ r, R.length = r := ⟨_, rfl⟩
  unfold NewRF at h1 h2
  rw [hr] at h1 h2 hR hRm
  revert h3 d1 d2 hd1 hd2
  generalize deriveU ks sealB = K1
  generalize deriveU ks tagB = K2
  intro h3 d1 d2 hd1 hd2
  unfold NewR at d1 d2
  rw [hd1] at d1
  rw [hd2] at d2
  have H1 := Lib.hid h1
  have H2 := Lib.hid h2
  have H3 := Lib.hid h3
  have H4 := Lib.hid d1
  have H5 := Lib.hid d2
  have H6 := Lib.hid h6
  have H7 := Lib.hid h7
  have HRm := Lib.hid hRm
  clear h1 h2 h3 d0 d1 d2 h6 h7 hd1 hd2 hk hd hs hc ht hr hm hn hp hRm hR hK
  go_enter Tryd.func3, Tryd.ntmps3
  go_wp2_with fail
  refine (H1.out w (Below.refl _ _)).mono ?_
  rintro e w1 ⟨A1, c1, rfl, hr1, ho1, hb1⟩
  have Hr1 := Lib.hid hr1
  have Hb1 := Lib.hid hb1
  clear hr1 ho1 hb1
  go_wp2_with fail
  refine (H2.out w1 Hb1.out).mono ?_
  rintro e w2 ⟨A2, c2, rfl, hr2, ho2, hb2⟩
  have Hr2 := Lib.hid hr2
  have Hr12 := Lib.hid ((Hr1.out.below hb2).wider hb2.size)
  have Hb2 := Lib.hid (bon Hb1.out hb2)
  clear hr2 ho2 hb2 Hr1
  go_wp2_with fail
  refine (H3.out w2 Hb2.out).mono ?_
  rintro e w3 ⟨A3, c3, A4, c4, rfl, hr3, ho3, hr4, ho4, hb3⟩
  have hs3 := rsame_any w3.heap.size r r c1 c2 A1 A2 R R w3 ((Hr12.out.below hb3).wider hb3.size) ((Hr2.out.below hb3).wider hb3.size) HRm.out HRm.out
  rw [sameL_self] at hs3
  have Hr3 := Lib.hid hr3
  have Hr4 := Lib.hid hr4
  have Hb3 := Lib.hid (bon Hb2.out hb3)
  clear hr3 ho3 hr4 ho4 hb3 Hr12 Hr2
  go_wp2_with fail
  refine hs3.mono ?_
  rintro e w4 ⟨rfl, hb4⟩
  have Hr34 := Lib.hid ((Hr3.out.below hb4).wider hb4.size)
  have Hr44 := Lib.hid ((Hr4.out.below hb4).wider hb4.size)
  have Hb4 := Lib.hid (bon Hb3.out hb4)
  clear hb4 hs3 Hr3 Hr4
  go_wp2_with fail
  refine (H4.out w4 Hb4.out).mono ?_
  rintro e w5 ⟨A5, c5, rfl, hr5, ho5, hb5⟩
  have hs5 := rsame_any w5.heap.size 32 32 c3 c5 A3 A5 K1 K1 w5 ((Hr34.out.below hb5).wider hb5.size) hr5 (by decide) (by decide)
  rw [sameL_self] at hs5
  have Hr45 := Lib.hid ((Hr44.out.below hb5).wider hb5.size)
  have Hb5 := Lib.hid (bon Hb4.out hb5)
  clear hr5 ho5 hb5 Hr34 Hr44
  go_wp2_with fail
  refine hs5.mono ?_
  rintro e w6 ⟨rfl, hb6⟩
  have Hr46 := Lib.hid ((Hr45.out.below hb6).wider hb6.size)
  have Hb6 := Lib.hid (bon Hb5.out hb6)
  clear hb6 hs5 Hr45
  go_wp2_with fail
  refine (H5.out w6 Hb6.out).mono ?_
  rintro e w7 ⟨A7, c7, rfl, hr7, ho7, hb7⟩
  have hs7 := rsame_any w7.heap.size 32 32 c4 c7 A4 A7 K2 K2 w7 ((Hr46.out.below hb7).wider hb7.size) hr7 (by decide) (by decide)
  rw [sameL_self] at hs7
  have Hb7 := Lib.hid (bon Hb6.out hb7)
  clear hr7 ho7 hb7 Hr46
  go_wp2_with fail
  refine hs7.mono ?_
  rintro e w8 ⟨rfl, hb8⟩
  have Hb8 := Lib.hid (bon Hb7.out hb8)
  clear hb8 hs7
  go_wp2_with fail
  refine (H6.out w8).mono ?_
  rintro e w9 ⟨rfl, hw⟩
  subst hw
  have hz : z < 0 ∨ 0 ≤ z := by omega
  have h8 := H7.out w9 Hb8.out
  clear H1 H2 H3 H4 H5 H6 H7 hf0 hf5 n1 n2 n3
  rcases hz with hz | hz
  · rw [show max z 0 + 48 = 48 by omega]
    have hmx : max z 0 = 0 := by omega
    go_wp2_with fail
    refine h8.mono ?_
    rintro e w10 ⟨rfl, hb10⟩
    go_wp2
    go_ret
    exact ⟨rfl, bon Hb8.out hb10⟩
  · rw [show max z 0 + 48 = z + 48 by omega]
    have hmx : max z 0 = z := by omega
    have hmy : z + 48 ≤ 9223372036854775807 := by omega
    go_wp2_with fail
    refine h8.mono ?_
    rintro e w10 ⟨rfl, hb10⟩
    go_wp2
    go_ret
    exact ⟨rfl, bon Hb8.out hb10⟩

set_option maxHeartbeats 1600000 in
theorem boxSeals_walk (m d n c p q : Nat) (A C D : Option Addr) (z : Int) (ks ss ts : List UInt8) (w : World) (hk : Rd w w.heap.size A m (Byt ks)) (hd : SlOK A m d) (hs : Rd w w.heap.size C n (Byt ss)) (hc : SlOK C n c) (ht : Rd w w.heap.size D p (Byt ts)) (hz : -9223372036854775808 ≤ z ∧ z ≤ 9223372036854775807) (hK : KsAt w) :
    Calls Tryd.prog 3 #[.slice A m d, .slice C n c, .slice D p q, .int .i64 z] w (Ans w (.bool true)) := by
  by_cases h1 : m ≤ 100
  · have n1 : ¬ (100 < (m : Int)) := by omega
    by_cases h2 : n ≤ 100
    · have n2 : ¬ (100 < (n : Int)) := by omega
      by_cases h3 : p ≤ 200
      · have n3 : ¬ (200 < (p : Int)) := by omega
        by_cases h4 : z ≤ 1099511627776
        · exact boxSeals_in m d n c p q A C D z ks ss ts w hk hd hs hc ht h1 h2 h3 hz.1 h4 hK
        · have n4 : 1099511627776 < z := by omega
          clear hk hd hs hc ht
          go_enter Tryd.func3, Tryd.ntmps3
          go_wp2_with fail
          refine (alive13_any _ hK).mono ?_
          rintro e w1 ⟨rfl, hb⟩
          go_wp2
          go_ret
          exact ⟨rfl, hb⟩
      · have n3 : 200 < (p : Int) := by omega
        clear hk hd hs hc ht
        go_enter Tryd.func3, Tryd.ntmps3
        go_wp2_with fail
        refine (alive13_any _ hK).mono ?_
        rintro e w1 ⟨rfl, hb⟩
        go_wp2
        go_ret
        exact ⟨rfl, hb⟩
    · have n2 : 100 < (n : Int) := by omega
      clear hk hd hs hc ht
      go_enter Tryd.func3, Tryd.ntmps3
      go_wp2_with fail
      refine (alive13_any _ hK).mono ?_
      rintro e w1 ⟨rfl, hb⟩
      go_wp2
      go_ret
      exact ⟨rfl, hb⟩
  · have n1 : 100 < (m : Int) := by omega
    clear hk hd hs hc ht
    go_enter Tryd.func3, Tryd.ntmps3
    go_wp2_with fail
    refine (alive13_any _ hK).mono ?_
    rintro e w1 ⟨rfl, hb⟩
    go_wp2
    go_ret
    exact ⟨rfl, hb⟩

end Go.Proofs.YtacbpdampdikjaaDoor

namespace Go.Proofs.YtacbpdampdikjaaDoor
open Go.ChangeShapes Go.WideShapes Go.ChangeAt Go.RowKit

theorem boxSeals_met (os : Os) (args : Array Value) : laidMetH Tryd.prog Rows.boxSealsRow.laid ((World.doorLaid Tryd.prog 400 os).forCall (fun _ _ => 0) ⟨#[], args, []⟩).memory :=
  laidMetH_of_parts3 (fuel := 8) (laidMet_of_run' 8 (by kernel_rfl) (by kernel_rfl)) (by kernel_rfl) (by kernel_rfl)

set_option maxRecDepth 100000 in
theorem boxSeals_lifted (os : Os) (started : os.Started) (H : Type) (enc : TypeId × Value → H) :
    ReturnsInHanded {} Tryd.checked os 3 .any (fun w args => (Rows.boxSealsSpec.pre enc Tryd.prog Tryd.f3 [] false w args ∧ laidMetH Tryd.prog Rows.boxSealsRow.laid w) ∧ sizedMet enc Tryd.prog Tryd.f3 (OpenSpec.ofChange Rows.boxSealsSpec) false w args)
      (Rows.boxSealsSpec.post enc Tryd.prog Tryd.f3 false true false false) := by
  refine returnsInHanded_of_change_and (C := Tryd.checked) (X := fun w _ => laidMetH Tryd.prog Rows.boxSealsRow.laid w) (fun _ _ _ hh h => h.of_heap hh) own started (by kernel_rfl) Tryd.func3
    (ChangeSpec.witness_shaped (enc := enc) (C := Tryd.checked) (os := os) (X := fun w _ => laidMetH Tryd.prog Rows.boxSealsRow.laid w) false (World.doorLaid Tryd.prog 400 os) #[.slice none 0 0, .slice none 0 0, .slice none 0 0, .int .i64 0] 8 rfl (World.shaped_of_RefB (by kernel_rfl) (by kernel_rfl)) (by kernel_rfl) (by kernel_rfl) (by kernel_rfl) (boxSeals_met os _)) ?_
  intro W base args ds gs before hval0 hW _ _ hL _
  rw [MakeChecks.laidMetH_plain _ _ _ (by kernel_rfl)] at hL
  obtain ⟨lps, hlaid, -, -⟩ := hL
  have hval : ∀ (j : Nat) t v, Tryd.f3.params[j]? = some t → args[j]? = some v → Value.okWide Tryd.prog W .any base t v := hval0
  have hW' := hW
  obtain ⟨p, q, hA0, hV, rfl, hfz, hnd⟩ := hW
  have hA : DataW.TrodAll enc Tryd.prog W 0 (fun _ => true) true Tryd.f3.params.toList args.toList ds p := hA0
  rw [Tryd.params3] at hA hval
  obtain ⟨v0, v1, v2, v3, d0, d1, d2, d3, p0, p1, p2, p3, rfl, rfl, rfl, h0, h1, h2, h3⟩ := trodAll_four hA
  have hlt : ∀ x ∈ p0 ++ p1 ++ p2 ++ p3 ++ q, x.block < W.heap.size := fun x hx => by simpa using hW'.lt x hx
  obtain ⟨A0, n0, c0, xs0, rfl, hk0, hx0⟩ := open_bytesk Tryd.underlying22 Tryd.underlying5 cells_u8 (hval 0 22 v0 rfl rfl) h0 (fun x hx => hlt x (by simp [hx]))
  obtain ⟨A1, n1, c1, xs1, rfl, hk1, hx1⟩ := open_bytesk Tryd.underlying22 Tryd.underlying5 cells_u8 (hval 1 22 v1 rfl rfl) h1 (fun x hx => hlt x (by simp [hx]))
  obtain ⟨A2, n2, c2, xs2, rfl, hk2, hx2⟩ := open_bytesk Tryd.underlying22 Tryd.underlying5 cells_u8 (hval 2 22 v2 rfl rfl) h2 (fun x hx => hlt x (by simp [hx]))
  obtain ⟨z3, rfl, rfl, rfl, w3⟩ := open_int Tryd.underlying3 (hval 3 3 v3 rfl rfl) h3
  have hz3 := wf_int w3
  refine (boxSeals_walk n0 c0 n1 c1 n2 c2 A0 A1 A2 z3 xs0 xs1 xs2 W hx0 hk0 hx1 hk1 hx2 hz3 (ks_of hlaid)).mono fun e W' ⟨he, hb⟩ => ?_
  subst he
  exact ⟨_, rfl, law_post laidOut rfl rfl Tryd.underlying4 (by kernel_rfl) hW' rfl hb⟩

theorem boxSeals_said : Rows.BoxSealsSaid :=
  OpenClaim.holds_of_wide 3 Tryd.f3 rfl rfl rfl rfl rfl rfl rfl ⟨rfl, rfl, rfl, rfl, rfl⟩ rfl rfl rfl rfl rfl (by kernel_rfl) Tryd.func3 (by kernel_rfl)
    (of_decide_eq_true (by kernel_rfl)) (by unfold Func.isWrapper; first | (rw [if_pos (by decide +kernel)]; kernel_rfl) | (rw [if_neg (by decide +kernel)]; exact ⟨rfl, rfl⟩))
    (fun os started H enc _ => boxSeals_lifted os started H enc)

/-- THE CARD: what the row lists is tied to the program. -/
theorem boxSeals_card : Rows.BoxSealsCardSaid :=
  Claim7.holds_tied_plain_at .later [] _ true _ false
    boxSeals_said (fun _ h => by cases h) (by kernel_rfl) (fun _ h => by cases h) boxSeals_row_tie rfl ⟨rfl, rfl⟩ (by kernel_rfl) rfl
    (fun f fn hf hfn => by
      obtain rfl : f = 3 := Option.some.inj ((show Tryd.prog.funcNamed Rows.boxSealsRow.func = some 3 by kernel_rfl).symm.trans hf) |>.symm
      obtain rfl : fn = Tryd.f3 := (Option.some.inj (Tryd.func3.symm.trans hfn)).symm
      exact ⟨by kernel_rfl, fun j t ht => by
        rw [Tryd.params3] at ht
        have hm : t ∈ [22, 22, 22, 3] := by simpa using Array.mem_of_getElem? ht
        have hall : ([22, 22, 22, 3].all fun u => !Tryd.prog.wantsStandIn u) = true := by kernel_rfl
        exact (show Tryd.prog.wantsStandIn t = false by simpa using List.all_eq_true.1 hall t hm)⟩)
    (by kernel_rfl)

end Go.Proofs.YtacbpdampdikjaaDoor
