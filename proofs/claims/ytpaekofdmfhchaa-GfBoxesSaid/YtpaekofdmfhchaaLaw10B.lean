import Derived.Test.YtpaekofdmfhchaaGfAlive
import Derived.Test.YtpaekofdmfhchaaGfInv
import Derived.Test.YtpaekofdmfhchaaRefGfBox
import Derived.Test.YtpaekofdmfhchaaRefGfCol
import Derived.Test.YtpaekofdmfhchaaArrEq
import Derived.Test.YtpaekofdmfhchaaArrIn
import Derived.Deep.RegionHeld3
import Derived.Test.YtpaekofdmfhchaaRow
namespace Go.Proofs.Ytpaekofdmfhchaa
open Go.RowKit

theorem bans_same {P : Program} {f : FuncId} {args : Array Value} {w : World} {v : Value} (h : Calls P f args w fun e w' => e = .returned v ∧ w' = w) : Calls P f args w (Ans w v) :=
  h.mono fun _ _ ⟨he, hw⟩ => ⟨he, by rw [hw]; exact Below.refl _ _⟩
theorem bans_drew {P : Program} {f : FuncId} {args : Array Value} {w : World} {v : Value} (h : Calls P f args w fun e w' => e = .returned v ∧ ∃ k, w' = w.drewN k) : Calls P f args w (Ans w v) :=
  h.mono fun _ _ ⟨he, k, hw⟩ => ⟨he, by rw [hw]; exact bdrewN (Below.refl _ _) k⟩
theorem arr4_cells {w : World} {g0 : Nat} {t : TypeId} {a b c d : UInt8} (h : Arr w g0 t .u8 (four a b c d)) :
    w.cell? ⟨g0, 0, none⟩ = some (.int .u8 (a.toNat : Int)) ∧ w.cell? ⟨g0, 1, none⟩ = some (.int .u8 (b.toNat : Int)) ∧ w.cell? ⟨g0, 2, none⟩ = some (.int .u8 (c.toNat : Int)) ∧ w.cell? ⟨g0, 3, none⟩ = some (.int .u8 (d.toNat : Int)) :=
  ⟨h.cell (j := 0) (by simp [four]), h.cell (j := 1) (by simp [four]), h.cell (j := 2) (by simp [four]), h.cell (j := 3) (by simp [four])⟩

set_option maxHeartbeats 1600000 in
theorem gfBoxes_walk (a p q r s : UInt8) (w : World) :
    Calls Try.prog 4 #[.int .u8 (a.toNat : Int), .agg (Nums .u8 (four p q r s))] w (Ans w (.bool true)) := by
  have h1 := fun w => bans_same (ginv_any a w)
  have h2 := fun w => bans_same (rginv_any a w)
  have h3 := fun w => gbox_any a w
  have h4 := fun w => bans_drew (rgbox_any a w)
  have h5 : ∀ w, Calls Try.prog 17 #[.agg #[.int .u8 (p.toNat : Int), .int .u8 (q.toNat : Int), .int .u8 (r.toNat : Int), .int .u8 (s.toNat : Int)]] w (AnsA w .u8 (gcolU p q r s)) := fun w => gcolumn_any p q r s w
  have h6 : ∀ w, Calls Try.prog 18 #[.agg #[.int .u8 (p.toNat : Int), .int .u8 (q.toNat : Int), .int .u8 (r.toNat : Int), .int .u8 (s.toNat : Int)]] w (AnsA w .u8 (gcolU p q r s)) := fun w => rgcolumn_any p q r s w
  have h7 := fun w => alive10_any w
  have g4 : Try.prog.eqGuardType Try.prog.depth 27 = false := by kernel_rfl
  have q4 := fun W => run_equalIn_same (P := Try.prog) arr4 (by kernel_rfl) (l := gcolU p q r s) rfl W
  generalize gcolU p q r s = L at *
  generalize gboxU a = x2 at *
  generalize ginvU a = x1 at *
  go_enter Try.func4, Try.ntmps4
  go_wp2_with (refine wp_box_arr rfl 27 (.tmp 1) rfl (four p q r s) rfl ?_)
  intro w0 g0 G0 H0 Hb0 Hs0
  go_wp2_with fail
  go_region_held3 (fun w' => w'.cell? ⟨g0, 0, none⟩ = some (.int .u8 (p.toNat : Int)) ∧ w'.cell? ⟨g0, 1, none⟩ = some (.int .u8 (q.toNat : Int)) ∧ w'.cell? ⟨g0, 2, none⟩ = some (.int .u8 (r.toNat : Int)) ∧ w'.cell? ⟨g0, 3, none⟩ = some (.int .u8 (s.toNat : Int)))
    (first
      | exact arr4_cells H0.out.drew
      | exact arr4_cells H1.out
      | exact arr4_cells H2.out
      | exact arr4_cells H3.out
      | exact arr4_cells H4.out
      | exact arr4_cells H5.out
      | exact arr4_cells H6.out
      | exact arr4_cells H7.out)
    (first
      | (go_at_call 13; refine (h1 _).mono ?_; rintro e w1 ⟨rfl, hb1⟩; have Hb1 := Lib.hid (bon Hb0.out.drew hb1); have H1 : Hid (Arr w1 g0 27 .u8 (four p q r s)) := Lib.hid (H0.out.drew.below hb1 H0.out.lt); clear hb1)
      | (go_at_call 14; refine (h2 _).mono ?_; rintro e w2 ⟨rfl, hb2⟩; have Hb2 := Lib.hid (bon Hb1.out hb2); have H2 : Hid (Arr w2 g0 27 .u8 (four p q r s)) := Lib.hid (H1.out.below hb2 H1.out.lt); clear hb2)
      | (go_at_call 15; refine (h3 _).mono ?_; rintro e w3 ⟨rfl, hb3⟩; have Hb3 := Lib.hid (bon Hb2.out hb3); have H3 : Hid (Arr w3 g0 27 .u8 (four p q r s)) := Lib.hid (H2.out.below hb3 H2.out.lt); clear hb3)
      | (go_at_call 16; refine (h4 _).mono ?_; rintro e w4 ⟨rfl, hb4⟩; have Hb4 := Lib.hid (bon Hb3.out hb4); have H4 : Hid (Arr w4 g0 27 .u8 (four p q r s)) := Lib.hid (H3.out.below hb4 H3.out.lt); clear hb4)
      | (go_at_call 17; refine (h5 _).mono ?_; rintro e w5 ⟨rfl, hb5⟩; have Hb5 := Lib.hid (bon Hb4.out hb5); have H5 : Hid (Arr w5 g0 27 .u8 (four p q r s)) := Lib.hid (H4.out.below hb5 H4.out.lt); clear hb5)
      | (go_at_call 18; refine (h6 _).mono ?_; rintro e w6 ⟨rfl, hb6⟩; have Hb6 := Lib.hid (bon Hb5.out hb6); have H6 : Hid (Arr w6 g0 27 .u8 (four p q r s)) := Lib.hid (H5.out.below hb6 H5.out.lt); clear hb6)
      | (go_at_call 12; refine (h7 _).mono ?_; rintro e w7 ⟨rfl, hb7⟩; have Hb7 := Lib.hid (bon Hb6.out hb7); have H7 : Hid (Arr w7 g0 27 .u8 (four p q r s)) := Lib.hid (H6.out.below hb7 H6.out.lt); clear hb7))
  go_wp2
  go_ret
  exact ⟨rfl, Hb7.out⟩

end Go.Proofs.Ytpaekofdmfhchaa
