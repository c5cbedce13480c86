import Derived.Test.YtpaekofdmfhchaaGfAlive
import Derived.Test.YtpaekofdmfhchaaGfInv
import Derived.Test.YtpaekofdmfhchaaGfCol
import Derived.Test.YtpaekofdmfhchaaArrEq
import Derived.Test.YtpaekofdmfhchaaArrIn
import Derived.Deep.RegionHeld3
import Derived.Test.YtpaekofdmfhchaaRow
namespace Go.Proofs.Ytpaekofdmfhchaa
open Go.RowKit

theorem fans_same {P : Program} {f : FuncId} {args : Array Value} {w : World} {v : Value} (h : Calls P f args w fun e w' => e = .returned v ∧ w' = w) : Calls P f args w (Ans w v) :=
  h.mono fun _ _ ⟨he, hw⟩ => ⟨he, by rw [hw]; exact Below.refl _ _⟩
theorem farr4_cells {w : World} {g0 : Nat} {t : TypeId} {a b c d : UInt8} (h : Arr w g0 t .u8 (four a b c d)) :
    w.cell? ⟨g0, 0, none⟩ = some (.int .u8 (a.toNat : Int)) ∧ w.cell? ⟨g0, 1, none⟩ = some (.int .u8 (b.toNat : Int)) ∧ w.cell? ⟨g0, 2, none⟩ = some (.int .u8 (c.toNat : Int)) ∧ w.cell? ⟨g0, 3, none⟩ = some (.int .u8 (d.toNat : Int)) :=
  ⟨h.cell (j := 0) (by simp [four]), h.cell (j := 1) (by simp [four]), h.cell (j := 2) (by simp [four]), h.cell (j := 3) (by simp [four])⟩

/-- Mixed twice, at one place. -/
def gtw (a c : UInt8) : UInt8 := gtwiceU (gtwiceU a) ^^^ a ^^^ gtwiceU (gtwiceU c)
theorem gcol_twice (p q r s : UInt8) : gcolU (gmixU p q r s) (gmixU q r s p) (gmixU r s p q) (gmixU s p q r) = four (gtw p r) (gtw q s) (gtw r p) (gtw s q) := by
  unfold gcolU
  rw [gmix_two p q r s, gmix_two q r s p, gmix_two r s p q, gmix_two s p q r]
  rfl
theorem gtw_back (a c : UInt8) : gtw (gtw a c) (gtw c a) = a := gmix_four a c

/-- A column mixed four times is as it was. -/
theorem col_four (p q r s : UInt8) : ∃ L1 L2 L3 L4 : List Nat,
    (∀ w, Calls Try.prog 17 #[.agg (Nums .u8 (four p q r s))] w (AnsA w .u8 L1)) ∧
    (∀ w, Calls Try.prog 17 #[.agg (Nums .u8 L1)] w (AnsA w .u8 L2)) ∧
    (∀ w, Calls Try.prog 17 #[.agg (Nums .u8 L2)] w (AnsA w .u8 L3)) ∧
    (∀ w, Calls Try.prog 17 #[.agg (Nums .u8 L3)] w (AnsA w .u8 L4)) ∧ L4 = four p q r s := by
  have h2 := gcol_twice p q r s
  have h4 := gcol_twice (gtw p r) (gtw q s) (gtw r p) (gtw s q)
  rw [gtw_back, gtw_back, gtw_back, gtw_back] at h4
  refine ⟨gcolU p q r s, four (gtw p r) (gtw q s) (gtw r p) (gtw s q), gcolU (gtw p r) (gtw q s) (gtw r p) (gtw s q), four p q r s, fun w => gcolumn_any p q r s w, fun w => ?_, fun w => gcolumn_any _ _ _ _ w, fun w => ?_, rfl⟩
  · rw [← h2]
    exact gcolumn_any _ _ _ _ w
  · have h := gcolumn_any (gmixU (gtw p r) (gtw q s) (gtw r p) (gtw s q)) (gmixU (gtw q s) (gtw r p) (gtw s q) (gtw p r)) (gmixU (gtw r p) (gtw s q) (gtw p r) (gtw q s)) (gmixU (gtw s q) (gtw p r) (gtw q s) (gtw r p)) w
    rw [h4] at h
    exact h

set_option maxHeartbeats 3200000 in
theorem gfField_walk (a b c p q r s : UInt8) (w : World) :
    Calls Try.prog 5 #[.int .u8 (a.toNat : Int), .int .u8 (b.toNat : Int), .int .u8 (c.toNat : Int), .agg (Nums .u8 (four p q r s))] w (Ans w (.bool true)) := by
  obtain ⟨L1, L2, L3, L4, d1', d2, d3, d4, hL4⟩ := col_four p q r s
  have d1 : ∀ w, Calls Try.prog 17 #[.agg #[.int .u8 (p.toNat : Int), .int .u8 (q.toNat : Int), .int .u8 (r.toNat : Int), .int .u8 (s.toNat : Int)]] w (AnsA w .u8 L1) := d1'
  have q4 : ∀ W, (Op.equalIn 10000 27 (.agg (Nums .u8 L4)) (.agg #[.int .u8 (p.toNat : Int), .int .u8 (q.toNat : Int), .int .u8 (r.toNat : Int), .int .u8 (s.toNat : Int)])).run Try.prog W = .ok true W := fun W => by
    rw [hL4]
    exact run_equalIn_same (P := Try.prog) arr4 (by kernel_rfl) (l := four p q r s) rfl W
  clear d1' hL4
  have h7 := fun w => alive10_any w
  have g4 : Try.prog.eqGuardType Try.prog.depth 27 = false := by kernel_rfl
  have m1 := fun w => gmul_any a b w
  have m2 := fun w => gmul_any b a w
  rw [← gmul_comm a b] at m2
  have m3 := fun w => gmul_any b c w
  have m4 := fun w => gmul_any a (gmulU b c) w
  have m5 := fun w => gmul_any (gmulU a b) c w
  rw [← gmul_assoc a b c] at m5
  have hx := gxor_u8 b c
  have m6 := fun w => gmul_any a (b ^^^ c) w
  rw [gmul_adds a b c] at m6
  have m7 := fun w => gmul_any a c w
  have hy := gxor_u8 (gmulU a b) (gmulU a c)
  have m8 : ∀ w, Calls Try.prog 8 #[.int .u8 (a.toNat : Int), .int .u8 1] w (fun e w' => e = .returned (.int .u8 (a.toNat : Int)) ∧ w' = w) := fun w => by
    have h := gmul_any a 1 w
    rw [gmul_one] at h
    exact h
  have m9 := fun w => ginv_any a w
  have m10 := fun w => ginv_any (ginvU a) w
  rw [ginv_back] at m10
  have m11 := fun w => gmul_any a (ginvU a) w
  have hinv : a ≠ 0 → gmulU a (ginvU a) = 1 := ginv_mul a
  generalize gmulU a b ^^^ gmulU a c = y1 at *
  generalize gmulU a (gmulU b c) = y2 at *
  generalize gmulU a b = y3 at *
  generalize gmulU b c = y4 at *
  generalize gmulU a c = y5 at *
  generalize b ^^^ c = y6 at *
  by_cases h0 : a.toNat = 0
  · have e0 : (a.toNat : Int) = 0 := by omega
    rw [e0] at m1 m2 m4 m6 m7 m8 m9 m10 ⊢
    clear hinv h0 m11 e0
    generalize ginvU a = y7 at *
    go_enter Try.func5, Try.ntmps5
    go_wp2_with (refine wp_box_arr rfl 27 (.tmp 3) rfl (four p q r s) rfl ?_)
    intro w0 g0 G0 H0 Hb0 Hs0
    go_wp2_with fail
    refine (m1 _).mono ?_
    rintro e w9 ⟨rfl, rfl⟩
    go_wp2_with fail
    refine (m2 _).mono ?_
    rintro e w9 ⟨rfl, rfl⟩
    go_wp2_with fail
    refine (m3 _).mono ?_
    rintro e w9 ⟨rfl, rfl⟩
    go_wp2_with fail
    refine (m4 _).mono ?_
    rintro e w9 ⟨rfl, rfl⟩
    go_wp2_with fail
    refine (m1 _).mono ?_
    rintro e w9 ⟨rfl, rfl⟩
    go_wp2_with fail
    refine (m5 _).mono ?_
    rintro e w9 ⟨rfl, rfl⟩
    go_wp2_with fail
    refine (m6 _).mono ?_
    rintro e w9 ⟨rfl, rfl⟩
    go_wp2_with fail
    refine (m1 _).mono ?_
    rintro e w9 ⟨rfl, rfl⟩
    go_wp2_with fail
    refine (m7 _).mono ?_
    rintro e w9 ⟨rfl, rfl⟩
    go_wp2_with fail
    refine (m8 _).mono ?_
    rintro e w9 ⟨rfl, rfl⟩
    go_wp2_with fail
    refine (m9 _).mono ?_
    rintro e w9 ⟨rfl, rfl⟩
    go_wp2_with fail
    refine (m10 _).mono ?_
    rintro e w9 ⟨rfl, rfl⟩
    clear m1 m2 m3 m4 m5 m6 m7 m8 m9 m10 hx hy
    go_wp2_with fail
    go_region_held3 (fun w' => w'.cell? ⟨g0, 0, none⟩ = some (.int .u8 (p.toNat : Int)) ∧ w'.cell? ⟨g0, 1, none⟩ = some (.int .u8 (q.toNat : Int)) ∧ w'.cell? ⟨g0, 2, none⟩ = some (.int .u8 (r.toNat : Int)) ∧ w'.cell? ⟨g0, 3, none⟩ = some (.int .u8 (s.toNat : Int)))
      (first
        | exact farr4_cells H0.out.drew
        | exact farr4_cells H1.out
        | exact farr4_cells H2.out
        | exact farr4_cells H3.out
        | exact farr4_cells H4.out
        | exact farr4_cells H5.out)
      (first
        | (go_at_call 12; refine (h7 _).mono ?_; rintro e w5 ⟨rfl, hb5⟩; have Hb5 := Lib.hid (bon Hb4.out hb5); have H5 : Hid (Arr w5 g0 27 .u8 (four p q r s)) := Lib.hid (H4.out.below hb5 H4.out.lt); clear hb5)
        | (go_at_call 17; (with_reducible refine (d1 _).mono ?_); rintro e w1 ⟨rfl, hb1⟩; have Hb1 := Lib.hid (bon Hb0.out.drew hb1); have H1 : Hid (Arr w1 g0 27 .u8 (four p q r s)) := Lib.hid (H0.out.drew.below hb1 H0.out.lt); clear hb1)
        | (go_at_call 17; (with_reducible refine (d2 _).mono ?_); rintro e w2 ⟨rfl, hb2⟩; have Hb2 := Lib.hid (bon Hb1.out hb2); have H2 : Hid (Arr w2 g0 27 .u8 (four p q r s)) := Lib.hid (H1.out.below hb2 H1.out.lt); clear hb2)
        | (go_at_call 17; (with_reducible refine (d3 _).mono ?_); rintro e w3 ⟨rfl, hb3⟩; have Hb3 := Lib.hid (bon Hb2.out hb3); have H3 : Hid (Arr w3 g0 27 .u8 (four p q r s)) := Lib.hid (H2.out.below hb3 H2.out.lt); clear hb3)
        | (go_at_call 17; (with_reducible refine (d4 _).mono ?_); rintro e w4 ⟨rfl, hb4⟩; have Hb4 := Lib.hid (bon Hb3.out hb4); have H4 : Hid (Arr w4 g0 27 .u8 (four p q r s)) := Lib.hid (H3.out.below hb4 H3.out.lt); clear hb4))
    go_wp2
    go_ret
    exact ⟨rfl, Hb5.out⟩

  · have e0 : ((a.toNat : Int) == 0) = false := by simp; omega
    rw [hinv (fun e => h0 (by rw [e]; rfl))] at m11
    have m11' : ∀ w, Calls Try.prog 8 #[.int .u8 (a.toNat : Int), .int .u8 ((ginvU a).toNat : Int)] w (fun e w' => e = .returned (.int .u8 1) ∧ w' = w) := m11
    clear hinv h0 m11
    generalize ginvU a = y7 at *
    generalize (a.toNat : Int) = z at *
    have e1 : z ≠ 0 := fun e => by simp [e] at e0
    have e2 : (z != 0) = true := by simp [e1]
    go_enter Try.func5, Try.ntmps5
    go_wp2_with (refine wp_box_arr rfl 27 (.tmp 3) rfl (four p q r s) rfl ?_)
    intro w0 g0 G0 H0 Hb0 Hs0
    go_wp2_with fail
    refine (m1 _).mono ?_
    rintro e w9 ⟨rfl, rfl⟩
    go_wp2_with fail
    refine (m2 _).mono ?_
    rintro e w9 ⟨rfl, rfl⟩
    go_wp2_with fail
    refine (m3 _).mono ?_
    rintro e w9 ⟨rfl, rfl⟩
    go_wp2_with fail
    refine (m4 _).mono ?_
    rintro e w9 ⟨rfl, rfl⟩
    go_wp2_with fail
    refine (m1 _).mono ?_
    rintro e w9 ⟨rfl, rfl⟩
    go_wp2_with fail
    refine (m5 _).mono ?_
    rintro e w9 ⟨rfl, rfl⟩
    go_wp2_with fail
    refine (m6 _).mono ?_
    rintro e w9 ⟨rfl, rfl⟩
    go_wp2_with fail
    refine (m1 _).mono ?_
    rintro e w9 ⟨rfl, rfl⟩
    go_wp2_with fail
    refine (m7 _).mono ?_
    rintro e w9 ⟨rfl, rfl⟩
    go_wp2_with fail
    refine (m8 _).mono ?_
    rintro e w9 ⟨rfl, rfl⟩
    go_wp2_with fail
    refine (m9 _).mono ?_
    rintro e w9 ⟨rfl, rfl⟩
    go_wp2_with fail
    refine (m11' _).mono ?_
    rintro e w9 ⟨rfl, rfl⟩
    go_wp2_with fail
    refine (m9 _).mono ?_
    rintro e w9 ⟨rfl, rfl⟩
    go_wp2_with fail
    refine (m10 _).mono ?_
    rintro e w9 ⟨rfl, rfl⟩
    clear m1 m2 m3 m4 m5 m6 m7 m8 m9 m10 m11' hx hy e0 e1 e2
    go_wp2_with fail
    go_region_held3 (fun w' => w'.cell? ⟨g0, 0, none⟩ = some (.int .u8 (p.toNat : Int)) ∧ w'.cell? ⟨g0, 1, none⟩ = some (.int .u8 (q.toNat : Int)) ∧ w'.cell? ⟨g0, 2, none⟩ = some (.int .u8 (r.toNat : Int)) ∧ w'.cell? ⟨g0, 3, none⟩ = some (.int .u8 (s.toNat : Int)))
      (first
        | exact farr4_cells H0.out.drew
        | exact farr4_cells H1.out
        | exact farr4_cells H2.out
        | exact farr4_cells H3.out
        | exact farr4_cells H4.out
        | exact farr4_cells H5.out)
      (first
        | (go_at_call 12; refine (h7 _).mono ?_; rintro e w5 ⟨rfl, hb5⟩; have Hb5 := Lib.hid (bon Hb4.out hb5); have H5 : Hid (Arr w5 g0 27 .u8 (four p q r s)) := Lib.hid (H4.out.below hb5 H4.out.lt); clear hb5)
        | (go_at_call 17; (with_reducible refine (d1 _).mono ?_); rintro e w1 ⟨rfl, hb1⟩; have Hb1 := Lib.hid (bon Hb0.out.drew hb1); have H1 : Hid (Arr w1 g0 27 .u8 (four p q r s)) := Lib.hid (H0.out.drew.below hb1 H0.out.lt); clear hb1)
        | (go_at_call 17; (with_reducible refine (d2 _).mono ?_); rintro e w2 ⟨rfl, hb2⟩; have Hb2 := Lib.hid (bon Hb1.out hb2); have H2 : Hid (Arr w2 g0 27 .u8 (four p q r s)) := Lib.hid (H1.out.below hb2 H1.out.lt); clear hb2)
        | (go_at_call 17; (with_reducible refine (d3 _).mono ?_); rintro e w3 ⟨rfl, hb3⟩; have Hb3 := Lib.hid (bon Hb2.out hb3); have H3 : Hid (Arr w3 g0 27 .u8 (four p q r s)) := Lib.hid (H2.out.below hb3 H2.out.lt); clear hb3)
        | (go_at_call 17; (with_reducible refine (d4 _).mono ?_); rintro e w4 ⟨rfl, hb4⟩; have Hb4 := Lib.hid (bon Hb3.out hb4); have H4 : Hid (Arr w4 g0 27 .u8 (four p q r s)) := Lib.hid (H3.out.below hb4 H3.out.lt); clear hb4))
    go_wp2
    go_ret
    exact ⟨rfl, Hb5.out⟩

end Go.Proofs.Ytpaekofdmfhchaa
