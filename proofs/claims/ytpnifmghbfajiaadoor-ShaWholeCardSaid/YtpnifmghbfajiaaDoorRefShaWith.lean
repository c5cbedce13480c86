import Derived.Test.YtpnifmghbfajiaaDoorRefShaWords
import Derived.Test.YtpnifmghbfajiaaDoorShaRound
import Derived.Test.YtpnifmghbfajiaaDoorArrIndex
namespace Go.Proofs.YtpnifmghbfajiaaDoor
open Go.RowKit

/-- Three turns by turns. -/
theorem turn3_bits (x n1 n2 n3 : Nat) (hx : x < 4294967296) : ∃ a1 : Nat, bits .xor .u32 ((rotU n1 x : Nat) : Int) ((rotU n2 x : Nat) : Int) = (a1 : Int) ∧ bits .xor .u32 (a1 : Int) ((rotU n3 x : Nat) : Int) = ((rotU n1 x ^^^ rotU n2 x ^^^ rotU n3 x : Nat) : Int) :=
  ⟨rotU n1 x ^^^ rotU n2 x, u32_xor_nat _ _ (rotU_lt hx) (rotU_lt hx), u32_xor_nat _ _ (Nat.xor_lt_two_pow (n := 32) (rotU_lt hx) (rotU_lt hx)) (rotU_lt hx)⟩

set_option maxRecDepth 100000 in
set_option maxHeartbeats 4000000 in
theorem rwith_any (B n c : Nat) (A : Option Addr) (xs : List UInt8) (hs : List Nat) (w : World) (hh : Eight hs) (hx : Rd w B A n (Byt xs)) (hnc : n ≤ c) (hn : n ≤ 8796093022208) (hB : B ≤ w.heap.size) :
    Calls Tryd.prog 20 #[.agg (Nums .u32 ksU), .agg (Nums .u32 hs), .slice A n c] w (AnsA w .u32 (blockU hs xs)) := by
  have hxl := hx.bytes
  have Hh := Lib.hid hh; clear hh
  by_cases h64 : n = 64
  · subst h64
    have Hw : Hid (blockU hs xs = plusU (roundsU (wordsU xs) 64 hs) hs) := Lib.hid (by unfold blockU; rw [if_pos hxl])
    have hcw := fun w' (hb : Below w.heap.size w w') => rwords_any B 64 c A xs w' (hx.below (hb.mono hB)) hnc hn (Nat.le_trans hB hb.size)
    have Hcw := Lib.hid hcw
    have HWl : Hid ((wordsU xs).length = 64) := Lib.hid (wordsU_length xs)
    have HWb : Hid (∀ j, (wordsU xs).getD j 0 < 4294967296) := Lib.hid (getD_lt (wordsU_lt xs) (by decide))
    have Hnx : Hid (∀ t v, roundsU (wordsU xs) (t + 1) v = roundU (ksU.getD t 0) ((wordsU xs).getD t 0) (roundsU (wordsU xs) t v)) := Lib.hid fun t v => rfl
    have HKl : Hid (ksU.length = 64) := Lib.hid rfl
    have HKb : Hid (∀ j, ksU.getD j 0 < 4294967296) := Lib.hid (getD_lt ks_lt (by decide))
    have H8 : Hid (∀ W t, Eight (roundsU W t hs)) := Lib.hid fun W t => roundsU_eight W t Hh.out
    have H0 : Hid (roundsU (wordsU xs) 0 hs = hs) := Lib.hid rfl
    clear hcw hx hxl
    rw [Hw.out]
    clear Hw
    revert Hcw HWl HWb Hnx H0 HKl HKb
    generalize wordsU xs = W
    generalize ksU = K
    intro Hcw HWl HWb Hnx HKl HKb H0
    have HS : Hid (∀ t, Eight (roundsU W t hs)) := Lib.hid fun t => H8.out W t
    clear H8
    obtain ⟨R, hR⟩ : ∃ R : Nat → List Nat, ∀ t, roundsU W t hs = R t := ⟨_, fun _ => rfl⟩
    have HS2 : Hid (∀ t, Eight (R t)) := Lib.hid fun t => by rw [← hR]; exact HS.out t
    have HN2 : Hid (∀ t, R (t + 1) = roundU (K.getD t 0) (W.getD t 0) (R t)) := Lib.hid fun t => by rw [← hR, ← hR]; exact Hnx.out t hs
    have HR0 : Hid (R 0 = hs) := Lib.hid (by rw [← hR]; exact H0.out)
    rw [hR 64]
    clear hR HS Hnx H0
    go_enter Tryd.func20, Tryd.ntmps20
    go_wp2_with (refine wp_box_arr (k := .u32) rfl 26 (.tmp 0) rfl K rfl ?_)
    intro w1 g1 G1 H1 Hb1 Hs1
    go_wp2_with (refine wp_box_arr (k := .u32) rfl 24 (.tmp 1) rfl hs rfl ?_)
    intro w2 g2 G2 H2 Hb2 Hs2
    go_wp2_with (refine wp_alloc_arr (k := .u32) rfl 24 rfl 8 zero8 ?_)
    intro w3 g3 G3 H3 Hb3 Hs3
    have B3 : Hid (Below w.heap.size w w3) := Lib.hid ((Hb1.out.trans (Hb2.out.mono Hb1.out.size)).trans (Hb3.out.mono (Nat.le_trans Hb1.out.size Hb2.out.size)))
    have K1 : Hid (Arr w3 g1 26 .u32 K) := Lib.hid ((H1.out.below Hb2.out H1.out.lt).below Hb3.out (Nat.lt_of_lt_of_le H1.out.lt Hb2.out.size))
    have K2 : Hid (Arr w3 g2 24 .u32 hs) := Lib.hid (H2.out.below Hb3.out H2.out.lt)
    have Hg : Hid (w.heap.size ≤ g1 ∧ w.heap.size ≤ g2 ∧ w.heap.size ≤ g3 ∧ g1 ≠ g2 ∧ g1 ≠ g3 ∧ g2 ≠ g3 ∧ g1 < w3.heap.size ∧ g2 < w3.heap.size ∧ g3 < w3.heap.size) := Lib.hid (by have := G1.out; have := G2.out; have := G3.out; have := Hs1.out; have := Hs2.out; have := Hs3.out; omega)
    clear H1 H2 Hb1 Hb2 Hb3 Hs1 Hs2 Hs3 G1 G2 G3
    go_wp2_with fail
    refine (Hcw.out _ B3.out).mono ?_
    rintro e w5 ⟨rfl, hb5⟩
    have hsz : w3.heap.size ≤ w5.heap.size := hb5.size
    have L1 : Hid (Arr w5 g1 26 .u32 K) := Lib.hid (K1.out.below hb5 K1.out.lt)
    have L2 : Hid (Arr w5 g2 24 .u32 hs) := Lib.hid (K2.out.below hb5 K2.out.lt)
    have L3 : Hid (Arr w5 g3 24 .u32 (Zs 8)) := Lib.hid (H3.out.below hb5 H3.out.lt)
    have B5 : Hid (Below w.heap.size w w5) := Lib.hid (B3.out.trans (hb5.mono B3.out.size))
    have Hg5 : Hid (w.heap.size ≤ g1 ∧ w.heap.size ≤ g2 ∧ w.heap.size ≤ g3 ∧ g1 ≠ g2 ∧ g1 ≠ g3 ∧ g2 ≠ g3 ∧ g1 < w5.heap.size ∧ g2 < w5.heap.size ∧ g3 < w5.heap.size) := Lib.hid (by have := Hg.out; omega)
    clear hb5 hsz B3 K1 K2 H3 Hcw Hg
    go_wp2_with (refine wp_alloc_arr (k := .u32) rfl 26 rfl 64 zero64 ?_)
    intro w6 g4 G4 H4 Hb6 Hs6
    go_wp2_with (refine wp_put_arr arr64 rfl (.tmp 7) (.tmp 20) rfl rfl (l' := W) rfl H4.out (Zs_length _) HWl.out ?_)
    intro w7 H7 Hm7 Hs7
    have hg4 : ¬ g1 = g4 ∧ ¬ g2 = g4 ∧ ¬ g3 = g4 ∧ w.heap.size ≤ g4 := by have := Hg5.out; have := G4.out; omega
    have M1 : Hid (Arr w7 g1 26 .u32 K) := Lib.hid ((L1.out.below Hb6.out L1.out.lt).moves Hm7.out hg4.1)
    have M2 : Hid (Arr w7 g2 24 .u32 hs) := Lib.hid ((L2.out.below Hb6.out L2.out.lt).moves Hm7.out hg4.2.1)
    have M3 : Hid (Arr w7 g3 24 .u32 (Zs 8)) := Lib.hid ((L3.out.below Hb6.out L3.out.lt).moves Hm7.out hg4.2.2.1)
    have B7 : Hid (Below w.heap.size w w7) := Lib.hid ((B5.out.trans (Hb6.out.mono B5.out.size)).trans (Hm7.out.below (fun k hk => by omega) (Nat.le_trans B5.out.size Hb6.out.size)))
    have Hg7 : Hid (w.heap.size ≤ g3 ∧ g1 ≠ g3 ∧ g2 ≠ g3 ∧ g3 ≠ g4 ∧ g1 < w7.heap.size ∧ g2 < w7.heap.size ∧ g3 < w7.heap.size ∧ g4 < w7.heap.size) := Lib.hid (by have := Hg5.out; have := Hs6.out; have := Hs7.out; have := G4.out; omega)
    clear hg4 L1 L2 L3 B5 Hg5 Hb6 Hm7 H4 G4 Hs6 Hs7
    go_wp2_with (first
      | refine wp_load_arr arr8 rfl (.tmp 4) rfl rfl M2.out Hh.out.1 ?_
      | refine wp_alloc_arr (k := .u32) rfl 24 rfl 8 zero8 ?_)
    intro w8 g5 G5 H8 Hb8 Hs8
    go_wp2_with (refine wp_put_arr arr8 rfl (.tmp 8) (.tmp 21) rfl rfl (l' := hs) rfl H8.out (Zs_length _) Hh.out.1 ?_)
    intro w9 H9 Hm9 Hs9
    have Hg : Hid (w.heap.size ≤ g3 ∧ w.heap.size ≤ g5 ∧ g1 ≠ g5 ∧ g2 ≠ g5 ∧ g3 ≠ g5 ∧ g4 ≠ g5) := Lib.hid (by have := Hg7.out; have := G5.out; have := B7.out.size; omega)
    have N1 : Hid (Arr w9 g1 26 .u32 K) := Lib.hid ((M1.out.below Hb8.out M1.out.lt).moves Hm9.out Hg.out.2.2.1)
    have N2 : Hid (Arr w9 g2 24 .u32 hs) := Lib.hid ((M2.out.below Hb8.out M2.out.lt).moves Hm9.out Hg.out.2.2.2.1)
    have N3 : Hid (Arr w9 g3 24 .u32 (Zs 8)) := Lib.hid ((M3.out.below Hb8.out M3.out.lt).moves Hm9.out Hg.out.2.2.2.2.1)
    have N4 : Hid (Arr w9 g4 26 .u32 W) := Lib.hid ((H7.out.below Hb8.out H7.out.lt).moves Hm9.out Hg.out.2.2.2.2.2)
    have N5 : Hid (Arr w9 g5 24 .u32 (R 0)) := Lib.hid (by rw [HR0.out]; exact H9.out)
    have B9 : Hid (Below w.heap.size w w9) := Lib.hid ((B7.out.trans (Hb8.out.mono B7.out.size)).trans (Hm9.out.below (fun k hk => by have := Hg.out; omega) (Nat.le_trans B7.out.size Hb8.out.size)))
    clear M1 M2 M3 B7 Hg7 H7 H8 H9 Hb8 Hm9 G5 Hs8 Hs9 HR0
    go_wp2
    go_loopw [9] (fun i wr => ∃ t : Nat, t ≤ 64 ∧ i = .int .i64 (t : Int) ∧ Hid (Arr wr g1 26 .u32 K) ∧ Hid (Arr wr g2 24 .u32 hs) ∧ Hid (Arr wr g3 24 .u32 (Zs 8)) ∧ Hid (Arr wr g4 26 .u32 W) ∧ Hid (Arr wr g5 24 .u32 (R t)) ∧ Hid (Below w.heap.size w wr)) (fun i _ => 64 - (intOf i).toNat)
    case atStart => exact ⟨0, by omega, rfl, N1, N2, N3, N4, N5, B9⟩
    case round =>
      clear N1 N2 N3 N4 N5 B9
      obtain ⟨t, ht, rfl, A1, A2, A3, A4, A5, Hbr⟩ := hrel
      by_cases ht64 : t < 64
      · have hv := HS2.out t
        have Hnext := Lib.hid (HN2.out t)
        have hkb := HKb.out t
        have hwb := HWb.out t
        have hWt : W[t]? = some (W.getD t 0) := by rw [List.getD_eq_getElem?_getD, List.getElem?_eq_getElem (by rw [HWl.out]; exact ht64)]; rfl
        have hKt : K[t]? = some (K.getD t 0) := by rw [List.getD_eq_getElem?_getD, List.getElem?_eq_getElem (by rw [HKl.out]; exact ht64)]; rfl
        have ck := A1.out.at_ hKt
        have cw := A4.out.at_ hWt
        clear hWt hKt
        revert ck cw Hnext hkb hwb A5 hv
        generalize K.getD t 0 = kt
        generalize W.getD t 0 = wt
        generalize R t = v
        generalize hv2 : R (t + 1) = v'
        intro A5 hv Hnext hkb hwb ck cw
        have Hv2 := Lib.hid hv2; clear hv2
        obtain ⟨a, b, cc, d, e, f, g, i, rfl⟩ := hv.form
        have c0 := A5.out.at_ (j := 0) rfl
        have c1 := A5.out.at_ (j := 1) rfl
        have c2 := A5.out.at_ (j := 2) rfl
        have c3 := A5.out.at_ (j := 3) rfl
        have c4 := A5.out.at_ (j := 4) rfl
        have c5 := A5.out.at_ (j := 5) rfl
        have c6 := A5.out.at_ (j := 6) rfl
        have c7 := A5.out.at_ (j := 7) rfl
        have hlt := hv.2
        simp only [List.mem_cons, List.not_mem_nil, or_false, forall_eq_or_imp, forall_eq] at hlt
        obtain ⟨ba, bb, bc, bd, be, bf, bg, bi⟩ := hlt
        clear hv
        have hr1 : ∀ w', Calls Tryd.prog 32 #[.int .u32 (e : Int), .int .i64 6] w' fun r w'' => r = .returned (.int .u32 ((rotU 6 e : Nat) : Int)) ∧ ∃ k, w'' = w'.drewN k := fun w' => rright_any e 6 w' be (by decide) (by decide)
        have hr2 : ∀ w', Calls Tryd.prog 32 #[.int .u32 (e : Int), .int .i64 11] w' fun r w'' => r = .returned (.int .u32 ((rotU 11 e : Nat) : Int)) ∧ ∃ k, w'' = w'.drewN k := fun w' => rright_any e 11 w' be (by decide) (by decide)
        have hr3 : ∀ w', Calls Tryd.prog 32 #[.int .u32 (e : Int), .int .i64 25] w' fun r w'' => r = .returned (.int .u32 ((rotU 25 e : Nat) : Int)) ∧ ∃ k, w'' = w'.drewN k := fun w' => rright_any e 25 w' be (by decide) (by decide)
        have hr4 : ∀ w', Calls Tryd.prog 32 #[.int .u32 (a : Int), .int .i64 2] w' fun r w'' => r = .returned (.int .u32 ((rotU 2 a : Nat) : Int)) ∧ ∃ k, w'' = w'.drewN k := fun w' => rright_any a 2 w' ba (by decide) (by decide)
        have hr5 : ∀ w', Calls Tryd.prog 32 #[.int .u32 (a : Int), .int .i64 13] w' fun r w'' => r = .returned (.int .u32 ((rotU 13 a : Nat) : Int)) ∧ ∃ k, w'' = w'.drewN k := fun w' => rright_any a 13 w' ba (by decide) (by decide)
        have hr6 : ∀ w', Calls Tryd.prog 32 #[.int .u32 (a : Int), .int .i64 22] w' fun r w'' => r = .returned (.int .u32 ((rotU 22 a : Nat) : Int)) ∧ ∃ k, w'' = w'.drewN k := fun w' => rright_any a 22 w' ba (by decide) (by decide)
        obtain ⟨a1, m1, m2⟩ := turn3_bits e 6 11 25 be
        obtain ⟨a0, m3, m4⟩ := turn3_bits a 2 13 22 ba
        rw [show rotU 6 e ^^^ rotU 11 e ^^^ rotU 25 e = bigS1 e from rfl] at m2
        rw [show rotU 2 a ^^^ rotU 13 a ^^^ rotU 22 a = bigS0 a from rfl] at m4
        obtain ⟨p1, q1, r1, k1, k2, k3, k4⟩ := ch_bits e f g be bf bg
        obtain ⟨p2, q2, r2, s2, k5, k6, k7, k8, k9⟩ := maj_bits a b cc ba bb bc
        have Hx : Hid (xU kt wt e f g i = (i + bigS1 e + chU e f g + kt + wt) % 4294967296) := Lib.hid rfl
        have Hy : Hid (yU a b cc = (bigS0 a + majU a b cc) % 4294967296) := Lib.hid rfl
        have Hr : Hid (v' = [(xU kt wt e f g i + yU a b cc) % 4294967296, a, b, cc, (d + xU kt wt e f g i) % 4294967296, e, f, g]) := Hnext
        have z1 := bigS1_lt be
        have z0 := bigS0_lt ba
        have zc := chU_lt (f := f) (g := g) be
        have zm := majU_lt (c := cc) ba bb
        clear Hnext
        revert Hx Hy Hr k4 k9 z1 z0 zc zm hr1 hr2 hr3 hr4 hr5 hr6 m1 m2 m3 m4
        generalize xU kt wt e f g i = x
        generalize yU a b cc = y
        generalize bigS1 e = S1
        generalize bigS0 a = S0
        generalize chU e f g = ch
        generalize majU a b cc = mj
        generalize rotU 6 e = t1
        generalize rotU 11 e = t2
        generalize rotU 25 e = t3
        generalize rotU 2 a = t4
        generalize rotU 13 a = t5
        generalize rotU 22 a = t6
        intro hr1 hr2 hr3 hr4 hr5 hr6 m1 m2 m3 m4 k4 k9 Hx Hy Hr z1 z0 zc zm
        obtain ⟨y1, hy1⟩ : ∃ y1 : Nat, (i + S1) % 4294967296 = y1 := ⟨_, rfl⟩
        obtain ⟨y2, hy2⟩ : ∃ y2 : Nat, (y1 + ch) % 4294967296 = y2 := ⟨_, rfl⟩
        obtain ⟨y3, hy3⟩ : ∃ y3 : Nat, (y2 + kt) % 4294967296 = y3 := ⟨_, rfl⟩
        have hx := Hx.out
        have hy := Hy.out
        have u1 : IntKind.u32.wrap ((i : Int) + (S1 : Int)) = (y1 : Int) := by rw [IntKind.wrap_u32]; omega
        have u2 : IntKind.u32.wrap ((y1 : Int) + (ch : Int)) = (y2 : Int) := by rw [IntKind.wrap_u32]; omega
        have u3 : IntKind.u32.wrap ((y2 : Int) + (kt : Int)) = (y3 : Int) := by rw [IntKind.wrap_u32]; omega
        have u4 : IntKind.u32.wrap ((y3 : Int) + (wt : Int)) = (x : Int) := by rw [IntKind.wrap_u32]; omega
        have u5 : IntKind.u32.wrap ((S0 : Int) + (mj : Int)) = (y : Int) := by rw [IntKind.wrap_u32]; omega
        have v1 : ((i : Int) + (S1 : Int)) % 4294967296 = (y1 : Int) := by omega
        have v2 : ((y1 : Int) + (ch : Int)) % 4294967296 = (y2 : Int) := by omega
        have v3 : ((y2 : Int) + (kt : Int)) % 4294967296 = (y3 : Int) := by omega
        have v4 : ((y3 : Int) + (wt : Int)) % 4294967296 = (x : Int) := by omega
        have v5 : ((S0 : Int) + (mj : Int)) % 4294967296 = (y : Int) := by omega
        have v6 : ((y1 : Int) + (ch : Int) + (kt : Int) + (wt : Int)) % 4294967296 = (x : Int) := by omega
        obtain ⟨sx, hsx⟩ : ∃ sx : Nat, (x + y) % 4294967296 = sx := ⟨_, rfl⟩
        obtain ⟨sd, hsd⟩ : ∃ sd : Nat, (d + x) % 4294967296 = sd := ⟨_, rfl⟩
        have v7 : ((x : Int) + (y : Int)) % 4294967296 = (sx : Int) := by omega
        have v8 : ((d : Int) + (x : Int)) % 4294967296 = (sd : Int) := by omega
        have Hr2 : Hid (v' = [sx, a, b, cc, sd, e, f, g]) := Lib.hid (by rw [Hr.out, hsx, hsd])
        clear hsx hsd Hr
        clear hy1 hy2 hy3 hx hy Hx Hy
        go_wp2_with fail
        go_quiet (fail)
        go_wp2_with fail
        go_quiet (first | (with_reducible exact Calls.quiet_two_of (hr1 _)) | (with_reducible exact Calls.quiet_two_of (hr2 _)) | (with_reducible exact Calls.quiet_two_of (hr3 _)))
        (try rw [v6])
        go_wp2_with fail
        go_quiet (first | (with_reducible exact Calls.quiet_two_of (hr4 _)) | (with_reducible exact Calls.quiet_two_of (hr5 _)) | (with_reducible exact Calls.quiet_two_of (hr6 _)))
        go_wp2_with (first
          | refine wp_build_arr rfl 24 _ rfl .u32 [sx, a, b, cc, sd, e, f, g] (by (try rw [v7]); (try rw [v8]); kernel_rfl) ?_
          | refine wp_put_arr arr8 rfl (.tmp 8) (.tmp 103) rfl rfl (l' := [sx, a, b, cc, sd, e, f, g]) rfl (A5.out.heap rfl) rfl rfl ?_)
        intro w6 P5 Hm6 Hs6
        have Hw6 : Hid (∀ k, k < wr.heap.size → k ≠ g5 → w6.heap[k]? = wr.heap[k]?) := Lib.hid fun k h1 h2 => Hm6.out.block k h1 h2
        have P1 : Hid (Arr w6 g1 26 .u32 K) := Lib.hid ((Hw6.out g1 A1.out.lt Hg.out.2.2.1).trans A1.out)
        have P2 : Hid (Arr w6 g2 24 .u32 hs) := Lib.hid ((Hw6.out g2 A2.out.lt Hg.out.2.2.2.1).trans A2.out)
        have P3 : Hid (Arr w6 g3 24 .u32 (Zs 8)) := Lib.hid ((Hw6.out g3 A3.out.lt Hg.out.2.2.2.2.1).trans A3.out)
        have P4 : Hid (Arr w6 g4 26 .u32 W) := Lib.hid ((Hw6.out g4 A4.out.lt Hg.out.2.2.2.2.2).trans A4.out)
        have P5' : Hid (Arr w6 g5 24 .u32 (R (t + 1))) := Lib.hid (by rw [Hv2.out, Hr2.out]; exact P5.out)
        have PB : Hid (Below w.heap.size w w6) := Lib.hid (below_put Hbr.out Hbr.out.size Hg.out.2.1 Hm6.out)
        go_wp2
        go_roundw
        case rel => exact ⟨t + 1, by omega, by go_num, P1, P2, P3, P4, P5', PB⟩
        case measure => simp [intOf]; omega
      · obtain rfl : t = 64 := by omega
        rw [show ((64 : Nat) : Int) = 64 from rfl]
        have hv := HS2.out 64
        revert hv A5
        generalize hv3 : R 64 = v
        intro A5 hv
        have Hvl : Hid (v.length = 8) := Lib.hid hv.1
        have Hpl : Hid ((plusU v hs).length = 8) := Lib.hid (plusU_eight hv Hh.out).1
        have Hhl : Hid (hs.length = 8) := Lib.hid Hh.out.1
        have Hpg : Hid (∀ j x y, v[j]? = some x → hs[j]? = some y → (plusU v hs)[j]? = some ((x + y) % 4294967296)) := Lib.hid (by
          intro j x y h1 h2
          unfold plusU
          rw [List.getElem?_zipWith, h1, h2])
        clear hv
        revert Hpl Hpg
        generalize hp3 : plusU v hs = p
        intro Hpl Hpg
        have HP : Hid (plusU (R 64) hs = p) := Lib.hid (by rw [hv3, hp3])
        clear hv3 hp3
        go_wp2
        go_loopw [14] (fun i wr => ∃ j : Nat, j ≤ 8 ∧ i = .int .i64 (j : Int) ∧ Hid (Arr wr g2 24 .u32 hs) ∧ Hid (Arr wr g3 24 .u32 (Zs 8)) ∧ Hid (Arr wr g5 24 .u32 (p.take j ++ v.drop j)) ∧ Hid (Below w.heap.size w wr)) (fun i _ => 8 - (intOf i).toNat)
        case atStart => exact ⟨0, by omega, rfl, A2, A3, A5, Hbr⟩
        case round =>
          clear A1 A2 A3 A4 A5 Hbr
          obtain ⟨j, hj, rfl, A2, A3, A5, Hbr⟩ := hrel
          by_cases hj8 : j < 8
          · have hjp : j < p.length := by rw [Hpl.out]; exact hj8
            have hjv : j < v.length := by rw [Hvl.out]; exact hj8
            have hjh : j < hs.length := by rw [Hhl.out]; exact hj8
            have c3 := A5.out.at_ (fill_get hjv (Nat.le_of_lt hjp))
            have c1 := A2.out.cell hjh
            have f3 := A5.out.frozen j
            have hp := Hpg.out j _ _ (List.getElem?_eq_getElem hjv) (List.getElem?_eq_getElem hjh)
            have hpe : p[j] = (v[j] + hs[j]) % 4294967296 := (List.getElem?_eq_some_iff.1 hp).2
            have Hset : Hid ((p.take j ++ v.drop j).set j ((v[j] + hs[j]) % 4294967296) = p.take (j + 1) ++ v.drop (j + 1)) := Lib.hid (by rw [← hpe]; exact fill_set hjp hjv)
            clear hp hpe
            revert c3 c1 Hset
            generalize v[j] = x
            generalize hs[j] = y
            intro c3 c1 Hset
            obtain ⟨z, hz⟩ : ∃ z : Nat, (x + y) % 4294967296 = z := ⟨_, rfl⟩
            rw [hz] at Hset
            have v1 : ((x : Int) + (y : Int)) % 4294967296 = (z : Int) := by omega
            have u1 : IntKind.u32.wrap ((x : Int) + (y : Int)) = (z : Int) := by rw [IntKind.wrap_u32]; omega
            clear hz
            go_wp2
            go_region
            go_wp2
            go_roundw
            case rel => exact ⟨j + 1, by omega, by go_num, Lib.hid (A2.out.other Hg.out.2.2.2.1), Lib.hid (A3.out.other Hg.out.2.2.2.2.1), Lib.hid (by rw [← Hset.out]; exact A5.out.set), Lib.hid ((Hbr.out.setCell Hg.out.2.1 _).drew)⟩
            case measure => simp [intOf]; omega
          · obtain rfl : j = 8 := by omega
            have A3' : Hid (Arr wr g5 24 .u32 p) := Lib.hid (by have h := A5.out; rwa [fill_all Hpl.out Hvl.out] at h)
            go_wp2_with (first
              | refine wp_load_arr arr8 rfl (.tmp 8) rfl rfl A3'.out Hpl.out ?_
              | refine wp_put_arr arr8 rfl (.tmp 6) (.tmp 117) rfl rfl (l' := p) rfl A3.out (Zs_length _) Hpl.out ?_)
            intro w4 A4 Hm4 Hs4
            go_wp2
            exact ret_arr arr8 rfl rfl A4.out Hpl.out rfl ⟨by rw [HP.out], Hbr.out.trans (Hm4.out.below (fun k hk => by have := Hg.out; omega) Hbr.out.size)⟩
  · have Hw : Hid (blockU hs xs = hs) := Lib.hid (by unfold blockU; rw [if_neg (by omega)])
    rw [Hw.out]
    have h64' : ¬ (n : Int) = 64 := by omega
    generalize ksU = K
    go_enter Tryd.func20, Tryd.ntmps20
    go_wp2_with (refine wp_box_arr (k := .u32) rfl 26 (.tmp 0) rfl K rfl ?_)
    intro w1 g1 G1 H1 Hb1 Hs1
    go_wp2_with (refine wp_box_arr (k := .u32) rfl 24 (.tmp 1) rfl hs rfl ?_)
    intro w2 g2 G2 H2 Hb2 Hs2
    go_wp2_with (refine wp_alloc_arr (k := .u32) rfl 24 rfl 8 zero8 ?_)
    intro w3 g3 G3 H3 Hb3 Hs3
    have B3 : Hid (Below w.heap.size w w3) := Lib.hid ((Hb1.out.trans (Hb2.out.mono Hb1.out.size)).trans (Hb3.out.mono (Nat.le_trans Hb1.out.size Hb2.out.size)))
    have K2 : Hid (Arr w3 g2 24 .u32 hs) := Lib.hid (H2.out.below Hb3.out H2.out.lt)
    go_wp2_with (first
      | refine wp_load_arr arr8 rfl (.tmp 4) rfl rfl K2.out Hh.out.1 ?_
      | refine wp_put_arr arr8 rfl (.tmp 6) (.tmp 18) rfl rfl (l' := hs) rfl H3.out (Zs_length _) Hh.out.1 ?_)
    intro w4 A4 Hm4 Hs4
    go_wp2
    exact ret_arr arr8 rfl rfl A4.out Hh.out.1 rfl ⟨rfl, B3.out.trans (Hm4.out.below (fun k hk => by have := G3.out; have := Hs1.out; have := Hs2.out; omega) B3.out.size)⟩

end Go.Proofs.YtpnifmghbfajiaaDoor
