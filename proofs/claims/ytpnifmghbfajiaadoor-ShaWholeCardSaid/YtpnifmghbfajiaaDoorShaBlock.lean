import Derived.Test.YtpnifmghbfajiaaDoorShaWords
import Derived.Test.YtpnifmghbfajiaaDoorShaRound
import Derived.Test.YtpnifmghbfajiaaDoorShaK
import Derived.Test.YtpnifmghbfajiaaDoorArrIndex
namespace Go.Proofs.YtpnifmghbfajiaaDoor
open Go.RowKit

theorem info_u32s : (Tryd.prog.info? 22).map (·.size) = some 1 := by kernel_rfl

set_option maxHeartbeats 3200000 in
theorem block_any (B n c : Nat) (A : Option Addr) (xs : List UInt8) (hs : List Nat) (w : World) (hh : Eight hs) (hx : Rd w B A n (Byt xs)) (hnc : n ≤ c) (hn : n ≤ 8796093022208) (hB : B ≤ w.heap.size) (hK : KsAt w) :
    Calls Tryd.prog 19 #[.agg (Nums .u32 hs), .slice A n c] w (AnsA w .u32 (blockU hs xs)) := by
  have hxl := hx.bytes
  have Hh := Lib.hid hh; clear hh
  have HK := Lib.hid hK; clear hK
  by_cases h64 : n = 64
  · subst h64
    have Hw : Hid (blockU hs xs = plusU (roundsU (wordsU xs) 64 hs) hs) := Lib.hid (by unfold blockU; rw [if_pos hxl])
    have hcw := fun w' (hb : Below w.heap.size w w') => words_any B 64 c A xs w' (hx.below (hb.mono hB)) hnc hn (Nat.le_trans hB hb.size)
    have Hcw := Lib.hid hcw
    have HWl : Hid ((wordsU xs).length = 64) := Lib.hid (wordsU_length xs)
    have HWb : Hid (∀ j, (wordsU xs).getD j 0 < 4294967296) := Lib.hid (getD_lt (wordsU_lt xs) (by decide))
    clear hcw hx hxl
    rw [Hw.out]
    clear Hw
    revert Hcw HWl HWb
    generalize wordsU xs = W
    intro Hcw HWl HWb
    go_enter Tryd.func19, Tryd.ntmps19
    go_wp2_with (refine wp_box_arr (k := .u32) rfl 24 (.tmp 0) rfl hs rfl ?_)
    intro w1 g1 G1 H1 Hb1 Hs1
    go_wp2_with (refine wp_alloc_arr (k := .u32) rfl 24 rfl 8 zero8 ?_)
    intro w2 g2 G2 H2 Hb2 Hs2
    have H1' : Hid (Arr w2 g1 24 .u32 hs) := Lib.hid (H1.out.below Hb2.out (by have := G1.out; have := Hs1.out; omega))
    have Hb12 : Hid (Below w.heap.size w w2) := Lib.hid (Hb1.out.trans (Hb2.out.mono (by have := Hs1.out; omega)))
    go_wp2_with (first
      | refine wp_load_arr arr8 rfl (.tmp 2) rfl rfl H1'.out Hh.out.1 ?_
      | refine wp_alloc_arr (k := .u32) rfl 24 rfl 8 zero8 ?_)
    intro w3 g3 G3 H3 Hb3 Hs3
    go_wp2_with (refine wp_put_arr arr8 rfl (.tmp 5) (.tmp 16) rfl rfl (l' := hs) rfl H3.out (Zs_length _) Hh.out.1 ?_)
    intro w4 H4 Hm4 Hs4
    have hmf : ∀ (fn : Fn) (first cap : Array Value) (w : World), (Instr.makeFunc fn first cap).run Tryd.prog w = .ok (.func fn first cap) w := fun _ _ _ _ => rfl
    have Hg : Hid (w.heap.size ≤ g1 ∧ w.heap.size ≤ g2 ∧ w.heap.size ≤ g3 ∧ g1 ≠ g2 ∧ g1 ≠ g3 ∧ g2 ≠ g3 ∧ g1 < g3 ∧ g2 < g3) := Lib.hid (by have := G1.out; have := G2.out; have := G3.out; have := Hs1.out; have := Hs2.out; omega)
    have B4 : Hid (Below w.heap.size w w4) := Lib.hid ((Hb12.out.trans (Hb3.out.mono Hb12.out.size)).trans (Hm4.out.below (fun k hk => by have := Hg.out; omega) (Nat.le_trans Hb12.out.size Hb3.out.size)))
    have K1 : Hid (Arr w4 g1 24 .u32 hs) := Lib.hid ((H1'.out.below Hb3.out H1'.out.lt).moves Hm4.out Hg.out.2.2.2.2.1)
    have K2 : Hid (Arr w4 g2 24 .u32 (Zs 8)) := Lib.hid ((H2.out.below Hb3.out H2.out.lt).moves Hm4.out Hg.out.2.2.2.2.2.1)
    clear H1 H1' H2 H3 Hb1 Hb2 Hb3 Hb12 Hs1 Hs2 Hs3 Hs4 Hm4 G1 G2 G3
    go_wp2_with fail
    refine (Hcw.out _ B4.out).mono ?_
    rintro e w5 ⟨rfl, hb5⟩
    have L1 : Hid (Arr w5 g1 24 .u32 hs) := Lib.hid (K1.out.below hb5 K1.out.lt)
    have L2 : Hid (Arr w5 g2 24 .u32 (Zs 8)) := Lib.hid (K2.out.below hb5 K2.out.lt)
    have L3 : Hid (Arr w5 g3 24 .u32 (roundsU W 0 hs)) := Lib.hid (H4.out.below hb5 H4.out.lt)
    have B5 : Hid (Below w.heap.size w w5) := Lib.hid (B4.out.trans (hb5.mono B4.out.size))
    clear hb5 B4 K1 K2 H4 Hcw
    go_wp2
    go_loopw [20] (fun i wr => ∃ t : Nat, t ≤ 64 ∧ i = .int .i64 (t : Int) ∧ Hid (Arr wr g1 24 .u32 hs) ∧ Hid (Arr wr g2 24 .u32 (Zs 8)) ∧ Hid (Arr wr g3 24 .u32 (roundsU W t hs)) ∧ Hid (Below w.heap.size w wr)) (fun i _ => 64 - (intOf i).toNat)
    case atStart => exact ⟨0, by omega, rfl, L1, L2, L3, B5⟩
    case round =>
      clear L1 L2 L3 B5
      obtain ⟨t, ht, rfl, A1, A2, A3, Hbr⟩ := hrel
      by_cases ht64 : t < 64
      · have hv := roundsU_eight W t Hh.out
        have Hnext : Hid (roundsU W (t + 1) hs = roundU (kU (t : Int)) (W.getD t 0) (roundsU W t hs)) := Lib.hid (by
          have e : ksU.getD t 0 = ksU[t]'ht64 := by rw [List.getD_eq_getElem?_getD, List.getElem?_eq_getElem (show t < ksU.length from ht64)]; rfl
          rw [rounds_next, kU_in ht64, e])
        have hkb : kU (t : Int) < 4294967296 := by rw [kU_in ht64]; exact ks_lt _ (List.getElem_mem _)
        have hwb := HWb.out t
        have hWt : W[t]? = some (W.getD t 0) := by rw [List.getD_eq_getElem?_getD, List.getElem?_eq_getElem (by rw [HWl.out]; exact ht64)]; rfl
        have hck := fun w' (hb : KsAt w') => shak_any (t : Int) w' (by omega) hb
        have HKr : Hid (KsAt wr) := Lib.hid (HK.out.below Hbr.out)
        have hix := fun w' => run_index_arr arr64 info_u32s HWl.out hWt w'
        clear hWt
        revert hck Hnext hkb hwb hix A3 hv
        generalize kU (t : Int) = kt
        generalize W.getD t 0 = wt
        generalize roundsU W t hs = v
        generalize hv2 : roundsU W (t + 1) hs = v'
        intro A3 hv Hnext hkb hwb hck hix
        have Hv2 := Lib.hid hv2; clear hv2
        obtain ⟨a, b, cc, d, e, f, g, i, rfl⟩ := hv.form
        have c0 := A3.out.at_ (j := 0) rfl
        have c1 := A3.out.at_ (j := 1) rfl
        have c2 := A3.out.at_ (j := 2) rfl
        have c3 := A3.out.at_ (j := 3) rfl
        have c4 := A3.out.at_ (j := 4) rfl
        have c5 := A3.out.at_ (j := 5) rfl
        have c6 := A3.out.at_ (j := 6) rfl
        have c7 := A3.out.at_ (j := 7) rfl
        have hlt := hv.2
        simp only [List.mem_cons, List.not_mem_nil, or_false, forall_eq_or_imp, forall_eq] at hlt
        obtain ⟨ba, bb, bc, bd, be, bf, bg, bi⟩ := hlt
        clear hv
        have hT1 : ∀ w', w'.heap = wr.heap → Calls Tryd.prog 33 #[.int .i64 4, .int .i64 6, .int .i64 11, .int .i64 25, .pointer (some ⟨g3, 0, none⟩)] w'
            fun r w'' => r = .returned (.int .u32 ((bigS1 e : Nat) : Int)) ∧ w'' = w' := fun w' hq => bturn_any g3 4 6 11 25 e _ w' rfl rfl be (by decide) (by decide) (by decide) (A3.out.heap hq)
        have hT0 : ∀ w', w'.heap = wr.heap → Calls Tryd.prog 33 #[.int .i64 0, .int .i64 2, .int .i64 13, .int .i64 22, .pointer (some ⟨g3, 0, none⟩)] w'
            fun r w'' => r = .returned (.int .u32 ((bigS0 a : Nat) : Int)) ∧ w'' = w' := fun w' hq => bturn_any g3 0 2 13 22 a _ w' rfl rfl ba (by decide) (by decide) (by decide) (A3.out.heap hq)
        obtain ⟨p1, q1, r1, k1, k2, k3, k4⟩ := ch_bits e f g be bf bg
        obtain ⟨p2, q2, r2, s2, k5, k6, k7, k8, k9⟩ := maj_bits a b cc ba bb bc
        have Hx : Hid (xU kt wt e f g i = (i + bigS1 e + chU e f g + kt + wt) % 4294967296) := Lib.hid rfl
        have Hy : Hid (yU a b cc = (bigS0 a + majU a b cc) % 4294967296) := Lib.hid rfl
        have Hr : Hid (v' = [(xU kt wt e f g i + yU a b cc) % 4294967296, a, b, cc, (d + xU kt wt e f g i) % 4294967296, e, f, g]) := Hnext
        have z1 := bigS1_lt be
        have z0 := bigS0_lt ba
        have zc := chU_lt (f := f) (g := g) be
        have zm := majU_lt (c := cc) ba bb
        clear Hnext
        revert Hx Hy Hr hT1 hT0 k4 k9 z1 z0 zc zm
        generalize xU kt wt e f g i = x
        generalize yU a b cc = y
        generalize bigS1 e = S1
        generalize bigS0 a = S0
        generalize chU e f g = ch
        generalize majU a b cc = mj
        intro hT1 hT0 k4 k9 Hx Hy Hr z1 z0 zc zm
        obtain ⟨y1, hy1⟩ : ∃ y1 : Nat, (i + S1) % 4294967296 = y1 := ⟨_, rfl⟩
        obtain ⟨y2, hy2⟩ : ∃ y2 : Nat, (y1 + ch) % 4294967296 = y2 := ⟨_, rfl⟩
        obtain ⟨y3, hy3⟩ : ∃ y3 : Nat, (y2 + kt) % 4294967296 = y3 := ⟨_, rfl⟩
        have hx := Hx.out
        have hy := Hy.out
        have u1 : IntKind.u32.wrap ((i : Int) + (S1 : Int)) = (y1 : Int) := by rw [IntKind.wrap_u32]; omega
        have u2 : IntKind.u32.wrap ((y1 : Int) + (ch : Int)) = (y2 : Int) := by rw [IntKind.wrap_u32]; omega
        have u3 : IntKind.u32.wrap ((y2 : Int) + (kt : Int)) = (y3 : Int) := by rw [IntKind.wrap_u32]; omega
        have u4 : IntKind.u32.wrap ((y3 : Int) + (wt : Int)) = (x : Int) := by rw [IntKind.wrap_u32]; omega
        have u5 : IntKind.u32.wrap ((S0 : Int) + (mj : Int)) = (y : Int) := by rw [IntKind.wrap_u32]; omega
        have v1 : ((i : Int) + (S1 : Int)) % 4294967296 = (y1 : Int) := by omega
        have v2 : ((y1 : Int) + (ch : Int)) % 4294967296 = (y2 : Int) := by omega
        have v3 : ((y2 : Int) + (kt : Int)) % 4294967296 = (y3 : Int) := by omega
        have v4 : ((y3 : Int) + (wt : Int)) % 4294967296 = (x : Int) := by omega
        have v5 : ((S0 : Int) + (mj : Int)) % 4294967296 = (y : Int) := by omega
        have v6 : ((y1 : Int) + (ch : Int) + (kt : Int) + (wt : Int)) % 4294967296 = (x : Int) := by omega
        obtain ⟨sx, hsx⟩ : ∃ sx : Nat, (x + y) % 4294967296 = sx := ⟨_, rfl⟩
        obtain ⟨sd, hsd⟩ : ∃ sd : Nat, (d + x) % 4294967296 = sd := ⟨_, rfl⟩
        have v7 : ((x : Int) + (y : Int)) % 4294967296 = (sx : Int) := by omega
        have v8 : ((d : Int) + (x : Int)) % 4294967296 = (sd : Int) := by omega
        have Hr2 : Hid (v' = [sx, a, b, cc, sd, e, f, g]) := Lib.hid (by rw [Hr.out, hsx, hsd])
        clear hsx hsd Hr
        clear hy1 hy2 hy3 hx hy Hx Hy
        go_wp2_with fail
        go_quiet (first
          | (go_at_call 33; exact Calls.quiet_of_same (hT1 _ rfl))
          | (go_at_call 7; exact Calls.quiet_of_same (hck _ (HKr.out.drewN _))))
        (try rw [v6])
        have Hcl : Hid (Below g3 wr wr) := Lib.hid (Below.refl _ _)
        go_wp2_with fail
        go_quiet (first | (go_at_call 33; exact Calls.quiet_two (hT0 _ rfl)) | fail)
        go_wp2_with fail
        go_region_law ((refine step_copy_splice (by rfl) (.tmp 67) (.tmp 68) 50 50 (by rfl) 22 Tryd.underlying50 info_u32s (some ⟨g3, 1, none⟩) (some ⟨g3, 0, none⟩) 7 7 7 8 (by rfl) (by rfl) g3 1 ([a, b, cc, d, e, f, g, i].map fun (n : Nat) => Value.int .u32 (n : Int)) 24 (by exact A3.out) (([a, b, cc, d, e, f, g, i].take 7).map fun (n : Nat) => Value.int .u32 (n : Int)) (by rfl) (fun _ => ⟨rfl, _, rfl, (A3.out.heap rfl).reads 7⟩) (by exact Nat.le_refl 8) (by intro v hv; obtain ⟨n, _, rfl⟩ := List.mem_map.1 hv; rfl) g3 wr (bdrewN (bdrewN (Below.refl g3 wr) _) _).drew (Nat.le_refl _) ?_; intro w6 H6 B6))
        have N3 : Hid (Arr w6 g3 24 .u32 [a, a, b, cc, d, e, f, g]) := H6
        have N1 : Hid (Arr w6 g1 24 .u32 hs) := Lib.hid (A1.out.below B6 Hg.out.2.2.2.2.2.2.1)
        have N2 : Hid (Arr w6 g2 24 .u32 (Zs 8)) := Lib.hid (A2.out.below B6 Hg.out.2.2.2.2.2.2.2)
        have NB : Hid (Below w.heap.size w w6) := Lib.hid (Hbr.out.trans (B6.mono Hg.out.2.2.1))
        clear H6 B6 c0 c1 c2 c3 c4 c5 c6 c7
        have c4 := N3.out.at_ (j := 4) rfl
        have c0 := N3.out.at_ (j := 0) rfl
        have f4 := N3.out.frozen 4
        have f0 := N3.out.frozen 0
        go_wp2
        have M3 : Hid (Arr ((w6.setCell ⟨g3, 4, none⟩ (.int .u32 (sd : Int))).setCell ⟨g3, 0, none⟩ (.int .u32 (sx : Int))) g3 24 .u32 (roundsU W (t + 1) hs)) := Lib.hid (by
          rw [Hv2.out, Hr2.out]
          exact (N3.out.set (j := 4) (n := sd)).set (j := 0) (n := sx))
        have M1 : Hid (Arr ((w6.setCell ⟨g3, 4, none⟩ (.int .u32 (sd : Int))).setCell ⟨g3, 0, none⟩ (.int .u32 (sx : Int))) g1 24 .u32 hs) := Lib.hid ((N1.out.other Hg.out.2.2.2.2.1).other Hg.out.2.2.2.2.1)
        have M2 : Hid (Arr ((w6.setCell ⟨g3, 4, none⟩ (.int .u32 (sd : Int))).setCell ⟨g3, 0, none⟩ (.int .u32 (sx : Int))) g2 24 .u32 (Zs 8)) := Lib.hid ((N2.out.other Hg.out.2.2.2.2.2.1).other Hg.out.2.2.2.2.2.1)
        have MB : Hid (Below w.heap.size w ((w6.setCell ⟨g3, 4, none⟩ (.int .u32 (sd : Int))).setCell ⟨g3, 0, none⟩ (.int .u32 (sx : Int)))) := Lib.hid ((NB.out.setCell Hg.out.2.2.1 _).setCell Hg.out.2.2.1 _)
        go_roundw
        case rel => exact ⟨t + 1, by omega, by go_num, M1, M2, M3, MB⟩
        case measure => simp [intOf]; omega
      · obtain rfl : t = 64 := by omega
        rw [show ((64 : Nat) : Int) = 64 from rfl]
        have hv := roundsU_eight W 64 Hh.out
        revert hv A3
        generalize hv3 : roundsU W 64 hs = v
        intro A3 hv
        have Hvl : Hid (v.length = 8) := Lib.hid hv.1
        have Hpl : Hid ((plusU v hs).length = 8) := Lib.hid (plusU_eight hv Hh.out).1
        have Hhl : Hid (hs.length = 8) := Lib.hid Hh.out.1
        have Hpg : Hid (∀ j x y, v[j]? = some x → hs[j]? = some y → (plusU v hs)[j]? = some ((x + y) % 4294967296)) := Lib.hid (by
          intro j x y h1 h2
          unfold plusU
          rw [List.getElem?_zipWith, h1, h2])
        clear hv
        revert Hpl Hpg
        generalize hp3 : plusU v hs = p
        intro Hpl Hpg
        have HP : Hid (plusU (roundsU W 64 hs) hs = p) := Lib.hid (by rw [hv3, hp3])
        clear hv3 hp3
        go_wp2
        go_loopw [80] (fun i wr => ∃ j : Nat, j ≤ 8 ∧ i = .int .i64 (j : Int) ∧ Hid (Arr wr g1 24 .u32 hs) ∧ Hid (Arr wr g2 24 .u32 (Zs 8)) ∧ Hid (Arr wr g3 24 .u32 (p.take j ++ v.drop j)) ∧ Hid (Below w.heap.size w wr)) (fun i _ => 8 - (intOf i).toNat)
        case atStart => exact ⟨0, by omega, rfl, A1, A2, A3, Hbr⟩
        case round =>
          clear A1 A2 A3 Hbr
          obtain ⟨j, hj, rfl, A1, A2, A3, Hbr⟩ := hrel
          by_cases hj8 : j < 8
          · have hjp : j < p.length := by rw [Hpl.out]; exact hj8
            have hjv : j < v.length := by rw [Hvl.out]; exact hj8
            have hjh : j < hs.length := by rw [Hhl.out]; exact hj8
            have c3 := A3.out.at_ (fill_get hjv (Nat.le_of_lt hjp))
            have c1 := A1.out.cell hjh
            have f3 := A3.out.frozen j
            have hp := Hpg.out j _ _ (List.getElem?_eq_getElem hjv) (List.getElem?_eq_getElem hjh)
            have hpe : p[j] = (v[j] + hs[j]) % 4294967296 := (List.getElem?_eq_some_iff.1 hp).2
            have Hset : Hid ((p.take j ++ v.drop j).set j ((v[j] + hs[j]) % 4294967296) = p.take (j + 1) ++ v.drop (j + 1)) := Lib.hid (by rw [← hpe]; exact fill_set hjp hjv)
            clear hp hpe
            revert c3 c1 Hset
            generalize v[j] = x
            generalize hs[j] = y
            intro c3 c1 Hset
            obtain ⟨z, hz⟩ : ∃ z : Nat, (x + y) % 4294967296 = z := ⟨_, rfl⟩
            rw [hz] at Hset
            have v1 : ((x : Int) + (y : Int)) % 4294967296 = (z : Int) := by omega
            have u1 : IntKind.u32.wrap ((x : Int) + (y : Int)) = (z : Int) := by rw [IntKind.wrap_u32]; omega
            clear hz
            go_wp2
            go_region
            go_wp2
            go_roundw
            case rel => exact ⟨j + 1, by omega, by go_num, Lib.hid (A1.out.other Hg.out.2.2.2.2.1), Lib.hid (A2.out.other Hg.out.2.2.2.2.2.1), Lib.hid (by rw [← Hset.out]; exact A3.out.set), Lib.hid ((Hbr.out.setCell Hg.out.2.2.1 _).drew)⟩
            case measure => simp [intOf]; omega
          · obtain rfl : j = 8 := by omega
            have A3' : Hid (Arr wr g3 24 .u32 p) := Lib.hid (by have h := A3.out; rwa [fill_all Hpl.out Hvl.out] at h)
            go_wp2_with (first
              | refine wp_load_arr arr8 rfl (.tmp 5) rfl rfl A3'.out Hpl.out ?_
              | refine wp_put_arr arr8 rfl (.tmp 4) (.tmp 92) rfl rfl (l' := p) rfl A2.out (Zs_length _) Hpl.out ?_)
            intro w4 A4 Hm4 Hs4
            go_wp2
            exact ret_arr arr8 rfl rfl A4.out Hpl.out rfl ⟨by rw [HP.out], Hbr.out.trans (Hm4.out.below (fun k hk => by have := Hg.out; omega) Hbr.out.size)⟩
  · have Hw : Hid (blockU hs xs = hs) := Lib.hid (by unfold blockU; rw [if_neg (by omega)])
    rw [Hw.out]
    have h64' : ¬ (n : Int) = 64 := by omega
    go_enter Tryd.func19, Tryd.ntmps19
    go_wp2_with (refine wp_box_arr (k := .u32) rfl 24 (.tmp 0) rfl hs rfl ?_)
    intro w1 g1 G1 H1 Hb1 Hs1
    go_wp2_with (refine wp_alloc_arr (k := .u32) rfl 24 rfl 8 zero8 ?_)
    intro w2 g2 G2 H2 Hb2 Hs2
    have H1' : Hid (Arr w2 g1 24 .u32 hs) := Lib.hid (H1.out.below Hb2.out (by have := G1.out; have := Hs1.out; omega))
    have Hb : Hid (Below w.heap.size w w2) := Lib.hid (Hb1.out.trans (Hb2.out.mono (by have := Hs1.out; omega)))
    go_wp2_with (first
      | refine wp_load_arr arr8 rfl (.tmp 2) rfl rfl H1'.out Hh.out.1 ?_
      | refine wp_put_arr arr8 rfl (.tmp 4) (.tmp 15) rfl rfl (l' := hs) rfl H2.out (Zs_length _) Hh.out.1 ?_)
    intro w4 A4 Hm4 Hs4
    go_wp2
    exact ret_arr arr8 rfl rfl A4.out Hh.out.1 rfl ⟨rfl, Hb.out.trans (Hm4.out.below (fun k hk => by have := G2.out; have := Hs1.out; omega) Hb.out.size)⟩

end Go.Proofs.YtpnifmghbfajiaaDoor
