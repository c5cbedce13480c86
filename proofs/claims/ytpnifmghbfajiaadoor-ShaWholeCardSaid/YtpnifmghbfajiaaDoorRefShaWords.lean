import Derived.Test.YtpnifmghbfajiaaDoorShaWords
import Derived.Test.YtpnifmghbfajiaaDoorRefGet
namespace Go.Proofs.YtpnifmghbfajiaaDoor
open Go.RowKit

set_option maxHeartbeats 1600000 in
theorem rwords_any (B n c : Nat) (A : Option Addr) (xs : List UInt8) (w : World) (hx : Rd w B A n (Byt xs)) (hnc : n ≤ c) (hn : n ≤ 8796093022208) (hB : B ≤ w.heap.size) :
    Calls Tryd.prog 18 #[.slice A n c] w (AnsA w .u32 (wordsU xs)) := by
  have hxl := hx.bytes
  by_cases h64 : n = 64
  · subst h64
    have Hw : Hid (wordsU xs = wordsL xs 64) := Lib.hid (by unfold wordsU; rw [if_pos hxl])
    have Hlow : Hid (∀ j, j < 16 → (wordsL xs 64).getD j 0 = getL ((xs.drop (4 * j)).take 4)) := Lib.hid fun j h => words_low h
    have Hhigh : Hid (∀ t, 16 ≤ t → t < 64 → (wordsL xs 64).getD t 0 = (sig1U ((wordsL xs 64).getD (t - 2) 0) + (wordsL xs 64).getD (t - 7) 0 + sig0U ((wordsL xs 64).getD (t - 15) 0) + (wordsL xs 64).getD (t - 16) 0) % 4294967296) := Lib.hid fun t h h2 => words_high h h2
    have Hlen : Hid ((wordsL xs 64).length = 64) := Lib.hid (words_len xs)
    have Hlt : Hid (∀ j, (wordsL xs 64).getD j 0 < 4294967296) := Lib.hid (getD_lt (wordsL_lt xs 64) (by decide))
    rw [Hw.out]
    clear Hw
    revert Hlow Hhigh Hlen Hlt
    generalize wordsL xs 64 = L
    intro Hlow Hhigh Hlen Hlt
    obtain ⟨b, o, rfl, hbB, -⟩ := hx.2 (by decide)
    have Hx := Lib.hid hx
    have Hxl := Lib.hid hxl
    clear hx hxl
    go_enter Tryd.func18, Tryd.ntmps18
    go_wp2_with (refine wp_alloc_arr (k := .u32) rfl 26 rfl 64 zero64 ?_)
    intro w1 g1 G1 H1 Hb1 Hs1
    go_wp2_with (refine wp_alloc_arr (k := .u32) rfl 26 rfl 64 zero64 ?_)
    intro w2 g2 G2 H2 Hb2 Hs2
    have Hg : Hid (w.heap.size ≤ g1 ∧ g1 ≠ g2 ∧ w.heap.size ≤ g2) := Lib.hid (by have := G1.out; have := G2.out; have := Hs1.out; omega)
    have H1' : Hid (Arr w2 g1 26 .u32 (Zs 64)) := Lib.hid (H1.out.below Hb2.out (by have := G1.out; have := Hs1.out; omega))
    have Hb : Hid (Below w.heap.size w w2) := Lib.hid (Hb1.out.trans (Hb2.out.mono (by have := Hs1.out; omega)))
    clear H1 Hb1 Hb2 G1 G2 Hs1 Hs2
    go_wp2
    go_loopw [4] (fun i wr => ∃ j : Nat, j ≤ 16 ∧ i = .int .i64 (j : Int) ∧ Hid (Arr wr g1 26 .u32 (Zs 64)) ∧ Hid (Arr wr g2 26 .u32 (L.take j ++ (Zs 64).drop j)) ∧ Hid (Below w.heap.size w wr)) (fun i _ => 16 - (intOf i).toNat)
    case atStart => exact ⟨0, by omega, rfl, H1', H2, Hb⟩
    case round =>
      clear H1' H2 Hb
      obtain ⟨j, hj, rfl, A1, A2, Hbr⟩ := hrel
      by_cases hj16 : j < 16
      · have hp := (Hx.out.below (Hbr.out.mono hB)).part (p := 4 * j) (q := 4) (by omega)
        rw [← Byt_drop, ← Byt_take] at hp
        have Hp := Lib.hid hp; clear hp
        have hV : getV ((xs.drop (4 * j)).take 4) = .tuple #[.int .u64 ((L.getD j 0 : Nat) : Int), .int .i64 0] := by
          have hl4 : ((xs.drop (4 * j)).take 4).length = 4 := by rw [List.length_take, List.length_drop, Hxl.out]; omega
          unfold getV
          rw [if_pos (by omega), Hlow.out j hj16]
        have hg := fun c' => rget_any B 4 c' (some ⟨b, o + 4 * j, none⟩) _ wr Hp.out (by unfold maxLen; omega)
        rw [hV] at hg
        have hxb := Hlt.out j
        have hjL : j < L.length := by rw [Hlen.out]; omega
        have hjZ : j < (Zs 64).length := by rw [Zs_length]; omega
        have Hset : Hid ((L.take j ++ (Zs 64).drop j).set j (L.getD j 0) = L.take (j + 1) ++ (Zs 64).drop (j + 1)) := Lib.hid (by
          rw [List.getD_eq_getElem?_getD, List.getElem?_eq_getElem hjL]; exact fill_set hjL hjZ)
        have hc3 := A2.out.at_ (fill_get hjZ (Nat.le_of_lt hjL))
        revert hg hxb Hset hc3
        generalize L.getD j 0 = x
        generalize (Zs 64)[j] = z0
        intro hg hxb Hset hc3
        have t1 : (4 * (j : Int)).toNat = 4 * j := by omega
        have t2 : (4 * (j : Int) + 4).toNat - 4 * j = 4 := by omega
        have hxc : (x : Int) % 4294967296 = (x : Int) := by omega
        have hf3 := A2.out.frozen j
        go_wp2_with fail
        refine (hg _).mono ?_
        rintro e w3 ⟨rfl, hb3⟩
        have A3 : Hid (Arr w3 g2 26 .u32 (L.take j ++ (Zs 64).drop j)) := Lib.hid (A2.out.below hb3 A2.out.lt)
        have A1' : Hid (Arr w3 g1 26 .u32 (Zs 64)) := Lib.hid (A1.out.below hb3 A1.out.lt)
        have Hbr3 : Hid (Below w.heap.size w w3) := Lib.hid (Hbr.out.trans (hb3.mono Hbr.out.size))
        have hc3' := A3.out.cell (j := j) (by rw [fill_length (by rw [Hlen.out, Zs_length])]; exact hjZ)
        have hf3' := A3.out.frozen j
        clear hb3
        go_wp2
        go_roundw
        case rel => exact ⟨j + 1, by omega, by go_num, Lib.hid (A1'.out.other Hg.out.2.1), Lib.hid (by rw [← Hset.out]; exact A3.out.set), Lib.hid (Hbr3.out.setCell Hg.out.2.2 _)⟩
        case measure => simp [intOf]; omega
      · obtain rfl : j = 16 := by omega
        rw [show ((16 : Nat) : Int) = 16 from rfl]
        go_wp2
        go_loopw [7] (fun i wr => ∃ t : Nat, 16 ≤ t ∧ t ≤ 64 ∧ i = .int .i64 (t : Int) ∧ Hid (Arr wr g1 26 .u32 (Zs 64)) ∧ Hid (Arr wr g2 26 .u32 (L.take t ++ (Zs 64).drop t)) ∧ Hid (Below w.heap.size w wr)) (fun i _ => 64 - (intOf i).toNat)
        case atStart => exact ⟨16, by omega, by omega, rfl, A1, A2, Hbr⟩
        case round =>
          clear A1 A2 Hbr
          obtain ⟨t, ht16, ht, rfl, A1, A2, Hbr⟩ := hrel
          by_cases ht64 : t < 64
          · have hL : L.length = 64 := Hlen.out
            have hst := Hhigh.out t ht16 ht64
            have q2 : (L.take t ++ (Zs 64).drop t)[t - 2]? = some (L.getD (t - 2) 0) := take_get (by omega) (by omega)
            have q15 : (L.take t ++ (Zs 64).drop t)[t - 15]? = some (L.getD (t - 15) 0) := take_get (by omega) (by omega)
            have q7 : (L.take t ++ (Zs 64).drop t)[t - 7]? = some (L.getD (t - 7) 0) := take_get (by omega) (by omega)
            have q16 : (L.take t ++ (Zs 64).drop t)[t - 16]? = some (L.getD (t - 16) 0) := take_get (by omega) (by omega)
            have htL : t < L.length := by omega
            have htZ : t < (Zs 64).length := by rw [Zs_length]; omega
            have hlen2 : (L.take t ++ (Zs 64).drop t).length = 64 := by rw [fill_length (by rw [hL, Zs_length]), Zs_length]
            have Hset : Hid ((L.take t ++ (Zs 64).drop t).set t (L.getD t 0) = L.take (t + 1) ++ (Zs 64).drop (t + 1)) := Lib.hid (by
              rw [List.getD_eq_getElem?_getD, List.getElem?_eq_getElem htL]; exact fill_set htL htZ)
            have c7 := A2.out.at_ q7
            have c16 := A2.out.at_ q16
            obtain ⟨zt, ct⟩ : ∃ zt, wr.cell? ⟨g2, t, none⟩ = some zt := ⟨_, A2.out.cell (j := t) (by omega)⟩
            have ft := A2.out.frozen t
            have b2 := Hlt.out (t - 2)
            have b7 := Hlt.out (t - 7)
            have b15 := Hlt.out (t - 15)
            have b16 := Hlt.out (t - 16)
            have c2 := A2.out.at_ q2
            have c15 := A2.out.at_ q15
            have Hs1 : Hid (sig1U (L.getD (t - 2) 0) = rotU 17 (L.getD (t - 2) 0) ^^^ rotU 19 (L.getD (t - 2) 0) ^^^ L.getD (t - 2) 0 / 1024) := Lib.hid rfl
            have Hs0 : Hid (sig0U (L.getD (t - 15) 0) = rotU 7 (L.getD (t - 15) 0) ^^^ rotU 18 (L.getD (t - 15) 0) ^^^ L.getD (t - 15) 0 / 8) := Lib.hid rfl
            have s1b : sig1U (L.getD (t - 2) 0) < 4294967296 := sig1U_lt b2
            have s0b : sig0U (L.getD (t - 15) 0) < 4294967296 := sig0U_lt b15
            have hxt := Hlt.out t
            clear q2 q15 q7 q16 hlen2 hL
            revert hst c7 c16 c2 c15 s1b s0b Hs1 Hs0 Hset b7 b16 b2 b15 hxt
            generalize sig1U (L.getD (t - 2) 0) = s1
            generalize sig0U (L.getD (t - 15) 0) = s0
            generalize L.getD (t - 2) 0 = x
            generalize L.getD (t - 15) 0 = y
            generalize L.getD (t - 7) 0 = w7
            generalize L.getD (t - 16) 0 = w16
            generalize L.getD t 0 = wt
            obtain ⟨i2, e2⟩ : ∃ i2 : Nat, t - 2 = i2 := ⟨_, rfl⟩
            obtain ⟨i7, e7⟩ : ∃ i7 : Nat, t - 7 = i7 := ⟨_, rfl⟩
            obtain ⟨i15, e15⟩ : ∃ i15 : Nat, t - 15 = i15 := ⟨_, rfl⟩
            obtain ⟨i16, e16⟩ : ∃ i16 : Nat, t - 16 = i16 := ⟨_, rfl⟩
            rw [e2, e7, e15, e16]
            intro hst Hset c7 c16 b2 b7 b15 b16 c2 c15 Hs1 Hs0 s1b s0b hxt
            have hr1 : ∀ w', Calls Tryd.prog 32 #[.int .u32 (x : Int), .int .i64 17] w' fun e w'' => e = .returned (.int .u32 ((rotU 17 x : Nat) : Int)) ∧ ∃ k, w'' = w'.drewN k := fun w' => rright_any x 17 w' b2 (by decide) (by decide)
            have hr2 : ∀ w', Calls Tryd.prog 32 #[.int .u32 (x : Int), .int .i64 19] w' fun e w'' => e = .returned (.int .u32 ((rotU 19 x : Nat) : Int)) ∧ ∃ k, w'' = w'.drewN k := fun w' => rright_any x 19 w' b2 (by decide) (by decide)
            have hr3 : ∀ w', Calls Tryd.prog 32 #[.int .u32 (y : Int), .int .i64 7] w' fun e w'' => e = .returned (.int .u32 ((rotU 7 y : Nat) : Int)) ∧ ∃ k, w'' = w'.drewN k := fun w' => rright_any y 7 w' b15 (by decide) (by decide)
            have hr4 : ∀ w', Calls Tryd.prog 32 #[.int .u32 (y : Int), .int .i64 18] w' fun e w'' => e = .returned (.int .u32 ((rotU 18 y : Nat) : Int)) ∧ ∃ k, w'' = w'.drewN k := fun w' => rright_any y 18 w' b15 (by decide) (by decide)
            have r1b : rotU 17 x < 4294967296 := rotU_lt b2
            have r2b : rotU 19 x < 4294967296 := rotU_lt b2
            have r3b : rotU 7 y < 4294967296 := rotU_lt b15
            have r4b : rotU 18 y < 4294967296 := rotU_lt b15
            have m1 := u32_xor_nat (rotU 17 x) (rotU 19 x) r1b r2b
            have m2 := u32_xor_nat (rotU 17 x ^^^ rotU 19 x) (x / 1024) (Nat.xor_lt_two_pow (n := 32) r1b r2b) (by omega)
            have m3 := u32_xor_nat (rotU 7 y) (rotU 18 y) r3b r4b
            have m4 := u32_xor_nat (rotU 7 y ^^^ rotU 18 y) (y / 8) (Nat.xor_lt_two_pow (n := 32) r3b r4b) (by omega)
            rw [← Hs1.out, show ((x / 1024 : Nat) : Int) = (x : Int) / 1024 by rw [Int.natCast_ediv]; rfl] at m2
            rw [← Hs0.out, show ((y / 8 : Nat) : Int) = (y : Int) / 8 by rw [Int.natCast_ediv]; rfl] at m4
            clear Hs1 Hs0 r1b r2b r3b r4b
            revert hr1 hr2 hr3 hr4 m1 m2 m3 m4
            generalize rotU 17 x ^^^ rotU 19 x = a1
            generalize rotU 7 y ^^^ rotU 18 y = a0
            generalize rotU 17 x = r1
            generalize rotU 19 x = r2
            generalize rotU 7 y = r3
            generalize rotU 18 y = r4
            intro hr1 hr2 hr3 hr4 m1 m2 m3 m4
            have p10 : (2 : Int) ^ 10 = 1024 := by decide
            have p3 : (2 : Int) ^ 3 = 8 := by decide
            have f2 : (t : Int) - 2 = (i2 : Int) := by omega
            have f7 : (t : Int) - 7 = (i7 : Int) := by omega
            have f15 : (t : Int) - 15 = (i15 : Int) := by omega
            have f16 : (t : Int) - 16 = (i16 : Int) := by omega
            have l7 : i7 < 64 := by omega
            have l16 : i16 < 64 := by omega
            have l7' : (i7 : Int) < 64 := by omega
            have l2' : (i2 : Int) < 64 := by omega
            have l15' : (i15 : Int) < 64 := by omega
            have l2 : i2 < 64 := by omega
            have l15 : i15 < 64 := by omega
            have l16' : (i16 : Int) < 64 := by omega
            have n7 : i7 ≠ t := by omega
            have n16 : i16 ≠ t := by omega
            have x2 : IntKind.i64.wrap (i2 : Int) = (i2 : Int) := IntWalk.i64_in _ ⟨by omega, by omega⟩
            have x7 : IntKind.i64.wrap (i7 : Int) = (i7 : Int) := IntWalk.i64_in _ ⟨by omega, by omega⟩
            have x15 : IntKind.i64.wrap (i15 : Int) = (i15 : Int) := IntWalk.i64_in _ ⟨by omega, by omega⟩
            have x16 : IntKind.i64.wrap (i16 : Int) = (i16 : Int) := IntWalk.i64_in _ ⟨by omega, by omega⟩
            obtain ⟨y1, hy1⟩ : ∃ y1 : Nat, (s1 + w7) % 4294967296 = y1 := ⟨_, rfl⟩
            obtain ⟨y2, hy2⟩ : ∃ y2 : Nat, (y1 + s0) % 4294967296 = y2 := ⟨_, rfl⟩
            have u1 : IntKind.u32.wrap ((s1 : Int) + (w7 : Int)) = (y1 : Int) := by rw [IntKind.wrap_u32]; omega
            have u2 : IntKind.u32.wrap ((y1 : Int) + (s0 : Int)) = (y2 : Int) := by rw [IntKind.wrap_u32]; omega
            have u3 : IntKind.u32.wrap ((y2 : Int) + (w16 : Int)) = (wt : Int) := by rw [IntKind.wrap_u32]; omega
            clear e2 e7 e15 e16 hy1 hy2 hst
            go_wp2_with fail
            go_quiet (fail)
            go_wp2_with fail
            first
              | (go_region_held (fun w' => w'.cell? ⟨g2, i7, none⟩ = some (.int .u32 (w7 : Int)) ∧ w'.cell? ⟨g2, i16, none⟩ = some (.int .u32 (w16 : Int)))
                (first | exact ⟨c7, c16⟩ | exact ⟨(World.cell?_setCell_other _ _ _ _ (by first | (simp; done) | (simp; omega))).trans c7, (World.cell?_setCell_other _ _ _ _ (by first | (simp; done) | (simp; omega))).trans c16⟩)
                (first | (go_at_call 32; (with_reducible refine (hr1 _).mono ?_); rintro e w3 ⟨rfl, k1, rfl⟩) | (go_at_call 32; (with_reducible refine (hr2 _).mono ?_); rintro e w3 ⟨rfl, k2, rfl⟩) | (go_at_call 32; (with_reducible refine (hr3 _).mono ?_); rintro e w3 ⟨rfl, k3, rfl⟩) | (go_at_call 32; (with_reducible refine (hr4 _).mono ?_); rintro e w3 ⟨rfl, k4, rfl⟩)))
              | fail
            have A2' : ∀ k, Hid (Arr ((wr.drewN k).setCell ⟨g2, t, none⟩ (.int .u32 (wt : Int))) g2 26 .u32 (L.take (t + 1) ++ (Zs 64).drop (t + 1))) := fun k => Lib.hid (by rw [← Hset.out]; exact (A2.out.drewN k).set)
            have A1' : ∀ k, Hid (Arr ((wr.drewN k).setCell ⟨g2, t, none⟩ (.int .u32 (wt : Int))) g1 26 .u32 (Zs 64)) := fun k => Lib.hid ((A1.out.drewN k).other Hg.out.2.1)
            have Hb' : ∀ k, Hid (Below w.heap.size w ((wr.drewN k).setCell ⟨g2, t, none⟩ (.int .u32 (wt : Int)))) := fun k => Lib.hid ((bdrewN Hbr.out k).setCell Hg.out.2.2 _)
            go_wp2
            go_roundw
            case rel => exact ⟨t + 1, by omega, by omega, by go_num, A1' _, A2' _, Hb' _⟩
            case measure => simp [intOf]; omega
          · obtain rfl : t = 64 := by omega
            have A2' : Hid (Arr wr g2 26 .u32 L) := Lib.hid (by have h := A2.out; rwa [fill_all Hlen.out (Zs_length 64)] at h)
            go_wp2_with (first
              | refine wp_load_arr arr64 rfl (.tmp 3) rfl rfl A2'.out Hlen.out ?_
              | refine wp_put_arr arr64 rfl (.tmp 2) (.tmp 74) rfl rfl (l' := L) rfl A1.out (Zs_length _) Hlen.out ?_)
            intro w4 A4 Hm4 Hs4
            go_wp2
            exact ret_arr arr64 rfl rfl A4.out Hlen.out rfl ⟨rfl, Hbr.out.trans (Hm4.out.below (fun k hk => by have := Hg.out; omega) Hbr.out.size)⟩
  · have Hw : Hid (wordsU xs = Zs 64) := Lib.hid (by unfold wordsU; rw [if_neg (by omega)]; rfl)
    rw [Hw.out]
    have h64' : ¬ (n : Int) = 64 := by omega
    go_enter Tryd.func18, Tryd.ntmps18
    go_wp2_with (refine wp_alloc_arr (k := .u32) rfl 26 rfl 64 zero64 ?_)
    intro w1 g1 G1 H1 Hb1 Hs1
    go_wp2_with (refine wp_alloc_arr (k := .u32) rfl 26 rfl 64 zero64 ?_)
    intro w2 g2 G2 H2 Hb2 Hs2
    have H1' : Hid (Arr w2 g1 26 .u32 (Zs 64)) := Lib.hid (H1.out.below Hb2.out (by have := G1.out; have := Hs1.out; omega))
    have Hb : Hid (Below w.heap.size w w2) := Lib.hid (Hb1.out.trans (Hb2.out.mono (by have := Hs1.out; omega)))
    go_wp2_with (first
      | refine wp_load_arr arr64 rfl (.tmp 3) rfl rfl H2.out (Zs_length _) ?_
      | refine wp_put_arr arr64 rfl (.tmp 2) (.tmp 13) rfl rfl (l' := Zs 64) rfl H1'.out (Zs_length _) (Zs_length _) ?_)
    intro w4 A4 Hm4 Hs4
    go_wp2
    exact ret_arr arr64 rfl rfl A4.out (Zs_length _) rfl ⟨rfl, Hb.out.trans (Hm4.out.below (fun k hk => by have := G1.out; omega) Hb.out.size)⟩

end Go.Proofs.YtpnifmghbfajiaaDoor
