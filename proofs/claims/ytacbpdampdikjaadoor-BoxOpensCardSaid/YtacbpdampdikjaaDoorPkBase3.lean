/-
  Some of the texts that the last one of these needs: walks of the functions that the law calls, and the mathematics of their answers.
-/
import Derived.Test.YtacbpdampdikjaaDoorPkBase2
import Derived.Laws.BitsAllLaws
import Derived.Test.YtacbpdampdikjaaDoorPkBase1
import Derived.StillTailTactics
import Derived.OwnWalkIn
import Derived.TacticsInMore
import Derived.Test.YtacbpdampdikjaaDoorRows
import Derived.Carry
import Derived.ChangeSame
import Derived.ChangeMaps5
import Derived.Lib.AppendZeros
namespace Go.Proofs.YtacbpdampdikjaaDoor
open Go.RowKit

theorem zero64 : (Tryd.prog.info? 57).map (fun i => (i.zero, i.size)) = some (some (.agg (Nums .u32 (Zs 64))), 64) := by kernel_rfl
theorem zero8 : (Tryd.prog.info? 59).map (fun i => (i.zero, i.size)) = some (some (.agg (Nums .u32 (Zs 8))), 8) := by kernel_rfl

/-- What the walk knows of a place that is filled so far. -/
theorem take_get {L M : List Nat} {t j : Nat} (h : j < t) (ht : t ≤ L.length) : (L.take t ++ M)[j]? = some (L.getD j 0) := by
  rw [List.getElem?_append_left (by rw [List.length_take]; omega), List.getElem?_take_of_lt h, List.getD_eq_getElem?_getD, List.getElem?_eq_getElem (show j < L.length by omega)]
  rfl

set_option maxHeartbeats 1600000 in
theorem words_any (B n c : Nat) (A : Option Addr) (xs : List UInt8) (w : World) (hx : Rd w B A n (Byt xs)) (hnc : n ≤ c) (hn : n ≤ 8796093022208) (hB : B ≤ w.heap.size) :
    Calls Tryd.prog 83 #[.slice A n c] w (AnsA w .u32 (wordsU xs)) := by
  have hxl := hx.bytes
  by_cases h64 : n = 64
  · subst h64
    have Hw : Hid (wordsU xs = wordsL xs 64) := Lib.hid (by unfold wordsU; rw [if_pos hxl])
    have Hlow : Hid (∀ j, j < 16 → (wordsL xs 64).getD j 0 = getL ((xs.drop (4 * j)).take 4)) := Lib.hid fun j h => words_low h
    have Hhigh : Hid (∀ t, 16 ≤ t → t < 64 → (wordsL xs 64).getD t 0 = (sig1U ((wordsL xs 64).getD (t - 2) 0) + (wordsL xs 64).getD (t - 7) 0 + sig0U ((wordsL xs 64).getD (t - 15) 0) + (wordsL xs 64).getD (t - 16) 0) % 4294967296) := Lib.hid fun t h h2 => words_high h h2
    have Hlen : Hid ((wordsL xs 64).length = 64) := Lib.hid (words_len xs)
    have Hlt : Hid (∀ j, (wordsL xs 64).getD j 0 < 4294967296) := Lib.hid (getD_lt (wordsL_lt xs 64) (by decide))
    rw [Hw.out]
    clear Hw
    revert Hlow Hhigh Hlen Hlt
    generalize wordsL xs 64 = L
    intro Hlow Hhigh Hlen Hlt
    obtain ⟨b, o, rfl, hbB, -⟩ := hx.2 (by decide)
    have Hx := Lib.hid hx
    have Hxl := Lib.hid hxl
    clear hx hxl
    go_enter Tryd.func83, Tryd.ntmps83
    go_wp2_with (refine wp_alloc_arr (k := .u32) rfl 57 rfl 64 zero64 ?_)
    intro w1 g1 G1 H1 Hb1 Hs1
    go_wp2_with (refine wp_alloc_arr (k := .u32) rfl 57 rfl 64 zero64 ?_)
    intro w2 g2 G2 H2 Hb2 Hs2
    have Hg : Hid (w.heap.size ≤ g1 ∧ g1 ≠ g2 ∧ w.heap.size ≤ g2) := Lib.hid (by have := G1.out; have := G2.out; have := Hs1.out; omega)
    have H1' : Hid (Arr w2 g1 57 .u32 (Zs 64)) := Lib.hid (H1.out.below Hb2.out (by have := G1.out; have := Hs1.out; omega))
    have Hb : Hid (Below w.heap.size w w2) := Lib.hid (Hb1.out.trans (Hb2.out.mono (by have := Hs1.out; omega)))
    clear H1 Hb1 Hb2 G1 G2 Hs1 Hs2
    go_wp2
    go_loopw [13] (fun i wr => ∃ j : Nat, j ≤ 16 ∧ i = .int .i64 (j : Int) ∧ Hid (Arr wr g1 57 .u32 (Zs 64)) ∧ Hid (Arr wr g2 57 .u32 (L.take j ++ (Zs 64).drop j)) ∧ Hid (Below w.heap.size w wr)) (fun i _ => 16 - (intOf i).toNat)
    case atStart => exact ⟨0, by omega, rfl, H1', H2, Hb⟩
    case round =>
      clear H1' H2 Hb
      obtain ⟨j, hj, rfl, A1, A2, Hbr⟩ := hrel
      by_cases hj16 : j < 16
      · have hp := (Hx.out.below (Hbr.out.mono hB)).part (p := 4 * j) (q := 4) (by omega)
        rw [← Byt_drop, ← Byt_take] at hp
        have Hp := Lib.hid hp; clear hp
        have hV : getV ((xs.drop (4 * j)).take 4) = .tuple #[.int .u64 ((L.getD j 0 : Nat) : Int), .int .i64 0] := by
          have hl4 : ((xs.drop (4 * j)).take 4).length = 4 := by rw [List.length_take, List.length_drop, Hxl.out]; omega
          unfold getV
          rw [if_pos (by omega), Hlow.out j hj16]
        have hg := fun c' => get_any B 4 c' (some ⟨b, o + 4 * j, none⟩) _ wr Hp.out (by unfold maxLen; omega)
        rw [hV] at hg
        have hxb := Hlt.out j
        have hjL : j < L.length := by rw [Hlen.out]; omega
        have hjZ : j < (Zs 64).length := by rw [Zs_length]; omega
        have Hset : Hid ((L.take j ++ (Zs 64).drop j).set j (L.getD j 0) = L.take (j + 1) ++ (Zs 64).drop (j + 1)) := Lib.hid (by
          rw [List.getD_eq_getElem?_getD, List.getElem?_eq_getElem hjL]; exact afill_set hjL hjZ)
        have hc3 := A2.out.at_ (fill_get hjZ (Nat.le_of_lt hjL))
        revert hg hxb Hset hc3
        generalize L.getD j 0 = x
        generalize (Zs 64)[j] = z0
        intro hg hxb Hset hc3
        have t1 : (4 * (j : Int)).toNat = 4 * j := by omega
        have t2 : (4 * ((j : Int) + 1)).toNat - 4 * j = 4 := by omega
        have hxc : (x : Int) % 4294967296 = (x : Int) := by omega
        have hf3 := A2.out.frozen j
        go_wp2_with fail
        refine (hg _).mono ?_
        rintro e w3 ⟨rfl, hb3⟩
        have A3 : Hid (Arr w3 g2 57 .u32 (L.take j ++ (Zs 64).drop j)) := Lib.hid (A2.out.below hb3 A2.out.lt)
        have A1' : Hid (Arr w3 g1 57 .u32 (Zs 64)) := Lib.hid (A1.out.below hb3 A1.out.lt)
        have Hbr3 : Hid (Below w.heap.size w w3) := Lib.hid (Hbr.out.trans (hb3.mono Hbr.out.size))
        have hc3' := A3.out.cell (j := j) (by rw [fill_length (by rw [Hlen.out, Zs_length])]; exact hjZ)
        have hf3' := A3.out.frozen j
        clear hb3
        go_wp2
        go_roundw
        case rel => exact ⟨j + 1, by omega, by go_num, Lib.hid (A1'.out.other Hg.out.2.1), Lib.hid (by rw [← Hset.out]; exact A3.out.set), Lib.hid (Hbr3.out.setCell Hg.out.2.2 _)⟩
        case measure => simp [intOf]; omega
      · obtain rfl : j = 16 := by omega
        rw [show ((16 : Nat) : Int) = 16 from rfl]
        have hmf : ∀ (fn : Fn) (first cap : Array Value) (w : World), (Instr.makeFunc fn first cap).run Tryd.prog w = .ok (.func fn first cap) w := fun _ _ _ _ => rfl
        go_wp2
        go_loopw [8] (fun i wr => ∃ t : Nat, 16 ≤ t ∧ t ≤ 64 ∧ i = .int .i64 (t : Int) ∧ Hid (Arr wr g1 57 .u32 (Zs 64)) ∧ Hid (Arr wr g2 57 .u32 (L.take t ++ (Zs 64).drop t)) ∧ Hid (Below w.heap.size w wr)) (fun i _ => 64 - (intOf i).toNat)
        case atStart => exact ⟨16, by omega, by omega, rfl, A1, A2, Hbr⟩
        case round =>
          clear A1 A2 Hbr
          obtain ⟨t, ht16, ht, rfl, A1, A2, Hbr⟩ := hrel
          by_cases ht64 : t < 64
          · have hL : L.length = 64 := Hlen.out
            have hst := Hhigh.out t ht16 ht64
            have q2 : (L.take t ++ (Zs 64).drop t)[t - 2]? = some (L.getD (t - 2) 0) := take_get (by omega) (by omega)
            have q15 : (L.take t ++ (Zs 64).drop t)[t - 15]? = some (L.getD (t - 15) 0) := take_get (by omega) (by omega)
            have q7 : (L.take t ++ (Zs 64).drop t)[t - 7]? = some (L.getD (t - 7) 0) := take_get (by omega) (by omega)
            have q16 : (L.take t ++ (Zs 64).drop t)[t - 16]? = some (L.getD (t - 16) 0) := take_get (by omega) (by omega)
            have htL : t < L.length := by omega
            have htZ : t < (Zs 64).length := by rw [Zs_length]; omega
            have hlen2 : (L.take t ++ (Zs 64).drop t).length = 64 := by rw [fill_length (by rw [hL, Zs_length]), Zs_length]
            have Hset : Hid ((L.take t ++ (Zs 64).drop t).set t (L.getD t 0) = L.take (t + 1) ++ (Zs 64).drop (t + 1)) := Lib.hid (by
              rw [List.getD_eq_getElem?_getD, List.getElem?_eq_getElem htL]; exact afill_set htL htZ)
            have c7 := A2.out.at_ q7
            have c16 := A2.out.at_ q16
            obtain ⟨zt, ct⟩ : ∃ zt, wr.cell? ⟨g2, t, none⟩ = some zt := ⟨_, A2.out.cell (j := t) (by omega)⟩
            have ft := A2.out.frozen t
            have b2 := Hlt.out (t - 2)
            have b7 := Hlt.out (t - 7)
            have b15 := Hlt.out (t - 15)
            have b16 := Hlt.out (t - 16)
            have h1 : ∀ w', w'.heap = wr.heap → Calls Tryd.prog 94 #[.int .i64 ((t - 2 : Nat) : Int), .int .i64 17, .int .i64 19, .int .i64 10, .pointer (some ⟨g2, 0, none⟩)] w'
                fun e w'' => e = .returned (.int .u32 ((sig1U (L.getD (t - 2) 0) : Nat) : Int)) ∧ ∃ k, w'' = w'.drewN k := fun w' h => wturn_any g2 (t - 2) 17 19 10 _ _ w' hlen2 q2 b2 (by decide) (by decide) (by decide) (A2.out.heap h)
            have h2 : ∀ w', w'.heap = wr.heap → Calls Tryd.prog 94 #[.int .i64 ((t - 15 : Nat) : Int), .int .i64 7, .int .i64 18, .int .i64 3, .pointer (some ⟨g2, 0, none⟩)] w'
                fun e w'' => e = .returned (.int .u32 ((sig0U (L.getD (t - 15) 0) : Nat) : Int)) ∧ ∃ k, w'' = w'.drewN k := fun w' h => wturn_any g2 (t - 15) 7 18 3 _ _ w' hlen2 q15 b15 (by decide) (by decide) (by decide) (A2.out.heap h)
            have s1b : sig1U (L.getD (t - 2) 0) < 4294967296 := sig1U_lt b2
            have s0b : sig0U (L.getD (t - 15) 0) < 4294967296 := sig0U_lt b15
            have hxt := Hlt.out t
            clear q2 q15 q7 q16 b2 b15 hlen2 hL
            revert hst c7 c16 h1 h2 s1b s0b Hset b7 b16 hxt
            generalize sig1U (L.getD (t - 2) 0) = s1
            generalize sig0U (L.getD (t - 15) 0) = s0
            generalize L.getD (t - 7) 0 = w7
            generalize L.getD (t - 16) 0 = w16
            generalize L.getD t 0 = wt
            obtain ⟨i2, e2⟩ : ∃ i2 : Nat, t - 2 = i2 := ⟨_, rfl⟩
            obtain ⟨i7, e7⟩ : ∃ i7 : Nat, t - 7 = i7 := ⟨_, rfl⟩
            obtain ⟨i15, e15⟩ : ∃ i15 : Nat, t - 15 = i15 := ⟨_, rfl⟩
            obtain ⟨i16, e16⟩ : ∃ i16 : Nat, t - 16 = i16 := ⟨_, rfl⟩
            rw [e2, e7, e15, e16]
            intro hst Hset c7 c16 b7 b16 h1 h2 s1b s0b hxt
            have f2 : (t : Int) - 2 = (i2 : Int) := by omega
            have f7 : (t : Int) - 7 = (i7 : Int) := by omega
            have f15 : (t : Int) - 15 = (i15 : Int) := by omega
            have f16 : (t : Int) - 16 = (i16 : Int) := by omega
            have l7 : i7 < 64 := by omega
            have l16 : i16 < 64 := by omega
            have l7' : (i7 : Int) < 64 := by omega
            have l16' : (i16 : Int) < 64 := by omega
            have n7 : i7 ≠ t := by omega
            have n16 : i16 ≠ t := by omega
            have x2 : IntKind.i64.wrap (i2 : Int) = (i2 : Int) := IntWalk.i64_in _ ⟨by omega, by omega⟩
            have x7 : IntKind.i64.wrap (i7 : Int) = (i7 : Int) := IntWalk.i64_in _ ⟨by omega, by omega⟩
            have x15 : IntKind.i64.wrap (i15 : Int) = (i15 : Int) := IntWalk.i64_in _ ⟨by omega, by omega⟩
            have x16 : IntKind.i64.wrap (i16 : Int) = (i16 : Int) := IntWalk.i64_in _ ⟨by omega, by omega⟩
            obtain ⟨y1, hy1⟩ : ∃ y1 : Nat, (s1 + w7) % 4294967296 = y1 := ⟨_, rfl⟩
            obtain ⟨y2, hy2⟩ : ∃ y2 : Nat, (y1 + s0) % 4294967296 = y2 := ⟨_, rfl⟩
            have u1 : IntKind.u32.wrap ((s1 : Int) + (w7 : Int)) = (y1 : Int) := by rw [IntKind.wrap_u32]; omega
            have u2 : IntKind.u32.wrap ((y1 : Int) + (s0 : Int)) = (y2 : Int) := by rw [IntKind.wrap_u32]; omega
            have u3 : IntKind.u32.wrap ((y2 : Int) + (w16 : Int)) = (wt : Int) := by rw [IntKind.wrap_u32]; omega
            clear e2 e7 e15 e16 hy1 hy2 hst
            go_wp2_with fail
            first
              | (go_region_held (fun w' => w'.cell? ⟨g2, i7, none⟩ = some (.int .u32 (w7 : Int)) ∧ w'.cell? ⟨g2, i16, none⟩ = some (.int .u32 (w16 : Int)))
                (first | exact ⟨c7, c16⟩ | exact ⟨(World.cell?_setCell_other _ _ _ _ (by first | (simp; done) | (simp; omega))).trans c7, (World.cell?_setCell_other _ _ _ _ (by first | (simp; done) | (simp; omega))).trans c16⟩)
                (first | (go_at_call 94; (with_reducible refine (h1 _ ?_).mono ?_); exact rfl; rintro e w3 ⟨rfl, k1, rfl⟩) | (go_at_call 94; (with_reducible refine (h2 _ ?_).mono ?_); exact rfl; rintro e w3 ⟨rfl, k2, rfl⟩)))
              | fail
            have A2' : ∀ k, Hid (Arr ((wr.drewN k).setCell ⟨g2, t, none⟩ (.int .u32 (wt : Int))) g2 57 .u32 (L.take (t + 1) ++ (Zs 64).drop (t + 1))) := fun k => Lib.hid (by rw [← Hset.out]; exact (A2.out.drewN k).set)
            have A1' : ∀ k, Hid (Arr ((wr.drewN k).setCell ⟨g2, t, none⟩ (.int .u32 (wt : Int))) g1 57 .u32 (Zs 64)) := fun k => Lib.hid ((A1.out.drewN k).other Hg.out.2.1)
            have Hb' : ∀ k, Hid (Below w.heap.size w ((wr.drewN k).setCell ⟨g2, t, none⟩ (.int .u32 (wt : Int)))) := fun k => Lib.hid ((bdrewN Hbr.out k).setCell Hg.out.2.2 _)
            go_wp2
            go_roundw
            case rel => exact ⟨t + 1, by omega, by omega, by go_num, A1' _, A2' _, Hb' _⟩
            case measure => simp [intOf]; omega
          · obtain rfl : t = 64 := by omega
            have A2' : Hid (Arr wr g2 57 .u32 L) := Lib.hid (by have h := A2.out; rwa [fill_all Hlen.out (Zs_length 64)] at h)
            go_wp2_with (first
              | refine wp_load_arr arr64 rfl (.tmp 3) rfl rfl A2'.out Hlen.out ?_
              | refine wp_put_arr arr64 rfl (.tmp 2) (.tmp 58) rfl rfl (l' := L) rfl A1.out (Zs_length _) Hlen.out ?_)
            intro w4 A4 Hm4 Hs4
            go_wp2
            exact ret_arr arr64 rfl rfl A4.out Hlen.out rfl ⟨rfl, Hbr.out.trans (Hm4.out.below (fun k hk => by have := Hg.out; omega) Hbr.out.size)⟩
  · have Hw : Hid (wordsU xs = Zs 64) := Lib.hid (by unfold wordsU; rw [if_neg (by omega)]; rfl)
    rw [Hw.out]
    have h64' : ¬ (n : Int) = 64 := by omega
    go_enter Tryd.func83, Tryd.ntmps83
    go_wp2_with (refine wp_alloc_arr (k := .u32) rfl 57 rfl 64 zero64 ?_)
    intro w1 g1 G1 H1 Hb1 Hs1
    go_wp2_with (refine wp_alloc_arr (k := .u32) rfl 57 rfl 64 zero64 ?_)
    intro w2 g2 G2 H2 Hb2 Hs2
    have H1' : Hid (Arr w2 g1 57 .u32 (Zs 64)) := Lib.hid (H1.out.below Hb2.out (by have := G1.out; have := Hs1.out; omega))
    have Hb : Hid (Below w.heap.size w w2) := Lib.hid (Hb1.out.trans (Hb2.out.mono (by have := Hs1.out; omega)))
    go_wp2_with (first
      | refine wp_load_arr arr64 rfl (.tmp 3) rfl rfl H2.out (Zs_length _) ?_
      | refine wp_put_arr arr64 rfl (.tmp 2) (.tmp 12) rfl rfl (l' := Zs 64) rfl H1'.out (Zs_length _) (Zs_length _) ?_)
    intro w4 A4 Hm4 Hs4
    go_wp2
    exact ret_arr arr64 rfl rfl A4.out (Zs_length _) rfl ⟨rfl, Hb.out.trans (Hm4.out.below (fun k hk => by have := G1.out; omega) Hb.out.size)⟩

end Go.Proofs.YtacbpdampdikjaaDoor

/-
  A round, as the walk shows it: plain mathematics. No program is named here.
-/
namespace Go.Proofs.YtacbpdampdikjaaDoor
open Go.RowKit

theorem not_sub (e : Nat) (h : e < 4294967296) : 4294967295 ^^^ e = 4294967295 - e := by
  apply Nat.eq_of_testBit_eq
  intro i
  have h1 : (4294967295 - e).testBit i = (decide (i < 32) && !e.testBit i) := by
    have := Nat.testBit_two_pow_sub_succ (n := 32) h i
    rwa [show 2 ^ 32 - (e + 1) = 4294967295 - e by omega] at this
  have h2 : (4294967295 : Nat).testBit i = decide (i < 32) := Nat.testBit_two_pow_sub_one 32 i
  rw [Nat.testBit_xor, h1, h2]
  by_cases hi : i < 32
  · simp [hi]
  · have h3 : e.testBit i = false := Nat.testBit_lt_two_pow (Nat.lt_of_lt_of_le h (Nat.pow_le_pow_right (show 0 < 2 by decide) (show 32 ≤ i by omega)))
    simp [hi, h3]
theorem not_bits (e : Nat) (h : e < 4294967296) : bits .xor .u32 IntKind.u32.max (e : Int) = ((4294967295 - e : Nat) : Int) := by
  rw [show IntKind.u32.max = ((4294967295 : Nat) : Int) from rfl, u32_xor_nat 4294967295 e (by decide) h, not_sub e h]
theorem and_lt (a b : Nat) (h : a < 4294967296) : a &&& b < 4294967296 := Nat.lt_of_le_of_lt Nat.and_le_left h
theorem chU_lt {e f g : Nat} (h : e < 4294967296) : chU e f g < 4294967296 := Nat.xor_lt_two_pow (n := 32) (and_lt _ _ h) (and_lt _ _ (show 4294967295 - e < 4294967296 by omega))
theorem majU_lt {a b c : Nat} (ha : a < 4294967296) (hb : b < 4294967296) : majU a b c < 4294967296 := Nat.xor_lt_two_pow (n := 32) (Nat.xor_lt_two_pow (n := 32) (and_lt _ _ ha) (and_lt _ _ ha)) (and_lt _ _ hb)
theorem bigS1_lt {e : Nat} (h : e < 4294967296) : bigS1 e < 4294967296 := Nat.xor_lt_two_pow (n := 32) (Nat.xor_lt_two_pow (n := 32) (rotU_lt h) (rotU_lt h)) (rotU_lt h)
theorem bigS0_lt {e : Nat} (h : e < 4294967296) : bigS0 e < 4294967296 := Nat.xor_lt_two_pow (n := 32) (Nat.xor_lt_two_pow (n := 32) (rotU_lt h) (rotU_lt h)) (rotU_lt h)
/-- The bits' equations of a round. -/
theorem ch_bits (e f g : Nat) (he : e < 4294967296) (hf : f < 4294967296) (hg : g < 4294967296) : ∃ p q r : Nat, bits .and .u32 (e : Int) (f : Int) = (p : Int) ∧ bits .xor .u32 IntKind.u32.max (e : Int) = (q : Int) ∧ bits .and .u32 (q : Int) (g : Int) = (r : Int) ∧
    bits .xor .u32 (p : Int) (r : Int) = ((chU e f g : Nat) : Int) :=
  ⟨e &&& f, 4294967295 - e, (4294967295 - e) &&& g, u32_and_nat _ _ he hf, not_bits _ he, u32_and_nat _ _ (by omega) hg, u32_xor_nat _ _ (and_lt _ _ he) (and_lt _ _ (by omega))⟩
theorem maj_bits (a b c : Nat) (ha : a < 4294967296) (hb : b < 4294967296) (hc : c < 4294967296) : ∃ p q r s : Nat, bits .and .u32 (a : Int) (b : Int) = (p : Int) ∧ bits .and .u32 (a : Int) (c : Int) = (q : Int) ∧ bits .and .u32 (b : Int) (c : Int) = (r : Int) ∧
    bits .xor .u32 (p : Int) (q : Int) = (s : Int) ∧ bits .xor .u32 (s : Int) (r : Int) = ((majU a b c : Nat) : Int) :=
  ⟨a &&& b, a &&& c, b &&& c, (a &&& b) ^^^ (a &&& c), u32_and_nat _ _ ha hb, u32_and_nat _ _ ha hc, u32_and_nat _ _ hb hc, u32_xor_nat _ _ (and_lt _ _ ha) (and_lt _ _ ha), u32_xor_nat _ _ (Nat.xor_lt_two_pow (n := 32) (and_lt _ _ ha) (and_lt _ _ ha)) (and_lt _ _ hb)⟩
theorem rounds_next (ws : List Nat) (t : Nat) (v : List Nat) : roundsU ws (t + 1) v = roundU (ksU.getD t 0) (ws.getD t 0) (roundsU ws t v) := rfl

end Go.Proofs.YtacbpdampdikjaaDoor

namespace Go.Proofs.YtacbpdampdikjaaDoor
open Go.RowKit

/-- The table of the package holds its numbers. -/
def KsAt (w : World) : Prop := ∀ i (h : i < 64), w.cell? ⟨1, i, none⟩ = some (.int .u32 ((ksU[i]'h : Nat) : Int))
theorem KsAt.lt {w : World} (h : KsAt w) : 1 < w.heap.size := block_lt_of_cell (h 0 (by decide))
theorem KsAt.below {w w' : World} (h : KsAt w) (hb : Below w.heap.size w w') : KsAt w' := fun i hi => (hb.cell (p := ⟨1, i, none⟩) h.lt).trans (h i hi)
theorem KsAt.drewN {w : World} (h : KsAt w) (n : Nat) : KsAt (w.drewN n) := h

theorem shak_any (t : Int) (w : World) (ht : -9223372036854775808 ≤ t ∧ t ≤ 9223372036854775807) (h : KsAt w) :
    Calls Tryd.prog 84 #[.int .i64 t] w fun e w' => e = .returned (.int .u32 (kU t : Nat)) ∧ w' = w := by
  by_cases hin : 0 ≤ t ∧ t ≤ 63
  · obtain ⟨j, rfl⟩ : ∃ j : Nat, t = j := ⟨t.toNat, by omega⟩
    have hj : j < 64 := by omega
    have hcell := h j hj
    rw [kU_in hj]
    revert hcell
    generalize ksU[j] = x
    intro hcell
    go_enter Tryd.func84, Tryd.ntmps84
    go_wp2
    go_ret
    exact ⟨rfl, rfl⟩
  · rw [kU_out (by omega)]
    by_cases h0 : t < 0
    · go_enter Tryd.func84, Tryd.ntmps84
      go_wp2
      go_ret
      exact ⟨rfl, rfl⟩
    · have h1 : 63 < t := by omega
      go_enter Tryd.func84, Tryd.ntmps84
      go_wp2
      go_ret
      exact ⟨rfl, rfl⟩

end Go.Proofs.YtacbpdampdikjaaDoor

namespace Go.Proofs.YtacbpdampdikjaaDoor
open Go.RowKit

/-- One number out of an array that is a value. -/
theorem run_index_arr {P : Program} {t e : TypeId} {k : IntKind} {n : Nat} (T : ArrT P t e k n) (hs : (P.info? e).map (·.size) = some 1) {l : List Nat} (hl : l.length = n) {j x : Nat} (hj : l[j]? = some x) (w : World) :
    (Instr.index t (.agg (Nums k l)) (.int .i64 (j : Int))).run P w = .ok (.int k (x : Int)) w := by
  obtain ⟨h1, h2⟩ := List.getElem?_eq_some_iff.1 hj
  have hag : (isAgg e).run P w = .ok false w := by unfold isAgg; rw [Sem.run_bind, run_underlying T.elem w]; rfl
  have hsz : (sizeOf e).run P w = .ok 1 w := by
    cases hq : P.info? e with
    | none => simp [hq] at hs
    | some i =>
      have : i.size = 1 := by simpa [hq] using hs
      simp [sizeOf, typeInfo, hq, this]
  have hc : (Nums k l)[j]? = some (.int k (x : Int)) := by rw [Nums_get h1, h2]
  simp [Instr.index, asIntOf, Sem.run_bind, run_underlying T.under w, hsz, part, hag, hc]
  intro h
  omega

/-- The first m of an array, one by one. -/
theorem Arr.reads {w : World} {b : Nat} {t : TypeId} {k : IntKind} {l : List Nat} (h : Arr w b t k l) (m : Nat) : ∀ j v, ((l.take m).map fun (n : Nat) => Value.int k (n : Int))[j]? = some v → w.cell? ((⟨b, 0, none⟩ : Addr).add j) = some v := by
  intro j v hj
  rw [add_flat, Nat.zero_add, cell_of_row w b j _ t (0, 0) h]
  rw [List.map_take, List.getElem?_take] at hj
  split at hj
  · simpa [Nums] using hj
  · cases hj

/-- A callee that draws nothing, in a second region that only reads. -/
theorem Calls.quiet_two {P : Program} {f : FuncId} {args : Array Value} {w : World} {a n : Nat} {v : Value}
    (h : Calls P f args (w.drewN (a + n)) fun e w' => e = .returned v ∧ w' = w.drewN (a + n)) : Calls P f args (w.drewN (a + n)) fun e w'' => e = .returned v ∧ ∃ m, w'' = w.drewN (a + m) :=
  h.mono fun _ _ ⟨he, hm⟩ => ⟨he, n, hm⟩
/-- .. that draws. -/
theorem Calls.quiet_two_of {P : Program} {f : FuncId} {args : Array Value} {w : World} {a n : Nat} {v : Value}
    (h : Calls P f args (w.drewN (a + n)) fun e w' => e = .returned v ∧ ∃ m, w' = (w.drewN (a + n)).drewN m) : Calls P f args (w.drewN (a + n)) fun e w'' => e = .returned v ∧ ∃ m, w'' = w.drewN (a + m) :=
  h.mono fun _ _ ⟨he, m, hm⟩ => ⟨he, n + m, by rw [hm, World.drewN_drewN, Nat.add_assoc]⟩

/-- What turned only block g, from g on, behind some draws. -/
theorem below_put {B g n : Nat} {w wr w' : World} (h : Below B w wr) (hB : B ≤ wr.heap.size) (hg : B ≤ g) (hm : Moves (fun k => k = g) (wr.drewN n) w') : Below B w w' :=
  (bdrewN h n).trans (hm.below (fun k hk => by omega) hB)

/-- A whole array, read in a region that draws and whose tail is forced. -/
theorem still_load_arr {P : Program} {ops : Array Oper} {rest : List Oper} {o : Oper} {a : Act} {w : World} {Q : Act → Prop} {t e : TypeId} {k : IntKind} {l : List Nat} {b n : Nat} (T : ArrT P t e k n) (hgd : o.guard = none) (x : Operand) (ho : o.op = .load t x)
    (hx : a.eval x = .pointer (some ⟨b, 0, none⟩)) {tb : TypeId} (h : Arr w b tb k l) (hl : l.length = n) (hK : wpStill P ops w Q rest (a.put o.dst (.agg (Nums k l)))) : wpStill P ops w Q (o :: rest) a := by
  refine wpStill_step (fun K hKK => ?_)
  have hw : Region.wanted o (yielded ops a.tmps) = true := by simp [Region.wanted, hgd]
  rw [if_pos hw]
  unfold Oper.still execOp
  simp only [ho, hx, Instr.loadAt, Instr.sureAddr, Sem.run_bind, Sem.run_pure, Result.andThen_ok, run_loadVar_row w b tb t (Nums k l) (0, 0) (.array n e) h T.under rfl (by rw [Nums_size, hl]; exact T.size), Oper.stillUpon_value]
  exact hKK _ hK

end Go.Proofs.YtacbpdampdikjaaDoor

namespace Go.Proofs.YtacbpdampdikjaaDoor
open Go.RowKit

theorem info_u32s : (Tryd.prog.info? 56).map (·.size) = some 1 := by kernel_rfl

set_option maxHeartbeats 3200000 in
theorem block_any (B n c : Nat) (A : Option Addr) (xs : List UInt8) (hs : List Nat) (w : World) (hh : Eight hs) (hx : Rd w B A n (Byt xs)) (hnc : n ≤ c) (hn : n ≤ 8796093022208) (hB : B ≤ w.heap.size) (hK : KsAt w) :
    Calls Tryd.prog 61 #[.agg (Nums .u32 hs), .slice A n c] w (AnsA w .u32 (blockU hs xs)) := by
  have hxl := hx.bytes
  have Hh := Lib.hid hh; clear hh
  have HK := Lib.hid hK; clear hK
  by_cases h64 : n = 64
  · subst h64
    have Hw : Hid (blockU hs xs = plusU (roundsU (wordsU xs) 64 hs) hs) := Lib.hid (by unfold blockU; rw [if_pos hxl])
    have hcw := fun w' (hb : Below w.heap.size w w') => words_any B 64 c A xs w' (hx.below (hb.mono hB)) hnc hn (Nat.le_trans hB hb.size)
    have Hcw := Lib.hid hcw
    have HWl : Hid ((wordsU xs).length = 64) := Lib.hid (wordsU_length xs)
    have HWb : Hid (∀ j, (wordsU xs).getD j 0 < 4294967296) := Lib.hid (getD_lt (wordsU_lt xs) (by decide))
    clear hcw hx hxl
    rw [Hw.out]
    clear Hw
    revert Hcw HWl HWb
    generalize wordsU xs = W
    intro Hcw HWl HWb
    go_enter Tryd.func61, Tryd.ntmps61
    go_wp2_with (refine wp_box_arr (k := .u32) rfl 59 (.tmp 0) rfl hs rfl ?_)
    intro w1 g1 G1 H1 Hb1 Hs1
    go_wp2_with (refine wp_alloc_arr (k := .u32) rfl 59 rfl 8 zero8 ?_)
    intro w2 g2 G2 H2 Hb2 Hs2
    have H1' : Hid (Arr w2 g1 59 .u32 hs) := Lib.hid (H1.out.below Hb2.out (by have := G1.out; have := Hs1.out; omega))
    have Hb12 : Hid (Below w.heap.size w w2) := Lib.hid (Hb1.out.trans (Hb2.out.mono (by have := Hs1.out; omega)))
    go_wp2_with (first
      | refine wp_load_arr arr8 rfl (.tmp 2) rfl rfl H1'.out Hh.out.1 ?_
      | refine wp_alloc_arr (k := .u32) rfl 59 rfl 8 zero8 ?_)
    intro w3 g3 G3 H3 Hb3 Hs3
    go_wp2_with (refine wp_put_arr arr8 rfl (.tmp 5) (.tmp 16) rfl rfl (l' := hs) rfl H3.out (Zs_length _) Hh.out.1 ?_)
    intro w4 H4 Hm4 Hs4
    have hmf : ∀ (fn : Fn) (first cap : Array Value) (w : World), (Instr.makeFunc fn first cap).run Tryd.prog w = .ok (.func fn first cap) w := fun _ _ _ _ => rfl
    have Hg : Hid (w.heap.size ≤ g1 ∧ w.heap.size ≤ g2 ∧ w.heap.size ≤ g3 ∧ g1 ≠ g2 ∧ g1 ≠ g3 ∧ g2 ≠ g3 ∧ g1 < g3 ∧ g2 < g3) := Lib.hid (by have := G1.out; have := G2.out; have := G3.out; have := Hs1.out; have := Hs2.out; omega)
    have B4 : Hid (Below w.heap.size w w4) := Lib.hid ((Hb12.out.trans (Hb3.out.mono Hb12.out.size)).trans (Hm4.out.below (fun k hk => by have := Hg.out; omega) (Nat.le_trans Hb12.out.size Hb3.out.size)))
    have K1 : Hid (Arr w4 g1 59 .u32 hs) := Lib.hid ((H1'.out.below Hb3.out H1'.out.lt).moves Hm4.out Hg.out.2.2.2.2.1)
    have K2 : Hid (Arr w4 g2 59 .u32 (Zs 8)) := Lib.hid ((H2.out.below Hb3.out H2.out.lt).moves Hm4.out Hg.out.2.2.2.2.2.1)
    clear H1 H1' H2 H3 Hb1 Hb2 Hb3 Hb12 Hs1 Hs2 Hs3 Hs4 Hm4 G1 G2 G3
    go_wp2_with fail
    refine (Hcw.out _ B4.out).mono ?_
    rintro e w5 ⟨rfl, hb5⟩
    have L1 : Hid (Arr w5 g1 59 .u32 hs) := Lib.hid (K1.out.below hb5 K1.out.lt)
    have L2 : Hid (Arr w5 g2 59 .u32 (Zs 8)) := Lib.hid (K2.out.below hb5 K2.out.lt)
    have L3 : Hid (Arr w5 g3 59 .u32 (roundsU W 0 hs)) := Lib.hid (H4.out.below hb5 H4.out.lt)
    have B5 : Hid (Below w.heap.size w w5) := Lib.hid (B4.out.trans (hb5.mono B4.out.size))
    clear hb5 B4 K1 K2 H4 Hcw
    go_wp2
    go_loopw [20] (fun i wr => ∃ t : Nat, t ≤ 64 ∧ i = .int .i64 (t : Int) ∧ Hid (Arr wr g1 59 .u32 hs) ∧ Hid (Arr wr g2 59 .u32 (Zs 8)) ∧ Hid (Arr wr g3 59 .u32 (roundsU W t hs)) ∧ Hid (Below w.heap.size w wr)) (fun i _ => 64 - (intOf i).toNat)
    case atStart => exact ⟨0, by omega, rfl, L1, L2, L3, B5⟩
    case round =>
      clear L1 L2 L3 B5
      obtain ⟨t, ht, rfl, A1, A2, A3, Hbr⟩ := hrel
      by_cases ht64 : t < 64
      · have hv := roundsU_eight W t Hh.out
        have Hnext : Hid (roundsU W (t + 1) hs = roundU (kU (t : Int)) (W.getD t 0) (roundsU W t hs)) := Lib.hid (by
          have e : ksU.getD t 0 = ksU[t]'ht64 := by rw [List.getD_eq_getElem?_getD, List.getElem?_eq_getElem (show t < ksU.length from ht64)]; rfl
          rw [rounds_next, kU_in ht64, e])
        have hkb : kU (t : Int) < 4294967296 := by rw [kU_in ht64]; exact ks_lt _ (List.getElem_mem _)
        have hwb := HWb.out t
        have hWt : W[t]? = some (W.getD t 0) := by rw [List.getD_eq_getElem?_getD, List.getElem?_eq_getElem (by rw [HWl.out]; exact ht64)]; rfl
        have hck := fun w' (hb : KsAt w') => shak_any (t : Int) w' (by omega) hb
        have HKr : Hid (KsAt wr) := Lib.hid (HK.out.below Hbr.out)
        have hix := fun w' => run_index_arr arr64 info_u32s HWl.out hWt w'
        clear hWt
        revert hck Hnext hkb hwb hix A3 hv
        generalize kU (t : Int) = kt
        generalize W.getD t 0 = wt
        generalize roundsU W t hs = v
        generalize hv2 : roundsU W (t + 1) hs = v'
        intro A3 hv Hnext hkb hwb hck hix
        have Hv2 := Lib.hid hv2; clear hv2
        obtain ⟨a, b, cc, d, e, f, g, i, rfl⟩ := hv.form
        have c0 := A3.out.at_ (j := 0) rfl
        have c1 := A3.out.at_ (j := 1) rfl
        have c2 := A3.out.at_ (j := 2) rfl
        have c3 := A3.out.at_ (j := 3) rfl
        have c4 := A3.out.at_ (j := 4) rfl
        have c5 := A3.out.at_ (j := 5) rfl
        have c6 := A3.out.at_ (j := 6) rfl
        have c7 := A3.out.at_ (j := 7) rfl
        have hlt := hv.2
        simp only [List.mem_cons, List.not_mem_nil, or_false, forall_eq_or_imp, forall_eq] at hlt
        obtain ⟨ba, bb, bc, bd, be, bf, bg, bi⟩ := hlt
        clear hv
        have hT1 : ∀ w', w'.heap = wr.heap → Calls Tryd.prog 81 #[.int .i64 4, .int .i64 6, .int .i64 11, .int .i64 25, .pointer (some ⟨g3, 0, none⟩)] w'
            fun r w'' => r = .returned (.int .u32 ((bigS1 e : Nat) : Int)) ∧ w'' = w' := fun w' hq => bturn_any g3 4 6 11 25 e _ w' rfl rfl be (by decide) (by decide) (by decide) (A3.out.heap hq)
        have hT0 : ∀ w', w'.heap = wr.heap → Calls Tryd.prog 81 #[.int .i64 0, .int .i64 2, .int .i64 13, .int .i64 22, .pointer (some ⟨g3, 0, none⟩)] w'
            fun r w'' => r = .returned (.int .u32 ((bigS0 a : Nat) : Int)) ∧ w'' = w' := fun w' hq => bturn_any g3 0 2 13 22 a _ w' rfl rfl ba (by decide) (by decide) (by decide) (A3.out.heap hq)
        obtain ⟨p1, q1, r1, k1, k2, k3, k4⟩ := ch_bits e f g be bf bg
        obtain ⟨p2, q2, r2, s2, k5, k6, k7, k8, k9⟩ := maj_bits a b cc ba bb bc
        have Hx : Hid (xU kt wt e f g i = (i + bigS1 e + chU e f g + kt + wt) % 4294967296) := Lib.hid rfl
        have Hy : Hid (yU a b cc = (bigS0 a + majU a b cc) % 4294967296) := Lib.hid rfl
        have Hr : Hid (v' = [(xU kt wt e f g i + yU a b cc) % 4294967296, a, b, cc, (d + xU kt wt e f g i) % 4294967296, e, f, g]) := Hnext
        have z1 := bigS1_lt be
        have z0 := bigS0_lt ba
        have zc := chU_lt (f := f) (g := g) be
        have zm := majU_lt (c := cc) ba bb
        clear Hnext
        revert Hx Hy Hr hT1 hT0 k4 k9 z1 z0 zc zm
        generalize xU kt wt e f g i = x
        generalize yU a b cc = y
        generalize bigS1 e = S1
        generalize bigS0 a = S0
        generalize chU e f g = ch
        generalize majU a b cc = mj
        intro hT1 hT0 k4 k9 Hx Hy Hr z1 z0 zc zm
        obtain ⟨y1, hy1⟩ : ∃ y1 : Nat, (i + S1) % 4294967296 = y1 := ⟨_, rfl⟩
        obtain ⟨y2, hy2⟩ : ∃ y2 : Nat, (y1 + ch) % 4294967296 = y2 := ⟨_, rfl⟩
        obtain ⟨y3, hy3⟩ : ∃ y3 : Nat, (y2 + kt) % 4294967296 = y3 := ⟨_, rfl⟩
        have hx := Hx.out
        have hy := Hy.out
        have u1 : IntKind.u32.wrap ((i : Int) + (S1 : Int)) = (y1 : Int) := by rw [IntKind.wrap_u32]; omega
        have u2 : IntKind.u32.wrap ((y1 : Int) + (ch : Int)) = (y2 : Int) := by rw [IntKind.wrap_u32]; omega
        have u3 : IntKind.u32.wrap ((y2 : Int) + (kt : Int)) = (y3 : Int) := by rw [IntKind.wrap_u32]; omega
        have u4 : IntKind.u32.wrap ((y3 : Int) + (wt : Int)) = (x : Int) := by rw [IntKind.wrap_u32]; omega
        have u5 : IntKind.u32.wrap ((S0 : Int) + (mj : Int)) = (y : Int) := by rw [IntKind.wrap_u32]; omega
        have v1 : ((i : Int) + (S1 : Int)) % 4294967296 = (y1 : Int) := by omega
        have v2 : ((y1 : Int) + (ch : Int)) % 4294967296 = (y2 : Int) := by omega
        have v3 : ((y2 : Int) + (kt : Int)) % 4294967296 = (y3 : Int) := by omega
        have v4 : ((y3 : Int) + (wt : Int)) % 4294967296 = (x : Int) := by omega
        have v5 : ((S0 : Int) + (mj : Int)) % 4294967296 = (y : Int) := by omega
        have v6 : ((y1 : Int) + (ch : Int) + (kt : Int) + (wt : Int)) % 4294967296 = (x : Int) := by omega
        obtain ⟨sx, hsx⟩ : ∃ sx : Nat, (x + y) % 4294967296 = sx := ⟨_, rfl⟩
        obtain ⟨sd, hsd⟩ : ∃ sd : Nat, (d + x) % 4294967296 = sd := ⟨_, rfl⟩
        have v7 : ((x : Int) + (y : Int)) % 4294967296 = (sx : Int) := by omega
        have v8 : ((d : Int) + (x : Int)) % 4294967296 = (sd : Int) := by omega
        have Hr2 : Hid (v' = [sx, a, b, cc, sd, e, f, g]) := Lib.hid (by rw [Hr.out, hsx, hsd])
        clear hsx hsd Hr
        clear hy1 hy2 hy3 hx hy Hx Hy
        go_wp2_with fail
        go_quiet (first
          | (go_at_call 81; exact Calls.quiet_of_same (hT1 _ rfl))
          | (go_at_call 84; exact Calls.quiet_of_same (hck _ (HKr.out.drewN _))))
        (try rw [v6])
        have Hcl : Hid (Below g3 wr wr) := Lib.hid (Below.refl _ _)
        go_wp2_with fail
        go_quiet (first | (go_at_call 81; exact Calls.quiet_two (hT0 _ rfl)) | fail)
        go_wp2_with fail
        go_region_law ((refine step_copy_splice (by rfl) (.tmp 67) (.tmp 68) 92 92 (by rfl) 56 Tryd.underlying92 info_u32s (some ⟨g3, 1, none⟩) (some ⟨g3, 0, none⟩) 7 7 7 8 (by rfl) (by rfl) g3 1 ([a, b, cc, d, e, f, g, i].map fun (n : Nat) => Value.int .u32 (n : Int)) 59 (by exact A3.out) (([a, b, cc, d, e, f, g, i].take 7).map fun (n : Nat) => Value.int .u32 (n : Int)) (by rfl) (fun _ => ⟨rfl, _, rfl, (A3.out.heap rfl).reads 7⟩) (by exact Nat.le_refl 8) (by intro v hv; obtain ⟨n, _, rfl⟩ := List.mem_map.1 hv; rfl) g3 wr (bdrewN (bdrewN (Below.refl g3 wr) _) _).drew (Nat.le_refl _) ?_; intro w6 H6 B6))
        have N3 : Hid (Arr w6 g3 59 .u32 [a, a, b, cc, d, e, f, g]) := H6
        have N1 : Hid (Arr w6 g1 59 .u32 hs) := Lib.hid (A1.out.below B6 Hg.out.2.2.2.2.2.2.1)
        have N2 : Hid (Arr w6 g2 59 .u32 (Zs 8)) := Lib.hid (A2.out.below B6 Hg.out.2.2.2.2.2.2.2)
        have NB : Hid (Below w.heap.size w w6) := Lib.hid (Hbr.out.trans (B6.mono Hg.out.2.2.1))
        clear H6 B6 c0 c1 c2 c3 c4 c5 c6 c7
        have c4 := N3.out.at_ (j := 4) rfl
        have c0 := N3.out.at_ (j := 0) rfl
        have f4 := N3.out.frozen 4
        have f0 := N3.out.frozen 0
        go_wp2
        have M3 : Hid (Arr ((w6.setCell ⟨g3, 4, none⟩ (.int .u32 (sd : Int))).setCell ⟨g3, 0, none⟩ (.int .u32 (sx : Int))) g3 59 .u32 (roundsU W (t + 1) hs)) := Lib.hid (by
          rw [Hv2.out, Hr2.out]
          exact (N3.out.set (j := 4) (n := sd)).set (j := 0) (n := sx))
        have M1 : Hid (Arr ((w6.setCell ⟨g3, 4, none⟩ (.int .u32 (sd : Int))).setCell ⟨g3, 0, none⟩ (.int .u32 (sx : Int))) g1 59 .u32 hs) := Lib.hid ((N1.out.other Hg.out.2.2.2.2.1).other Hg.out.2.2.2.2.1)
        have M2 : Hid (Arr ((w6.setCell ⟨g3, 4, none⟩ (.int .u32 (sd : Int))).setCell ⟨g3, 0, none⟩ (.int .u32 (sx : Int))) g2 59 .u32 (Zs 8)) := Lib.hid ((N2.out.other Hg.out.2.2.2.2.2.1).other Hg.out.2.2.2.2.2.1)
        have MB : Hid (Below w.heap.size w ((w6.setCell ⟨g3, 4, none⟩ (.int .u32 (sd : Int))).setCell ⟨g3, 0, none⟩ (.int .u32 (sx : Int)))) := Lib.hid ((NB.out.setCell Hg.out.2.2.1 _).setCell Hg.out.2.2.1 _)
        go_roundw
        case rel => exact ⟨t + 1, by omega, by go_num, M1, M2, M3, MB⟩
        case measure => simp [intOf]; omega
      · obtain rfl : t = 64 := by omega
        rw [show ((64 : Nat) : Int) = 64 from rfl]
        have hv := roundsU_eight W 64 Hh.out
        revert hv A3
        generalize hv3 : roundsU W 64 hs = v
        intro A3 hv
        have Hvl : Hid (v.length = 8) := Lib.hid hv.1
        have Hpl : Hid ((plusU v hs).length = 8) := Lib.hid (plusU_eight hv Hh.out).1
        have Hhl : Hid (hs.length = 8) := Lib.hid Hh.out.1
        have Hpg : Hid (∀ j x y, v[j]? = some x → hs[j]? = some y → (plusU v hs)[j]? = some ((x + y) % 4294967296)) := Lib.hid (by
          intro j x y h1 h2
          unfold plusU
          rw [List.getElem?_zipWith, h1, h2])
        clear hv
        revert Hpl Hpg
        generalize hp3 : plusU v hs = p
        intro Hpl Hpg
        have HP : Hid (plusU (roundsU W 64 hs) hs = p) := Lib.hid (by rw [hv3, hp3])
        clear hv3 hp3
        go_wp2
        go_loopw [80] (fun i wr => ∃ j : Nat, j ≤ 8 ∧ i = .int .i64 (j : Int) ∧ Hid (Arr wr g1 59 .u32 hs) ∧ Hid (Arr wr g2 59 .u32 (Zs 8)) ∧ Hid (Arr wr g3 59 .u32 (p.take j ++ v.drop j)) ∧ Hid (Below w.heap.size w wr)) (fun i _ => 8 - (intOf i).toNat)
        case atStart => exact ⟨0, by omega, rfl, A1, A2, A3, Hbr⟩
        case round =>
          clear A1 A2 A3 Hbr
          obtain ⟨j, hj, rfl, A1, A2, A3, Hbr⟩ := hrel
          by_cases hj8 : j < 8
          · have hjp : j < p.length := by rw [Hpl.out]; exact hj8
            have hjv : j < v.length := by rw [Hvl.out]; exact hj8
            have hjh : j < hs.length := by rw [Hhl.out]; exact hj8
            have c3 := A3.out.at_ (fill_get hjv (Nat.le_of_lt hjp))
            have c1 := A1.out.cell hjh
            have f3 := A3.out.frozen j
            have hp := Hpg.out j _ _ (List.getElem?_eq_getElem hjv) (List.getElem?_eq_getElem hjh)
            have hpe : p[j] = (v[j] + hs[j]) % 4294967296 := (List.getElem?_eq_some_iff.1 hp).2
            have Hset : Hid ((p.take j ++ v.drop j).set j ((v[j] + hs[j]) % 4294967296) = p.take (j + 1) ++ v.drop (j + 1)) := Lib.hid (by rw [← hpe]; exact afill_set hjp hjv)
            clear hp hpe
            revert c3 c1 Hset
            generalize v[j] = x
            generalize hs[j] = y
            intro c3 c1 Hset
            obtain ⟨z, hz⟩ : ∃ z : Nat, (x + y) % 4294967296 = z := ⟨_, rfl⟩
            rw [hz] at Hset
            have v1 : ((x : Int) + (y : Int)) % 4294967296 = (z : Int) := by omega
            have u1 : IntKind.u32.wrap ((x : Int) + (y : Int)) = (z : Int) := by rw [IntKind.wrap_u32]; omega
            clear hz
            go_wp2
            go_region
            go_wp2
            go_roundw
            case rel => exact ⟨j + 1, by omega, by go_num, Lib.hid (A1.out.other Hg.out.2.2.2.2.1), Lib.hid (A2.out.other Hg.out.2.2.2.2.2.1), Lib.hid (by rw [← Hset.out]; exact A3.out.set), Lib.hid ((Hbr.out.setCell Hg.out.2.2.1 _).drew)⟩
            case measure => simp [intOf]; omega
          · obtain rfl : j = 8 := by omega
            have A3' : Hid (Arr wr g3 59 .u32 p) := Lib.hid (by have h := A3.out; rwa [fill_all Hpl.out Hvl.out] at h)
            go_wp2_with (first
              | refine wp_load_arr arr8 rfl (.tmp 5) rfl rfl A3'.out Hpl.out ?_
              | refine wp_put_arr arr8 rfl (.tmp 4) (.tmp 92) rfl rfl (l' := p) rfl A2.out (Zs_length _) Hpl.out ?_)
            intro w4 A4 Hm4 Hs4
            go_wp2
            exact ret_arr arr8 rfl rfl A4.out Hpl.out rfl ⟨by rw [HP.out], Hbr.out.trans (Hm4.out.below (fun k hk => by have := Hg.out; omega) Hbr.out.size)⟩
  · have Hw : Hid (blockU hs xs = hs) := Lib.hid (by unfold blockU; rw [if_neg (by omega)])
    rw [Hw.out]
    have h64' : ¬ (n : Int) = 64 := by omega
    go_enter Tryd.func61, Tryd.ntmps61
    go_wp2_with (refine wp_box_arr (k := .u32) rfl 59 (.tmp 0) rfl hs rfl ?_)
    intro w1 g1 G1 H1 Hb1 Hs1
    go_wp2_with (refine wp_alloc_arr (k := .u32) rfl 59 rfl 8 zero8 ?_)
    intro w2 g2 G2 H2 Hb2 Hs2
    have H1' : Hid (Arr w2 g1 59 .u32 hs) := Lib.hid (H1.out.below Hb2.out (by have := G1.out; have := Hs1.out; omega))
    have Hb : Hid (Below w.heap.size w w2) := Lib.hid (Hb1.out.trans (Hb2.out.mono (by have := Hs1.out; omega)))
    go_wp2_with (first
      | refine wp_load_arr arr8 rfl (.tmp 2) rfl rfl H1'.out Hh.out.1 ?_
      | refine wp_put_arr arr8 rfl (.tmp 4) (.tmp 15) rfl rfl (l' := hs) rfl H2.out (Zs_length _) Hh.out.1 ?_)
    intro w4 A4 Hm4 Hs4
    go_wp2
    exact ret_arr arr8 rfl rfl A4.out Hh.out.1 rfl ⟨rfl, Hb.out.trans (Hm4.out.below (fun k hk => by have := G2.out; have := Hs1.out; omega) Hb.out.size)⟩

end Go.Proofs.YtacbpdampdikjaaDoor

/-
  Whole arrays inside a round of a range over a function. No program is named here.
-/
namespace Go.Proofs.YtacbpdampdikjaaDoor
open Go.RowKit

section
variable {P : Program} {F : Fence} {m : Nat} {ops : Array Oper} {rest : List Oper} {o : Oper} {a : Act} {w : World} {Q : Exit → Act → World → Prop} {t e : TypeId} {k : IntKind} {l : List Nat} {b n : Nat}
theorem run_loadAt_arr (T : ArrT P t e k n) {tb : TypeId} (h : Arr w b tb k l) (hl : l.length = n) : (Instr.loadAt t (.pointer (some ⟨b, 0, none⟩))).run P w = .ok (.agg (Nums k l)) w := by
  simp only [Instr.loadAt, Instr.sureAddr, Sem.run_bind, Sem.run_pure, Result.andThen_ok]
  exact run_loadVar_row w b tb t (Nums k l) (0, 0) (.array n e) h T.under rfl (by rw [Nums_size, hl]; exact T.size)
theorem run_storeAt_arr (T : ArrT P t e k n) {tb : TypeId} {l' : List Nat} (h : Arr w b tb k l) (hl : l.length = n) (hl' : l'.length = n) : (Instr.storeAt t (.pointer (some ⟨b, 0, none⟩)) (.agg (Nums k l'))).run P w = .ok () (w.setRow b (Nums k l')) := by
  simp only [Instr.storeAt, Instr.sureAddr, Sem.run_bind, Sem.run_pure, Result.andThen_ok]
  exact run_storeVar_row w b tb t (Nums k l) (Nums k l') h (by rw [Nums_size, hl']; exact T.size) (by rw [Nums_size, Nums_size, hl, hl']) (Nums_one _ _)
theorem wpListIn_load_arr (T : ArrT P t e k n) (hgd : o.guard = none) (x : Operand) (ho : o.op = .load t x) (hx : a.eval x = .pointer (some ⟨b, 0, none⟩)) {tb : TypeId} (h : Arr w b tb k l) (hl : l.length = n)
    (hK : wpListIn F m P ops Q rest (a.put o.dst (.agg (Nums k l))) w) : wpListIn F m P ops Q (o :: rest) a w := by
  refine wpListIn_plain hgd fun K hK' => ?_
  have hrun := run_loadAt_arr (P := P) T h hl
  unfold Oper.wpIn
  refine ⟨?_, ?_⟩
  · simp [Oper.about, ho]
  · rw [Oper.semAt_plain F _ _ (by rw [ho]; intro c hc; cases hc)]
    simp [execOp, ho, hx, hrun, Result.andThen]
    exact hK' _ _ hK
theorem wpListIn_put_arr (T : ArrT P t e k n) (hgd : o.guard = none) (x y : Operand) (ho : o.op = .store t x y) (hx : a.eval x = .pointer (some ⟨b, 0, none⟩)) {l' : List Nat} (hy : a.eval y = .agg (Nums k l')) {tb : TypeId} (h : Arr w b tb k l) (hl : l.length = n) (hl' : l'.length = n)
    (hK : ∀ w', Hid (Arr w' b tb k l') → Hid (Moves (fun j => j = b) w w') → Hid (w'.heap.size = w.heap.size) → wpListIn F m P ops Q rest (a.put o.dst undef) w') : wpListIn F m P ops Q (o :: rest) a w := by
  refine wpListIn_plain hgd fun K hK' => ?_
  have hrun := run_storeAt_arr (P := P) T h hl hl'
  unfold Oper.wpIn
  refine ⟨?_, ?_⟩
  · simp [Oper.about, ho]
  · rw [Oper.semAt_plain F _ _ (by rw [ho]; intro c hc; cases hc)]
    simp [execOp, ho, hx, hy, hrun, Result.andThen]
    exact hK' _ _ (hK _ (Lib.hid (h.store_moves l').1) (Lib.hid (h.store_moves l').2.1) (Lib.hid (h.store_moves l').2.2))
end

end Go.Proofs.YtacbpdampdikjaaDoor

/-
  The sum: all blocks of a row and its padding, one by one.
-/
namespace Go.Proofs.YtacbpdampdikjaaDoor
open Go.RowKit Go.Shelf

attribute [local go_sem] Oper.semAt_some

theorem keeps_of_below {W W1 : World} (hb : Below W.heap.size W W1) : KeepsOthers W W1 := ⟨hb.size, fun k _ hk _ => (hb.block k (Array.getElem?_eq_some_iff.1 hk).1).trans hk⟩

theorem outU_snocT {l : List Nat} {j : Nat} (h : j < l.length) : outU (l.take (j + 1)) = outU (l.take j) ++ putL l[j] 4 := by
  rw [List.take_add_one, List.getElem?_eq_getElem h]
  exact outU_snoc _ _
theorem foldl_eight (bs : List (List UInt8)) : ∀ {h : List Nat}, Eight h → Eight (bs.foldl blockU h) := by
  induction bs with
  | nil => exact fun h => h
  | cons b l ih => exact fun h => ih (blockU_eight b h)
theorem keeps_put {g : Nat} {w w' : World} {t : TypeId} {k : IntKind} {l : List Nat} (h : Arr w g t k l) (hm : Moves (fun j => j = g) w w') : KeepsOthers w w' :=
  ⟨hm.size, fun j o hj ho => (hm.block j (Array.getElem?_eq_some_iff.1 hj).1 (fun e => by
    subst e
    rw [h] at hj
    injection hj with hj
    subst hj
    cases ho)).trans hj⟩

set_option maxRecDepth 100000 in
set_option maxHeartbeats 4000000 in
theorem sum_in (B n c : Nat) (A : Option Addr) (xs : List UInt8) (w : World) (hx : Rd w B A n (Byt xs)) (hok : SlOK A n c) (hn : n ≤ 1099511627776) (hB : B ≤ w.heap.size) (hks : KsAt w) :
    CallsIn Fence.wide 21 Tryd.prog 40 #[.slice A n c] w (NewB 5 w (sumU xs)) := by
  have hro : Fence.wide.round = none := rfl
  have hxl := hx.bytes
  have Hsum : Hid (sumU xs = outU ((allBlk xs).foldl blockU hsU)) := Lib.hid (by rw [allBlk_fold]; rfl)
  refine callsIn_of_wp_marks Tryd.func40 rfl trivial ?_ hro
  simp only [Tryd.ntmps40, List.size_toArray, List.length_cons, List.length_nil, Nat.reduceAdd, Nat.reduceSub, Array.replicate_succ, Array.replicate_zero, List.push_toArray, List.append_toArray, List.nil_append, List.cons_append]
  refine wpIn_wide.2 ?_
  have Hks := Lib.hid hks; clear hks
  have Hx := Lib.hid hx; clear hx
  have H8 : Hid (Eight hsU) := Lib.hid hs_eight
  have hfirst := first_any
  revert hfirst H8 Hsum
  generalize hsU = h0
  intro Hsum H8 hfirst
  go_wp2_with fail
  refine (hfirst _).mono ?_
  rintro e w1 ⟨rfl, hb1⟩
  clear hfirst
  go_wp2_with (refine wp_alloc_arr (k := .u32) rfl 59 rfl 8 zero8 ?_)
  intro w2 gh G1 H1 Hb2 Hs2
  go_wp2_with (refine wp_put_arr arr8 rfl (.tmp 3) (.tmp 8) rfl rfl (l' := h0) rfl H1.out (Zs_length _) H8.out.1 ?_)
  intro w3 H3 Hm3 Hs3
  have hs1 := hb1.size
  have B3 : Hid (Below w.heap.size w w3) := Lib.hid ((hb1.trans (Hb2.out.mono hs1)).trans (Hm3.out.below (fun k hk => by have := G1.out; omega) (Nat.le_trans hs1 Hb2.out.size)))
  have Hgh : Hid (w.heap.size ≤ gh ∧ gh < w3.heap.size) := Lib.hid (by have := G1.out; have := Hs2.out; have := Hs3.out; omega)
  clear hb1 hs1 H1 Hb2 Hs2 Hm3 Hs3 G1
  go_wp2_with fail
  refine (blocks_any n c A w3).mono ?_
  rintro e w4 ⟨rfl, hw4⟩
  have Hcell : Hid (w4.cell? ⟨w3.heap.size, 0, none⟩ = some (.slice A n c)) := Lib.hid (by rw [hw4]; exact (Boxed.new w3 22 (.slice A n c)).cell)
  have Hz4 : Hid (w4.heap.size = w3.heap.size + 1) := Lib.hid (by rw [hw4]; simp)
  have H4 : Hid (Arr w4 gh 59 .u32 h0) := Lib.hid (by rw [hw4]; exact H3.out.alloc _)
  have B4 : Hid (Below w.heap.size w w4) := Lib.hid (by rw [hw4]; exact B3.out.alloc B3.out.size _)
  clear hw4 H3
  have HI : Hid (Rests w4.heap.size (fun (pre : List (List UInt8)) W => Arr W gh 59 .u32 (pre.foldl blockU h0) ∧ Below w.heap.size w W)) := Lib.hid (by
    rintro pre X Y ⟨ha, hb⟩ hm
    refine ⟨ha.moves hm (by have := Hgh.out; have := Hz4.out; omega), hb.trans (hm.below (fun k hk => by have := Hgh.out; have := Hz4.out; omega) hb.size)⟩)
  go_wp2_with fail
  refine (wpIn_wide (n := 20)).1 ?_
  refine' wpIn_range_all (by decide) (gf := 77) (lb := #[.pointer (some ⟨w3.heap.size, 0, none⟩)]) rfl (enters_of Tryd.func77 (by kernel_rfl) rfl) gh (by have := Hgh.out; have := Hz4.out; omega) (allBlk xs)
    (fun (pre : List (List UInt8)) W => Arr W gh 59 .u32 (pre.foldl blockU h0) ∧ Below w.heap.size w W) HI.out ⟨H4.out, B4.out⟩ rfl ?hseq _ ?assign ?body ?done
  case hseq =>
    intro l J W hb hsz hJ hY hj0
    have hgh := Hgh.out
    have hz := Hz4.out
    refine blocks1_in 19 l gh w3.heap.size B n c A xs J W hJ hY (by omega) ((Hx.out.below (B4.out.mono hB)).below (hb.mono ?_)) (by omega) hok hn (by omega) ((hb.cell (p := ⟨w3.heap.size, 0, none⟩) (by show w3.heap.size < w4.heap.size; omega)).trans Hcell.out) hj0
    omega
  case assign =>
    intro m l v W K hK
    gi_wp2
    exact hK
  case body =>
    rintro m l pre x v W ⟨hA, hB4⟩ ⟨A5, n5, c5, rfl, hr5, hnc5, hn5⟩
    have HA := Lib.hid hA; clear hA
    have H8p : Hid (Eight (pre.foldl blockU h0)) := Lib.hid (foldl_eight pre H8.out)
    have HKw : Hid (KsAt W) := Lib.hid (Hks.out.below hB4)
    obtain ⟨hv, hhv⟩ : ∃ hv, pre.foldl blockU h0 = hv := ⟨_, rfl⟩
    rw [hhv] at HA H8p
    have Hhv := Lib.hid hhv; clear hhv
    gi_wp2_with (first
      | refine wpListIn_load_arr arr8 rfl (.tmp 3) rfl rfl HA.out H8p.out.1 ?_
      | (refine ⟨trivial, fun h => absurd h (by decide), ?_⟩; gi_at_call 61; refine (CallsIn.inRound l (callsIn_wide.2 (block_any W.heap.size n5 c5 A5 x hv W H8p.out hr5 hnc5 (by omega) (Nat.le_refl _) HKw.out))).mono ?_; rintro e w5 ⟨rfl, hb5⟩; have HA5 : Hid (Arr w5 gh 59 .u32 hv) := Lib.hid (HA.out.below hb5 HA.out.lt); have H8v : Hid (Eight (blockU hv x)) := Lib.hid (blockU_eight x H8p.out))
      | (refine wpListIn_put_arr arr8 rfl (.tmp 3) (.tmp 14) rfl rfl (l' := blockU hv x) rfl HA5.out H8p.out.1 H8v.out.1 ?_; intro w6 HA6 Hm6 Hs6))
    refine ⟨⟨by rw [Hhv.out]; exact HA6.out, ?_⟩, (Moves.of_below hb5).trans Hm6.out (fun k hk => .inl hk), (keeps_of_below hb5).trans (keeps_put HA5.out Hm6.out)⟩
    exact (hB4.trans (hb5.mono hB4.size)).trans (Hm6.out.below (fun k hk => by have := Hgh.out; omega) (Nat.le_trans hB4.size hb5.size))
  case done =>
    rintro D W hD ⟨hA, hBW⟩ hK
    have HA := Lib.hid hA; clear hA
    have Hv : Hid (Eight ((allBlk xs).foldl blockU h0)) := Lib.hid (foldl_eight _ H8.out)
    revert HA Hv Hsum
    generalize (allBlk xs).foldl blockU h0 = v
    intro Hsum HA Hv
    have HK := Lib.hid hK; clear hK
    have HBW := Lib.hid hBW; clear hBW
    go_wp2_with (first
      | (refine wp_make_cap rfl (.const (.int .i64 0)) (.const (.int .i64 32)) 22 rfl 5 Tryd.underlying22 Tryd.info_u8 0 32 rfl rfl (by decide) (by decide) ?_; intro w7 hown7 hb7; have HA7 : Hid (Arr w7 gh 59 .u32 v) := Lib.hid (HA.out.below hb7 HA.out.lt))
      | refine wp_load_arr arr8 rfl (.tmp 3) rfl rfl HA7.out Hv.out.1 ?_)
    have hw7 : w.heap.size ≤ W.heap.size := HBW.out.size
    have hD7 : D < W.heap.size := (Array.getElem?_eq_some_iff.1 HK.out).1
    have HD : Hid (w.heap.size ≤ D ∧ D < W.heap.size ∧ w.heap.size ≤ W.heap.size) := Lib.hid ⟨by have := Hgh.out; have := Hz4.out; omega, hD7, hw7⟩
    have Hb7 : Hid (Below w.heap.size w w7) := Lib.hid (HBW.out.trans (hb7.mono HBW.out.size))
    have HK7 : Hid (w7.heap[D]? = some (.deferred (some []))) := Lib.hid ((hb7.block D hD7).trans HK.out)
    have Ho7 := Lib.hid hown7
    have Hs7 : Hid (W.heap.size ≤ w7.heap.size) := Lib.hid hb7.size
    have Hvl : Hid (v.length = 8) := Lib.hid Hv.out.1
    have Hvb : Hid (∀ x ∈ v, x < 4294967296) := Lib.hid Hv.out.2
    clear hown7 hb7 hD7 hw7 HBW HK HA HA7 Hv H8 Hks Hx HI Hcell Hz4 H4 B4 B3
    go_loopw [5, 17] (fun s i wr => ∃ (j c9 : Nat) (A9 : Option Addr), j ≤ 8 ∧ i = .int .i64 (j : Int) ∧ s = .slice A9 (4 * j) c9 ∧
        Hid (wr.ownsRow W.heap.size 5 1 (.slice A9 (4 * j) c9) (4 * j) (Byt (outU (v.take j)))) ∧ Hid (Below w.heap.size w wr) ∧ Hid (wr.heap[D]? = some (.deferred (some []))) ∧ Hid (W.heap.size ≤ wr.heap.size)) (fun _ i _ => 8 - (intOf i).toNat)
    case atStart => exact ⟨0, 32, _, by omega, rfl, rfl, Ho7, Hb7, HK7, Hs7⟩
    case round =>
      clear Ho7 Hb7 HK7 Hs7
      obtain ⟨j, c9, A9, hj, rfl, rfl, Ho, Hbr, HKr, Hsr⟩ := hrel
      by_cases hj8 : j < 8
      · have hjv : j < v.length := by rw [Hvl.out]; exact hj8
        have hix := fun w' => run_index_arr (P := Tryd.prog) arr8 info_u32s Hvl.out (List.getElem?_eq_getElem hjv) w'
        have hxb := Hvb.out _ (List.getElem_mem hjv)
        have Hsnoc : Hid (outU (v.take (j + 1)) = outU (v.take j) ++ putL v[j] 4) := Lib.hid (outU_snocT hjv)
        have hput := fun w' => put_any v[j] 4 w' (by omega)
        rw [show putR v[j] 4 = putL v[j] 4 from rfl] at hput
        have Hpl4 : Hid ((putL v[j] 4).length = 4) := Lib.hid (putL_length _ _)
        revert hput Hpl4 Hsnoc hix hxb
        generalize putL v[j] 4 = L
        generalize v[j] = x
        intro hix hxb Hsnoc hput Hpl4
        go_wp2_with fail
        refine (hput _).mono ?_
        rintro e w10 ⟨A10, c10, rfl, hown10, hb10⟩
        have hown2 := own_below Ho.out hb10 (Nat.le_refl _)
        have hl4 : L.length ≤ 4 := by rw [Hpl4.out]; omega
        have hsz10 : W.heap.size ≤ w10.heap.size := Nat.le_trans Hsr.out hb10.size
        have hK10 : w10.heap[D]? = some (.deferred (some [])) := (hb10.block D (Array.getElem?_eq_some_iff.1 HKr.out).1).trans HKr.out
        go_wp2_with (refine wp_append_foot rfl _ _ 22 rfl 5 Tryd.underlying22 (.int .u8 0) 1 (by omega) rfl Tryd.info_u8 W.heap.size (4 * j) c9 A9 _ rfl hown2 w10.heap.size L.length c10 A10 _ rfl (Rd.of_own hown10) (SlOK.of_own hown10) (Byt_one _) (by omega) hsz10 ?_)
        intro A11 c11 w11 hown11 hg11 hat11
        have hm11 : Moves (fun k => W.heap.size ≤ k) w10 w11 := (Moves.refl _ _).grown hg11 (fun k hk => .inl (hown2.lt k hk).1)
        have Hb11 : Hid (Below w.heap.size w w11) := Lib.hid ((Hbr.out.trans (hb10.mono Hbr.out.size)).trans (hm11.below (fun k hk => by have := HD.out; omega) (by have := HD.out; omega)))
        have HK11 : Hid (w11.heap[D]? = some (.deferred (some []))) := Lib.hid ((hm11.block D (Array.getElem?_eq_some_iff.1 hK10).1 (by have := HD.out; omega)).trans hK10)
        have Hs11 : Hid (W.heap.size ≤ w11.heap.size) := Lib.hid (Nat.le_trans hsz10 hm11.size)
        rw [← Byt_append, ← Hsnoc.out, Hpl4.out, show 4 * j + 4 = 4 * (j + 1) by omega] at hown11
        have Ho11 := Lib.hid hown11
        clear hown11 hown10 hown2 hg11 hat11 hm11 hb10 hsz10 hK10
        have hlen11 : 4 * j + L.length = 4 * (j + 1) := by rw [Hpl4.out]; omega
        rw [hlen11]
        go_wp2
        go_roundw
        case rel => exact ⟨j + 1, c11, A11, by omega, by go_num, rfl, Ho11, Hb11, HK11, Hs11⟩
        case measure => simp [intOf]; omega
      · obtain rfl : j = 8 := by omega
        have hown8 := Ho.out
        rw [List.take_of_length_le (by rw [Hvl.out]; omega)] at hown8
        have hl : (outU v).length = 32 := by have := flat_length v; rw [this, Hvl.out]
        have Hl := Lib.hid hl; clear hl
        have hd := HD.out
        have hrow2 := own_base (base' := w.heap.size) (ownsRow_putObj hown8 (.deferred none) HKr.out rfl) (by omega)
        have Hfin := Lib.hid hrow2; clear hrow2 hown8
        go_wp2
        refine ⟨by simp, .inl ⟨_, _, rfl, run_takeDeferred HKr.out, ⟨.slice A9 32 c9, ?_, by rw [Hsum.out]; exact ⟨A9, c9, by rw [Hl.out], by rw [Hl.out]; exact Hfin.out, Hbr.out.trans (belowK_b (w := w) (Nat.le_refl _) _ D _ _ hd.1 HKr.out rfl rfl)⟩⟩⟩⟩
        simp [results, Tryd.f40, go_sem]

theorem sum_any (B n c : Nat) (A : Option Addr) (xs : List UInt8) (w : World) (hx : Rd w B A n (Byt xs)) (hok : SlOK A n c) (hn : n ≤ 1099511627776) (hB : B ≤ w.heap.size) (hks : KsAt w) :
    Calls Tryd.prog 40 #[.slice A n c] w (NewB 5 w (sumU xs)) := callsIn_wide.1 (sum_in B n c A xs w hx hok hn hB hks)

end Go.Proofs.YtacbpdampdikjaaDoor

/-
  Tags on lists of bytes: the key over a pad, the tag of a text, the tag of two parts, and their laws. No program is named here.
-/
namespace Go.Proofs.YtacbpdampdikjaaDoor

/-- The key as it is put over a pad. -/
def keyU (k : List UInt8) : List UInt8 := padL (if 64 < k.length then sumU k else k) 64
/-- The key by turns with a byte. -/
def overU (k : List UInt8) (c : UInt8) : List UInt8 := (keyU k).map fun b => b ^^^ c
/-- The tag of a text. -/
def macU (k t : List UInt8) : List UInt8 := sumU (overU k 0x5c ++ sumU (overU k 0x36 ++ t))
/-- The tag of two parts. -/
def twoU (k a b : List UInt8) : List UInt8 := macU k (putL a.length 4 ++ a ++ b)

theorem keyU_length (k : List UInt8) : (keyU k).length = 64 := padL_length _ _
theorem overU_length (k : List UInt8) (c : UInt8) : (overU k c).length = 64 := by rw [overU, List.length_map, keyU_length]
theorem macU_length (k t : List UInt8) : (macU k t).length = 32 := sumU_length _
theorem padL_self {l : List UInt8} {n : Nat} (h : l.length = n) : padL l n = l := by
  subst h
  simp [padL]
theorem keyU_keyU (k : List UInt8) : keyU (keyU k) = keyU k := by
  have h := keyU_length k
  generalize keyU k = l at h
  rw [keyU, if_neg (by omega), padL_self h]
theorem macU_key (k t : List UInt8) : macU (keyU k) t = macU k t := by simp only [macU, overU, keyU_keyU]
theorem keyU_more (k : List UInt8) (m : Nat) (h : k.length + m ≤ 64) : keyU (k ++ List.replicate m 0) = keyU k := by
  rw [keyU, keyU, if_neg (by rw [List.length_append, List.length_replicate]; omega), if_neg (by omega), padL, padL, List.take_of_length_le (by rw [List.length_append, List.length_replicate]; omega), List.take_of_length_le (by omega), List.length_append, List.length_replicate, List.append_assoc, List.replicate_append_replicate]
  congr 2
  omega
theorem macU_more (k t : List UInt8) (m : Nat) (h : k.length + m ≤ 64) : macU (k ++ List.replicate m 0) t = macU k t := by simp only [macU, overU, keyU_more k m h]
theorem xor_rep (l : List UInt8) (c : UInt8) : ∀ n, l.length = n → xorL l (List.replicate n c) = l.map fun b => b ^^^ c := by
  induction l with
  | nil => intro n h; subst h; rfl
  | cons a l ih =>
    intro n h
    subst h
    show xorL (a :: l) (c :: List.replicate l.length c) = _
    have := ih l.length rfl
    simp only [xorL, List.zipWith_cons_cons, List.map_cons] at this ⊢
    rw [this]
theorem xor_key (k : List UInt8) (c : UInt8) : xorL (keyU k) (List.replicate 64 c) = overU k c := xor_rep _ _ _ (keyU_length k)
theorem over_step (k : List UInt8) (c : UInt8) {j : Nat} (h : j < (keyU k).length) : (overU k c).take (j + 1) = (overU k c).take j ++ [(keyU k)[j] ^^^ c] := by
  rw [take_succ_get _ _ (by rw [overU_length]; have := keyU_length k; omega)]
  simp [overU]
/-- A tag with its last byte cut off is none. -/
theorem mac_short (l : List UInt8) (h : l.length = 32) : sameL (l.take 31) l = false := by
  unfold sameL
  refine decide_eq_false fun e => ?_
  have := congrArg List.length e
  rw [List.length_take] at this
  omega
theorem mac_none : macU [] [] = [182, 19, 103, 154, 8, 20, 217, 236, 119, 47, 149, 215, 120, 195, 95, 197, 255, 22, 151, 196, 147, 113, 86, 83, 198, 199, 18, 20, 66, 146, 197, 173] := by decide +kernel

end Go.Proofs.YtacbpdampdikjaaDoor

/-
  Rows of rows of bytes: parts that stand side by side in a slice of slices. No program is named here.
-/
namespace Go.Proofs.YtacbpdampdikjaaDoor
open Go.RowKit

/-- A part: a slice, and what it reads as. -/
structure Prt where
  A : Option Addr
  n : Nat
  c : Nat
  xs : List UInt8
def Prt.val (p : Prt) : Value := .slice p.A p.n p.c
/-- The values of a row of parts. -/
def Rws (ps : List Prt) : List Value := ps.map Prt.val
/-- Each part reads as it says. -/
def RwsOK (w : World) (B : Nat) (ps : List Prt) : Prop := ∀ p ∈ ps, Rd w B p.A p.n (Byt p.xs) ∧ SlOK p.A p.n p.c
/-- The parts one behind the other. -/
def catU : List Prt → List UInt8
  | [] => []
  | p :: ps => p.xs ++ catU ps

theorem catU_append (a b : List Prt) : catU (a ++ b) = catU a ++ catU b := by
  induction a with
  | nil => rfl
  | cons p a ih => simp only [List.cons_append, catU, ih, List.append_assoc]
theorem catU_step {ps : List Prt} {j : Nat} (h : j < ps.length) : catU (ps.take (j + 1)) = catU (ps.take j) ++ ps[j].xs := by
  rw [List.take_succ_eq_append_getElem h, catU_append]
  simp [catU]
theorem catU_le (ps : List Prt) (j : Nat) : (catU (ps.take j)).length ≤ (catU ps).length := by
  conv => rhs; rw [← List.take_append_drop j ps, catU_append, List.length_append]
  omega
section
variable {w w' : World} {B B' n : Nat} {A : Option Addr} {ps : List Prt} {j : Nat}
theorem Rws_length : (Rws ps).length = ps.length := by simp [Rws]
theorem Rd.rws (h : Rd w B A n (Rws ps)) : ps.length = n := by have := h.1; rwa [Rws_length] at this
theorem Rd.row (h : Rd w B A n (Rws ps)) (hj : j < n) (hl : j < ps.length) : ∃ b o, A = some ⟨b, o, none⟩ ∧ b < B ∧ w.cell? ⟨b, o + j, none⟩ = some (.slice ps[j].A ps[j].n ps[j].c) := by
  obtain ⟨b, o, e, hb, u, hu, hc⟩ := h.at_ hj
  have hg : (Rws ps)[j]? = some ps[j].val := by simp [Rws, List.getElem?_eq_getElem hl]
  rw [hg] at hu
  injection hu with hu
  exact ⟨b, o, e, hb, by rw [hc, ← hu]; rfl⟩
theorem RwsOK.below (h : RwsOK w B ps) (hb : Below B w w') : RwsOK w' B ps := fun p hp => ⟨(h p hp).1.below hb, (h p hp).2⟩
theorem RwsOK.wider (h : RwsOK w B ps) (hB : B ≤ B') : RwsOK w B' ps := fun p hp => ⟨(h p hp).1.wider hB, (h p hp).2⟩
theorem RwsOK.one {p : Prt} (h : Rd w B p.A p.n (Byt p.xs)) (hok : SlOK p.A p.n p.c) : RwsOK w B [p] := fun q hq => by
  obtain rfl : q = p := List.mem_singleton.1 hq
  exact ⟨h, hok⟩
end

end Go.Proofs.YtacbpdampdikjaaDoor

/-
  From a law's walk to its row: the arguments read behind the call as they did, the result is true.
-/
namespace Go.Proofs.YtacbpdampdikjaaDoor
open Go.ChangeShapes Go.WideShapes Go.ChangeAt Go.RowKit

theorem bon {w w1 w2 : World} (h : Below w.heap.size w w1) (k : Below w1.heap.size w1 w2) : Below w.heap.size w w2 := h.trans (k.mono h.size)

section
variable {H : Type} {enc : TypeId × Value → H} {P : Program}

/-- All arguments at once, carried over a call that turned no old block. -/
theorem trodAll_carry (hl : laidOutB P = true) {W W' : World} (hb : Below W.heap.size W W') :
    ∀ (ts : List TypeId) (vs : List Value) (ds : List (DataW H)) (ps : List MemPlace), (ts.all fun t => P.readableRec t && decide (t < P.types.size)) = true →
      DataW.TrodAll enc P W 0 (fun _ => true) true ts vs ds ps → (∀ x ∈ ps, x.block < W.heap.size) → DataW.TrodAll enc P W' 0 (fun b => decide (b < W.heap.size)) true ts vs ds ps
  | [], [], [], _, _, h, _ => h
  | t :: ts, v :: vs, d :: ds, ps, ht, h, hlt => by
    obtain ⟨p, q, h1, h2, rfl⟩ := h
    simp only [List.all_cons, Bool.and_eq_true, decide_eq_true_eq] at ht
    obtain ⟨⟨r1, r2⟩, r3⟩ := ht
    exact ⟨p, q, Below.trod hl r1 r2 h1 hb (fun x hx => hlt x (List.mem_append.2 (.inl hx))), trodAll_carry hl hb ts vs ds q r3 h2 (fun x hx => hlt x (List.mem_append.2 (.inr hx))), rfl⟩
  | [], _ :: _, _, _, _, h, _ => by cases h
  | [], [], _ :: _, _, _, h, _ => by cases h
  | _ :: _, [], _, _, _, h, _ => by cases h
  | _ :: _, _ :: _, [], _, _, h, _ => by cases h

/-- WHAT A LAW OWES BEHIND ITS WALK: old memory is as it was, the answer is true. -/
theorem law_post {f : Func} {s : ChangeSpec} {W W' : World} {args : Array Value} {ds gs : List (DataW H)} {before : List MemPlace} {tb : TypeId}
    (hl : laidOutB P = true) (hvars : s.vars = []) (hres : f.resultTypes = #[tb]) (htb : P.underlying tb = some .bool)
    (hts : (f.params.toList.all fun t => P.readableRec t && decide (t < P.types.size)) = true)
    (hW : DataW.Whole enc P f.params.toList s.vars false W args.toList ds gs before)
    (hfn0 : s.fn H ds = { results := [.lit (.bool true)], args := ds }) (hb : Below W.heap.size W W') :
    s.post enc P f false true false false W args (.bool true) W' := by
  have hlt : ∀ x ∈ before, x.block < W.heap.size := fun x hx => by simpa using hW.lt x hx
  obtain ⟨p, q, hA, hV, hpq, hz, hn⟩ := hW
  have hq : gs = [] ∧ q = [] := by
    rw [hvars] at hV
    match gs, hV with
    | [], hV => exact ⟨rfl, hV⟩
  obtain ⟨rfl, rfl⟩ := hq
  rw [List.append_nil] at hpq
  subst hpq
  have hfn : s.fn H (ds ++ []) = { results := [.lit (.bool true)], args := ds } := by rw [List.append_nil]; exact hfn0
  refine ⟨ds, [], before, [], before, [], ⟨before, [], hA, hV, by simp, hz, hn⟩, ?_, ?_, ?_, hb.frame _, fun h => by cases h⟩
  · rw [hfn, hres]
    exact trodAll_mk1 (shut_bool htb true)
  · rw [hfn]
    exact trodAll_carry hl hb _ _ _ _ hts hA hlt
  · rw [hfn, hvars]
    exact rfl
end

theorem wf_u64 {n : Int} (h : (Lit.int .u64 n).wf = true) : ∃ k : Nat, n = (k : Int) ∧ k < 18446744073709551616 := by
  simp only [Lit.wf, Bool.and_eq_true, decide_eq_true_eq] at h
  have e1 : IntKind.u64.min = 0 := rfl
  have e2 : IntKind.u64.max = 18446744073709551615 := rfl
  exact ⟨n.toNat, by omega, by omega⟩
theorem wf_u32 {n : Int} (h : (Lit.int .u32 n).wf = true) : ∃ k : Nat, n = (k : Int) ∧ k < 4294967296 := by
  simp only [Lit.wf, Bool.and_eq_true, decide_eq_true_eq] at h
  have e1 : IntKind.u32.min = 0 := rfl
  have e2 : IntKind.u32.max = 4294967295 := rfl
  exact ⟨n.toNat, by omega, by omega⟩
theorem wf_int {n : Int} (h : (Lit.int .i64 n).wf = true) : -9223372036854775808 ≤ n ∧ n ≤ 9223372036854775807 := by
  simp only [Lit.wf, Bool.and_eq_true, decide_eq_true_eq] at h
  have e1 : IntKind.i64.min = -9223372036854775808 := rfl
  have e2 : IntKind.i64.max = 9223372036854775807 := rfl
  omega

/-- A slice of bytes that came in. -/
theorem open_bytes {H : Type} {enc : TypeId × Value → H} {P : Program} {w : World} {base : Nat} {held : Bool} {t e : TypeId} (ht : P.underlying t = some (.slice e)) (he : P.underlying e = some (.int .u8)) (hc : P.cellsOf e = 1)
    {r : Reach} {b0 : Nat} {v : Value} {d : DataW H} {ps : List MemPlace} (hval : Value.okWide P w r b0 t v) (hd : DataW.Trod enc P w base (fun _ => true) held t v d ps) (hlt : ∀ x ∈ ps, x.block < w.heap.size) :
    ∃ A n c xs, v = .slice A n c ∧ n ≤ maxLen ∧ Rd w w.heap.size A n (Byt xs) := by
  obtain ⟨A, n, c, rfl⟩ := okWide_slice ht hval
  obtain ⟨fuel, hf⟩ := hd
  rcases open_ints ht he hc hf with ⟨hcs, _⟩ | ⟨a, n', c', zs, hcs, _, hl, hm, hz, hx, hcell, hwz⟩
  · simp [Value.cells] at hcs
    obtain ⟨rfl, rfl, rfl⟩ := hcs
    exact ⟨none, 0, 0, [], rfl, Nat.zero_le _, Rd.nil⟩
  · simp [Value.cells] at hcs
    obtain ⟨rfl, rfl, rfl⟩ := hcs
    simp only [Prod.mk.injEq] at hx
    obtain ⟨-, rfl⟩ := hx
    simp only [if_true] at hz
    have hby : ∀ i (hi : i < zs.length), zs[i] = ((UInt8.ofNat zs[i].toNat).toNat : Int) := by
      intro i hi
      have h := hwz zs[i] (List.getElem_mem hi)
      simp only [Lit.wf, Bool.and_eq_true, decide_eq_true_eq] at h
      have h1 : IntKind.u8.min = 0 := rfl
      have h2 : IntKind.u8.max = 255 := rfl
      rw [UInt8.toNat_ofNat']
      omega
    have hlen : ((zs.take n).map fun z => UInt8.ofNat z.toNat).length = n := by simp; omega
    refine ⟨some a, n, c, (zs.take n).map (fun z => UInt8.ofNat z.toNat), rfl, by omega, by rw [Byt_length]; exact hlen, fun hn => ?_⟩
    obtain ⟨b, o, sp⟩ := a
    have hsp : sp = none := by simpa [Addr.add] using World.cell?_spot (hcell 0 (by omega))
    subst hsp
    refine ⟨b, o, rfl, hlt (.cell b o) (MemPlace.mem_row.2 ⟨0, by omega, by simp⟩), fun j u hj => ?_⟩
    have hj' : j < ((zs.take n).map fun z => UInt8.ofNat z.toNat).length := by
      have := (List.getElem?_eq_some_iff.1 hj).1
      rwa [Byt_length] at this
    rw [Byt_get hj'] at hj
    injection hj with hj
    rw [← hj, ← add_flat, hcell j (by omega)]
    simp only [List.getElem_map, List.getElem_take]
    rw [← hby j (by omega)]
    simp [List.getD, List.getElem?_eq_getElem (show j < zs.length by omega)]

end Go.Proofs.YtacbpdampdikjaaDoor

namespace Go.Proofs.YtacbpdampdikjaaDoor
open Go.RowKit

set_option maxHeartbeats 1600000 in
theorem over_any (b : UInt8) (B bk c k f : Nat) (A D : Option Addr) (xs : List UInt8) (ps : List Prt) (w : World) (hps : Rd w B D k (Rws ps)) (hok : RwsOK w B ps)
    (hcell : w.cell? ⟨bk, 0, none⟩ = some (.slice A 64 c)) (hbk : bk < w.heap.size) (hL : Rd w B A 64 (Byt (keyU xs))) (hlen : (catU ps).length ≤ 549755813888) (hk : k ≤ 1099511627776) (hB : B ≤ w.heap.size) (hK : KsAt w) :
    Calls Tryd.prog 38 #[.int .u8 (b.toNat : Int), .slice D k f, .pointer (some ⟨bk, 0, none⟩)] w (NewB 5 w (sumU (overU xs b ++ catU ps))) := by
  have hpl := hps.rws
  have Hpl := Lib.hid hpl; clear hpl
  have Hbk := Lib.hid hbk
  have Hlen := Lib.hid hlen; clear hlen
  have HK := Lib.hid hK; clear hK
  have Hxor := Lib.hid (xor_key xs b)
  have Hol := Lib.hid (overU_length xs b)
  generalize overU xs b = O at Hxor Hol ⊢
  generalize keyU xs = L at hL Hxor
  have HL := Lib.hid hL; clear hL
  have HPS := Lib.hid hps; clear hps
  have HOK := Lib.hid hok; clear hok
  have HB := Lib.hid hB; clear hB
  have hrep := repeat64_any 1 w.heap.size 0 b (w.alloc (.cells #[.int .u8 (b.toNat : Int)] 5)).drew (by simp) (cell_new1 w _ _)
  have hb0 : Below w.heap.size w (w.alloc (.cells #[.int .u8 (b.toNat : Int)] 5)).drew := ((Below.refl _ _).alloc (Nat.le_refl _) _).drew
  have hca : (w.alloc (.cells #[.int .u8 (b.toNat : Int)] 5)).drew.cell? ⟨bk, 0, none⟩ = some (.slice A 64 c) := (hb0.cell (show bk < _ from hbk)).trans hcell
  have hcd : w.drew.cell? ⟨bk, 0, none⟩ = some (.slice A 64 c) := hcell
  have hrep' : Calls Tryd.prog 39 #[.slice (some ⟨w.heap.size, 0, none⟩) 1 1, .int .i64 64] (w.alloc (.cells #[.int .u8 (b.toNat : Int)] 5)).drew fun e w' =>
      ∃ g1, e = .returned (.slice (some ⟨g1, 0, none⟩) 64 64) ∧ Hid (Rd w' w'.heap.size (some ⟨g1, 0, none⟩) 64 (Byt (List.replicate 64 b))) ∧ Hid (Below w.heap.size w w') ∧ w'.cell? ⟨bk, 0, none⟩ = some (.slice A 64 c) :=
    hrep.mono fun e w' ⟨he, hr, hb⟩ => ⟨_, he, Lib.hid hr, Lib.hid (bon hb0 hb), ((bon hb0 hb).cell (show bk < _ from hbk)).trans hcell⟩
  clear hrep
  have hxor : ∀ (g1 : Nat) (w1 : World), Hid (Rd w1 w1.heap.size (some ⟨g1, 0, none⟩) 64 (Byt (List.replicate 64 b))) → Hid (Below w.heap.size w w1) → w1.cell? ⟨bk, 0, none⟩ = some (.slice A 64 c) →
      Calls Tryd.prog 26 #[.slice A 64 c, .slice (some ⟨g1, 0, none⟩) 64 64] w1 fun e w' =>
        ∃ A2 c2, e = .returned (.slice A2 64 c2) ∧ Hid (w'.ownsRow w.heap.size 5 1 (.slice A2 64 c2) 64 (Byt O)) ∧ Hid (Below w.heap.size w w') ∧ w'.cell? ⟨bk, 0, none⟩ = some (.slice A 64 c) := by
    intro g1 w1 Hr1 Hb1 hc1
    refine (xor_any w1.heap.size 64 c 64 64 A _ L (List.replicate 64 b) w1 ((HL.out.below (Hb1.out.mono HB.out)).wider (Nat.le_trans HB.out Hb1.out.size)) Hr1.out (by decide) (by decide) (Nat.le_refl _)).mono ?_
    rw [Hxor.out]
    rintro e w2 ⟨A2, c2, rfl, hown2, hb2⟩
    rw [Hol.out] at hown2
    exact ⟨A2, c2, by rw [Hol.out], Lib.hid (own_base hown2 Hb1.out.size), Lib.hid (bon Hb1.out hb2), (hb2.cell (show bk < _ from Nat.lt_of_lt_of_le Hbk.out Hb1.out.size)).trans hc1⟩
  go_enter Tryd.func38, Tryd.ntmps38
  go_wp2_with fail
  (go_region_held (fun w' => w'.cell? ⟨bk, 0, none⟩ = some (.slice A 64 c)) (first | exact hcd | exact hcell | exact hca | exact hc1 | exact hc2)
      (first
        | (go_at_call 39; refine hrep'.mono ?_; rintro e w1 ⟨g1, rfl, Hr1, Hb1, hc1⟩; have hx1 := hxor g1 w1 Hr1 Hb1 hc1; clear Hr1)
        | (go_at_call 26; refine hx1.mono ?_; rintro e w2 ⟨A2, c2, rfl, Hown2, Hb2, hc2⟩)))
  have hOc : O.length + (catU ps).length ≤ 64 + 549755813888 := by have := Hol.out; have := Hlen.out; omega
  clear hca hcd hrep' hxor hx1 hc1 hc2 Hb1 hb0 hcell
  have HOC := Lib.hid hOc; clear hOc
  go_wp2
  go_loopw [6, 16] (fun v i wr => ∃ (j m : Nat) (A' : Option Addr) (c' : Nat), j ≤ k ∧ i = .int .i64 j ∧ v = .slice A' m c' ∧
      Hid (wr.ownsRow w.heap.size 5 1 (.slice A' m c') m (Byt (O ++ catU (ps.take j)))) ∧ Hid (Below w.heap.size w wr)) (fun _ i _ => k - (intOf i).toNat)
  case atStart => exact ⟨0, 64, A2, c2, Nat.zero_le _, rfl, rfl, by simpa [catU] using Hown2, Hb2⟩
  case round =>
    obtain ⟨j, m, A', c', hj, rfl, rfl, Hown, Hbr⟩ := hrel
    have Hm : Hid (m = O.length + (catU (ps.take j)).length) := Lib.hid (by have := own_len Hown.out; rw [List.length_append] at this; omega)
    by_cases hlt : j < k
    · have hjp : j < ps.length := by rw [Hpl.out]; exact hlt
      obtain ⟨bd, od, rfl, hbd, hcd⟩ := ((HPS.out.wider HB.out).below Hbr.out).row hlt hjp
      have hq := HOK.out ps[j] (List.getElem_mem hjp)
      have hst := catU_step hjp
      have hle := catU_le ps (j + 1)
      generalize ps[j] = q at hcd hq hst
      obtain ⟨qA, qn, qc, ys⟩ := q
      dsimp only at hcd hq hst
      obtain ⟨hq1, hq2⟩ := hq
      have hyl := hq1.bytes
      have hq3 := (hq1.wider HB.out).below Hbr.out
      have Hst : Hid (O ++ catU (ps.take (j + 1)) = O ++ catU (ps.take j) ++ ys) := Lib.hid (by rw [hst, List.append_assoc])
      have hmn : m + qn ≤ 64 + 549755813888 := by
        have h1 := HOC.out
        have h2 := Hm.out
        rw [hst, List.length_append] at hle
        omega
      have hsz := Hbr.out.size
      clear hst hle hq1 hyl
      go_wp2_with (refine wp_append_foot rfl _ _ 22 rfl 5 Tryd.underlying22 (.int .u8 0) 1 (by omega) rfl Tryd.info_u8 w.heap.size m c' A' _ rfl Hown.out w.heap.size qn qc qA _ rfl hq3 hq2 (Byt_one _) (by omega) hsz ?_)
      intro A3 c3 w3 hown3 hg3 hat3
      have Hb3 : Hid (Below w.heap.size w w3) := Lib.hid (Hbr.out.grown hg3 hsz (fun k hk => (Hown.out.lt k hk).1))
      rw [← Byt_append, ← Hst.out] at hown3
      have Hown3 := Lib.hid hown3; clear hown3 hg3 hat3
      go_wp2
      go_roundw
      case rel => exact ⟨j + 1, m + qn, A3, c3, by omega, by go_num, rfl, Hown3, Hb3⟩
      case measure => simp [intOf]; omega
    · obtain rfl : j = k := by omega
      rw [List.take_of_length_le (by rw [Hpl.out]; exact Nat.le_refl _)] at Hown Hm
      have hml := own_len Hown.out
      have hs := sum_any wr.heap.size m c' A' _ wr (Rd.of_own Hown.out) (SlOK.of_own Hown.out) (by have := HOC.out; have := Hm.out; omega) (Nat.le_refl _) (HK.out.below Hbr.out)
      clear hml
      go_wp2_with fail
      refine hs.mono ?_
      rintro e w3 ⟨A3, c3, rfl, hown3, hb3⟩
      go_wp2
      go_ret
      exact ⟨A3, c3, rfl, own_base hown3 Hbr.out.size, bon Hbr.out hb3⟩

end Go.Proofs.YtacbpdampdikjaaDoor

namespace Go.Proofs.YtacbpdampdikjaaDoor
open Go.RowKit

theorem copied {α : Type} (X L : List α) (m n : Nat) (hX : X.length = m) : (X.take n ++ L.drop (min m n)).take n = X.take n ++ (L.take n).drop m := by
  by_cases h : m ≤ n
  · rw [Nat.min_eq_left h, List.take_of_length_le (show X.length ≤ n by omega), List.take_append, List.take_of_length_le (show X.length ≤ n by omega), hX, List.drop_take]
  · have hl : (X.take n).length = n := by rw [List.length_take]; omega
    rw [List.take_append, hl, Nat.sub_self, List.take_zero, List.take_take, Nat.min_self, List.drop_eq_nil_of_le (by rw [List.length_take]; omega)]

/-- 'copy(out, src)': out a row of the call's own, from its head on. -/
theorem wp_copy_bytes {P : Program} {w : World} {ops : Array Oper} {rest : List Oper} {o : Oper} {a : Act} {Q : Exit → Act → World → Prop} (hgd : o.guard = none) (d s : Operand) (dT sT : TypeId)
    (ho : o.op = .call { callee := .builtin .copy, args := #[d, s], argTypes := #[dT, sT] }) (e : TypeId) (hu : P.underlying dT = some (.slice e))
    (hinfo : (P.info? e).map (fun i => (i.zero, i.size, i.bytes)) = some (some (.int .u8 0), 1, 1))
    (g n c base : Nat) (dl : List UInt8) (hd : a.eval d = .slice (some ⟨g, 0, none⟩) n c) (hown : w.ownsRow base e 1 (.slice (some ⟨g, 0, none⟩) n c) n (Byt dl))
    (A : Option Addr) (m c' B : Nat) (xs : List UInt8) (hs : a.eval s = .slice A m c') (hx : Rd w B A m (Byt xs)) (w0 : World) (B0 : Nat) (hb : Below B0 w0 w) (hBg : B0 ≤ g)
    (h : ∀ w', w'.ownsRow base e 1 (.slice (some ⟨g, 0, none⟩) n c) n (Byt (xs.take n ++ dl.drop xs.length)) → Below B0 w0 w' → wpList P ops Q rest (a.put o.dst (goInt ((min m n : Nat) : Int))) w') :
    wpList P ops Q (o :: rest) a w := by
  obtain ⟨i0, hi, hz0, hz1, hz2⟩ := info_parts hinfo
  have hxl := hx.bytes
  have hdl := own_len hown
  rcases hown.2 with ⟨h', _⟩ | ⟨g', cap, cur, h', hg, hh, hnc, hcm, hcs, htake⟩
  · simp at h'
  simp only [Value.slice.injEq, Option.some.injEq, Addr.mk.injEq, and_true, true_and] at h'
  obtain ⟨rfl, rfl⟩ := h'
  have hcl : ((Byt xs).take n).length = min m n := by simp [Byt, hxl]; omega
  simp only [Nat.mul_one] at hcs htake
  refine wpList_copy_splice hgd d s dT sT ho e hu (by rw [hi, Option.map_some, hz1]) (some ⟨g, 0, none⟩) A n c m c' hd hs g 0 cur.toList e (by simpa using hh) ((Byt xs).take n) hcl ?_ ?_ ?_ B0 w0 hb hBg ?_
  · intro hpos
    obtain ⟨b, o, rfl, hb', hc⟩ := hx.2 (by omega)
    refine ⟨rfl, ⟨b, o, none⟩, rfl, fun j v hj => ?_⟩
    rw [add_flat]
    refine hc j v ?_
    rw [List.getElem?_take] at hj
    split at hj
    · exact hj
    · cases hj
  · rw [hcl, Array.length_toList]; omega
  · intro v hv
    exact Byt_one xs v (List.mem_of_mem_take hv)
  · intro w' hw' hb'
    rw [hcl]
    refine h w' ⟨?_, .inr ⟨g, c, _, rfl, hg, hw'.out, hnc, hcm, ?_, ?_⟩⟩ hb'
    · rw [Byt_length, List.length_append, List.length_take, List.length_drop]; omega
    · rw [List.size_toArray, length_splice _ _ _ (by rw [hcl, Array.length_toList]; omega), Array.length_toList, hcs, Nat.mul_one]
    · simp only [splice, List.take_zero, List.nil_append, Nat.zero_add, Nat.mul_one, hcl]
      rw [Byt_append, Byt_take, Byt_drop, ← htake, hxl, copied _ _ m n (by rw [Byt_length, hxl])]

/-- One byte more, in a region that draws its order: the byte stands in a new block of its own. -/
theorem step_append_byte {P : Program} {ops : Array Oper} {o : Oper} {a : Act} {w : World} {K : Act → World → Prop} {Q : Exit → Act → World → Prop} {E : Prop} (hgd : o.guard = none) (s x : Operand) (t : TypeId)
    (ho : o.op = .call { callee := .builtin .append, args := #[s, x], argTypes := #[t, t] }) (e : TypeId) (ht : P.underlying t = some (.slice e))
    (hinfo : (P.info? e).map (fun i => (i.zero, i.size, i.bytes)) = some (some (.int .u8 0), 1, 1))
    (base n c g1 : Nat) (A : Option Addr) (l : List UInt8) (hs : a.eval s = .slice A n c) (hx : a.eval x = .slice (some ⟨g1, 0, none⟩) 1 1)
    (hown : w.ownsRow base e 1 (.slice A n c) n (Byt l)) (z : Int) (b : UInt8) (hz : z = (b.toNat : Int)) (hcell : w.cell? ⟨g1, 0, none⟩ = some (.int .u8 z))
    (hn : n + 1 ≤ 140737488355328) (hbase : base ≤ w.heap.size) (w0 : World) (B0 : Nat) (hb : Below B0 w0 w) (hB0 : B0 ≤ base)
    (h : ∀ A' c' w', w'.ownsRow base e 1 (.slice A' (n + 1) c') (n + 1) (Byt (l ++ [b])) → Below B0 w0 w' → K (a.put o.dst (.slice A' (n + 1) c')) w') :
    if Region.wanted o (yielded ops a.tmps) = true then Oper.wp P o a w K Q else E := by
  obtain ⟨i0, hi, hz0, hz1, hz2⟩ := info_parts hinfo
  refine step_append_lies w hgd s x t ho base e i0 (.int .u8 0) 1 1 ht hi hz0 hz1 hz2 rfl (by omega) _ n (Byt l) hs hown ⟨g1, 0, none⟩ 1 1 (Byt [b]) hx rfl ?_ (Byt_one _) (by omega) (by unfold maxLen; omega) (by omega) hbase w.heap.size rfl ?_
  · intro j u hj
    match j, hj with
    | 0, hj =>
      simp [Byt] at hj
      subst hj
      rw [add_flat, hcell, hz]
    | j + 1, hj => simp [Byt] at hj
  · intro g cap w' hown' hg _ _
    rw [← Byt_append] at hown'
    refine h _ _ w' hown' (hb.grown hg (by omega) ?_)
    intro k hk
    have := (hown.lt k hk).1
    omega

end Go.Proofs.YtacbpdampdikjaaDoor

namespace Go.Proofs.YtacbpdampdikjaaDoor
open Go.RowKit

set_option maxHeartbeats 800000 in
theorem pad_in (B m c size : Nat) (A : Option Addr) (xs : List UInt8) (w : World) (hx : Rd w B A m (Byt xs)) (_hm : m ≤ maxLen) (hB : B ≤ w.heap.size) (h1 : 1 ≤ size) (h2 : size ≤ 65536) :
    Calls Tryd.prog 56 #[.slice A m c, .int .i64 size] w (NewB 5 w (padL xs size)) := by
  unfold maxLen at _hm
  have hxl := hx.bytes
  have Hx := Lib.hid hxl; clear hxl
  go_enter Tryd.func56, Tryd.ntmps56
  go_wp2_with (first
    | refine wp_make_bytes rfl _ _ 22 rfl 5 Tryd.underlying22 Tryd.info_u8 size rfl rfl (by omega) ?_
    | fail)
  intro w1 hown hb
  go_wp2_with (with_reducible refine wp_copy_bytes rfl (.tmp 14) (.tmp 15) _ _ rfl 5 Tryd.underlying22 Tryd.info_u8 _ _ _ _ _ rfl hown _ _ _ _ _ rfl (hx.below (hb.mono hB)) w w.heap.size hb (Nat.le_refl _) ?_)
  intro w2 hown2 hb2
  go_wp2
  go_ret
  rw [show xs.take size ++ List.replicate (size - xs.length) 0 = padL xs size from rfl] at hown2
  have hl := padL_length xs size
  exact ⟨some ⟨w.heap.size, 0, none⟩, size, by rw [hl]; rfl, by rw [hl]; exact hown2, hb2⟩

set_option maxHeartbeats 400000 in
theorem pad_out (m c : Nat) (size : Int) (A : Option Addr) (w : World) (h : size < 1 ∨ 65536 < size) :
    Calls Tryd.prog 56 #[.slice A m c, .int .i64 size] w (NewB 5 w []) := by
  rcases h with h | h
  all_goals
    go_enter Tryd.func56, Tryd.ntmps56
    go_wp2
    go_ret
    exact newB_nil _ _ _ (Below.refl _ _)

theorem pad_any (B m c : Nat) (size : Int) (A : Option Addr) (xs : List UInt8) (w : World) (hx : Rd w B A m (Byt xs)) (hm : m ≤ maxLen) (hB : B ≤ w.heap.size) :
    Calls Tryd.prog 56 #[.slice A m c, .int .i64 size] w (NewB 5 w (padR xs size)) := by
  by_cases h : 1 ≤ size ∧ size ≤ 65536
  · obtain ⟨k, rfl⟩ := Int.eq_ofNat_of_zero_le (show 0 ≤ size by omega)
    rw [padR, if_pos h, Int.toNat_natCast]
    exact pad_in B m c k A xs w hx hm hB (by omega) (by omega)
  · rw [padR, if_neg h]
    exact pad_out m c size A w (by omega)

end Go.Proofs.YtacbpdampdikjaaDoor

namespace Go.Proofs.YtacbpdampdikjaaDoor
open Go.RowKit

set_option maxHeartbeats 800000 in
theorem key_any (B n c : Nat) (A : Option Addr) (xs : List UInt8) (w : World) (hx : Rd w B A n (Byt xs)) (hok : SlOK A n c) (hn : n ≤ 1099511627776) (hB : B ≤ w.heap.size) (hK : KsAt w) :
    Calls Tryd.prog 37 #[.slice A n c] w (NewB 5 w (keyU xs)) := by
  have hxl := hx.bytes
  by_cases h : 64 < n
  · have hk : keyU xs = padL (sumU xs) 64 := by rw [keyU, if_pos (by omega)]
    rw [hk]
    have hl : (sumU xs).length = 32 := sumU_length _
    have hs := sum_any B n c A xs w hx hok hn hB hK
    generalize sumU xs = L at hs hl
    subst hxl
    have Hl := Lib.hid hl; clear hl hk
    have HB := Lib.hid hB; clear hB
    go_enter Tryd.func37, Tryd.ntmps37
    go_wp2_with fail
    refine hs.mono ?_
    rintro e w1 ⟨A1, c1, rfl, hown1, hb1⟩
    have h2 := pad_in w1.heap.size L.length c1 64 A1 L w1 (Rd.of_own hown1) (by rw [Hl.out]; decide) (Nat.le_refl _) (by decide) (by decide)
    have Hb1 := Lib.hid hb1; clear hb1
    clear hown1
    go_wp2_with fail
    refine h2.mono ?_
    rintro e w2 ⟨A2, c2, rfl, hown2, hb2⟩
    go_wp2
    go_ret
    exact ⟨A2, c2, rfl, own_base hown2 Hb1.out.size, bon Hb1.out hb2⟩
  · have hk : keyU xs = padL xs 64 := by rw [keyU, if_neg (by omega)]
    rw [hk]
    have h2 := pad_in B n c 64 A xs w hx (by unfold maxLen; omega) hB (by decide) (by decide)
    clear hxl hk hx
    go_enter Tryd.func37, Tryd.ntmps37
    go_wp2_with fail
    refine h2.mono ?_
    rintro e w2 ⟨A2, c2, rfl, hown2, hb2⟩
    go_wp2
    go_ret
    exact ⟨A2, c2, rfl, hown2, hb2⟩

end Go.Proofs.YtacbpdampdikjaaDoor

namespace Go.Proofs.YtacbpdampdikjaaDoor
open Go.RowKit

set_option maxHeartbeats 1600000 in
theorem ofAll_any (B n c k f : Nat) (A D : Option Addr) (xs : List UInt8) (ps : List Prt) (w : World) (hx : Rd w B A n (Byt xs)) (hok : SlOK A n c) (hn : n ≤ 1099511627776)
    (hps : Rd w B D k (Rws ps)) (hpo : RwsOK w B ps) (hlen : (catU ps).length ≤ 549755813888) (hk : k ≤ 1099511627776) (hB : B ≤ w.heap.size) (hK : KsAt w) :
    Calls Tryd.prog 28 #[.slice A n c, .slice D k f] w (NewB 5 w (macU xs (catU ps))) := by
  have hmf : ∀ (fn : Fn) (first cap : Array Value) (w : World), (Instr.makeFunc fn first cap).run Tryd.prog w = .ok (.func fn first cap) w := fun _ _ _ _ => rfl
  have h1 := key_any B n c A xs w hx hok hn hB hK
  have Hm : Hid (macU xs (catU ps) = sumU (overU xs 0x5c ++ sumU (overU xs 0x36 ++ catU ps))) := Lib.hid rfl
  have Hkl := Lib.hid (keyU_length xs)
  have Hov := Lib.hid (fun b B bk c k f A D ps w => over_any b B bk c k f A D xs ps w)
  have Hlen := Lib.hid hlen; clear hlen
  have HK := Lib.hid hK; clear hK
  have HB := Lib.hid hB; clear hB
  have HPS := Lib.hid hps; clear hps
  have HPO := Lib.hid hpo; clear hpo
  generalize macU xs (catU ps) = M at Hm ⊢
  generalize keyU xs = L at h1 Hkl Hov
  clear hx
  unfold NewB at h1
  rw [Hkl.out] at h1
  go_enter Tryd.func28, Tryd.ntmps28
  go_wp2_with fail
  refine h1.mono ?_
  rintro e w1 ⟨A1, c1, rfl, hown1, hb1⟩
  have Hr1 := Lib.hid (Rd.of_own hown1)
  have Hb1 := Lib.hid hb1; clear hb1 hown1
  go_wp2_with fail
  have hba : Below w1.heap.size w1 (w1.alloc (.cells #[.slice A1 64 c1] 22)) := (Below.refl _ _).alloc (Nat.le_refl _) _
  have Hba := Lib.hid (bon Hb1.out hba)
  have hca := cell_new1 w1 (.slice A1 64 c1) 22
  have hra := (Hr1.out.below hba).wider hba.size
  have hbk : w1.heap.size < (w1.alloc (.cells #[.slice A1 64 c1] 22)).heap.size := by simp
  generalize w1.alloc (.cells #[.slice A1 64 c1] 22) = wa at hca hra hbk Hba hba ⊢
  clear hba
  have h2 := Hov.out 0x36 wa.heap.size w1.heap.size c1 k f A1 D ps wa (((HPS.out.wider HB.out).below Hba.out).wider Hba.out.size) (((HPO.out.wider HB.out).below Hba.out).wider Hba.out.size) hca hbk hra Hlen.out hk (Nat.le_refl _) (HK.out.below Hba.out)
  have Hl3 : Hid ((sumU (overU xs 0x36 ++ catU ps)).length = 32) := Lib.hid (sumU_length _)
  generalize sumU (overU xs 0x36 ++ catU ps) = L3 at h2 Hl3 Hm
  generalize w1.heap.size = bk at hca hbk h2 ⊢
  refine h2.mono ?_
  rintro e w3 ⟨A3, c3, rfl, hown3, hb3⟩
  have hca3 := (hb3.cell (show bk < _ from hbk)).trans hca
  have hra3 := (hra.below hb3).wider hb3.size
  have hr3 := Rd.of_own hown3
  have ho3 := SlOK.of_own hown3
  have hbk3 : bk < w3.heap.size := Nat.lt_of_lt_of_le hbk hb3.size
  have Hb3 := Lib.hid (bon Hba.out hb3)
  clear hca hra hbk h2 hown3 hb3
  have Hca3 := Lib.hid hca3; clear hca3
  have Hra3 := Lib.hid hra3; clear hra3
  have Hr3 := Lib.hid hr3; clear hr3
  have Ho3 := Lib.hid ho3; clear ho3
  have Hbk3 := Lib.hid hbk3; clear hbk3
  go_wp2_with fail
  have hb4 : Below w3.heap.size w3 (w3.alloc (.cells #[.slice A3 L3.length c3] 22)) := (Below.refl _ _).alloc (Nat.le_refl _) _
  have Hb4 := Lib.hid (bon Hb3.out hb4)
  have hc4 := (hb4.cell (show bk < _ from Hbk3.out)).trans Hca3.out
  have hk4 : bk < (w3.alloc (.cells #[.slice A3 L3.length c3] 22)).heap.size := Nat.lt_of_lt_of_le Hbk3.out hb4.size
  have hd4 : Rd (w3.alloc (.cells #[.slice A3 L3.length c3] 22)) (w3.alloc (.cells #[.slice A3 L3.length c3] 22)).heap.size (some ⟨w3.heap.size, 0, none⟩) 1 (Rws [⟨A3, L3.length, c3, L3⟩]) := by
    have := Rd.new w3 22 #[.slice A3 L3.length c3] (n := 1) rfl
    rwa [show w3.heap.size + 1 = (w3.alloc (.cells #[.slice A3 L3.length c3] 22)).heap.size by simp] at this
  have ho4 : RwsOK (w3.alloc (.cells #[.slice A3 L3.length c3] 22)) (w3.alloc (.cells #[.slice A3 L3.length c3] 22)).heap.size [⟨A3, L3.length, c3, L3⟩] := RwsOK.one ((Hr3.out.below hb4).wider hb4.size) Ho3.out
  have hr4 := (Hra3.out.below hb4).wider hb4.size
  have h5 := Hov.out 0x5c _ bk c1 1 1 A1 (some ⟨w3.heap.size, 0, none⟩) [⟨A3, L3.length, c3, L3⟩] _ hd4 ho4 hc4 hk4 hr4 (by simp only [catU, List.append_nil]; rw [Hl3.out]; decide) (by decide) (Nat.le_refl _) (HK.out.below Hb4.out)
  rw [show catU [⟨A3, L3.length, c3, L3⟩] = L3 by simp only [catU, List.append_nil], ← Hm.out] at h5
  clear hb4 hc4 hk4 hd4 ho4 hr4
  refine h5.mono ?_
  rintro e w5 ⟨A5, c5, rfl, hown5, hb5⟩
  go_wp2
  go_ret
  exact ⟨A5, c5, rfl, own_base hown5 Hb4.out.size, bon Hb4.out hb5⟩

end Go.Proofs.YtacbpdampdikjaaDoor

namespace Go.Proofs.YtacbpdampdikjaaDoor
open Go.RowKit

set_option maxHeartbeats 800000 in
theorem of_any (B n c m d : Nat) (A C : Option Addr) (xs ys : List UInt8) (w : World) (hx : Rd w B A n (Byt xs)) (hok : SlOK A n c) (hn : n ≤ 1099511627776)
    (hy : Rd w B C m (Byt ys)) (hyo : SlOK C m d) (hm : m ≤ 549755813888) (hB : B ≤ w.heap.size) (hK : KsAt w) :
    Calls Tryd.prog 17 #[.slice A n c, .slice C m d] w (NewB 5 w (macU xs ys)) := by
  have hyl := hy.bytes
  have hb : Below w.heap.size w (w.alloc (.cells #[.slice C m d] 22)) := (Below.refl _ _).alloc (Nat.le_refl _) _
  have hd : Rd (w.alloc (.cells #[.slice C m d] 22)) (w.alloc (.cells #[.slice C m d] 22)).heap.size (some ⟨w.heap.size, 0, none⟩) 1 (Rws [⟨C, m, d, ys⟩]) := by
    have := Rd.new w 22 #[.slice C m d] (n := 1) rfl
    rwa [show w.heap.size + 1 = (w.alloc (.cells #[.slice C m d] 22)).heap.size by simp] at this
  have hc : catU [⟨C, m, d, ys⟩] = ys := by simp only [catU, List.append_nil]
  have h := ofAll_any _ n c 1 1 A (some ⟨w.heap.size, 0, none⟩) xs [⟨C, m, d, ys⟩] _ (((hx.wider hB).below hb).wider hb.size) hok hn hd (RwsOK.one (((hy.wider hB).below hb).wider hb.size) hyo) (by rw [hc, hyl]; exact hm) (by decide) (Nat.le_refl _) (hK.below hb)
  rw [hc] at h
  have Hb := Lib.hid hb
  clear hx hy hd hc hB hyl hb
  generalize macU xs ys = M at h ⊢
  go_enter Tryd.func17, Tryd.ntmps17
  go_wp2_with fail
  refine h.mono ?_
  rintro e w1 ⟨A1, c1, rfl, hown1, hb1⟩
  go_wp2
  go_ret
  exact ⟨A1, c1, rfl, own_base hown1 Hb.out.size, bon Hb.out hb1⟩

end Go.Proofs.YtacbpdampdikjaaDoor

/-
  slices.Grow of the nil slice, bytes: nothing yet, and room for n.
-/
namespace Go.Proofs.YtacbpdampdikjaaDoor
open Go.RowKit

set_option maxHeartbeats 1600000 in
theorem grow_nil (n : Nat) (w : World) (hn : n ≤ 8796093022208) :
    Calls Tryd.prog 27 #[.slice none 0 0, .int .i64 n] w (NewB 5 w []) := by
  obtain ⟨i0, hi, hi0, hi1, hi2⟩ := info_parts Tryd.info_u8
  rcases Nat.eq_zero_or_pos n with h0 | h0
  · subst h0
    go_enter Tryd.func27, Tryd.ntmps27
    go_wp2
    go_ret
    exact newB_nil _ _ _ (Below.refl _ _)
  · have hrz : ∀ ty, (Builtin.append_ #[22, 3] ty #[.slice none 0 0, .int .i64 (n : Int)]).run Tryd.prog w = .ok (.slice (some ⟨w.heap.size, 0, none⟩) n (grownCap w n 0 5)) (w.drew.alloc (.cells (Builtin.zeroCells (Value.int .u8 0).cells n ++ Builtin.zeroCells (Value.int .u8 0).cells (grownCap w n 0 5 - n)) 5)) :=
      fun ty => Lib.run_append_nil_zeros w _ _ ty 5 i0 _ .i64 .i64 Tryd.underlying22 Tryd.underlying3 hi hi0 n h0 (by rw [hi1]; decide) (by omega) (by rw [hi2]; omega)
    have hG : n ≤ grownCap w n 0 5 := grownCap_ge w _ _ _
    have hM : grownCap w n 0 5 ≤ maxLen := grownCap_le_maxLen w _ _ _ (by unfold maxLen; omega)
    generalize grownCap w n 0 5 = G at hrz hG hM
    have hsz : (Builtin.zeroCells (Value.int .u8 0).cells n ++ Builtin.zeroCells (Value.int .u8 0).cells (G - n)).size = G := by
      rw [Array.size_append, size_zeroCells, size_zeroCells, show (Value.int .u8 0).cells.size = 1 from rfl]; omega
    generalize Builtin.zeroCells (Value.int .u8 0).cells n ++ Builtin.zeroCells (Value.int .u8 0).cells (G - n) = cs at hrz hsz
    have hM2 : G ≤ 9223372036854775807 := by unfold maxLen at hM; omega
    have hg2 := heap_alloc_new w.drew (.cells cs 5)
    have hb : Below w.heap.size w (w.drew.alloc (.cells cs 5)) := ((Below.refl w.heap.size w).drew).alloc (Nat.le_refl _) _
    have hfin : NewB 5 w [] (.returned (.slice (some ⟨w.heap.size, 0, none⟩) 0 G)) (w.drew.alloc (.cells cs 5)) := ⟨_, G, rfl, ⟨rfl, .inr ⟨_, G, cs, rfl, Nat.le_refl _, hg2, Nat.zero_le _, hM, by omega, rfl⟩⟩, hb⟩
    have Hfin := Lib.hid hfin
    clear hfin hb hg2 hsz hM hi hi0 hi1 hi2
    generalize w.drew.alloc (.cells cs 5) = w' at hrz Hfin
    go_enter Tryd.func27, Tryd.ntmps27
    go_wp2_with (at_builtin; refine Lib.wpList_append_run _ rfl _ _ _ _ rfl _ _ rfl rfl _ _ (hrz _) ?_)
    all_goals (go_ret; exact Hfin.out)

end Go.Proofs.YtacbpdampdikjaaDoor

/-
  slices.Concat of rows of bytes: one new row of all parts, one behind the other.
-/
namespace Go.Proofs.YtacbpdampdikjaaDoor
open Go.RowKit

theorem catU_mono (ps : List Prt) (j : Nat) : (catU (ps.take j)).length ≤ (catU ps).length := catU_le ps j

set_option maxHeartbeats 1600000 in
theorem concat_any (B k f : Nat) (D : Option Addr) (ps : List Prt) (w : World) (hps : Rd w B D k (Rws ps)) (hpo : RwsOK w B ps) (hlen : (catU ps).length ≤ 1099511627776) (hk : k ≤ 1099511627776) (hB : B ≤ w.heap.size) :
    Calls Tryd.prog 16 #[.slice D k f] w (NewB 5 w (catU ps)) := by
  have hpl := hps.rws
  have Hpl := Lib.hid hpl; clear hpl
  have Hlen := Lib.hid hlen; clear hlen
  have HPS := Lib.hid hps; clear hps
  have HOK := Lib.hid hpo; clear hpo
  have HB := Lib.hid hB; clear hB
  go_enter Tryd.func16, Tryd.ntmps16
  go_wp2
  go_loopw [3, 11] (fun v i wr => ∃ j m : Nat, j ≤ k ∧ m ≤ 1099511627776 ∧ i = .int .i64 j ∧ v = .int .i64 m ∧ Hid (m = (catU (ps.take j)).length) ∧ Hid (Below w.heap.size w wr)) (fun _ i _ => k - (intOf i).toNat)
  case atStart => exact ⟨0, 0, Nat.zero_le _, by omega, rfl, rfl, Lib.hid rfl, Lib.hid (Below.refl _ _)⟩
  case round =>
    obtain ⟨j, m, hj, hm, rfl, rfl, Hm, Hbr⟩ := hrel
    by_cases hlt : j < k
    · have hjp : j < ps.length := by rw [Hpl.out]; exact hlt
      obtain ⟨bd, od, rfl, hbd, hcd⟩ := ((HPS.out.wider HB.out).below Hbr.out).row hlt hjp
      have hq := (HOK.out ps[j] (List.getElem_mem hjp)).1.bytes
      have hst := catU_step hjp
      have hle := catU_le ps (j + 1)
      generalize ps[j] = q at hcd hq hst
      obtain ⟨qA, qn, qc, ys⟩ := q
      dsimp only at hcd hq hst
      have Hmn : Hid (m + qn = (catU (ps.take (j + 1))).length) := Lib.hid (by rw [hst, List.length_append, ← Hm.out, hq])
      have hmn : m + qn ≤ 1099511627776 := by rw [Hmn.out]; have := Hlen.out; omega
      clear hst hle hq
      go_wp2
      go_roundw
      case rel => exact ⟨j + 1, m + qn, by omega, hmn, by go_num, by go_num, Hmn, Hbr⟩
      case measure => simp [intOf]; omega
    · obtain rfl : j = k := by omega
      have hg := grow_nil m wr (by omega)
      go_wp2_with fail
      refine hg.mono ?_
      rintro e w1 ⟨A1, c1, rfl, hown1, hb1⟩
      have Hown1 : Hid (w1.ownsRow w.heap.size 5 1 (.slice A1 0 c1) 0 (Byt [])) := Lib.hid (own_base hown1 Hbr.out.size)
      have Hb1 := Lib.hid (bon Hbr.out hb1)
      clear hown1 hb1 hm Hm
      go_wp2
      go_loopw [6, 27] (fun v i wr => ∃ (j' m : Nat) (A' : Option Addr) (c' : Nat), j' ≤ j ∧ i = .int .i64 j' ∧ v = .slice A' m c' ∧
          Hid (wr.ownsRow w.heap.size 5 1 (.slice A' m c') m (Byt (catU (ps.take j')))) ∧ Hid (Below w.heap.size w wr)) (fun _ i _ => j - (intOf i).toNat)
      case atStart => exact ⟨0, 0, A1, c1, Nat.zero_le _, rfl, rfl, Hown1, Hb1⟩
      case round =>
        obtain ⟨j', m, A', c', hj', rfl, rfl, Hown, Hb⟩ := hrel
        have Hm : Hid (m = (catU (ps.take j')).length) := Lib.hid (own_len Hown.out).symm
        by_cases hlt' : j' < j
        · have hjp : j' < ps.length := by rw [Hpl.out]; exact hlt'
          obtain ⟨bd, od, rfl, hbd, hcd⟩ := ((HPS.out.wider HB.out).below Hb.out).row hlt' hjp
          have hq := HOK.out ps[j'] (List.getElem_mem hjp)
          have hst := catU_step hjp
          have hle := catU_le ps (j' + 1)
          generalize ps[j'] = q at hcd hq hst
          obtain ⟨qA, qn, qc, ys⟩ := q
          dsimp only at hcd hq hst
          obtain ⟨hq1, hq2⟩ := hq
          have hyl := hq1.bytes
          have hq3 := (hq1.wider HB.out).below Hb.out
          have Hst : Hid (catU (ps.take (j' + 1)) = catU (ps.take j') ++ ys) := Lib.hid hst
          have hmn : m + qn ≤ 1099511627776 := by
            have h1 := Hlen.out
            have h2 := Hm.out
            rw [hst, List.length_append] at hle
            omega
          have hsz := Hb.out.size
          clear hst hle hq1 hyl
          go_wp2_with (refine wp_append_foot rfl _ _ 22 rfl 5 Tryd.underlying22 (.int .u8 0) 1 (by omega) rfl Tryd.info_u8 w.heap.size m c' A' _ rfl Hown.out w.heap.size qn qc qA _ rfl hq3 hq2 (Byt_one _) (by omega) hsz ?_)
          intro A3 c3 w3 hown3 hg3 hat3
          have Hb3 : Hid (Below w.heap.size w w3) := Lib.hid (Hb.out.grown hg3 hsz (fun k hk => (Hown.out.lt k hk).1))
          rw [← Byt_append, ← Hst.out] at hown3
          have Hown3 := Lib.hid hown3; clear hown3 hg3 hat3
          go_wp2
          go_roundw
          case rel => exact ⟨j' + 1, m + qn, A3, c3, by omega, by go_num, rfl, Hown3, Hb3⟩
          case measure => simp [intOf]; omega
        · obtain rfl : j' = j := by omega
          rw [List.take_of_length_le (by rw [Hpl.out]; exact Nat.le_refl _)] at Hown Hm
          go_wp2
          go_ret
          rw [Hm.out] at Hown
          exact ⟨A', c', by rw [Hm.out]; rfl, Hown.out, Hb.out⟩

end Go.Proofs.YtacbpdampdikjaaDoor
