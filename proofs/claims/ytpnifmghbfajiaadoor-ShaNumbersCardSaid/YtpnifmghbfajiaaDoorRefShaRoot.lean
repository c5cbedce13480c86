import Derived.Test.YtpnifmghbfajiaaDoorRefShaTimes
namespace Go.Proofs.YtpnifmghbfajiaaDoor
open Go.RowKit

/-- The bit that is tried next. -/
def bitU : Nat → Nat
  | 0 => 0
  | k + 1 => 2 ^ k
theorem bitU_half (k : Nat) : bitU (k + 1) / 2 = bitU k := by
  cases k with
  | zero => rfl
  | succ k => show 2 ^ (k + 1) / 2 = 2 ^ k; omega

set_option maxHeartbeats 3200000 in
theorem rroot_any (n power : Nat) (w : World) (hn : n < 400) (hp : power = 2 ∨ power = 3) :
    Calls Tryd.prog 25 #[.int .u64 n, .int .i64 power] w (Ans w (.int .u32 (rootsU n power : Nat))) := by
  have HLl : Hid ((limitW n power).length = 5) := Lib.hid (by unfold limitW; split <;> rfl)
  have HLd : Hid (∀ d ∈ limitW n power, d < 4294967296) := Lib.hid (by unfold limitW; split <;> (intro d hd; simp at hd; omega))
  have H0 : Hid (rootsU n power = rootU n power 36 0 % 4294967296) := Lib.hid rfl
  have Htry : Hid (∀ r bit, r + bit < 68719476736 → tryU n power r bit = if aboveW (powW (r + bit) power) (limitW n power) then r else r + bit) := Lib.hid fun r bit h => tryU_above h hp
  have Hlim : Hid (limitW n power = if power = 2 then [0, 0, n, 0, 0] else [0, 0, 0, n, 0]) := Lib.hid rfl
  revert HLl HLd Htry Hlim
  generalize limitW n power = L
  intro HLl HLd Htry Hlim
  have Hn := Lib.hid hn; clear hn
  rcases hp with rfl | rfl
  · rw [show ((2 : Nat) : Int) = 2 from rfl]
    go_enter Tryd.func25, Tryd.ntmps25
    go_wp2
    go_loopw [6, 7] (fun r bt wr => ∃ (k r' b' : Nat), Hid (k ≤ 36) ∧ r = .int .u64 (r' : Int) ∧ bt = .int .u64 (b' : Int) ∧ Hid (b' = bitU k) ∧ Hid (r' + 2 ^ k ≤ 68719476736) ∧ Hid (rootsU n 2 = rootU n 2 k r' % 4294967296) ∧
      Hid (Arr wr w.heap.size 55 .u64 L) ∧ Hid (Below w.heap.size w wr) ∧ Hid (w.heap.size < wr.heap.size)) (fun _ bt _ => (intOf bt).toNat)
    case atStart => exact ⟨36, 0, 34359738368, Lib.hid (Nat.le_refl _), rfl, rfl, Lib.hid rfl, Lib.hid (by decide), H0, Lib.hid (by rw [Hlim.out]; exact Arr.new (l := [0, 0, n, 0, 0])), Lib.hid ((Below.refl _ _).alloc (Nat.le_refl _) _), Lib.hid (by simp)⟩
    case round =>
      obtain ⟨k, r', b', Hk, rfl, rfl, Hbit, Hr, HR, A1, Hbr, Hsz⟩ := hrel
      cases k with
      | zero =>
        obtain rfl : b' = 0 := Hbit.out
        have hrb : r' < 68719476736 := by have := Hr.out; omega
        have Hres : Hid (rootsU n 2 = r' % 4294967296) := HR
        go_wp2
        go_ret
        exact ⟨by rw [Hres.out]; exact congrArg (fun z => Ending.returned (Value.int .u32 z)) (by omega), Hbr.out⟩
      | succ j =>
        have Hhalf : Hid (bitU (j + 1) / 2 = bitU j) := Lib.hid (bitU_half j)
        have Hsum : Hid (r' + 2 * bitU (j + 1) ≤ 68719476736) := Lib.hid (by have h := Hr.out; rw [Nat.pow_succ] at h; show r' + 2 * 2 ^ j ≤ _; omega)
        have Hpos : Hid (0 < bitU (j + 1)) := Lib.hid (Nat.two_pow_pos j)
        have Hle : Hid (tryU n 2 r' (bitU (j + 1)) + 2 ^ j ≤ 68719476736) := Lib.hid (tryU_le Hr.out)
        have HR2 : Hid (rootsU n 2 = rootU n 2 j (tryU n 2 r' (bitU (j + 1))) % 4294967296) := HR
        rw [← Hbit.out] at Hhalf Hsum Hpos Hle HR2
        clear HR Hr Hbit
        have hpos : 0 < b' := Hpos.out
        have hsum : r' + 2 * b' ≤ 68719476736 := Hsum.out
        obtain ⟨x, hx⟩ : ∃ x, r' + b' = x := ⟨_, rfl⟩
        have hx' : (r' : Int) + (b' : Int) = (x : Int) := by omega
        have hxb : x < 68719476736 := by omega
        have Htx : Hid (tryU n 2 r' b' = if aboveW (powW x 2) L then r' else x) := Lib.hid (by rw [← hx]; exact Htry.out r' b' (by omega))
        have Hx := Lib.hid hx; clear hx
        go_wp2_with (first
          | refine wp_build_arr rfl 55 _ rfl .u64 [1, 0, 0, 0, 0] (by kernel_rfl) ?_
          | refine wp_alloc_arr (k := .u64) rfl 55 rfl 5 zero5 ?_)
        intro w1 g1 G1 H1 Hb1 Hs1
        have A1' : Hid (Arr w1 w.heap.size 55 .u64 L) := Lib.hid (A1.out.below Hb1.out Hsz.out)
        have Hg : Hid (w.heap.size < g1) := Lib.hid (by have := G1.out; have := Hsz.out; omega)
        have Hbr1 : Hid (Below w.heap.size w w1) := Lib.hid (Hbr.out.trans (Hb1.out.mono (Nat.le_of_lt Hsz.out)))
        have Hsz1 : Hid (w.heap.size < w1.heap.size) := Lib.hid (by have := Hs1.out; have := Hsz.out; omega)
        clear G1 Hb1 Hs1
        go_wp2_with (refine wp_put_arr arr5 rfl (.tmp 8) (.tmp 20) rfl rfl (l' := [1, 0, 0, 0, 0]) rfl H1.out (Zs_length _) rfl ?_)
        intro w2 H2 Hm2 Hs2
        have Hoff : Hid (¬ w.heap.size = g1) := Lib.hid (by have := Hg.out; omega)
        have A2 : Hid (Arr w2 w.heap.size 55 .u64 L) := Lib.hid (A1'.out.moves Hm2.out Hoff.out)
        have Hbr2 : Hid (Below w.heap.size w w2) := Lib.hid (Hbr1.out.trans (Hm2.out.below (fun k hk => by have := Hg.out; omega) Hbr1.out.size))
        have Hsz2 : Hid (w.heap.size < w2.heap.size) := Lib.hid (by have := Hs2.out; have := Hsz1.out; omega)
        clear A1 A1' Hbr1 Hsz1 Hm2 Hs2 H1
        go_wp2
        go_loopw [9] (fun i wr2 => ∃ (i' : Nat), i' ≤ 2 ∧ i = .int .i64 (i' : Int) ∧ Hid (Arr wr2 g1 55 .u64 (powW x i')) ∧
          Hid (Arr wr2 w.heap.size 55 .u64 L) ∧ Hid (Below w.heap.size w wr2) ∧ Hid (w.heap.size < wr2.heap.size)) (fun i _ => 2 - (intOf i).toNat)
        case atStart => exact ⟨0, by omega, rfl, H2, A2, Hbr2, Hsz2⟩
        case round =>
          clear A2 Hbr2 Hsz2 H2
          obtain ⟨i', hi, rfl, P1, A1, Hbr, Hsz⟩ := hrel
          by_cases hlt : i' < 2
          · have hlt' : (i' : Int) < 2 := by omega
            go_wp2_with (refine wp_load_arr arr5 rfl (.tmp 8) rfl rfl P1.out (powW_length _ _) ?_)
            refine (rtimes_any (powW x i') x _ (powW_length _ _) (powW_digit _ _) hxb).mono ?_
            rintro e w3 ⟨rfl, hb3⟩
            have P3 : Hid (Arr w3 g1 55 .u64 (powW x i')) := Lib.hid (P1.out.below hb3 P1.out.lt)
            have A3 : Hid (Arr w3 w.heap.size 55 .u64 L) := Lib.hid (A1.out.below hb3 Hsz.out)
            have Hbr3 : Hid (Below w.heap.size w w3) := Lib.hid (Hbr.out.trans (hb3.mono Hbr.out.size))
            have Hsz3 : Hid (w.heap.size < w3.heap.size) := Lib.hid (Nat.lt_of_lt_of_le Hsz.out hb3.size)
            clear hb3
            go_wp2_with (refine wp_put_arr arr5 rfl (.tmp 8) (.tmp 30) rfl rfl (l' := powW x (i' + 1)) rfl P3.out (powW_length _ _) (powW_length _ _) ?_)
            intro w4 P4 Hm4 Hs4
            go_wp2
            go_roundw
            case rel => exact ⟨i' + 1, by omega, by go_num, P4, Lib.hid (A3.out.moves Hm4.out Hoff.out), Lib.hid (Hbr3.out.trans (Hm4.out.below (fun k hk => by have := Hg.out; omega) Hbr3.out.size)), Lib.hid (by have := Hs4.out; have := Hsz3.out; omega)⟩
            case measure => simp [intOf]; omega
          · obtain rfl : i' = 2 := by omega
            go_wp2_with (first
              | refine wp_load_arr arr5 rfl (.tmp 8) rfl rfl P1.out (powW_length _ _) ?_
              | refine wp_load_arr arr5 rfl (.tmp 5) rfl rfl A1.out HLl.out ?_)
            refine (rabove_any (powW x 2) L _ (powW_length _ _) HLl.out (powW_digit _ _) HLd.out).mono ?_
            rintro e w3 ⟨rfl, hb3⟩
            have A3 : Hid (Arr w3 w.heap.size 55 .u64 L) := Lib.hid (A1.out.below hb3 Hsz.out)
            have Hbr3 : Hid (Below w.heap.size w w3) := Lib.hid (Hbr.out.trans (hb3.mono Hbr.out.size))
            have Hsz3 : Hid (w.heap.size < w3.heap.size) := Lib.hid (Nat.lt_of_lt_of_le Hsz.out hb3.size)
            clear hb3
            revert Htx
            generalize aboveW (powW x 2) L = ab
            intro Htx
            cases ab with
            | true =>
              have Ht : Hid (tryU n 2 r' b' = r') := Htx
              rw [Ht.out] at Hle HR2
              go_wp2
              go_roundw
              case rel => exact ⟨j, r', b' / 2, Lib.hid (by have := Hk.out; omega), rfl, congrArg (Value.int .u64) (by omega), Hhalf, Hle, HR2, A3, Hbr3, Hsz3⟩
              case measure => simp [intOf]; omega
            | false =>
              have Ht : Hid (tryU n 2 r' b' = x) := Htx
              rw [Ht.out] at Hle HR2
              go_wp2
              go_roundw
              case rel => exact ⟨j, x, b' / 2, Lib.hid (by have := Hk.out; omega), rfl, congrArg (Value.int .u64) (by omega), Hhalf, Hle, HR2, A3, Hbr3, Hsz3⟩
              case measure => simp [intOf]; omega
  · rw [show ((3 : Nat) : Int) = 3 from rfl]
    go_enter Tryd.func25, Tryd.ntmps25
    go_wp2
    go_loopw [6, 7] (fun r bt wr => ∃ (k r' b' : Nat), Hid (k ≤ 36) ∧ r = .int .u64 (r' : Int) ∧ bt = .int .u64 (b' : Int) ∧ Hid (b' = bitU k) ∧ Hid (r' + 2 ^ k ≤ 68719476736) ∧ Hid (rootsU n 3 = rootU n 3 k r' % 4294967296) ∧
      Hid (Arr wr w.heap.size 55 .u64 L) ∧ Hid (Below w.heap.size w wr) ∧ Hid (w.heap.size < wr.heap.size)) (fun _ bt _ => (intOf bt).toNat)
    case atStart => exact ⟨36, 0, 34359738368, Lib.hid (Nat.le_refl _), rfl, rfl, Lib.hid rfl, Lib.hid (by decide), H0, Lib.hid (by rw [Hlim.out]; exact Arr.new (l := [0, 0, 0, n, 0])), Lib.hid ((Below.refl _ _).alloc (Nat.le_refl _) _), Lib.hid (by simp)⟩
    case round =>
      obtain ⟨k, r', b', Hk, rfl, rfl, Hbit, Hr, HR, A1, Hbr, Hsz⟩ := hrel
      cases k with
      | zero =>
        obtain rfl : b' = 0 := Hbit.out
        have hrb : r' < 68719476736 := by have := Hr.out; omega
        have Hres : Hid (rootsU n 3 = r' % 4294967296) := HR
        go_wp2
        go_ret
        exact ⟨by rw [Hres.out]; exact congrArg (fun z => Ending.returned (Value.int .u32 z)) (by omega), Hbr.out⟩
      | succ j =>
        have Hhalf : Hid (bitU (j + 1) / 2 = bitU j) := Lib.hid (bitU_half j)
        have Hsum : Hid (r' + 2 * bitU (j + 1) ≤ 68719476736) := Lib.hid (by have h := Hr.out; rw [Nat.pow_succ] at h; show r' + 2 * 2 ^ j ≤ _; omega)
        have Hpos : Hid (0 < bitU (j + 1)) := Lib.hid (Nat.two_pow_pos j)
        have Hle : Hid (tryU n 3 r' (bitU (j + 1)) + 2 ^ j ≤ 68719476736) := Lib.hid (tryU_le Hr.out)
        have HR2 : Hid (rootsU n 3 = rootU n 3 j (tryU n 3 r' (bitU (j + 1))) % 4294967296) := HR
        rw [← Hbit.out] at Hhalf Hsum Hpos Hle HR2
        clear HR Hr Hbit
        have hpos : 0 < b' := Hpos.out
        have hsum : r' + 2 * b' ≤ 68719476736 := Hsum.out
        obtain ⟨x, hx⟩ : ∃ x, r' + b' = x := ⟨_, rfl⟩
        have hx' : (r' : Int) + (b' : Int) = (x : Int) := by omega
        have hxb : x < 68719476736 := by omega
        have Htx : Hid (tryU n 3 r' b' = if aboveW (powW x 3) L then r' else x) := Lib.hid (by rw [← hx]; exact Htry.out r' b' (by omega))
        have Hx := Lib.hid hx; clear hx
        go_wp2_with (first
          | refine wp_build_arr rfl 55 _ rfl .u64 [1, 0, 0, 0, 0] (by kernel_rfl) ?_
          | refine wp_alloc_arr (k := .u64) rfl 55 rfl 5 zero5 ?_)
        intro w1 g1 G1 H1 Hb1 Hs1
        have A1' : Hid (Arr w1 w.heap.size 55 .u64 L) := Lib.hid (A1.out.below Hb1.out Hsz.out)
        have Hg : Hid (w.heap.size < g1) := Lib.hid (by have := G1.out; have := Hsz.out; omega)
        have Hbr1 : Hid (Below w.heap.size w w1) := Lib.hid (Hbr.out.trans (Hb1.out.mono (Nat.le_of_lt Hsz.out)))
        have Hsz1 : Hid (w.heap.size < w1.heap.size) := Lib.hid (by have := Hs1.out; have := Hsz.out; omega)
        clear G1 Hb1 Hs1
        go_wp2_with (refine wp_put_arr arr5 rfl (.tmp 8) (.tmp 20) rfl rfl (l' := [1, 0, 0, 0, 0]) rfl H1.out (Zs_length _) rfl ?_)
        intro w2 H2 Hm2 Hs2
        have Hoff : Hid (¬ w.heap.size = g1) := Lib.hid (by have := Hg.out; omega)
        have A2 : Hid (Arr w2 w.heap.size 55 .u64 L) := Lib.hid (A1'.out.moves Hm2.out Hoff.out)
        have Hbr2 : Hid (Below w.heap.size w w2) := Lib.hid (Hbr1.out.trans (Hm2.out.below (fun k hk => by have := Hg.out; omega) Hbr1.out.size))
        have Hsz2 : Hid (w.heap.size < w2.heap.size) := Lib.hid (by have := Hs2.out; have := Hsz1.out; omega)
        clear A1 A1' Hbr1 Hsz1 Hm2 Hs2 H1
        go_wp2
        go_loopw [9] (fun i wr2 => ∃ (i' : Nat), i' ≤ 3 ∧ i = .int .i64 (i' : Int) ∧ Hid (Arr wr2 g1 55 .u64 (powW x i')) ∧
          Hid (Arr wr2 w.heap.size 55 .u64 L) ∧ Hid (Below w.heap.size w wr2) ∧ Hid (w.heap.size < wr2.heap.size)) (fun i _ => 3 - (intOf i).toNat)
        case atStart => exact ⟨0, by omega, rfl, H2, A2, Hbr2, Hsz2⟩
        case round =>
          clear A2 Hbr2 Hsz2 H2
          obtain ⟨i', hi, rfl, P1, A1, Hbr, Hsz⟩ := hrel
          by_cases hlt : i' < 3
          · have hlt' : (i' : Int) < 3 := by omega
            go_wp2_with (refine wp_load_arr arr5 rfl (.tmp 8) rfl rfl P1.out (powW_length _ _) ?_)
            refine (rtimes_any (powW x i') x _ (powW_length _ _) (powW_digit _ _) hxb).mono ?_
            rintro e w3 ⟨rfl, hb3⟩
            have P3 : Hid (Arr w3 g1 55 .u64 (powW x i')) := Lib.hid (P1.out.below hb3 P1.out.lt)
            have A3 : Hid (Arr w3 w.heap.size 55 .u64 L) := Lib.hid (A1.out.below hb3 Hsz.out)
            have Hbr3 : Hid (Below w.heap.size w w3) := Lib.hid (Hbr.out.trans (hb3.mono Hbr.out.size))
            have Hsz3 : Hid (w.heap.size < w3.heap.size) := Lib.hid (Nat.lt_of_lt_of_le Hsz.out hb3.size)
            clear hb3
            go_wp2_with (refine wp_put_arr arr5 rfl (.tmp 8) (.tmp 30) rfl rfl (l' := powW x (i' + 1)) rfl P3.out (powW_length _ _) (powW_length _ _) ?_)
            intro w4 P4 Hm4 Hs4
            go_wp2
            go_roundw
            case rel => exact ⟨i' + 1, by omega, by go_num, P4, Lib.hid (A3.out.moves Hm4.out Hoff.out), Lib.hid (Hbr3.out.trans (Hm4.out.below (fun k hk => by have := Hg.out; omega) Hbr3.out.size)), Lib.hid (by have := Hs4.out; have := Hsz3.out; omega)⟩
            case measure => simp [intOf]; omega
          · obtain rfl : i' = 3 := by omega
            go_wp2_with (first
              | refine wp_load_arr arr5 rfl (.tmp 8) rfl rfl P1.out (powW_length _ _) ?_
              | refine wp_load_arr arr5 rfl (.tmp 5) rfl rfl A1.out HLl.out ?_)
            refine (rabove_any (powW x 3) L _ (powW_length _ _) HLl.out (powW_digit _ _) HLd.out).mono ?_
            rintro e w3 ⟨rfl, hb3⟩
            have A3 : Hid (Arr w3 w.heap.size 55 .u64 L) := Lib.hid (A1.out.below hb3 Hsz.out)
            have Hbr3 : Hid (Below w.heap.size w w3) := Lib.hid (Hbr.out.trans (hb3.mono Hbr.out.size))
            have Hsz3 : Hid (w.heap.size < w3.heap.size) := Lib.hid (Nat.lt_of_lt_of_le Hsz.out hb3.size)
            clear hb3
            revert Htx
            generalize aboveW (powW x 3) L = ab
            intro Htx
            cases ab with
            | true =>
              have Ht : Hid (tryU n 3 r' b' = r') := Htx
              rw [Ht.out] at Hle HR2
              go_wp2
              go_roundw
              case rel =>
                exact ⟨j, r', b' / 2, Lib.hid (by have := Hk.out; omega), rfl, congrArg (Value.int .u64) (by omega), Hhalf, Hle, HR2, A3, Hbr3, Hsz3⟩
              case measure => simp [intOf]; omega
            | false =>
              have Ht : Hid (tryU n 3 r' b' = x) := Htx
              rw [Ht.out] at Hle HR2
              go_wp2
              go_roundw
              case rel => exact ⟨j, x, b' / 2, Lib.hid (by have := Hk.out; omega), rfl, congrArg (Value.int .u64) (by omega), Hhalf, Hle, HR2, A3, Hbr3, Hsz3⟩
              case measure => simp [intOf]; omega

end Go.Proofs.YtpnifmghbfajiaaDoor
