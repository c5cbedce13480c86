import Derived.Test.YtpnifmghbfajiaaDoorFoot
import Derived.Test.YtpnifmghbfajiaaDoorRefPut
import Derived.Test.YtpnifmghbfajiaaDoorShaS
namespace Go.Proofs.YtpnifmghbfajiaaDoor
open Go.RowKit

/-- How long a slice is. -/
def lenV : Value → Nat
  | .slice _ n _ => n
  | _ => 0

set_option maxHeartbeats 1600000 in
theorem rpad07_in (n : Nat) (w : World) (hn : n ≤ 1099511627776) :
    Calls Tryd.prog 16 #[.int .i64 (n : Int)] w (NewB 5 w (padU n)) := by
  have hzok := zerosU_ok n
  have Hzl : Hid (∀ k, k < zerosU n → (n + 1 + k) % 64 ≠ 56) := Lib.hid fun k h => zerosU_least h
  have Hp0 : Hid (padU n = 128 :: (List.replicate (zerosU n) 0 ++ putL (8 * n) 8)) := Lib.hid rfl
  have hput := fun w' => rput_any (8 * n) 8 w' (by omega)
  rw [show putR (8 * n) 8 = putL (8 * n) 8 from rfl] at hput
  have Hpl : Hid ((putL (8 * n) 8).length = 8) := Lib.hid (putL_length _ _)
  have z3 : (n : Int) * (8 : Int) = ((8 * n : Nat) : Int) := by omega
  revert hput Hp0 Hpl z3 hzok Hzl
  generalize zerosU n = z
  generalize putL (8 * n) 8 = L
  generalize h8 : 8 * n = q
  intro hzok Hzl Hp hput Hpl z3
  have hq : q ≤ 8796093022208 := by omega
  clear h8
  go_enter Tryd.func16, Tryd.ntmps16
  go_wp2
  have h0 : (w.alloc (.cells #[.int .u8 128] 5)).ownsRow w.heap.size 5 1 (.slice (some ⟨w.heap.size, 0, none⟩) 1 1) 1 (Byt [128]) := World.ownsRow_lit w #[.int .u8 128] 1 (Nat.le_refl _) (by unfold maxLen; omega) rfl
  go_loopw [3] (fun s wr => ∃ (k c : Nat) (A : Option Addr), k ≤ z ∧ s = .slice A (1 + k) c ∧ Hid (wr.ownsRow w.heap.size 5 1 (.slice A (1 + k) c) (1 + k) (Byt (128 :: List.replicate k 0))) ∧ Hid (Below w.heap.size w wr)) (fun s _ => z + 2 - lenV s)
  case atStart => exact ⟨0, 1, _, Nat.zero_le _, rfl, Lib.hid h0, Lib.hid ((Below.refl _ _).alloc (Nat.le_refl _) _)⟩
  case round =>
    clear h0
    obtain ⟨k, c, A, hk, rfl, Hown, Hbr⟩ := hrel
    by_cases hkz : k < z
    · have hne : ¬ ((n : Int) + (1 + (k : Int))) % 64 = 56 := by have := Hzl.out k hkz; omega
      have hsz := Hbr.out.size
      go_wp2_with (refine wp_append_rd rfl _ _ 30 rfl 5 Tryd.underlying30 (.int .u8 0) 1 (by omega) rfl Tryd.info_u8 w.heap.size (1 + k) c A _ rfl (Hown.out.alloc _) (wr.heap.size + 1) 1 1 _ _ rfl (Rd.new wr _ #[.int .u8 0] rfl) (by intro u hu; simp at hu; subst hu; rfl) (by omega) (by omega) (by simp; omega) w w.heap.size (Hbr.out.alloc hsz _) (Nat.le_refl _) ?_)
      intro A1 c1 w1 hown1 hb1
      have Hown1 : Hid (w1.ownsRow w.heap.size 5 1 (.slice A1 (1 + (k + 1)) c1) (1 + (k + 1)) (Byt (128 :: List.replicate (k + 1) 0))) := Lib.hid (by
        have e : Byt (128 :: List.replicate (k + 1) 0) = Byt (128 :: List.replicate k 0) ++ [.int .u8 0] := by
          rw [List.replicate_succ', ← List.cons_append, Byt_append]; rfl
        rw [e]; exact hown1)
      have Hb1 := Lib.hid hb1
      clear hown1 hb1
      go_wp2
      go_roundw
      case rel => exact ⟨k + 1, c1, A1, by omega, rfl, Hown1, Hb1⟩
      case measure => simp [lenV]; omega
    · obtain rfl : k = z := by omega
      have hne : ((n : Int) + (1 + (k : Int))) % 64 = 56 := by omega
      have hsz := Hbr.out.size
      go_wp2_with fail
      refine (hput _).mono ?_
      rintro e w3 ⟨A3, c3, rfl, hown3, hb3⟩
      have hown2 := own_below Hown.out hb3 (Nat.le_refl _)
      have hsz3 : w.heap.size ≤ w3.heap.size := Nat.le_trans hsz hb3.size
      have hl8 : L.length ≤ 8 := by rw [Hpl.out]; omega
      go_wp2_with (refine wp_append_foot rfl _ _ 30 rfl 5 Tryd.underlying30 (.int .u8 0) 1 (by omega) rfl Tryd.info_u8 w.heap.size (1 + k) c A _ rfl hown2 w3.heap.size L.length c3 A3 _ rfl (Rd.of_own hown3) (SlOK.of_own hown3) (Byt_one _) (by omega) hsz3 ?_)
      intro A4 c4 w4 hown4 hg4 hat4
      have hb4 : Below w.heap.size w w4 := (Hbr.out.trans (hb3.mono hsz)).grown hg4 hsz3 (fun j hj => (hown2.lt j hj).1)
      rw [← Byt_append] at hown4
      have Hown4 := Lib.hid hown4; clear hown4 hown3 hown2
      have Hb4 := Lib.hid hb4; clear hb4
      go_wp2
      go_ret
      have hl : (128 :: (List.replicate k 0 ++ L)).length = 1 + k + L.length := by simp; omega
      rw [Hp.out]
      refine ⟨A4, c4, by rw [hl]; rfl, by rw [hl]; exact Hown4.out, Hb4.out⟩

theorem rpad07_out (z : Int) (w : World) (hz : z < 0 ∨ 1099511627776 < z) :
    Calls Tryd.prog 16 #[.int .i64 z] w (NewB 5 w []) := by
  rcases hz with h | h
  all_goals
    go_enter Tryd.func16, Tryd.ntmps16
    go_wp2
    go_ret
    exact newB_nil _ _ _ (Below.refl _ _)

theorem rpad07_any (z : Int) (w : World) : Calls Tryd.prog 16 #[.int .i64 z] w (NewB 5 w (shaPadR z)) := by
  by_cases h : 0 ≤ z ∧ z ≤ 1099511627776
  · obtain ⟨k, rfl⟩ := Int.eq_ofNat_of_zero_le h.1
    rw [shaPadR, if_pos h, Int.toNat_natCast]
    exact rpad07_in k w (by omega)
  · rw [shaPadR, if_neg h]
    exact rpad07_out z w (by omega)

end Go.Proofs.YtpnifmghbfajiaaDoor
