import Derived.Test.YtpnifmghbfajiaaDoorNumS
import Derived.Test.YtpnifmghbfajiaaDoorFacts
namespace Go.Proofs.YtpnifmghbfajiaaDoor
open Go.RowKit

set_option maxHeartbeats 800000 in
theorem put_in (m0 size : Nat) (w : World) (hm : m0 < 18446744073709551616) (h1 : 1 ≤ size) (h8 : size ≤ 8) :
    Calls Tryd.prog 27 #[.int .u64 m0, .int .i64 size] w (NewB 5 w (putL m0 size)) := by
  go_enter Tryd.func27, Tryd.ntmps27
  go_wp2
  go_step3
  go_wp2_with (refine wp_make_bytes rfl _ _ 30 rfl 5 Tryd.underlying30 Tryd.info_u8 size rfl rfl (by omega) ?_)
  intro w1 hown hb
  go_wp2
  go_step3
  go_wp2
  go_loopw [0, 6] (fun n i wr => ∃ (q m : Nat) (done : List UInt8), q ≤ size ∧ i = .int .i64 ((q : Int) - 1) ∧ n = .int .u64 m ∧ m < 18446744073709551616 ∧ putL m0 size = putL m q ++ done ∧
      wr.ownsRow w.heap.size 5 1 (.slice (some ⟨w.heap.size, 0, none⟩) size size) size (Byt (List.replicate q 0 ++ done)) ∧ Below w.heap.size w wr) (fun _ i _ => (intOf i + 1).toNat)
  case atStart => exact ⟨size, m0, [], Nat.le_refl _, rfl, rfl, hm, by simp, by simpa using hown, hb⟩
  case round =>
    obtain ⟨q, m, done, hq, rfl, rfl, hm', hput, hownr, hbr⟩ := hrel
    have Hput := Lib.hid hput; clear hput
    have hlen := own_len hownr
    simp only [List.length_append, List.length_replicate] at hlen
    have Hlen := Lib.hid hlen; clear hlen
    have fin : putL m0 size = List.replicate q 0 ++ done → 
        NewB 5 w (putL m0 size) (.returned (.slice (some ⟨w.heap.size, 0, none⟩) size size)) wr := by
      intro e
      have hl := putL_length m0 size
      rw [← e] at hownr
      exact ⟨some ⟨w.heap.size, 0, none⟩, size, by rw [hl], by rw [hl]; exact hownr, hbr⟩
    have Fin := Lib.hid fin; clear fin
    rcases q with _ | q
    · go_wp2
      go_ret
      exact Fin.out (by simpa [putL] using Hput.out)
    · by_cases hm0 : m = 0
      · subst hm0
        have e0 : (((0 : Nat) : Int) == 0) = true := rfl
        go_wp2
        go_ret
        exact Fin.out (by rw [Hput.out, putL_zero])
      · obtain ⟨u, hu⟩ := own_any hownr (j := q) (by omega)
        have hf := hownr.frozenAt q
        have e0 : ((m : Int) == 0) = false := by simp; omega
        go_wp2
        go_roundw
        case rel =>
          have h2 := own_put hownr q ((m : Int) % 256) (UInt8.ofNat m) (u8_of m).symm
          rw [set_front] at h2
          exact ⟨q, m / 256, _, by omega, rfl, by go_num, by omega, by rw [Hput.out]; simp [putL], h2, hbr.setCell (Nat.le_refl _) _⟩
        case measure => simp [intOf]

set_option maxHeartbeats 400000 in
theorem put_out (m0 : Nat) (size : Int) (w : World) (h : size < 1 ∨ 8 < size) :
    Calls Tryd.prog 27 #[.int .u64 m0, .int .i64 size] w (NewB 5 w []) := by
  rcases h with h | h
  all_goals
    go_enter Tryd.func27, Tryd.ntmps27
    go_wp2
    go_step3
    go_wp2
    rw [Exit.noGoto_ret]
    go_ret
    exact newB_nil _ _ _ (Below.refl _ _)

theorem put_any (m0 : Nat) (size : Int) (w : World) (hm : m0 < 18446744073709551616) :
    Calls Tryd.prog 27 #[.int .u64 m0, .int .i64 size] w (NewB 5 w (putR m0 size)) := by
  by_cases h : 1 ≤ size ∧ size ≤ 8
  · obtain ⟨k, rfl⟩ := Int.eq_ofNat_of_zero_le (show 0 ≤ size by omega)
    rw [putR, if_pos h, Int.toNat_natCast]
    exact put_in m0 k w hm (by omega) (by omega)
  · rw [putR, if_neg h]
    exact put_out m0 size w (by omega)


end Go.Proofs.YtpnifmghbfajiaaDoor
