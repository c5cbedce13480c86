import Derived.Test.YtipkimmlbdnbnaaUtfBroken
import Derived.Test.YtipkimmlbdnbnaaRow
namespace Go.Proofs.Ytipkimmlbdnbnaa
open Go.RowKit

set_option maxHeartbeats 1600000 in
theorem count_any (s : ByteArray) (w : World) (hs : s.size ≤ 70368744177664) :
    Calls Try.prog 18 #[.string s] w (Ans w (.int .i64 (countV s.data.toList))) := by
  unfold countV
  have hb := broken_any s w
  unfold brokenV at hb
  cases h : brokenU 0 s.data.toList with
  | some p =>
    rw [h] at hb
    go_enter Try.func18, Try.ntmps18
    go_wp2_with fail
    refine hb.mono ?_
    rintro e w1 ⟨rfl, hb1⟩
    go_wp2
    go_ret
    exact ⟨rfl, hb1⟩
  | none =>
    rw [h] at hb
    have H := Lib.hid h; clear h
    go_enter Try.func18, Try.ntmps18
    go_wp2_with fail
    refine hb.mono ?_
    rintro e w1 ⟨rfl, hb1⟩
    go_wp2
    go_loopw [3] (fun i wr => ∃ p k : Nat, p ≤ s.size ∧ k ≤ p ∧ i = .int .i64 k ∧ wr = w1.iter s p ∧ k + (runesU (s.data.toList.drop p)).length = (runesU s.data.toList).length) (fun _ wr => s.size - wr.iterPos w1.heap.size)
    case atStart => exact ⟨0, 0, Nat.zero_le _, Nat.zero_le _, rfl, rfl, by simp⟩
    case round =>
      obtain ⟨p, k, hp, hkp, rfl, rfl, hc⟩ := hrel
      by_cases hlt : p < s.size
      · have hnx : ∀ ty, (Instr.next (.pointer (some ⟨w1.heap.size, 0, none⟩)) true ty).run Try.prog (w1.iter s p) = _ := fun ty => run_next_any w1 s p ty hlt
        obtain ⟨hw1, hw2⟩ := step_le hlt
        rw [runesU_step _ (drop_ne hlt), Lib.decodeL_drop, List.drop_drop, List.length_cons] at hc
        have Hc := Lib.hid hc; clear hc
        go_wp2
        go_roundw
        case rel => exact ⟨p + (Utf8.decode s p).2, k + 1, hw1, by omega, by go_num, rfl, by have := Hc.out; omega⟩
        case measure => simp; omega
      · have hnx : ∀ ty, (Instr.next (.pointer (some ⟨w1.heap.size, 0, none⟩)) true ty).run Try.prog (w1.iter s p) = _ := fun ty => run_next_end w1 s p ty hlt
        have h0 : s.data.toList.drop p = [] := List.drop_eq_nil_of_le (by simp; omega)
        rw [h0, runesU_nil, List.length_nil, Nat.add_zero] at hc
        have Hc := Lib.hid hc; clear hc
        clear h0
        go_wp2
        go_ret
        exact ⟨by rw [← Hc.out]; rfl, bon hb1 ((Below.refl _ _).alloc (Nat.le_refl _) _)⟩

end Go.Proofs.Ytipkimmlbdnbnaa
