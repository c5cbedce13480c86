import Derived.Test.YtipkimmlbdnbnaaUtfV
import Derived.Test.YtipkimmlbdnbnaaShelf
namespace Go.Proofs.Ytipkimmlbdnbnaa
open Go.RowKit

set_option maxHeartbeats 3200000 in
theorem broken_any (s : ByteArray) (w : World) :
    Calls Try.prog 32 #[.string s] w (Ans w (.int .i64 (brokenV s.data.toList))) := by
  go_enter Try.func32, Try.ntmps32
  go_wp2
  go_loopw [] (fun wr => ∃ p : Nat, p ≤ s.size ∧ wr = w.iter s p ∧ brokenU p (s.data.toList.drop p) = brokenU 0 s.data.toList) (fun wr => s.size - wr.iterPos w.heap.size)
  case atStart => exact ⟨0, Nat.zero_le _, rfl, rfl⟩
  case round =>
    obtain ⟨p, hp, rfl, hb⟩ := hrel
    have bel : ∀ q, Below w.heap.size w (w.iter s q) := fun q => (Below.refl _ _).alloc (Nat.le_refl _) _
    by_cases hlt : p < s.size
    · have hnx : ∀ ty, (Instr.next (.pointer (some ⟨w.heap.size, 0, none⟩)) true ty).run Try.prog (w.iter s p) = _ := fun ty => run_next_any w s p ty hlt
      obtain ⟨hw1, hw2⟩ := step_le hlt
      obtain ⟨k1, k2⟩ := broken_at hlt hb
      have K1 := Lib.hid k1; clear k1
      have K2 := Lib.hid k2; clear k2
      clear hb
      by_cases hr : (Utf8.decode s p).1 = 65533
      · have hpre : Lib.hasPrefix ((s.data.toList.drop p).take (s.size - p)) [239, 191, 189] = !badL (s.data.toList.drop p) := by
          rw [List.take_of_length_le (by rw [List.length_drop]; simp)]
          exact mark_prefix _ (drop_ne hlt) (by rw [Lib.decodeL_drop]; exact hr)
        cases hbad : badL (s.data.toList.drop p) with
        | true =>
          rw [hbad] at hpre
          have Hbad := Lib.hid hbad; clear hbad
          go_wp2_with fail
          refine (Try.strings_HasPrefix _ _ _).mono ?_
          rintro e w1 ⟨rfl, rfl⟩
          go_wp2
          go_ret
          exact ⟨by rw [K1.out Hbad.out]; rfl, bel _⟩
        | false =>
          rw [hbad] at hpre
          have Hbad := Lib.hid hbad; clear hbad
          go_wp2_with fail
          refine (Try.strings_HasPrefix _ _ _).mono ?_
          rintro e w1 ⟨rfl, rfl⟩
          go_wp2
          go_roundw
          case rel => exact ⟨p + (Utf8.decode s p).2, hw1, rfl, K2.out Hbad.out⟩
          case measure => simp; omega
      · have hbad := bad_rune (s.data.toList.drop p) (by rw [Lib.decodeL_drop]; exact hr)
        have hr' : (((Utf8.decode s p).1 : Int) == 65533) = false := by simp; omega
        have Hbad := Lib.hid hbad; clear hbad
        go_wp2
        go_roundw
        case rel => exact ⟨p + (Utf8.decode s p).2, hw1, rfl, K2.out Hbad.out⟩
        case measure => simp; omega
    · have hnx : ∀ ty, (Instr.next (.pointer (some ⟨w.heap.size, 0, none⟩)) true ty).run Try.prog (w.iter s p) = _ := fun ty => run_next_end w s p ty hlt
      have hv : brokenV s.data.toList = -1 := by
        have h0 : s.data.toList.drop p = [] := List.drop_eq_nil_of_le (by simp; omega)
        rw [h0, brokenU_nil] at hb
        unfold brokenV
        rw [← hb]
      have Hv := Lib.hid hv; clear hv
      go_wp2
      go_ret
      exact ⟨by rw [Hv.out]; rfl, bel p⟩

end Go.Proofs.Ytipkimmlbdnbnaa
