import Derived.Test.YtodabjfddobkkaaWireGuardB
namespace Go.Proofs.Ytodabjfddobkkaa
open Go.RowKit

set_option maxHeartbeats 800000 in
theorem wrrow_any (br : Nat) (s : RS) (size : Int) (w : World) (h : RdrS w br s) :
    Calls Try.prog 23 #[.pointer (some ⟨br, 0, none⟩), .int .i64 size] w fun e w' =>
      RowOut br (rowStep size s) w e w' := by
  have hmf : ∀ (fn : Fn) (first cap : Array Value) (w : World), (Instr.makeFunc fn first cap).run Try.prog w = .ok (.func fn first cap) w := fun _ _ _ _ => rfl
  have hp := wguardB_any w.heap.size (w.heap.size + 1) br s size ((w.alloc (.cells #[.pointer (some ⟨br, 0, none⟩)] 38)).alloc (.cells #[.int .i64 size] 3)) ((h.alloc _).alloc _) (by simp) (by simp) (by simp; omega) (by simp)
  have hm : Moves (Blk br) w ((w.alloc (.cells #[.pointer (some ⟨br, 0, none⟩)] 38)).alloc (.cells #[.int .i64 size] 3)) := ((Moves.refl _ w).alloc _).alloc _
  have Hm := Lib.hid hm; clear hm
  go_enter Try.func23, Try.ntmps23
  go_wp2_with fail
  refine hp.mono ?_
  rintro e w1 ⟨A1, rfl, hr1, hok1, hoff1, hs1, hm1⟩
  have Hr := Lib.hid hr1; clear hr1
  go_wp2
  go_ret
  exact ⟨A1, rfl, Hr.out, hok1, hoff1, hs1, Hm.out.go hm1⟩

set_option maxHeartbeats 400000 in
theorem wrrow_nil (size : Int) (w : World) :
    Calls Try.prog 23 #[.pointer none, .int .i64 size] w fun e w' => e = .returned (.slice none 0 0) ∧ Below w.heap.size w w' := by
  have hmf : ∀ (fn : Fn) (first cap : Array Value) (w : World), (Instr.makeFunc fn first cap).run Try.prog w = .ok (.func fn first cap) w := fun _ _ _ _ => rfl
  go_enter Try.func23, Try.ntmps23
  go_wp2_with fail
  refine (wguardB_nil _ _).mono ?_
  rintro e w1 ⟨rfl, hb⟩
  have hb1 := (((Below.refl w.heap.size w).alloc (Nat.le_refl _) (.cells #[.pointer none] 38)).alloc (by simp) (.cells #[.int .i64 size] 3)).trans (hb.mono (by simp; omega))
  clear hb
  go_wp2
  go_ret
  exact ⟨rfl, hb1⟩

end Go.Proofs.Ytodabjfddobkkaa
