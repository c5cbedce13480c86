import Derived.Test.YtodabjfddobkkaaWireGuardN
namespace Go.Proofs.Ytodabjfddobkkaa
open Go.RowKit

set_option maxHeartbeats 800000 in
theorem wrnum_any (br : Nat) (s : RS) (size : Int) (w : World) (h : RdrS w br s) :
    Calls Try.prog 22 #[.pointer (some ⟨br, 0, none⟩), .int .i64 size] w fun e w' =>
      e = .returned (.int .u64 ((numStep size s).1 : Int)) ∧ (numStep size s).1 < 18446744073709551616 ∧ RdrS w' br (numStep size s).2 ∧ Moves (Blk br) w w' := by
  have hmf : ∀ (fn : Fn) (first cap : Array Value) (w : World), (Instr.makeFunc fn first cap).run Try.prog w = .ok (.func fn first cap) w := fun _ _ _ _ => rfl
  have hp := wguardN_any w.heap.size (w.heap.size + 1) br s size ((w.alloc (.cells #[.pointer (some ⟨br, 0, none⟩)] 38)).alloc (.cells #[.int .i64 size] 3)) ((h.alloc _).alloc _) (by simp) (by simp) (by simp; omega) (by simp)
  have hm : Moves (Blk br) w ((w.alloc (.cells #[.pointer (some ⟨br, 0, none⟩)] 38)).alloc (.cells #[.int .i64 size] 3)) := ((Moves.refl _ w).alloc _).alloc _
  have Hm := Lib.hid hm; clear hm
  go_enter Try.func22, Try.ntmps22
  go_wp2_with fail
  refine hp.mono ?_
  rintro e w1 ⟨rfl, hlt, hs1, hm1⟩
  have Hlt := Lib.hid hlt; clear hlt
  go_wp2
  go_ret
  exact ⟨rfl, Hlt.out, hs1, Hm.out.go hm1⟩

set_option maxHeartbeats 400000 in
theorem wrnum_nil (size : Int) (w : World) :
    Calls Try.prog 22 #[.pointer none, .int .i64 size] w fun e w' => e = .returned (.int .u64 0) ∧ Below w.heap.size w w' := by
  have hmf : ∀ (fn : Fn) (first cap : Array Value) (w : World), (Instr.makeFunc fn first cap).run Try.prog w = .ok (.func fn first cap) w := fun _ _ _ _ => rfl
  go_enter Try.func22, Try.ntmps22
  go_wp2_with fail
  refine (wguardN_nil _ _).mono ?_
  rintro e w1 ⟨rfl, hb⟩
  have hb1 := (((Below.refl w.heap.size w).alloc (Nat.le_refl _) (.cells #[.pointer none] 38)).alloc (by simp) (.cells #[.int .i64 size] 3)).trans (hb.mono (by simp; omega))
  clear hb
  go_wp2
  go_ret
  exact ⟨rfl, hb1⟩

end Go.Proofs.Ytodabjfddobkkaa
