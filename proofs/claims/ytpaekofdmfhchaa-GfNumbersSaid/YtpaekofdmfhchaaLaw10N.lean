import Derived.Test.YtpaekofdmfhchaaGfAlive
import Derived.Test.YtpaekofdmfhchaaGfPower
import Derived.Test.YtpaekofdmfhchaaRefGfPower
import Derived.Test.YtpaekofdmfhchaaRow
namespace Go.Proofs.Ytpaekofdmfhchaa
open Go.RowKit

theorem ans_same {P : Program} {f : FuncId} {args : Array Value} {w : World} {v : Value} (h : Calls P f args w fun e w' => e = .returned v ∧ w' = w) : Calls P f args w (Ans w v) :=
  h.mono fun _ _ ⟨he, hw⟩ => ⟨he, by rw [hw]; exact Below.refl _ _⟩
theorem ans_drew {P : Program} {f : FuncId} {args : Array Value} {w : World} {v : Value} (h : Calls P f args w fun e w' => e = .returned v ∧ ∃ k, w' = w.drewN k) : Calls P f args w (Ans w v) :=
  h.mono fun _ _ ⟨he, k, hw⟩ => ⟨he, by rw [hw]; exact bdrewN (Below.refl _ _) k⟩

set_option maxHeartbeats 1600000 in
theorem gfNumbers_walk (a b : UInt8) (n : Int) (w : World) (hn : -9223372036854775808 ≤ n ∧ n ≤ 9223372036854775807) :
    Calls Try.prog 3 #[.int .u8 (a.toNat : Int), .int .u8 (b.toNat : Int), .int .i64 n] w (Ans w (.bool true)) := by
  have h1 := fun w => gtwice_any a w
  have h2 := fun w => rgtwice_any a w
  have h3 := fun w => gmul_any a b w
  have h4 := fun w => rgmul_any a b w
  have h5 := fun w => gpower_any a n w hn
  have h6 := fun w => rgpower_any a n w hn
  generalize gtwiceU a = x1 at *
  generalize gmulU a b = x2 at *
  generalize gpowerU a n = x3 at *
  clear hn
  go_enter Try.func3, Try.ntmps3
  go_wp2_with fail
  refine (h1 _).mono ?_
  rintro e w1 ⟨rfl, rfl⟩
  go_wp2_with fail
  refine (h2 _).mono ?_
  rintro e w1 ⟨rfl, rfl⟩
  go_wp2_with fail
  refine (h3 _).mono ?_
  rintro e w1 ⟨rfl, rfl⟩
  go_wp2_with fail
  refine (h4 _).mono ?_
  rintro e w1 ⟨rfl, rfl⟩
  go_wp2_with fail
  refine (h5 _).mono ?_
  rintro e w1 ⟨rfl, rfl⟩
  go_wp2_with fail
  refine (h6 _).mono ?_
  rintro e w1 ⟨rfl, rfl⟩
  go_wp2_with fail
  refine (alive10_any _).mono ?_
  rintro e w1 ⟨rfl, hb1⟩
  go_wp2
  go_ret
  exact ⟨rfl, hb1⟩

end Go.Proofs.Ytpaekofdmfhchaa
