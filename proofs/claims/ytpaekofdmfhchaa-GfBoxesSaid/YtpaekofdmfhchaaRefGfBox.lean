import Derived.Test.YtpaekofdmfhchaaRefGfInv
import Derived.Test.YtpaekofdmfhchaaRefGfLeft
namespace Go.Proofs.Ytpaekofdmfhchaa
open Go.RowKit

set_option maxHeartbeats 1600000 in
set_option maxRecDepth 20000 in
theorem rgbox_any (a : UInt8) (w : World) :
    Calls Try.prog 16 #[.int .u8 (a.toNat : Int)] w (fun e w' => e = .returned (.int .u8 ((gboxU a).toNat : Int)) ∧ ∃ k, w' = w.drewN k) := by
  have hc := fun w => rginv_any a w
  have Hm : Hid (gboxU a = ginvU a ^^^ gleftU (ginvU a) 1 ^^^ gleftU (ginvU a) 2 ^^^ gleftU (ginvU a) 3 ^^^ gleftU (ginvU a) 4 ^^^ 99) := Lib.hid rfl
  revert hc Hm
  generalize gboxU a = m
  generalize ginvU a = n
  intro hc Hm
  have h1 := fun w => rgleft_any n 1 w (by omega) (by omega)
  have h2 := fun w => rgleft_any n 2 w (by omega) (by omega)
  have h3 := fun w => rgleft_any n 3 w (by omega) (by omega)
  have h4 := fun w => rgleft_any n 4 w (by omega) (by omega)
  generalize gleftU n 1 = a1 at *
  generalize gleftU n 2 = a2 at *
  generalize gleftU n 3 = a3 at *
  generalize gleftU n 4 = a4 at *
  have x1 := gxor_u8 n a1
  have x2 := gxor_u8 (n ^^^ a1) a2
  have x3 := gxor_u8 (n ^^^ a1 ^^^ a2) a3
  have x4 := gxor_u8 (n ^^^ a1 ^^^ a2 ^^^ a3) a4
  have x5 := gxor_u8 (n ^^^ a1 ^^^ a2 ^^^ a3 ^^^ a4) 99
  rw [← Hm.out] at x5
  clear Hm
  generalize n ^^^ a1 ^^^ a2 ^^^ a3 ^^^ a4 = y4 at *
  generalize n ^^^ a1 ^^^ a2 ^^^ a3 = y3 at *
  generalize n ^^^ a1 ^^^ a2 = y2 at *
  generalize n ^^^ a1 = y1 at *
  have x5' : bits .xor .u8 (y4.toNat : Int) 99 = (m.toNat : Int) := x5
  clear x5
  go_enter Try.func16, Try.ntmps16
  go_wp2_with fail
  refine (hc _).mono ?_
  rintro e w1 ⟨rfl, rfl⟩
  go_wp2_with fail
  refine (h1 _).mono ?_
  rintro e w2 ⟨rfl, k1, rfl⟩
  go_wp2_with fail
  refine (h2 _).mono ?_
  rintro e w2 ⟨rfl, k2, rfl⟩
  go_wp2_with fail
  refine (h3 _).mono ?_
  rintro e w2 ⟨rfl, k3, rfl⟩
  go_wp2_with fail
  refine (h4 _).mono ?_
  rintro e w2 ⟨rfl, k4, rfl⟩
  go_wp2
  go_ret
  exact ⟨rfl, k1 + k2 + k3 + k4, by simp only⟩

end Go.Proofs.Ytpaekofdmfhchaa
