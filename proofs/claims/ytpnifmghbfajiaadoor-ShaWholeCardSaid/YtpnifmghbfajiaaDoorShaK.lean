import Derived.Test.YtpnifmghbfajiaaDoorBase
import Derived.Test.YtpnifmghbfajiaaDoorFacts
import Derived.Test.YtpnifmghbfajiaaDoorShaS
namespace Go.Proofs.YtpnifmghbfajiaaDoor
open Go.RowKit

/-- The table of the package holds its numbers. -/
def KsAt (w : World) : Prop := ∀ i (h : i < 64), w.cell? ⟨0, i, none⟩ = some (.int .u32 ((ksU[i]'h : Nat) : Int))
theorem KsAt.lt {w : World} (h : KsAt w) : 0 < w.heap.size := block_lt_of_cell (h 0 (by decide))
theorem KsAt.below {w w' : World} (h : KsAt w) (hb : Below w.heap.size w w') : KsAt w' := fun i hi => (hb.cell (p := ⟨0, i, none⟩) h.lt).trans (h i hi)
theorem KsAt.drewN {w : World} (h : KsAt w) (n : Nat) : KsAt (w.drewN n) := h

theorem shak_any (t : Int) (w : World) (ht : -9223372036854775808 ≤ t ∧ t ≤ 9223372036854775807) (h : KsAt w) :
    Calls Tryd.prog 7 #[.int .i64 t] w fun e w' => e = .returned (.int .u32 (kU t : Nat)) ∧ w' = w := by
  by_cases hin : 0 ≤ t ∧ t ≤ 63
  · obtain ⟨j, rfl⟩ : ∃ j : Nat, t = j := ⟨t.toNat, by omega⟩
    have hj : j < 64 := by omega
    have hcell := h j hj
    rw [kU_in hj]
    revert hcell
    generalize ksU[j] = x
    intro hcell
    go_enter Tryd.func7, Tryd.ntmps7
    go_wp2
    go_ret
    exact ⟨rfl, rfl⟩
  · rw [kU_out (by omega)]
    by_cases h0 : t < 0
    · go_enter Tryd.func7, Tryd.ntmps7
      go_wp2
      go_ret
      exact ⟨rfl, rfl⟩
    · have h1 : 63 < t := by omega
      go_enter Tryd.func7, Tryd.ntmps7
      go_wp2
      go_ret
      exact ⟨rfl, rfl⟩

end Go.Proofs.YtpnifmghbfajiaaDoor
