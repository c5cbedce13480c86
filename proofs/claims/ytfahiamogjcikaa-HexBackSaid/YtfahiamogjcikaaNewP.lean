import Derived.Test.YtfahiamogjcikaaStrs
namespace Go.Proofs.Ytfahiamogjcikaa
open Go.RowKit

/-- What a call ends in that answers new bytes and two numbers. -/
def NewP (e : TypeId) (w : World) (v : List UInt8 × Int × Int) (en : Ending) (w' : World) : Prop :=
  ∃ A c, en = .returned (.tuple #[.slice A v.1.length c, .int .i64 v.2.1, .int .i64 v.2.2]) ∧ w'.ownsRow w.heap.size e 1 (.slice A v.1.length c) v.1.length (Byt v.1) ∧ Below w.heap.size w w'
/-- A byte in a new block of its own reads as a row of one. -/
theorem Rd.byte1 (w : World) (e : TypeId) (z : Int) (c : UInt8) (hz : z = (c.toNat : Int)) : Rd (w.alloc (.cells #[.int .u8 z] e)) (w.heap.size + 1) (some ⟨w.heap.size, 0, none⟩) 1 (Byt [c]) := by
  subst hz; exact Rd.new w e #[.int .u8 (c.toNat : Int)] rfl

end Go.Proofs.Ytfahiamogjcikaa
