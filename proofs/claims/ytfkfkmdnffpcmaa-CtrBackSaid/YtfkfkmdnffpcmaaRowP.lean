import Derived.Test.YtfkfkmdnffpcmaaRow
import Derived.Test.YtfkfkmdnffpcmaaFacts
namespace Go.Proofs.Ytfkfkmdnffpcmaa

theorem own : ownKnob Try.prog.godebug = none := by kernel_rfl
theorem laidOut : laidOutB Try.prog = true := by kernel_rfl
theorem cells_u8 : Try.prog.cellsOf 5 = 1 := by kernel_rfl

end Go.Proofs.Ytfkfkmdnffpcmaa
