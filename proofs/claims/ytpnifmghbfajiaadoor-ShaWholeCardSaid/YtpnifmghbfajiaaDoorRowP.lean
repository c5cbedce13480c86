import Derived.Test.YtpnifmghbfajiaaDoorRow
import Derived.Test.YtpnifmghbfajiaaDoorFacts
namespace Go.Proofs.YtpnifmghbfajiaaDoor

theorem own : ownKnob Tryd.prog.godebug = none := by kernel_rfl
theorem laidOut : laidOutB Tryd.prog = true := by kernel_rfl
theorem cells_u8 : Tryd.prog.cellsOf 5 = 1 := by kernel_rfl

end Go.Proofs.YtpnifmghbfajiaaDoor
