import Derived.Test.YtmhmahimihhikaaDoorRow
import Derived.Test.YtmhmahimihhikaaDoorFacts
namespace Go.Proofs.YtmhmahimihhikaaDoor

theorem own : ownKnob Tryd.prog.godebug = none := by kernel_rfl
theorem laidOut : laidOutB Tryd.prog = true := by kernel_rfl
theorem cells_u8 : Tryd.prog.cellsOf 5 = 1 := by kernel_rfl

end Go.Proofs.YtmhmahimihhikaaDoor
