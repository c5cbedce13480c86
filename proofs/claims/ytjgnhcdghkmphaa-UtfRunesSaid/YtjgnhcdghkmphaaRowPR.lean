import Derived.Test.YtjgnhcdghkmphaaRowP
import Derived.Test.YtjgnhcdghkmphaaRowI
namespace Go.Proofs.Ytjgnhcdghkmphaa

theorem cells_i32 : Try.prog.cellsOf 21 = 1 := by kernel_rfl

end Go.Proofs.Ytjgnhcdghkmphaa
