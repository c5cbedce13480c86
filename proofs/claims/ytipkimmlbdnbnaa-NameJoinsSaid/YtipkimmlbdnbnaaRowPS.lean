import Derived.Test.YtipkimmlbdnbnaaRowP
import Derived.Test.YtipkimmlbdnbnaaRowS
namespace Go.Proofs.Ytipkimmlbdnbnaa

theorem cells_str : Try.prog.cellsOf 9 = 1 := by kernel_rfl

end Go.Proofs.Ytipkimmlbdnbnaa
