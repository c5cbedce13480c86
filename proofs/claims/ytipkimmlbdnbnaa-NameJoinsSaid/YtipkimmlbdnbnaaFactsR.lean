import Derived.Test.YtipkimmlbdnbnaaChecked
import Derived.KernelRfl
namespace Go.Proofs

theorem Try.info_i32 : (Try.prog.info? 21).map (fun i => (i.zero, i.size, i.bytes)) = some (some (.int .i32 0), 1, 4) := by kernel_rfl

end Go.Proofs
