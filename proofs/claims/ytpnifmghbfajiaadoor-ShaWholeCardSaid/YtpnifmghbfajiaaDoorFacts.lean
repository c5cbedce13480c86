import Derived.Test.YtpnifmghbfajiaaDoorChecked
import Derived.KernelRfl
namespace Go.Proofs

theorem Tryd.info_u8 : (Tryd.prog.info? 5).map (fun i => (i.zero, i.size, i.bytes)) = some (some (.int .u8 0), 1, 1) := by kernel_rfl

end Go.Proofs
