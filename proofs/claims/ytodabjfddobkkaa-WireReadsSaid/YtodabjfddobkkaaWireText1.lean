import Derived.Test.YtodabjfddobkkaaWireBytes1
import Derived.Test.YtodabjfddobkkaaStrs
namespace Go.Proofs.Ytodabjfddobkkaa
open Go.RowKit

set_option maxHeartbeats 400000 in
theorem wrtext_any (br : Nat) (s : RS) (most : Int) (w : World) (h : RdrS w br s) :
    Calls Try.prog 29 #[.pointer (some ⟨br, 0, none⟩), .int .i64 most] w fun e w' =>
      e = .returned (.string (tx (rowStep most s).1)) ∧ RdrS w' br (rowStep most s).2 ∧ Moves (Blk br) w w' := by
  have hp := wrrow_any br s most w h
  go_enter Try.func29, Try.ntmps29
  go_wp2_with fail
  refine hp.mono ?_
  rintro e w1 ⟨A1, rfl, hr1, hok1, hoff1, hs1, hm1⟩
  have hcv := hr1.conv (P := Try.prog) (c := (rowStep most s).1.length) 26 9 5 Try.underlying26 Try.underlying5 Try.underlying9
  clear hr1
  go_wp2
  go_ret
  exact ⟨rfl, hs1, hm1⟩

end Go.Proofs.Ytodabjfddobkkaa
