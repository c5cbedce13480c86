import Derived.Test.YtmhmahimihhikaaDoorBytesEqual
namespace Go.Proofs.YtmhmahimihhikaaDoor
open Go.RowKit

set_option maxHeartbeats 400000 in
theorem same_any (B n m c d : Nat) (A C : Option Addr) (xs ys : List UInt8) (w : World) (hx : Rd w B A n (Byt xs)) (hy : Rd w B C m (Byt ys)) :
    Calls Tryd.prog 13 #[.slice A n c, .slice C m d] w (Ans w (.bool (sameL xs ys))) := by
  go_enter Tryd.func13, Tryd.ntmps13
  go_wp2_with fail
  refine (bequal_any B n m c d A C xs ys _ hx hy).mono ?_
  rintro e w1 ⟨rfl, hb⟩
  go_wp2
  go_ret
  exact ⟨rfl, hb⟩

end Go.Proofs.YtmhmahimihhikaaDoor
