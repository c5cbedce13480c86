import Derived.Test.YtmhmahimihhikaaDoorNumS
import Derived.Test.YtmhmahimihhikaaDoorFacts
namespace Go.Proofs.YtmhmahimihhikaaDoor
open Go.RowKit

set_option maxHeartbeats 400000 in
theorem bequal_any (B n m c d : Nat) (A C : Option Addr) (xs ys : List UInt8) (w : World) (hx : Rd w B A n (Byt xs)) (hy : Rd w B C m (Byt ys)) :
    Calls Tryd.prog 16 #[.slice A n c, .slice C m d] w (Ans w (.bool (sameL xs ys))) := by
  have h1 := hx.conv (P := Tryd.prog) (c := c) 29 9 5 Tryd.underlying29 Tryd.underlying5 Tryd.underlying9
  have h2 := hy.conv (P := Tryd.prog) (c := d) 29 9 5 Tryd.underlying29 Tryd.underlying5 Tryd.underlying9
  go_enter Tryd.func16, Tryd.ntmps16
  go_wp2
  go_ret
  refine ⟨?_, Below.refl _ _⟩
  rw [show sameL xs ys = (xs == ys) by unfold sameL; by_cases h : xs = ys <;> simp [h]]
  rfl


end Go.Proofs.YtmhmahimihhikaaDoor
