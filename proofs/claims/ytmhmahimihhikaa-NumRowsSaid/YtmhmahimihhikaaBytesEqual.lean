import Derived.Test.YtmhmahimihhikaaNumS
import Derived.Test.YtmhmahimihhikaaFacts
namespace Go.Proofs.Ytmhmahimihhikaa
open Go.RowKit

set_option maxHeartbeats 400000 in
theorem bequal_any (B n m c d : Nat) (A C : Option Addr) (xs ys : List UInt8) (w : World) (hx : Rd w B A n (Byt xs)) (hy : Rd w B C m (Byt ys)) :
    Calls Try.prog 17 #[.slice A n c, .slice C m d] w (Ans w (.bool (sameL xs ys))) := by
  have h1 := hx.conv (P := Try.prog) (c := c) 23 9 5 Try.underlying23 Try.underlying5 Try.underlying9
  have h2 := hy.conv (P := Try.prog) (c := d) 23 9 5 Try.underlying23 Try.underlying5 Try.underlying9
  go_enter Try.func17, Try.ntmps17
  go_wp2
  go_ret
  refine ⟨?_, Below.refl _ _⟩
  rw [show sameL xs ys = (xs == ys) by unfold sameL; by_cases h : xs = ys <;> simp [h]]
  rfl


end Go.Proofs.Ytmhmahimihhikaa
