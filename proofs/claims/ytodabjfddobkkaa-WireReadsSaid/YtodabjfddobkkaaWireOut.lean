import Derived.Test.YtodabjfddobkkaaWireMem
import Derived.Test.YtodabjfddobkkaaBytesClone
namespace Go.Proofs.Ytodabjfddobkkaa
open Go.RowKit

set_option maxHeartbeats 400000 in
theorem wout_any (F : Nat → Prop) (bw : Nat) (l : List UInt8) (w : World) (h : WtrS 5 w F bw l) (hn : l.length ≤ 8796093022208) :
    Calls Try.prog 12 #[.pointer (some ⟨bw, 0, none⟩)] w (NewB 5 w l) := by
  obtain ⟨A, n, c, h0, f0, hown, hF, hA, hB⟩ := h
  have hl := own_len hown
  have hp := bclone_any w.heap.size n c A l w (Rd.of_own hown) (SlOK.of_own hown) (Nat.le_refl _) (by omega)
  go_enter Try.func12, Try.ntmps12
  go_wp2_with fail
  refine hp.mono ?_
  rintro e w1 ⟨A1, c1, rfl, hown1, hb1⟩
  have H := Lib.hid hown1; clear hown1 hl hown
  go_wp2
  go_ret
  exact ⟨A1, c1, rfl, H.out, hb1⟩

set_option maxHeartbeats 400000 in
theorem wout_nil (w : World) : Calls Try.prog 12 #[.pointer none] w fun e w' => e = .returned (.slice none 0 0) ∧ w' = w := by
  go_enter Try.func12, Try.ntmps12
  go_wp2
  go_ret
  exact ⟨rfl, rfl⟩

end Go.Proofs.Ytodabjfddobkkaa
