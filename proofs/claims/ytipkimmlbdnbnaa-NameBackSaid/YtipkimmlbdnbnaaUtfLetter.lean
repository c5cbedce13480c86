import Derived.Test.YtipkimmlbdnbnaaUtfUpper
import Derived.Test.YtipkimmlbdnbnaaUtfLower
namespace Go.Proofs.Ytipkimmlbdnbnaa
open Go.RowKit

theorem letter_any (r : Int) (w : World) : Calls Try.prog 26 #[.int .i32 r] w (Is w (.bool (letterU r))) := by
  unfold letterU
  cases hu : upperU r with
  | true =>
    have hr := upper_any r w
    rw [hu] at hr
    go_enter Try.func26, Try.ntmps26
    go_wp2_with fail
    refine hr.mono ?_
    rintro e w1 ⟨rfl, rfl⟩
    go_wp2
    go_ret
    try exact ⟨rfl, rfl⟩
  | false =>
    have hr := upper_any r w
    rw [hu] at hr
    go_enter Try.func26, Try.ntmps26
    go_wp2_with fail
    refine hr.mono ?_
    rintro e w1 ⟨rfl, rfl⟩
    go_wp2_with fail
    refine (lower_any r w1).mono ?_
    rintro e w2 ⟨rfl, rfl⟩
    go_wp2
    go_ret
    try exact ⟨rfl, rfl⟩

end Go.Proofs.Ytipkimmlbdnbnaa
