import Derived.Test.YtipkimmlbdnbnaaRefUtfRunes
namespace Go.Proofs.Ytipkimmlbdnbnaa
open Go.RowKit

theorem countV_ok {l : List UInt8} (h : brokenU 0 l = none) : countV l = ((runesU l).length : Int) := by unfold countV; rw [h]
theorem countV_bad {l : List UInt8} {p : Nat} (h : brokenU 0 l = some p) : countV l = -1 := by unfold countV; rw [h]

set_option maxHeartbeats 800000 in
theorem rcount_any (s : ByteArray) (w : World) (hs : s.size ≤ 1099511627776) :
    Calls Try.prog 35 #[.string s] w (Ans w (.int .i64 (countV s.data.toList))) := by
  have hr := rrunes_any s w hs
  cases h : brokenU 0 s.data.toList with
  | some p =>
    rw [runesV_bad h] at hr
    rw [countV_bad h]
    clear h
    go_enter Try.func35, Try.ntmps35
    go_wp2_with fail
    refine hr.mono ?_
    rintro e w1 ⟨A, c, rfl, _, hb1⟩
    go_wp2
    go_ret
    exact ⟨rfl, hb1⟩
  | none =>
    rw [runesV_ok h] at hr
    rw [countV_ok h]
    clear h
    go_enter Try.func35, Try.ntmps35
    go_wp2_with fail
    refine hr.mono ?_
    rintro e w1 ⟨A, c, rfl, _, hb1⟩
    go_wp2
    go_ret
    exact ⟨rfl, hb1⟩

end Go.Proofs.Ytipkimmlbdnbnaa
