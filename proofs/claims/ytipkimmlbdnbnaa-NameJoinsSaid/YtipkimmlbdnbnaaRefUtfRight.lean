import Derived.Test.YtipkimmlbdnbnaaUtfU
namespace Go.Proofs.Ytipkimmlbdnbnaa
open Go.RowKit

set_option maxHeartbeats 1600000 in
theorem right_any (r : Int) (w : World) : Calls Try.prog 49 #[.int .i32 r] w (Is w (.bool (validU r))) := by
  have hs : r < 0 ∨ (0 ≤ r ∧ 1114111 < r) ∨ (0 ≤ r ∧ r ≤ 1114111 ∧ r < 55296) ∨ (0 ≤ r ∧ r ≤ 1114111 ∧ 55296 ≤ r ∧ r ≤ 57343) ∨ (0 ≤ r ∧ r ≤ 1114111 ∧ 55296 ≤ r ∧ 57343 < r) := by omega
  rcases hs with h | h | h | h | h
  · have e : validU r = false := decide_eq_false (by omega)
    have na : ¬ (0 ≤ r) := by omega
    clear h
    rw [e]; clear e
    go_enter Try.func49, Try.ntmps49
    go_wp2
    go_ret
    try exact ⟨rfl, rfl⟩
  · have e : validU r = false := decide_eq_false (by omega)
    obtain ⟨h1, h2⟩ := h
    have nb : decide (r ≤ 1114111) = false := decide_eq_false (by omega)
    clear h2
    rw [e]; clear e
    go_enter Try.func49, Try.ntmps49
    go_wp2
    go_ret
    try exact ⟨rfl, rfl⟩
  · have e : validU r = true := decide_eq_true (by omega)
    obtain ⟨h1, h2, h3⟩ := h
    rw [e]; clear e
    go_enter Try.func49, Try.ntmps49
    go_wp2
    go_ret
    try exact ⟨rfl, rfl⟩
  · have e : validU r = false := decide_eq_false (by omega)
    obtain ⟨h1, h2, h3, h4⟩ := h
    have nc : ¬ (r < 55296) := by omega
    have nd : decide (57343 < r) = false := decide_eq_false (by omega)
    clear h3 h4
    rw [e]; clear e
    go_enter Try.func49, Try.ntmps49
    go_wp2
    go_ret
    try exact ⟨rfl, rfl⟩
  · have e : validU r = true := decide_eq_true (by omega)
    obtain ⟨h1, h2, h3, h4⟩ := h
    have nc : ¬ (r < 55296) := by omega
    clear h3
    rw [e]; clear e
    go_enter Try.func49, Try.ntmps49
    go_wp2
    go_ret
    try exact ⟨rfl, rfl⟩

end Go.Proofs.Ytipkimmlbdnbnaa
