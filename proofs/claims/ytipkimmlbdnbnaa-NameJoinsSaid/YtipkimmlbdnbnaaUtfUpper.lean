import Derived.Test.YtipkimmlbdnbnaaUtfU
namespace Go.Proofs.Ytipkimmlbdnbnaa
open Go.RowKit

set_option maxHeartbeats 1600000 in
theorem upper_any (r : Int) (w : World) : Calls Try.prog 27 #[.int .i32 r] w (Is w (.bool (upperU r))) := by
  rcases two_bands r 65 90 192 222 215 with h | h | h | h | h | h | h | h | h
  · obtain ⟨h1, h2⟩ := h
    have e : upperU r = true := decide_eq_true (by omega)
    rw [e]; clear e
    go_enter Try.func27, Try.ntmps27
    go_wp2
    go_ret
    try exact ⟨rfl, rfl⟩
  · obtain ⟨h1, h2⟩ := h
    have e : upperU r = false := decide_eq_false (by omega)
    have na : ¬ (65 ≤ r) := by omega
    have nc : ¬ (192 ≤ r) := by omega
    clear h1 h2
    rw [e]; clear e
    go_enter Try.func27, Try.ntmps27
    go_wp2
    go_ret
    try exact ⟨rfl, rfl⟩
  · obtain ⟨h1, h2, h3⟩ := h
    have e : upperU r = false := decide_eq_false (by omega)
    have na : ¬ (65 ≤ r) := by omega
    have nd : ¬ (r ≤ 222) := by omega
    have md : decide (r ≤ 222) = false := decide_eq_false nd
    clear h1 h3
    clear nd
    rw [e]; clear e
    go_enter Try.func27, Try.ntmps27
    go_wp2
    go_ret
    try exact ⟨rfl, rfl⟩
  · obtain ⟨h1, h2, h3, rfl⟩ := h
    have e : upperU 215 = false := decide_eq_false (by omega)
    rw [e]; clear e
    go_enter Try.func27, Try.ntmps27
    go_wp2
    go_ret
    try exact ⟨rfl, rfl⟩
  · obtain ⟨h1, h2, h3, h4⟩ := h
    have e : upperU r = true := decide_eq_true (by omega)
    have hne : (r != 215) = true := by simpa using h4
    clear h4
    have na : ¬ (65 ≤ r) := by omega
    clear h1
    rw [e]; clear e
    go_enter Try.func27, Try.ntmps27
    go_wp2
    go_ret
    try exact ⟨rfl, rfl⟩
  · obtain ⟨h1, h2, h3⟩ := h
    have e : upperU r = false := decide_eq_false (by omega)
    have nb : ¬ (r ≤ 90) := by omega
    have mb : decide (r ≤ 90) = false := decide_eq_false nb
    have nc : ¬ (192 ≤ r) := by omega
    clear h2 h3
    clear nb
    rw [e]; clear e
    go_enter Try.func27, Try.ntmps27
    go_wp2
    go_ret
    try exact ⟨rfl, rfl⟩
  · obtain ⟨h1, h2, h3, h4⟩ := h
    have e : upperU r = false := decide_eq_false (by omega)
    have nb : ¬ (r ≤ 90) := by omega
    have mb : decide (r ≤ 90) = false := decide_eq_false nb
    have nd : ¬ (r ≤ 222) := by omega
    have md : decide (r ≤ 222) = false := decide_eq_false nd
    clear h2 h4
    clear nb
    clear nd
    rw [e]; clear e
    go_enter Try.func27, Try.ntmps27
    go_wp2
    go_ret
    try exact ⟨rfl, rfl⟩
  · obtain ⟨h1, h2, h3, h4, rfl⟩ := h
    have e : upperU 215 = false := decide_eq_false (by omega)
    rw [e]; clear e
    go_enter Try.func27, Try.ntmps27
    go_wp2
    go_ret
    try exact ⟨rfl, rfl⟩
  · obtain ⟨h1, h2, h3, h4, h5⟩ := h
    have e : upperU r = true := decide_eq_true (by omega)
    have hne : (r != 215) = true := by simpa using h5
    clear h5
    have nb : ¬ (r ≤ 90) := by omega
    have mb : decide (r ≤ 90) = false := decide_eq_false nb
    clear h2
    clear nb
    rw [e]; clear e
    go_enter Try.func27, Try.ntmps27
    go_wp2
    go_ret
    try exact ⟨rfl, rfl⟩

end Go.Proofs.Ytipkimmlbdnbnaa
