import Derived.Test.YtmhmahimihhikaaBaseCopy
import Derived.Test.YtmhmahimihhikaaNumS2
import Derived.Test.YtmhmahimihhikaaFacts
namespace Go.Proofs.Ytmhmahimihhikaa
open Go.RowKit

set_option maxHeartbeats 800000 in
theorem pad_in (B m c size : Nat) (A : Option Addr) (xs : List UInt8) (w : World) (hx : Rd w B A m (Byt xs)) (_hm : m ≤ maxLen) (hB : B ≤ w.heap.size) (h1 : 1 ≤ size) (h2 : size ≤ 65536) :
    Calls Try.prog 11 #[.slice A m c, .int .i64 size] w (NewB 5 w (padL xs size)) := by
  unfold maxLen at _hm
  have hxl := hx.bytes
  have Hx := Lib.hid hxl; clear hxl
  go_enter Try.func11, Try.ntmps11
  go_wp2_with (first
    | refine wp_make_bytes rfl _ _ 23 rfl 5 Try.underlying23 Try.info_u8 size rfl rfl (by omega) ?_
    | fail)
  intro w1 hown hb
  go_wp2_with (with_reducible refine wp_copy_bytes rfl (.tmp 14) (.tmp 15) _ _ rfl 5 Try.underlying23 Try.info_u8 _ _ _ _ _ rfl hown _ _ _ _ _ rfl (hx.below (hb.mono hB)) w w.heap.size hb (Nat.le_refl _) ?_)
  intro w2 hown2 hb2
  go_wp2
  go_ret
  rw [show xs.take size ++ List.replicate (size - xs.length) 0 = padL xs size from rfl] at hown2
  have hl := padL_length xs size
  exact ⟨some ⟨w.heap.size, 0, none⟩, size, by rw [hl]; rfl, by rw [hl]; exact hown2, hb2⟩

set_option maxHeartbeats 400000 in
theorem pad_out (m c : Nat) (size : Int) (A : Option Addr) (w : World) (h : size < 1 ∨ 65536 < size) :
    Calls Try.prog 11 #[.slice A m c, .int .i64 size] w (NewB 5 w []) := by
  rcases h with h | h
  all_goals
    go_enter Try.func11, Try.ntmps11
    go_wp2
    go_ret
    exact newB_nil _ _ _ (Below.refl _ _)

theorem pad_any (B m c : Nat) (size : Int) (A : Option Addr) (xs : List UInt8) (w : World) (hx : Rd w B A m (Byt xs)) (hm : m ≤ maxLen) (hB : B ≤ w.heap.size) :
    Calls Try.prog 11 #[.slice A m c, .int .i64 size] w (NewB 5 w (padR xs size)) := by
  by_cases h : 1 ≤ size ∧ size ≤ 65536
  · obtain ⟨k, rfl⟩ := Int.eq_ofNat_of_zero_le (show 0 ≤ size by omega)
    rw [padR, if_pos h, Int.toNat_natCast]
    exact pad_in B m c k A xs w hx hm hB (by omega) (by omega)
  · rw [padR, if_neg h]
    exact pad_out m c size A w (by omega)

end Go.Proofs.Ytmhmahimihhikaa
