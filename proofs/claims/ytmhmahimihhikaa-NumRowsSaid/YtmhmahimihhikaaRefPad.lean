import Derived.Test.YtmhmahimihhikaaNumS2
import Derived.Test.YtmhmahimihhikaaFacts
namespace Go.Proofs.Ytmhmahimihhikaa
open Go.RowKit

set_option maxHeartbeats 800000 in
theorem rpad_in (B m c size : Nat) (A : Option Addr) (xs : List UInt8) (w : World) (hx : Rd w B A m (Byt xs)) (hm : m ≤ maxLen) (hB : B ≤ w.heap.size) (h1 : 1 ≤ size) (h2 : size ≤ 65536) :
    Calls Try.prog 12 #[.slice A m c, .int .i64 size] w (NewB 5 w (padL xs size)) := by
  unfold maxLen at hm
  have hxl := hx.bytes
  have Hx := Lib.hid hxl; clear hxl
  go_enter Try.func12, Try.ntmps12
  go_wp2_with (refine wp_make_bytes rfl _ _ 23 rfl 5 Try.underlying23 Try.info_u8 size rfl rfl (by omega) ?_)
  intro w1 hown hb
  go_wp2
  go_loopw [6] (fun i wr => ∃ k : Nat, k ≤ size ∧ k ≤ m ∧ i = .int .i64 k ∧
      wr.ownsRow w.heap.size 5 1 (.slice (some ⟨w.heap.size, 0, none⟩) size size) size (Byt (xs.take k ++ List.replicate (size - k) 0)) ∧ Below w.heap.size w wr) (fun i _ => size - (intOf i).toNat)
  case atStart => exact ⟨0, Nat.zero_le _, Nat.zero_le _, rfl, by simpa using hown, hb⟩
  case round =>
    obtain ⟨k, hk, hkm, rfl, hownr, hbr⟩ := hrel
    have fin : size ≤ k ∨ m ≤ k → NewB 5 w (padL xs size) (.returned (.slice (some ⟨w.heap.size, 0, none⟩) size size)) wr := by
      intro h
      rw [pad_fin hk (by rw [Hx.out]; exact hkm) (by rw [Hx.out]; exact h)] at hownr
      have hl := padL_length xs size
      exact ⟨some ⟨w.heap.size, 0, none⟩, size, by rw [hl], by rw [hl]; exact hownr, hbr⟩
    have Fin := Lib.hid fin; clear fin
    by_cases hks : k < size
    · by_cases hkx : k < m
      · have hkl : k < xs.length := by rw [Hx.out]; exact hkx
        obtain ⟨b, o, rfl, hbB, hc⟩ := (hx.below (hbr.mono hB)).byte hkx hkl
        obtain ⟨u, hu⟩ := own_any hownr hks
        have hf := hownr.frozenAt k
        go_wp2
        go_roundw
        case rel =>
          have h2 := own_put hownr k _ xs[k] rfl
          rw [pad_set hks hkl] at h2
          exact ⟨k + 1, by omega, by omega, by go_num, h2, hbr.setCell (Nat.le_refl _) _⟩
        case measure => simp [intOf]; omega
      · go_wp2
        go_ret
        exact Fin.out (.inr (by omega))
    · go_wp2
      go_ret
      exact Fin.out (.inl (by omega))

set_option maxHeartbeats 400000 in
theorem rpad_out (m c : Nat) (size : Int) (A : Option Addr) (w : World) (h : size < 1 ∨ 65536 < size) :
    Calls Try.prog 12 #[.slice A m c, .int .i64 size] w (NewB 5 w []) := by
  rcases h with h | h
  all_goals
    go_enter Try.func12, Try.ntmps12
    go_wp2
    go_ret
    exact newB_nil _ _ _ (Below.refl _ _)

theorem rpad_any (B m c : Nat) (size : Int) (A : Option Addr) (xs : List UInt8) (w : World) (hx : Rd w B A m (Byt xs)) (hm : m ≤ maxLen) (hB : B ≤ w.heap.size) :
    Calls Try.prog 12 #[.slice A m c, .int .i64 size] w (NewB 5 w (padR xs size)) := by
  by_cases h : 1 ≤ size ∧ size ≤ 65536
  · obtain ⟨k, rfl⟩ := Int.eq_ofNat_of_zero_le (show 0 ≤ size by omega)
    rw [padR, if_pos h, Int.toNat_natCast]
    exact rpad_in B m c k A xs w hx hm hB (by omega) (by omega)
  · rw [padR, if_neg h]
    exact rpad_out m c size A w (by omega)

end Go.Proofs.Ytmhmahimihhikaa
