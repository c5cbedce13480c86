import Derived.Test.YtmhmahimihhikaaBaseCopy
import Derived.Test.YtmhmahimihhikaaNumS2
import Derived.Test.YtmhmahimihhikaaFacts
namespace Go.Proofs.Ytmhmahimihhikaa
open Go.RowKit

set_option maxHeartbeats 800000 in
theorem rxor_any (B m c n d : Nat) (A C : Option Addr) (xs ys : List UInt8) (w : World) (hx : Rd w B A m (Byt xs)) (hy : Rd w B C n (Byt ys)) (hm : m ≤ 140737488355328) (_hn : n ≤ 140737488355328) (hB : B ≤ w.heap.size) :
    Calls Try.prog 15 #[.slice A m c, .slice C n d] w (NewB 5 w (xorL xs ys)) := by
  have hxl := hx.bytes
  have hyl := hy.bytes
  have Hx := Lib.hid hxl; clear hxl
  have Hy := Lib.hid hyl; clear hyl
  go_enter Try.func15, Try.ntmps15
  go_wp2
  go_loopw [5, 6] (fun v i wr => ∃ (k : Nat) (A' : Option Addr) (c' : Nat), k ≤ m ∧ k ≤ n ∧ i = .int .i64 k ∧ v = .slice A' k c' ∧
      wr.ownsRow w.heap.size 5 1 (.slice A' k c') k (Byt ((xorL xs ys).take k)) ∧ Below w.heap.size w wr) (fun _ i _ => m - (intOf i).toNat)
  case atStart => exact ⟨0, none, 0, Nat.zero_le _, Nat.zero_le _, rfl, rfl, World.ownsRow_nil _ _ _ _, Below.refl _ _⟩
  case round =>
    obtain ⟨k, A', c', hkm, hkn, rfl, rfl, hownr, hbr⟩ := hrel
    by_cases h1 : k < m
    · by_cases h2 : k < n
      · have hkx : k < xs.length := by rw [Hx.out]; omega
        have hky : k < ys.length := by rw [Hy.out]; omega
        obtain ⟨b, o, rfl, hbB, hc⟩ := (hx.below (hbr.mono hB)).byte h1 hkx
        obtain ⟨b', o', rfl, hbB', hc'⟩ := (hy.below (hbr.mono hB)).byte h2 hky
        go_wp2
        go_region_law (refine step_append_byte (by rfl) _ _ _ (by rfl) 5 Try.underlying23 Try.info_u8 w.heap.size k c' wr.heap.size A' _ (by rfl) (by rfl) (by exact hownr.alloc _) _ (xs[k] ^^^ ys[k]) (xor_u8 _ _) (by go_simp) (by omega) (by have := hbr.size; simp; omega) w w.heap.size (by exact (hbr.alloc hbr.size _).drew) (Nat.le_refl _) ?_; intro A2 c2 w2 hown2 hb2)
        all_goals
          rw [← xorL_step hkx hky] at hown2
          go_wp2
          go_roundw
          case rel => exact ⟨k + 1, A2, c2, by omega, by omega, by go_num, rfl, hown2, hb2⟩
          case measure => simp [intOf]; omega
      · go_wp2
        go_ret
        have hl : (xorL xs ys).length = k := by rw [xorL_length, Hx.out, Hy.out]; omega
        rw [List.take_of_length_le (by omega)] at hownr
        exact ⟨A', c', by rw [hl]; rfl, by rw [hl]; exact hownr, hbr⟩
    · go_wp2
      go_ret
      have hl : (xorL xs ys).length = k := by rw [xorL_length, Hx.out, Hy.out]; omega
      rw [List.take_of_length_le (by omega)] at hownr
      exact ⟨A', c', by rw [hl]; rfl, by rw [hl]; exact hownr, hbr⟩

end Go.Proofs.Ytmhmahimihhikaa
