import Derived.Test.YtfkfkmdnffpcmaaNumS2
import Derived.Test.YtfkfkmdnffpcmaaFacts
namespace Go.Proofs.Ytfkfkmdnffpcmaa
open Go.RowKit

set_option maxHeartbeats 800000 in
theorem xor_any (B m c n d : Nat) (A C : Option Addr) (xs ys : List UInt8) (w : World) (hx : Rd w B A m (Byt xs)) (hy : Rd w B C n (Byt ys)) (hm : m ≤ 140737488355328) (hn : n ≤ 140737488355328) (hB : B ≤ w.heap.size) :
    Calls Try.prog 23 #[.slice A m c, .slice C n d] w (NewB 5 w (xorL xs ys)) := by
  have hxl := hx.bytes
  have hyl := hy.bytes
  have Hx := Lib.hid hxl; clear hxl
  have Hy := Lib.hid hyl; clear hyl
  rcases Nat.lt_or_ge n m with h | h
  · have hmin : min (m : Int) (n : Int) = (n : Int) := by omega
    go_enter Try.func23, Try.ntmps23
    go_wp2_with (refine wp_make_bytes rfl _ _ 22 rfl 5 Try.underlying22 Try.info_u8 n rfl rfl (by omega) ?_)
    intro w1 hown hb
    go_wp2
    go_loopw [6, 15] (fun _ i wr => ∃ k : Nat, k ≤ n ∧ i = .int .i64 k ∧
      wr.ownsRow w.heap.size 5 1 (.slice (some ⟨w.heap.size, 0, none⟩) n n) n (Byt ((xorL xs ys).take k ++ List.replicate (n - k) 0)) ∧ Below w.heap.size w wr) (fun _ i _ => n - (intOf i).toNat)
    case atStart => exact ⟨0, Nat.zero_le _, rfl, by simpa using hown, hb⟩
    case round =>
      obtain ⟨k, hk, rfl, hownr, hbr⟩ := hrel
      by_cases hlt : k < n
      · have hkx : k < xs.length := by rw [Hx.out]; omega
        have hky : k < ys.length := by rw [Hy.out]; omega
        have hkm : k < m := by omega
        have hkn : k < n := by omega
        obtain ⟨b, o, rfl, hbB, hc⟩ := (hx.below (hbr.mono hB)).byte hkm hkx
        obtain ⟨b', o', rfl, hbB', hc'⟩ := (hy.below (hbr.mono hB)).byte hkn hky
        obtain ⟨u, hu⟩ := own_any hownr hlt
        have hf := hownr.frozenAt k
        go_wp2
        go_still_tail 12, (by kernel_rfl)
        go_wp2
        go_roundw
        case rel =>
          have h2 := own_put hownr k (bits .xor .u8 (xs[k].toNat : Int) (ys[k].toNat : Int)) (xs[k] ^^^ ys[k]) (xor_u8 _ _)
          rw [fill_set _ _ hlt (by rw [List.length_take, xorL_length, Hx.out, Hy.out]; omega), ← xorL_step hkx hky] at h2
          exact ⟨k + 1, by omega, by go_num, h2, (hbr.setCell (p := ⟨w.heap.size, k, none⟩) (Nat.le_refl _) _).drew⟩
        case measure => simp [intOf]; omega
      · go_wp2
        go_ret
        have hl : (xorL xs ys).length = n := by rw [xorL_length, Hx.out, Hy.out]; omega
        rw [show k = n by omega, Nat.sub_self, List.replicate_zero, List.append_nil, List.take_of_length_le (by omega)] at hownr
        exact ⟨some ⟨w.heap.size, 0, none⟩, n, by rw [hl]; rfl, by rw [hl]; exact hownr, hbr⟩
  · have hmin : min (m : Int) (n : Int) = (m : Int) := by omega
    go_enter Try.func23, Try.ntmps23
    go_wp2_with (refine wp_make_bytes rfl _ _ 22 rfl 5 Try.underlying22 Try.info_u8 m rfl rfl (by omega) ?_)
    intro w1 hown hb
    go_wp2
    go_loopw [6, 15] (fun _ i wr => ∃ k : Nat, k ≤ m ∧ i = .int .i64 k ∧
      wr.ownsRow w.heap.size 5 1 (.slice (some ⟨w.heap.size, 0, none⟩) m m) m (Byt ((xorL xs ys).take k ++ List.replicate (m - k) 0)) ∧ Below w.heap.size w wr) (fun _ i _ => m - (intOf i).toNat)
    case atStart => exact ⟨0, Nat.zero_le _, rfl, by simpa using hown, hb⟩
    case round =>
      obtain ⟨k, hk, rfl, hownr, hbr⟩ := hrel
      by_cases hlt : k < m
      · have hkx : k < xs.length := by rw [Hx.out]; omega
        have hky : k < ys.length := by rw [Hy.out]; omega
        have hkm : k < m := by omega
        have hkn : k < n := by omega
        obtain ⟨b, o, rfl, hbB, hc⟩ := (hx.below (hbr.mono hB)).byte hkm hkx
        obtain ⟨b', o', rfl, hbB', hc'⟩ := (hy.below (hbr.mono hB)).byte hkn hky
        obtain ⟨u, hu⟩ := own_any hownr hlt
        have hf := hownr.frozenAt k
        go_wp2
        go_still_tail 12, (by kernel_rfl)
        go_wp2
        go_roundw
        case rel =>
          have h2 := own_put hownr k (bits .xor .u8 (xs[k].toNat : Int) (ys[k].toNat : Int)) (xs[k] ^^^ ys[k]) (xor_u8 _ _)
          rw [fill_set _ _ hlt (by rw [List.length_take, xorL_length, Hx.out, Hy.out]; omega), ← xorL_step hkx hky] at h2
          exact ⟨k + 1, by omega, by go_num, h2, (hbr.setCell (p := ⟨w.heap.size, k, none⟩) (Nat.le_refl _) _).drew⟩
        case measure => simp [intOf]; omega
      · go_wp2
        go_ret
        have hl : (xorL xs ys).length = m := by rw [xorL_length, Hx.out, Hy.out]; omega
        rw [show k = m by omega, Nat.sub_self, List.replicate_zero, List.append_nil, List.take_of_length_le (by omega)] at hownr
        exact ⟨some ⟨w.heap.size, 0, none⟩, m, by rw [hl]; rfl, by rw [hl]; exact hownr, hbr⟩

end Go.Proofs.Ytfkfkmdnffpcmaa
