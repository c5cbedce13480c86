import Derived.Test.YtfkfkmdnffpcmaaNumS
import Derived.Test.YtfkfkmdnffpcmaaFacts
namespace Go.Proofs.Ytfkfkmdnffpcmaa
open Go.RowKit

set_option maxHeartbeats 400000 in
theorem rsame_any (B n m c d : Nat) (A C : Option Addr) (xs ys : List UInt8) (w : World) (hx : Rd w B A n (Byt xs)) (hy : Rd w B C m (Byt ys)) (hn : n ≤ maxLen) (hm : m ≤ maxLen) :
    Calls Try.prog 13 #[.slice A n c, .slice C m d] w (Ans w (.bool (sameL xs ys))) := by
  unfold maxLen at hn hm
  have hxl := hx.bytes
  have hyl := hy.bytes
  have Hx := Lib.hid hxl; clear hxl
  have Hy := Lib.hid hyl; clear hyl
  by_cases hnm : n = m
  · subst hnm
    go_enter Try.func13, Try.ntmps13
    go_wp2
    go_loopw [5] (fun i wr => ∃ k j : Nat, k ≤ n ∧ i = .int .i64 k ∧ xs.take k = ys.take k ∧ wr = w.drewN j) (fun i _ => n - (intOf i).toNat)
    case atStart => exact ⟨0, 0, Nat.zero_le _, rfl, rfl, rfl⟩
    case round =>
      obtain ⟨k, j, hk, rfl, ht, rfl⟩ := hrel
      have Ht := Lib.hid ht; clear ht
      by_cases hlt : k < n
      · have hkx : k < xs.length := by rw [Hx.out]; exact hlt
        have hky : k < ys.length := by rw [Hy.out]; exact hlt
        obtain ⟨b, o, rfl, hb, hc⟩ := hx.byte hlt hkx
        obtain ⟨b', o', rfl, hb', hc'⟩ := hy.byte hlt hky
        go_wp2
        go_quiet (fail)
        go_wp2
        · have h := same_not hkx hky (by assumption)
          go_ret
          exact ⟨by rw [h]; rfl, by first | exact bdrewN (Below.refl _ _) _ | exact bdrewN (bdrewN (Below.refl _ _) _) _⟩
        · have h := same_step hkx hky Ht.out (by assumption)
          go_roundw
          case rel => exact ⟨k + 1, _, by omega, by go_num, h, rfl⟩
          case measure => simp [intOf]; omega
      · have h := same_all (by rw [Hx.out]; omega) (by rw [Hy.out]; omega) Ht.out
        go_wp2
        go_ret
        exact ⟨by rw [h]; rfl, by first | exact bdrewN (Below.refl _ _) _ | exact bdrewN (bdrewN (Below.refl _ _) _) _⟩
  · have hne : (((n : Nat) : Int) != (m : Int)) = true := by simp; omega
    have h : sameL xs ys = false := decide_eq_false (fun e => hnm (by rw [← Hx.out, ← Hy.out, e]))
    have H := Lib.hid h; clear h
    go_enter Try.func13, Try.ntmps13
    go_wp2
    go_ret
    exact ⟨by rw [H.out]; rfl, Below.refl _ _⟩


end Go.Proofs.Ytfkfkmdnffpcmaa
