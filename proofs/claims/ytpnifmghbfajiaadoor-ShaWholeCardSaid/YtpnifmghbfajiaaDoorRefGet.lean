import Derived.Test.YtpnifmghbfajiaaDoorNumS
import Derived.Test.YtpnifmghbfajiaaDoorFacts
namespace Go.Proofs.YtpnifmghbfajiaaDoor
open Go.RowKit

set_option maxHeartbeats 800000 in
theorem rget_any (B n c : Nat) (A : Option Addr) (xs : List UInt8) (w : World) (hx : Rd w B A n (Byt xs)) (hn : n ≤ maxLen) :
    Calls Tryd.prog 31 #[.slice A n c] w (Ans w (getV xs)) := by
  unfold maxLen at hn
  have hxl := hx.bytes
  by_cases h : 1 ≤ n ∧ n ≤ 8
  · have hv : getV xs = .tuple #[.int .u64 (getL xs), .int .i64 0] := by rw [getV, if_pos (by omega)]
    rw [hv]
    obtain ⟨h1, h8⟩ := h
    have Hx := Lib.hid hxl; clear hxl hv
    go_enter Tryd.func31, Tryd.ntmps31
    go_wp2
    go_loop [4, 5] (fun v i => ∃ k : Nat, k ≤ n ∧ i = .int .i64 k ∧ v = .int .u64 (getL (xs.take k))) (fun _ i => n - (intOf i).toNat)
    case atStart => exact ⟨0, Nat.zero_le _, rfl, rfl⟩
    case round =>
      obtain ⟨k, hk, rfl, rfl⟩ := hrel
      by_cases hlt : k < n
      · have hkx : k < xs.length := by rw [Hx.out]; exact hlt
        obtain ⟨b, o, rfl, hb, hc⟩ := hx.byte hlt hkx
        have hs : getL (xs.take (k + 1)) = getL (xs.take k) * 256 + xs[k].toNat := by rw [take_succ_get _ _ hkx, getL_snoc]
        have Hs := Lib.hid hs; clear hs
        have hbd := getL_take_lt (l := xs) (k := k) (by omega)
        have hby := xs[k].toNat_lt
        go_wp2
        go_round
        case rel => exact ⟨k + 1, by omega, by go_num, by rw [Hs.out]; go_num⟩
        case measure => simp [intOf]; omega
      · go_wp2
        go_ret2
        exact ⟨by rw [show xs.take k = xs from List.take_of_length_le (by rw [Hx.out]; omega)]; rfl, Below.refl _ _⟩
  · have hv : getV xs = .tuple #[.int .u64 0, .int .i64 4] := by rw [getV, if_neg (by omega)]
    rw [hv]
    rcases (show n < 1 ∨ 8 < n by omega) with h' | h'
    all_goals
      clear hxl hv
      go_enter Tryd.func31, Tryd.ntmps31
      go_wp2
      go_ret2
      exact ⟨rfl, Below.refl _ _⟩


end Go.Proofs.YtpnifmghbfajiaaDoor
