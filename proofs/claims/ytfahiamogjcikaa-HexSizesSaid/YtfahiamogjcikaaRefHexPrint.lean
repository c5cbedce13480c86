import Derived.Test.YtfahiamogjcikaaHexS
import Derived.Test.YtfahiamogjcikaaRow
import Derived.Laws.Concat
namespace Go.Proofs.Ytfahiamogjcikaa
open Go.RowKit

/-- All digits, as the answer lists them. -/
def sixteen : ByteArray := ⟨#[48, 49, 50, 51, 52, 53, 54, 55, 56, 57, 97, 98, 99, 100, 101, 102]⟩
theorem sixteen_cut : ∀ n : Fin 16, sixteen.extract n.val (n.val + 1) = tx [dig n.val] := by decide

set_option maxHeartbeats 3200000 in
theorem rhprint_any (B n c : Nat) (A : Option Addr) (xs : List UInt8) (w : World) (hx : Rd w B A n (Byt xs)) (hn : n ≤ 1099511627776) :
    Calls Try.prog 10 #[.slice A n c] w (Ans w (.string (tx (hexU xs)))) := by
  have hxl := hx.bytes
  have Hx := Lib.hid hxl; clear hxl
  go_enter Try.func10, Try.ntmps10
  go_wp2
  go_loopw [3, 4] (fun v i wr => ∃ k j : Nat, k ≤ n ∧ i = .int .i64 k ∧ v = .string (tx (hexU (xs.take k))) ∧ wr = w.drewN j) (fun _ i _ => n - (intOf i).toNat)
  case atStart => exact ⟨0, 0, Nat.zero_le _, rfl, rfl, rfl⟩
  case round =>
    obtain ⟨k, j, hk, rfl, rfl, rfl⟩ := hrel
    by_cases hlt : k < n
    · have hkx : k < xs.length := by rw [Hx.out]; exact hlt
      obtain ⟨b, o, rfl, hb, hc⟩ := hx.byte hlt hkx
      have htk := hexU_take hkx
      obtain ⟨m, hm⟩ : ∃ m : Nat, xs[k].toNat = m := ⟨_, rfl⟩
      have hm256 : m < 256 := by have := xs[k].toNat_lt; omega
      rw [hm] at hc htk
      have hlen : (tx (hexU (xs.take k))).size ≤ 2 * n := by rw [tx_size, hexU_length, List.length_take]; omega
      obtain ⟨T, hT⟩ : ∃ T, tx (hexU (xs.take k)) = T := ⟨_, rfl⟩
      have hT2 : tx (hexU (xs.take (k + 1))) = T ++ tx [dig (m / 16)] ++ tx [dig (m % 16)] := by
        rw [htk, ← hT, app_tx, app_tx]
        rfl
      have HT2 := Lib.hid hT2; clear hT2
      rw [hT] at hlen ⊢
      clear htk hT
      have s1 : sixteen.extract (m / 16) (m / 16 + 1) = tx [dig (m / 16)] := sixteen_cut ⟨m / 16, by omega⟩
      have s2 : sixteen.extract (m % 16) (m % 16 + 1) = tx [dig (m % 16)] := sixteen_cut ⟨m % 16, by omega⟩
      have hdq : ((m : Int) / 16).toNat = m / 16 := by omega
      have hdq1 : ((m : Int) / 16 + 1).toNat = m / 16 + 1 := by omega
      have hdr : ((m : Int) % 16).toNat = m % 16 := by omega
      have hdr1 : ((m : Int) % 16 + 1).toNat = m % 16 + 1 := by omega
      have q0 : (0 : Int) ≤ (m : Int) / 16 := by omega
      have q1 : (m : Int) / 16 < 16 := by omega
      have q2 : (m : Int) / 16 + 1 ≤ 16 := by omega
      have r0 : (0 : Int) ≤ (m : Int) % 16 := by omega
      have r1 : (m : Int) % 16 < 16 := by omega
      have r2 : (m : Int) % 16 + 1 ≤ 16 := by omega
      have Hm := Lib.hid hm; clear hm
      go_wp2
      go_quiet (fail)
      go_wp2
      go_roundw
      case rel => exact ⟨k + 1, _, by omega, by go_num, by rw [HT2.out, ← s1, ← s2]; rfl, rfl⟩
      case measure => simp [intOf]; omega
    · obtain rfl : k = n := by omega
      have hall : xs.take k = xs := List.take_of_length_le (by rw [Hx.out]; omega)
      rw [hall]
      clear hall
      go_wp2
      go_ret
      exact ⟨rfl, bdrewN (Below.refl _ _) _⟩

end Go.Proofs.Ytfahiamogjcikaa
