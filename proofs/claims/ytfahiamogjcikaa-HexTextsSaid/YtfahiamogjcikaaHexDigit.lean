import Derived.Test.YtfahiamogjcikaaHexS
import Derived.Test.YtfahiamogjcikaaFacts
import Derived.Test.YtfahiamogjcikaaRow
namespace Go.Proofs.Ytfahiamogjcikaa
open Go.RowKit

theorem val_lo {c : UInt8} (h1 : 48 ≤ c.toNat) (h2 : c.toNat ≤ 57) : okU c = true ∧ (vU c : Int) = (c.toNat : Int) - 48 := by
  have e : valU c = some (c.toNat - 48) := if_pos ⟨h1, h2⟩
  unfold okU vU
  rw [e]
  exact ⟨rfl, by simp; omega⟩
theorem val_hi {c : UInt8} (h1 : 97 ≤ c.toNat) (h2 : c.toNat ≤ 102) : okU c = true ∧ (vU c : Int) = (c.toNat : Int) - 97 + 10 := by
  have e : valU c = some (c.toNat - 87) := by unfold valU; rw [if_neg (by omega), if_pos ⟨h1, h2⟩]
  unfold okU vU
  rw [e]
  exact ⟨rfl, by simp; omega⟩
theorem val_no {c : UInt8} (h1 : ¬ (48 ≤ c.toNat ∧ c.toNat ≤ 57)) (h2 : ¬ (97 ≤ c.toNat ∧ c.toNat ≤ 102)) : okU c = false ∧ (vU c : Int) = 0 := by
  have e : valU c = none := by unfold valU; rw [if_neg h1, if_neg h2]
  unfold okU vU
  rw [e]
  exact ⟨rfl, rfl⟩

set_option maxHeartbeats 1600000 in
theorem hpdigit_any (b : Nat) (s : ByteArray) (k : Nat) (hk : k < s.size) (w : World) (hc : w.cell? ⟨b, 0, none⟩ = some (.string s)) :
    Calls Try.prog 17 #[.int .i64 (k : Int), .pointer (some ⟨b, 0, none⟩)] w fun e w' => e = .returned (.tuple #[.int .u8 (vU s[k] : Int), .bool (okU s[k])]) ∧ w' = w := by
  obtain ⟨m, hm⟩ : ∃ m : Nat, s[k].toNat = m := ⟨_, rfl⟩
  have hm256 : m < 256 := by have := s[k].toNat_lt; omega
  have hsp : (m < 48) ∨ (48 ≤ m ∧ m ≤ 57) ∨ (57 < m ∧ m < 97) ∨ (97 ≤ m ∧ m ≤ 102) ∨ 102 < m := by omega
  have hmi : (s[k].toNat : Int) = (m : Int) := by rw [hm]
  rcases hsp with h | ⟨h, h'⟩ | ⟨h, h'⟩ | ⟨h, h'⟩ | h
  · obtain ⟨e1, e2⟩ := val_no (c := s[k]) (by omega) (by omega)
    rw [e1, e2]
    have hi : ¬ (48 ≤ (m : Int)) := by omega
    have hj : ¬ (97 ≤ (m : Int)) := by omega
    clear e1 e2 hm h
    go_enter Try.func17, Try.ntmps17
    go_wp2
    go_ret2
    exact ⟨rfl, rfl⟩
  · obtain ⟨e1, e2⟩ := val_lo (c := s[k]) (by omega) (by omega)
    rw [e1, e2, hm]
    have hi : (48 ≤ (m : Int)) := by omega
    have hj : (m : Int) ≤ 57 := by omega
    clear e1 e2 hm h h'
    go_enter Try.func17, Try.ntmps17
    go_wp2
    go_ret2
    exact ⟨rfl, rfl⟩
  · obtain ⟨e1, e2⟩ := val_no (c := s[k]) (by omega) (by omega)
    rw [e1, e2]
    have hi : (48 ≤ (m : Int)) := by omega
    have hj : ¬ ((m : Int) ≤ 57) := by omega
    have hk : ¬ (97 ≤ (m : Int)) := by omega
    clear e1 e2 hm h h'
    go_enter Try.func17, Try.ntmps17
    go_wp2
    go_ret2
    exact ⟨rfl, rfl⟩
  · obtain ⟨e1, e2⟩ := val_hi (c := s[k]) (by omega) (by omega)
    rw [e1, e2, hm]
    have hi : (48 ≤ (m : Int)) := by omega
    have hj : ¬ ((m : Int) ≤ 57) := by omega
    have hk : (97 ≤ (m : Int)) := by omega
    have hl : ((m : Int) ≤ 102) := by omega
    clear e1 e2 hm h h'
    go_enter Try.func17, Try.ntmps17
    go_wp2
    go_ret2
    exact ⟨rfl, rfl⟩
  · obtain ⟨e1, e2⟩ := val_no (c := s[k]) (by omega) (by omega)
    rw [e1, e2]
    have hi : (48 ≤ (m : Int)) := by omega
    have hj : ¬ ((m : Int) ≤ 57) := by omega
    have hk : (97 ≤ (m : Int)) := by omega
    have hl : ¬ ((m : Int) ≤ 102) := by omega
    clear e1 e2 hm h
    go_enter Try.func17, Try.ntmps17
    go_wp2
    go_ret2
    exact ⟨rfl, rfl⟩

end Go.Proofs.Ytfahiamogjcikaa
