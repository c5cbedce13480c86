import Derived.Test.YtodabjfddobkkaaWireNumIn
namespace Go.Proofs.Ytodabjfddobkkaa
open Go.RowKit

/-- What row ends in: the bytes, and what is behind them; or the panic. -/
def RowIn (br : Nat) (most : Int) (s : RS) (w : World) (e : Ending) (w' : World) : Prop :=
  (∃ b r A, rowR most s.left = some (b, r) ∧ e = .returned (.slice A b.length b.length) ∧ Rd w' w'.heap.size A b.length (Byt b) ∧ SlF A b.length b.length ∧ Off (Blk br) A ∧ RdrS w' br ⟨r, s.ok⟩ ∧ Moves (Blk br) w w') ∨
  (rowR most s.left = none ∧ e = .panicked [formP] ∧ (∃ r, RdrS w' br ⟨r, s.ok⟩) ∧ Moves (Blk br) w w')

theorem num2_lt {l r : List UInt8} {v : Nat} (h : numR 2 l = some (v, r)) : v < 65536 := by
  unfold numR at h
  split at h
  · injection h with h
    injection h with h _
    subst h
    have h1 := getL_lt (l.take (2 : Int).toNat)
    have h2 : 256 ^ (l.take (2 : Int).toNat).length ≤ 256 ^ 2 := Nat.pow_le_pow_right (by omega) (Nat.le_trans (List.length_take_le _ _) (by decide))
    omega
  · cases h

set_option maxHeartbeats 800000 in
theorem wrow_inR (br : Nat) (s : RS) (most : Int) (w : World) (h : RdrS w br s) :
    Calls Try.prog 36 #[.pointer (some ⟨br, 0, none⟩), .int .i64 most] w (RowIn br most s w) := by
  have hp := wnum_in br s 2 w h
  go_enter Try.func36, Try.ntmps36
  go_wp2_with fail
  refine hp.mono ?_
  rintro e w1 (⟨v, r, hn, rfl, hlt, hs1, hm1⟩ | ⟨hn, rfl, hs1, hm1⟩)
  · have hv := num2_lt hn
    obtain ⟨z, hz⟩ : ∃ z : Int, z = (v : Int) := ⟨_, rfl⟩
    have hz0 : 0 ≤ z := by omega
    have hz2 : z < 65536 := by omega
    rw [← hz]
    have Hz := Lib.hid hz; clear hlt hv hz
    by_cases hc : most < z
    · have hrow : rowR most s.left = none := by unfold rowR; rw [hn]; simp only; rw [if_pos (by rw [← Hz.out]; exact hc)]
      have Hrow := Lib.hid hrow; clear hrow
      have Hn := Lib.hid hn; clear hn
      go_wp2
      exact ⟨rfl, .inr ⟨Hrow.out, rfl, ⟨_, hs1⟩, hm1⟩⟩
    · by_cases hl : r.length < v
      · have hrow : rowR most s.left = none := by unfold rowR; rw [hn]; simp only; rw [if_neg (by rw [← Hz.out]; exact hc), if_pos hl]
        have Hrow := Lib.hid hrow; clear hrow
        have Hn := Lib.hid hn; clear hn
        have hq := wcut_bad br _ z w1 hs1 (.inr (by show (r.length : Int) < _; have := Hz.out; omega))
        go_wp2_with fail
        refine hq.mono ?_
        rintro e w2 ⟨rfl, rfl⟩
        go_wp2
        exact ⟨rfl, .inr ⟨Hrow.out, rfl, ⟨_, hs1⟩, hm1⟩⟩
      · have hrow : rowR most s.left = some (r.take v, r.drop v) := by unfold rowR; rw [hn]; simp only; rw [if_neg (by rw [← Hz.out]; exact hc), if_neg hl]
        have hbl : (r.take v).length = v := by rw [List.length_take]; omega
        have Hrow := Lib.hid hrow; clear hrow
        have Hn := Lib.hid hn; clear hn
        have hq := wcut_ok br _ v w1 hs1 (by show v ≤ r.length; omega)
        rw [← Hz.out] at hq
        go_wp2_with fail
        refine hq.mono ?_
        rintro e w2 ⟨A', rfl, hr2, hok2, hoff2, hs2, hm2⟩
        have Hr := Lib.hid hr2; clear hr2
        go_wp2
        go_ret
        exact .inl ⟨_, _, A', Hrow.out, by rw [hbl]; rfl, by rw [hbl]; exact Hr.out, by rw [hbl]; exact hok2, hoff2, hs2, hm1.go hm2⟩
  · have hrow : rowR most s.left = none := by unfold rowR; rw [hn]
    have Hrow := Lib.hid hrow; clear hrow hn
    go_wp2
    exact ⟨rfl, .inr ⟨Hrow.out, rfl, hs1, hm1⟩⟩

end Go.Proofs.Ytodabjfddobkkaa
