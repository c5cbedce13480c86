import Derived.Test.YtodabjfddobkkaaWireCut
import Derived.Test.YtodabjfddobkkaaNumGet
namespace Go.Proofs.Ytodabjfddobkkaa
open Go.RowKit

theorem numR_len {size : Int} {l : List UInt8} : numR size l = none ↔ ¬ (1 ≤ size ∧ size ≤ 8 ∧ size ≤ (l.length : Int)) := by
  unfold numR; split <;> simp_all

/-- What number ends in: the number, and what is behind it; or the panic. -/
def NumIn (br : Nat) (size : Int) (s : RS) (w : World) (e : Ending) (w' : World) : Prop :=
  (∃ v r, numR size s.left = some (v, r) ∧ e = .returned (.int .u64 (v : Int)) ∧ v < 18446744073709551616 ∧ RdrS w' br ⟨r, s.ok⟩ ∧ Moves (Blk br) w w') ∨
  (numR size s.left = none ∧ e = .panicked [formP] ∧ (∃ r, RdrS w' br ⟨r, s.ok⟩) ∧ Moves (Blk br) w w')

set_option maxHeartbeats 800000 in
theorem wnum_in (br : Nat) (s : RS) (size : Int) (w : World) (h : RdrS w br s) :
    Calls Try.prog 33 #[.pointer (some ⟨br, 0, none⟩), .int .i64 size] w (NumIn br size s w) := by
  by_cases hc : size < 0 ∨ (s.left.length : Int) < size
  · have hn : numR size s.left = none := numR_len.2 (by omega)
    have Hn := Lib.hid hn; clear hn
    have hp := wcut_bad br s size w h hc
    clear hc
    go_enter Try.func33, Try.ntmps33
    go_wp2_with fail
    refine hp.mono ?_
    rintro e w1 ⟨rfl, rfl⟩
    go_wp2
    exact ⟨rfl, .inr ⟨Hn.out, rfl, ⟨_, h⟩, .refl _ _⟩⟩
  · obtain ⟨k, rfl⟩ := Int.eq_ofNat_of_zero_le (show 0 ≤ size by omega)
    have hk : k ≤ s.left.length := by omega
    have hp := wcut_ok br s k w h hk
    by_cases h8 : 1 ≤ k ∧ k ≤ 8
    · have hn : numR (k : Int) s.left = some (getL (s.left.take k), s.left.drop k) := by unfold numR; rw [if_pos (by omega), Int.toNat_natCast]
      have hlt : getL (s.left.take k) < 18446744073709551616 := by
        have h1 := getL_lt (s.left.take k)
        have h2 : 256 ^ (s.left.take k).length ≤ 256 ^ 8 := Nat.pow_le_pow_right (by omega) (by rw [List.length_take]; omega)
        omega
      have hg : getV (s.left.take k) = .tuple #[.int .u64 (getL (s.left.take k)), .int .i64 0] := by unfold getV; rw [if_pos (by rw [List.length_take]; omega)]
      have Hn := Lib.hid hn; clear hn
      have Hg := Lib.hid hg; clear hg
      go_enter Try.func33, Try.ntmps33
      go_wp2_with fail
      refine hp.mono ?_
      rintro e w1 ⟨A', rfl, hr1, hok1, hoff1, hs1, hm1⟩
      go_wp2_with fail
      refine (get_any w1.heap.size k k A' (s.left.take k) w1 hr1 (by unfold maxLen; omega)).mono ?_
      rintro e w2 ⟨rfl, hb2⟩
      rw [Hg.out]
      have hs2 := hs1.below hb2
      have hm2 := hm1.then hb2
      clear hr1
      go_wp2
      go_ret
      exact .inl ⟨_, _, Hn.out, rfl, hlt, hs2, hm2⟩
    · have hn : numR (k : Int) s.left = none := numR_len.2 (by omega)
      have hg : getV (s.left.take k) = .tuple #[.int .u64 0, .int .i64 4] := by unfold getV; rw [if_neg (by rw [List.length_take]; omega)]
      have Hn := Lib.hid hn; clear hn
      have Hg := Lib.hid hg; clear hg
      have hkm : k ≤ maxLen := by
        obtain ⟨A, n, c, _, _, _, _, hok, _, hr⟩ := h
        have := hok.le
        have := hr.bytes
        omega
      go_enter Try.func33, Try.ntmps33
      go_wp2_with fail
      refine hp.mono ?_
      rintro e w1 ⟨A', rfl, hr1, hok1, hoff1, hs1, hm1⟩
      go_wp2_with fail
      refine (get_any w1.heap.size k k A' (s.left.take k) w1 hr1 hkm).mono ?_
      rintro e w2 ⟨rfl, hb2⟩
      rw [Hg.out]
      have hs2 := hs1.below hb2
      have hm2 := hm1.then hb2
      clear hr1
      go_wp2
      exact ⟨rfl, .inr ⟨Hn.out, rfl, ⟨_, hs2⟩, hm2⟩⟩

end Go.Proofs.Ytodabjfddobkkaa
