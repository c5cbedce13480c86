import Derived.Test.YtipkimmlbdnbnaaUtfU
import Derived.Test.YtipkimmlbdnbnaaRow
namespace Go.Proofs.Ytipkimmlbdnbnaa
open Go.RowKit

/-- A new block of bytes, written at once. -/
theorem own_built {w : World} {e : TypeId} {cs : Array Value} (l : List UInt8) (hc : cs.toList = Byt l) (hl : l.length ≤ maxLen) :
    (w.alloc (.cells cs e)).ownsRow w.heap.size e 1 (.slice (some ⟨w.heap.size, 0, none⟩) l.length l.length) l.length (Byt l) := by
  have hs : cs.size = l.length := by rw [← Array.length_toList, hc, Byt_length]
  refine ⟨by rw [Byt_length]; omega, .inr ⟨w.heap.size, l.length, cs, rfl, Nat.le_refl _, heap_alloc_new w _, Nat.le_refl _, hl, by omega, ?_⟩⟩
  rw [hc, List.take_of_length_le (by rw [Byt_length]; omega)]
theorem new_rune {w w' : World} {e : TypeId} (r : Int) {n : Nat} (hn : n = (Lib.encodeRuneZ r).length) (cs : Array Value) (hw : w' = w.alloc (.cells cs e)) (hc : cs.toList = Lib.runeCells r) :
    NewB e w (Lib.encodeRune r) (.returned (.slice (some ⟨w.heap.size, 0, none⟩) n n)) w' := by
  have hl : (Lib.encodeRune r).length = (Lib.encodeRuneZ r).length := by simp [Lib.encodeRune]
  have h4 := (enc_pos r).2
  rw [← hl] at hn
  subst hn hw
  exact ⟨_, _, rfl, own_built _ (hc.trans (Lib.byteCells_encodeRune r).symm) (by unfold maxLen; omega), (Below.refl _ _).alloc (Nat.le_refl _) _⟩

set_option maxHeartbeats 1600000 in
theorem rbytes_one (r : Int) (w : World) (h0 : 0 ≤ r) (h1 : r ≤ 127) : Calls Try.prog 50 #[.int .i32 r] w (NewB 5 w (Lib.encodeRune r)) := by
  have hz : Lib.encodeRuneZ r = _ := Lib.encodeRuneZ_one h0 h1
  have Hz := Lib.hid hz; clear hz
  go_enter Try.func50, Try.ntmps50
  go_wp2
  go_ret
  exact new_rune r (by rw [Hz.out]; rfl) _ rfl (by rw [Lib.runeCells, Hz.out]; rfl)

set_option maxHeartbeats 1600000 in
theorem rbytes_two (r : Int) (w : World) (h0 : 128 ≤ r) (h1 : r ≤ 2047) : Calls Try.prog 50 #[.int .i32 r] w (NewB 5 w (Lib.encodeRune r)) := by
  have hz : Lib.encodeRuneZ r = _ := Lib.encodeRuneZ_two h0 h1
  have Hz := Lib.hid hz; clear hz
  go_enter Try.func50, Try.ntmps50
  go_wp2
  go_ret
  exact new_rune r (by rw [Hz.out]; rfl) _ rfl (by rw [Lib.runeCells, Hz.out]; rfl)

set_option maxHeartbeats 1600000 in
theorem rbytes_three (r : Int) (w : World) (h0 : 2048 ≤ r) (h1 : r ≤ 65535) (h2 : (2048 ≤ r ∧ r < 55296) ∨ (57343 < r ∧ r ≤ 65535)) : Calls Try.prog 50 #[.int .i32 r] w (NewB 5 w (Lib.encodeRune r)) := by
  have hz : Lib.encodeRuneZ r = _ := Lib.encodeRuneZ_three h2
  have Hz := Lib.hid hz; clear hz
  clear h2
  go_enter Try.func50, Try.ntmps50
  go_wp2
  go_ret
  exact new_rune r (by rw [Hz.out]; rfl) _ rfl (by rw [Lib.runeCells, Hz.out]; rfl)

set_option maxHeartbeats 1600000 in
theorem rbytes_four (r : Int) (w : World) (h0 : 65536 ≤ r) (h1 : r ≤ 1114111) : Calls Try.prog 50 #[.int .i32 r] w (NewB 5 w (Lib.encodeRune r)) := by
  have hz : Lib.encodeRuneZ r = _ := Lib.encodeRuneZ_four h0 h1
  have Hz := Lib.hid hz; clear hz
  go_enter Try.func50, Try.ntmps50
  go_wp2
  go_ret
  exact new_rune r (by rw [Hz.out]; rfl) _ rfl (by rw [Lib.runeCells, Hz.out]; rfl)

theorem rbytes_any (r : Int) (w : World) (hv : validU r = true) : Calls Try.prog 50 #[.int .i32 r] w (NewB 5 w (Lib.encodeRune r)) := by
  simp only [validU, Lib.validRune, decide_eq_true_eq] at hv
  by_cases h : r ≤ 127
  · exact rbytes_one r w (by omega) h
  · by_cases h2 : r ≤ 2047
    · exact rbytes_two r w (by omega) h2
    · by_cases h3 : r ≤ 65535
      · exact rbytes_three r w (by omega) h3 (by omega)
      · exact rbytes_four r w (by omega) (by omega)

end Go.Proofs.Ytipkimmlbdnbnaa
