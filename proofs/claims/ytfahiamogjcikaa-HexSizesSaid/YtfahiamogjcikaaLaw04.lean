import Derived.Test.YtfahiamogjcikaaHexParse
import Derived.Test.YtfahiamogjcikaaRefHexParse
import Derived.Test.YtfahiamogjcikaaHexShort
import Derived.Test.YtfahiamogjcikaaRefHexShort
import Derived.Test.YtfahiamogjcikaaHexRowsAny
import Derived.Test.YtfahiamogjcikaaRefHexRows
import Derived.Test.YtfahiamogjcikaaRefWords
import Derived.Test.YtfahiamogjcikaaRefSame
namespace Go.Proofs.Ytfahiamogjcikaa
open Go.RowKit

theorem few_of {w : World} {base : Nat} {e : TypeId} {A : Option Addr} {n c : Nat} {xs : List Value} (h : w.ownsRow base e 1 (.slice A n c) n xs) : n ≤ maxLen := by
  obtain ⟨_, _, e, h1, h2⟩ := own_form h
  injection e with _ _ e
  omega

set_option maxHeartbeats 800000 in
theorem alive4_any (w : World) : Calls Try.prog 6 #[] w (Ans w (.bool true)) := by
  have hr : Rd (w.alloc (.cells #[.int .u8 0, .int .u8 255] 5)) (w.heap.size + 1) (some ⟨w.heap.size, 0, none⟩) 2 (Byt [0, 255]) := Rd.new w 5 #[.int .u8 0, .int .u8 255] rfl
  have hp := hprint_any _ 2 2 _ _ _ hr (by simp) (by decide)
  rw [show tx (hexU [0, 255]) = (⟨#[48, 48, 102, 102]⟩ : ByteArray) by decide] at hp
  go_enter Try.func6, Try.ntmps6
  go_wp2_with fail
  refine hp.mono ?_
  rintro e w1 ⟨rfl, hb1⟩
  go_wp2
  go_ret
  exact ⟨rfl, ((Below.refl w.heap.size w).alloc (Nat.le_refl _) _).trans (hb1.mono (by simp))⟩

end Go.Proofs.Ytfahiamogjcikaa
