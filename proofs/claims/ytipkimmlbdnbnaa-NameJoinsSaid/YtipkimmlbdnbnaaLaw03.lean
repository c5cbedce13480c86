import Derived.Test.YtipkimmlbdnbnaaNameBelow
import Derived.Test.YtipkimmlbdnbnaaNameJoin
namespace Go.Proofs.Ytipkimmlbdnbnaa
open Go.RowKit

theorem alive_join : joinU [[97, 98], [51]] = ([97, 98, 46, 51], 0) := by decide +kernel
theorem alive_below : belowU [97, 98, 46, 51] [97, 98] = true := by decide +kernel
theorem alive_right : decide (0 < (splitU [65, 98]).length) = false := by decide +kernel

set_option maxHeartbeats 1600000 in
theorem alive_any (w : World) : Calls Try.prog 5 #[] w (Ans w (.bool true)) := by
  have hj := fun (w : World) (e : TypeId) => njoin_any 2 2 (some ⟨w.heap.size, 0, none⟩) [[97, 98], [51]] (w.alloc (.cells #[.string ⟨#[97, 98]⟩, .string ⟨#[51]⟩] e)) ((Rd.new w e #[.string ⟨#[97, 98]⟩, .string ⟨#[51]⟩] rfl).wider (by simp)) (by decide) (by decide)
  rw [alive_join, show tx ([97, 98, 46, 51], (0 : Int)).1 = (⟨#[97, 98, 46, 51]⟩ : ByteArray) from rfl] at hj
  have hb : ∀ w, Calls Try.prog 13 #[.string ⟨#[97, 98, 46, 51]⟩, .string ⟨#[97, 98]⟩] w (Ans w (.bool true)) := fun w => by
    have := below_any ⟨#[97, 98, 46, 51]⟩ ⟨#[97, 98]⟩ w (by decide) (by decide)
    rwa [show (⟨#[97, 98, 46, 51]⟩ : ByteArray).data.toList = [97, 98, 46, 51] from rfl, show (⟨#[97, 98]⟩ : ByteArray).data.toList = [97, 98] from rfl, alive_below] at this
  have hr : ∀ w, Calls Try.prog 12 #[.string ⟨#[65, 98]⟩] w (Ans w (.bool false)) := fun w => by
    have := nright_any ⟨#[65, 98]⟩ w (by decide)
    rwa [show (⟨#[65, 98]⟩ : ByteArray).data.toList = [65, 98] from rfl, alive_right] at this
  go_enter Try.func5, Try.ntmps5
  go_wp2_with fail
  refine (hj _ _).mono ?_
  rintro e w1 ⟨rfl, hb1⟩
  go_wp2_with fail
  refine (hb _).mono ?_
  rintro e w2 ⟨rfl, hb2⟩
  go_wp2_with fail
  refine (hr _).mono ?_
  rintro e w3 ⟨rfl, hb3⟩
  go_wp2
  go_ret
  exact ⟨rfl, (((Below.refl w.heap.size w).alloc (Nat.le_refl _) _).trans (hb1.mono (by simp))).trans ((bon hb2 hb3).mono (by have := hb1.size; simp at this; omega))⟩

end Go.Proofs.Ytipkimmlbdnbnaa
