import Derived.Test.YtodabjfddobkkaaWireMem
import Derived.Test.YtodabjfddobkkaaFacts
namespace Go.Proofs.Ytodabjfddobkkaa
open Go.RowKit

/-- The panic of a reader that has too few bytes. -/
def formP : PanicEntry := { v := .iface 44 (.int .i64 4), recovered := false }

set_option maxHeartbeats 800000 in
theorem wcut_bad (br : Nat) (s : RS) (z : Int) (w : World) (h : RdrS w br s) (hz : z < 0 ∨ (s.left.length : Int) < z) :
    Calls Try.prog 40 #[.pointer (some ⟨br, 0, none⟩), .int .i64 z] w fun e w' => e = .panicked [formP] ∧ w' = w := by
  obtain ⟨A, n, c, h0, h1, f0, f1, hok, hoff, hr⟩ := h
  have hl := hr.bytes
  rw [hl] at hz
  clear hl hr hok hoff
  rcases hz with hz | hz
  · go_enter Try.func40, Try.ntmps40
    go_wp2
    exact ⟨rfl, rfl, rfl⟩
  · by_cases h2 : z < 0
    · omega
    · go_enter Try.func40, Try.ntmps40
      go_wp2
      exact ⟨rfl, rfl, rfl⟩

/-- What cut ends in, where there are k bytes. -/
def CutOK (br : Nat) (s : RS) (k : Nat) (w : World) (e : Ending) (w' : World) : Prop :=
  ∃ A', e = .returned (.slice A' k k) ∧ Rd w' w'.heap.size A' k (Byt (s.left.take k)) ∧ SlF A' k k ∧ Off (Blk br) A' ∧ RdrS w' br ⟨s.left.drop k, s.ok⟩ ∧ Moves (Blk br) w w'

theorem cutOK_of {br : Nat} {s : RS} {w : World} {A A' : Option Addr} {n c k : Nat} (h0 : w.cell? ⟨br, 0, none⟩ = some (.slice A n c)) (h1 : w.cell? ⟨br, 1, none⟩ = some (.int .i64 (faultOf s))) (f0 : w.frozen? ⟨br, 0, none⟩ = false) (f1 : w.frozen? ⟨br, 1, none⟩ = false)
    (hok1 : SlF A k k) (hok2 : SlF A' (n - k) (c - k)) (hoff : Off (Blk br) A) (hoff2 : Off (Blk br) A') (hr1 : Rd w w.heap.size A k (Byt (s.left.take k))) (hr2 : Rd w w.heap.size A' (n - k) (Byt (s.left.drop k))) :
    CutOK br s k w (.returned (.slice A k k)) (w.setCell ⟨br, 0, none⟩ (.slice A' (n - k) (c - k))) := by
  have hm : Moves (Blk br) w (w.setCell ⟨br, 0, none⟩ (.slice A' (n - k) (c - k))) := (Moves.refl (Blk br) w).setCell (p := ⟨br, 0, none⟩) (.inl (show Blk br br from rfl)) _
  have hsz : (w.setCell ⟨br, 0, none⟩ (.slice A' (n - k) (c - k))).heap.size = w.heap.size := by simp [World.setCell]
  refine ⟨A, rfl, ?_, hok1, hoff, ⟨A', n - k, c - k, World.cell?_setCell_same _ _ _ h0, ?_, ?_, ?_, hok2, hoff2, ?_⟩, hm⟩
  · rw [hsz]; exact hr1.moves hm (Nat.le_refl _) fun _ => hoff
  · rw [World.cell?_setCell_other _ _ _ _ (by simp)]; exact h1
  · rw [World.frozen?_setCell]; exact f0
  · rw [World.frozen?_setCell]; exact f1
  · rw [hsz]; exact hr2.moves hm (Nat.le_refl _) fun _ => hoff2

set_option maxHeartbeats 1600000 in
theorem wcut_ok (br : Nat) (s : RS) (k : Nat) (w : World) (h : RdrS w br s) (hk : k ≤ s.left.length) :
    Calls Try.prog 40 #[.pointer (some ⟨br, 0, none⟩), .int .i64 k] w (CutOK br s k w) := by
  obtain ⟨A, n, c, h0, h1, f0, f1, hok, hoff, hr⟩ := h
  have hl := hr.bytes
  rw [hl] at hk
  have hr1 : Rd w w.heap.size A k (Byt (s.left.take k)) := by rw [Byt_take]; exact hr.head hk
  rcases hok with ⟨rfl, rfl, rfl⟩ | ⟨b, o, rfl, hnc, hcm⟩
  · obtain rfl : k = 0 := by omega
    have fin := cutOK_of (k := 0) (A' := none) h0 h1 f0 f1 .nil .nil hoff hoff hr1 (by rw [List.drop_zero]; exact hr)
    have Fin := Lib.hid fin
    clear fin hr1 hr hl hoff
    go_enter Try.func40, Try.ntmps40
    go_wp2
    go_ret
    exact Fin.out
  · unfold maxLen at hcm
    have hi1 : ¬ ((n : Int) < (k : Int)) := by omega
    have hi2 : (k : Int) ≤ (n : Int) := by omega
    have hi3 : (k : Int) ≤ (c : Int) := by omega
    have hkc : k ≤ c := by omega
    have hok1 : SlF (some ⟨b, o, none⟩) k k := .inr ⟨b, o, rfl, Nat.le_refl _, by unfold maxLen; omega⟩
    by_cases hck : c = k
    · subst hck
      obtain rfl : n = c := by omega
      have hdr : s.left.drop n = [] := List.drop_eq_nil_of_le (by omega)
      have fin := cutOK_of (k := n) (A' := some ⟨b, o, none⟩) h0 h1 f0 f1 hok1 (.inr ⟨b, o, rfl, by omega, by unfold maxLen; omega⟩) hoff hoff hr1 (by rw [Nat.sub_self, hdr]; exact ⟨rfl, fun h => by omega⟩)
      simp only [Nat.sub_self] at fin
      have Fin := Lib.hid fin
      clear fin hr1 hr hl hoff hdr hok1
      go_enter Try.func40, Try.ntmps40
      go_wp2
      go_ret
      exact Fin.out
    · have hoff2 : Off (Blk br) (some ⟨b, o + k, none⟩) := fun a ha hf => by
        injection ha with ha
        subst ha
        exact hoff ⟨b, o, none⟩ rfl hf
      have fin := cutOK_of (k := k) (A' := some ⟨b, o + k, none⟩) h0 h1 f0 f1 hok1 (.inr ⟨b, o + k, rfl, by omega, by unfold maxLen; omega⟩) hoff hoff2 hr1 (by rw [Byt_drop]; exact hr.tail hk)
      have Fin := Lib.hid fin
      clear fin hr1 hr hl hoff hok1 hoff2
      go_enter Try.func40, Try.ntmps40
      go_wp2
      go_ret
      exact Fin.out

end Go.Proofs.Ytodabjfddobkkaa
