import Derived.Test.YtjgnhcdghkmphaaUtfBroken
import Derived.Test.YtjgnhcdghkmphaaRow
namespace Go.Proofs.Ytjgnhcdghkmphaa
open Go.RowKit

theorem runes_conv (s : ByteArray) : Conv.runesFrom s s.size 0 #[] = (Ris .i32 (runesU s.data.toList)).toArray := by
  rw [convRunes s s.size 0 #[] (by omega), List.drop_zero]
  simp [Ris]
theorem runes_few (s : ByteArray) : (runesU s.data.toList).length ≤ s.size := by
  have := runesU_length s.data.toList.length s.data.toList (Nat.le_refl _)
  simpa using this
/-- '[]rune(s)'. -/
theorem run_runes {P : Program} (w : World) (src dst e : TypeId) (s : ByteArray) (hs : P.underlying src = some .string) (hd : P.underlying dst = some (.slice e)) (he : P.underlying e = some (.int .i32)) (hl : s.size ≤ 70368744177664) :
    ∃ c w', (convert src dst (.string s)).run P w = .ok (.slice (some ⟨w.heap.size, 0, none⟩) (runesU s.data.toList).length c) w' ∧
      w'.ownsRow w.heap.size e 1 (.slice (some ⟨w.heap.size, 0, none⟩) (runesU s.data.toList).length c) (runesU s.data.toList).length (Ris .i32 (runesU s.data.toList)) ∧ Below w.heap.size w w' := by
  have hf := runes_few s
  have hsz : (Conv.runesFrom s s.size 0 #[]).size = (runesU s.data.toList).length := by rw [runes_conv]; simp [Ris]
  have h := run_runes_of_string (P := P) w src dst e s hs hd he (by rw [hsz]; omega)
  rw [hsz, runes_conv] at h
  have hc := grownCap_ge w (runesU s.data.toList).length 0 e
  refine ⟨_, _, h, ⟨by simp [Ris], .inr ⟨w.heap.size, _, _, rfl, Nat.le_refl _, by show (w.drew.alloc _).heap[w.heap.size]? = _; exact heap_alloc_new w.drew _, hc, grownCap_le_maxLen _ _ _ _ (by unfold maxLen; omega), ?_, ?_⟩⟩, ?_⟩
  · simp [Ris]; omega
  · simp [Ris]
  · exact (((Below.refl _ w).drew).alloc (Nat.le_refl _) _)

set_option maxHeartbeats 1600000 in
theorem runes_any (s : ByteArray) (w : World) (hs : s.size ≤ 70368744177664) :
    Calls Try.prog 7 #[.string s] w (NewT .i32 21 w (runesV s.data.toList)) := by
  unfold runesV
  have hb := broken_any s w
  unfold brokenV at hb
  cases h : brokenU 0 s.data.toList with
  | none =>
    rw [h] at hb
    go_enter Try.func7, Try.ntmps7
    go_wp2_with fail
    refine hb.mono ?_
    rintro e w1 ⟨rfl, hb1⟩
    obtain ⟨c, w2, hcv, hown, hb2⟩ := run_runes (P := Try.prog) w1 9 22 21 s Try.underlying9 Try.underlying22 Try.underlying21 hs
    go_wp2
    go_ret3
    exact ⟨_, c, rfl, own_base hown hb1.size, bon hb1 hb2⟩
  | some p =>
    rw [h] at hb
    go_enter Try.func7, Try.ntmps7
    go_wp2_with fail
    refine hb.mono ?_
    rintro e w1 ⟨rfl, hb1⟩
    go_wp2
    go_ret3
    exact ⟨none, 0, rfl, own_nil _ _ _, hb1⟩

end Go.Proofs.Ytjgnhcdghkmphaa
