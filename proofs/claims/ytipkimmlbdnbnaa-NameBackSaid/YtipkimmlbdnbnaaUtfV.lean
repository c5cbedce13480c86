/-
  The answers of utf again: lemmas on them that name no program.
-/
import Derived.Test.YtipkimmlbdnbnaaUtfU
namespace Go.Proofs.Ytipkimmlbdnbnaa
open Go.RowKit

theorem drop_ne {s : ByteArray} {p : Nat} (h : p < s.size) : s.data.toList.drop p ≠ [] := by
  refine List.length_pos_iff.1 ?_
  rw [List.length_drop]
  simp; omega
theorem ext_list (s : ByteArray) (p : Nat) : (s.extract p s.size).data.toList = s.data.toList.drop p := by
  rw [ByteArray.data_extract, Array.toList_extract]
  rw [List.extract_eq_take_drop, List.take_of_length_le]
  rw [List.length_drop]; simp
theorem step_le {s : ByteArray} {p : Nat} (h : p < s.size) : p + (Utf8.decode s p).2 ≤ s.size ∧ 1 ≤ (Utf8.decode s p).2 := by
  have h1 := Lib.decodeL_le _ (drop_ne h)
  have h2 := Lib.decodeL_width (s.data.toList.drop p)
  rw [Lib.decodeL_drop] at h1 h2
  rw [List.length_drop] at h1
  have e : s.data.toList.length = s.size := by simp
  omega
theorem broken_at {s : ByteArray} {p : Nat} (h : p < s.size) (hb : brokenU p (s.data.toList.drop p) = brokenU 0 s.data.toList) :
    (badL (s.data.toList.drop p) = true → brokenV s.data.toList = (p : Int)) ∧ (badL (s.data.toList.drop p) = false → brokenU (p + (Utf8.decode s p).2) (s.data.toList.drop (p + (Utf8.decode s p).2)) = brokenU 0 s.data.toList) := by
  rw [brokenU_step _ _ (drop_ne h), Lib.decodeL_drop, List.drop_drop] at hb
  constructor
  · intro hbad
    rw [if_pos hbad] at hb
    unfold brokenV
    rw [← hb]
  · intro hbad
    rw [if_neg (by rw [hbad]; simp)] at hb
    exact hb

theorem runes_conv (s : ByteArray) : Conv.runesFrom s s.size 0 #[] = (Ris .i32 (runesU s.data.toList)).toArray := by
  rw [convRunes s s.size 0 #[] (by omega), List.drop_zero]
  simp [Ris]
theorem runes_few (s : ByteArray) : (runesU s.data.toList).length ≤ s.size := by
  have := runesU_length s.data.toList.length s.data.toList (Nat.le_refl _)
  simpa using this
/-- '[]rune(s)'. -/
theorem run_runes {P : Program} (w : World) (src dst e : TypeId) (s : ByteArray) (hs : P.underlying src = some .string) (hd : P.underlying dst = some (.slice e)) (he : P.underlying e = some (.int .i32)) (hl : s.size ≤ 70368744177664) :
    ∃ c w', (convert src dst (.string s)).run P w = .ok (.slice (some ⟨w.heap.size, 0, none⟩) (runesU s.data.toList).length c) w' ∧
      w'.ownsRow w.heap.size e 1 (.slice (some ⟨w.heap.size, 0, none⟩) (runesU s.data.toList).length c) (runesU s.data.toList).length (Ris .i32 (runesU s.data.toList)) ∧ Below w.heap.size w w' := by
  have hf := runes_few s
  have hsz : (Conv.runesFrom s s.size 0 #[]).size = (runesU s.data.toList).length := by rw [runes_conv]; simp [Ris]
  have h := run_runes_of_string (P := P) w src dst e s hs hd he (by rw [hsz]; omega)
  rw [hsz, runes_conv] at h
  have hc := grownCap_ge w (runesU s.data.toList).length 0 e
  refine ⟨_, _, h, ⟨by simp [Ris], .inr ⟨w.heap.size, _, _, rfl, Nat.le_refl _, by show (w.drew.alloc _).heap[w.heap.size]? = _; exact heap_alloc_new w.drew _, hc, grownCap_le_maxLen _ _ _ _ (by unfold maxLen; omega), ?_, ?_⟩⟩, ?_⟩
  · simp [Ris]; omega
  · simp [Ris]
  · exact (((Below.refl _ w).drew).alloc (Nat.le_refl _) _)

theorem runesV_ok {l : List UInt8} (h : brokenU 0 l = none) : runesV l = (runesU l, 0, 0) := by unfold runesV; rw [h]
theorem runesV_bad {l : List UInt8} {p : Nat} (h : brokenU 0 l = some p) : runesV l = ([], (p : Int), 4) := by unfold runesV; rw [h]
theorem cutV_ok {l : List UInt8} {n : Int} (h : brokenU 0 l = none) : cutV l n = encU ((runesU l).take n.toNat) := by unfold cutV; rw [h]
theorem cutV_bad {l : List UInt8} {n : Int} {p : Nat} (h : brokenU 0 l = some p) : cutV l n = [] := by unfold cutV; rw [h]


end Go.Proofs.Ytipkimmlbdnbnaa
