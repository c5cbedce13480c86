/-
  strings.Builder as this dump bears it (its copy check's refusal is no body of the dump): a byte more. With the shelf's 'String'.
-/
import Derived.Test.YtfahiamogjcikaaStrs
import Derived.Test.YtfahiamogjcikaaFacts
import Derived.Test.YtfahiamogjcikaaShelf
import Derived.RangeFuncBox
import Derived.Maps.AppendAt
namespace Go.Proofs.Ytfahiamogjcikaa
open Go.RowKit

theorem Try.sizeBld : (Try.prog.info? 41).map (·.size) = some 2 := by kernel_rfl
theorem Try.liesBld : liesAt Try.prog Try.prog.depth 41 (2 / Try.prog.cellsOf 41) 0 41 1 = true := by kernel_rfl

set_option maxHeartbeats 1000000 in
set_option maxRecDepth 100000 in
theorem check_any (B b : Nat) (bs : List Value) (w : World) (h : Lib.IsBuilder 41 5 B b bs w) :
    Calls Try.prog 23 #[.pointer (some ⟨b, 0, none⟩)] w fun e w' => e = .returned (.tuple #[]) ∧ Lib.BuilderAt 41 5 B b (.pointer (some ⟨b, 0, none⟩)) bs w' ∧ Below B w w' := by
  obtain ⟨j, hj, hjs⟩ := Option.map_eq_some_iff.1 Try.sizeBld
  rcases h with h | h
  · have c0 := h.cell0
    have hsh := h.shape
    have hfz := h.frozen0
    have hres : Lib.BuilderAt 41 5 B b (.pointer (some ⟨b, 0, none⟩)) bs (w.setCell ⟨b, 0, none⟩ (.pointer (some ⟨b, 0, none⟩))) ∧ Below B w (w.setCell ⟨b, 0, none⟩ (.pointer (some ⟨b, 0, none⟩))) :=
      ⟨h.used _, (Below.refl B w).setCell (p := ⟨b, 0, none⟩) h.1 _⟩
    have Hres := Lib.hid hres; clear hres h
    go_enter Try.func23, Try.ntmps23
    go_wp2
    rw [Lib.run_to_unsafe w ⟨b, 0, none⟩ Try.underlying39 Try.underlying51 hj (by rw [hjs]; decide) hsh (Nat.zero_lt_succ 1)]
    simp only [Result.andThen]
    rw [Oper.upon_value]
    go_wp2
    rw [run_callFunc_extern Try.func25 (by kernel_rfl) (by kernel_rfl) (by kernel_rfl) (e := Extern.AbiNoEscape.same) (by kernel_rfl)]
    rw [Lib.run_noEscape]
    simp only [Result.andThen]
    rw [Oper.upon_value]
    go_wp2
    rw [Lib.run_from_unsafe w ⟨b, 0, none⟩ Try.underlying51 Try.underlying39 hj hsh Try.liesBld]
    simp only [Result.andThen]
    rw [Oper.upon_value]
    go_wp2
    go_end0
    exact ⟨rfl, Hres.out⟩
  · have c0 := h.cell0
    have Hres := Lib.hid h; clear h
    go_enter Try.func23, Try.ntmps23
    go_wp2
    rw [Lib.run_neq_ptr_same w _ Try.underlying39 hj]
    go_wp2
    go_end0
    exact ⟨rfl, Hres.out, Below.refl _ _⟩

set_option maxHeartbeats 2000000 in
set_option maxRecDepth 100000 in
/-- One byte more. -/
theorem byte_any (B b : Nat) (l : List UInt8) (z : Int) (c : UInt8) (hz : z = (c.toNat : Int)) (w : World) (h : Lib.IsBuilder 41 5 B b (Byt l) w) (hlen : l.length < 17592186044416) (hBw : B ≤ w.heap.size) :
    Calls Try.prog 20 #[.pointer (some ⟨b, 0, none⟩), .int .u8 z] w fun e w' => e = .returned .nilIface ∧ Lib.IsBuilder 41 5 B b (Byt (l ++ [c])) w' ∧ Below B w w' := by
  subst hz
  go_enter Try.func20, Try.ntmps20
  go_wp2_with fail
  refine (check_any B b (Byt l) _ h).mono ?_
  rintro e w1 ⟨rfl, ⟨hB, v, hbk, hown, hne⟩, hb1⟩
  have c0 : w1.cell? ⟨b, 0, none⟩ = some (.pointer (some ⟨b, 0, none⟩)) := by rw [Lib.cell_of_heap hbk]; rfl
  have c1 : w1.cell? ⟨b, 1, none⟩ = some v := by rw [Lib.cell_of_heap hbk]; rfl
  obtain ⟨i0, hi, hz0, hz1, hz2⟩ := info_parts Try.info_u8
  obtain ⟨A, cp, rfl, hn1, hn2⟩ := own_form hown
  have hsz1 := hb1.size
  have hlt : b < w1.heap.size := (Array.getElem?_eq_some_iff.1 hbk).1
  go_wp2_with (at_builtin; refine wpList_append_own _ rfl _ _ 22 rfl B 5 i0 (.int .u8 0) 1 1 Try.underlying22 hi hz0 hz1 hz2 rfl (by decide) _ _ _ rfl (hown.alloc _) ⟨w1.heap.size, 0, none⟩ 1 1 [.int .u8 (c.toNat : Int)] rfl rfl (cell_one_new _ _ _) (by intro u hu; simp at hu; subst hu; rfl) (by rw [Byt_length]; unfold maxLen; omega) (by rw [Byt_length]; omega) (by simp; omega) ?_)
  intro v' w2 hown' hgrow _
  have hb2 : w2.heap[b]? = some (.cells #[.pointer (some ⟨b, 0, none⟩), .slice A (Byt l).length cp] 41 (0, 0)) := by
    rw [hgrow.block b (by simp; omega) (fun e => hne e.symm), Lib.alloc_old w1 _ b hlt]
    exact hbk
  have d0 : w2.cell? ⟨b, 0, none⟩ = some (.pointer (some ⟨b, 0, none⟩)) := by rw [Lib.cell_of_heap hb2]; rfl
  have d1 : w2.cell? ⟨b, 1, none⟩ = some (.slice A (Byt l).length cp) := by rw [Lib.cell_of_heap hb2]; rfl
  have f1 : w2.frozen? ⟨b, 1, none⟩ = false := Lib.frozen_of_heap hb2 1
  obtain ⟨g, cap, rfl⟩ := ownsRow_succ hown'
  have hfin : Lib.BuilderAt 41 5 B b (.pointer (some ⟨b, 0, none⟩)) (Byt (l ++ [c])) (w2.setCell ⟨b, 1, none⟩ (.slice (some ⟨g, 0, none⟩) ((Byt l).length + 1) cap)) := by
    refine Lib.BuilderAt.put hB hb2 ?_ (by decide)
    rw [Byt_append]
    have e : Byt [c] = [.int .u8 (c.toNat : Int)] := rfl
    rw [e]
    simpa using hown'
  have hbel : Below B w (w2.setCell ⟨b, 1, none⟩ (.slice (some ⟨g, 0, none⟩) ((Byt l).length + 1) cap)) := ((hb1.alloc (by omega) _).grown hgrow (by simp; omega) (fun k hk => (hown.lt k hk).1)).setCell (p := ⟨b, 1, none⟩) hB _
  have Hfin := Lib.hid hfin; clear hfin
  have Hbel := Lib.hid hbel; clear hbel
  go_wp2
  go_ret
  exact ⟨rfl, .inr Hfin.out, Hbel.out⟩

/-- What a builder holds, as a text. -/
theorem text_bld (B b : Nat) (l : List UInt8) (w : World) (h : Lib.IsBuilder 41 5 B b (Byt l) w) (hBw : B ≤ w.heap.size) :
    Calls Try.prog 21 #[.pointer (some ⟨b, 0, none⟩)] w fun e w' => e = .returned (.string (tx l)) ∧ Below B w w' := Try.Builder_String_any B b l w h hBw

end Go.Proofs.Ytfahiamogjcikaa
