/-
  A new row of bytes that is written as an array. No program is named here.
-/
import Derived.Test.YtfkfkmdnffpcmaaTakes
import Derived.Test.YtfkfkmdnffpcmaaNewR
namespace Go.Proofs.Ytfkfkmdnffpcmaa
open Go.RowKit

theorem Nums_zs (n : Nat) : Nums .u8 (Zs n) = (List.replicate n (Value.int .u8 0)).toArray := by simp [Nums, Zs]
/-- 'make([]byte, n)', as an array. -/
theorem wp_make_arr {P : Program} {w : World} {ops : Array Oper} {rest : List Oper} {o : Oper} {a : Act} {Q : Exit → Act → World → Prop}
    (hg : o.guard = none) (l c : Operand) (t : TypeId) (hop : o.op = Op.makeSlice t l c) (e : TypeId)
    (h1 : P.underlying t = some (.slice e)) (h2 : (P.info? e).map (fun i => (i.zero, i.size, i.bytes)) = some (some (.int .u8 0), 1, 1))
    (n : Nat) (hl : a.eval l = .int .i64 (n : Int)) (hc : a.eval c = .int .i64 (n : Int)) (hm : n ≤ 281474976710656)
    (hK : ∀ w' g, Hid (g = w.heap.size) → Hid (Arr w' g e .u8 (Zs n)) → Hid (Below w.heap.size w w') → Hid (w'.heap.size = w.heap.size + 1) → wpList P ops Q rest (a.put o.dst (.slice (some ⟨g, 0, none⟩) n n)) w') :
    wpList P ops Q (o :: rest) a w := by
  obtain ⟨i0, hi, hz0, hz1, hz2⟩ := info_parts h2
  refine wpList_plain hg fun K hK' => ?_
  have hr := run_make (P := P) w t e i0 (.int .u8 0) h1 hi hz0 .i64 .i64 n n (by omega) (by omega) (by rw [hz2]; omega) (by omega)
  simp only [Int.toNat_natCast, hz1, Nat.mul_one] at hr
  have hcells : madeCells (Value.int .u8 0).cells n = Nums .u8 (Zs n) := by
    apply Array.toList_inj.1
    rw [Nums_zs]
    exact toList_madeCells_one _ _
  have hq := hK' _ _ (hK (w.alloc (.cells (madeCells (Value.int .u8 0).cells n) e)) w.heap.size (Lib.hid rfl) (Lib.hid (by rw [hcells]; exact Arr.new)) (Lib.hid ((Below.refl _ _).alloc (Nat.le_refl _) _)) (Lib.hid (by simp)))
  unfold Oper.wp
  simp [execOp, hop, hl, hc, hr, Result.andThen]
  exact hq
/-- An array is read. -/
theorem Arr.rd {w : World} {g : Nat} {t : TypeId} {l : List UInt8} (h : Arr w g t .u8 (abn l)) : Rd w w.heap.size (some ⟨g, 0, none⟩) l.length (Byt l) :=
  ⟨by rw [Byt_length], fun _ => ⟨g, 0, rfl, h.lt, fun j u hu => by
    have hj : j < l.length := by
      obtain ⟨h1, _⟩ := List.getElem?_eq_some_iff.1 hu
      rwa [Byt_length] at h1
    rw [Byt_get hj] at hu
    injection hu with hu
    rw [← hu, Nat.zero_add]
    exact h.at_ (abn_get (List.getElem?_eq_getElem hj))⟩⟩

end Go.Proofs.Ytfkfkmdnffpcmaa
