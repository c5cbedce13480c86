/-
  Whole arrays in blocks of their own. No program is named here.
-/
import Derived.Test.YtfkfkmdnffpcmaaFoot
import Derived.Deep.WholeRow
import Derived.Deep.MidRow
import Derived.Laws.Tables
namespace Go.Proofs.Ytfkfkmdnffpcmaa
open Go.RowKit

/-- Numbers of a kind, as the cells of an array. -/
def Nums (k : IntKind) (l : List Nat) : Array Value := (l.map fun (n : Nat) => Value.int k (n : Int)).toArray
theorem Nums_size (k : IntKind) (l : List Nat) : (Nums k l).size = l.length := by simp [Nums]
theorem Nums_get {k : IntKind} {l : List Nat} {j : Nat} (h : j < l.length) : (Nums k l)[j]? = some (.int k (l[j] : Int)) := by
  simp [Nums, h]
theorem Nums_set (k : IntKind) (l : List Nat) (j n : Nat) : (Nums k l).setIfInBounds j (.int k (n : Int)) = Nums k (l.set j n) := by
  simp [Nums, List.map_set]
theorem Nums_one (k : IntKind) (l : List Nat) : (Nums k l).all (·.oneCell') = true := by
  rw [Array.all_eq_true_iff_forall_mem]
  intro v hv
  simp only [Nums, List.mem_toArray, List.mem_map] at hv
  obtain ⟨n, _, rfl⟩ := hv
  rfl

/-- So many zeros. -/
def Zs (n : Nat) : List Nat := List.replicate n 0
theorem Zs_length (n : Nat) : (Zs n).length = n := List.length_replicate ..
theorem Zs_get {n j : Nat} (h : j < n) : (Zs n)[j]? = some 0 := by simp [Zs, h]

/-- Block b holds just these numbers, and may be written. -/
def Arr (w : World) (b : Nat) (t : TypeId) (k : IntKind) (l : List Nat) : Prop := w.heap[b]? = some (.cells (Nums k l) t (0, 0))

section
variable {w w' : World} {b : Nat} {t : TypeId} {k : IntKind} {l : List Nat}
theorem Arr.lt (h : Arr w b t k l) : b < w.heap.size := (Array.getElem?_eq_some_iff.1 h).1
theorem Arr.drewN (h : Arr w b t k l) (n : Nat) : Arr (w.drewN n) b t k l := h
theorem Arr.drew (h : Arr w b t k l) : Arr w.drew b t k l := h
theorem Arr.heap (h : Arr w b t k l) (e : w'.heap = w.heap) : Arr w' b t k l := by unfold Arr; rw [e]; exact h
theorem Arr.below {B : Nat} (h : Arr w b t k l) (hb : Below B w w') (hB : b < B) : Arr w' b t k l := (hb.block b hB).trans h
theorem Arr.moves {F : Nat → Prop} (h : Arr w b t k l) (hm : Moves F w w') (hF : ¬ F b) : Arr w' b t k l := (hm.block b h.lt hF).trans h
theorem Arr.cell {j : Nat} (h : Arr w b t k l) (hj : j < l.length) : w.cell? ⟨b, j, none⟩ = some (.int k (l[j] : Int)) := by
  rw [cell_of_row w b j _ t (0, 0) h, Nums_get hj]
theorem Arr.frozen (h : Arr w b t k l) (j : Nat) : w.frozen? ⟨b, j, none⟩ = false := frozen_of_row w b j _ t h
theorem Arr.set {j n : Nat} (h : Arr w b t k l) : Arr (w.setCell ⟨b, j, none⟩ (.int k (n : Int))) b t k (l.set j n) := by
  unfold Arr
  rw [heap_setCell_same w b j _ t _ h, Nums_set]
theorem Arr.put {j n : Nat} {z : Int} (h : Arr w b t k l) (hz : z = (n : Int)) : Arr (w.setCell ⟨b, j, none⟩ (.int k z)) b t k (l.set j n) := by subst hz; exact h.set
theorem Arr.other {p : Addr} {v : Value} (h : Arr w b t k l) (hp : b ≠ p.block) : Arr (w.setCell p v) b t k l := (heap_setCell_other w p b v hp).trans h
theorem Arr.alloc (h : Arr w b t k l) (o : Obj) : Arr (w.alloc o) b t k l := (heap_alloc_old w o h.lt).trans h
theorem Arr.new {w : World} {t : TypeId} {k : IntKind} {l : List Nat} : Arr (w.alloc (.cells (Nums k l) t)) w.heap.size t k l := heap_alloc_new w _
theorem Arr.setRow {l' : List Nat} (h : Arr w b t k l) : Arr (w.setRow b (Nums k l')) b t k l' := setRow_heap w b _ _ t _ h
theorem Arr.setRow_other {g : Nat} {cs : Array Value} (h : Arr w b t k l) (hg : b ≠ g) : Arr (w.setRow g cs) b t k l := (Go.setRow_other w g b cs hg).trans h
end

theorem Moves.setRow {F : Nat → Prop} {w w1 : World} (h : Moves F w w1) {g : Nat} (hg : F g ∨ w.heap.size ≤ g) (cs : Array Value) : Moves F w (w1.setRow g cs) :=
  ⟨h.os, h.tape, h.output, by simpa using h.size, fun k hk hn => (Go.setRow_other w1 g k cs (fun e => by subst e; exact hg.elim hn (by omega))).trans (h.block k hk hn)⟩
theorem bsetRow {B : Nat} {w w1 : World} (h : Below B w w1) {g : Nat} (hg : B ≤ g) (cs : Array Value) : Below B w (w1.setRow g cs) :=
  ⟨h.os, h.tape, h.output, by simpa using h.size, fun k hk => (Go.setRow_other w1 g k cs (by omega)).trans (h.block k hk)⟩

/-- A type that is an array of numbers, of one cell each. -/
structure ArrT (P : Program) (t e : TypeId) (k : IntKind) (n : Nat) : Prop where
  under : P.underlying t = some (.array n e)
  elem : P.underlying e = some (.int k)
  size : (P.info? t).map (·.size) = some n

section
variable {P : Program} {ops : Array Oper} {rest : List Oper} {o : Oper} {a : Act} {w : World} {Q : Exit → Act → World → Prop} {t e : TypeId} {k : IntKind} {l : List Nat} {b : Nat}

/-- The whole array is read. -/
theorem wp_load_arr {n : Nat} (T : ArrT P t e k n) (hgd : o.guard = none) (x : Operand) (ho : o.op = .load t x) (hx : a.eval x = .pointer (some ⟨b, 0, none⟩)) {tb : TypeId} (h : Arr w b tb k l) (hl : l.length = n)
    (hK : wpList P ops Q rest (a.put o.dst (.agg (Nums k l))) w) : wpList P ops Q (o :: rest) a w :=
  wpList_load_row hgd t x ho b hx tb (Nums k l) (0, 0) (.array n e) h T.under rfl (by rw [Nums_size, hl]; exact T.size) hK
/-- The whole array is written. -/
theorem wp_store_arr {n : Nat} (T : ArrT P t e k n) (hgd : o.guard = none) (x y : Operand) (ho : o.op = .store t x y) (hx : a.eval x = .pointer (some ⟨b, 0, none⟩)) {l' : List Nat} (hy : a.eval y = .agg (Nums k l')) {tb : TypeId} (h : Arr w b tb k l) (hl : l.length = n) (hl' : l'.length = n)
    (hK : wpList P ops Q rest (a.put o.dst undef) (w.setRow b (Nums k l'))) : wpList P ops Q (o :: rest) a w :=
  wpList_store_row hgd t x y ho b (Nums k l') hx hy tb (Nums k l) h (by rw [Nums_size, hl']; exact T.size) (by rw [Nums_size, Nums_size, hl, hl']) (Nums_one _ _) hK
end

/-- What a call ends in that answers an array. -/
def AnsA (w : World) (k : IntKind) (l : List Nat) (en : Ending) (w' : World) : Prop := en = .returned (.agg (Nums k l)) ∧ Below w.heap.size w w'

/-- The midst of what is read. -/
theorem Rd.part {w : World} {B n b o p q : Nat} {xs : List Value} (h : Rd w B (some ⟨b, o, none⟩) n xs) (hq : p + q ≤ n) : Rd w B (some ⟨b, o + p, none⟩) q ((xs.drop p).take q) := by
  refine ⟨by rw [List.length_take, List.length_drop, h.1]; omega, fun h0 => ?_⟩
  obtain ⟨b', o', e, hb, hc⟩ := h.2 (by omega)
  injection e with e
  injection e with e1 e2
  subst e1 e2
  refine ⟨b, o + p, rfl, hb, fun j u hu => ?_⟩
  rw [List.getElem?_take] at hu
  split at hu
  · rw [List.getElem?_drop] at hu
    rw [Nat.add_assoc]
    exact hc _ u hu
  · cases hu

/-- The way out of a function that answers an array. -/
theorem ret_arr {P : Program} {fn : Func} {a : Act} {w : World} {R : Ending → World → Prop} {t e : TypeId} {k : IntKind} {n b : Nat} {l : List Nat} (T : ArrT P t e k n) {p : Tmp} (hres : fn.results = #[.cell p t])
    (hp : a.tmps.getD p undef = .pointer (some ⟨b, 0, none⟩)) {tb : TypeId} (h : Arr w b tb k l) (hl : l.length = n) (hd : a.defers = []) (hR : R (.returned (.agg (Nums k l))) w) : bodyPost P fn R .ret a w :=
  bodyPost_ret (results_cell_row hres _ w b tb _ (0, 0) (.array n e) hp h T.under rfl (by rw [Nums_size, hl]; exact T.size)) hd hR

/-- One more is filled in. -/
theorem afill_set {α : Type} {L M : List α} {i : Nat} (h : i < L.length) (hm : i < M.length) : (L.take i ++ M.drop i).set i L[i] = L.take (i + 1) ++ M.drop (i + 1) := by
  have h1 : (L.take i).length = i := by simp; omega
  rw [List.set_append_right _ _ (by omega), h1, Nat.sub_self, List.drop_eq_getElem_cons hm, List.set_cons_zero, List.take_add_one, List.getElem?_eq_getElem h, List.append_assoc]
  rfl
theorem fill_length {α : Type} {L M : List α} {i : Nat} (h : L.length = M.length) : (L.take i ++ M.drop i).length = M.length := by simp; omega
theorem fill_get {α : Type} {L M : List α} {i : Nat} (h : i < M.length) (hl : i ≤ L.length) : (L.take i ++ M.drop i)[i]? = some M[i] := by
  rw [List.getElem?_append_right (by simp; omega), List.length_take, Nat.min_eq_left hl, Nat.sub_self, List.getElem?_drop, Nat.add_zero, List.getElem?_eq_getElem h]
theorem fill_all {α : Type} {L M : List α} {i : Nat} (h : L.length = i) (hm : M.length = i) : L.take i ++ M.drop i = L := by
  rw [List.take_of_length_le (by omega), List.drop_of_length_le (by omega), List.append_nil]
theorem Arr.at_ {w : World} {b : Nat} {t : TypeId} {k : IntKind} {l : List Nat} {j x : Nat} (h : Arr w b t k l) (hj : l[j]? = some x) : w.cell? ⟨b, j, none⟩ = some (.int k (x : Int)) := by
  obtain ⟨h1, h2⟩ := List.getElem?_eq_some_iff.1 hj
  rw [h.cell h1, h2]

/-- A store of a whole array, the world behind it a letter. -/
theorem Arr.store_moves {w : World} {b : Nat} {t : TypeId} {k : IntKind} {l : List Nat} (l' : List Nat) (h : Arr w b t k l) :
    Arr (w.setRow b (Nums k l')) b t k l' ∧ Moves (fun j => j = b) w (w.setRow b (Nums k l')) ∧ (w.setRow b (Nums k l')).heap.size = w.heap.size :=
  ⟨h.setRow, (Moves.refl (fun j => j = b) w).setRow (.inl rfl) _, by simp⟩

section
variable {P : Program} {ops : Array Oper} {rest : List Oper} {o : Oper} {a : Act} {w : World} {Q : Exit → Act → World → Prop} {k : IntKind}
/-- A new array of zeros. -/
theorem wp_alloc_arr (hg : o.guard = none) (t : TypeId) (ho : o.op = .alloc t) (n : Nat) (hz : (P.info? t).map (fun i => (i.zero, i.size)) = some (some (.agg (Nums k (Zs n))), n))
    (hK : ∀ w' g, Hid (g = w.heap.size) → Hid (Arr w' g t k (Zs n)) → Hid (Below w.heap.size w w') → Hid (w'.heap.size = w.heap.size + 1) → wpList P ops Q rest (a.put o.dst (.pointer (some ⟨g, 0, none⟩))) w') : wpList P ops Q (o :: rest) a w := by
  refine wpList_plain hg fun K hKK => ?_
  have hq := hKK _ _ (hK (w.alloc (.cells (Nums k (Zs n)) t)) _ (Lib.hid rfl) (Lib.hid Arr.new) (Lib.hid ((Below.refl _ _).alloc (Nat.le_refl _) _)) (Lib.hid (by simp)))
  have hz0 := (zero_of_info hz).1
  unfold Oper.wp execOp
  simp only [ho, Instr.alloc, hz0, Sem.run_bind, newVar, newRow, run_newObj_alloc, Sem.run_pure, Result.andThen_ok]
  exact hq
/-- A new array of what came in. -/
theorem wp_box_arr (hg : o.guard = none) (t : TypeId) (x : Operand) (ho : o.op = .box t x) (l : List Nat) (hx : a.eval x = .agg (Nums k l))
    (hK : ∀ w' g, Hid (g = w.heap.size) → Hid (Arr w' g t k l) → Hid (Below w.heap.size w w') → Hid (w'.heap.size = w.heap.size + 1) → wpList P ops Q rest (a.put o.dst (.pointer (some ⟨g, 0, none⟩))) w') : wpList P ops Q (o :: rest) a w := by
  refine wpList_plain hg fun K hKK => ?_
  have hq := hKK _ _ (hK (w.alloc (.cells (Nums k l) t)) _ (Lib.hid rfl) (Lib.hid Arr.new) (Lib.hid ((Below.refl _ _).alloc (Nat.le_refl _) _)) (Lib.hid (by simp)))
  unfold Oper.wp execOp
  simp only [ho, hx, Instr.box, Sem.run_bind, newVar, newRow, run_newObj_alloc, Sem.run_pure, Result.andThen_ok]
  exact hq
/-- The whole array is written, the world behind it a letter. -/
theorem wp_put_arr {t e : TypeId} {l l' : List Nat} {b n : Nat} (T : ArrT P t e k n) (hgd : o.guard = none) (x y : Operand) (ho : o.op = .store t x y) (hx : a.eval x = .pointer (some ⟨b, 0, none⟩)) (hy : a.eval y = .agg (Nums k l')) {tb : TypeId} (h : Arr w b tb k l) (hl : l.length = n) (hl' : l'.length = n)
    (hK : ∀ w', Hid (Arr w' b tb k l') → Hid (Moves (fun j => j = b) w w') → Hid (w'.heap.size = w.heap.size) → wpList P ops Q rest (a.put o.dst undef) w') : wpList P ops Q (o :: rest) a w :=
  wp_store_arr T hgd x y ho hx hy h hl hl' (hK _ (Lib.hid (h.store_moves l').1) (Lib.hid (h.store_moves l').2.1) (Lib.hid (h.store_moves l').2.2))
end

section
variable {P : Program} {ops : Array Oper} {rest : List Oper} {o : Oper} {a : Act} {w : World} {Q : Exit → Act → World → Prop}
/-- A literal of numbers. -/
theorem wp_build_arr (hg : o.guard = none) (t : TypeId) (parts : Array (Nat × Operand)) (ho : o.op = .build t parts) (k : IntKind) (l : List Nat)
    (hb : P.built t (parts.map fun (i, x) => (i, a.eval x)).toList = some (Nums k l))
    (h : wpList P ops Q rest (a.put o.dst (.agg (Nums k l))) w) : wpList P ops Q (o :: rest) a w :=
  wpList_build hg t parts ho (by rw [hb]; rfl) (by rw [hb]; exact h)
end

end Go.Proofs.Ytfkfkmdnffpcmaa
