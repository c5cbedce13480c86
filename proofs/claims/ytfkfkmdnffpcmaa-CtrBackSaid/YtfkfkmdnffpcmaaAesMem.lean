import Derived.Test.YtfkfkmdnffpcmaaAesW
import Derived.Laws.CopyOwn
import Derived.Deep.MidRow
namespace Go.Proofs.Ytfkfkmdnffpcmaa
open Go.RowKit

section
variable {P : Program} {w : World} {g : Nat} {t : TypeId} {k : IntKind}
theorem Nums_list (k : IntKind) (l : List Nat) : Nums k l = (l.map fun (n : Nat) => Value.int k (n : Int)).toArray := rfl
theorem Nums_byt (l : List UInt8) : Nums .u8 (abn l) = (Byt l).toArray := by simp [Nums, abn, Byt]
/-- The part of an array from off on. -/
theorem Arr.range {l ns : List Nat} {off : Nat} (h : Arr w g t k l) (hn : ∀ (j x : Nat), ns[j]? = some x → l[off + j]? = some x) : w.rangeAt g off (ns.map fun (n : Nat) => Value.int k (n : Int)) := by
  intro j v hv
  rw [List.getElem?_map] at hv
  cases hq : ns[j]? with
  | none => rw [hq] at hv; cases hv
  | some x =>
    rw [hq] at hv
    injection hv with hv
    rw [← hv]
    exact h.at_ (hn j x hq)
theorem Arr.there {l : List Nat} {off n : Nat} (h : Arr w g t k l) (hn : off + n ≤ l.length) : w.there g off n := fun j hj => ⟨by rw [h.cell (j := off + j) (by omega)]; rfl, h.frozen _⟩

theorem run_storeCells_arr {l l' : List Nat} (h : Arr w g t k l) (hl : l'.length = l.length) : (storeCells ⟨g, 0, none⟩ (Nums k l').toList).run P w = .ok () (w.setRow g (Nums k l')) := by
  have := run_storeCells_at P g 0 t (Nums k l').toList 0 (Nums k l) w h (by simp [Nums_size, hl]) (fun v hv => (Array.all_eq_true_iff_forall_mem.1 (Nums_one k l')) v (by simpa using hv))
  have e : List.drop l.length (Nums k l).toList = [] := List.drop_of_length_le (by simp [Nums_size])
  simpa [Nums_size, hl, e] using this
theorem run_copy_arr {dT sT ty e : TypeId} (hu : P.underlying dT = some (.slice e)) (hsz : (P.info? e).map (·.size) = some 1) (off dl dc : Nat) (A : Addr) (sl sc : Nat) (l ns : List Nat) (h : Arr w g t k l)
    (hn : ns.length = Nat.min sl dl) (hsrc : ∀ (j x : Nat), ns[j]? = some x → w.cell? (A.add j) = some (.int k (x : Int))) (hfit : off + ns.length ≤ l.length) :
    (Builtin.copy_ #[dT, sT] ty #[.slice (some ⟨g, off, none⟩) dl dc, .slice (some A) sl sc]).run P w = .ok (goInt ns.length) (w.setRow g (Nums k (splice l off ns))) := by
  rw [run_copy_row (P := P) w dT sT ty e g off dl dc A sl sc (Nums k l) t (ns.map fun (n : Nat) => Value.int k (n : Int)) hu hsz h (by simpa using hn) (fun j v hv => ?_) (by simpa [Nums_size] using hfit) (fun v hv => by obtain ⟨n, _, rfl⟩ := List.mem_map.1 hv; rfl)]
  · congr 1
    · simp
    · congr 1
      simp [Nums, splice, List.map_take, List.map_drop]
  · rw [List.getElem?_map] at hv
    cases hq : ns[j]? with
    | none => rw [hq] at hv; cases hv
    | some x =>
      rw [hq] at hv
      injection hv with hv
      rw [← hv]
      exact hsrc j x hq
theorem run_arrayAt {t e : TypeId} {n : Nat} (T : ArrT P t e k n) (A : Option Addr) (len cap : Nat) (h : n ≤ len) (W : World) : (Instr.arrayAt t (.slice A len cap)).run P W = .ok (.pointer A) W := by
  have hn : ¬ len < n := by omega
  simp [Instr.arrayAt, Sem.run_bind, run_underlying T.under, hn]
/-- The address of one. -/
theorem run_indexAt_arr {e : TypeId} {n : Nat} (T : ArrT P t e k n) (hsz : (P.info? e).map (·.size) = some 1) (j : Nat) (z : Int) (hz : z = (j : Int)) (hj : j < n) (W : World) :
    (Instr.indexAt t (.pointer (some ⟨g, 0, none⟩)) (.int .i64 z)).run P W = .ok (.pointer (some ⟨g, j, none⟩)) W := by
  subst hz
  have hs : (sizeOf e).run P W = .ok 1 W := by
    cases hq : P.info? e with
    | none => simp [hq] at hsz
    | some i =>
      have : i.size = 1 := by simpa [hq] using hsz
      simp [sizeOf, typeInfo, hq, this]
  simp [Instr.indexAt, Instr.sureAddr, asIntOf, run_underlying T.under, hs, hj, add_flat, Sem.run_bind]
/-- A slice of an array of one cell each. -/
theorem run_slice_arr {e : TypeId} {n : Nat} (T : ArrT P t e k n) (hsz : (P.info? e).map (·.size) = some 1) (lo hi : Nat) (zl zh : Int) (hzl : zl = (lo : Int)) (hzh : zh = (hi : Int)) (h1 : lo ≤ hi) (h2 : hi ≤ n) (h3 : lo < n) (W : World) :
    (Instr.sliceAt t (.pointer (some ⟨g, 0, none⟩)) (some (.int .i64 zl)) (some (.int .i64 zh)) none).run P W = .ok (.slice (some ⟨g, lo, none⟩) (hi - lo) (n - lo)) W := by
  subst hzl hzh
  have hs : (sizeOf e).run P W = .ok 1 W := by
    cases hq : P.info? e with
    | none => simp [hq] at hsz
    | some i =>
      have : i.size = 1 := by simpa [hq] using hsz
      simp [sizeOf, typeInfo, hq, this]
  have hne : n ≠ lo := by omega
  simp [Instr.sliceAt, Instr.sureAddr, run_underlying T.under, Instr.sliceBounds, run_sliceBound, hs, h1, h2, hne, add_flat, Sem.run_bind]
theorem wp_copy_arr {ops : Array Oper} {rest : List Oper} {o : Oper} {a : Act} {Q : Exit → Act → World → Prop} (hgd : o.guard = none) (d s : Operand) (dT sT : TypeId)
    (ho : o.op = .call { callee := .builtin .copy, args := #[d, s], argTypes := #[dT, sT] }) (e : TypeId) (hu : P.underlying dT = some (.slice e)) (hsz : (P.info? e).map (·.size) = some 1)
    (off dl dc : Nat) (A : Addr) (sl sc : Nat) (hd : a.eval d = .slice (some ⟨g, off, none⟩) dl dc) (hs : a.eval s = .slice (some A) sl sc) (l ns : List Nat) (h : Arr w g t k l)
    (hn : ns.length = Nat.min sl dl) (hsrc : ∀ (j x : Nat), ns[j]? = some x → w.cell? (A.add j) = some (.int k (x : Int))) (hfit : off + ns.length ≤ l.length)
    (hK : ∀ w', Hid (Arr w' g t k (splice l off ns)) → Hid (Moves (fun j => j = g) w w') → Hid (w'.heap.size = w.heap.size) → wpList P ops Q rest (a.put o.dst (goInt ns.length)) w') : wpList P ops Q (o :: rest) a w := by
  refine wpList_plain hgd fun K hKK => ?_
  have hrun := run_copy_arr (P := P) (sT := sT) (ty := o.type) hu hsz off dl dc A sl sc l ns h hn hsrc hfit
  unfold Oper.wp
  simp [execOp, ho, resolve, invoke, builtin, hd, hs, hrun, Result.andThen]
  exact hKK _ _ (hK _ (Lib.hid (h.store_moves _).1) (Lib.hid (h.store_moves _).2.1) (Lib.hid (h.store_moves _).2.2))
theorem step_copy_arr {ops : Array Oper} {o : Oper} {a : Act} {K : Act → World → Prop} {Q : Exit → Act → World → Prop} {E : Prop} (hgd : o.guard = none) (d s : Operand) (dT sT : TypeId)
    (ho : o.op = .call { callee := .builtin .copy, args := #[d, s], argTypes := #[dT, sT] }) (e : TypeId) (hu : P.underlying dT = some (.slice e)) (hsz : (P.info? e).map (·.size) = some 1)
    (off dl dc : Nat) (A : Addr) (sl sc : Nat) (hd : a.eval d = .slice (some ⟨g, off, none⟩) dl dc) (hs : a.eval s = .slice (some A) sl sc) (l ns : List Nat) (h : Arr w g t k l)
    (hn : ns.length = Nat.min sl dl) (hsrc : ∀ (j x : Nat), ns[j]? = some x → w.cell? (A.add j) = some (.int k (x : Int))) (hfit : off + ns.length ≤ l.length)
    (hK : ∀ w', Hid (Arr w' g t k (splice l off ns)) → Hid (Moves (fun j => j = g) w w') → Hid (w'.heap.size = w.heap.size) → K (a.put o.dst (goInt ns.length)) w') :
    if Region.wanted o (yielded ops a.tmps) = true then Oper.wp P o a w K Q else E := by
  have hw : Region.wanted o (yielded ops a.tmps) = true := by simp [Region.wanted, hgd]
  rw [if_pos hw]
  have hrun := run_copy_arr (P := P) (sT := sT) (ty := o.type) hu hsz off dl dc A sl sc l ns h hn hsrc hfit
  unfold Oper.wp
  simp [execOp, ho, resolve, invoke, builtin, hd, hs, hrun, Result.andThen]
  exact hK _ (Lib.hid (h.store_moves _).1) (Lib.hid (h.store_moves _).2.1) (Lib.hid (h.store_moves _).2.2)
end

/-- The column at place c, mixed. -/
theorem amix_at {s : List UInt8} (h : s.length = 16) {c : Nat} (hc : c < 4) : ∃ p q r t : UInt8, (∀ j x : Nat, [p.toNat, q.toNat, r.toNat, t.toNat][j]? = some x → (abn s)[4 * c + j]? = some x) ∧
    (∀ j x : Nat, [(gmixU p q r t).toNat, (gmixU q r t p).toNat, (gmixU r t p q).toNat, (gmixU t p q r).toNat][j]? = some x → (abn (amixU s))[4 * c + j]? = some x) := by
  obtain ⟨a0, a1, a2, a3, b0, b1, b2, b3, c0, c1, c2, c3, d0, d1, d2, d3, rfl⟩ := sixteen h
  match c, hc with
  | 0, _ => exact ⟨a0, a1, a2, a3, fun j x => by rcases j with _ | _ | _ | _ | j <;> simp [abn], fun j x => by rcases j with _ | _ | _ | _ | j <;> simp [abn, amixU]⟩
  | 1, _ => exact ⟨b0, b1, b2, b3, fun j x => by rcases j with _ | _ | _ | _ | j <;> simp [abn], fun j x => by rcases j with _ | _ | _ | _ | j <;> simp [abn, amixU]⟩
  | 2, _ => exact ⟨c0, c1, c2, c3, fun j x => by rcases j with _ | _ | _ | _ | j <;> simp [abn], fun j x => by rcases j with _ | _ | _ | _ | j <;> simp [abn, amixU]⟩
  | 3, _ => exact ⟨d0, d1, d2, d3, fun j x => by rcases j with _ | _ | _ | _ | j <;> simp [abn], fun j x => by rcases j with _ | _ | _ | _ | j <;> simp [abn, amixU]⟩

/-- Several more are filled in. -/
theorem afill_splice {L M ns : List Nat} {off : Nat} (hl : L.length = M.length) (hn : off + ns.length ≤ M.length) (hx : ∀ (j x : Nat), ns[j]? = some x → L[off + j]? = some x) :
    splice (L.take off ++ M.drop off) off ns = L.take (off + ns.length) ++ M.drop (off + ns.length) := by
  unfold splice
  have h1 : (L.take off).length = off := by simp; omega
  have h2 : ns = (L.drop off).take ns.length := by
    apply List.ext_getElem?
    intro j
    rcases Nat.lt_or_ge j ns.length with hj | hj
    · rw [List.getElem?_take_of_lt hj, List.getElem?_drop, hx j ns[j] (List.getElem?_eq_getElem hj), List.getElem?_eq_getElem hj]
    · rw [List.getElem?_eq_none hj, List.getElem?_eq_none (by simp; omega)]
  rw [List.take_append_of_le_length (by omega), List.take_of_length_le (by omega)]
  rw [← List.append_assoc]
  congr 1
  · conv => lhs; rw [h2]
    rw [← List.take_add]
  · rw [List.drop_append, List.drop_of_length_le (by omega), List.nil_append, h1, List.drop_drop]
    congr 1
    omega

end Go.Proofs.Ytfkfkmdnffpcmaa
