/-
  Whole arrays inside a round of a range over a function. No program is named here.
-/
import Derived.Test.YtpaekofdmfhchaaArr
import Derived.OwnWalkIn
import Derived.TacticsInMore
namespace Go.Proofs.Ytpaekofdmfhchaa
open Go.RowKit

section
variable {P : Program} {F : Fence} {m : Nat} {ops : Array Oper} {rest : List Oper} {o : Oper} {a : Act} {w : World} {Q : Exit → Act → World → Prop} {t e : TypeId} {k : IntKind} {l : List Nat} {b n : Nat}
theorem run_loadAt_arr (T : ArrT P t e k n) {tb : TypeId} (h : Arr w b tb k l) (hl : l.length = n) : (Instr.loadAt t (.pointer (some ⟨b, 0, none⟩))).run P w = .ok (.agg (Nums k l)) w := by
  simp only [Instr.loadAt, Instr.sureAddr, Sem.run_bind, Sem.run_pure, Result.andThen_ok]
  exact run_loadVar_row w b tb t (Nums k l) (0, 0) (.array n e) h T.under rfl (by rw [Nums_size, hl]; exact T.size)
theorem run_storeAt_arr (T : ArrT P t e k n) {tb : TypeId} {l' : List Nat} (h : Arr w b tb k l) (hl : l.length = n) (hl' : l'.length = n) : (Instr.storeAt t (.pointer (some ⟨b, 0, none⟩)) (.agg (Nums k l'))).run P w = .ok () (w.setRow b (Nums k l')) := by
  simp only [Instr.storeAt, Instr.sureAddr, Sem.run_bind, Sem.run_pure, Result.andThen_ok]
  exact run_storeVar_row w b tb t (Nums k l) (Nums k l') h (by rw [Nums_size, hl']; exact T.size) (by rw [Nums_size, Nums_size, hl, hl']) (Nums_one _ _)
theorem wpListIn_load_arr (T : ArrT P t e k n) (hgd : o.guard = none) (x : Operand) (ho : o.op = .load t x) (hx : a.eval x = .pointer (some ⟨b, 0, none⟩)) {tb : TypeId} (h : Arr w b tb k l) (hl : l.length = n)
    (hK : wpListIn F m P ops Q rest (a.put o.dst (.agg (Nums k l))) w) : wpListIn F m P ops Q (o :: rest) a w := by
  refine wpListIn_plain hgd fun K hK' => ?_
  have hrun := run_loadAt_arr (P := P) T h hl
  unfold Oper.wpIn
  refine ⟨?_, ?_⟩
  · simp [Oper.about, ho]
  · rw [Oper.semAt_plain F _ _ (by rw [ho]; intro c hc; cases hc)]
    simp [execOp, ho, hx, hrun, Result.andThen]
    exact hK' _ _ hK
theorem wpListIn_put_arr (T : ArrT P t e k n) (hgd : o.guard = none) (x y : Operand) (ho : o.op = .store t x y) (hx : a.eval x = .pointer (some ⟨b, 0, none⟩)) {l' : List Nat} (hy : a.eval y = .agg (Nums k l')) {tb : TypeId} (h : Arr w b tb k l) (hl : l.length = n) (hl' : l'.length = n)
    (hK : ∀ w', Hid (Arr w' b tb k l') → Hid (Moves (fun j => j = b) w w') → Hid (w'.heap.size = w.heap.size) → wpListIn F m P ops Q rest (a.put o.dst undef) w') : wpListIn F m P ops Q (o :: rest) a w := by
  refine wpListIn_plain hgd fun K hK' => ?_
  have hrun := run_storeAt_arr (P := P) T h hl hl'
  unfold Oper.wpIn
  refine ⟨?_, ?_⟩
  · simp [Oper.about, ho]
  · rw [Oper.semAt_plain F _ _ (by rw [ho]; intro c hc; cases hc)]
    simp [execOp, ho, hx, hy, hrun, Result.andThen]
    exact hK' _ _ (hK _ (Lib.hid (h.store_moves l').1) (Lib.hid (h.store_moves l').2.1) (Lib.hid (h.store_moves l').2.2))
end

end Go.Proofs.Ytpaekofdmfhchaa
