/-
  An array is equal to itself. No program is named here.
-/
import Derived.Test.YtfkfkmdnffpcmaaArrIndex
import Derived.ChangeKeysEq
import Derived.Laws.StructEq
namespace Go.Proofs.Ytfkfkmdnffpcmaa
open Go.RowKit

theorem run_eqItems_same {P : Program} {e : TypeId} {k : IntKind} (he : P.underlying e = some (.int k)) (ce : P.cellsOf e = 1) (l : List Nat) (w : World) (d : Nat) :
    ∀ is : List Nat, (∀ i ∈ is, i < l.length) → (Op.eqItems (d + 1) e (P.cellsOf e) (Nums k l) (Nums k l) is).run P w = .ok true w
  | [], _ => by simp [Op.eqItems]
  | i :: is, h => by
    have hi : i < l.length := h i (by simp)
    have hag : (isAgg e).run P w = .ok false w := by unfold isAgg; rw [Sem.run_bind, run_underlying he]; rfl
    have hp : (part e (Nums k l) i).run P w = .ok (.int k (l[i] : Int)) w := by
      simp [part, Sem.run_bind, hag, Nums_get hi]
    have ih := run_eqItems_same he ce l w d is (fun j hj => h j (by simp [hj]))
    rw [ce] at ih ⊢
    simp only [Op.eqItems, Sem.run_bind, Nat.mul_one, hp, Result.andThen_ok, run_equalIn_int w d e k k _ _ he]
    simpa using ih
theorem run_equalIn_same {P : Program} {t e : TypeId} {k : IntKind} {n : Nat} (T : ArrT P t e k n) (ce : P.cellsOf e = 1) {l : List Nat} (hl : l.length = n) (w : World) : (Op.equalIn 10000 t (.agg (Nums k l)) (.agg (Nums k l))).run P w = .ok true w := by
  have hi : ∃ i, P.info? e = some i := by
    have h := T.elem
    unfold Program.underlying at h
    cases hq : P.info? e with
    | none => simp [hq] at h
    | some i => exact ⟨i, rfl⟩
  obtain ⟨i, hi⟩ := hi
  rw [show (10000 : Nat) = 9999 + 1 from rfl, run_equalIn_array w 9999 _ _ T.under hi]
  exact run_eqItems_same T.elem ce l w 9998 _ (fun j hj => by rw [hl]; exact List.mem_range.1 hj)

end Go.Proofs.Ytfkfkmdnffpcmaa
