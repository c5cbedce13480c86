import Derived.Test.YtfkfkmdnffpcmaaArrEq
import Derived.Test.YtfkfkmdnffpcmaaAesRow
namespace Go.Proofs.Ytfkfkmdnffpcmaa
open Go.RowKit

section
variable {P : Program} {t e : TypeId} {k : IntKind}
theorem info_some {i : TypeDesc} (h : P.underlying e = some i) : ∃ i, P.info? e = some i := by
  unfold Program.underlying at h
  cases hq : P.info? e with
  | none => simp [hq] at h
  | some i => exact ⟨i, rfl⟩
theorem run_eqItems_dec (he : P.underlying e = some (.int k)) (ce : P.cellsOf e = 1) (l l' : List Nat) (w : World) (d : Nat) :
    ∀ is : List Nat, (∀ i ∈ is, i < l.length ∧ i < l'.length) → (Op.eqItems (d + 1) e (P.cellsOf e) (Nums k l) (Nums k l') is).run P w = .ok (is.all fun i => l[i]? == l'[i]?) w
  | [], _ => by simp [Op.eqItems]
  | i :: is, h => by
    obtain ⟨hi, hi'⟩ := h i (by simp)
    have hag : (isAgg e).run P w = .ok false w := by unfold isAgg; rw [Sem.run_bind, run_underlying he]; rfl
    have hp : (part e (Nums k l) i).run P w = .ok (.int k (l[i] : Int)) w := by simp [part, Sem.run_bind, hag, Nums_get hi]
    have hp' : (part e (Nums k l') i).run P w = .ok (.int k (l'[i] : Int)) w := by simp [part, Sem.run_bind, hag, Nums_get hi']
    have ih := run_eqItems_dec he ce l l' w d is (fun j hj => h j (by simp [hj]))
    rw [ce] at ih ⊢
    simp only [Op.eqItems, Sem.run_bind, Nat.mul_one, hp, hp', Result.andThen_ok, run_equalIn_int w d e k k _ _ he]
    by_cases hq : l[i] = l'[i]
    · simp [hq, ih, List.getElem?_eq_getElem hi, List.getElem?_eq_getElem hi']
    · have h1 : ¬ (l[i] : Int) = (l'[i] : Int) := by omega
      simp [hq, h1, List.getElem?_eq_getElem hi, List.getElem?_eq_getElem hi']
/-- Two arrays are equal where their numbers are. -/
theorem run_equalIn_dec {n : Nat} (T : ArrT P t e k n) (ce : P.cellsOf e = 1) {l l' : List Nat} (hl : l.length = n) (hl' : l'.length = n) (d : Nat) (w : World) : (Op.equalIn (d + 2) t (.agg (Nums k l)) (.agg (Nums k l'))).run P w = .ok (decide (l = l')) w := by
  obtain ⟨i, hi⟩ := info_some T.elem
  rw [run_equalIn_array w (d + 1) _ _ T.under hi, run_eqItems_dec T.elem ce l l' w d _ (fun j hj => by have := List.mem_range.1 hj; omega)]
  congr 1
  rw [Bool.eq_iff_iff, List.all_eq_true, decide_eq_true_iff]
  constructor
  · intro h
    apply List.ext_getElem?
    intro j
    rcases Nat.lt_or_ge j n with hj | hj
    · simpa using h j (List.mem_range.2 hj)
    · rw [List.getElem?_eq_none (by omega), List.getElem?_eq_none (by omega)]
  · intro h j _
    rw [h]
    simp
theorem run_eqItems_rows {e2 : TypeId} {n2 m n : Nat} (T2 : ArrT P e e2 k n2) (ce2 : P.cellsOf e2 = 1) (ce : P.cellsOf e = n2) (l : List Nat) (hl : l.length = m * n2) (w : World) (d : Nat) :
    ∀ is : List Nat, (∀ i ∈ is, i < m) → (Op.eqItems (d + 2) e (P.cellsOf e) (Nums k l) (Nums k l) is).run P w = .ok true w
  | [], _ => by simp [Op.eqItems]
  | i :: is, h => by
    have hi : i < m := h i (by simp)
    have hag : (isAgg e).run P w = .ok true w := by unfold isAgg; rw [Sem.run_bind, run_underlying T2.under]; rfl
    have hsz : (sizeOf e).run P w = .ok n2 w := sizeOf_info T2.size w
    have hle : i * n2 + n2 ≤ l.length := by
      rw [hl, ← Nat.succ_mul]
      exact Nat.mul_le_mul_right _ hi
    have hext : (Nums k l).extract (i * n2) (i * n2 + n2) = Nums k ((l.drop (i * n2)).take n2) := by
      simp [Nums, List.map_take, List.map_drop]
    have hp : (part e (Nums k l) (i * n2)).run P w = .ok (.agg (Nums k ((l.drop (i * n2)).take n2))) w := by simp [part, Sem.run_bind, hag, hsz, hext]
    have ih := run_eqItems_rows (n := n) T2 ce2 ce l hl w d is (fun j hj => h j (by simp [hj]))
    rw [ce] at ih ⊢
    have hq := run_equalIn_dec T2 ce2 (l := (l.drop (i * n2)).take n2) (l' := (l.drop (i * n2)).take n2) (by simp; omega) (by simp; omega) d w
    simp only [Op.eqItems, Sem.run_bind, hp, Result.andThen_ok, hq]
    simpa using ih
/-- An array of arrays is equal to itself. -/
theorem run_equalIn_rows {e2 : TypeId} {n2 m n : Nat} (T : ArrW P t e m n) (T2 : ArrT P e e2 k n2) (ce2 : P.cellsOf e2 = 1) (ce : P.cellsOf e = n2) {l : List Nat} (hl : l.length = m * n2) (w : World) : (Op.equalIn 10000 t (.agg (Nums k l)) (.agg (Nums k l))).run P w = .ok true w := by
  obtain ⟨i, hi⟩ := info_some T2.under
  rw [show (10000 : Nat) = 9999 + 1 from rfl, run_equalIn_array w 9999 _ _ T.under hi]
  exact run_eqItems_rows (n := n) T2 ce2 ce l hl w 9997 _ (fun j hj => List.mem_range.1 hj)
end

end Go.Proofs.Ytfkfkmdnffpcmaa
