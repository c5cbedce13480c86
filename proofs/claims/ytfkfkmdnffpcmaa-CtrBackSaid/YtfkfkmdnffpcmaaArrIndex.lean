import Derived.Test.YtfkfkmdnffpcmaaArr
import Derived.StillTailTactics
namespace Go.Proofs.Ytfkfkmdnffpcmaa
open Go.RowKit

/-- One number out of an array that is a value. -/
theorem run_index_arr {P : Program} {t e : TypeId} {k : IntKind} {n : Nat} (T : ArrT P t e k n) (hs : (P.info? e).map (·.size) = some 1) {l : List Nat} (hl : l.length = n) {j x : Nat} (hj : l[j]? = some x) (w : World) :
    (Instr.index t (.agg (Nums k l)) (.int .i64 (j : Int))).run P w = .ok (.int k (x : Int)) w := by
  obtain ⟨h1, h2⟩ := List.getElem?_eq_some_iff.1 hj
  have hag : (isAgg e).run P w = .ok false w := by unfold isAgg; rw [Sem.run_bind, run_underlying T.elem w]; rfl
  have hsz : (sizeOf e).run P w = .ok 1 w := by
    cases hq : P.info? e with
    | none => simp [hq] at hs
    | some i =>
      have : i.size = 1 := by simpa [hq] using hs
      simp [sizeOf, typeInfo, hq, this]
  have hc : (Nums k l)[j]? = some (.int k (x : Int)) := by rw [Nums_get h1, h2]
  simp [Instr.index, asIntOf, Sem.run_bind, run_underlying T.under w, hsz, part, hag, hc]
  intro h
  omega

/-- The first m of an array, one by one. -/
theorem Arr.reads {w : World} {b : Nat} {t : TypeId} {k : IntKind} {l : List Nat} (h : Arr w b t k l) (m : Nat) : ∀ j v, ((l.take m).map fun (n : Nat) => Value.int k (n : Int))[j]? = some v → w.cell? ((⟨b, 0, none⟩ : Addr).add j) = some v := by
  intro j v hj
  rw [add_flat, Nat.zero_add, cell_of_row w b j _ t (0, 0) h]
  rw [List.map_take, List.getElem?_take] at hj
  split at hj
  · simpa [Nums] using hj
  · cases hj

/-- A callee that draws nothing, in a second region that only reads. -/
theorem Calls.quiet_two {P : Program} {f : FuncId} {args : Array Value} {w : World} {a n : Nat} {v : Value}
    (h : Calls P f args (w.drewN (a + n)) fun e w' => e = .returned v ∧ w' = w.drewN (a + n)) : Calls P f args (w.drewN (a + n)) fun e w'' => e = .returned v ∧ ∃ m, w'' = w.drewN (a + m) :=
  h.mono fun _ _ ⟨he, hm⟩ => ⟨he, n, hm⟩
/-- .. that draws. -/
theorem Calls.quiet_two_of {P : Program} {f : FuncId} {args : Array Value} {w : World} {a n : Nat} {v : Value}
    (h : Calls P f args (w.drewN (a + n)) fun e w' => e = .returned v ∧ ∃ m, w' = (w.drewN (a + n)).drewN m) : Calls P f args (w.drewN (a + n)) fun e w'' => e = .returned v ∧ ∃ m, w'' = w.drewN (a + m) :=
  h.mono fun _ _ ⟨he, m, hm⟩ => ⟨he, n + m, by rw [hm, World.drewN_drewN, Nat.add_assoc]⟩

/-- What turned only block g, from g on, behind some draws. -/
theorem below_put {B g n : Nat} {w wr w' : World} (h : Below B w wr) (hB : B ≤ wr.heap.size) (hg : B ≤ g) (hm : Moves (fun k => k = g) (wr.drewN n) w') : Below B w w' :=
  (bdrewN h n).trans (hm.below (fun k hk => by omega) hB)

/-- A whole array, read in a region that draws and whose tail is forced. -/
theorem still_load_arr {P : Program} {ops : Array Oper} {rest : List Oper} {o : Oper} {a : Act} {w : World} {Q : Act → Prop} {t e : TypeId} {k : IntKind} {l : List Nat} {b n : Nat} (T : ArrT P t e k n) (hgd : o.guard = none) (x : Operand) (ho : o.op = .load t x)
    (hx : a.eval x = .pointer (some ⟨b, 0, none⟩)) {tb : TypeId} (h : Arr w b tb k l) (hl : l.length = n) (hK : wpStill P ops w Q rest (a.put o.dst (.agg (Nums k l)))) : wpStill P ops w Q (o :: rest) a := by
  refine wpStill_step (fun K hKK => ?_)
  have hw : Region.wanted o (yielded ops a.tmps) = true := by simp [Region.wanted, hgd]
  rw [if_pos hw]
  unfold Oper.still execOp
  simp only [ho, hx, Instr.loadAt, Instr.sureAddr, Sem.run_bind, Sem.run_pure, Result.andThen_ok, run_loadVar_row w b tb t (Nums k l) (0, 0) (.array n e) h T.under rfl (by rw [Nums_size, hl]; exact T.size), Oper.stillUpon_value]
  exact hKK _ hK

end Go.Proofs.Ytfkfkmdnffpcmaa
