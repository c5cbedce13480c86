/-
  A region that draws its order, where two operations may come up at once: both ways are walked, and what comes behind them is walked once. No program is named here.
-/
import Derived.Test.YtfkfkmdnffpcmaaHeldK
namespace Go.Proofs.Ytfkfkmdnffpcmaa
open Go.RowKit

section
variable {P : Program} {ops : Array Oper} {Q : Exit → Act → World → Prop} {md : Region.Mode} {S : World → Prop}
/-- Two may come up. -/
theorem wpAnyH_twoD {i j : Nat} {o p : Oper} {fuel : Nat} {listed : Array Bool} {a : Act} {w : World} (hr : Region.ready md ops listed = [i, j]) (ho : ops[i]? = some o) (hp : ops[j]? = some p)
    (h : ∀ K' : Act → World → Prop, Shut (∀ a w, S w → wpAnyH P md ops Q S fuel (listed.setIfInBounds i true) a w → K' a w) → if Region.wanted o (yielded ops a.tmps) = true then Oper.wp P o a w K' Q else K' (a.put o.dst undef) w)
    (h2 : ∀ K' : Act → World → Prop, Shut (∀ a w, S w → wpAnyH P md ops Q S fuel (listed.setIfInBounds j true) a w → K' a w) → if Region.wanted p (yielded ops a.tmps) = true then Oper.wp P p a w K' Q else K' (a.put p.dst undef) w) :
    wpAnyH P md ops Q S (fuel + 1) listed a w := by
  refine ⟨fun h0 => (by rw [hr] at h0; cases h0), fun l hl => ?_⟩
  rw [hr] at hl
  simp only [List.mem_cons, List.not_mem_nil, or_false] at hl
  rcases hl with rfl | rfl
  · exact wpOp_step ho (fun K' hK => h K' (fun a w hS hW => hK a w ⟨hS, hW⟩))
  · exact wpOp_step hp (fun K' hK => h2 K' (fun a w hS hW => hK a w ⟨hS, hW⟩))
/-- A new array of zeros. -/
theorem stepE_alloc {o : Oper} {a : Act} {w : World} {K : Act → World → Prop} {E : Prop} {k : IntKind} (d : Option Tmp) (hd : o.dst = d) (hg : o.guard = none) (t : TypeId) (ho : o.op = .alloc t) (n : Nat) (hz : (P.info? t).map (fun i => (i.zero, i.size)) = some (some (.agg (Nums k (Zs n))), n))
    (hK : ∀ w' g, Hid (g = w.heap.size) → Hid (Arr w' g t k (Zs n)) → Hid (Below w.heap.size w w') → K (a.put d (.pointer (some ⟨g, 0, none⟩))) w') : if Region.wanted o (yielded ops a.tmps) = true then Oper.wp P o a w K Q else E := by
  subst hd
  rw [if_pos (by simp [Region.wanted, hg])]
  have hq := hK (w.alloc (.cells (Nums k (Zs n)) t)) _ (Lib.hid rfl) (Lib.hid Arr.new) (Lib.hid ((Below.refl _ _).alloc (Nat.le_refl _) _))
  have hz0 := (zero_of_info hz).1
  unfold Oper.wp execOp
  simp only [ho, Instr.alloc, hz0, Sem.run_bind, newVar, newRow, run_newObj_alloc, Sem.run_pure, Result.andThen_ok]
  exact hq
/-- A call by its contract, whatever value it answers. -/
theorem stepE_callV {fn : Func} {c : Code} {o : Oper} {a : Act} {w : World} {K : Act → World → Prop} {E : Prop} (d : Option Tmp) (hd : o.dst = d) (hw : Region.wanted o (yielded ops a.tmps) = true) (f : FuncId) (hf : P.funcs[f]? = some fn) (hname : (fn.name == "runtime.NumGoroutine") = false) (hb : fn.body = some c) (xs : Array Operand) (ts : Array TypeId)
    (ho : o.op = .call { callee := .value (.func f), args := xs, argTypes := ts }) (args : List Value) (hx : xs.toList.map a.eval = args) {R : Value → World → Prop}
    (hc : Calls P f args.toArray w fun e w' => ∃ v, e = .returned v ∧ R v w') (hK : ∀ v w', R v w' → K (a.put d v) w') : if Region.wanted o (yielded ops a.tmps) = true then Oper.wp P o a w K Q else E := by
  subst hd
  rw [if_pos hw]
  unfold Oper.wp
  subst hx
  have hr := run_enter hf hname hb (xs.map a.eval) w
  have e : (xs.toList.map a.eval).toArray = xs.map a.eval := by rw [← Array.toList_map, Array.toArray_toList]
  rw [e] at hc
  simp [execOp, ho, resolve, go_sem, hr]
  refine hc.mono ?_
  rintro e w' ⟨v, rfl, h⟩
  exact hK v w' h
/-- 'make([]byte, n)', as an array. -/
theorem stepE_make {o : Oper} {a : Act} {w : World} {K : Act → World → Prop} {E : Prop} (d : Option Tmp) (hd : o.dst = d)
    (hg : o.guard = none) (l c : Operand) (t : TypeId) (hop : o.op = Op.makeSlice t l c) (e : TypeId)
    (h1 : P.underlying t = some (.slice e)) (h2 : (P.info? e).map (fun i => (i.zero, i.size, i.bytes)) = some (some (.int .u8 0), 1, 1))
    (n : Nat) (hl : a.eval l = .int .i64 (n : Int)) (hc : a.eval c = .int .i64 (n : Int)) (hm : n ≤ 281474976710656)
    (hK : ∀ w' g, Hid (g = w.heap.size) → Hid (Arr w' g e .u8 (Zs n)) → Hid (Below w.heap.size w w') → K (a.put d (.slice (some ⟨g, 0, none⟩) n n)) w') : if Region.wanted o (yielded ops a.tmps) = true then Oper.wp P o a w K Q else E := by
  subst hd
  rw [if_pos (by simp [Region.wanted, hg])]
  obtain ⟨i0, hi, hz0, hz1, hz2⟩ := info_parts h2
  have hr := run_make (P := P) w t e i0 (.int .u8 0) h1 hi hz0 .i64 .i64 n n (by omega) (by omega) (by rw [hz2]; omega) (by omega)
  simp only [Int.toNat_natCast, hz1, Nat.mul_one] at hr
  have hcells : madeCells (Value.int .u8 0).cells n = Nums .u8 (Zs n) := by
    apply Array.toList_inj.1
    rw [show Nums .u8 (Zs n) = (List.replicate n (Value.int .u8 0)).toArray by simp [Nums, Zs]]
    exact toList_madeCells_one _ _
  have hq := hK (w.alloc (.cells (madeCells (Value.int .u8 0).cells n) e)) w.heap.size (Lib.hid rfl) (Lib.hid (by rw [hcells]; exact Arr.new)) (Lib.hid ((Below.refl _ _).alloc (Nat.le_refl _) _))
  unfold Oper.wp
  simp [execOp, hop, hl, hc, hr, Result.andThen]
  exact hq
/-- What a region ends in, whatever the order: a frame by a letter, and what is known of it. -/
theorem wp_region_to {β : Type} {id : Nat} {a : Act} {w : World} (V : β → Act → Act) (F : β → World → Prop) (h : (Code.region id ops true).wp P (fun e a' w' => e = .normal ∧ ∃ g, a' = V g a ∧ F g w') a w) (hK : ∀ g w', F g w' → Q .normal (V g a) w') : (Code.region id ops true).wp P Q a w :=
  Code.wp_mono (fun e a' w' ⟨he, g, ha, hF⟩ => by subst he ha; exact hK g w' hF) h
end

end Go.Proofs.Ytfkfkmdnffpcmaa
