import Derived.Test.YtfkfkmdnffpcmaaAesEq
import Derived.Test.YtfkfkmdnffpcmaaTakes
import Derived.Test.YtfkfkmdnffpcmaaAesRow
namespace Go.Proofs.Ytfkfkmdnffpcmaa
open Go.RowKit

section
variable {P : Program} {ops : Array Oper} {Q : Exit → Act → World → Prop} {md : Region.Mode} {S : World → Prop}
theorem wp_region_heldD {id : Nat} {a : Act} {w : World} (hm : P.follows .mixedOrders = true)
    (h : wpAnyH P .any ops Q S ops.size (Array.replicate ops.size false) a w.drew) : (Code.region id ops true).wp P Q a w := wp_region_held hm h
theorem wpAnyH_takeD {i : Nat} {oi : Oper} {v : Value} {fuel : Nat} {listed : Array Bool} {a : Act} {w : World} (d : Option Tmp) (hd : oi.dst = d) (hi : ops[i]? = some oi)
    (hs : (Region.noSelect ops && Region.free md ops listed i && (Region.ready md ops listed).contains i) = true)
    (hQ : ∀ c a w, Q (.panic c) (a.put oi.dst v) w → Q (.panic c) a w) (hy : YieldsIf P ops S oi v a) (hS : S w)
    (h : wpAnyH P md ops Q S fuel (listed.setIfInBounds i true) (a.put d v) w) : wpAnyH P md ops Q S (fuel + 1) listed a w := by
  subst hd
  simp only [Bool.and_eq_true] at hs
  exact wpAnyH_take hi hs.1.1 hs.1.2 hs.2 hQ hy hS h
theorem wpAnyH_oneD {i : Nat} {o : Oper} {fuel : Nat} {listed : Array Bool} {a : Act} {w : World} (hr : Region.ready md ops listed = [i]) (ho : ops[i]? = some o)
    (h : ∀ K' : Act → World → Prop, Shut (∀ a w, S w → wpAnyH P md ops Q S fuel (listed.setIfInBounds i true) a w → K' a w) → if Region.wanted o (yielded ops a.tmps) = true then Oper.wp P o a w K' Q else K' (a.put o.dst undef) w) :
    wpAnyH P md ops Q S (fuel + 1) listed a w := by
  refine ⟨fun h0 => (by rw [hr] at h0; cases h0), fun j hj => ?_⟩
  rw [hr, List.mem_singleton] at hj
  subst hj
  exact wpOp_step ho (fun K' hK => h K' (fun a w hS hW => hK a w ⟨hS, hW⟩))
theorem wpAnyH_doneD {fuel : Nat} {listed : Array Bool} {a : Act} {w : World} (hr : Region.ready md ops listed = []) (h : Q .normal a w) : wpAnyH P md ops Q S fuel listed a w := wpAnyH_done hr h fuel
/-- A call by its contract, guarded or not. -/
theorem stepE_callW {fn : Func} {c : Code} {o : Oper} {a : Act} {w : World} {K : Act → World → Prop} {E : Prop} (d : Option Tmp) (hd : o.dst = d) (hw : Region.wanted o (yielded ops a.tmps) = true) (f : FuncId) (hf : P.funcs[f]? = some fn) (hname : (fn.name == "runtime.NumGoroutine") = false) (hb : fn.body = some c) (xs : Array Operand) (ts : Array TypeId)
    (ho : o.op = .call { callee := .value (.func f), args := xs, argTypes := ts }) (args : List Value) (hx : xs.toList.map a.eval = args) {v : Value} {R : World → Prop}
    (hc : Calls P f args.toArray w fun e w' => e = .returned v ∧ R w') (hK : ∀ w', R w' → K (a.put d v) w') : if Region.wanted o (yielded ops a.tmps) = true then Oper.wp P o a w K Q else E := by
  subst hd
  rw [if_pos hw]
  unfold Oper.wp
  subst hx
  have hr := run_enter hf hname hb (xs.map a.eval) w
  have e : (xs.toList.map a.eval).toArray = xs.map a.eval := by rw [← Array.toList_map, Array.toArray_toList]
  rw [e] at hc
  simp [execOp, ho, resolve, go_sem, hr]
  refine hc.mono ?_
  rintro e w' ⟨rfl, h⟩
  exact hK w' h
end

/-- One array among those that stand there, as a load wants it. -/
theorem sk_range {w w' : World} {L : List (Nat × TypeId × List Nat)} {g : Nat} {t : TypeId} {l : List Nat} (h : SK w L w') (hm : (g, t, l) ∈ L) : w'.rangeAt g 0 (l.map fun (n : Nat) => Value.int .u8 (n : Int)) :=
  (Arr.range (t := t) (l := l) (h.1 (g, t, l) hm)) (fun j x hx => by rw [Nat.zero_add]; exact hx)

theorem eqg16 : Try.prog.eqGuardType Try.prog.depth 23 = false := by kernel_rfl
theorem cells16 : Try.prog.cellsOf 23 = 16 := by kernel_rfl
theorem cells8 : Try.prog.cellsOf 5 = 1 := by kernel_rfl
theorem eq16_dec {l l' : List Nat} (hl : l.length = 16) (hl' : l'.length = 16) (w : World) : (Op.equalIn 10000 23 (.agg (Nums .u8 l)) (.agg (Nums .u8 l'))).run Try.prog w = .ok (decide (l = l')) w := run_equalIn_dec arr16 cells8 hl hl' 9998 w
theorem eq16_same {l : List Nat} (hl : l.length = 16) (w : World) : (Op.equalIn 10000 23 (.agg (Nums .u8 l)) (.agg (Nums .u8 l))).run Try.prog w = .ok true w := by
  rw [eq16_dec hl hl, decide_eq_true rfl]

end Go.Proofs.Ytfkfkmdnffpcmaa
