/-
  A region that draws its order, whose last operation stores into a variable that was loaded: the condition on the world is asked behind every operation but the last one. No program is named here.
-/
import Derived.OrdersHeld
import Derived.StillTail
import Derived.Deep.RegionHeld
import Derived.Deep.MidRow
import Derived.Test.YtfkfkmdnffpcmaaAesMem
namespace Go.Proofs.Ytfkfkmdnffpcmaa
open Go.RowKit

section
variable {P : Program} {ops : Array Oper} {Q : Exit → Act → World → Prop} {md : Region.Mode} {S : World → Prop} {n : Nat}
/-- All orders of what is left: S is owed behind each operation until number n has come up. -/
def wpAnyE (P : Program) (md : Region.Mode) (ops : Array Oper) (Q : Exit → Act → World → Prop) (S : World → Prop) (n : Nat) : Nat → Array Bool → Act → World → Prop
  | 0, listed, a, w => Region.ready md ops listed = [] ∧ Q .normal a w
  | fuel + 1, listed, a, w =>
    (Region.ready md ops listed = [] → Q .normal a w) ∧
    ∀ i ∈ Region.ready md ops listed, wpOp P ops Q i (fun a' w' => ((listed.setIfInBounds i true).getD n false = true ∨ S w') ∧ wpAnyE P md ops Q S n fuel (listed.setIfInBounds i true) a' w') a w

theorem wpAny_of_ends : ∀ (fuel : Nat) (listed : Array Bool) (a : Act) (w : World), wpAnyE P md ops Q S n fuel listed a w → wpAny P md ops Q fuel listed a w
  | 0, _, _, _, h => h
  | fuel + 1, _, _, _, h => ⟨h.1, fun i hi => wpOp_mono (fun a' w' h' => wpAny_of_ends fuel _ a' w' h'.2) (h.2 i hi)⟩

/-- Who waits for one that may come up can't come up yet. -/
theorem waits_not {i j : Nat} {listed : Array Bool} (hi : i ∈ Region.ready md ops listed) (hj : j ∈ Region.ready md ops listed) : Region.waitsFor md ops j i = false := by
  cases hq : Region.waitsFor md ops j i with
  | false => rfl
  | true =>
    obtain ⟨o, ho, e, he, hb, rfl⟩ := Region.waitsFor_spec hq
    obtain ⟨_, o', ho', hall⟩ := mem_ready.1 hj
    obtain rfl : o = o' := by rw [ho] at ho'; exact Option.some.inj ho'
    have h1 := hall e he hb
    have h2 := getD_both (mem_ready.1 hi).1
    rw [h2] at h1
    cases h1
/-- What has not come up, and does not wait for i, has nothing to do with it. -/
def Loose (md : Region.Mode) (ops : Array Oper) (i : Nat) (oi : Oper) (listed : Array Bool) : Prop :=
  ∀ j oj, ops[j]? = some oj → j ≠ i → listed.getD j true = false → Region.waitsFor md ops j i = false → oi.apart ops oj = true
theorem Loose.of_free {i : Nat} {oi : Oper} {listed : Array Bool} (hi : ops[i]? = some oi) (h : Region.free md ops listed i = true) : Loose md ops i oi listed := fun j oj hj hne hun hno =>
  Region.free_spec hi h j oj hj hne hun fun e he hb hon => by
    have : Region.waitsFor md ops j i = true := by
      unfold Region.waitsFor
      rw [hj]
      exact Array.any_eq_true'.2 ⟨e, he, by simp [hb, hon]⟩
    rw [hno] at this
    cases this
theorem Loose.later {i k : Nat} {oi : Oper} {listed : Array Bool} (h : Loose md ops i oi listed) (hk : listed.getD k true = false) : Loose md ops i oi (listed.setIfInBounds k true) := fun j oj hj hne hun hno => by
  by_cases e : k = j
  · rw [← e] at hj hne hno
    exact h k oj hj hne hk hno
  · rw [getD_set_ne true e] at hun
    exact h j oj hj hne hun hno

/-- One that yields under S may be taken first, if the last one waits for it. -/
theorem wpAnyE_first {i : Nat} {oi : Oper} {v : Value} (hi : ops[i]? = some oi) (hsel : ∀ (j : Nat) (o : Oper) cs b, ops[j]? = some o → o.op ≠ .select cs b)
    (hQ : ∀ c a w, Q (.panic c) (a.put oi.dst v) w → Q (.panic c) a w) (hwait : Region.waitsFor md ops n i = true) (hin : i ≠ n) (fuel : Nat) :
    ∀ (listed : Array Bool) (a : Act) (w : World), Loose md ops i oi listed → i ∈ Region.ready md ops listed → listed.getD n true = false → YieldsIf P ops S oi v a → S w →
      wpAnyE P md ops Q S n fuel (listed.setIfInBounds i true) (a.put oi.dst v) w → wpAnyE P md ops Q S n (fuel + 1) listed a w := by
  induction fuel with
  | zero =>
    intro listed a w _ hr _ hy hS hrest
    constructor
    · intro h0
      rw [h0] at hr
      cases hr
    · intro j hj
      rcases Nat.decEq j i with hji | hji
      · have h1 := ready_mono hj hji
        rw [hrest.1] at h1
        cases h1
      · rw [hji]
        exact hy.wpOp hi hS ⟨.inr hS, hrest⟩
  | succ fuel ih =>
    intro listed a w hloose hr hn hy hS hrest
    constructor
    · intro h0
      rw [h0] at hr
      cases hr
    · intro j hj
      rcases Nat.decEq j i with hji | hji
      · obtain ⟨hun, oj, hoj, _⟩ := mem_ready.1 hj
        have hjn : n ≠ j := fun e => by
          have h1 := waits_not hr hj
          rw [← e, hwait] at h1
          cases h1
        have hap := hloose j oj hoj hji hun (waits_not hr hj)
        have hstep := wpOp_putIf hoj hap (fun cs b => hsel i oi cs b hi) (fun cs b => hsel j oj cs b hoj) hQ hy (hrest.2 j (ready_mono hj hji))
        refine wpOp_mono ?_ hstep
        rintro a' w' ⟨hy', hS1, hrest'⟩
        have hS' : S w' := hS1.resolve_left fun h1 => by
          rw [getD_set_ne false (Ne.symm hjn), getD_set_ne false hin, getD_both hn] at h1
          cases h1
        rw [Array.setIfInBounds_comm _ _ (Ne.symm hji)] at hrest'
        exact ⟨.inr hS', ih _ a' w' (hloose.later hun) (ready_mono hr (Ne.symm hji)) (by rw [getD_set_ne true (Ne.symm hjn)]; exact hn) hy' hS' hrest'⟩
      · rw [hji]
        exact hy.wpOp hi hS ⟨.inr hS, hrest⟩

/-- Number i is taken first. -/
theorem wpAnyE_take {i : Nat} {oi : Oper} {v : Value} {fuel : Nat} {listed : Array Bool} {a : Act} {w : World} (d : Option Tmp) (hd : oi.dst = d) (hi : ops[i]? = some oi)
    (hs : (Region.waitsFor md ops n i && Region.noSelect ops && Region.free md ops listed i && (Region.ready md ops listed).contains i && !(listed.getD n true) && !(i == n)) = true)
    (hQ : ∀ c a w, Q (.panic c) (a.put oi.dst v) w → Q (.panic c) a w) (hy : YieldsIf P ops S oi v a) (hS : S w)
    (h : wpAnyE P md ops Q S n fuel (listed.setIfInBounds i true) (a.put d v) w) : wpAnyE P md ops Q S n (fuel + 1) listed a w := by
  subst hd
  simp only [Bool.and_eq_true, Bool.not_eq_true', beq_eq_false_iff_ne] at hs
  obtain ⟨⟨⟨⟨⟨h1, h2⟩, h3⟩, h4⟩, h5⟩, h6⟩ := hs
  exact wpAnyE_first hi (Region.noSelect_spec h2) hQ h1 h6 fuel listed a w (.of_free hi h3) (by simpa using h4) h5 hy hS h
/-- Just one may come up. -/
theorem wpAnyE_one {i : Nat} {o : Oper} {fuel : Nat} {listed : Array Bool} {a : Act} {w : World} (hr : Region.ready md ops listed = [i]) (ho : ops[i]? = some o)
    (h : ∀ K' : Act → World → Prop, Shut (∀ a w, ((listed.setIfInBounds i true).getD n false = true ∨ S w) → wpAnyE P md ops Q S n fuel (listed.setIfInBounds i true) a w → K' a w) → if Region.wanted o (yielded ops a.tmps) = true then Oper.wp P o a w K' Q else K' (a.put o.dst undef) w) :
    wpAnyE P md ops Q S n (fuel + 1) listed a w := by
  refine ⟨fun h0 => (by rw [hr] at h0; cases h0), fun j hj => ?_⟩
  rw [hr, List.mem_singleton] at hj
  subst hj
  exact wpOp_step ho (fun K' hK => h K' (fun a w hS hW => hK a w ⟨hS, hW⟩))
theorem wpAnyE_done {fuel : Nat} {listed : Array Bool} {a : Act} {w : World} (hr : Region.ready md ops listed = []) (h : Q .normal a w) : wpAnyE P md ops Q S n fuel listed a w := by
  cases fuel with
  | zero => exact ⟨hr, h⟩
  | succ fuel => exact ⟨fun _ => h, by rw [hr]; simp⟩
theorem wp_region_ends {id : Nat} {a : Act} {w : World} (S : World → Prop) (n : Nat) (hm : P.follows .mixedOrders = true)
    (h : wpAnyE P .any ops Q S n ops.size (Array.replicate ops.size false) a w.drew) : (Code.region id ops true).wp P Q a w :=
  wp_region_any hm (wpAny_of_ends _ _ _ _ h)

/-- A load of a whole array yields, where S says what stands there. -/
theorem yields_arr {o : Oper} {a : Act} {t : TypeId} {k : IntKind} {l : List Nat} {b off : Nat} {d : TypeDesc} (hw : Region.wanted o (yielded ops a.tmps) = true) (x : Operand) (ho : o.op = .load t x)
    (hx : a.eval x = .pointer (some ⟨b, off, none⟩)) (hS : ∀ w, S w → w.rangeAt b off (l.map fun (n : Nat) => Value.int k (n : Int))) (hu : P.underlying t = some d) (hd : d.isRow = true) (hi : (P.info? t).map (·.size) = some l.length) :
    YieldsIf P ops S o (.agg (Nums k l)) a :=
  yieldsIf_load_mid hw t x ho b off hx _ d hS hu hd (by rw [List.length_map]; exact hi)

theorem run_enter {f : FuncId} {fn : Func} {c : Code} (hf : P.funcs[f]? = some fn) (hname : (fn.name == "runtime.NumGoroutine") = false) (hb : fn.body = some c) (args : Array Value) (w : World) :
    (callFunc f args).run P w = .ok (.enter f args) w := by
  simp [callFunc, hf, hb, Sem.run_bind]
  simp_all
/-- A call by its contract. -/
theorem stepE_call {fn : Func} {c : Code} {o : Oper} {a : Act} {w : World} {K : Act → World → Prop} {E : Prop} (d : Option Tmp) (hd : o.dst = d) (hgd : o.guard = none) (f : FuncId) (hf : P.funcs[f]? = some fn) (hname : (fn.name == "runtime.NumGoroutine") = false) (hb : fn.body = some c) (xs : Array Operand) (ts : Array TypeId)
    (ho : o.op = .call { callee := .value (.func f), args := xs, argTypes := ts }) (args : List Value) (hx : xs.toList.map a.eval = args) {v : Value} {R : World → Prop}
    (hc : Calls P f args.toArray w fun e w' => e = .returned v ∧ R w') (hK : ∀ w', R w' → K (a.put d v) w') : if Region.wanted o (yielded ops a.tmps) = true then Oper.wp P o a w K Q else E := by
  subst hd
  rw [if_pos (by simp [Region.wanted, hgd])]
  unfold Oper.wp
  subst hx
  have hr := run_enter hf hname hb (xs.map a.eval) w
  have e : (xs.toList.map a.eval).toArray = xs.map a.eval := by rw [← Array.toList_map, Array.toArray_toList]
  rw [e] at hc
  simp [execOp, ho, resolve, go_sem, hr]
  refine hc.mono ?_
  rintro e w' ⟨rfl, h⟩
  exact hK w' h
/-- A store of a whole array. -/
theorem stepE_put {o : Oper} {a : Act} {w : World} {K : Act → World → Prop} {E : Prop} {t e : TypeId} {k : IntKind} {l l' : List Nat} {b m : Nat} (T : ArrT P t e k m) (d : Option Tmp) (hd : o.dst = d) (hgd : o.guard = none) (x y : Operand) (ho : o.op = .store t x y) (hx : a.eval x = .pointer (some ⟨b, 0, none⟩)) (hy : a.eval y = .agg (Nums k l')) {tb : TypeId} (h : Arr w b tb k l) (hl : l.length = m) (hl' : l'.length = m)
    (hK : ∀ w', Hid (Arr w' b tb k l') → Hid (Moves (fun j => j = b) w w') → Hid (w'.heap.size = w.heap.size) → K (a.put d undef) w') : if Region.wanted o (yielded ops a.tmps) = true then Oper.wp P o a w K Q else E := by
  subst hd
  rw [if_pos (by simp [Region.wanted, hgd])]
  unfold Oper.wp
  have hrun : (Instr.storeAt t (.pointer (some ⟨b, 0, none⟩)) (.agg (Nums k l'))).run P w = .ok () (w.setRow b (Nums k l')) := by
    simp only [Instr.storeAt, Instr.sureAddr, Sem.run_bind, Sem.run_pure, Result.andThen_ok]
    exact run_storeVar_row w b tb t (Nums k l) (Nums k l') h (by rw [Nums_size, hl']; exact T.size) (by rw [Nums_size, Nums_size, hl, hl']) (Nums_one _ _)
  simp [execOp, ho, hx, hy, hrun, Result.andThen, Oper.upon]
  exact hK _ (Lib.hid (h.store_moves l').1) (Lib.hid (h.store_moves l').2.1) (Lib.hid (h.store_moves l').2.2)

end
end Go.Proofs.Ytfkfkmdnffpcmaa
