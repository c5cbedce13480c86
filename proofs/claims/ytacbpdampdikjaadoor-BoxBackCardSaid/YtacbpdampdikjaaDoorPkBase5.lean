/-
  Some of the texts that the last one of these needs: walks of the functions that the law calls, and the mathematics of their answers.
-/
import Derived.Test.YtacbpdampdikjaaDoorPkBase4
import Derived.OrdersHeld
import Derived.StillTail
import Derived.Deep.RegionHeld
import Derived.Deep.MidRow
import Derived.Test.YtacbpdampdikjaaDoorPkBase1
import Derived.Laws.BitsAllLaws
import Derived.Test.YtacbpdampdikjaaDoorPkBase2
import Derived.Test.YtacbpdampdikjaaDoorPkBase3
import Derived.ChangeKeysEq
import Derived.Laws.StructEq
namespace Go.Proofs.YtacbpdampdikjaaDoor
open Go.RowKit

/-- A type that is an array of arrays of numbers: n cells in all. -/
structure ArrW (P : Program) (t e : TypeId) (m n : Nat) : Prop where
  under : P.underlying t = some (.array m e)
  size : (P.info? t).map (·.size) = some n

section
variable {P : Program} {ops : Array Oper} {rest : List Oper} {o : Oper} {a : Act} {w : World} {Q : Exit → Act → World → Prop} {t e : TypeId} {k : IntKind} {l : List Nat} {b m n : Nat}
theorem wp_load_w (T : ArrW P t e m n) (hgd : o.guard = none) (x : Operand) (ho : o.op = .load t x) (hx : a.eval x = .pointer (some ⟨b, 0, none⟩)) {tb : TypeId} (h : Arr w b tb k l) (hl : l.length = n)
    (hK : wpList P ops Q rest (a.put o.dst (.agg (Nums k l))) w) : wpList P ops Q (o :: rest) a w :=
  wpList_load_row hgd t x ho b hx tb (Nums k l) (0, 0) (.array m e) h T.under rfl (by rw [Nums_size, hl]; exact T.size) hK
theorem wp_put_w {l' : List Nat} (T : ArrW P t e m n) (hgd : o.guard = none) (x y : Operand) (ho : o.op = .store t x y) (hx : a.eval x = .pointer (some ⟨b, 0, none⟩)) (hy : a.eval y = .agg (Nums k l')) {tb : TypeId} (h : Arr w b tb k l) (hl : l.length = n) (hl' : l'.length = n)
    (hK : ∀ w', Hid (Arr w' b tb k l') → Hid (Moves (fun j => j = b) w w') → Hid (w'.heap.size = w.heap.size) → wpList P ops Q rest (a.put o.dst undef) w') : wpList P ops Q (o :: rest) a w :=
  wpList_store_row hgd t x y ho b (Nums k l') hx hy tb (Nums k l) h (by rw [Nums_size, hl']; exact T.size) (by rw [Nums_size, Nums_size, hl, hl']) (Nums_one _ _)
    (hK _ (Lib.hid (h.store_moves l').1) (Lib.hid (h.store_moves l').2.1) (Lib.hid (h.store_moves l').2.2))
/-- A part of an array is read. -/
theorem wp_load_part {ns : List Nat} {d : TypeDesc} (hu : P.underlying t = some d) (hd : d.isRow = true) (hi : (P.info? t).map (·.size) = some n) (hgd : o.guard = none) (x : Operand) (ho : o.op = .load t x) (off : Nat) (hx : a.eval x = .pointer (some ⟨b, off, none⟩)) {tb : TypeId} (h : Arr w b tb k l) (hn : ns.length = n)
    (hns : ∀ j x : Nat, ns[j]? = some x → l[off + j]? = some x) (hK : wpList P ops Q rest (a.put o.dst (.agg (Nums k ns))) w) : wpList P ops Q (o :: rest) a w :=
  wpList_load_mid hgd t x ho b off hx (ns.map fun (n : Nat) => Value.int k (n : Int)) d (h.range hns) hu hd (by rw [List.length_map, hn]; exact hi) hK
theorem run_indexAt_w (T : ArrW P t e m n) {s : Nat} (hs : (P.info? e).map (·.size) = some s) (i j : Nat) (z : Int) (hz : z = (i : Int)) (hi : i < m) (hj : i * s = j) (W : World) :
    (Instr.indexAt t (.pointer (some ⟨b, 0, none⟩)) (.int .i64 z)).run P W = .ok (.pointer (some ⟨b, j, none⟩)) W := by
  subst hz hj
  have hs : (sizeOf e).run P W = .ok s W := by
    cases hq : P.info? e with
    | none => simp [hq] at hs
    | some i =>
      have : i.size = s := by simpa [hq] using hs
      simp [sizeOf, typeInfo, hq, this]
  simp [Instr.indexAt, Instr.sureAddr, asIntOf, run_underlying T.under, hs, hi, add_flat, Sem.run_bind]
theorem run_slice_w (T : ArrW P t e m n) {s : Nat} (hs : (P.info? e).map (·.size) = some s) (lo hi j len cap : Nat) (h1 : lo ≤ hi) (h2 : hi ≤ m) (h3 : lo < m) (hj : lo * s = j) (hl : hi - lo = len) (hc : m - lo = cap) (W : World) :
    (Instr.sliceAt t (.pointer (some ⟨b, 0, none⟩)) (some (.int .i64 (lo : Int))) (some (.int .i64 (hi : Int))) none).run P W = .ok (.slice (some ⟨b, j, none⟩) len cap) W := by
  subst hj hl hc
  have hs : (sizeOf e).run P W = .ok s W := by
    cases hq : P.info? e with
    | none => simp [hq] at hs
    | some i =>
      have : i.size = s := by simpa [hq] using hs
      simp [sizeOf, typeInfo, hq, this]
  have hne : m ≠ lo := by omega
  simp [Instr.sliceAt, Instr.sureAddr, run_underlying T.under, Instr.sliceBounds, run_sliceBound, hs, h1, h2, hne, add_flat, Sem.run_bind]
theorem run_indexAt_row (hu : P.underlying t = some (.slice e)) {s : Nat} (hs : (P.info? e).map (·.size) = some s) (off len cap i j : Nat) (z : Int) (hz : z = (i : Int)) (hi : i < len) (hj : off + i * s = j) (W : World) :
    (Instr.indexAt t (.slice (some ⟨b, off, none⟩) len cap) (.int .i64 z)).run P W = .ok (.pointer (some ⟨b, j, none⟩)) W := by
  subst hz hj
  have hs : (sizeOf e).run P W = .ok s W := by
    cases hq : P.info? e with
    | none => simp [hq] at hs
    | some i =>
      have : i.size = s := by simpa [hq] using hs
      simp [sizeOf, typeInfo, hq, this]
  simp [Instr.indexAt, asIntOf, run_underlying hu, hs, hi, add_flat, Sem.run_bind]
end

/-- The arrays that stand there, and what was there ahead. -/
def SK (w : World) (L : List (Nat × TypeId × List Nat)) (w' : World) : Prop := (∀ x ∈ L, Arr w' x.1 x.2.1 .u8 x.2.2) ∧ Below w.heap.size w w'
section
variable {w w' w2 : World} {L M : List (Nat × TypeId × List Nat)} {g : Nat} {t : TypeId} {l l' : List Nat}
theorem sk_drewN (h : SK w L w') (n : Nat) : SK w L (w'.drewN n) := ⟨h.1, bdrewN h.2 n⟩
theorem sk_below (h : SK w L w') (hb : Below w'.heap.size w' w2) : SK w L w2 := ⟨fun x hx => (h.1 x hx).below hb (h.1 x hx).lt, abon h.2 hb⟩
theorem sk_cons (h : SK w L w') (hA : Arr w' g t .u8 l) : SK w ((g, t, l) :: L) w' := ⟨fun x hx => by
  rcases List.mem_cons.1 hx with rfl | hx
  · exact hA
  · exact h.1 x hx, h.2⟩
theorem sk_put (h : SK w ((g, t, l) :: L) w') (hm : Moves (fun j => j = g) w' w2) (hA : Arr w2 g t .u8 l') (hne : ∀ x ∈ L, x.1 ≠ g) (hg : w.heap.size ≤ g) : SK w ((g, t, l') :: L) w2 :=
  ⟨fun x hx => by
    rcases List.mem_cons.1 hx with rfl | hx
    · exact hA
    · exact (h.1 x (List.mem_cons_of_mem _ hx)).moves hm (hne x hx), h.2.trans (hm.below (fun j hj => by rw [hj]; exact hg) h.2.size)⟩
theorem sk_keep (h : SK w L w') (hm : Moves (fun j => j = g) w' w2) (hne : ∀ x ∈ L, x.1 ≠ g) (hg : w.heap.size ≤ g) : SK w L w2 :=
  ⟨fun x hx => (h.1 x hx).moves hm (hne x hx), h.2.trans (hm.below (fun j hj => by rw [hj]; exact hg) h.2.size)⟩
theorem sk_sub (h : SK w L w') (hs : ∀ x ∈ M, x ∈ L) : SK w M w' := ⟨fun x hx => h.1 x (hs x hx), h.2⟩
theorem sk_hd (h : SK w ((g, t, l) :: L) w') : Arr w' g t .u8 l := h.1 _ (List.mem_cons_self ..)
theorem sk_set (h : SK w ((g, t, l) :: L) w') (hne : ∀ x ∈ L, x.1 ≠ g) (hg : w.heap.size ≤ g) (j x : Nat) : SK w ((g, t, l.set j x) :: L) (w'.setCell ⟨g, j, none⟩ (.int .u8 (x : Int))) :=
  ⟨fun y hy => by
    rcases List.mem_cons.1 hy with rfl | hy
    · exact (sk_hd h).set
    · exact (h.1 y (List.mem_cons_of_mem _ hy)).other (hne y hy), h.2.setCell hg _⟩
end

theorem akeyAt_get {k : List UInt8} {i : Nat} : ∀ j x : Nat, (abn (akeyAt k i))[j]? = some x → (abn k)[16 * i + j]? = some x := by
  intro j x h
  unfold abn akeyAt at h
  rw [List.map_take, List.map_drop, List.getElem?_take] at h
  split at h
  · rw [List.getElem?_drop] at h
    exact h
  · cases h

theorem arrKeys : ArrW Tryd.prog 63 49 15 240 := ⟨by kernel_rfl, by kernel_rfl⟩
theorem arrKeysR : ArrW Tryd.prog 51 49 15 240 := ⟨by kernel_rfl, by kernel_rfl⟩
theorem info_16 : (Tryd.prog.info? 49).map (·.size) = some 16 := by kernel_rfl

end Go.Proofs.YtacbpdampdikjaaDoor

/-
  A region that draws its order, whose last operation stores into a variable that was loaded: the condition on the world is asked behind every operation but the last one. No program is named here.
-/
namespace Go.Proofs.YtacbpdampdikjaaDoor
open Go.RowKit

section
variable {P : Program} {ops : Array Oper} {Q : Exit → Act → World → Prop} {md : Region.Mode} {S : World → Prop} {n : Nat}
/-- All orders of what is left: S is owed behind each operation until number n has come up. -/
def wpAnyE (P : Program) (md : Region.Mode) (ops : Array Oper) (Q : Exit → Act → World → Prop) (S : World → Prop) (n : Nat) : Nat → Array Bool → Act → World → Prop
  | 0, listed, a, w => Region.ready md ops listed = [] ∧ Q .normal a w
  | fuel + 1, listed, a, w =>
    (Region.ready md ops listed = [] → Q .normal a w) ∧
    ∀ i ∈ Region.ready md ops listed, wpOp P ops Q i (fun a' w' => ((listed.setIfInBounds i true).getD n false = true ∨ S w') ∧ wpAnyE P md ops Q S n fuel (listed.setIfInBounds i true) a' w') a w

theorem wpAny_of_ends : ∀ (fuel : Nat) (listed : Array Bool) (a : Act) (w : World), wpAnyE P md ops Q S n fuel listed a w → wpAny P md ops Q fuel listed a w
  | 0, _, _, _, h => h
  | fuel + 1, _, _, _, h => ⟨h.1, fun i hi => wpOp_mono (fun a' w' h' => wpAny_of_ends fuel _ a' w' h'.2) (h.2 i hi)⟩

/-- Who waits for one that may come up can't come up yet. -/
theorem waits_not {i j : Nat} {listed : Array Bool} (hi : i ∈ Region.ready md ops listed) (hj : j ∈ Region.ready md ops listed) : Region.waitsFor md ops j i = false := by
  cases hq : Region.waitsFor md ops j i with
  | false => rfl
  | true =>
    obtain ⟨o, ho, e, he, hb, rfl⟩ := Region.waitsFor_spec hq
    obtain ⟨_, o', ho', hall⟩ := mem_ready.1 hj
    obtain rfl : o = o' := by rw [ho] at ho'; exact Option.some.inj ho'
    have h1 := hall e he hb
    have h2 := getD_both (mem_ready.1 hi).1
    rw [h2] at h1
    cases h1
/-- What has not come up, and does not wait for i, has nothing to do with it. -/
def Loose (md : Region.Mode) (ops : Array Oper) (i : Nat) (oi : Oper) (listed : Array Bool) : Prop :=
  ∀ j oj, ops[j]? = some oj → j ≠ i → listed.getD j true = false → Region.waitsFor md ops j i = false → oi.apart ops oj = true
theorem Loose.of_free {i : Nat} {oi : Oper} {listed : Array Bool} (hi : ops[i]? = some oi) (h : Region.free md ops listed i = true) : Loose md ops i oi listed := fun j oj hj hne hun hno =>
  Region.free_spec hi h j oj hj hne hun fun e he hb hon => by
    have : Region.waitsFor md ops j i = true := by
      unfold Region.waitsFor
      rw [hj]
      exact Array.any_eq_true'.2 ⟨e, he, by simp [hb, hon]⟩
    rw [hno] at this
    cases this
theorem Loose.later {i k : Nat} {oi : Oper} {listed : Array Bool} (h : Loose md ops i oi listed) (hk : listed.getD k true = false) : Loose md ops i oi (listed.setIfInBounds k true) := fun j oj hj hne hun hno => by
  by_cases e : k = j
  · rw [← e] at hj hne hno
    exact h k oj hj hne hk hno
  · rw [getD_set_ne true e] at hun
    exact h j oj hj hne hun hno

/-- One that yields under S may be taken first, if the last one waits for it. -/
theorem wpAnyE_first {i : Nat} {oi : Oper} {v : Value} (hi : ops[i]? = some oi) (hsel : ∀ (j : Nat) (o : Oper) cs b, ops[j]? = some o → o.op ≠ .select cs b)
    (hQ : ∀ c a w, Q (.panic c) (a.put oi.dst v) w → Q (.panic c) a w) (hwait : Region.waitsFor md ops n i = true) (hin : i ≠ n) (fuel : Nat) :
    ∀ (listed : Array Bool) (a : Act) (w : World), Loose md ops i oi listed → i ∈ Region.ready md ops listed → listed.getD n true = false → YieldsIf P ops S oi v a → S w →
      wpAnyE P md ops Q S n fuel (listed.setIfInBounds i true) (a.put oi.dst v) w → wpAnyE P md ops Q S n (fuel + 1) listed a w := by
  induction fuel with
  | zero =>
    intro listed a w _ hr _ hy hS hrest
    constructor
    · intro h0
      rw [h0] at hr
      cases hr
    · intro j hj
      rcases Nat.decEq j i with hji | hji
      · have h1 := ready_mono hj hji
        rw [hrest.1] at h1
        cases h1
      · rw [hji]
        exact hy.wpOp hi hS ⟨.inr hS, hrest⟩
  | succ fuel ih =>
    intro listed a w hloose hr hn hy hS hrest
    constructor
    · intro h0
      rw [h0] at hr
      cases hr
    · intro j hj
      rcases Nat.decEq j i with hji | hji
      · obtain ⟨hun, oj, hoj, _⟩ := mem_ready.1 hj
        have hjn : n ≠ j := fun e => by
          have h1 := waits_not hr hj
          rw [← e, hwait] at h1
          cases h1
        have hap := hloose j oj hoj hji hun (waits_not hr hj)
        have hstep := wpOp_putIf hoj hap (fun cs b => hsel i oi cs b hi) (fun cs b => hsel j oj cs b hoj) hQ hy (hrest.2 j (ready_mono hj hji))
        refine wpOp_mono ?_ hstep
        rintro a' w' ⟨hy', hS1, hrest'⟩
        have hS' : S w' := hS1.resolve_left fun h1 => by
          rw [getD_set_ne false (Ne.symm hjn), getD_set_ne false hin, getD_both hn] at h1
          cases h1
        rw [Array.setIfInBounds_comm _ _ (Ne.symm hji)] at hrest'
        exact ⟨.inr hS', ih _ a' w' (hloose.later hun) (ready_mono hr (Ne.symm hji)) (by rw [getD_set_ne true (Ne.symm hjn)]; exact hn) hy' hS' hrest'⟩
      · rw [hji]
        exact hy.wpOp hi hS ⟨.inr hS, hrest⟩

/-- Number i is taken first. -/
theorem wpAnyE_take {i : Nat} {oi : Oper} {v : Value} {fuel : Nat} {listed : Array Bool} {a : Act} {w : World} (d : Option Tmp) (hd : oi.dst = d) (hi : ops[i]? = some oi)
    (hs : (Region.waitsFor md ops n i && Region.noSelect ops && Region.free md ops listed i && (Region.ready md ops listed).contains i && !(listed.getD n true) && !(i == n)) = true)
    (hQ : ∀ c a w, Q (.panic c) (a.put oi.dst v) w → Q (.panic c) a w) (hy : YieldsIf P ops S oi v a) (hS : S w)
    (h : wpAnyE P md ops Q S n fuel (listed.setIfInBounds i true) (a.put d v) w) : wpAnyE P md ops Q S n (fuel + 1) listed a w := by
  subst hd
  simp only [Bool.and_eq_true, Bool.not_eq_true', beq_eq_false_iff_ne] at hs
  obtain ⟨⟨⟨⟨⟨h1, h2⟩, h3⟩, h4⟩, h5⟩, h6⟩ := hs
  exact wpAnyE_first hi (Region.noSelect_spec h2) hQ h1 h6 fuel listed a w (.of_free hi h3) (by simpa using h4) h5 hy hS h
/-- Just one may come up. -/
theorem wpAnyE_one {i : Nat} {o : Oper} {fuel : Nat} {listed : Array Bool} {a : Act} {w : World} (hr : Region.ready md ops listed = [i]) (ho : ops[i]? = some o)
    (h : ∀ K' : Act → World → Prop, Shut (∀ a w, ((listed.setIfInBounds i true).getD n false = true ∨ S w) → wpAnyE P md ops Q S n fuel (listed.setIfInBounds i true) a w → K' a w) → if Region.wanted o (yielded ops a.tmps) = true then Oper.wp P o a w K' Q else K' (a.put o.dst undef) w) :
    wpAnyE P md ops Q S n (fuel + 1) listed a w := by
  refine ⟨fun h0 => (by rw [hr] at h0; cases h0), fun j hj => ?_⟩
  rw [hr, List.mem_singleton] at hj
  subst hj
  exact wpOp_step ho (fun K' hK => h K' (fun a w hS hW => hK a w ⟨hS, hW⟩))
theorem wpAnyE_done {fuel : Nat} {listed : Array Bool} {a : Act} {w : World} (hr : Region.ready md ops listed = []) (h : Q .normal a w) : wpAnyE P md ops Q S n fuel listed a w := by
  cases fuel with
  | zero => exact ⟨hr, h⟩
  | succ fuel => exact ⟨fun _ => h, by rw [hr]; simp⟩
theorem wp_region_ends {id : Nat} {a : Act} {w : World} (S : World → Prop) (n : Nat) (hm : P.follows .mixedOrders = true)
    (h : wpAnyE P .any ops Q S n ops.size (Array.replicate ops.size false) a w.drew) : (Code.region id ops true).wp P Q a w :=
  wp_region_any hm (wpAny_of_ends _ _ _ _ h)

/-- A load of a whole array yields, where S says what stands there. -/
theorem yields_arr {o : Oper} {a : Act} {t : TypeId} {k : IntKind} {l : List Nat} {b off : Nat} {d : TypeDesc} (hw : Region.wanted o (yielded ops a.tmps) = true) (x : Operand) (ho : o.op = .load t x)
    (hx : a.eval x = .pointer (some ⟨b, off, none⟩)) (hS : ∀ w, S w → w.rangeAt b off (l.map fun (n : Nat) => Value.int k (n : Int))) (hu : P.underlying t = some d) (hd : d.isRow = true) (hi : (P.info? t).map (·.size) = some l.length) :
    YieldsIf P ops S o (.agg (Nums k l)) a :=
  yieldsIf_load_mid hw t x ho b off hx _ d hS hu hd (by rw [List.length_map]; exact hi)

theorem run_enter {f : FuncId} {fn : Func} {c : Code} (hf : P.funcs[f]? = some fn) (hname : (fn.name == "runtime.NumGoroutine") = false) (hb : fn.body = some c) (args : Array Value) (w : World) :
    (callFunc f args).run P w = .ok (.enter f args) w := by
  simp [callFunc, hf, hb, Sem.run_bind]
  simp_all
/-- A call by its contract. -/
theorem stepE_call {fn : Func} {c : Code} {o : Oper} {a : Act} {w : World} {K : Act → World → Prop} {E : Prop} (d : Option Tmp) (hd : o.dst = d) (hgd : o.guard = none) (f : FuncId) (hf : P.funcs[f]? = some fn) (hname : (fn.name == "runtime.NumGoroutine") = false) (hb : fn.body = some c) (xs : Array Operand) (ts : Array TypeId)
    (ho : o.op = .call { callee := .value (.func f), args := xs, argTypes := ts }) (args : List Value) (hx : xs.toList.map a.eval = args) {v : Value} {R : World → Prop}
    (hc : Calls P f args.toArray w fun e w' => e = .returned v ∧ R w') (hK : ∀ w', R w' → K (a.put d v) w') : if Region.wanted o (yielded ops a.tmps) = true then Oper.wp P o a w K Q else E := by
  subst hd
  rw [if_pos (by simp [Region.wanted, hgd])]
  unfold Oper.wp
  subst hx
  have hr := run_enter hf hname hb (xs.map a.eval) w
  have e : (xs.toList.map a.eval).toArray = xs.map a.eval := by rw [← Array.toList_map, Array.toArray_toList]
  rw [e] at hc
  simp [execOp, ho, resolve, go_sem, hr]
  refine hc.mono ?_
  rintro e w' ⟨rfl, h⟩
  exact hK w' h
/-- A store of a whole array. -/
theorem stepE_put {o : Oper} {a : Act} {w : World} {K : Act → World → Prop} {E : Prop} {t e : TypeId} {k : IntKind} {l l' : List Nat} {b m : Nat} (T : ArrT P t e k m) (d : Option Tmp) (hd : o.dst = d) (hgd : o.guard = none) (x y : Operand) (ho : o.op = .store t x y) (hx : a.eval x = .pointer (some ⟨b, 0, none⟩)) (hy : a.eval y = .agg (Nums k l')) {tb : TypeId} (h : Arr w b tb k l) (hl : l.length = m) (hl' : l'.length = m)
    (hK : ∀ w', Hid (Arr w' b tb k l') → Hid (Moves (fun j => j = b) w w') → Hid (w'.heap.size = w.heap.size) → K (a.put d undef) w') : if Region.wanted o (yielded ops a.tmps) = true then Oper.wp P o a w K Q else E := by
  subst hd
  rw [if_pos (by simp [Region.wanted, hgd])]
  unfold Oper.wp
  have hrun : (Instr.storeAt t (.pointer (some ⟨b, 0, none⟩)) (.agg (Nums k l'))).run P w = .ok () (w.setRow b (Nums k l')) := by
    simp only [Instr.storeAt, Instr.sureAddr, Sem.run_bind, Sem.run_pure, Result.andThen_ok]
    exact run_storeVar_row w b tb t (Nums k l) (Nums k l') h (by rw [Nums_size, hl']; exact T.size) (by rw [Nums_size, Nums_size, hl, hl']) (Nums_one _ _)
  simp [execOp, ho, hx, hy, hrun, Result.andThen, Oper.upon]
  exact hK _ (Lib.hid (h.store_moves l').1) (Lib.hid (h.store_moves l').2.1) (Lib.hid (h.store_moves l').2.2)

end
end Go.Proofs.YtacbpdampdikjaaDoor

/-
  Bytes as the walk shows them.
-/
namespace Go.Proofs.YtacbpdampdikjaaDoor
open Go.RowKit

theorem gxor_u8 (a b : UInt8) : bits .xor .u8 (a.toNat : Int) (b.toNat : Int) = ((a ^^^ b).toNat : Int) := by
  rw [u8_xor_nat _ _ a.toNat_lt b.toNat_lt, UInt8.toNat_xor]
theorem and_u8 (a b : UInt8) : bits .and .u8 (a.toNat : Int) (b.toNat : Int) = ((a &&& b).toNat : Int) := by
  rw [u8_and_nat _ _ a.toNat_lt b.toNat_lt, UInt8.toNat_and]
theorem or_u8 (a b : UInt8) : bits .or .u8 (a.toNat : Int) (b.toNat : Int) = ((a ||| b).toNat : Int) := by
  rw [u8_or_nat _ _ a.toNat_lt b.toNat_lt, UInt8.toNat_or]
theorem top_u8 : ∀ a : UInt8, (a &&& 128).toNat = if 128 ≤ a.toNat then 128 else 0 := all_bytes (by decide +kernel)
theorem odd_u8 : ∀ a : UInt8, (a &&& 1).toNat = a.toNat % 2 := all_bytes (by decide +kernel)
theorem dbl_u8 : ∀ a : UInt8, (a + a).toNat = a.toNat * 2 % 256 := all_bytes (by decide +kernel)

end Go.Proofs.YtacbpdampdikjaaDoor

namespace Go.Proofs.YtacbpdampdikjaaDoor
open Go.RowKit

theorem arr256 : ArrT Tryd.prog 99 5 .u8 256 := ⟨by kernel_rfl, by kernel_rfl, by kernel_rfl⟩
theorem gboxTab_length : gboxTab.length = 256 := by decide +kernel
theorem gboxTab_small : (gboxTab.all fun n => decide (n < 256)) = true := by decide +kernel
theorem gboxTab_at (a : UInt8) : gboxTab[a.toNat]? = some (gboxU a).toNat := by
  have h : a.toNat < gboxTab.length := by rw [gboxTab_length]; exact a.toNat_lt
  have h2 : gboxTab[a.toNat] < 256 := of_decide_eq_true (List.all_eq_true.1 gboxTab_small _ (List.getElem_mem h))
  rw [gbox_tab, List.getD_eq_getElem?_getD, List.getElem?_eq_getElem h, Option.getD_some]
  rw [UInt8.toNat_ofNat', Nat.mod_eq_of_lt h2]

set_option maxHeartbeats 1600000 in
set_option maxRecDepth 100000 in
theorem gbox_any (a : UInt8) (w : World) :
    Calls Tryd.prog 89 #[.int .u8 (a.toNat : Int)] w (Ans w (.int .u8 ((gboxU a).toNat : Int))) := by
  have Hat : Hid (gboxTab[a.toNat]? = some (gboxU a).toNat) := Lib.hid (gboxTab_at a)
  have h0 : (0 : Int) ≤ (a.toNat : Int) := by omega
  have h1 : (a.toNat : Int) < 256 := by have := a.toNat_lt; omega
  obtain ⟨n, hn⟩ : ∃ n, n = a.toNat := ⟨_, rfl⟩
  obtain ⟨r, hr⟩ : ∃ r, r = (gboxU a).toNat := ⟨_, rfl⟩
  rw [← hn] at Hat h0 h1 ⊢
  rw [← hr] at Hat ⊢
  clear hn hr
  go_enter Tryd.func89, Tryd.ntmps89
  go_wp2_with (first
    | refine wp_build_arr rfl 99 _ rfl .u8 gboxTab (by kernel_rfl) ?_
    | refine wp_alloc_arr (k := .u8) rfl 99 rfl 256 (by kernel_rfl) ?_)
  intro w1 g1 G1 H1 Hb1 Hs1
  go_wp2_with (refine wp_put_arr arr256 rfl (.tmp 3) (.tmp 4) rfl rfl (l' := gboxTab) rfl H1.out (Zs_length _) gboxTab_length ?_)
  intro w2 H2 Hm2 Hs2
  have hc : w2.cell? ⟨g1, n, none⟩ = some (.int .u8 (r : Int)) := H2.out.at_ Hat.out
  have hB : Hid (Below w.heap.size w w2) := Lib.hid (Hb1.out.trans (Hm2.out.below (fun j hj => by have := G1.out; omega) Hb1.out.size))
  go_wp2
  go_ret
  exact ⟨rfl, hB.out⟩

end Go.Proofs.YtacbpdampdikjaaDoor

namespace Go.Proofs.YtacbpdampdikjaaDoor
open Go.RowKit

set_option maxHeartbeats 1600000 in
theorem asub_any (s : List UInt8) (w : World) (hs : s.length = 16) :
    Calls Tryd.prog 74 #[.agg (Nums .u8 (abn s))] w (AnsA w .u8 (abn (asubU s))) := by
  have Hat : Hid (∀ k, k < 16 → ∃ x : UInt8, (abn s)[k]? = some x.toNat ∧ (abn (asubU s))[k]? = some (gboxU x).toNat) := Lib.hid (fun k hk => by
    obtain ⟨x, h1, h2⟩ := asub_at gboxU (s := s) (k := k) (by omega)
    exact ⟨x, abn_get h1, abn_get h2⟩)
  have Hl : Hid ((abn s).length = 16) := Lib.hid (by rw [abn_length, hs])
  have HL : Hid ((abn (asubU s)).length = 16) := Lib.hid (by rw [abn_length, asubU, asubB_length, hs])
  clear hs
  revert Hat Hl HL
  generalize abn (asubU s) = L
  generalize abn s = l
  intro Hat Hl HL
  go_enter Tryd.func74, Tryd.ntmps74
  go_wp2_with (refine wp_box_arr (k := .u8) rfl 49 (.tmp 0) rfl l rfl ?_)
  intro w1 g1 G1 H1 Hb1 Hs1
  go_wp2_with (refine wp_alloc_arr (k := .u8) rfl 49 rfl 16 zero16 ?_)
  intro w2 g2 G2 H2 Hb2 Hs2
  have Hg : Hid (w.heap.size ≤ g1 ∧ w.heap.size ≤ g2 ∧ g1 ≠ g2) := Lib.hid (by have := G1.out; have := G2.out; have := Hs1.out; omega)
  have K1 : Hid (Arr w2 g1 49 .u8 l) := Lib.hid (H1.out.below Hb2.out H1.out.lt)
  have B2 : Hid (Below w.heap.size w w2) := Lib.hid (Hb1.out.trans (Hb2.out.mono Hb1.out.size))
  have K3 : Hid (Arr w2 g1 49 .u8 (L.take 0 ++ l.drop 0)) := Lib.hid K1.out
  clear H1 Hb1 Hb2 G1 G2 Hs1 Hs2
  go_wp2_with (refine wp_load_arr arr16 rfl (.tmp 1) rfl rfl K1.out Hl.out ?_)
  go_wp2
  go_loopw [6] (fun i wr => ∃ k : Nat, k ≤ 16 ∧ i = .int .i64 (k : Int) ∧ Hid (Arr wr g2 49 .u8 (Zs 16)) ∧ Hid (Arr wr g1 49 .u8 (L.take k ++ l.drop k)) ∧ Hid (Below w.heap.size w wr)) (fun i _ => 16 - (intOf i).toNat)
  case atStart => exact ⟨0, by omega, rfl, H2, K3, B2⟩
  case round =>
    clear K1 K3 B2 H2
    obtain ⟨k, hk, rfl, K2, K3, B3⟩ := hrel
    by_cases hlt : k < 16
    · obtain ⟨x, hx, hy⟩ := Hat.out k hlt
      have hix := fun w' => run_index_arr arr16 info_u8n Hl.out hx w'
      have hc := fun w' => gbox_any x w'
      have Hy : Hid (L[k]? = some (gboxU x).toNat) := Lib.hid hy
      clear hx hy
      generalize gboxU x = y at *
      go_wp2_with fail
      refine (hc _).mono ?_
      rintro e w4 ⟨rfl, hb4⟩
      have A1 : Hid (Arr w4 g1 49 .u8 (L.take k ++ l.drop k)) := Lib.hid (K3.out.below hb4 K3.out.lt)
      have A2 : Hid (Arr w4 g2 49 .u8 (Zs 16)) := Lib.hid (K2.out.below hb4 K2.out.lt)
      have A3 : Hid (Below w.heap.size w w4) := Lib.hid (abon B3.out hb4)
      have hout := A1.out.at_ (fill_get (L := L) (M := l) (i := k) (by rw [Hl.out]; exact hlt) (by rw [HL.out]; omega))
      have hfz := A1.out.frozen k
      clear hb4 K2 K3 B3
      go_wp2
      go_roundw
      case rel =>
        refine ⟨k + 1, by omega, by go_num, Lib.hid (A2.out.other Hg.out.2.2.symm), Lib.hid ?_, Lib.hid (A3.out.setCell Hg.out.1 _)⟩
        rw [← afill_step Hy.out (by rw [Hl.out]; exact hlt)]
        exact A1.out.set
      case measure => simp [intOf]; omega
    · have hk4 : k = 16 := by omega
      have Hr : Hid (Arr wr g1 49 .u8 L) := Lib.hid (by have h := K3.out; rw [hk4, fill_all HL.out Hl.out] at h; exact h)
      go_wp2_with (first
        | refine wp_load_arr arr16 rfl (.tmp 1) rfl rfl Hr.out HL.out ?_
        | refine wp_put_arr arr16 rfl (.tmp 2) (.tmp 15) rfl rfl (l' := L) rfl K2.out (Zs_length _) HL.out ?_)
      intro w5 H5 Hm5 Hs5
      go_wp2
      exact ret_arr arr16 rfl rfl H5.out HL.out rfl ⟨rfl, B3.out.trans (Hm5.out.below (fun j hj => by have := Hg.out; omega) B3.out.size)⟩

end Go.Proofs.YtacbpdampdikjaaDoor

namespace Go.Proofs.YtacbpdampdikjaaDoor
open Go.RowKit

set_option maxHeartbeats 1600000 in
theorem ashift_any (s : List UInt8) (w : World) (hs : s.length = 16) :
    Calls Tryd.prog 73 #[.agg (Nums .u8 (abn s))] w (AnsA w .u8 (abn (ashiftU s))) := by
  have Hat : Hid (∀ c r, c < 4 → r < 4 → ∃ x : UInt8, (abn s)[4 * ((c + r) % 4) + r]? = some x.toNat ∧ (abn (ashiftU s))[4 * c + r]? = some x.toNat) := Lib.hid (fun c r hc hr => by
    obtain ⟨x, h1, h2⟩ := ashift_at hs hc hr
    exact ⟨x, abn_get h1, abn_get h2⟩)
  have Hl : Hid ((abn s).length = 16) := Lib.hid (by rw [abn_length, hs])
  have HL : Hid ((abn (ashiftU s)).length = 16) := Lib.hid (by rw [abn_length, ashift_length])
  clear hs
  revert Hat Hl HL
  generalize abn (ashiftU s) = L
  generalize abn s = l
  intro Hat Hl HL
  go_enter Tryd.func73, Tryd.ntmps73
  go_wp2_with (refine wp_box_arr (k := .u8) rfl 49 (.tmp 0) rfl l rfl ?_)
  intro w1 g1 G1 H1 Hb1 Hs1
  go_wp2_with (refine wp_alloc_arr (k := .u8) rfl 49 rfl 16 zero16 ?_)
  intro w2 g2 G2 H2 Hb2 Hs2
  go_wp2_with (refine wp_alloc_arr (k := .u8) rfl 49 rfl 16 zero16 ?_)
  intro w3 g3 G3 H3 Hb3 Hs3
  have Hg : Hid (w.heap.size ≤ g1 ∧ w.heap.size ≤ g2 ∧ w.heap.size ≤ g3 ∧ g1 ≠ g3 ∧ g2 ≠ g3 ∧ g1 ≠ g2) := Lib.hid (by have := G1.out; have := G2.out; have := G3.out; have := Hs1.out; have := Hs2.out; omega)
  have K1 : Hid (Arr w3 g1 49 .u8 l) := Lib.hid ((H1.out.below Hb2.out H1.out.lt).below Hb3.out (Nat.lt_of_lt_of_le H1.out.lt Hb2.out.size))
  have K2 : Hid (Arr w3 g2 49 .u8 (Zs 16)) := Lib.hid (H2.out.below Hb3.out H2.out.lt)
  have B3 : Hid (Below w.heap.size w w3) := Lib.hid ((Hb1.out.trans (Hb2.out.mono Hb1.out.size)).trans (Hb3.out.mono (Nat.le_trans Hb1.out.size Hb2.out.size)))
  have K3 : Hid (Arr w3 g3 49 .u8 (L.take 0 ++ (Zs 16).drop 0)) := Lib.hid H3.out
  clear H1 H2 H3 Hb1 Hb2 Hb3 G1 G2 G3 Hs1 Hs2 Hs3
  go_wp2
  go_loopw [6] (fun i wr => ∃ c : Nat, c ≤ 4 ∧ i = .int .i64 (c : Int) ∧ Hid (Arr wr g1 49 .u8 l) ∧ Hid (Arr wr g2 49 .u8 (Zs 16)) ∧ Hid (Arr wr g3 49 .u8 (L.take (4 * c) ++ (Zs 16).drop (4 * c))) ∧ Hid (Below w.heap.size w wr)) (fun i _ => 4 - (intOf i).toNat)
  case atStart => exact ⟨0, by omega, rfl, K1, K2, K3, B3⟩
  case round =>
    clear K1 K2 K3 B3
    obtain ⟨c, hc, rfl, K1, K2, K3, B3⟩ := hrel
    by_cases hlt : c < 4
    · have K4 : Hid (Arr wr g3 49 .u8 (L.take (4 * c + 0) ++ (Zs 16).drop (4 * c + 0))) := Lib.hid K3.out
      go_wp2
      go_loopw [9] (fun i wr => ∃ r : Nat, r ≤ 4 ∧ i = .int .i64 (r : Int) ∧ Hid (Arr wr g1 49 .u8 l) ∧ Hid (Arr wr g2 49 .u8 (Zs 16)) ∧ Hid (Arr wr g3 49 .u8 (L.take (4 * c + r) ++ (Zs 16).drop (4 * c + r))) ∧ Hid (Below w.heap.size w wr)) (fun i _ => 4 - (intOf i).toNat)
      case atStart => exact ⟨0, by omega, rfl, K1, K2, K4, B3⟩
      case round =>
        clear K1 K2 K3 K4 B3
        obtain ⟨r, hr, rfl, K1, K2, K3, B3⟩ := hrel
        by_cases hlr : r < 4
        · obtain ⟨x, hx, hy⟩ := Hat.out c r hlt hlr
          obtain ⟨p, hp⟩ : ∃ p, (c + r) % 4 = p := ⟨_, rfl⟩
          rw [hp] at hx
          have hp4 : p < 4 := by omega
          have ep : ((c : Int) + (r : Int)) % 4 = (p : Int) := by omega
          obtain ⟨q, hq⟩ : ∃ q, 4 * p + r = q := ⟨_, rfl⟩
          rw [hq] at hx
          have hq16 : q < 16 := by omega
          have eq : 4 * (p : Int) + (r : Int) = (q : Int) := by omega
          obtain ⟨o, ho⟩ : ∃ o, 4 * c + r = o := ⟨_, rfl⟩
          rw [ho] at hy K3
          have ho16 : o < 16 := by omega
          have eo : 4 * (c : Int) + (r : Int) = (o : Int) := by omega
          have Ho := Lib.hid ho
          have Hy := Lib.hid hy
          have hin := K1.out.at_ hx
          have hout := K3.out.at_ (fill_get (L := L) (M := Zs 16) (i := o) (by rw [Zs_length]; exact ho16) (by rw [HL.out]; omega))
          have hfz := K3.out.frozen o
          clear hp hq ho hx hy
          go_wp2
          go_roundw
          case rel =>
            refine ⟨r + 1, by omega, by go_num, Lib.hid (K1.out.other Hg.out.2.2.2.1), Lib.hid (K2.out.other Hg.out.2.2.2.2.1), Lib.hid ?_, Lib.hid (B3.out.setCell Hg.out.2.2.1 _)⟩
            rw [show 4 * c + (r + 1) = o + 1 by have := Ho.out; omega, ← afill_step Hy.out (by rw [Zs_length]; exact ho16)]
            exact K3.out.set
          case measure => simp [intOf]; omega
        · have hr4 : r = 4 := by omega
          subst hr4
          have K4 : Hid (Arr wr g3 49 .u8 (L.take (4 * (c + 1)) ++ (Zs 16).drop (4 * (c + 1)))) := Lib.hid K3.out
          go_wp2
          go_roundw
          case rel => exact ⟨c + 1, by omega, by go_num, K1, K2, K4, B3⟩
          case measure => simp [intOf]; omega
    · have hk4 : c = 4 := by omega
      have Hr : Hid (Arr wr g3 49 .u8 L) := Lib.hid (by have h := K3.out; rw [hk4, fill_all HL.out (Zs_length _)] at h; exact h)
      go_wp2_with (first
        | refine wp_load_arr arr16 rfl (.tmp 3) rfl rfl Hr.out HL.out ?_
        | refine wp_put_arr arr16 rfl (.tmp 2) (.tmp 28) rfl rfl (l' := L) rfl K2.out (Zs_length _) HL.out ?_)
      intro w5 H5 Hm5 Hs5
      go_wp2
      exact ret_arr arr16 rfl rfl H5.out HL.out rfl ⟨rfl, B3.out.trans (Hm5.out.below (fun j hj => by have := Hg.out; omega) B3.out.size)⟩

end Go.Proofs.YtacbpdampdikjaaDoor

namespace Go.Proofs.YtacbpdampdikjaaDoor
open Go.RowKit

set_option maxHeartbeats 400000 in
theorem gtwice_any (a : UInt8) (w : World) :
    Calls Tryd.prog 101 #[.int .u8 (a.toNat : Int)] w (fun e w' => e = .returned (.int .u8 ((gtwiceU a).toNat : Int)) ∧ w' = w) := by
  have h1 := and_u8 a 128
  have h3 := gxor_u8 (a + a) 27
  have h4 := dbl_u8 a
  have hb := a.toNat_lt
  rw [top_u8] at h1
  go_enter Tryd.func101, Tryd.ntmps101
  by_cases h : 128 ≤ a.toNat
  · have hu : gtwiceU a = (a + a) ^^^ 27 := if_pos h
    rw [if_pos h] at h1
    rw [← hu, h4] at h3
    have ha : bits .and .u8 (a.toNat : Int) 128 = 128 := h1
    have hx : bits .xor .u8 ((a.toNat : Int) * 2 % 256) 27 = ((gtwiceU a).toNat : Int) := by rw [← h3]; rfl
    clear h1 h3 h4 hu
    generalize gtwiceU a = s at *
    go_wp2
    go_ret
    exact ⟨rfl, rfl⟩
  · have hu : gtwiceU a = a + a := if_neg h
    rw [if_neg h] at h1
    rw [← hu] at h4
    have ha : bits .and .u8 (a.toNat : Int) 128 = 0 := h1
    have hx : (a.toNat : Int) * 2 = ((gtwiceU a).toNat : Int) := by omega
    clear h1 h3 h4 hu
    generalize gtwiceU a = s at *
    go_wp2
    go_ret
    exact ⟨rfl, rfl⟩

set_option maxHeartbeats 400000 in
theorem rgtwice_any (a : UInt8) (w : World) :
    Calls Tryd.prog 98 #[.int .u8 (a.toNat : Int)] w (fun e w' => e = .returned (.int .u8 ((gtwiceU a).toNat : Int)) ∧ w' = w) := by
  have h3 := gxor_u8 (a + a) 27
  have h4 := dbl_u8 a
  have hb := a.toNat_lt
  by_cases h : 128 ≤ a.toNat
  · have hu : gtwiceU a = (a + a) ^^^ 27 := if_pos h
    rw [← hu, h4] at h3
    have hx : bits .xor .u8 ((a.toNat : Int) * 2 % 256) 27 = ((gtwiceU a).toNat : Int) := by rw [← h3]; rfl
    have hz : 128 ≤ (a.toNat : Int) := by omega
    clear h3 h4 hu hb h
    revert hx hz
    generalize gtwiceU a = s
    generalize (a.toNat : Int) = z
    intro hx hz
    go_enter Tryd.func98, Tryd.ntmps98
    go_wp2
    go_ret
    exact ⟨rfl, rfl⟩
  · have hu : gtwiceU a = a + a := if_neg h
    rw [← hu] at h4
    have hx : (a.toNat : Int) * 2 = ((gtwiceU a).toNat : Int) := by omega
    have hz : (a.toNat : Int) < 128 := by omega
    clear h3 h4 hu hb h
    revert hx hz
    generalize gtwiceU a = s
    generalize (a.toNat : Int) = z
    intro hx hz
    go_enter Tryd.func98, Tryd.ntmps98
    go_wp2
    go_ret
    exact ⟨rfl, rfl⟩

end Go.Proofs.YtacbpdampdikjaaDoor

namespace Go.Proofs.YtacbpdampdikjaaDoor
open Go.RowKit

theorem arr4 : ArrT Tryd.prog 75 5 .u8 4 := ⟨by kernel_rfl, by kernel_rfl, by kernel_rfl⟩
theorem zero4 : (Tryd.prog.info? 75).map (fun i => (i.zero, i.size)) = some (some (.agg (Nums .u8 (Zs 4))), 4) := by kernel_rfl

/-- Four bytes, as numbers. -/
def four (a b c d : UInt8) : List Nat := [a.toNat, b.toNat, c.toNat, d.toNat]
theorem four_length (a b c d : UInt8) : (four a b c d).length = 4 := rfl
/-- .. mixed. -/
def gcolU (a b c d : UInt8) : List Nat := four (gmixU a b c d) (gmixU b c d a) (gmixU c d a b) (gmixU d a b c)
theorem gcol_at (a b c d : UInt8) (k : Nat) (h : k < 4) : ∃ p q r s : UInt8, (four a b c d)[k % 4]? = some p.toNat ∧ (four a b c d)[(k + 1) % 4]? = some q.toNat ∧ (four a b c d)[(k + 2) % 4]? = some r.toNat ∧ (four a b c d)[(k + 3) % 4]? = some s.toNat ∧ (gcolU a b c d)[k]? = some (gmixU p q r s).toNat := by
  match k, h with
  | 0, _ => exact ⟨a, b, c, d, rfl, rfl, rfl, rfl, rfl⟩
  | 1, _ => exact ⟨b, c, d, a, rfl, rfl, rfl, rfl, rfl⟩
  | 2, _ => exact ⟨c, d, a, b, rfl, rfl, rfl, rfl, rfl⟩
  | 3, _ => exact ⟨d, a, b, c, rfl, rfl, rfl, rfl, rfl⟩

set_option maxHeartbeats 800000 in
/-- The closure: the byte at that place, going round. -/
theorem gfrom_any (g j x : Nat) (l : List Nat) (w : World) (hj : j < 4096) (hx : l[j % 4]? = some x) (h : Arr w g 75 .u8 l) :
    Calls Tryd.prog 100 #[.int .i64 (j : Int), .pointer (some ⟨g, 0, none⟩)] w fun e w' => e = .returned (.int .u8 (x : Int)) ∧ w' = w := by
  obtain ⟨p, hp⟩ : ∃ p, j % 4 = p := ⟨_, rfl⟩
  rw [hp] at hx
  have hcell := h.at_ hx
  have hp4 : p < 4 := by omega
  have hmod : (j : Int) % 4 = (p : Int) := by omega
  clear h hx hp
  go_enter Tryd.func100, Tryd.ntmps100
  go_wp2
  go_ret
  exact ⟨rfl, rfl⟩

set_option maxHeartbeats 3200000 in
theorem gcolumn_any (a b c d : UInt8) (w : World) :
    Calls Tryd.prog 91 #[.agg (Nums .u8 (four a b c d))] w (AnsA w .u8 (gcolU a b c d)) := by
  have hmf : ∀ (fn : Fn) (first cap : Array Value) (w : World), (Instr.makeFunc fn first cap).run Tryd.prog w = .ok (.func fn first cap) w := fun _ _ _ _ => rfl
  have Hat := Lib.hid (gcol_at a b c d)
  have HL : Hid ((gcolU a b c d).length = 4) := Lib.hid rfl
  revert Hat HL
  generalize four a b c d = l
  generalize gcolU a b c d = L
  intro Hat HL
  go_enter Tryd.func91, Tryd.ntmps91
  go_wp2_with (refine wp_box_arr (k := .u8) rfl 75 (.tmp 0) rfl l rfl ?_)
  intro w1 g1 G1 H1 Hb1 Hs1
  go_wp2_with (refine wp_alloc_arr (k := .u8) rfl 75 rfl 4 zero4 ?_)
  intro w2 g2 G2 H2 Hb2 Hs2
  go_wp2_with (refine wp_alloc_arr (k := .u8) rfl 75 rfl 4 zero4 ?_)
  intro w3 g3 G3 H3 Hb3 Hs3
  have Hg : Hid (w.heap.size ≤ g1 ∧ w.heap.size ≤ g2 ∧ w.heap.size ≤ g3 ∧ g1 ≠ g3 ∧ g2 ≠ g3 ∧ g1 ≠ g2) := Lib.hid (by have := G1.out; have := G2.out; have := G3.out; have := Hs1.out; have := Hs2.out; omega)
  have K1 : Hid (Arr w3 g1 75 .u8 l) := Lib.hid ((H1.out.below Hb2.out H1.out.lt).below Hb3.out (Nat.lt_of_lt_of_le H1.out.lt Hb2.out.size))
  have K2 : Hid (Arr w3 g2 75 .u8 (Zs 4)) := Lib.hid (H2.out.below Hb3.out H2.out.lt)
  have B3 : Hid (Below w.heap.size w w3) := Lib.hid ((Hb1.out.trans (Hb2.out.mono Hb1.out.size)).trans (Hb3.out.mono (Nat.le_trans Hb1.out.size Hb2.out.size)))
  have K3 : Hid (Arr w3 g3 75 .u8 (L.take 0 ++ (Zs 4).drop 0)) := Lib.hid H3.out
  clear H1 H2 H3 Hb1 Hb2 Hb3 G1 G2 G3 Hs1 Hs2 Hs3
  go_wp2
  go_loopw [7] (fun i wr => ∃ k : Nat, k ≤ 4 ∧ i = .int .i64 (k : Int) ∧ Hid (Arr wr g1 75 .u8 l) ∧ Hid (Arr wr g2 75 .u8 (Zs 4)) ∧ Hid (Arr wr g3 75 .u8 (L.take k ++ (Zs 4).drop k)) ∧ Hid (Below w.heap.size w wr)) (fun i _ => 4 - (intOf i).toNat)
  case atStart => exact ⟨0, by omega, rfl, K1, K2, K3, B3⟩
  case round =>
    clear K1 K2 K3 B3
    obtain ⟨k, hk, rfl, K1, K2, K3, B3⟩ := hrel
    by_cases hlt : k < 4
    · obtain ⟨p, q, r, s, hp, hq, hr, hs, hm⟩ := Hat.out k hlt
      have c0 : Calls Tryd.prog 100 #[.int .i64 (k : Int), .pointer (some ⟨g1, 0, none⟩)] wr fun e w' => e = .returned (.int .u8 (p.toNat : Int)) ∧ w' = wr := gfrom_any g1 k p.toNat l wr (by omega) hp K1.out
      have c1 : Calls Tryd.prog 100 #[.int .i64 ((k : Int) + 1), .pointer (some ⟨g1, 0, none⟩)] wr fun e w' => e = .returned (.int .u8 (q.toNat : Int)) ∧ w' = wr := gfrom_any g1 (k + 1) q.toNat l wr (by omega) hq K1.out
      have c2 : Calls Tryd.prog 100 #[.int .i64 ((k : Int) + 2), .pointer (some ⟨g1, 0, none⟩)] wr fun e w' => e = .returned (.int .u8 (r.toNat : Int)) ∧ w' = wr := gfrom_any g1 (k + 2) r.toNat l wr (by omega) hr K1.out
      have c3 : Calls Tryd.prog 100 #[.int .i64 ((k : Int) + 3), .pointer (some ⟨g1, 0, none⟩)] wr fun e w' => e = .returned (.int .u8 (s.toNat : Int)) ∧ w' = wr := gfrom_any g1 (k + 3) s.toNat l wr (by omega) hs K1.out
      have t0 := gtwice_any p wr
      have t1 := gtwice_any q wr
      have x1 := gxor_u8 (gtwiceU p) q
      have x2 := gxor_u8 (gtwiceU p ^^^ q) (gtwiceU q)
      have x3 := gxor_u8 (gtwiceU p ^^^ q ^^^ gtwiceU q) r
      have x4 := gxor_u8 (gtwiceU p ^^^ q ^^^ gtwiceU q ^^^ r) s
      have Hm : Hid (L[k]? = some (gtwiceU p ^^^ q ^^^ gtwiceU q ^^^ r ^^^ s).toNat) := Lib.hid hm
      have hout := K3.out.at_ (fill_get (L := L) (M := Zs 4) (i := k) (by rw [Zs_length]; exact hlt) (by rw [HL.out]; omega))
      have hfz := K3.out.frozen k
      clear hp hq hr hs hm
      generalize gtwiceU p ^^^ q ^^^ gtwiceU q ^^^ r ^^^ s = y4 at *
      generalize gtwiceU p ^^^ q ^^^ gtwiceU q ^^^ r = y3 at *
      generalize gtwiceU p ^^^ q ^^^ gtwiceU q = y2 at *
      generalize gtwiceU p ^^^ q = y1 at *
      generalize gtwiceU p = tp at *
      generalize gtwiceU q = tq at *
      go_wp2_with fail
      refine (c0).mono ?_
      rintro e w9 ⟨rfl, rfl⟩
      go_wp2_with fail
      refine (t0).mono ?_
      rintro e w9 ⟨rfl, rfl⟩
      go_wp2_with fail
      refine (c1).mono ?_
      rintro e w9 ⟨rfl, rfl⟩
      go_wp2_with fail
      refine (c1).mono ?_
      rintro e w9 ⟨rfl, rfl⟩
      go_wp2_with fail
      refine (t1).mono ?_
      rintro e w9 ⟨rfl, rfl⟩
      go_wp2_with fail
      refine (c2).mono ?_
      rintro e w9 ⟨rfl, rfl⟩
      go_wp2_with fail
      refine (c3).mono ?_
      rintro e w9 ⟨rfl, rfl⟩
      go_wp2
      go_roundw
      case rel =>
        obtain ⟨hk2, hy⟩ := List.getElem?_eq_some_iff.1 Hm.out
        have e4 : (L.take k ++ (Zs 4).drop k).set k y4.toNat = L.take (k + 1) ++ (Zs 4).drop (k + 1) := by rw [← hy]; exact afill_set hk2 (by rw [Zs_length]; exact hlt)
        have hne : g1 ≠ g3 ∧ g2 ≠ g3 ∧ w.heap.size ≤ g3 := ⟨Hg.out.2.2.2.1, Hg.out.2.2.2.2.1, Hg.out.2.2.1⟩
        refine ⟨k + 1, by omega, by go_num, Lib.hid (K1.out.other hne.1), Lib.hid (K2.out.other hne.2.1), Lib.hid ?_, Lib.hid (B3.out.setCell hne.2.2 _)⟩
        rw [← e4]
        exact K3.out.set
      case measure => simp [intOf]; omega
    · have hk4 : k = 4 := by omega
      have Hr : Hid (Arr wr g3 75 .u8 L) := Lib.hid (by have h := K3.out; rw [hk4, fill_all HL.out (Zs_length 4)] at h; exact h)
      go_wp2_with (first
        | refine wp_load_arr arr4 rfl (.tmp 4) rfl rfl Hr.out HL.out ?_
        | refine wp_put_arr arr4 rfl (.tmp 2) (.tmp 38) rfl rfl (l' := L) rfl K2.out (Zs_length _) HL.out ?_)
      intro w5 H5 Hm5 Hs5
      go_wp2
      exact ret_arr arr4 rfl rfl H5.out HL.out rfl ⟨rfl, B3.out.trans (Hm5.out.below (fun j hj => by have := Hg.out; omega) B3.out.size)⟩

end Go.Proofs.YtacbpdampdikjaaDoor

namespace Go.Proofs.YtacbpdampdikjaaDoor
open Go.RowKit

set_option maxRecDepth 4096 in
set_option maxHeartbeats 1600000 in
theorem amix_any (s : List UInt8) (w : World) (hs : s.length = 16) :
    Calls Tryd.prog 72 #[.agg (Nums .u8 (abn s))] w (AnsA w .u8 (abn (amixU s))) := by
  have Hat := Lib.hid (fun c (hc : c < 4) => amix_at hs hc)
  have Hl : Hid ((abn s).length = 16) := Lib.hid (by rw [abn_length, hs])
  have HL : Hid ((abn (amixU s)).length = 16) := Lib.hid (by rw [abn_length, amix_length hs])
  clear hs
  revert Hat Hl HL
  generalize abn (amixU s) = L
  generalize abn s = l
  intro Hat Hl HL
  go_enter Tryd.func72, Tryd.ntmps72
  go_wp2_with (refine wp_box_arr (k := .u8) rfl 49 (.tmp 0) rfl l rfl ?_)
  intro w1 g1 G1 H1 Hb1 Hs1
  go_wp2_with (refine wp_alloc_arr (k := .u8) rfl 49 rfl 16 zero16 ?_)
  intro w2 g2 G2 H2 Hb2 Hs2
  have Hg : Hid (w.heap.size ≤ g1 ∧ w.heap.size ≤ g2 ∧ g1 ≠ g2) := Lib.hid (by have := G1.out; have := G2.out; have := Hs1.out; omega)
  have K1 : Hid (Arr w2 g1 49 .u8 (L.take (4 * 0) ++ l.drop (4 * 0))) := Lib.hid (H1.out.below Hb2.out H1.out.lt)
  have B2 : Hid (Below w.heap.size w w2) := Lib.hid (Hb1.out.trans (Hb2.out.mono Hb1.out.size))
  clear H1 Hb1 Hb2 G1 G2 Hs1 Hs2
  go_wp2
  go_loopw [6] (fun i wr => ∃ c : Nat, c ≤ 4 ∧ i = .int .i64 (c : Int) ∧ Hid (Arr wr g2 49 .u8 (Zs 16)) ∧ Hid (Arr wr g1 49 .u8 (L.take (4 * c) ++ l.drop (4 * c))) ∧ Hid (Below w.heap.size w wr)) (fun i _ => 4 - (intOf i).toNat)
  case atStart => exact ⟨0, by omega, rfl, H2, K1, B2⟩
  case round =>
    clear K1 B2 H2
    obtain ⟨c, hc, rfl, K2, K1, B3⟩ := hrel
    by_cases hlt : c < 4
    · obtain ⟨p, q, r, t, hin, hout⟩ := Hat.out c hlt
      have Hin := Lib.hid hin
      have Hout := Lib.hid hout
      clear hin hout
      have hc' := fun w' => gcolumn_any p q r t w'
      have hsl := fun W => run_slice_arr (g := g1) arr16 info_u8n (4 * c) (4 * (c + 1)) (4 * (c : Int)) (4 * ((c : Int) + 1)) (by omega) (by omega) (by omega) (by omega) (by omega) W
      obtain ⟨o, ho⟩ : ∃ o, 4 * c = o := ⟨_, rfl⟩
      obtain ⟨m, hm⟩ : ∃ m, 16 - o = m := ⟨_, rfl⟩
      rw [ho, show 4 * (c + 1) - o = 4 by omega, hm] at hsl
      rw [ho] at K1 Hin Hout
      have Ho := Lib.hid ho
      clear ho hm
      have harr := fun W => run_arrayAt (P := Tryd.prog) arr4 (some ⟨g1, o, none⟩) 4 m (by omega) W
      have Ho16 : Hid (o + 4 ≤ 16) := Lib.hid (by have := Ho.out; omega)
      have Hcol : Hid (wr.rangeAt g1 o ((four p q r t).map fun (n : Nat) => Value.int .u8 (n : Int))) := Lib.hid (K1.out.range (fun j x hx => by
        have h16 := Ho16.out
        have hlen : (List.take o L).length = o := by rw [List.length_take, HL.out]; omega
        rw [List.getElem?_append_right (by omega), hlen, List.getElem?_drop, ← Hin.out j x hx]
        congr 1
        omega))
      go_wp2_with (first
        | refine wpList_load_mid rfl 75 (.tmp 16) rfl g1 o rfl _ _ Hcol.out arr4.under rfl rfl ?_
        | fail)
      refine (hc' _).mono ?_
      rintro e w4 ⟨rfl, hb4⟩
      have A1 : Hid (Arr w4 g1 49 .u8 (L.take o ++ l.drop o)) := Lib.hid (K1.out.below hb4 K1.out.lt)
      have A2 : Hid (Arr w4 g2 49 .u8 (Zs 16)) := Lib.hid (K2.out.below hb4 K2.out.lt)
      have A3 : Hid (Below w.heap.size w w4) := Lib.hid (abon B3.out hb4)
      clear hb4 K1 K2 B3 Hcol
      go_wp2_with (refine wp_alloc_arr (k := .u8) rfl 75 rfl 4 zero4 ?_)
      intro w5 g5 G5 H5 Hb5 Hs5
      go_wp2_with (refine wp_put_arr arr4 rfl (.tmp 5) (.tmp 18) rfl rfl (l' := gcolU p q r t) rfl H5.out (Zs_length _) rfl ?_)
      intro w6 H6 Hm6 Hs6
      have hne : Hid (g1 ≠ g5 ∧ g2 ≠ g5 ∧ w.heap.size ≤ g5) := Lib.hid (by have := G5.out; have := A1.out.lt; have := A2.out.lt; have := A3.out.size; omega)
      have C1 : Hid (Arr w6 g1 49 .u8 (L.take o ++ l.drop o)) := Lib.hid ((A1.out.below Hb5.out A1.out.lt).moves Hm6.out (fun h => hne.out.1 h))
      have C2 : Hid (Arr w6 g2 49 .u8 (Zs 16)) := Lib.hid ((A2.out.below Hb5.out A2.out.lt).moves Hm6.out (fun h => hne.out.2.1 h))
      have C3 : Hid (Below w.heap.size w w6) := Lib.hid ((abon A3.out Hb5.out).trans (Hm6.out.below (fun j hj => by rw [hj]; exact hne.out.2.2) (by have := A3.out.size; have := Hb5.out.size; omega)))
      clear A1 A2 A3 H5 Hb5 Hs5 Hm6 Hs6 G5
      go_wp2_with (refine wp_copy_arr (k := .u8) (g := g1) rfl (.tmp 19) (.tmp 20) 22 22 rfl 5 Tryd.underlying22 info_u8n o 4 m ⟨g5, 0, none⟩ 4 4 rfl rfl _ (gcolU p q r t) C1.out rfl (fun j x hx => by rw [add_flat, Nat.zero_add]; exact H6.out.at_ hx) (by have := Ho16.out; have h4 : (gcolU p q r t).length = 4 := rfl; rw [h4, List.length_append, List.length_take, List.length_drop, HL.out, Hl.out]; omega) ?_)
      intro w7 H7 Hm7 Hs7
      rw [afill_splice (L := L) (M := l) (ns := gcolU p q r t) (off := o) (by rw [HL.out, Hl.out]) (by have := Ho16.out; have h4 : (gcolU p q r t).length = 4 := rfl; rw [h4, Hl.out]; omega) Hout.out] at H7
      go_wp2
      go_roundw
      case rel =>
        refine ⟨c + 1, by omega, by go_num, Lib.hid (C2.out.moves Hm7.out (fun h => Hg.out.2.2 h.symm)), Lib.hid ?_, Lib.hid (C3.out.trans (Hm7.out.below (fun j hj => by rw [hj]; exact Hg.out.1) C3.out.size))⟩
        have h := H7.out
        have e4 : o + (gcolU p q r t).length = 4 * (c + 1) := by have := Ho.out; have h4 : (gcolU p q r t).length = 4 := rfl; omega
        rw [e4] at h
        exact h
      case measure => simp [intOf]; omega
    · have hk4 : c = 4 := by omega
      have Hr : Hid (Arr wr g1 49 .u8 L) := Lib.hid (by have h := K1.out; rw [hk4, fill_all HL.out Hl.out] at h; exact h)
      go_wp2_with (first
        | refine wp_load_arr arr16 rfl (.tmp 1) rfl rfl Hr.out HL.out ?_
        | refine wp_put_arr arr16 rfl (.tmp 2) (.tmp 23) rfl rfl (l' := L) rfl K2.out (Zs_length _) HL.out ?_)
      intro w5 H5 Hm5 Hs5
      go_wp2
      exact ret_arr arr16 rfl rfl H5.out HL.out rfl ⟨rfl, B3.out.trans (Hm5.out.below (fun j hj => by have := Hg.out; omega) B3.out.size)⟩

end Go.Proofs.YtacbpdampdikjaaDoor

namespace Go.Proofs.YtacbpdampdikjaaDoor
open Go.RowKit

set_option maxHeartbeats 1600000 in
theorem aadd_any (s t : List UInt8) (w : World) (hs : s.length = 16) (ht : t.length = 16) :
    Calls Tryd.prog 71 #[.agg (Nums .u8 (abn s)), .agg (Nums .u8 (abn t))] w (AnsA w .u8 (abn (aaddU s t))) := by
  have Hat : Hid (∀ k, k < 16 → ∃ x y : UInt8, (abn s)[k]? = some x.toNat ∧ (abn t)[k]? = some y.toNat ∧ (abn (aaddU s t))[k]? = some (x ^^^ y).toNat) := Lib.hid (fun k hk => by
    obtain ⟨x, y, h1, h2, h3⟩ := aadd_at (s := s) (t := t) (k := k) (by omega) (by omega)
    exact ⟨x, y, abn_get h1, abn_get h2, abn_get h3⟩)
  have Hl : Hid ((abn s).length = 16) := Lib.hid (by rw [abn_length, hs])
  have Hm : Hid ((abn t).length = 16) := Lib.hid (by rw [abn_length, ht])
  have HL : Hid ((abn (aaddU s t)).length = 16) := Lib.hid (by rw [abn_length, aadd_length hs ht])
  clear hs ht
  revert Hat Hl Hm HL
  generalize abn (aaddU s t) = L
  generalize abn s = l
  generalize abn t = m
  intro Hat Hl Hm HL
  go_enter Tryd.func71, Tryd.ntmps71
  go_wp2_with (refine wp_box_arr (k := .u8) rfl 49 (.tmp 0) rfl l rfl ?_)
  intro w1 g1 G1 H1 Hb1 Hs1
  go_wp2_with (refine wp_box_arr (k := .u8) rfl 49 (.tmp 1) rfl m rfl ?_)
  intro w2 g2 G2 H2 Hb2 Hs2
  go_wp2_with (refine wp_alloc_arr (k := .u8) rfl 49 rfl 16 zero16 ?_)
  intro w3 g3 G3 H3 Hb3 Hs3
  have Hg : Hid (w.heap.size ≤ g1 ∧ w.heap.size ≤ g2 ∧ w.heap.size ≤ g3 ∧ g1 ≠ g3 ∧ g2 ≠ g3 ∧ g1 ≠ g2) := Lib.hid (by have := G1.out; have := G2.out; have := G3.out; have := Hs1.out; have := Hs2.out; omega)
  have K1 : Hid (Arr w3 g1 49 .u8 (L.take 0 ++ l.drop 0)) := Lib.hid ((H1.out.below Hb2.out H1.out.lt).below Hb3.out (Nat.lt_of_lt_of_le H1.out.lt Hb2.out.size))
  have K2 : Hid (Arr w3 g2 49 .u8 m) := Lib.hid (H2.out.below Hb3.out H2.out.lt)
  have B3 : Hid (Below w.heap.size w w3) := Lib.hid ((Hb1.out.trans (Hb2.out.mono Hb1.out.size)).trans (Hb3.out.mono (Nat.le_trans Hb1.out.size Hb2.out.size)))
  clear H1 H2 Hb1 Hb2 Hb3 G1 G2 G3 Hs1 Hs2 Hs3
  go_wp2_with (refine wp_load_arr arr16 rfl (.tmp 3) rfl rfl K2.out Hm.out ?_)
  go_wp2
  go_loopw [8] (fun i wr => ∃ k : Nat, k ≤ 16 ∧ i = .int .i64 (k : Int) ∧ Hid (Arr wr g2 49 .u8 m) ∧ Hid (Arr wr g3 49 .u8 (Zs 16)) ∧ Hid (Arr wr g1 49 .u8 (L.take k ++ l.drop k)) ∧ Hid (Below w.heap.size w wr)) (fun i _ => 16 - (intOf i).toNat)
  case atStart => exact ⟨0, by omega, rfl, K2, H3, K1, B3⟩
  case round =>
    clear K1 K2 B3 H3
    obtain ⟨k, hk, rfl, K2, K3, K1, B3⟩ := hrel
    by_cases hlt : k < 16
    · obtain ⟨x, y, hx, hy, hxy⟩ := Hat.out k hlt
      have hix := fun w' => run_index_arr arr16 info_u8n Hm.out hy w'
      have hin := K1.out.at_ (afill_at hx (L := L) (by rw [HL.out]; omega))
      have hin2 := K2.out.at_ hy
      have hfz := K1.out.frozen k
      have hxor := gxor_u8 x y
      have Hy : Hid (L[k]? = some (x ^^^ y).toNat) := Lib.hid hxy
      clear hx hy hxy
      generalize x ^^^ y = z at *
      go_wp2
      go_roundw
      case rel =>
        refine ⟨k + 1, by omega, by go_num, Lib.hid (K2.out.other Hg.out.2.2.2.2.2.symm), Lib.hid (K3.out.other Hg.out.2.2.2.1.symm), Lib.hid ?_, Lib.hid (B3.out.setCell Hg.out.1 _)⟩
        rw [← afill_step Hy.out (by rw [Hl.out]; exact hlt)]
        exact K1.out.set
      case measure => simp [intOf]; omega
    · have hk4 : k = 16 := by omega
      have Hr : Hid (Arr wr g1 49 .u8 L) := Lib.hid (by have h := K1.out; rw [hk4, fill_all HL.out Hl.out] at h; exact h)
      go_wp2_with (first
        | refine wp_load_arr arr16 rfl (.tmp 2) rfl rfl Hr.out HL.out ?_
        | refine wp_put_arr arr16 rfl (.tmp 4) (.tmp 19) rfl rfl (l' := L) rfl K3.out (Zs_length _) HL.out ?_)
      intro w5 H5 Hm5 Hs5
      go_wp2
      exact ret_arr arr16 rfl rfl H5.out HL.out rfl ⟨rfl, B3.out.trans (Hm5.out.below (fun j hj => by have := Hg.out; omega) B3.out.size)⟩

end Go.Proofs.YtacbpdampdikjaaDoor

namespace Go.Proofs.YtacbpdampdikjaaDoor
open Go.RowKit

set_option maxRecDepth 4096 in
set_option maxHeartbeats 1600000 in
theorem aenc_any (k s : List UInt8) (w : World) (hk : k.length = 240) (hs : s.length = 16) :
    Calls Tryd.prog 54 #[.agg (Nums .u8 (abn k)), .agg (Nums .u8 (abn s))] w (AnsA w .u8 (abn (aencU k s))) := by
  have Hl : ∀ x : List UInt8, x.length = 16 → Hid ((abn x).length = 16) := fun x hx => Lib.hid (by rw [abn_length, hx])
  have HK : Hid ((abn k).length = 240) := Lib.hid (by rw [abn_length, hk])
  have Hk := Lib.hid hk
  have Hs := Lib.hid hs
  have Hr : Hid (∀ i, i < 15 → (aroundsB gboxU k s i).length = 16) := Lib.hid fun i hi => arounds_length hk hs hi
  have Hkey : Hid (∀ i, i < 15 → (akeyAt k i).length = 16) := Lib.hid fun i hi => akeyAt_length hk hi
  clear hk hs
  have cadd : ∀ (x y : List UInt8) (W : World), Hid (x.length = 16) → Hid (y.length = 16) → Calls Tryd.prog 71 #[.agg (Nums .u8 (abn x)), .agg (Nums .u8 (abn y))] W (AnsA W .u8 (abn (aaddU x y))) := fun x y W hx hy => aadd_any x y W hx.out hy.out
  go_enter Tryd.func54, Tryd.ntmps54
  go_wp2_with (refine wp_box_arr (k := .u8) rfl 63 (.tmp 0) rfl (abn k) rfl ?_)
  intro w1 g1 G1 H1 Hb1 Hs1
  go_wp2_with (refine wp_box_arr (k := .u8) rfl 49 (.tmp 1) rfl (abn s) rfl ?_)
  intro w2 g2 G2 H2 Hb2 Hs2
  go_wp2_with (refine wp_alloc_arr (k := .u8) rfl 49 rfl 16 zero16 ?_)
  intro w3 g3 G3 H3 Hb3 Hs3
  have Hg : Hid (w.heap.size ≤ g1 ∧ w.heap.size ≤ g2 ∧ w.heap.size ≤ g3 ∧ g1 ≠ g3 ∧ g2 ≠ g3 ∧ g1 ≠ g2) := Lib.hid (by have := G1.out; have := G2.out; have := G3.out; have := Hs1.out; have := Hs2.out; omega)
  have F3 : Hid (SK w [(g2, 49, abn s), (g1, 63, abn k), (g3, 49, Zs 16)] w3) := Lib.hid ⟨by
    intro x hx
    simp only [List.mem_cons, List.not_mem_nil, or_false] at hx
    rcases hx with rfl | rfl | rfl
    · exact H2.out.below Hb3.out H2.out.lt
    · exact (H1.out.below Hb2.out H1.out.lt).below Hb3.out (Nat.lt_of_lt_of_le H1.out.lt Hb2.out.size)
    · exact H3.out, abon (abon Hb1.out Hb2.out) Hb3.out⟩
  clear H1 H2 H3 Hb1 Hb2 Hb3 G1 G2 G3 Hs1 Hs2 Hs3
  have K1 : Hid (Arr w3 g1 63 .u8 (abn k)) := Lib.hid (F3.out.1 (g1, 63, abn k) (by simp))
  have ix0 := fun W => run_indexAt_w (b := g1) arrKeys info_16 0 0 0 rfl (by omega) (by omega) W
  have sl1 : ∀ W, (Instr.sliceAt 63 (.pointer (some ⟨g1, 0, none⟩)) (some (.int .i64 1)) (some (.int .i64 14)) none).run Tryd.prog W = .ok (.slice (some ⟨g1, 16, none⟩) 13 14) W := fun W => run_slice_w (b := g1) arrKeys info_16 1 14 16 13 14 (by omega) (by omega) (by omega) (by omega) (by omega) (by omega) W
  go_wp2_with (first
    | refine wp_load_arr arr16 rfl (.tmp 3) rfl rfl (sk_hd F3.out) (Hl s Hs.out).out ?_
    | refine wp_load_part (ns := abn (akeyAt k 0)) arr16.under rfl info_16 rfl (.tmp 10) rfl 0 rfl K1.out (Hl _ (Hkey.out 0 (by omega))).out (fun j x hx => akeyAt_get (i := 0) j x hx) ?_)
  refine (cadd _ _ _ Hs (Lib.hid (Hkey.out 0 (by omega)))).mono ?_
  rintro e w4 ⟨rfl, hb4⟩
  have F4 := Lib.hid (sk_below (sk_sub (M := [(g1, 63, abn k), (g3, 49, Zs 16)]) F3.out (by simp)) hb4)
  have Hrd0 : Hid (aroundsB gboxU k s 0 = aaddU s (akeyAt k 0)) := Lib.hid rfl
  have Hrl := Hr.out 0 (by omega)
  rw [← Hrd0.out]
  clear hb4 F3 K1
  go_wp2_with (refine wp_alloc_arr (k := .u8) rfl 49 rfl 16 zero16 ?_)
  intro w5 g5 G5 H5 Hb5 Hs5
  go_wp2_with (refine wp_put_arr arr16 rfl (.tmp 6) (.tmp 12) rfl rfl (l' := abn (aroundsB gboxU k s 0)) rfl H5.out (Zs_length _) (Hl _ Hrl).out ?_)
  intro w6 H6 Hm6 Hs6
  have Hg5 : Hid (g1 ≠ g5 ∧ g3 ≠ g5 ∧ w.heap.size ≤ g5 ∧ g1 ≠ g3 ∧ w.heap.size ≤ g3) := Lib.hid (by
    have e := G5.out
    have h1 := (F4.out.1 (g1, 63, abn k) (by simp)).lt
    have h2 := (F4.out.1 (g3, 49, Zs 16) (by simp)).lt
    have h3 := F4.out.2.size
    have h4 := Hg.out
    dsimp only at h1 h2
    omega)
  have F6 : Hid (SK w [(g5, 49, abn (aroundsB gboxU k s 0)), (g1, 63, abn k), (g3, 49, Zs 16)] w6) := Lib.hid (sk_cons (sk_keep (sk_below F4.out Hb5.out) Hm6.out (by
    have h4 := Hg5.out
    intro x hx
    simp only [List.mem_cons, List.not_mem_nil, or_false] at hx
    rcases hx with rfl | rfl
    · exact h4.1
    · exact h4.2.1) Hg5.out.2.2.1) H6.out)
  clear F4 H5 Hb5 Hs5 Hm6 Hs6 H6 G5 Hrd0 Hrl ix0 Hg Hs
  go_wp2
  go_loopw [16] (fun i wr => ∃ n : Nat, n ≤ 13 ∧ i = .int .i64 (n : Int) ∧ Hid (SK w [(g5, 49, abn (aroundsB gboxU k s n)), (g1, 63, abn k), (g3, 49, Zs 16)] wr)) (fun i _ => 13 - (intOf i).toNat)
  case atStart => exact ⟨0, by omega, rfl, F6⟩
  case round =>
    clear F6
    obtain ⟨n, hn, rfl, F6⟩ := hrel
    by_cases hlt : n < 13
    · obtain ⟨q, hq⟩ : ∃ q, 16 + n * 16 = q := ⟨_, rfl⟩
      have ix := fun W => run_indexAt_row (P := Tryd.prog) (b := g1) (t := 83) (e := 49) (by kernel_rfl) info_16 16 13 14 n q (n : Int) rfl hlt hq W
      have Hq : Hid (16 * (n + 1) = q) := Lib.hid (by omega)
      clear hq
      have K1 : Hid (Arr wr g1 63 .u8 (abn k)) := Lib.hid (F6.out.1 (g1, 63, abn k) (by simp))
      have Hkl := Lib.hid (Hkey.out (n + 1) (by omega))
      have Hsl := Lib.hid (Hr.out n (by omega))
      have Hnx : Hid (aaddU (amixU (ashiftU (asubU (aroundsB gboxU k s n)))) (akeyAt k (n + 1)) = aroundsB gboxU k s (n + 1)) := Lib.hid rfl
      go_wp2_with (first
        | refine wp_load_part (ns := abn (akeyAt k (n + 1))) arr16.under rfl info_16 rfl (.tmp 18) rfl q rfl K1.out (Hl _ Hkl.out).out (fun j x hx => by have h := akeyAt_get (i := n + 1) j x hx; rw [Hq.out] at h; exact h) ?_
        | refine wp_alloc_arr (k := .u8) rfl 49 rfl 16 zero16 ?_)
      intro w7 g7 G7 H7 Hb7 Hs7
      go_wp2_with (refine wp_put_arr arr16 rfl (.tmp 8) (.tmp 19) rfl rfl (l' := abn (akeyAt k (n + 1))) rfl H7.out (Zs_length _) (Hl _ Hkl.out).out ?_)
      intro w8 H8 Hm8 Hs8
      have Hg7 : Hid (g5 ≠ g7 ∧ g1 ≠ g7 ∧ g3 ≠ g7 ∧ w.heap.size ≤ g7) := Lib.hid (by
        have e := G7.out
        have h0 := (sk_hd F6.out).lt
        have h1 := K1.out.lt
        have h2 := (F6.out.1 (g3, 49, Zs 16) (by simp)).lt
        have h3 := F6.out.2.size
        dsimp only at h2
        omega)
      have F8 : Hid (SK w [(g5, 49, abn (aroundsB gboxU k s n)), (g7, 49, abn (akeyAt k (n + 1))), (g1, 63, abn k), (g3, 49, Zs 16)] w8) := Lib.hid (sk_sub (sk_cons (sk_keep (sk_below F6.out Hb7.out) Hm8.out (by
        have h4 := Hg7.out
        intro x hx
        simp only [List.mem_cons, List.not_mem_nil, or_false] at hx
        rcases hx with rfl | rfl | rfl
        · exact h4.1
        · exact h4.2.1
        · exact h4.2.2.1) Hg7.out.2.2.2) H8.out) (by intro x hx; simp only [List.mem_cons, List.not_mem_nil, or_false] at hx ⊢; rcases hx with rfl | rfl | rfl | rfl <;> simp))
      have Hne : Hid (∀ x ∈ [(g7, 49, abn (akeyAt k (n + 1))), (g1, 63, abn k), (g3, 49, Zs 16)], x.1 ≠ g5) := Lib.hid (by
        have h4 := Hg7.out
        have h5 := Hg5.out
        intro x hx
        simp only [List.mem_cons, List.not_mem_nil, or_false] at hx
        rcases hx with rfl | rfl | rfl
        · exact h4.1.symm
        · exact h5.1
        · exact h5.2.1)
      have Hsn := Lib.hid (Hr.out (n + 1) (by omega))
      clear F6 H7 H8 Hb7 Hs7 Hm8 Hs8 G7 K1 ix
      have csub := fun W => asub_any (aroundsB gboxU k s n) W Hsl.out
      have H1l : Hid ((asubU (aroundsB gboxU k s n)).length = 16) := Lib.hid (by rw [asubU, asubB_length]; exact Hsl.out)
      have cshift := fun W => ashift_any (asubU (aroundsB gboxU k s n)) W H1l.out
      have H2l : Hid ((ashiftU (asubU (aroundsB gboxU k s n))).length = 16) := Lib.hid (ashift_length _)
      have cmix := fun W => amix_any (ashiftU (asubU (aroundsB gboxU k s n))) W H2l.out
      have H3l : Hid ((amixU (ashiftU (asubU (aroundsB gboxU k s n)))).length = 16) := Lib.hid (amix_length H2l.out)
      have cadd2 := fun W => cadd (amixU (ashiftU (asubU (aroundsB gboxU k s n)))) (akeyAt k (n + 1)) W H3l Hkl
      rw [Hnx.out] at cadd2
      have HX0 := Hl _ Hsl.out
      have HXk := Hl _ Hkl.out
      have HXn := Hl _ Hsn.out
      clear Hsl H1l H2l H3l Hnx
      revert csub cshift cmix cadd2 F8 Hne HX0 HXk HXn
      generalize abn (amixU (ashiftU (asubU (aroundsB gboxU k s n)))) = X3
      generalize abn (ashiftU (asubU (aroundsB gboxU k s n))) = X2
      generalize abn (asubU (aroundsB gboxU k s n)) = X1
      generalize hX0 : abn (aroundsB gboxU k s n) = X0
      generalize hX4 : abn (aroundsB gboxU k s (n + 1)) = X4
      generalize abn (akeyAt k (n + 1)) = XK
      intro F8 Hne csub cshift cmix cadd2 HX0 HXk HXn
      have HX4 := Lib.hid hX4
      clear hX0 hX4
      go_wp2_with fail
      refine wp_region_ends (fun w' => SK w [(g5, 49, X0), (g7, 49, XK), (g1, 63, abn k), (g3, 49, Zs 16)] w') 6 (by kernel_rfl) ?_
      refine wpAnyE_take (i := 0) (some 20) rfl rfl (by kernel_rfl) (fun _ _ _ h => h) (yields_arr (k := .u8) (l := X0) (off := 0) (b := g5) (by rfl) _ rfl rfl (fun w' h => (sk_hd h).range (fun j x hx => by rw [Nat.zero_add]; exact hx)) arr16.under rfl (by rw [HX0.out]; exact info_16)) (sk_drewN F8.out 1) ?_
      simp only [Act.put, List.setIfInBounds_toArray, List.set_cons_zero, List.set_cons_succ]
      refine wpAnyE_take (i := 4) (some 24) rfl rfl (by kernel_rfl) (fun _ _ _ h => h) (yields_arr (k := .u8) (l := XK) (off := 0) (b := g7) (by rfl) _ rfl rfl (fun w' h => Arr.range (t := 49) (l := XK) (h.1 (g7, 49, XK) (by simp)) (fun j x hx => by rw [Nat.zero_add]; exact hx)) arr16.under rfl (by rw [HXk.out]; exact info_16)) (sk_drewN F8.out 1) ?_
      simp only [Act.put, List.setIfInBounds_toArray, List.set_cons_zero, List.set_cons_succ]
      refine wpAnyE_one (i := 1) (by kernel_rfl) rfl (fun K1 hK1 => ?_)
      refine stepE_call (v := .agg (Nums .u8 X1)) (R := fun w' => Below _ _ w') (some 21) rfl rfl 74 Tryd.func74 (by kernel_rfl) rfl _ _ rfl [.agg (Nums .u8 X0)] rfl (csub _) (fun W1 hW1 => hK1.out _ _ (.inr (sk_below (sk_drewN F8.out 1) hW1)) ?_)
      have S1 := Lib.hid (sk_below (sk_drewN F8.out 1) hW1)
      clear hW1
      simp only [Act.put, List.setIfInBounds_toArray, List.set_cons_zero, List.set_cons_succ]
      refine wpAnyE_one (i := 2) (by kernel_rfl) rfl (fun K2 hK2 => ?_)
      refine stepE_call (v := .agg (Nums .u8 X2)) (R := fun w' => Below _ _ w') (some 22) rfl rfl 73 Tryd.func73 (by kernel_rfl) rfl _ _ rfl [.agg (Nums .u8 X1)] rfl (cshift _) (fun W2 hW2 => hK2.out _ _ (.inr (sk_below S1.out hW2)) ?_)
      have S2 := Lib.hid (sk_below S1.out hW2)
      clear hW2 S1
      simp only [Act.put, List.setIfInBounds_toArray, List.set_cons_zero, List.set_cons_succ]
      refine wpAnyE_one (i := 3) (by kernel_rfl) rfl (fun K3 hK3 => ?_)
      refine stepE_call (v := .agg (Nums .u8 X3)) (R := fun w' => Below _ _ w') (some 23) rfl rfl 72 Tryd.func72 (by kernel_rfl) rfl _ _ rfl [.agg (Nums .u8 X2)] rfl (cmix _) (fun W3 hW3 => hK3.out _ _ (.inr (sk_below S2.out hW3)) ?_)
      have S3 := Lib.hid (sk_below S2.out hW3)
      clear hW3 S2
      simp only [Act.put, List.setIfInBounds_toArray, List.set_cons_zero, List.set_cons_succ]
      refine wpAnyE_one (i := 5) (by kernel_rfl) rfl (fun K4 hK4 => ?_)
      refine stepE_call (v := .agg (Nums .u8 X4)) (R := fun w' => Below _ _ w') (some 25) rfl rfl 71 Tryd.func71 (by kernel_rfl) rfl _ _ rfl [.agg (Nums .u8 X3), .agg (Nums .u8 XK)] rfl (cadd2 _) (fun W4 hW4 => hK4.out _ _ (.inr (sk_below S3.out hW4)) ?_)
      have S4 := Lib.hid (sk_below S3.out hW4)
      clear hW4 S3
      simp only [Act.put, List.setIfInBounds_toArray, List.set_cons_zero, List.set_cons_succ]
      refine wpAnyE_one (i := 6) (by kernel_rfl) rfl (fun K5 hK5 => ?_)
      refine stepE_put arr16 none rfl rfl _ _ rfl rfl rfl (sk_hd S4.out) HX0.out HXn.out (fun W5 A5 M5 _ => hK5.out _ _ (.inl rfl) ?_)
      have S5 := Lib.hid (sk_put S4.out M5.out A5.out Hne.out Hg5.out.2.2.1)
      clear S4 A5 M5
      simp only [Act.put]
      refine wpAnyE_done (by kernel_rfl) ?_
      have S6 := Lib.hid (sk_sub (M := [(g5, 49, X4), (g1, 63, abn k), (g3, 49, Zs 16)]) S5.out (by intro x hx; simp only [List.mem_cons, List.not_mem_nil, or_false] at hx ⊢; rcases hx with rfl | rfl | rfl <;> simp))
      rw [← HX4.out] at S6
      clear hK1 hK2 hK3 hK4 hK5 K1 K2 K3 K4 K5 S5
      go_wp2
      go_roundw
      case rel => exact ⟨n + 1, by omega, by go_num, S6⟩
      case measure => simp [intOf]; omega
    · obtain rfl : n = 13 := by omega
      have ix : ∀ W, (Instr.indexAt 63 (.pointer (some ⟨g1, 0, none⟩)) (.int .i64 14)).run Tryd.prog W = .ok (.pointer (some ⟨g1, 224, none⟩)) W := fun W => run_indexAt_w (b := g1) arrKeys info_16 14 224 14 rfl (by omega) (by omega) W
      have Hkl := Lib.hid (Hkey.out 14 (by omega))
      have Hsl := Lib.hid (Hr.out 13 (by omega))
      have Hfin : Hid (aaddU (ashiftU (asubU (aroundsB gboxU k s 13))) (akeyAt k 14) = aencU k s) := Lib.hid rfl
      have csub := fun W => asub_any (aroundsB gboxU k s 13) W Hsl.out
      have H1l : Hid ((asubU (aroundsB gboxU k s 13)).length = 16) := Lib.hid (by rw [asubU, asubB_length]; exact Hsl.out)
      have cshift := fun W => ashift_any (asubU (aroundsB gboxU k s 13)) W H1l.out
      have H2l : Hid ((ashiftU (asubU (aroundsB gboxU k s 13))).length = 16) := Lib.hid (ashift_length _)
      have cadd2 := fun W => cadd (ashiftU (asubU (aroundsB gboxU k s 13))) (akeyAt k 14) W H2l Hkl
      have HXn : Hid ((abn (aencU k s)).length = 16) := Lib.hid (by rw [abn_length, ← Hfin.out, aadd_length H2l.out Hkl.out])
      rw [Hfin.out] at cadd2
      have HX0 := Hl _ Hsl.out
      have HXk := Hl _ Hkl.out
      have Hpart : Hid (∀ j x : Nat, (abn (akeyAt k 14))[j]? = some x → (abn k)[224 + j]? = some x) := Lib.hid (fun j x hx => akeyAt_get (i := 14) j x hx)
      have Hg13 : Hid (∀ x ∈ [(g5, 49, abn (aroundsB gboxU k s 13)), (g1, 63, abn k)], x.1 ≠ g3) := Lib.hid (by
        have h5 := Hg5.out
        intro x hx
        simp only [List.mem_cons, List.not_mem_nil, or_false] at hx
        rcases hx with rfl | rfl
        · exact h5.2.1.symm
        · exact h5.2.2.2.1)
      clear Hsl Hkl H1l H2l Hfin Hl HK Hk Hr Hkey cadd sl1
      generalize abn (ashiftU (asubU (aroundsB gboxU k s 13))) = X2 at *
      generalize abn (asubU (aroundsB gboxU k s 13)) = X1 at *
      generalize abn (aroundsB gboxU k s 13) = X0 at *
      generalize abn (aencU k s) = X4 at *
      generalize abn (akeyAt k 14) = XK at *
      generalize abn k = XX at *
      go_wp2_with fail
      refine wp_region_ends (fun w' => SK w [(g5, 49, X0), (g1, 63, XX), (g3, 49, Zs 16)] w') 7 (by kernel_rfl) ?_
      refine wpAnyE_take (i := 0) (some 27) rfl rfl (by kernel_rfl) (fun _ _ _ h => h) (yields_arr (k := .u8) (l := X0) (off := 0) (b := g5) (by rfl) _ rfl rfl (fun w' h => (sk_hd h).range (fun j x hx => by rw [Nat.zero_add]; exact hx)) arr16.under rfl (by rw [HX0.out]; exact info_16)) (sk_drewN F6.out 1) ?_
      simp only [Act.put, List.setIfInBounds_toArray, List.set_cons_zero, List.set_cons_succ]
      refine wpAnyE_take (i := 3) (v := .int .i64 14) (some 30) rfl rfl (by kernel_rfl) (fun _ _ _ h => h) (.inl ⟨by rfl, fun _ _ => rfl⟩) (sk_drewN F6.out 1) ?_
      simp only [Act.put, List.setIfInBounds_toArray, List.set_cons_zero, List.set_cons_succ]
      refine wpAnyE_take (i := 4) (v := .pointer (some ⟨g1, 224, none⟩)) (some 31) rfl rfl (by kernel_rfl) (fun _ _ _ h => h) (.inl ⟨by rfl, fun W _ => by go_simp⟩) (sk_drewN F6.out 1) ?_
      simp only [Act.put, List.setIfInBounds_toArray, List.set_cons_zero, List.set_cons_succ]
      refine wpAnyE_take (i := 5) (some 32) rfl rfl (by kernel_rfl) (fun _ _ _ h => h) (yields_arr (k := .u8) (l := XK) (off := 224) (b := g1) (by rfl) _ rfl rfl (fun w' h => Arr.range (t := 63) (l := XX) (h.1 (g1, 63, XX) (by simp)) Hpart.out) arr16.under rfl (by rw [HXk.out]; exact info_16)) (sk_drewN F6.out 1) ?_
      simp only [Act.put, List.setIfInBounds_toArray, List.set_cons_zero, List.set_cons_succ]
      refine wpAnyE_one (i := 1) (by kernel_rfl) rfl (fun K1 hK1 => ?_)
      refine stepE_call (v := .agg (Nums .u8 X1)) (R := fun w' => Below _ _ w') (some 28) rfl rfl 74 Tryd.func74 (by kernel_rfl) rfl _ _ rfl [.agg (Nums .u8 X0)] rfl (csub _) (fun W1 hW1 => hK1.out _ _ (.inr (sk_below (sk_drewN F6.out 1) hW1)) ?_)
      have S1 := Lib.hid (sk_below (sk_drewN F6.out 1) hW1)
      clear hW1
      simp only [Act.put, List.setIfInBounds_toArray, List.set_cons_zero, List.set_cons_succ]
      refine wpAnyE_one (i := 2) (by kernel_rfl) rfl (fun K2 hK2 => ?_)
      refine stepE_call (v := .agg (Nums .u8 X2)) (R := fun w' => Below _ _ w') (some 29) rfl rfl 73 Tryd.func73 (by kernel_rfl) rfl _ _ rfl [.agg (Nums .u8 X1)] rfl (cshift _) (fun W2 hW2 => hK2.out _ _ (.inr (sk_below S1.out hW2)) ?_)
      have S2 := Lib.hid (sk_below S1.out hW2)
      clear hW2 S1
      simp only [Act.put, List.setIfInBounds_toArray, List.set_cons_zero, List.set_cons_succ]
      refine wpAnyE_one (i := 6) (by kernel_rfl) rfl (fun K4 hK4 => ?_)
      refine stepE_call (v := .agg (Nums .u8 X4)) (R := fun w' => Below _ _ w') (some 33) rfl rfl 71 Tryd.func71 (by kernel_rfl) rfl _ _ rfl [.agg (Nums .u8 X2), .agg (Nums .u8 XK)] rfl (cadd2 _) (fun W4 hW4 => hK4.out _ _ (.inr (sk_below S2.out hW4)) ?_)
      have S4 := Lib.hid (sk_below S2.out hW4)
      clear hW4 S2
      simp only [Act.put, List.setIfInBounds_toArray, List.set_cons_zero, List.set_cons_succ]
      refine wpAnyE_one (i := 7) (by kernel_rfl) rfl (fun K5 hK5 => ?_)
      refine stepE_put arr16 none rfl rfl _ _ rfl rfl rfl (S4.out.1 (g3, 49, Zs 16) (by simp)) (Zs_length _) HXn.out (fun W5 A5 M5 _ => hK5.out _ _ (.inl rfl) ?_)
      have S5 := Lib.hid (S4.out.2.trans (M5.out.below (B := w.heap.size) (fun j hj => by rw [hj]; exact Hg5.out.2.2.2.2) S4.out.2.size))
      clear hK1 hK2 hK4 hK5 K1 K2 K4 K5 S4 M5
      simp only [Act.put]
      refine wpAnyE_done (by kernel_rfl) ?_
      go_wp2
      exact ret_arr arr16 rfl rfl A5.out HXn.out rfl ⟨rfl, S5.out⟩

end Go.Proofs.YtacbpdampdikjaaDoor

/-
  An array is equal to itself. No program is named here.
-/
namespace Go.Proofs.YtacbpdampdikjaaDoor
open Go.RowKit

theorem run_eqItems_same {P : Program} {e : TypeId} {k : IntKind} (he : P.underlying e = some (.int k)) (ce : P.cellsOf e = 1) (l : List Nat) (w : World) (d : Nat) :
    ∀ is : List Nat, (∀ i ∈ is, i < l.length) → (Op.eqItems (d + 1) e (P.cellsOf e) (Nums k l) (Nums k l) is).run P w = .ok true w
  | [], _ => by simp [Op.eqItems]
  | i :: is, h => by
    have hi : i < l.length := h i (by simp)
    have hag : (isAgg e).run P w = .ok false w := by unfold isAgg; rw [Sem.run_bind, run_underlying he]; rfl
    have hp : (part e (Nums k l) i).run P w = .ok (.int k (l[i] : Int)) w := by
      simp [part, Sem.run_bind, hag, Nums_get hi]
    have ih := run_eqItems_same he ce l w d is (fun j hj => h j (by simp [hj]))
    rw [ce] at ih ⊢
    simp only [Op.eqItems, Sem.run_bind, Nat.mul_one, hp, Result.andThen_ok, run_equalIn_int w d e k k _ _ he]
    simpa using ih
theorem run_equalIn_same {P : Program} {t e : TypeId} {k : IntKind} {n : Nat} (T : ArrT P t e k n) (ce : P.cellsOf e = 1) {l : List Nat} (hl : l.length = n) (w : World) : (Op.equalIn 10000 t (.agg (Nums k l)) (.agg (Nums k l))).run P w = .ok true w := by
  have hi : ∃ i, P.info? e = some i := by
    have h := T.elem
    unfold Program.underlying at h
    cases hq : P.info? e with
    | none => simp [hq] at h
    | some i => exact ⟨i, rfl⟩
  obtain ⟨i, hi⟩ := hi
  rw [show (10000 : Nat) = 9999 + 1 from rfl, run_equalIn_array w 9999 _ _ T.under hi]
  exact run_eqItems_same T.elem ce l w 9998 _ (fun j hj => by rw [hl]; exact List.mem_range.1 hj)

end Go.Proofs.YtacbpdampdikjaaDoor

namespace Go.Proofs.YtacbpdampdikjaaDoor
open Go.RowKit

section
variable {P : Program} {t e : TypeId} {k : IntKind} {b m n : Nat}
theorem sizeOf_info {s : Nat} (hs : (P.info? e).map (·.size) = some s) (W : World) : (sizeOf e).run P W = .ok s W := by
  cases hq : P.info? e with
  | none => simp [hq] at hs
  | some i =>
    have : i.size = s := by simpa [hq] using hs
    simp [sizeOf, typeInfo, hq, this]
/-- One of the arrays out of an array of arrays. -/
theorem run_index_w {e2 : TypeId} {n2 s : Nat} (T : ArrW P t e m n) (he : P.underlying e = some (.array n2 e2)) (hs : (P.info? e).map (·.size) = some s) (l ns : List Nat) (i : Nat) (hi : i < m) (hn : ns.length = s) (hl : i * s + s ≤ l.length) (hns : ∀ j x : Nat, ns[j]? = some x → l[i * s + j]? = some x) (W : World) :
    (Instr.index t (.agg (Nums k l)) (.int .i64 (i : Int))).run P W = .ok (.agg (Nums k ns)) W := by
  have hag : (isAgg e).run P W = .ok true W := by unfold isAgg; rw [Sem.run_bind, run_underlying he]; rfl
  have hext : (Nums k l).extract (i * s) (i * s + s) = Nums k ns := by
    apply Array.ext_getElem?
    intro j
    rw [Array.getElem?_extract]
    by_cases hj : j < s
    · rw [if_pos (by rw [Nums_size]; omega), Nums_get (show i * s + j < l.length by omega), Nums_get (show j < ns.length by omega)]
      have h2 := hns j _ (List.getElem?_eq_getElem (show j < ns.length by omega))
      obtain ⟨h3, h4⟩ := List.getElem?_eq_some_iff.1 h2
      rw [h4]
    · rw [if_neg (by rw [Nums_size]; omega), Array.getElem?_eq_none (by rw [Nums_size]; omega)]
  simp [Instr.index, asIntOf, Sem.run_bind, run_underlying T.under W, sizeOf_info hs, part, hag, hi, hext]
/-- A slice from a place on. -/
theorem run_slice_from (hu : P.underlying t = some (.slice e)) (hs : (P.info? e).map (·.size) = some 1) (o len cap lo : Nat) (z : Int) (hz : z = (lo : Int)) (h1 : lo < len) (h2 : len ≤ cap) (W : World) :
    (Instr.slice t (.slice (some ⟨b, o, none⟩) len cap) (some (.int .i64 z)) none none).run P W = .ok (.slice (some ⟨b, o + lo, none⟩) (len - lo) (cap - lo)) W := by
  subst hz
  have hne : cap ≠ lo := by omega
  have hle : lo ≤ len := by omega
  simp [Instr.slice, run_underlying hu, Instr.sliceBounds, run_sliceBound, sizeOf_info hs, hle, hne, add_flat, Sem.run_bind]
/-- .. of an array within an array. -/
theorem run_slice_arr_from (T : ArrT P t e k n) (hs : (P.info? e).map (·.size) = some 1) (o lo : Nat) (z : Int) (hz : z = (lo : Int)) (h1 : lo < n) (W : World) :
    (Instr.sliceAt t (.pointer (some ⟨b, o, none⟩)) (some (.int .i64 z)) none none).run P W = .ok (.slice (some ⟨b, o + lo, none⟩) (n - lo) (n - lo)) W := by
  subst hz
  have hne : n ≠ lo := by omega
  have hle : lo ≤ n := by omega
  simp [Instr.sliceAt, Instr.sureAddr, run_underlying T.under, Instr.sliceBounds, run_sliceBound, sizeOf_info hs, hle, hne, add_flat, Sem.run_bind]
/-- .. whole. -/
theorem run_slice_arr_all (T : ArrT P t e k n) (hs : (P.info? e).map (·.size) = some 1) (o : Nat) (W : World) :
    (Instr.sliceAt t (.pointer (some ⟨b, o, none⟩)) none none none).run P W = .ok (.slice (some ⟨b, o, none⟩) n n) W := by
  simp [Instr.sliceAt, Instr.sureAddr, run_underlying T.under, Instr.sliceBounds, sizeOf_info hs, add_flat, Sem.run_bind]
/-- The address of one, of an array within an array. -/
theorem run_indexAt_off (T : ArrT P t e k n) (hs : (P.info? e).map (·.size) = some 1) (o j q : Nat) (hj : j < n) (hq : o + j = q) (W : World) :
    (Instr.indexAt t (.pointer (some ⟨b, o, none⟩)) (.int .i64 (j : Int))).run P W = .ok (.pointer (some ⟨b, q, none⟩)) W := by
  subst hq
  simp [Instr.indexAt, Instr.sureAddr, asIntOf, run_underlying T.under, sizeOf_info hs, hj, add_flat, Sem.run_bind]
/-- The way out of a function that answers an array of arrays, and a number. -/
theorem ret_two {fn : Func} {a : Act} {w : World} {R : Ending → World → Prop} {l : List Nat} (T : ArrW P t e m n) {p q : Tmp} (hres : fn.results = #[.cell p t, .tmp q])
    (hp : a.tmps.getD p undef = .pointer (some ⟨b, 0, none⟩)) {tb : TypeId} (h : Arr w b tb k l) (hl : l.length = n) {v : Value} (hq : a.tmps.getD q undef = v) (hd : a.defers = []) (hR : R (.returned (.tuple #[.agg (Nums k l), v])) w) : bodyPost P fn R .ret a w := by
  have hp' : a.tmps[p]?.getD undef = .pointer (some ⟨b, 0, none⟩) := by simpa using hp
  have hq' : a.tmps[q]?.getD undef = v := by simpa using hq
  refine bodyPost_ret (v := .tuple #[.agg (Nums k l), v]) ?_ hd hR
  simp [results, hres, hp', hq', asAddr, run_loadVar_row w b tb t (Nums k l) (0, 0) (.array m e) h T.under rfl (by rw [Nums_size, hl]; exact T.size)]
theorem ret_w {fn : Func} {a : Act} {w : World} {R : Ending → World → Prop} {l : List Nat} (T : ArrW P t e m n) {p : Tmp} (hres : fn.results = #[.cell p t])
    (hp : a.tmps.getD p undef = .pointer (some ⟨b, 0, none⟩)) {tb : TypeId} (h : Arr w b tb k l) (hl : l.length = n) (hd : a.defers = []) (hR : R (.returned (.agg (Nums k l))) w) : bodyPost P fn R .ret a w :=
  bodyPost_ret (results_cell_row hres _ w b tb _ (0, 0) (.array m e) hp h T.under rfl (by rw [Nums_size, hl]; exact T.size)) hd hR
end

theorem arrWords : ArrW Tryd.prog 76 75 60 240 := ⟨by kernel_rfl, by kernel_rfl⟩
theorem info_4 : (Tryd.prog.info? 75).map (·.size) = some 4 := by kernel_rfl
theorem zeroWords : (Tryd.prog.info? 76).map (fun i => (i.zero, i.size)) = some (some (.agg (Nums .u8 (Zs 240))), 240) := by kernel_rfl
theorem zeroKeys : (Tryd.prog.info? 63).map (fun i => (i.zero, i.size)) = some (some (.agg (Nums .u8 (Zs 240))), 240) := by kernel_rfl
theorem zeroKeysR : (Tryd.prog.info? 51).map (fun i => (i.zero, i.size)) = some (some (.agg (Nums .u8 (Zs 240))), 240) := by kernel_rfl

/-- The words of all keys, as numbers: what stands at a place. -/
def awn (L : List Nat) (i : Nat) : List Nat := (L.drop (4 * i)).take 4
theorem awn_get {L : List Nat} {i : Nat} : ∀ j x : Nat, (awn L i)[j]? = some x → L[4 * i + j]? = some x := by
  intro j x h
  unfold awn at h
  rw [List.getElem?_take] at h
  split at h
  · rw [List.getElem?_drop] at h
    exact h
  · cases h
theorem awn_length {L : List Nat} (h : L.length = 240) {i : Nat} (hi : i < 60) : (awn L i).length = 4 := by simp [awn, h]; omega
theorem awn_abn (L : List UInt8) (i : Nat) : awn (abn L) i = abn (awordAt L i) := by simp [awn, abn, awordAt, List.map_take, List.map_drop]

theorem afill_low {L M : List Nat} {k j : Nat} (h : j < k) (hk : k ≤ L.length) : (L.take k ++ M.drop k)[j]? = L[j]? := by
  rw [List.getElem?_append_left (by simp; omega), List.getElem?_take_of_lt h]
/-- What the two say of all keys. -/
structure KeyFacts (key : List UInt8) (L : List Nat) : Prop where
  len : L.length = 240
  low : ∀ j, j < 32 → ∃ x : UInt8, key[j]? = some x ∧ L[j]? = some x.toNat
  high : ∀ i, 8 ≤ i → i < 60 → ∃ a b c d : UInt8, awn L (i - 1) = four a b c d ∧ ∀ j, j < 4 → ∃ x y : UInt8, (awn L (i - 8))[j]? = some x.toNat ∧ (abn (achgB gboxU i [a, b, c, d]))[j]? = some y.toNat ∧ L[4 * i + j]? = some (x ^^^ y).toNat
theorem keyFacts {key : List UInt8} (h : key.length = 32) : KeyFacts key (abn (akeysU key)) := by
  refine ⟨by rw [abn_length]; exact akeys_length h, fun j hj => ?_, fun i h8 hi => ?_⟩
  · have h1 := akeys_low (f := gboxU) h hj
    have h2 := List.getElem?_eq_getElem (show j < key.length by omega)
    exact ⟨key[j], h2, abn_get (by rw [← h2]; exact h1)⟩
  · obtain ⟨a, b, c, d, e⟩ := afour (awordAt_length (L := akeysU key) (akeys_length h) (i := i - 1) (by omega))
    refine ⟨a, b, c, d, by rw [awn_abn, e]; rfl, fun j hj => ?_⟩
    have h1 := akeys_high (f := gboxU) h h8 hi
    have e' : awordAt (akeysB gboxU key) (i - 1) = [a, b, c, d] := e
    rw [e'] at h1
    have l1 := awordAt_length (L := akeysU key) (akeys_length h) (i := i - 8) (by omega)
    have l2 := achg_length gboxU i (w := [a, b, c, d]) rfl
    obtain ⟨x, y, hx, hy, hxy⟩ := aadd_at (s := awordAt (akeysU key) (i - 8)) (t := achgB gboxU i [a, b, c, d]) (k := j) (by omega) (by omega)
    refine ⟨x, y, by rw [awn_abn]; exact abn_get hx, abn_get hy, abn_get ?_⟩
    have h3 : (awordAt (akeysU key) i)[j]? = some (x ^^^ y) := by rw [← hxy]; exact congrArg (·[j]?) h1
    rw [← awordAt_get hj]
    exact h3

end Go.Proofs.YtacbpdampdikjaaDoor

namespace Go.Proofs.YtacbpdampdikjaaDoor
open Go.RowKit

section
variable {P : Program} {t e : TypeId} {k : IntKind}
theorem info_some {i : TypeDesc} (h : P.underlying e = some i) : ∃ i, P.info? e = some i := by
  unfold Program.underlying at h
  cases hq : P.info? e with
  | none => simp [hq] at h
  | some i => exact ⟨i, rfl⟩
theorem run_eqItems_dec (he : P.underlying e = some (.int k)) (ce : P.cellsOf e = 1) (l l' : List Nat) (w : World) (d : Nat) :
    ∀ is : List Nat, (∀ i ∈ is, i < l.length ∧ i < l'.length) → (Op.eqItems (d + 1) e (P.cellsOf e) (Nums k l) (Nums k l') is).run P w = .ok (is.all fun i => l[i]? == l'[i]?) w
  | [], _ => by simp [Op.eqItems]
  | i :: is, h => by
    obtain ⟨hi, hi'⟩ := h i (by simp)
    have hag : (isAgg e).run P w = .ok false w := by unfold isAgg; rw [Sem.run_bind, run_underlying he]; rfl
    have hp : (part e (Nums k l) i).run P w = .ok (.int k (l[i] : Int)) w := by simp [part, Sem.run_bind, hag, Nums_get hi]
    have hp' : (part e (Nums k l') i).run P w = .ok (.int k (l'[i] : Int)) w := by simp [part, Sem.run_bind, hag, Nums_get hi']
    have ih := run_eqItems_dec he ce l l' w d is (fun j hj => h j (by simp [hj]))
    rw [ce] at ih ⊢
    simp only [Op.eqItems, Sem.run_bind, Nat.mul_one, hp, hp', Result.andThen_ok, run_equalIn_int w d e k k _ _ he]
    by_cases hq : l[i] = l'[i]
    · simp [hq, ih, List.getElem?_eq_getElem hi, List.getElem?_eq_getElem hi']
    · have h1 : ¬ (l[i] : Int) = (l'[i] : Int) := by omega
      simp [hq, h1, List.getElem?_eq_getElem hi, List.getElem?_eq_getElem hi']
/-- Two arrays are equal where their numbers are. -/
theorem run_equalIn_dec {n : Nat} (T : ArrT P t e k n) (ce : P.cellsOf e = 1) {l l' : List Nat} (hl : l.length = n) (hl' : l'.length = n) (d : Nat) (w : World) : (Op.equalIn (d + 2) t (.agg (Nums k l)) (.agg (Nums k l'))).run P w = .ok (decide (l = l')) w := by
  obtain ⟨i, hi⟩ := info_some T.elem
  rw [run_equalIn_array w (d + 1) _ _ T.under hi, run_eqItems_dec T.elem ce l l' w d _ (fun j hj => by have := List.mem_range.1 hj; omega)]
  congr 1
  rw [Bool.eq_iff_iff, List.all_eq_true, decide_eq_true_iff]
  constructor
  · intro h
    apply List.ext_getElem?
    intro j
    rcases Nat.lt_or_ge j n with hj | hj
    · simpa using h j (List.mem_range.2 hj)
    · rw [List.getElem?_eq_none (by omega), List.getElem?_eq_none (by omega)]
  · intro h j _
    rw [h]
    simp
theorem run_eqItems_rows {e2 : TypeId} {n2 m n : Nat} (T2 : ArrT P e e2 k n2) (ce2 : P.cellsOf e2 = 1) (ce : P.cellsOf e = n2) (l : List Nat) (hl : l.length = m * n2) (w : World) (d : Nat) :
    ∀ is : List Nat, (∀ i ∈ is, i < m) → (Op.eqItems (d + 2) e (P.cellsOf e) (Nums k l) (Nums k l) is).run P w = .ok true w
  | [], _ => by simp [Op.eqItems]
  | i :: is, h => by
    have hi : i < m := h i (by simp)
    have hag : (isAgg e).run P w = .ok true w := by unfold isAgg; rw [Sem.run_bind, run_underlying T2.under]; rfl
    have hsz : (sizeOf e).run P w = .ok n2 w := sizeOf_info T2.size w
    have hle : i * n2 + n2 ≤ l.length := by
      rw [hl, ← Nat.succ_mul]
      exact Nat.mul_le_mul_right _ hi
    have hext : (Nums k l).extract (i * n2) (i * n2 + n2) = Nums k ((l.drop (i * n2)).take n2) := by
      simp [Nums, List.map_take, List.map_drop]
    have hp : (part e (Nums k l) (i * n2)).run P w = .ok (.agg (Nums k ((l.drop (i * n2)).take n2))) w := by simp [part, Sem.run_bind, hag, hsz, hext]
    have ih := run_eqItems_rows (n := n) T2 ce2 ce l hl w d is (fun j hj => h j (by simp [hj]))
    rw [ce] at ih ⊢
    have hq := run_equalIn_dec T2 ce2 (l := (l.drop (i * n2)).take n2) (l' := (l.drop (i * n2)).take n2) (by simp; omega) (by simp; omega) d w
    simp only [Op.eqItems, Sem.run_bind, hp, Result.andThen_ok, hq]
    simpa using ih
/-- An array of arrays is equal to itself. -/
theorem run_equalIn_rows {e2 : TypeId} {n2 m n : Nat} (T : ArrW P t e m n) (T2 : ArrT P e e2 k n2) (ce2 : P.cellsOf e2 = 1) (ce : P.cellsOf e = n2) {l : List Nat} (hl : l.length = m * n2) (w : World) : (Op.equalIn 10000 t (.agg (Nums k l)) (.agg (Nums k l))).run P w = .ok true w := by
  obtain ⟨i, hi⟩ := info_some T2.under
  rw [show (10000 : Nat) = 9999 + 1 from rfl, run_equalIn_array w 9999 _ _ T.under hi]
  exact run_eqItems_rows (n := n) T2 ce2 ce l hl w 9997 _ (fun j hj => List.mem_range.1 hj)
end

end Go.Proofs.YtacbpdampdikjaaDoor

/-
  A region that draws its order and loads nothing: what yields in whatever world is taken first. No program is named here.
-/
namespace Go.Proofs.YtacbpdampdikjaaDoor
open Go.RowKit

section
variable {P : Program} {ops : Array Oper} {Q : Exit → Act → World → Prop} {md : Region.Mode}
theorem wp_region_takes {id : Nat} {a : Act} {w : World} (hm : P.follows .mixedOrders = true)
    (h : wpAny P .any ops Q ops.size (Array.replicate ops.size false) a w.drew) : (Code.region id ops true).wp P Q a w :=
  wp_region_any hm h
theorem wpAnyT_take {i : Nat} {oi : Oper} {v : Value} {fuel : Nat} {listed : Array Bool} {a : Act} {w : World} (d : Option Tmp) (hd : oi.dst = d) (hi : ops[i]? = some oi)
    (hs : (Region.noSelect ops && Region.free md ops listed i && (Region.ready md ops listed).contains i) = true)
    (hQ : ∀ c a w, Q (.panic c) (a.put oi.dst v) w → Q (.panic c) a w) (hy : Yields P ops oi v a)
    (h : wpAny P md ops Q fuel (listed.setIfInBounds i true) (a.put d v) w) : wpAny P md ops Q (fuel + 1) listed a w := by
  subst hd
  simp only [Bool.and_eq_true] at hs
  exact wpAny_take hi hs.1.1 hs.1.2 hs.2 hQ hy h
theorem wpAnyT_one {i : Nat} {o : Oper} {fuel : Nat} {listed : Array Bool} {a : Act} {w : World} (hr : Region.ready md ops listed = [i]) (ho : ops[i]? = some o)
    (h : ∀ K' : Act → World → Prop, Shut (∀ a w, wpAny P md ops Q fuel (listed.setIfInBounds i true) a w → K' a w) → if Region.wanted o (yielded ops a.tmps) = true then Oper.wp P o a w K' Q else K' (a.put o.dst undef) w) :
    wpAny P md ops Q (fuel + 1) listed a w := by
  refine ⟨fun h0 => (by rw [hr] at h0; cases h0), fun j hj => ?_⟩
  rw [hr, List.mem_singleton] at hj
  subst hj
  exact wpOp_step ho (fun K' hK => h K' (fun a w hW => hK a w hW))
theorem wpAnyT_done {fuel : Nat} {listed : Array Bool} {a : Act} {w : World} (hr : Region.ready md ops listed = []) (h : Q .normal a w) : wpAny P md ops Q fuel listed a w := wpAny_done hr h fuel
/-- A copy into an array. -/
theorem stepT_copy {w : World} {g : Nat} {t : TypeId} {k : IntKind} {o : Oper} {a : Act} {K : Act → World → Prop} {E : Prop} (d0 : Option Tmp) (hd0 : o.dst = d0) (hgd : o.guard = none) (d s : Operand) (dT sT : TypeId)
    (ho : o.op = .call { callee := .builtin .copy, args := #[d, s], argTypes := #[dT, sT] }) (e : TypeId) (hu : P.underlying dT = some (.slice e)) (hsz : (P.info? e).map (·.size) = some 1)
    (off dl dc : Nat) (A : Addr) (sl sc : Nat) (hd : a.eval d = .slice (some ⟨g, off, none⟩) dl dc) (hs : a.eval s = .slice (some A) sl sc) (l ns : List Nat) (m : Nat) (hm : ns.length = m) (h : Arr w g t k l)
    (hn : m = Nat.min sl dl) (hsrc : ∀ (j x : Nat), ns[j]? = some x → w.cell? (A.add j) = some (.int k (x : Int))) (hfit : off + m ≤ l.length)
    (hK : ∀ w', Hid (Arr w' g t k (splice l off ns)) → Hid (Moves (fun j => j = g) w w') → Hid (w'.heap.size = w.heap.size) → K (a.put d0 (goInt (m : Int))) w') :
    if Region.wanted o (yielded ops a.tmps) = true then Oper.wp P o a w K Q else E := by
  subst hd0 hm
  exact step_copy_arr hgd d s dT sT ho e hu hsz off dl dc A sl sc hd hs l ns h hn hsrc hfit hK
theorem run_storeVar_part {w : World} {g : Nat} {t tb : TypeId} {k : IntKind} {l ns : List Nat} {off : Nat} (h : Arr w g tb k l) (hfit : off + ns.length ≤ l.length) (hi : (P.info? t).map (·.size) = some ns.length) :
    (storeVar t ⟨g, off, none⟩ (.agg (Nums k ns))).run P w = .ok () (w.setRow g (Nums k (splice l off ns))) := by
  have hst := run_storeCells_at P g off tb (Nums k ns).toList 0 (Nums k l) w h (by simpa [Nums_size] using hfit) (fun v hv => (Array.all_eq_true_iff_forall_mem.1 (Nums_one k ns)) v (by simpa using hv))
  have e : ((Nums k l).toList.take (off + 0) ++ (Nums k ns).toList ++ (Nums k l).toList.drop (off + 0 + (Nums k ns).toList.length)).toArray = Nums k (splice l off ns) := by
    simp [Nums, splice, List.map_take, List.map_drop]
  rw [e] at hst
  cases hq : P.info? t with
  | none => simp [hq] at hi
  | some i =>
    have hs : i.size = ns.length := by simpa [hq] using hi
    have hsz : (Nums k ns).size = i.size := by rw [Nums_size, hs]
    simp [storeVar, sizeOf, typeInfo, hq, Value.cells, hsz, hst]
/-- A store into a part of an array. -/
theorem stepE_put_part {w : World} {g : Nat} {t tb : TypeId} {k : IntKind} {o : Oper} {a : Act} {K : Act → World → Prop} {E : Prop} {l ns : List Nat} (d : Option Tmp) (hd : o.dst = d) (hgd : o.guard = none) (x y : Operand) (ho : o.op = .store t x y) (off : Nat) (hx : a.eval x = .pointer (some ⟨g, off, none⟩)) (hy : a.eval y = .agg (Nums k ns))
    (h : Arr w g tb k l) (hfit : off + ns.length ≤ l.length) (hi : (P.info? t).map (·.size) = some ns.length)
    (hK : ∀ w', Hid (Arr w' g tb k (splice l off ns)) → Hid (Moves (fun j => j = g) w w') → Hid (w'.heap.size = w.heap.size) → K (a.put d undef) w') : if Region.wanted o (yielded ops a.tmps) = true then Oper.wp P o a w K Q else E := by
  subst hd
  rw [if_pos (by simp [Region.wanted, hgd])]
  unfold Oper.wp
  have hrun : (Instr.storeAt t (.pointer (some ⟨g, off, none⟩)) (.agg (Nums k ns))).run P w = .ok () (w.setRow g (Nums k (splice l off ns))) := by
    simp only [Instr.storeAt, Instr.sureAddr, Sem.run_bind, Sem.run_pure, Result.andThen_ok]
    exact run_storeVar_part h hfit hi
  simp [execOp, ho, hx, hy, hrun, Result.andThen, Oper.upon]
  exact hK _ (Lib.hid (h.store_moves _).1) (Lib.hid (h.store_moves _).2.1) (Lib.hid (h.store_moves _).2.2)
end

end Go.Proofs.YtacbpdampdikjaaDoor

namespace Go.Proofs.YtacbpdampdikjaaDoor
open Go.RowKit

section
variable {P : Program} {ops : Array Oper} {Q : Exit → Act → World → Prop} {md : Region.Mode} {S : World → Prop}
theorem wp_region_heldD {id : Nat} {a : Act} {w : World} (hm : P.follows .mixedOrders = true)
    (h : wpAnyH P .any ops Q S ops.size (Array.replicate ops.size false) a w.drew) : (Code.region id ops true).wp P Q a w := wp_region_held hm h
theorem wpAnyH_takeD {i : Nat} {oi : Oper} {v : Value} {fuel : Nat} {listed : Array Bool} {a : Act} {w : World} (d : Option Tmp) (hd : oi.dst = d) (hi : ops[i]? = some oi)
    (hs : (Region.noSelect ops && Region.free md ops listed i && (Region.ready md ops listed).contains i) = true)
    (hQ : ∀ c a w, Q (.panic c) (a.put oi.dst v) w → Q (.panic c) a w) (hy : YieldsIf P ops S oi v a) (hS : S w)
    (h : wpAnyH P md ops Q S fuel (listed.setIfInBounds i true) (a.put d v) w) : wpAnyH P md ops Q S (fuel + 1) listed a w := by
  subst hd
  simp only [Bool.and_eq_true] at hs
  exact wpAnyH_take hi hs.1.1 hs.1.2 hs.2 hQ hy hS h
theorem wpAnyH_oneD {i : Nat} {o : Oper} {fuel : Nat} {listed : Array Bool} {a : Act} {w : World} (hr : Region.ready md ops listed = [i]) (ho : ops[i]? = some o)
    (h : ∀ K' : Act → World → Prop, Shut (∀ a w, S w → wpAnyH P md ops Q S fuel (listed.setIfInBounds i true) a w → K' a w) → if Region.wanted o (yielded ops a.tmps) = true then Oper.wp P o a w K' Q else K' (a.put o.dst undef) w) :
    wpAnyH P md ops Q S (fuel + 1) listed a w := by
  refine ⟨fun h0 => (by rw [hr] at h0; cases h0), fun j hj => ?_⟩
  rw [hr, List.mem_singleton] at hj
  subst hj
  exact wpOp_step ho (fun K' hK => h K' (fun a w hS hW => hK a w ⟨hS, hW⟩))
theorem wpAnyH_doneD {fuel : Nat} {listed : Array Bool} {a : Act} {w : World} (hr : Region.ready md ops listed = []) (h : Q .normal a w) : wpAnyH P md ops Q S fuel listed a w := wpAnyH_done hr h fuel
/-- A call by its contract, guarded or not. -/
theorem stepE_callW {fn : Func} {c : Code} {o : Oper} {a : Act} {w : World} {K : Act → World → Prop} {E : Prop} (d : Option Tmp) (hd : o.dst = d) (hw : Region.wanted o (yielded ops a.tmps) = true) (f : FuncId) (hf : P.funcs[f]? = some fn) (hname : (fn.name == "runtime.NumGoroutine") = false) (hb : fn.body = some c) (xs : Array Operand) (ts : Array TypeId)
    (ho : o.op = .call { callee := .value (.func f), args := xs, argTypes := ts }) (args : List Value) (hx : xs.toList.map a.eval = args) {v : Value} {R : World → Prop}
    (hc : Calls P f args.toArray w fun e w' => e = .returned v ∧ R w') (hK : ∀ w', R w' → K (a.put d v) w') : if Region.wanted o (yielded ops a.tmps) = true then Oper.wp P o a w K Q else E := by
  subst hd
  rw [if_pos hw]
  unfold Oper.wp
  subst hx
  have hr := run_enter hf hname hb (xs.map a.eval) w
  have e : (xs.toList.map a.eval).toArray = xs.map a.eval := by rw [← Array.toList_map, Array.toArray_toList]
  rw [e] at hc
  simp [execOp, ho, resolve, go_sem, hr]
  refine hc.mono ?_
  rintro e w' ⟨rfl, h⟩
  exact hK w' h
end

/-- One array among those that stand there, as a load wants it. -/
theorem sk_range {w w' : World} {L : List (Nat × TypeId × List Nat)} {g : Nat} {t : TypeId} {l : List Nat} (h : SK w L w') (hm : (g, t, l) ∈ L) : w'.rangeAt g 0 (l.map fun (n : Nat) => Value.int .u8 (n : Int)) :=
  (Arr.range (t := t) (l := l) (h.1 (g, t, l) hm)) (fun j x hx => by rw [Nat.zero_add]; exact hx)

theorem eqg16 : Tryd.prog.eqGuardType Tryd.prog.depth 49 = false := by kernel_rfl
theorem cells16 : Tryd.prog.cellsOf 49 = 16 := by kernel_rfl
theorem cells8 : Tryd.prog.cellsOf 5 = 1 := by kernel_rfl
theorem eq16_dec {l l' : List Nat} (hl : l.length = 16) (hl' : l'.length = 16) (w : World) : (Op.equalIn 10000 49 (.agg (Nums .u8 l)) (.agg (Nums .u8 l'))).run Tryd.prog w = .ok (decide (l = l')) w := run_equalIn_dec arr16 cells8 hl hl' 9998 w
theorem eq16_same {l : List Nat} (hl : l.length = 16) (w : World) : (Op.equalIn 10000 49 (.agg (Nums .u8 l)) (.agg (Nums .u8 l))).run Tryd.prog w = .ok true w := by
  rw [eq16_dec hl hl, decide_eq_true rfl]

end Go.Proofs.YtacbpdampdikjaaDoor

namespace Go.Proofs.YtacbpdampdikjaaDoor
open Go.RowKit

set_option maxRecDepth 4096 in
set_option maxHeartbeats 1600000 in
/-- The closure that tells a block by its place. -/
theorem ctell_any (k s : List UInt8) (i g1 g2 : Nat) (w : World) (hk : k.length = 240) (hs : s.length = 16) (hi : i ≤ 65535)
    (hS : SK w [(g1, 63, abn k), (g2, 49, abn s)] w) :
    Calls Tryd.prog 53 #[.int .i64 (i : Int), .pointer (some ⟨g1, 0, none⟩), .pointer (some ⟨g2, 0, none⟩)] w (AnsA w .u8 (abn (cblkU k s i))) := by
  have H1 : Hid ((abn s).length = 16) := Lib.hid (by rw [abn_length, hs])
  have H2 : Hid ((abn k).length = 240) := Lib.hid (by rw [abn_length, hk])
  have H3 : Hid ((abn (cplusU s i)).length = 16) := Lib.hid (by rw [abn_length, cplus_length hs])
  have H4 : Hid ((abn (cblkU k s i)).length = 16) := Lib.hid (by rw [abn_length, cblk_length hk])
  have c1 := fun W => cplus_any s i W hs hi
  have c2 : ∀ W, Calls Tryd.prog 54 #[.agg (Nums .u8 (abn k)), .agg (Nums .u8 (abn (cplusU s i)))] W (AnsA W .u8 (abn (cblkU k s i))) := fun W => aenc_any k (cplusU s i) W hk (cplus_length hs)
  have HS := Lib.hid hS
  clear hk hs hi hS
  revert H1 H2 H3 H4 c1 c2 HS
  generalize abn (cblkU k s i) = R
  generalize abn (cplusU s i) = M
  generalize abn s = L
  generalize abn k = K
  intro H1 H2 H3 H4 c1 c2 HS
  go_enter Tryd.func53, Tryd.ntmps53
  go_wp2_with (refine wp_alloc_arr (k := .u8) rfl 49 rfl 16 zero16 ?_)
  intro w1 g3 G3 H5 Hb1 Hs1
  have Hg : Hid (w.heap.size ≤ g3 ∧ g1 ≠ g3 ∧ g2 ≠ g3) := Lib.hid (by
    have e := G3.out
    have h1 := (sk_hd HS.out).lt
    have h2 := (HS.out.1 (g2, 49, L) (by simp)).lt
    dsimp only at h2
    omega)
  have F1 : Hid (SK w [(g3, 49, Zs 16), (g1, 63, K), (g2, 49, L)] w1) := Lib.hid (sk_cons (sk_below HS.out Hb1.out) H5.out)
  have Hne : Hid (∀ x ∈ [(g1, 63, K), (g2, 49, L)], x.1 ≠ g3) := Lib.hid (by
    have h5 := Hg.out
    intro x hx
    simp only [List.mem_cons, List.not_mem_nil, or_false] at hx
    rcases hx with rfl | rfl
    · exact h5.2.1
    · exact h5.2.2)
  clear H5 Hb1 Hs1 G3 HS
  go_wp2_with fail
  refine wp_region_ends (fun w' => SK w [(g3, 49, Zs 16), (g1, 63, K), (g2, 49, L)] w') 5 (by kernel_rfl) ?_
  refine wpAnyE_take (i := 0) (some 5) rfl rfl (by kernel_rfl) (fun _ _ _ h => h) (yields_arr (k := .u8) (l := K) (off := 0) (b := g1) (by rfl) _ rfl rfl (fun w' h => sk_range (t := 63) (l := K) h (by simp)) arrKeys.under rfl (by rw [H2.out]; exact arrKeys.size)) (sk_drewN F1.out 1) ?_
  simp only [Act.put, List.setIfInBounds_toArray, List.set_cons_zero, List.set_cons_succ]
  refine wpAnyE_take (i := 1) (some 6) rfl rfl (by kernel_rfl) (fun _ _ _ h => h) (yields_arr (k := .u8) (l := L) (off := 0) (b := g2) (by rfl) _ rfl rfl (fun w' h => sk_range (t := 49) (l := L) h (by simp)) arr16.under rfl (by rw [H1.out]; exact info_16)) (sk_drewN F1.out 1) ?_
  simp only [Act.put, List.setIfInBounds_toArray, List.set_cons_zero, List.set_cons_succ]
  refine wpAnyE_take (i := 2) (v := .int .i64 (i : Int)) (some 7) rfl rfl (by kernel_rfl) (fun _ _ _ h => h) (.inl ⟨by rfl, fun W _ => rfl⟩) (sk_drewN F1.out 1) ?_
  simp only [Act.put, List.setIfInBounds_toArray, List.set_cons_zero, List.set_cons_succ]
  refine wpAnyE_one (i := 3) (by kernel_rfl) rfl (fun K1 hK1 => ?_)
  refine stepE_call (v := .agg (Nums .u8 M)) (R := fun w' => Below _ _ w') (some 8) rfl rfl 55 Tryd.func55 (by kernel_rfl) rfl _ _ rfl [.agg (Nums .u8 L), .int .i64 (i : Int)] rfl (c1 _) (fun W1 hW => hK1.out _ _ (.inr (sk_below (sk_drewN F1.out 1) hW)) ?_)
  have F2 := Lib.hid (sk_below (sk_drewN F1.out 1) hW)
  clear hW hK1 K1
  simp only [Act.put, List.setIfInBounds_toArray, List.set_cons_zero, List.set_cons_succ]
  refine wpAnyE_one (i := 4) (by kernel_rfl) rfl (fun K1 hK1 => ?_)
  refine stepE_call (v := .agg (Nums .u8 R)) (R := fun w' => Below _ _ w') (some 9) rfl rfl 54 Tryd.func54 (by kernel_rfl) rfl _ _ rfl [.agg (Nums .u8 K), .agg (Nums .u8 M)] rfl (c2 _) (fun W2 hW => hK1.out _ _ (.inr (sk_below F2.out hW)) ?_)
  have F3 := Lib.hid (sk_below F2.out hW)
  clear hW hK1 K1
  simp only [Act.put, List.setIfInBounds_toArray, List.set_cons_zero, List.set_cons_succ]
  refine wpAnyE_one (i := 5) (by kernel_rfl) rfl (fun K1 hK1 => ?_)
  refine stepE_put arr16 none rfl rfl _ _ rfl rfl rfl (sk_hd F3.out) (Zs_length _) H4.out (fun W5 A5 M5 _ => hK1.out _ _ (.inl rfl) ?_)
  have F5 := Lib.hid (sk_put F3.out M5.out A5.out Hne.out Hg.out.1)
  clear A5 M5 hK1 K1
  simp only [Act.put]
  refine wpAnyE_done (by kernel_rfl) ?_
  go_wp2
  exact ret_arr arr16 rfl rfl (sk_hd F5.out) H4.out rfl ⟨rfl, F5.out.2⟩

end Go.Proofs.YtacbpdampdikjaaDoor
