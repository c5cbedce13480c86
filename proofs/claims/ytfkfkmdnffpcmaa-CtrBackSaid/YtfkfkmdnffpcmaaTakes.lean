/-
  A region that draws its order and loads nothing: what yields in whatever world is taken first. No program is named here.
-/
import Derived.Test.YtfkfkmdnffpcmaaHeldEnd
namespace Go.Proofs.Ytfkfkmdnffpcmaa
open Go.RowKit

section
variable {P : Program} {ops : Array Oper} {Q : Exit → Act → World → Prop} {md : Region.Mode}
theorem wp_region_takes {id : Nat} {a : Act} {w : World} (hm : P.follows .mixedOrders = true)
    (h : wpAny P .any ops Q ops.size (Array.replicate ops.size false) a w.drew) : (Code.region id ops true).wp P Q a w :=
  wp_region_any hm h
theorem wpAnyT_take {i : Nat} {oi : Oper} {v : Value} {fuel : Nat} {listed : Array Bool} {a : Act} {w : World} (d : Option Tmp) (hd : oi.dst = d) (hi : ops[i]? = some oi)
    (hs : (Region.noSelect ops && Region.free md ops listed i && (Region.ready md ops listed).contains i) = true)
    (hQ : ∀ c a w, Q (.panic c) (a.put oi.dst v) w → Q (.panic c) a w) (hy : Yields P ops oi v a)
    (h : wpAny P md ops Q fuel (listed.setIfInBounds i true) (a.put d v) w) : wpAny P md ops Q (fuel + 1) listed a w := by
  subst hd
  simp only [Bool.and_eq_true] at hs
  exact wpAny_take hi hs.1.1 hs.1.2 hs.2 hQ hy h
theorem wpAnyT_one {i : Nat} {o : Oper} {fuel : Nat} {listed : Array Bool} {a : Act} {w : World} (hr : Region.ready md ops listed = [i]) (ho : ops[i]? = some o)
    (h : ∀ K' : Act → World → Prop, Shut (∀ a w, wpAny P md ops Q fuel (listed.setIfInBounds i true) a w → K' a w) → if Region.wanted o (yielded ops a.tmps) = true then Oper.wp P o a w K' Q else K' (a.put o.dst undef) w) :
    wpAny P md ops Q (fuel + 1) listed a w := by
  refine ⟨fun h0 => (by rw [hr] at h0; cases h0), fun j hj => ?_⟩
  rw [hr, List.mem_singleton] at hj
  subst hj
  exact wpOp_step ho (fun K' hK => h K' (fun a w hW => hK a w hW))
theorem wpAnyT_done {fuel : Nat} {listed : Array Bool} {a : Act} {w : World} (hr : Region.ready md ops listed = []) (h : Q .normal a w) : wpAny P md ops Q fuel listed a w := wpAny_done hr h fuel
/-- A copy into an array. -/
theorem stepT_copy {w : World} {g : Nat} {t : TypeId} {k : IntKind} {o : Oper} {a : Act} {K : Act → World → Prop} {E : Prop} (d0 : Option Tmp) (hd0 : o.dst = d0) (hgd : o.guard = none) (d s : Operand) (dT sT : TypeId)
    (ho : o.op = .call { callee := .builtin .copy, args := #[d, s], argTypes := #[dT, sT] }) (e : TypeId) (hu : P.underlying dT = some (.slice e)) (hsz : (P.info? e).map (·.size) = some 1)
    (off dl dc : Nat) (A : Addr) (sl sc : Nat) (hd : a.eval d = .slice (some ⟨g, off, none⟩) dl dc) (hs : a.eval s = .slice (some A) sl sc) (l ns : List Nat) (m : Nat) (hm : ns.length = m) (h : Arr w g t k l)
    (hn : m = Nat.min sl dl) (hsrc : ∀ (j x : Nat), ns[j]? = some x → w.cell? (A.add j) = some (.int k (x : Int))) (hfit : off + m ≤ l.length)
    (hK : ∀ w', Hid (Arr w' g t k (splice l off ns)) → Hid (Moves (fun j => j = g) w w') → Hid (w'.heap.size = w.heap.size) → K (a.put d0 (goInt (m : Int))) w') :
    if Region.wanted o (yielded ops a.tmps) = true then Oper.wp P o a w K Q else E := by
  subst hd0 hm
  exact step_copy_arr hgd d s dT sT ho e hu hsz off dl dc A sl sc hd hs l ns h hn hsrc hfit hK
theorem run_storeVar_part {w : World} {g : Nat} {t tb : TypeId} {k : IntKind} {l ns : List Nat} {off : Nat} (h : Arr w g tb k l) (hfit : off + ns.length ≤ l.length) (hi : (P.info? t).map (·.size) = some ns.length) :
    (storeVar t ⟨g, off, none⟩ (.agg (Nums k ns))).run P w = .ok () (w.setRow g (Nums k (splice l off ns))) := by
  have hst := run_storeCells_at P g off tb (Nums k ns).toList 0 (Nums k l) w h (by simpa [Nums_size] using hfit) (fun v hv => (Array.all_eq_true_iff_forall_mem.1 (Nums_one k ns)) v (by simpa using hv))
  have e : ((Nums k l).toList.take (off + 0) ++ (Nums k ns).toList ++ (Nums k l).toList.drop (off + 0 + (Nums k ns).toList.length)).toArray = Nums k (splice l off ns) := by
    simp [Nums, splice, List.map_take, List.map_drop]
  rw [e] at hst
  cases hq : P.info? t with
  | none => simp [hq] at hi
  | some i =>
    have hs : i.size = ns.length := by simpa [hq] using hi
    have hsz : (Nums k ns).size = i.size := by rw [Nums_size, hs]
    simp [storeVar, sizeOf, typeInfo, hq, Value.cells, hsz, hst]
/-- A store into a part of an array. -/
theorem stepE_put_part {w : World} {g : Nat} {t tb : TypeId} {k : IntKind} {o : Oper} {a : Act} {K : Act → World → Prop} {E : Prop} {l ns : List Nat} (d : Option Tmp) (hd : o.dst = d) (hgd : o.guard = none) (x y : Operand) (ho : o.op = .store t x y) (off : Nat) (hx : a.eval x = .pointer (some ⟨g, off, none⟩)) (hy : a.eval y = .agg (Nums k ns))
    (h : Arr w g tb k l) (hfit : off + ns.length ≤ l.length) (hi : (P.info? t).map (·.size) = some ns.length)
    (hK : ∀ w', Hid (Arr w' g tb k (splice l off ns)) → Hid (Moves (fun j => j = g) w w') → Hid (w'.heap.size = w.heap.size) → K (a.put d undef) w') : if Region.wanted o (yielded ops a.tmps) = true then Oper.wp P o a w K Q else E := by
  subst hd
  rw [if_pos (by simp [Region.wanted, hgd])]
  unfold Oper.wp
  have hrun : (Instr.storeAt t (.pointer (some ⟨g, off, none⟩)) (.agg (Nums k ns))).run P w = .ok () (w.setRow g (Nums k (splice l off ns))) := by
    simp only [Instr.storeAt, Instr.sureAddr, Sem.run_bind, Sem.run_pure, Result.andThen_ok]
    exact run_storeVar_part h hfit hi
  simp [execOp, ho, hx, hy, hrun, Result.andThen, Oper.upon]
  exact hK _ (Lib.hid (h.store_moves _).1) (Lib.hid (h.store_moves _).2.1) (Lib.hid (h.store_moves _).2.2)
end

end Go.Proofs.Ytfkfkmdnffpcmaa
