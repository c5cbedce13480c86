/-
  Some of the texts that the last one of these needs: walks of the functions that the law calls, and the mathematics of their answers.
-/
import Derived.Test.YtfkfkmdnffpcmaaPkBase1
import Derived.StillTailTactics
import Derived.Test.YtfkfkmdnffpcmaaChecked
import Derived.KernelRfl
import Derived.Laws.CopyOwn
import Derived.Deep.MidRow
import Derived.Laws.BitsAllLaws
import Derived.OrdersHeld
import Derived.StillTail
import Derived.Deep.RegionHeld
namespace Go.Proofs.Ytfkfkmdnffpcmaa
open Go.RowKit

/-- One number out of an array that is a value. -/
theorem run_index_arr {P : Program} {t e : TypeId} {k : IntKind} {n : Nat} (T : ArrT P t e k n) (hs : (P.info? e).map (·.size) = some 1) {l : List Nat} (hl : l.length = n) {j x : Nat} (hj : l[j]? = some x) (w : World) :
    (Instr.index t (.agg (Nums k l)) (.int .i64 (j : Int))).run P w = .ok (.int k (x : Int)) w := by
  obtain ⟨h1, h2⟩ := List.getElem?_eq_some_iff.1 hj
  have hag : (isAgg e).run P w = .ok false w := by unfold isAgg; rw [Sem.run_bind, run_underlying T.elem w]; rfl
  have hsz : (sizeOf e).run P w = .ok 1 w := by
    cases hq : P.info? e with
    | none => simp [hq] at hs
    | some i =>
      have : i.size = 1 := by simpa [hq] using hs
      simp [sizeOf, typeInfo, hq, this]
  have hc : (Nums k l)[j]? = some (.int k (x : Int)) := by rw [Nums_get h1, h2]
  simp [Instr.index, asIntOf, Sem.run_bind, run_underlying T.under w, hsz, part, hag, hc]
  intro h
  omega

/-- The first m of an array, one by one. -/
theorem Arr.reads {w : World} {b : Nat} {t : TypeId} {k : IntKind} {l : List Nat} (h : Arr w b t k l) (m : Nat) : ∀ j v, ((l.take m).map fun (n : Nat) => Value.int k (n : Int))[j]? = some v → w.cell? ((⟨b, 0, none⟩ : Addr).add j) = some v := by
  intro j v hj
  rw [add_flat, Nat.zero_add, cell_of_row w b j _ t (0, 0) h]
  rw [List.map_take, List.getElem?_take] at hj
  split at hj
  · simpa [Nums] using hj
  · cases hj

/-- A callee that draws nothing, in a second region that only reads. -/
theorem Calls.quiet_two {P : Program} {f : FuncId} {args : Array Value} {w : World} {a n : Nat} {v : Value}
    (h : Calls P f args (w.drewN (a + n)) fun e w' => e = .returned v ∧ w' = w.drewN (a + n)) : Calls P f args (w.drewN (a + n)) fun e w'' => e = .returned v ∧ ∃ m, w'' = w.drewN (a + m) :=
  h.mono fun _ _ ⟨he, hm⟩ => ⟨he, n, hm⟩
/-- .. that draws. -/
theorem Calls.quiet_two_of {P : Program} {f : FuncId} {args : Array Value} {w : World} {a n : Nat} {v : Value}
    (h : Calls P f args (w.drewN (a + n)) fun e w' => e = .returned v ∧ ∃ m, w' = (w.drewN (a + n)).drewN m) : Calls P f args (w.drewN (a + n)) fun e w'' => e = .returned v ∧ ∃ m, w'' = w.drewN (a + m) :=
  h.mono fun _ _ ⟨he, m, hm⟩ => ⟨he, n + m, by rw [hm, World.drewN_drewN, Nat.add_assoc]⟩

/-- What turned only block g, from g on, behind some draws. -/
theorem below_put {B g n : Nat} {w wr w' : World} (h : Below B w wr) (hB : B ≤ wr.heap.size) (hg : B ≤ g) (hm : Moves (fun k => k = g) (wr.drewN n) w') : Below B w w' :=
  (bdrewN h n).trans (hm.below (fun k hk => by omega) hB)

/-- A whole array, read in a region that draws and whose tail is forced. -/
theorem still_load_arr {P : Program} {ops : Array Oper} {rest : List Oper} {o : Oper} {a : Act} {w : World} {Q : Act → Prop} {t e : TypeId} {k : IntKind} {l : List Nat} {b n : Nat} (T : ArrT P t e k n) (hgd : o.guard = none) (x : Operand) (ho : o.op = .load t x)
    (hx : a.eval x = .pointer (some ⟨b, 0, none⟩)) {tb : TypeId} (h : Arr w b tb k l) (hl : l.length = n) (hK : wpStill P ops w Q rest (a.put o.dst (.agg (Nums k l)))) : wpStill P ops w Q (o :: rest) a := by
  refine wpStill_step (fun K hKK => ?_)
  have hw : Region.wanted o (yielded ops a.tmps) = true := by simp [Region.wanted, hgd]
  rw [if_pos hw]
  unfold Oper.still execOp
  simp only [ho, hx, Instr.loadAt, Instr.sureAddr, Sem.run_bind, Sem.run_pure, Result.andThen_ok, run_loadVar_row w b tb t (Nums k l) (0, 0) (.array n e) h T.under rfl (by rw [Nums_size, hl]; exact T.size), Oper.stillUpon_value]
  exact hKK _ hK

end Go.Proofs.Ytfkfkmdnffpcmaa

namespace Go.Proofs

theorem Try.info_u8 : (Try.prog.info? 5).map (fun i => (i.zero, i.size, i.bytes)) = some (some (.int .u8 0), 1, 1) := by kernel_rfl

end Go.Proofs

namespace Go.Proofs.Ytfkfkmdnffpcmaa
open Go.RowKit

theorem arr16 : ArrT Try.prog 23 5 .u8 16 := ⟨by kernel_rfl, by kernel_rfl, by kernel_rfl⟩
theorem zero16 : (Try.prog.info? 23).map (fun i => (i.zero, i.size)) = some (some (.agg (Nums .u8 (Zs 16))), 16) := by kernel_rfl
theorem info_u8n : (Try.prog.info? 5).map (·.size) = some 1 := by kernel_rfl

theorem abon {w a b : World} (h : Below w.heap.size w a) (hb : Below a.heap.size a b) : Below w.heap.size w b := h.trans (hb.mono h.size)

/-- What is filled in: so many of L, and behind them those of M. -/
theorem afill_step {L M : List Nat} {k x : Nat} (hx : L[k]? = some x) (hm : k < M.length) : (L.take k ++ M.drop k).set k x = L.take (k + 1) ++ M.drop (k + 1) := by
  obtain ⟨h1, h2⟩ := List.getElem?_eq_some_iff.1 hx
  rw [← h2]
  exact afill_set h1 hm
theorem afill_at {L M : List Nat} {k x : Nat} (hx : M[k]? = some x) (hl : k ≤ L.length) : (L.take k ++ M.drop k)[k]? = some x := by
  obtain ⟨h1, h2⟩ := List.getElem?_eq_some_iff.1 hx
  rw [fill_get h1 hl, h2]
theorem asub_at (f : UInt8 → UInt8) {s : List UInt8} {k : Nat} (h : k < s.length) : ∃ x : UInt8, s[k]? = some x ∧ (asubB f s)[k]? = some (f x) :=
  ⟨s[k], List.getElem?_eq_getElem h, by simp [asubB, List.getElem?_eq_getElem h]⟩
theorem aadd_at {s t : List UInt8} {k : Nat} (h : k < s.length) (ht : k < t.length) : ∃ x y : UInt8, s[k]? = some x ∧ t[k]? = some y ∧ (aaddU s t)[k]? = some (x ^^^ y) :=
  ⟨s[k], t[k], List.getElem?_eq_getElem h, List.getElem?_eq_getElem ht, by simp [aaddU, List.getElem?_zipWith, List.getElem?_eq_getElem h, List.getElem?_eq_getElem ht]⟩

end Go.Proofs.Ytfkfkmdnffpcmaa

namespace Go.Proofs.Ytfkfkmdnffpcmaa
open Go.RowKit

set_option maxHeartbeats 1600000 in
theorem rcounter_any (s : List UInt8) (n B d : Nat) (A : Option Addr) (w : World) (hr : Rd w B A 16 (Byt s)) (hB : B ≤ w.heap.size) (hn : n ≤ 65535) :
    Calls Try.prog 21 #[.slice A 16 d, .int .i64 (n : Int)] w (AnsA w .u8 (abn (cplusU s n))) := by
  have hc := hr.bytes
  obtain ⟨sb, so, rfl, hsb, hcell⟩ := hr.2 (by omega)
  have Hsb : Hid (sb < w.heap.size) := Lib.hid (by omega)
  have Hc := Lib.hid hc
  have Hs : Hid ((abn s).length = 16) := Lib.hid (by rw [abn_length, hc])
  have Hcell : Hid (∀ j, j < 16 → ∃ x : UInt8, (abn s)[j]? = some x.toNat ∧ w.cell? ⟨sb, so + j, none⟩ = some (.int .u8 (x.toNat : Int))) := Lib.hid (fun j hj => by
    have hl : j < s.length := by omega
    exact ⟨s[j], abn_get (List.getElem?_eq_getElem hl), hcell j _ (Byt_get hl)⟩)
  have HL : Hid ((abn (cplusU s n)).length = 16) := Lib.hid (by rw [abn_length, cplus_length hc])
  have Hn : Hid (∀ k, cN s n k ≤ 65535) := Lib.hid (cN_bound s hn)
  have H0 : Hid (cN s n 0 = n ∧ cD s n 0 = s ∧ cD s n 16 = cplusU s n) := Lib.hid ⟨rfl, rfl, rfl⟩
  clear hc hn hr hsb hcell hB
  go_enter Try.func21, Try.ntmps21
  go_wp2_with (refine wp_alloc_arr (k := .u8) rfl 23 rfl 16 zero16 ?_)
  intro w1 g1 G1 H1 Hb1 Hs1
  go_wp2_with (refine wp_alloc_arr (k := .u8) rfl 23 rfl 16 zero16 ?_)
  intro w2 g2 G2 H2 Hb2 Hs2
  have Hg : Hid (w.heap.size ≤ g1 ∧ w.heap.size ≤ g2 ∧ g1 ≠ g2) := Lib.hid (by have := G1.out; have := G2.out; have := Hs1.out; omega)
  have K1 : Hid (Arr w2 g1 23 .u8 (Zs 16)) := Lib.hid (H1.out.below Hb2.out H1.out.lt)
  have K2 : Hid (Arr w2 g2 23 .u8 ((abn s).take 0 ++ (Zs 16).drop 0)) := Lib.hid H2.out
  have B2 : Hid (Below w.heap.size w w2) := Lib.hid (abon Hb1.out Hb2.out)
  clear H1 Hb1 Hb2 G1 G2 Hs1 Hs2 H2
  go_wp2
  go_loopw [6] (fun v wr => ∃ j : Nat, j ≤ 16 ∧ v = .int .i64 (j : Int) ∧ Hid (Arr wr g1 23 .u8 (Zs 16)) ∧ Hid (Arr wr g2 23 .u8 ((abn s).take j ++ (Zs 16).drop j)) ∧ Hid (Below w.heap.size w wr)) (fun v _ => 16 - (intOf v).toNat)
  case atStart => exact ⟨0, by omega, rfl, K1, K2, B2⟩
  case round =>
    clear K1 K2 B2
    obtain ⟨j, hj, rfl, K1, K2, B2⟩ := hrel
    by_cases hlt : j < 16
    · obtain ⟨x, hx, hcl⟩ := Hcell.out j hlt
      have hin := (B2.out.cell (p := ⟨sb, so + j, none⟩) Hsb.out).trans hcl
      have hin2 := K2.out.at_ (fill_get (L := abn s) (M := Zs 16) (i := j) (by rw [Zs_length]; omega) (by rw [Hs.out]; omega))
      have hfz := K2.out.frozen j
      have Hx := Lib.hid hx
      clear hx hcl
      go_wp2
      go_roundw
      case rel =>
        refine ⟨j + 1, by omega, by go_num, Lib.hid (K1.out.other Hg.out.2.2), Lib.hid ?_, Lib.hid (B2.out.setCell Hg.out.2.1 _)⟩
        rw [← afill_step Hx.out (by rw [Zs_length]; omega)]
        exact K2.out.set
      case measure => simp [intOf]; omega
    · have hj16 : j = 16 := by omega
      have K3 : Hid (Arr wr g2 23 .u8 (abn (cD s n 0))) := Lib.hid (by have h := K2.out; rw [hj16, fill_all Hs.out (Zs_length _)] at h; rw [H0.out.2.1]; exact h)
      clear K2
      go_wp2
      go_loopw [7, 8] (fun u v wq => ∃ (k : Nat) (z : Int), k ≤ 16 ∧ u = .int .i64 ((cN s n k : Nat) : Int) ∧ v = .int .i64 z ∧ Hid (z + (k : Int) = 15) ∧ Hid (Arr wq g2 23 .u8 (abn (cD s n k))) ∧ Hid (Arr wq g1 23 .u8 (Zs 16)) ∧ Hid (Below w.heap.size w wq)) (fun _ v _ => (intOf v + 1).toNat)
      case atStart => exact ⟨0, 15, by omega, by rw [H0.out.1], rfl, Lib.hid rfl, K3, K1, B2⟩
      case round =>
        clear K1 B2 K3
        obtain ⟨k, z, hk, rfl, rfl, Hz, K1, K2, B2⟩ := hrel
        by_cases hlt : k < 16
        · obtain ⟨m, rfl⟩ : ∃ m : Nat, z = (m : Int) := ⟨z.toNat, by have := Hz.out; omega⟩
          have Hm : Hid (15 - k = m) := Lib.hid (by have := Hz.out; omega)
          have hm : m < 16 := by have := Hz.out; omega
          obtain ⟨b, h1, h2, h3, h4⟩ := cD_at Hc.out n hlt
          rw [Hm.out] at h1 h2 h4
          have hq := Hn.out k
          have hcell := K1.out.at_ (abn_get h2)
          have hfz := K1.out.frozen m
          have hb := b.toNat_lt
          have Hset : Hid (abn (cD s n (k + 1)) = (abn (cD s n k)).set m (UInt8.ofNat (cN s n k + b.toNat)).toNat) := Lib.hid (by rw [h4]; simp [abn, List.map_set])
          have Hnx := Lib.hid h3
          clear h1 h2 h3 h4
          generalize hqq : cN s n k = q at *
          generalize hbb : b.toNat = p at *
          go_wp2
          go_roundw
          case rel =>
            refine ⟨k + 1, (m : Int) - 1, by omega, by rw [Hnx.out]; rfl, rfl, Lib.hid (by have := Hz.out; omega), Lib.hid ?_, Lib.hid (K2.out.other Hg.out.2.2), Lib.hid (B2.out.setCell Hg.out.2.1 _)⟩
            rw [Hset.out]
            exact K1.out.put (by rw [u8_of]; rfl)
          case measure => simp [intOf]
        · have hk16 : k = 16 := by omega
          have K3 : Hid (Arr wr g2 23 .u8 (abn (cplusU s n))) := Lib.hid (by have h := K1.out; rw [hk16] at h; exact h)
          have hz : z = -1 := by have := Hz.out; omega
          subst hz
          clear K1 Hz
          go_wp2_with (first
            | refine wp_load_arr arr16 rfl (.tmp 5) rfl rfl K3.out HL.out ?_
            | refine wp_put_arr arr16 rfl (.tmp 4) (.tmp 37) rfl rfl (l' := abn (cplusU s n)) rfl K2.out (Zs_length _) HL.out ?_)
          intro w5 H5 Hm5 Hs5
          go_wp2
          exact ret_arr arr16 rfl rfl H5.out HL.out rfl ⟨rfl, B2.out.trans (Hm5.out.below (fun j hj => by have := Hg.out; omega) B2.out.size)⟩

end Go.Proofs.Ytfkfkmdnffpcmaa

namespace Go.Proofs.Ytfkfkmdnffpcmaa
open Go.RowKit

section
variable {P : Program} {w : World} {g : Nat} {t : TypeId} {k : IntKind}
theorem Nums_list (k : IntKind) (l : List Nat) : Nums k l = (l.map fun (n : Nat) => Value.int k (n : Int)).toArray := rfl
theorem Nums_byt (l : List UInt8) : Nums .u8 (abn l) = (Byt l).toArray := by simp [Nums, abn, Byt]
/-- The part of an array from off on. -/
theorem Arr.range {l ns : List Nat} {off : Nat} (h : Arr w g t k l) (hn : ∀ (j x : Nat), ns[j]? = some x → l[off + j]? = some x) : w.rangeAt g off (ns.map fun (n : Nat) => Value.int k (n : Int)) := by
  intro j v hv
  rw [List.getElem?_map] at hv
  cases hq : ns[j]? with
  | none => rw [hq] at hv; cases hv
  | some x =>
    rw [hq] at hv
    injection hv with hv
    rw [← hv]
    exact h.at_ (hn j x hq)
theorem Arr.there {l : List Nat} {off n : Nat} (h : Arr w g t k l) (hn : off + n ≤ l.length) : w.there g off n := fun j hj => ⟨by rw [h.cell (j := off + j) (by omega)]; rfl, h.frozen _⟩

theorem run_storeCells_arr {l l' : List Nat} (h : Arr w g t k l) (hl : l'.length = l.length) : (storeCells ⟨g, 0, none⟩ (Nums k l').toList).run P w = .ok () (w.setRow g (Nums k l')) := by
  have := run_storeCells_at P g 0 t (Nums k l').toList 0 (Nums k l) w h (by simp [Nums_size, hl]) (fun v hv => (Array.all_eq_true_iff_forall_mem.1 (Nums_one k l')) v (by simpa using hv))
  have e : List.drop l.length (Nums k l).toList = [] := List.drop_of_length_le (by simp [Nums_size])
  simpa [Nums_size, hl, e] using this
theorem run_copy_arr {dT sT ty e : TypeId} (hu : P.underlying dT = some (.slice e)) (hsz : (P.info? e).map (·.size) = some 1) (off dl dc : Nat) (A : Addr) (sl sc : Nat) (l ns : List Nat) (h : Arr w g t k l)
    (hn : ns.length = Nat.min sl dl) (hsrc : ∀ (j x : Nat), ns[j]? = some x → w.cell? (A.add j) = some (.int k (x : Int))) (hfit : off + ns.length ≤ l.length) :
    (Builtin.copy_ #[dT, sT] ty #[.slice (some ⟨g, off, none⟩) dl dc, .slice (some A) sl sc]).run P w = .ok (goInt ns.length) (w.setRow g (Nums k (splice l off ns))) := by
  rw [run_copy_row (P := P) w dT sT ty e g off dl dc A sl sc (Nums k l) t (ns.map fun (n : Nat) => Value.int k (n : Int)) hu hsz h (by simpa using hn) (fun j v hv => ?_) (by simpa [Nums_size] using hfit) (fun v hv => by obtain ⟨n, _, rfl⟩ := List.mem_map.1 hv; rfl)]
  · congr 1
    · simp
    · congr 1
      simp [Nums, splice, List.map_take, List.map_drop]
  · rw [List.getElem?_map] at hv
    cases hq : ns[j]? with
    | none => rw [hq] at hv; cases hv
    | some x =>
      rw [hq] at hv
      injection hv with hv
      rw [← hv]
      exact hsrc j x hq
theorem run_arrayAt {t e : TypeId} {n : Nat} (T : ArrT P t e k n) (A : Option Addr) (len cap : Nat) (h : n ≤ len) (W : World) : (Instr.arrayAt t (.slice A len cap)).run P W = .ok (.pointer A) W := by
  have hn : ¬ len < n := by omega
  simp [Instr.arrayAt, Sem.run_bind, run_underlying T.under, hn]
/-- The address of one. -/
theorem run_indexAt_arr {e : TypeId} {n : Nat} (T : ArrT P t e k n) (hsz : (P.info? e).map (·.size) = some 1) (j : Nat) (z : Int) (hz : z = (j : Int)) (hj : j < n) (W : World) :
    (Instr.indexAt t (.pointer (some ⟨g, 0, none⟩)) (.int .i64 z)).run P W = .ok (.pointer (some ⟨g, j, none⟩)) W := by
  subst hz
  have hs : (sizeOf e).run P W = .ok 1 W := by
    cases hq : P.info? e with
    | none => simp [hq] at hsz
    | some i =>
      have : i.size = 1 := by simpa [hq] using hsz
      simp [sizeOf, typeInfo, hq, this]
  simp [Instr.indexAt, Instr.sureAddr, asIntOf, run_underlying T.under, hs, hj, add_flat, Sem.run_bind]
/-- A slice of an array of one cell each. -/
theorem run_slice_arr {e : TypeId} {n : Nat} (T : ArrT P t e k n) (hsz : (P.info? e).map (·.size) = some 1) (lo hi : Nat) (zl zh : Int) (hzl : zl = (lo : Int)) (hzh : zh = (hi : Int)) (h1 : lo ≤ hi) (h2 : hi ≤ n) (h3 : lo < n) (W : World) :
    (Instr.sliceAt t (.pointer (some ⟨g, 0, none⟩)) (some (.int .i64 zl)) (some (.int .i64 zh)) none).run P W = .ok (.slice (some ⟨g, lo, none⟩) (hi - lo) (n - lo)) W := by
  subst hzl hzh
  have hs : (sizeOf e).run P W = .ok 1 W := by
    cases hq : P.info? e with
    | none => simp [hq] at hsz
    | some i =>
      have : i.size = 1 := by simpa [hq] using hsz
      simp [sizeOf, typeInfo, hq, this]
  have hne : n ≠ lo := by omega
  simp [Instr.sliceAt, Instr.sureAddr, run_underlying T.under, Instr.sliceBounds, run_sliceBound, hs, h1, h2, hne, add_flat, Sem.run_bind]
theorem wp_copy_arr {ops : Array Oper} {rest : List Oper} {o : Oper} {a : Act} {Q : Exit → Act → World → Prop} (hgd : o.guard = none) (d s : Operand) (dT sT : TypeId)
    (ho : o.op = .call { callee := .builtin .copy, args := #[d, s], argTypes := #[dT, sT] }) (e : TypeId) (hu : P.underlying dT = some (.slice e)) (hsz : (P.info? e).map (·.size) = some 1)
    (off dl dc : Nat) (A : Addr) (sl sc : Nat) (hd : a.eval d = .slice (some ⟨g, off, none⟩) dl dc) (hs : a.eval s = .slice (some A) sl sc) (l ns : List Nat) (h : Arr w g t k l)
    (hn : ns.length = Nat.min sl dl) (hsrc : ∀ (j x : Nat), ns[j]? = some x → w.cell? (A.add j) = some (.int k (x : Int))) (hfit : off + ns.length ≤ l.length)
    (hK : ∀ w', Hid (Arr w' g t k (splice l off ns)) → Hid (Moves (fun j => j = g) w w') → Hid (w'.heap.size = w.heap.size) → wpList P ops Q rest (a.put o.dst (goInt ns.length)) w') : wpList P ops Q (o :: rest) a w := by
  refine wpList_plain hgd fun K hKK => ?_
  have hrun := run_copy_arr (P := P) (sT := sT) (ty := o.type) hu hsz off dl dc A sl sc l ns h hn hsrc hfit
  unfold Oper.wp
  simp [execOp, ho, resolve, invoke, builtin, hd, hs, hrun, Result.andThen]
  exact hKK _ _ (hK _ (Lib.hid (h.store_moves _).1) (Lib.hid (h.store_moves _).2.1) (Lib.hid (h.store_moves _).2.2))
theorem step_copy_arr {ops : Array Oper} {o : Oper} {a : Act} {K : Act → World → Prop} {Q : Exit → Act → World → Prop} {E : Prop} (hgd : o.guard = none) (d s : Operand) (dT sT : TypeId)
    (ho : o.op = .call { callee := .builtin .copy, args := #[d, s], argTypes := #[dT, sT] }) (e : TypeId) (hu : P.underlying dT = some (.slice e)) (hsz : (P.info? e).map (·.size) = some 1)
    (off dl dc : Nat) (A : Addr) (sl sc : Nat) (hd : a.eval d = .slice (some ⟨g, off, none⟩) dl dc) (hs : a.eval s = .slice (some A) sl sc) (l ns : List Nat) (h : Arr w g t k l)
    (hn : ns.length = Nat.min sl dl) (hsrc : ∀ (j x : Nat), ns[j]? = some x → w.cell? (A.add j) = some (.int k (x : Int))) (hfit : off + ns.length ≤ l.length)
    (hK : ∀ w', Hid (Arr w' g t k (splice l off ns)) → Hid (Moves (fun j => j = g) w w') → Hid (w'.heap.size = w.heap.size) → K (a.put o.dst (goInt ns.length)) w') :
    if Region.wanted o (yielded ops a.tmps) = true then Oper.wp P o a w K Q else E := by
  have hw : Region.wanted o (yielded ops a.tmps) = true := by simp [Region.wanted, hgd]
  rw [if_pos hw]
  have hrun := run_copy_arr (P := P) (sT := sT) (ty := o.type) hu hsz off dl dc A sl sc l ns h hn hsrc hfit
  unfold Oper.wp
  simp [execOp, ho, resolve, invoke, builtin, hd, hs, hrun, Result.andThen]
  exact hK _ (Lib.hid (h.store_moves _).1) (Lib.hid (h.store_moves _).2.1) (Lib.hid (h.store_moves _).2.2)
end

/-- The column at place c, mixed. -/
theorem amix_at {s : List UInt8} (h : s.length = 16) {c : Nat} (hc : c < 4) : ∃ p q r t : UInt8, (∀ j x : Nat, [p.toNat, q.toNat, r.toNat, t.toNat][j]? = some x → (abn s)[4 * c + j]? = some x) ∧
    (∀ j x : Nat, [(gmixU p q r t).toNat, (gmixU q r t p).toNat, (gmixU r t p q).toNat, (gmixU t p q r).toNat][j]? = some x → (abn (amixU s))[4 * c + j]? = some x) := by
  obtain ⟨a0, a1, a2, a3, b0, b1, b2, b3, c0, c1, c2, c3, d0, d1, d2, d3, rfl⟩ := sixteen h
  match c, hc with
  | 0, _ => exact ⟨a0, a1, a2, a3, fun j x => by rcases j with _ | _ | _ | _ | j <;> simp [abn], fun j x => by rcases j with _ | _ | _ | _ | j <;> simp [abn, amixU]⟩
  | 1, _ => exact ⟨b0, b1, b2, b3, fun j x => by rcases j with _ | _ | _ | _ | j <;> simp [abn], fun j x => by rcases j with _ | _ | _ | _ | j <;> simp [abn, amixU]⟩
  | 2, _ => exact ⟨c0, c1, c2, c3, fun j x => by rcases j with _ | _ | _ | _ | j <;> simp [abn], fun j x => by rcases j with _ | _ | _ | _ | j <;> simp [abn, amixU]⟩
  | 3, _ => exact ⟨d0, d1, d2, d3, fun j x => by rcases j with _ | _ | _ | _ | j <;> simp [abn], fun j x => by rcases j with _ | _ | _ | _ | j <;> simp [abn, amixU]⟩

/-- Several more are filled in. -/
theorem afill_splice {L M ns : List Nat} {off : Nat} (hl : L.length = M.length) (hn : off + ns.length ≤ M.length) (hx : ∀ (j x : Nat), ns[j]? = some x → L[off + j]? = some x) :
    splice (L.take off ++ M.drop off) off ns = L.take (off + ns.length) ++ M.drop (off + ns.length) := by
  unfold splice
  have h1 : (L.take off).length = off := by simp; omega
  have h2 : ns = (L.drop off).take ns.length := by
    apply List.ext_getElem?
    intro j
    rcases Nat.lt_or_ge j ns.length with hj | hj
    · rw [List.getElem?_take_of_lt hj, List.getElem?_drop, hx j ns[j] (List.getElem?_eq_getElem hj), List.getElem?_eq_getElem hj]
    · rw [List.getElem?_eq_none hj, List.getElem?_eq_none (by simp; omega)]
  rw [List.take_append_of_le_length (by omega), List.take_of_length_le (by omega)]
  rw [← List.append_assoc]
  congr 1
  · conv => lhs; rw [h2]
    rw [← List.take_add]
  · rw [List.drop_append, List.drop_of_length_le (by omega), List.nil_append, h1, List.drop_drop]
    congr 1
    omega

end Go.Proofs.Ytfkfkmdnffpcmaa

namespace Go.Proofs.Ytfkfkmdnffpcmaa
open Go.RowKit

/-- A type that is an array of arrays of numbers: n cells in all. -/
structure ArrW (P : Program) (t e : TypeId) (m n : Nat) : Prop where
  under : P.underlying t = some (.array m e)
  size : (P.info? t).map (·.size) = some n

section
variable {P : Program} {ops : Array Oper} {rest : List Oper} {o : Oper} {a : Act} {w : World} {Q : Exit → Act → World → Prop} {t e : TypeId} {k : IntKind} {l : List Nat} {b m n : Nat}
theorem wp_load_w (T : ArrW P t e m n) (hgd : o.guard = none) (x : Operand) (ho : o.op = .load t x) (hx : a.eval x = .pointer (some ⟨b, 0, none⟩)) {tb : TypeId} (h : Arr w b tb k l) (hl : l.length = n)
    (hK : wpList P ops Q rest (a.put o.dst (.agg (Nums k l))) w) : wpList P ops Q (o :: rest) a w :=
  wpList_load_row hgd t x ho b hx tb (Nums k l) (0, 0) (.array m e) h T.under rfl (by rw [Nums_size, hl]; exact T.size) hK
theorem wp_put_w {l' : List Nat} (T : ArrW P t e m n) (hgd : o.guard = none) (x y : Operand) (ho : o.op = .store t x y) (hx : a.eval x = .pointer (some ⟨b, 0, none⟩)) (hy : a.eval y = .agg (Nums k l')) {tb : TypeId} (h : Arr w b tb k l) (hl : l.length = n) (hl' : l'.length = n)
    (hK : ∀ w', Hid (Arr w' b tb k l') → Hid (Moves (fun j => j = b) w w') → Hid (w'.heap.size = w.heap.size) → wpList P ops Q rest (a.put o.dst undef) w') : wpList P ops Q (o :: rest) a w :=
  wpList_store_row hgd t x y ho b (Nums k l') hx hy tb (Nums k l) h (by rw [Nums_size, hl']; exact T.size) (by rw [Nums_size, Nums_size, hl, hl']) (Nums_one _ _)
    (hK _ (Lib.hid (h.store_moves l').1) (Lib.hid (h.store_moves l').2.1) (Lib.hid (h.store_moves l').2.2))
/-- A part of an array is read. -/
theorem wp_load_part {ns : List Nat} {d : TypeDesc} (hu : P.underlying t = some d) (hd : d.isRow = true) (hi : (P.info? t).map (·.size) = some n) (hgd : o.guard = none) (x : Operand) (ho : o.op = .load t x) (off : Nat) (hx : a.eval x = .pointer (some ⟨b, off, none⟩)) {tb : TypeId} (h : Arr w b tb k l) (hn : ns.length = n)
    (hns : ∀ j x : Nat, ns[j]? = some x → l[off + j]? = some x) (hK : wpList P ops Q rest (a.put o.dst (.agg (Nums k ns))) w) : wpList P ops Q (o :: rest) a w :=
  wpList_load_mid hgd t x ho b off hx (ns.map fun (n : Nat) => Value.int k (n : Int)) d (h.range hns) hu hd (by rw [List.length_map, hn]; exact hi) hK
theorem run_indexAt_w (T : ArrW P t e m n) {s : Nat} (hs : (P.info? e).map (·.size) = some s) (i j : Nat) (z : Int) (hz : z = (i : Int)) (hi : i < m) (hj : i * s = j) (W : World) :
    (Instr.indexAt t (.pointer (some ⟨b, 0, none⟩)) (.int .i64 z)).run P W = .ok (.pointer (some ⟨b, j, none⟩)) W := by
  subst hz hj
  have hs : (sizeOf e).run P W = .ok s W := by
    cases hq : P.info? e with
    | none => simp [hq] at hs
    | some i =>
      have : i.size = s := by simpa [hq] using hs
      simp [sizeOf, typeInfo, hq, this]
  simp [Instr.indexAt, Instr.sureAddr, asIntOf, run_underlying T.under, hs, hi, add_flat, Sem.run_bind]
theorem run_slice_w (T : ArrW P t e m n) {s : Nat} (hs : (P.info? e).map (·.size) = some s) (lo hi j len cap : Nat) (h1 : lo ≤ hi) (h2 : hi ≤ m) (h3 : lo < m) (hj : lo * s = j) (hl : hi - lo = len) (hc : m - lo = cap) (W : World) :
    (Instr.sliceAt t (.pointer (some ⟨b, 0, none⟩)) (some (.int .i64 (lo : Int))) (some (.int .i64 (hi : Int))) none).run P W = .ok (.slice (some ⟨b, j, none⟩) len cap) W := by
  subst hj hl hc
  have hs : (sizeOf e).run P W = .ok s W := by
    cases hq : P.info? e with
    | none => simp [hq] at hs
    | some i =>
      have : i.size = s := by simpa [hq] using hs
      simp [sizeOf, typeInfo, hq, this]
  have hne : m ≠ lo := by omega
  simp [Instr.sliceAt, Instr.sureAddr, run_underlying T.under, Instr.sliceBounds, run_sliceBound, hs, h1, h2, hne, add_flat, Sem.run_bind]
theorem run_indexAt_row (hu : P.underlying t = some (.slice e)) {s : Nat} (hs : (P.info? e).map (·.size) = some s) (off len cap i j : Nat) (z : Int) (hz : z = (i : Int)) (hi : i < len) (hj : off + i * s = j) (W : World) :
    (Instr.indexAt t (.slice (some ⟨b, off, none⟩) len cap) (.int .i64 z)).run P W = .ok (.pointer (some ⟨b, j, none⟩)) W := by
  subst hz hj
  have hs : (sizeOf e).run P W = .ok s W := by
    cases hq : P.info? e with
    | none => simp [hq] at hs
    | some i =>
      have : i.size = s := by simpa [hq] using hs
      simp [sizeOf, typeInfo, hq, this]
  simp [Instr.indexAt, asIntOf, run_underlying hu, hs, hi, add_flat, Sem.run_bind]
end

/-- The arrays that stand there, and what was there ahead. -/
def SK (w : World) (L : List (Nat × TypeId × List Nat)) (w' : World) : Prop := (∀ x ∈ L, Arr w' x.1 x.2.1 .u8 x.2.2) ∧ Below w.heap.size w w'
section
variable {w w' w2 : World} {L M : List (Nat × TypeId × List Nat)} {g : Nat} {t : TypeId} {l l' : List Nat}
theorem sk_drewN (h : SK w L w') (n : Nat) : SK w L (w'.drewN n) := ⟨h.1, bdrewN h.2 n⟩
theorem sk_below (h : SK w L w') (hb : Below w'.heap.size w' w2) : SK w L w2 := ⟨fun x hx => (h.1 x hx).below hb (h.1 x hx).lt, abon h.2 hb⟩
theorem sk_cons (h : SK w L w') (hA : Arr w' g t .u8 l) : SK w ((g, t, l) :: L) w' := ⟨fun x hx => by
  rcases List.mem_cons.1 hx with rfl | hx
  · exact hA
  · exact h.1 x hx, h.2⟩
theorem sk_put (h : SK w ((g, t, l) :: L) w') (hm : Moves (fun j => j = g) w' w2) (hA : Arr w2 g t .u8 l') (hne : ∀ x ∈ L, x.1 ≠ g) (hg : w.heap.size ≤ g) : SK w ((g, t, l') :: L) w2 :=
  ⟨fun x hx => by
    rcases List.mem_cons.1 hx with rfl | hx
    · exact hA
    · exact (h.1 x (List.mem_cons_of_mem _ hx)).moves hm (hne x hx), h.2.trans (hm.below (fun j hj => by rw [hj]; exact hg) h.2.size)⟩
theorem sk_keep (h : SK w L w') (hm : Moves (fun j => j = g) w' w2) (hne : ∀ x ∈ L, x.1 ≠ g) (hg : w.heap.size ≤ g) : SK w L w2 :=
  ⟨fun x hx => (h.1 x hx).moves hm (hne x hx), h.2.trans (hm.below (fun j hj => by rw [hj]; exact hg) h.2.size)⟩
theorem sk_sub (h : SK w L w') (hs : ∀ x ∈ M, x ∈ L) : SK w M w' := ⟨fun x hx => h.1 x (hs x hx), h.2⟩
theorem sk_hd (h : SK w ((g, t, l) :: L) w') : Arr w' g t .u8 l := h.1 _ (List.mem_cons_self ..)
theorem sk_set (h : SK w ((g, t, l) :: L) w') (hne : ∀ x ∈ L, x.1 ≠ g) (hg : w.heap.size ≤ g) (j x : Nat) : SK w ((g, t, l.set j x) :: L) (w'.setCell ⟨g, j, none⟩ (.int .u8 (x : Int))) :=
  ⟨fun y hy => by
    rcases List.mem_cons.1 hy with rfl | hy
    · exact (sk_hd h).set
    · exact (h.1 y (List.mem_cons_of_mem _ hy)).other (hne y hy), h.2.setCell hg _⟩
end

theorem akeyAt_get {k : List UInt8} {i : Nat} : ∀ j x : Nat, (abn (akeyAt k i))[j]? = some x → (abn k)[16 * i + j]? = some x := by
  intro j x h
  unfold abn akeyAt at h
  rw [List.map_take, List.map_drop, List.getElem?_take] at h
  split at h
  · rw [List.getElem?_drop] at h
    exact h
  · cases h

theorem arrKeys : ArrW Try.prog 47 23 15 240 := ⟨by kernel_rfl, by kernel_rfl⟩
theorem arrKeysR : ArrW Try.prog 40 23 15 240 := ⟨by kernel_rfl, by kernel_rfl⟩
theorem info_16 : (Try.prog.info? 23).map (·.size) = some 16 := by kernel_rfl

end Go.Proofs.Ytfkfkmdnffpcmaa

/-
  Bytes as the walk shows them.
-/
namespace Go.Proofs.Ytfkfkmdnffpcmaa
open Go.RowKit

theorem gxor_u8 (a b : UInt8) : bits .xor .u8 (a.toNat : Int) (b.toNat : Int) = ((a ^^^ b).toNat : Int) := by
  rw [u8_xor_nat _ _ a.toNat_lt b.toNat_lt, UInt8.toNat_xor]
theorem and_u8 (a b : UInt8) : bits .and .u8 (a.toNat : Int) (b.toNat : Int) = ((a &&& b).toNat : Int) := by
  rw [u8_and_nat _ _ a.toNat_lt b.toNat_lt, UInt8.toNat_and]
theorem or_u8 (a b : UInt8) : bits .or .u8 (a.toNat : Int) (b.toNat : Int) = ((a ||| b).toNat : Int) := by
  rw [u8_or_nat _ _ a.toNat_lt b.toNat_lt, UInt8.toNat_or]
theorem top_u8 : ∀ a : UInt8, (a &&& 128).toNat = if 128 ≤ a.toNat then 128 else 0 := all_bytes (by decide +kernel)
theorem odd_u8 : ∀ a : UInt8, (a &&& 1).toNat = a.toNat % 2 := all_bytes (by decide +kernel)
theorem dbl_u8 : ∀ a : UInt8, (a + a).toNat = a.toNat * 2 % 256 := all_bytes (by decide +kernel)

end Go.Proofs.Ytfkfkmdnffpcmaa

namespace Go.Proofs.Ytfkfkmdnffpcmaa
open Go.RowKit

set_option maxHeartbeats 400000 in
theorem gtwice_any (a : UInt8) (w : World) :
    Calls Try.prog 50 #[.int .u8 (a.toNat : Int)] w (fun e w' => e = .returned (.int .u8 ((gtwiceU a).toNat : Int)) ∧ w' = w) := by
  have h1 := and_u8 a 128
  have h3 := gxor_u8 (a + a) 27
  have h4 := dbl_u8 a
  have hb := a.toNat_lt
  rw [top_u8] at h1
  go_enter Try.func50, Try.ntmps50
  by_cases h : 128 ≤ a.toNat
  · have hu : gtwiceU a = (a + a) ^^^ 27 := if_pos h
    rw [if_pos h] at h1
    rw [← hu, h4] at h3
    have ha : bits .and .u8 (a.toNat : Int) 128 = 128 := h1
    have hx : bits .xor .u8 ((a.toNat : Int) * 2 % 256) 27 = ((gtwiceU a).toNat : Int) := by rw [← h3]; rfl
    clear h1 h3 h4 hu
    generalize gtwiceU a = s at *
    go_wp2
    go_ret
    exact ⟨rfl, rfl⟩
  · have hu : gtwiceU a = a + a := if_neg h
    rw [if_neg h] at h1
    rw [← hu] at h4
    have ha : bits .and .u8 (a.toNat : Int) 128 = 0 := h1
    have hx : (a.toNat : Int) * 2 = ((gtwiceU a).toNat : Int) := by omega
    clear h1 h3 h4 hu
    generalize gtwiceU a = s at *
    go_wp2
    go_ret
    exact ⟨rfl, rfl⟩

set_option maxHeartbeats 400000 in
theorem rgtwice_any (a : UInt8) (w : World) :
    Calls Try.prog 47 #[.int .u8 (a.toNat : Int)] w (fun e w' => e = .returned (.int .u8 ((gtwiceU a).toNat : Int)) ∧ w' = w) := by
  have h3 := gxor_u8 (a + a) 27
  have h4 := dbl_u8 a
  have hb := a.toNat_lt
  by_cases h : 128 ≤ a.toNat
  · have hu : gtwiceU a = (a + a) ^^^ 27 := if_pos h
    rw [← hu, h4] at h3
    have hx : bits .xor .u8 ((a.toNat : Int) * 2 % 256) 27 = ((gtwiceU a).toNat : Int) := by rw [← h3]; rfl
    have hz : 128 ≤ (a.toNat : Int) := by omega
    clear h3 h4 hu hb h
    revert hx hz
    generalize gtwiceU a = s
    generalize (a.toNat : Int) = z
    intro hx hz
    go_enter Try.func47, Try.ntmps47
    go_wp2
    go_ret
    exact ⟨rfl, rfl⟩
  · have hu : gtwiceU a = a + a := if_neg h
    rw [← hu] at h4
    have hx : (a.toNat : Int) * 2 = ((gtwiceU a).toNat : Int) := by omega
    have hz : (a.toNat : Int) < 128 := by omega
    clear h3 h4 hu hb h
    revert hx hz
    generalize gtwiceU a = s
    generalize (a.toNat : Int) = z
    intro hx hz
    go_enter Try.func47, Try.ntmps47
    go_wp2
    go_ret
    exact ⟨rfl, rfl⟩

end Go.Proofs.Ytfkfkmdnffpcmaa

namespace Go.Proofs.Ytfkfkmdnffpcmaa
open Go.RowKit

theorem arr4 : ArrT Try.prog 51 5 .u8 4 := ⟨by kernel_rfl, by kernel_rfl, by kernel_rfl⟩
theorem zero4 : (Try.prog.info? 51).map (fun i => (i.zero, i.size)) = some (some (.agg (Nums .u8 (Zs 4))), 4) := by kernel_rfl

/-- Four bytes, as numbers. -/
def four (a b c d : UInt8) : List Nat := [a.toNat, b.toNat, c.toNat, d.toNat]
theorem four_length (a b c d : UInt8) : (four a b c d).length = 4 := rfl
/-- .. mixed. -/
def gcolU (a b c d : UInt8) : List Nat := four (gmixU a b c d) (gmixU b c d a) (gmixU c d a b) (gmixU d a b c)
theorem gcol_at (a b c d : UInt8) (k : Nat) (h : k < 4) : ∃ p q r s : UInt8, (four a b c d)[k % 4]? = some p.toNat ∧ (four a b c d)[(k + 1) % 4]? = some q.toNat ∧ (four a b c d)[(k + 2) % 4]? = some r.toNat ∧ (four a b c d)[(k + 3) % 4]? = some s.toNat ∧ (gcolU a b c d)[k]? = some (gmixU p q r s).toNat := by
  match k, h with
  | 0, _ => exact ⟨a, b, c, d, rfl, rfl, rfl, rfl, rfl⟩
  | 1, _ => exact ⟨b, c, d, a, rfl, rfl, rfl, rfl, rfl⟩
  | 2, _ => exact ⟨c, d, a, b, rfl, rfl, rfl, rfl, rfl⟩
  | 3, _ => exact ⟨d, a, b, c, rfl, rfl, rfl, rfl, rfl⟩

set_option maxHeartbeats 800000 in
/-- The closure: the byte at that place, going round. -/
theorem gfrom_any (g j x : Nat) (l : List Nat) (w : World) (hj : j < 4096) (hx : l[j % 4]? = some x) (h : Arr w g 51 .u8 l) :
    Calls Try.prog 49 #[.int .i64 (j : Int), .pointer (some ⟨g, 0, none⟩)] w fun e w' => e = .returned (.int .u8 (x : Int)) ∧ w' = w := by
  obtain ⟨p, hp⟩ : ∃ p, j % 4 = p := ⟨_, rfl⟩
  rw [hp] at hx
  have hcell := h.at_ hx
  have hp4 : p < 4 := by omega
  have hmod : (j : Int) % 4 = (p : Int) := by omega
  clear h hx hp
  go_enter Try.func49, Try.ntmps49
  go_wp2
  go_ret
  exact ⟨rfl, rfl⟩

set_option maxHeartbeats 3200000 in
theorem gcolumn_any (a b c d : UInt8) (w : World) :
    Calls Try.prog 43 #[.agg (Nums .u8 (four a b c d))] w (AnsA w .u8 (gcolU a b c d)) := by
  have hmf : ∀ (fn : Fn) (first cap : Array Value) (w : World), (Instr.makeFunc fn first cap).run Try.prog w = .ok (.func fn first cap) w := fun _ _ _ _ => rfl
  have Hat := Lib.hid (gcol_at a b c d)
  have HL : Hid ((gcolU a b c d).length = 4) := Lib.hid rfl
  revert Hat HL
  generalize four a b c d = l
  generalize gcolU a b c d = L
  intro Hat HL
  go_enter Try.func43, Try.ntmps43
  go_wp2_with (refine wp_box_arr (k := .u8) rfl 51 (.tmp 0) rfl l rfl ?_)
  intro w1 g1 G1 H1 Hb1 Hs1
  go_wp2_with (refine wp_alloc_arr (k := .u8) rfl 51 rfl 4 zero4 ?_)
  intro w2 g2 G2 H2 Hb2 Hs2
  go_wp2_with (refine wp_alloc_arr (k := .u8) rfl 51 rfl 4 zero4 ?_)
  intro w3 g3 G3 H3 Hb3 Hs3
  have Hg : Hid (w.heap.size ≤ g1 ∧ w.heap.size ≤ g2 ∧ w.heap.size ≤ g3 ∧ g1 ≠ g3 ∧ g2 ≠ g3 ∧ g1 ≠ g2) := Lib.hid (by have := G1.out; have := G2.out; have := G3.out; have := Hs1.out; have := Hs2.out; omega)
  have K1 : Hid (Arr w3 g1 51 .u8 l) := Lib.hid ((H1.out.below Hb2.out H1.out.lt).below Hb3.out (Nat.lt_of_lt_of_le H1.out.lt Hb2.out.size))
  have K2 : Hid (Arr w3 g2 51 .u8 (Zs 4)) := Lib.hid (H2.out.below Hb3.out H2.out.lt)
  have B3 : Hid (Below w.heap.size w w3) := Lib.hid ((Hb1.out.trans (Hb2.out.mono Hb1.out.size)).trans (Hb3.out.mono (Nat.le_trans Hb1.out.size Hb2.out.size)))
  have K3 : Hid (Arr w3 g3 51 .u8 (L.take 0 ++ (Zs 4).drop 0)) := Lib.hid H3.out
  clear H1 H2 H3 Hb1 Hb2 Hb3 G1 G2 G3 Hs1 Hs2 Hs3
  go_wp2
  go_loopw [7] (fun i wr => ∃ k : Nat, k ≤ 4 ∧ i = .int .i64 (k : Int) ∧ Hid (Arr wr g1 51 .u8 l) ∧ Hid (Arr wr g2 51 .u8 (Zs 4)) ∧ Hid (Arr wr g3 51 .u8 (L.take k ++ (Zs 4).drop k)) ∧ Hid (Below w.heap.size w wr)) (fun i _ => 4 - (intOf i).toNat)
  case atStart => exact ⟨0, by omega, rfl, K1, K2, K3, B3⟩
  case round =>
    clear K1 K2 K3 B3
    obtain ⟨k, hk, rfl, K1, K2, K3, B3⟩ := hrel
    by_cases hlt : k < 4
    · obtain ⟨p, q, r, s, hp, hq, hr, hs, hm⟩ := Hat.out k hlt
      have c0 : Calls Try.prog 49 #[.int .i64 (k : Int), .pointer (some ⟨g1, 0, none⟩)] wr fun e w' => e = .returned (.int .u8 (p.toNat : Int)) ∧ w' = wr := gfrom_any g1 k p.toNat l wr (by omega) hp K1.out
      have c1 : Calls Try.prog 49 #[.int .i64 ((k : Int) + 1), .pointer (some ⟨g1, 0, none⟩)] wr fun e w' => e = .returned (.int .u8 (q.toNat : Int)) ∧ w' = wr := gfrom_any g1 (k + 1) q.toNat l wr (by omega) hq K1.out
      have c2 : Calls Try.prog 49 #[.int .i64 ((k : Int) + 2), .pointer (some ⟨g1, 0, none⟩)] wr fun e w' => e = .returned (.int .u8 (r.toNat : Int)) ∧ w' = wr := gfrom_any g1 (k + 2) r.toNat l wr (by omega) hr K1.out
      have c3 : Calls Try.prog 49 #[.int .i64 ((k : Int) + 3), .pointer (some ⟨g1, 0, none⟩)] wr fun e w' => e = .returned (.int .u8 (s.toNat : Int)) ∧ w' = wr := gfrom_any g1 (k + 3) s.toNat l wr (by omega) hs K1.out
      have t0 := gtwice_any p wr
      have t1 := gtwice_any q wr
      have x1 := gxor_u8 (gtwiceU p) q
      have x2 := gxor_u8 (gtwiceU p ^^^ q) (gtwiceU q)
      have x3 := gxor_u8 (gtwiceU p ^^^ q ^^^ gtwiceU q) r
      have x4 := gxor_u8 (gtwiceU p ^^^ q ^^^ gtwiceU q ^^^ r) s
      have Hm : Hid (L[k]? = some (gtwiceU p ^^^ q ^^^ gtwiceU q ^^^ r ^^^ s).toNat) := Lib.hid hm
      have hout := K3.out.at_ (fill_get (L := L) (M := Zs 4) (i := k) (by rw [Zs_length]; exact hlt) (by rw [HL.out]; omega))
      have hfz := K3.out.frozen k
      clear hp hq hr hs hm
      generalize gtwiceU p ^^^ q ^^^ gtwiceU q ^^^ r ^^^ s = y4 at *
      generalize gtwiceU p ^^^ q ^^^ gtwiceU q ^^^ r = y3 at *
      generalize gtwiceU p ^^^ q ^^^ gtwiceU q = y2 at *
      generalize gtwiceU p ^^^ q = y1 at *
      generalize gtwiceU p = tp at *
      generalize gtwiceU q = tq at *
      go_wp2_with fail
      refine (c0).mono ?_
      rintro e w9 ⟨rfl, rfl⟩
      go_wp2_with fail
      refine (t0).mono ?_
      rintro e w9 ⟨rfl, rfl⟩
      go_wp2_with fail
      refine (c1).mono ?_
      rintro e w9 ⟨rfl, rfl⟩
      go_wp2_with fail
      refine (c1).mono ?_
      rintro e w9 ⟨rfl, rfl⟩
      go_wp2_with fail
      refine (t1).mono ?_
      rintro e w9 ⟨rfl, rfl⟩
      go_wp2_with fail
      refine (c2).mono ?_
      rintro e w9 ⟨rfl, rfl⟩
      go_wp2_with fail
      refine (c3).mono ?_
      rintro e w9 ⟨rfl, rfl⟩
      go_wp2
      go_roundw
      case rel =>
        obtain ⟨hk2, hy⟩ := List.getElem?_eq_some_iff.1 Hm.out
        have e4 : (L.take k ++ (Zs 4).drop k).set k y4.toNat = L.take (k + 1) ++ (Zs 4).drop (k + 1) := by rw [← hy]; exact afill_set hk2 (by rw [Zs_length]; exact hlt)
        have hne : g1 ≠ g3 ∧ g2 ≠ g3 ∧ w.heap.size ≤ g3 := ⟨Hg.out.2.2.2.1, Hg.out.2.2.2.2.1, Hg.out.2.2.1⟩
        refine ⟨k + 1, by omega, by go_num, Lib.hid (K1.out.other hne.1), Lib.hid (K2.out.other hne.2.1), Lib.hid ?_, Lib.hid (B3.out.setCell hne.2.2 _)⟩
        rw [← e4]
        exact K3.out.set
      case measure => simp [intOf]; omega
    · have hk4 : k = 4 := by omega
      have Hr : Hid (Arr wr g3 51 .u8 L) := Lib.hid (by have h := K3.out; rw [hk4, fill_all HL.out (Zs_length 4)] at h; exact h)
      go_wp2_with (first
        | refine wp_load_arr arr4 rfl (.tmp 4) rfl rfl Hr.out HL.out ?_
        | refine wp_put_arr arr4 rfl (.tmp 2) (.tmp 38) rfl rfl (l' := L) rfl K2.out (Zs_length _) HL.out ?_)
      intro w5 H5 Hm5 Hs5
      go_wp2
      exact ret_arr arr4 rfl rfl H5.out HL.out rfl ⟨rfl, B3.out.trans (Hm5.out.below (fun j hj => by have := Hg.out; omega) B3.out.size)⟩

end Go.Proofs.Ytfkfkmdnffpcmaa

namespace Go.Proofs.Ytfkfkmdnffpcmaa
open Go.RowKit

section
variable {P : Program} {t e : TypeId} {k : IntKind} {b m n : Nat}
theorem sizeOf_info {s : Nat} (hs : (P.info? e).map (·.size) = some s) (W : World) : (sizeOf e).run P W = .ok s W := by
  cases hq : P.info? e with
  | none => simp [hq] at hs
  | some i =>
    have : i.size = s := by simpa [hq] using hs
    simp [sizeOf, typeInfo, hq, this]
/-- One of the arrays out of an array of arrays. -/
theorem run_index_w {e2 : TypeId} {n2 s : Nat} (T : ArrW P t e m n) (he : P.underlying e = some (.array n2 e2)) (hs : (P.info? e).map (·.size) = some s) (l ns : List Nat) (i : Nat) (hi : i < m) (hn : ns.length = s) (hl : i * s + s ≤ l.length) (hns : ∀ j x : Nat, ns[j]? = some x → l[i * s + j]? = some x) (W : World) :
    (Instr.index t (.agg (Nums k l)) (.int .i64 (i : Int))).run P W = .ok (.agg (Nums k ns)) W := by
  have hag : (isAgg e).run P W = .ok true W := by unfold isAgg; rw [Sem.run_bind, run_underlying he]; rfl
  have hext : (Nums k l).extract (i * s) (i * s + s) = Nums k ns := by
    apply Array.ext_getElem?
    intro j
    rw [Array.getElem?_extract]
    by_cases hj : j < s
    · rw [if_pos (by rw [Nums_size]; omega), Nums_get (show i * s + j < l.length by omega), Nums_get (show j < ns.length by omega)]
      have h2 := hns j _ (List.getElem?_eq_getElem (show j < ns.length by omega))
      obtain ⟨h3, h4⟩ := List.getElem?_eq_some_iff.1 h2
      rw [h4]
    · rw [if_neg (by rw [Nums_size]; omega), Array.getElem?_eq_none (by rw [Nums_size]; omega)]
  simp [Instr.index, asIntOf, Sem.run_bind, run_underlying T.under W, sizeOf_info hs, part, hag, hi, hext]
/-- A slice from a place on. -/
theorem run_slice_from (hu : P.underlying t = some (.slice e)) (hs : (P.info? e).map (·.size) = some 1) (o len cap lo : Nat) (z : Int) (hz : z = (lo : Int)) (h1 : lo < len) (h2 : len ≤ cap) (W : World) :
    (Instr.slice t (.slice (some ⟨b, o, none⟩) len cap) (some (.int .i64 z)) none none).run P W = .ok (.slice (some ⟨b, o + lo, none⟩) (len - lo) (cap - lo)) W := by
  subst hz
  have hne : cap ≠ lo := by omega
  have hle : lo ≤ len := by omega
  simp [Instr.slice, run_underlying hu, Instr.sliceBounds, run_sliceBound, sizeOf_info hs, hle, hne, add_flat, Sem.run_bind]
/-- .. of an array within an array. -/
theorem run_slice_arr_from (T : ArrT P t e k n) (hs : (P.info? e).map (·.size) = some 1) (o lo : Nat) (z : Int) (hz : z = (lo : Int)) (h1 : lo < n) (W : World) :
    (Instr.sliceAt t (.pointer (some ⟨b, o, none⟩)) (some (.int .i64 z)) none none).run P W = .ok (.slice (some ⟨b, o + lo, none⟩) (n - lo) (n - lo)) W := by
  subst hz
  have hne : n ≠ lo := by omega
  have hle : lo ≤ n := by omega
  simp [Instr.sliceAt, Instr.sureAddr, run_underlying T.under, Instr.sliceBounds, run_sliceBound, sizeOf_info hs, hle, hne, add_flat, Sem.run_bind]
/-- .. whole. -/
theorem run_slice_arr_all (T : ArrT P t e k n) (hs : (P.info? e).map (·.size) = some 1) (o : Nat) (W : World) :
    (Instr.sliceAt t (.pointer (some ⟨b, o, none⟩)) none none none).run P W = .ok (.slice (some ⟨b, o, none⟩) n n) W := by
  simp [Instr.sliceAt, Instr.sureAddr, run_underlying T.under, Instr.sliceBounds, sizeOf_info hs, add_flat, Sem.run_bind]
/-- The address of one, of an array within an array. -/
theorem run_indexAt_off (T : ArrT P t e k n) (hs : (P.info? e).map (·.size) = some 1) (o j q : Nat) (hj : j < n) (hq : o + j = q) (W : World) :
    (Instr.indexAt t (.pointer (some ⟨b, o, none⟩)) (.int .i64 (j : Int))).run P W = .ok (.pointer (some ⟨b, q, none⟩)) W := by
  subst hq
  simp [Instr.indexAt, Instr.sureAddr, asIntOf, run_underlying T.under, sizeOf_info hs, hj, add_flat, Sem.run_bind]
/-- The way out of a function that answers an array of arrays, and a number. -/
theorem ret_two {fn : Func} {a : Act} {w : World} {R : Ending → World → Prop} {l : List Nat} (T : ArrW P t e m n) {p q : Tmp} (hres : fn.results = #[.cell p t, .tmp q])
    (hp : a.tmps.getD p undef = .pointer (some ⟨b, 0, none⟩)) {tb : TypeId} (h : Arr w b tb k l) (hl : l.length = n) {v : Value} (hq : a.tmps.getD q undef = v) (hd : a.defers = []) (hR : R (.returned (.tuple #[.agg (Nums k l), v])) w) : bodyPost P fn R .ret a w := by
  have hp' : a.tmps[p]?.getD undef = .pointer (some ⟨b, 0, none⟩) := by simpa using hp
  have hq' : a.tmps[q]?.getD undef = v := by simpa using hq
  refine bodyPost_ret (v := .tuple #[.agg (Nums k l), v]) ?_ hd hR
  simp [results, hres, hp', hq', asAddr, run_loadVar_row w b tb t (Nums k l) (0, 0) (.array m e) h T.under rfl (by rw [Nums_size, hl]; exact T.size)]
theorem ret_w {fn : Func} {a : Act} {w : World} {R : Ending → World → Prop} {l : List Nat} (T : ArrW P t e m n) {p : Tmp} (hres : fn.results = #[.cell p t])
    (hp : a.tmps.getD p undef = .pointer (some ⟨b, 0, none⟩)) {tb : TypeId} (h : Arr w b tb k l) (hl : l.length = n) (hd : a.defers = []) (hR : R (.returned (.agg (Nums k l))) w) : bodyPost P fn R .ret a w :=
  bodyPost_ret (results_cell_row hres _ w b tb _ (0, 0) (.array m e) hp h T.under rfl (by rw [Nums_size, hl]; exact T.size)) hd hR
end

theorem arrWords : ArrW Try.prog 52 51 60 240 := ⟨by kernel_rfl, by kernel_rfl⟩
theorem info_4 : (Try.prog.info? 51).map (·.size) = some 4 := by kernel_rfl
theorem zeroWords : (Try.prog.info? 52).map (fun i => (i.zero, i.size)) = some (some (.agg (Nums .u8 (Zs 240))), 240) := by kernel_rfl
theorem zeroKeys : (Try.prog.info? 47).map (fun i => (i.zero, i.size)) = some (some (.agg (Nums .u8 (Zs 240))), 240) := by kernel_rfl
theorem zeroKeysR : (Try.prog.info? 40).map (fun i => (i.zero, i.size)) = some (some (.agg (Nums .u8 (Zs 240))), 240) := by kernel_rfl

/-- The words of all keys, as numbers: what stands at a place. -/
def awn (L : List Nat) (i : Nat) : List Nat := (L.drop (4 * i)).take 4
theorem awn_get {L : List Nat} {i : Nat} : ∀ j x : Nat, (awn L i)[j]? = some x → L[4 * i + j]? = some x := by
  intro j x h
  unfold awn at h
  rw [List.getElem?_take] at h
  split at h
  · rw [List.getElem?_drop] at h
    exact h
  · cases h
theorem awn_length {L : List Nat} (h : L.length = 240) {i : Nat} (hi : i < 60) : (awn L i).length = 4 := by simp [awn, h]; omega
theorem awn_abn (L : List UInt8) (i : Nat) : awn (abn L) i = abn (awordAt L i) := by simp [awn, abn, awordAt, List.map_take, List.map_drop]

theorem afill_low {L M : List Nat} {k j : Nat} (h : j < k) (hk : k ≤ L.length) : (L.take k ++ M.drop k)[j]? = L[j]? := by
  rw [List.getElem?_append_left (by simp; omega), List.getElem?_take_of_lt h]
/-- What the two say of all keys. -/
structure KeyFacts (key : List UInt8) (L : List Nat) : Prop where
  len : L.length = 240
  low : ∀ j, j < 32 → ∃ x : UInt8, key[j]? = some x ∧ L[j]? = some x.toNat
  high : ∀ i, 8 ≤ i → i < 60 → ∃ a b c d : UInt8, awn L (i - 1) = four a b c d ∧ ∀ j, j < 4 → ∃ x y : UInt8, (awn L (i - 8))[j]? = some x.toNat ∧ (abn (achgB gboxU i [a, b, c, d]))[j]? = some y.toNat ∧ L[4 * i + j]? = some (x ^^^ y).toNat
theorem keyFacts {key : List UInt8} (h : key.length = 32) : KeyFacts key (abn (akeysU key)) := by
  refine ⟨by rw [abn_length]; exact akeys_length h, fun j hj => ?_, fun i h8 hi => ?_⟩
  · have h1 := akeys_low (f := gboxU) h hj
    have h2 := List.getElem?_eq_getElem (show j < key.length by omega)
    exact ⟨key[j], h2, abn_get (by rw [← h2]; exact h1)⟩
  · obtain ⟨a, b, c, d, e⟩ := afour (awordAt_length (L := akeysU key) (akeys_length h) (i := i - 1) (by omega))
    refine ⟨a, b, c, d, by rw [awn_abn, e]; rfl, fun j hj => ?_⟩
    have h1 := akeys_high (f := gboxU) h h8 hi
    have e' : awordAt (akeysB gboxU key) (i - 1) = [a, b, c, d] := e
    rw [e'] at h1
    have l1 := awordAt_length (L := akeysU key) (akeys_length h) (i := i - 8) (by omega)
    have l2 := achg_length gboxU i (w := [a, b, c, d]) rfl
    obtain ⟨x, y, hx, hy, hxy⟩ := aadd_at (s := awordAt (akeysU key) (i - 8)) (t := achgB gboxU i [a, b, c, d]) (k := j) (by omega) (by omega)
    refine ⟨x, y, by rw [awn_abn]; exact abn_get hx, abn_get hy, abn_get ?_⟩
    have h3 : (awordAt (akeysU key) i)[j]? = some (x ^^^ y) := by rw [← hxy]; exact congrArg (·[j]?) h1
    rw [← awordAt_get hj]
    exact h3

end Go.Proofs.Ytfkfkmdnffpcmaa

/-
  A region that draws its order, whose last operation stores into a variable that was loaded: the condition on the world is asked behind every operation but the last one. No program is named here.
-/
namespace Go.Proofs.Ytfkfkmdnffpcmaa
open Go.RowKit

section
variable {P : Program} {ops : Array Oper} {Q : Exit → Act → World → Prop} {md : Region.Mode} {S : World → Prop} {n : Nat}
/-- All orders of what is left: S is owed behind each operation until number n has come up. -/
def wpAnyE (P : Program) (md : Region.Mode) (ops : Array Oper) (Q : Exit → Act → World → Prop) (S : World → Prop) (n : Nat) : Nat → Array Bool → Act → World → Prop
  | 0, listed, a, w => Region.ready md ops listed = [] ∧ Q .normal a w
  | fuel + 1, listed, a, w =>
    (Region.ready md ops listed = [] → Q .normal a w) ∧
    ∀ i ∈ Region.ready md ops listed, wpOp P ops Q i (fun a' w' => ((listed.setIfInBounds i true).getD n false = true ∨ S w') ∧ wpAnyE P md ops Q S n fuel (listed.setIfInBounds i true) a' w') a w

theorem wpAny_of_ends : ∀ (fuel : Nat) (listed : Array Bool) (a : Act) (w : World), wpAnyE P md ops Q S n fuel listed a w → wpAny P md ops Q fuel listed a w
  | 0, _, _, _, h => h
  | fuel + 1, _, _, _, h => ⟨h.1, fun i hi => wpOp_mono (fun a' w' h' => wpAny_of_ends fuel _ a' w' h'.2) (h.2 i hi)⟩

/-- Who waits for one that may come up can't come up yet. -/
theorem waits_not {i j : Nat} {listed : Array Bool} (hi : i ∈ Region.ready md ops listed) (hj : j ∈ Region.ready md ops listed) : Region.waitsFor md ops j i = false := by
  cases hq : Region.waitsFor md ops j i with
  | false => rfl
  | true =>
    obtain ⟨o, ho, e, he, hb, rfl⟩ := Region.waitsFor_spec hq
    obtain ⟨_, o', ho', hall⟩ := mem_ready.1 hj
    obtain rfl : o = o' := by rw [ho] at ho'; exact Option.some.inj ho'
    have h1 := hall e he hb
    have h2 := getD_both (mem_ready.1 hi).1
    rw [h2] at h1
    cases h1
/-- What has not come up, and does not wait for i, has nothing to do with it. -/
def Loose (md : Region.Mode) (ops : Array Oper) (i : Nat) (oi : Oper) (listed : Array Bool) : Prop :=
  ∀ j oj, ops[j]? = some oj → j ≠ i → listed.getD j true = false → Region.waitsFor md ops j i = false → oi.apart ops oj = true
theorem Loose.of_free {i : Nat} {oi : Oper} {listed : Array Bool} (hi : ops[i]? = some oi) (h : Region.free md ops listed i = true) : Loose md ops i oi listed := fun j oj hj hne hun hno =>
  Region.free_spec hi h j oj hj hne hun fun e he hb hon => by
    have : Region.waitsFor md ops j i = true := by
      unfold Region.waitsFor
      rw [hj]
      exact Array.any_eq_true'.2 ⟨e, he, by simp [hb, hon]⟩
    rw [hno] at this
    cases this
theorem Loose.later {i k : Nat} {oi : Oper} {listed : Array Bool} (h : Loose md ops i oi listed) (hk : listed.getD k true = false) : Loose md ops i oi (listed.setIfInBounds k true) := fun j oj hj hne hun hno => by
  by_cases e : k = j
  · rw [← e] at hj hne hno
    exact h k oj hj hne hk hno
  · rw [getD_set_ne true e] at hun
    exact h j oj hj hne hun hno

/-- One that yields under S may be taken first, if the last one waits for it. -/
theorem wpAnyE_first {i : Nat} {oi : Oper} {v : Value} (hi : ops[i]? = some oi) (hsel : ∀ (j : Nat) (o : Oper) cs b, ops[j]? = some o → o.op ≠ .select cs b)
    (hQ : ∀ c a w, Q (.panic c) (a.put oi.dst v) w → Q (.panic c) a w) (hwait : Region.waitsFor md ops n i = true) (hin : i ≠ n) (fuel : Nat) :
    ∀ (listed : Array Bool) (a : Act) (w : World), Loose md ops i oi listed → i ∈ Region.ready md ops listed → listed.getD n true = false → YieldsIf P ops S oi v a → S w →
      wpAnyE P md ops Q S n fuel (listed.setIfInBounds i true) (a.put oi.dst v) w → wpAnyE P md ops Q S n (fuel + 1) listed a w := by
  induction fuel with
  | zero =>
    intro listed a w _ hr _ hy hS hrest
    constructor
    · intro h0
      rw [h0] at hr
      cases hr
    · intro j hj
      rcases Nat.decEq j i with hji | hji
      · have h1 := ready_mono hj hji
        rw [hrest.1] at h1
        cases h1
      · rw [hji]
        exact hy.wpOp hi hS ⟨.inr hS, hrest⟩
  | succ fuel ih =>
    intro listed a w hloose hr hn hy hS hrest
    constructor
    · intro h0
      rw [h0] at hr
      cases hr
    · intro j hj
      rcases Nat.decEq j i with hji | hji
      · obtain ⟨hun, oj, hoj, _⟩ := mem_ready.1 hj
        have hjn : n ≠ j := fun e => by
          have h1 := waits_not hr hj
          rw [← e, hwait] at h1
          cases h1
        have hap := hloose j oj hoj hji hun (waits_not hr hj)
        have hstep := wpOp_putIf hoj hap (fun cs b => hsel i oi cs b hi) (fun cs b => hsel j oj cs b hoj) hQ hy (hrest.2 j (ready_mono hj hji))
        refine wpOp_mono ?_ hstep
        rintro a' w' ⟨hy', hS1, hrest'⟩
        have hS' : S w' := hS1.resolve_left fun h1 => by
          rw [getD_set_ne false (Ne.symm hjn), getD_set_ne false hin, getD_both hn] at h1
          cases h1
        rw [Array.setIfInBounds_comm _ _ (Ne.symm hji)] at hrest'
        exact ⟨.inr hS', ih _ a' w' (hloose.later hun) (ready_mono hr (Ne.symm hji)) (by rw [getD_set_ne true (Ne.symm hjn)]; exact hn) hy' hS' hrest'⟩
      · rw [hji]
        exact hy.wpOp hi hS ⟨.inr hS, hrest⟩

/-- Number i is taken first. -/
theorem wpAnyE_take {i : Nat} {oi : Oper} {v : Value} {fuel : Nat} {listed : Array Bool} {a : Act} {w : World} (d : Option Tmp) (hd : oi.dst = d) (hi : ops[i]? = some oi)
    (hs : (Region.waitsFor md ops n i && Region.noSelect ops && Region.free md ops listed i && (Region.ready md ops listed).contains i && !(listed.getD n true) && !(i == n)) = true)
    (hQ : ∀ c a w, Q (.panic c) (a.put oi.dst v) w → Q (.panic c) a w) (hy : YieldsIf P ops S oi v a) (hS : S w)
    (h : wpAnyE P md ops Q S n fuel (listed.setIfInBounds i true) (a.put d v) w) : wpAnyE P md ops Q S n (fuel + 1) listed a w := by
  subst hd
  simp only [Bool.and_eq_true, Bool.not_eq_true', beq_eq_false_iff_ne] at hs
  obtain ⟨⟨⟨⟨⟨h1, h2⟩, h3⟩, h4⟩, h5⟩, h6⟩ := hs
  exact wpAnyE_first hi (Region.noSelect_spec h2) hQ h1 h6 fuel listed a w (.of_free hi h3) (by simpa using h4) h5 hy hS h
/-- Just one may come up. -/
theorem wpAnyE_one {i : Nat} {o : Oper} {fuel : Nat} {listed : Array Bool} {a : Act} {w : World} (hr : Region.ready md ops listed = [i]) (ho : ops[i]? = some o)
    (h : ∀ K' : Act → World → Prop, Shut (∀ a w, ((listed.setIfInBounds i true).getD n false = true ∨ S w) → wpAnyE P md ops Q S n fuel (listed.setIfInBounds i true) a w → K' a w) → if Region.wanted o (yielded ops a.tmps) = true then Oper.wp P o a w K' Q else K' (a.put o.dst undef) w) :
    wpAnyE P md ops Q S n (fuel + 1) listed a w := by
  refine ⟨fun h0 => (by rw [hr] at h0; cases h0), fun j hj => ?_⟩
  rw [hr, List.mem_singleton] at hj
  subst hj
  exact wpOp_step ho (fun K' hK => h K' (fun a w hS hW => hK a w ⟨hS, hW⟩))
theorem wpAnyE_done {fuel : Nat} {listed : Array Bool} {a : Act} {w : World} (hr : Region.ready md ops listed = []) (h : Q .normal a w) : wpAnyE P md ops Q S n fuel listed a w := by
  cases fuel with
  | zero => exact ⟨hr, h⟩
  | succ fuel => exact ⟨fun _ => h, by rw [hr]; simp⟩
theorem wp_region_ends {id : Nat} {a : Act} {w : World} (S : World → Prop) (n : Nat) (hm : P.follows .mixedOrders = true)
    (h : wpAnyE P .any ops Q S n ops.size (Array.replicate ops.size false) a w.drew) : (Code.region id ops true).wp P Q a w :=
  wp_region_any hm (wpAny_of_ends _ _ _ _ h)

/-- A load of a whole array yields, where S says what stands there. -/
theorem yields_arr {o : Oper} {a : Act} {t : TypeId} {k : IntKind} {l : List Nat} {b off : Nat} {d : TypeDesc} (hw : Region.wanted o (yielded ops a.tmps) = true) (x : Operand) (ho : o.op = .load t x)
    (hx : a.eval x = .pointer (some ⟨b, off, none⟩)) (hS : ∀ w, S w → w.rangeAt b off (l.map fun (n : Nat) => Value.int k (n : Int))) (hu : P.underlying t = some d) (hd : d.isRow = true) (hi : (P.info? t).map (·.size) = some l.length) :
    YieldsIf P ops S o (.agg (Nums k l)) a :=
  yieldsIf_load_mid hw t x ho b off hx _ d hS hu hd (by rw [List.length_map]; exact hi)

theorem run_enter {f : FuncId} {fn : Func} {c : Code} (hf : P.funcs[f]? = some fn) (hname : (fn.name == "runtime.NumGoroutine") = false) (hb : fn.body = some c) (args : Array Value) (w : World) :
    (callFunc f args).run P w = .ok (.enter f args) w := by
  simp [callFunc, hf, hb, Sem.run_bind]
  simp_all
/-- A call by its contract. -/
theorem stepE_call {fn : Func} {c : Code} {o : Oper} {a : Act} {w : World} {K : Act → World → Prop} {E : Prop} (d : Option Tmp) (hd : o.dst = d) (hgd : o.guard = none) (f : FuncId) (hf : P.funcs[f]? = some fn) (hname : (fn.name == "runtime.NumGoroutine") = false) (hb : fn.body = some c) (xs : Array Operand) (ts : Array TypeId)
    (ho : o.op = .call { callee := .value (.func f), args := xs, argTypes := ts }) (args : List Value) (hx : xs.toList.map a.eval = args) {v : Value} {R : World → Prop}
    (hc : Calls P f args.toArray w fun e w' => e = .returned v ∧ R w') (hK : ∀ w', R w' → K (a.put d v) w') : if Region.wanted o (yielded ops a.tmps) = true then Oper.wp P o a w K Q else E := by
  subst hd
  rw [if_pos (by simp [Region.wanted, hgd])]
  unfold Oper.wp
  subst hx
  have hr := run_enter hf hname hb (xs.map a.eval) w
  have e : (xs.toList.map a.eval).toArray = xs.map a.eval := by rw [← Array.toList_map, Array.toArray_toList]
  rw [e] at hc
  simp [execOp, ho, resolve, go_sem, hr]
  refine hc.mono ?_
  rintro e w' ⟨rfl, h⟩
  exact hK w' h
/-- A store of a whole array. -/
theorem stepE_put {o : Oper} {a : Act} {w : World} {K : Act → World → Prop} {E : Prop} {t e : TypeId} {k : IntKind} {l l' : List Nat} {b m : Nat} (T : ArrT P t e k m) (d : Option Tmp) (hd : o.dst = d) (hgd : o.guard = none) (x y : Operand) (ho : o.op = .store t x y) (hx : a.eval x = .pointer (some ⟨b, 0, none⟩)) (hy : a.eval y = .agg (Nums k l')) {tb : TypeId} (h : Arr w b tb k l) (hl : l.length = m) (hl' : l'.length = m)
    (hK : ∀ w', Hid (Arr w' b tb k l') → Hid (Moves (fun j => j = b) w w') → Hid (w'.heap.size = w.heap.size) → K (a.put d undef) w') : if Region.wanted o (yielded ops a.tmps) = true then Oper.wp P o a w K Q else E := by
  subst hd
  rw [if_pos (by simp [Region.wanted, hgd])]
  unfold Oper.wp
  have hrun : (Instr.storeAt t (.pointer (some ⟨b, 0, none⟩)) (.agg (Nums k l'))).run P w = .ok () (w.setRow b (Nums k l')) := by
    simp only [Instr.storeAt, Instr.sureAddr, Sem.run_bind, Sem.run_pure, Result.andThen_ok]
    exact run_storeVar_row w b tb t (Nums k l) (Nums k l') h (by rw [Nums_size, hl']; exact T.size) (by rw [Nums_size, Nums_size, hl, hl']) (Nums_one _ _)
  simp [execOp, ho, hx, hy, hrun, Result.andThen, Oper.upon]
  exact hK _ (Lib.hid (h.store_moves l').1) (Lib.hid (h.store_moves l').2.1) (Lib.hid (h.store_moves l').2.2)

end
end Go.Proofs.Ytfkfkmdnffpcmaa

/-
  A region that draws its order and loads nothing: what yields in whatever world is taken first. No program is named here.
-/
namespace Go.Proofs.Ytfkfkmdnffpcmaa
open Go.RowKit

section
variable {P : Program} {ops : Array Oper} {Q : Exit → Act → World → Prop} {md : Region.Mode}
theorem wp_region_takes {id : Nat} {a : Act} {w : World} (hm : P.follows .mixedOrders = true)
    (h : wpAny P .any ops Q ops.size (Array.replicate ops.size false) a w.drew) : (Code.region id ops true).wp P Q a w :=
  wp_region_any hm h
theorem wpAnyT_take {i : Nat} {oi : Oper} {v : Value} {fuel : Nat} {listed : Array Bool} {a : Act} {w : World} (d : Option Tmp) (hd : oi.dst = d) (hi : ops[i]? = some oi)
    (hs : (Region.noSelect ops && Region.free md ops listed i && (Region.ready md ops listed).contains i) = true)
    (hQ : ∀ c a w, Q (.panic c) (a.put oi.dst v) w → Q (.panic c) a w) (hy : Yields P ops oi v a)
    (h : wpAny P md ops Q fuel (listed.setIfInBounds i true) (a.put d v) w) : wpAny P md ops Q (fuel + 1) listed a w := by
  subst hd
  simp only [Bool.and_eq_true] at hs
  exact wpAny_take hi hs.1.1 hs.1.2 hs.2 hQ hy h
theorem wpAnyT_one {i : Nat} {o : Oper} {fuel : Nat} {listed : Array Bool} {a : Act} {w : World} (hr : Region.ready md ops listed = [i]) (ho : ops[i]? = some o)
    (h : ∀ K' : Act → World → Prop, Shut (∀ a w, wpAny P md ops Q fuel (listed.setIfInBounds i true) a w → K' a w) → if Region.wanted o (yielded ops a.tmps) = true then Oper.wp P o a w K' Q else K' (a.put o.dst undef) w) :
    wpAny P md ops Q (fuel + 1) listed a w := by
  refine ⟨fun h0 => (by rw [hr] at h0; cases h0), fun j hj => ?_⟩
  rw [hr, List.mem_singleton] at hj
  subst hj
  exact wpOp_step ho (fun K' hK => h K' (fun a w hW => hK a w hW))
theorem wpAnyT_done {fuel : Nat} {listed : Array Bool} {a : Act} {w : World} (hr : Region.ready md ops listed = []) (h : Q .normal a w) : wpAny P md ops Q fuel listed a w := wpAny_done hr h fuel
/-- A copy into an array. -/
theorem stepT_copy {w : World} {g : Nat} {t : TypeId} {k : IntKind} {o : Oper} {a : Act} {K : Act → World → Prop} {E : Prop} (d0 : Option Tmp) (hd0 : o.dst = d0) (hgd : o.guard = none) (d s : Operand) (dT sT : TypeId)
    (ho : o.op = .call { callee := .builtin .copy, args := #[d, s], argTypes := #[dT, sT] }) (e : TypeId) (hu : P.underlying dT = some (.slice e)) (hsz : (P.info? e).map (·.size) = some 1)
    (off dl dc : Nat) (A : Addr) (sl sc : Nat) (hd : a.eval d = .slice (some ⟨g, off, none⟩) dl dc) (hs : a.eval s = .slice (some A) sl sc) (l ns : List Nat) (m : Nat) (hm : ns.length = m) (h : Arr w g t k l)
    (hn : m = Nat.min sl dl) (hsrc : ∀ (j x : Nat), ns[j]? = some x → w.cell? (A.add j) = some (.int k (x : Int))) (hfit : off + m ≤ l.length)
    (hK : ∀ w', Hid (Arr w' g t k (splice l off ns)) → Hid (Moves (fun j => j = g) w w') → Hid (w'.heap.size = w.heap.size) → K (a.put d0 (goInt (m : Int))) w') :
    if Region.wanted o (yielded ops a.tmps) = true then Oper.wp P o a w K Q else E := by
  subst hd0 hm
  exact step_copy_arr hgd d s dT sT ho e hu hsz off dl dc A sl sc hd hs l ns h hn hsrc hfit hK
theorem run_storeVar_part {w : World} {g : Nat} {t tb : TypeId} {k : IntKind} {l ns : List Nat} {off : Nat} (h : Arr w g tb k l) (hfit : off + ns.length ≤ l.length) (hi : (P.info? t).map (·.size) = some ns.length) :
    (storeVar t ⟨g, off, none⟩ (.agg (Nums k ns))).run P w = .ok () (w.setRow g (Nums k (splice l off ns))) := by
  have hst := run_storeCells_at P g off tb (Nums k ns).toList 0 (Nums k l) w h (by simpa [Nums_size] using hfit) (fun v hv => (Array.all_eq_true_iff_forall_mem.1 (Nums_one k ns)) v (by simpa using hv))
  have e : ((Nums k l).toList.take (off + 0) ++ (Nums k ns).toList ++ (Nums k l).toList.drop (off + 0 + (Nums k ns).toList.length)).toArray = Nums k (splice l off ns) := by
    simp [Nums, splice, List.map_take, List.map_drop]
  rw [e] at hst
  cases hq : P.info? t with
  | none => simp [hq] at hi
  | some i =>
    have hs : i.size = ns.length := by simpa [hq] using hi
    have hsz : (Nums k ns).size = i.size := by rw [Nums_size, hs]
    simp [storeVar, sizeOf, typeInfo, hq, Value.cells, hsz, hst]
/-- A store into a part of an array. -/
theorem stepE_put_part {w : World} {g : Nat} {t tb : TypeId} {k : IntKind} {o : Oper} {a : Act} {K : Act → World → Prop} {E : Prop} {l ns : List Nat} (d : Option Tmp) (hd : o.dst = d) (hgd : o.guard = none) (x y : Operand) (ho : o.op = .store t x y) (off : Nat) (hx : a.eval x = .pointer (some ⟨g, off, none⟩)) (hy : a.eval y = .agg (Nums k ns))
    (h : Arr w g tb k l) (hfit : off + ns.length ≤ l.length) (hi : (P.info? t).map (·.size) = some ns.length)
    (hK : ∀ w', Hid (Arr w' g tb k (splice l off ns)) → Hid (Moves (fun j => j = g) w w') → Hid (w'.heap.size = w.heap.size) → K (a.put d undef) w') : if Region.wanted o (yielded ops a.tmps) = true then Oper.wp P o a w K Q else E := by
  subst hd
  rw [if_pos (by simp [Region.wanted, hgd])]
  unfold Oper.wp
  have hrun : (Instr.storeAt t (.pointer (some ⟨g, off, none⟩)) (.agg (Nums k ns))).run P w = .ok () (w.setRow g (Nums k (splice l off ns))) := by
    simp only [Instr.storeAt, Instr.sureAddr, Sem.run_bind, Sem.run_pure, Result.andThen_ok]
    exact run_storeVar_part h hfit hi
  simp [execOp, ho, hx, hy, hrun, Result.andThen, Oper.upon]
  exact hK _ (Lib.hid (h.store_moves _).1) (Lib.hid (h.store_moves _).2.1) (Lib.hid (h.store_moves _).2.2)
end

end Go.Proofs.Ytfkfkmdnffpcmaa

namespace Go.Proofs.Ytfkfkmdnffpcmaa
open Go.RowKit

theorem gloop_zero (k : Nat) (b s : UInt8) : gloopU k 0 b s = s := by
  induction k generalizing b with
  | zero => rfl
  | succ k ih => unfold gloopU; exact ih _
theorem gloop_odd {k : Nat} {a b s : UInt8} (h : a.toNat % 2 = 1) : gloopU (k + 1) a b s = gloopU k (a / 2) (gtwiceU b) (s ^^^ b) := by
  rw [gloopU, if_pos h]
theorem gloop_even {k : Nat} {a b s : UInt8} (h : a.toNat % 2 = 0) : gloopU (k + 1) a b s = gloopU k (a / 2) (gtwiceU b) s := by
  rw [gloopU, if_neg (by omega)]
theorem and_one_u8 (a : UInt8) : bits .and .u8 (a.toNat : Int) 1 = ((a.toNat % 2 : Nat) : Int) := by
  have h := and_u8 a 1
  rw [odd_u8] at h
  exact h

set_option maxHeartbeats 1600000 in
theorem gmul_any (a b : UInt8) (w : World) :
    Calls Try.prog 48 #[.int .u8 (a.toNat : Int), .int .u8 (b.toNat : Int)] w (fun e w' => e = .returned (.int .u8 ((gmulU a b).toNat : Int)) ∧ w' = w) := by
  have Hm : Hid (gmulU a b = gloopU 8 a b 0) := Lib.hid rfl
  have Ha : Hid (a.toNat < 2 ^ 8) := Lib.hid a.toNat_lt
  revert Hm Ha
  generalize gmulU a b = m
  intro Hm Ha
  go_enter Try.func48, Try.ntmps48
  go_wp2
  go_step3
  go_wp2
  go_step3
  go_wp2
  go_loopw [0, 1, 5] (fun x y z wr => ∃ (k : Nat) (a' b' s' : UInt8), x = .int .u8 (a'.toNat : Int) ∧ y = .int .u8 (b'.toNat : Int) ∧ z = .int .u8 (s'.toNat : Int) ∧ Hid (a'.toNat < 2 ^ k) ∧ Hid (m = gloopU k a' b' s') ∧ wr = w) (fun x _ _ _ => (intOf x).toNat)
  case atStart => exact ⟨8, a, b, 0, rfl, rfl, rfl, Ha, Hm, rfl⟩
  case round =>
    obtain ⟨k, a', b', s', rfl, rfl, rfl, Hk, Hl, rfl⟩ := hrel
    by_cases h0 : a'.toNat = 0
    · have e0 : (a'.toNat : Int) = 0 := by omega
      have Hr : Hid (m = s') := Lib.hid (by rw [Hl.out, show a' = 0 from UInt8.toNat_inj.1 h0, gloop_zero])
      clear h0
      revert e0
      generalize (a'.toNat : Int) = z
      intro e0
      subst e0
      go_wp2
      rw [Exit.noGoto_ret]
      go_ret
      exact ⟨by rw [Hr.out]; rfl, rfl⟩
    · rcases k with _ | k
      · exact absurd Hk.out (by simp; omega)
      have e0 : ((a'.toNat : Int) == 0) = false := by simp; omega
      have hd : (a' / 2).toNat = a'.toNat / 2 := by rw [UInt8.toNat_div]; rfl
      have Hk' : Hid ((a' / 2).toNat < 2 ^ k) := Lib.hid (by have := Hk.out; rw [Nat.pow_succ] at this; omega)
      have hd' : (a'.toNat : Int) / 2 = ((a' / 2).toNat : Int) := by omega
      have hlt : Hid (((a' / 2).toNat : Int).toNat < (a'.toNat : Int).toNat) := Lib.hid (by omega)
      have hx := gxor_u8 s' b'
      have hc := fun w => gtwice_any b' w
      have ha := and_one_u8 a'
      rcases Nat.mod_two_eq_zero_or_one a'.toNat with h1 | h1
      · rw [h1] at ha
        have Hl' : Hid (m = gloopU k (a' / 2) (gtwiceU b') s') := Lib.hid (by rw [Hl.out, gloop_even h1])
        clear h1 h0 hd hx Hl Hk
        revert e0 Hk' hd' hlt hc ha Hl'
        generalize (a' / 2) = a2
        generalize (a'.toNat : Int) = z
        intro e0 Hk' hd' hlt hc ha Hl'
        go_wp2_with fail
        refine (hc _).mono ?_
        rintro e w1 ⟨rfl, rfl⟩
        go_wp2
        go_roundw
        case rel => exact ⟨k, a2, _, s', rfl, rfl, rfl, Hk', Hl', trivial⟩
        case measure => exact hlt.out
      · rw [h1] at ha
        have Hl' : Hid (m = gloopU k (a' / 2) (gtwiceU b') (s' ^^^ b')) := Lib.hid (by rw [Hl.out, gloop_odd h1])
        clear h1 h0 hd Hl Hk
        revert e0 Hk' hd' hlt hx hc ha Hl'
        generalize (a' / 2) = a2
        generalize (s' ^^^ b') = s2
        generalize (a'.toNat : Int) = z
        intro e0 Hk' hd' hlt hx hc ha Hl'
        go_wp2_with fail
        refine (hc _).mono ?_
        rintro e w1 ⟨rfl, rfl⟩
        go_wp2
        go_roundw
        case rel => exact ⟨k, a2, _, s2, rfl, rfl, rfl, Hk', Hl', trivial⟩
        case measure => exact hlt.out

end Go.Proofs.Ytfkfkmdnffpcmaa

namespace Go.Proofs.Ytfkfkmdnffpcmaa
open Go.RowKit

set_option maxHeartbeats 1600000 in
theorem rgmul_any (a b : UInt8) (w : World) :
    Calls Try.prog 46 #[.int .u8 (a.toNat : Int), .int .u8 (b.toNat : Int)] w (fun e w' => e = .returned (.int .u8 ((gmulU a b).toNat : Int)) ∧ w' = w) := by
  have Hm : Hid (gmulU a b = gloopU 8 a b 0) := Lib.hid rfl
  revert Hm
  generalize gmulU a b = m
  intro Hm
  go_enter Try.func46, Try.ntmps46
  go_wp2
  go_loopw [0, 1, 5, 6] (fun x y z i wr => ∃ (p : Nat) (a' b' s' : UInt8), p ≤ 8 ∧ i = .int .i64 p ∧ x = .int .u8 (a'.toNat : Int) ∧ y = .int .u8 (b'.toNat : Int) ∧ z = .int .u8 (s'.toNat : Int) ∧ Hid (m = gloopU (8 - p) a' b' s') ∧ wr = w) (fun _ _ _ i _ => 8 - (intOf i).toNat)
  case atStart => exact ⟨0, a, b, 0, Nat.zero_le _, rfl, rfl, rfl, rfl, Hm, rfl⟩
  case round =>
    obtain ⟨p, a', b', s', hp, rfl, rfl, rfl, rfl, Hl, rfl⟩ := hrel
    by_cases h8 : p < 8
    · have hd : (a' / 2).toNat = a'.toNat / 2 := by rw [UInt8.toNat_div]; rfl
      have hd1 : (a'.toNat : Int) / 2 = ((a' / 2).toNat : Int) := by omega
      have hz0 : 0 ≤ (a'.toNat : Int) := by omega
      have hz1 : (a'.toNat : Int) < 256 := by have := a'.toNat_lt; omega
      have hx := gxor_u8 s' b'
      have hc := fun w => rgtwice_any b' w
      have ha : (a'.toNat : Int) % 2 = ((a'.toNat % 2 : Nat) : Int) := by omega
      have Hl1 : Hid (m = gloopU (8 - (p + 1) + 1) a' b' s') := Lib.hid (by rw [show 8 - (p + 1) + 1 = 8 - p by omega]; exact Hl.out)
      rcases Nat.mod_two_eq_zero_or_one a'.toNat with h1 | h1
      · rw [h1] at ha
        have Hl' : Hid (m = gloopU (8 - (p + 1)) (a' / 2) (gtwiceU b') s') := Lib.hid (by rw [Hl1.out, gloop_even h1])
        clear h1 hd hx Hl Hl1
        revert hd1 hz0 hz1 hc ha Hl'
        generalize (a' / 2) = a2
        generalize (a'.toNat : Int) = z
        intro hd1 hz0 hz1 hc ha Hl'
        go_wp2_with fail
        refine (hc _).mono ?_
        rintro e w1 ⟨rfl, rfl⟩
        go_wp2
        go_roundw
        case rel => exact ⟨p + 1, a2, _, s', by omega, by go_num, rfl, rfl, rfl, Hl', trivial⟩
        case measure => simp [intOf]; omega
      · rw [h1] at ha
        have Hl' : Hid (m = gloopU (8 - (p + 1)) (a' / 2) (gtwiceU b') (s' ^^^ b')) := Lib.hid (by rw [Hl1.out, gloop_odd h1])
        clear h1 hd Hl Hl1
        revert hd1 hz0 hz1 hx hc ha Hl'
        generalize (a' / 2) = a2
        generalize (s' ^^^ b') = s2
        generalize (a'.toNat : Int) = z
        intro hd1 hz0 hz1 hx hc ha Hl'
        go_wp2_with fail
        refine (hc _).mono ?_
        rintro e w1 ⟨rfl, rfl⟩
        go_wp2
        go_roundw
        case rel => exact ⟨p + 1, a2, _, s2, by omega, by go_num, rfl, rfl, rfl, Hl', trivial⟩
        case measure => simp [intOf]; omega
    · have Hr : Hid (m = s') := Lib.hid (by rw [Hl.out, show 8 - p = 0 by omega]; rfl)
      go_wp2
      go_ret
      exact ⟨by rw [Hr.out]; rfl, rfl⟩

end Go.Proofs.Ytfkfkmdnffpcmaa

namespace Go.Proofs.Ytfkfkmdnffpcmaa
open Go.RowKit

set_option maxHeartbeats 1600000 in
set_option maxRecDepth 20000 in
theorem rginv_any (a : UInt8) (w : World) :
    Calls Try.prog 44 #[.int .u8 (a.toNat : Int)] w (fun e w' => e = .returned (.int .u8 ((ginvU a).toNat : Int)) ∧ w' = w) := by
  have Hm : Hid (ginvU a = gseekU a 256 0) := Lib.hid rfl
  revert Hm
  generalize ginvU a = m
  intro Hm
  go_enter Try.func44, Try.ntmps44
  go_wp2
  go_loopw [3] (fun i wr => ∃ k : Nat, k ≤ 256 ∧ i = .int .i64 k ∧ Hid (m = gseekU a (256 - k) k) ∧ wr = w) (fun i _ => 256 - (intOf i).toNat)
  case atStart => exact ⟨0, Nat.zero_le _, rfl, Hm, rfl⟩
  case round =>
    obtain ⟨k, hk, rfl, Hk, rfl⟩ := hrel
    by_cases hlt : k < 256
    · have hko : ((UInt8.ofNat k).toNat : Int) = (k : Int) := by rw [UInt8.toNat_ofNat']; omega
      have hc := fun w => rgmul_any a (UInt8.ofNat k) w
      rw [hko] at hc
      have Hs : Hid (gseekU a (256 - k) k = if gmulU a (UInt8.ofNat k) = 1 then UInt8.ofNat k else gseekU a (256 - (k + 1)) (k + 1)) := Lib.hid (by rw [show 256 - k = 256 - (k + 1) + 1 by omega]; rfl)
      by_cases h1 : gmulU a (UInt8.ofNat k) = 1
      · have Hr : Hid ((m.toNat : Int) = (k : Int)) := Lib.hid (by rw [Hk.out, Hs.out, if_pos h1]; exact hko)
        have e1 : ((gmulU a (UInt8.ofNat k)).toNat : Int) = 1 := by rw [h1]; rfl
        clear h1 Hs hko
        generalize gmulU a (UInt8.ofNat k) = p at *
        go_wp2_with fail
        refine (hc _).mono ?_
        rintro e w1 ⟨rfl, rfl⟩
        go_wp2
        go_ret
        exact ⟨by rw [Hr.out]; rfl, rfl⟩
      · have Hr : Hid (m = gseekU a (256 - (k + 1)) (k + 1)) := Lib.hid (by rw [Hk.out, Hs.out, if_neg h1])
        have e1 : (((gmulU a (UInt8.ofNat k)).toNat : Int) == 1) = false := by
          have : (gmulU a (UInt8.ofNat k)).toNat ≠ 1 := fun e => h1 (UInt8.toNat_inj.1 e)
          simp; omega
        clear h1 Hs hko
        generalize gmulU a (UInt8.ofNat k) = p at *
        go_wp2_with fail
        refine (hc _).mono ?_
        rintro e w1 ⟨rfl, rfl⟩
        go_wp2
        go_roundw
        case rel => exact ⟨k + 1, by omega, by go_num, Hr, trivial⟩
        case measure => simp [intOf]; omega
    · have Hr : Hid (m = 0) := Lib.hid (by rw [Hk.out, show 256 - k = 0 by omega]; rfl)
      go_wp2
      go_ret
      exact ⟨by rw [Hr.out]; rfl, rfl⟩

end Go.Proofs.Ytfkfkmdnffpcmaa

namespace Go.Proofs.Ytfkfkmdnffpcmaa
open Go.RowKit

theorem grot_all : ((List.range 256).all fun a => (List.range 8).all fun n => decide (1 ≤ n → bits .or .u8 ((a : Int) * 2 ^ n % 256) ((a : Int) / 2 ^ (8 - n)) = ((gleftU (UInt8.ofNat a) n).toNat : Int))) = true := by decide +kernel
theorem grot_bits (a : UInt8) (n : Nat) (h1 : 1 ≤ n) (h8 : n < 8) : bits .or .u8 ((a.toNat : Int) * 2 ^ n % 256) ((a.toNat : Int) / 2 ^ (8 - n)) = ((gleftU a n).toNat : Int) := by
  have h := of_decide_eq_true (List.all_eq_true.1 (List.all_eq_true.1 grot_all a.toNat (List.mem_range.2 a.toNat_lt)) n (List.mem_range.2 h8)) h1
  rwa [UInt8.ofNat_toNat] at h

set_option maxHeartbeats 800000 in
theorem rgleft_any (a : UInt8) (n : Nat) (w : World) (h1 : 1 ≤ n) (h8 : n < 8) :
    Calls Try.prog 45 #[.int .u8 (a.toNat : Int), .int .i64 (n : Int)] w fun e w' => e = .returned (.int .u8 ((gleftU a n).toNat : Int)) ∧ ∃ k, w' = w.drewN k := by
  have hr := grot_bits a n h1 h8
  go_enter Try.func45, Try.ntmps45
  go_wp2
  go_quiet (fail)
  go_wp2
  go_ret
  exact ⟨rfl, _, rfl⟩

end Go.Proofs.Ytfkfkmdnffpcmaa

namespace Go.Proofs.Ytfkfkmdnffpcmaa
open Go.RowKit

set_option maxHeartbeats 1600000 in
set_option maxRecDepth 20000 in
theorem rgbox_any (a : UInt8) (w : World) :
    Calls Try.prog 38 #[.int .u8 (a.toNat : Int)] w (fun e w' => e = .returned (.int .u8 ((gboxU a).toNat : Int)) ∧ ∃ k, w' = w.drewN k) := by
  have hc := fun w => rginv_any a w
  have Hm : Hid (gboxU a = ginvU a ^^^ gleftU (ginvU a) 1 ^^^ gleftU (ginvU a) 2 ^^^ gleftU (ginvU a) 3 ^^^ gleftU (ginvU a) 4 ^^^ 99) := Lib.hid rfl
  revert hc Hm
  generalize gboxU a = m
  generalize ginvU a = n
  intro hc Hm
  have h1 := fun w => rgleft_any n 1 w (by omega) (by omega)
  have h2 := fun w => rgleft_any n 2 w (by omega) (by omega)
  have h3 := fun w => rgleft_any n 3 w (by omega) (by omega)
  have h4 := fun w => rgleft_any n 4 w (by omega) (by omega)
  generalize gleftU n 1 = a1 at *
  generalize gleftU n 2 = a2 at *
  generalize gleftU n 3 = a3 at *
  generalize gleftU n 4 = a4 at *
  have x1 := gxor_u8 n a1
  have x2 := gxor_u8 (n ^^^ a1) a2
  have x3 := gxor_u8 (n ^^^ a1 ^^^ a2) a3
  have x4 := gxor_u8 (n ^^^ a1 ^^^ a2 ^^^ a3) a4
  have x5 := gxor_u8 (n ^^^ a1 ^^^ a2 ^^^ a3 ^^^ a4) 99
  rw [← Hm.out] at x5
  clear Hm
  generalize n ^^^ a1 ^^^ a2 ^^^ a3 ^^^ a4 = y4 at *
  generalize n ^^^ a1 ^^^ a2 ^^^ a3 = y3 at *
  generalize n ^^^ a1 ^^^ a2 = y2 at *
  generalize n ^^^ a1 = y1 at *
  have x5' : bits .xor .u8 (y4.toNat : Int) 99 = (m.toNat : Int) := x5
  clear x5
  go_enter Try.func38, Try.ntmps38
  go_wp2_with fail
  refine (hc _).mono ?_
  rintro e w1 ⟨rfl, rfl⟩
  go_wp2_with fail
  refine (h1 _).mono ?_
  rintro e w2 ⟨rfl, k1, rfl⟩
  go_wp2_with fail
  refine (h2 _).mono ?_
  rintro e w2 ⟨rfl, k2, rfl⟩
  go_wp2_with fail
  refine (h3 _).mono ?_
  rintro e w2 ⟨rfl, k3, rfl⟩
  go_wp2_with fail
  refine (h4 _).mono ?_
  rintro e w2 ⟨rfl, k4, rfl⟩
  go_wp2
  go_ret
  exact ⟨rfl, k1 + k2 + k3 + k4, by simp only⟩

end Go.Proofs.Ytfkfkmdnffpcmaa

namespace Go.Proofs.Ytfkfkmdnffpcmaa
open Go.RowKit

set_option maxHeartbeats 3200000 in
theorem rgpower_any (a : UInt8) (n : Int) (w : World) (hn : -9223372036854775808 ≤ n ∧ n ≤ 9223372036854775807) :
    Calls Try.prog 39 #[.int .u8 (a.toNat : Int), .int .i64 n] w (fun e w' => e = .returned (.int .u8 ((gpowerU a n).toNat : Int)) ∧ w' = w) := by
  have Hm : Hid (gpowerU a n = gpowU a (gtimes n)) := Lib.hid rfl
  obtain ⟨N, hN⟩ : ∃ N, gtimes n = N := ⟨_, rfl⟩
  rw [hN] at Hm
  unfold gtimes at hN
  by_cases h : 255 < n
  · rw [if_neg (by omega)] at hN
    have hz : (n - 1) % 255 + 1 = (N : Int) := by omega
    have hN2 : N ≤ 255 := by omega
    clear hN
    go_enter Try.func39, Try.ntmps39
    go_wp2
    go_loopw [5, 6] (fun x i wr => ∃ (k : Nat) (o : UInt8), k ≤ N ∧ i = .int .i64 k ∧ x = .int .u8 (o.toNat : Int) ∧ Hid (o = gpowU a k) ∧ wr = w) (fun _ i _ => N - (intOf i).toNat)
    case atStart => exact ⟨0, 1, Nat.zero_le _, rfl, rfl, Lib.hid rfl, rfl⟩
    case round =>
      obtain ⟨k, o, hk, rfl, rfl, Ho, rfl⟩ := hrel
      by_cases hlt : k < N
      · have hlt' : (k : Int) < (N : Int) := by omega
        have hc := fun w => rgmul_any o a w
        have Ho' : Hid (gmulU o a = gpowU a (k + 1)) := Lib.hid (by rw [Ho.out]; rfl)
        generalize gmulU o a = o2 at *
        go_wp2_with fail
        refine (hc _).mono ?_
        rintro e w1 ⟨rfl, rfl⟩
        go_wp2
        go_roundw
        case rel => exact ⟨k + 1, o2, by omega, by go_num, rfl, Ho', trivial⟩
        case measure => simp [intOf]; omega
      · have hge : ¬ (k : Int) < (N : Int) := by omega
        have Hr : Hid (gpowerU a n = o) := Lib.hid (by rw [Ho.out, show k = N by omega]; exact Hm.out)
        go_wp2
        go_ret
        exact ⟨by rw [Hr.out]; rfl, rfl⟩
  · have hN' : (N : Int) = if n < 1 then 0 else n := by
      subst hN
      split
      · rfl
      · omega
    clear hN
    have hk1 : ∀ k : Nat, k < N → (k : Int) < n := by intro k hk; split at hN' <;> omega
    have hk2 : ∀ k : Nat, k = N → n ≤ (k : Int) := by intro k hk; split at hN' <;> omega
    have hN2 : N ≤ 255 := by split at hN' <;> omega
    clear hN'
    have Hk1 := Lib.hid hk1; clear hk1
    have Hk2 := Lib.hid hk2; clear hk2
    go_enter Try.func39, Try.ntmps39
    go_wp2
    go_loopw [5, 6] (fun x i wr => ∃ (k : Nat) (o : UInt8), k ≤ N ∧ i = .int .i64 k ∧ x = .int .u8 (o.toNat : Int) ∧ Hid (o = gpowU a k) ∧ wr = w) (fun _ i _ => N - (intOf i).toNat)
    case atStart => exact ⟨0, 1, Nat.zero_le _, rfl, rfl, Lib.hid rfl, rfl⟩
    case round =>
      obtain ⟨k, o, hk, rfl, rfl, Ho, rfl⟩ := hrel
      by_cases hlt : k < N
      · have hlt' : (k : Int) < n := Hk1.out k hlt
        have hc := fun w => rgmul_any o a w
        have Ho' : Hid (gmulU o a = gpowU a (k + 1)) := Lib.hid (by rw [Ho.out]; rfl)
        generalize gmulU o a = o2 at *
        go_wp2_with fail
        refine (hc _).mono ?_
        rintro e w1 ⟨rfl, rfl⟩
        go_wp2
        go_roundw
        case rel => exact ⟨k + 1, o2, by omega, by go_num, rfl, Ho', trivial⟩
        case measure => simp [intOf]; omega
      · have hge : ¬ (k : Int) < n := by have := Hk2.out k (by omega); omega
        have Hr : Hid (gpowerU a n = o) := Lib.hid (by rw [Ho.out, show k = N by omega]; exact Hm.out)
        go_wp2
        go_ret
        exact ⟨by rw [Hr.out]; rfl, rfl⟩

end Go.Proofs.Ytfkfkmdnffpcmaa
