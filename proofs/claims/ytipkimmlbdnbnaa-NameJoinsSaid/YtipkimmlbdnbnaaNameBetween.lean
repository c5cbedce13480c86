import Derived.Test.YtipkimmlbdnbnaaNameS
import Derived.Test.YtipkimmlbdnbnaaStrs
import Derived.Test.YtipkimmlbdnbnaaUtfV
import Derived.RangeFuncNested
import Derived.RangeFuncBound
import Derived.RangeFuncCalls
import Derived.RangeFuncLeaves
import Derived.RangeFuncBox
import Derived.Shelf.Abstract
import Derived.Shelf.RegionOpen
import Derived.OwnWalkIn
import Derived.TacticsInMore
import Derived.LoopNIn
import Derived.LoopIn
import Derived.Maps.AppendAt
namespace Go.Proofs.Ytipkimmlbdnbnaa
open Go.RowKit Go.Shelf

attribute [local go_sem] Oper.semAt_some

/-- What the rounds keep: the cell that the iterator reads, and each walk. -/
structure KCW (Bn : Nat) (W W' : World) : Prop where
  cell : W'.cell? ⟨Bn, 0, none⟩ = W.cell? ⟨Bn, 0, none⟩
  walks : KeepsWalks W W'
theorem KCW.t {Bn : Nat} {A B C : World} (h : KCW Bn A B) (k : KCW Bn B C) : KCW Bn A C := ⟨k.cell.trans h.cell, h.walks.trans k.walks⟩
theorem KCW.b {Bn : Nat} {w : World} (hn : Bn < w.heap.size) (W : World) (l : Nat) (o o' : Obj) (hl : w.heap.size ≤ l) (h : W.heap[l]? = some o) (hc : o.isCells = false) (hw : o.isWalk = false) : KCW Bn W (W.putObj l o') :=
  ⟨World.cell?_of_block (World.putObj_heap_other (by show Bn ≠ l; omega)), walksK_b W l o o' hl h hc hw⟩

theorem run_next_at {P : Program} (W : World) (b : Nat) (s : ByteArray) (p : Nat) (ty : TypeId) (h : W.heap[b]? = some (.stringIter s p)) (hp : p < s.size) :
    (Instr.next (.pointer (some ⟨b, 0, none⟩)) true ty).run P W = .ok (.tuple #[.bool true, .int .i64 p, .int .i32 (Utf8.decode s p).1]) (W.putObj b (.stringIter s (p + (Utf8.decode s p).2))) := by
  simp only [Instr.next, getObj, setObj, Sem.run_bind, Sem.run, h, Result.andThen, hp, if_true]
  simp [goInt, World.putObj]
theorem run_end_at {P : Program} (W : World) (b : Nat) (s : ByteArray) (p : Nat) (ty : TypeId) (h : W.heap[b]? = some (.stringIter s p)) (hp : ¬ p < s.size) :
    (Instr.next (.pointer (some ⟨b, 0, none⟩)) true ty).run P W = .ok (.tuple #[.bool false]) W := by
  simp [Instr.next, getObj, Sem.run, h, hp]

/-! ### the pieces that have come -/
theorem fold_grows : ∀ (t : List UInt8) (d : List (List UInt8)) (c : List UInt8), d <+: (t.foldl stepP (d, c)).1
  | [], d, _ => List.prefix_rfl
  | b :: t, d, c => by
    rw [List.foldl_cons]
    by_cases h : b = 46
    · subst h
      have e : stepP (d, c) 46 = (d ++ [c], []) := rfl
      rw [e]
      exact (List.prefix_append d [c]).trans (fold_grows t _ _)
    · have e : stepP (d, c) b = (d, c ++ [b]) := if_neg h
      rw [e]
      exact fold_grows t _ _
/-- Behind p bytes: pre has come, and what stands from f on has not. -/
def At (l : List UInt8) (p f : Nat) (pre : List (List UInt8)) : Prop := foldP (l.take p) = (pre, (l.take p).drop f)
theorem At.zero (l : List UInt8) : At l 0 0 [] := rfl
theorem foldP_split (l : List UInt8) (p : Nat) : foldP l = (l.drop p).foldl stepP (foldP (l.take p)) := by
  have := List.foldl_append (f := stepP) (b := ([], [])) (l := l.take p) (l' := l.drop p)
  rw [List.take_append_drop] at this
  exact this
theorem At.pre {l : List UInt8} {p f : Nat} {pre : List (List UInt8)} (h : At l p f pre) : pre.length < (pieces l).length := by
  have := fold_grows (l.drop p) pre ((l.take p).drop f)
  have e := foldP_split l p
  rw [h] at e
  rw [← e] at this
  have := this.length_le
  unfold pieces
  rw [List.length_append]
  simp; omega
theorem At.last {l : List UInt8} {f : Nat} {pre : List (List UInt8)} (h : At l l.length f pre) : pieces l = pre ++ [l.drop f] := by
  unfold At at h
  rw [List.take_length] at h
  unfold pieces
  rw [h]
theorem At.cut {l : List UInt8} {p f : Nat} {pre : List (List UInt8)} (h : At l p f pre) (hp : p < l.length) (hb : l[p] = 46) :
    At l (p + 1) (p + 1) (pre ++ [(l.take p).drop f]) ∧ pre ++ [(l.take p).drop f] <+: pieces l := by
  have h1 : At l (p + 1) (p + 1) (pre ++ [(l.take p).drop f]) := by
    unfold At
    rw [List.take_add_one, List.getElem?_eq_getElem hp, hb]
    show foldP (l.take p ++ [46]) = _
    rw [foldP_snoc, h]
    have : (List.take p l ++ (some (46 : UInt8)).toList).drop (p + 1) = [] := List.drop_eq_nil_of_le (by simp; omega)
    rw [this]
    rfl
  refine ⟨h1, ?_⟩
  have := fold_grows (l.drop (p + 1)) (pre ++ [(l.take p).drop f]) ((l.take (p + 1)).drop (p + 1))
  have e := foldP_split l (p + 1)
  rw [h1] at e
  rw [← e] at this
  exact this.trans (List.prefix_append _ _)
theorem At.plain {l : List UInt8} {p f : Nat} {pre : List (List UInt8)} (h : At l p f pre) (hf : f ≤ p) : ∀ n, p + n ≤ l.length → (46 : UInt8) ∉ (l.drop p).take n → At l (p + n) f pre := by
  intro n hl hno
  have e : l.take (p + n) = l.take p ++ (l.drop p).take n := by rw [List.take_add]
  unfold At at h ⊢
  rw [e]
  unfold foldP at h ⊢
  rw [List.foldl_append, h, fold_plain _ _ _ hno, List.drop_append_of_le_length (by rw [List.length_take]; omega)]
/-- A rune's bytes hold a point just where the rune is one. -/
theorem rune_bytes (l : List UInt8) (hne : l ≠ []) : ((Lib.decodeL l).1 = 46 → (Lib.decodeL l).2 = 1 ∧ l[0]? = some 46) ∧ ((Lib.decodeL l).1 ≠ 46 → (46 : UInt8) ∉ l.take (Lib.decodeL l).2) := by
  by_cases hb : (Lib.decodeL l).1 = 65533 ∧ (Lib.decodeL l).2 = 1
  · refine ⟨fun h => by rw [h] at hb; exact absurd hb.1 (by decide), fun _ hm => ?_⟩
    rw [hb.2] at hm
    match l, hne with
    | b :: t, _ =>
      simp at hm
      subst hm
      rw [decode_46] at hb
      exact absurd hb.1 (by decide)
  · have he := Lib.encode_decode l hne hb
    constructor
    · intro h
      rw [h] at he
      have e : Lib.encodeRune ((46 : Nat) : Int) = [46] := by decide
      rw [e] at he
      match l, hne with
      | b :: t, _ =>
        have h2 := congrArg List.length he
        have hw := Lib.decodeL_width (b :: t)
        rw [List.length_take] at h2
        have hle := Lib.decodeL_le (b :: t) (by simp)
        simp at h2 hle
        refine ⟨by omega, ?_⟩
        have e1 : (Lib.decodeL (b :: t)).2 = 1 := by omega
        rw [e1] at he
        simpa using he.symm
    · intro h hm
      rw [← he] at hm
      have := mem_enc _ (by omega) hm
      omega
theorem At.step {s : ByteArray} {p f : Nat} {pre : List (List UInt8)} (h : At s.data.toList p f pre) (hf : f ≤ p) (hp : p < s.size) :
    ((Utf8.decode s p).1 = 46 → At s.data.toList (p + (Utf8.decode s p).2) (p + 1) (pre ++ [(s.data.toList.take p).drop f]) ∧ pre ++ [(s.data.toList.take p).drop f] <+: pieces s.data.toList ∧ p + (Utf8.decode s p).2 = p + 1) ∧
    ((Utf8.decode s p).1 ≠ 46 → At s.data.toList (p + (Utf8.decode s p).2) f pre) := by
  have hl : s.data.toList.length = s.size := by simp
  have hr := rune_bytes (s.data.toList.drop p) (drop_ne hp)
  rw [Lib.decodeL_drop] at hr
  constructor
  · intro h46
    obtain ⟨h1, h2⟩ := hr.1 h46
    rw [h1]
    have hb : s.data.toList[p]'(by omega) = 46 := by
      rw [List.getElem?_drop, Nat.add_zero, List.getElem?_eq_getElem (by omega)] at h2
      exact Option.some.inj h2
    have := h.cut (by omega) hb
    exact ⟨this.1, this.2, rfl⟩
  · intro h46
    exact h.plain hf _ (by have := (step_le hp).1; omega) (hr.2 h46)

set_option maxRecDepth 100000 in
set_option maxHeartbeats 2000000 in
/-- The iterator of name.between: the pieces of s, in their order. -/
theorem between1_in (F : Fence) (n : Nat) (hF : F.fn 36) (hro : F.round = none) (hn : 1 ≤ n) (l Bn : Nat) (s : ByteArray) (hs : s.size ≤ 1099511627776) (J Jx : List (List UInt8) → World → Prop)
    (hY : ∀ pre x W, J pre W → pre.length < (pieces s.data.toList).length → YieldAt F (n - 1) Try.prog l #[.string (tx x)] W fun e W' =>
      (e = .returned (.bool true) ∧ J (pre ++ [x]) W' ∧ KCW Bn W W') ∨ (e = .returned (.bool false) ∧ Jx (pre ++ [x]) W'))
    (W : World) (hJ : AbidesFrom W.heap.size J) (_hJx : AbidesFrom W.heap.size Jx) (hBn : Bn < W.heap.size) (hc : W.cell? ⟨Bn, 0, none⟩ = some (.string s)) (h0 : J [] W) :
    CallsIn F n Try.prog 36 #[.func (.yield l) #[] #[], .pointer (some ⟨Bn, 0, none⟩)] W fun e W' => (∃ v, e = .returned v) ∧
      ((∃ ys, ys = pieces s.data.toList ∧ J ys W') ∨ (∃ pre, pre <+: pieces s.data.toList ∧ Jx pre W')) := by
  refine callsIn_of_wp Try.func36 rfl hF ?_ hro
  simp only [Try.ntmps36, List.size_toArray, List.length_cons, List.length_nil, Nat.reduceAdd, Nat.reduceSub, Array.replicate_succ, Array.replicate_zero, List.push_toArray, List.append_toArray, List.nil_append, List.cons_append]
  gi_wp2
  gi_loopw [3] (fun fv wr => ∃ (pre : List (List UInt8)) (p f : Nat), fv = .int .i64 f ∧ f ≤ p ∧ p ≤ s.size ∧ At s.data.toList p f pre ∧ wr.heap[W.heap.size]? = some (.stringIter s p) ∧ wr.cell? ⟨Bn, 0, none⟩ = some (.string s) ∧ J pre wr)
    (fun _ wr => s.size - wr.iterPos W.heap.size)
  case atStart =>
    exact ⟨[], 0, 0, rfl, Nat.le_refl _, Nat.zero_le _, At.zero _, World.iter_heap W s 0, (World.cell?_alloc_lt W _ _ hBn).trans hc, hJ [] W _ none h0 (World.grownBy_alloc W _ none) (fun r e => by cases e)⟩
  case round =>
    obtain ⟨pre, p, f, rfl, hf, hp, hat, hit, hcb, hJs⟩ := hrel
    have hlen : s.data.toList.length = s.size := by simp
    have hlt0 : W.heap.size < wr.heap.size := (Array.getElem?_eq_some_iff.1 hit).1
    by_cases hlt : p < s.size
    · have hnx : ∀ ty, (Instr.next (.pointer (some ⟨W.heap.size, 0, none⟩)) true ty).run Try.prog wr = _ := fun ty => run_next_at wr _ s p ty hit hlt
      obtain ⟨hs1, hs2⟩ := hat.step hf hlt
      obtain ⟨hw1, hw2⟩ := step_le hlt
      obtain ⟨W2, hW2⟩ : ∃ W2, wr.putObj W.heap.size (.stringIter s (p + (Utf8.decode s p).2)) = W2 := ⟨_, rfl⟩
      have hg2 : wr.grownBy W2 (some W.heap.size) := by rw [← hW2]; exact grownBy_putObj' _ _ _
      have hit2 : W2.heap[W.heap.size]? = some (.stringIter s (p + (Utf8.decode s p).2)) := by rw [← hW2]; exact World.putObj_heap_same hlt0
      have hcb2 : W2.cell? ⟨Bn, 0, none⟩ = some (.string s) := cell_kept hcb hg2 (fun r e => by cases e; exact ⟨_, hit, rfl⟩)
      have hJ2 : J pre W2 := hJ pre wr W2 _ hJs hg2 (fun r e => by cases e; exact ⟨Nat.le_refl _, _, hit, rfl⟩)
      have hpl := hat.pre
      rw [hW2] at hnx
      have Hit := Lib.hid hit; clear hit
      have Hcb := Lib.hid hcb; clear hcb
      have Hlen := Lib.hid hlen; clear hlen
      by_cases h46 : (Utf8.decode s p).1 = 46
      · have hs1 := hs1 h46
        obtain ⟨hat', hpre, hnext⟩ := hs1
        obtain ⟨fn, tmps, assign, body, hy, hR⟩ := hY pre ((s.data.toList.take p).drop f) W2 hJ2 hpl
        rw [← ext_tx s f p] at hy
        rw [hnext] at hit2 hat'
        rw [h46] at hnx
        have Hat := Lib.hid hat'; clear hat'
        have Hit2 := Lib.hid hit2; clear hit2
        have Hn := Lib.hid hnext; clear hnext
        have H46 := Lib.hid h46; clear h46
        have Hold := Lib.hid hat; clear hat
        have HW2 := Lib.hid hW2; clear hW2
        clear hs2
        gi_wp2
        refine hR.mono ?_
        rintro e W3 (⟨rfl, hJ3, hk3⟩ | ⟨rfl, hJx3⟩)
        · have hcb3 : W3.cell? ⟨Bn, 0, none⟩ = some (.string s) := hk3.cell.trans hcb2
          have hit3 := hk3.walks.same _ _ Hit2.out rfl
          have Hit3 := Lib.hid hit3; clear hit3
          gi_wp2
          go_roundw
          case rel => exact ⟨_, p + 1, p + 1, by go_num, Nat.le_refl _, by omega, Hat.out, Hit3.out, hcb3, hJ3⟩
          case measure => simp [World.iterPos, Hit3.out, Hit.out]; omega
        · gi_wp2
          refine bodyPost_ret (results_none rfl _ _ _) rfl ?_
          exact ⟨⟨_, rfl⟩, .inr ⟨_, hpre, hJx3⟩⟩
      · have hat' := hs2 h46
        have hne : (((Utf8.decode s p).1 : Int) != 46) = true := by
          have : ¬ ((Utf8.decode s p).1 : Int) = 46 := by omega
          simpa using this
        have Hat := Lib.hid hat'; clear hat'
        have Hit2 := Lib.hid hit2; clear hit2
        have Hold := Lib.hid hat; clear hat
        have HW2 := Lib.hid hW2; clear hW2
        have H46 := Lib.hid h46; clear h46
        clear hs1 hs2
        gi_wp2
        go_roundw
        case rel => exact ⟨pre, _, f, rfl, by omega, hw1, Hat.out, Hit2.out, hcb2, hJ2⟩
        case measure => simp [World.iterPos, Hit2.out, Hit.out]; omega
    · have hnx : ∀ ty, (Instr.next (.pointer (some ⟨W.heap.size, 0, none⟩)) true ty).run Try.prog wr = _ := fun ty => run_end_at wr _ s p ty hit hlt
      obtain rfl : p = s.size := by omega
      have hpl := hat.pre
      rw [← hlen] at hat
      have hlast := hat.last
      obtain ⟨fn, tmps, assign, body, hy, hR⟩ := hY pre (s.data.toList.drop f) wr hJs hpl
      have hx : s.extract f s.size = tx (s.data.toList.drop f) := by rw [ext_tx, ← hlen, List.take_length]
      rw [← hx] at hy
      have Hl := Lib.hid hlast; clear hlast
      clear hx hat hpl hit
      gi_wp2
      refine hR.mono ?_
      rintro e W3 (⟨rfl, hJ3, hk3⟩ | ⟨rfl, hJx3⟩)
      · gi_wp2
        go_end0
        exact ⟨⟨_, rfl⟩, .inl ⟨_, Hl.out.symm, hJ3⟩⟩
      · gi_wp2
        go_end0
        exact ⟨⟨_, rfl⟩, .inr ⟨_, by rw [Hl.out]; exact List.prefix_rfl, hJx3⟩⟩

end Go.Proofs.Ytipkimmlbdnbnaa
