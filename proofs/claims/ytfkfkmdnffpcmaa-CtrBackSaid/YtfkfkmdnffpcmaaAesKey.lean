import Derived.Test.YtfkfkmdnffpcmaaAesMem
namespace Go.Proofs.Ytfkfkmdnffpcmaa
open Go.RowKit

/-- A type that is an array of arrays of numbers: n cells in all. -/
structure ArrW (P : Program) (t e : TypeId) (m n : Nat) : Prop where
  under : P.underlying t = some (.array m e)
  size : (P.info? t).map (·.size) = some n

section
variable {P : Program} {ops : Array Oper} {rest : List Oper} {o : Oper} {a : Act} {w : World} {Q : Exit → Act → World → Prop} {t e : TypeId} {k : IntKind} {l : List Nat} {b m n : Nat}
theorem wp_load_w (T : ArrW P t e m n) (hgd : o.guard = none) (x : Operand) (ho : o.op = .load t x) (hx : a.eval x = .pointer (some ⟨b, 0, none⟩)) {tb : TypeId} (h : Arr w b tb k l) (hl : l.length = n)
    (hK : wpList P ops Q rest (a.put o.dst (.agg (Nums k l))) w) : wpList P ops Q (o :: rest) a w :=
  wpList_load_row hgd t x ho b hx tb (Nums k l) (0, 0) (.array m e) h T.under rfl (by rw [Nums_size, hl]; exact T.size) hK
theorem wp_put_w {l' : List Nat} (T : ArrW P t e m n) (hgd : o.guard = none) (x y : Operand) (ho : o.op = .store t x y) (hx : a.eval x = .pointer (some ⟨b, 0, none⟩)) (hy : a.eval y = .agg (Nums k l')) {tb : TypeId} (h : Arr w b tb k l) (hl : l.length = n) (hl' : l'.length = n)
    (hK : ∀ w', Hid (Arr w' b tb k l') → Hid (Moves (fun j => j = b) w w') → Hid (w'.heap.size = w.heap.size) → wpList P ops Q rest (a.put o.dst undef) w') : wpList P ops Q (o :: rest) a w :=
  wpList_store_row hgd t x y ho b (Nums k l') hx hy tb (Nums k l) h (by rw [Nums_size, hl']; exact T.size) (by rw [Nums_size, Nums_size, hl, hl']) (Nums_one _ _)
    (hK _ (Lib.hid (h.store_moves l').1) (Lib.hid (h.store_moves l').2.1) (Lib.hid (h.store_moves l').2.2))
/-- A part of an array is read. -/
theorem wp_load_part {ns : List Nat} {d : TypeDesc} (hu : P.underlying t = some d) (hd : d.isRow = true) (hi : (P.info? t).map (·.size) = some n) (hgd : o.guard = none) (x : Operand) (ho : o.op = .load t x) (off : Nat) (hx : a.eval x = .pointer (some ⟨b, off, none⟩)) {tb : TypeId} (h : Arr w b tb k l) (hn : ns.length = n)
    (hns : ∀ j x : Nat, ns[j]? = some x → l[off + j]? = some x) (hK : wpList P ops Q rest (a.put o.dst (.agg (Nums k ns))) w) : wpList P ops Q (o :: rest) a w :=
  wpList_load_mid hgd t x ho b off hx (ns.map fun (n : Nat) => Value.int k (n : Int)) d (h.range hns) hu hd (by rw [List.length_map, hn]; exact hi) hK
theorem run_indexAt_w (T : ArrW P t e m n) {s : Nat} (hs : (P.info? e).map (·.size) = some s) (i j : Nat) (z : Int) (hz : z = (i : Int)) (hi : i < m) (hj : i * s = j) (W : World) :
    (Instr.indexAt t (.pointer (some ⟨b, 0, none⟩)) (.int .i64 z)).run P W = .ok (.pointer (some ⟨b, j, none⟩)) W := by
  subst hz hj
  have hs : (sizeOf e).run P W = .ok s W := by
    cases hq : P.info? e with
    | none => simp [hq] at hs
    | some i =>
      have : i.size = s := by simpa [hq] using hs
      simp [sizeOf, typeInfo, hq, this]
  simp [Instr.indexAt, Instr.sureAddr, asIntOf, run_underlying T.under, hs, hi, add_flat, Sem.run_bind]
theorem run_slice_w (T : ArrW P t e m n) {s : Nat} (hs : (P.info? e).map (·.size) = some s) (lo hi j len cap : Nat) (h1 : lo ≤ hi) (h2 : hi ≤ m) (h3 : lo < m) (hj : lo * s = j) (hl : hi - lo = len) (hc : m - lo = cap) (W : World) :
    (Instr.sliceAt t (.pointer (some ⟨b, 0, none⟩)) (some (.int .i64 (lo : Int))) (some (.int .i64 (hi : Int))) none).run P W = .ok (.slice (some ⟨b, j, none⟩) len cap) W := by
  subst hj hl hc
  have hs : (sizeOf e).run P W = .ok s W := by
    cases hq : P.info? e with
    | none => simp [hq] at hs
    | some i =>
      have : i.size = s := by simpa [hq] using hs
      simp [sizeOf, typeInfo, hq, this]
  have hne : m ≠ lo := by omega
  simp [Instr.sliceAt, Instr.sureAddr, run_underlying T.under, Instr.sliceBounds, run_sliceBound, hs, h1, h2, hne, add_flat, Sem.run_bind]
theorem run_indexAt_row (hu : P.underlying t = some (.slice e)) {s : Nat} (hs : (P.info? e).map (·.size) = some s) (off len cap i j : Nat) (z : Int) (hz : z = (i : Int)) (hi : i < len) (hj : off + i * s = j) (W : World) :
    (Instr.indexAt t (.slice (some ⟨b, off, none⟩) len cap) (.int .i64 z)).run P W = .ok (.pointer (some ⟨b, j, none⟩)) W := by
  subst hz hj
  have hs : (sizeOf e).run P W = .ok s W := by
    cases hq : P.info? e with
    | none => simp [hq] at hs
    | some i =>
      have : i.size = s := by simpa [hq] using hs
      simp [sizeOf, typeInfo, hq, this]
  simp [Instr.indexAt, asIntOf, run_underlying hu, hs, hi, add_flat, Sem.run_bind]
end

/-- The arrays that stand there, and what was there ahead. -/
def SK (w : World) (L : List (Nat × TypeId × List Nat)) (w' : World) : Prop := (∀ x ∈ L, Arr w' x.1 x.2.1 .u8 x.2.2) ∧ Below w.heap.size w w'
section
variable {w w' w2 : World} {L M : List (Nat × TypeId × List Nat)} {g : Nat} {t : TypeId} {l l' : List Nat}
theorem sk_drewN (h : SK w L w') (n : Nat) : SK w L (w'.drewN n) := ⟨h.1, bdrewN h.2 n⟩
theorem sk_below (h : SK w L w') (hb : Below w'.heap.size w' w2) : SK w L w2 := ⟨fun x hx => (h.1 x hx).below hb (h.1 x hx).lt, abon h.2 hb⟩
theorem sk_cons (h : SK w L w') (hA : Arr w' g t .u8 l) : SK w ((g, t, l) :: L) w' := ⟨fun x hx => by
  rcases List.mem_cons.1 hx with rfl | hx
  · exact hA
  · exact h.1 x hx, h.2⟩
theorem sk_put (h : SK w ((g, t, l) :: L) w') (hm : Moves (fun j => j = g) w' w2) (hA : Arr w2 g t .u8 l') (hne : ∀ x ∈ L, x.1 ≠ g) (hg : w.heap.size ≤ g) : SK w ((g, t, l') :: L) w2 :=
  ⟨fun x hx => by
    rcases List.mem_cons.1 hx with rfl | hx
    · exact hA
    · exact (h.1 x (List.mem_cons_of_mem _ hx)).moves hm (hne x hx), h.2.trans (hm.below (fun j hj => by rw [hj]; exact hg) h.2.size)⟩
theorem sk_keep (h : SK w L w') (hm : Moves (fun j => j = g) w' w2) (hne : ∀ x ∈ L, x.1 ≠ g) (hg : w.heap.size ≤ g) : SK w L w2 :=
  ⟨fun x hx => (h.1 x hx).moves hm (hne x hx), h.2.trans (hm.below (fun j hj => by rw [hj]; exact hg) h.2.size)⟩
theorem sk_sub (h : SK w L w') (hs : ∀ x ∈ M, x ∈ L) : SK w M w' := ⟨fun x hx => h.1 x (hs x hx), h.2⟩
theorem sk_hd (h : SK w ((g, t, l) :: L) w') : Arr w' g t .u8 l := h.1 _ (List.mem_cons_self ..)
theorem sk_set (h : SK w ((g, t, l) :: L) w') (hne : ∀ x ∈ L, x.1 ≠ g) (hg : w.heap.size ≤ g) (j x : Nat) : SK w ((g, t, l.set j x) :: L) (w'.setCell ⟨g, j, none⟩ (.int .u8 (x : Int))) :=
  ⟨fun y hy => by
    rcases List.mem_cons.1 hy with rfl | hy
    · exact (sk_hd h).set
    · exact (h.1 y (List.mem_cons_of_mem _ hy)).other (hne y hy), h.2.setCell hg _⟩
end

theorem akeyAt_get {k : List UInt8} {i : Nat} : ∀ j x : Nat, (abn (akeyAt k i))[j]? = some x → (abn k)[16 * i + j]? = some x := by
  intro j x h
  unfold abn akeyAt at h
  rw [List.map_take, List.map_drop, List.getElem?_take] at h
  split at h
  · rw [List.getElem?_drop] at h
    exact h
  · cases h

theorem arrKeys : ArrW Try.prog 47 23 15 240 := ⟨by kernel_rfl, by kernel_rfl⟩
theorem arrKeysR : ArrW Try.prog 40 23 15 240 := ⟨by kernel_rfl, by kernel_rfl⟩
theorem info_16 : (Try.prog.info? 23).map (·.size) = some 16 := by kernel_rfl

end Go.Proofs.Ytfkfkmdnffpcmaa
