/-
  A slice of fields that came in. No program is named here.
-/
import Derived.Test.YtfkfkmdnffpcmaaRow
import Derived.Test.YtfkfkmdnffpcmaaFlds
import Derived.Deep.Slices
namespace Go.Proofs.Ytfkfkmdnffpcmaa
open Go.ChangeShapes Go.WideShapes Go.ChangeAt Go.RowKit

section
variable {H : Type} {enc : TypeId × Value → H} {P : Program} {w : World} {base : Nat} {held : Bool}

/-- A slice of bytes in a cell. -/
theorem bytes_cell {t e : TypeId} (ht : P.underlying t = some (.slice e)) (he : P.underlying e = some (.int .u8)) (hc : P.cellsOf e = 1)
    {fuel : Nat} {v : Value} {x : DataW H × List MemPlace} (hf : DataW.trod enc P w base (fun _ => true) held fuel t [v] = some x) (hlt : ∀ p ∈ x.2, p.block < w.heap.size) :
    ∃ A n c bs, v = .slice A n c ∧ SlOK A n c ∧ Rd w w.heap.size A n (Byt bs) := by
  rcases open_ints ht he hc hf with ⟨hcs, _⟩ | ⟨a, n, c, zs, hcs, _, hl, hm, hz, hx, hcell, hwz⟩
  · simp at hcs
    subst hcs
    exact ⟨none, 0, 0, [], rfl, .nil, Rd.nil⟩
  · simp at hcs
    subst hcs
    obtain ⟨x1, x2⟩ := x
    simp only [Prod.mk.injEq] at hx
    obtain ⟨-, rfl⟩ := hx
    simp only [if_true] at hz
    have hby : ∀ i (hi : i < zs.length), zs[i] = ((UInt8.ofNat zs[i].toNat).toNat : Int) := by
      intro i hi
      have h := hwz zs[i] (List.getElem_mem hi)
      simp only [Lit.wf, Bool.and_eq_true, decide_eq_true_eq] at h
      have h1 : IntKind.u8.min = 0 := rfl
      have h2 : IntKind.u8.max = 255 := rfl
      rw [UInt8.toNat_ofNat']
      omega
    rcases Nat.eq_zero_or_pos c with h0 | h0
    · subst h0
      obtain rfl : n = 0 := by omega
      exact ⟨_, 0, 0, [], rfl, .inr ⟨a, rfl, by omega, Nat.zero_le _⟩, ⟨rfl, fun h => by omega⟩⟩
    · have hlen : ((zs.take n).map fun z => UInt8.ofNat z.toNat).length = n := by simp; omega
      obtain ⟨b, o, sp⟩ := a
      have hsp : sp = none := by simpa [Addr.add] using World.cell?_spot (hcell 0 (by omega))
      subst hsp
      refine ⟨some ⟨b, o, none⟩, n, c, (zs.take n).map (fun z => UInt8.ofNat z.toNat), rfl, .inr ⟨_, rfl, hl, hm⟩, by rw [Byt_length]; exact hlen, fun hn => ?_⟩
      refine ⟨b, o, rfl, hlt (.cell b o) (MemPlace.mem_row.2 ⟨0, by omega, by simp⟩), fun j u hj => ?_⟩
      have hj' : j < ((zs.take n).map fun z => UInt8.ofNat z.toNat).length := by
        have := (List.getElem?_eq_some_iff.1 hj).1
        rwa [Byt_length] at this
      rw [Byt_get hj'] at hj
      injection hj with hj
      rw [← hj, ← add_flat, hcell j (by omega)]
      simp only [List.getElem_map, List.getElem_take]
      rw [← hby j (by omega)]
      simp [List.getD, List.getElem?_eq_getElem (show j < zs.length by omega)]

/-- A slice of bytes that came in, with what it may look like. -/
theorem open_bytesk {t e : TypeId} (ht : P.underlying t = some (.slice e)) (he : P.underlying e = some (.int .u8)) (hc : P.cellsOf e = 1)
    {r : Reach} {b0 : Nat} {v : Value} {d : DataW H} {ps : List MemPlace} (hval : Value.okWide P w r b0 t v) (hd : DataW.Trod enc P w base (fun _ => true) held t v d ps) (hlt : ∀ x ∈ ps, x.block < w.heap.size) :
    ∃ A n c bs, v = .slice A n c ∧ SlOK A n c ∧ Rd w w.heap.size A n (Byt bs) := by
  obtain ⟨A, n, c, rfl⟩ := okWide_slice ht hval
  obtain ⟨fuel, hf⟩ := hd
  exact bytes_cell ht he hc hf hlt

theorem take1 {v0 v1 v2 v3 : Value} : ([v0, v1, v2, v3].drop 0).take 1 = [v0] ∧ ([v0, v1, v2, v3].drop 1).take 1 = [v1] ∧ ([v0, v1, v2, v3].drop 2).take 1 = [v2] ∧ ([v0, v1, v2, v3].drop 3).take 1 = [v3] := ⟨rfl, rfl, rfl, rfl⟩

/-- A field in four cells. -/
theorem fld_cells {t ti tn tb te : TypeId} {f0 f1 f2 f3 : Field} (ht : P.underlying t = some (.struct #[f0, f1, f2, f3])) (o0 : f0.offset = 0 ∧ f0.type = ti) (o1 : f1.offset = 1 ∧ f1.type = ti) (o2 : f2.offset = 2 ∧ f2.type = tn) (o3 : f3.offset = 3 ∧ f3.type = tb)
    (hi : P.underlying ti = some (.int .i64)) (hn : P.underlying tn = some (.int .u64)) (hb : P.underlying tb = some (.slice te)) (he : P.underlying te = some (.int .u8)) (ce : P.cellsOf te = 1) (ci : P.cellsOf ti = 1) (cn : P.cellsOf tn = 1) (cb : P.cellsOf tb = 1) (ct : P.cellsOf t = 4)
    {fuel : Nat} {cs : List Value} {x : DataW H × List MemPlace} (h : DataW.trod enc P w base (fun _ => true) held fuel t cs = some x) (hlt : ∀ p ∈ x.2, p.block < w.heap.size) :
    ∃ f : Fld, FldOK w w.heap.size f ∧ cs = [.int .i64 f.kind, .int .i64 f.size, .int .u64 (f.num : Int), .slice f.A f.m f.c] := by
  obtain ⟨xs, n, _, hx, hl, hxl, hfs⟩ := DataW.trod_struct ht h
  rw [ct] at hl
  match cs, hl with
  | [v0, v1, v2, v3], _ =>
    obtain ⟨t0, t1, t2, t3⟩ := @take1 v0 v1 v2 v3
    have g0 := hfs 0 f0 rfl
    have g1 := hfs 1 f1 rfl
    have g2 := hfs 2 f2 rfl
    have g3 := hfs 3 f3 rfl
    rw [o0.1, o0.2, ci, t0] at g0
    rw [o1.1, o1.2, ci, t1] at g1
    rw [o2.1, o2.2, cn, t2] at g2
    rw [o3.1, o3.2, cb, t3] at g3
    have hxl4 : xs.length = 4 := hxl
    match xs, hxl4 with
    | [x0, x1, x2, x3], _ =>
      simp at g0 g1 g2 g3
      obtain ⟨z0, e0, _, w0⟩ := DataW.trod_int hi g0
      obtain ⟨z1, e1, _, w1⟩ := DataW.trod_int hi g1
      obtain ⟨z2, e2, _, w2⟩ := DataW.trod_int hn g2
      obtain ⟨A, m, c, bs, e3, hok, hrd⟩ := bytes_cell hb he ce g3 (fun p hp => hlt p (by rw [hx]; simp [hp]))
      obtain ⟨k, rfl, hk⟩ := wf_u64 w2
      injection e0 with e0 _
      injection e1 with e1 _
      injection e2 with e2 _
      subst e0 e1 e2 e3
      exact ⟨⟨z0, z1, k, A, m, c, bs⟩, ⟨wf_int w0, wf_int w1, hk, hok, hrd⟩, rfl⟩

/-- A slice of fields that came in. -/
theorem open_flds {t e ti tn tb te : TypeId} {f0 f1 f2 f3 : Field} (hs : P.underlying t = some (.slice e)) (ht : P.underlying e = some (.struct #[f0, f1, f2, f3])) (o0 : f0.offset = 0 ∧ f0.type = ti) (o1 : f1.offset = 1 ∧ f1.type = ti) (o2 : f2.offset = 2 ∧ f2.type = tn) (o3 : f3.offset = 3 ∧ f3.type = tb)
    (hi : P.underlying ti = some (.int .i64)) (hn : P.underlying tn = some (.int .u64)) (hb : P.underlying tb = some (.slice te)) (he : P.underlying te = some (.int .u8)) (ce : P.cellsOf te = 1) (ci : P.cellsOf ti = 1) (cn : P.cellsOf tn = 1) (cb : P.cellsOf tb = 1) (ct : P.cellsOf e = 4)
    {r : Reach} {b0 : Nat} {v : Value} {d : DataW H} {ps : List MemPlace} (hval : Value.okWide P w r b0 t v) (hd : DataW.Trod enc P w base (fun _ => true) held t v d ps) (hlt : ∀ x ∈ ps, x.block < w.heap.size) :
    ∃ A n c fs, v = .slice A n c ∧ n ≤ maxLen ∧ Flds w w.heap.size A n fs := by
  obtain ⟨A, n, c, rfl⟩ := okWide_slice hs hval
  obtain ⟨fuel, hf⟩ := hd
  rcases Go.Deep.open_slice hs hf with ⟨hcs, _⟩ | ⟨a, n', c', m, q, D, Pl, hcs, _, hl, hm, hmm, hx, hel⟩
  · simp [Value.cells] at hcs
    obtain ⟨rfl, rfl, rfl⟩ := hcs
    exact ⟨none, 0, 0, [], rfl, Nat.zero_le _, rfl, (fun f hf => by cases hf), (fun h => by omega)⟩
  · simp [Value.cells] at hcs
    obtain ⟨rfl, rfl, rfl⟩ := hcs
    simp only [if_true] at hmm
    subst hmm
    simp only [Prod.mk.injEq] at hx
    obtain ⟨-, rfl⟩ := hx
    rw [ct] at hel
    have each : ∀ i, i < n → ∃ f : Fld, FldOK w w.heap.size f ∧ w.cells? base (a.add (i * 4)) 4 = some [.int .i64 f.kind, .int .i64 f.size, .int .u64 (f.num : Int), .slice f.A f.m f.c] := by
      intro i hi'
      obtain ⟨cs, h1, h2⟩ := hel i (by omega)
      obtain ⟨f, hok, rfl⟩ := fld_cells ht o0 o1 o2 o3 hi hn hb he ce ci cn cb ct h2 (fun p hp => hlt p (List.mem_append.2 (.inr (List.mem_flatMap.2 ⟨i, List.mem_range.2 (by omega), hp⟩))))
      exact ⟨f, hok, h1⟩
    obtain ⟨G, hG⟩ := Go.Deep.choose_lt (α := Fld) (p := fun i f => FldOK w w.heap.size f ∧ w.cells? base (a.add (i * 4)) 4 = some [.int .i64 f.kind, .int .i64 f.size, .int .u64 (f.num : Int), .slice f.A f.m f.c]) each
    refine ⟨some a, n, _, (List.range n).map G, rfl, by omega, by simp, fun f hf => ?_, fun h0 => ?_⟩
    · obtain ⟨i, hi', rfl⟩ := List.mem_map.1 hf
      exact (hG i (List.mem_range.1 hi')).1
    · obtain ⟨b, o, sp⟩ := a
      have hsp : sp = none := by
        have := World.cells?_some (hG 0 h0).2
        have h1 := this.2.2 0 (by omega)
        simpa [Addr.add] using World.cell?_spot h1
      subst hsp
      refine ⟨b, o, rfl, hlt (.cell b o) (List.mem_append.2 (.inl (MemPlace.mem_row.2 ⟨0, by rw [ct]; omega, by simp⟩))), fun j hj => ?_⟩
      have hj' : j < n := by simpa using hj
      have hc := (World.cells?_some (hG j hj').2).2.2
      simp only [add_flat] at hc
      have e : ((List.range n).map G)[j] = G j := by simp
      rw [e]
      exact ⟨hc 0 (by omega), hc 1 (by omega), hc 2 (by omega), hc 3 (by omega)⟩
end

end Go.Proofs.Ytfkfkmdnffpcmaa
