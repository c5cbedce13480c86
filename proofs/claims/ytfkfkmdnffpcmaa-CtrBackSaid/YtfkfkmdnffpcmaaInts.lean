/-
  Rows of numbers of one kind: what XBase says of bytes, said of numbers. No program is named here.
-/
import Derived.Test.YtfkfkmdnffpcmaaBase
import Derived.Laws.Cover4
namespace Go.Proofs.Ytfkfkmdnffpcmaa
open Go.RowKit

/-- The values of a row of numbers. -/
def Ris (k : IntKind) (l : List Int) : List Value := l.map fun z => .int k z
section
variable {k : IntKind} {l a b : List Int} {j : Nat}
theorem Ris_length : (Ris k l).length = l.length := by simp [Ris]
theorem Ris_get (h : j < l.length) : (Ris k l)[j]? = some (.int k l[j]) := by simp [Ris, List.getElem?_eq_getElem h]
theorem Ris_append : Ris k (a ++ b) = Ris k a ++ Ris k b := by simp [Ris]
theorem Ris_take : Ris k (l.take j) = (Ris k l).take j := by simp [Ris, List.map_take]
theorem Ris_set {z : Int} : Ris k (l.set j z) = (Ris k l).set j (.int k z) := by simp [Ris, List.map_set]
theorem Ris_one : ∀ u ∈ Ris k l, u.oneCell' = true := by
  intro u hu
  simp only [Ris, List.mem_map] at hu
  obtain ⟨b, _, rfl⟩ := hu
  rfl
end

section
variable {w w' : World} {B n : Nat} {A : Option Addr} {k : IntKind} {l : List Int} {j : Nat}
theorem Rd.ints (h : Rd w B A n (Ris k l)) : l.length = n := by have := h.1; rwa [Ris_length] at this
theorem Rd.int (h : Rd w B A n (Ris k l)) (hj : j < n) (hl : j < l.length) : ∃ b o, A = some ⟨b, o, none⟩ ∧ b < B ∧ w.cell? ⟨b, o + j, none⟩ = some (.int k l[j]) := by
  obtain ⟨b, o, e, hb, u, hu, hc⟩ := h.at_ hj
  rw [Ris_get hl] at hu
  exact ⟨b, o, e, hb, by rw [hc, hu]⟩
theorem Rd.head {xs : List Value} (h : Rd w B A n xs) {m : Nat} (hm : m ≤ n) : Rd w B A m (xs.take m) := by
  refine ⟨by rw [List.length_take, h.1]; omega, fun h0 => ?_⟩
  obtain ⟨b, o, e, hb, hc⟩ := h.2 (by omega)
  refine ⟨b, o, e, hb, fun j u hu => hc j u ?_⟩
  rw [List.getElem?_take] at hu
  split at hu
  · exact hu
  · cases hu
end

/-- What a call ends in that answers a new row of numbers. -/
def NewI (k : IntKind) (e : TypeId) (w : World) (l : List Int) (en : Ending) (w' : World) : Prop :=
  ∃ A c, en = .returned (.slice A l.length c) ∧ w'.ownsRow w.heap.size e 1 (.slice A l.length c) l.length (Ris k l) ∧ Below w.heap.size w w'
/-- .. with two numbers behind it. -/
def NewT (k : IntKind) (e : TypeId) (w : World) (v : List Int × Int × Int) (en : Ending) (w' : World) : Prop :=
  ∃ A c, en = .returned (.tuple #[.slice A v.1.length c, .int .i64 v.2.1, .int .i64 v.2.2]) ∧ w'.ownsRow w.heap.size e 1 (.slice A v.1.length c) v.1.length (Ris k v.1) ∧ Below w.heap.size w w'

theorem ownI_len {w : World} {base : Nat} {e : TypeId} {v : Value} {n : Nat} {k : IntKind} {l : List Int} (h : w.ownsRow base e 1 v n (Ris k l)) : l.length = n := by
  have := h.1; rw [Ris_length] at this; omega
theorem own_nil (w : World) (base : Nat) (e : TypeId) : w.ownsRow base e 1 (.slice none 0 0) 0 [] := ⟨rfl, .inl ⟨rfl, rfl⟩⟩
theorem ownI_put {w : World} {base : Nat} {e : TypeId} {g n c : Nat} {k : IntKind} {l : List Int} (h : w.ownsRow base e 1 (.slice (some ⟨g, 0, none⟩) n c) n (Ris k l)) (j : Nat) (z : Int) :
    (w.setCell ⟨g, j, none⟩ (.int k z)).ownsRow base e 1 (.slice (some ⟨g, 0, none⟩) n c) n (Ris k (l.set j z)) := by
  rw [Ris_set]; exact (h.stored j _).1
theorem ownI_cell {w : World} {base : Nat} {e : TypeId} {g n c : Nat} {k : IntKind} {l : List Int} (h : w.ownsRow base e 1 (.slice (some ⟨g, 0, none⟩) n c) n (Ris k l)) {j : Nat} (hj : j < l.length) : w.cell? ⟨g, j, none⟩ = some (.int k l[j]) := by
  have hl := ownI_len h
  rw [h.cellAt j (by omega), Ris_get hj]
theorem own_some {w : World} {base : Nat} {e : TypeId} {A : Option Addr} {n c : Nat} {xs : List Value} (h : w.ownsRow base e 1 (.slice A n c) n xs) (hn : 0 < n) : ∃ g, A = some ⟨g, 0, none⟩ ∧ base ≤ g ∧ g < w.heap.size := by
  rcases h.2 with ⟨_, h0⟩ | ⟨g, cap, cur, hv, hg, hh, _⟩
  · omega
  · injection hv with hv
    exact ⟨g, hv, hg, (Array.getElem?_eq_some_iff.1 hh).1⟩

/-- A row of runes made a text. -/
theorem Rd.runes {P : Program} {w : World} {B n c : Nat} {A : Option Addr} {l : List Int} (h : Rd w B A n (Ris .i32 l)) (src dst e : TypeId)
    (hs : P.underlying src = some (.slice e)) (he : P.underlying e = some (.int .i32)) (hd : P.underlying dst = some .string) :
    (convert src dst (.slice A n c)).run P w = .ok (.string (runesBytes l)) w := by
  have hl := h.ints
  subst hl
  rcases A with _ | a
  · have h0 : l = [] := by
      rcases Nat.eq_zero_or_pos l.length with h0 | h0
      · exact List.eq_nil_of_length_eq_zero h0
      · obtain ⟨_, _, e, _⟩ := h.2 h0; cases e
    subst h0
    exact run_convert_runes_nil w src dst e _ _ hs he hd
  · have := run_convert_runes w src dst e a l.length c l (Nat.le_refl _) hs he hd (fun j hj => by
      obtain ⟨b, o, ea, _, hc⟩ := h.int hj hj
      injection ea with ea
      subst ea
      rw [add_flat, hc, List.getD, List.getElem?_eq_getElem hj]
      rfl)
    rwa [List.take_length] at this

/-- A block laid at once reads as its cells. -/
theorem Rd.new (w : World) (e : TypeId) (cs : Array Value) {n : Nat} (hn : n = cs.size) : Rd (w.alloc (.cells cs e)) (w.heap.size + 1) (some ⟨w.heap.size, 0, none⟩) n cs.toList := by
  subst hn
  refine ⟨by simp, fun _ => ⟨w.heap.size, 0, rfl, by omega, fun j u hj => ?_⟩⟩
  rw [Nat.zero_add, cell_of_row (w.alloc (.cells cs e)) w.heap.size j cs e (0, 0) (heap_alloc_new w _)]
  simpa using hj

/-- What is read stands behind what is owned: 'append(row, other...)', in a region that keeps the text's order. -/
theorem wp_append_rd {P : Program} {ops : Array Oper} {rest : List Oper} {o : Oper} {a : Act} {w : World} {Q : Exit → Act → World → Prop} (hgd : o.guard = none) (s x : Operand) (t : TypeId)
    (ho : o.op = .call { callee := .builtin .append, args := #[s, x], argTypes := #[t, t] }) (e : TypeId) (ht : P.underlying t = some (.slice e)) (z : Value) (by_ : Nat) (hby : by_ ≤ 8) (hz1 : z.cells.size = 1)
    (hinfo : (P.info? e).map (fun i => (i.zero, i.size, i.bytes)) = some (some z, 1, by_))
    (base n c : Nat) (A : Option Addr) (xs : List Value) (hs : a.eval s = .slice A n c) (hown : w.ownsRow base e 1 (.slice A n c) n xs)
    (B m c2 : Nat) (A2 : Option Addr) (news : List Value) (hx : a.eval x = .slice A2 m c2) (hr : Rd w B A2 m news) (hone : ∀ u ∈ news, u.oneCell' = true)
    (hm : 0 < m) (hn : n + m ≤ 17592186044416) (hbase : base ≤ w.heap.size) (w0 : World) (B0 : Nat) (hb : Below B0 w0 w) (hB0 : B0 ≤ base)
    (h : ∀ A' c' w', w'.ownsRow base e 1 (.slice A' (n + m) c') (n + m) (xs ++ news) → Below B0 w0 w' → wpList P ops Q rest (a.put o.dst (.slice A' (n + m) c')) w') :
    wpList P ops Q (o :: rest) a w := by
  obtain ⟨i0, hi, hi0, hi1, hi2⟩ := info_parts hinfo
  have hmul : (n + m) * by_ ≤ (n + m) * 8 := Nat.mul_le_mul_left _ hby
  obtain ⟨b, o2, rfl, _, hc⟩ := hr.2 hm
  refine wpList_append_lies w hgd s x t ho base e i0 z 1 by_ ht hi hi0 hi1 hi2 hz1 (by omega) _ n xs hs hown ⟨b, o2, none⟩ m c2 news hx (by rw [hr.1]; omega) ?_ hone hm (by unfold maxLen; omega) (by omega) hbase w.heap.size rfl ?_
  · intro j u hj
    rw [add_flat]
    exact hc j u hj
  · intro g cap w' hown' hg _ _
    refine h _ _ w' hown' (hb.grown hg (by omega) ?_)
    intro k hk
    have := (hown.lt k hk).1
    omega

/-- One number more, in a region that draws its order: it stands in a new block of its own. -/
theorem step_append_int {P : Program} {ops : Array Oper} {o : Oper} {a : Act} {w : World} {K : Act → World → Prop} {Q : Exit → Act → World → Prop} {E : Prop} (hgd : o.guard = none) (s x : Operand) (t : TypeId)
    (ho : o.op = .call { callee := .builtin .append, args := #[s, x], argTypes := #[t, t] }) (e : TypeId) (ht : P.underlying t = some (.slice e)) (k : IntKind) (by_ : Nat) (hby : by_ ≤ 8)
    (hinfo : (P.info? e).map (fun i => (i.zero, i.size, i.bytes)) = some (some (.int k 0), 1, by_))
    (base n c g1 : Nat) (A : Option Addr) (l : List Int) (hs : a.eval s = .slice A n c) (hx : a.eval x = .slice (some ⟨g1, 0, none⟩) 1 1)
    (hown : w.ownsRow base e 1 (.slice A n c) n (Ris k l)) (z : Int) (hcell : w.cell? ⟨g1, 0, none⟩ = some (.int k z))
    (hn : n + 1 ≤ 17592186044416) (hbase : base ≤ w.heap.size) (w0 : World) (B0 : Nat) (hb : Below B0 w0 w) (hB0 : B0 ≤ base)
    (h : ∀ A' c' w', w'.ownsRow base e 1 (.slice A' (n + 1) c') (n + 1) (Ris k (l ++ [z])) → Below B0 w0 w' → K (a.put o.dst (.slice A' (n + 1) c')) w') :
    if Region.wanted o (yielded ops a.tmps) = true then Oper.wp P o a w K Q else E := by
  obtain ⟨i0, hi, hz0, hz1, hz2⟩ := info_parts hinfo
  have hmul : (n + 1) * by_ ≤ (n + 1) * 8 := Nat.mul_le_mul_left _ hby
  refine step_append_lies w hgd s x t ho base e i0 (.int k 0) 1 by_ ht hi hz0 hz1 hz2 rfl (by omega) _ n (Ris k l) hs hown ⟨g1, 0, none⟩ 1 1 (Ris k [z]) hx rfl ?_ Ris_one (by omega) (by unfold maxLen; omega) (by omega) hbase w.heap.size rfl ?_
  · intro j u hj
    match j, hj with
    | 0, hj =>
      simp [Ris] at hj
      subst hj
      rw [add_flat, hcell]
    | j + 1, hj => simp [Ris] at hj
  · intro g cap w' hown' hg _ _
    rw [← Ris_append] at hown'
    refine h _ _ w' hown' (hb.grown hg (by omega) ?_)
    intro k hk
    have := (hown.lt k hk).1
    omega

end Go.Proofs.Ytfkfkmdnffpcmaa
