/-
  Rows of texts: what XBase says of bytes, said of strings. No program is named here.
-/
import Derived.Test.YtpnifmghbfajiaaDoorInts
namespace Go.Proofs.YtpnifmghbfajiaaDoor
open Go.RowKit

/-- A text of bytes. -/
def tx (l : List UInt8) : ByteArray := ⟨l.toArray⟩
theorem tx_list (l : List UInt8) : (tx l).data.toList = l := rfl
theorem tx_of (s : ByteArray) : tx s.data.toList = s := rfl
theorem tx_size (l : List UInt8) : (tx l).size = l.length := by simp [tx, ByteArray.size]
theorem ext_tx (s : ByteArray) (a b : Nat) : s.extract a b = tx ((s.data.toList.take b).drop a) := by
  have h : (s.extract a b).data.toList = (s.data.toList.take b).drop a := by
    rw [ByteArray.data_extract, Array.toList_extract, List.extract_eq_take_drop, List.drop_take]
  rw [← h]; rfl
theorem app_tx (s t : ByteArray) : s ++ t = tx (s.data.toList ++ t.data.toList) := by
  have h : (s ++ t).data.toList = s.data.toList ++ t.data.toList := by rw [ByteArray.data_append, Array.toList_append]
  rw [← h]; rfl

/-- The values of a row of texts. -/
def Sts (ps : List (List UInt8)) : List Value := ps.map fun p => .string (tx p)
section
variable {l a b : List (List UInt8)} {j : Nat}
theorem Sts_length : (Sts l).length = l.length := by simp [Sts]
theorem Sts_get (h : j < l.length) : (Sts l)[j]? = some (.string (tx l[j])) := by simp [Sts, List.getElem?_eq_getElem h]
theorem Sts_append : Sts (a ++ b) = Sts a ++ Sts b := by simp [Sts]
theorem Sts_take : Sts (l.take j) = (Sts l).take j := by simp [Sts, List.map_take]
theorem Sts_set {z : List UInt8} : Sts (l.set j z) = (Sts l).set j (.string (tx z)) := by simp [Sts, List.map_set]
theorem Sts_one : ∀ u ∈ Sts l, u.oneCell' = true := by
  intro u hu
  simp only [Sts, List.mem_map] at hu
  obtain ⟨b, _, rfl⟩ := hu
  rfl
end
section
variable {w w' : World} {B n : Nat} {A : Option Addr} {l : List (List UInt8)} {j : Nat}
theorem Rd.strs (h : Rd w B A n (Sts l)) : l.length = n := by have := h.1; rwa [Sts_length] at this
theorem Rd.str (h : Rd w B A n (Sts l)) (hj : j < n) (hl : j < l.length) : ∃ b o, A = some ⟨b, o, none⟩ ∧ b < B ∧ w.cell? ⟨b, o + j, none⟩ = some (.string (tx l[j])) := by
  obtain ⟨b, o, e, hb, u, hu, hc⟩ := h.at_ hj
  rw [Sts_get hl] at hu
  exact ⟨b, o, e, hb, by rw [hc, hu]⟩
end
theorem ownS_len {w : World} {base : Nat} {e : TypeId} {v : Value} {n : Nat} {l : List (List UInt8)} (h : w.ownsRow base e 1 v n (Sts l)) : l.length = n := by
  have := h.1; rw [Sts_length] at this; omega
theorem ownS_cell {w : World} {base : Nat} {e : TypeId} {g n c : Nat} {l : List (List UInt8)} (h : w.ownsRow base e 1 (.slice (some ⟨g, 0, none⟩) n c) n (Sts l)) {j : Nat} (hj : j < l.length) : w.cell? ⟨g, j, none⟩ = some (.string (tx l[j])) := by
  have hl := ownS_len h
  rw [h.cellAt j (by omega), Sts_get hj]
theorem ownS_put {w : World} {base : Nat} {e : TypeId} {g n c : Nat} {l : List (List UInt8)} (h : w.ownsRow base e 1 (.slice (some ⟨g, 0, none⟩) n c) n (Sts l)) (j : Nat) (z : List UInt8) :
    (w.setCell ⟨g, j, none⟩ (.string (tx z))).ownsRow base e 1 (.slice (some ⟨g, 0, none⟩) n c) n (Sts (l.set j z)) := by
  rw [Sts_set]; exact (h.stored j _).1

theorem cell_new1 (w : World) (v : Value) (t : TypeId) : (w.alloc (.cells #[v] t)).cell? ⟨w.heap.size, 0, none⟩ = some v := cell_of_row (w.alloc (.cells #[v] t)) w.heap.size 0 #[v] t (0, 0) (heap_alloc_new w _)

/-- What a call ends in that answers a new row of texts. -/
def NewS (e : TypeId) (w : World) (l : List (List UInt8)) (en : Ending) (w' : World) : Prop :=
  ∃ A c, en = .returned (.slice A l.length c) ∧ w'.ownsRow w.heap.size e 1 (.slice A l.length c) l.length (Sts l) ∧ Below w.heap.size w w'

/-- What is read stands behind what is owned, for elements of up to 16 bytes, in a region that keeps the text's order. -/
theorem wp_append_wide {P : Program} {ops : Array Oper} {rest : List Oper} {o : Oper} {a : Act} {w : World} {Q : Exit → Act → World → Prop} (hgd : o.guard = none) (s x : Operand) (t : TypeId)
    (ho : o.op = .call { callee := .builtin .append, args := #[s, x], argTypes := #[t, t] }) (e : TypeId) (ht : P.underlying t = some (.slice e)) (z : Value) (by_ : Nat) (hby : by_ ≤ 16) (hz1 : z.cells.size = 1)
    (hinfo : (P.info? e).map (fun i => (i.zero, i.size, i.bytes)) = some (some z, 1, by_))
    (base n c : Nat) (A : Option Addr) (xs : List Value) (hs : a.eval s = .slice A n c) (hown : w.ownsRow base e 1 (.slice A n c) n xs)
    (B m c2 : Nat) (A2 : Option Addr) (news : List Value) (hx : a.eval x = .slice A2 m c2) (hr : Rd w B A2 m news) (hone : ∀ u ∈ news, u.oneCell' = true)
    (hm : 0 < m) (hn : n + m ≤ 8796093022208) (hbase : base ≤ w.heap.size) (w0 : World) (B0 : Nat) (hb : Below B0 w0 w) (hB0 : B0 ≤ base)
    (h : ∀ A' c' w', w'.ownsRow base e 1 (.slice A' (n + m) c') (n + m) (xs ++ news) → Below B0 w0 w' → wpList P ops Q rest (a.put o.dst (.slice A' (n + m) c')) w') :
    wpList P ops Q (o :: rest) a w := by
  obtain ⟨i0, hi, hi0, hi1, hi2⟩ := info_parts hinfo
  have hmul : (n + m) * by_ ≤ (n + m) * 16 := Nat.mul_le_mul_left _ hby
  obtain ⟨b, o2, rfl, _, hc⟩ := hr.2 hm
  refine wpList_append_lies w hgd s x t ho base e i0 z 1 by_ ht hi hi0 hi1 hi2 hz1 (by omega) _ n xs hs hown ⟨b, o2, none⟩ m c2 news hx (by rw [hr.1]; omega) ?_ hone hm (by unfold maxLen; omega) (by omega) hbase w.heap.size rfl ?_
  · intro j u hj
    rw [add_flat]
    exact hc j u hj
  · intro g cap w' hown' hg _ _
    refine h _ _ w' hown' (hb.grown hg (by omega) ?_)
    intro k hk
    have := (hown.lt k hk).1
    omega

/-- A row of texts that came in, as a list of their bytes. -/
theorem strs_of (xs : List ByteArray) : xs.map Value.string = Sts (xs.map fun s => s.data.toList) := by simp [Sts, tx_of]

end Go.Proofs.YtpnifmghbfajiaaDoor
