/-
  Footprints: what a call may have written, said as a set of blocks. No program is named here.
-/
import Derived.Test.YtfkfkmdnffpcmaaInts
import Derived.Laws.AppendOwnNone
namespace Go.Proofs.Ytfkfkmdnffpcmaa
open Go.RowKit

/-- Only what lies in F, or is new, may have changed. -/
structure Moves (F : Nat → Prop) (w w' : World) : Prop where
  os : w'.os = w.os
  tape : w'.tape = w.tape
  output : w'.output = w.output
  size : w.heap.size ≤ w'.heap.size
  block : ∀ k, k < w.heap.size → ¬ F k → w'.heap[k]? = w.heap[k]?

section
variable {F F' : Nat → Prop} {w w1 w2 : World} {B : Nat}
theorem Moves.refl (F : Nat → Prop) (w : World) : Moves F w w := ⟨rfl, rfl, rfl, Nat.le_refl _, fun _ _ _ => rfl⟩
theorem Moves.trans (h : Moves F w w1) (k : Moves F' w1 w2) (hF : ∀ k, F' k → F k ∨ w.heap.size ≤ k) : Moves F w w2 :=
  ⟨k.os.trans h.os, k.tape.trans h.tape, k.output.trans h.output, Nat.le_trans h.size k.size, fun i hi hn =>
    (k.block i (Nat.lt_of_lt_of_le hi h.size) fun hf => (hF i hf).elim hn fun hs => by omega).trans (h.block i hi hn)⟩
theorem Moves.go (h : Moves F w w1) (k : Moves F w1 w2) : Moves F w w2 := h.trans k fun _ hf => .inl hf
theorem Moves.wider (h : Moves F w w1) (hF : ∀ k, F k → F' k) : Moves F' w w1 := ⟨h.os, h.tape, h.output, h.size, fun i hi hn => h.block i hi fun hf => hn (hF i hf)⟩
theorem Moves.of_below (h : Below w.heap.size w w1) : Moves F w w1 := ⟨h.os, h.tape, h.output, h.size, fun i hi _ => h.block i hi⟩
theorem Moves.then (h : Moves F w w1) (k : Below w1.heap.size w1 w2) : Moves F w w2 := h.go (.of_below k)
theorem Moves.alloc (h : Moves F w w1) (o : Obj) : Moves F w (w1.alloc o) := h.then ((Below.refl _ _).alloc (Nat.le_refl _) _)
theorem Moves.drewN (h : Moves F w w1) (n : Nat) : Moves F w (w1.drewN n) := ⟨h.os, h.tape, h.output, h.size, h.block⟩
theorem Moves.drew (h : Moves F w w1) : Moves F w w1.drew := ⟨h.os, h.tape, h.output, h.size, h.block⟩
theorem Moves.setCell (h : Moves F w w1) {p : Addr} (hp : F p.block ∨ w.heap.size ≤ p.block) (u : Value) : Moves F w (w1.setCell p u) :=
  ⟨h.os, h.tape, h.output, by simpa [World.setCell] using h.size, fun k hk hn => (Below.heap_setCell _ _ _ _ (fun e => by subst e; exact hp.elim hn (by omega))).trans (h.block k hk hn)⟩
theorem Moves.grown {row : Option Nat} (h : Moves F w w1) (hg : w1.grownBy w2 row) (hr : ∀ k, row = some k → F k ∨ w.heap.size ≤ k) : Moves F w w2 :=
  ⟨hg.os.trans h.os, hg.tape.trans h.tape, hg.output.trans h.output, Nat.le_trans h.size hg.size, fun k hk hn =>
    (hg.block k (Nat.lt_of_lt_of_le hk h.size) fun e => (hr k e.symm).elim hn (by omega)).trans (h.block k hk hn)⟩
/-- Where all of F lies from B on, what is below B is as it was. -/
theorem Moves.below (h : Moves F w w1) (hF : ∀ k, F k → B ≤ k) (hB : B ≤ w.heap.size) : Below B w w1 := ⟨h.os, h.tape, h.output, h.size, fun k hk => h.block k (by omega) fun hf => by have := hF k hf; omega⟩
theorem Moves.cell (h : Moves F w w1) {p : Addr} (hp : p.block < w.heap.size) (hn : ¬ F p.block) : w1.cell? p = w.cell? p := World.cell?_of_block (w := w) (h.block _ hp hn)
theorem Moves.frozen (h : Moves F w w1) {p : Addr} (hp : p.block < w.heap.size) (hn : ¬ F p.block) : w1.frozen? p = w.frozen? p := World.frozen?_of_block (w := w) (h.block _ hp hn)
end

/-- The address, if it is one, lies outside F. -/
def Off (F : Nat → Prop) (A : Option Addr) : Prop := ∀ a, A = some a → ¬ F a.block
theorem Off.none {F : Nat → Prop} : Off F none := fun _ h => by cases h
theorem Rd.moves {F : Nat → Prop} {w w' : World} {B n : Nat} {A : Option Addr} {xs : List Value} (h : Rd w B A n xs) (hm : Moves F w w') (hB : B ≤ w.heap.size) (hF : 0 < n → Off F A) : Rd w' B A n xs :=
  ⟨h.1, fun hn => by
    obtain ⟨b, o, e, hb, hc⟩ := h.2 hn
    exact ⟨b, o, e, hb, fun j u hu => (hm.cell (p := ⟨b, o + j, Option.none⟩) (by show b < _; omega) (hF hn ⟨b, o, Option.none⟩ e)).trans (hc j u hu)⟩⟩
theorem own_moves {F : Nat → Prop} {w w' : World} {base : Nat} {e : TypeId} {v : Value} {n : Nat} {xs : List Value} (h : w.ownsRow base e 1 v n xs) (hm : Moves F w w') (hF : ∀ k, v.ownBlock = some k → ¬ F k) : w'.ownsRow base e 1 v n xs := by
  refine ⟨h.1, ?_⟩
  rcases h.2 with h' | ⟨g, cap, cur, rfl, hg, hh, hr⟩
  · exact .inl h'
  · exact .inr ⟨g, cap, cur, rfl, hg, by rw [hm.block g (Array.getElem?_eq_some_iff.1 hh).1 (hF g rfl)]; exact hh, hr⟩

/-- What a slice may look like: nil, or an address and room. -/
def SlOK (A : Option Addr) (n c : Nat) : Prop := (A = none ∧ n = 0 ∧ c = 0) ∨ ∃ a, A = some a ∧ n ≤ c ∧ c ≤ maxLen
/-- .. the address plain. -/
def SlF (A : Option Addr) (n c : Nat) : Prop := (A = none ∧ n = 0 ∧ c = 0) ∨ ∃ b o, A = some ⟨b, o, none⟩ ∧ n ≤ c ∧ c ≤ maxLen
theorem SlOK.nil : SlOK none 0 0 := .inl ⟨rfl, rfl, rfl⟩
theorem SlF.nil : SlF none 0 0 := .inl ⟨rfl, rfl, rfl⟩
theorem SlF.ok {A : Option Addr} {n c : Nat} (h : SlF A n c) : SlOK A n c := by
  rcases h with h | ⟨b, o, e, h⟩
  · exact .inl h
  · exact .inr ⟨_, e, h⟩
theorem SlOK.le {A : Option Addr} {n c : Nat} (h : SlOK A n c) : n ≤ c ∧ c ≤ maxLen := by
  rcases h with ⟨_, h1, h2⟩ | ⟨_, _, h⟩
  · subst h1; subst h2; exact ⟨Nat.le_refl _, Nat.zero_le _⟩
  · exact h
theorem SlF.le {A : Option Addr} {n c : Nat} (h : SlF A n c) : n ≤ c ∧ c ≤ maxLen := h.ok.le
theorem SlF.of_own {w : World} {base : Nat} {e : TypeId} {A : Option Addr} {n c : Nat} {xs : List Value} (h : w.ownsRow base e 1 (.slice A n c) n xs) : SlF A n c := by
  rcases h.2 with ⟨h1, _⟩ | ⟨g, cap, cur, h1, _, _, h2, h3, _⟩
  · injection h1 with h1 h2 h3
    exact .inl ⟨h1, h2, h3⟩
  · injection h1 with h1 _ h4
    subst h4
    exact .inr ⟨g, 0, h1, h2, h3⟩
theorem SlOK.of_own {w : World} {base : Nat} {e : TypeId} {A : Option Addr} {n c : Nat} {xs : List Value} (h : w.ownsRow base e 1 (.slice A n c) n xs) : SlOK A n c := (SlF.of_own h).ok

/-- What is read behind the first k. -/
theorem Rd.tail {w : World} {B n k b o : Nat} {xs : List Value} (h : Rd w B (some ⟨b, o, none⟩) n xs) (hk : k ≤ n) : Rd w B (some ⟨b, o + k, none⟩) (n - k) (xs.drop k) := by
  refine ⟨by rw [List.length_drop, h.1], fun h0 => ?_⟩
  obtain ⟨b', o', e, hb, hc⟩ := h.2 (by omega)
  injection e with e
  injection e with e1 e2
  subst e1 e2
  refine ⟨b, o + k, rfl, hb, fun j u hu => ?_⟩
  rw [List.getElem?_drop] at hu
  rw [Nat.add_assoc]
  exact hc _ u hu
theorem Rd.none_nil {w : World} {B n : Nat} {xs : List Value} (h : Rd w B none n xs) : n = 0 ∧ xs = [] := by
  have h0 : n = 0 := by
    rcases Nat.eq_zero_or_pos n with h0 | h0
    · exact h0
    · obtain ⟨_, _, e, _⟩ := h.2 h0; cases e
  subst h0
  exact ⟨rfl, List.eq_nil_of_length_eq_zero h.1⟩

/-- Behind a row that is owned stands what is read, be it nothing: 'append(row, other...)'. -/
theorem wp_append_foot {P : Program} {ops : Array Oper} {rest : List Oper} {o : Oper} {a : Act} {w : World} {Q : Exit → Act → World → Prop} (hgd : o.guard = none) (s x : Operand) (t : TypeId)
    (ho : o.op = .call { callee := .builtin .append, args := #[s, x], argTypes := #[t, t] }) (e : TypeId) (ht : P.underlying t = some (.slice e)) (z : Value) (by_ : Nat) (hby : by_ ≤ 16) (hz1 : z.cells.size = 1)
    (hinfo : (P.info? e).map (fun i => (i.zero, i.size, i.bytes)) = some (some z, 1, by_))
    (base n c : Nat) (A : Option Addr) (xs : List Value) (hs : a.eval s = .slice A n c) (hown : w.ownsRow base e 1 (.slice A n c) n xs)
    (B m c2 : Nat) (A2 : Option Addr) (news : List Value) (hx : a.eval x = .slice A2 m c2) (hr : Rd w B A2 m news) (hok : SlOK A2 m c2) (hone : ∀ u ∈ news, u.oneCell' = true)
    (hn : n + m ≤ 8796093022208) (hbase : base ≤ w.heap.size)
    (h : ∀ A' c' w', w'.ownsRow base e 1 (.slice A' (n + m) c') (n + m) (xs ++ news) → w.grownBy w' (Value.slice A n c).ownBlock → ((Value.slice A' (n + m) c').ownBlock = (Value.slice A n c).ownBlock ∨ (Value.slice A' (n + m) c').ownBlock = some w.heap.size) →
      wpList P ops Q rest (a.put o.dst (.slice A' (n + m) c')) w') :
    wpList P ops Q (o :: rest) a w := by
  obtain ⟨i0, hi, hi0, hi1, hi2⟩ := info_parts hinfo
  have hmul : (n + m) * by_ ≤ (n + m) * 16 := Nat.mul_le_mul_left _ hby
  rcases hok with ⟨rfl, rfl, rfl⟩ | ⟨a2, rfl, _, _⟩
  · have h0 := List.eq_nil_of_length_eq_zero hr.1
    subst h0
    refine wpList_append_own_none hgd s x t ho base e i0 1 ht hi (.slice A n c) n xs hs hown hx ?_
    have := h A c w (by simpa using hown) ⟨rfl, rfl, rfl, Nat.le_refl _, fun _ _ _ => rfl⟩ (.inl (by cases A <;> rfl))
    simpa using this
  · refine wpList_append_own_at w hgd s x t ho base e i0 z 1 by_ ht hi hi0 hi1 hi2 hz1 (by omega) (.slice A n c) n xs hs hown a2 m c2 news hx (by rw [hr.1]; omega) ?_ hone (by unfold maxLen; omega) (by omega) hbase ?_
    · intro j u hj
      obtain ⟨b', o', e1, _, hc⟩ := hr.2 (by have := (List.getElem?_eq_some_iff.1 hj).1; have := hr.1; omega)
      injection e1 with e1
      subst e1
      rw [add_flat]
      exact hc j u hj
    · intro v' w' h1 h2 _ h4
      obtain ⟨A', n', c', rfl, hn'⟩ : ∃ A' n' c', v' = .slice A' n' c' ∧ n' = n + m := by
        rcases h1.2 with ⟨rfl, h0⟩ | ⟨g, cap, _, rfl, _⟩
        · exact ⟨none, 0, 0, rfl, h0.symm⟩
        · exact ⟨_, _, _, rfl, rfl⟩
      subst hn'
      exact h A' c' w' h1 h2 h4

end Go.Proofs.Ytfkfkmdnffpcmaa
