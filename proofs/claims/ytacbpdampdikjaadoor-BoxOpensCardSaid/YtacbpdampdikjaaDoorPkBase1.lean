/-
  Some of the texts that the last one of these needs: walks of the functions that the law calls, and the mathematics of their answers.
-/
import Derived.WalkKit
import Derived.WalkSpells
import Derived.WalkLawsBesides
import Derived.Lib.Hide
import Derived.Deep.QuietTactic
import Derived.BigQuiet
import Derived.Deep.Draws
import Derived.Deep.AppendLies
import Derived.Maps.AppendAt
import Derived.OwnWalk
import Derived.Laws.CopyOwn
import Derived.ProofKit
import Derived.SizedLaws
import Derived.Deep.RegionHeld3
import Derived.Deep.RegionLaw
import Derived.StillTailTactics
import Derived.Deep.DeepFit
import Derived.Outline
import Derived.IntWalk
import Derived.Laws.BytesArg
import Derived.Laws.IdiomStrings
import Derived.Laws.Cover4
import Derived.Laws.AppendOwnNone
import Derived.Test.YtacbpdampdikjaaDoorChecked
import Derived.KernelRfl
import Derived.Lib.MakeNoZero
import Derived.Lib.SlBuf
import Derived.RangeFuncNested
import Derived.RangeFuncBound
import Derived.RangeFuncCalls
import Derived.RangeFuncLeaves
import Derived.RangeFuncBox
import Derived.Shelf.Abstract
import Derived.Shelf.RegionOpen
import Derived.OwnWalkIn
import Derived.TacticsInMore
import Derived.LoopNIn
import Derived.LoopIn
import Derived.Stop.RegionWithIn
import Derived.Sort.QuietIn
/-
  Small words on memory that all texts of this seat use: a slice that reads as a list, new rows of bytes, blocks known whole. No program is named here.
-/
namespace Go.Proofs.YtacbpdampdikjaaDoor
open Go.RowKit

/-- The values of a row of bytes. -/
def Byt (l : List UInt8) : List Value := l.map fun b => .int .u8 (b.toNat : Int)
theorem Byt_length (l : List UInt8) : (Byt l).length = l.length := by simp [Byt]
theorem Byt_get {l : List UInt8} {k : Nat} (h : k < l.length) : (Byt l)[k]? = some (.int .u8 (l[k].toNat : Int)) := by
  simp [Byt, List.getElem?_eq_getElem h]
theorem Byt_append (a b : List UInt8) : Byt (a ++ b) = Byt a ++ Byt b := by simp [Byt]
theorem Byt_cons (a : UInt8) (b : List UInt8) : Byt (a :: b) = .int .u8 (a.toNat : Int) :: Byt b := rfl
theorem Byt_take (l : List UInt8) (k : Nat) : Byt (l.take k) = (Byt l).take k := by simp [Byt, List.map_take]
theorem Byt_drop (l : List UInt8) (k : Nat) : Byt (l.drop k) = (Byt l).drop k := by simp [Byt, List.map_drop]
theorem Byt_set (l : List UInt8) (k : Nat) (b : UInt8) : Byt (l.set k b) = (Byt l).set k (.int .u8 (b.toNat : Int)) := by simp [Byt, List.map_set]
theorem Byt_rep (n : Nat) : Byt (List.replicate n 0) = List.replicate n (.int .u8 0) := by simp [Byt]
theorem Byt_one (l : List UInt8) : ∀ u ∈ Byt l, u.oneCell' = true := by
  intro u hu
  simp only [Byt, List.mem_map] at hu
  obtain ⟨b, _, rfl⟩ := hu
  rfl

/-- The slice '.slice A n c' reads as 'xs' (cells of one value each), and lies below block B. -/
def Rd (w : World) (B : Nat) (A : Option Addr) (n : Nat) (xs : List Value) : Prop :=
  xs.length = n ∧ (0 < n → ∃ b o, A = some ⟨b, o, none⟩ ∧ b < B ∧ ∀ j u, xs[j]? = some u → w.cell? ⟨b, o + j, none⟩ = some u)

section
variable {w w' : World} {B B' n : Nat} {A : Option Addr} {xs : List Value}
theorem Rd.nil : Rd w B A 0 [] := ⟨rfl, fun h => absurd h (by omega)⟩
theorem Rd.len (h : Rd w B A n xs) : xs.length = n := h.1
theorem Rd.keep (h : Rd w B A n xs) (hk : ∀ p : Addr, p.block < B → w'.cell? p = w.cell? p) : Rd w' B A n xs :=
  ⟨h.1, fun hn => by
    obtain ⟨b, o, e, hb, hc⟩ := h.2 hn
    exact ⟨b, o, e, hb, fun j u hu => (hk _ hb).trans (hc j u hu)⟩⟩
theorem Rd.below (h : Rd w B A n xs) (hb : Below B w w') : Rd w' B A n xs := h.keep fun _ hp => hb.cell hp
theorem Rd.wider (h : Rd w B A n xs) (hB : B ≤ B') : Rd w B' A n xs :=
  ⟨h.1, fun hn => by
    obtain ⟨b, o, e, hb, hc⟩ := h.2 hn
    exact ⟨b, o, e, by omega, hc⟩⟩
theorem Rd.drewN (h : Rd w B A n xs) (k : Nat) : Rd (w.drewN k) B A n xs := h
theorem Rd.drew (h : Rd w B A n xs) : Rd w.drew B A n xs := h
theorem Rd.alloc (h : Rd w B A n xs) (hB : B ≤ w.heap.size) (o : Obj) : Rd (w.alloc o) B A n xs := h.keep fun p hp => World.cell?_alloc_lt w o p (by omega)
theorem Rd.setCell (h : Rd w B A n xs) {p : Addr} (hB : B ≤ p.block) (u : Value) : Rd (w.setCell p u) B A n xs :=
  h.keep fun q hq => World.cell?_setCell_other w p q u (fun e => by subst e; omega)
/-- At place k there is an address, and the cell. -/
theorem Rd.at_ {k : Nat} (h : Rd w B A n xs) (hk : k < n) : ∃ b o, A = some ⟨b, o, none⟩ ∧ b < B ∧ ∃ u, xs[k]? = some u ∧ w.cell? ⟨b, o + k, none⟩ = some u := by
  obtain ⟨b, o, e, hb, hc⟩ := h.2 (by omega)
  have hl : k < xs.length := by have := h.1; omega
  exact ⟨b, o, e, hb, xs[k], List.getElem?_eq_getElem hl, hc k _ (List.getElem?_eq_getElem hl)⟩
theorem Rd.byte {l : List UInt8} {k : Nat} (h : Rd w B A n (Byt l)) (hk : k < n) (hl : k < l.length) : ∃ b o, A = some ⟨b, o, none⟩ ∧ b < B ∧ w.cell? ⟨b, o + k, none⟩ = some (.int .u8 (l[k].toNat : Int)) := by
  obtain ⟨b, o, e, hb, u, hu, hc⟩ := h.at_ hk
  rw [Byt_get hl] at hu
  exact ⟨b, o, e, hb, by rw [hc, hu]⟩
theorem Rd.bytes {l : List UInt8} (h : Rd w B A n (Byt l)) : l.length = n := by have := h.1; rwa [Byt_length] at this
theorem Rd.of_own {base : Nat} {e : TypeId} {c : Nat} (h : w.ownsRow base e 1 (.slice A n c) n xs) : Rd w w.heap.size A n xs := by
  refine ⟨by simpa using h.1, fun hn => ?_⟩
  rcases h.2 with ⟨_, h0⟩ | ⟨g, cap, cur, hv, _, hg, _, _, _, htake⟩
  · omega
  · injection hv with hA _ _
    subst hA
    refine ⟨g, 0, rfl, (Array.getElem?_eq_some_iff.1 hg).1, fun j u hu => ?_⟩
    rw [Nat.zero_add, cell_of_row w g j cur e (0, 0) hg]
    rw [← htake, List.getElem?_take] at hu
    split at hu
    · simpa using hu
    · cases hu
end

theorem add_flat (b o j : Nat) : (⟨b, o, none⟩ : Addr).add j = ⟨b, o + j, none⟩ := by unfold Addr.add; split <;> simp_all
/-- A row of bytes made a text. -/
theorem Rd.conv {P : Program} {w : World} {B n c : Nat} {A : Option Addr} {l : List UInt8} (h : Rd w B A n (Byt l)) (src dst e : TypeId)
    (hs : P.underlying src = some (.slice e)) (he : P.underlying e = some (.int .u8)) (hd : P.underlying dst = some .string) :
    (convert src dst (.slice A n c)).run P w = .ok (.string ⟨l.toArray⟩) w := by
  have hl := h.bytes
  subst hl
  rcases A with _ | a
  · have h0 : l = [] := by
      rcases Nat.eq_zero_or_pos l.length with h0 | h0
      · exact List.eq_nil_of_length_eq_zero h0
      · obtain ⟨_, _, e, _⟩ := h.2 h0; cases e
    subst h0
    exact run_convert_bytes_nil w src e hs he _ _ dst hd
  · refine run_convert_bytes_back w src dst e a c l hs he hd (fun j hj => ?_)
    obtain ⟨b, o, ea, _, hc⟩ := h.byte hj hj
    injection ea with ea
    subst ea
    rw [add_flat]
    exact hc

theorem own_len {w : World} {base : Nat} {e : TypeId} {v : Value} {n : Nat} {l : List UInt8} (h : w.ownsRow base e 1 v n (Byt l)) : l.length = n := by
  have := h.1; rw [Byt_length] at this; omega
/-- What is owned is a slice value. -/
theorem own_form {w : World} {base : Nat} {e : TypeId} {v : Value} {n : Nat} {xs : List Value} (h : w.ownsRow base e 1 v n xs) : ∃ A c, v = .slice A n c ∧ n ≤ c ∧ c ≤ maxLen := by
  rcases h.2 with ⟨rfl, rfl⟩ | ⟨g, cap, cur, rfl, _, _, hn, hc, _⟩
  · exact ⟨none, 0, rfl, Nat.le_refl _, Nat.zero_le _⟩
  · exact ⟨_, cap, rfl, hn, hc⟩
theorem own_below {w w' : World} {base B : Nat} {e : TypeId} {v : Value} {n : Nat} {xs : List Value} (h : w.ownsRow base e 1 v n xs) (hb : Below B w w') (hB : w.heap.size ≤ B) : w'.ownsRow base e 1 v n xs := by
  refine ⟨h.1, ?_⟩
  rcases h.2 with h' | ⟨g, cap, cur, rfl, hg, hh, hr⟩
  · exact .inl h'
  · exact .inr ⟨g, cap, cur, rfl, hg, by rw [hb.block g (by have := (Array.getElem?_eq_some_iff.1 hh).1; omega)]; exact hh, hr⟩
theorem own_drewN {w : World} {base : Nat} {e : TypeId} {v : Value} {n : Nat} {xs : List Value} (h : w.ownsRow base e 1 v n xs) (k : Nat) : (w.drewN k).ownsRow base e 1 v n xs := h
theorem own_base {w : World} {base base' : Nat} {e : TypeId} {v : Value} {n : Nat} {xs : List Value} (h : w.ownsRow base e 1 v n xs) (hb : base' ≤ base) : w.ownsRow base' e 1 v n xs := by
  refine ⟨h.1, ?_⟩
  rcases h.2 with h' | ⟨g, cap, cur, rfl, hg, hh, hr⟩
  · exact .inl h'
  · exact .inr ⟨g, cap, cur, rfl, by omega, hh, hr⟩

theorem bdrewN {B : Nat} {a w : World} (h : Below B a w) (n : Nat) : Below B a (w.drewN n) := ⟨h.os, h.tape, h.output, h.size, h.block⟩

/-- What a call ends in that answers a new row of bytes. -/
def NewB (e : TypeId) (w : World) (l : List UInt8) (en : Ending) (w' : World) : Prop :=
  ∃ A c, en = .returned (.slice A l.length c) ∧ w'.ownsRow w.heap.size e 1 (.slice A l.length c) l.length (Byt l) ∧ Below w.heap.size w w'

/-- What a call ends in that answers plain values and leaves old memory. -/
def Ans (w : World) (v : Value) (en : Ending) (w' : World) : Prop := en = .returned v ∧ Below w.heap.size w w'

/-- 'make([]byte, n)'. -/
theorem wp_make_bytes {P : Program} {w : World} {ops : Array Oper} {rest : List Oper} {o : Oper} {a : Act} {Q : Exit → Act → World → Prop}
    (hg : o.guard = none) (l c : Operand) (t : TypeId) (hop : o.op = Op.makeSlice t l c) (e : TypeId)
    (h1 : P.underlying t = some (.slice e)) (h2 : (P.info? e).map (fun i => (i.zero, i.size, i.bytes)) = some (some (.int .u8 0), 1, 1))
    (n : Nat) (hl : a.eval l = .int .i64 (n : Int)) (hc : a.eval c = .int .i64 (n : Int)) (hn : n ≤ 281474976710656)
    (hK : ∀ w', w'.ownsRow w.heap.size e 1 (.slice (some ⟨w.heap.size, 0, none⟩) n n) n (Byt (List.replicate n 0)) → Below w.heap.size w w' → wpList P ops Q rest (a.put o.dst (.slice (some ⟨w.heap.size, 0, none⟩) n n)) w') :
    wpList P ops Q (o :: rest) a w := by
  obtain ⟨i0, hi, hz0, hz1, hz2⟩ := info_parts h2
  refine wpList_make_full w hg l c t hop w.heap.size e i0 (.int .u8 0) 1 h1 hi hz0 hz1 .i64 .i64 _ _ n hl hc rfl rfl (by rw [hz2]; omega) (by unfold maxLen; omega) (Nat.le_refl _) ?_
  intro w' hown hg
  refine hK w' ?_ ((Below.refl w.heap.size w).grown hg (Nat.le_refl _) (fun _ h => by cases h))
  rw [Nat.mul_one] at hown
  rw [Byt_rep]
  rwa [show (madeCells (Value.int .u8 0).cells n).toList = List.replicate n (.int .u8 0) from toList_madeCells_one _ _] at hown

section
variable {w : World} {base : Nat} {e : TypeId} {g n c : Nat} {l : List UInt8}
theorem own_cell (h : w.ownsRow base e 1 (.slice (some ⟨g, 0, none⟩) n c) n (Byt l)) {j : Nat} (hj : j < l.length) : w.cell? ⟨g, j, none⟩ = some (.int .u8 (l[j].toNat : Int)) := by
  have hl := own_len h
  rw [h.cellAt j (by omega), Byt_get hj]
theorem own_any (h : w.ownsRow base e 1 (.slice (some ⟨g, 0, none⟩) n c) n (Byt l)) {j : Nat} (hj : j < n) : ∃ u, w.cell? ⟨g, j, none⟩ = some u := by
  have hl := own_len h
  exact ⟨_, own_cell h (by omega)⟩
theorem own_put (h : w.ownsRow base e 1 (.slice (some ⟨g, 0, none⟩) n c) n (Byt l)) (j : Nat) (x : Int) (b : UInt8) (hx : x = (b.toNat : Int)) :
    (w.setCell ⟨g, j, none⟩ (.int .u8 x)).ownsRow base e 1 (.slice (some ⟨g, 0, none⟩) n c) n (Byt (l.set j b)) := by
  subst hx
  rw [Byt_set]; exact (h.stored j _).1
theorem own_set (h : w.ownsRow base e 1 (.slice (some ⟨g, 0, none⟩) n c) n (Byt l)) (j : Nat) (b : UInt8) :
    (w.setCell ⟨g, j, none⟩ (.int .u8 (b.toNat : Int))).ownsRow base e 1 (.slice (some ⟨g, 0, none⟩) n c) n (Byt (l.set j b)) := by
  rw [Byt_set]; exact (h.stored j _).1
end

/-- Bytes of numbers, as the walk writes them. -/
theorem u8_of (m : Nat) : ((UInt8.ofNat m).toNat : Int) = (m : Int) % 256 := by
  rw [UInt8.toNat_ofNat']; omega

end Go.Proofs.YtacbpdampdikjaaDoor

/-
  Rows of numbers of one kind: what XBase says of bytes, said of numbers. No program is named here.
-/
namespace Go.Proofs.YtacbpdampdikjaaDoor
open Go.RowKit

/-- The values of a row of numbers. -/
def Ris (k : IntKind) (l : List Int) : List Value := l.map fun z => .int k z
section
variable {k : IntKind} {l a b : List Int} {j : Nat}
theorem Ris_length : (Ris k l).length = l.length := by simp [Ris]
theorem Ris_get (h : j < l.length) : (Ris k l)[j]? = some (.int k l[j]) := by simp [Ris, List.getElem?_eq_getElem h]
theorem Ris_append : Ris k (a ++ b) = Ris k a ++ Ris k b := by simp [Ris]
theorem Ris_take : Ris k (l.take j) = (Ris k l).take j := by simp [Ris, List.map_take]
theorem Ris_set {z : Int} : Ris k (l.set j z) = (Ris k l).set j (.int k z) := by simp [Ris, List.map_set]
theorem Ris_one : ∀ u ∈ Ris k l, u.oneCell' = true := by
  intro u hu
  simp only [Ris, List.mem_map] at hu
  obtain ⟨b, _, rfl⟩ := hu
  rfl
end

section
variable {w w' : World} {B n : Nat} {A : Option Addr} {k : IntKind} {l : List Int} {j : Nat}
theorem Rd.ints (h : Rd w B A n (Ris k l)) : l.length = n := by have := h.1; rwa [Ris_length] at this
theorem Rd.int (h : Rd w B A n (Ris k l)) (hj : j < n) (hl : j < l.length) : ∃ b o, A = some ⟨b, o, none⟩ ∧ b < B ∧ w.cell? ⟨b, o + j, none⟩ = some (.int k l[j]) := by
  obtain ⟨b, o, e, hb, u, hu, hc⟩ := h.at_ hj
  rw [Ris_get hl] at hu
  exact ⟨b, o, e, hb, by rw [hc, hu]⟩
theorem Rd.head {xs : List Value} (h : Rd w B A n xs) {m : Nat} (hm : m ≤ n) : Rd w B A m (xs.take m) := by
  refine ⟨by rw [List.length_take, h.1]; omega, fun h0 => ?_⟩
  obtain ⟨b, o, e, hb, hc⟩ := h.2 (by omega)
  refine ⟨b, o, e, hb, fun j u hu => hc j u ?_⟩
  rw [List.getElem?_take] at hu
  split at hu
  · exact hu
  · cases hu
end

/-- What a call ends in that answers a new row of numbers. -/
def NewI (k : IntKind) (e : TypeId) (w : World) (l : List Int) (en : Ending) (w' : World) : Prop :=
  ∃ A c, en = .returned (.slice A l.length c) ∧ w'.ownsRow w.heap.size e 1 (.slice A l.length c) l.length (Ris k l) ∧ Below w.heap.size w w'
/-- .. with two numbers behind it. -/
def NewT (k : IntKind) (e : TypeId) (w : World) (v : List Int × Int × Int) (en : Ending) (w' : World) : Prop :=
  ∃ A c, en = .returned (.tuple #[.slice A v.1.length c, .int .i64 v.2.1, .int .i64 v.2.2]) ∧ w'.ownsRow w.heap.size e 1 (.slice A v.1.length c) v.1.length (Ris k v.1) ∧ Below w.heap.size w w'

theorem ownI_len {w : World} {base : Nat} {e : TypeId} {v : Value} {n : Nat} {k : IntKind} {l : List Int} (h : w.ownsRow base e 1 v n (Ris k l)) : l.length = n := by
  have := h.1; rw [Ris_length] at this; omega
theorem own_nil (w : World) (base : Nat) (e : TypeId) : w.ownsRow base e 1 (.slice none 0 0) 0 [] := ⟨rfl, .inl ⟨rfl, rfl⟩⟩
theorem ownI_put {w : World} {base : Nat} {e : TypeId} {g n c : Nat} {k : IntKind} {l : List Int} (h : w.ownsRow base e 1 (.slice (some ⟨g, 0, none⟩) n c) n (Ris k l)) (j : Nat) (z : Int) :
    (w.setCell ⟨g, j, none⟩ (.int k z)).ownsRow base e 1 (.slice (some ⟨g, 0, none⟩) n c) n (Ris k (l.set j z)) := by
  rw [Ris_set]; exact (h.stored j _).1
theorem ownI_cell {w : World} {base : Nat} {e : TypeId} {g n c : Nat} {k : IntKind} {l : List Int} (h : w.ownsRow base e 1 (.slice (some ⟨g, 0, none⟩) n c) n (Ris k l)) {j : Nat} (hj : j < l.length) : w.cell? ⟨g, j, none⟩ = some (.int k l[j]) := by
  have hl := ownI_len h
  rw [h.cellAt j (by omega), Ris_get hj]
theorem own_some {w : World} {base : Nat} {e : TypeId} {A : Option Addr} {n c : Nat} {xs : List Value} (h : w.ownsRow base e 1 (.slice A n c) n xs) (hn : 0 < n) : ∃ g, A = some ⟨g, 0, none⟩ ∧ base ≤ g ∧ g < w.heap.size := by
  rcases h.2 with ⟨_, h0⟩ | ⟨g, cap, cur, hv, hg, hh, _⟩
  · omega
  · injection hv with hv
    exact ⟨g, hv, hg, (Array.getElem?_eq_some_iff.1 hh).1⟩

/-- A row of runes made a text. -/
theorem Rd.runes {P : Program} {w : World} {B n c : Nat} {A : Option Addr} {l : List Int} (h : Rd w B A n (Ris .i32 l)) (src dst e : TypeId)
    (hs : P.underlying src = some (.slice e)) (he : P.underlying e = some (.int .i32)) (hd : P.underlying dst = some .string) :
    (convert src dst (.slice A n c)).run P w = .ok (.string (runesBytes l)) w := by
  have hl := h.ints
  subst hl
  rcases A with _ | a
  · have h0 : l = [] := by
      rcases Nat.eq_zero_or_pos l.length with h0 | h0
      · exact List.eq_nil_of_length_eq_zero h0
      · obtain ⟨_, _, e, _⟩ := h.2 h0; cases e
    subst h0
    exact run_convert_runes_nil w src dst e _ _ hs he hd
  · have := run_convert_runes w src dst e a l.length c l (Nat.le_refl _) hs he hd (fun j hj => by
      obtain ⟨b, o, ea, _, hc⟩ := h.int hj hj
      injection ea with ea
      subst ea
      rw [add_flat, hc, List.getD, List.getElem?_eq_getElem hj]
      rfl)
    rwa [List.take_length] at this

/-- A block laid at once reads as its cells. -/
theorem Rd.new (w : World) (e : TypeId) (cs : Array Value) {n : Nat} (hn : n = cs.size) : Rd (w.alloc (.cells cs e)) (w.heap.size + 1) (some ⟨w.heap.size, 0, none⟩) n cs.toList := by
  subst hn
  refine ⟨by simp, fun _ => ⟨w.heap.size, 0, rfl, by omega, fun j u hj => ?_⟩⟩
  rw [Nat.zero_add, cell_of_row (w.alloc (.cells cs e)) w.heap.size j cs e (0, 0) (heap_alloc_new w _)]
  simpa using hj

/-- What is read stands behind what is owned: 'append(row, other...)', in a region that keeps the text's order. -/
theorem wp_append_rd {P : Program} {ops : Array Oper} {rest : List Oper} {o : Oper} {a : Act} {w : World} {Q : Exit → Act → World → Prop} (hgd : o.guard = none) (s x : Operand) (t : TypeId)
    (ho : o.op = .call { callee := .builtin .append, args := #[s, x], argTypes := #[t, t] }) (e : TypeId) (ht : P.underlying t = some (.slice e)) (z : Value) (by_ : Nat) (hby : by_ ≤ 8) (hz1 : z.cells.size = 1)
    (hinfo : (P.info? e).map (fun i => (i.zero, i.size, i.bytes)) = some (some z, 1, by_))
    (base n c : Nat) (A : Option Addr) (xs : List Value) (hs : a.eval s = .slice A n c) (hown : w.ownsRow base e 1 (.slice A n c) n xs)
    (B m c2 : Nat) (A2 : Option Addr) (news : List Value) (hx : a.eval x = .slice A2 m c2) (hr : Rd w B A2 m news) (hone : ∀ u ∈ news, u.oneCell' = true)
    (hm : 0 < m) (hn : n + m ≤ 17592186044416) (hbase : base ≤ w.heap.size) (w0 : World) (B0 : Nat) (hb : Below B0 w0 w) (hB0 : B0 ≤ base)
    (h : ∀ A' c' w', w'.ownsRow base e 1 (.slice A' (n + m) c') (n + m) (xs ++ news) → Below B0 w0 w' → wpList P ops Q rest (a.put o.dst (.slice A' (n + m) c')) w') :
    wpList P ops Q (o :: rest) a w := by
  obtain ⟨i0, hi, hi0, hi1, hi2⟩ := info_parts hinfo
  have hmul : (n + m) * by_ ≤ (n + m) * 8 := Nat.mul_le_mul_left _ hby
  obtain ⟨b, o2, rfl, _, hc⟩ := hr.2 hm
  refine wpList_append_lies w hgd s x t ho base e i0 z 1 by_ ht hi hi0 hi1 hi2 hz1 (by omega) _ n xs hs hown ⟨b, o2, none⟩ m c2 news hx (by rw [hr.1]; omega) ?_ hone hm (by unfold maxLen; omega) (by omega) hbase w.heap.size rfl ?_
  · intro j u hj
    rw [add_flat]
    exact hc j u hj
  · intro g cap w' hown' hg _ _
    refine h _ _ w' hown' (hb.grown hg (by omega) ?_)
    intro k hk
    have := (hown.lt k hk).1
    omega

/-- One number more, in a region that draws its order: it stands in a new block of its own. -/
theorem step_append_int {P : Program} {ops : Array Oper} {o : Oper} {a : Act} {w : World} {K : Act → World → Prop} {Q : Exit → Act → World → Prop} {E : Prop} (hgd : o.guard = none) (s x : Operand) (t : TypeId)
    (ho : o.op = .call { callee := .builtin .append, args := #[s, x], argTypes := #[t, t] }) (e : TypeId) (ht : P.underlying t = some (.slice e)) (k : IntKind) (by_ : Nat) (hby : by_ ≤ 8)
    (hinfo : (P.info? e).map (fun i => (i.zero, i.size, i.bytes)) = some (some (.int k 0), 1, by_))
    (base n c g1 : Nat) (A : Option Addr) (l : List Int) (hs : a.eval s = .slice A n c) (hx : a.eval x = .slice (some ⟨g1, 0, none⟩) 1 1)
    (hown : w.ownsRow base e 1 (.slice A n c) n (Ris k l)) (z : Int) (hcell : w.cell? ⟨g1, 0, none⟩ = some (.int k z))
    (hn : n + 1 ≤ 17592186044416) (hbase : base ≤ w.heap.size) (w0 : World) (B0 : Nat) (hb : Below B0 w0 w) (hB0 : B0 ≤ base)
    (h : ∀ A' c' w', w'.ownsRow base e 1 (.slice A' (n + 1) c') (n + 1) (Ris k (l ++ [z])) → Below B0 w0 w' → K (a.put o.dst (.slice A' (n + 1) c')) w') :
    if Region.wanted o (yielded ops a.tmps) = true then Oper.wp P o a w K Q else E := by
  obtain ⟨i0, hi, hz0, hz1, hz2⟩ := info_parts hinfo
  have hmul : (n + 1) * by_ ≤ (n + 1) * 8 := Nat.mul_le_mul_left _ hby
  refine step_append_lies w hgd s x t ho base e i0 (.int k 0) 1 by_ ht hi hz0 hz1 hz2 rfl (by omega) _ n (Ris k l) hs hown ⟨g1, 0, none⟩ 1 1 (Ris k [z]) hx rfl ?_ Ris_one (by omega) (by unfold maxLen; omega) (by omega) hbase w.heap.size rfl ?_
  · intro j u hj
    match j, hj with
    | 0, hj =>
      simp [Ris] at hj
      subst hj
      rw [add_flat, hcell]
    | j + 1, hj => simp [Ris] at hj
  · intro g cap w' hown' hg _ _
    rw [← Ris_append] at hown'
    refine h _ _ w' hown' (hb.grown hg (by omega) ?_)
    intro k hk
    have := (hown.lt k hk).1
    omega

end Go.Proofs.YtacbpdampdikjaaDoor

/-
  Footprints: what a call may have written, said as a set of blocks. No program is named here.
-/
namespace Go.Proofs.YtacbpdampdikjaaDoor
open Go.RowKit

/-- Only what lies in F, or is new, may have changed. -/
structure Moves (F : Nat → Prop) (w w' : World) : Prop where
  os : w'.os = w.os
  tape : w'.tape = w.tape
  output : w'.output = w.output
  size : w.heap.size ≤ w'.heap.size
  block : ∀ k, k < w.heap.size → ¬ F k → w'.heap[k]? = w.heap[k]?

section
variable {F F' : Nat → Prop} {w w1 w2 : World} {B : Nat}
theorem Moves.refl (F : Nat → Prop) (w : World) : Moves F w w := ⟨rfl, rfl, rfl, Nat.le_refl _, fun _ _ _ => rfl⟩
theorem Moves.trans (h : Moves F w w1) (k : Moves F' w1 w2) (hF : ∀ k, F' k → F k ∨ w.heap.size ≤ k) : Moves F w w2 :=
  ⟨k.os.trans h.os, k.tape.trans h.tape, k.output.trans h.output, Nat.le_trans h.size k.size, fun i hi hn =>
    (k.block i (Nat.lt_of_lt_of_le hi h.size) fun hf => (hF i hf).elim hn fun hs => by omega).trans (h.block i hi hn)⟩
theorem Moves.go (h : Moves F w w1) (k : Moves F w1 w2) : Moves F w w2 := h.trans k fun _ hf => .inl hf
theorem Moves.wider (h : Moves F w w1) (hF : ∀ k, F k → F' k) : Moves F' w w1 := ⟨h.os, h.tape, h.output, h.size, fun i hi hn => h.block i hi fun hf => hn (hF i hf)⟩
theorem Moves.of_below (h : Below w.heap.size w w1) : Moves F w w1 := ⟨h.os, h.tape, h.output, h.size, fun i hi _ => h.block i hi⟩
theorem Moves.then (h : Moves F w w1) (k : Below w1.heap.size w1 w2) : Moves F w w2 := h.go (.of_below k)
theorem Moves.alloc (h : Moves F w w1) (o : Obj) : Moves F w (w1.alloc o) := h.then ((Below.refl _ _).alloc (Nat.le_refl _) _)
theorem Moves.drewN (h : Moves F w w1) (n : Nat) : Moves F w (w1.drewN n) := ⟨h.os, h.tape, h.output, h.size, h.block⟩
theorem Moves.drew (h : Moves F w w1) : Moves F w w1.drew := ⟨h.os, h.tape, h.output, h.size, h.block⟩
theorem Moves.setCell (h : Moves F w w1) {p : Addr} (hp : F p.block ∨ w.heap.size ≤ p.block) (u : Value) : Moves F w (w1.setCell p u) :=
  ⟨h.os, h.tape, h.output, by simpa [World.setCell] using h.size, fun k hk hn => (Below.heap_setCell _ _ _ _ (fun e => by subst e; exact hp.elim hn (by omega))).trans (h.block k hk hn)⟩
theorem Moves.grown {row : Option Nat} (h : Moves F w w1) (hg : w1.grownBy w2 row) (hr : ∀ k, row = some k → F k ∨ w.heap.size ≤ k) : Moves F w w2 :=
  ⟨hg.os.trans h.os, hg.tape.trans h.tape, hg.output.trans h.output, Nat.le_trans h.size hg.size, fun k hk hn =>
    (hg.block k (Nat.lt_of_lt_of_le hk h.size) fun e => (hr k e.symm).elim hn (by omega)).trans (h.block k hk hn)⟩
/-- Where all of F lies from B on, what is below B is as it was. -/
theorem Moves.below (h : Moves F w w1) (hF : ∀ k, F k → B ≤ k) (hB : B ≤ w.heap.size) : Below B w w1 := ⟨h.os, h.tape, h.output, h.size, fun k hk => h.block k (by omega) fun hf => by have := hF k hf; omega⟩
theorem Moves.cell (h : Moves F w w1) {p : Addr} (hp : p.block < w.heap.size) (hn : ¬ F p.block) : w1.cell? p = w.cell? p := World.cell?_of_block (w := w) (h.block _ hp hn)
theorem Moves.frozen (h : Moves F w w1) {p : Addr} (hp : p.block < w.heap.size) (hn : ¬ F p.block) : w1.frozen? p = w.frozen? p := World.frozen?_of_block (w := w) (h.block _ hp hn)
end

/-- The address, if it is one, lies outside F. -/
def Off (F : Nat → Prop) (A : Option Addr) : Prop := ∀ a, A = some a → ¬ F a.block
theorem Off.none {F : Nat → Prop} : Off F none := fun _ h => by cases h
theorem Rd.moves {F : Nat → Prop} {w w' : World} {B n : Nat} {A : Option Addr} {xs : List Value} (h : Rd w B A n xs) (hm : Moves F w w') (hB : B ≤ w.heap.size) (hF : 0 < n → Off F A) : Rd w' B A n xs :=
  ⟨h.1, fun hn => by
    obtain ⟨b, o, e, hb, hc⟩ := h.2 hn
    exact ⟨b, o, e, hb, fun j u hu => (hm.cell (p := ⟨b, o + j, Option.none⟩) (by show b < _; omega) (hF hn ⟨b, o, Option.none⟩ e)).trans (hc j u hu)⟩⟩
theorem own_moves {F : Nat → Prop} {w w' : World} {base : Nat} {e : TypeId} {v : Value} {n : Nat} {xs : List Value} (h : w.ownsRow base e 1 v n xs) (hm : Moves F w w') (hF : ∀ k, v.ownBlock = some k → ¬ F k) : w'.ownsRow base e 1 v n xs := by
  refine ⟨h.1, ?_⟩
  rcases h.2 with h' | ⟨g, cap, cur, rfl, hg, hh, hr⟩
  · exact .inl h'
  · exact .inr ⟨g, cap, cur, rfl, hg, by rw [hm.block g (Array.getElem?_eq_some_iff.1 hh).1 (hF g rfl)]; exact hh, hr⟩

/-- What a slice may look like: nil, or an address and room. -/
def SlOK (A : Option Addr) (n c : Nat) : Prop := (A = none ∧ n = 0 ∧ c = 0) ∨ ∃ a, A = some a ∧ n ≤ c ∧ c ≤ maxLen
/-- .. the address plain. -/
def SlF (A : Option Addr) (n c : Nat) : Prop := (A = none ∧ n = 0 ∧ c = 0) ∨ ∃ b o, A = some ⟨b, o, none⟩ ∧ n ≤ c ∧ c ≤ maxLen
theorem SlOK.nil : SlOK none 0 0 := .inl ⟨rfl, rfl, rfl⟩
theorem SlF.nil : SlF none 0 0 := .inl ⟨rfl, rfl, rfl⟩
theorem SlF.ok {A : Option Addr} {n c : Nat} (h : SlF A n c) : SlOK A n c := by
  rcases h with h | ⟨b, o, e, h⟩
  · exact .inl h
  · exact .inr ⟨_, e, h⟩
theorem SlOK.le {A : Option Addr} {n c : Nat} (h : SlOK A n c) : n ≤ c ∧ c ≤ maxLen := by
  rcases h with ⟨_, h1, h2⟩ | ⟨_, _, h⟩
  · subst h1; subst h2; exact ⟨Nat.le_refl _, Nat.zero_le _⟩
  · exact h
theorem SlF.le {A : Option Addr} {n c : Nat} (h : SlF A n c) : n ≤ c ∧ c ≤ maxLen := h.ok.le
theorem SlF.of_own {w : World} {base : Nat} {e : TypeId} {A : Option Addr} {n c : Nat} {xs : List Value} (h : w.ownsRow base e 1 (.slice A n c) n xs) : SlF A n c := by
  rcases h.2 with ⟨h1, _⟩ | ⟨g, cap, cur, h1, _, _, h2, h3, _⟩
  · injection h1 with h1 h2 h3
    exact .inl ⟨h1, h2, h3⟩
  · injection h1 with h1 _ h4
    subst h4
    exact .inr ⟨g, 0, h1, h2, h3⟩
theorem SlOK.of_own {w : World} {base : Nat} {e : TypeId} {A : Option Addr} {n c : Nat} {xs : List Value} (h : w.ownsRow base e 1 (.slice A n c) n xs) : SlOK A n c := (SlF.of_own h).ok

/-- What is read behind the first k. -/
theorem Rd.tail {w : World} {B n k b o : Nat} {xs : List Value} (h : Rd w B (some ⟨b, o, none⟩) n xs) (hk : k ≤ n) : Rd w B (some ⟨b, o + k, none⟩) (n - k) (xs.drop k) := by
  refine ⟨by rw [List.length_drop, h.1], fun h0 => ?_⟩
  obtain ⟨b', o', e, hb, hc⟩ := h.2 (by omega)
  injection e with e
  injection e with e1 e2
  subst e1 e2
  refine ⟨b, o + k, rfl, hb, fun j u hu => ?_⟩
  rw [List.getElem?_drop] at hu
  rw [Nat.add_assoc]
  exact hc _ u hu
theorem Rd.none_nil {w : World} {B n : Nat} {xs : List Value} (h : Rd w B none n xs) : n = 0 ∧ xs = [] := by
  have h0 : n = 0 := by
    rcases Nat.eq_zero_or_pos n with h0 | h0
    · exact h0
    · obtain ⟨_, _, e, _⟩ := h.2 h0; cases e
  subst h0
  exact ⟨rfl, List.eq_nil_of_length_eq_zero h.1⟩

/-- Behind a row that is owned stands what is read, be it nothing: 'append(row, other...)'. -/
theorem wp_append_foot {P : Program} {ops : Array Oper} {rest : List Oper} {o : Oper} {a : Act} {w : World} {Q : Exit → Act → World → Prop} (hgd : o.guard = none) (s x : Operand) (t : TypeId)
    (ho : o.op = .call { callee := .builtin .append, args := #[s, x], argTypes := #[t, t] }) (e : TypeId) (ht : P.underlying t = some (.slice e)) (z : Value) (by_ : Nat) (hby : by_ ≤ 16) (hz1 : z.cells.size = 1)
    (hinfo : (P.info? e).map (fun i => (i.zero, i.size, i.bytes)) = some (some z, 1, by_))
    (base n c : Nat) (A : Option Addr) (xs : List Value) (hs : a.eval s = .slice A n c) (hown : w.ownsRow base e 1 (.slice A n c) n xs)
    (B m c2 : Nat) (A2 : Option Addr) (news : List Value) (hx : a.eval x = .slice A2 m c2) (hr : Rd w B A2 m news) (hok : SlOK A2 m c2) (hone : ∀ u ∈ news, u.oneCell' = true)
    (hn : n + m ≤ 8796093022208) (hbase : base ≤ w.heap.size)
    (h : ∀ A' c' w', w'.ownsRow base e 1 (.slice A' (n + m) c') (n + m) (xs ++ news) → w.grownBy w' (Value.slice A n c).ownBlock → ((Value.slice A' (n + m) c').ownBlock = (Value.slice A n c).ownBlock ∨ (Value.slice A' (n + m) c').ownBlock = some w.heap.size) →
      wpList P ops Q rest (a.put o.dst (.slice A' (n + m) c')) w') :
    wpList P ops Q (o :: rest) a w := by
  obtain ⟨i0, hi, hi0, hi1, hi2⟩ := info_parts hinfo
  have hmul : (n + m) * by_ ≤ (n + m) * 16 := Nat.mul_le_mul_left _ hby
  rcases hok with ⟨rfl, rfl, rfl⟩ | ⟨a2, rfl, _, _⟩
  · have h0 := List.eq_nil_of_length_eq_zero hr.1
    subst h0
    refine wpList_append_own_none hgd s x t ho base e i0 1 ht hi (.slice A n c) n xs hs hown hx ?_
    have := h A c w (by simpa using hown) ⟨rfl, rfl, rfl, Nat.le_refl _, fun _ _ _ => rfl⟩ (.inl (by cases A <;> rfl))
    simpa using this
  · refine wpList_append_own_at w hgd s x t ho base e i0 z 1 by_ ht hi hi0 hi1 hi2 hz1 (by omega) (.slice A n c) n xs hs hown a2 m c2 news hx (by rw [hr.1]; omega) ?_ hone (by unfold maxLen; omega) (by omega) hbase ?_
    · intro j u hj
      obtain ⟨b', o', e1, _, hc⟩ := hr.2 (by have := (List.getElem?_eq_some_iff.1 hj).1; have := hr.1; omega)
      injection e1 with e1
      subst e1
      rw [add_flat]
      exact hc j u hj
    · intro v' w' h1 h2 _ h4
      obtain ⟨A', n', c', rfl, hn'⟩ : ∃ A' n' c', v' = .slice A' n' c' ∧ n' = n + m := by
        rcases h1.2 with ⟨rfl, h0⟩ | ⟨g, cap, _, rfl, _⟩
        · exact ⟨none, 0, 0, rfl, h0.symm⟩
        · exact ⟨_, _, _, rfl, rfl⟩
      subst hn'
      exact h A' c' w' h1 h2 h4

end Go.Proofs.YtacbpdampdikjaaDoor

namespace Go.Proofs.YtacbpdampdikjaaDoor
open Go.RowKit

def sameL (a b : List UInt8) : Bool := decide (a = b)
theorem sameL_self (a : List UInt8) : sameL a a = true := by simp [sameL]
theorem take_succ_get {α : Type} (l : List α) (k : Nat) (h : k < l.length) : l.take (k + 1) = l.take k ++ [l[k]] := by
  rw [List.take_succ_eq_append_getElem h]

theorem byte_eq {a b : UInt8} (h : (a.toNat : Int) = (b.toNat : Int)) : a = b := by
  have : a.toNat = b.toNat := by omega
  exact UInt8.toNat_inj.1 this
theorem same_step {xs ys : List UInt8} {k : Nat} (hx : k < xs.length) (hy : k < ys.length) (ht : xs.take k = ys.take k) (h : ((xs[k].toNat : Int) != (ys[k].toNat : Int)) = false) :
    xs.take (k + 1) = ys.take (k + 1) := by
  have := byte_eq (by simpa using h)
  rw [take_succ_get _ _ hx, take_succ_get _ _ hy, ht, this]
theorem same_not {xs ys : List UInt8} {k : Nat} (hx : k < xs.length) (hy : k < ys.length) (h : ((xs[k].toNat : Int) != (ys[k].toNat : Int)) = true) : sameL xs ys = false := by
  refine decide_eq_false (fun e => ?_)
  subst e
  simp at h
theorem same_all {xs ys : List UInt8} {k : Nat} (hx : xs.length ≤ k) (hy : ys.length ≤ k) (ht : xs.take k = ys.take k) : sameL xs ys = true := by
  rw [List.take_of_length_le hx, List.take_of_length_le hy] at ht
  exact decide_eq_true ht

/-- The lowest bytes of m, k of them, the highest first. -/
def putL : Nat → Nat → List UInt8
  | _, 0 => []
  | m, k + 1 => putL (m / 256) k ++ [UInt8.ofNat m]
theorem putL_length (m k : Nat) : (putL m k).length = k := by
  induction k generalizing m with
  | zero => rfl
  | succ k ih => simp [putL, ih]
theorem putL_zero (k : Nat) : putL 0 k = List.replicate k 0 := by
  induction k with
  | zero => rfl
  | succ k ih => simp only [putL, Nat.zero_div, ih]; rw [List.replicate_succ']; rfl

/-- What Put answers. -/
def putR (m : Nat) (size : Int) : List UInt8 := if 1 ≤ size ∧ size ≤ 8 then putL m size.toNat else []

theorem set_front (q : Nat) (b : UInt8) (done : List UInt8) : (List.replicate (q + 1) 0 ++ done).set q b = List.replicate q 0 ++ b :: done := by
  rw [List.set_append_left _ _ (by simp), List.replicate_succ', List.set_append_right _ _ (by simp)]
  simp

/-- Nothing: a nil slice. -/
theorem newB_nil (e : TypeId) (w w' : World) (hb : Below w.heap.size w w') : NewB e w [] (.returned (.slice none 0 0)) w' :=
  ⟨none, 0, rfl, World.ownsRow_nil _ _ _ _, hb⟩

/-- The number of bytes, the highest first. -/
def getL (l : List UInt8) : Nat := l.foldl (fun n b => n * 256 + b.toNat) 0
theorem getL_snoc (l : List UInt8) (b : UInt8) : getL (l ++ [b]) = getL l * 256 + b.toNat := by simp [getL]
theorem getL_fold (l : List UInt8) : ∀ a : Nat, l.foldl (fun n b => n * 256 + b.toNat) a < (a + 1) * 256 ^ l.length := by
  induction l with
  | nil => intro a; simp
  | cons b l ih =>
    intro a
    rw [List.foldl_cons, List.length_cons, Nat.pow_succ]
    refine Nat.lt_of_lt_of_le (ih _) ?_
    rw [Nat.mul_comm (256 ^ l.length) 256, ← Nat.mul_assoc]
    refine Nat.mul_le_mul_right _ ?_
    have := b.toNat_lt
    omega
theorem getL_lt (l : List UInt8) : getL l < 256 ^ l.length := by simpa [getL] using getL_fold l 0
theorem getL_take_lt {l : List UInt8} {k : Nat} (hk : k ≤ 7) : getL (l.take k) < 72057594037927936 := by
  have h := getL_lt (l.take k)
  have h2 : 256 ^ (l.take k).length ≤ 256 ^ 7 := Nat.pow_le_pow_right (by omega) (Nat.le_trans (List.length_take_le _ _) hk)
  omega

/-- What Get answers: the number, and a fault. -/
def getV (l : List UInt8) : Value := if 1 ≤ l.length ∧ l.length ≤ 8 then .tuple #[.int .u64 (getL l), .int .i64 0] else .tuple #[.int .u64 0, .int .i64 4]

theorem or_byte (a b : Nat) (ha : a < 72057594037927936) (hb : b < 256) : bits .or .u64 ((a : Int) * 256) (b : Int) = ((a * 256 + b : Nat) : Int) := by
  have h := u64_or_nat (a * 256) b (by omega) (by omega)
  rw [Int.natCast_mul] at h
  rw [show ((a : Int) * 256) = (a : Int) * ((256 : Nat) : Int) from rfl, h, nat_join 8 (a * 256) b (by omega) (by omega)]


/-- Digits, and the number that they are. -/
def isDig (b : UInt8) : Bool := decide (48 ≤ (b.toNat : Int) ∧ (b.toNat : Int) ≤ 57)
def numL (l : List UInt8) : Nat := l.foldl (fun n b => 10 * n + (b.toNat - 48)) 0
theorem numL_snoc (l : List UInt8) (b : UInt8) : numL (l ++ [b]) = 10 * numL l + (b.toNat - 48) := by simp [numL]
theorem numL_fold (l : List UInt8) (h : l.all isDig = true) : ∀ a : Nat, l.foldl (fun n b => 10 * n + (b.toNat - 48)) a < (a + 1) * 10 ^ l.length := by
  induction l with
  | nil => intro a; simp
  | cons b l ih =>
    intro a
    simp only [List.all_cons, Bool.and_eq_true] at h
    rw [List.foldl_cons, List.length_cons, Nat.pow_succ]
    refine Nat.lt_of_lt_of_le (ih h.2 _) ?_
    rw [Nat.mul_comm (10 ^ l.length) 10, ← Nat.mul_assoc]
    refine Nat.mul_le_mul_right _ ?_
    have := h.1
    simp only [isDig, decide_eq_true_eq] at this
    omega
theorem numL_lt (l : List UInt8) (h : l.all isDig = true) : numL l < 10 ^ l.length := by simpa [numL] using numL_fold l h 0
theorem numL_take_lt {l : List UInt8} {k : Nat} (h : (l.take k).all isDig = true) (hk : k ≤ 17) : numL (l.take k) < 100000000000000000 := by
  have h1 := numL_lt (l.take k) h
  have h2 : 10 ^ (l.take k).length ≤ 10 ^ 17 := Nat.pow_le_pow_right (by omega) (Nat.le_trans (List.length_take_le _ _) hk)
  omega
theorem dig_not {l : List UInt8} {k : Nat} (hk : k < l.length) (h : isDig l[k] = false) : l.all isDig = false := by
  rw [List.all_eq_false]
  exact ⟨l[k], List.getElem_mem hk, by simp [h]⟩
theorem dig_step {l : List UInt8} {k : Nat} (hk : k < l.length) (h : isDig l[k] = true) (ht : (l.take k).all isDig = true) : (l.take (k + 1)).all isDig = true := by
  rw [take_succ_get _ _ hk, List.all_append, ht]
  simp [h]
/-- What Parse answers: the number, and a fault. -/
def parseBad (l : List UInt8) : Bool := decide (l.length < 1) || decide (18 < l.length) || (decide (1 < l.length) && decide (l.head? = some 48))
def parseV (l : List UInt8) (most : Int) : Value :=
  if parseBad l || !l.all isDig then .tuple #[.int .i64 0, .int .i64 3]
  else if most < numL l then .tuple #[.int .i64 0, .int .i64 2] else .tuple #[.int .i64 (numL l), .int .i64 0]

/-- A string's bytes as a list. -/
theorem str_len (s : ByteArray) : s.data.toList.length = s.size := by simp
theorem str_get (s : ByteArray) (k : Nat) (h : k < s.size) : s.data.toList[k]'(by simpa using h) = s[k] := rfl
theorem str_take (s : ByteArray) (k : Nat) (h : k < s.size) : s.data.toList.take (k + 1) = s.data.toList.take k ++ [s[k]] := by
  rw [take_succ_get _ _ (by simpa using h), str_get s k h]
theorem str_head (s : ByteArray) (h : 0 < s.size) : s.data.toList.head? = some s[0] := by
  rw [List.head?_eq_getElem?, List.getElem?_eq_getElem (by simpa using h), str_get s 0 h]
theorem parse_syn {l : List UInt8} (most : Int) (h : parseBad l = true) : parseV l most = .tuple #[.int .i64 0, .int .i64 3] := by
  rw [parseV, if_pos (by rw [h]; rfl)]
theorem parse_sig {l : List UInt8} (most : Int) (h : l.all isDig = false) : parseV l most = .tuple #[.int .i64 0, .int .i64 3] := by
  rw [parseV, if_pos (by rw [h]; simp)]
theorem parse_far {l : List UInt8} (most : Int) (h0 : parseBad l = false) (h : l.all isDig = true) (hm : most < numL l) : parseV l most = .tuple #[.int .i64 0, .int .i64 2] := by
  rw [parseV, if_neg (by rw [h0, h]; simp), if_pos hm]
theorem parse_ok {l : List UInt8} (most : Int) (h0 : parseBad l = false) (h : l.all isDig = true) (hm : (numL l : Int) ≤ most) : parseV l most = .tuple #[.int .i64 (numL l), .int .i64 0] := by
  rw [parseV, if_neg (by rw [h0, h]; simp), if_neg (by omega)]
theorem parseBad_few {s : ByteArray} (h : s.size < 1) : parseBad s.data.toList = true := by unfold parseBad; rw [str_len, decide_eq_true h]; rfl
theorem parseBad_many {s : ByteArray} (h : 18 < s.size) : parseBad s.data.toList = true := by unfold parseBad; rw [str_len, decide_eq_true h, Bool.or_true]; rfl
theorem parseBad_ahead {s : ByteArray} (h : 1 < s.size) (h0 : ((s[0].toNat : Int) == 48) = true) : parseBad s.data.toList = true := by
  have e : s[0] = 48 := UInt8.toNat_inj.1 (by have := beq_iff_eq.1 h0; simp; omega)
  unfold parseBad
  rw [str_head s (by omega), e, str_len]
  simp; omega
theorem parseBad_one {s : ByteArray} (h : s.size = 1) : parseBad s.data.toList = false := by simp [parseBad, h]
theorem parseBad_more {s : ByteArray} (h : 1 < s.size) (h18 : s.size ≤ 18) (h0 : ((s[0].toNat : Int) == 48) = false) : parseBad s.data.toList = false := by
  unfold parseBad
  rw [str_head s (by omega), str_len]
  have e : ¬ (some s[0] = some (48 : UInt8)) := fun e => by injection e with e; rw [e] at h0; simp at h0
  rw [decide_eq_false e, decide_eq_false (show ¬ s.size < 1 by omega), decide_eq_false (show ¬ 18 < s.size by omega), Bool.and_false]
  rfl
theorem isDig_yes {b : UInt8} (h : isDig b = true) : 48 ≤ (b.toNat : Int) ∧ (b.toNat : Int) ≤ 57 := by simpa [isDig] using h
theorem isDig_no {b : UInt8} (h : (b.toNat : Int) < 48 ∨ 57 < (b.toNat : Int)) : isDig b = false := decide_eq_false (by omega)

theorem getV_form (l : List UInt8) : ∃ (x f : Nat), getV l = .tuple #[.int .u64 x, .int .i64 f] := by
  unfold getV
  split
  · exact ⟨getL l, 0, rfl⟩
  · exact ⟨0, 4, rfl⟩
theorem parseV_form (l : List UInt8) (most : Int) : ∃ (x f : Nat), parseV l most = .tuple #[.int .i64 x, .int .i64 f] := by
  unfold parseV
  split
  · exact ⟨0, 3, rfl⟩
  · split
    · exact ⟨0, 2, rfl⟩
    · exact ⟨numL l, 0, rfl⟩

end Go.Proofs.YtacbpdampdikjaaDoor

namespace Go.Proofs

theorem Tryd.info_u8 : (Tryd.prog.info? 5).map (fun i => (i.zero, i.size, i.bytes)) = some (some (.int .u8 0), 1, 1) := by kernel_rfl

end Go.Proofs

namespace Go.Proofs.YtacbpdampdikjaaDoor
open Go.RowKit

theorem mul64_64 (w : World) : Calls Tryd.prog 76 #[.int .u64 1, .int .u64 64] w fun e w' => e = .returned (.tuple #[.int .u64 0, .int .u64 64]) ∧ w' = w := by
  go_enter Tryd.func76, Tryd.ntmps76
  go_wp2
  go_ret2
  exact ⟨rfl, rfl⟩

theorem mul_64 (w : World) : Calls Tryd.prog 57 #[.int .u64 1, .int .u64 64] w fun e w' => e = .returned (.tuple #[.int .u64 0, .int .u64 64]) ∧ w' = w := by
  go_enter Tryd.func57, Tryd.ntmps57
  go_wp2_with (refine (mul64_64 _).mono ?_; rintro e w' ⟨rfl, rfl⟩)
  go_ret2
  exact ⟨rfl, rfl⟩

/-- The first p cells of a block hold v. -/
def Front (w : World) (e : TypeId) (g p n : Nat) (v : Value) : Prop := ∃ cur : List Value, w.heap[g]? = some (.cells cur.toArray e (0, 0)) ∧ n ≤ cur.length ∧ cur.take p = List.replicate p v

theorem Front.rd {w : World} {e : TypeId} {g p n : Nat} {v : Value} (h : Front w e g p n v) : Rd w w.heap.size (some ⟨g, 0, none⟩) p (List.replicate p v) := by
  obtain ⟨cur, hg, hn, ht⟩ := h
  refine ⟨by simp, fun _ => ⟨g, 0, rfl, (Array.getElem?_eq_some_iff.1 hg).1, fun j u hj => ?_⟩⟩
  rw [Nat.zero_add, cell_of_row w g j cur.toArray e (0, 0) hg, List.getElem?_toArray]
  rw [← ht, List.getElem?_take] at hj
  split at hj
  · exact hj
  · cases hj

theorem Front.drew {w : World} {e : TypeId} {g p n : Nat} {v : Value} (h : Front w e g p n v) : Front w.drew e g p n v := h

/-- What stands in front is laid once more behind it. -/
theorem front_more {cur : List Value} {p q n : Nat} {v : Value} (hn : n ≤ cur.length) (ht : cur.take p = List.replicate p v) (hp : p + q ≤ n) :
    n ≤ (splice cur p (List.replicate q v)).length ∧ (splice cur p (List.replicate q v)).take (p + q) = List.replicate (p + q) v := by
  refine ⟨by rw [length_splice _ _ _ (by rw [List.length_replicate]; omega)]; exact hn, ?_⟩
  rw [splice, ht, ← List.append_assoc, List.replicate_append_replicate, List.take_left' (by rw [List.length_replicate])]

/-- 'copy' of what stands in front, or of one cell of it, behind it. -/
theorem wp_copy_front {P : Program} {w : World} {ops : Array Oper} {rest : List Oper} {o : Oper} {a : Act} {Q : Exit → Act → World → Prop} (hgd : o.guard = none) (d s : Operand) (dT sT : TypeId)
    (ho : o.op = .call { callee := .builtin .copy, args := #[d, s], argTypes := #[dT, sT] }) (e : TypeId) (hu : P.underlying dT = some (.slice e)) (hsz : (P.info? e).map (·.size) = some 1)
    (g p q n m dl dc sc b2 o2 : Nat) (v : Value) (h1 : v.oneCell' = true) (hd : a.eval d = .slice (some ⟨g, p, none⟩) dl dc) (hs : a.eval s = .slice (some ⟨b2, o2, none⟩) m sc) (hq : q = Nat.min m dl) (hp : p + q ≤ n)
    (hf : Front w e g p n v) (hr : ∀ j, j < q → w.cell? ⟨b2, o2 + j, none⟩ = some v) (B0 : Nat) (w0 : World) (hb : Below B0 w0 w) (hBg : B0 ≤ g)
    (h : ∀ w', Front w' e g (p + q) n v → Below B0 w0 w' → wpList P ops Q rest (a.put o.dst (.int .i64 (q : Int))) w') :
    wpList P ops Q (o :: rest) a w := by
  obtain ⟨cur, hg, hn, ht⟩ := hf
  obtain ⟨h2, h3⟩ := front_more (q := q) hn ht hp
  refine wpList_copy_splice hgd d s dT sT ho e hu hsz _ _ dl dc m sc hd hs g p cur e hg (List.replicate q v) (by rw [List.length_replicate]; exact hq) ?_ (by rw [List.length_replicate]; omega) (fun u hu => by rw [List.eq_of_mem_replicate hu]; exact h1) B0 w0 hb hBg ?_
  · intro _
    refine ⟨rfl, _, rfl, fun j u hj => ?_⟩
    rw [add_flat]
    have hj' := (List.getElem?_eq_some_iff.1 hj).1
    rw [List.length_replicate] at hj'
    rw [List.getElem?_replicate, if_pos hj'] at hj
    rw [hr j hj', hj]
  · intro w' hw' hb'
    rw [List.length_replicate]
    exact h w' ⟨_, hw'.out, h2, h3⟩ hb'

/-- .. in a region that draws its order. -/
theorem step_copy_front {P : Program} {ops : Array Oper} {o : Oper} {a : Act} {w : World} {K : Act → World → Prop} {Q : Exit → Act → World → Prop} {E : Prop} (hgd : o.guard = none) (d s : Operand) (dT sT : TypeId)
    (ho : o.op = .call { callee := .builtin .copy, args := #[d, s], argTypes := #[dT, sT] }) (e : TypeId) (hu : P.underlying dT = some (.slice e)) (hsz : (P.info? e).map (·.size) = some 1)
    (g p q n m dl dc sc b2 o2 : Nat) (v : Value) (h1 : v.oneCell' = true) (hd : a.eval d = .slice (some ⟨g, p, none⟩) dl dc) (hs : a.eval s = .slice (some ⟨b2, o2, none⟩) m sc) (hq : q = Nat.min m dl) (hp : p + q ≤ n)
    (hf : Front w e g p n v) (hr : ∀ j, j < q → w.cell? ⟨b2, o2 + j, none⟩ = some v) (B0 : Nat) (w0 : World) (hb : Below B0 w0 w) (hBg : B0 ≤ g)
    (h : ∀ w', Front w' e g (p + q) n v → Below B0 w0 w' → K (a.put o.dst (.int .i64 (q : Int))) w') :
    if Region.wanted o (yielded ops a.tmps) = true then Oper.wp P o a w K Q else E := by
  obtain ⟨cur, hg, hn, ht⟩ := hf
  obtain ⟨h2, h3⟩ := front_more (q := q) hn ht hp
  refine step_copy_splice hgd d s dT sT ho e hu hsz _ _ dl dc m sc hd hs g p cur e hg (List.replicate q v) (by rw [List.length_replicate]; exact hq) ?_ (by rw [List.length_replicate]; omega) (fun u hu => by rw [List.eq_of_mem_replicate hu]; exact h1) B0 w0 hb hBg ?_
  · intro _
    refine ⟨rfl, _, rfl, fun j u hj => ?_⟩
    rw [add_flat]
    have hj' := (List.getElem?_eq_some_iff.1 hj).1
    rw [List.length_replicate] at hj'
    rw [List.getElem?_replicate, if_pos hj'] at hj
    rw [hr j hj', hj]
  · intro w' hw' hb'
    rw [List.length_replicate]
    exact h w' ⟨_, hw'.out, h2, h3⟩ hb'

theorem size_u8 (w : World) : (Go.sizeOf 5).run Tryd.prog w = .ok 1 w := by simp [go_sem]

/-- 'nb[bp:]' and 'nb[:bp]' of 64 bytes. -/
theorem slice_from (W : World) (g p : Nat) (hp : p < 64) :
    (Instr.slice 22 (.slice (some ⟨g, 0, none⟩) 64 64) (some (.int .i64 (p : Int))) none none).run Tryd.prog W = .ok (.slice (some ⟨g, p, none⟩) (64 - p) (64 - p)) W := by
  rw [Lib.run_slice_tailV W _ _ Tryd.underlying22 size_u8 g 64 p (by omega), Lib.tailV, if_neg (by omega)]
theorem slice_to (W : World) (g p : Nat) (hp : p < 64) :
    (Instr.slice 22 (.slice (some ⟨g, 0, none⟩) 64 64) none (some (.int .i64 (p : Int))) none).run Tryd.prog W = .ok (.slice (some ⟨g, 0, none⟩) p 64) W := by
  have ht' : Tryd.prog.underlying 22 = some (.slice (Tryd.prog.elem 22)) := by simp [Program.elem, Tryd.underlying22]
  have he : Tryd.prog.elem 22 = 5 := by simp [Program.elem, Tryd.underlying22]
  rw [run_slice_h W _ _ _ _ ht' .i64 _ (by omega) (by omega), he, size_u8]
  simp [Result.andThen, sliced, add_flat]

set_option maxRecDepth 100000 in
set_option maxHeartbeats 400000 in
theorem repeat64_any (c b o : Nat) (v : UInt8) (w : World) (hlt : b < w.heap.size) (hc : w.cell? ⟨b, o, none⟩ = some (.int .u8 (v.toNat : Int))) :
    Calls Tryd.prog 39 #[.slice (some ⟨b, o, none⟩) 1 c, .int .i64 64] w fun e w' =>
      e = .returned (.slice (some ⟨w.heap.size, 0, none⟩) 64 64) ∧ Rd w' w'.heap.size (some ⟨w.heap.size, 0, none⟩) 64 (Byt (List.replicate 64 v)) ∧ Below w.heap.size w w' := by
  have hv : ∀ n, Byt (List.replicate n v) = List.replicate n (.int .u8 (v.toNat : Int)) := fun n => by simp [Byt]
  rw [hv]
  clear hv
  obtain ⟨x, hx⟩ : ∃ x : Value, x = .int .u8 (v.toNat : Int) := ⟨_, rfl⟩
  have h1 : x.oneCell' = true := by rw [hx]; rfl
  rw [← hx] at hc ⊢
  clear hx
  obtain ⟨cs, hrunM, hle, hmax⟩ := Lib.run_makeNoZero (P := Tryd.prog) w #[3] 22 5 Tryd.underlying22 64 (by omega)
  have hcall : (callFunc 58 #[.int .i64 64]).run Tryd.prog w = .ok (.value (.slice (some ⟨w.heap.size, 0, none⟩) 64 cs.size)) ((w.alloc (.cells cs 5)).drewN 2) := by
    rw [run_callFunc_extern Tryd.func58 (by kernel_rfl) (by kernel_rfl) (by kernel_rfl) (e := Extern.BytealgMakeNoZero.makeNoZero #[3] #[22]) (by kernel_rfl)]
    erw [hrunM]
    rfl
  clear hrunM
  have i1 : (64 : Int) ≤ (cs.size : Int) := by omega
  have hs5 : (Tryd.prog.info? 5).map (·.size) = some 1 := by kernel_rfl
  have hb0 : Below w.heap.size w ((w.alloc (.cells cs 5)).drewN 2) := bdrewN ((Below.refl _ _).alloc (Nat.le_refl _) _) 2
  have hf0 : Front ((w.alloc (.cells cs 5)).drewN 2) 5 w.heap.size 0 64 x := ⟨cs.toList, by rw [Array.toArray_toList]; exact heap_alloc_new w _, by rw [Array.length_toList]; exact hle, rfl⟩
  have hc0 : ((w.alloc (.cells cs 5)).drewN 2).cell? ⟨b, o, none⟩ = some x := by
    rw [hb0.cell (show b < _ from hlt)]
    exact hc
  have Hf0 := Lib.hid hf0; clear hf0
  have Hc0 := Lib.hid hc0; clear hc0
  have Hb0 := Lib.hid hb0; clear hb0
  go_enter Tryd.func39, Tryd.ntmps39
  go_wp2_with (first
    | (refine (mul_64 _).mono ?_; rintro e w1 ⟨rfl, hw1⟩; rw [hw1]; clear hw1)
    | (refine wp_copy_front rfl (.tmp 58) (.tmp 59) _ _ rfl 5 Tryd.underlying22 hs5 w.heap.size 0 1 64 1 64 64 _ b o x h1 rfl rfl rfl (by decide) Hf0.out (fun j hj => by obtain rfl : j = 0 := (by omega); exact Hc0.out) w.heap.size w Hb0.out (Nat.le_refl _) ?_)
    | fail)
  intro w2 hf2 hb2
  clear hcall Hf0 Hc0 Hb0
  go_wp2
  go_loopw [10] (fun i wr => ∃ p : Nat, 1 ≤ p ∧ p ≤ 64 ∧ i = .int .i64 p ∧ Front wr 5 w.heap.size p 64 x ∧ Below w.heap.size w wr) (fun i _ => 64 - (intOf i).toNat)
  case atStart => exact ⟨1, by decide, by decide, rfl, hf2, hb2⟩
  case round =>
    obtain ⟨p, hp1, hp, rfl, hf, hbr⟩ := hrel
    have Hf := Lib.hid hf; clear hf
    by_cases hlt : p < 64
    · have hm : min (p : Int) 64 = p := by omega
      have hm2 : min 64 (p : Int) = p := by omega
      obtain ⟨q, hq⟩ : ∃ q, q = Nat.min p (64 - p) := ⟨_, rfl⟩
      have hq1 : 1 ≤ q ∧ q ≤ 64 - p ∧ q ≤ p := by
        rw [hq, show Nat.min p (64 - p) = min p (64 - p) from rfl]
        omega
      have hrd : ∀ j, j < q → wr.cell? ⟨w.heap.size, 0 + j, none⟩ = some x := fun j hj => by
        obtain ⟨b', o', e1, _, hc'⟩ := Hf.out.rd.2 (by omega)
        injection e1 with e1
        injection e1 with e1 e2
        subst e1 e2
        exact hc' j x (by rw [List.getElem?_replicate, if_pos (by omega)])
      have i2 : (p : Int) ≤ 64 := by omega
      have i3 : (0 : Int) ≤ (p : Int) := by omega
      have Hq := Lib.hid hq; clear hq
      have hrd : ∀ j, j < q → wr.drew.cell? ⟨w.heap.size, 0 + j, none⟩ = some x := hrd
      have Hbr := Lib.hid hbr; clear hbr
      have hw6 : IntKind.i64.wrap ((p : Int) + (q : Int)) = (p : Int) + (q : Int) := IntWalk.i64_in _ ⟨by omega, by omega⟩
      have hsl1 := fun W => slice_from W w.heap.size p hlt
      have hsl2 := fun W => slice_to W w.heap.size p hlt
      go_wp2
      go_region_law ((refine step_copy_front (by rfl) (.tmp 70) (.tmp 73) 22 22 (by rfl) 5 Tryd.underlying22 hs5 w.heap.size p q 64 p (64 - p) (64 - p) 64 w.heap.size 0 x h1 (by simp [go_sem]) (by simp [go_sem]) Hq.out (by omega) Hf.out.drew hrd w.heap.size w Hbr.out.drew (Nat.le_refl _) ?_; intro w6 hf6 hb6))
      simp [go_sem, Act.put]
      go_roundw
      case rel =>
        refine ⟨_, _, _, _, _, _, _, _, _, _, _, _, _, _, _, _, _, ⟨p + q, by omega, by omega, ?_, hf6, hb6⟩, rfl⟩
        go_num
      case measure => simp [intOf]; omega
    · obtain rfl : p = 64 := by omega
      go_wp2
      go_ret
      exact ⟨rfl, Hf.out.rd, hbr⟩

end Go.Proofs.YtacbpdampdikjaaDoor

namespace Go.Proofs.YtacbpdampdikjaaDoor
open Go.RowKit

/-- What Pad answers. -/
def padL (b : List UInt8) (n : Nat) : List UInt8 := b.take n ++ List.replicate (n - b.length) 0
def padR (b : List UInt8) (size : Int) : List UInt8 := if 1 ≤ size ∧ size ≤ 65536 then padL b size.toNat else []
theorem padL_length (b : List UInt8) (n : Nat) : (padL b n).length = n := by simp [padL]; omega
theorem pad_fin {b : List UInt8} {n k : Nat} (hk : k ≤ n) (hl : k ≤ b.length) (h : n ≤ k ∨ b.length ≤ k) : b.take k ++ List.replicate (n - k) 0 = padL b n := by
  unfold padL
  rcases h with h | h
  · rw [show n = k by omega]
    simp; omega
  · rw [show b.length = k by omega, List.take_of_length_le (by omega), List.take_of_length_le (by omega)]
theorem pad_set {b : List UInt8} {n k : Nat} (hk : k < n) (hl : k < b.length) : (b.take k ++ List.replicate (n - k) 0).set k b[k] = b.take (k + 1) ++ List.replicate (n - (k + 1)) 0 := by
  have h : (b.take k).length = k := by simp; omega
  rw [List.set_append_right _ _ (by omega), h, Nat.sub_self, show n - k = (n - (k + 1)) + 1 by omega, List.replicate_succ, List.set_cons_zero, take_succ_get _ _ hl, List.append_assoc]
  rfl

/-- What Xor answers. -/
def xorL (a b : List UInt8) : List UInt8 := List.zipWith (fun x y => x ^^^ y) a b
theorem xorL_length (a b : List UInt8) : (xorL a b).length = min a.length b.length := by simp [xorL]
theorem xorL_get {a b : List UInt8} {k : Nat} (ha : k < a.length) (hb : k < b.length) : (xorL a b)[k]'(by rw [xorL_length]; omega) = a[k] ^^^ b[k] := by simp [xorL]
theorem xorL_step {a b : List UInt8} {k : Nat} (ha : k < a.length) (hb : k < b.length) : (xorL a b).take (k + 1) = (xorL a b).take k ++ [a[k] ^^^ b[k]] := by
  rw [take_succ_get _ _ (by rw [xorL_length]; omega), xorL_get ha hb]
theorem xor_u8 (a b : UInt8) : bits .xor .u8 (a.toNat : Int) (b.toNat : Int) = ((a ^^^ b).toNat : Int) := by
  rw [u8_xor_nat _ _ a.toNat_lt b.toNat_lt, UInt8.toNat_xor]
theorem fill_set (l : List UInt8) {n k : Nat} (b : UInt8) (hk : k < n) (h : l.length = k) : (l ++ List.replicate (n - k) 0).set k b = (l ++ [b]) ++ List.replicate (n - (k + 1)) 0 := by
  rw [List.set_append_right _ _ (by omega), h, Nat.sub_self, show n - k = (n - (k + 1)) + 1 by omega, List.replicate_succ, List.set_cons_zero, List.append_assoc]
  rfl

end Go.Proofs.YtacbpdampdikjaaDoor

namespace Go.Proofs.YtacbpdampdikjaaDoor
open Go.RowKit

set_option maxRecDepth 4096 in
set_option maxHeartbeats 800000 in
theorem xor_any (B m c n d : Nat) (A C : Option Addr) (xs ys : List UInt8) (w : World) (hx : Rd w B A m (Byt xs)) (hy : Rd w B C n (Byt ys)) (hm : m ≤ 140737488355328) (hn : n ≤ 140737488355328) (hB : B ≤ w.heap.size) :
    Calls Tryd.prog 26 #[.slice A m c, .slice C n d] w (NewB 5 w (xorL xs ys)) := by
  have hxl := hx.bytes
  have hyl := hy.bytes
  have Hx := Lib.hid hxl; clear hxl
  have Hy := Lib.hid hyl; clear hyl
  rcases Nat.lt_or_ge n m with h | h
  · have hmin : min (m : Int) (n : Int) = (n : Int) := by omega
    go_enter Tryd.func26, Tryd.ntmps26
    go_wp2_with (refine wp_make_bytes rfl _ _ 22 rfl 5 Tryd.underlying22 Tryd.info_u8 n rfl rfl (by omega) ?_)
    intro w1 hown hb
    go_wp2
    go_loopw [6, 15] (fun _ i wr => ∃ k : Nat, k ≤ n ∧ i = .int .i64 k ∧
      wr.ownsRow w.heap.size 5 1 (.slice (some ⟨w.heap.size, 0, none⟩) n n) n (Byt ((xorL xs ys).take k ++ List.replicate (n - k) 0)) ∧ Below w.heap.size w wr) (fun _ i _ => n - (intOf i).toNat)
    case atStart => exact ⟨0, Nat.zero_le _, rfl, by simpa using hown, hb⟩
    case round =>
      obtain ⟨k, hk, rfl, hownr, hbr⟩ := hrel
      by_cases hlt : k < n
      · have hkx : k < xs.length := by rw [Hx.out]; omega
        have hky : k < ys.length := by rw [Hy.out]; omega
        have hkm : k < m := by omega
        have hkn : k < n := by omega
        obtain ⟨b, o, rfl, hbB, hc⟩ := (hx.below (hbr.mono hB)).byte hkm hkx
        obtain ⟨b', o', rfl, hbB', hc'⟩ := (hy.below (hbr.mono hB)).byte hkn hky
        obtain ⟨u, hu⟩ := own_any hownr hlt
        have hf := hownr.frozenAt k
        go_wp2
        go_still_tail 12, (by kernel_rfl)
        go_wp2
        go_roundw
        case rel =>
          have h2 := own_put hownr k (bits .xor .u8 (xs[k].toNat : Int) (ys[k].toNat : Int)) (xs[k] ^^^ ys[k]) (xor_u8 _ _)
          rw [fill_set _ _ hlt (by rw [List.length_take, xorL_length, Hx.out, Hy.out]; omega), ← xorL_step hkx hky] at h2
          exact ⟨k + 1, by omega, by go_num, h2, (hbr.setCell (p := ⟨w.heap.size, k, none⟩) (Nat.le_refl _) _).drew⟩
        case measure => simp [intOf]; omega
      · go_wp2
        go_ret
        have hl : (xorL xs ys).length = n := by rw [xorL_length, Hx.out, Hy.out]; omega
        rw [show k = n by omega, Nat.sub_self, List.replicate_zero, List.append_nil, List.take_of_length_le (by omega)] at hownr
        exact ⟨some ⟨w.heap.size, 0, none⟩, n, by rw [hl]; rfl, by rw [hl]; exact hownr, hbr⟩
  · have hmin : min (m : Int) (n : Int) = (m : Int) := by omega
    go_enter Tryd.func26, Tryd.ntmps26
    go_wp2_with (refine wp_make_bytes rfl _ _ 22 rfl 5 Tryd.underlying22 Tryd.info_u8 m rfl rfl (by omega) ?_)
    intro w1 hown hb
    go_wp2
    go_loopw [6, 15] (fun _ i wr => ∃ k : Nat, k ≤ m ∧ i = .int .i64 k ∧
      wr.ownsRow w.heap.size 5 1 (.slice (some ⟨w.heap.size, 0, none⟩) m m) m (Byt ((xorL xs ys).take k ++ List.replicate (m - k) 0)) ∧ Below w.heap.size w wr) (fun _ i _ => m - (intOf i).toNat)
    case atStart => exact ⟨0, Nat.zero_le _, rfl, by simpa using hown, hb⟩
    case round =>
      obtain ⟨k, hk, rfl, hownr, hbr⟩ := hrel
      by_cases hlt : k < m
      · have hkx : k < xs.length := by rw [Hx.out]; omega
        have hky : k < ys.length := by rw [Hy.out]; omega
        have hkm : k < m := by omega
        have hkn : k < n := by omega
        obtain ⟨b, o, rfl, hbB, hc⟩ := (hx.below (hbr.mono hB)).byte hkm hkx
        obtain ⟨b', o', rfl, hbB', hc'⟩ := (hy.below (hbr.mono hB)).byte hkn hky
        obtain ⟨u, hu⟩ := own_any hownr hlt
        have hf := hownr.frozenAt k
        go_wp2
        go_still_tail 12, (by kernel_rfl)
        go_wp2
        go_roundw
        case rel =>
          have h2 := own_put hownr k (bits .xor .u8 (xs[k].toNat : Int) (ys[k].toNat : Int)) (xs[k] ^^^ ys[k]) (xor_u8 _ _)
          rw [fill_set _ _ hlt (by rw [List.length_take, xorL_length, Hx.out, Hy.out]; omega), ← xorL_step hkx hky] at h2
          exact ⟨k + 1, by omega, by go_num, h2, (hbr.setCell (p := ⟨w.heap.size, k, none⟩) (Nat.le_refl _) _).drew⟩
        case measure => simp [intOf]; omega
      · go_wp2
        go_ret
        have hl : (xorL xs ys).length = m := by rw [xorL_length, Hx.out, Hy.out]; omega
        rw [show k = m by omega, Nat.sub_self, List.replicate_zero, List.append_nil, List.take_of_length_le (by omega)] at hownr
        exact ⟨some ⟨w.heap.size, 0, none⟩, m, by rw [hl]; rfl, by rw [hl]; exact hownr, hbr⟩

end Go.Proofs.YtacbpdampdikjaaDoor

/-
  A range over a function whose rounds are never broken off, the elements told as they come: what is told of each is that it reads as bytes. No program is named here.
-/
namespace Go.Proofs.YtacbpdampdikjaaDoor
open Go.RowKit Go.Shelf

/-- What a round is told: a slice that reads as these bytes. -/
def Elt (v : Value) (x : List UInt8) (W : World) : Prop := ∃ A n c, v = .slice A n c ∧ Rd W W.heap.size A n (Byt x) ∧ n ≤ c ∧ n ≤ 64
/-- What turned block gh alone, as a round may. -/
def Turns (gh : Nat) (W W' : World) : Prop := Moves (fun k => k = gh) W W' ∧ KeepsOthers W W'
/-- The caller's word: each round goes on. -/
def Sq (P : Program) (l gh : Nat) (J : List (List UInt8) → World → Prop) : Prop :=
  ∀ (m : Nat) (pre : List (List UInt8)) (x : List UInt8) (v : Value) (W : World), J pre W → Elt v x W → YieldAt Fence.wide m P l #[v] W fun e W' => e = .returned (.bool true) ∧ J (pre ++ [x]) W' ∧ Turns gh W W'
/-- What speaks of nothing from B on. -/
def Rests (B : Nat) (J : List (List UInt8) → World → Prop) : Prop := ∀ pre X Y, J pre X → Moves (fun k => B ≤ k) X Y → J pre Y
theorem Elt.small {v : Value} {x : List UInt8} {W : World} (h : Elt v x W) : x.length ≤ 64 := by
  obtain ⟨A, n, c, rfl, h1, _, h2⟩ := h
  have := h1.bytes; omega

theorem moves_put {F : Nat → Prop} (W : World) (l : Nat) (o : Obj) (hl : F l) : Moves F W (W.putObj l o) :=
  (Moves.refl F W).grown (grownBy_putObj' W l o) (fun k e => by cases e; exact .inl hl)

theorem wpIn_range_all {P : Program} {n : Nat} {g : Operand} {ps : Array Tmp} {assign body : Code} {Q : Exit → Act → World → Prop} {a : Act} {w : World} (h1 : 1 ≤ n) {gf : Nat} {lb : Array Value}
    (hg : a.eval g = .func (.func gf) #[] lb) (eg : ∀ args w, (callFunc gf args).run P w = .ok (.enter gf args) w) (gh : Nat) (hgh : gh < w.heap.size) (Fin : List (List UInt8))
    (I : List (List UInt8) → World → Prop) (hI : Rests w.heap.size I) (h0 : I [] w) (hps : ps.size = 1)
    (hseq : ∀ (l : Nat) (J : List (List UInt8) → World → Prop) (W : World), Below w.heap.size w W → w.heap.size ≤ W.heap.size → Rests W.heap.size J → Sq P l gh J → J [] W →
      CallsIn Fence.wide (n - 1) P gf (#[.func (.yield l) #[] #[]] ++ lb) W fun e W' => (∃ v, e = .returned v) ∧ J Fin W')
    (a₁ : Value → Act)
    (hassign : ∀ (m l : Nat) (v : Value) (W : World) (K : Act → World → Prop), K (a₁ v) W → assign.wpIn (Fence.wide.inRound l) m P (Exit.then K (fun _ _ _ => False)) { tmps := (ps.zip #[v]).foldl (fun t (p, v) => t.setIfInBounds p v) a.tmps, defers := [] } W)
    (hbody : ∀ (m l : Nat) (pre : List (List UInt8)) (x : List UInt8) (v : Value) (W : World), I pre W → Elt v x W → body.wpIn (Fence.wide.inRound l) m P (fun e _ W' => e = .normal ∧ I (pre ++ [x]) W' ∧ Turns gh W W') (a₁ v) W)
    (hdone : ∀ (D : Nat) (W : World), w.heap.size ≤ D → I Fin W → W.heap[D]? = some (.deferred (some [])) → Q .normal { a with defers := { target := .collected D, args := #[] } :: a.defers } W) :
    (Code.rangeFunc g ps assign body).wpIn Fence.wide n P Q a w := by
  refine wpIn_rangeFunc fun fn hfn => ?_
  obtain ⟨rec, hrec⟩ : ∃ rec : LoopState → Loop, rec = fun st => { state := st, pending := none, fn, tmps := a.tmps, params := ps, assign, body, defers := w.heap.size } := ⟨_, rfl⟩
  obtain ⟨W1, hW1⟩ : ∃ W1, (w.alloc (.deferred (some []))).alloc (.loop (rec .ready)) = W1 := ⟨_, rfl⟩
  have hL1 : W1.heap[w.heap.size + 1]? = some (.loop (rec .ready)) := by
    rw [← hW1]; have h := World.alloc_heap_new (w.alloc (.deferred (some []))) (.loop (rec .ready)); rwa [World.size_alloc] at h
  have hK1 : W1.heap[w.heap.size]? = some (.deferred (some [])) := by
    rw [← hW1]; exact (Below.heap_alloc _ _ _ (by simp)).trans (World.alloc_heap_new w _)
  have hsz1 : W1.heap.size = w.heap.size + 2 := by rw [← hW1]; simp
  have hb1 : Below w.heap.size w W1 := by rw [← hW1]; exact ((Below.refl _ w).alloc (Nat.le_refl _) _).alloc (by simp) _
  have hI1 : I [] W1 := hI _ _ _ h0 ⟨hb1.os, hb1.tape, hb1.output, hb1.size, fun k hk _ => hb1.block k hk⟩
  refine ⟨w.heap.size + 1, [{ target := .collected w.heap.size, args := #[] }], W1, { target := .fn (.func gf) lb, args := #[.func (.yield (w.heap.size + 1)) #[] #[]] }, W1, gf,
    #[.func (.yield (w.heap.size + 1)) #[] #[]] ++ lb, W1, ?_, ?_, ?_, ?_, fun _ => h1, ?_⟩
  · rw [← hW1, hrec]; exact run_enterLoop_outer _ _ _ _ _
  · simp only [resolve, hg]
    simp [go_sem]
  · intro _ _; trivial
  · simp [invoke, go_sem, eg]
  · refine (hseq (w.heap.size + 1) (fun pre W => I pre W ∧ W.heap[w.heap.size + 1]? = some (.loop (rec .ready)) ∧ W.heap[w.heap.size]? = some (.deferred (some []))) W1 hb1 (by omega) ?_ ?_ ⟨hI1, hL1, hK1⟩).mono ?_
    · rintro pre X Y ⟨hi, hl, hk⟩ hm
      have e1 := (Array.getElem?_eq_some_iff.1 hl).1
      exact ⟨hI _ _ _ hi (hm.wider fun k hk => by omega), (hm.block _ e1 (by omega)).trans hl, (hm.block _ (by omega) (by omega)).trans hk⟩
    · rintro m pre x v W ⟨hi, hl, hk⟩ hx
      have hlt : w.heap.size + 1 < W.heap.size := (Array.getElem?_eq_some_iff.1 hl).1
      have hy := run_yield (P := P) (args := #[v]) hl (by rw [hrec]; exact hps.symm)
      rw [hrec] at hy
      refine ⟨fn, _, assign, body, hy, roundIn_of_wpIn hfn (hassign _ _ v W _ ⟨_, run_beginRound hl (by rw [hrec]), ?_⟩)⟩
      have hm1 : Moves (fun k => k = w.heap.size + 1) W (W.putObj (w.heap.size + 1) (.loop { rec .ready with state := .busy })) := moves_put _ _ _ rfl
      have hx1 : Elt v x (W.putObj (w.heap.size + 1) (.loop { rec .ready with state := .busy })) := by
        obtain ⟨A, n', c, rfl, h2, h3⟩ := hx
        refine ⟨A, n', c, rfl, ⟨h2.1, fun h4 => ?_⟩, h3⟩
        obtain ⟨b, o, e, hb, hc⟩ := h2.2 h4
        have hne : b ≠ w.heap.size + 1 := by
          intro e2
          subst e2
          obtain ⟨u, hu⟩ : ∃ u, (Byt x)[0]? = some u := ⟨_, List.getElem?_eq_getElem (by have := h2.1; omega)⟩
          have h5 := hc 0 u hu
          simp [World.cell?, hl] at h5
        exact ⟨b, o, e, by have := hm1.size; omega, fun j u hu => (hm1.cell (p := ⟨b, o + j, none⟩) hb hne).trans (hc j u hu)⟩
      refine wpIn_mono (hbody _ _ pre x v _ (hI _ _ _ hi (hm1.wider fun k hk => by omega)) hx1) ?_
      rintro e a3 W3 ⟨rfl, hi3, hm3, hk3⟩
      have hl2 : (W.putObj (w.heap.size + 1) (.loop { rec .ready with state := .busy })).heap[w.heap.size + 1]? = some (.loop { rec .ready with state := .busy }) := World.putObj_heap_same hlt
      have hl3 := hk3.same _ _ hl2 rfl
      have hr := run_endRound (P := P) none hl3
      rw [show ({ ({ rec .ready with state := .busy } : Loop) with state := if (none : Option Code).isNone then .ready else .done, pending := none } : Loop) = rec .ready by rw [hrec]; rfl] at hr
      have hm4 : Moves (fun k => k = w.heap.size + 1) W3 (W3.putObj (w.heap.size + 1) (.loop (rec .ready))) := moves_put _ _ _ rfl
      have hl4 : (W3.putObj (w.heap.size + 1) (.loop (rec .ready))).heap[w.heap.size + 1]? = some (.loop (rec .ready)) := World.putObj_heap_same (Array.getElem?_eq_some_iff.1 hl3).1
      have hmm : Moves (fun k => k = gh) W (W3.putObj (w.heap.size + 1) (.loop (rec .ready))) :=
        ⟨hm4.os.trans (hm3.os.trans hm1.os), hm4.tape.trans (hm3.tape.trans hm1.tape), hm4.output.trans (hm3.output.trans hm1.output), Nat.le_trans hm1.size (Nat.le_trans hm3.size hm4.size), fun k hk hne => by
          by_cases e : k = w.heap.size + 1
          · subst e; rw [hl4, hl]
          · have h2 : k < (W.putObj (w.heap.size + 1) (.loop { rec .ready with state := .busy })).heap.size := Nat.lt_of_lt_of_le hk hm1.size
            exact (hm4.block k (Nat.lt_of_lt_of_le h2 hm3.size) e).trans ((hm3.block k h2 hne).trans (hm1.block k hk e))⟩
      refine ⟨_, _, hr, rfl, ⟨hI _ _ _ hi3 (hm4.wider fun k hk => by omega), hl4, ?_⟩, hmm, ⟨hmm.size, fun k o hk ho => ?_⟩⟩
      · exact (hmm.block _ (by omega) (by omega)).trans hk
      · by_cases e : k = w.heap.size + 1
        · subst e; rw [hl4, ← hl]; exact hk
        · have h2 : k < W.heap.size := (Array.getElem?_eq_some_iff.1 hk).1
          have h3 := hk3.same k o ((hm1.block k h2 e).trans hk) ho
          exact (hm4.block k (Array.getElem?_eq_some_iff.1 h3).1 e).trans h3
    · rintro e W2 ⟨⟨v, rfl⟩, hi, hl, hk⟩
      have hm5 : Moves (fun k => k = w.heap.size + 1) W2 (W2.putObj (w.heap.size + 1) (.loop { rec .ready with state := .exhausted })) := moves_put _ _ _ rfl
      have hend := run_endLoop (P := P) hl (by rw [hrec]; simp)
      refine ⟨none, _, by rw [hrec] at hend ⊢; exact hend, hdone _ _ (Nat.le_refl _) (hI _ _ _ hi (hm5.wider fun k hk => by omega)) ?_⟩
      exact (hm5.block _ (Array.getElem?_eq_some_iff.1 hk).1 (by omega)).trans hk

end Go.Proofs.YtacbpdampdikjaaDoor

/-
  Rows of texts: what XBase says of bytes, said of strings. No program is named here.
-/
namespace Go.Proofs.YtacbpdampdikjaaDoor
open Go.RowKit

/-- A text of bytes. -/
def tx (l : List UInt8) : ByteArray := ⟨l.toArray⟩
theorem tx_list (l : List UInt8) : (tx l).data.toList = l := rfl
theorem tx_of (s : ByteArray) : tx s.data.toList = s := rfl
theorem tx_size (l : List UInt8) : (tx l).size = l.length := by simp [tx, ByteArray.size]
theorem ext_tx (s : ByteArray) (a b : Nat) : s.extract a b = tx ((s.data.toList.take b).drop a) := by
  have h : (s.extract a b).data.toList = (s.data.toList.take b).drop a := by
    rw [ByteArray.data_extract, Array.toList_extract, List.extract_eq_take_drop, List.drop_take]
  rw [← h]; rfl
theorem app_tx (s t : ByteArray) : s ++ t = tx (s.data.toList ++ t.data.toList) := by
  have h : (s ++ t).data.toList = s.data.toList ++ t.data.toList := by rw [ByteArray.data_append, Array.toList_append]
  rw [← h]; rfl

/-- The values of a row of texts. -/
def Sts (ps : List (List UInt8)) : List Value := ps.map fun p => .string (tx p)
section
variable {l a b : List (List UInt8)} {j : Nat}
theorem Sts_length : (Sts l).length = l.length := by simp [Sts]
theorem Sts_get (h : j < l.length) : (Sts l)[j]? = some (.string (tx l[j])) := by simp [Sts, List.getElem?_eq_getElem h]
theorem Sts_append : Sts (a ++ b) = Sts a ++ Sts b := by simp [Sts]
theorem Sts_take : Sts (l.take j) = (Sts l).take j := by simp [Sts, List.map_take]
theorem Sts_set {z : List UInt8} : Sts (l.set j z) = (Sts l).set j (.string (tx z)) := by simp [Sts, List.map_set]
theorem Sts_one : ∀ u ∈ Sts l, u.oneCell' = true := by
  intro u hu
  simp only [Sts, List.mem_map] at hu
  obtain ⟨b, _, rfl⟩ := hu
  rfl
end
section
variable {w w' : World} {B n : Nat} {A : Option Addr} {l : List (List UInt8)} {j : Nat}
theorem Rd.strs (h : Rd w B A n (Sts l)) : l.length = n := by have := h.1; rwa [Sts_length] at this
theorem Rd.str (h : Rd w B A n (Sts l)) (hj : j < n) (hl : j < l.length) : ∃ b o, A = some ⟨b, o, none⟩ ∧ b < B ∧ w.cell? ⟨b, o + j, none⟩ = some (.string (tx l[j])) := by
  obtain ⟨b, o, e, hb, u, hu, hc⟩ := h.at_ hj
  rw [Sts_get hl] at hu
  exact ⟨b, o, e, hb, by rw [hc, hu]⟩
end
theorem ownS_len {w : World} {base : Nat} {e : TypeId} {v : Value} {n : Nat} {l : List (List UInt8)} (h : w.ownsRow base e 1 v n (Sts l)) : l.length = n := by
  have := h.1; rw [Sts_length] at this; omega
theorem ownS_cell {w : World} {base : Nat} {e : TypeId} {g n c : Nat} {l : List (List UInt8)} (h : w.ownsRow base e 1 (.slice (some ⟨g, 0, none⟩) n c) n (Sts l)) {j : Nat} (hj : j < l.length) : w.cell? ⟨g, j, none⟩ = some (.string (tx l[j])) := by
  have hl := ownS_len h
  rw [h.cellAt j (by omega), Sts_get hj]
theorem ownS_put {w : World} {base : Nat} {e : TypeId} {g n c : Nat} {l : List (List UInt8)} (h : w.ownsRow base e 1 (.slice (some ⟨g, 0, none⟩) n c) n (Sts l)) (j : Nat) (z : List UInt8) :
    (w.setCell ⟨g, j, none⟩ (.string (tx z))).ownsRow base e 1 (.slice (some ⟨g, 0, none⟩) n c) n (Sts (l.set j z)) := by
  rw [Sts_set]; exact (h.stored j _).1

theorem cell_new1 (w : World) (v : Value) (t : TypeId) : (w.alloc (.cells #[v] t)).cell? ⟨w.heap.size, 0, none⟩ = some v := cell_of_row (w.alloc (.cells #[v] t)) w.heap.size 0 #[v] t (0, 0) (heap_alloc_new w _)

/-- What a call ends in that answers a new row of texts. -/
def NewS (e : TypeId) (w : World) (l : List (List UInt8)) (en : Ending) (w' : World) : Prop :=
  ∃ A c, en = .returned (.slice A l.length c) ∧ w'.ownsRow w.heap.size e 1 (.slice A l.length c) l.length (Sts l) ∧ Below w.heap.size w w'

/-- What is read stands behind what is owned, for elements of up to 16 bytes, in a region that keeps the text's order. -/
theorem wp_append_wide {P : Program} {ops : Array Oper} {rest : List Oper} {o : Oper} {a : Act} {w : World} {Q : Exit → Act → World → Prop} (hgd : o.guard = none) (s x : Operand) (t : TypeId)
    (ho : o.op = .call { callee := .builtin .append, args := #[s, x], argTypes := #[t, t] }) (e : TypeId) (ht : P.underlying t = some (.slice e)) (z : Value) (by_ : Nat) (hby : by_ ≤ 16) (hz1 : z.cells.size = 1)
    (hinfo : (P.info? e).map (fun i => (i.zero, i.size, i.bytes)) = some (some z, 1, by_))
    (base n c : Nat) (A : Option Addr) (xs : List Value) (hs : a.eval s = .slice A n c) (hown : w.ownsRow base e 1 (.slice A n c) n xs)
    (B m c2 : Nat) (A2 : Option Addr) (news : List Value) (hx : a.eval x = .slice A2 m c2) (hr : Rd w B A2 m news) (hone : ∀ u ∈ news, u.oneCell' = true)
    (hm : 0 < m) (hn : n + m ≤ 8796093022208) (hbase : base ≤ w.heap.size) (w0 : World) (B0 : Nat) (hb : Below B0 w0 w) (hB0 : B0 ≤ base)
    (h : ∀ A' c' w', w'.ownsRow base e 1 (.slice A' (n + m) c') (n + m) (xs ++ news) → Below B0 w0 w' → wpList P ops Q rest (a.put o.dst (.slice A' (n + m) c')) w') :
    wpList P ops Q (o :: rest) a w := by
  obtain ⟨i0, hi, hi0, hi1, hi2⟩ := info_parts hinfo
  have hmul : (n + m) * by_ ≤ (n + m) * 16 := Nat.mul_le_mul_left _ hby
  obtain ⟨b, o2, rfl, _, hc⟩ := hr.2 hm
  refine wpList_append_lies w hgd s x t ho base e i0 z 1 by_ ht hi hi0 hi1 hi2 hz1 (by omega) _ n xs hs hown ⟨b, o2, none⟩ m c2 news hx (by rw [hr.1]; omega) ?_ hone hm (by unfold maxLen; omega) (by omega) hbase w.heap.size rfl ?_
  · intro j u hj
    rw [add_flat]
    exact hc j u hj
  · intro g cap w' hown' hg _ _
    refine h _ _ w' hown' (hb.grown hg (by omega) ?_)
    intro k hk
    have := (hown.lt k hk).1
    omega

/-- A row of texts that came in, as a list of their bytes. -/
theorem strs_of (xs : List ByteArray) : xs.map Value.string = Sts (xs.map fun s => s.data.toList) := by simp [Sts, tx_of]

end Go.Proofs.YtacbpdampdikjaaDoor

/-
  Plain mathematics of hex: digits, bytes of digits, rows. No program is named here.
-/
namespace Go.Proofs.YtacbpdampdikjaaDoor

/-- The digit of a number below 16. -/
def dig (n : Nat) : UInt8 := if n < 10 then UInt8.ofNat (48 + n) else UInt8.ofNat (87 + n)
def hex2 (b : UInt8) : List UInt8 := [dig (b.toNat / 16), dig (b.toNat % 16)]
def hexU (l : List UInt8) : List UInt8 := l.flatMap hex2
theorem hexU_nil : hexU [] = [] := rfl
theorem hexU_cons (b : UInt8) (l : List UInt8) : hexU (b :: l) = dig (b.toNat / 16) :: dig (b.toNat % 16) :: hexU l := rfl
theorem hexU_append (a b : List UInt8) : hexU (a ++ b) = hexU a ++ hexU b := by simp [hexU]
theorem hexU_length : ∀ l : List UInt8, (hexU l).length = 2 * l.length
  | [] => rfl
  | b :: l => by rw [hexU_cons, List.length_cons, List.length_cons, hexU_length l, List.length_cons]; omega
theorem hexU_take {l : List UInt8} {k : Nat} (hk : k < l.length) : hexU (l.take (k + 1)) = hexU (l.take k) ++ [dig (l[k].toNat / 16)] ++ [dig (l[k].toNat % 16)] := by
  rw [List.take_add_one, List.getElem?_eq_getElem hk, hexU_append]
  simp [hexU, hex2]
theorem dig_lo {n : Nat} (h : n < 10) : ((dig n).toNat : Int) = 48 + (n : Int) := by
  unfold dig; rw [if_pos h, UInt8.toNat_ofNat']; omega
theorem dig_hi {n : Nat} (h : ¬ n < 10) (h2 : n < 16) : ((dig n).toNat : Int) = 87 + (n : Int) := by
  unfold dig; rw [if_neg h, UInt8.toNat_ofNat']; omega

/-- What a sign is worth. -/
def valU (c : UInt8) : Option Nat := if 48 ≤ c.toNat ∧ c.toNat ≤ 57 then some (c.toNat - 48) else if 97 ≤ c.toNat ∧ c.toNat ≤ 102 then some (c.toNat - 87) else none
theorem val_dig : ∀ n : Fin 16, valU (dig n.val) = some n.val := by decide
theorem val_of {c : UInt8} {n : Nat} (h : valU c = some n) : n < 16 ∧ dig n = c := by
  unfold valU at h
  split at h
  · injection h with h
    subst h
    refine ⟨by omega, ?_⟩
    unfold dig
    rw [if_pos (by omega), show 48 + (c.toNat - 48) = c.toNat by omega, UInt8.ofNat_toNat]
  · split at h
    · injection h with h
      subst h
      refine ⟨by omega, ?_⟩
      unfold dig
      rw [if_neg (by omega), show 87 + (c.toNat - 87) = c.toNat by omega, UInt8.ofNat_toNat]
    · cases h
def okU (c : UInt8) : Bool := (valU c).isSome
def vU (c : UInt8) : Nat := (valU c).getD 0
theorem vU_lt (c : UInt8) : vU c < 16 := by
  unfold vU
  cases h : valU c with
  | none => decide
  | some n => exact (val_of h).1
theorem vU_some {c : UInt8} (h : okU c = true) : valU c = some (vU c) := by
  unfold okU at h; unfold vU
  cases hv : valU c with
  | none => rw [hv] at h; cases h
  | some n => rfl

/-- The byte of two signs. -/
def byU (a b : UInt8) : UInt8 := UInt8.ofNat (vU a * 16 + vU b)
theorem byU_nat (a b : UInt8) : (byU a b).toNat = vU a * 16 + vU b := by
  unfold byU; rw [UInt8.toNat_ofNat']; have := vU_lt a; have := vU_lt b; omega
def pairsU : List UInt8 → List UInt8
  | a :: b :: t => byU a b :: pairsU t
  | _ => []
theorem pairs_even : ∀ (x y : List UInt8), x.length % 2 = 0 → pairsU (x ++ y) = pairsU x ++ pairsU y
  | [], y, _ => rfl
  | [a], y, h => by simp at h
  | a :: b :: t, y, h => by
    have ht : t.length % 2 = 0 := by simp at h; omega
    show byU a b :: pairsU (t ++ y) = byU a b :: (pairsU t ++ pairsU y)
    rw [pairs_even t y ht]
theorem pairs_len : ∀ l : List UInt8, (pairsU l).length = l.length / 2
  | [] => rfl
  | [a] => by simp [pairsU]
  | a :: b :: t => by
    show (pairsU t).length + 1 = _
    rw [pairs_len t]; simp; omega
theorem pairs_step0 {l : List UInt8} {k : Nat} (hk : k < l.length) (he : k % 2 = 0) : pairsU (l.take (k + 1)) = pairsU (l.take k) := by
  rw [List.take_add_one, List.getElem?_eq_getElem hk, pairs_even _ _ (by rw [List.length_take]; omega)]
  simp [pairsU]
theorem pairs_step1 {l : List UInt8} {k : Nat} (hk : k + 1 < l.length) (he : k % 2 = 0) : pairsU (l.take (k + 1 + 1)) = pairsU (l.take k) ++ [byU l[k] l[k + 1]] := by
  rw [List.take_add_one, List.getElem?_eq_getElem hk, List.take_add_one, List.getElem?_eq_getElem (show k < l.length by omega), List.append_assoc, pairs_even _ _ (by rw [List.length_take]; omega)]
  rfl
theorem pairs_odd {l : List UInt8} {k : Nat} (hk : k < l.length) (ho : k % 2 = 1) : pairsU (l.take (k + 1)) = pairsU (l.take k) ++ [byU (l[k - 1]'(by omega)) l[k]] := by
  obtain ⟨j, rfl⟩ : ∃ j, k = j + 1 := ⟨k - 1, by omega⟩
  rw [pairs_step1 hk (by omega), pairs_step0 (show j < l.length by omega) (by omega)]
  rfl
/-- There and back. -/
theorem byU_dig (b : UInt8) : byU (dig (b.toNat / 16)) (dig (b.toNat % 16)) = b := by
  have h1 := val_dig ⟨b.toNat / 16, by have := b.toNat_lt; omega⟩
  have h2 := val_dig ⟨b.toNat % 16, by omega⟩
  apply UInt8.toNat_inj.1
  rw [byU_nat]
  unfold vU
  rw [h1, h2]
  simp; omega
theorem pairs_hex : ∀ l : List UInt8, pairsU (hexU l) = l
  | [] => rfl
  | b :: l => by
    rw [hexU_cons]
    show byU _ _ :: pairsU (hexU l) = _
    rw [byU_dig, pairs_hex l]
theorem hex_byU {a b : UInt8} (ha : okU a = true) (hb : okU b = true) : hex2 (byU a b) = [a, b] := by
  have h1 := val_of (vU_some ha)
  have h2 := val_of (vU_some hb)
  unfold hex2
  rw [byU_nat, show (vU a * 16 + vU b) / 16 = vU a by omega, show (vU a * 16 + vU b) % 16 = vU b by omega, h1.2, h2.2]
theorem hex_pairs : ∀ l : List UInt8, l.length % 2 = 0 → l.all okU = true → hexU (pairsU l) = l
  | [], _, _ => rfl
  | [a], h, _ => by simp at h
  | a :: b :: t, h, ha => by
    simp only [List.all_cons, Bool.and_eq_true] at ha
    show hex2 (byU a b) ++ hexU (pairsU t) = _
    rw [hex_byU ha.1 ha.2.1, hex_pairs t (by simp at h; omega) ha.2.2]
    rfl
theorem ok_dig {n : Nat} (h : n < 16) : okU (dig n) = true := by
  have := val_dig ⟨n, h⟩
  unfold okU
  rw [this]; rfl
theorem hex_ok : ∀ l : List UInt8, (hexU l).all okU = true
  | [] => rfl
  | b :: l => by
    rw [hexU_cons, List.all_cons, List.all_cons, ok_dig (by have := b.toNat_lt; omega), ok_dig (by omega), hex_ok l]
    rfl

/-- The first sign that is none. -/
def badAt : Nat → List UInt8 → Option Nat
  | _, [] => none
  | i, c :: t => if okU c then badAt (i + 1) t else some i
theorem bad_at {l : List UInt8} {k : Nat} (hk : k < l.length) (h : badAt 0 l = badAt k (l.drop k)) : (okU l[k] = true → badAt 0 l = badAt (k + 1) (l.drop (k + 1))) ∧ (okU l[k] = false → badAt 0 l = some k) := by
  rw [List.drop_eq_getElem_cons hk] at h
  rw [h]
  constructor
  · intro e; show (if okU l[k] = true then _ else _) = _; rw [if_pos e]
  · intro e; show (if okU l[k] = true then _ else _) = _; rw [if_neg (by rw [e]; simp)]
theorem bad_none : ∀ (l : List UInt8) (i : Nat), badAt i l = none → l.all okU = true
  | [], _, _ => rfl
  | c :: t, i, h => by
    unfold badAt at h
    split at h
    · rename_i hc
      rw [List.all_cons, hc, bad_none t _ h]; rfl
    · cases h
theorem none_bad : ∀ (l : List UInt8) (i : Nat), l.all okU = true → badAt i l = none
  | [], _, _ => rfl
  | c :: t, i, h => by
    rw [List.all_cons, Bool.and_eq_true] at h
    unfold badAt
    rw [if_pos h.1]
    exact none_bad t _ h.2
/-- What Parse answers. -/
def hparseV (l : List UInt8) : List UInt8 × Int × Int :=
  match badAt 0 l with
  | some p => ([], (p : Int), 3)
  | none => if l.length % 2 = 0 then (pairsU l, 0, 0) else ([], (l.length : Int), 3)
theorem hparse_bad {l : List UInt8} {p : Nat} (h : badAt 0 l = some p) : hparseV l = ([], (p : Int), 3) := by unfold hparseV; rw [h]
theorem hparse_odd {l : List UInt8} (h : badAt 0 l = none) (h2 : l.length % 2 = 1) : hparseV l = ([], (l.length : Int), 3) := by unfold hparseV; rw [h]; exact if_neg (by omega)
theorem hparse_ok {l : List UInt8} (h : badAt 0 l = none) (h2 : l.length % 2 = 0) : hparseV l = (pairsU l, 0, 0) := by unfold hparseV; rw [h]; exact if_pos h2
theorem hparse_hex (l : List UInt8) : hparseV (hexU l) = (l, 0, 0) := by
  rw [hparse_ok (none_bad _ _ (hex_ok l)) (by rw [hexU_length]; omega), pairs_hex]
theorem hparse_back (l : List UInt8) : ((hparseV l).2.2 = 0 ∧ hexU (hparseV l).1 = l) ∨ ((hparseV l).2.2 = 3 ∧ (hparseV l).1 = []) := by
  cases h : badAt 0 l with
  | some p => rw [hparse_bad h]; exact .inr ⟨rfl, rfl⟩
  | none =>
    by_cases h2 : l.length % 2 = 0
    · rw [hparse_ok h h2]; exact .inl ⟨rfl, hex_pairs l h2 (bad_none l 0 h)⟩
    · rw [hparse_odd h (by omega)]; exact .inr ⟨rfl, rfl⟩
theorem hparse_len (l : List UInt8) : (hparseV l).1.length ≤ l.length := by
  cases h : badAt 0 l with
  | some p => rw [hparse_bad h]; simp
  | none =>
    by_cases h2 : l.length % 2 = 0
    · rw [hparse_ok h h2]; show (pairsU l).length ≤ _; rw [pairs_len]; omega
    · rw [hparse_odd h (by omega)]; simp

/-- The j-th row of w bytes each. -/
def cutU (w : Nat) (l : List UInt8) (j : Nat) : List UInt8 := (l.drop (j * w)).take w
def cutsU (w : Nat) (l : List UInt8) (k : Nat) : List (List UInt8) := (List.range k).map (cutU w l)
def numU (w : Nat) (l : List UInt8) : Nat := (l.length + w - 1) / w
theorem cuts_succ (w : Nat) (l : List UInt8) (k : Nat) : cutsU w l (k + 1) = cutsU w l k ++ [cutU w l k] := by
  unfold cutsU; rw [List.range_succ, List.map_append]; rfl
theorem cuts_len (w : Nat) (l : List UInt8) (k : Nat) : (cutsU w l k).length = k := by simp [cutsU]
theorem num_lt {w : Nat} {l : List UInt8} {k : Nat} (hw : 0 < w) : k * w < l.length ↔ k < numU w l := by
  unfold numU
  rw [Nat.lt_div_iff_mul_lt hw]
  omega
theorem cut_len (w : Nat) (l : List UInt8) (j : Nat) : (cutU w l j).length = min w (l.length - j * w) := by simp [cutU]
theorem cuts_flat (w : Nat) (l : List UInt8) : ∀ k, (cutsU w l k).flatten = l.take (k * w)
  | 0 => by simp [cutsU]
  | k + 1 => by
    rw [cuts_succ, List.flatten_append, cuts_flat w l k, Nat.succ_mul, List.take_add]
    simp [cutU]
/-- What Rows answers. -/
def hrowsV (l : List UInt8) (z : Int) : List (List UInt8) := if z < 1 ∨ 64 < z then [] else (cutsU z.toNat l (numU z.toNat l)).map hexU
theorem flat_hex : ∀ L : List (List UInt8), (L.map hexU).flatten = hexU L.flatten
  | [] => rfl
  | x :: L => by rw [List.map_cons, List.flatten_cons, flat_hex L, List.flatten_cons, hexU_append]
theorem hrows_flat (l : List UInt8) (z : Int) (h1 : 1 ≤ z) (h2 : z ≤ 64) : (hrowsV l z).flatten = hexU l := by
  unfold hrowsV
  rw [if_neg (by omega), flat_hex, cuts_flat]
  have hz : 0 < z.toNat := by omega
  have : ¬ numU z.toNat l * z.toNat < l.length := fun h => by
    have := (num_lt (k := numU z.toNat l) hz).1 h
    omega
  rw [List.take_of_length_le (by omega)]
def hshortV (l : List UInt8) : List UInt8 := if l.length ≤ 4 then hexU l else hexU (l.take 3) ++ [46, 46]
theorem hshort_len (l : List UInt8) : (hshortV l).length ≤ 8 := by
  unfold hshortV
  split
  · rw [hexU_length]; omega
  · rw [List.length_append, hexU_length, List.length_take]; simp; omega

end Go.Proofs.YtacbpdampdikjaaDoor

/-
  What is read in pieces of one width. No program is named here.
-/
namespace Go.Proofs.YtacbpdampdikjaaDoor
open Go.RowKit

/-- The midst of what is read. -/
theorem Rd.mid {w : World} {B n b o p q : Nat} {xs : List Value} (h : Rd w B (some ⟨b, o, none⟩) n xs) (hq : p + q ≤ n) : Rd w B (some ⟨b, o + p, none⟩) q ((xs.drop p).take q) := by
  refine ⟨by rw [List.length_take, List.length_drop, h.1]; omega, fun h0 => ?_⟩
  obtain ⟨b', o', e, hb, hc⟩ := h.2 (by omega)
  injection e with e
  injection e with e1 e2
  subst e1 e2
  refine ⟨b, o + p, rfl, hb, fun j u hu => ?_⟩
  rw [List.getElem?_take] at hu
  split at hu
  · rw [List.getElem?_drop] at hu
    rw [Nat.add_assoc]
    exact hc _ u hu
  · cases hu
theorem Rd.cut {w : World} {B n b o p q m k : Nat} {xs : List UInt8} (h : Rd w B (some ⟨b, o, none⟩) n (Byt xs)) (hp : p = k * m) (hq : q = min m (n - p)) (hpn : p ≤ n) : Rd w B (some ⟨b, o + p, none⟩) q (Byt (cutU m xs k)) := by
  have := h.mid (p := p) (q := q) (by omega)
  have e : Byt (cutU m xs k) = ((Byt xs).drop p).take q := by
    unfold cutU
    rw [Byt_take, Byt_drop, ← hp, List.take_eq_take_min, List.length_drop, h.1, hq]
  rw [e]; exact this
theorem num_of {m n k p : Nat} {xs : List UInt8} (hx : xs.length = n) (hm : 0 < m) (hp : p = k * m) (h1 : ¬ p < n) (h2 : p < n + m) : k = numU m xs := by
  have a1 := (num_lt (l := xs) (k := k) hm)
  rcases k with _ | k
  · have : ¬ 0 < numU m xs := fun h => h1 (by rw [hp, ← hx]; exact a1.2 h)
    omega
  · have a2 := (num_lt (l := xs) (k := k) hm)
    rw [Nat.succ_mul] at hp
    have b1 : k < numU m xs := a2.1 (by rw [hx]; omega)
    have b2 : ¬ k + 1 < numU m xs := fun h => by
      have := a1.2 h
      rw [Nat.succ_mul, hx] at this
      omega
    omega

end Go.Proofs.YtacbpdampdikjaaDoor

/-
  slices.Chunk over bytes: the iterator, and the sequence that it is.
-/
namespace Go.Proofs.YtacbpdampdikjaaDoor
open Go.RowKit Go.Shelf

attribute [local go_sem] Oper.semAt_some

/-- What the rounds keep: the two cells that the iterator reads. -/
structure KC2 (Bn Bm : Nat) (W W' : World) : Prop where
  one : W'.cell? ⟨Bn, 0, none⟩ = W.cell? ⟨Bn, 0, none⟩
  two : W'.cell? ⟨Bm, 0, none⟩ = W.cell? ⟨Bm, 0, none⟩
theorem KC2.t {Bn Bm : Nat} {A B C : World} (h : KC2 Bn Bm A B) (k : KC2 Bn Bm B C) : KC2 Bn Bm A C := ⟨k.one.trans h.one, k.two.trans h.two⟩

/-- The j-th chunk, as the value that is handed over. -/
def chunkV (b o n m j : Nat) : Value := .slice (some ⟨b, o + j * m, none⟩) (min m (n - j * m)) (min m (n - j * m))

set_option maxHeartbeats 800000 in
theorem chunk_any (n c m : Nat) (A : Option Addr) (hm : 0 < m) (w : World) : Calls Tryd.prog 80 #[.slice A n c, .int .i64 (m : Int)] w fun e w' =>
    e = .returned (.func (.func 92) #[] #[.pointer (some ⟨w.heap.size, 0, none⟩), .pointer (some ⟨w.heap.size + 1, 0, none⟩)]) ∧ w' = (w.alloc (.cells #[.slice A n c] 22)).alloc (.cells #[.int .i64 (m : Int)] 3) := by
  have h1 : ¬ ((m : Int) < 1) := by omega
  go_enter Tryd.func80, Tryd.ntmps80
  go_wp2
  go_ret
  exact ⟨rfl, rfl⟩

set_option maxRecDepth 100000 in
set_option maxHeartbeats 4000000 in
/-- The iterator: the chunks, in their order. -/
theorem chunk1_in (d : Nat) (hd : 1 ≤ d) (l Bn Bm b o n c m : Nat) (A : Option Addr) (hA : 0 < n → A = some ⟨b, o, none⟩) (xs : List UInt8) (hxl : xs.length = n) (hn : n ≤ 1099511627776) (hnc : n ≤ c) (hm : 0 < m) (hm64 : m ≤ 64) (J Jx : List Nat → World → Prop)
    (hY : ∀ pre x W, J pre W → pre.length < numU m xs → YieldAt Fence.wide (d - 1) Tryd.prog l #[chunkV b o n m x] W fun e W' =>
      (e = .returned (.bool true) ∧ J (pre ++ [x]) W' ∧ KC2 Bn Bm W W') ∨ (e = .returned (.bool false) ∧ Jx (pre ++ [x]) W'))
    (W : World) (hJ : AbidesFrom W.heap.size J) (hc : W.cell? ⟨Bn, 0, none⟩ = some (.slice A n c)) (hc2 : W.cell? ⟨Bm, 0, none⟩ = some (.int .i64 (m : Int))) (h0 : J [] W) :
    CallsIn Fence.wide d Tryd.prog 92 #[.func (.yield l) #[] #[], .pointer (some ⟨Bn, 0, none⟩), .pointer (some ⟨Bm, 0, none⟩)] W fun e W' => (∃ v, e = .returned v) ∧
      ((∃ ys, ys = List.range (numU m xs) ∧ J ys W') ∨ (∃ pre, pre <+: List.range (numU m xs) ∧ Jx pre W')) := by
  have hJd : ∀ pre W q, J pre W → J pre (World.drewN W q) := fun pre W q h => hJ pre W _ none h ⟨rfl, rfl, rfl, Nat.le_refl _, fun _ _ _ => rfl⟩ (fun r e => by cases e)
  refine callsIn_of_wp Tryd.func92 rfl trivial ?_ rfl
  simp only [Tryd.ntmps92, List.size_toArray, List.length_cons, List.length_nil, Nat.reduceAdd, Nat.reduceSub, Array.replicate_succ, Array.replicate_zero, List.push_toArray, List.append_toArray, List.nil_append, List.cons_append]
  gi_wp2
  gi_loopw [4] (fun fv wr => ∃ k p : Nat, fv = .int .i64 (p : Int) ∧ Hid (p = k * m) ∧ p < n + m ∧ wr.cell? ⟨Bn, 0, none⟩ = some (.slice A n c) ∧ wr.cell? ⟨Bm, 0, none⟩ = some (.int .i64 (m : Int)) ∧ J (List.range k) wr)
    (fun fv _ => n + m - (intOf fv).toNat)
  case atStart => exact ⟨0, 0, rfl, Lib.hid (by omega), by omega, hc, hc2, h0⟩
  case round =>
    obtain ⟨k, p, rfl, Hp, hp, hcb, hcm, hJs⟩ := hrel
    by_cases hlt : p < n
    · obtain rfl := hA (by omega)
      have hkn : k < numU m xs := (num_lt hm).1 (by rw [hxl, ← Hp.out]; exact hlt)
      have hkl : (List.range k).length < numU m xs := by rw [List.length_range]; exact hkn
      by_cases hfit : p + m ≤ n
      · have hv : chunkV b o n m k = .slice (some ⟨b, o + p, none⟩) m m := by
          unfold chunkV
          rw [← Hp.out, show min m (n - p) = m by omega]
        have t1 : (p : Int) + (m : Int) ≤ (n : Int) := by omega
        have t2 : ((p : Int) + (m : Int)).toNat = p + m := by omega
        have t3 : p + m - p = m := by omega
        have t4 : p ≤ p + m := by omega
        have t5 : p + m ≤ c := by omega
        have t6 : min (m : Int) ((n - p : Nat) : Int) = (m : Int) := by omega
        have Hv := Lib.hid hv; clear hv
        have Hkl := Lib.hid hkl; clear hkl
        have Hkn := Lib.hid hkn; clear hkn
        gi_wp2
        gi_quiet (fail)
        obtain ⟨fn, tmps, assign, body, hy, hR⟩ := hY (List.range k) k (wr.drewN nq) (hJd _ _ _ hJs) Hkl.out
        rw [Hv.out] at hy
        gi_wp2
        refine hR.mono ?_
        rintro e W3 (⟨rfl, hJ3, hk3⟩ | ⟨rfl, hJx3⟩)
        · have hcb3 : W3.cell? ⟨Bn, 0, none⟩ = some (.slice (some ⟨b, o, none⟩) n c) := hk3.one.trans hcb
          have hcm3 : W3.cell? ⟨Bm, 0, none⟩ = some (.int .i64 (m : Int)) := hk3.two.trans hcm
          rw [← List.range_succ] at hJ3
          gi_wp2
          go_roundw
          case rel => exact ⟨k + 1, p + m, by go_num, Lib.hid (by rw [Nat.succ_mul, Hp.out]), by omega, hcb3, hcm3, hJ3⟩
          case measure => simp [intOf]; omega
        · rw [← List.range_succ] at hJx3
          have hpre : List.range (k + 1) <+: List.range (numU m xs) := by
            rw [List.prefix_iff_eq_take, List.length_range, List.take_range]
            rw [Nat.min_eq_left Hkn.out]
          have Hpre := Lib.hid hpre; clear hpre
          gi_wp2
          refine bodyPost_ret (results_none rfl _ _ _) rfl ?_
          exact ⟨⟨_, rfl⟩, .inr ⟨_, Hpre.out, hJx3⟩⟩
      · have hv : chunkV b o n m k = .slice (some ⟨b, o + p, none⟩) (n - p) (n - p) := by
          unfold chunkV
          rw [← Hp.out, show min m (n - p) = n - p by omega]
        have t1 : ¬ ((p : Int) + (m : Int) ≤ (n : Int)) := by omega
        have t2 : (n : Int) < (p : Int) + (m : Int) := by omega
        have t6 : min (m : Int) ((n - p : Nat) : Int) = ((n - p : Nat) : Int) := by omega
        have Hv := Lib.hid hv; clear hv
        have Hkl := Lib.hid hkl; clear hkl
        have Hkn := Lib.hid hkn; clear hkn
        gi_wp2
        gi_quiet (fail)
        obtain ⟨fn, tmps, assign, body, hy, hR⟩ := hY (List.range k) k (wr.drewN nq) (hJd _ _ _ hJs) Hkl.out
        rw [Hv.out] at hy
        gi_wp2
        refine hR.mono ?_
        rintro e W3 (⟨rfl, hJ3, hk3⟩ | ⟨rfl, hJx3⟩)
        · have hcb3 : W3.cell? ⟨Bn, 0, none⟩ = some (.slice (some ⟨b, o, none⟩) n c) := hk3.one.trans hcb
          have hcm3 : W3.cell? ⟨Bm, 0, none⟩ = some (.int .i64 (m : Int)) := hk3.two.trans hcm
          rw [← List.range_succ] at hJ3
          gi_wp2
          go_roundw
          case rel => exact ⟨k + 1, p + m, by go_num, Lib.hid (by rw [Nat.succ_mul, Hp.out]), by omega, hcb3, hcm3, hJ3⟩
          case measure => simp [intOf]; omega
        · rw [← List.range_succ] at hJx3
          have hpre : List.range (k + 1) <+: List.range (numU m xs) := by
            rw [List.prefix_iff_eq_take, List.length_range, List.take_range]
            rw [Nat.min_eq_left Hkn.out]
          have Hpre := Lib.hid hpre; clear hpre
          gi_wp2
          refine bodyPost_ret (results_none rfl _ _ _) rfl ?_
          exact ⟨⟨_, rfl⟩, .inr ⟨_, Hpre.out, hJx3⟩⟩
    · have hk := num_of hxl hm Hp.out hlt hp
      subst hk
      gi_wp2
      go_end0
      exact ⟨⟨_, rfl⟩, .inl ⟨_, rfl, hJs⟩⟩

theorem KC2.b {Bn Bm : Nat} {w : World} (h1 : Bn < w.heap.size) (h2 : Bm < w.heap.size) (W : World) (l : Nat) (o o' : Obj) (hl : w.heap.size ≤ l) (_h : W.heap[l]? = some o) (_hc : o.isCells = false) (_hw : o.isWalk = false) : KC2 Bn Bm W (W.putObj l o') :=
  ⟨World.cell?_of_block (World.putObj_heap_other (by show Bn ≠ l; omega)), World.cell?_of_block (World.putObj_heap_other (by show Bm ≠ l; omega))⟩

theorem chunk_stops (d : Nat) (hd : 1 ≤ d) (Bn Bm b o n c m : Nat) (A : Option Addr) (hA : 0 < n → A = some ⟨b, o, none⟩) (xs : List UInt8) (hxl : xs.length = n) (hn : n ≤ 1099511627776) (hnc : n ≤ c) (hm : 0 < m) (hm64 : m ≤ 64) (w : World) (hBn : Bn < w.heap.size) (hBm : Bm < w.heap.size)
    (hc : w.cell? ⟨Bn, 0, none⟩ = some (.slice A n c)) (hc2 : w.cell? ⟨Bm, 0, none⟩ = some (.int .i64 (m : Int))) :
    SeqStopsK Fence.wide d Tryd.prog 92 #[.pointer (some ⟨Bn, 0, none⟩), .pointer (some ⟨Bm, 0, none⟩)] (fun x : Nat => #[chunkV b o n m x]) (KC2 Bn Bm) (fun ys => ys = List.range (numU m xs)) (fun pre => pre <+: List.range (numU m xs)) (numU m xs) w :=
  fun l J Jx W hW hJ _ hY h0 => chunk1_in d hd l Bn Bm b o n c m A hA xs hxl hn hnc hm hm64 J Jx hY W hJ ((hW.cell (p := ⟨Bn, 0, none⟩) hBn).trans hc) ((hW.cell (p := ⟨Bm, 0, none⟩) hBm).trans hc2) h0

/-- Any chunk reads as its bytes. -/
theorem chunk_rd {w : World} {B n b o m : Nat} {A : Option Addr} {xs : List UInt8} (hx : Rd w B A n (Byt xs)) (hA : 0 < n → A = some ⟨b, o, none⟩) (j : Nat) : Rd w B (some ⟨b, o + j * m, none⟩) (min m (n - j * m)) (Byt (cutU m xs j)) := by
  by_cases h : j * m < n
  · have e := hA (by omega)
    subst e
    exact hx.cut rfl rfl (by omega)
  · have hl := hx.bytes
    rw [show min m (n - j * m) = 0 by omega]
    have e : cutU m xs j = [] := by
      unfold cutU
      rw [List.drop_eq_nil_of_le (by omega), List.take_nil]
    rw [e]
    exact ⟨rfl, fun h => absurd h (by omega)⟩

/-- One thing more in a region of a round that draws: it stands behind what is owned. -/
theorem stepIn_append {F : Fence} {d : Nat} {P : Program} {ops : Array Oper} {o : Oper} {a : Act} {w : World} {K : Act → World → Prop} {Q : Exit → Act → World → Prop} {E : Prop} (hg : o.guard = none) (s x : Operand) (t : TypeId) (hop : o.op = Op.call { callee := Callee.builtin Builtin.append, args := #[s, x], argTypes := #[t, t] })
    (base : Nat) (e : TypeId) (i : TypeInfo) (z : Value) (size bytes : Nat) (h1 : P.underlying t = some (.slice e)) (h2 : P.info? e = some i) (h3 : i.zero = some z) (h4 : i.size = size) (h5 : i.bytes = bytes) (h6 : z.cells.size = size) (h7 : 0 < size)
    (v : Value) (k : Nat) (xs : List Value) (hs : a.eval s = v) (hown : w.ownsRow base e size v k xs) (ad : Addr) (m c : Nat) (news : List Value) (hx : a.eval x = .slice (some ad) m c) (hn : news.length = m * size)
    (hc : ∀ j u, news[j]? = some u → w.cell? (ad.add j) = some u) (h1c : ∀ u ∈ news, u.oneCell' = true) (b1 : k + m ≤ maxLen) (b2 : (k + m) * bytes ≤ 140737488355328) (b3 : base ≤ w.heap.size)
    (hK : ∀ v' w', w'.ownsRow base e size v' (k + m) (xs ++ news) → w.grownBy w' v.ownBlock → K (a.put o.dst v') w') :
    if Region.wanted o (yielded ops a.tmps) = true then Oper.wpIn F d P o a w K Q else E := by
  have hw : Region.wanted o (yielded ops a.tmps) = true := by simp [Region.wanted, hg]
  rw [if_pos hw]
  obtain ⟨v', w', hrun, r1, r2, r3⟩ := run_append_own (P := P) w base t o.type e i z size bytes h1 h2 h3 h4 h5 h6 h7 v k xs hown ad m c news hn hc h1c b1 b2 b3
  unfold Oper.wpIn
  refine ⟨?_, ?_⟩
  · simp [Oper.about, hop, resolve, Target.leads, Sem.run_pure]
  · rw [Oper.semAt_plain F _ _ (by rw [hop]; intro c hc'; cases hc')]
    simp [execOp, hop, resolve, invoke, builtin, hs, hx, hrun, Result.andThen]
    exact hK v' w' r1 r2

end Go.Proofs.YtacbpdampdikjaaDoor
