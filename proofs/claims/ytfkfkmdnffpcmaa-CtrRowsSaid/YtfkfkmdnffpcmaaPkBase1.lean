/-
  Some of the texts that the last one of these needs: walks of the functions that the law calls, and the mathematics of their answers.
-/
import Derived.WalkKit
import Derived.WalkSpells
import Derived.WalkLawsBesides
import Derived.Lib.Hide
import Derived.Deep.QuietTactic
import Derived.BigQuiet
import Derived.Deep.Draws
import Derived.Deep.AppendLies
import Derived.Maps.AppendAt
import Derived.OwnWalk
import Derived.Laws.CopyOwn
import Derived.ProofKit
import Derived.SizedLaws
import Derived.Deep.RegionHeld3
import Derived.Deep.RegionLaw
import Derived.StillTailTactics
import Derived.Deep.DeepFit
import Derived.Outline
import Derived.IntWalk
import Derived.Laws.BytesArg
import Derived.Laws.IdiomStrings
import Derived.Lib.ItoaNum
import Derived.Laws.Cover4
import Derived.Laws.AppendOwnNone
import Derived.Deep.WholeRow
import Derived.Deep.MidRow
import Derived.Laws.Tables
/-
  Small words on memory that all texts of this seat use: a slice that reads as a list, new rows of bytes, blocks known whole. No program is named here.
-/
namespace Go.Proofs.Ytfkfkmdnffpcmaa
open Go.RowKit

/-- The values of a row of bytes. -/
def Byt (l : List UInt8) : List Value := l.map fun b => .int .u8 (b.toNat : Int)
theorem Byt_length (l : List UInt8) : (Byt l).length = l.length := by simp [Byt]
theorem Byt_get {l : List UInt8} {k : Nat} (h : k < l.length) : (Byt l)[k]? = some (.int .u8 (l[k].toNat : Int)) := by
  simp [Byt, List.getElem?_eq_getElem h]
theorem Byt_append (a b : List UInt8) : Byt (a ++ b) = Byt a ++ Byt b := by simp [Byt]
theorem Byt_cons (a : UInt8) (b : List UInt8) : Byt (a :: b) = .int .u8 (a.toNat : Int) :: Byt b := rfl
theorem Byt_take (l : List UInt8) (k : Nat) : Byt (l.take k) = (Byt l).take k := by simp [Byt, List.map_take]
theorem Byt_drop (l : List UInt8) (k : Nat) : Byt (l.drop k) = (Byt l).drop k := by simp [Byt, List.map_drop]
theorem Byt_set (l : List UInt8) (k : Nat) (b : UInt8) : Byt (l.set k b) = (Byt l).set k (.int .u8 (b.toNat : Int)) := by simp [Byt, List.map_set]
theorem Byt_rep (n : Nat) : Byt (List.replicate n 0) = List.replicate n (.int .u8 0) := by simp [Byt]
theorem Byt_one (l : List UInt8) : ∀ u ∈ Byt l, u.oneCell' = true := by
  intro u hu
  simp only [Byt, List.mem_map] at hu
  obtain ⟨b, _, rfl⟩ := hu
  rfl

/-- The slice '.slice A n c' reads as 'xs' (cells of one value each), and lies below block B. -/
def Rd (w : World) (B : Nat) (A : Option Addr) (n : Nat) (xs : List Value) : Prop :=
  xs.length = n ∧ (0 < n → ∃ b o, A = some ⟨b, o, none⟩ ∧ b < B ∧ ∀ j u, xs[j]? = some u → w.cell? ⟨b, o + j, none⟩ = some u)

section
variable {w w' : World} {B B' n : Nat} {A : Option Addr} {xs : List Value}
theorem Rd.nil : Rd w B A 0 [] := ⟨rfl, fun h => absurd h (by omega)⟩
theorem Rd.len (h : Rd w B A n xs) : xs.length = n := h.1
theorem Rd.keep (h : Rd w B A n xs) (hk : ∀ p : Addr, p.block < B → w'.cell? p = w.cell? p) : Rd w' B A n xs :=
  ⟨h.1, fun hn => by
    obtain ⟨b, o, e, hb, hc⟩ := h.2 hn
    exact ⟨b, o, e, hb, fun j u hu => (hk _ hb).trans (hc j u hu)⟩⟩
theorem Rd.below (h : Rd w B A n xs) (hb : Below B w w') : Rd w' B A n xs := h.keep fun _ hp => hb.cell hp
theorem Rd.wider (h : Rd w B A n xs) (hB : B ≤ B') : Rd w B' A n xs :=
  ⟨h.1, fun hn => by
    obtain ⟨b, o, e, hb, hc⟩ := h.2 hn
    exact ⟨b, o, e, by omega, hc⟩⟩
theorem Rd.drewN (h : Rd w B A n xs) (k : Nat) : Rd (w.drewN k) B A n xs := h
theorem Rd.drew (h : Rd w B A n xs) : Rd w.drew B A n xs := h
theorem Rd.alloc (h : Rd w B A n xs) (hB : B ≤ w.heap.size) (o : Obj) : Rd (w.alloc o) B A n xs := h.keep fun p hp => World.cell?_alloc_lt w o p (by omega)
theorem Rd.setCell (h : Rd w B A n xs) {p : Addr} (hB : B ≤ p.block) (u : Value) : Rd (w.setCell p u) B A n xs :=
  h.keep fun q hq => World.cell?_setCell_other w p q u (fun e => by subst e; omega)
/-- At place k there is an address, and the cell. -/
theorem Rd.at_ {k : Nat} (h : Rd w B A n xs) (hk : k < n) : ∃ b o, A = some ⟨b, o, none⟩ ∧ b < B ∧ ∃ u, xs[k]? = some u ∧ w.cell? ⟨b, o + k, none⟩ = some u := by
  obtain ⟨b, o, e, hb, hc⟩ := h.2 (by omega)
  have hl : k < xs.length := by have := h.1; omega
  exact ⟨b, o, e, hb, xs[k], List.getElem?_eq_getElem hl, hc k _ (List.getElem?_eq_getElem hl)⟩
theorem Rd.byte {l : List UInt8} {k : Nat} (h : Rd w B A n (Byt l)) (hk : k < n) (hl : k < l.length) : ∃ b o, A = some ⟨b, o, none⟩ ∧ b < B ∧ w.cell? ⟨b, o + k, none⟩ = some (.int .u8 (l[k].toNat : Int)) := by
  obtain ⟨b, o, e, hb, u, hu, hc⟩ := h.at_ hk
  rw [Byt_get hl] at hu
  exact ⟨b, o, e, hb, by rw [hc, hu]⟩
theorem Rd.bytes {l : List UInt8} (h : Rd w B A n (Byt l)) : l.length = n := by have := h.1; rwa [Byt_length] at this
theorem Rd.of_own {base : Nat} {e : TypeId} {c : Nat} (h : w.ownsRow base e 1 (.slice A n c) n xs) : Rd w w.heap.size A n xs := by
  refine ⟨by simpa using h.1, fun hn => ?_⟩
  rcases h.2 with ⟨_, h0⟩ | ⟨g, cap, cur, hv, _, hg, _, _, _, htake⟩
  · omega
  · injection hv with hA _ _
    subst hA
    refine ⟨g, 0, rfl, (Array.getElem?_eq_some_iff.1 hg).1, fun j u hu => ?_⟩
    rw [Nat.zero_add, cell_of_row w g j cur e (0, 0) hg]
    rw [← htake, List.getElem?_take] at hu
    split at hu
    · simpa using hu
    · cases hu
end

theorem add_flat (b o j : Nat) : (⟨b, o, none⟩ : Addr).add j = ⟨b, o + j, none⟩ := by unfold Addr.add; split <;> simp_all
/-- A row of bytes made a text. -/
theorem Rd.conv {P : Program} {w : World} {B n c : Nat} {A : Option Addr} {l : List UInt8} (h : Rd w B A n (Byt l)) (src dst e : TypeId)
    (hs : P.underlying src = some (.slice e)) (he : P.underlying e = some (.int .u8)) (hd : P.underlying dst = some .string) :
    (convert src dst (.slice A n c)).run P w = .ok (.string ⟨l.toArray⟩) w := by
  have hl := h.bytes
  subst hl
  rcases A with _ | a
  · have h0 : l = [] := by
      rcases Nat.eq_zero_or_pos l.length with h0 | h0
      · exact List.eq_nil_of_length_eq_zero h0
      · obtain ⟨_, _, e, _⟩ := h.2 h0; cases e
    subst h0
    exact run_convert_bytes_nil w src e hs he _ _ dst hd
  · refine run_convert_bytes_back w src dst e a c l hs he hd (fun j hj => ?_)
    obtain ⟨b, o, ea, _, hc⟩ := h.byte hj hj
    injection ea with ea
    subst ea
    rw [add_flat]
    exact hc

theorem own_len {w : World} {base : Nat} {e : TypeId} {v : Value} {n : Nat} {l : List UInt8} (h : w.ownsRow base e 1 v n (Byt l)) : l.length = n := by
  have := h.1; rw [Byt_length] at this; omega
/-- What is owned is a slice value. -/
theorem own_form {w : World} {base : Nat} {e : TypeId} {v : Value} {n : Nat} {xs : List Value} (h : w.ownsRow base e 1 v n xs) : ∃ A c, v = .slice A n c ∧ n ≤ c ∧ c ≤ maxLen := by
  rcases h.2 with ⟨rfl, rfl⟩ | ⟨g, cap, cur, rfl, _, _, hn, hc, _⟩
  · exact ⟨none, 0, rfl, Nat.le_refl _, Nat.zero_le _⟩
  · exact ⟨_, cap, rfl, hn, hc⟩
theorem own_below {w w' : World} {base B : Nat} {e : TypeId} {v : Value} {n : Nat} {xs : List Value} (h : w.ownsRow base e 1 v n xs) (hb : Below B w w') (hB : w.heap.size ≤ B) : w'.ownsRow base e 1 v n xs := by
  refine ⟨h.1, ?_⟩
  rcases h.2 with h' | ⟨g, cap, cur, rfl, hg, hh, hr⟩
  · exact .inl h'
  · exact .inr ⟨g, cap, cur, rfl, hg, by rw [hb.block g (by have := (Array.getElem?_eq_some_iff.1 hh).1; omega)]; exact hh, hr⟩
theorem own_drewN {w : World} {base : Nat} {e : TypeId} {v : Value} {n : Nat} {xs : List Value} (h : w.ownsRow base e 1 v n xs) (k : Nat) : (w.drewN k).ownsRow base e 1 v n xs := h
theorem own_base {w : World} {base base' : Nat} {e : TypeId} {v : Value} {n : Nat} {xs : List Value} (h : w.ownsRow base e 1 v n xs) (hb : base' ≤ base) : w.ownsRow base' e 1 v n xs := by
  refine ⟨h.1, ?_⟩
  rcases h.2 with h' | ⟨g, cap, cur, rfl, hg, hh, hr⟩
  · exact .inl h'
  · exact .inr ⟨g, cap, cur, rfl, by omega, hh, hr⟩

theorem bdrewN {B : Nat} {a w : World} (h : Below B a w) (n : Nat) : Below B a (w.drewN n) := ⟨h.os, h.tape, h.output, h.size, h.block⟩

/-- What a call ends in that answers a new row of bytes. -/
def NewB (e : TypeId) (w : World) (l : List UInt8) (en : Ending) (w' : World) : Prop :=
  ∃ A c, en = .returned (.slice A l.length c) ∧ w'.ownsRow w.heap.size e 1 (.slice A l.length c) l.length (Byt l) ∧ Below w.heap.size w w'

/-- What a call ends in that answers plain values and leaves old memory. -/
def Ans (w : World) (v : Value) (en : Ending) (w' : World) : Prop := en = .returned v ∧ Below w.heap.size w w'

/-- 'make([]byte, n)'. -/
theorem wp_make_bytes {P : Program} {w : World} {ops : Array Oper} {rest : List Oper} {o : Oper} {a : Act} {Q : Exit → Act → World → Prop}
    (hg : o.guard = none) (l c : Operand) (t : TypeId) (hop : o.op = Op.makeSlice t l c) (e : TypeId)
    (h1 : P.underlying t = some (.slice e)) (h2 : (P.info? e).map (fun i => (i.zero, i.size, i.bytes)) = some (some (.int .u8 0), 1, 1))
    (n : Nat) (hl : a.eval l = .int .i64 (n : Int)) (hc : a.eval c = .int .i64 (n : Int)) (hn : n ≤ 281474976710656)
    (hK : ∀ w', w'.ownsRow w.heap.size e 1 (.slice (some ⟨w.heap.size, 0, none⟩) n n) n (Byt (List.replicate n 0)) → Below w.heap.size w w' → wpList P ops Q rest (a.put o.dst (.slice (some ⟨w.heap.size, 0, none⟩) n n)) w') :
    wpList P ops Q (o :: rest) a w := by
  obtain ⟨i0, hi, hz0, hz1, hz2⟩ := info_parts h2
  refine wpList_make_full w hg l c t hop w.heap.size e i0 (.int .u8 0) 1 h1 hi hz0 hz1 .i64 .i64 _ _ n hl hc rfl rfl (by rw [hz2]; omega) (by unfold maxLen; omega) (Nat.le_refl _) ?_
  intro w' hown hg
  refine hK w' ?_ ((Below.refl w.heap.size w).grown hg (Nat.le_refl _) (fun _ h => by cases h))
  rw [Nat.mul_one] at hown
  rw [Byt_rep]
  rwa [show (madeCells (Value.int .u8 0).cells n).toList = List.replicate n (.int .u8 0) from toList_madeCells_one _ _] at hown

section
variable {w : World} {base : Nat} {e : TypeId} {g n c : Nat} {l : List UInt8}
theorem own_cell (h : w.ownsRow base e 1 (.slice (some ⟨g, 0, none⟩) n c) n (Byt l)) {j : Nat} (hj : j < l.length) : w.cell? ⟨g, j, none⟩ = some (.int .u8 (l[j].toNat : Int)) := by
  have hl := own_len h
  rw [h.cellAt j (by omega), Byt_get hj]
theorem own_any (h : w.ownsRow base e 1 (.slice (some ⟨g, 0, none⟩) n c) n (Byt l)) {j : Nat} (hj : j < n) : ∃ u, w.cell? ⟨g, j, none⟩ = some u := by
  have hl := own_len h
  exact ⟨_, own_cell h (by omega)⟩
theorem own_put (h : w.ownsRow base e 1 (.slice (some ⟨g, 0, none⟩) n c) n (Byt l)) (j : Nat) (x : Int) (b : UInt8) (hx : x = (b.toNat : Int)) :
    (w.setCell ⟨g, j, none⟩ (.int .u8 x)).ownsRow base e 1 (.slice (some ⟨g, 0, none⟩) n c) n (Byt (l.set j b)) := by
  subst hx
  rw [Byt_set]; exact (h.stored j _).1
theorem own_set (h : w.ownsRow base e 1 (.slice (some ⟨g, 0, none⟩) n c) n (Byt l)) (j : Nat) (b : UInt8) :
    (w.setCell ⟨g, j, none⟩ (.int .u8 (b.toNat : Int))).ownsRow base e 1 (.slice (some ⟨g, 0, none⟩) n c) n (Byt (l.set j b)) := by
  rw [Byt_set]; exact (h.stored j _).1
end

/-- Bytes of numbers, as the walk writes them. -/
theorem u8_of (m : Nat) : ((UInt8.ofNat m).toNat : Int) = (m : Int) % 256 := by
  rw [UInt8.toNat_ofNat']; omega

end Go.Proofs.Ytfkfkmdnffpcmaa

namespace Go.Proofs.Ytfkfkmdnffpcmaa
open Go.RowKit

def sameL (a b : List UInt8) : Bool := decide (a = b)
theorem sameL_self (a : List UInt8) : sameL a a = true := by simp [sameL]
theorem take_succ_get {α : Type} (l : List α) (k : Nat) (h : k < l.length) : l.take (k + 1) = l.take k ++ [l[k]] := by
  rw [List.take_succ_eq_append_getElem h]

theorem byte_eq {a b : UInt8} (h : (a.toNat : Int) = (b.toNat : Int)) : a = b := by
  have : a.toNat = b.toNat := by omega
  exact UInt8.toNat_inj.1 this
theorem same_step {xs ys : List UInt8} {k : Nat} (hx : k < xs.length) (hy : k < ys.length) (ht : xs.take k = ys.take k) (h : ((xs[k].toNat : Int) != (ys[k].toNat : Int)) = false) :
    xs.take (k + 1) = ys.take (k + 1) := by
  have := byte_eq (by simpa using h)
  rw [take_succ_get _ _ hx, take_succ_get _ _ hy, ht, this]
theorem same_not {xs ys : List UInt8} {k : Nat} (hx : k < xs.length) (hy : k < ys.length) (h : ((xs[k].toNat : Int) != (ys[k].toNat : Int)) = true) : sameL xs ys = false := by
  refine decide_eq_false (fun e => ?_)
  subst e
  simp at h
theorem same_all {xs ys : List UInt8} {k : Nat} (hx : xs.length ≤ k) (hy : ys.length ≤ k) (ht : xs.take k = ys.take k) : sameL xs ys = true := by
  rw [List.take_of_length_le hx, List.take_of_length_le hy] at ht
  exact decide_eq_true ht

/-- The lowest bytes of m, k of them, the highest first. -/
def putL : Nat → Nat → List UInt8
  | _, 0 => []
  | m, k + 1 => putL (m / 256) k ++ [UInt8.ofNat m]
theorem putL_length (m k : Nat) : (putL m k).length = k := by
  induction k generalizing m with
  | zero => rfl
  | succ k ih => simp [putL, ih]
theorem putL_zero (k : Nat) : putL 0 k = List.replicate k 0 := by
  induction k with
  | zero => rfl
  | succ k ih => simp only [putL, Nat.zero_div, ih]; rw [List.replicate_succ']; rfl

/-- What Put answers. -/
def putR (m : Nat) (size : Int) : List UInt8 := if 1 ≤ size ∧ size ≤ 8 then putL m size.toNat else []

theorem set_front (q : Nat) (b : UInt8) (done : List UInt8) : (List.replicate (q + 1) 0 ++ done).set q b = List.replicate q 0 ++ b :: done := by
  rw [List.set_append_left _ _ (by simp), List.replicate_succ', List.set_append_right _ _ (by simp)]
  simp

/-- Nothing: a nil slice. -/
theorem newB_nil (e : TypeId) (w w' : World) (hb : Below w.heap.size w w') : NewB e w [] (.returned (.slice none 0 0)) w' :=
  ⟨none, 0, rfl, World.ownsRow_nil _ _ _ _, hb⟩

/-- The number of bytes, the highest first. -/
def getL (l : List UInt8) : Nat := l.foldl (fun n b => n * 256 + b.toNat) 0
theorem getL_snoc (l : List UInt8) (b : UInt8) : getL (l ++ [b]) = getL l * 256 + b.toNat := by simp [getL]
theorem getL_fold (l : List UInt8) : ∀ a : Nat, l.foldl (fun n b => n * 256 + b.toNat) a < (a + 1) * 256 ^ l.length := by
  induction l with
  | nil => intro a; simp
  | cons b l ih =>
    intro a
    rw [List.foldl_cons, List.length_cons, Nat.pow_succ]
    refine Nat.lt_of_lt_of_le (ih _) ?_
    rw [Nat.mul_comm (256 ^ l.length) 256, ← Nat.mul_assoc]
    refine Nat.mul_le_mul_right _ ?_
    have := b.toNat_lt
    omega
theorem getL_lt (l : List UInt8) : getL l < 256 ^ l.length := by simpa [getL] using getL_fold l 0
theorem getL_take_lt {l : List UInt8} {k : Nat} (hk : k ≤ 7) : getL (l.take k) < 72057594037927936 := by
  have h := getL_lt (l.take k)
  have h2 : 256 ^ (l.take k).length ≤ 256 ^ 7 := Nat.pow_le_pow_right (by omega) (Nat.le_trans (List.length_take_le _ _) hk)
  omega

/-- What Get answers: the number, and a fault. -/
def getV (l : List UInt8) : Value := if 1 ≤ l.length ∧ l.length ≤ 8 then .tuple #[.int .u64 (getL l), .int .i64 0] else .tuple #[.int .u64 0, .int .i64 4]

theorem or_byte (a b : Nat) (ha : a < 72057594037927936) (hb : b < 256) : bits .or .u64 ((a : Int) * 256) (b : Int) = ((a * 256 + b : Nat) : Int) := by
  have h := u64_or_nat (a * 256) b (by omega) (by omega)
  rw [Int.natCast_mul] at h
  rw [show ((a : Int) * 256) = (a : Int) * ((256 : Nat) : Int) from rfl, h, nat_join 8 (a * 256) b (by omega) (by omega)]


/-- Digits, and the number that they are. -/
def isDig (b : UInt8) : Bool := decide (48 ≤ (b.toNat : Int) ∧ (b.toNat : Int) ≤ 57)
def numL (l : List UInt8) : Nat := l.foldl (fun n b => 10 * n + (b.toNat - 48)) 0
theorem numL_snoc (l : List UInt8) (b : UInt8) : numL (l ++ [b]) = 10 * numL l + (b.toNat - 48) := by simp [numL]
theorem numL_fold (l : List UInt8) (h : l.all isDig = true) : ∀ a : Nat, l.foldl (fun n b => 10 * n + (b.toNat - 48)) a < (a + 1) * 10 ^ l.length := by
  induction l with
  | nil => intro a; simp
  | cons b l ih =>
    intro a
    simp only [List.all_cons, Bool.and_eq_true] at h
    rw [List.foldl_cons, List.length_cons, Nat.pow_succ]
    refine Nat.lt_of_lt_of_le (ih h.2 _) ?_
    rw [Nat.mul_comm (10 ^ l.length) 10, ← Nat.mul_assoc]
    refine Nat.mul_le_mul_right _ ?_
    have := h.1
    simp only [isDig, decide_eq_true_eq] at this
    omega
theorem numL_lt (l : List UInt8) (h : l.all isDig = true) : numL l < 10 ^ l.length := by simpa [numL] using numL_fold l h 0
theorem numL_take_lt {l : List UInt8} {k : Nat} (h : (l.take k).all isDig = true) (hk : k ≤ 17) : numL (l.take k) < 100000000000000000 := by
  have h1 := numL_lt (l.take k) h
  have h2 : 10 ^ (l.take k).length ≤ 10 ^ 17 := Nat.pow_le_pow_right (by omega) (Nat.le_trans (List.length_take_le _ _) hk)
  omega
theorem dig_not {l : List UInt8} {k : Nat} (hk : k < l.length) (h : isDig l[k] = false) : l.all isDig = false := by
  rw [List.all_eq_false]
  exact ⟨l[k], List.getElem_mem hk, by simp [h]⟩
theorem dig_step {l : List UInt8} {k : Nat} (hk : k < l.length) (h : isDig l[k] = true) (ht : (l.take k).all isDig = true) : (l.take (k + 1)).all isDig = true := by
  rw [take_succ_get _ _ hk, List.all_append, ht]
  simp [h]
/-- What Parse answers: the number, and a fault. -/
def parseBad (l : List UInt8) : Bool := decide (l.length < 1) || decide (18 < l.length) || (decide (1 < l.length) && decide (l.head? = some 48))
def parseV (l : List UInt8) (most : Int) : Value :=
  if parseBad l || !l.all isDig then .tuple #[.int .i64 0, .int .i64 3]
  else if most < numL l then .tuple #[.int .i64 0, .int .i64 2] else .tuple #[.int .i64 (numL l), .int .i64 0]

/-- A string's bytes as a list. -/
theorem str_len (s : ByteArray) : s.data.toList.length = s.size := by simp
theorem str_get (s : ByteArray) (k : Nat) (h : k < s.size) : s.data.toList[k]'(by simpa using h) = s[k] := rfl
theorem str_take (s : ByteArray) (k : Nat) (h : k < s.size) : s.data.toList.take (k + 1) = s.data.toList.take k ++ [s[k]] := by
  rw [take_succ_get _ _ (by simpa using h), str_get s k h]
theorem str_head (s : ByteArray) (h : 0 < s.size) : s.data.toList.head? = some s[0] := by
  rw [List.head?_eq_getElem?, List.getElem?_eq_getElem (by simpa using h), str_get s 0 h]
theorem parse_syn {l : List UInt8} (most : Int) (h : parseBad l = true) : parseV l most = .tuple #[.int .i64 0, .int .i64 3] := by
  rw [parseV, if_pos (by rw [h]; rfl)]
theorem parse_sig {l : List UInt8} (most : Int) (h : l.all isDig = false) : parseV l most = .tuple #[.int .i64 0, .int .i64 3] := by
  rw [parseV, if_pos (by rw [h]; simp)]
theorem parse_far {l : List UInt8} (most : Int) (h0 : parseBad l = false) (h : l.all isDig = true) (hm : most < numL l) : parseV l most = .tuple #[.int .i64 0, .int .i64 2] := by
  rw [parseV, if_neg (by rw [h0, h]; simp), if_pos hm]
theorem parse_ok {l : List UInt8} (most : Int) (h0 : parseBad l = false) (h : l.all isDig = true) (hm : (numL l : Int) ≤ most) : parseV l most = .tuple #[.int .i64 (numL l), .int .i64 0] := by
  rw [parseV, if_neg (by rw [h0, h]; simp), if_neg (by omega)]
theorem parseBad_few {s : ByteArray} (h : s.size < 1) : parseBad s.data.toList = true := by unfold parseBad; rw [str_len, decide_eq_true h]; rfl
theorem parseBad_many {s : ByteArray} (h : 18 < s.size) : parseBad s.data.toList = true := by unfold parseBad; rw [str_len, decide_eq_true h, Bool.or_true]; rfl
theorem parseBad_ahead {s : ByteArray} (h : 1 < s.size) (h0 : ((s[0].toNat : Int) == 48) = true) : parseBad s.data.toList = true := by
  have e : s[0] = 48 := UInt8.toNat_inj.1 (by have := beq_iff_eq.1 h0; simp; omega)
  unfold parseBad
  rw [str_head s (by omega), e, str_len]
  simp; omega
theorem parseBad_one {s : ByteArray} (h : s.size = 1) : parseBad s.data.toList = false := by simp [parseBad, h]
theorem parseBad_more {s : ByteArray} (h : 1 < s.size) (h18 : s.size ≤ 18) (h0 : ((s[0].toNat : Int) == 48) = false) : parseBad s.data.toList = false := by
  unfold parseBad
  rw [str_head s (by omega), str_len]
  have e : ¬ (some s[0] = some (48 : UInt8)) := fun e => by injection e with e; rw [e] at h0; simp at h0
  rw [decide_eq_false e, decide_eq_false (show ¬ s.size < 1 by omega), decide_eq_false (show ¬ 18 < s.size by omega), Bool.and_false]
  rfl
theorem isDig_yes {b : UInt8} (h : isDig b = true) : 48 ≤ (b.toNat : Int) ∧ (b.toNat : Int) ≤ 57 := by simpa [isDig] using h
theorem isDig_no {b : UInt8} (h : (b.toNat : Int) < 48 ∨ 57 < (b.toNat : Int)) : isDig b = false := decide_eq_false (by omega)

theorem getV_form (l : List UInt8) : ∃ (x f : Nat), getV l = .tuple #[.int .u64 x, .int .i64 f] := by
  unfold getV
  split
  · exact ⟨getL l, 0, rfl⟩
  · exact ⟨0, 4, rfl⟩
theorem parseV_form (l : List UInt8) (most : Int) : ∃ (x f : Nat), parseV l most = .tuple #[.int .i64 x, .int .i64 f] := by
  unfold parseV
  split
  · exact ⟨0, 3, rfl⟩
  · split
    · exact ⟨0, 2, rfl⟩
    · exact ⟨numL l, 0, rfl⟩

end Go.Proofs.Ytfkfkmdnffpcmaa

/-
  The field of 256 numbers: plain mathematics. No program is named here.
-/
namespace Go.Proofs.Ytfkfkmdnffpcmaa
open Go.RowKit

/-- Twice. -/
def gtwiceU (a : UInt8) : UInt8 := if 128 ≤ a.toNat then (a + a) ^^^ 27 else a + a
/-- The product, bit by bit: k bits are left of a, b has been doubled, s is the sum till now. -/
def gloopU : Nat → UInt8 → UInt8 → UInt8 → UInt8
  | 0, _, _, s => s
  | k + 1, a, b, s => gloopU k (a / 2) (gtwiceU b) (if a.toNat % 2 = 1 then s ^^^ b else s)
def gmulU (a b : UInt8) : UInt8 := gloopU 8 a b 0

/-- All bytes, one by one. -/
theorem all_bytes {p : UInt8 → Prop} [∀ a, Decidable (p a)] (h : ((List.range 256).all fun n => decide (p (UInt8.ofNat n))) = true) : ∀ a : UInt8, p a := by
  intro a
  have h1 := List.all_eq_true.1 h a.toNat (List.mem_range.2 a.toNat_lt)
  have h2 := of_decide_eq_true h1
  rwa [UInt8.ofNat_toNat] at h2

def gbit (x : UInt8) (i : Nat) (v : UInt8) : UInt8 := if x.toNat.testBit i then v else 0
/-- The sum of those of v whose bit is set in x. -/
def gcomb (v : Nat → UInt8) (x : UInt8) : UInt8 := gbit x 0 (v 0) ^^^ gbit x 1 (v 1) ^^^ gbit x 2 (v 2) ^^^ gbit x 3 (v 3) ^^^ gbit x 4 (v 4) ^^^ gbit x 5 (v 5) ^^^ gbit x 6 (v 6) ^^^ gbit x 7 (v 7)
theorem gbit_xor (x y : UInt8) (i : Nat) (v : UInt8) : gbit (x ^^^ y) i v = gbit x i v ^^^ gbit y i v := by
  unfold gbit
  rw [UInt8.toNat_xor, Nat.testBit_xor]
  cases x.toNat.testBit i <;> cases y.toNat.testBit i <;> simp
theorem x4 (a b c d : UInt8) : (a ^^^ b) ^^^ (c ^^^ d) = (a ^^^ c) ^^^ (b ^^^ d) := by
  rw [UInt8.xor_assoc, UInt8.xor_assoc, ← UInt8.xor_assoc b, UInt8.xor_comm b c, UInt8.xor_assoc]
theorem gcomb_xor (v : Nat → UInt8) (x y : UInt8) : gcomb v (x ^^^ y) = gcomb v x ^^^ gcomb v y := by
  unfold gcomb
  simp only [gbit_xor]
  simp only [x4]

/-- A function that goes over sums. -/
def Adds (f : UInt8 → UInt8) : Prop := ∀ x y, f (x ^^^ y) = f x ^^^ f y
theorem Adds.zero {f : UInt8 → UInt8} (h : Adds f) : f 0 = 0 := by
  have := h 0 0
  rw [UInt8.xor_self] at this
  rw [UInt8.xor_self] at this
  exact this
def gbase (i : Nat) : UInt8 := UInt8.ofNat (2 ^ i)
theorem gbase_comb : ∀ x : UInt8, gcomb gbase x = x := all_bytes (by decide +kernel)
theorem Adds.gbit {f : UInt8 → UInt8} (h : Adds f) (x : UInt8) (i : Nat) (v : UInt8) : f (gbit x i v) = Proofs.Ytfkfkmdnffpcmaa.gbit x i (f v) := by
  unfold Proofs.Ytfkfkmdnffpcmaa.gbit
  split
  · rfl
  · exact h.zero
theorem Adds.comb {f : UInt8 → UInt8} (h : Adds f) (x : UInt8) : f x = gcomb (fun i => f (gbase i)) x := by
  rw [← gbase_comb x]
  conv => lhs; unfold gcomb
  simp only [h _ _, h.gbit]
  rw [gbase_comb x]
  rfl
/-- Two that go over sums are one where they agree at the eight bits. -/
theorem Adds.ext {f g : UInt8 → UInt8} (hf : Adds f) (hg : Adds g) (h : ∀ i, i < 8 → f (gbase i) = g (gbase i)) (x : UInt8) : f x = g x := by
  rw [hf.comb, hg.comb]
  unfold gcomb
  dsimp only
  rw [h 0 (by decide), h 1 (by decide), h 2 (by decide), h 3 (by decide), h 4 (by decide), h 5 (by decide), h 6 (by decide), h 7 (by decide)]

theorem gtwice_comb : ∀ x : UInt8, gtwiceU x = gcomb (fun i => gtwiceU (gbase i)) x := all_bytes (by decide +kernel)
theorem gtwice_adds : Adds gtwiceU := fun x y => by rw [gtwice_comb, gtwice_comb x, gtwice_comb y, gcomb_xor]
theorem gloop_adds (k : Nat) : ∀ (a b c s t : UInt8), gloopU k a (b ^^^ c) (s ^^^ t) = gloopU k a b s ^^^ gloopU k a c t := by
  induction k with
  | zero => intro a b c s t; rfl
  | succ k ih =>
    intro a b c s t
    unfold gloopU
    rw [gtwice_adds b c]
    split
    · rw [x4, ih]
    · rw [ih]
/-- The product goes over sums of the second one. -/
theorem gmul_adds (a : UInt8) : Adds (gmulU a) := fun b c => by
  unfold gmulU
  rw [← gloop_adds, UInt8.xor_self]

theorem half_xor (a b : UInt8) : (a ^^^ b) / 2 = a / 2 ^^^ b / 2 := by
  apply UInt8.toNat_inj.1
  rw [UInt8.toNat_div, UInt8.toNat_xor, UInt8.toNat_xor, UInt8.toNat_div, UInt8.toNat_div]
  show (a.toNat ^^^ b.toNat) / 2 = a.toNat / 2 ^^^ b.toNat / 2
  apply Nat.eq_of_testBit_eq
  intro i
  rw [Nat.testBit_xor, Nat.testBit_div_two, Nat.testBit_div_two, Nat.testBit_div_two, Nat.testBit_xor]
theorem odd_xor (a b : UInt8) : decide ((a ^^^ b).toNat % 2 = 1) = (decide (a.toNat % 2 = 1) ^^ decide (b.toNat % 2 = 1)) := by
  rw [UInt8.toNat_xor, ← Nat.testBit_zero, Nat.testBit_xor, Nat.testBit_zero, Nat.testBit_zero]
theorem gloop_left (k : Nat) : ∀ (a a' b s t : UInt8), gloopU k (a ^^^ a') b (s ^^^ t) = gloopU k a b s ^^^ gloopU k a' b t := by
  induction k with
  | zero => intro a a' b s t; rfl
  | succ k ih =>
    intro a a' b s t
    unfold gloopU
    rw [half_xor]
    have h := odd_xor a a'
    by_cases h1 : a.toNat % 2 = 1 <;> by_cases h2 : a'.toNat % 2 = 1
    · rw [decide_eq_true h1, decide_eq_true h2] at h
      have h3 : ¬ (a ^^^ a').toNat % 2 = 1 := of_decide_eq_false h
      rw [if_neg h3, if_pos h1, if_pos h2, ← ih, x4, UInt8.xor_self, UInt8.xor_zero]
    · rw [decide_eq_true h1, decide_eq_false h2] at h
      have h3 : (a ^^^ a').toNat % 2 = 1 := of_decide_eq_true h
      rw [if_pos h3, if_pos h1, if_neg h2, ← ih, UInt8.xor_assoc, UInt8.xor_comm t b, ← UInt8.xor_assoc]
    · rw [decide_eq_false h1, decide_eq_true h2] at h
      have h3 : (a ^^^ a').toNat % 2 = 1 := of_decide_eq_true h
      rw [if_pos h3, if_neg h1, if_pos h2, ← ih, UInt8.xor_assoc]
    · rw [decide_eq_false h1, decide_eq_false h2] at h
      have h3 : ¬ (a ^^^ a').toNat % 2 = 1 := of_decide_eq_false h
      rw [if_neg h3, if_neg h1, if_neg h2, ← ih]
/-- .. and of the first one. -/
theorem gmul_left (b : UInt8) : Adds fun a => gmulU a b := fun a a' => by
  show gloopU 8 (a ^^^ a') b 0 = gloopU 8 a b 0 ^^^ gloopU 8 a' b 0
  rw [← gloop_left, UInt8.xor_self]

theorem gmul_base : ((List.range 8).all fun i => (List.range 8).all fun j => decide (gmulU (gbase i) (gbase j) = gmulU (gbase j) (gbase i))) = true := by decide +kernel
theorem gmul_base3 : ((List.range 8).all fun i => (List.range 8).all fun j => (List.range 8).all fun k => decide (gmulU (gbase i) (gmulU (gbase j) (gbase k)) = gmulU (gmulU (gbase i) (gbase j)) (gbase k))) = true := by decide +kernel
/-- Products do not hang on the order. -/
theorem gmul_comm (a b : UInt8) : gmulU a b = gmulU b a := by
  refine Adds.ext (gmul_left b) (gmul_adds b) (fun i hi => ?_) a
  refine Adds.ext (f := gmulU (gbase i)) (g := fun b => gmulU b (gbase i)) (gmul_adds _) (gmul_left _) (fun j hj => ?_) b
  exact of_decide_eq_true (List.all_eq_true.1 (List.all_eq_true.1 gmul_base i (List.mem_range.2 hi)) j (List.mem_range.2 hj))
theorem Adds.then {f g : UInt8 → UInt8} (hf : Adds f) (hg : Adds g) : Adds fun x => g (f x) := fun x y => by
  show g (f (x ^^^ y)) = g (f x) ^^^ g (f y)
  rw [hf, hg]
section
attribute [local irreducible] gmulU
theorem gmul_assoc (a b c : UInt8) : gmulU a (gmulU b c) = gmulU (gmulU a b) c := by
  have l1 : Adds fun a => gmulU a (gmulU b c) := gmul_left _
  have r1 : Adds fun a => gmulU (gmulU a b) c := Adds.then (f := fun a => gmulU a b) (g := fun a => gmulU a c) (gmul_left b) (gmul_left c)
  refine Adds.ext l1 r1 (fun i hi => ?_) a
  have l2 : Adds fun b => gmulU (gbase i) (gmulU b c) := Adds.then (f := fun b => gmulU b c) (g := gmulU (gbase i)) (gmul_left c) (gmul_adds _)
  have r2 : Adds fun b => gmulU (gmulU (gbase i) b) c := Adds.then (f := gmulU (gbase i)) (g := fun a => gmulU a c) (gmul_adds _) (gmul_left c)
  refine Adds.ext l2 r2 (fun j hj => ?_) b
  have l3 : Adds fun c => gmulU (gbase i) (gmulU (gbase j) c) := Adds.then (f := gmulU (gbase j)) (g := gmulU (gbase i)) (gmul_adds _) (gmul_adds _)
  have r3 : Adds fun c => gmulU (gmulU (gbase i) (gbase j)) c := gmul_adds _
  refine Adds.ext l3 r3 (fun k hk => ?_) c
  exact of_decide_eq_true (List.all_eq_true.1 (List.all_eq_true.1 (List.all_eq_true.1 gmul_base3 i (List.mem_range.2 hi)) j (List.mem_range.2 hj)) k (List.mem_range.2 hk))
end
theorem gmul_one : ∀ a : UInt8, gmulU a 1 = a := all_bytes (by decide +kernel)

/-- The inverse, by search: the first one of those from n on whose product is 1. -/
def gseekU (a : UInt8) : Nat → Nat → UInt8
  | 0, _ => 0
  | k + 1, n => if gmulU a (UInt8.ofNat n) = 1 then UInt8.ofNat n else gseekU a k (n + 1)
def ginvU (a : UInt8) : UInt8 := gseekU a 256 0
/-- The inverses, as they are found. -/
def ginvTab : List Nat := [0, 1, 141, 246, 203, 82, 123, 209, 232, 79, 41, 192, 176, 225, 229, 199, 116, 180, 170, 75, 153, 43, 96, 95, 88, 63, 253, 204, 255, 64, 238, 178, 58, 110, 90, 241, 85, 77, 168, 201, 193, 10, 152, 21, 48, 68, 162, 194, 44, 69, 146, 108, 243, 57, 102, 66, 242, 53, 32, 111, 119, 187, 89, 25, 29, 254, 55, 103, 45, 49, 245, 105, 167, 100, 171, 19, 84, 37, 233, 9, 237, 92, 5, 202, 76, 36, 135, 191, 24, 62, 34, 240, 81, 236, 97, 23, 22, 94, 175, 211, 73, 166, 54, 67, 244, 71, 145, 223, 51, 147, 33, 59, 121, 183, 151, 133, 16, 181, 186, 60, 182, 112, 208, 6, 161, 250, 129, 130, 131, 126, 127, 128, 150, 115, 190, 86, 155, 158, 149, 217, 247, 2, 185, 164, 222, 106, 50, 109, 216, 138, 132, 114, 42, 20, 159, 136, 249, 220, 137, 154, 251, 124, 46, 195, 143, 184, 101, 72, 38, 200, 18, 74, 206, 231, 210, 98, 12, 224, 31, 239, 17, 117, 120, 113, 165, 142, 118, 61, 189, 188, 134, 87, 11, 40, 47, 163, 218, 212, 228, 15, 169, 39, 83, 4, 27, 252, 172, 230, 122, 7, 174, 99, 197, 219, 226, 234, 148, 139, 196, 213, 157, 248, 144, 107, 177, 13, 214, 235, 198, 14, 207, 173, 8, 78, 215, 227, 93, 80, 30, 179, 91, 35, 56, 52, 104, 70, 3, 140, 221, 156, 125, 160, 205, 26, 65, 28]
def gtabU (a : UInt8) : UInt8 := UInt8.ofNat (ginvTab.getD a.toNat 0)
theorem gtab_mul : ∀ a : UInt8, a ≠ 0 → gmulU a (gtabU a) = 1 := all_bytes (by decide +kernel)
theorem gseek_some (a : UInt8) (m : Nat) (hm : gmulU a (UInt8.ofNat m) = 1) : ∀ k n, n ≤ m → m < n + k → gmulU a (gseekU a k n) = 1 := by
  intro k
  induction k with
  | zero => intro n h1 h2; omega
  | succ k ih =>
    intro n h1 h2
    unfold gseekU
    split
    · rename_i h; exact h
    · rename_i h
      refine ih (n + 1) ?_ (by omega)
      rcases Nat.lt_or_ge n m with h3 | h3
      · exact h3
      · obtain rfl : n = m := by omega
        exact absurd hm h
theorem gseek_none (a : UInt8) (h : ∀ n, gmulU a n ≠ 1) : ∀ k n, gseekU a k n = 0 := by
  intro k
  induction k with
  | zero => intro n; rfl
  | succ k ih => intro n; unfold gseekU; rw [if_neg (h _), ih]
theorem ginv_mul (a : UInt8) (h : a ≠ 0) : gmulU a (ginvU a) = 1 :=
  gseek_some a (gtabU a).toNat (by rw [UInt8.ofNat_toNat]; exact gtab_mul a h) 256 0 (Nat.zero_le _) (by have := (gtabU a).toNat_lt; omega)
theorem ginv_zero : ginvU 0 = 0 := gseek_none 0 (fun n e => by
  rw [(gmul_left n).zero] at e
  exact absurd e (by decide)) 256 0
theorem ginv_tab (a : UInt8) : ginvU a = gtabU a := by
  by_cases h : a = 0
  · subst h; rw [ginv_zero]; rfl
  · have h1 := ginv_mul a h
    have h2 := gtab_mul a h
    have h3 : gmulU (gmulU a (ginvU a)) (gtabU a) = gmulU (ginvU a) (gmulU a (gtabU a)) := by rw [gmul_comm a (ginvU a), ← gmul_assoc]
    rw [h1, h2, gmul_comm, gmul_one, gmul_one] at h3
    exact h3.symm
theorem ginv_back (a : UInt8) : ginvU (ginvU a) = a := by
  by_cases h : a = 0
  · subst h; rw [ginv_zero, ginv_zero]
  · have h1 := ginv_mul a h
    have h0 : ginvU a ≠ 0 := fun e => by
      rw [e, (gmul_adds a).zero] at h1
      exact absurd h1 (by decide)
    have h2 := ginv_mul _ h0
    have h3 : gmulU a (gmulU (ginvU a) (ginvU (ginvU a))) = ginvU (ginvU a) := by rw [gmul_assoc, h1, gmul_comm, gmul_one]
    rw [h2, gmul_one] at h3
    exact h3.symm
/-- What a is put for. -/
def gleftU (a : UInt8) (n : Nat) : UInt8 := UInt8.ofNat (a.toNat * 2 ^ n) ^^^ UInt8.ofNat (a.toNat / 2 ^ (8 - n))
def gboxU (a : UInt8) : UInt8 := ginvU a ^^^ gleftU (ginvU a) 1 ^^^ gleftU (ginvU a) 2 ^^^ gleftU (ginvU a) 3 ^^^ gleftU (ginvU a) 4 ^^^ 99
/-- What each is put for, as it is found, and back. -/
def gboxTab : List Nat := [99, 124, 119, 123, 242, 107, 111, 197, 48, 1, 103, 43, 254, 215, 171, 118, 202, 130, 201, 125, 250, 89, 71, 240, 173, 212, 162, 175, 156, 164, 114, 192, 183, 253, 147, 38, 54, 63, 247, 204, 52, 165, 229, 241, 113, 216, 49, 21, 4, 199, 35, 195, 24, 150, 5, 154, 7, 18, 128, 226, 235, 39, 178, 117, 9, 131, 44, 26, 27, 110, 90, 160, 82, 59, 214, 179, 41, 227, 47, 132, 83, 209, 0, 237, 32, 252, 177, 91, 106, 203, 190, 57, 74, 76, 88, 207, 208, 239, 170, 251, 67, 77, 51, 133, 69, 249, 2, 127, 80, 60, 159, 168, 81, 163, 64, 143, 146, 157, 56, 245, 188, 182, 218, 33, 16, 255, 243, 210, 205, 12, 19, 236, 95, 151, 68, 23, 196, 167, 126, 61, 100, 93, 25, 115, 96, 129, 79, 220, 34, 42, 144, 136, 70, 238, 184, 20, 222, 94, 11, 219, 224, 50, 58, 10, 73, 6, 36, 92, 194, 211, 172, 98, 145, 149, 228, 121, 231, 200, 55, 109, 141, 213, 78, 169, 108, 86, 244, 234, 101, 122, 174, 8, 186, 120, 37, 46, 28, 166, 180, 198, 232, 221, 116, 31, 75, 189, 139, 138, 112, 62, 181, 102, 72, 3, 246, 14, 97, 53, 87, 185, 134, 193, 29, 158, 225, 248, 152, 17, 105, 217, 142, 148, 155, 30, 135, 233, 206, 85, 40, 223, 140, 161, 137, 13, 191, 230, 66, 104, 65, 153, 45, 15, 176, 84, 187, 22]
def gunboxTab : List Nat := [82, 9, 106, 213, 48, 54, 165, 56, 191, 64, 163, 158, 129, 243, 215, 251, 124, 227, 57, 130, 155, 47, 255, 135, 52, 142, 67, 68, 196, 222, 233, 203, 84, 123, 148, 50, 166, 194, 35, 61, 238, 76, 149, 11, 66, 250, 195, 78, 8, 46, 161, 102, 40, 217, 36, 178, 118, 91, 162, 73, 109, 139, 209, 37, 114, 248, 246, 100, 134, 104, 152, 22, 212, 164, 92, 204, 93, 101, 182, 146, 108, 112, 72, 80, 253, 237, 185, 218, 94, 21, 70, 87, 167, 141, 157, 132, 144, 216, 171, 0, 140, 188, 211, 10, 247, 228, 88, 5, 184, 179, 69, 6, 208, 44, 30, 143, 202, 63, 15, 2, 193, 175, 189, 3, 1, 19, 138, 107, 58, 145, 17, 65, 79, 103, 220, 234, 151, 242, 207, 206, 240, 180, 230, 115, 150, 172, 116, 34, 231, 173, 53, 133, 226, 249, 55, 232, 28, 117, 223, 110, 71, 241, 26, 113, 29, 41, 197, 137, 111, 183, 98, 14, 170, 24, 190, 27, 252, 86, 62, 75, 198, 210, 121, 32, 154, 219, 192, 254, 120, 205, 90, 244, 31, 221, 168, 51, 136, 7, 199, 49, 177, 18, 16, 89, 39, 128, 236, 95, 96, 81, 127, 169, 25, 181, 74, 13, 45, 229, 122, 159, 147, 201, 156, 239, 160, 224, 59, 77, 174, 42, 245, 176, 200, 235, 187, 60, 131, 83, 153, 97, 23, 43, 4, 126, 186, 119, 214, 38, 225, 105, 20, 99, 85, 33, 12, 125]
theorem gbox_tab0 : ∀ a : UInt8, gtabU a ^^^ gleftU (gtabU a) 1 ^^^ gleftU (gtabU a) 2 ^^^ gleftU (gtabU a) 3 ^^^ gleftU (gtabU a) 4 ^^^ 99 = UInt8.ofNat (gboxTab.getD a.toNat 0) := all_bytes (by decide +kernel)
theorem gbox_tab (a : UInt8) : gboxU a = UInt8.ofNat (gboxTab.getD a.toNat 0) := by
  unfold gboxU
  rw [ginv_tab, gbox_tab0]
theorem gunbox_tab : ∀ a : UInt8, UInt8.ofNat (gunboxTab.getD (UInt8.ofNat (gboxTab.getD a.toNat 0)).toNat 0) = a := all_bytes (by decide +kernel)
/-- No two are put for one. -/
theorem gbox_inj {a b : UInt8} (h : gboxU a = gboxU b) : a = b := by
  rw [gbox_tab, gbox_tab] at h
  rw [← gunbox_tab a, h, gunbox_tab]

/-- A column that is mixed: each of the four, the next ones going round. -/
def gmixU (a b c d : UInt8) : UInt8 := gtwiceU a ^^^ b ^^^ gtwiceU b ^^^ c ^^^ d
theorem gx_left (a b c : UInt8) : a ^^^ (b ^^^ c) = b ^^^ (a ^^^ c) := by rw [← UInt8.xor_assoc, UInt8.xor_comm a b, UInt8.xor_assoc]
theorem gx_cancel (a b : UInt8) : a ^^^ (a ^^^ b) = b := by rw [← UInt8.xor_assoc, UInt8.xor_self, UInt8.zero_xor]
theorem gtwice_xor (x y : UInt8) : gtwiceU (x ^^^ y) = gtwiceU x ^^^ gtwiceU y := gtwice_adds x y
/-- Mixed twice. -/
theorem gmix_two (a b c d : UInt8) : gmixU (gmixU a b c d) (gmixU b c d a) (gmixU c d a b) (gmixU d a b c) = gtwiceU (gtwiceU a) ^^^ a ^^^ gtwiceU (gtwiceU c) := by
  unfold gmixU
  simp only [gtwice_xor]
  simp only [UInt8.xor_assoc, gx_left, gx_cancel, UInt8.xor_comm]
/-- .. and four times: as it was. -/
theorem gmix_four (a c : UInt8) : (fun a c => gtwiceU (gtwiceU a) ^^^ a ^^^ gtwiceU (gtwiceU c)) (gtwiceU (gtwiceU a) ^^^ a ^^^ gtwiceU (gtwiceU c)) (gtwiceU (gtwiceU c) ^^^ c ^^^ gtwiceU (gtwiceU a)) = a := by
  dsimp only
  simp only [gtwice_xor]
  simp only [UInt8.xor_assoc, gx_left, gx_cancel, UInt8.xor_comm, UInt8.xor_self, UInt8.xor_zero]

end Go.Proofs.Ytfkfkmdnffpcmaa

/-
  Powers: plain mathematics. No program is named here.
-/
namespace Go.Proofs.Ytfkfkmdnffpcmaa
open Go.RowKit

section
attribute [local irreducible] gmulU
/-- The product of n times a. -/
def gpowU (a : UInt8) : Nat → UInt8
  | 0 => 1
  | n + 1 => gmulU (gpowU a n) a
theorem gone_mul (a : UInt8) : gmulU 1 a = a := by rw [gmul_comm, gmul_one]
theorem gpow_add (a : UInt8) (m : Nat) : ∀ n, gpowU a (m + n) = gmulU (gpowU a m) (gpowU a n)
  | 0 => (gmul_one _).symm
  | n + 1 => by
    show gmulU (gpowU a (m + n)) a = gmulU (gpowU a m) (gmulU (gpowU a n) a)
    rw [gpow_add a m n, gmul_assoc]
theorem gpow_sq (a : UInt8) : ∀ n, gpowU (gmulU a a) n = gpowU a (2 * n)
  | 0 => rfl
  | n + 1 => by
    show gmulU (gpowU (gmulU a a) n) (gmulU a a) = gmulU (gmulU (gpowU a (2 * n)) a) a
    rw [gpow_sq a n, gmul_assoc]
/-- How often, as the document counts. -/
def gtimes (n : Int) : Nat := if n < 1 then 0 else ((n - 1) % 255 + 1).toNat
def gpowerU (a : UInt8) (n : Int) : UInt8 := gpowU a (gtimes n)
end
theorem gpow_254 (a : UInt8) : gpowU a 254 = gmulU (gmulU (gmulU (gmulU (gmulU (gmulU (gpowU a 2) (gpowU a 4)) (gpowU a 8)) (gpowU a 16)) (gpowU a 32)) (gpowU a 64)) (gpowU a 128) := by
  rw [← gpow_add, ← gpow_add, ← gpow_add, ← gpow_add, ← gpow_add, ← gpow_add]
def gsq (a : UInt8) : UInt8 := gmulU a a
theorem gpow_two (a : UInt8) (n : Nat) : gpowU a (2 * n) = gsq (gpowU a n) := by
  rw [show 2 * n = n + n by omega, gpow_add]; rfl
def gup (a : UInt8) : UInt8 :=
  let b := gsq a; let c := gsq b; let d := gsq c; let e := gsq d; let f := gsq e; let g := gsq f; let h := gsq g
  gmulU (gmulU (gmulU (gmulU (gmulU (gmulU b c) d) e) f) g) h
theorem gup_pow (a : UInt8) : gpowU a 254 = gup a := by
  have h1 : gpowU a 1 = a := gone_mul a
  have h2 : gpowU a 2 = gsq a := by rw [show 2 = 2 * 1 from rfl, gpow_two, h1]
  have h3 : gpowU a 4 = gsq (gsq a) := by rw [show 4 = 2 * 2 from rfl, gpow_two, h2]
  have h4 : gpowU a 8 = gsq (gsq (gsq a)) := by rw [show 8 = 2 * 4 from rfl, gpow_two, h3]
  have h5 : gpowU a 16 = gsq (gsq (gsq (gsq a))) := by rw [show 16 = 2 * 8 from rfl, gpow_two, h4]
  have h6 : gpowU a 32 = gsq (gsq (gsq (gsq (gsq a)))) := by rw [show 32 = 2 * 16 from rfl, gpow_two, h5]
  have h7 : gpowU a 64 = gsq (gsq (gsq (gsq (gsq (gsq a))))) := by rw [show 64 = 2 * 32 from rfl, gpow_two, h6]
  have h8 : gpowU a 128 = gsq (gsq (gsq (gsq (gsq (gsq (gsq a)))))) := by rw [show 128 = 2 * 64 from rfl, gpow_two, h7]
  rw [gpow_254, h2, h3, h4, h5, h6, h7, h8]
  rfl
theorem gup_tab : ∀ a : UInt8, gup a = gtabU a := all_bytes (by decide +kernel)
/-- What is told as the inverse is the power of 254. -/
theorem gpower_inv (a : UInt8) : gpowerU a 254 = ginvU a := by
  rw [show gpowerU a 254 = gpowU a 254 from rfl, gup_pow, gup_tab, ginv_tab]

end Go.Proofs.Ytfkfkmdnffpcmaa

/-
  AES with keys of 256 bits: plain mathematics. No program is named here.
-/
namespace Go.Proofs.Ytfkfkmdnffpcmaa
open Go.RowKit

theorem amap_inj {α β : Type} {f : α → β} (hf : ∀ x y, f x = f y → x = y) : ∀ (a b : List α), a.map f = b.map f → a = b
  | [], [], _ => rfl
  | [], _ :: _, h => by simp at h
  | _ :: _, [], h => by simp at h
  | x :: a, y :: b, h => by
    simp only [List.map_cons, List.cons.injEq] at h
    rw [hf x y h.1, amap_inj hf a b h.2]
/-- Bytes as numbers. -/
def abn (l : List UInt8) : List Nat := l.map (·.toNat)
theorem abn_length (l : List UInt8) : (abn l).length = l.length := by simp [abn]
theorem abn_get {l : List UInt8} {k : Nat} {x : UInt8} (h : l[k]? = some x) : (abn l)[k]? = some x.toNat := by simp [abn, h]
theorem abn_append (a b : List UInt8) : abn (a ++ b) = abn a ++ abn b := by simp [abn]
theorem abn_inj {a b : List UInt8} (h : abn a = abn b) : a = b := by
  exact amap_inj (fun x y hxy => UInt8.toNat_inj.1 hxy) a b h

section
/-- The steps; the box is handed in. -/
def asubB (f : UInt8 → UInt8) (s : List UInt8) : List UInt8 := s.map f
def ashiftU (s : List UInt8) : List UInt8 := (List.range 16).map fun i => s.getD (4 * ((i / 4 + i % 4) % 4) + i % 4) 0
def amixU : List UInt8 → List UInt8
  | a :: b :: c :: d :: t => gmixU a b c d :: gmixU b c d a :: gmixU c d a b :: gmixU d a b c :: amixU t
  | _ => []
def aaddU (s k : List UInt8) : List UInt8 := List.zipWith (· ^^^ ·) s k

/-- The word ahead, as it is taken up into the one at place i. -/
def achgB (f : UInt8 → UInt8) (i : Nat) : List UInt8 → List UInt8
  | [a, b, c, d] => if i % 8 = 0 then [f b ^^^ gpowerU 2 ((i / 8 : Nat) - 1 : Int), f c, f d, f a] else if i % 4 = 0 then [f a, f b, f c, f d] else [a, b, c, d]
  | _ => []
/-- The word at place i, of those ahead. -/
def anextB (f : UInt8 → UInt8) (L : List UInt8) (i : Nat) : List UInt8 := List.zipWith (· ^^^ ·) ((L.drop (4 * (i - 8))).take 4) (achgB f i ((L.drop (4 * (i - 1))).take 4))
/-- The words, n behind the key's eight. -/
def aschB (f : UInt8 → UInt8) (key : List UInt8) : Nat → List UInt8
  | 0 => key
  | n + 1 => aschB f key n ++ anextB f (aschB f key n) (n + 8)
def akeysB (f : UInt8 → UInt8) (key : List UInt8) : List UInt8 := aschB f key 52

def akeyAt (k : List UInt8) (i : Nat) : List UInt8 := (k.drop (16 * i)).take 16
def aroundsB (f : UInt8 → UInt8) (k s : List UInt8) : Nat → List UInt8
  | 0 => aaddU s (akeyAt k 0)
  | i + 1 => aaddU (amixU (ashiftU (asubB f (aroundsB f k s i)))) (akeyAt k (i + 1))
def aencB (f : UInt8 → UInt8) (k s : List UInt8) : List UInt8 := aaddU (ashiftU (asubB f (aroundsB f k s 13))) (akeyAt k 14)
end
/-- The box. -/
def asubU := asubB gboxU
def akeysU := akeysB gboxU
def aencU := aencB gboxU

theorem asubB_length (f : UInt8 → UInt8) (s : List UInt8) : (asubB f s).length = s.length := by simp [asubB]
theorem ashift_length (s : List UInt8) : (ashiftU s).length = 16 := by simp [ashiftU]
theorem aadd_length {s k : List UInt8} {n : Nat} (h1 : s.length = n) (h2 : k.length = n) : (aaddU s k).length = n := by simp [aaddU, h1, h2]

/-- Sixteen, one by one. -/
theorem sixteen {s : List UInt8} (h : s.length = 16) : ∃ a0 a1 a2 a3 b0 b1 b2 b3 c0 c1 c2 c3 d0 d1 d2 d3 : UInt8, s = [a0, a1, a2, a3, b0, b1, b2, b3, c0, c1, c2, c3, d0, d1, d2, d3] := by
  match s, h with
  | [a0, a1, a2, a3, b0, b1, b2, b3, c0, c1, c2, c3, d0, d1, d2, d3], _ => exact ⟨_, _, _, _, _, _, _, _, _, _, _, _, _, _, _, _, rfl⟩
theorem amix_length {s : List UInt8} (h : s.length = 16) : (amixU s).length = 16 := by
  obtain ⟨a0, a1, a2, a3, b0, b1, b2, b3, c0, c1, c2, c3, d0, d1, d2, d3, rfl⟩ := sixteen h
  rfl

/-- Shifted four times: as it was. -/
theorem ashift_four {s : List UInt8} (h : s.length = 16) : ashiftU (ashiftU (ashiftU (ashiftU s))) = s := by
  obtain ⟨a0, a1, a2, a3, b0, b1, b2, b3, c0, c1, c2, c3, d0, d1, d2, d3, rfl⟩ := sixteen h
  rfl
theorem ashift_at {s : List UInt8} (h : s.length = 16) {c r : Nat} (hc : c < 4) (hr : r < 4) : ∃ x : UInt8, s[4 * ((c + r) % 4) + r]? = some x ∧ (ashiftU s)[4 * c + r]? = some x := by
  have hi : 4 * ((c + r) % 4) + r < s.length := by omega
  refine ⟨s[4 * ((c + r) % 4) + r], List.getElem?_eq_getElem hi, ?_⟩
  unfold ashiftU
  rw [List.getElem?_map, List.getElem?_range (by omega)]
  rw [Option.map_some]
  rw [show (4 * c + r) / 4 = c by omega, show (4 * c + r) % 4 = r by omega]
  rw [List.getD_eq_getElem?_getD, List.getElem?_eq_getElem hi, Option.getD_some]

/-- Two mixed once are two of the field, mixed twice. -/
theorem amix_four {s : List UInt8} (h : s.length = 16) : amixU (amixU (amixU (amixU s))) = s := by
  obtain ⟨a0, a1, a2, a3, b0, b1, b2, b3, c0, c1, c2, c3, d0, d1, d2, d3, rfl⟩ := sixteen h
  simp only [amixU]
  simp only [gmix_two]
  have e := fun a c => gmix_four a c
  dsimp only at e
  simp only [e]
theorem aadd_twice : ∀ (s k : List UInt8), s.length = k.length → aaddU (aaddU s k) k = s
  | [], k, _ => by simp [aaddU]
  | a :: s, [], h => by simp at h
  | a :: s, b :: k, h => by
    have ih := aadd_twice s k (by simpa using h)
    unfold aaddU at ih ⊢
    simp only [List.zipWith_cons_cons, ih]
    rw [UInt8.xor_assoc, UInt8.xor_self, UInt8.xor_zero]

theorem asub_inj {s t : List UInt8} (h : asubU s = asubU t) : s = t := amap_inj (fun _ _ hxy => gbox_inj hxy) s t h
theorem ashift_inj {s t : List UInt8} (hs : s.length = 16) (ht : t.length = 16) (h : ashiftU s = ashiftU t) : s = t := by rw [← ashift_four hs, ← ashift_four ht, h]
theorem amix_inj {s t : List UInt8} (hs : s.length = 16) (ht : t.length = 16) (h : amixU s = amixU t) : s = t := by rw [← amix_four hs, ← amix_four ht, h]
theorem aadd_inj {s t k : List UInt8} (hs : s.length = k.length) (ht : t.length = k.length) (h : aaddU s k = aaddU t k) : s = t := by rw [← aadd_twice s k hs, ← aadd_twice t k ht, h]

theorem akeyAt_length {k : List UInt8} (hk : k.length = 240) {i : Nat} (hi : i < 15) : (akeyAt k i).length = 16 := by simp [akeyAt, hk]; omega
theorem arounds_length {f : UInt8 → UInt8} {k s : List UInt8} (hk : k.length = 240) (hs : s.length = 16) : ∀ {i : Nat}, i < 15 → (aroundsB f k s i).length = 16
  | 0, _ => aadd_length hs (akeyAt_length hk (by omega))
  | i + 1, h => aadd_length (amix_length (ashift_length _)) (akeyAt_length hk h)
theorem aenc_length {f : UInt8 → UInt8} {k s : List UInt8} (hk : k.length = 240) : (aencB f k s).length = 16 := aadd_length (ashift_length _) (akeyAt_length hk (by omega))
theorem arounds_inj {k s t : List UInt8} (hk : k.length = 240) (hs : s.length = 16) (ht : t.length = 16) : ∀ {i : Nat}, i < 15 → aroundsB gboxU k s i = aroundsB gboxU k t i → s = t
  | 0, _, h => aadd_inj (by rw [hs, akeyAt_length hk (by omega)]) (by rw [ht, akeyAt_length hk (by omega)]) h
  | i + 1, hi, h => by
    have h1 : amixU (ashiftU (asubB gboxU (aroundsB gboxU k s i))) = amixU (ashiftU (asubB gboxU (aroundsB gboxU k t i))) := aadd_inj (by rw [amix_length (ashift_length _), akeyAt_length hk hi]) (by rw [amix_length (ashift_length _), akeyAt_length hk hi]) h
    have h2 := amix_inj (ashift_length _) (ashift_length _) h1
    have l1 := arounds_length (f := gboxU) hk hs (i := i) (by omega)
    have l2 := arounds_length (f := gboxU) hk ht (i := i) (by omega)
    have h3 := ashift_inj (by rw [asubB_length]; exact l1) (by rw [asubB_length]; exact l2) h2
    exact arounds_inj hk hs ht (by omega) (asub_inj h3)
/-- No two blocks are encrypted to one. -/
theorem aenc_inj {k s t : List UInt8} (hk : k.length = 240) (hs : s.length = 16) (ht : t.length = 16) (h : aencU k s = aencU k t) : s = t := by
  have h1 : ashiftU (asubB gboxU (aroundsB gboxU k s 13)) = ashiftU (asubB gboxU (aroundsB gboxU k t 13)) := aadd_inj (by rw [ashift_length, akeyAt_length hk (by omega)]) (by rw [ashift_length, akeyAt_length hk (by omega)]) h
  have l1 := arounds_length (f := gboxU) hk hs (i := 13) (by omega)
  have l2 := arounds_length (f := gboxU) hk ht (i := 13) (by omega)
  have h3 := ashift_inj (by rw [asubB_length]; exact l1) (by rw [asubB_length]; exact l2) h1
  exact arounds_inj hk hs ht (by omega) (asub_inj h3)

/-- Four, one by one. -/
theorem afour {s : List UInt8} (h : s.length = 4) : ∃ a b c d : UInt8, s = [a, b, c, d] := by
  match s, h with
  | [a, b, c, d], _ => exact ⟨_, _, _, _, rfl⟩
theorem achg_length (f : UInt8 → UInt8) (i : Nat) {w : List UInt8} (h : w.length = 4) : (achgB f i w).length = 4 := by
  obtain ⟨a, b, c, d, rfl⟩ := afour h
  simp only [achgB]
  split
  · rfl
  · split <;> rfl
theorem anext_length {f : UInt8 → UInt8} {L : List UInt8} {i : Nat} (h8 : 8 ≤ i) (h : L.length = 4 * i) : (anextB f L i).length = 4 := by
  unfold anextB
  rw [List.length_zipWith, achg_length f i (by simp [h]; omega)]
  simp [h]; omega
theorem asch_length {f : UInt8 → UInt8} {key : List UInt8} (h : key.length = 32) : ∀ n, (aschB f key n).length = 4 * (n + 8)
  | 0 => h
  | n + 1 => by
    show (aschB f key n ++ anextB f (aschB f key n) (n + 8)).length = _
    rw [List.length_append, asch_length h n, anext_length (by omega) (asch_length h n)]
    omega
theorem akeys_length {f : UInt8 → UInt8} {key : List UInt8} (h : key.length = 32) : (akeysB f key).length = 240 := asch_length h 52
theorem asch_get {f : UInt8 → UInt8} {key : List UInt8} (h : key.length = 32) : ∀ {n m j : Nat}, n ≤ m → j < 4 * (n + 8) → (aschB f key m)[j]? = (aschB f key n)[j]? := by
  intro n m j hnm hj
  induction m with
  | zero => rw [show n = 0 by omega]
  | succ m ih =>
    rcases Nat.lt_or_ge n (m + 1) with h1 | h1
    · show (aschB f key m ++ anextB f (aschB f key m) (m + 8))[j]? = _
      rw [List.getElem?_append_left (by rw [asch_length h]; omega), ih (by omega)]
    · rw [show n = m + 1 by omega]
/-- The first eight words are the key's. -/
theorem akeys_low {f : UInt8 → UInt8} {key : List UInt8} (h : key.length = 32) {j : Nat} (hj : j < 32) : (akeysB f key)[j]? = key[j]? := asch_get (n := 0) h (by omega) (by omega)
/-- The word at place i of 60. -/
def awordAt (L : List UInt8) (i : Nat) : List UInt8 := (L.drop (4 * i)).take 4
theorem awordAt_length {L : List UInt8} (h : L.length = 240) {i : Nat} (hi : i < 60) : (awordAt L i).length = 4 := by simp [awordAt, h]; omega
theorem awordAt_get {L : List UInt8} {i j : Nat} (hj : j < 4) : (awordAt L i)[j]? = L[4 * i + j]? := by
  unfold awordAt
  rw [List.getElem?_take_of_lt hj, List.getElem?_drop]
theorem aword_ext {L M : List UInt8} {i : Nat} (h : ∀ j, j < 4 → L[4 * i + j]? = M[4 * i + j]?) : awordAt L i = awordAt M i := by
  apply List.ext_getElem?
  intro j
  rcases Nat.lt_or_ge j 4 with hj | hj
  · rw [awordAt_get hj, awordAt_get hj, h j hj]
  · rw [List.getElem?_eq_none (by simp [awordAt]; omega), List.getElem?_eq_none (by simp [awordAt]; omega)]
/-- Each next one is the one eight ahead, by turns with the one ahead, changed. -/
theorem akeys_high {f : UInt8 → UInt8} {key : List UInt8} (h : key.length = 32) {i : Nat} (h8 : 8 ≤ i) (hi : i < 60) :
    awordAt (akeysB f key) i = List.zipWith (· ^^^ ·) (awordAt (akeysB f key) (i - 8)) (achgB f i (awordAt (akeysB f key) (i - 1))) := by
  obtain ⟨n, rfl⟩ : ∃ n, i = n + 8 := ⟨i - 8, by omega⟩
  have e1 : awordAt (akeysB f key) (n + 8 - 8) = awordAt (aschB f key n) (n + 8 - 8) := aword_ext fun j hj => asch_get h (by omega) (by omega)
  have e2 : awordAt (akeysB f key) (n + 8 - 1) = awordAt (aschB f key n) (n + 8 - 1) := aword_ext fun j hj => asch_get h (by omega) (by omega)
  have e3 : awordAt (akeysB f key) (n + 8) = awordAt (aschB f key (n + 1)) (n + 8) := aword_ext fun j hj => asch_get h (by omega) (by omega)
  rw [e1, e2, e3]
  show ((aschB f key n ++ anextB f (aschB f key n) (n + 8)).drop (4 * (n + 8))).take 4 = anextB f (aschB f key n) (n + 8)
  rw [List.drop_append_of_le_length (by rw [asch_length h]; omega), List.drop_of_length_le (by rw [asch_length h]; omega), List.nil_append]
  exact List.take_of_length_le (by rw [anext_length (by omega) (asch_length h n)]; omega)

/-- The box by its table: for what is reckoned. -/
def gboxT (a : UInt8) : UInt8 := UInt8.ofNat (gboxTab.getD a.toNat 0)
theorem gboxU_T : gboxU = gboxT := funext gbox_tab

def akeyX : List UInt8 := (List.range 32).map UInt8.ofNat
def ablockX : List UInt8 := (List.range 16).map fun i => UInt8.ofNat (17 * i)
theorem alive_math0 : (aencB gboxT (akeysB gboxT akeyX) ablockX).take 4 = [142, 162, 183, 202] := by decide +kernel
theorem alive_math : (aencU (akeysU akeyX) ablockX).take 4 = [142, 162, 183, 202] := by
  unfold aencU akeysU
  rw [gboxU_T]
  exact alive_math0

end Go.Proofs.Ytfkfkmdnffpcmaa

namespace Go.Proofs.Ytfkfkmdnffpcmaa
open Go.RowKit

/-- What Pad answers. -/
def padL (b : List UInt8) (n : Nat) : List UInt8 := b.take n ++ List.replicate (n - b.length) 0
def padR (b : List UInt8) (size : Int) : List UInt8 := if 1 ≤ size ∧ size ≤ 65536 then padL b size.toNat else []
theorem padL_length (b : List UInt8) (n : Nat) : (padL b n).length = n := by simp [padL]; omega
theorem pad_fin {b : List UInt8} {n k : Nat} (hk : k ≤ n) (hl : k ≤ b.length) (h : n ≤ k ∨ b.length ≤ k) : b.take k ++ List.replicate (n - k) 0 = padL b n := by
  unfold padL
  rcases h with h | h
  · rw [show n = k by omega]
    simp; omega
  · rw [show b.length = k by omega, List.take_of_length_le (by omega), List.take_of_length_le (by omega)]
theorem pad_set {b : List UInt8} {n k : Nat} (hk : k < n) (hl : k < b.length) : (b.take k ++ List.replicate (n - k) 0).set k b[k] = b.take (k + 1) ++ List.replicate (n - (k + 1)) 0 := by
  have h : (b.take k).length = k := by simp; omega
  rw [List.set_append_right _ _ (by omega), h, Nat.sub_self, show n - k = (n - (k + 1)) + 1 by omega, List.replicate_succ, List.set_cons_zero, take_succ_get _ _ hl, List.append_assoc]
  rfl

/-- What Xor answers. -/
def xorL (a b : List UInt8) : List UInt8 := List.zipWith (fun x y => x ^^^ y) a b
theorem xorL_length (a b : List UInt8) : (xorL a b).length = min a.length b.length := by simp [xorL]
theorem xorL_get {a b : List UInt8} {k : Nat} (ha : k < a.length) (hb : k < b.length) : (xorL a b)[k]'(by rw [xorL_length]; omega) = a[k] ^^^ b[k] := by simp [xorL]
theorem xorL_step {a b : List UInt8} {k : Nat} (ha : k < a.length) (hb : k < b.length) : (xorL a b).take (k + 1) = (xorL a b).take k ++ [a[k] ^^^ b[k]] := by
  rw [take_succ_get _ _ (by rw [xorL_length]; omega), xorL_get ha hb]
theorem xor_u8 (a b : UInt8) : bits .xor .u8 (a.toNat : Int) (b.toNat : Int) = ((a ^^^ b).toNat : Int) := by
  rw [u8_xor_nat _ _ a.toNat_lt b.toNat_lt, UInt8.toNat_xor]
theorem fill_set (l : List UInt8) {n k : Nat} (b : UInt8) (hk : k < n) (h : l.length = k) : (l ++ List.replicate (n - k) 0).set k b = (l ++ [b]) ++ List.replicate (n - (k + 1)) 0 := by
  rw [List.set_append_right _ _ (by omega), h, Nat.sub_self, show n - k = (n - (k + 1)) + 1 by omega, List.replicate_succ, List.set_cons_zero, List.append_assoc]
  rfl

end Go.Proofs.Ytfkfkmdnffpcmaa

namespace Go.Proofs.Ytfkfkmdnffpcmaa
open Go.RowKit

/-- What Print answers. -/
def printL (n : Int) : List UInt8 := if n < 0 then [] else Lib.decDigits n.toNat
theorem dec_small {n : Nat} (h : n < 10) : Lib.decDigits n = [UInt8.ofNat (48 + n)] := by rw [Lib.decDigits, dif_pos h]
theorem dec_big {n : Nat} (h : ¬ n < 10) : Lib.decDigits n = Lib.decDigits (n / 10) ++ Lib.decDigits (n % 10) := by
  rw [Lib.decDigits, dif_neg h, dec_small (show n % 10 < 10 by omega)]
theorem dec_len_lt : ∀ (k n : Nat), n < 10 ^ (k + 1) → (Lib.decDigits n).length ≤ k + 1
  | 0, n, h => by rw [dec_small (by simpa using h)]; simp
  | k + 1, n, h => by
    by_cases h10 : n < 10
    · rw [dec_small h10]; simp
    · rw [dec_big h10, List.length_append, dec_small (show n % 10 < 10 by omega)]
      have := dec_len_lt k (n / 10) (by rw [Nat.pow_succ] at h; omega)
      simp; omega
theorem dec_len {n : Nat} (h : n < 9223372036854775808) : (Lib.decDigits n).length ≤ 20 := by
  have := dec_len_lt 18 n (by omega)
  omega

end Go.Proofs.Ytfkfkmdnffpcmaa

namespace Go.Proofs.Ytfkfkmdnffpcmaa
open Go.RowKit

theorem getL_putL : ∀ (k m : Nat), getL (putL m k) = m % 256 ^ k
  | 0, m => by simp [getL, putL, Nat.mod_one]
  | k + 1, m => by
    rw [putL, getL_snoc, getL_putL k (m / 256), UInt8.toNat_ofNat', show 256 ^ (k + 1) = 256 * 256 ^ k by rw [Nat.pow_succ, Nat.mul_comm], Nat.mod_mul]
    omega
theorem get_put8 {n : Nat} (h : n < 18446744073709551616) : getV (putL n 8) = .tuple #[.int .u64 n, .int .i64 0] := by
  rw [getV, if_pos (by rw [putL_length]; omega), getL_putL, Nat.mod_eq_of_lt (by omega)]

theorem dec_all : ∀ (f n : Nat), n < f → (Lib.decDigits n).all isDig = true
  | 0, n, h => by omega
  | f + 1, n, h => by
    have hd : ∀ c : Nat, c < 10 → isDig (UInt8.ofNat (48 + c)) = true := fun c hc => by
      apply decide_eq_true
      rw [UInt8.toNat_ofNat']
      omega
    by_cases h10 : n < 10
    · rw [dec_small h10]; simp only [List.all_cons, List.all_nil, Bool.and_true]; exact hd n h10
    · rw [dec_big h10, List.all_append, dec_all f (n / 10) (by omega), dec_small (show n % 10 < 10 by omega)]
      simp only [List.all_cons, List.all_nil, Bool.and_true, Bool.true_and]
      exact hd _ (by omega)
theorem dec_num : ∀ (f n : Nat), n < f → numL (Lib.decDigits n) = n
  | 0, n, h => by omega
  | f + 1, n, h => by
    have hd : ∀ c : Nat, c < 10 → (UInt8.ofNat (48 + c)).toNat - 48 = c := fun c hc => by rw [UInt8.toNat_ofNat']; omega
    by_cases h10 : n < 10
    · rw [dec_small h10]
      have := hd n h10
      simp only [numL, List.foldl_cons, List.foldl_nil]
      omega
    · rw [dec_big h10, dec_small (show n % 10 < 10 by omega), numL_snoc, dec_num f (n / 10) (by omega), hd _ (by omega)]
      omega
theorem dec_head : ∀ (f n : Nat), n < f → 0 < n → (Lib.decDigits n).head? ≠ some 48
  | 0, n, h, _ => by omega
  | f + 1, n, h, h0 => by
    by_cases h10 : n < 10
    · rw [dec_small h10]
      intro e
      simp only [List.head?_cons, Option.some.injEq] at e
      have := congrArg UInt8.toNat e
      rw [UInt8.toNat_ofNat'] at this
      simp at this
      omega
    · rw [dec_big h10]
      have hne : Lib.decDigits (n / 10) ≠ [] := fun e => by
        have h1 := dec_num (n / 10 + 1) (n / 10) (by omega)
        rw [e] at h1
        simp [numL] at h1
        omega
      have hh := dec_head f (n / 10) (by omega) (by omega)
      obtain ⟨x, t, e⟩ := List.exists_cons_of_ne_nil hne
      rw [e] at hh ⊢
      exact hh
theorem dec_pos (n : Nat) : 1 ≤ (Lib.decDigits n).length := by
  by_cases h10 : n < 10
  · rw [dec_small h10]; simp
  · rw [dec_big h10, List.length_append, dec_small (show n % 10 < 10 by omega)]; simp
theorem parse_print {n : Nat} (h : n < 1000000000000000000) : parseV (Lib.decDigits n) n = .tuple #[.int .i64 n, .int .i64 0] := by
  have hl := dec_len_lt 17 n (by omega)
  have hp := dec_pos n
  have hbad : parseBad (Lib.decDigits n) = false := by
    unfold parseBad
    rw [decide_eq_false (show ¬ (Lib.decDigits n).length < 1 by omega), decide_eq_false (show ¬ 18 < (Lib.decDigits n).length by omega)]
    by_cases h10 : n < 10
    · rw [dec_small h10]; rfl
    · rw [decide_eq_false (dec_head (n + 1) n (by omega) (by omega)), Bool.and_false]; rfl
  have hn := dec_num (n + 1) n (by omega)
  rw [parse_ok (n : Int) hbad (dec_all (n + 1) n (by omega)) (by rw [hn]; omega), hn]

theorem parse_printL {z : Int} (h0 : 0 ≤ z) (h1 : z < 288230376151711744) : parseV (printL z) z = .tuple #[.int .i64 z, .int .i64 0] := by
  obtain ⟨k, rfl⟩ := Int.eq_ofNat_of_zero_le h0
  rw [printL, if_neg (by omega), Int.toNat_natCast]
  exact parse_print (by omega)

theorem xor_back {a b : List UInt8} (h : a.length ≤ b.length) : xorL (xorL a b) b = a := by
  induction a generalizing b with
  | nil => cases b <;> rfl
  | cons x a ih =>
    cases b with
    | nil => simp at h
    | cons y b =>
      simp only [List.length_cons, Nat.add_le_add_iff_right] at h
      show (x ^^^ y ^^^ y) :: xorL (xorL a b) b = x :: a
      rw [ih h, UInt8.xor_assoc, UInt8.xor_self, UInt8.xor_zero]

end Go.Proofs.Ytfkfkmdnffpcmaa

/-
  Counter mode: plain mathematics. No program is named here.
-/
namespace Go.Proofs.Ytfkfkmdnffpcmaa
open Go.RowKit

/-- What is carried, behind k places from the last one on. -/
def cN (c : List UInt8) (n : Nat) : Nat → Nat
  | 0 => n
  | k + 1 => (cN c n k + (c.getD (15 - k) 0).toNat) / 256
/-- The bytes, behind k places. -/
def cD (c : List UInt8) (n : Nat) : Nat → List UInt8
  | 0 => c
  | k + 1 => (cD c n k).set (15 - k) (UInt8.ofNat (cN c n k + (c.getD (15 - k) 0).toNat))
/-- The number that is n more. -/
def cplusU (c : List UInt8) (n : Nat) : List UInt8 := cD c n 16

theorem cD_length (c : List UInt8) (n : Nat) : ∀ k, (cD c n k).length = c.length
  | 0 => rfl
  | k + 1 => by rw [cD, List.length_set, cD_length c n k]
theorem cplus_length {c : List UInt8} {n : Nat} (h : c.length = 16) : (cplusU c n).length = 16 := by rw [cplusU, cD_length, h]
/-- What lies ahead is as it was. -/
theorem cD_ahead (c : List UInt8) (n : Nat) : ∀ {k j : Nat}, k ≤ 16 → j + k < 16 → (cD c n k)[j]? = c[j]?
  | 0, _, _, _ => rfl
  | k + 1, j, hk, h => by
    rw [cD, List.getElem?_set_ne (by omega), cD_ahead c n (by omega) (by omega)]
theorem cD_at {c : List UInt8} (h : c.length = 16) (n : Nat) {k : Nat} (hk : k < 16) : ∃ b : UInt8, c[15 - k]? = some b ∧ (cD c n k)[15 - k]? = some b ∧ cN c n (k + 1) = (cN c n k + b.toNat) / 256 ∧ cD c n (k + 1) = (cD c n k).set (15 - k) (UInt8.ofNat (cN c n k + b.toNat)) := by
  have hj : 15 - k < c.length := by omega
  have hg : c[15 - k]? = some c[15 - k] := List.getElem?_eq_getElem hj
  have hd : c.getD (15 - k) 0 = c[15 - k] := by rw [List.getD_eq_getElem?_getD, hg, Option.getD_some]
  exact ⟨c[15 - k], hg, by rw [cD_ahead c n (by omega) (by omega), hg], by rw [cN, hd], by rw [cD, hd]⟩
theorem cN_bound (c : List UInt8) {n : Nat} (hn : n ≤ 65535) : ∀ k, cN c n k ≤ 65535
  | 0 => hn
  | k + 1 => by
    have h1 := cN_bound c hn k
    have h2 := (c.getD (15 - k) 0).toNat_lt
    rw [cN]
    omega
/-- Nothing is carried any more: it stays as it is. -/
theorem cD_none {c : List UInt8} (h : c.length = 16) {n : Nat} : ∀ (d : Nat) {k : Nat}, k + d = 16 → cN c n k = 0 → cD c n k = cplusU c n
  | 0, k, hk, _ => by rw [show k = 16 by omega]; rfl
  | d + 1, k, hk, hz => by
    obtain ⟨b, h1, h2, h3, h4⟩ := cD_at h n (k := k) (by omega)
    have hb := b.toNat_lt
    have e : cD c n (k + 1) = cD c n k := by
      rw [h4, hz, Nat.zero_add, UInt8.ofNat_toNat]
      obtain ⟨h5, h6⟩ := List.getElem?_eq_some_iff.1 h2
      rw [← h6]
      exact List.set_getElem_self h5
    rw [← e]
    exact cD_none h d (by omega) (by rw [h3, hz]; omega)
theorem cD_end {c : List UInt8} (h : c.length = 16) {n k : Nat} (hk : k ≤ 16) (hz : cN c n k = 0) : cD c n k = cplusU c n := cD_none h (16 - k) (by omega) hz

/-- A block of the stream. -/
def cblkU (k s : List UInt8) (i : Nat) : List UInt8 := aencU k (cplusU s i)
/-- The first m blocks. -/
def cblksU (k s : List UInt8) : Nat → List UInt8
  | 0 => []
  | m + 1 => cblksU k s m ++ cblkU k s m
/-- The stream's first bytes. -/
def cstreamU (k s : List UInt8) (n : Nat) : List UInt8 := (cblksU k s n).take n
def coverU (k s t : List UInt8) : List UInt8 := xorL t (cstreamU k s t.length)

section
variable {k s : List UInt8}
theorem cblk_length (hk : k.length = 240) (i : Nat) : (cblkU k s i).length = 16 := aenc_length hk
theorem cblks_length (hk : k.length = 240) : ∀ m, (cblksU k s m).length = 16 * m
  | 0 => rfl
  | m + 1 => by rw [cblksU, List.length_append, cblks_length hk m, cblk_length hk]; omega
theorem cblks_get (hk : k.length = 240) {m j : Nat} : ∀ d, j < 16 * m → (cblksU k s (m + d))[j]? = (cblksU k s m)[j]?
  | 0, _ => rfl
  | d + 1, h => by
    show (cblksU k s (m + d) ++ cblkU k s (m + d))[j]? = _
    rw [List.getElem?_append_left (by rw [cblks_length hk]; omega), cblks_get hk d h]
/-- So many blocks as there are bytes at least: it is all the same. -/
theorem cblks_take (hk : k.length = 240) {m n : Nat} (h : n ≤ 16 * m) : (cblksU k s m).take n = cstreamU k s n := by
  apply List.ext_getElem?
  intro j
  unfold cstreamU
  rw [List.getElem?_take, List.getElem?_take]
  split
  · next hj =>
    rcases Nat.le_total m n with h1 | h1
    · have := cblks_get (s := s) hk (m := m) (j := j) (n - m) (by omega)
      rw [← this, show m + (n - m) = n by omega]
    · have := cblks_get (s := s) hk (m := n) (j := j) (m - n) (by omega)
      rw [← this, show n + (m - n) = m by omega]
  · rfl
theorem cstream_length (hk : k.length = 240) (n : Nat) : (cstreamU k s n).length = n := by
  rw [cstreamU, List.length_take, cblks_length hk]; omega
/-- Less is the first of more. -/
theorem cstream_first (hk : k.length = 240) {m n : Nat} (h : m ≤ n) : (cstreamU k s n).take m = cstreamU k s m := by
  rw [cstreamU, List.take_take, Nat.min_eq_left h, cblks_take hk (by omega)]
/-- Where the block at place i lies. -/
theorem cstream_get (hk : k.length = 240) {n i j : Nat} {x : UInt8} (hx : (cblkU k s i)[j]? = some x) (hn : 16 * i + j < n) : (cstreamU k s n)[16 * i + j]? = some x := by
  have hj : j < 16 := by
    obtain ⟨h, _⟩ := List.getElem?_eq_some_iff.1 hx
    rwa [cblk_length hk] at h
  rw [cstreamU, List.getElem?_take_of_lt hn]
  have e := cblks_get (s := s) hk (m := i + 1) (j := 16 * i + j) (n - (i + 1)) (by omega)
  rcases Nat.lt_or_ge i n with h1 | h1
  · rw [show n = i + 1 + (n - (i + 1)) by omega, e]
    show (cblksU k s i ++ cblkU k s i)[16 * i + j]? = some x
    rw [List.getElem?_append_right (by rw [cblks_length hk]; omega), cblks_length hk, show 16 * i + j - 16 * i = j by omega, hx]
  · omega
theorem cstream_abn (hk : k.length = 240) (n i j x : Nat) (hx : (abn (cblkU k s i))[j]? = some x) (hn : 16 * i + j < n) : (abn (cstreamU k s n))[16 * i + j]? = some x := by
  unfold abn at hx
  rw [List.getElem?_map] at hx
  cases hq : (cblkU k s i)[j]? with
  | none => rw [hq] at hx; cases hx
  | some y =>
    rw [hq] at hx
    injection hx with hx
    rw [← hx]
    exact abn_get (cstream_get hk hq hn)
theorem cblk_abn (hk : k.length = 240) (i : Nat) : (abn (cblkU k s i)).length = 16 := by rw [abn_length, cblk_length hk]
theorem cover_length (hk : k.length = 240) (t : List UInt8) : (coverU k s t).length = t.length := by
  rw [coverU, xorL_length, cstream_length hk]; omega
/-- Twice it is as it was. -/
theorem cover_twice (hk : k.length = 240) (t : List UInt8) : coverU k s (coverU k s t) = t := by
  have h := cover_length (s := s) hk t
  unfold coverU at h ⊢
  rw [h]
  exact xor_back (by rw [cstream_length hk]; omega)
theorem xorL_take (a b : List UInt8) (n : Nat) : (xorL a b).take n = xorL (a.take n) (b.take n) := by
  unfold xorL
  rw [List.take_zipWith]
theorem cover_first (hk : k.length = 240) (t : List UInt8) {n : Nat} (h : n ≤ t.length) : coverU k s (t.take n) = (coverU k s t).take n := by
  unfold coverU
  rw [xorL_take, cstream_first hk h]
  congr 2
  rw [List.length_take]
  omega
end

/-- 0 .. 0, 255 and 1. -/
theorem cplus_alive : cplusU (List.replicate 15 0 ++ [255]) 1 = List.replicate 14 0 ++ [1, 0] := by decide +kernel

end Go.Proofs.Ytfkfkmdnffpcmaa

/-
  Rows of numbers of one kind: what XBase says of bytes, said of numbers. No program is named here.
-/
namespace Go.Proofs.Ytfkfkmdnffpcmaa
open Go.RowKit

/-- The values of a row of numbers. -/
def Ris (k : IntKind) (l : List Int) : List Value := l.map fun z => .int k z
section
variable {k : IntKind} {l a b : List Int} {j : Nat}
theorem Ris_length : (Ris k l).length = l.length := by simp [Ris]
theorem Ris_get (h : j < l.length) : (Ris k l)[j]? = some (.int k l[j]) := by simp [Ris, List.getElem?_eq_getElem h]
theorem Ris_append : Ris k (a ++ b) = Ris k a ++ Ris k b := by simp [Ris]
theorem Ris_take : Ris k (l.take j) = (Ris k l).take j := by simp [Ris, List.map_take]
theorem Ris_set {z : Int} : Ris k (l.set j z) = (Ris k l).set j (.int k z) := by simp [Ris, List.map_set]
theorem Ris_one : ∀ u ∈ Ris k l, u.oneCell' = true := by
  intro u hu
  simp only [Ris, List.mem_map] at hu
  obtain ⟨b, _, rfl⟩ := hu
  rfl
end

section
variable {w w' : World} {B n : Nat} {A : Option Addr} {k : IntKind} {l : List Int} {j : Nat}
theorem Rd.ints (h : Rd w B A n (Ris k l)) : l.length = n := by have := h.1; rwa [Ris_length] at this
theorem Rd.int (h : Rd w B A n (Ris k l)) (hj : j < n) (hl : j < l.length) : ∃ b o, A = some ⟨b, o, none⟩ ∧ b < B ∧ w.cell? ⟨b, o + j, none⟩ = some (.int k l[j]) := by
  obtain ⟨b, o, e, hb, u, hu, hc⟩ := h.at_ hj
  rw [Ris_get hl] at hu
  exact ⟨b, o, e, hb, by rw [hc, hu]⟩
theorem Rd.head {xs : List Value} (h : Rd w B A n xs) {m : Nat} (hm : m ≤ n) : Rd w B A m (xs.take m) := by
  refine ⟨by rw [List.length_take, h.1]; omega, fun h0 => ?_⟩
  obtain ⟨b, o, e, hb, hc⟩ := h.2 (by omega)
  refine ⟨b, o, e, hb, fun j u hu => hc j u ?_⟩
  rw [List.getElem?_take] at hu
  split at hu
  · exact hu
  · cases hu
end

/-- What a call ends in that answers a new row of numbers. -/
def NewI (k : IntKind) (e : TypeId) (w : World) (l : List Int) (en : Ending) (w' : World) : Prop :=
  ∃ A c, en = .returned (.slice A l.length c) ∧ w'.ownsRow w.heap.size e 1 (.slice A l.length c) l.length (Ris k l) ∧ Below w.heap.size w w'
/-- .. with two numbers behind it. -/
def NewT (k : IntKind) (e : TypeId) (w : World) (v : List Int × Int × Int) (en : Ending) (w' : World) : Prop :=
  ∃ A c, en = .returned (.tuple #[.slice A v.1.length c, .int .i64 v.2.1, .int .i64 v.2.2]) ∧ w'.ownsRow w.heap.size e 1 (.slice A v.1.length c) v.1.length (Ris k v.1) ∧ Below w.heap.size w w'

theorem ownI_len {w : World} {base : Nat} {e : TypeId} {v : Value} {n : Nat} {k : IntKind} {l : List Int} (h : w.ownsRow base e 1 v n (Ris k l)) : l.length = n := by
  have := h.1; rw [Ris_length] at this; omega
theorem own_nil (w : World) (base : Nat) (e : TypeId) : w.ownsRow base e 1 (.slice none 0 0) 0 [] := ⟨rfl, .inl ⟨rfl, rfl⟩⟩
theorem ownI_put {w : World} {base : Nat} {e : TypeId} {g n c : Nat} {k : IntKind} {l : List Int} (h : w.ownsRow base e 1 (.slice (some ⟨g, 0, none⟩) n c) n (Ris k l)) (j : Nat) (z : Int) :
    (w.setCell ⟨g, j, none⟩ (.int k z)).ownsRow base e 1 (.slice (some ⟨g, 0, none⟩) n c) n (Ris k (l.set j z)) := by
  rw [Ris_set]; exact (h.stored j _).1
theorem ownI_cell {w : World} {base : Nat} {e : TypeId} {g n c : Nat} {k : IntKind} {l : List Int} (h : w.ownsRow base e 1 (.slice (some ⟨g, 0, none⟩) n c) n (Ris k l)) {j : Nat} (hj : j < l.length) : w.cell? ⟨g, j, none⟩ = some (.int k l[j]) := by
  have hl := ownI_len h
  rw [h.cellAt j (by omega), Ris_get hj]
theorem own_some {w : World} {base : Nat} {e : TypeId} {A : Option Addr} {n c : Nat} {xs : List Value} (h : w.ownsRow base e 1 (.slice A n c) n xs) (hn : 0 < n) : ∃ g, A = some ⟨g, 0, none⟩ ∧ base ≤ g ∧ g < w.heap.size := by
  rcases h.2 with ⟨_, h0⟩ | ⟨g, cap, cur, hv, hg, hh, _⟩
  · omega
  · injection hv with hv
    exact ⟨g, hv, hg, (Array.getElem?_eq_some_iff.1 hh).1⟩

/-- A row of runes made a text. -/
theorem Rd.runes {P : Program} {w : World} {B n c : Nat} {A : Option Addr} {l : List Int} (h : Rd w B A n (Ris .i32 l)) (src dst e : TypeId)
    (hs : P.underlying src = some (.slice e)) (he : P.underlying e = some (.int .i32)) (hd : P.underlying dst = some .string) :
    (convert src dst (.slice A n c)).run P w = .ok (.string (runesBytes l)) w := by
  have hl := h.ints
  subst hl
  rcases A with _ | a
  · have h0 : l = [] := by
      rcases Nat.eq_zero_or_pos l.length with h0 | h0
      · exact List.eq_nil_of_length_eq_zero h0
      · obtain ⟨_, _, e, _⟩ := h.2 h0; cases e
    subst h0
    exact run_convert_runes_nil w src dst e _ _ hs he hd
  · have := run_convert_runes w src dst e a l.length c l (Nat.le_refl _) hs he hd (fun j hj => by
      obtain ⟨b, o, ea, _, hc⟩ := h.int hj hj
      injection ea with ea
      subst ea
      rw [add_flat, hc, List.getD, List.getElem?_eq_getElem hj]
      rfl)
    rwa [List.take_length] at this

/-- A block laid at once reads as its cells. -/
theorem Rd.new (w : World) (e : TypeId) (cs : Array Value) {n : Nat} (hn : n = cs.size) : Rd (w.alloc (.cells cs e)) (w.heap.size + 1) (some ⟨w.heap.size, 0, none⟩) n cs.toList := by
  subst hn
  refine ⟨by simp, fun _ => ⟨w.heap.size, 0, rfl, by omega, fun j u hj => ?_⟩⟩
  rw [Nat.zero_add, cell_of_row (w.alloc (.cells cs e)) w.heap.size j cs e (0, 0) (heap_alloc_new w _)]
  simpa using hj

/-- What is read stands behind what is owned: 'append(row, other...)', in a region that keeps the text's order. -/
theorem wp_append_rd {P : Program} {ops : Array Oper} {rest : List Oper} {o : Oper} {a : Act} {w : World} {Q : Exit → Act → World → Prop} (hgd : o.guard = none) (s x : Operand) (t : TypeId)
    (ho : o.op = .call { callee := .builtin .append, args := #[s, x], argTypes := #[t, t] }) (e : TypeId) (ht : P.underlying t = some (.slice e)) (z : Value) (by_ : Nat) (hby : by_ ≤ 8) (hz1 : z.cells.size = 1)
    (hinfo : (P.info? e).map (fun i => (i.zero, i.size, i.bytes)) = some (some z, 1, by_))
    (base n c : Nat) (A : Option Addr) (xs : List Value) (hs : a.eval s = .slice A n c) (hown : w.ownsRow base e 1 (.slice A n c) n xs)
    (B m c2 : Nat) (A2 : Option Addr) (news : List Value) (hx : a.eval x = .slice A2 m c2) (hr : Rd w B A2 m news) (hone : ∀ u ∈ news, u.oneCell' = true)
    (hm : 0 < m) (hn : n + m ≤ 17592186044416) (hbase : base ≤ w.heap.size) (w0 : World) (B0 : Nat) (hb : Below B0 w0 w) (hB0 : B0 ≤ base)
    (h : ∀ A' c' w', w'.ownsRow base e 1 (.slice A' (n + m) c') (n + m) (xs ++ news) → Below B0 w0 w' → wpList P ops Q rest (a.put o.dst (.slice A' (n + m) c')) w') :
    wpList P ops Q (o :: rest) a w := by
  obtain ⟨i0, hi, hi0, hi1, hi2⟩ := info_parts hinfo
  have hmul : (n + m) * by_ ≤ (n + m) * 8 := Nat.mul_le_mul_left _ hby
  obtain ⟨b, o2, rfl, _, hc⟩ := hr.2 hm
  refine wpList_append_lies w hgd s x t ho base e i0 z 1 by_ ht hi hi0 hi1 hi2 hz1 (by omega) _ n xs hs hown ⟨b, o2, none⟩ m c2 news hx (by rw [hr.1]; omega) ?_ hone hm (by unfold maxLen; omega) (by omega) hbase w.heap.size rfl ?_
  · intro j u hj
    rw [add_flat]
    exact hc j u hj
  · intro g cap w' hown' hg _ _
    refine h _ _ w' hown' (hb.grown hg (by omega) ?_)
    intro k hk
    have := (hown.lt k hk).1
    omega

/-- One number more, in a region that draws its order: it stands in a new block of its own. -/
theorem step_append_int {P : Program} {ops : Array Oper} {o : Oper} {a : Act} {w : World} {K : Act → World → Prop} {Q : Exit → Act → World → Prop} {E : Prop} (hgd : o.guard = none) (s x : Operand) (t : TypeId)
    (ho : o.op = .call { callee := .builtin .append, args := #[s, x], argTypes := #[t, t] }) (e : TypeId) (ht : P.underlying t = some (.slice e)) (k : IntKind) (by_ : Nat) (hby : by_ ≤ 8)
    (hinfo : (P.info? e).map (fun i => (i.zero, i.size, i.bytes)) = some (some (.int k 0), 1, by_))
    (base n c g1 : Nat) (A : Option Addr) (l : List Int) (hs : a.eval s = .slice A n c) (hx : a.eval x = .slice (some ⟨g1, 0, none⟩) 1 1)
    (hown : w.ownsRow base e 1 (.slice A n c) n (Ris k l)) (z : Int) (hcell : w.cell? ⟨g1, 0, none⟩ = some (.int k z))
    (hn : n + 1 ≤ 17592186044416) (hbase : base ≤ w.heap.size) (w0 : World) (B0 : Nat) (hb : Below B0 w0 w) (hB0 : B0 ≤ base)
    (h : ∀ A' c' w', w'.ownsRow base e 1 (.slice A' (n + 1) c') (n + 1) (Ris k (l ++ [z])) → Below B0 w0 w' → K (a.put o.dst (.slice A' (n + 1) c')) w') :
    if Region.wanted o (yielded ops a.tmps) = true then Oper.wp P o a w K Q else E := by
  obtain ⟨i0, hi, hz0, hz1, hz2⟩ := info_parts hinfo
  have hmul : (n + 1) * by_ ≤ (n + 1) * 8 := Nat.mul_le_mul_left _ hby
  refine step_append_lies w hgd s x t ho base e i0 (.int k 0) 1 by_ ht hi hz0 hz1 hz2 rfl (by omega) _ n (Ris k l) hs hown ⟨g1, 0, none⟩ 1 1 (Ris k [z]) hx rfl ?_ Ris_one (by omega) (by unfold maxLen; omega) (by omega) hbase w.heap.size rfl ?_
  · intro j u hj
    match j, hj with
    | 0, hj =>
      simp [Ris] at hj
      subst hj
      rw [add_flat, hcell]
    | j + 1, hj => simp [Ris] at hj
  · intro g cap w' hown' hg _ _
    rw [← Ris_append] at hown'
    refine h _ _ w' hown' (hb.grown hg (by omega) ?_)
    intro k hk
    have := (hown.lt k hk).1
    omega

end Go.Proofs.Ytfkfkmdnffpcmaa

/-
  Footprints: what a call may have written, said as a set of blocks. No program is named here.
-/
namespace Go.Proofs.Ytfkfkmdnffpcmaa
open Go.RowKit

/-- Only what lies in F, or is new, may have changed. -/
structure Moves (F : Nat → Prop) (w w' : World) : Prop where
  os : w'.os = w.os
  tape : w'.tape = w.tape
  output : w'.output = w.output
  size : w.heap.size ≤ w'.heap.size
  block : ∀ k, k < w.heap.size → ¬ F k → w'.heap[k]? = w.heap[k]?

section
variable {F F' : Nat → Prop} {w w1 w2 : World} {B : Nat}
theorem Moves.refl (F : Nat → Prop) (w : World) : Moves F w w := ⟨rfl, rfl, rfl, Nat.le_refl _, fun _ _ _ => rfl⟩
theorem Moves.trans (h : Moves F w w1) (k : Moves F' w1 w2) (hF : ∀ k, F' k → F k ∨ w.heap.size ≤ k) : Moves F w w2 :=
  ⟨k.os.trans h.os, k.tape.trans h.tape, k.output.trans h.output, Nat.le_trans h.size k.size, fun i hi hn =>
    (k.block i (Nat.lt_of_lt_of_le hi h.size) fun hf => (hF i hf).elim hn fun hs => by omega).trans (h.block i hi hn)⟩
theorem Moves.go (h : Moves F w w1) (k : Moves F w1 w2) : Moves F w w2 := h.trans k fun _ hf => .inl hf
theorem Moves.wider (h : Moves F w w1) (hF : ∀ k, F k → F' k) : Moves F' w w1 := ⟨h.os, h.tape, h.output, h.size, fun i hi hn => h.block i hi fun hf => hn (hF i hf)⟩
theorem Moves.of_below (h : Below w.heap.size w w1) : Moves F w w1 := ⟨h.os, h.tape, h.output, h.size, fun i hi _ => h.block i hi⟩
theorem Moves.then (h : Moves F w w1) (k : Below w1.heap.size w1 w2) : Moves F w w2 := h.go (.of_below k)
theorem Moves.alloc (h : Moves F w w1) (o : Obj) : Moves F w (w1.alloc o) := h.then ((Below.refl _ _).alloc (Nat.le_refl _) _)
theorem Moves.drewN (h : Moves F w w1) (n : Nat) : Moves F w (w1.drewN n) := ⟨h.os, h.tape, h.output, h.size, h.block⟩
theorem Moves.drew (h : Moves F w w1) : Moves F w w1.drew := ⟨h.os, h.tape, h.output, h.size, h.block⟩
theorem Moves.setCell (h : Moves F w w1) {p : Addr} (hp : F p.block ∨ w.heap.size ≤ p.block) (u : Value) : Moves F w (w1.setCell p u) :=
  ⟨h.os, h.tape, h.output, by simpa [World.setCell] using h.size, fun k hk hn => (Below.heap_setCell _ _ _ _ (fun e => by subst e; exact hp.elim hn (by omega))).trans (h.block k hk hn)⟩
theorem Moves.grown {row : Option Nat} (h : Moves F w w1) (hg : w1.grownBy w2 row) (hr : ∀ k, row = some k → F k ∨ w.heap.size ≤ k) : Moves F w w2 :=
  ⟨hg.os.trans h.os, hg.tape.trans h.tape, hg.output.trans h.output, Nat.le_trans h.size hg.size, fun k hk hn =>
    (hg.block k (Nat.lt_of_lt_of_le hk h.size) fun e => (hr k e.symm).elim hn (by omega)).trans (h.block k hk hn)⟩
/-- Where all of F lies from B on, what is below B is as it was. -/
theorem Moves.below (h : Moves F w w1) (hF : ∀ k, F k → B ≤ k) (hB : B ≤ w.heap.size) : Below B w w1 := ⟨h.os, h.tape, h.output, h.size, fun k hk => h.block k (by omega) fun hf => by have := hF k hf; omega⟩
theorem Moves.cell (h : Moves F w w1) {p : Addr} (hp : p.block < w.heap.size) (hn : ¬ F p.block) : w1.cell? p = w.cell? p := World.cell?_of_block (w := w) (h.block _ hp hn)
theorem Moves.frozen (h : Moves F w w1) {p : Addr} (hp : p.block < w.heap.size) (hn : ¬ F p.block) : w1.frozen? p = w.frozen? p := World.frozen?_of_block (w := w) (h.block _ hp hn)
end

/-- The address, if it is one, lies outside F. -/
def Off (F : Nat → Prop) (A : Option Addr) : Prop := ∀ a, A = some a → ¬ F a.block
theorem Off.none {F : Nat → Prop} : Off F none := fun _ h => by cases h
theorem Rd.moves {F : Nat → Prop} {w w' : World} {B n : Nat} {A : Option Addr} {xs : List Value} (h : Rd w B A n xs) (hm : Moves F w w') (hB : B ≤ w.heap.size) (hF : 0 < n → Off F A) : Rd w' B A n xs :=
  ⟨h.1, fun hn => by
    obtain ⟨b, o, e, hb, hc⟩ := h.2 hn
    exact ⟨b, o, e, hb, fun j u hu => (hm.cell (p := ⟨b, o + j, Option.none⟩) (by show b < _; omega) (hF hn ⟨b, o, Option.none⟩ e)).trans (hc j u hu)⟩⟩
theorem own_moves {F : Nat → Prop} {w w' : World} {base : Nat} {e : TypeId} {v : Value} {n : Nat} {xs : List Value} (h : w.ownsRow base e 1 v n xs) (hm : Moves F w w') (hF : ∀ k, v.ownBlock = some k → ¬ F k) : w'.ownsRow base e 1 v n xs := by
  refine ⟨h.1, ?_⟩
  rcases h.2 with h' | ⟨g, cap, cur, rfl, hg, hh, hr⟩
  · exact .inl h'
  · exact .inr ⟨g, cap, cur, rfl, hg, by rw [hm.block g (Array.getElem?_eq_some_iff.1 hh).1 (hF g rfl)]; exact hh, hr⟩

/-- What a slice may look like: nil, or an address and room. -/
def SlOK (A : Option Addr) (n c : Nat) : Prop := (A = none ∧ n = 0 ∧ c = 0) ∨ ∃ a, A = some a ∧ n ≤ c ∧ c ≤ maxLen
/-- .. the address plain. -/
def SlF (A : Option Addr) (n c : Nat) : Prop := (A = none ∧ n = 0 ∧ c = 0) ∨ ∃ b o, A = some ⟨b, o, none⟩ ∧ n ≤ c ∧ c ≤ maxLen
theorem SlOK.nil : SlOK none 0 0 := .inl ⟨rfl, rfl, rfl⟩
theorem SlF.nil : SlF none 0 0 := .inl ⟨rfl, rfl, rfl⟩
theorem SlF.ok {A : Option Addr} {n c : Nat} (h : SlF A n c) : SlOK A n c := by
  rcases h with h | ⟨b, o, e, h⟩
  · exact .inl h
  · exact .inr ⟨_, e, h⟩
theorem SlOK.le {A : Option Addr} {n c : Nat} (h : SlOK A n c) : n ≤ c ∧ c ≤ maxLen := by
  rcases h with ⟨_, h1, h2⟩ | ⟨_, _, h⟩
  · subst h1; subst h2; exact ⟨Nat.le_refl _, Nat.zero_le _⟩
  · exact h
theorem SlF.le {A : Option Addr} {n c : Nat} (h : SlF A n c) : n ≤ c ∧ c ≤ maxLen := h.ok.le
theorem SlF.of_own {w : World} {base : Nat} {e : TypeId} {A : Option Addr} {n c : Nat} {xs : List Value} (h : w.ownsRow base e 1 (.slice A n c) n xs) : SlF A n c := by
  rcases h.2 with ⟨h1, _⟩ | ⟨g, cap, cur, h1, _, _, h2, h3, _⟩
  · injection h1 with h1 h2 h3
    exact .inl ⟨h1, h2, h3⟩
  · injection h1 with h1 _ h4
    subst h4
    exact .inr ⟨g, 0, h1, h2, h3⟩
theorem SlOK.of_own {w : World} {base : Nat} {e : TypeId} {A : Option Addr} {n c : Nat} {xs : List Value} (h : w.ownsRow base e 1 (.slice A n c) n xs) : SlOK A n c := (SlF.of_own h).ok

/-- What is read behind the first k. -/
theorem Rd.tail {w : World} {B n k b o : Nat} {xs : List Value} (h : Rd w B (some ⟨b, o, none⟩) n xs) (hk : k ≤ n) : Rd w B (some ⟨b, o + k, none⟩) (n - k) (xs.drop k) := by
  refine ⟨by rw [List.length_drop, h.1], fun h0 => ?_⟩
  obtain ⟨b', o', e, hb, hc⟩ := h.2 (by omega)
  injection e with e
  injection e with e1 e2
  subst e1 e2
  refine ⟨b, o + k, rfl, hb, fun j u hu => ?_⟩
  rw [List.getElem?_drop] at hu
  rw [Nat.add_assoc]
  exact hc _ u hu
theorem Rd.none_nil {w : World} {B n : Nat} {xs : List Value} (h : Rd w B none n xs) : n = 0 ∧ xs = [] := by
  have h0 : n = 0 := by
    rcases Nat.eq_zero_or_pos n with h0 | h0
    · exact h0
    · obtain ⟨_, _, e, _⟩ := h.2 h0; cases e
  subst h0
  exact ⟨rfl, List.eq_nil_of_length_eq_zero h.1⟩

/-- Behind a row that is owned stands what is read, be it nothing: 'append(row, other...)'. -/
theorem wp_append_foot {P : Program} {ops : Array Oper} {rest : List Oper} {o : Oper} {a : Act} {w : World} {Q : Exit → Act → World → Prop} (hgd : o.guard = none) (s x : Operand) (t : TypeId)
    (ho : o.op = .call { callee := .builtin .append, args := #[s, x], argTypes := #[t, t] }) (e : TypeId) (ht : P.underlying t = some (.slice e)) (z : Value) (by_ : Nat) (hby : by_ ≤ 16) (hz1 : z.cells.size = 1)
    (hinfo : (P.info? e).map (fun i => (i.zero, i.size, i.bytes)) = some (some z, 1, by_))
    (base n c : Nat) (A : Option Addr) (xs : List Value) (hs : a.eval s = .slice A n c) (hown : w.ownsRow base e 1 (.slice A n c) n xs)
    (B m c2 : Nat) (A2 : Option Addr) (news : List Value) (hx : a.eval x = .slice A2 m c2) (hr : Rd w B A2 m news) (hok : SlOK A2 m c2) (hone : ∀ u ∈ news, u.oneCell' = true)
    (hn : n + m ≤ 8796093022208) (hbase : base ≤ w.heap.size)
    (h : ∀ A' c' w', w'.ownsRow base e 1 (.slice A' (n + m) c') (n + m) (xs ++ news) → w.grownBy w' (Value.slice A n c).ownBlock → ((Value.slice A' (n + m) c').ownBlock = (Value.slice A n c).ownBlock ∨ (Value.slice A' (n + m) c').ownBlock = some w.heap.size) →
      wpList P ops Q rest (a.put o.dst (.slice A' (n + m) c')) w') :
    wpList P ops Q (o :: rest) a w := by
  obtain ⟨i0, hi, hi0, hi1, hi2⟩ := info_parts hinfo
  have hmul : (n + m) * by_ ≤ (n + m) * 16 := Nat.mul_le_mul_left _ hby
  rcases hok with ⟨rfl, rfl, rfl⟩ | ⟨a2, rfl, _, _⟩
  · have h0 := List.eq_nil_of_length_eq_zero hr.1
    subst h0
    refine wpList_append_own_none hgd s x t ho base e i0 1 ht hi (.slice A n c) n xs hs hown hx ?_
    have := h A c w (by simpa using hown) ⟨rfl, rfl, rfl, Nat.le_refl _, fun _ _ _ => rfl⟩ (.inl (by cases A <;> rfl))
    simpa using this
  · refine wpList_append_own_at w hgd s x t ho base e i0 z 1 by_ ht hi hi0 hi1 hi2 hz1 (by omega) (.slice A n c) n xs hs hown a2 m c2 news hx (by rw [hr.1]; omega) ?_ hone (by unfold maxLen; omega) (by omega) hbase ?_
    · intro j u hj
      obtain ⟨b', o', e1, _, hc⟩ := hr.2 (by have := (List.getElem?_eq_some_iff.1 hj).1; have := hr.1; omega)
      injection e1 with e1
      subst e1
      rw [add_flat]
      exact hc j u hj
    · intro v' w' h1 h2 _ h4
      obtain ⟨A', n', c', rfl, hn'⟩ : ∃ A' n' c', v' = .slice A' n' c' ∧ n' = n + m := by
        rcases h1.2 with ⟨rfl, h0⟩ | ⟨g, cap, _, rfl, _⟩
        · exact ⟨none, 0, 0, rfl, h0.symm⟩
        · exact ⟨_, _, _, rfl, rfl⟩
      subst hn'
      exact h A' c' w' h1 h2 h4

end Go.Proofs.Ytfkfkmdnffpcmaa

/-
  Whole arrays in blocks of their own. No program is named here.
-/
namespace Go.Proofs.Ytfkfkmdnffpcmaa
open Go.RowKit

/-- Numbers of a kind, as the cells of an array. -/
def Nums (k : IntKind) (l : List Nat) : Array Value := (l.map fun (n : Nat) => Value.int k (n : Int)).toArray
theorem Nums_size (k : IntKind) (l : List Nat) : (Nums k l).size = l.length := by simp [Nums]
theorem Nums_get {k : IntKind} {l : List Nat} {j : Nat} (h : j < l.length) : (Nums k l)[j]? = some (.int k (l[j] : Int)) := by
  simp [Nums, h]
theorem Nums_set (k : IntKind) (l : List Nat) (j n : Nat) : (Nums k l).setIfInBounds j (.int k (n : Int)) = Nums k (l.set j n) := by
  simp [Nums, List.map_set]
theorem Nums_one (k : IntKind) (l : List Nat) : (Nums k l).all (·.oneCell') = true := by
  rw [Array.all_eq_true_iff_forall_mem]
  intro v hv
  simp only [Nums, List.mem_toArray, List.mem_map] at hv
  obtain ⟨n, _, rfl⟩ := hv
  rfl

/-- So many zeros. -/
def Zs (n : Nat) : List Nat := List.replicate n 0
theorem Zs_length (n : Nat) : (Zs n).length = n := List.length_replicate ..
theorem Zs_get {n j : Nat} (h : j < n) : (Zs n)[j]? = some 0 := by simp [Zs, h]

/-- Block b holds just these numbers, and may be written. -/
def Arr (w : World) (b : Nat) (t : TypeId) (k : IntKind) (l : List Nat) : Prop := w.heap[b]? = some (.cells (Nums k l) t (0, 0))

section
variable {w w' : World} {b : Nat} {t : TypeId} {k : IntKind} {l : List Nat}
theorem Arr.lt (h : Arr w b t k l) : b < w.heap.size := (Array.getElem?_eq_some_iff.1 h).1
theorem Arr.drewN (h : Arr w b t k l) (n : Nat) : Arr (w.drewN n) b t k l := h
theorem Arr.drew (h : Arr w b t k l) : Arr w.drew b t k l := h
theorem Arr.heap (h : Arr w b t k l) (e : w'.heap = w.heap) : Arr w' b t k l := by unfold Arr; rw [e]; exact h
theorem Arr.below {B : Nat} (h : Arr w b t k l) (hb : Below B w w') (hB : b < B) : Arr w' b t k l := (hb.block b hB).trans h
theorem Arr.moves {F : Nat → Prop} (h : Arr w b t k l) (hm : Moves F w w') (hF : ¬ F b) : Arr w' b t k l := (hm.block b h.lt hF).trans h
theorem Arr.cell {j : Nat} (h : Arr w b t k l) (hj : j < l.length) : w.cell? ⟨b, j, none⟩ = some (.int k (l[j] : Int)) := by
  rw [cell_of_row w b j _ t (0, 0) h, Nums_get hj]
theorem Arr.frozen (h : Arr w b t k l) (j : Nat) : w.frozen? ⟨b, j, none⟩ = false := frozen_of_row w b j _ t h
theorem Arr.set {j n : Nat} (h : Arr w b t k l) : Arr (w.setCell ⟨b, j, none⟩ (.int k (n : Int))) b t k (l.set j n) := by
  unfold Arr
  rw [heap_setCell_same w b j _ t _ h, Nums_set]
theorem Arr.put {j n : Nat} {z : Int} (h : Arr w b t k l) (hz : z = (n : Int)) : Arr (w.setCell ⟨b, j, none⟩ (.int k z)) b t k (l.set j n) := by subst hz; exact h.set
theorem Arr.other {p : Addr} {v : Value} (h : Arr w b t k l) (hp : b ≠ p.block) : Arr (w.setCell p v) b t k l := (heap_setCell_other w p b v hp).trans h
theorem Arr.alloc (h : Arr w b t k l) (o : Obj) : Arr (w.alloc o) b t k l := (heap_alloc_old w o h.lt).trans h
theorem Arr.new {w : World} {t : TypeId} {k : IntKind} {l : List Nat} : Arr (w.alloc (.cells (Nums k l) t)) w.heap.size t k l := heap_alloc_new w _
theorem Arr.setRow {l' : List Nat} (h : Arr w b t k l) : Arr (w.setRow b (Nums k l')) b t k l' := setRow_heap w b _ _ t _ h
theorem Arr.setRow_other {g : Nat} {cs : Array Value} (h : Arr w b t k l) (hg : b ≠ g) : Arr (w.setRow g cs) b t k l := (Go.setRow_other w g b cs hg).trans h
end

theorem Moves.setRow {F : Nat → Prop} {w w1 : World} (h : Moves F w w1) {g : Nat} (hg : F g ∨ w.heap.size ≤ g) (cs : Array Value) : Moves F w (w1.setRow g cs) :=
  ⟨h.os, h.tape, h.output, by simpa using h.size, fun k hk hn => (Go.setRow_other w1 g k cs (fun e => by subst e; exact hg.elim hn (by omega))).trans (h.block k hk hn)⟩
theorem bsetRow {B : Nat} {w w1 : World} (h : Below B w w1) {g : Nat} (hg : B ≤ g) (cs : Array Value) : Below B w (w1.setRow g cs) :=
  ⟨h.os, h.tape, h.output, by simpa using h.size, fun k hk => (Go.setRow_other w1 g k cs (by omega)).trans (h.block k hk)⟩

/-- A type that is an array of numbers, of one cell each. -/
structure ArrT (P : Program) (t e : TypeId) (k : IntKind) (n : Nat) : Prop where
  under : P.underlying t = some (.array n e)
  elem : P.underlying e = some (.int k)
  size : (P.info? t).map (·.size) = some n

section
variable {P : Program} {ops : Array Oper} {rest : List Oper} {o : Oper} {a : Act} {w : World} {Q : Exit → Act → World → Prop} {t e : TypeId} {k : IntKind} {l : List Nat} {b : Nat}

/-- The whole array is read. -/
theorem wp_load_arr {n : Nat} (T : ArrT P t e k n) (hgd : o.guard = none) (x : Operand) (ho : o.op = .load t x) (hx : a.eval x = .pointer (some ⟨b, 0, none⟩)) {tb : TypeId} (h : Arr w b tb k l) (hl : l.length = n)
    (hK : wpList P ops Q rest (a.put o.dst (.agg (Nums k l))) w) : wpList P ops Q (o :: rest) a w :=
  wpList_load_row hgd t x ho b hx tb (Nums k l) (0, 0) (.array n e) h T.under rfl (by rw [Nums_size, hl]; exact T.size) hK
/-- The whole array is written. -/
theorem wp_store_arr {n : Nat} (T : ArrT P t e k n) (hgd : o.guard = none) (x y : Operand) (ho : o.op = .store t x y) (hx : a.eval x = .pointer (some ⟨b, 0, none⟩)) {l' : List Nat} (hy : a.eval y = .agg (Nums k l')) {tb : TypeId} (h : Arr w b tb k l) (hl : l.length = n) (hl' : l'.length = n)
    (hK : wpList P ops Q rest (a.put o.dst undef) (w.setRow b (Nums k l'))) : wpList P ops Q (o :: rest) a w :=
  wpList_store_row hgd t x y ho b (Nums k l') hx hy tb (Nums k l) h (by rw [Nums_size, hl']; exact T.size) (by rw [Nums_size, Nums_size, hl, hl']) (Nums_one _ _) hK
end

/-- What a call ends in that answers an array. -/
def AnsA (w : World) (k : IntKind) (l : List Nat) (en : Ending) (w' : World) : Prop := en = .returned (.agg (Nums k l)) ∧ Below w.heap.size w w'

/-- The midst of what is read. -/
theorem Rd.part {w : World} {B n b o p q : Nat} {xs : List Value} (h : Rd w B (some ⟨b, o, none⟩) n xs) (hq : p + q ≤ n) : Rd w B (some ⟨b, o + p, none⟩) q ((xs.drop p).take q) := by
  refine ⟨by rw [List.length_take, List.length_drop, h.1]; omega, fun h0 => ?_⟩
  obtain ⟨b', o', e, hb, hc⟩ := h.2 (by omega)
  injection e with e
  injection e with e1 e2
  subst e1 e2
  refine ⟨b, o + p, rfl, hb, fun j u hu => ?_⟩
  rw [List.getElem?_take] at hu
  split at hu
  · rw [List.getElem?_drop] at hu
    rw [Nat.add_assoc]
    exact hc _ u hu
  · cases hu

/-- The way out of a function that answers an array. -/
theorem ret_arr {P : Program} {fn : Func} {a : Act} {w : World} {R : Ending → World → Prop} {t e : TypeId} {k : IntKind} {n b : Nat} {l : List Nat} (T : ArrT P t e k n) {p : Tmp} (hres : fn.results = #[.cell p t])
    (hp : a.tmps.getD p undef = .pointer (some ⟨b, 0, none⟩)) {tb : TypeId} (h : Arr w b tb k l) (hl : l.length = n) (hd : a.defers = []) (hR : R (.returned (.agg (Nums k l))) w) : bodyPost P fn R .ret a w :=
  bodyPost_ret (results_cell_row hres _ w b tb _ (0, 0) (.array n e) hp h T.under rfl (by rw [Nums_size, hl]; exact T.size)) hd hR

/-- One more is filled in. -/
theorem afill_set {α : Type} {L M : List α} {i : Nat} (h : i < L.length) (hm : i < M.length) : (L.take i ++ M.drop i).set i L[i] = L.take (i + 1) ++ M.drop (i + 1) := by
  have h1 : (L.take i).length = i := by simp; omega
  rw [List.set_append_right _ _ (by omega), h1, Nat.sub_self, List.drop_eq_getElem_cons hm, List.set_cons_zero, List.take_add_one, List.getElem?_eq_getElem h, List.append_assoc]
  rfl
theorem fill_length {α : Type} {L M : List α} {i : Nat} (h : L.length = M.length) : (L.take i ++ M.drop i).length = M.length := by simp; omega
theorem fill_get {α : Type} {L M : List α} {i : Nat} (h : i < M.length) (hl : i ≤ L.length) : (L.take i ++ M.drop i)[i]? = some M[i] := by
  rw [List.getElem?_append_right (by simp; omega), List.length_take, Nat.min_eq_left hl, Nat.sub_self, List.getElem?_drop, Nat.add_zero, List.getElem?_eq_getElem h]
theorem fill_all {α : Type} {L M : List α} {i : Nat} (h : L.length = i) (hm : M.length = i) : L.take i ++ M.drop i = L := by
  rw [List.take_of_length_le (by omega), List.drop_of_length_le (by omega), List.append_nil]
theorem Arr.at_ {w : World} {b : Nat} {t : TypeId} {k : IntKind} {l : List Nat} {j x : Nat} (h : Arr w b t k l) (hj : l[j]? = some x) : w.cell? ⟨b, j, none⟩ = some (.int k (x : Int)) := by
  obtain ⟨h1, h2⟩ := List.getElem?_eq_some_iff.1 hj
  rw [h.cell h1, h2]

/-- A store of a whole array, the world behind it a letter. -/
theorem Arr.store_moves {w : World} {b : Nat} {t : TypeId} {k : IntKind} {l : List Nat} (l' : List Nat) (h : Arr w b t k l) :
    Arr (w.setRow b (Nums k l')) b t k l' ∧ Moves (fun j => j = b) w (w.setRow b (Nums k l')) ∧ (w.setRow b (Nums k l')).heap.size = w.heap.size :=
  ⟨h.setRow, (Moves.refl (fun j => j = b) w).setRow (.inl rfl) _, by simp⟩

section
variable {P : Program} {ops : Array Oper} {rest : List Oper} {o : Oper} {a : Act} {w : World} {Q : Exit → Act → World → Prop} {k : IntKind}
/-- A new array of zeros. -/
theorem wp_alloc_arr (hg : o.guard = none) (t : TypeId) (ho : o.op = .alloc t) (n : Nat) (hz : (P.info? t).map (fun i => (i.zero, i.size)) = some (some (.agg (Nums k (Zs n))), n))
    (hK : ∀ w' g, Hid (g = w.heap.size) → Hid (Arr w' g t k (Zs n)) → Hid (Below w.heap.size w w') → Hid (w'.heap.size = w.heap.size + 1) → wpList P ops Q rest (a.put o.dst (.pointer (some ⟨g, 0, none⟩))) w') : wpList P ops Q (o :: rest) a w := by
  refine wpList_plain hg fun K hKK => ?_
  have hq := hKK _ _ (hK (w.alloc (.cells (Nums k (Zs n)) t)) _ (Lib.hid rfl) (Lib.hid Arr.new) (Lib.hid ((Below.refl _ _).alloc (Nat.le_refl _) _)) (Lib.hid (by simp)))
  have hz0 := (zero_of_info hz).1
  unfold Oper.wp execOp
  simp only [ho, Instr.alloc, hz0, Sem.run_bind, newVar, newRow, run_newObj_alloc, Sem.run_pure, Result.andThen_ok]
  exact hq
/-- A new array of what came in. -/
theorem wp_box_arr (hg : o.guard = none) (t : TypeId) (x : Operand) (ho : o.op = .box t x) (l : List Nat) (hx : a.eval x = .agg (Nums k l))
    (hK : ∀ w' g, Hid (g = w.heap.size) → Hid (Arr w' g t k l) → Hid (Below w.heap.size w w') → Hid (w'.heap.size = w.heap.size + 1) → wpList P ops Q rest (a.put o.dst (.pointer (some ⟨g, 0, none⟩))) w') : wpList P ops Q (o :: rest) a w := by
  refine wpList_plain hg fun K hKK => ?_
  have hq := hKK _ _ (hK (w.alloc (.cells (Nums k l) t)) _ (Lib.hid rfl) (Lib.hid Arr.new) (Lib.hid ((Below.refl _ _).alloc (Nat.le_refl _) _)) (Lib.hid (by simp)))
  unfold Oper.wp execOp
  simp only [ho, hx, Instr.box, Sem.run_bind, newVar, newRow, run_newObj_alloc, Sem.run_pure, Result.andThen_ok]
  exact hq
/-- The whole array is written, the world behind it a letter. -/
theorem wp_put_arr {t e : TypeId} {l l' : List Nat} {b n : Nat} (T : ArrT P t e k n) (hgd : o.guard = none) (x y : Operand) (ho : o.op = .store t x y) (hx : a.eval x = .pointer (some ⟨b, 0, none⟩)) (hy : a.eval y = .agg (Nums k l')) {tb : TypeId} (h : Arr w b tb k l) (hl : l.length = n) (hl' : l'.length = n)
    (hK : ∀ w', Hid (Arr w' b tb k l') → Hid (Moves (fun j => j = b) w w') → Hid (w'.heap.size = w.heap.size) → wpList P ops Q rest (a.put o.dst undef) w') : wpList P ops Q (o :: rest) a w :=
  wp_store_arr T hgd x y ho hx hy h hl hl' (hK _ (Lib.hid (h.store_moves l').1) (Lib.hid (h.store_moves l').2.1) (Lib.hid (h.store_moves l').2.2))
end

section
variable {P : Program} {ops : Array Oper} {rest : List Oper} {o : Oper} {a : Act} {w : World} {Q : Exit → Act → World → Prop}
/-- A literal of numbers. -/
theorem wp_build_arr (hg : o.guard = none) (t : TypeId) (parts : Array (Nat × Operand)) (ho : o.op = .build t parts) (k : IntKind) (l : List Nat)
    (hb : P.built t (parts.map fun (i, x) => (i, a.eval x)).toList = some (Nums k l))
    (h : wpList P ops Q rest (a.put o.dst (.agg (Nums k l))) w) : wpList P ops Q (o :: rest) a w :=
  wpList_build hg t parts ho (by rw [hb]; rfl) (by rw [hb]; exact h)
end

end Go.Proofs.Ytfkfkmdnffpcmaa
