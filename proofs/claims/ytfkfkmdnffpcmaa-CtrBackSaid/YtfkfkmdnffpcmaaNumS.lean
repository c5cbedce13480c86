import Derived.Test.YtfkfkmdnffpcmaaBase
namespace Go.Proofs.Ytfkfkmdnffpcmaa
open Go.RowKit

def sameL (a b : List UInt8) : Bool := decide (a = b)
theorem sameL_self (a : List UInt8) : sameL a a = true := by simp [sameL]
theorem take_succ_get {α : Type} (l : List α) (k : Nat) (h : k < l.length) : l.take (k + 1) = l.take k ++ [l[k]] := by
  rw [List.take_succ_eq_append_getElem h]

theorem byte_eq {a b : UInt8} (h : (a.toNat : Int) = (b.toNat : Int)) : a = b := by
  have : a.toNat = b.toNat := by omega
  exact UInt8.toNat_inj.1 this
theorem same_step {xs ys : List UInt8} {k : Nat} (hx : k < xs.length) (hy : k < ys.length) (ht : xs.take k = ys.take k) (h : ((xs[k].toNat : Int) != (ys[k].toNat : Int)) = false) :
    xs.take (k + 1) = ys.take (k + 1) := by
  have := byte_eq (by simpa using h)
  rw [take_succ_get _ _ hx, take_succ_get _ _ hy, ht, this]
theorem same_not {xs ys : List UInt8} {k : Nat} (hx : k < xs.length) (hy : k < ys.length) (h : ((xs[k].toNat : Int) != (ys[k].toNat : Int)) = true) : sameL xs ys = false := by
  refine decide_eq_false (fun e => ?_)
  subst e
  simp at h
theorem same_all {xs ys : List UInt8} {k : Nat} (hx : xs.length ≤ k) (hy : ys.length ≤ k) (ht : xs.take k = ys.take k) : sameL xs ys = true := by
  rw [List.take_of_length_le hx, List.take_of_length_le hy] at ht
  exact decide_eq_true ht

/-- The lowest bytes of m, k of them, the highest first. -/
def putL : Nat → Nat → List UInt8
  | _, 0 => []
  | m, k + 1 => putL (m / 256) k ++ [UInt8.ofNat m]
theorem putL_length (m k : Nat) : (putL m k).length = k := by
  induction k generalizing m with
  | zero => rfl
  | succ k ih => simp [putL, ih]
theorem putL_zero (k : Nat) : putL 0 k = List.replicate k 0 := by
  induction k with
  | zero => rfl
  | succ k ih => simp only [putL, Nat.zero_div, ih]; rw [List.replicate_succ']; rfl

/-- What Put answers. -/
def putR (m : Nat) (size : Int) : List UInt8 := if 1 ≤ size ∧ size ≤ 8 then putL m size.toNat else []

theorem set_front (q : Nat) (b : UInt8) (done : List UInt8) : (List.replicate (q + 1) 0 ++ done).set q b = List.replicate q 0 ++ b :: done := by
  rw [List.set_append_left _ _ (by simp), List.replicate_succ', List.set_append_right _ _ (by simp)]
  simp

/-- Nothing: a nil slice. -/
theorem newB_nil (e : TypeId) (w w' : World) (hb : Below w.heap.size w w') : NewB e w [] (.returned (.slice none 0 0)) w' :=
  ⟨none, 0, rfl, World.ownsRow_nil _ _ _ _, hb⟩

/-- The number of bytes, the highest first. -/
def getL (l : List UInt8) : Nat := l.foldl (fun n b => n * 256 + b.toNat) 0
theorem getL_snoc (l : List UInt8) (b : UInt8) : getL (l ++ [b]) = getL l * 256 + b.toNat := by simp [getL]
theorem getL_fold (l : List UInt8) : ∀ a : Nat, l.foldl (fun n b => n * 256 + b.toNat) a < (a + 1) * 256 ^ l.length := by
  induction l with
  | nil => intro a; simp
  | cons b l ih =>
    intro a
    rw [List.foldl_cons, List.length_cons, Nat.pow_succ]
    refine Nat.lt_of_lt_of_le (ih _) ?_
    rw [Nat.mul_comm (256 ^ l.length) 256, ← Nat.mul_assoc]
    refine Nat.mul_le_mul_right _ ?_
    have := b.toNat_lt
    omega
theorem getL_lt (l : List UInt8) : getL l < 256 ^ l.length := by simpa [getL] using getL_fold l 0
theorem getL_take_lt {l : List UInt8} {k : Nat} (hk : k ≤ 7) : getL (l.take k) < 72057594037927936 := by
  have h := getL_lt (l.take k)
  have h2 : 256 ^ (l.take k).length ≤ 256 ^ 7 := Nat.pow_le_pow_right (by omega) (Nat.le_trans (List.length_take_le _ _) hk)
  omega

/-- What Get answers: the number, and a fault. -/
def getV (l : List UInt8) : Value := if 1 ≤ l.length ∧ l.length ≤ 8 then .tuple #[.int .u64 (getL l), .int .i64 0] else .tuple #[.int .u64 0, .int .i64 4]

theorem or_byte (a b : Nat) (ha : a < 72057594037927936) (hb : b < 256) : bits .or .u64 ((a : Int) * 256) (b : Int) = ((a * 256 + b : Nat) : Int) := by
  have h := u64_or_nat (a * 256) b (by omega) (by omega)
  rw [Int.natCast_mul] at h
  rw [show ((a : Int) * 256) = (a : Int) * ((256 : Nat) : Int) from rfl, h, nat_join 8 (a * 256) b (by omega) (by omega)]


/-- Digits, and the number that they are. -/
def isDig (b : UInt8) : Bool := decide (48 ≤ (b.toNat : Int) ∧ (b.toNat : Int) ≤ 57)
def numL (l : List UInt8) : Nat := l.foldl (fun n b => 10 * n + (b.toNat - 48)) 0
theorem numL_snoc (l : List UInt8) (b : UInt8) : numL (l ++ [b]) = 10 * numL l + (b.toNat - 48) := by simp [numL]
theorem numL_fold (l : List UInt8) (h : l.all isDig = true) : ∀ a : Nat, l.foldl (fun n b => 10 * n + (b.toNat - 48)) a < (a + 1) * 10 ^ l.length := by
  induction l with
  | nil => intro a; simp
  | cons b l ih =>
    intro a
    simp only [List.all_cons, Bool.and_eq_true] at h
    rw [List.foldl_cons, List.length_cons, Nat.pow_succ]
    refine Nat.lt_of_lt_of_le (ih h.2 _) ?_
    rw [Nat.mul_comm (10 ^ l.length) 10, ← Nat.mul_assoc]
    refine Nat.mul_le_mul_right _ ?_
    have := h.1
    simp only [isDig, decide_eq_true_eq] at this
    omega
theorem numL_lt (l : List UInt8) (h : l.all isDig = true) : numL l < 10 ^ l.length := by simpa [numL] using numL_fold l h 0
theorem numL_take_lt {l : List UInt8} {k : Nat} (h : (l.take k).all isDig = true) (hk : k ≤ 17) : numL (l.take k) < 100000000000000000 := by
  have h1 := numL_lt (l.take k) h
  have h2 : 10 ^ (l.take k).length ≤ 10 ^ 17 := Nat.pow_le_pow_right (by omega) (Nat.le_trans (List.length_take_le _ _) hk)
  omega
theorem dig_not {l : List UInt8} {k : Nat} (hk : k < l.length) (h : isDig l[k] = false) : l.all isDig = false := by
  rw [List.all_eq_false]
  exact ⟨l[k], List.getElem_mem hk, by simp [h]⟩
theorem dig_step {l : List UInt8} {k : Nat} (hk : k < l.length) (h : isDig l[k] = true) (ht : (l.take k).all isDig = true) : (l.take (k + 1)).all isDig = true := by
  rw [take_succ_get _ _ hk, List.all_append, ht]
  simp [h]
/-- What Parse answers: the number, and a fault. -/
def parseBad (l : List UInt8) : Bool := decide (l.length < 1) || decide (18 < l.length) || (decide (1 < l.length) && decide (l.head? = some 48))
def parseV (l : List UInt8) (most : Int) : Value :=
  if parseBad l || !l.all isDig then .tuple #[.int .i64 0, .int .i64 3]
  else if most < numL l then .tuple #[.int .i64 0, .int .i64 2] else .tuple #[.int .i64 (numL l), .int .i64 0]

/-- A string's bytes as a list. -/
theorem str_len (s : ByteArray) : s.data.toList.length = s.size := by simp
theorem str_get (s : ByteArray) (k : Nat) (h : k < s.size) : s.data.toList[k]'(by simpa using h) = s[k] := rfl
theorem str_take (s : ByteArray) (k : Nat) (h : k < s.size) : s.data.toList.take (k + 1) = s.data.toList.take k ++ [s[k]] := by
  rw [take_succ_get _ _ (by simpa using h), str_get s k h]
theorem str_head (s : ByteArray) (h : 0 < s.size) : s.data.toList.head? = some s[0] := by
  rw [List.head?_eq_getElem?, List.getElem?_eq_getElem (by simpa using h), str_get s 0 h]
theorem parse_syn {l : List UInt8} (most : Int) (h : parseBad l = true) : parseV l most = .tuple #[.int .i64 0, .int .i64 3] := by
  rw [parseV, if_pos (by rw [h]; rfl)]
theorem parse_sig {l : List UInt8} (most : Int) (h : l.all isDig = false) : parseV l most = .tuple #[.int .i64 0, .int .i64 3] := by
  rw [parseV, if_pos (by rw [h]; simp)]
theorem parse_far {l : List UInt8} (most : Int) (h0 : parseBad l = false) (h : l.all isDig = true) (hm : most < numL l) : parseV l most = .tuple #[.int .i64 0, .int .i64 2] := by
  rw [parseV, if_neg (by rw [h0, h]; simp), if_pos hm]
theorem parse_ok {l : List UInt8} (most : Int) (h0 : parseBad l = false) (h : l.all isDig = true) (hm : (numL l : Int) ≤ most) : parseV l most = .tuple #[.int .i64 (numL l), .int .i64 0] := by
  rw [parseV, if_neg (by rw [h0, h]; simp), if_neg (by omega)]
theorem parseBad_few {s : ByteArray} (h : s.size < 1) : parseBad s.data.toList = true := by unfold parseBad; rw [str_len, decide_eq_true h]; rfl
theorem parseBad_many {s : ByteArray} (h : 18 < s.size) : parseBad s.data.toList = true := by unfold parseBad; rw [str_len, decide_eq_true h, Bool.or_true]; rfl
theorem parseBad_ahead {s : ByteArray} (h : 1 < s.size) (h0 : ((s[0].toNat : Int) == 48) = true) : parseBad s.data.toList = true := by
  have e : s[0] = 48 := UInt8.toNat_inj.1 (by have := beq_iff_eq.1 h0; simp; omega)
  unfold parseBad
  rw [str_head s (by omega), e, str_len]
  simp; omega
theorem parseBad_one {s : ByteArray} (h : s.size = 1) : parseBad s.data.toList = false := by simp [parseBad, h]
theorem parseBad_more {s : ByteArray} (h : 1 < s.size) (h18 : s.size ≤ 18) (h0 : ((s[0].toNat : Int) == 48) = false) : parseBad s.data.toList = false := by
  unfold parseBad
  rw [str_head s (by omega), str_len]
  have e : ¬ (some s[0] = some (48 : UInt8)) := fun e => by injection e with e; rw [e] at h0; simp at h0
  rw [decide_eq_false e, decide_eq_false (show ¬ s.size < 1 by omega), decide_eq_false (show ¬ 18 < s.size by omega), Bool.and_false]
  rfl
theorem isDig_yes {b : UInt8} (h : isDig b = true) : 48 ≤ (b.toNat : Int) ∧ (b.toNat : Int) ≤ 57 := by simpa [isDig] using h
theorem isDig_no {b : UInt8} (h : (b.toNat : Int) < 48 ∨ 57 < (b.toNat : Int)) : isDig b = false := decide_eq_false (by omega)

theorem getV_form (l : List UInt8) : ∃ (x f : Nat), getV l = .tuple #[.int .u64 x, .int .i64 f] := by
  unfold getV
  split
  · exact ⟨getL l, 0, rfl⟩
  · exact ⟨0, 4, rfl⟩
theorem parseV_form (l : List UInt8) (most : Int) : ∃ (x f : Nat), parseV l most = .tuple #[.int .i64 x, .int .i64 f] := by
  unfold parseV
  split
  · exact ⟨0, 3, rfl⟩
  · split
    · exact ⟨0, 2, rfl⟩
    · exact ⟨numL l, 0, rfl⟩

end Go.Proofs.Ytfkfkmdnffpcmaa
