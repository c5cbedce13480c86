/-
  The field of 256 numbers: plain mathematics. No program is named here.
-/
import Derived.Test.YtfkfkmdnffpcmaaNumS
namespace Go.Proofs.Ytfkfkmdnffpcmaa
open Go.RowKit

/-- Twice. -/
def gtwiceU (a : UInt8) : UInt8 := if 128 ≤ a.toNat then (a + a) ^^^ 27 else a + a
/-- The product, bit by bit: k bits are left of a, b has been doubled, s is the sum till now. -/
def gloopU : Nat → UInt8 → UInt8 → UInt8 → UInt8
  | 0, _, _, s => s
  | k + 1, a, b, s => gloopU k (a / 2) (gtwiceU b) (if a.toNat % 2 = 1 then s ^^^ b else s)
def gmulU (a b : UInt8) : UInt8 := gloopU 8 a b 0

/-- All bytes, one by one. -/
theorem all_bytes {p : UInt8 → Prop} [∀ a, Decidable (p a)] (h : ((List.range 256).all fun n => decide (p (UInt8.ofNat n))) = true) : ∀ a : UInt8, p a := by
  intro a
  have h1 := List.all_eq_true.1 h a.toNat (List.mem_range.2 a.toNat_lt)
  have h2 := of_decide_eq_true h1
  rwa [UInt8.ofNat_toNat] at h2

def gbit (x : UInt8) (i : Nat) (v : UInt8) : UInt8 := if x.toNat.testBit i then v else 0
/-- The sum of those of v whose bit is set in x. -/
def gcomb (v : Nat → UInt8) (x : UInt8) : UInt8 := gbit x 0 (v 0) ^^^ gbit x 1 (v 1) ^^^ gbit x 2 (v 2) ^^^ gbit x 3 (v 3) ^^^ gbit x 4 (v 4) ^^^ gbit x 5 (v 5) ^^^ gbit x 6 (v 6) ^^^ gbit x 7 (v 7)
theorem gbit_xor (x y : UInt8) (i : Nat) (v : UInt8) : gbit (x ^^^ y) i v = gbit x i v ^^^ gbit y i v := by
  unfold gbit
  rw [UInt8.toNat_xor, Nat.testBit_xor]
  cases x.toNat.testBit i <;> cases y.toNat.testBit i <;> simp
theorem x4 (a b c d : UInt8) : (a ^^^ b) ^^^ (c ^^^ d) = (a ^^^ c) ^^^ (b ^^^ d) := by
  rw [UInt8.xor_assoc, UInt8.xor_assoc, ← UInt8.xor_assoc b, UInt8.xor_comm b c, UInt8.xor_assoc]
theorem gcomb_xor (v : Nat → UInt8) (x y : UInt8) : gcomb v (x ^^^ y) = gcomb v x ^^^ gcomb v y := by
  unfold gcomb
  simp only [gbit_xor]
  simp only [x4]

/-- A function that goes over sums. -/
def Adds (f : UInt8 → UInt8) : Prop := ∀ x y, f (x ^^^ y) = f x ^^^ f y
theorem Adds.zero {f : UInt8 → UInt8} (h : Adds f) : f 0 = 0 := by
  have := h 0 0
  rw [UInt8.xor_self] at this
  rw [UInt8.xor_self] at this
  exact this
def gbase (i : Nat) : UInt8 := UInt8.ofNat (2 ^ i)
theorem gbase_comb : ∀ x : UInt8, gcomb gbase x = x := all_bytes (by decide +kernel)
theorem Adds.gbit {f : UInt8 → UInt8} (h : Adds f) (x : UInt8) (i : Nat) (v : UInt8) : f (gbit x i v) = Proofs.Ytfkfkmdnffpcmaa.gbit x i (f v) := by
  unfold Proofs.Ytfkfkmdnffpcmaa.gbit
  split
  · rfl
  · exact h.zero
theorem Adds.comb {f : UInt8 → UInt8} (h : Adds f) (x : UInt8) : f x = gcomb (fun i => f (gbase i)) x := by
  rw [← gbase_comb x]
  conv => lhs; unfold gcomb
  simp only [h _ _, h.gbit]
  rw [gbase_comb x]
  rfl
/-- Two that go over sums are one where they agree at the eight bits. -/
theorem Adds.ext {f g : UInt8 → UInt8} (hf : Adds f) (hg : Adds g) (h : ∀ i, i < 8 → f (gbase i) = g (gbase i)) (x : UInt8) : f x = g x := by
  rw [hf.comb, hg.comb]
  unfold gcomb
  dsimp only
  rw [h 0 (by decide), h 1 (by decide), h 2 (by decide), h 3 (by decide), h 4 (by decide), h 5 (by decide), h 6 (by decide), h 7 (by decide)]

theorem gtwice_comb : ∀ x : UInt8, gtwiceU x = gcomb (fun i => gtwiceU (gbase i)) x := all_bytes (by decide +kernel)
theorem gtwice_adds : Adds gtwiceU := fun x y => by rw [gtwice_comb, gtwice_comb x, gtwice_comb y, gcomb_xor]
theorem gloop_adds (k : Nat) : ∀ (a b c s t : UInt8), gloopU k a (b ^^^ c) (s ^^^ t) = gloopU k a b s ^^^ gloopU k a c t := by
  induction k with
  | zero => intro a b c s t; rfl
  | succ k ih =>
    intro a b c s t
    unfold gloopU
    rw [gtwice_adds b c]
    split
    · rw [x4, ih]
    · rw [ih]
/-- The product goes over sums of the second one. -/
theorem gmul_adds (a : UInt8) : Adds (gmulU a) := fun b c => by
  unfold gmulU
  rw [← gloop_adds, UInt8.xor_self]

theorem half_xor (a b : UInt8) : (a ^^^ b) / 2 = a / 2 ^^^ b / 2 := by
  apply UInt8.toNat_inj.1
  rw [UInt8.toNat_div, UInt8.toNat_xor, UInt8.toNat_xor, UInt8.toNat_div, UInt8.toNat_div]
  show (a.toNat ^^^ b.toNat) / 2 = a.toNat / 2 ^^^ b.toNat / 2
  apply Nat.eq_of_testBit_eq
  intro i
  rw [Nat.testBit_xor, Nat.testBit_div_two, Nat.testBit_div_two, Nat.testBit_div_two, Nat.testBit_xor]
theorem odd_xor (a b : UInt8) : decide ((a ^^^ b).toNat % 2 = 1) = (decide (a.toNat % 2 = 1) ^^ decide (b.toNat % 2 = 1)) := by
  rw [UInt8.toNat_xor, ← Nat.testBit_zero, Nat.testBit_xor, Nat.testBit_zero, Nat.testBit_zero]
theorem gloop_left (k : Nat) : ∀ (a a' b s t : UInt8), gloopU k (a ^^^ a') b (s ^^^ t) = gloopU k a b s ^^^ gloopU k a' b t := by
  induction k with
  | zero => intro a a' b s t; rfl
  | succ k ih =>
    intro a a' b s t
    unfold gloopU
    rw [half_xor]
    have h := odd_xor a a'
    by_cases h1 : a.toNat % 2 = 1 <;> by_cases h2 : a'.toNat % 2 = 1
    · rw [decide_eq_true h1, decide_eq_true h2] at h
      have h3 : ¬ (a ^^^ a').toNat % 2 = 1 := of_decide_eq_false h
      rw [if_neg h3, if_pos h1, if_pos h2, ← ih, x4, UInt8.xor_self, UInt8.xor_zero]
    · rw [decide_eq_true h1, decide_eq_false h2] at h
      have h3 : (a ^^^ a').toNat % 2 = 1 := of_decide_eq_true h
      rw [if_pos h3, if_pos h1, if_neg h2, ← ih, UInt8.xor_assoc, UInt8.xor_comm t b, ← UInt8.xor_assoc]
    · rw [decide_eq_false h1, decide_eq_true h2] at h
      have h3 : (a ^^^ a').toNat % 2 = 1 := of_decide_eq_true h
      rw [if_pos h3, if_neg h1, if_pos h2, ← ih, UInt8.xor_assoc]
    · rw [decide_eq_false h1, decide_eq_false h2] at h
      have h3 : ¬ (a ^^^ a').toNat % 2 = 1 := of_decide_eq_false h
      rw [if_neg h3, if_neg h1, if_neg h2, ← ih]
/-- .. and of the first one. -/
theorem gmul_left (b : UInt8) : Adds fun a => gmulU a b := fun a a' => by
  show gloopU 8 (a ^^^ a') b 0 = gloopU 8 a b 0 ^^^ gloopU 8 a' b 0
  rw [← gloop_left, UInt8.xor_self]

theorem gmul_base : ((List.range 8).all fun i => (List.range 8).all fun j => decide (gmulU (gbase i) (gbase j) = gmulU (gbase j) (gbase i))) = true := by decide +kernel
theorem gmul_base3 : ((List.range 8).all fun i => (List.range 8).all fun j => (List.range 8).all fun k => decide (gmulU (gbase i) (gmulU (gbase j) (gbase k)) = gmulU (gmulU (gbase i) (gbase j)) (gbase k))) = true := by decide +kernel
/-- Products do not hang on the order. -/
theorem gmul_comm (a b : UInt8) : gmulU a b = gmulU b a := by
  refine Adds.ext (gmul_left b) (gmul_adds b) (fun i hi => ?_) a
  refine Adds.ext (f := gmulU (gbase i)) (g := fun b => gmulU b (gbase i)) (gmul_adds _) (gmul_left _) (fun j hj => ?_) b
  exact of_decide_eq_true (List.all_eq_true.1 (List.all_eq_true.1 gmul_base i (List.mem_range.2 hi)) j (List.mem_range.2 hj))
theorem Adds.then {f g : UInt8 → UInt8} (hf : Adds f) (hg : Adds g) : Adds fun x => g (f x) := fun x y => by
  show g (f (x ^^^ y)) = g (f x) ^^^ g (f y)
  rw [hf, hg]
section
attribute [local irreducible] gmulU
theorem gmul_assoc (a b c : UInt8) : gmulU a (gmulU b c) = gmulU (gmulU a b) c := by
  have l1 : Adds fun a => gmulU a (gmulU b c) := gmul_left _
  have r1 : Adds fun a => gmulU (gmulU a b) c := Adds.then (f := fun a => gmulU a b) (g := fun a => gmulU a c) (gmul_left b) (gmul_left c)
  refine Adds.ext l1 r1 (fun i hi => ?_) a
  have l2 : Adds fun b => gmulU (gbase i) (gmulU b c) := Adds.then (f := fun b => gmulU b c) (g := gmulU (gbase i)) (gmul_left c) (gmul_adds _)
  have r2 : Adds fun b => gmulU (gmulU (gbase i) b) c := Adds.then (f := gmulU (gbase i)) (g := fun a => gmulU a c) (gmul_adds _) (gmul_left c)
  refine Adds.ext l2 r2 (fun j hj => ?_) b
  have l3 : Adds fun c => gmulU (gbase i) (gmulU (gbase j) c) := Adds.then (f := gmulU (gbase j)) (g := gmulU (gbase i)) (gmul_adds _) (gmul_adds _)
  have r3 : Adds fun c => gmulU (gmulU (gbase i) (gbase j)) c := gmul_adds _
  refine Adds.ext l3 r3 (fun k hk => ?_) c
  exact of_decide_eq_true (List.all_eq_true.1 (List.all_eq_true.1 (List.all_eq_true.1 gmul_base3 i (List.mem_range.2 hi)) j (List.mem_range.2 hj)) k (List.mem_range.2 hk))
end
theorem gmul_one : ∀ a : UInt8, gmulU a 1 = a := all_bytes (by decide +kernel)

/-- The inverse, by search: the first one of those from n on whose product is 1. -/
def gseekU (a : UInt8) : Nat → Nat → UInt8
  | 0, _ => 0
  | k + 1, n => if gmulU a (UInt8.ofNat n) = 1 then UInt8.ofNat n else gseekU a k (n + 1)
def ginvU (a : UInt8) : UInt8 := gseekU a 256 0
/-- The inverses, as they are found. -/
def ginvTab : List Nat := [0, 1, 141, 246, 203, 82, 123, 209, 232, 79, 41, 192, 176, 225, 229, 199, 116, 180, 170, 75, 153, 43, 96, 95, 88, 63, 253, 204, 255, 64, 238, 178, 58, 110, 90, 241, 85, 77, 168, 201, 193, 10, 152, 21, 48, 68, 162, 194, 44, 69, 146, 108, 243, 57, 102, 66, 242, 53, 32, 111, 119, 187, 89, 25, 29, 254, 55, 103, 45, 49, 245, 105, 167, 100, 171, 19, 84, 37, 233, 9, 237, 92, 5, 202, 76, 36, 135, 191, 24, 62, 34, 240, 81, 236, 97, 23, 22, 94, 175, 211, 73, 166, 54, 67, 244, 71, 145, 223, 51, 147, 33, 59, 121, 183, 151, 133, 16, 181, 186, 60, 182, 112, 208, 6, 161, 250, 129, 130, 131, 126, 127, 128, 150, 115, 190, 86, 155, 158, 149, 217, 247, 2, 185, 164, 222, 106, 50, 109, 216, 138, 132, 114, 42, 20, 159, 136, 249, 220, 137, 154, 251, 124, 46, 195, 143, 184, 101, 72, 38, 200, 18, 74, 206, 231, 210, 98, 12, 224, 31, 239, 17, 117, 120, 113, 165, 142, 118, 61, 189, 188, 134, 87, 11, 40, 47, 163, 218, 212, 228, 15, 169, 39, 83, 4, 27, 252, 172, 230, 122, 7, 174, 99, 197, 219, 226, 234, 148, 139, 196, 213, 157, 248, 144, 107, 177, 13, 214, 235, 198, 14, 207, 173, 8, 78, 215, 227, 93, 80, 30, 179, 91, 35, 56, 52, 104, 70, 3, 140, 221, 156, 125, 160, 205, 26, 65, 28]
def gtabU (a : UInt8) : UInt8 := UInt8.ofNat (ginvTab.getD a.toNat 0)
theorem gtab_mul : ∀ a : UInt8, a ≠ 0 → gmulU a (gtabU a) = 1 := all_bytes (by decide +kernel)
theorem gseek_some (a : UInt8) (m : Nat) (hm : gmulU a (UInt8.ofNat m) = 1) : ∀ k n, n ≤ m → m < n + k → gmulU a (gseekU a k n) = 1 := by
  intro k
  induction k with
  | zero => intro n h1 h2; omega
  | succ k ih =>
    intro n h1 h2
    unfold gseekU
    split
    · rename_i h; exact h
    · rename_i h
      refine ih (n + 1) ?_ (by omega)
      rcases Nat.lt_or_ge n m with h3 | h3
      · exact h3
      · obtain rfl : n = m := by omega
        exact absurd hm h
theorem gseek_none (a : UInt8) (h : ∀ n, gmulU a n ≠ 1) : ∀ k n, gseekU a k n = 0 := by
  intro k
  induction k with
  | zero => intro n; rfl
  | succ k ih => intro n; unfold gseekU; rw [if_neg (h _), ih]
theorem ginv_mul (a : UInt8) (h : a ≠ 0) : gmulU a (ginvU a) = 1 :=
  gseek_some a (gtabU a).toNat (by rw [UInt8.ofNat_toNat]; exact gtab_mul a h) 256 0 (Nat.zero_le _) (by have := (gtabU a).toNat_lt; omega)
theorem ginv_zero : ginvU 0 = 0 := gseek_none 0 (fun n e => by
  rw [(gmul_left n).zero] at e
  exact absurd e (by decide)) 256 0
theorem ginv_tab (a : UInt8) : ginvU a = gtabU a := by
  by_cases h : a = 0
  · subst h; rw [ginv_zero]; rfl
  · have h1 := ginv_mul a h
    have h2 := gtab_mul a h
    have h3 : gmulU (gmulU a (ginvU a)) (gtabU a) = gmulU (ginvU a) (gmulU a (gtabU a)) := by rw [gmul_comm a (ginvU a), ← gmul_assoc]
    rw [h1, h2, gmul_comm, gmul_one, gmul_one] at h3
    exact h3.symm
theorem ginv_back (a : UInt8) : ginvU (ginvU a) = a := by
  by_cases h : a = 0
  · subst h; rw [ginv_zero, ginv_zero]
  · have h1 := ginv_mul a h
    have h0 : ginvU a ≠ 0 := fun e => by
      rw [e, (gmul_adds a).zero] at h1
      exact absurd h1 (by decide)
    have h2 := ginv_mul _ h0
    have h3 : gmulU a (gmulU (ginvU a) (ginvU (ginvU a))) = ginvU (ginvU a) := by rw [gmul_assoc, h1, gmul_comm, gmul_one]
    rw [h2, gmul_one] at h3
    exact h3.symm
/-- What a is put for. -/
def gleftU (a : UInt8) (n : Nat) : UInt8 := UInt8.ofNat (a.toNat * 2 ^ n) ^^^ UInt8.ofNat (a.toNat / 2 ^ (8 - n))
def gboxU (a : UInt8) : UInt8 := ginvU a ^^^ gleftU (ginvU a) 1 ^^^ gleftU (ginvU a) 2 ^^^ gleftU (ginvU a) 3 ^^^ gleftU (ginvU a) 4 ^^^ 99
/-- What each is put for, as it is found, and back. -/
def gboxTab : List Nat := [99, 124, 119, 123, 242, 107, 111, 197, 48, 1, 103, 43, 254, 215, 171, 118, 202, 130, 201, 125, 250, 89, 71, 240, 173, 212, 162, 175, 156, 164, 114, 192, 183, 253, 147, 38, 54, 63, 247, 204, 52, 165, 229, 241, 113, 216, 49, 21, 4, 199, 35, 195, 24, 150, 5, 154, 7, 18, 128, 226, 235, 39, 178, 117, 9, 131, 44, 26, 27, 110, 90, 160, 82, 59, 214, 179, 41, 227, 47, 132, 83, 209, 0, 237, 32, 252, 177, 91, 106, 203, 190, 57, 74, 76, 88, 207, 208, 239, 170, 251, 67, 77, 51, 133, 69, 249, 2, 127, 80, 60, 159, 168, 81, 163, 64, 143, 146, 157, 56, 245, 188, 182, 218, 33, 16, 255, 243, 210, 205, 12, 19, 236, 95, 151, 68, 23, 196, 167, 126, 61, 100, 93, 25, 115, 96, 129, 79, 220, 34, 42, 144, 136, 70, 238, 184, 20, 222, 94, 11, 219, 224, 50, 58, 10, 73, 6, 36, 92, 194, 211, 172, 98, 145, 149, 228, 121, 231, 200, 55, 109, 141, 213, 78, 169, 108, 86, 244, 234, 101, 122, 174, 8, 186, 120, 37, 46, 28, 166, 180, 198, 232, 221, 116, 31, 75, 189, 139, 138, 112, 62, 181, 102, 72, 3, 246, 14, 97, 53, 87, 185, 134, 193, 29, 158, 225, 248, 152, 17, 105, 217, 142, 148, 155, 30, 135, 233, 206, 85, 40, 223, 140, 161, 137, 13, 191, 230, 66, 104, 65, 153, 45, 15, 176, 84, 187, 22]
def gunboxTab : List Nat := [82, 9, 106, 213, 48, 54, 165, 56, 191, 64, 163, 158, 129, 243, 215, 251, 124, 227, 57, 130, 155, 47, 255, 135, 52, 142, 67, 68, 196, 222, 233, 203, 84, 123, 148, 50, 166, 194, 35, 61, 238, 76, 149, 11, 66, 250, 195, 78, 8, 46, 161, 102, 40, 217, 36, 178, 118, 91, 162, 73, 109, 139, 209, 37, 114, 248, 246, 100, 134, 104, 152, 22, 212, 164, 92, 204, 93, 101, 182, 146, 108, 112, 72, 80, 253, 237, 185, 218, 94, 21, 70, 87, 167, 141, 157, 132, 144, 216, 171, 0, 140, 188, 211, 10, 247, 228, 88, 5, 184, 179, 69, 6, 208, 44, 30, 143, 202, 63, 15, 2, 193, 175, 189, 3, 1, 19, 138, 107, 58, 145, 17, 65, 79, 103, 220, 234, 151, 242, 207, 206, 240, 180, 230, 115, 150, 172, 116, 34, 231, 173, 53, 133, 226, 249, 55, 232, 28, 117, 223, 110, 71, 241, 26, 113, 29, 41, 197, 137, 111, 183, 98, 14, 170, 24, 190, 27, 252, 86, 62, 75, 198, 210, 121, 32, 154, 219, 192, 254, 120, 205, 90, 244, 31, 221, 168, 51, 136, 7, 199, 49, 177, 18, 16, 89, 39, 128, 236, 95, 96, 81, 127, 169, 25, 181, 74, 13, 45, 229, 122, 159, 147, 201, 156, 239, 160, 224, 59, 77, 174, 42, 245, 176, 200, 235, 187, 60, 131, 83, 153, 97, 23, 43, 4, 126, 186, 119, 214, 38, 225, 105, 20, 99, 85, 33, 12, 125]
theorem gbox_tab0 : ∀ a : UInt8, gtabU a ^^^ gleftU (gtabU a) 1 ^^^ gleftU (gtabU a) 2 ^^^ gleftU (gtabU a) 3 ^^^ gleftU (gtabU a) 4 ^^^ 99 = UInt8.ofNat (gboxTab.getD a.toNat 0) := all_bytes (by decide +kernel)
theorem gbox_tab (a : UInt8) : gboxU a = UInt8.ofNat (gboxTab.getD a.toNat 0) := by
  unfold gboxU
  rw [ginv_tab, gbox_tab0]
theorem gunbox_tab : ∀ a : UInt8, UInt8.ofNat (gunboxTab.getD (UInt8.ofNat (gboxTab.getD a.toNat 0)).toNat 0) = a := all_bytes (by decide +kernel)
/-- No two are put for one. -/
theorem gbox_inj {a b : UInt8} (h : gboxU a = gboxU b) : a = b := by
  rw [gbox_tab, gbox_tab] at h
  rw [← gunbox_tab a, h, gunbox_tab]

/-- A column that is mixed: each of the four, the next ones going round. -/
def gmixU (a b c d : UInt8) : UInt8 := gtwiceU a ^^^ b ^^^ gtwiceU b ^^^ c ^^^ d
theorem gx_left (a b c : UInt8) : a ^^^ (b ^^^ c) = b ^^^ (a ^^^ c) := by rw [← UInt8.xor_assoc, UInt8.xor_comm a b, UInt8.xor_assoc]
theorem gx_cancel (a b : UInt8) : a ^^^ (a ^^^ b) = b := by rw [← UInt8.xor_assoc, UInt8.xor_self, UInt8.zero_xor]
theorem gtwice_xor (x y : UInt8) : gtwiceU (x ^^^ y) = gtwiceU x ^^^ gtwiceU y := gtwice_adds x y
/-- Mixed twice. -/
theorem gmix_two (a b c d : UInt8) : gmixU (gmixU a b c d) (gmixU b c d a) (gmixU c d a b) (gmixU d a b c) = gtwiceU (gtwiceU a) ^^^ a ^^^ gtwiceU (gtwiceU c) := by
  unfold gmixU
  simp only [gtwice_xor]
  simp only [UInt8.xor_assoc, gx_left, gx_cancel, UInt8.xor_comm]
/-- .. and four times: as it was. -/
theorem gmix_four (a c : UInt8) : (fun a c => gtwiceU (gtwiceU a) ^^^ a ^^^ gtwiceU (gtwiceU c)) (gtwiceU (gtwiceU a) ^^^ a ^^^ gtwiceU (gtwiceU c)) (gtwiceU (gtwiceU c) ^^^ c ^^^ gtwiceU (gtwiceU a)) = a := by
  dsimp only
  simp only [gtwice_xor]
  simp only [UInt8.xor_assoc, gx_left, gx_cancel, UInt8.xor_comm, UInt8.xor_self, UInt8.xor_zero]

end Go.Proofs.Ytfkfkmdnffpcmaa
