import Derived.Test.YtodabjfddobkkaaFlds
import Derived.Test.YtodabjfddobkkaaWireS
import Derived.Test.YtodabjfddobkkaaRefGet
namespace Go.Proofs.Ytodabjfddobkkaa
open Go.RowKit

/-- A field at the beginning: its number, its bytes, and what is behind it. -/
def takeU (kind size : Int) (xs : List UInt8) : Option (Nat × List UInt8 × List UInt8) :=
  if kind = 0 then (numR 1 xs).map fun p => (p.1, [], p.2) else if kind = 1 then (numR size xs).map fun p => (p.1, [], p.2) else (rowR size xs).map fun p => (0, p.1, p.2)

/-- What Take ends in. -/
def TakeOut (B n : Nat) (xs : List UInt8) (u : Option (Nat × List UInt8 × List UInt8)) (w : World) (e : Ending) (w' : World) : Prop :=
  ∃ (g : Fld) (used : Nat) (ok : Bool), e = .returned (.tuple #[.agg g.cells, .int .i64 (used : Int), .bool ok]) ∧ Below w.heap.size w w' ∧ FldOK w' B g ∧
    match u with
    | none => ok = false ∧ used = 0 ∧ g = ⟨0, 0, 0, none, 0, 0, []⟩
    | some (v, bs, r) => ok = true ∧ used ≤ n ∧ xs.drop used = r ∧ g.num = v ∧ g.bs = bs

theorem i64_0 : -9223372036854775808 ≤ (0 : Int) ∧ (0 : Int) ≤ 9223372036854775807 := by decide
theorem i64_1 : -9223372036854775808 ≤ (1 : Int) ∧ (1 : Int) ≤ 9223372036854775807 := by decide
theorem i64_2 : -9223372036854775808 ≤ (2 : Int) ∧ (2 : Int) ≤ 9223372036854775807 := by decide
theorem fld_zero (w : World) (B : Nat) : FldOK w B ⟨0, 0, 0, none, 0, 0, []⟩ := ⟨by decide, by decide, by decide, .nil, Rd.nil⟩

set_option maxHeartbeats 3200000 in
theorem rtake0 (B n c : Nat) (A : Option Addr) (xs : List UInt8) (size : Int) (w : World) (hx : Rd w B A n (Byt xs)) (hn : n ≤ 300) (hB : B ≤ w.heap.size) :
    Calls Try.prog 14 #[.slice A n c, .int .i64 0, .int .i64 size] w (TakeOut B n xs (takeU 0 size xs) w) := by
  have hxl := hx.bytes
  have hbox : ∀ o : Obj, Below w.heap.size w (w.alloc o) := fun o => (Below.refl _ _).alloc (Nat.le_refl _) _
  by_cases h0 : n = 0
  · subst h0
    have hu : takeU 0 size xs = none := by unfold takeU numR; rw [if_pos rfl, if_neg (by omega)]; rfl
    rw [hu]
    clear hx hxl
    go_enter Try.func14, Try.ntmps14
    go_wp2
    refine bodyPost_ret (v := .tuple #[.agg (Fld.cells ⟨0, 0, 0, none, 0, 0, []⟩), .int .i64 0, .bool false]) (by simp [results, Try.results14, go_sem, Fld.cells]) rfl ?_
    exact ⟨_, 0, false, rfl, hbox _, fld_zero _ _, rfl, rfl, rfl⟩
  · have hx0 : 0 < xs.length := by omega
    obtain ⟨b, o, rfl, hb, hc0⟩ := hx.byte (k := 0) (by omega) hx0
    have hu : takeU 0 size xs = some (xs[0].toNat, [], xs.drop 1) := by
      unfold takeU numR
      rw [if_pos rfl, if_pos (by omega)]
      have : xs.take (1 : Int).toNat = [xs[0]] := by
        rw [show (1 : Int).toNat = 0 + 1 from rfl, List.take_succ_eq_append_getElem hx0]; rfl
      simp only [Option.map_some, this]
      simp [getL]
    rw [hu]
    have h1 : (1 : Int) ≤ (n : Int) := by omega
    obtain ⟨z, hz⟩ : ∃ z : Int, (xs[0].toNat : Int) = z := ⟨_, rfl⟩
    have hzb : 0 ≤ z ∧ z < 256 := by have := xs[0].toNat_lt; omega
    rw [hz, Nat.add_zero] at hc0
    have hc0' : ∀ obj : Obj, (w.alloc obj).cell? ⟨b, o, none⟩ = some (.int .u8 z) := fun obj => by rw [World.cell?_alloc_lt _ _ _ (by show b < _; omega)]; exact hc0
    have Hz := Lib.hid hz; clear hz
    have Hn := Lib.hid h0; clear h0 hx hu hxl
    have Hx0 := Lib.hid hx0
    go_enter Try.func14, Try.ntmps14
    go_wp2
    have hz := Hz.out
    subst hz
    refine bodyPost_ret (v := .tuple #[.agg (Fld.cells ⟨0, 0, xs[0].toNat, none, 0, 0, []⟩), .int .i64 1, .bool true]) (by simp [results, Try.results14, go_sem, Fld.cells]; rfl) rfl ?_
    exact ⟨⟨0, 0, xs[0].toNat, none, 0, 0, []⟩, 1, true, rfl, hbox _, ⟨i64_0, i64_0, Nat.lt_of_lt_of_le xs[0].toNat_lt (by decide), .nil, Rd.nil⟩, rfl, by have := Hn.out; omega, rfl, rfl, rfl⟩

set_option maxHeartbeats 3200000 in
theorem rtake1 (B n c : Nat) (A : Option Addr) (xs : List UInt8) (size : Int) (w : World) (hx : Rd w B A n (Byt xs)) (hok : SlOK A n c) (hn : n ≤ 300) (hB : B ≤ w.heap.size) :
    Calls Try.prog 14 #[.slice A n c, .int .i64 1, .int .i64 size] w (TakeOut B n xs (takeU 1 size xs) w) := by
  have hxl := hx.bytes
  have hcm := hok.le
  have hbox : ∀ o : Obj, Below w.heap.size w (w.alloc o) := fun o => (Below.refl _ _).alloc (Nat.le_refl _) _
  by_cases hc : 1 ≤ size ∧ size ≤ 8 ∧ size ≤ (xs.length : Int)
  · obtain ⟨k, rfl⟩ := Int.eq_ofNat_of_zero_le (show 0 ≤ size by omega)
    have hk : k ≤ n := by omega
    have hu : takeU 1 (k : Int) xs = some (getL (xs.take k), [], xs.drop k) := by
      unfold takeU numR
      rw [if_neg (by decide), if_pos rfl, if_pos hc, Int.toNat_natCast]; rfl
    rw [hu]
    have hlt : getL (xs.take k) < 18446744073709551616 := by
      have h1 := getL_lt (xs.take k)
      have h2 : 256 ^ (xs.take k).length ≤ 256 ^ 8 := Nat.pow_le_pow_right (by omega) (by rw [List.length_take]; omega)
      omega
    have hx2 := hx.head hk
    rw [← Byt_take] at hx2
    have hg : getV (xs.take k) = .tuple #[.int .u64 (getL (xs.take k)), .int .i64 0] := by unfold getV; rw [if_pos (by rw [List.length_take]; omega)]
    have hp := fun (o : Obj) (c : Nat) => rget_any B k c A (xs.take k) (w.alloc o) (hx2.alloc hB o) (by unfold maxLen; omega)
    rw [hg] at hp
    obtain ⟨b, o, rfl, hb, _⟩ := hx.2 (by omega)
    have i1 : ¬ (k : Int) < 1 := by omega
    have i2 : ¬ (k : Int) > 8 := by omega
    have i3 : ¬ (n : Int) < (k : Int) := by omega
    have i4 : (k : Int) ≤ (c : Int) := by omega
    have i5 : k ≤ c := by omega
    obtain ⟨v, hv⟩ : ∃ v, v = getL (xs.take k) := ⟨_, rfl⟩
    rw [← hv] at hp hlt ⊢
    have Hlt := Lib.hid hlt; clear hlt hc hu hg hx hx2 hxl hv
    go_enter Try.func14, Try.ntmps14
    go_wp2_with fail
    refine (hp _ _).mono ?_
    rintro e w1 ⟨rfl, hb1⟩
    have hcell : ∀ j, j < 4 → w1.cell? ⟨w.heap.size, j, none⟩ = (w.alloc (.cells #[.int .i64 0, .int .i64 0, .int .u64 0, .slice none 0 0] 32)).cell? ⟨w.heap.size, j, none⟩ := fun j _ => hb1.cell (by simp)
    have z0 : w1.cell? ⟨w.heap.size, 0, none⟩ = some (.int .i64 0) := (hcell 0 (by decide)).trans (by simp)
    have z1 : w1.cell? ⟨w.heap.size, 1, none⟩ = some (.int .i64 0) := (hcell 1 (by decide)).trans (by simp)
    have z2 : w1.cell? ⟨w.heap.size, 2, none⟩ = some (.int .u64 0) := (hcell 2 (by decide)).trans (by simp)
    have z3 : w1.cell? ⟨w.heap.size, 3, none⟩ = some (.slice none 0 0) := (hcell 3 (by decide)).trans (by simp)
    have zf : ∀ j, w1.frozen? ⟨w.heap.size, j, none⟩ = false := fun j => (hb1.frozen (p := ⟨w.heap.size, j, none⟩) (by simp)).trans (by simp [go_sem])
    have hb2 : Below w.heap.size w w1 := (hbox _).trans (hb1.mono (by simp))
    clear hcell
    go_wp2
    refine bodyPost_ret (v := .tuple #[.agg (Fld.cells ⟨1, (k : Int), v, none, 0, 0, []⟩), .int .i64 k, .bool true]) (by simp [results, Try.results14, go_sem, Fld.cells, z0, z1, z2, z3]) rfl ?_
    refine ⟨⟨1, (k : Int), v, none, 0, 0, []⟩, k, true, rfl, ?_, ⟨i64_1, (show -9223372036854775808 ≤ (k : Int) ∧ (k : Int) ≤ 9223372036854775807 by omega), Hlt.out, .nil, Rd.nil⟩, rfl, hk, rfl, rfl, rfl⟩
    exact (((hb2.setCell (p := ⟨w.heap.size, 0, none⟩) (Nat.le_refl _) _).setCell (p := ⟨w.heap.size, 1, none⟩) (Nat.le_refl _) _).setCell (p := ⟨w.heap.size, 2, none⟩) (Nat.le_refl _) _).setCell (p := ⟨w.heap.size, 3, none⟩) (Nat.le_refl _) _
  · have hu : takeU 1 size xs = none := by unfold takeU numR; rw [if_neg (by decide), if_pos rfl, if_neg hc]; rfl
    rw [hu]
    rcases (show size < 1 ∨ (1 ≤ size ∧ 8 < size) ∨ (1 ≤ size ∧ size ≤ 8 ∧ (n : Int) < size) by omega) with h1 | ⟨h0, h1⟩ | ⟨h0, h2, h1⟩
    all_goals
      clear hu hc hx hxl
      go_enter Try.func14, Try.ntmps14
      go_wp2
      refine bodyPost_ret (v := .tuple #[.agg (Fld.cells ⟨0, 0, 0, none, 0, 0, []⟩), .int .i64 0, .bool false]) (by simp [results, Try.results14, go_sem, Fld.cells]) rfl ?_
      exact ⟨_, 0, false, rfl, hbox _, fld_zero _ _, rfl, rfl, rfl⟩

/-- The cells of a field laid anew, behind draws. -/
theorem zero_box (w : World) (t : TypeId) (q : Nat) :
    ((w.alloc (.cells #[.int .i64 0, .int .i64 0, .int .u64 0, .slice none 0 0] t)).drewN q).cell? ⟨w.heap.size, 0, none⟩ = some (.int .i64 0) ∧ ((w.alloc (.cells #[.int .i64 0, .int .i64 0, .int .u64 0, .slice none 0 0] t)).drewN q).cell? ⟨w.heap.size, 1, none⟩ = some (.int .i64 0) ∧
    ((w.alloc (.cells #[.int .i64 0, .int .i64 0, .int .u64 0, .slice none 0 0] t)).drewN q).cell? ⟨w.heap.size, 2, none⟩ = some (.int .u64 0) ∧ ((w.alloc (.cells #[.int .i64 0, .int .i64 0, .int .u64 0, .slice none 0 0] t)).drewN q).cell? ⟨w.heap.size, 3, none⟩ = some (.slice none 0 0) := by
  refine ⟨?_, ?_, ?_, ?_⟩ <;> (show (w.alloc _).cell? _ = _; simp)
theorem below_set4 {w w1 : World} {b : Nat} (h : Below w.heap.size w w1) (hb : w.heap.size ≤ b) (x0 x1 x2 x3 : Value) : Below w.heap.size w ((((w1.setCell ⟨b, 0, none⟩ x0).setCell ⟨b, 1, none⟩ x1).setCell ⟨b, 2, none⟩ x2).setCell ⟨b, 3, none⟩ x3) :=
  (((h.setCell (p := ⟨b, 0, none⟩) hb _).setCell (p := ⟨b, 1, none⟩) hb _).setCell (p := ⟨b, 2, none⟩) hb _).setCell (p := ⟨b, 3, none⟩) hb _

theorem getL_two {xs : List UInt8} (h : 2 ≤ xs.length) : getL (xs.take 2) = (xs[0]'(by omega)).toNat * 256 + (xs[1]'(by omega)).toNat := by
  match xs, h with
  | a :: b :: r, _ => simp [getL]

set_option maxHeartbeats 6400000 in
theorem rtake2 (B n c : Nat) (A : Option Addr) (xs : List UInt8) (size : Int) (w : World) (hx : Rd w B A n (Byt xs)) (hok : SlOK A n c) (hn : n ≤ 300) (hB : B ≤ w.heap.size) :
    Calls Try.prog 14 #[.slice A n c, .int .i64 2, .int .i64 size] w (TakeOut B n xs (takeU 2 size xs) w) := by
  have hxl := hx.bytes
  have hcm := hok.le
  have hbox : ∀ o : Obj, Below w.heap.size w (w.alloc o) := fun o => (Below.refl _ _).alloc (Nat.le_refl _) _
  have htk : takeU 2 size xs = (rowR size xs).map fun p => (0, p.1, p.2) := by unfold takeU; rw [if_neg (by decide), if_neg (by decide)]
  rw [htk]
  by_cases h2 : n < 2
  · have hu : rowR size xs = none := by unfold rowR numR; rw [if_neg (by omega)]
    rw [hu, Option.map_none]
    have hi : (n : Int) < 2 := by omega
    clear hu htk hx hxl
    go_enter Try.func14, Try.ntmps14
    go_wp2
    refine bodyPost_ret (v := .tuple #[.agg (Fld.cells ⟨0, 0, 0, none, 0, 0, []⟩), .int .i64 0, .bool false]) (by simp [results, Try.results14, go_sem, Fld.cells]) rfl ?_
    exact ⟨_, 0, false, rfl, hbox _, fld_zero _ _, rfl, rfl, rfl⟩
  · have x0 : 0 < xs.length := by omega
    have x1 : 1 < xs.length := by omega
    obtain ⟨b, o, rfl, hb, hc0⟩ := hx.byte (k := 0) (by omega) x0
    obtain ⟨b', o', e', _, hc1⟩ := hx.byte (k := 1) (by omega) x1
    injection e' with e'
    injection e' with e1 e2
    subst e1 e2
    rw [Nat.add_zero] at hc0
    obtain ⟨v, hv⟩ : ∃ v, v = xs[0].toNat * 256 + xs[1].toNat := ⟨_, rfl⟩
    have hnum : numR 2 xs = some (v, xs.drop 2) := by
      unfold numR
      rw [if_pos (by omega), hv, ← getL_two (by omega)]; rfl
    have hrow : rowR size xs = if size < (v : Int) then none else if (xs.drop 2).length < v then none else some ((xs.drop 2).take v, (xs.drop 2).drop v) := by unfold rowR; rw [hnum]
    rw [hrow]
    have hdl : (xs.drop 2).length = n - 2 := by rw [List.length_drop, hxl]
    rw [hdl]
    obtain ⟨q0, hq0⟩ : ∃ z : Int, (xs[0].toNat : Int) = z := ⟨_, rfl⟩
    obtain ⟨q1, hq1⟩ : ∃ z : Int, (xs[1].toNat : Int) = z := ⟨_, rfl⟩
    have hq0b : 0 ≤ q0 ∧ q0 < 256 := by have := xs[0].toNat_lt; omega
    have hq1b : 0 ≤ q1 ∧ q1 < 256 := by have := xs[1].toNat_lt; omega
    have hvq : q0 * 256 + q1 = (v : Int) := by omega
    rw [hq0] at hc0
    rw [hq1] at hc1
    have d0 : ∀ obj : Obj, (w.alloc obj).cell? ⟨b, o, none⟩ = some (.int .u8 q0) := fun obj => by rw [World.cell?_alloc_lt _ _ _ (by show b < _; omega)]; exact hc0
    have d1 : ∀ obj : Obj, (w.alloc obj).cell? ⟨b, o + 1, none⟩ = some (.int .u8 q1) := fun obj => by rw [World.cell?_alloc_lt _ _ _ (by show b < _; omega)]; exact hc1
    have hi : ¬ (n : Int) < 2 := by omega
    have hi2 : (1 : Int) < (n : Int) := by omega
    have hi3 : (0 : Int) < (n : Int) := by omega
    have hvb : (v : Int) < 65536 := by omega
    have Hx := Lib.hid hx; clear hx
    have Hxl := Lib.hid hxl
    clear htk hnum hrow hdl hxl hv hc0 hc1 hq0 hq1 x0 x1
    by_cases hbig : (n : Int) - 2 < (v : Int)
    · have hr : (if size < (v : Int) then none else if n - 2 < v then none else some ((xs.drop 2).take v, (xs.drop 2).drop v)) = none := by
        split
        · rfl
        · rw [if_pos (by omega)]
      rw [hr, Option.map_none]
      clear hr
      go_enter Try.func14, Try.ntmps14
      go_wp2
      go_quiet (fail)
      obtain ⟨z0, z1, z2, z3⟩ := zero_box w 32 nq
      have hbq : Below w.heap.size w ((w.alloc (.cells #[.int .i64 0, .int .i64 0, .int .u64 0, .slice none 0 0] 32)).drewN nq) := bdrewN (hbox _) nq
      go_wp2
      refine bodyPost_ret (v := .tuple #[.agg (Fld.cells ⟨0, 0, 0, none, 0, 0, []⟩), .int .i64 0, .bool false]) (by simp [results, Try.results14, go_sem, Fld.cells, z0, z1, z2, z3]) rfl ?_
      exact ⟨_, 0, false, rfl, below_set4 hbq (Nat.le_refl _) _ _ _ _, fld_zero _ _, rfl, rfl, rfl⟩
    · by_cases hmost : (v : Int) > size
      · rw [if_pos hmost, Option.map_none]
        go_enter Try.func14, Try.ntmps14
        go_wp2
        go_quiet (fail)
        obtain ⟨z0, z1, z2, z3⟩ := zero_box w 32 nq
        have hbq : Below w.heap.size w ((w.alloc (.cells #[.int .i64 0, .int .i64 0, .int .u64 0, .slice none 0 0] 32)).drewN nq) := bdrewN (hbox _) nq
        go_wp2
        refine bodyPost_ret (v := .tuple #[.agg (Fld.cells ⟨0, 0, 0, none, 0, 0, []⟩), .int .i64 0, .bool false]) (by simp [results, Try.results14, go_sem, Fld.cells, z0, z1, z2, z3]) rfl ?_
        exact ⟨_, 0, false, rfl, below_set4 hbq (Nat.le_refl _) _ _ _ _, fld_zero _ _, rfl, rfl, rfl⟩
      · have hn2 : ¬ n - 2 < v := by omega
        rw [if_neg hmost, if_neg hn2, Option.map_some]
        have hv2 : 2 + v ≤ n := by omega
        have hbl : ((xs.drop 2).take v).length = v := by rw [List.length_take, List.length_drop, Hxl.out]; omega
        have hdd : (xs.drop 2).drop v = xs.drop (2 + v) := by rw [List.drop_drop]
        have hmid : Rd w B (some ⟨b, o + 2, none⟩) v (Byt ((xs.drop 2).take v)) := by
          have h1 := (Hx.out.tail (k := 2) (by omega)).head (m := v) (by omega)
          rwa [← Byt_drop, ← Byt_take] at h1
        have hmid0 : c = 2 → Rd w B (some ⟨b, o, none⟩) v (Byt ((xs.drop 2).take v)) := fun e => ⟨by rw [Byt_length, hbl], fun h0 => by omega⟩
        obtain ⟨z, hz⟩ : ∃ z : Int, z = (v : Int) := ⟨_, rfl⟩
        rw [← hz] at hvq hbig hmost
        have hzb : 0 ≤ z ∧ z < 300 := by omega
        have j1 : (2 : Int) ≤ 2 + z := by omega
        have j2 : 2 + z ≤ (c : Int) := by omega
        have j3 : (2 + z).toNat = 2 + v := by omega
        have Hz := Lib.hid hz; clear hvb hz
        have j4 : 2 + v ≤ c := by omega
        have j5 : 2 + v - 2 = v := by omega
        have Hmid := Lib.hid hmid; clear hmid
        have Hmid0 := Lib.hid hmid0; clear hmid0
        have Hdd := Lib.hid hdd; clear hdd hbl
        by_cases hc2 : c = 2
        · obtain rfl : v = 0 := by omega
          subst hc2
          go_enter Try.func14, Try.ntmps14
          go_wp2
          go_quiet (fail)
          obtain ⟨z0, z1, z2, z3⟩ := zero_box w 32 nq
          have hbq : Below w.heap.size w ((w.alloc (.cells #[.int .i64 0, .int .i64 0, .int .u64 0, .slice none 0 0] 32)).drewN nq) := bdrewN (hbox _) nq
          go_wp2
          have hb4 := below_set4 hbq (Nat.le_refl _) (.int .i64 2) (.int .i64 0) (.int .u64 0) (.slice (some ⟨b, o, none⟩) 0 0)
          refine bodyPost_ret (v := .tuple #[.agg (Fld.cells ⟨2, 0, 0, some ⟨b, o, none⟩, 0, 0, (xs.drop 2).take 0⟩), .int .i64 (2 + z), .bool true]) (by simp [results, Try.results14, go_sem, Fld.cells, z0, z1, z2, z3]) rfl ?_
          refine ⟨⟨2, 0, 0, some ⟨b, o, none⟩, 0, 0, (xs.drop 2).take 0⟩, 2 + 0, true, ?_, hb4, ⟨i64_2, i64_0, (show 0 < 18446744073709551616 by decide), .inr ⟨_, rfl, (Nat.le_refl 0), Nat.zero_le _⟩, (Hmid0.out (by trivial)).keep fun _ hp => hb4.cell (by omega)⟩, rfl, hv2, Hdd.out.symm, rfl, rfl⟩
          rw [show 2 + z = ((2 + 0 : Nat) : Int) by have := Hz.out; omega]
        · go_enter Try.func14, Try.ntmps14
          go_wp2
          go_quiet (fail)
          obtain ⟨z0, z1, z2, z3⟩ := zero_box w 32 nq
          have hbq : Below w.heap.size w ((w.alloc (.cells #[.int .i64 0, .int .i64 0, .int .u64 0, .slice none 0 0] 32)).drewN nq) := bdrewN (hbox _) nq
          go_wp2
          have hb4 := below_set4 hbq (Nat.le_refl _) (.int .i64 2) (.int .i64 0) (.int .u64 0) (.slice (some ⟨b, o + 2, none⟩) v (c - 2))
          refine bodyPost_ret (v := .tuple #[.agg (Fld.cells ⟨2, 0, 0, some ⟨b, o + 2, none⟩, v, (c - 2), (xs.drop 2).take v⟩), .int .i64 (2 + z), .bool true]) (by simp [results, Try.results14, go_sem, Fld.cells, z0, z1, z2, z3]) rfl ?_
          refine ⟨⟨2, 0, 0, some ⟨b, o + 2, none⟩, v, (c - 2), (xs.drop 2).take v⟩, 2 + v, true, ?_, hb4, ⟨i64_2, i64_0, (show 0 < 18446744073709551616 by decide), .inr ⟨_, rfl, (show v ≤ (c - 2) by omega), (show (c - 2) ≤ maxLen by omega)⟩, Hmid.out.keep fun _ hp => hb4.cell (by omega)⟩, rfl, hv2, Hdd.out.symm, rfl, rfl⟩
          rw [show 2 + z = ((2 + v : Nat) : Int) by have := Hz.out; omega]

/-- Take, of each kind. -/
theorem rtake_any (B n c : Nat) (A : Option Addr) (xs : List UInt8) (kind size : Int) (hk : 0 ≤ kind ∧ kind ≤ 2) (w : World) (hx : Rd w B A n (Byt xs)) (hok : SlOK A n c) (hn : n ≤ 300) (hB : B ≤ w.heap.size) :
    Calls Try.prog 14 #[.slice A n c, .int .i64 kind, .int .i64 size] w (TakeOut B n xs (takeU kind size xs) w) := by
  rcases (show kind = 0 ∨ kind = 1 ∨ kind = 2 by omega) with rfl | rfl | rfl
  · exact rtake0 B n c A xs size w hx hn hB
  · exact rtake1 B n c A xs size w hx hok hn hB
  · exact rtake2 B n c A xs size w hx hok hn hB

end Go.Proofs.Ytodabjfddobkkaa
