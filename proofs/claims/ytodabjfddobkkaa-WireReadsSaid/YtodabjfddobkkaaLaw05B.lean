import Derived.Test.YtodabjfddobkkaaLaw05R
import Derived.Test.YtodabjfddobkkaaLaw05W
import Derived.Test.YtodabjfddobkkaaRefTake
import Derived.Test.YtodabjfddobkkaaWireRead
import Derived.Test.YtodabjfddobkkaaWireEnd
import Derived.Test.YtodabjfddobkkaaLaw05A
import Derived.Deep.CutRange
import Derived.Deep.RegionHeld
namespace Go.Proofs.Ytodabjfddobkkaa
open Go.RowKit

/-- What is asked is what comes: the field that is taken of whole bytes, and the reader's. -/
theorem take_read (kind size : Int) (xs : List UInt8) (hk : 0 ≤ kind ∧ kind ≤ 2) :
    match takeU kind size xs with
    | none => readU kind size ⟨xs, true⟩ = (0, [], ⟨[], false⟩)
    | some (v, bs, r) => readU kind size ⟨xs, true⟩ = (v, bs, ⟨r, true⟩) := by
  rcases (show kind = 0 ∨ kind = 1 ∨ kind = 2 by omega) with rfl | rfl | rfl
  · unfold takeU readU numStep
    rw [if_pos rfl, if_pos rfl, if_pos rfl]
    cases numR 1 xs <;> rfl
  · unfold takeU readU numStep
    rw [if_neg (by decide), if_pos rfl, if_neg (by decide), if_pos rfl, if_pos rfl]
    cases numR size xs <;> rfl
  · unfold takeU readU rowStep
    rw [if_neg (by decide), if_neg (by decide), if_neg (by decide), if_neg (by decide), if_pos rfl]
    cases rowR size xs <;> rfl
theorem read_faulty (kind size : Int) (hk : 0 ≤ kind ∧ kind ≤ 2) : readU kind size ⟨[], false⟩ = (0, [], ⟨[], false⟩) := by
  rcases (show kind = 0 ∨ kind = 1 ∨ kind = 2 by omega) with rfl | rfl | rfl <;> rfl

/-- What stands ahead of a round's reading: the want in block wb, the rest of the bytes, the reader still as it was. -/
def Ahead (w : World) (B br : Nat) (kind size : Int) (s : RS) (wb : Nat) (bv wv : Value) (wx : World) : Prop :=
  ∃ (g : Fld) (xs1 : List UInt8) (whole1 : Bool) (A1 : Option Addr) (n1 c1 : Nat), bv = .slice A1 n1 c1 ∧ wv = .bool whole1 ∧ n1 ≤ 300 ∧ Rd wx B A1 n1 (Byt xs1) ∧ SlOK A1 n1 c1 ∧ (whole1 = false → n1 = 0) ∧
    (readU kind size s).2.2 = ⟨xs1, whole1⟩ ∧ (kind ≤ 1 → (readU kind size s).1 = g.num) ∧ (kind = 2 → (readU kind size s).2.1 = g.bs) ∧ FldOK wx B g ∧
    wx.cell? ⟨wb, 0, none⟩ = some (.int .i64 g.kind) ∧ wx.cell? ⟨wb, 1, none⟩ = some (.int .i64 g.size) ∧ wx.cell? ⟨wb, 2, none⟩ = some (.int .u64 (g.num : Int)) ∧ wx.cell? ⟨wb, 3, none⟩ = some (.slice g.A g.m g.c) ∧
    RdrS wx br s ∧ Below w.heap.size w wx

/-- A field laid anew is kept by what leaves old memory. -/
theorem zero_kept0 {w w3 : World} {t : TypeId} {b : Nat} (hbk : b = w.heap.size) (h : Below (w.alloc (.cells #[.int .i64 0, .int .i64 0, .int .u64 0, .slice none 0 0] t)).heap.size (w.alloc (.cells #[.int .i64 0, .int .i64 0, .int .u64 0, .slice none 0 0] t)) w3) :
    (w3.cell? ⟨b, 0, none⟩ = some (.int .i64 0) ∧ w3.cell? ⟨b, 1, none⟩ = some (.int .i64 0) ∧ w3.cell? ⟨b, 2, none⟩ = some (.int .u64 0) ∧ w3.cell? ⟨b, 3, none⟩ = some (.slice none 0 0)) ∧
    (w3.frozen? ⟨b, 0, none⟩ = false ∧ w3.frozen? ⟨b, 1, none⟩ = false ∧ w3.frozen? ⟨b, 2, none⟩ = false ∧ w3.frozen? ⟨b, 3, none⟩ = false) := by
  subst hbk
  refine ⟨⟨?_, ?_, ?_, ?_⟩, ?_, ?_, ?_, ?_⟩
  · exact (h.cell (p := ⟨w.heap.size, 0, none⟩) (by simp)).trans (by simp)
  · exact (h.cell (p := ⟨w.heap.size, 1, none⟩) (by simp)).trans (by simp)
  · exact (h.cell (p := ⟨w.heap.size, 2, none⟩) (by simp)).trans (by simp)
  · exact (h.cell (p := ⟨w.heap.size, 3, none⟩) (by simp)).trans (by simp)
  · exact (h.frozen (p := ⟨w.heap.size, 0, none⟩) (by simp)).trans (by simp [go_sem])
  · exact (h.frozen (p := ⟨w.heap.size, 1, none⟩) (by simp)).trans (by simp [go_sem])
  · exact (h.frozen (p := ⟨w.heap.size, 2, none⟩) (by simp)).trans (by simp [go_sem])
  · exact (h.frozen (p := ⟨w.heap.size, 3, none⟩) (by simp)).trans (by simp [go_sem])
theorem zero_kept {w w3 : World} {t : TypeId} {b : Nat} (hbk : b = w.heap.size) (h0 : Below (w.alloc (.cells #[.int .i64 0, .int .i64 0, .int .u64 0, .slice none 0 0] t)).drew.heap.size (w.alloc (.cells #[.int .i64 0, .int .i64 0, .int .u64 0, .slice none 0 0] t)).drew w3) :
    (w3.cell? ⟨b, 0, none⟩ = some (.int .i64 0) ∧ w3.cell? ⟨b, 1, none⟩ = some (.int .i64 0) ∧ w3.cell? ⟨b, 2, none⟩ = some (.int .u64 0) ∧ w3.cell? ⟨b, 3, none⟩ = some (.slice none 0 0)) ∧
    (w3.frozen? ⟨b, 0, none⟩ = false ∧ w3.frozen? ⟨b, 1, none⟩ = false ∧ w3.frozen? ⟨b, 2, none⟩ = false ∧ w3.frozen? ⟨b, 3, none⟩ = false) :=
  zero_kept0 hbk ⟨h0.os, h0.tape, h0.output, h0.size, h0.block⟩

/-- The want is laid: all stands ahead of the reading. -/
theorem ahead_of {w wr wc : World} {B br : Nat} {kind size : Int} {s : RS} {g : Fld} {xs1 : List UInt8} {whole1 : Bool} {A1 : Option Addr} {n1 c1 : Nat} (hbw : Below w.heap.size w wr) (hB : B ≤ w.heap.size) (hbc : Below wr.heap.size wr wc) (hrs : RdrS wr br s) (hg : FldOK wc B g)
    (hr : Rd wr B A1 n1 (Byt xs1)) (hok : SlOK A1 n1 c1) (h300 : n1 ≤ 300) (hw0 : whole1 = false → n1 = 0) (hst : readU kind size s = (g.num, g.bs, ⟨xs1, whole1⟩))
    (q : wc.cell? ⟨wr.heap.size, 0, none⟩ = some (.int .i64 0) ∧ wc.cell? ⟨wr.heap.size, 1, none⟩ = some (.int .i64 0) ∧ wc.cell? ⟨wr.heap.size, 2, none⟩ = some (.int .u64 0) ∧ wc.cell? ⟨wr.heap.size, 3, none⟩ = some (.slice none 0 0)) :
    Ahead w B br kind size s wr.heap.size (.slice A1 n1 c1) (.bool whole1) ((((wc.setCell ⟨wr.heap.size, 0, none⟩ (.int .i64 g.kind)).setCell ⟨wr.heap.size, 1, none⟩ (.int .i64 g.size)).setCell ⟨wr.heap.size, 2, none⟩ (.int .u64 (g.num : Int))).setCell ⟨wr.heap.size, 3, none⟩ (.slice g.A g.m g.c)) := by
  obtain ⟨q0, q1, q2, q3⟩ := q
  have hb4 : Below wr.heap.size wr ((((wc.setCell ⟨wr.heap.size, 0, none⟩ (.int .i64 g.kind)).setCell ⟨wr.heap.size, 1, none⟩ (.int .i64 g.size)).setCell ⟨wr.heap.size, 2, none⟩ (.int .u64 (g.num : Int))).setCell ⟨wr.heap.size, 3, none⟩ (.slice g.A g.m g.c)) := below_set4 hbc (Nat.le_refl _) _ _ _ _
  have hsz := hbw.size
  refine ⟨g, xs1, whole1, A1, n1, c1, rfl, rfl, h300, hr.keep fun p hp => hb4.cell (by omega), hok, hw0, by rw [hst], fun _ => by rw [hst], fun _ => by rw [hst], hg.keep fun p hp => ?_, ?_, ?_, ?_, ?_, hrs.below hb4, hbw.trans (hb4.mono hsz)⟩
  · rw [hb4.cell (by omega), hbc.cell (by omega)]
  · simp [go_sem, q0]
  · simp [go_sem, q1]
  · simp [go_sem, q2]
  · simp [go_sem, q3]
/-- Behind a fault the want is nothing. -/
theorem ahead_none {w wr : World} {B br : Nat} {kind size : Int} {ys : List UInt8} {A1 : Option Addr} {n1 c1 : Nat} (t : TypeId) (hk : 0 ≤ kind ∧ kind ≤ 2) (hbw : Below w.heap.size w wr) (hB : B ≤ w.heap.size) (hrs : RdrS wr br ⟨ys, false⟩)
    (hr : Rd wr B A1 n1 (Byt ys)) (hok : SlOK A1 n1 c1) (h0 : n1 = 0) :
    Ahead w B br kind size ⟨ys, false⟩ wr.heap.size (.slice A1 n1 c1) (.bool false) (wr.alloc (.cells #[.int .i64 0, .int .i64 0, .int .u64 0, .slice none 0 0] t)) := by
  have hb : Below wr.heap.size wr (wr.alloc (.cells #[.int .i64 0, .int .i64 0, .int .u64 0, .slice none 0 0] t)) := (Below.refl _ _).alloc (Nat.le_refl _) _
  have hy : ys = [] := List.eq_nil_of_length_eq_zero (by have := hr.bytes; omega)
  subst hy
  have hsz := hbw.size
  have hst := read_faulty kind size hk
  exact ⟨⟨0, 0, 0, none, 0, 0, []⟩, [], false, A1, n1, c1, rfl, rfl, by omega, hr.keep fun p hp => hb.cell (by omega), hok, fun _ => h0, by rw [hst], fun _ => by rw [hst], fun _ => by rw [hst], fld_zero _ _, by simp, by simp, by simp, by simp, hrs.below hb, hbw.trans (hb.mono hsz)⟩

/-- What stands behind the statement that takes: the field in a block of its own, how much was used, whether there was one. -/
def Mid (W1 : World) (B n' : Nat) (ys : List UInt8) (u : Option (Nat × List UInt8 × List UInt8)) (s11 s12 s13 : Value) (wx : World) : Prop :=
  ∃ (g : Fld) (used : Nat) (ok : Bool) (fb : Nat), s11 = .pointer (some ⟨fb, 0, none⟩) ∧ s12 = .int .i64 (used : Int) ∧ s13 = .bool ok ∧ W1.heap.size ≤ fb ∧
    (wx.cell? ⟨fb, 0, none⟩ = some (.int .i64 g.kind) ∧ wx.cell? ⟨fb, 1, none⟩ = some (.int .i64 g.size) ∧ wx.cell? ⟨fb, 2, none⟩ = some (.int .u64 (g.num : Int)) ∧ wx.cell? ⟨fb, 3, none⟩ = some (.slice g.A g.m g.c)) ∧ FldOK wx B g ∧ Below W1.heap.size W1 wx ∧
    match u with
    | none => ok = false ∧ used = 0 ∧ g = ⟨0, 0, 0, none, 0, 0, []⟩
    | some (v, bs, r) => ok = true ∧ used ≤ n' ∧ ys.drop used = r ∧ g.num = v ∧ g.bs = bs

theorem mid_A {W1 w3 : World} {B n' : Nat} {ys : List UInt8} {u : Option (Nat × List UInt8 × List UInt8)} {g : Fld} {used : Nat} {ok : Bool} (t : TypeId) (hB : B ≤ W1.heap.size) (h3 : Below W1.drew.heap.size W1.drew w3) (hg : FldOK w3 B g)
    (hu : match u with
    | none => ok = false ∧ used = 0 ∧ g = ⟨0, 0, 0, none, 0, 0, []⟩
    | some (v, bs, r) => ok = true ∧ used ≤ n' ∧ ys.drop used = r ∧ g.num = v ∧ g.bs = bs) :
    Mid W1 B n' ys u (.pointer (some ⟨w3.heap.size, 0, none⟩)) (.int .i64 (used : Int)) (.bool ok) (w3.alloc (.cells #[.int .i64 g.kind, .int .i64 g.size, .int .u64 (g.num : Int), .slice g.A g.m g.c] t)) := by
  have hb : Below W1.heap.size W1 w3 := ⟨h3.os, h3.tape, h3.output, h3.size, h3.block⟩
  exact ⟨g, used, ok, w3.heap.size, rfl, rfl, rfl, hb.size, ⟨by simp, by simp, by simp, by simp⟩, hg.keep (fun p hp => World.cell?_alloc_lt _ _ _ (by have := hb.size; omega)), hb.alloc hb.size _, hu⟩
theorem mid_B {W1 w3 : World} {B n' : Nat} {ys : List UInt8} {u : Option (Nat × List UInt8 × List UInt8)} {g : Fld} {used : Nat} {ok : Bool} {O2 : Obj} {b : Nat} (hbk : b = W1.heap.size) (hB : B ≤ W1.heap.size) (h3 : Below (W1.alloc O2).drew.heap.size (W1.alloc O2).drew w3) (hg : FldOK w3 B g)
    (q : w3.cell? ⟨b, 0, none⟩ = some (.int .i64 0) ∧ w3.cell? ⟨b, 1, none⟩ = some (.int .i64 0) ∧ w3.cell? ⟨b, 2, none⟩ = some (.int .u64 0) ∧ w3.cell? ⟨b, 3, none⟩ = some (.slice none 0 0))
    (hu : match u with
    | none => ok = false ∧ used = 0 ∧ g = ⟨0, 0, 0, none, 0, 0, []⟩
    | some (v, bs, r) => ok = true ∧ used ≤ n' ∧ ys.drop used = r ∧ g.num = v ∧ g.bs = bs) :
    Mid W1 B n' ys u (.pointer (some ⟨b, 0, none⟩)) (.int .i64 (used : Int)) (.bool ok) ((((w3.setCell ⟨b, 0, none⟩ (.int .i64 g.kind)).setCell ⟨b, 1, none⟩ (.int .i64 g.size)).setCell ⟨b, 2, none⟩ (.int .u64 (g.num : Int))).setCell ⟨b, 3, none⟩ (.slice g.A g.m g.c)) := by
  have hb : Below W1.heap.size W1 w3 := ((Below.refl W1.heap.size W1).alloc (Nat.le_refl _) O2).trans ((show Below (W1.alloc O2).heap.size (W1.alloc O2) w3 from ⟨h3.os, h3.tape, h3.output, h3.size, h3.block⟩).mono (by simp))
  subst hbk
  obtain ⟨q0, q1, q2, q3⟩ := q
  have hb4 : Below W1.heap.size W1 ((((w3.setCell ⟨W1.heap.size, 0, none⟩ (.int .i64 g.kind)).setCell ⟨W1.heap.size, 1, none⟩ (.int .i64 g.size)).setCell ⟨W1.heap.size, 2, none⟩ (.int .u64 (g.num : Int))).setCell ⟨W1.heap.size, 3, none⟩ (.slice g.A g.m g.c)) := below_set4 hb (Nat.le_refl _) _ _ _ _
  refine ⟨g, used, ok, W1.heap.size, rfl, rfl, rfl, Nat.le_refl _, ⟨?_, ?_, ?_, ?_⟩, hg.keep (fun p hp => ?_), hb4, hu⟩
  · simp [go_sem, q0]
  · simp [go_sem, q1]
  · simp [go_sem, q2]
  · simp [go_sem, q3]
  · rw [hb4.cell (by omega), hb.cell (by omega)]

set_option maxRecDepth 100000 in
set_option maxHeartbeats 12800000 in
theorem wireReads_any (B n c m d : Nat) (A C : Option Addr) (xs : List UInt8) (fs : List Fld) (text : Bool) (w : World) (hx : Rd w B A n (Byt xs)) (hxo : SlOK A n c) (h : Flds w B C m fs) (hB : B ≤ w.heap.size) (hm : m ≤ maxLen) :
    Calls Try.prog 4 #[.slice A n c, .slice C m d, .bool text] w (Ans w (.bool true)) := by
  have hlt := light_any B m d C fs w h hm
  have ha : ∀ w', Calls Try.prog 7 #[] w' (Ans w' (.bool true)) := alive5_any
  by_cases hl : lightU fs = true
  · rw [hl] at hlt
    by_cases h300 : n ≤ 300
    · have hi300 : ¬ (n : Int) > 300 := by omega
      have hfl := h.1
      have HL := Lib.hid hl; clear hl
      have Hfl := Lib.hid hfl; clear hfl
      go_enter Try.func4, Try.ntmps4
      go_wp2_with fail
      refine hlt.mono ?_
      rintro e w1 ⟨rfl, hb1⟩
      have hx1 := hx.keep (w' := w1) fun _ hp => hb1.cell (by omega)
      have hrd := wread_any B n c A xs w1 hx1 hxo (by have := hb1.size; omega) (by omega)
      go_wp2_with fail
      refine hrd.mono ?_
      rintro e w2 ⟨br, rfl, hbr, hs2, hb2⟩
      have hb2' := bon hb1 hb2
      have hlo : w.heap.size ≤ br := by have := hb1.size; omega
      have hx2 := hx1.keep (w' := w2) fun _ hp => hb2.cell (by have := hb1.size; omega)
      clear hx hx1 hrd
      go_wp2
      go_loopw [0, 8, 9] (fun bv wv iv wr => ∃ (k n' c' : Nat) (A' : Option Addr) (ys : List UInt8) (whole : Bool), k ≤ m ∧ iv = .int .i64 k ∧ bv = .slice A' n' c' ∧ wv = .bool whole ∧ n' ≤ 300 ∧ Rd wr B A' n' (Byt ys) ∧ SlOK A' n' c' ∧ (whole = false → n' = 0) ∧
        RdrS wr br ⟨ys, whole⟩ ∧ Below w.heap.size w wr) (fun _ _ iv _ => m - (intOf iv).toNat)
      case atStart => exact ⟨0, n, c, A, xs, true, Nat.zero_le _, rfl, rfl, rfl, h300, hx2, hxo, (fun e => by cases e), hs2, hb2'⟩
      case round =>
        obtain ⟨k, n', c', A', ys, whole, hk, rfl, rfl, rfl, hn', hry, hyo, hw0, hrs, hbw⟩ := hrel
        by_cases hkm : k < m
        · have hkf : k < fs.length := by rw [Hfl.out]; exact hkm
          have HKM := Lib.hid hkm
          have h2 := h.keep (w' := wr) fun _ hp => hbw.cell (by omega)
          obtain ⟨b, o, rfl, hb, c0, c1, c2, c3⟩ := h2.at_ hkf
          have hlf := (light_yes HL.out).2 _ (List.getElem_mem hkf)
          have hfk := (h2.get hkf)
          obtain ⟨f, hf⟩ : ∃ f, f = fs[k] := ⟨_, rfl⟩
          rw [← hf] at c0 c1 c2 c3 hlf hfk
          have hk02 : 0 ≤ f.kind ∧ f.kind ≤ 2 := by
            simp only [lightF, Bool.and_eq_true, decide_eq_true_eq] at hlf
            exact hlf.1
          have hszr := hbw.size
          clear hf hlf h2
          have hbA : Below wr.heap.size wr (wr.alloc (.cells #[.int .i64 0, .int .i64 0, .int .u64 0, .slice none 0 0] 32)) := (Below.refl _ _).alloc (Nat.le_refl _) _
          have hT : ∀ W, Below wr.heap.size wr W → Calls Try.prog 14 #[.slice A' n' c', .int .i64 f.kind, .int .i64 f.size] W (TakeOut B n' ys (takeU f.kind f.size ys) W) := fun W hW =>
            rtake_any B n' c' A' ys f.kind f.size hk02 W (hry.keep fun _ hp => hW.cell (by omega)) hyo hn' (by have := hW.size; omega)
          have Hn' := Lib.hid hn'; clear hn'
          clear hi300 h300
          have Hm := Lib.hid hm; clear hm
          go_upto_if 33 with fail
          go_cut [0, 8] from 27 to 94 (fun bv wv wx => Ahead w B br f.kind f.size ⟨ys, whole⟩ wr.heap.size bv wv wx)
          case first =>
            cases whole
            · obtain rfl : n' = 0 := hw0 rfl
              have hah := ahead_none (kind := f.kind) (size := f.size) 32 hk02 hbw hB hrs hry hyo rfl
              have Hah := Lib.hid hah; clear hah hrs hry
              go_wp2_with fail
              go_meet
              case rel => exact Hah.out
            · go_upto_region 12 with fail
              go_cut [11, 12, 13] from 27 to 94 (fun s11 s12 s13 wx => Mid (wr.alloc (.cells #[.int .i64 0, .int .i64 0, .int .u64 0, .slice none 0 0] 32)) B n' ys (takeU f.kind f.size ys) s11 s12 s13 wx)
              case first =>
                have hbB : Below wr.heap.size wr (((wr.alloc (.cells #[.int .i64 0, .int .i64 0, .int .u64 0, .slice none 0 0] 32)).alloc (.cells #[.int .i64 0, .int .i64 0, .int .u64 0, .slice none 0 0] 32)).drew) := (hbA.alloc (by simp) _).drew
                have hT1 := hT _ hbA.drew
                have hT2 := hT _ hbB
                have e0 : ∀ O : Obj, (wr.alloc O).cell? ⟨b, o + k * 4, none⟩ = some (.int .i64 f.kind) := fun O => by rw [World.cell?_alloc_lt _ _ _ (by show b < _; omega)]; exact c0
                have e1 : ∀ O : Obj, (wr.alloc O).cell? ⟨b, o + k * 4 + 1, none⟩ = some (.int .i64 f.size) := fun O => by rw [World.cell?_alloc_lt _ _ _ (by show b < _; omega)]; exact c1
                have e2 : ∀ O O' : Obj, ((wr.alloc O).alloc O').cell? ⟨b, o + k * 4, none⟩ = some (.int .i64 f.kind) := fun O O' => by rw [World.cell?_alloc_lt _ _ _ (by show b < _; simp; omega)]; exact e0 O
                have e3 : ∀ O O' : Obj, ((wr.alloc O).alloc O').cell? ⟨b, o + k * 4 + 1, none⟩ = some (.int .i64 f.size) := fun O O' => by rw [World.cell?_alloc_lt _ _ _ (by show b < _; simp; omega)]; exact e1 O
                have HT := Lib.hid hT
                clear hT hry hrs ha h hbB hbA
                go_region_with (first | (refine hT1.mono ?_; rintro e w3 ⟨⟨gk, gs, gn, gA, gm, gc, gb⟩, used, ok, rfl, hb3, hg3, hu3⟩; dsimp only [Fld.cells]) | (refine hT2.mono ?_; rintro e w3 ⟨⟨gk, gs, gn, gA, gm, gc, gb⟩, used, ok, rfl, hb3, hg3, hu3⟩; dsimp only [Fld.cells]; obtain ⟨⟨q0, q1, q2, q3⟩, p0, p1, p2, p3⟩ := zero_kept (b := wr.heap.size + 1) (by simp) hb3))
                all_goals
                  go_wp2_with fail
                  go_meet
                  case rel => first
                    | exact mid_A (g := ⟨gk, gs, gn, gA, gm, gc, gb⟩) 32 (by simp; omega) hb3 hg3 hu3
                    | exact mid_B (g := ⟨gk, gs, gn, gA, gm, gc, gb⟩) (by simp) (by simp; omega) hb3 hg3 ⟨q0, q1, q2, q3⟩ hu3
              case rest =>
                obtain ⟨g, used, ok, fb, rfl, rfl, rfl, hfb, ⟨q0, q1, q2, q3⟩, hg, hbm, hu⟩ := hcut
                obtain ⟨⟨z0, z1, z2, z3⟩, f0, f1, f2, f3⟩ := zero_kept0 (b := wr.heap.size) rfl hbm
                have hbc : Below wr.heap.size wr wc := hbA.trans (hbm.mono (by simp))
                have htr := take_read f.kind f.size ys hk02
                have HT := Lib.hid hT; clear hT
                cases htk : takeU f.kind f.size ys with
                | none =>
                  rw [htk] at hu htr
                  obtain ⟨rfl, rfl, rfl⟩ := hu
                  have hah := ahead_of (A1 := none) (n1 := 0) (c1 := 0) hbw hB hbc hrs hg Rd.nil .nil (by decide) (fun _ => rfl) htr ⟨z0, z1, z2, z3⟩
                  have Hah := Lib.hid hah; clear hah htr htk hrs hry hg
                  rcases hyo with ⟨rfl, rfl, rfl⟩ | ⟨a, rfl, hnc, hcm⟩
                  · go_wp2_with fail
                    go_meet
                    case rel => exact Hah.out
                  · by_cases hc0 : c' = 0
                    · go_wp2_with fail
                      go_meet
                      case rel => exact Hah.out
                    · go_wp2_with fail
                      go_meet
                      case rel => exact Hah.out
                | some u =>
                  obtain ⟨v, bs, r⟩ := u
                  rw [htk] at hu htr
                  obtain ⟨rfl, hle, hdr, hgv, hgb⟩ := hu
                  have htr' : readU f.kind f.size ⟨ys, true⟩ = (g.num, g.bs, ⟨ys.drop used, true⟩) := by rw [hgv, hgb, hdr]; exact htr
                  have hyl := hry.bytes
                  have hnn : ¬ ((used : Int) > (n' : Int)) := by omega
                  have hn2 : (used : Int) ≤ (n' : Int) := by omega
                  have h300 : n' - used ≤ 300 := by have := Hn'.out; omega
                  clear htr htk hdr hgv hgb
                  rcases hyo with ⟨rfl, h1, h2⟩ | ⟨a, rfl, hnc, hcm⟩
                  · subst h1 h2
                    obtain rfl : used = 0 := by omega
                    have hy : ys = [] := List.eq_nil_of_length_eq_zero hyl
                    subst hy
                    have hah := ahead_of (A1 := none) (n1 := 0) (c1 := 0) hbw hB hbc hrs hg Rd.nil .nil (by decide) (fun _ => rfl) htr' ⟨z0, z1, z2, z3⟩
                    have Hah := Lib.hid hah; clear hah htr' hrs hry hg
                    go_wp2_with fail
                    go_meet
                    case rel => exact Hah.out
                  · by_cases hcu : c' = used
                    · subst hcu
                      obtain rfl : n' = c' := by omega
                      have hd0 : ys.drop n' = [] := List.drop_eq_nil_of_le (by omega)
                      rw [hd0] at htr'
                      have hah := ahead_of (A1 := some a) (n1 := 0) (c1 := 0) (xs1 := []) hbw hB hbc hrs hg ⟨rfl, fun h => by omega⟩ (.inr ⟨a, rfl, by omega, by omega⟩) (by decide) (fun _ => rfl) htr' ⟨z0, z1, z2, z3⟩
                      have Hah := Lib.hid hah; clear hah htr' hrs hry hg hd0
                      have hss : n' - n' = 0 := Nat.sub_self _
                      go_wp2_with fail
                      go_meet
                      case rel => exact Hah.out
                    · by_cases hu0 : used = 0
                      · subst hu0
                        rw [List.drop_zero] at htr'
                        have hah := ahead_of (A1 := some a) (n1 := n') (c1 := c') hbw hB hbc hrs hg hry (.inr ⟨a, rfl, hnc, hcm⟩) (by omega) (fun e => by cases e) htr' ⟨z0, z1, z2, z3⟩
                        have Hah := Lib.hid hah; clear hah htr' hrs hry hg
                        go_wp2_with fail
                        go_meet
                        case rel => exact Hah.out
                      · obtain ⟨b', o', e', hb', _⟩ := hry.2 (by omega)
                        injection e' with e'
                        subst e'
                        have hah := ahead_of (A1 := some ⟨b', o' + used, none⟩) (n1 := n' - used) (c1 := c' - used) hbw hB hbc hrs hg (by rw [Byt_drop]; exact hry.tail hle) (.inr ⟨_, rfl, by omega, by omega⟩) h300 (fun e => by cases e) htr' ⟨z0, z1, z2, z3⟩
                        have Hah := Lib.hid hah; clear hah htr' hrs hry hg
                        go_wp2_with fail
                        go_meet
                        case rel => exact Hah.out
          case rest =>
            obtain ⟨g, xs1, whole1, A1, n1, c1', rfl, rfl, h300, hr1, hok1, hw1, hst, hnum, hbs, hg, q0, q1, q2, q3, hrs1, hbw1⟩ := hcut
            have hl1 := hr1.bytes
            have d0 := (hbw1.cell (p := ⟨b, o + k * 4, none⟩) (by show b < _; omega)).trans ((hbw.cell (p := ⟨b, o + k * 4, none⟩) (by show b < _; omega)).symm.trans c0)
            have d1 := (hbw1.cell (p := ⟨b, o + k * 4 + 1, none⟩) (by show b < _; omega)).trans ((hbw.cell (p := ⟨b, o + k * 4 + 1, none⟩) (by show b < _; omega)).symm.trans c1)
            have hp := read_any B br f.kind f.size text ⟨ys, whole⟩ g wc.drew hrs1.drew ⟨hg.kind, hg.size, hg.num, hg.ok, hg.rd.drew⟩ (by have := hbw1.size; simp; omega) (fun h0 => by
              obtain ⟨b', o', e', hb', _⟩ := hg.rd.2 h0
              intro a ha hf
              rw [e'] at ha
              injection ha with ha
              subst ha
              unfold Blk at hf
              simp at hf
              omega) hk02 hnum hbs
            rw [hst] at hp
            have hlow : ∀ w3, Moves (Blk br) wc.drew w3 → Below w.heap.size w w3 := fun w3 hm3 => hbw1.trans ((show Moves (Blk br) wc w3 from ⟨hm3.os, hm3.tape, hm3.output, hm3.size, hm3.block⟩).below (fun q hq => by unfold Blk at hq; omega) hbw1.size)
            have hrow : ∀ w3, Below w.heap.size w w3 → Rd w3 B A1 n1 (Byt xs1) := fun w3 hb3 => hr1.keep fun p hp => by rw [hb3.cell (by omega), hbw1.cell (by omega)]
            have hSa : ∀ w3, Moves (Blk br) wc.drew w3 → w3.cell? ⟨b, o + k * 4, none⟩ = some (.int .i64 f.kind) ∧ w3.cell? ⟨b, o + k * 4 + 1, none⟩ = some (.int .i64 f.size) ∧ w3.cell? ⟨wr.heap.size, 0, none⟩ = some (.int .i64 g.kind) ∧ w3.cell? ⟨wr.heap.size, 1, none⟩ = some (.int .i64 g.size) ∧ w3.cell? ⟨wr.heap.size, 2, none⟩ = some (.int .u64 (g.num : Int)) ∧ w3.cell? ⟨wr.heap.size, 3, none⟩ = some (.slice g.A g.m g.c) := fun w3 hm3 => by
              have hlb := hrs.lt
              have hwb : wr.heap.size < wc.heap.size := by
                rcases Nat.lt_or_ge wr.heap.size wc.heap.size with h | h
                · exact h
                · exfalso
                  unfold World.cell? at q0
                  simp [Array.getElem?_eq_none h] at q0
              have fa : ∀ j, w3.cell? ⟨wr.heap.size, j, none⟩ = wc.cell? ⟨wr.heap.size, j, none⟩ := fun j => hm3.cell (p := ⟨wr.heap.size, j, none⟩) hwb (fun e => by unfold Blk at e; simp at e; omega)
              have fb : ∀ j, w3.cell? ⟨b, j, none⟩ = wc.cell? ⟨b, j, none⟩ := fun j => hm3.cell (p := ⟨b, j, none⟩) (by show b < wc.heap.size; omega) (fun e => by unfold Blk at e; simp at e; omega)
              exact ⟨(fb _).trans d0, (fb _).trans d1, (fa _).trans q0, (fa _).trans q1, (fa _).trans q2, (fa _).trans q3⟩
            have HS := Lib.hid hSa; clear hSa
            have HLow := Lib.hid hlow; clear hlow
            have HRow := Lib.hid hrow; clear hrow
            have Hl1 := Lib.hid hl1; clear hl1
            have Hw1 := Lib.hid hw1; clear hw1
            have H300 := Lib.hid h300; clear h300
            have Hok1 := Lib.hid hok1; clear hok1
            have HT := Lib.hid hT; clear hT
            clear hr1 hst hnum hbs hg hrs1 hry hyo hw0 hrs hbA c0 c1 c2 c3 hfk
            have hLe : ∀ w3, RdrS w3 br ⟨xs1, whole1⟩ → Calls Try.prog 16 #[.pointer (some ⟨br, 0, none⟩)] w3 fun e w' => e = .returned (.int .i64 (n1 : Int)) ∧ w' = w3 := fun w3 hs => by
              have := wleft_any br _ w3 hs
              rwa [show (RS.left ⟨xs1, whole1⟩).length = n1 from Hl1.out] at this
            have HLe := Lib.hid hLe; clear hLe
            cases whole1
            · have hFa : ∀ w3, RdrS w3 br ⟨xs1, false⟩ → Calls Try.prog 17 #[.pointer (some ⟨br, 0, none⟩)] w3 fun e w' => e = .returned (.int .i64 4) ∧ w' = w3 := fun w3 hs => wfault_any br _ w3 hs
              have HFa := Lib.hid hFa; clear hFa
              go_wp2_with fail
              first
                | (go_region_held (fun w' => w'.cell? ⟨b, o + k * 4, none⟩ = some (.int .i64 f.kind) ∧ w'.cell? ⟨b, o + k * 4 + 1, none⟩ = some (.int .i64 f.size) ∧ w'.cell? ⟨wr.heap.size, 0, none⟩ = some (.int .i64 g.kind) ∧ w'.cell? ⟨wr.heap.size, 1, none⟩ = some (.int .i64 g.size) ∧ w'.cell? ⟨wr.heap.size, 2, none⟩ = some (.int .u64 (g.num : Int)) ∧ w'.cell? ⟨wr.heap.size, 3, none⟩ = some (.slice g.A g.m g.c)) (first | exact ⟨d0, d1, q0, q1, q2, q3⟩ | exact hS3)
                (first | (go_at_call 15; refine hp.mono ?_; rintro e w3 ⟨rfl, hs3, hm3⟩; have hL := HLe.out w3 hs3; have hF := HFa.out w3 hs3; have hS3 := HS.out w3 hm3) | (go_at_call 16; refine hL.mono ?_; rintro e w4 ⟨rfl, rfl⟩) | (go_at_call 17; refine hF.mono ?_; rintro e w4 ⟨rfl, rfl⟩)))
                | fail
              have hb4 := HLow.out _ hm3
              have hr4 := HRow.out _ hb4
              have Hr4 := Lib.hid hr4; clear hr4
              have h40 := (light_yes HL.out).1
              go_wp2
              go_roundw
              case rel => exact ⟨k + 1, n1, c1', A1, xs1, false, by have := HKM.out; omega, by have h1 := HKM.out; have h2 := (light_yes HL.out).1; have h3 := Hfl.out; go_num, rfl, rfl, H300.out, Hr4.out, Hok1.out, (fun _ => Hw1.out trivial), hs3, hb4⟩
              case measure => have := HKM.out; have h2 := (light_yes HL.out).1; have h3 := Hfl.out; simp [intOf]; omega
            · have hFa : ∀ w3, RdrS w3 br ⟨xs1, true⟩ → Calls Try.prog 17 #[.pointer (some ⟨br, 0, none⟩)] w3 fun e w' => e = .returned (.int .i64 0) ∧ w' = w3 := fun w3 hs => wfault_any br _ w3 hs
              have HFa := Lib.hid hFa; clear hFa
              go_wp2_with fail
              first
                | (go_region_held (fun w' => w'.cell? ⟨b, o + k * 4, none⟩ = some (.int .i64 f.kind) ∧ w'.cell? ⟨b, o + k * 4 + 1, none⟩ = some (.int .i64 f.size) ∧ w'.cell? ⟨wr.heap.size, 0, none⟩ = some (.int .i64 g.kind) ∧ w'.cell? ⟨wr.heap.size, 1, none⟩ = some (.int .i64 g.size) ∧ w'.cell? ⟨wr.heap.size, 2, none⟩ = some (.int .u64 (g.num : Int)) ∧ w'.cell? ⟨wr.heap.size, 3, none⟩ = some (.slice g.A g.m g.c)) (first | exact ⟨d0, d1, q0, q1, q2, q3⟩ | exact hS3)
                (first | (go_at_call 15; refine hp.mono ?_; rintro e w3 ⟨rfl, hs3, hm3⟩; have hL := HLe.out w3 hs3; have hF := HFa.out w3 hs3; have hS3 := HS.out w3 hm3) | (go_at_call 16; refine hL.mono ?_; rintro e w4 ⟨rfl, rfl⟩) | (go_at_call 17; refine hF.mono ?_; rintro e w4 ⟨rfl, rfl⟩)))
                | fail
              have hb4 := HLow.out _ hm3
              have hr4 := HRow.out _ hb4
              have Hr4 := Lib.hid hr4; clear hr4
              have h40 := (light_yes HL.out).1
              go_wp2
              go_roundw
              case rel => exact ⟨k + 1, n1, c1', A1, xs1, true, by have := HKM.out; omega, by have h1 := HKM.out; have h2 := (light_yes HL.out).1; have h3 := Hfl.out; go_num, rfl, rfl, H300.out, Hr4.out, Hok1.out, (fun e => by cases e), hs3, hb4⟩
              case measure => have := HKM.out; have h2 := (light_yes HL.out).1; have h3 := Hfl.out; simp [intOf]; omega
        · have he := wend_any br _ wr hrs
          have hyl := hry.bytes
          have hend : (whole = true ∧ n' = 0 ∧ endOf ⟨ys, whole⟩ = 0) ∨ (whole = true ∧ n' ≠ 0 ∧ endOf ⟨ys, whole⟩ = 4) ∨ (whole = false ∧ n' = 0 ∧ endOf ⟨ys, whole⟩ = 4) := by
            cases whole
            · right; right
              have := hw0 rfl
              refine ⟨rfl, this, ?_⟩
              unfold endOf faultOf
              rw [if_neg (by show ¬ 0 < ys.length; omega), if_neg (show ¬ (false = true) by decide)]
            · rcases Nat.eq_zero_or_pos n' with h0 | h0
              · left
                refine ⟨rfl, h0, ?_⟩
                unfold endOf faultOf
                rw [if_neg (by show ¬ 0 < ys.length; omega), if_pos rfl]
              · right; left
                refine ⟨rfl, by omega, ?_⟩
                unfold endOf
                rw [if_pos (by show 0 < ys.length; omega)]
          have hszr := hbw.size
          clear hrs hry hyl hw0 hn' hi300 h300
          rcases hend with ⟨rfl, h0, he0⟩ | ⟨rfl, h0, he0⟩ | ⟨rfl, h0, he0⟩
          all_goals
            rw [he0] at he
            clear he0
            first
              | have hz : ((n' : Int) == 0) = false := by simp; omega
              | subst h0
            go_wp2_with fail
            refine he.mono ?_
            rintro e w3 ⟨rfl, rfl⟩
            go_wp2_with fail
            refine (ha _).mono ?_
            rintro e w4 ⟨rfl, hb4⟩
            have hb5 := hbw.trans (hb4.mono hszr)
            go_wp2
            go_ret
            exact ⟨rfl, hb5⟩
    · have hi300 : (n : Int) > 300 := by omega
      clear hx
      go_enter Try.func4, Try.ntmps4
      go_wp2_with fail
      refine hlt.mono ?_
      rintro e w1 ⟨rfl, hb1⟩
      go_wp2_with fail
      refine (ha _).mono ?_
      rintro e w2 ⟨rfl, hb2⟩
      go_wp2
      go_ret
      exact ⟨rfl, bon hb1 hb2⟩
  · have hf : lightU fs = false := by simpa using hl
    rw [hf] at hlt
    clear hl hf hx
    go_enter Try.func4, Try.ntmps4
    go_wp2_with fail
    refine hlt.mono ?_
    rintro e w1 ⟨rfl, hb1⟩
    go_wp2_with fail
    refine (ha _).mono ?_
    rintro e w2 ⟨rfl, hb2⟩
    go_wp2
    go_ret
    exact ⟨rfl, bon hb1 hb2⟩

end Go.Proofs.Ytodabjfddobkkaa
