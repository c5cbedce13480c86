import Derived.Test.YtodabjfddobkkaaLaw05
import Derived.Test.YtodabjfddobkkaaWireByte
import Derived.Test.YtodabjfddobkkaaWireText
import Derived.Test.YtodabjfddobkkaaRefSame
import Derived.Test.YtodabjfddobkkaaWireOut
namespace Go.Proofs.Ytodabjfddobkkaa
open Go.RowKit

/-- .. behind a new block. -/
theorem Wrote.box {e : TypeId} {w : World} {F : Nat → Prop} {bw : Nat} {l : List UInt8} {o : Obj} {w' : World} (h : Wrote e (w.alloc o) F bw l w') : Wrote e w F bw l w' :=
  Wrote.then ((Moves.refl F w).alloc o) (fun _ hk => .inl hk) h

set_option maxHeartbeats 1600000 in
theorem write_any (F : Nat → Prop) (bw B : Nat) (l : List UInt8) (f : Fld) (text : Bool) (w : World) (h : WtrS 5 w F bw l) (hf : FldOK w B f) (hB : B ≤ w.heap.size) (hoff : 0 < f.m → Off F f.A) (hl : lightF f = true) (hn : l.length + 65543 ≤ 8796093022208) :
    Calls Try.prog 8 #[.pointer (some ⟨bw, 0, none⟩), .agg f.cells, .bool text] w fun e w' => e = .returned (.tuple #[]) ∧ Wrote 5 w F bw (l ++ fieldU f.kind f.size f.num f.bs) w' := by
  obtain ⟨kind, size, num, A, m, c, bs⟩ := f
  obtain ⟨hk, hs, hnum, hok, hrd⟩ := hf
  simp only [lightF, Bool.and_eq_true, decide_eq_true_eq] at hl
  simp only at hk hs hnum hok hrd hoff
  simp only [Fld.cells]
  obtain ⟨⟨l0, l2⟩, l3⟩ := hl
  have hw : ∀ o : Obj, WtrS 5 (w.alloc o) F bw l := fun o => h.alloc o
  have hr : ∀ o : Obj, Rd (w.alloc o) B A m (Byt bs) := fun o => hrd.alloc hB o
  clear hk hs
  rcases (show kind = 0 ∨ kind = 1 ∨ kind = 2 by omega) with rfl | rfl | rfl
  · have hU : fieldU 0 size num bs = [UInt8.ofNat num] := rfl
    rw [hU]
    have hp := wbyte_any F bw l ((num : Int) % 256) (UInt8.ofNat num) (u8_of num).symm _ (hw (.cells #[.int .i64 0, .int .i64 size, .int .u64 num, .slice A m c] 32)) (by omega)
    clear hw hr hrd hok h hoff
    go_enter Try.func8, Try.ntmps8
    go_wp2_with fail
    refine hp.mono ?_
    rintro e w1 ⟨rfl, hw1⟩
    go_wp2
    go_end0
    exact ⟨rfl, hw1.box⟩
  · have hU : fieldU 1 size num bs = putR num size := rfl
    rw [hU]
    have hp := wnumber_any F bw l num size hnum _ (hw (.cells #[.int .i64 1, .int .i64 size, .int .u64 num, .slice A m c] 32)) (by omega)
    clear hw hr hrd hok h hoff
    go_enter Try.func8, Try.ntmps8
    go_wp2_with fail
    refine hp.mono ?_
    rintro e w1 ⟨rfl, hw1⟩
    go_wp2
    go_end0
    exact ⟨rfl, hw1.box⟩
  · have hU : fieldU 2 size num bs = rowU bs := rfl
    rw [hU]
    cases text
    · have hp := wrow_any F bw B m c A l bs _ (hw (.cells #[.int .i64 2, .int .i64 size, .int .u64 num, .slice A m c] 32)) (hr _) hok (by simp; omega) hoff hn
      clear hw hr hrd hok h hoff
      go_enter Try.func8, Try.ntmps8
      go_wp2_with fail
      refine hp.mono ?_
      rintro e w1 ⟨rfl, hw1⟩
      go_wp2
      go_end0
      exact ⟨rfl, hw1.box⟩
    · have hbl := hrd.bytes
      have hp := wtext_any F bw l (tx bs) _ (hw (.cells #[.int .i64 2, .int .i64 size, .int .u64 num, .slice A m c] 32)) (by rw [tx_size]; unfold maxLen; omega) hn
      rw [tx_list] at hp
      have hcv : ∀ o : Obj, (convert 26 9 (.slice A m c)).run Try.prog (w.alloc o) = .ok (.string (tx bs)) (w.alloc o) := fun o => (hr o).conv 26 9 5 Try.underlying26 Try.underlying5 Try.underlying9
      clear hw hr hrd hok h hoff hbl
      go_enter Try.func8, Try.ntmps8
      go_wp2_with fail
      refine hp.mono ?_
      rintro e w1 ⟨rfl, hw1⟩
      go_wp2
      go_end0
      exact ⟨rfl, hw1.box⟩

/-- A new writer. -/
theorem wtr_new (e t : TypeId) (w : World) : WtrS e (w.alloc (.cells #[.slice none 0 0] t)) (Blk w.heap.size) w.heap.size [] :=
  ⟨none, 0, 0, by simp, by simp [go_sem], World.ownsRow_nil _ _ _ _, rfl, (fun k hk => by cases hk), (fun k hk => by unfold Blk at hk; subst hk; simp)⟩

theorem alive5_row : rowU [97, 98] = [0, 2, 97, 98] := by decide

set_option maxHeartbeats 1600000 in
theorem alive5_any (w : World) : Calls Try.prog 7 #[] w (Ans w (.bool true)) := by
  have hnew := wtr_new 5 28 w
  have hp := wtext_any _ _ [] ⟨#[97, 98]⟩ _ hnew (by decide) (by decide)
  rw [List.nil_append, show (⟨#[97, 98]⟩ : ByteArray).data.toList = [97, 98] from rfl, alive5_row] at hp
  clear hnew
  have hbox : Below w.heap.size w (w.alloc (.cells #[.slice none 0 0] 28)) := (Below.refl _ _).alloc (Nat.le_refl _) _
  have Hbox := Lib.hid hbox; clear hbox
  go_enter Try.func7, Try.ntmps7
  go_wp2_with fail
  refine hp.mono ?_
  rintro e w1 ⟨rfl, F1, hw1, hm1, hF1⟩
  have hb1 : Below w.heap.size w w1 := Hbox.out.trans (hm1.below (fun k hk => by unfold Blk at hk; omega) (by simp))
  have hq := wout_any F1 _ _ w1 hw1 (by decide)
  clear hw1 hm1
  go_wp2_with fail
  refine hq.mono ?_
  rintro e w2 ⟨A2, c2, rfl, hown2, hb2⟩
  have hr2 := Rd.of_own hown2
  have hs := fun (o : Obj) => rsame_any (w2.heap.size + 1) 4 4 c2 4 A2 (some ⟨w2.heap.size, 0, none⟩) [0, 2, 97, 98] [0, 2, 97, 98] (w2.alloc (.cells #[.int .u8 0, .int .u8 2, .int .u8 97, .int .u8 98] 5)) ((hr2.alloc (Nat.le_refl _) _).wider (by omega)) (Rd.new w2 5 #[.int .u8 0, .int .u8 2, .int .u8 97, .int .u8 98] rfl) (by decide) (by decide)
  rw [sameL_self] at hs
  clear hown2 hr2
  go_wp2_with fail
  refine (hs default).mono ?_
  rintro e w3 ⟨rfl, hb3⟩
  have hb := hb1.trans ((((hb2.mono hb1.size).alloc (by have := hb1.size; have := hb2.size; omega) (.cells #[.int .u8 0, .int .u8 2, .int .u8 97, .int .u8 98] 5))).trans (hb3.mono (by have := hb1.size; have := hb2.size; simp; omega)))
  clear hb1 hb2 hb3
  go_wp2
  go_ret
  exact ⟨rfl, hb⟩

end Go.Proofs.Ytodabjfddobkkaa
