import Derived.Test.YtodabjfddobkkaaLaw05W
import Derived.Test.YtodabjfddobkkaaRefField
import Derived.Test.YtodabjfddobkkaaRow
namespace Go.Proofs.Ytodabjfddobkkaa
open Go.RowKit

def fldU (f : Fld) : List UInt8 := fieldU f.kind f.size f.num f.bs
/-- The bytes of the first k fields. -/
def outU (fs : List Fld) (k : Nat) : List UInt8 := (fs.take k).flatMap fldU
theorem outU_zero (fs : List Fld) : outU fs 0 = [] := rfl
theorem outU_succ {fs : List Fld} {k : Nat} (hk : k < fs.length) : outU fs (k + 1) = outU fs k ++ fldU fs[k] := by
  unfold outU
  rw [take_succ_get _ _ hk, List.flatMap_append]
  simp
theorem fldU_few {f : Fld} (hb : f.bs.length ≤ 300) : (fldU f).length ≤ 302 := by
  unfold fldU fieldU
  split
  · exact Nat.le_of_lt_succ (by simp)
  · split
    · have := putR_few f.num f.size; omega
    · unfold rowU
      rw [List.length_append, putL_length, List.length_take]
      omega
theorem outU_few {fs : List Fld} (h : ∀ f ∈ fs, f.bs.length ≤ 300) : ∀ k, (outU fs k).length ≤ k * 302 := by
  intro k
  induction k with
  | zero => simp [outU]
  | succ k ih =>
    by_cases hk : k < fs.length
    · rw [outU_succ hk, List.length_append]
      have := fldU_few (h _ (List.getElem_mem hk))
      omega
    · have : outU fs (k + 1) = outU fs k := by
        have h1 : fs.take (k + 1) = fs := List.take_of_length_le (by omega)
        have h2 : fs.take k = fs := List.take_of_length_le (by omega)
        unfold outU
        rw [h1, h2]
      have h3 := congrArg List.length this
      omega

theorem light_yes {fs : List Fld} (h : lightU fs = true) : fs.length ≤ 40 ∧ ∀ f ∈ fs, lightF f = true := by
  simp only [lightU, Bool.and_eq_true, decide_eq_true_eq, List.all_eq_true] at h
  exact h
theorem light_bs {fs : List Fld} {w : World} {B n : Nat} {A : Option Addr} (hf : Flds w B A n fs) (h : lightU fs = true) : ∀ f ∈ fs, f.bs.length ≤ 300 := by
  intro f hm
  have h1 := (light_yes h).2 f hm
  have h2 := (hf.2.1 f hm).rd.bytes
  simp only [lightF, Bool.and_eq_true, decide_eq_true_eq] at h1
  omega

set_option maxHeartbeats 3200000 in
theorem wireWrites_any (B n c : Nat) (A : Option Addr) (fs : List Fld) (text : Bool) (w : World) (h : Flds w B A n fs) (hB : B ≤ w.heap.size) (hn : n ≤ maxLen) :
    Calls Try.prog 3 #[.slice A n c, .bool text] w (Ans w (.bool true)) := by
  have hlt := light_any B n c A fs w h hn
  by_cases hl : lightU fs = true
  · rw [hl] at hlt
    have hfl := h.1
    have h40 := (light_yes hl).1
    have hbs := light_bs h hl
    have HL := Lib.hid hl; clear hl
    have Hfl := Lib.hid hfl; clear hfl
    go_enter Try.func3, Try.ntmps3
    go_wp2_with fail
    refine hlt.mono ?_
    rintro e w1 ⟨rfl, hb1⟩
    have hsz1 := hb1.size
    have hnew := wtr_new 5 28 w1
    have hb1' := hb1.alloc hsz1 (.cells #[.slice none 0 0] 28)
    go_wp2
    go_loopw [6, 7] (fun v i wr => ∃ (k n' c' : Nat) (A' : Option Addr) (F : Nat → Prop), k ≤ n ∧ i = .int .i64 k ∧ v = .slice A' n' c' ∧ Rd wr wr.heap.size A' n' (Byt (outU fs k)) ∧ SlOK A' n' c' ∧ Off F A' ∧ WtrS 5 wr F w1.heap.size (outU fs k) ∧ Below w.heap.size w wr) (fun _ i _ => n - (intOf i).toNat)
    case atStart => exact ⟨0, 0, 0, none, Blk w1.heap.size, Nat.zero_le _, rfl, rfl, Rd.nil, .nil, .none, hnew, hb1'⟩
    case round =>
      obtain ⟨k, n', c', A', F, hk, rfl, rfl, hrd, hok, hoff, hwt, hbr⟩ := hrel
      have hk40 : k * 302 ≤ 12080 := by have := Hfl.out; omega
      have hfew := outU_few hbs k
      by_cases hlt : k < n
      · have hkf : k < fs.length := by rw [Hfl.out]; exact hlt
        have h2 := h.keep (w' := wr) fun _ hp => hbr.cell (by omega)
        obtain ⟨b, o, rfl, hb, c0, c1, c2, c3⟩ := h2.at_ hkf
        have hfok := h2.get hkf
        have hlf := (light_yes HL.out).2 _ (List.getElem_mem hkf)
        have hsucc := outU_succ hkf
        have hbf := hbs _ (List.getElem_mem hkf)
        obtain ⟨f, hf⟩ : ∃ f, f = fs[k] := ⟨_, rfl⟩
        rw [← hf] at c0 c1 c2 c3 hfok hlf hsucc hbf
        have hszr := hbr.size
        have hlo := hwt.lo
        have hBb : B ≤ w1.heap.size := by omega
        have hwb : w.heap.size ≤ w1.heap.size := by omega
        have hp := write_any F w1.heap.size B (outU fs k) f text wr hwt hfok (by omega) (fun h0 => by
          obtain ⟨b', o', e', hb', _⟩ := hfok.rd.2 h0
          exact hwt.off hBb (fun a ha => by rw [e'] at ha; injection ha with ha; subst ha; exact hb')) hlf (by omega)
        rw [show fieldU f.kind f.size f.num f.bs = fldU f from rfl, ← hsucc] at hp
        have Hsucc := Lib.hid hsucc; clear hsucc hf
        have Hlf := Lib.hid hlf; clear hlf
        go_wp2_with fail
        refine hp.mono ?_
        rintro e w2 ⟨rfl, F1, hw2, hm2, hF1⟩
        have hF1lo := hw2.lo
        have hb2 : Below w.heap.size w w2 := hbr.trans (hm2.below (fun k hk => by have := (hlo k hk).1; omega) hszr)
        have hsz2 := hb2.size
        have h3 := h.keep (w' := w2) fun _ hp => hb2.cell (by omega)
        have hfok2 : FldOK w2 B f := hfok.keep fun p hp => by rw [hb2.cell (by omega), hbr.cell (by omega)]
        have d0 := (hb2.cell (p := ⟨b, o + k * 4, none⟩) (by show b < _; omega)).trans ((hbr.cell (p := ⟨b, o + k * 4, none⟩) (by show b < _; omega)).symm.trans c0)
        have d1 := (hb2.cell (p := ⟨b, o + k * 4 + 1, none⟩) (by show b < _; omega)).trans ((hbr.cell (p := ⟨b, o + k * 4 + 1, none⟩) (by show b < _; omega)).symm.trans c1)
        have d2 := (hb2.cell (p := ⟨b, o + k * 4 + 2, none⟩) (by show b < _; omega)).trans ((hbr.cell (p := ⟨b, o + k * 4 + 2, none⟩) (by show b < _; omega)).symm.trans c2)
        have d3 := (hb2.cell (p := ⟨b, o + k * 4 + 3, none⟩) (by show b < _; omega)).trans ((hbr.cell (p := ⟨b, o + k * 4 + 3, none⟩) (by show b < _; omega)).symm.trans c3)
        have hrd2 : Rd w2 wr.heap.size A' n' (Byt (outU fs k)) := hrd.moves hm2 (Nat.le_refl _) fun _ => hoff
        have hm300 : f.m ≤ 300 := by
          have := Hlf.out
          simp only [lightF, Bool.and_eq_true, decide_eq_true_eq] at this
          exact this.2
        have hq := rfield_any B f w2 hfok2 (by omega) hm300
        clear c0 c1 c2 c3 h2 hfok hrd hwt hp
        go_wp2_with fail
        refine hq.mono ?_
        rintro e w3 ⟨A3, c3, rfl, hown3, hb3⟩
        rw [show fieldU f.kind f.size f.num f.bs = fldU f from rfl] at hown3 ⊢
        have hsz3 := hb3.size
        have hj := rjoin_any w3.heap.size n' c' (fldU f).length c3 A' A3 (outU fs k) (fldU f) w3 ((hrd2.keep fun _ hp => hb3.cell (by have := hm2.size; omega)).wider (by have := hm2.size; omega)) (Rd.of_own hown3) hok (SlOK.of_own hown3) (Nat.le_refl _) (by have := hrd2.bytes; have := fldU_few hbf; omega)
        rw [← Hsucc.out] at hj
        have hw3 := hw2.below hb3
        clear hown3 hq hw2 hrd2
        go_wp2_with fail
        refine hj.mono ?_
        rintro e w4 ⟨A4, c4, rfl, hown4, hb4⟩
        have hw4 := hw3.below hb4
        have hsz4 := hb4.size
        obtain ⟨n4, hn4⟩ : ∃ n4, n4 = (outU fs (k + 1)).length := ⟨_, rfl⟩
        rw [← hn4] at hown4 ⊢
        have hfew4 := outU_few hbs (k + 1)
        rw [← hn4] at hfew4
        have Hn4 := Lib.hid hn4; clear hn4
        have ho := wout_any F1 _ _ w4 hw4 (by have := Hn4.out; omega)
        clear hw3 hj
        go_wp2_with fail
        refine ho.mono ?_
        rintro e w5 ⟨A5, c5, rfl, hown5, hb5⟩
        have hw5 := hw4.below hb5
        have hr4 := Rd.of_own hown4
        have hr5 := Rd.of_own hown5
        have hok4 := SlOK.of_own hown4
        have hoff4 : Off F1 A4 := fun a ha hf => by
          have hl4 := (hown4.lt a.block (by rw [ha]; rfl)).1
          have hl5 := (hF1lo _ hf).2
          omega
        have hb4' : Below w.heap.size w w5 := hb2.trans ((hb3.mono hsz2).trans ((hb4.mono (by omega)).trans (hb5.mono (by omega))))
        have hs := rsame_any w5.heap.size (outU fs (k + 1)).length n4 c5 c4 A5 A4 (outU fs (k + 1)) (outU fs (k + 1)) w5 hr5 ((hr4.below hb5).wider hb5.size) (by unfold maxLen; have := Hn4.out; omega) (by unfold maxLen; omega)
        rw [sameL_self] at hs
        have hr4' := (hr4.below hb5).wider hb5.size
        obtain ⟨m5, hm5⟩ : ∃ m5, m5 = (outU fs (k + 1)).length := ⟨_, rfl⟩
        rw [← hm5] at hs ⊢
        clear hown4 hown5 hr4 hr5 hw4 hm5
        go_wp2_with fail
        refine hs.mono ?_
        rintro e w6 ⟨rfl, hb6⟩
        have hw6 := hw5.below hb6
        have hr6 := (hr4'.below hb6).wider hb6.size
        have hb6' : Below w.heap.size w w6 := hb4'.trans (hb6.mono hb4'.size)
        have HR := Lib.hid hr6; clear hr6 hr4'
        go_wp2
        go_roundw
        case rel => exact ⟨k + 1, n4, c4, A4, F1, by omega, by go_num, rfl, HR.out, hok4, hoff4, hw6, hb6'⟩
        case measure => simp [intOf]; omega
      · have ha : ∀ w', Calls Try.prog 7 #[] w' (Ans w' (.bool true)) := alive5_any
        clear hrd hwt
        go_wp2_with fail
        refine (ha _).mono ?_
        rintro e w2 ⟨rfl, hb2⟩
        go_wp2
        go_ret
        exact ⟨rfl, hbr.trans (hb2.mono hbr.size)⟩
  · have hf : lightU fs = false := by simpa using hl
    rw [hf] at hlt
    have ha : ∀ w', Calls Try.prog 7 #[] w' (Ans w' (.bool true)) := alive5_any
    clear hl hf
    go_enter Try.func3, Try.ntmps3
    go_wp2_with fail
    refine hlt.mono ?_
    rintro e w1 ⟨rfl, hb1⟩
    go_wp2_with fail
    refine (ha _).mono ?_
    rintro e w2 ⟨rfl, hb2⟩
    go_wp2
    go_ret
    exact ⟨rfl, bon hb1 hb2⟩

end Go.Proofs.Ytodabjfddobkkaa
