import Derived.Test.YtodabjfddobkkaaWireRowIn
import Derived.Test.YtodabjfddobkkaaWireGuardN
namespace Go.Proofs.Ytodabjfddobkkaa
open Go.RowKit

set_option maxHeartbeats 400000 in
theorem wrow_lit (B1 B2 br : Nat) (s : RS) (most : Int) (w : World) (h : RdrS w br s) (c1 : w.cell? ⟨B1, 0, none⟩ = some (.pointer (some ⟨br, 0, none⟩))) (c2 : w.cell? ⟨B2, 0, none⟩ = some (.int .i64 most)) :
    Calls Try.prog 35 #[.pointer (some ⟨B1, 0, none⟩), .pointer (some ⟨B2, 0, none⟩)] w (RowIn br most s w) := by
  have hp := wrow_inR br s most w h
  go_enter Try.func35, Try.ntmps35
  go_wp2_with fail
  refine hp.mono ?_
  rintro e w1 (⟨v, r, A1, hn, rfl, hr1, hok1, hoff1, hs1, hm1⟩ | ⟨hn, rfl, hs1, hm1⟩)
  · have Hn := Lib.hid hn; clear hn
    have Hr := Lib.hid hr1; clear hr1
    go_wp2
    go_ret
    exact .inl ⟨_, _, A1, Hn.out, rfl, Hr.out, hok1, hoff1, hs1, hm1⟩
  · have Hn := Lib.hid hn; clear hn
    go_wp2
    exact ⟨rfl, .inr ⟨Hn.out, rfl, hs1, hm1⟩⟩

/-- What a reader ends in that answers bytes. -/
def RowOut (br : Nat) (v : List UInt8 × RS) (w : World) (e : Ending) (w' : World) : Prop :=
  ∃ A, e = .returned (.slice A v.1.length v.1.length) ∧ Rd w' w'.heap.size A v.1.length (Byt v.1) ∧ SlF A v.1.length v.1.length ∧ Off (Blk br) A ∧ RdrS w' br v.2 ∧ Moves (Blk br) w w'

/-- The deferred closure, where the reader panicked: the fault is laid into the reader. -/
theorem wcatchB_panic (Bg br : Nat) (x0 x1 : Value) (w : World) (hc : w.cell? ⟨Bg, 0, none⟩ = some (.pointer (some ⟨br, 0, none⟩))) (h0 : w.cell? ⟨br, 0, none⟩ = some x0) (h1 : w.cell? ⟨br, 1, none⟩ = some x1) (f0 : w.frozen? ⟨br, 0, none⟩ = false) (f1 : w.frozen? ⟨br, 1, none⟩ = false) :
    CallsD Try.prog 41 #[.pointer (some ⟨Bg, 0, none⟩)] (.panicking [formP]) w fun e u' w' =>
      e = .returned (.tuple #[]) ∧ u' = .panicking [{ formP with recovered := true }] ∧ w' = (w.setCell ⟨br, 0, none⟩ (.slice none 0 0)).setCell ⟨br, 1, none⟩ (.int .i64 4) := by
  have heq : ∀ w : World, (binOp .eql 20 (.iface 44 (.int .i64 4)) .nilIface).run Try.prog w = .ok (.bool false) w := fun w => run_eql_held_nil w _ _ _ (by kernel_rfl)
  have hta : ∀ w : World, (Instr.typeAssert (.iface 44 (.int .i64 4)) 20 44 true).run Try.prog w = .ok (.tuple #[.int .i64 4, .bool true]) w := fun w => by
    simp [Instr.typeAssert, run_underlying Try.underlying44]
  refine callsD_of_wpS Try.func41 rfl fun c₀ cs hu => ?_
  apply wpS_seq
  apply wpS_region
  simp [wpOpsS, go_sem, recoverD, hu, Try.ntmps41, Exit.thenS, formP]
  apply wpS_seq
  apply wpS_seq
  apply wpS_region
  simp [wpOpsS, go_sem, Exit.thenS, heq]
  refine wpS_cond (t := false) (by simp [Act.eval]) ?_
  simp only [Bool.false_eq_true, if_false]
  refine wpS_of_wp (wp_skip ?_)
  simp only [Exit.thenS]
  apply wpS_seq
  apply wpS_region
  simp [wpOpsS, go_sem, Exit.thenS, hta]
  apply wpS_seq
  apply wpS_seq
  apply wpS_region
  simp [wpOpsS, go_sem, Exit.thenS]
  refine wpS_cond (t := false) (by simp [Act.eval]) ?_
  simp only [Bool.false_eq_true, if_false]
  refine wpS_of_wp (wp_skip ?_)
  simp only [Exit.thenS]
  apply wpS_region
  simp [wpOpsS, go_sem, hc, h0, f0, h1, f1, bodyPostS, results, Try.results41]

/-- .. and where the frame returned: nothing. -/
theorem wcatchB_idle (Bg : Nat) (w : World) :
    CallsD Try.prog 41 #[.pointer (some ⟨Bg, 0, none⟩)] .returning w fun e u' w' => e = .returned (.tuple #[]) ∧ u' = .returning ∧ w' = w := by
  have heq : ∀ w : World, (binOp .eql 20 .nilIface .nilIface).run Try.prog w = .ok (.bool true) w := fun w => run_eql_nil_nil w _ (by kernel_rfl)
  refine callsD_of_wpS Try.func41 rfl fun c₀ cs hu => ?_
  apply wpS_seq
  apply wpS_region
  simp [wpOpsS, go_sem, recoverD, hu, Try.ntmps41, Exit.thenS]
  apply wpS_seq
  apply wpS_seq
  apply wpS_region
  simp [wpOpsS, go_sem, Exit.thenS, heq]
  refine wpS_cond (t := true) (by simp [Act.eval]) ?_
  simp only [if_true]
  refine wpS_of_wp (wp_ret ?_)
  cases c₀
  simp_all [Exit.thenS, bodyPostS, results, Try.results41]

set_option maxHeartbeats 1600000 in
theorem wguardB_any (B1 B2 br : Nat) (s : RS) (most : Int) (w : World) (h : RdrS w br s) (c1 : w.cell? ⟨B1, 0, none⟩ = some (.pointer (some ⟨br, 0, none⟩))) (c2 : w.cell? ⟨B2, 0, none⟩ = some (.int .i64 most)) (l1 : B1 < w.heap.size) (l2 : B2 < w.heap.size) :
    Calls Try.prog 34 #[.pointer (some ⟨br, 0, none⟩), .func (.func 35) #[] #[.pointer (some ⟨B1, 0, none⟩), .pointer (some ⟨B2, 0, none⟩)]] w fun e w' =>
      RowOut br (rowStep most s) w e w' := by
  have hmf : ∀ (fn : Fn) (first cap : Array Value) (w : World), (Instr.makeFunc fn first cap).run Try.prog w = .ok (.func fn first cap) w := fun _ _ _ _ => rfl
  have hlt := h.lt
  have hbox : ∀ o : Obj, RdrS (w.alloc o) br s := fun o => h.alloc o
  have hmov : ∀ o : Obj, Moves (Blk br) w (w.alloc o) := fun o => (Moves.refl _ w).alloc o
  have hf := wfault_any br s (w.alloc (.cells #[.pointer (some ⟨br, 0, none⟩)] 38)) (hbox _)
  by_cases hk : s.ok = true
  · have hfo : faultOf s = 0 := by unfold faultOf; rw [if_pos hk]
    rw [hfo] at hf
    have c1' : (w.alloc (.cells #[.pointer (some ⟨br, 0, none⟩)] 38)).cell? ⟨B1, 0, none⟩ = some (.pointer (some ⟨br, 0, none⟩)) := by rw [World.cell?_alloc_lt _ _ _ l1]; exact c1
    have c2' : (w.alloc (.cells #[.pointer (some ⟨br, 0, none⟩)] 38)).cell? ⟨B2, 0, none⟩ = some (.int .i64 most) := by rw [World.cell?_alloc_lt _ _ _ l2]; exact c2
    have hp := wrow_lit B1 B2 br s most _ (hbox _) c1' c2'
    have hcg : ∀ w1, Moves (Blk br) (w.alloc (.cells #[.pointer (some ⟨br, 0, none⟩)] 38)) w1 → w1.cell? ⟨w.heap.size, 0, none⟩ = some (.pointer (some ⟨br, 0, none⟩)) := fun w1 hm => by
      rw [hm.cell (by simp) (fun e => by unfold Blk at e; simp at e; omega)]
      exact cell_new1 w _ _
    have HM := Lib.hid hmov; clear hmov
    have HC := Lib.hid hcg; clear hcg
    go_enter_defers Try.func34, Try.ntmps34
    go_wp2_with fail
    refine hf.mono ?_
    rintro e w1 ⟨rfl, rfl⟩
    go_wp2_with fail
    refine hp.mono ?_
    rintro e w2 (⟨v, r, A2, hn, rfl, hr2, hok2, hoff2, hs2, hm2⟩ | ⟨hn, rfl, hs2, hm2⟩)
    · have hst : rowStep most s = (v, ⟨r, true⟩) := by unfold rowStep; rw [if_pos hk, hn]
      have Hst := Lib.hid hst
      have hk2 : RdrS w2 br ⟨r, true⟩ := by rw [hk] at hs2; exact hs2
      have hcg := HC.out w2 hm2
      have Hr := Lib.hid hr2; clear hr2
      have Hm := Lib.hid ((HM.out _).go hm2); clear hm2
      have Hn := Lib.hid hn; clear hn hst
      go_wp2
      refine leaves_cons (f := 41) (args := #[.pointer (some ⟨w.heap.size, 0, none⟩)]) (by simp) (by simp [go_sem]) ?_
      refine (wcatchB_idle w.heap.size _).mono ?_
      rintro e u' w3 ⟨rfl, rfl, rfl⟩
      refine ⟨_, results_tmp rfl _ _ _, ?_⟩
      rw [Hst.out]
      exact ⟨A2, rfl, Hr.out, hok2, hoff2, hk2, Hm.out⟩
    · have hst : rowStep most s = ([], ⟨[], false⟩) := by unfold rowStep; rw [if_pos hk, hn]
      have Hst := Lib.hid hst
      obtain ⟨r, hs2⟩ := hs2
      have hcg := HC.out w2 hm2
      have Hf := Lib.hid (wfaulty hs2)
      have Hm := Lib.hid (wfaulty_moves ((HM.out _).go hm2) (show Blk br br from rfl)); clear hm2
      obtain ⟨A, n, c, h0, h1, f0, f1, _⟩ := hs2
      have hcp := wcatchB_panic w.heap.size br _ _ w2 hcg h0 h1 f0 f1
      clear hn hst h0 h1 f0 f1 hcg
      go_wp2
      refine leaves_cons (f := 41) (args := #[.pointer (some ⟨w.heap.size, 0, none⟩)]) (by simp) (by simp [go_sem]) ?_
      refine hcp.mono ?_
      rintro e u' w3 ⟨rfl, rfl, rfl⟩
      simp only [settle, List.dropWhile_nil]
      refine ⟨_, results_tmp rfl _ _ _, ?_⟩
      rw [Hst.out]
      exact ⟨none, rfl, Rd.nil, .nil, .none, Hf.out, Hm.out⟩
  · have hfo : faultOf s = 4 := by unfold faultOf; rw [if_neg hk]
    have hst : rowStep most s = ([], s) := by unfold rowStep; rw [if_neg hk]
    rw [hst]
    rw [hfo] at hf
    have HM := Lib.hid hmov; clear hmov
    have HB := Lib.hid hbox; clear hbox
    go_enter_defers Try.func34, Try.ntmps34
    go_wp2_with fail
    refine hf.mono ?_
    rintro e w1 ⟨rfl, rfl⟩
    go_wp2
    exact ⟨_, results_tmp rfl _ _ _, none, rfl, Rd.nil, .nil, .none, HB.out _, HM.out _⟩

set_option maxHeartbeats 400000 in
theorem wguardB_nil (x : Value) (w : World) :
    Calls Try.prog 34 #[.pointer none, x] w fun e w' => e = .returned (.slice none 0 0) ∧ Below w.heap.size w w' := by
  go_enter_defers Try.func34, Try.ntmps34
  go_wp2_with fail
  refine (wfault_nil _).mono ?_
  rintro e w1 ⟨rfl, rfl⟩
  go_wp2
  exact ⟨_, results_tmp rfl _ _ _, rfl, (Below.refl _ _).alloc (Nat.le_refl _) _⟩

end Go.Proofs.Ytodabjfddobkkaa
