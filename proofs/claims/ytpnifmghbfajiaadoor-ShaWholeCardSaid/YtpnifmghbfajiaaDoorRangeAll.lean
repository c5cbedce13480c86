/-
  A range over a function whose rounds are never broken off, the elements told as they come: what is told of each is that it reads as bytes. No program is named here.
-/
import Derived.Test.YtpnifmghbfajiaaDoorFoot
import Derived.RangeFuncNested
import Derived.RangeFuncBound
import Derived.RangeFuncCalls
import Derived.RangeFuncLeaves
import Derived.RangeFuncBox
import Derived.Shelf.Abstract
import Derived.Shelf.RegionOpen
import Derived.OwnWalkIn
import Derived.TacticsInMore
import Derived.LoopNIn
import Derived.LoopIn
import Derived.Stop.RegionWithIn
import Derived.Sort.QuietIn
import Derived.Maps.AppendAt
namespace Go.Proofs.YtpnifmghbfajiaaDoor
open Go.RowKit Go.Shelf

/-- What a round is told: a slice that reads as these bytes. -/
def Elt (v : Value) (x : List UInt8) (W : World) : Prop := ∃ A n c, v = .slice A n c ∧ Rd W W.heap.size A n (Byt x) ∧ n ≤ c ∧ n ≤ 64
/-- What turned block gh alone, as a round may. -/
def Turns (gh : Nat) (W W' : World) : Prop := Moves (fun k => k = gh) W W' ∧ KeepsOthers W W'
/-- The caller's word: each round goes on. -/
def Sq (P : Program) (l gh : Nat) (J : List (List UInt8) → World → Prop) : Prop :=
  ∀ (m : Nat) (pre : List (List UInt8)) (x : List UInt8) (v : Value) (W : World), J pre W → Elt v x W → YieldAt Fence.wide m P l #[v] W fun e W' => e = .returned (.bool true) ∧ J (pre ++ [x]) W' ∧ Turns gh W W'
/-- What speaks of nothing from B on. -/
def Rests (B : Nat) (J : List (List UInt8) → World → Prop) : Prop := ∀ pre X Y, J pre X → Moves (fun k => B ≤ k) X Y → J pre Y
theorem Elt.small {v : Value} {x : List UInt8} {W : World} (h : Elt v x W) : x.length ≤ 64 := by
  obtain ⟨A, n, c, rfl, h1, _, h2⟩ := h
  have := h1.bytes; omega

theorem moves_put {F : Nat → Prop} (W : World) (l : Nat) (o : Obj) (hl : F l) : Moves F W (W.putObj l o) :=
  (Moves.refl F W).grown (grownBy_putObj' W l o) (fun k e => by cases e; exact .inl hl)

theorem wpIn_range_all {P : Program} {n : Nat} {g : Operand} {ps : Array Tmp} {assign body : Code} {Q : Exit → Act → World → Prop} {a : Act} {w : World} (h1 : 1 ≤ n) {gf : Nat} {lb : Array Value}
    (hg : a.eval g = .func (.func gf) #[] lb) (eg : ∀ args w, (callFunc gf args).run P w = .ok (.enter gf args) w) (gh : Nat) (hgh : gh < w.heap.size) (Fin : List (List UInt8))
    (I : List (List UInt8) → World → Prop) (hI : Rests w.heap.size I) (h0 : I [] w) (hps : ps.size = 1)
    (hseq : ∀ (l : Nat) (J : List (List UInt8) → World → Prop) (W : World), Below w.heap.size w W → w.heap.size ≤ W.heap.size → Rests W.heap.size J → Sq P l gh J → J [] W →
      CallsIn Fence.wide (n - 1) P gf (#[.func (.yield l) #[] #[]] ++ lb) W fun e W' => (∃ v, e = .returned v) ∧ J Fin W')
    (a₁ : Value → Act)
    (hassign : ∀ (m l : Nat) (v : Value) (W : World) (K : Act → World → Prop), K (a₁ v) W → assign.wpIn (Fence.wide.inRound l) m P (Exit.then K (fun _ _ _ => False)) { tmps := (ps.zip #[v]).foldl (fun t (p, v) => t.setIfInBounds p v) a.tmps, defers := [] } W)
    (hbody : ∀ (m l : Nat) (pre : List (List UInt8)) (x : List UInt8) (v : Value) (W : World), I pre W → Elt v x W → body.wpIn (Fence.wide.inRound l) m P (fun e _ W' => e = .normal ∧ I (pre ++ [x]) W' ∧ Turns gh W W') (a₁ v) W)
    (hdone : ∀ (D : Nat) (W : World), w.heap.size ≤ D → I Fin W → W.heap[D]? = some (.deferred (some [])) → Q .normal { a with defers := { target := .collected D, args := #[] } :: a.defers } W) :
    (Code.rangeFunc g ps assign body).wpIn Fence.wide n P Q a w := by
  refine wpIn_rangeFunc fun fn hfn => ?_
  obtain ⟨rec, hrec⟩ : ∃ rec : LoopState → Loop, rec = fun st => { state := st, pending := none, fn, tmps := a.tmps, params := ps, assign, body, defers := w.heap.size } := ⟨_, rfl⟩
  obtain ⟨W1, hW1⟩ : ∃ W1, (w.alloc (.deferred (some []))).alloc (.loop (rec .ready)) = W1 := ⟨_, rfl⟩
  have hL1 : W1.heap[w.heap.size + 1]? = some (.loop (rec .ready)) := by
    rw [← hW1]; have h := World.alloc_heap_new (w.alloc (.deferred (some []))) (.loop (rec .ready)); rwa [World.size_alloc] at h
  have hK1 : W1.heap[w.heap.size]? = some (.deferred (some [])) := by
    rw [← hW1]; exact (Below.heap_alloc _ _ _ (by simp)).trans (World.alloc_heap_new w _)
  have hsz1 : W1.heap.size = w.heap.size + 2 := by rw [← hW1]; simp
  have hb1 : Below w.heap.size w W1 := by rw [← hW1]; exact ((Below.refl _ w).alloc (Nat.le_refl _) _).alloc (by simp) _
  have hI1 : I [] W1 := hI _ _ _ h0 ⟨hb1.os, hb1.tape, hb1.output, hb1.size, fun k hk _ => hb1.block k hk⟩
  refine ⟨w.heap.size + 1, [{ target := .collected w.heap.size, args := #[] }], W1, { target := .fn (.func gf) lb, args := #[.func (.yield (w.heap.size + 1)) #[] #[]] }, W1, gf,
    #[.func (.yield (w.heap.size + 1)) #[] #[]] ++ lb, W1, ?_, ?_, ?_, ?_, fun _ => h1, ?_⟩
  · rw [← hW1, hrec]; exact run_enterLoop_outer _ _ _ _ _
  · simp only [resolve, hg]
    simp [go_sem]
  · intro _ _; trivial
  · simp [invoke, go_sem, eg]
  · refine (hseq (w.heap.size + 1) (fun pre W => I pre W ∧ W.heap[w.heap.size + 1]? = some (.loop (rec .ready)) ∧ W.heap[w.heap.size]? = some (.deferred (some []))) W1 hb1 (by omega) ?_ ?_ ⟨hI1, hL1, hK1⟩).mono ?_
    · rintro pre X Y ⟨hi, hl, hk⟩ hm
      have e1 := (Array.getElem?_eq_some_iff.1 hl).1
      exact ⟨hI _ _ _ hi (hm.wider fun k hk => by omega), (hm.block _ e1 (by omega)).trans hl, (hm.block _ (by omega) (by omega)).trans hk⟩
    · rintro m pre x v W ⟨hi, hl, hk⟩ hx
      have hlt : w.heap.size + 1 < W.heap.size := (Array.getElem?_eq_some_iff.1 hl).1
      have hy := run_yield (P := P) (args := #[v]) hl (by rw [hrec]; exact hps.symm)
      rw [hrec] at hy
      refine ⟨fn, _, assign, body, hy, roundIn_of_wpIn hfn (hassign _ _ v W _ ⟨_, run_beginRound hl (by rw [hrec]), ?_⟩)⟩
      have hm1 : Moves (fun k => k = w.heap.size + 1) W (W.putObj (w.heap.size + 1) (.loop { rec .ready with state := .busy })) := moves_put _ _ _ rfl
      have hx1 : Elt v x (W.putObj (w.heap.size + 1) (.loop { rec .ready with state := .busy })) := by
        obtain ⟨A, n', c, rfl, h2, h3⟩ := hx
        refine ⟨A, n', c, rfl, ⟨h2.1, fun h4 => ?_⟩, h3⟩
        obtain ⟨b, o, e, hb, hc⟩ := h2.2 h4
        have hne : b ≠ w.heap.size + 1 := by
          intro e2
          subst e2
          obtain ⟨u, hu⟩ : ∃ u, (Byt x)[0]? = some u := ⟨_, List.getElem?_eq_getElem (by have := h2.1; omega)⟩
          have h5 := hc 0 u hu
          simp [World.cell?, hl] at h5
        exact ⟨b, o, e, by have := hm1.size; omega, fun j u hu => (hm1.cell (p := ⟨b, o + j, none⟩) hb hne).trans (hc j u hu)⟩
      refine wpIn_mono (hbody _ _ pre x v _ (hI _ _ _ hi (hm1.wider fun k hk => by omega)) hx1) ?_
      rintro e a3 W3 ⟨rfl, hi3, hm3, hk3⟩
      have hl2 : (W.putObj (w.heap.size + 1) (.loop { rec .ready with state := .busy })).heap[w.heap.size + 1]? = some (.loop { rec .ready with state := .busy }) := World.putObj_heap_same hlt
      have hl3 := hk3.same _ _ hl2 rfl
      have hr := run_endRound (P := P) none hl3
      rw [show ({ ({ rec .ready with state := .busy } : Loop) with state := if (none : Option Code).isNone then .ready else .done, pending := none } : Loop) = rec .ready by rw [hrec]; rfl] at hr
      have hm4 : Moves (fun k => k = w.heap.size + 1) W3 (W3.putObj (w.heap.size + 1) (.loop (rec .ready))) := moves_put _ _ _ rfl
      have hl4 : (W3.putObj (w.heap.size + 1) (.loop (rec .ready))).heap[w.heap.size + 1]? = some (.loop (rec .ready)) := World.putObj_heap_same (Array.getElem?_eq_some_iff.1 hl3).1
      have hmm : Moves (fun k => k = gh) W (W3.putObj (w.heap.size + 1) (.loop (rec .ready))) :=
        ⟨hm4.os.trans (hm3.os.trans hm1.os), hm4.tape.trans (hm3.tape.trans hm1.tape), hm4.output.trans (hm3.output.trans hm1.output), Nat.le_trans hm1.size (Nat.le_trans hm3.size hm4.size), fun k hk hne => by
          by_cases e : k = w.heap.size + 1
          · subst e; rw [hl4, hl]
          · have h2 : k < (W.putObj (w.heap.size + 1) (.loop { rec .ready with state := .busy })).heap.size := Nat.lt_of_lt_of_le hk hm1.size
            exact (hm4.block k (Nat.lt_of_lt_of_le h2 hm3.size) e).trans ((hm3.block k h2 hne).trans (hm1.block k hk e))⟩
      refine ⟨_, _, hr, rfl, ⟨hI _ _ _ hi3 (hm4.wider fun k hk => by omega), hl4, ?_⟩, hmm, ⟨hmm.size, fun k o hk ho => ?_⟩⟩
      · exact (hmm.block _ (by omega) (by omega)).trans hk
      · by_cases e : k = w.heap.size + 1
        · subst e; rw [hl4, ← hl]; exact hk
        · have h2 : k < W.heap.size := (Array.getElem?_eq_some_iff.1 hk).1
          have h3 := hk3.same k o ((hm1.block k h2 e).trans hk) ho
          exact (hm4.block k (Array.getElem?_eq_some_iff.1 h3).1 e).trans h3
    · rintro e W2 ⟨⟨v, rfl⟩, hi, hl, hk⟩
      have hm5 : Moves (fun k => k = w.heap.size + 1) W2 (W2.putObj (w.heap.size + 1) (.loop { rec .ready with state := .exhausted })) := moves_put _ _ _ rfl
      have hend := run_endLoop (P := P) hl (by rw [hrec]; simp)
      refine ⟨none, _, by rw [hrec] at hend ⊢; exact hend, hdone _ _ (Nat.le_refl _) (hI _ _ _ hi (hm5.wider fun k hk => by omega)) ?_⟩
      exact (hm5.block _ (Array.getElem?_eq_some_iff.1 hk).1 (by omega)).trans hk

end Go.Proofs.YtpnifmghbfajiaaDoor
