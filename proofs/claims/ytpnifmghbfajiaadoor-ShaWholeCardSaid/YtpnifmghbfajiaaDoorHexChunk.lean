/-
  slices.Chunk over bytes: the iterator, and the sequence that it is.
-/
import Derived.Test.YtpnifmghbfajiaaDoorChunkS
import Derived.Test.YtpnifmghbfajiaaDoorFacts
import Derived.RangeFuncNested
import Derived.RangeFuncBound
import Derived.RangeFuncCalls
import Derived.RangeFuncLeaves
import Derived.RangeFuncBox
import Derived.Shelf.Abstract
import Derived.Shelf.RegionOpen
import Derived.OwnWalkIn
import Derived.TacticsInMore
import Derived.LoopNIn
import Derived.LoopIn
import Derived.Stop.RegionWithIn
import Derived.Sort.QuietIn
import Derived.Maps.AppendAt
namespace Go.Proofs.YtpnifmghbfajiaaDoor
open Go.RowKit Go.Shelf

attribute [local go_sem] Oper.semAt_some

/-- What the rounds keep: the two cells that the iterator reads. -/
structure KC2 (Bn Bm : Nat) (W W' : World) : Prop where
  one : W'.cell? ⟨Bn, 0, none⟩ = W.cell? ⟨Bn, 0, none⟩
  two : W'.cell? ⟨Bm, 0, none⟩ = W.cell? ⟨Bm, 0, none⟩
theorem KC2.t {Bn Bm : Nat} {A B C : World} (h : KC2 Bn Bm A B) (k : KC2 Bn Bm B C) : KC2 Bn Bm A C := ⟨k.one.trans h.one, k.two.trans h.two⟩

/-- The j-th chunk, as the value that is handed over. -/
def chunkV (b o n m j : Nat) : Value := .slice (some ⟨b, o + j * m, none⟩) (min m (n - j * m)) (min m (n - j * m))

set_option maxHeartbeats 800000 in
theorem chunk_any (n c m : Nat) (A : Option Addr) (hm : 0 < m) (w : World) : Calls Tryd.prog 39 #[.slice A n c, .int .i64 (m : Int)] w fun e w' =>
    e = .returned (.func (.func 40) #[] #[.pointer (some ⟨w.heap.size, 0, none⟩), .pointer (some ⟨w.heap.size + 1, 0, none⟩)]) ∧ w' = (w.alloc (.cells #[.slice A n c] 30)).alloc (.cells #[.int .i64 (m : Int)] 3) := by
  have h1 : ¬ ((m : Int) < 1) := by omega
  go_enter Tryd.func39, Tryd.ntmps39
  go_wp2
  go_ret
  exact ⟨rfl, rfl⟩

set_option maxRecDepth 100000 in
set_option maxHeartbeats 4000000 in
/-- The iterator: the chunks, in their order. -/
theorem chunk1_in (d : Nat) (hd : 1 ≤ d) (l Bn Bm b o n c m : Nat) (A : Option Addr) (hA : 0 < n → A = some ⟨b, o, none⟩) (xs : List UInt8) (hxl : xs.length = n) (hn : n ≤ 1099511627776) (hnc : n ≤ c) (hm : 0 < m) (hm64 : m ≤ 64) (J Jx : List Nat → World → Prop)
    (hY : ∀ pre x W, J pre W → pre.length < numU m xs → YieldAt Fence.wide (d - 1) Tryd.prog l #[chunkV b o n m x] W fun e W' =>
      (e = .returned (.bool true) ∧ J (pre ++ [x]) W' ∧ KC2 Bn Bm W W') ∨ (e = .returned (.bool false) ∧ Jx (pre ++ [x]) W'))
    (W : World) (hJ : AbidesFrom W.heap.size J) (hc : W.cell? ⟨Bn, 0, none⟩ = some (.slice A n c)) (hc2 : W.cell? ⟨Bm, 0, none⟩ = some (.int .i64 (m : Int))) (h0 : J [] W) :
    CallsIn Fence.wide d Tryd.prog 40 #[.func (.yield l) #[] #[], .pointer (some ⟨Bn, 0, none⟩), .pointer (some ⟨Bm, 0, none⟩)] W fun e W' => (∃ v, e = .returned v) ∧
      ((∃ ys, ys = List.range (numU m xs) ∧ J ys W') ∨ (∃ pre, pre <+: List.range (numU m xs) ∧ Jx pre W')) := by
  have hJd : ∀ pre W q, J pre W → J pre (World.drewN W q) := fun pre W q h => hJ pre W _ none h ⟨rfl, rfl, rfl, Nat.le_refl _, fun _ _ _ => rfl⟩ (fun r e => by cases e)
  refine callsIn_of_wp Tryd.func40 rfl trivial ?_ rfl
  simp only [Tryd.ntmps40, List.size_toArray, List.length_cons, List.length_nil, Nat.reduceAdd, Nat.reduceSub, Array.replicate_succ, Array.replicate_zero, List.push_toArray, List.append_toArray, List.nil_append, List.cons_append]
  gi_wp2
  gi_loopw [4] (fun fv wr => ∃ k p : Nat, fv = .int .i64 (p : Int) ∧ Hid (p = k * m) ∧ p < n + m ∧ wr.cell? ⟨Bn, 0, none⟩ = some (.slice A n c) ∧ wr.cell? ⟨Bm, 0, none⟩ = some (.int .i64 (m : Int)) ∧ J (List.range k) wr)
    (fun fv _ => n + m - (intOf fv).toNat)
  case atStart => exact ⟨0, 0, rfl, Lib.hid (by omega), by omega, hc, hc2, h0⟩
  case round =>
    obtain ⟨k, p, rfl, Hp, hp, hcb, hcm, hJs⟩ := hrel
    by_cases hlt : p < n
    · obtain rfl := hA (by omega)
      have hkn : k < numU m xs := (num_lt hm).1 (by rw [hxl, ← Hp.out]; exact hlt)
      have hkl : (List.range k).length < numU m xs := by rw [List.length_range]; exact hkn
      by_cases hfit : p + m ≤ n
      · have hv : chunkV b o n m k = .slice (some ⟨b, o + p, none⟩) m m := by
          unfold chunkV
          rw [← Hp.out, show min m (n - p) = m by omega]
        have t1 : (p : Int) + (m : Int) ≤ (n : Int) := by omega
        have t2 : ((p : Int) + (m : Int)).toNat = p + m := by omega
        have t3 : p + m - p = m := by omega
        have t4 : p ≤ p + m := by omega
        have t5 : p + m ≤ c := by omega
        have t6 : min (m : Int) ((n - p : Nat) : Int) = (m : Int) := by omega
        have Hv := Lib.hid hv; clear hv
        have Hkl := Lib.hid hkl; clear hkl
        have Hkn := Lib.hid hkn; clear hkn
        gi_wp2
        gi_quiet (fail)
        obtain ⟨fn, tmps, assign, body, hy, hR⟩ := hY (List.range k) k (wr.drewN nq) (hJd _ _ _ hJs) Hkl.out
        rw [Hv.out] at hy
        gi_wp2
        refine hR.mono ?_
        rintro e W3 (⟨rfl, hJ3, hk3⟩ | ⟨rfl, hJx3⟩)
        · have hcb3 : W3.cell? ⟨Bn, 0, none⟩ = some (.slice (some ⟨b, o, none⟩) n c) := hk3.one.trans hcb
          have hcm3 : W3.cell? ⟨Bm, 0, none⟩ = some (.int .i64 (m : Int)) := hk3.two.trans hcm
          rw [← List.range_succ] at hJ3
          gi_wp2
          go_roundw
          case rel => exact ⟨k + 1, p + m, by go_num, Lib.hid (by rw [Nat.succ_mul, Hp.out]), by omega, hcb3, hcm3, hJ3⟩
          case measure => simp [intOf]; omega
        · rw [← List.range_succ] at hJx3
          have hpre : List.range (k + 1) <+: List.range (numU m xs) := by
            rw [List.prefix_iff_eq_take, List.length_range, List.take_range]
            rw [Nat.min_eq_left Hkn.out]
          have Hpre := Lib.hid hpre; clear hpre
          gi_wp2
          refine bodyPost_ret (results_none rfl _ _ _) rfl ?_
          exact ⟨⟨_, rfl⟩, .inr ⟨_, Hpre.out, hJx3⟩⟩
      · have hv : chunkV b o n m k = .slice (some ⟨b, o + p, none⟩) (n - p) (n - p) := by
          unfold chunkV
          rw [← Hp.out, show min m (n - p) = n - p by omega]
        have t1 : ¬ ((p : Int) + (m : Int) ≤ (n : Int)) := by omega
        have t2 : (n : Int) < (p : Int) + (m : Int) := by omega
        have t6 : min (m : Int) ((n - p : Nat) : Int) = ((n - p : Nat) : Int) := by omega
        have Hv := Lib.hid hv; clear hv
        have Hkl := Lib.hid hkl; clear hkl
        have Hkn := Lib.hid hkn; clear hkn
        gi_wp2
        gi_quiet (fail)
        obtain ⟨fn, tmps, assign, body, hy, hR⟩ := hY (List.range k) k (wr.drewN nq) (hJd _ _ _ hJs) Hkl.out
        rw [Hv.out] at hy
        gi_wp2
        refine hR.mono ?_
        rintro e W3 (⟨rfl, hJ3, hk3⟩ | ⟨rfl, hJx3⟩)
        · have hcb3 : W3.cell? ⟨Bn, 0, none⟩ = some (.slice (some ⟨b, o, none⟩) n c) := hk3.one.trans hcb
          have hcm3 : W3.cell? ⟨Bm, 0, none⟩ = some (.int .i64 (m : Int)) := hk3.two.trans hcm
          rw [← List.range_succ] at hJ3
          gi_wp2
          go_roundw
          case rel => exact ⟨k + 1, p + m, by go_num, Lib.hid (by rw [Nat.succ_mul, Hp.out]), by omega, hcb3, hcm3, hJ3⟩
          case measure => simp [intOf]; omega
        · rw [← List.range_succ] at hJx3
          have hpre : List.range (k + 1) <+: List.range (numU m xs) := by
            rw [List.prefix_iff_eq_take, List.length_range, List.take_range]
            rw [Nat.min_eq_left Hkn.out]
          have Hpre := Lib.hid hpre; clear hpre
          gi_wp2
          refine bodyPost_ret (results_none rfl _ _ _) rfl ?_
          exact ⟨⟨_, rfl⟩, .inr ⟨_, Hpre.out, hJx3⟩⟩
    · have hk := num_of hxl hm Hp.out hlt hp
      subst hk
      gi_wp2
      go_end0
      exact ⟨⟨_, rfl⟩, .inl ⟨_, rfl, hJs⟩⟩

theorem KC2.b {Bn Bm : Nat} {w : World} (h1 : Bn < w.heap.size) (h2 : Bm < w.heap.size) (W : World) (l : Nat) (o o' : Obj) (hl : w.heap.size ≤ l) (_h : W.heap[l]? = some o) (_hc : o.isCells = false) (_hw : o.isWalk = false) : KC2 Bn Bm W (W.putObj l o') :=
  ⟨World.cell?_of_block (World.putObj_heap_other (by show Bn ≠ l; omega)), World.cell?_of_block (World.putObj_heap_other (by show Bm ≠ l; omega))⟩

theorem chunk_stops (d : Nat) (hd : 1 ≤ d) (Bn Bm b o n c m : Nat) (A : Option Addr) (hA : 0 < n → A = some ⟨b, o, none⟩) (xs : List UInt8) (hxl : xs.length = n) (hn : n ≤ 1099511627776) (hnc : n ≤ c) (hm : 0 < m) (hm64 : m ≤ 64) (w : World) (hBn : Bn < w.heap.size) (hBm : Bm < w.heap.size)
    (hc : w.cell? ⟨Bn, 0, none⟩ = some (.slice A n c)) (hc2 : w.cell? ⟨Bm, 0, none⟩ = some (.int .i64 (m : Int))) :
    SeqStopsK Fence.wide d Tryd.prog 40 #[.pointer (some ⟨Bn, 0, none⟩), .pointer (some ⟨Bm, 0, none⟩)] (fun x : Nat => #[chunkV b o n m x]) (KC2 Bn Bm) (fun ys => ys = List.range (numU m xs)) (fun pre => pre <+: List.range (numU m xs)) (numU m xs) w :=
  fun l J Jx W hW hJ _ hY h0 => chunk1_in d hd l Bn Bm b o n c m A hA xs hxl hn hnc hm hm64 J Jx hY W hJ ((hW.cell (p := ⟨Bn, 0, none⟩) hBn).trans hc) ((hW.cell (p := ⟨Bm, 0, none⟩) hBm).trans hc2) h0

/-- Any chunk reads as its bytes. -/
theorem chunk_rd {w : World} {B n b o m : Nat} {A : Option Addr} {xs : List UInt8} (hx : Rd w B A n (Byt xs)) (hA : 0 < n → A = some ⟨b, o, none⟩) (j : Nat) : Rd w B (some ⟨b, o + j * m, none⟩) (min m (n - j * m)) (Byt (cutU m xs j)) := by
  by_cases h : j * m < n
  · have e := hA (by omega)
    subst e
    exact hx.cut rfl rfl (by omega)
  · have hl := hx.bytes
    rw [show min m (n - j * m) = 0 by omega]
    have e : cutU m xs j = [] := by
      unfold cutU
      rw [List.drop_eq_nil_of_le (by omega), List.take_nil]
    rw [e]
    exact ⟨rfl, fun h => absurd h (by omega)⟩

/-- One thing more in a region of a round that draws: it stands behind what is owned. -/
theorem stepIn_append {F : Fence} {d : Nat} {P : Program} {ops : Array Oper} {o : Oper} {a : Act} {w : World} {K : Act → World → Prop} {Q : Exit → Act → World → Prop} {E : Prop} (hg : o.guard = none) (s x : Operand) (t : TypeId) (hop : o.op = Op.call { callee := Callee.builtin Builtin.append, args := #[s, x], argTypes := #[t, t] })
    (base : Nat) (e : TypeId) (i : TypeInfo) (z : Value) (size bytes : Nat) (h1 : P.underlying t = some (.slice e)) (h2 : P.info? e = some i) (h3 : i.zero = some z) (h4 : i.size = size) (h5 : i.bytes = bytes) (h6 : z.cells.size = size) (h7 : 0 < size)
    (v : Value) (k : Nat) (xs : List Value) (hs : a.eval s = v) (hown : w.ownsRow base e size v k xs) (ad : Addr) (m c : Nat) (news : List Value) (hx : a.eval x = .slice (some ad) m c) (hn : news.length = m * size)
    (hc : ∀ j u, news[j]? = some u → w.cell? (ad.add j) = some u) (h1c : ∀ u ∈ news, u.oneCell' = true) (b1 : k + m ≤ maxLen) (b2 : (k + m) * bytes ≤ 140737488355328) (b3 : base ≤ w.heap.size)
    (hK : ∀ v' w', w'.ownsRow base e size v' (k + m) (xs ++ news) → w.grownBy w' v.ownBlock → K (a.put o.dst v') w') :
    if Region.wanted o (yielded ops a.tmps) = true then Oper.wpIn F d P o a w K Q else E := by
  have hw : Region.wanted o (yielded ops a.tmps) = true := by simp [Region.wanted, hg]
  rw [if_pos hw]
  obtain ⟨v', w', hrun, r1, r2, r3⟩ := run_append_own (P := P) w base t o.type e i z size bytes h1 h2 h3 h4 h5 h6 h7 v k xs hown ad m c news hn hc h1c b1 b2 b3
  unfold Oper.wpIn
  refine ⟨?_, ?_⟩
  · simp [Oper.about, hop, resolve, Target.leads, Sem.run_pure]
  · rw [Oper.semAt_plain F _ _ (by rw [hop]; intro c hc'; cases hc')]
    simp [execOp, hop, resolve, invoke, builtin, hs, hx, hrun, Result.andThen]
    exact hK v' w' r1 r2

end Go.Proofs.YtpnifmghbfajiaaDoor
