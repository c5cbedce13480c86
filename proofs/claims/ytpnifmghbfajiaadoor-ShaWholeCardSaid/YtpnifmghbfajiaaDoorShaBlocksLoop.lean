/-
  The loop of the sequence of blocks: two rows, each in pieces.
-/
import Derived.Test.YtpnifmghbfajiaaDoorRangeAll
import Derived.Test.YtpnifmghbfajiaaDoorHexChunk
import Derived.Test.YtpnifmghbfajiaaDoorShaBlk
namespace Go.Proofs.YtpnifmghbfajiaaDoor
open Go.RowKit Go.Shelf

attribute [local go_sem] Oper.semAt_some

/-- The first loop of a body. -/
def firstLoop : Code → Option Code
  | .loop c => some c
  | .seq a b => (firstLoop a).or (firstLoop b)
  | .block _ c => firstLoop c
  | .scope c => firstLoop c
  | _ => none

/-- What rounds and new things leave: all but block gh. -/
def Past (gh B : Nat) (w w' : World) : Prop := Moves (fun k => k = gh ∨ B ≤ k) w w'

theorem RoundIn.wide_any {m m' : Nat} {P : Program} {l l' : Nat} {f : FuncId} {tmps : Array Value} {assign body : Code} {w : World} {R : Ending → World → Prop} (h : RoundIn Fence.wide m P l f tmps assign body w R) :
    RoundIn (Fence.wide.inRound l') m' P l f tmps assign body w R := ⟨h.1, fun c cs _ => h.2 c cs (room_wide _)⟩
theorem Past.rd {gh B : Nat} {w w' : World} {A : Option Addr} {n : Nat} {xs : List Value} (h : Past gh B w w') (hr : Rd w w.heap.size A n xs) (hB : w.heap.size ≤ B) (ho : 0 < n → Off (fun k => k = gh) A) : Rd w' w'.heap.size A n xs :=
  (hr.moves h (Nat.le_refl _) (fun hn a ha => by
    obtain ⟨b, o, e, hb, _⟩ := hr.2 hn
    have := ho hn a ha
    rw [e] at ha
    injection ha with ha
    subst ha
    intro h2
    have h3 : b = gh ∨ B ≤ b := h2
    rcases h3 with h3 | h3
    · exact this h3
    · omega)).wider h.size
theorem Past.cell {gh B b o : Nat} {w w' : World} {v : Value} (h : Past gh B w w') (hc : w.cell? ⟨b, o, none⟩ = some v) (hb : b ≠ gh) (hB : w.heap.size ≤ B) : w'.cell? ⟨b, o, none⟩ = some v := by
  have hlt := block_lt_of_cell hc
  exact (Moves.cell h (p := ⟨b, o, none⟩) hlt (fun h2 => by
    have h3 : b = gh ∨ B ≤ b := h2
    have h4 : b < w.heap.size := hlt
    omega)).trans hc

set_option maxRecDepth 100000 in
set_option maxHeartbeats 4000000 in
theorem blocks1_loop (d l gh B s s6 n1 c1 n2 c2 : Nat) (A1 A2 : Option Addr) (L1 L2 : List UInt8) (J : List (List UInt8) → World → Prop) (R : Ending → World → Prop) (c : Code) (hc : ((Tryd.f37).body.bind firstLoop) = some c)
    (u1 u3 u4 u5 u6 u7 u8 u9 u10 u11 u12 u13 u14 u15 u16 u17 u18 u19 u20 u21 u22 u23 u27 u28 u29 u30 u31 u32 u33 u34 u35 u36 u37 : Value) (w : World) (hJ : Rests B J) (hY : Sq Tryd.prog l gh J) (hgB : gh < B) (hBw : B ≤ w.heap.size) (h0 : J [] w)
    (hs : w.cell? ⟨s, 0, none⟩ = some (.func (.yield l) #[] #[])) (hsg : s ≠ gh) (hl1 : w.cell? ⟨s6, 0, none⟩ = some (.slice A1 n1 c1)) (hl2 : w.cell? ⟨s6, 1, none⟩ = some (.slice A2 n2 c2)) (hs6 : s6 ≠ gh)
    (hR1 : Rd w w.heap.size A1 n1 (Byt L1)) (hO1 : 0 < n1 → Off (fun k => k = gh) A1) (hn1 : n1 ≤ c1) (hb1 : n1 ≤ 1099511627776)
    (hR2 : Rd w w.heap.size A2 n2 (Byt L2)) (hO2 : 0 < n2 → Off (fun k => k = gh) A2) (hn2 : n2 ≤ c2) (hb2 : n2 ≤ 1099511627776)
    (hR : ∀ v w', J (cutsU 64 L1 (numU 64 L1) ++ cutsU 64 L2 (numU 64 L2)) w' → R (.returned v) w') :
    (Code.loop c).wp Tryd.prog (Exit.inBlock 0 (bodyPostM Fence.wide d Tryd.prog Tryd.f37 R)) { tmps := #[.func (.yield l) #[] #[], u1, .pointer (some ⟨s, 0, none⟩), u3, u4, u5, u6, u7, u8, u9, u10, u11, u12, u13, u14, u15, u16, u17, u18, u19, u20, u21, u22, u23, .slice (some ⟨s6, 0, none⟩) 2 2, .int .i64 2, .int .i64 0, u27, u28, u29, u30, u31, u32, u33, u34, u35, u36, u37], defers := [] } w := by
  have hro : Fence.wide.round = none := rfl
  simp only [Tryd.f37, Option.bind_some, firstLoop, Option.or_some, Option.some.injEq] at hc
  subst hc
  refine wp_loop_rounds 3 ?_
  rw [rounds_succ]
  go_wp2_with fail
  refine (chunk_any n1 c1 64 A1 (by decide) _).mono ?_
  rintro e w' ⟨rfl, rfl⟩
  go_wp2_with fail
  have k1 : Below w.heap.size w ((w.alloc (.cells #[.slice A1 n1 c1] 30)).alloc (.cells #[.int .i64 64] 3)) := ((Below.refl _ w).alloc (Nat.le_refl _) _).alloc (by simp) _
  have a1 : ((w.alloc (.cells #[.slice A1 n1 c1] 30)).alloc (.cells #[.int .i64 64] 3)).cell? ⟨w.heap.size, 0, none⟩ = some (.slice A1 n1 c1) := (Boxed.new w 30 (.slice A1 n1 c1)).alloc _ |>.cell
  have b1 : ((w.alloc (.cells #[.slice A1 n1 c1] 30)).alloc (.cells #[.int .i64 64] 3)).cell? ⟨w.heap.size + 1, 0, none⟩ = some (.int .i64 64) := by
    have h := (Boxed.new (w.alloc (.cells #[.slice A1 n1 c1] 30)) 3 (.int .i64 64)).cell
    rwa [World.size_alloc] at h
  have z1 : ((w.alloc (.cells #[.slice A1 n1 c1] 30)).alloc (.cells #[.int .i64 64] 3)).heap.size = w.heap.size + 2 := by simp
  revert k1 a1 b1 z1
  generalize (w.alloc (.cells #[.slice A1 n1 c1] 30)).alloc (.cells #[.int .i64 64] 3) = x1
  intro k1 a1 b1 z1
  obtain ⟨pb1, po1, hA1⟩ : ∃ b o, 0 < n1 → A1 = some ⟨b, o, none⟩ := by
    rcases Nat.eq_zero_or_pos n1 with h | h
    · exact ⟨0, 0, fun h' => by omega⟩
    · obtain ⟨b, o, e, _⟩ := hR1.2 h
      exact ⟨b, o, fun _ => e⟩
  have p1 : Past gh x1.heap.size w x1 := (Moves.of_below k1)
  have j1 : J [] x1 := hJ _ _ _ h0 (Moves.of_below k1)
  have hb01 : B ≤ x1.heap.size := by omega
  have r1 : Rd x1 x1.heap.size A1 n1 (Byt L1) := (hR1.below k1).wider k1.size
  have s1 : x1.cell? ⟨s, 0, none⟩ = some (.func (.yield l) #[] #[]) := (k1.cell (p := ⟨s, 0, none⟩) (block_lt_of_cell hs)).trans hs
  refine (wpIn_wide (n := 20)).1 ?_
  refine' wpIn_rangeFunc_ownF hro (by decide) (gf := 40) (lb := #[.pointer (some ⟨w.heap.size, 0, none⟩), .pointer (some ⟨w.heap.size + 1, 0, none⟩)]) rfl trivial (enters_of Tryd.func40 (by kernel_rfl) rfl)
    (chunk_stops 19 (by decide) w.heap.size (w.heap.size + 1) pb1 po1 n1 c1 64 A1 hA1 L1 hR1.bytes hb1 hn1 (by decide) (by decide) x1 (by omega) (by omega) a1 b1) KC2.t (KC2.b (by omega) (by omega)) (Below.refl _ _) (fun _ => rfl)
    (fun (pre : List Nat) W' => J ([] ++ pre.map (cutU 64 L1)) W' ∧ Past gh x1.heap.size x1 W') (fun _ _ _ => False) ?hI (fun _ _ _ _ _ h _ _ => h) ⟨by simpa using j1, Moves.refl _ _⟩ _ ?assign ?body ?done ?stop
  case hI =>
    rintro pre X Y row ⟨hj, hp⟩ hg hr
    exact ⟨hJ _ X Y hj ((Moves.refl _ X).grown hg (fun k hk => .inl (Nat.le_trans hb01 (hr k hk).1))), Moves.grown hp hg (fun k hk => .inl (.inr (hr k hk).1))⟩
  case assign =>
    intro l' x W3 K hK
    gi_wp2
    exact hK
  case body =>
    rintro l' pre x W3 ⟨hj, hp⟩ hlt
    have hr3 := hp.rd r1 (Nat.le_refl _) hO1
    have hc3 := hp.cell s1 hsg (Nat.le_refl _)
    have hel : Elt (chunkV pb1 po1 n1 64 x) (cutU 64 L1 x) W3 := ⟨_, _, _, rfl, chunk_rd (m := 64) hr3 hA1 x, Nat.le_refl _, by omega⟩
    obtain ⟨fn, tmps, assign, body, hy, hRn⟩ := hY 17 _ _ _ W3 hj hel
    gi_wp2
    refine RoundIn.mono (RoundIn.wide_any hRn) ?_
    rintro e W4 ⟨rfl, hj4, hT⟩
    gi_wp2
    have q1 := (block_lt_of_cell (hp.cell a1 (by omega) (Nat.le_refl _)) : w.heap.size < W3.heap.size)
    have q2 := (block_lt_of_cell (hp.cell b1 (by omega) (Nat.le_refl _)) : w.heap.size + 1 < W3.heap.size)
    exact ⟨hT.2, ⟨hT.1.cell (p := ⟨w.heap.size, 0, none⟩) q1 (by show ¬ w.heap.size = gh; omega), hT.1.cell (p := ⟨w.heap.size + 1, 0, none⟩) q2 (by show ¬ w.heap.size + 1 = gh; omega)⟩, by simpa [List.append_assoc] using hj4, Moves.go hp (hT.1.wider fun k hk => .inl hk)⟩
  case stop =>
    rintro D c pre W3 hD hpre h hK
    exact h.elim
  case done =>
    rintro D1 ys w1 hD1 rfl ⟨J1, P1⟩ hK1
    have J1' : J (cutsU 64 L1 (numU 64 L1)) w1 := by simpa [cutsU] using J1
    have hs' := P1.cell s1 hsg (Nat.le_refl _)
    have hl2' : w1.cell? ⟨s6, 1, none⟩ = some (.slice A2 n2 c2) := P1.cell ((k1.cell (p := ⟨s6, 1, none⟩) (block_lt_of_cell hl2)).trans hl2) hs6 (Nat.le_refl _)
    have hR2' : Rd w1 w1.heap.size A2 n2 (Byt L2) := P1.rd ((hR2.below k1).wider k1.size) (Nat.le_refl _) hO2
    have hBw1 : B ≤ w1.heap.size := Nat.le_trans hb01 P1.size
    clear hR1 hR2 hs hl1 hl2 h0 J1 a1 b1 r1 s1 j1 p1 hA1 k1
    go_wp2_with fail
    rw [rounds_succ]
    go_wp2_with fail
    refine (chunk_any n2 c2 64 A2 (by decide) _).mono ?_
    rintro e w' ⟨rfl, rfl⟩
    go_wp2_with fail
    have k2 : Below w1.heap.size w1 ((w1.alloc (.cells #[.slice A2 n2 c2] 30)).alloc (.cells #[.int .i64 64] 3)) := ((Below.refl _ w1).alloc (Nat.le_refl _) _).alloc (by simp) _
    have a2 : ((w1.alloc (.cells #[.slice A2 n2 c2] 30)).alloc (.cells #[.int .i64 64] 3)).cell? ⟨w1.heap.size, 0, none⟩ = some (.slice A2 n2 c2) := (Boxed.new w1 30 (.slice A2 n2 c2)).alloc _ |>.cell
    have b2 : ((w1.alloc (.cells #[.slice A2 n2 c2] 30)).alloc (.cells #[.int .i64 64] 3)).cell? ⟨w1.heap.size + 1, 0, none⟩ = some (.int .i64 64) := by
      have h := (Boxed.new (w1.alloc (.cells #[.slice A2 n2 c2] 30)) 3 (.int .i64 64)).cell
      rwa [World.size_alloc] at h
    have z2 : ((w1.alloc (.cells #[.slice A2 n2 c2] 30)).alloc (.cells #[.int .i64 64] 3)).heap.size = w1.heap.size + 2 := by simp
    revert k2 a2 b2 z2
    generalize (w1.alloc (.cells #[.slice A2 n2 c2] 30)).alloc (.cells #[.int .i64 64] 3) = x2
    intro k2 a2 b2 z2
    obtain ⟨pb2, po2, hA2⟩ : ∃ b o, 0 < n2 → A2 = some ⟨b, o, none⟩ := by
      rcases Nat.eq_zero_or_pos n2 with h | h
      · exact ⟨0, 0, fun h' => by omega⟩
      · obtain ⟨b, o, e, _⟩ := hR2'.2 h
        exact ⟨b, o, fun _ => e⟩
    have p2 : Past gh x2.heap.size w1 x2 := (Moves.of_below k2)
    have j2 : J (cutsU 64 L1 (numU 64 L1)) x2 := hJ _ _ _ J1' (Moves.of_below k2)
    have hb02 : B ≤ x2.heap.size := by omega
    have r2 : Rd x2 x2.heap.size A2 n2 (Byt L2) := (hR2'.below k2).wider k2.size
    have s2 : x2.cell? ⟨s, 0, none⟩ = some (.func (.yield l) #[] #[]) := (k2.cell (p := ⟨s, 0, none⟩) (block_lt_of_cell hs')).trans hs'
    refine (wpIn_wide (n := 20)).1 ?_
    refine' wpIn_rangeFunc_ownF hro (by decide) (gf := 40) (lb := #[.pointer (some ⟨w1.heap.size, 0, none⟩), .pointer (some ⟨w1.heap.size + 1, 0, none⟩)]) rfl trivial (enters_of Tryd.func40 (by kernel_rfl) rfl)
      (chunk_stops 19 (by decide) w1.heap.size (w1.heap.size + 1) pb2 po2 n2 c2 64 A2 hA2 L2 hR2'.bytes hb2 hn2 (by decide) (by decide) x2 (by omega) (by omega) a2 b2) KC2.t (KC2.b (by omega) (by omega)) (Below.refl _ _) (fun _ => rfl)
      (fun (pre : List Nat) W' => J (cutsU 64 L1 (numU 64 L1) ++ pre.map (cutU 64 L2)) W' ∧ Past gh x2.heap.size x2 W') (fun _ _ _ => False) ?hI (fun _ _ _ _ _ h _ _ => h) ⟨by simpa using j2, Moves.refl _ _⟩ _ ?assign ?body ?done ?stop
    case hI =>
      rintro pre X Y row ⟨hj, hp⟩ hg hr
      exact ⟨hJ _ X Y hj ((Moves.refl _ X).grown hg (fun k hk => .inl (Nat.le_trans hb02 (hr k hk).1))), Moves.grown hp hg (fun k hk => .inl (.inr (hr k hk).1))⟩
    case assign =>
      intro l' x W3 K hK
      gi_wp2
      exact hK
    case body =>
      rintro l' pre x W3 ⟨hj, hp⟩ hlt
      have hr3 := hp.rd r2 (Nat.le_refl _) hO2
      have hc3 := hp.cell s2 hsg (Nat.le_refl _)
      have hel : Elt (chunkV pb2 po2 n2 64 x) (cutU 64 L2 x) W3 := ⟨_, _, _, rfl, chunk_rd (m := 64) hr3 hA2 x, Nat.le_refl _, by omega⟩
      obtain ⟨fn, tmps, assign, body, hy, hRn⟩ := hY 17 _ _ _ W3 hj hel
      gi_wp2
      refine RoundIn.mono (RoundIn.wide_any hRn) ?_
      rintro e W4 ⟨rfl, hj4, hT⟩
      gi_wp2
      have q3 := (block_lt_of_cell (hp.cell a2 (by omega) (Nat.le_refl _)) : w1.heap.size < W3.heap.size)
      have q4 := (block_lt_of_cell (hp.cell b2 (by omega) (Nat.le_refl _)) : w1.heap.size + 1 < W3.heap.size)
      exact ⟨hT.2, ⟨hT.1.cell (p := ⟨w1.heap.size, 0, none⟩) q3 (by show ¬ w1.heap.size = gh; omega), hT.1.cell (p := ⟨w1.heap.size + 1, 0, none⟩) q4 (by show ¬ w1.heap.size + 1 = gh; omega)⟩, by simpa [List.append_assoc] using hj4, Moves.go hp (hT.1.wider fun k hk => .inl hk)⟩
    case stop =>
      rintro D c pre W3 hD hpre h hK
      exact h.elim
    case done =>
      rintro D2 ys w2 hD2 rfl ⟨J2, P2⟩ hK2
      go_wp2_with fail
      rw [rounds_succ]
      have d1 : D1 < w1.heap.size := (Array.getElem?_eq_some_iff.1 hK1).1
      have d1x : D1 < x2.heap.size := by omega
      have hK1' : w2.heap[D1]? = some (.deferred (some [])) := (Moves.block P2 D1 d1x (fun h => by
        have h2 : D1 = gh ∨ x2.heap.size ≤ D1 := h
        omega)).trans ((k2.block D1 d1).trans hK1)
      have hK1'' : (w2.putObj D2 (.deferred none)).heap[D1]? = some (.deferred (some [])) := (World.putObj_heap_other (by omega)).trans hK1'
      have hfin : J (cutsU 64 L1 (numU 64 L1) ++ cutsU 64 L2 (numU 64 L2)) ((w2.putObj D2 (.deferred none)).putObj D1 (.deferred none)) :=
        hJ _ _ _ (hJ _ _ _ J2 (moves_put _ _ _ (show B ≤ D2 by omega))) (moves_put _ _ _ (show B ≤ D1 by omega))
      go_wp2
      exact ⟨by simp, .inl ⟨_, _, rfl, run_takeDeferred hK2, ⟨by simp, .inl ⟨_, _, rfl, run_takeDeferred hK1'', ⟨_, results_none rfl _ _ _, hR _ _ hfin⟩⟩⟩⟩⟩

end Go.Proofs.YtpnifmghbfajiaaDoor
