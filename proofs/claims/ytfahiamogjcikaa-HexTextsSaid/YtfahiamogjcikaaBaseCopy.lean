import Derived.Test.YtfahiamogjcikaaBase
namespace Go.Proofs.Ytfahiamogjcikaa
open Go.RowKit

theorem copied {α : Type} (X L : List α) (m n : Nat) (hX : X.length = m) : (X.take n ++ L.drop (min m n)).take n = X.take n ++ (L.take n).drop m := by
  by_cases h : m ≤ n
  · rw [Nat.min_eq_left h, List.take_of_length_le (show X.length ≤ n by omega), List.take_append, List.take_of_length_le (show X.length ≤ n by omega), hX, List.drop_take]
  · have hl : (X.take n).length = n := by rw [List.length_take]; omega
    rw [List.take_append, hl, Nat.sub_self, List.take_zero, List.take_take, Nat.min_self, List.drop_eq_nil_of_le (by rw [List.length_take]; omega)]

/-- 'copy(out, src)': out a row of the call's own, from its head on. -/
theorem wp_copy_bytes {P : Program} {w : World} {ops : Array Oper} {rest : List Oper} {o : Oper} {a : Act} {Q : Exit → Act → World → Prop} (hgd : o.guard = none) (d s : Operand) (dT sT : TypeId)
    (ho : o.op = .call { callee := .builtin .copy, args := #[d, s], argTypes := #[dT, sT] }) (e : TypeId) (hu : P.underlying dT = some (.slice e))
    (hinfo : (P.info? e).map (fun i => (i.zero, i.size, i.bytes)) = some (some (.int .u8 0), 1, 1))
    (g n c base : Nat) (dl : List UInt8) (hd : a.eval d = .slice (some ⟨g, 0, none⟩) n c) (hown : w.ownsRow base e 1 (.slice (some ⟨g, 0, none⟩) n c) n (Byt dl))
    (A : Option Addr) (m c' B : Nat) (xs : List UInt8) (hs : a.eval s = .slice A m c') (hx : Rd w B A m (Byt xs)) (w0 : World) (B0 : Nat) (hb : Below B0 w0 w) (hBg : B0 ≤ g)
    (h : ∀ w', w'.ownsRow base e 1 (.slice (some ⟨g, 0, none⟩) n c) n (Byt (xs.take n ++ dl.drop xs.length)) → Below B0 w0 w' → wpList P ops Q rest (a.put o.dst (goInt ((min m n : Nat) : Int))) w') :
    wpList P ops Q (o :: rest) a w := by
  obtain ⟨i0, hi, hz0, hz1, hz2⟩ := info_parts hinfo
  have hxl := hx.bytes
  have hdl := own_len hown
  rcases hown.2 with ⟨h', _⟩ | ⟨g', cap, cur, h', hg, hh, hnc, hcm, hcs, htake⟩
  · simp at h'
  simp only [Value.slice.injEq, Option.some.injEq, Addr.mk.injEq, and_true, true_and] at h'
  obtain ⟨rfl, rfl⟩ := h'
  have hcl : ((Byt xs).take n).length = min m n := by simp [Byt, hxl]; omega
  simp only [Nat.mul_one] at hcs htake
  refine wpList_copy_splice hgd d s dT sT ho e hu (by rw [hi, Option.map_some, hz1]) (some ⟨g, 0, none⟩) A n c m c' hd hs g 0 cur.toList e (by simpa using hh) ((Byt xs).take n) hcl ?_ ?_ ?_ B0 w0 hb hBg ?_
  · intro hpos
    obtain ⟨b, o, rfl, hb', hc⟩ := hx.2 (by omega)
    refine ⟨rfl, ⟨b, o, none⟩, rfl, fun j v hj => ?_⟩
    rw [add_flat]
    refine hc j v ?_
    rw [List.getElem?_take] at hj
    split at hj
    · exact hj
    · cases hj
  · rw [hcl, Array.length_toList]; omega
  · intro v hv
    exact Byt_one xs v (List.mem_of_mem_take hv)
  · intro w' hw' hb'
    rw [hcl]
    refine h w' ⟨?_, .inr ⟨g, c, _, rfl, hg, hw'.out, hnc, hcm, ?_, ?_⟩⟩ hb'
    · rw [Byt_length, List.length_append, List.length_take, List.length_drop]; omega
    · rw [List.size_toArray, length_splice _ _ _ (by rw [hcl, Array.length_toList]; omega), Array.length_toList, hcs, Nat.mul_one]
    · simp only [splice, List.take_zero, List.nil_append, Nat.zero_add, Nat.mul_one, hcl]
      rw [Byt_append, Byt_take, Byt_drop, ← htake, hxl, copied _ _ m n (by rw [Byt_length, hxl])]

/-- One byte more, in a region that draws its order: the byte stands in a new block of its own. -/
theorem step_append_byte {P : Program} {ops : Array Oper} {o : Oper} {a : Act} {w : World} {K : Act → World → Prop} {Q : Exit → Act → World → Prop} {E : Prop} (hgd : o.guard = none) (s x : Operand) (t : TypeId)
    (ho : o.op = .call { callee := .builtin .append, args := #[s, x], argTypes := #[t, t] }) (e : TypeId) (ht : P.underlying t = some (.slice e))
    (hinfo : (P.info? e).map (fun i => (i.zero, i.size, i.bytes)) = some (some (.int .u8 0), 1, 1))
    (base n c g1 : Nat) (A : Option Addr) (l : List UInt8) (hs : a.eval s = .slice A n c) (hx : a.eval x = .slice (some ⟨g1, 0, none⟩) 1 1)
    (hown : w.ownsRow base e 1 (.slice A n c) n (Byt l)) (z : Int) (b : UInt8) (hz : z = (b.toNat : Int)) (hcell : w.cell? ⟨g1, 0, none⟩ = some (.int .u8 z))
    (hn : n + 1 ≤ 140737488355328) (hbase : base ≤ w.heap.size) (w0 : World) (B0 : Nat) (hb : Below B0 w0 w) (hB0 : B0 ≤ base)
    (h : ∀ A' c' w', w'.ownsRow base e 1 (.slice A' (n + 1) c') (n + 1) (Byt (l ++ [b])) → Below B0 w0 w' → K (a.put o.dst (.slice A' (n + 1) c')) w') :
    if Region.wanted o (yielded ops a.tmps) = true then Oper.wp P o a w K Q else E := by
  obtain ⟨i0, hi, hz0, hz1, hz2⟩ := info_parts hinfo
  refine step_append_lies w hgd s x t ho base e i0 (.int .u8 0) 1 1 ht hi hz0 hz1 hz2 rfl (by omega) _ n (Byt l) hs hown ⟨g1, 0, none⟩ 1 1 (Byt [b]) hx rfl ?_ (Byt_one _) (by omega) (by unfold maxLen; omega) (by omega) hbase w.heap.size rfl ?_
  · intro j u hj
    match j, hj with
    | 0, hj =>
      simp [Byt] at hj
      subst hj
      rw [add_flat, hcell, hz]
    | j + 1, hj => simp [Byt] at hj
  · intro g cap w' hown' hg _ _
    rw [← Byt_append] at hown'
    refine h _ _ w' hown' (hb.grown hg (by omega) ?_)
    intro k hk
    have := (hown.lt k hk).1
    omega

end Go.Proofs.Ytfahiamogjcikaa
