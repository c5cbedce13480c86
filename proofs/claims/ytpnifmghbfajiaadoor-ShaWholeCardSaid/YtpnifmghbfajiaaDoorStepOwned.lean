/-
  'append(row, other...)', both owned, in a region that draws. No program is named here.
-/
import Derived.Test.YtpnifmghbfajiaaDoorFoot
import Derived.Deep.AppendLies
import Derived.Deep.RegionHeldLaw
namespace Go.Proofs.YtpnifmghbfajiaaDoor
open Go.RowKit

theorem step_append_owned {P : Program} {w : World} {ops : Array Oper} {o : Oper} {a : Act} {K : Act → World → Prop} {Q : Exit → Act → World → Prop} {E : Prop} (hgd : o.guard = none) (s x : Operand) (t : TypeId)
    (ho : o.op = .call { callee := .builtin .append, args := #[s, x], argTypes := #[t, t] }) (e : TypeId) (ht : P.underlying t = some (.slice e)) (hinfo : (P.info? e).map (fun i => (i.zero, i.size, i.bytes)) = some (some (.int .u8 0), 1, 1))
    (base n c : Nat) (A : Option Addr) (xs : List UInt8) (hs : a.eval s = .slice A n c) (hown : w.ownsRow base e 1 (.slice A n c) n (Byt xs))
    (base2 m c2 : Nat) (A2 : Option Addr) (ys : List UInt8) (hx : a.eval x = .slice A2 m c2) (hown2 : w.ownsRow base2 e 1 (.slice A2 m c2) m (Byt ys)) (hm : 0 < m) (hb : n + m ≤ 8796093022208) (hbase : base ≤ w.heap.size)
    (h : ∀ g cap w', w'.ownsRow base e 1 (.slice (some ⟨g, 0, none⟩) (n + m) cap) (n + m) (Byt (xs ++ ys)) → Moves (fun k => base ≤ k) w w' → K (a.put o.dst (.slice (some ⟨g, 0, none⟩) (n + m) cap)) w') :
    if Region.wanted o (yielded ops a.tmps) = true then Oper.wp P o a w K Q else E := by
  obtain ⟨i0, hi, hi0, hi1, hi2⟩ := info_parts hinfo
  obtain ⟨g2, rfl, _, _⟩ := own_some hown2 hm
  refine step_append_lies w hgd s x t ho base e i0 (.int .u8 0) 1 1 ht hi hi0 hi1 hi2 rfl (by decide) (.slice A n c) n (Byt xs) hs hown ⟨g2, 0, none⟩ m c2 (Byt ys) hx (by rw [Byt_length, Nat.mul_one]; exact own_len hown2) ?_ (Byt_one _) hm (by unfold maxLen; omega) (by omega) hbase _ rfl ?_
  · intro j u hj
    obtain ⟨b', o', e1, _, hc⟩ := (Rd.of_own hown2).2 hm
    injection e1 with e1
    injection e1 with e2 e3
    subst e2 e3
    rw [add_flat]
    exact hc j u hj
  · intro g cap w' h1 h2 _ _
    rw [← Byt_append] at h1
    exact h g cap w' h1 ((Moves.refl _ w).grown h2 (fun k hk => .inl (hown.lt k hk).1))

/-- What stands behind a region that is left by its end alone. -/
def OnlyN (Q : Exit → Act → World → Prop) : Exit → Act → World → Prop
  | .normal, a, w => Q .normal a w
  | _, _, _ => False
theorem wp_onlyN {P : Program} {c : Code} {Q : Exit → Act → World → Prop} {a : Act} {w : World} (h : c.wp P (OnlyN Q) a w) : c.wp P Q a w :=
  wp_mono h fun e a' w' hq => by cases e <;> first | exact hq | exact hq.elim

end Go.Proofs.YtpnifmghbfajiaaDoor
