/-
  Some of the texts that the last one of these needs: walks of the functions that the law calls, and the mathematics of their answers.
-/
import Derived.Test.YtfkfkmdnffpcmaaPkBase2
import Derived.Test.YtfkfkmdnffpcmaaPkBase3
import Derived.Deep.RegionHeld3
import Derived.ChangeKeysEq
import Derived.Laws.StructEq
import Derived.Test.YtfkfkmdnffpcmaaPkBase1
namespace Go.Proofs.Ytfkfkmdnffpcmaa
open Go.RowKit

/-- The three arrays, and what was there. -/
def RMixS (w : World) (B g1 g2 g3 : Nat) (t : TypeId) (l m n : List Nat) (w' : World) : Prop :=
  Arr w' g1 t .u8 l ∧ Arr w' g2 t .u8 m ∧ Arr w' g3 t .u8 n ∧ Below w.heap.size w w' ∧ g1 < B ∧ g2 < B ∧ g3 < B ∧ w.heap.size ≤ B ∧ B ≤ w'.heap.size
section
variable {w w' : World} {B g1 g2 g3 : Nat} {t : TypeId} {l m n : List Nat}
theorem rmix_drewN (h : RMixS w B g1 g2 g3 t l m n w') (k : Nat) : RMixS w B g1 g2 g3 t l m n (w'.drewN k) := ⟨h.1, h.2.1, h.2.2.1, bdrewN h.2.2.2.1 k, h.2.2.2.2⟩
theorem rmix_alloc (h : RMixS w B g1 g2 g3 t l m n w') (o : Obj) : RMixS w B g1 g2 g3 t l m n (w'.alloc o) :=
  ⟨h.1.alloc o, h.2.1.alloc o, h.2.2.1.alloc o, h.2.2.2.1.alloc h.2.2.2.1.size o, h.2.2.2.2.1, h.2.2.2.2.2.1, h.2.2.2.2.2.2.1, h.2.2.2.2.2.2.2.1, by have := h.2.2.2.2.2.2.2.2; simp; omega⟩
theorem rmix_below (h : RMixS w B g1 g2 g3 t l m n w') {w2 : World} (hb : Below w'.heap.size w' w2) : RMixS w B g1 g2 g3 t l m n w2 :=
  ⟨h.1.below hb h.1.lt, h.2.1.below hb h.2.1.lt, h.2.2.1.below hb h.2.2.1.lt, abon h.2.2.2.1 hb, h.2.2.2.2.1, h.2.2.2.2.2.1, h.2.2.2.2.2.2.1, h.2.2.2.2.2.2.2.1, by have := h.2.2.2.2.2.2.2.2; have := hb.size; omega⟩
theorem rmix_row (h : RMixS w B g1 g2 g3 t l m n w') {g : Nat} (hg : B ≤ g) (cs : Array Value) : RMixS w B g1 g2 g3 t l m n (w'.setRow g cs) :=
  ⟨h.1.setRow_other (by have := h.2.2.2.2.1; omega), h.2.1.setRow_other (by have := h.2.2.2.2.2.1; omega), h.2.2.1.setRow_other (by have := h.2.2.2.2.2.2.1; omega), bsetRow h.2.2.2.1 (by have := h.2.2.2.2.2.2.2.1; omega) cs, h.2.2.2.2.1, h.2.2.2.2.2.1, h.2.2.2.2.2.2.1, h.2.2.2.2.2.2.2.1, by simpa using h.2.2.2.2.2.2.2.2⟩
theorem rmix_set (h : RMixS w B g1 g2 g3 t l m n w') (h1 : g1 ≠ g3) (h2 : g2 ≠ g3) (h3 : w.heap.size ≤ g3) (j x : Nat) : RMixS w B g1 g2 g3 t l m (n.set j x) (w'.setCell ⟨g3, j, none⟩ (.int .u8 (x : Int))) :=
  ⟨h.1.other h1, h.2.1.other h2, h.2.2.1.set, h.2.2.2.1.setCell h3 _, h.2.2.2.2.1, h.2.2.2.2.2.1, h.2.2.2.2.2.2.1, h.2.2.2.2.2.2.2.1, by simpa using h.2.2.2.2.2.2.2.2⟩
end

set_option maxHeartbeats 1600000 in
theorem ramix_any (s : List UInt8) (w : World) (hs : s.length = 16) :
    Calls Try.prog 32 #[.agg (Nums .u8 (abn s))] w (AnsA w .u8 (abn (amixU s))) := by
  have Hat := Lib.hid (fun c (hc : c < 4) => amix_at hs hc)
  have Hl : Hid ((abn s).length = 16) := Lib.hid (by rw [abn_length, hs])
  have HL : Hid ((abn (amixU s)).length = 16) := Lib.hid (by rw [abn_length, amix_length hs])
  clear hs
  revert Hat Hl HL
  generalize abn (amixU s) = L
  generalize abn s = l
  intro Hat Hl HL
  go_enter Try.func32, Try.ntmps32
  go_wp2_with (refine wp_box_arr (k := .u8) rfl 23 (.tmp 0) rfl l rfl ?_)
  intro w1 g1 G1 H1 Hb1 Hs1
  go_wp2_with (refine wp_alloc_arr (k := .u8) rfl 23 rfl 16 zero16 ?_)
  intro w2 g2 G2 H2 Hb2 Hs2
  go_wp2_with (refine wp_alloc_arr (k := .u8) rfl 23 rfl 16 zero16 ?_)
  intro w3 g3 G3 H3 Hb3 Hs3
  have Hg : Hid (w.heap.size ≤ g1 ∧ w.heap.size ≤ g2 ∧ w.heap.size ≤ g3 ∧ g1 ≠ g3 ∧ g2 ≠ g3 ∧ g1 ≠ g2) := Lib.hid (by have := G1.out; have := G2.out; have := G3.out; have := Hs1.out; have := Hs2.out; omega)
  have K1 : Hid (Arr w3 g1 23 .u8 l) := Lib.hid ((H1.out.below Hb2.out H1.out.lt).below Hb3.out (Nat.lt_of_lt_of_le H1.out.lt Hb2.out.size))
  have K2 : Hid (Arr w3 g2 23 .u8 (Zs 16)) := Lib.hid (H2.out.below Hb3.out H2.out.lt)
  have B3 : Hid (Below w.heap.size w w3) := Lib.hid ((Hb1.out.trans (Hb2.out.mono Hb1.out.size)).trans (Hb3.out.mono (Nat.le_trans Hb1.out.size Hb2.out.size)))
  have K3 : Hid (Arr w3 g3 23 .u8 (L.take (4 * 0) ++ (Zs 16).drop (4 * 0))) := Lib.hid H3.out
  clear H1 H2 H3 Hb1 Hb2 Hb3 G1 G2 G3 Hs1 Hs2 Hs3
  go_wp2
  go_loopw [4] (fun i wr => ∃ c : Nat, c ≤ 4 ∧ i = .int .i64 (c : Int) ∧ Hid (Arr wr g1 23 .u8 l) ∧ Hid (Arr wr g2 23 .u8 (Zs 16)) ∧ Hid (Arr wr g3 23 .u8 (L.take (4 * c) ++ (Zs 16).drop (4 * c))) ∧ Hid (Below w.heap.size w wr)) (fun i _ => 4 - (intOf i).toNat)
  case atStart => exact ⟨0, by omega, rfl, K1, K2, K3, B3⟩
  case round =>
    clear K1 K2 K3 B3
    obtain ⟨c, hc, rfl, K1, K2, K3, B3⟩ := hrel
    by_cases hlt : c < 4
    · obtain ⟨p, q, r, t, hin, hout⟩ := Hat.out c hlt
      have Hout := Lib.hid hout
      have Hin := Lib.hid hin
      have c0 := K1.out.at_ (hin 0 _ rfl)
      have c1 := K1.out.at_ (hin 1 _ rfl)
      have c2 := K1.out.at_ (hin 2 _ rfl)
      have c3 := K1.out.at_ (hin 3 _ rfl)
      have hc' : ∀ w, Calls Try.prog 40 #[.agg #[.int .u8 (p.toNat : Int), .int .u8 (q.toNat : Int), .int .u8 (r.toNat : Int), .int .u8 (t.toNat : Int)]] w (AnsA w .u8 (gcolU p q r t)) := fun w => rgcolumn_any p q r t w
      obtain ⟨o, ho⟩ : ∃ o, 4 * c = o := ⟨_, rfl⟩
      rw [ho] at K3 Hin Hout c0 c1 c2 c3
      rw [Nat.add_zero] at c0
      have ho16 : o < 13 := by omega
      have Ho := Lib.hid ho
      have r0 : IntKind.i64.wrap (4 * (c : Int)) = 4 * (c : Int) := IntWalk.i64_in _ ⟨by omega, by omega⟩
      have r1 : IntKind.i64.wrap (4 * (c : Int) + 1) = 4 * (c : Int) + 1 := IntWalk.i64_in _ ⟨by omega, by omega⟩
      have r2 : IntKind.i64.wrap (4 * (c : Int) + 2) = 4 * (c : Int) + 2 := IntWalk.i64_in _ ⟨by omega, by omega⟩
      have r3 : IntKind.i64.wrap (4 * (c : Int) + 3) = 4 * (c : Int) + 3 := IntWalk.i64_in _ ⟨by omega, by omega⟩
      have i0 := fun W => run_indexAt_arr (g := g1) arr16 info_u8n o (4 * (c : Int)) (by omega) (by omega) W
      have i1 := fun W => run_indexAt_arr (g := g1) arr16 info_u8n (o + 1) (4 * (c : Int) + 1) (by omega) (by omega) W
      have i2 := fun W => run_indexAt_arr (g := g1) arr16 info_u8n (o + 2) (4 * (c : Int) + 2) (by omega) (by omega) W
      have i3 := fun W => run_indexAt_arr (g := g1) arr16 info_u8n (o + 3) (4 * (c : Int) + 3) (by omega) (by omega) W
      clear hin hout ho
      go_wp2_with fail
      obtain ⟨B0, HB0⟩ : ∃ B0, Hid (wr.heap.size = B0) := ⟨_, Lib.hid rfl⟩
      have F0 : Hid (RMixS w B0 g1 g2 g3 23 l (Zs 16) (L.take o ++ (Zs 16).drop o) wr) := Lib.hid (by rw [← HB0.out]; exact ⟨K1.out, K2.out, K3.out, B3.out, K1.out.lt, K2.out.lt, K3.out.lt, B3.out.size, Nat.le_refl _⟩)
      have mk : Hid (∀ W, RMixS w B0 g1 g2 g3 23 l (Zs 16) (L.take o ++ (Zs 16).drop o) W → W.cell? ⟨g1, o, none⟩ = some (.int .u8 (p.toNat : Int)) ∧ W.cell? ⟨g1, o + 1, none⟩ = some (.int .u8 (q.toNat : Int)) ∧ W.cell? ⟨g1, o + 2, none⟩ = some (.int .u8 (r.toNat : Int)) ∧ W.cell? ⟨g1, o + 3, none⟩ = some (.int .u8 (t.toNat : Int)) ∧ Hid (RMixS w B0 g1 g2 g3 23 l (Zs 16) (L.take o ++ (Zs 16).drop o) W)) :=
        Lib.hid fun W h => ⟨h.1.at_ (Hin.out 0 _ rfl), h.1.at_ (Hin.out 1 _ rfl), h.1.at_ (Hin.out 2 _ rfl), h.1.at_ (Hin.out 3 _ rfl), Lib.hid h⟩
      have back : Hid (∀ W, (W.cell? ⟨g1, o, none⟩ = some (.int .u8 (p.toNat : Int)) ∧ W.cell? ⟨g1, o + 1, none⟩ = some (.int .u8 (q.toNat : Int)) ∧ W.cell? ⟨g1, o + 2, none⟩ = some (.int .u8 (r.toNat : Int)) ∧ W.cell? ⟨g1, o + 3, none⟩ = some (.int .u8 (t.toNat : Int)) ∧ Hid (RMixS w B0 g1 g2 g3 23 l (Zs 16) (L.take o ++ (Zs 16).drop o) W)) → RMixS w B0 g1 g2 g3 23 l (Zs 16) (L.take o ++ (Zs 16).drop o) W) :=
        Lib.hid fun W h => h.2.2.2.2.out
      have hstA : ∀ W : World, (storeCells ⟨W.heap.size, 0, none⟩ (Nums .u8 (gcolU p q r t)).toList).run Try.prog (W.alloc (.cells #[.int .u8 0, .int .u8 0, .int .u8 0, .int .u8 0] 51)) = .ok () ((W.alloc (.cells #[.int .u8 0, .int .u8 0, .int .u8 0, .int .u8 0] 51)).setRow W.heap.size (Nums .u8 (gcolU p q r t))) := fun W => run_storeCells_arr (t := 51) (l := Zs 4) (by have h := Arr.new (w := W) (t := 51) (k := .u8) (l := Zs 4); exact h) rfl
      clear K1 K2 K3 B3 c0 c1 c2 c3
      go_region_held3 (fun w' => w'.cell? ⟨g1, o, none⟩ = some (.int .u8 (p.toNat : Int)) ∧ w'.cell? ⟨g1, o + 1, none⟩ = some (.int .u8 (q.toNat : Int)) ∧ w'.cell? ⟨g1, o + 2, none⟩ = some (.int .u8 (r.toNat : Int)) ∧ w'.cell? ⟨g1, o + 3, none⟩ = some (.int .u8 (t.toNat : Int)) ∧ Hid (RMixS w B0 g1 g2 g3 23 l (Zs 16) (L.take o ++ (Zs 16).drop o) w'))
        (first
          | exact mk.out _ (rmix_drewN F0.out 1)
          | exact mk.out _ (rmix_drewN (rmix_alloc F0.out _) 1)
          | exact mk.out _ (rmix_alloc (back.out _ (by assumption)) _)
          | exact mk.out _ (rmix_below (back.out _ (by assumption)) (by exact Hb5.out))
          | exact mk.out _ (rmix_row (back.out _ (by assumption)) (by first | exact HB5.out | exact Nat.le_of_eq HB0.out.symm) _))
        (first
          | (go_at_call 40; (with_reducible refine (hc' wr.drew).mono ?_); rintro e w5 ⟨rfl, hb5⟩; have Hb5 := Lib.hid hb5; have HB5 : Hid (B0 ≤ w5.heap.size) := Lib.hid (by rw [← HB0.out]; exact hb5.size); clear hb5)
          | (go_at_call 40; (with_reducible refine (hc' (wr.alloc (.cells #[.int .u8 0, .int .u8 0, .int .u8 0, .int .u8 0] 51)).drew).mono ?_); rintro e w5 ⟨rfl, hb5⟩; have Hb5 := Lib.hid hb5; have A5 : Hid (Arr w5 wr.heap.size 51 .u8 (Zs 4)) := Lib.hid ((Arr.new (w := wr) (t := 51) (k := .u8) (l := Zs 4)).drew.below hb5 (by simp)); have hstB : (storeCells ⟨wr.heap.size, 0, none⟩ (Nums .u8 (gcolU p q r t)).toList).run Try.prog w5 = .ok () (w5.setRow wr.heap.size (Nums .u8 (gcolU p q r t))) := run_storeCells_arr A5.out rfl; clear hb5))
      all_goals first
        | (have F5 : Hid (RMixS w B0 g1 g2 g3 23 l (Zs 16) (L.take o ++ (Zs 16).drop o) ((w5.alloc (.cells #[.int .u8 0, .int .u8 0, .int .u8 0, .int .u8 0] 51)).setRow w5.heap.size (Nums .u8 (gcolU p q r t)))) := Lib.hid (back.out _ (by assumption))
           have H5 : Hid (Arr ((w5.alloc (.cells #[.int .u8 0, .int .u8 0, .int .u8 0, .int .u8 0] 51)).setRow w5.heap.size (Nums .u8 (gcolU p q r t))) w5.heap.size 51 .u8 (gcolU p q r t)) := Lib.hid (Arr.setRow (l := Zs 4) (by have h := Arr.new (w := w5) (t := 51) (k := .u8) (l := Zs 4); exact h))
           have HB : Hid (B0 ≤ w5.heap.size) := HB5
           revert F5 H5 HB
           generalize (w5.alloc (.cells #[.int .u8 0, .int .u8 0, .int .u8 0, .int .u8 0] 51)).setRow w5.heap.size (Nums .u8 (gcolU p q r t)) = W5
           generalize w5.heap.size = g5
           intro F5 H5 HB)
        | (have F5 : Hid (RMixS w B0 g1 g2 g3 23 l (Zs 16) (L.take o ++ (Zs 16).drop o) (w5.setRow wr.heap.size (Nums .u8 (gcolU p q r t)))) := Lib.hid (back.out _ (by assumption))
           have H5 : Hid (Arr (w5.setRow wr.heap.size (Nums .u8 (gcolU p q r t))) wr.heap.size 51 .u8 (gcolU p q r t)) := Lib.hid A5.out.setRow
           have HB : Hid (B0 ≤ wr.heap.size) := Lib.hid (Nat.le_of_eq HB0.out.symm)
           revert F5 H5 HB
           generalize w5.setRow wr.heap.size (Nums .u8 (gcolU p q r t)) = W5
           generalize wr.heap.size = g5
           intro F5 H5 HB)
      all_goals
        clear mk back hstA i0 i1 i2 i3 r0 r1 r2 r3 hc' HB0 F0
        have F6 : Hid (RMixS w B0 g1 g2 g3 23 l (Zs 16) (L.take (o + 0) ++ (Zs 16).drop (o + 0)) W5) := F5
        go_wp2
        go_loopw [6] (fun i wr => ∃ v : Nat, v ≤ 4 ∧ i = .int .i64 (v : Int) ∧ Hid (Arr wr g5 51 .u8 (gcolU p q r t)) ∧ Hid (RMixS w B0 g1 g2 g3 23 l (Zs 16) (L.take (o + v) ++ (Zs 16).drop (o + v)) wr)) (fun i _ => 4 - (intOf i).toNat)
        case atStart => exact ⟨0, by omega, rfl, H5, F6⟩
        case round =>
          clear F5 F6 H5
          obtain ⟨v, hv, rfl, H5, F5⟩ := hrel
          by_cases hlv : v < 4
          · obtain ⟨x, hx⟩ : ∃ x : Nat, (gcolU p q r t)[v]? = some x := ⟨_, List.getElem?_eq_getElem (show v < (gcolU p q r t).length from hlv)⟩
            have Hx := Lib.hid (Hout.out v x hx)
            obtain ⟨q', hq'⟩ : ∃ q', o + v = q' := ⟨_, rfl⟩
            rw [hq'] at Hx F5
            have Hq := Lib.hid hq'
            have hq16 : q' < 16 := by omega
            have eq' : 4 * (c : Int) + (v : Int) = (q' : Int) := by have := Ho.out; omega
            have hin := H5.out.at_ hx
            have hout := F5.out.2.2.1.at_ (fill_get (L := L) (M := Zs 16) (i := q') (by rw [Zs_length]; exact hq16) (by rw [HL.out]; omega))
            have hfz := F5.out.2.2.1.frozen q'
            clear hx hq'
            go_wp2
            go_roundw
            case rel =>
              refine ⟨v + 1, by omega, by go_num, Lib.hid (H5.out.other (show g5 ≠ g3 by have := F5.out.2.2.2.2.2.2.1; have := HB.out; omega)), Lib.hid ?_⟩
              have h := rmix_set F5.out Hg.out.2.2.2.1 Hg.out.2.2.2.2.1 Hg.out.2.2.1 q' x
              rw [afill_step Hx.out (by rw [Zs_length]; exact hq16)] at h
              rw [show o + (v + 1) = q' + 1 by have := Hq.out; omega]
              exact h
            case measure => simp [intOf]; omega
          · obtain rfl : v = 4 := by omega
            have e4 : o + 4 = 4 * (c + 1) := by have := Ho.out; omega
            rw [e4] at F5
            clear e4
            go_wp2
            go_roundw
            case rel => exact ⟨c + 1, by omega, by go_num, Lib.hid F5.out.1, Lib.hid F5.out.2.1, Lib.hid F5.out.2.2.1, Lib.hid F5.out.2.2.2.1⟩
            case measure => simp [intOf]; omega
    · have hk4 : c = 4 := by omega
      have Hr : Hid (Arr wr g3 23 .u8 L) := Lib.hid (by have h := K3.out; rw [hk4, fill_all HL.out (Zs_length _)] at h; exact h)
      go_wp2_with (first
        | refine wp_load_arr arr16 rfl (.tmp 3) rfl rfl Hr.out HL.out ?_
        | refine wp_put_arr arr16 rfl (.tmp 2) (.tmp 44) rfl rfl (l' := L) rfl K2.out (Zs_length _) HL.out ?_)
      intro w5 H5 Hm5 Hs5
      go_wp2
      exact ret_arr arr16 rfl rfl H5.out HL.out rfl ⟨rfl, B3.out.trans (Hm5.out.below (fun j hj => by have := Hg.out; omega) B3.out.size)⟩

end Go.Proofs.Ytfkfkmdnffpcmaa

namespace Go.Proofs.Ytfkfkmdnffpcmaa
open Go.RowKit

set_option maxHeartbeats 1600000 in
theorem raadd_any (s t : List UInt8) (w : World) (hs : s.length = 16) (ht : t.length = 16) :
    Calls Try.prog 29 #[.agg (Nums .u8 (abn s)), .agg (Nums .u8 (abn t))] w (AnsA w .u8 (abn (aaddU s t))) := by
  have Hat : Hid (∀ k, k < 16 → ∃ x y : UInt8, (abn s)[k]? = some x.toNat ∧ (abn t)[k]? = some y.toNat ∧ (abn (aaddU s t))[k]? = some (x ^^^ y).toNat) := Lib.hid (fun k hk => by
    obtain ⟨x, y, h1, h2, h3⟩ := aadd_at (s := s) (t := t) (k := k) (by omega) (by omega)
    exact ⟨x, y, abn_get h1, abn_get h2, abn_get h3⟩)
  have Hl : Hid ((abn s).length = 16) := Lib.hid (by rw [abn_length, hs])
  have Hm : Hid ((abn t).length = 16) := Lib.hid (by rw [abn_length, ht])
  have HL : Hid ((abn (aaddU s t)).length = 16) := Lib.hid (by rw [abn_length, aadd_length hs ht])
  clear hs ht
  revert Hat Hl Hm HL
  generalize abn (aaddU s t) = L
  generalize abn s = l
  generalize abn t = m
  intro Hat Hl Hm HL
  go_enter Try.func29, Try.ntmps29
  go_wp2_with (refine wp_box_arr (k := .u8) rfl 23 (.tmp 0) rfl l rfl ?_)
  intro w1 g1 G1 H1 Hb1 Hs1
  go_wp2_with (refine wp_box_arr (k := .u8) rfl 23 (.tmp 1) rfl m rfl ?_)
  intro w2 g2 G2 H2 Hb2 Hs2
  go_wp2_with (refine wp_alloc_arr (k := .u8) rfl 23 rfl 16 zero16 ?_)
  intro w3 g3 G3 H3 Hb3 Hs3
  have Hg : Hid (w.heap.size ≤ g1 ∧ w.heap.size ≤ g2 ∧ w.heap.size ≤ g3 ∧ g1 ≠ g3 ∧ g2 ≠ g3 ∧ g1 ≠ g2) := Lib.hid (by have := G1.out; have := G2.out; have := G3.out; have := Hs1.out; have := Hs2.out; omega)
  have K1 : Hid (Arr w3 g1 23 .u8 (L.take 0 ++ l.drop 0)) := Lib.hid ((H1.out.below Hb2.out H1.out.lt).below Hb3.out (Nat.lt_of_lt_of_le H1.out.lt Hb2.out.size))
  have K2 : Hid (Arr w3 g2 23 .u8 m) := Lib.hid (H2.out.below Hb3.out H2.out.lt)
  have B3 : Hid (Below w.heap.size w w3) := Lib.hid ((Hb1.out.trans (Hb2.out.mono Hb1.out.size)).trans (Hb3.out.mono (Nat.le_trans Hb1.out.size Hb2.out.size)))
  clear H1 H2 Hb1 Hb2 Hb3 G1 G2 G3 Hs1 Hs2 Hs3
  go_wp2
  go_loopw [5] (fun i wr => ∃ k : Nat, k ≤ 16 ∧ i = .int .i64 (k : Int) ∧ Hid (Arr wr g2 23 .u8 m) ∧ Hid (Arr wr g3 23 .u8 (Zs 16)) ∧ Hid (Arr wr g1 23 .u8 (L.take k ++ l.drop k)) ∧ Hid (Below w.heap.size w wr)) (fun i _ => 16 - (intOf i).toNat)
  case atStart => exact ⟨0, by omega, rfl, K2, H3, K1, B3⟩
  case round =>
    clear K1 K2 B3 H3
    obtain ⟨k, hk, rfl, K2, K3, K1, B3⟩ := hrel
    by_cases hlt : k < 16
    · obtain ⟨x, y, hx, hy, hxy⟩ := Hat.out k hlt
      have hin := K1.out.at_ (afill_at hx (L := L) (by rw [HL.out]; omega))
      have hin2 := K2.out.at_ hy
      have hfz := K1.out.frozen k
      have hxor := gxor_u8 x y
      have Hy : Hid (L[k]? = some (x ^^^ y).toNat) := Lib.hid hxy
      clear hx hy hxy
      generalize x ^^^ y = z at *
      go_wp2
      go_region
      go_wp2
      go_roundw
      case rel =>
        refine ⟨k + 1, by omega, by go_num, Lib.hid (K2.out.other Hg.out.2.2.2.2.2.symm), Lib.hid (K3.out.other Hg.out.2.2.2.1.symm), Lib.hid ?_, Lib.hid (bdrewN (B3.out.setCell (p := ⟨g1, k, none⟩) Hg.out.1 _) 1)⟩
        rw [← afill_step Hy.out (by rw [Hl.out]; exact hlt)]
        exact K1.out.set
      case measure => simp [intOf]; omega
    · have hk4 : k = 16 := by omega
      have Hr : Hid (Arr wr g1 23 .u8 L) := Lib.hid (by have h := K1.out; rw [hk4, fill_all HL.out Hl.out] at h; exact h)
      go_wp2_with (first
        | refine wp_load_arr arr16 rfl (.tmp 2) rfl rfl Hr.out HL.out ?_
        | refine wp_put_arr arr16 rfl (.tmp 4) (.tmp 19) rfl rfl (l' := L) rfl K3.out (Zs_length _) HL.out ?_)
      intro w5 H5 Hm5 Hs5
      go_wp2
      exact ret_arr arr16 rfl rfl H5.out HL.out rfl ⟨rfl, B3.out.trans (Hm5.out.below (fun j hj => by have := Hg.out; omega) B3.out.size)⟩

end Go.Proofs.Ytfkfkmdnffpcmaa

namespace Go.Proofs.Ytfkfkmdnffpcmaa
open Go.RowKit

/-- What stands there behind n rounds. -/
def aroundsR (k s : List UInt8) (n : Nat) : List UInt8 := if n < 14 then aroundsB gboxU k s n else aencU k s
theorem aroundsR_lt {k s : List UInt8} {n : Nat} (h : n < 14) : aroundsR k s n = aroundsB gboxU k s n := if_pos h

set_option maxHeartbeats 1600000 in
theorem raenc_any (k s : List UInt8) (w : World) (hk : k.length = 240) (hs : s.length = 16) :
    Calls Try.prog 20 #[.agg (Nums .u8 (abn k)), .agg (Nums .u8 (abn s))] w (AnsA w .u8 (abn (aencU k s))) := by
  have Hl : ∀ x : List UInt8, x.length = 16 → Hid ((abn x).length = 16) := fun x hx => Lib.hid (by rw [abn_length, hx])
  have Hs := Lib.hid hs
  have Hr : Hid (∀ i, i < 15 → (aroundsR k s i).length = 16) := Lib.hid fun i hi => by
    unfold aroundsR
    split
    · exact arounds_length hk hs hi
    · exact aenc_length hk
  have Hkey : Hid (∀ i, i < 15 → (akeyAt k i).length = 16) := Lib.hid fun i hi => akeyAt_length hk hi
  have HA : Hid (∀ n, n < 13 → aaddU (amixU (ashiftU (asubU (aroundsR k s n)))) (akeyAt k (n + 1)) = aroundsR k s (n + 1)) := Lib.hid fun n hn => by rw [aroundsR_lt (show n < 14 by omega), aroundsR_lt (show n + 1 < 14 by omega)]; rfl
  have HB : Hid (aaddU (ashiftU (asubU (aroundsR k s 13))) (akeyAt k 14) = aroundsR k s 14) := Lib.hid rfl
  clear hk hs
  have cadd : ∀ (x y : List UInt8) (W : World), Hid (x.length = 16) → Hid (y.length = 16) → Calls Try.prog 29 #[.agg (Nums .u8 (abn x)), .agg (Nums .u8 (abn y))] W (AnsA W .u8 (abn (aaddU x y))) := fun x y W hx hy => raadd_any x y W hx.out hy.out
  go_enter Try.func20, Try.ntmps20
  go_wp2_with (refine wp_box_arr (k := .u8) rfl 40 (.tmp 0) rfl (abn k) rfl ?_)
  intro w1 g1 G1 H1 Hb1 Hs1
  go_wp2_with (refine wp_box_arr (k := .u8) rfl 23 (.tmp 1) rfl (abn s) rfl ?_)
  intro w2 g2 G2 H2 Hb2 Hs2
  go_wp2_with (refine wp_alloc_arr (k := .u8) rfl 23 rfl 16 zero16 ?_)
  intro w3 g3 G3 H3 Hb3 Hs3
  have Hg : Hid (w.heap.size ≤ g1 ∧ w.heap.size ≤ g2 ∧ w.heap.size ≤ g3 ∧ g1 ≠ g3 ∧ g2 ≠ g3 ∧ g1 ≠ g2) := Lib.hid (by have := G1.out; have := G2.out; have := G3.out; have := Hs1.out; have := Hs2.out; omega)
  have F3 : Hid (SK w [(g2, 23, abn s), (g1, 40, abn k), (g3, 23, Zs 16)] w3) := Lib.hid ⟨by
    intro x hx
    simp only [List.mem_cons, List.not_mem_nil, or_false] at hx
    rcases hx with rfl | rfl | rfl
    · exact H2.out.below Hb3.out H2.out.lt
    · exact (H1.out.below Hb2.out H1.out.lt).below Hb3.out (Nat.lt_of_lt_of_le H1.out.lt Hb2.out.size)
    · exact H3.out, abon (abon Hb1.out Hb2.out) Hb3.out⟩
  have Hne : Hid (∀ x ∈ [(g1, 40, abn k), (g3, 23, Zs 16)], x.1 ≠ g2) := Lib.hid (by
    have h5 := Hg.out
    intro x hx
    simp only [List.mem_cons, List.not_mem_nil, or_false] at hx
    rcases hx with rfl | rfl
    · exact h5.2.2.2.2.2
    · exact h5.2.2.2.2.1.symm)
  clear H1 H2 H3 Hb1 Hb2 Hb3 G1 G2 G3 Hs1 Hs2 Hs3
  have K1 : Hid (Arr w3 g1 40 .u8 (abn k)) := Lib.hid (F3.out.1 (g1, 40, abn k) (by simp))
  have ix0 := fun W => run_indexAt_w (b := g1) arrKeysR info_16 0 0 0 rfl (by omega) (by omega) W
  go_wp2_with (first
    | refine wp_load_arr arr16 rfl (.tmp 3) rfl rfl (sk_hd F3.out) (Hl s Hs.out).out ?_
    | refine wp_load_part (ns := abn (akeyAt k 0)) arr16.under rfl info_16 rfl (.tmp 7) rfl 0 rfl K1.out (Hl _ (Hkey.out 0 (by omega))).out (fun j x hx => akeyAt_get (i := 0) j x hx) ?_)
  refine (cadd _ _ _ Hs (Lib.hid (Hkey.out 0 (by omega)))).mono ?_
  rintro e w4 ⟨rfl, hb4⟩
  have F4 := Lib.hid (sk_below F3.out hb4)
  have Hrd0 : Hid (aroundsR k s 0 = aaddU s (akeyAt k 0)) := Lib.hid rfl
  have Hrl := Hr.out 0 (by omega)
  rw [← Hrd0.out]
  clear hb4 F3 K1
  go_wp2_with (refine wp_put_arr arr16 rfl (.tmp 3) (.tmp 9) rfl rfl (l' := abn (aroundsR k s 0)) rfl (sk_hd F4.out) (Hl _ Hs.out).out (Hl _ Hrl).out ?_)
  intro w6 H6 Hm6 Hs6
  have F6 : Hid (SK w [(g2, 23, abn (aroundsR k s 0)), (g1, 40, abn k), (g3, 23, Zs 16)] w6) := Lib.hid (sk_put F4.out Hm6.out H6.out Hne.out Hg.out.2.1)
  clear F4 Hm6 Hs6 H6 Hrd0 Hrl ix0 Hs
  go_wp2
  go_loopw [5] (fun i wr => ∃ n : Nat, n ≤ 14 ∧ i = .int .i64 ((n : Int) + 1) ∧ Hid (SK w [(g2, 23, abn (aroundsR k s n)), (g1, 40, abn k), (g3, 23, Zs 16)] wr)) (fun i _ => 15 - (intOf i).toNat)
  case atStart => exact ⟨0, by omega, rfl, F6⟩
  case round =>
    clear F6
    obtain ⟨n, hn, rfl, F6⟩ := hrel
    by_cases hlt : n < 14
    · obtain ⟨q, hq⟩ : ∃ q, (n + 1) * 16 = q := ⟨_, rfl⟩
      have ix := fun W => run_indexAt_w (b := g1) arrKeysR info_16 (n + 1) q ((n : Int) + 1) (by omega) (by omega) hq W
      have Hq : Hid (16 * (n + 1) = q) := Lib.hid (by omega)
      clear hq
      have Hkl := Lib.hid (Hkey.out (n + 1) (by omega))
      have Hsl := Lib.hid (Hr.out n (by omega))
      have Hpart : Hid (∀ j x : Nat, (abn (akeyAt k (n + 1)))[j]? = some x → (abn k)[q + j]? = some x) := Lib.hid (fun j x hx => by have h := akeyAt_get (i := n + 1) j x hx; rw [Hq.out] at h; exact h)
      have Hsn := Lib.hid (Hr.out (n + 1) (by omega))
      have csub := fun W => rasub_any (aroundsR k s n) W Hsl.out
      have H1l : Hid ((asubU (aroundsR k s n)).length = 16) := Lib.hid (by rw [asubU, asubB_length]; exact Hsl.out)
      have cshift := fun W => rashift_any (asubU (aroundsR k s n)) W H1l.out
      have H2l : Hid ((ashiftU (asubU (aroundsR k s n))).length = 16) := Lib.hid (ashift_length _)
      have cmix := fun W => ramix_any (ashiftU (asubU (aroundsR k s n))) W H2l.out
      have H3l : Hid ((amixU (ashiftU (asubU (aroundsR k s n)))).length = 16) := Lib.hid (amix_length H2l.out)
      have caddA := fun W => cadd (amixU (ashiftU (asubU (aroundsR k s n)))) (akeyAt k (n + 1)) W H3l Hkl
      have caddB := fun W => cadd (ashiftU (asubU (aroundsR k s n))) (akeyAt k (n + 1)) W H2l Hkl
      have HX0 := Hl _ Hsl.out
      have HX2 := Hl _ H2l.out
      have HX3 := Hl _ H3l.out
      have HXk := Hl _ Hkl.out
      have HXn := Hl _ Hsn.out
      obtain ⟨X4, hX4⟩ : ∃ X4, abn (aroundsR k s (n + 1)) = X4 := ⟨_, rfl⟩
      have HX4 := Lib.hid hX4
      rw [hX4] at HXn
      clear hX4
      have Hcase : (n < 13 → Hid (∀ W, Calls Try.prog 29 #[.agg (Nums .u8 (abn (amixU (ashiftU (asubU (aroundsR k s n)))))), .agg (Nums .u8 (abn (akeyAt k (n + 1))))] W (AnsA W .u8 X4))) ∧ (n = 13 → Hid (∀ W, Calls Try.prog 29 #[.agg (Nums .u8 (abn (ashiftU (asubU (aroundsR k s n))))), .agg (Nums .u8 (abn (akeyAt k (n + 1))))] W (AnsA W .u8 X4))) := ⟨fun h => by
          rw [HA.out n h, HX4.out] at caddA
          exact Lib.hid caddA, fun h => by
          subst h
          rw [HB.out, HX4.out] at caddB
          exact Lib.hid caddB⟩
      clear Hsl Hkl Hsn H1l H2l H3l caddA caddB
      revert F6 csub cshift cmix Hcase HX0 HX2 HX3 HXk Hpart
      generalize abn (amixU (ashiftU (asubU (aroundsR k s n)))) = X3
      generalize abn (ashiftU (asubU (aroundsR k s n))) = X2
      generalize abn (asubU (aroundsR k s n)) = X1
      generalize abn (aroundsR k s n) = X0
      generalize abn (akeyAt k (n + 1)) = XK
      intro F6 Hpart csub cshift cmix HX0 HX2 HX3 HXk Hcase
      go_wp2_with (refine wp_load_arr arr16 rfl (.tmp 3) rfl rfl (sk_hd F6.out) HX0.out ?_)
      refine (csub _).mono ?_
      rintro e w7 ⟨rfl, hb7⟩
      have F7 := Lib.hid (sk_below F6.out hb7)
      clear hb7 F6
      go_wp2_with fail
      refine (cshift _).mono ?_
      rintro e w8 ⟨rfl, hb8⟩
      have F8 := Lib.hid (sk_below F7.out hb8)
      clear hb8 F7
      go_wp2_with (refine wp_put_arr arr16 rfl (.tmp 3) (.tmp 16) rfl rfl (l' := X2) rfl (sk_hd F8.out) HX0.out HX2.out ?_)
      intro w9 H9 Hm9 Hs9
      have F9 : Hid (SK w [(g2, 23, X2), (g1, 40, abn k), (g3, 23, Zs 16)] w9) := Lib.hid (sk_put F8.out Hm9.out H9.out Hne.out Hg.out.2.1)
      clear H9 Hm9 Hs9 F8
      by_cases h13 : n < 13
      · have caddA := Hcase.1 h13
        go_wp2_with (refine wp_load_arr arr16 rfl (.tmp 3) rfl rfl (sk_hd F9.out) HX2.out ?_)
        refine (cmix _).mono ?_
        rintro e wa ⟨rfl, hba⟩
        have Fa := Lib.hid (sk_below F9.out hba)
        clear hba F9
        go_wp2_with (refine wp_put_arr arr16 rfl (.tmp 3) (.tmp 20) rfl rfl (l' := X3) rfl (sk_hd Fa.out) HX2.out HX3.out ?_)
        intro wb Hb Hmb Hsb
        have Fb : Hid (SK w [(g2, 23, X3), (g1, 40, abn k), (g3, 23, Zs 16)] wb) := Lib.hid (sk_put Fa.out Hmb.out Hb.out Hne.out Hg.out.2.1)
        clear Hb Hmb Hsb Fa
        go_wp2_with fail
        refine wp_region_ends (fun w' => SK w [(g2, 23, X3), (g1, 40, abn k), (g3, 23, Zs 16)] w') 5 (by kernel_rfl) ?_
        refine wpAnyE_take (i := 0) (some 21) rfl rfl (by kernel_rfl) (fun _ _ _ h => h) (yields_arr (k := .u8) (l := X3) (off := 0) (b := g2) (by rfl) _ rfl rfl (fun w' h => (sk_hd h).range (fun j x hx => by rw [Nat.zero_add]; exact hx)) arr16.under rfl (by rw [HX3.out]; exact info_16)) (sk_drewN Fb.out 1) ?_
        simp only [Act.put, List.setIfInBounds_toArray, List.set_cons_zero, List.set_cons_succ]
        refine wpAnyE_take (i := 1) (v := .int .i64 ((n : Int) + 1)) (some 22) rfl rfl (by kernel_rfl) (fun _ _ _ h => h) (.inl ⟨by rfl, fun _ _ => rfl⟩) (sk_drewN Fb.out 1) ?_
        simp only [Act.put, List.setIfInBounds_toArray, List.set_cons_zero, List.set_cons_succ]
        refine wpAnyE_take (i := 2) (v := .pointer (some ⟨g1, q, none⟩)) (some 23) rfl rfl (by kernel_rfl) (fun _ _ _ h => h) (.inl ⟨by rfl, fun W _ => by go_simp⟩) (sk_drewN Fb.out 1) ?_
        simp only [Act.put, List.setIfInBounds_toArray, List.set_cons_zero, List.set_cons_succ]
        refine wpAnyE_take (i := 3) (some 24) rfl rfl (by kernel_rfl) (fun _ _ _ h => h) (yields_arr (k := .u8) (l := XK) (off := q) (b := g1) (by rfl) _ rfl rfl (fun w' h => Arr.range (t := 40) (l := abn k) (h.1 (g1, 40, abn k) (by simp)) Hpart.out) arr16.under rfl (by rw [HXk.out]; exact info_16)) (sk_drewN Fb.out 1) ?_
        simp only [Act.put, List.setIfInBounds_toArray, List.set_cons_zero, List.set_cons_succ]
        refine wpAnyE_one (i := 4) (by kernel_rfl) rfl (fun K4 hK4 => ?_)
        refine stepE_call (v := .agg (Nums .u8 X4)) (R := fun w' => Below _ _ w') (some 25) rfl rfl 29 Try.func29 (by kernel_rfl) rfl _ _ rfl [.agg (Nums .u8 X3), .agg (Nums .u8 XK)] rfl (caddA.out _) (fun W4 hW4 => hK4.out _ _ (.inr (sk_below (sk_drewN Fb.out 1) hW4)) ?_)
        have S4 := Lib.hid (sk_below (sk_drewN Fb.out 1) hW4)
        clear hW4
        simp only [Act.put, List.setIfInBounds_toArray, List.set_cons_zero, List.set_cons_succ]
        refine wpAnyE_one (i := 5) (by kernel_rfl) rfl (fun K5 hK5 => ?_)
        refine stepE_put arr16 none rfl rfl _ _ rfl rfl rfl (sk_hd S4.out) HX3.out HXn.out (fun W5 A5 M5 _ => hK5.out _ _ (.inl rfl) ?_)
        have S5 := Lib.hid (sk_put S4.out M5.out A5.out Hne.out Hg.out.2.1)
        rw [← HX4.out] at S5
        clear hK4 hK5 K4 K5 S4 M5 A5 Fb
        simp only [Act.put]
        refine wpAnyE_done (by kernel_rfl) ?_
        go_wp2
        go_roundw
        case rel => exact ⟨n + 1, by omega, by go_num, S5⟩
        case measure => simp [intOf]; omega
      · have caddB := Hcase.2 (by omega)
        go_wp2_with fail
        refine wp_region_ends (fun w' => SK w [(g2, 23, X2), (g1, 40, abn k), (g3, 23, Zs 16)] w') 5 (by kernel_rfl) ?_
        refine wpAnyE_take (i := 0) (some 21) rfl rfl (by kernel_rfl) (fun _ _ _ h => h) (yields_arr (k := .u8) (l := X2) (off := 0) (b := g2) (by rfl) _ rfl rfl (fun w' h => (sk_hd h).range (fun j x hx => by rw [Nat.zero_add]; exact hx)) arr16.under rfl (by rw [HX2.out]; exact info_16)) (sk_drewN F9.out 1) ?_
        simp only [Act.put, List.setIfInBounds_toArray, List.set_cons_zero, List.set_cons_succ]
        refine wpAnyE_take (i := 1) (v := .int .i64 ((n : Int) + 1)) (some 22) rfl rfl (by kernel_rfl) (fun _ _ _ h => h) (.inl ⟨by rfl, fun _ _ => rfl⟩) (sk_drewN F9.out 1) ?_
        simp only [Act.put, List.setIfInBounds_toArray, List.set_cons_zero, List.set_cons_succ]
        refine wpAnyE_take (i := 2) (v := .pointer (some ⟨g1, q, none⟩)) (some 23) rfl rfl (by kernel_rfl) (fun _ _ _ h => h) (.inl ⟨by rfl, fun W _ => by go_simp⟩) (sk_drewN F9.out 1) ?_
        simp only [Act.put, List.setIfInBounds_toArray, List.set_cons_zero, List.set_cons_succ]
        refine wpAnyE_take (i := 3) (some 24) rfl rfl (by kernel_rfl) (fun _ _ _ h => h) (yields_arr (k := .u8) (l := XK) (off := q) (b := g1) (by rfl) _ rfl rfl (fun w' h => Arr.range (t := 40) (l := abn k) (h.1 (g1, 40, abn k) (by simp)) Hpart.out) arr16.under rfl (by rw [HXk.out]; exact info_16)) (sk_drewN F9.out 1) ?_
        simp only [Act.put, List.setIfInBounds_toArray, List.set_cons_zero, List.set_cons_succ]
        refine wpAnyE_one (i := 4) (by kernel_rfl) rfl (fun K4 hK4 => ?_)
        refine stepE_call (v := .agg (Nums .u8 X4)) (R := fun w' => Below _ _ w') (some 25) rfl rfl 29 Try.func29 (by kernel_rfl) rfl _ _ rfl [.agg (Nums .u8 X2), .agg (Nums .u8 XK)] rfl (caddB.out _) (fun W4 hW4 => hK4.out _ _ (.inr (sk_below (sk_drewN F9.out 1) hW4)) ?_)
        have S4 := Lib.hid (sk_below (sk_drewN F9.out 1) hW4)
        clear hW4
        simp only [Act.put, List.setIfInBounds_toArray, List.set_cons_zero, List.set_cons_succ]
        refine wpAnyE_one (i := 5) (by kernel_rfl) rfl (fun K5 hK5 => ?_)
        refine stepE_put arr16 none rfl rfl _ _ rfl rfl rfl (sk_hd S4.out) HX2.out HXn.out (fun W5 A5 M5 _ => hK5.out _ _ (.inl rfl) ?_)
        have S5 := Lib.hid (sk_put S4.out M5.out A5.out Hne.out Hg.out.2.1)
        rw [← HX4.out] at S5
        clear hK4 hK5 K4 K5 S4 M5 A5 F9
        simp only [Act.put]
        refine wpAnyE_done (by kernel_rfl) ?_
        go_wp2
        go_roundw
        case rel => exact ⟨n + 1, by omega, by go_num, S5⟩
        case measure => simp [intOf]; omega
    · obtain rfl : n = 14 := by omega
      have Hfin : Hid (aroundsR k s 14 = aencU k s) := Lib.hid rfl
      have HXn := Hl _ (Hr.out 14 (by omega))
      rw [Hfin.out] at F6 HXn
      go_wp2_with (first
        | refine wp_load_arr arr16 rfl (.tmp 3) rfl rfl (sk_hd F6.out) HXn.out ?_
        | refine wp_put_arr arr16 rfl (.tmp 4) (.tmp 26) rfl rfl (l' := abn (aencU k s)) rfl (F6.out.1 (g3, 23, Zs 16) (by simp)) (Zs_length _) HXn.out ?_)
      intro w5 H5 Hm5 Hs5
      go_wp2
      exact ret_arr arr16 rfl rfl H5.out HXn.out rfl ⟨rfl, F6.out.2.trans (Hm5.out.below (fun j hj => by rw [hj]; exact Hg.out.2.2.1) F6.out.2.size)⟩

end Go.Proofs.Ytfkfkmdnffpcmaa

/-
  An array is equal to itself. No program is named here.
-/
namespace Go.Proofs.Ytfkfkmdnffpcmaa
open Go.RowKit

theorem run_eqItems_same {P : Program} {e : TypeId} {k : IntKind} (he : P.underlying e = some (.int k)) (ce : P.cellsOf e = 1) (l : List Nat) (w : World) (d : Nat) :
    ∀ is : List Nat, (∀ i ∈ is, i < l.length) → (Op.eqItems (d + 1) e (P.cellsOf e) (Nums k l) (Nums k l) is).run P w = .ok true w
  | [], _ => by simp [Op.eqItems]
  | i :: is, h => by
    have hi : i < l.length := h i (by simp)
    have hag : (isAgg e).run P w = .ok false w := by unfold isAgg; rw [Sem.run_bind, run_underlying he]; rfl
    have hp : (part e (Nums k l) i).run P w = .ok (.int k (l[i] : Int)) w := by
      simp [part, Sem.run_bind, hag, Nums_get hi]
    have ih := run_eqItems_same he ce l w d is (fun j hj => h j (by simp [hj]))
    rw [ce] at ih ⊢
    simp only [Op.eqItems, Sem.run_bind, Nat.mul_one, hp, Result.andThen_ok, run_equalIn_int w d e k k _ _ he]
    simpa using ih
theorem run_equalIn_same {P : Program} {t e : TypeId} {k : IntKind} {n : Nat} (T : ArrT P t e k n) (ce : P.cellsOf e = 1) {l : List Nat} (hl : l.length = n) (w : World) : (Op.equalIn 10000 t (.agg (Nums k l)) (.agg (Nums k l))).run P w = .ok true w := by
  have hi : ∃ i, P.info? e = some i := by
    have h := T.elem
    unfold Program.underlying at h
    cases hq : P.info? e with
    | none => simp [hq] at h
    | some i => exact ⟨i, rfl⟩
  obtain ⟨i, hi⟩ := hi
  rw [show (10000 : Nat) = 9999 + 1 from rfl, run_equalIn_array w 9999 _ _ T.under hi]
  exact run_eqItems_same T.elem ce l w 9998 _ (fun j hj => by rw [hl]; exact List.mem_range.1 hj)

end Go.Proofs.Ytfkfkmdnffpcmaa

namespace Go.Proofs.Ytfkfkmdnffpcmaa
open Go.RowKit

section
variable {P : Program} {t e : TypeId} {k : IntKind}
theorem info_some {i : TypeDesc} (h : P.underlying e = some i) : ∃ i, P.info? e = some i := by
  unfold Program.underlying at h
  cases hq : P.info? e with
  | none => simp [hq] at h
  | some i => exact ⟨i, rfl⟩
theorem run_eqItems_dec (he : P.underlying e = some (.int k)) (ce : P.cellsOf e = 1) (l l' : List Nat) (w : World) (d : Nat) :
    ∀ is : List Nat, (∀ i ∈ is, i < l.length ∧ i < l'.length) → (Op.eqItems (d + 1) e (P.cellsOf e) (Nums k l) (Nums k l') is).run P w = .ok (is.all fun i => l[i]? == l'[i]?) w
  | [], _ => by simp [Op.eqItems]
  | i :: is, h => by
    obtain ⟨hi, hi'⟩ := h i (by simp)
    have hag : (isAgg e).run P w = .ok false w := by unfold isAgg; rw [Sem.run_bind, run_underlying he]; rfl
    have hp : (part e (Nums k l) i).run P w = .ok (.int k (l[i] : Int)) w := by simp [part, Sem.run_bind, hag, Nums_get hi]
    have hp' : (part e (Nums k l') i).run P w = .ok (.int k (l'[i] : Int)) w := by simp [part, Sem.run_bind, hag, Nums_get hi']
    have ih := run_eqItems_dec he ce l l' w d is (fun j hj => h j (by simp [hj]))
    rw [ce] at ih ⊢
    simp only [Op.eqItems, Sem.run_bind, Nat.mul_one, hp, hp', Result.andThen_ok, run_equalIn_int w d e k k _ _ he]
    by_cases hq : l[i] = l'[i]
    · simp [hq, ih, List.getElem?_eq_getElem hi, List.getElem?_eq_getElem hi']
    · have h1 : ¬ (l[i] : Int) = (l'[i] : Int) := by omega
      simp [hq, h1, List.getElem?_eq_getElem hi, List.getElem?_eq_getElem hi']
/-- Two arrays are equal where their numbers are. -/
theorem run_equalIn_dec {n : Nat} (T : ArrT P t e k n) (ce : P.cellsOf e = 1) {l l' : List Nat} (hl : l.length = n) (hl' : l'.length = n) (d : Nat) (w : World) : (Op.equalIn (d + 2) t (.agg (Nums k l)) (.agg (Nums k l'))).run P w = .ok (decide (l = l')) w := by
  obtain ⟨i, hi⟩ := info_some T.elem
  rw [run_equalIn_array w (d + 1) _ _ T.under hi, run_eqItems_dec T.elem ce l l' w d _ (fun j hj => by have := List.mem_range.1 hj; omega)]
  congr 1
  rw [Bool.eq_iff_iff, List.all_eq_true, decide_eq_true_iff]
  constructor
  · intro h
    apply List.ext_getElem?
    intro j
    rcases Nat.lt_or_ge j n with hj | hj
    · simpa using h j (List.mem_range.2 hj)
    · rw [List.getElem?_eq_none (by omega), List.getElem?_eq_none (by omega)]
  · intro h j _
    rw [h]
    simp
theorem run_eqItems_rows {e2 : TypeId} {n2 m n : Nat} (T2 : ArrT P e e2 k n2) (ce2 : P.cellsOf e2 = 1) (ce : P.cellsOf e = n2) (l : List Nat) (hl : l.length = m * n2) (w : World) (d : Nat) :
    ∀ is : List Nat, (∀ i ∈ is, i < m) → (Op.eqItems (d + 2) e (P.cellsOf e) (Nums k l) (Nums k l) is).run P w = .ok true w
  | [], _ => by simp [Op.eqItems]
  | i :: is, h => by
    have hi : i < m := h i (by simp)
    have hag : (isAgg e).run P w = .ok true w := by unfold isAgg; rw [Sem.run_bind, run_underlying T2.under]; rfl
    have hsz : (sizeOf e).run P w = .ok n2 w := sizeOf_info T2.size w
    have hle : i * n2 + n2 ≤ l.length := by
      rw [hl, ← Nat.succ_mul]
      exact Nat.mul_le_mul_right _ hi
    have hext : (Nums k l).extract (i * n2) (i * n2 + n2) = Nums k ((l.drop (i * n2)).take n2) := by
      simp [Nums, List.map_take, List.map_drop]
    have hp : (part e (Nums k l) (i * n2)).run P w = .ok (.agg (Nums k ((l.drop (i * n2)).take n2))) w := by simp [part, Sem.run_bind, hag, hsz, hext]
    have ih := run_eqItems_rows (n := n) T2 ce2 ce l hl w d is (fun j hj => h j (by simp [hj]))
    rw [ce] at ih ⊢
    have hq := run_equalIn_dec T2 ce2 (l := (l.drop (i * n2)).take n2) (l' := (l.drop (i * n2)).take n2) (by simp; omega) (by simp; omega) d w
    simp only [Op.eqItems, Sem.run_bind, hp, Result.andThen_ok, hq]
    simpa using ih
/-- An array of arrays is equal to itself. -/
theorem run_equalIn_rows {e2 : TypeId} {n2 m n : Nat} (T : ArrW P t e m n) (T2 : ArrT P e e2 k n2) (ce2 : P.cellsOf e2 = 1) (ce : P.cellsOf e = n2) {l : List Nat} (hl : l.length = m * n2) (w : World) : (Op.equalIn 10000 t (.agg (Nums k l)) (.agg (Nums k l))).run P w = .ok true w := by
  obtain ⟨i, hi⟩ := info_some T2.under
  rw [show (10000 : Nat) = 9999 + 1 from rfl, run_equalIn_array w 9999 _ _ T.under hi]
  exact run_eqItems_rows (n := n) T2 ce2 ce l hl w 9997 _ (fun j hj => List.mem_range.1 hj)
end

end Go.Proofs.Ytfkfkmdnffpcmaa

namespace Go.Proofs.Ytfkfkmdnffpcmaa
open Go.RowKit

section
variable {P : Program} {ops : Array Oper} {Q : Exit → Act → World → Prop} {md : Region.Mode} {S : World → Prop}
theorem wp_region_heldD {id : Nat} {a : Act} {w : World} (hm : P.follows .mixedOrders = true)
    (h : wpAnyH P .any ops Q S ops.size (Array.replicate ops.size false) a w.drew) : (Code.region id ops true).wp P Q a w := wp_region_held hm h
theorem wpAnyH_takeD {i : Nat} {oi : Oper} {v : Value} {fuel : Nat} {listed : Array Bool} {a : Act} {w : World} (d : Option Tmp) (hd : oi.dst = d) (hi : ops[i]? = some oi)
    (hs : (Region.noSelect ops && Region.free md ops listed i && (Region.ready md ops listed).contains i) = true)
    (hQ : ∀ c a w, Q (.panic c) (a.put oi.dst v) w → Q (.panic c) a w) (hy : YieldsIf P ops S oi v a) (hS : S w)
    (h : wpAnyH P md ops Q S fuel (listed.setIfInBounds i true) (a.put d v) w) : wpAnyH P md ops Q S (fuel + 1) listed a w := by
  subst hd
  simp only [Bool.and_eq_true] at hs
  exact wpAnyH_take hi hs.1.1 hs.1.2 hs.2 hQ hy hS h
theorem wpAnyH_oneD {i : Nat} {o : Oper} {fuel : Nat} {listed : Array Bool} {a : Act} {w : World} (hr : Region.ready md ops listed = [i]) (ho : ops[i]? = some o)
    (h : ∀ K' : Act → World → Prop, Shut (∀ a w, S w → wpAnyH P md ops Q S fuel (listed.setIfInBounds i true) a w → K' a w) → if Region.wanted o (yielded ops a.tmps) = true then Oper.wp P o a w K' Q else K' (a.put o.dst undef) w) :
    wpAnyH P md ops Q S (fuel + 1) listed a w := by
  refine ⟨fun h0 => (by rw [hr] at h0; cases h0), fun j hj => ?_⟩
  rw [hr, List.mem_singleton] at hj
  subst hj
  exact wpOp_step ho (fun K' hK => h K' (fun a w hS hW => hK a w ⟨hS, hW⟩))
theorem wpAnyH_doneD {fuel : Nat} {listed : Array Bool} {a : Act} {w : World} (hr : Region.ready md ops listed = []) (h : Q .normal a w) : wpAnyH P md ops Q S fuel listed a w := wpAnyH_done hr h fuel
/-- A call by its contract, guarded or not. -/
theorem stepE_callW {fn : Func} {c : Code} {o : Oper} {a : Act} {w : World} {K : Act → World → Prop} {E : Prop} (d : Option Tmp) (hd : o.dst = d) (hw : Region.wanted o (yielded ops a.tmps) = true) (f : FuncId) (hf : P.funcs[f]? = some fn) (hname : (fn.name == "runtime.NumGoroutine") = false) (hb : fn.body = some c) (xs : Array Operand) (ts : Array TypeId)
    (ho : o.op = .call { callee := .value (.func f), args := xs, argTypes := ts }) (args : List Value) (hx : xs.toList.map a.eval = args) {v : Value} {R : World → Prop}
    (hc : Calls P f args.toArray w fun e w' => e = .returned v ∧ R w') (hK : ∀ w', R w' → K (a.put d v) w') : if Region.wanted o (yielded ops a.tmps) = true then Oper.wp P o a w K Q else E := by
  subst hd
  rw [if_pos hw]
  unfold Oper.wp
  subst hx
  have hr := run_enter hf hname hb (xs.map a.eval) w
  have e : (xs.toList.map a.eval).toArray = xs.map a.eval := by rw [← Array.toList_map, Array.toArray_toList]
  rw [e] at hc
  simp [execOp, ho, resolve, go_sem, hr]
  refine hc.mono ?_
  rintro e w' ⟨rfl, h⟩
  exact hK w' h
end

/-- One array among those that stand there, as a load wants it. -/
theorem sk_range {w w' : World} {L : List (Nat × TypeId × List Nat)} {g : Nat} {t : TypeId} {l : List Nat} (h : SK w L w') (hm : (g, t, l) ∈ L) : w'.rangeAt g 0 (l.map fun (n : Nat) => Value.int .u8 (n : Int)) :=
  (Arr.range (t := t) (l := l) (h.1 (g, t, l) hm)) (fun j x hx => by rw [Nat.zero_add]; exact hx)

theorem eqg16 : Try.prog.eqGuardType Try.prog.depth 23 = false := by kernel_rfl
theorem cells16 : Try.prog.cellsOf 23 = 16 := by kernel_rfl
theorem cells8 : Try.prog.cellsOf 5 = 1 := by kernel_rfl
theorem eq16_dec {l l' : List Nat} (hl : l.length = 16) (hl' : l'.length = 16) (w : World) : (Op.equalIn 10000 23 (.agg (Nums .u8 l)) (.agg (Nums .u8 l'))).run Try.prog w = .ok (decide (l = l')) w := run_equalIn_dec arr16 cells8 hl hl' 9998 w
theorem eq16_same {l : List Nat} (hl : l.length = 16) (w : World) : (Op.equalIn 10000 23 (.agg (Nums .u8 l)) (.agg (Nums .u8 l))).run Try.prog w = .ok true w := by
  rw [eq16_dec hl hl, decide_eq_true rfl]

end Go.Proofs.Ytfkfkmdnffpcmaa

/-
  A region that draws its order, where two operations may come up at once: both ways are walked, and what comes behind them is walked once. No program is named here.
-/
namespace Go.Proofs.Ytfkfkmdnffpcmaa
open Go.RowKit

section
variable {P : Program} {ops : Array Oper} {Q : Exit → Act → World → Prop} {md : Region.Mode} {S : World → Prop}
/-- Two may come up. -/
theorem wpAnyH_twoD {i j : Nat} {o p : Oper} {fuel : Nat} {listed : Array Bool} {a : Act} {w : World} (hr : Region.ready md ops listed = [i, j]) (ho : ops[i]? = some o) (hp : ops[j]? = some p)
    (h : ∀ K' : Act → World → Prop, Shut (∀ a w, S w → wpAnyH P md ops Q S fuel (listed.setIfInBounds i true) a w → K' a w) → if Region.wanted o (yielded ops a.tmps) = true then Oper.wp P o a w K' Q else K' (a.put o.dst undef) w)
    (h2 : ∀ K' : Act → World → Prop, Shut (∀ a w, S w → wpAnyH P md ops Q S fuel (listed.setIfInBounds j true) a w → K' a w) → if Region.wanted p (yielded ops a.tmps) = true then Oper.wp P p a w K' Q else K' (a.put p.dst undef) w) :
    wpAnyH P md ops Q S (fuel + 1) listed a w := by
  refine ⟨fun h0 => (by rw [hr] at h0; cases h0), fun l hl => ?_⟩
  rw [hr] at hl
  simp only [List.mem_cons, List.not_mem_nil, or_false] at hl
  rcases hl with rfl | rfl
  · exact wpOp_step ho (fun K' hK => h K' (fun a w hS hW => hK a w ⟨hS, hW⟩))
  · exact wpOp_step hp (fun K' hK => h2 K' (fun a w hS hW => hK a w ⟨hS, hW⟩))
/-- A new array of zeros. -/
theorem stepE_alloc {o : Oper} {a : Act} {w : World} {K : Act → World → Prop} {E : Prop} {k : IntKind} (d : Option Tmp) (hd : o.dst = d) (hg : o.guard = none) (t : TypeId) (ho : o.op = .alloc t) (n : Nat) (hz : (P.info? t).map (fun i => (i.zero, i.size)) = some (some (.agg (Nums k (Zs n))), n))
    (hK : ∀ w' g, Hid (g = w.heap.size) → Hid (Arr w' g t k (Zs n)) → Hid (Below w.heap.size w w') → K (a.put d (.pointer (some ⟨g, 0, none⟩))) w') : if Region.wanted o (yielded ops a.tmps) = true then Oper.wp P o a w K Q else E := by
  subst hd
  rw [if_pos (by simp [Region.wanted, hg])]
  have hq := hK (w.alloc (.cells (Nums k (Zs n)) t)) _ (Lib.hid rfl) (Lib.hid Arr.new) (Lib.hid ((Below.refl _ _).alloc (Nat.le_refl _) _))
  have hz0 := (zero_of_info hz).1
  unfold Oper.wp execOp
  simp only [ho, Instr.alloc, hz0, Sem.run_bind, newVar, newRow, run_newObj_alloc, Sem.run_pure, Result.andThen_ok]
  exact hq
/-- A call by its contract, whatever value it answers. -/
theorem stepE_callV {fn : Func} {c : Code} {o : Oper} {a : Act} {w : World} {K : Act → World → Prop} {E : Prop} (d : Option Tmp) (hd : o.dst = d) (hw : Region.wanted o (yielded ops a.tmps) = true) (f : FuncId) (hf : P.funcs[f]? = some fn) (hname : (fn.name == "runtime.NumGoroutine") = false) (hb : fn.body = some c) (xs : Array Operand) (ts : Array TypeId)
    (ho : o.op = .call { callee := .value (.func f), args := xs, argTypes := ts }) (args : List Value) (hx : xs.toList.map a.eval = args) {R : Value → World → Prop}
    (hc : Calls P f args.toArray w fun e w' => ∃ v, e = .returned v ∧ R v w') (hK : ∀ v w', R v w' → K (a.put d v) w') : if Region.wanted o (yielded ops a.tmps) = true then Oper.wp P o a w K Q else E := by
  subst hd
  rw [if_pos hw]
  unfold Oper.wp
  subst hx
  have hr := run_enter hf hname hb (xs.map a.eval) w
  have e : (xs.toList.map a.eval).toArray = xs.map a.eval := by rw [← Array.toList_map, Array.toArray_toList]
  rw [e] at hc
  simp [execOp, ho, resolve, go_sem, hr]
  refine hc.mono ?_
  rintro e w' ⟨v, rfl, h⟩
  exact hK v w' h
/-- 'make([]byte, n)', as an array. -/
theorem stepE_make {o : Oper} {a : Act} {w : World} {K : Act → World → Prop} {E : Prop} (d : Option Tmp) (hd : o.dst = d)
    (hg : o.guard = none) (l c : Operand) (t : TypeId) (hop : o.op = Op.makeSlice t l c) (e : TypeId)
    (h1 : P.underlying t = some (.slice e)) (h2 : (P.info? e).map (fun i => (i.zero, i.size, i.bytes)) = some (some (.int .u8 0), 1, 1))
    (n : Nat) (hl : a.eval l = .int .i64 (n : Int)) (hc : a.eval c = .int .i64 (n : Int)) (hm : n ≤ 281474976710656)
    (hK : ∀ w' g, Hid (g = w.heap.size) → Hid (Arr w' g e .u8 (Zs n)) → Hid (Below w.heap.size w w') → K (a.put d (.slice (some ⟨g, 0, none⟩) n n)) w') : if Region.wanted o (yielded ops a.tmps) = true then Oper.wp P o a w K Q else E := by
  subst hd
  rw [if_pos (by simp [Region.wanted, hg])]
  obtain ⟨i0, hi, hz0, hz1, hz2⟩ := info_parts h2
  have hr := run_make (P := P) w t e i0 (.int .u8 0) h1 hi hz0 .i64 .i64 n n (by omega) (by omega) (by rw [hz2]; omega) (by omega)
  simp only [Int.toNat_natCast, hz1, Nat.mul_one] at hr
  have hcells : madeCells (Value.int .u8 0).cells n = Nums .u8 (Zs n) := by
    apply Array.toList_inj.1
    rw [show Nums .u8 (Zs n) = (List.replicate n (Value.int .u8 0)).toArray by simp [Nums, Zs]]
    exact toList_madeCells_one _ _
  have hq := hK (w.alloc (.cells (madeCells (Value.int .u8 0).cells n) e)) w.heap.size (Lib.hid rfl) (Lib.hid (by rw [hcells]; exact Arr.new)) (Lib.hid ((Below.refl _ _).alloc (Nat.le_refl _) _))
  unfold Oper.wp
  simp [execOp, hop, hl, hc, hr, Result.andThen]
  exact hq
/-- What a region ends in, whatever the order: a frame by a letter, and what is known of it. -/
theorem wp_region_to {β : Type} {id : Nat} {a : Act} {w : World} (V : β → Act → Act) (F : β → World → Prop) (h : (Code.region id ops true).wp P (fun e a' w' => e = .normal ∧ ∃ g, a' = V g a ∧ F g w') a w) (hK : ∀ g w', F g w' → Q .normal (V g a) w') : (Code.region id ops true).wp P Q a w :=
  Code.wp_mono (fun e a' w' ⟨he, g, ha, hF⟩ => by subst he ha; exact hK g w' hF) h
end

end Go.Proofs.Ytfkfkmdnffpcmaa

namespace Go.Proofs.Ytfkfkmdnffpcmaa
open Go.RowKit

set_option maxHeartbeats 1600000 in
theorem cplus_any (c : List UInt8) (n : Nat) (w : World) (hc : c.length = 16) (hn : n ≤ 65535) :
    Calls Try.prog 22 #[.agg (Nums .u8 (abn c)), .int .i64 (n : Int)] w (AnsA w .u8 (abn (cplusU c n))) := by
  have Hc := Lib.hid hc
  have HL : Hid ((abn (cplusU c n)).length = 16) := Lib.hid (by rw [abn_length, cplus_length hc])
  have Hlen : Hid (∀ k, (abn (cD c n k)).length = 16) := Lib.hid (fun k => by rw [abn_length, cD_length, hc])
  have Hn : Hid (∀ k, cN c n k ≤ 65535) := Lib.hid (cN_bound c hn)
  have H0 : Hid (cN c n 0 = n ∧ cD c n 0 = c) := Lib.hid ⟨rfl, rfl⟩
  clear hc hn
  go_enter Try.func22, Try.ntmps22
  go_wp2_with (refine wp_box_arr (k := .u8) rfl 23 (.tmp 0) rfl (abn c) rfl ?_)
  intro w1 g1 G1 H1 Hb1 Hs1
  go_wp2_with (refine wp_alloc_arr (k := .u8) rfl 23 rfl 16 zero16 ?_)
  intro w2 g2 G2 H2 Hb2 Hs2
  have Hg : Hid (w.heap.size ≤ g1 ∧ w.heap.size ≤ g2 ∧ g1 ≠ g2) := Lib.hid (by have := G1.out; have := G2.out; have := Hs1.out; omega)
  have K1 : Hid (Arr w2 g1 23 .u8 (abn (cD c n 0))) := Lib.hid (H1.out.below Hb2.out H1.out.lt)
  have B2 : Hid (Below w.heap.size w w2) := Lib.hid (abon Hb1.out Hb2.out)
  clear H1 Hb1 Hb2 G1 G2 Hs1 Hs2
  go_wp2
  go_step3
  go_wp2
  go_step3
  go_wp2
  go_loopw [1, 5] (fun u v wr => ∃ (k : Nat) (z : Int), k ≤ 16 ∧ u = .int .i64 ((cN c n k : Nat) : Int) ∧ v = .int .i64 z ∧ Hid (z + (k : Int) = 15) ∧ Hid (Arr wr g1 23 .u8 (abn (cD c n k))) ∧ Hid (Arr wr g2 23 .u8 (Zs 16)) ∧ Hid (Below w.heap.size w wr)) (fun _ v _ => (intOf v + 1).toNat)
  case atStart => exact ⟨0, 15, by omega, by rw [H0.out.1], rfl, Lib.hid rfl, K1, H2, B2⟩
  case round =>
    clear K1 B2 H2
    obtain ⟨k, z, hk, rfl, rfl, Hz, K1, K2, B2⟩ := hrel
    by_cases hlt : k < 16
    · obtain ⟨m, rfl⟩ : ∃ m : Nat, z = (m : Int) := ⟨z.toNat, by have := Hz.out; omega⟩
      have Hm : Hid (15 - k = m) := Lib.hid (by have := Hz.out; omega)
      have hm : m < 16 := by have := Hz.out; omega
      by_cases h0 : cN c n k = 0
      · have Hend := Lib.hid (cD_end Hc.out hk h0)
        rw [h0]
        have K3 : Hid (Arr wr g1 23 .u8 (abn (cplusU c n))) := Lib.hid (by rw [← Hend.out]; exact K1.out)
        clear K1 Hend h0
        go_wp2_with (first
          | refine wp_load_arr arr16 rfl (.tmp 2) rfl rfl K3.out HL.out ?_
          | refine wp_put_arr arr16 rfl (.tmp 4) (.tmp 24) rfl rfl (l' := abn (cplusU c n)) rfl K2.out (Zs_length _) HL.out ?_)
        intro w5 H5 Hm5 Hs5
        go_wp2
        rw [Exit.noGoto_ret]
        exact ret_arr arr16 rfl rfl H5.out HL.out rfl ⟨rfl, B2.out.trans (Hm5.out.below (fun j hj => by have := Hg.out; omega) B2.out.size)⟩
      · have e0 : (((cN c n k : Nat) : Int) == 0) = false := by simp; omega
        obtain ⟨b, h1, h2, h3, h4⟩ := cD_at Hc.out n hlt
        rw [Hm.out] at h1 h2 h4
        have hq := Hn.out k
        have hcell := K1.out.at_ (abn_get h2)
        have hfz := K1.out.frozen m
        have hb := b.toNat_lt
        have Hset : Hid (abn (cD c n (k + 1)) = (abn (cD c n k)).set m (UInt8.ofNat (cN c n k + b.toNat)).toNat) := Lib.hid (by rw [h4]; simp [abn, List.map_set])
        have Hnx := Lib.hid h3
        clear h1 h2 h3 h4 h0
        generalize hqq : cN c n k = q at *
        generalize hbb : b.toNat = p at *
        go_wp2
        go_roundw
        case rel =>
          refine ⟨k + 1, (m : Int) - 1, by omega, by rw [Hnx.out]; rfl, rfl, Lib.hid (by have := Hz.out; omega), Lib.hid ?_, Lib.hid (K2.out.other Hg.out.2.2.symm), Lib.hid (B2.out.setCell Hg.out.1 _)⟩
          rw [Hset.out]
          exact K1.out.put (by rw [u8_of]; rfl)
        case measure => simp [intOf]
    · have hk16 : k = 16 := by omega
      have K3 : Hid (Arr wr g1 23 .u8 (abn (cplusU c n))) := Lib.hid (by have h := K1.out; rw [hk16] at h; exact h)
      have hz : z = -1 := by have := Hz.out; omega
      subst hz
      clear K1 Hz
      go_wp2_with (first
        | refine wp_load_arr arr16 rfl (.tmp 2) rfl rfl K3.out HL.out ?_
        | refine wp_put_arr arr16 rfl (.tmp 4) (.tmp 24) rfl rfl (l' := abn (cplusU c n)) rfl K2.out (Zs_length _) HL.out ?_)
      intro w5 H5 Hm5 Hs5
      go_wp2
      rw [Exit.noGoto_ret]
      exact ret_arr arr16 rfl rfl H5.out HL.out rfl ⟨rfl, B2.out.trans (Hm5.out.below (fun j hj => by have := Hg.out; omega) B2.out.size)⟩

end Go.Proofs.Ytfkfkmdnffpcmaa

namespace Go.Proofs.Ytfkfkmdnffpcmaa
open Go.RowKit

theorem arr256 : ArrT Try.prog 62 5 .u8 256 := ⟨by kernel_rfl, by kernel_rfl, by kernel_rfl⟩
theorem gboxTab_length : gboxTab.length = 256 := by decide +kernel
theorem gboxTab_small : (gboxTab.all fun n => decide (n < 256)) = true := by decide +kernel
theorem gboxTab_at (a : UInt8) : gboxTab[a.toNat]? = some (gboxU a).toNat := by
  have h : a.toNat < gboxTab.length := by rw [gboxTab_length]; exact a.toNat_lt
  have h2 : gboxTab[a.toNat] < 256 := of_decide_eq_true (List.all_eq_true.1 gboxTab_small _ (List.getElem_mem h))
  rw [gbox_tab, List.getD_eq_getElem?_getD, List.getElem?_eq_getElem h, Option.getD_some]
  rw [UInt8.toNat_ofNat', Nat.mod_eq_of_lt h2]

set_option maxHeartbeats 1600000 in
set_option maxRecDepth 100000 in
theorem gbox_any (a : UInt8) (w : World) :
    Calls Try.prog 41 #[.int .u8 (a.toNat : Int)] w (Ans w (.int .u8 ((gboxU a).toNat : Int))) := by
  have Hat : Hid (gboxTab[a.toNat]? = some (gboxU a).toNat) := Lib.hid (gboxTab_at a)
  have h0 : (0 : Int) ≤ (a.toNat : Int) := by omega
  have h1 : (a.toNat : Int) < 256 := by have := a.toNat_lt; omega
  obtain ⟨n, hn⟩ : ∃ n, n = a.toNat := ⟨_, rfl⟩
  obtain ⟨r, hr⟩ : ∃ r, r = (gboxU a).toNat := ⟨_, rfl⟩
  rw [← hn] at Hat h0 h1 ⊢
  rw [← hr] at Hat ⊢
  clear hn hr
  go_enter Try.func41, Try.ntmps41
  go_wp2_with (first
    | refine wp_build_arr rfl 62 _ rfl .u8 gboxTab (by kernel_rfl) ?_
    | refine wp_alloc_arr (k := .u8) rfl 62 rfl 256 (by kernel_rfl) ?_)
  intro w1 g1 G1 H1 Hb1 Hs1
  go_wp2_with (refine wp_put_arr arr256 rfl (.tmp 3) (.tmp 4) rfl rfl (l' := gboxTab) rfl H1.out (Zs_length _) gboxTab_length ?_)
  intro w2 H2 Hm2 Hs2
  have hc : w2.cell? ⟨g1, n, none⟩ = some (.int .u8 (r : Int)) := H2.out.at_ Hat.out
  have hB : Hid (Below w.heap.size w w2) := Lib.hid (Hb1.out.trans (Hm2.out.below (fun j hj => by have := G1.out; omega) Hb1.out.size))
  go_wp2
  go_ret
  exact ⟨rfl, hB.out⟩

end Go.Proofs.Ytfkfkmdnffpcmaa

namespace Go.Proofs.Ytfkfkmdnffpcmaa
open Go.RowKit

set_option maxHeartbeats 1600000 in
theorem asub_any (s : List UInt8) (w : World) (hs : s.length = 16) :
    Calls Try.prog 37 #[.agg (Nums .u8 (abn s))] w (AnsA w .u8 (abn (asubU s))) := by
  have Hat : Hid (∀ k, k < 16 → ∃ x : UInt8, (abn s)[k]? = some x.toNat ∧ (abn (asubU s))[k]? = some (gboxU x).toNat) := Lib.hid (fun k hk => by
    obtain ⟨x, h1, h2⟩ := asub_at gboxU (s := s) (k := k) (by omega)
    exact ⟨x, abn_get h1, abn_get h2⟩)
  have Hl : Hid ((abn s).length = 16) := Lib.hid (by rw [abn_length, hs])
  have HL : Hid ((abn (asubU s)).length = 16) := Lib.hid (by rw [abn_length, asubU, asubB_length, hs])
  clear hs
  revert Hat Hl HL
  generalize abn (asubU s) = L
  generalize abn s = l
  intro Hat Hl HL
  go_enter Try.func37, Try.ntmps37
  go_wp2_with (refine wp_box_arr (k := .u8) rfl 23 (.tmp 0) rfl l rfl ?_)
  intro w1 g1 G1 H1 Hb1 Hs1
  go_wp2_with (refine wp_alloc_arr (k := .u8) rfl 23 rfl 16 zero16 ?_)
  intro w2 g2 G2 H2 Hb2 Hs2
  have Hg : Hid (w.heap.size ≤ g1 ∧ w.heap.size ≤ g2 ∧ g1 ≠ g2) := Lib.hid (by have := G1.out; have := G2.out; have := Hs1.out; omega)
  have K1 : Hid (Arr w2 g1 23 .u8 l) := Lib.hid (H1.out.below Hb2.out H1.out.lt)
  have B2 : Hid (Below w.heap.size w w2) := Lib.hid (Hb1.out.trans (Hb2.out.mono Hb1.out.size))
  have K3 : Hid (Arr w2 g1 23 .u8 (L.take 0 ++ l.drop 0)) := Lib.hid K1.out
  clear H1 Hb1 Hb2 G1 G2 Hs1 Hs2
  go_wp2_with (refine wp_load_arr arr16 rfl (.tmp 1) rfl rfl K1.out Hl.out ?_)
  go_wp2
  go_loopw [6] (fun i wr => ∃ k : Nat, k ≤ 16 ∧ i = .int .i64 (k : Int) ∧ Hid (Arr wr g2 23 .u8 (Zs 16)) ∧ Hid (Arr wr g1 23 .u8 (L.take k ++ l.drop k)) ∧ Hid (Below w.heap.size w wr)) (fun i _ => 16 - (intOf i).toNat)
  case atStart => exact ⟨0, by omega, rfl, H2, K3, B2⟩
  case round =>
    clear K1 K3 B2 H2
    obtain ⟨k, hk, rfl, K2, K3, B3⟩ := hrel
    by_cases hlt : k < 16
    · obtain ⟨x, hx, hy⟩ := Hat.out k hlt
      have hix := fun w' => run_index_arr arr16 info_u8n Hl.out hx w'
      have hc := fun w' => gbox_any x w'
      have Hy : Hid (L[k]? = some (gboxU x).toNat) := Lib.hid hy
      clear hx hy
      generalize gboxU x = y at *
      go_wp2_with fail
      refine (hc _).mono ?_
      rintro e w4 ⟨rfl, hb4⟩
      have A1 : Hid (Arr w4 g1 23 .u8 (L.take k ++ l.drop k)) := Lib.hid (K3.out.below hb4 K3.out.lt)
      have A2 : Hid (Arr w4 g2 23 .u8 (Zs 16)) := Lib.hid (K2.out.below hb4 K2.out.lt)
      have A3 : Hid (Below w.heap.size w w4) := Lib.hid (abon B3.out hb4)
      have hout := A1.out.at_ (fill_get (L := L) (M := l) (i := k) (by rw [Hl.out]; exact hlt) (by rw [HL.out]; omega))
      have hfz := A1.out.frozen k
      clear hb4 K2 K3 B3
      go_wp2
      go_roundw
      case rel =>
        refine ⟨k + 1, by omega, by go_num, Lib.hid (A2.out.other Hg.out.2.2.symm), Lib.hid ?_, Lib.hid (A3.out.setCell Hg.out.1 _)⟩
        rw [← afill_step Hy.out (by rw [Hl.out]; exact hlt)]
        exact A1.out.set
      case measure => simp [intOf]; omega
    · have hk4 : k = 16 := by omega
      have Hr : Hid (Arr wr g1 23 .u8 L) := Lib.hid (by have h := K3.out; rw [hk4, fill_all HL.out Hl.out] at h; exact h)
      go_wp2_with (first
        | refine wp_load_arr arr16 rfl (.tmp 1) rfl rfl Hr.out HL.out ?_
        | refine wp_put_arr arr16 rfl (.tmp 2) (.tmp 15) rfl rfl (l' := L) rfl K2.out (Zs_length _) HL.out ?_)
      intro w5 H5 Hm5 Hs5
      go_wp2
      exact ret_arr arr16 rfl rfl H5.out HL.out rfl ⟨rfl, B3.out.trans (Hm5.out.below (fun j hj => by have := Hg.out; omega) B3.out.size)⟩

end Go.Proofs.Ytfkfkmdnffpcmaa

namespace Go.Proofs.Ytfkfkmdnffpcmaa
open Go.RowKit

set_option maxHeartbeats 1600000 in
theorem ashift_any (s : List UInt8) (w : World) (hs : s.length = 16) :
    Calls Try.prog 36 #[.agg (Nums .u8 (abn s))] w (AnsA w .u8 (abn (ashiftU s))) := by
  have Hat : Hid (∀ c r, c < 4 → r < 4 → ∃ x : UInt8, (abn s)[4 * ((c + r) % 4) + r]? = some x.toNat ∧ (abn (ashiftU s))[4 * c + r]? = some x.toNat) := Lib.hid (fun c r hc hr => by
    obtain ⟨x, h1, h2⟩ := ashift_at hs hc hr
    exact ⟨x, abn_get h1, abn_get h2⟩)
  have Hl : Hid ((abn s).length = 16) := Lib.hid (by rw [abn_length, hs])
  have HL : Hid ((abn (ashiftU s)).length = 16) := Lib.hid (by rw [abn_length, ashift_length])
  clear hs
  revert Hat Hl HL
  generalize abn (ashiftU s) = L
  generalize abn s = l
  intro Hat Hl HL
  go_enter Try.func36, Try.ntmps36
  go_wp2_with (refine wp_box_arr (k := .u8) rfl 23 (.tmp 0) rfl l rfl ?_)
  intro w1 g1 G1 H1 Hb1 Hs1
  go_wp2_with (refine wp_alloc_arr (k := .u8) rfl 23 rfl 16 zero16 ?_)
  intro w2 g2 G2 H2 Hb2 Hs2
  go_wp2_with (refine wp_alloc_arr (k := .u8) rfl 23 rfl 16 zero16 ?_)
  intro w3 g3 G3 H3 Hb3 Hs3
  have Hg : Hid (w.heap.size ≤ g1 ∧ w.heap.size ≤ g2 ∧ w.heap.size ≤ g3 ∧ g1 ≠ g3 ∧ g2 ≠ g3 ∧ g1 ≠ g2) := Lib.hid (by have := G1.out; have := G2.out; have := G3.out; have := Hs1.out; have := Hs2.out; omega)
  have K1 : Hid (Arr w3 g1 23 .u8 l) := Lib.hid ((H1.out.below Hb2.out H1.out.lt).below Hb3.out (Nat.lt_of_lt_of_le H1.out.lt Hb2.out.size))
  have K2 : Hid (Arr w3 g2 23 .u8 (Zs 16)) := Lib.hid (H2.out.below Hb3.out H2.out.lt)
  have B3 : Hid (Below w.heap.size w w3) := Lib.hid ((Hb1.out.trans (Hb2.out.mono Hb1.out.size)).trans (Hb3.out.mono (Nat.le_trans Hb1.out.size Hb2.out.size)))
  have K3 : Hid (Arr w3 g3 23 .u8 (L.take 0 ++ (Zs 16).drop 0)) := Lib.hid H3.out
  clear H1 H2 H3 Hb1 Hb2 Hb3 G1 G2 G3 Hs1 Hs2 Hs3
  go_wp2
  go_loopw [6] (fun i wr => ∃ c : Nat, c ≤ 4 ∧ i = .int .i64 (c : Int) ∧ Hid (Arr wr g1 23 .u8 l) ∧ Hid (Arr wr g2 23 .u8 (Zs 16)) ∧ Hid (Arr wr g3 23 .u8 (L.take (4 * c) ++ (Zs 16).drop (4 * c))) ∧ Hid (Below w.heap.size w wr)) (fun i _ => 4 - (intOf i).toNat)
  case atStart => exact ⟨0, by omega, rfl, K1, K2, K3, B3⟩
  case round =>
    clear K1 K2 K3 B3
    obtain ⟨c, hc, rfl, K1, K2, K3, B3⟩ := hrel
    by_cases hlt : c < 4
    · have K4 : Hid (Arr wr g3 23 .u8 (L.take (4 * c + 0) ++ (Zs 16).drop (4 * c + 0))) := Lib.hid K3.out
      go_wp2
      go_loopw [9] (fun i wr => ∃ r : Nat, r ≤ 4 ∧ i = .int .i64 (r : Int) ∧ Hid (Arr wr g1 23 .u8 l) ∧ Hid (Arr wr g2 23 .u8 (Zs 16)) ∧ Hid (Arr wr g3 23 .u8 (L.take (4 * c + r) ++ (Zs 16).drop (4 * c + r))) ∧ Hid (Below w.heap.size w wr)) (fun i _ => 4 - (intOf i).toNat)
      case atStart => exact ⟨0, by omega, rfl, K1, K2, K4, B3⟩
      case round =>
        clear K1 K2 K3 K4 B3
        obtain ⟨r, hr, rfl, K1, K2, K3, B3⟩ := hrel
        by_cases hlr : r < 4
        · obtain ⟨x, hx, hy⟩ := Hat.out c r hlt hlr
          obtain ⟨p, hp⟩ : ∃ p, (c + r) % 4 = p := ⟨_, rfl⟩
          rw [hp] at hx
          have hp4 : p < 4 := by omega
          have ep : ((c : Int) + (r : Int)) % 4 = (p : Int) := by omega
          obtain ⟨q, hq⟩ : ∃ q, 4 * p + r = q := ⟨_, rfl⟩
          rw [hq] at hx
          have hq16 : q < 16 := by omega
          have eq : 4 * (p : Int) + (r : Int) = (q : Int) := by omega
          obtain ⟨o, ho⟩ : ∃ o, 4 * c + r = o := ⟨_, rfl⟩
          rw [ho] at hy K3
          have ho16 : o < 16 := by omega
          have eo : 4 * (c : Int) + (r : Int) = (o : Int) := by omega
          have Ho := Lib.hid ho
          have Hy := Lib.hid hy
          have hin := K1.out.at_ hx
          have hout := K3.out.at_ (fill_get (L := L) (M := Zs 16) (i := o) (by rw [Zs_length]; exact ho16) (by rw [HL.out]; omega))
          have hfz := K3.out.frozen o
          clear hp hq ho hx hy
          go_wp2
          go_roundw
          case rel =>
            refine ⟨r + 1, by omega, by go_num, Lib.hid (K1.out.other Hg.out.2.2.2.1), Lib.hid (K2.out.other Hg.out.2.2.2.2.1), Lib.hid ?_, Lib.hid (B3.out.setCell Hg.out.2.2.1 _)⟩
            rw [show 4 * c + (r + 1) = o + 1 by have := Ho.out; omega, ← afill_step Hy.out (by rw [Zs_length]; exact ho16)]
            exact K3.out.set
          case measure => simp [intOf]; omega
        · have hr4 : r = 4 := by omega
          subst hr4
          have K4 : Hid (Arr wr g3 23 .u8 (L.take (4 * (c + 1)) ++ (Zs 16).drop (4 * (c + 1)))) := Lib.hid K3.out
          go_wp2
          go_roundw
          case rel => exact ⟨c + 1, by omega, by go_num, K1, K2, K4, B3⟩
          case measure => simp [intOf]; omega
    · have hk4 : c = 4 := by omega
      have Hr : Hid (Arr wr g3 23 .u8 L) := Lib.hid (by have h := K3.out; rw [hk4, fill_all HL.out (Zs_length _)] at h; exact h)
      go_wp2_with (first
        | refine wp_load_arr arr16 rfl (.tmp 3) rfl rfl Hr.out HL.out ?_
        | refine wp_put_arr arr16 rfl (.tmp 2) (.tmp 28) rfl rfl (l' := L) rfl K2.out (Zs_length _) HL.out ?_)
      intro w5 H5 Hm5 Hs5
      go_wp2
      exact ret_arr arr16 rfl rfl H5.out HL.out rfl ⟨rfl, B3.out.trans (Hm5.out.below (fun j hj => by have := Hg.out; omega) B3.out.size)⟩

end Go.Proofs.Ytfkfkmdnffpcmaa

namespace Go.Proofs.Ytfkfkmdnffpcmaa
open Go.RowKit

set_option maxHeartbeats 1600000 in
theorem amix_any (s : List UInt8) (w : World) (hs : s.length = 16) :
    Calls Try.prog 35 #[.agg (Nums .u8 (abn s))] w (AnsA w .u8 (abn (amixU s))) := by
  have Hat := Lib.hid (fun c (hc : c < 4) => amix_at hs hc)
  have Hl : Hid ((abn s).length = 16) := Lib.hid (by rw [abn_length, hs])
  have HL : Hid ((abn (amixU s)).length = 16) := Lib.hid (by rw [abn_length, amix_length hs])
  clear hs
  revert Hat Hl HL
  generalize abn (amixU s) = L
  generalize abn s = l
  intro Hat Hl HL
  go_enter Try.func35, Try.ntmps35
  go_wp2_with (refine wp_box_arr (k := .u8) rfl 23 (.tmp 0) rfl l rfl ?_)
  intro w1 g1 G1 H1 Hb1 Hs1
  go_wp2_with (refine wp_alloc_arr (k := .u8) rfl 23 rfl 16 zero16 ?_)
  intro w2 g2 G2 H2 Hb2 Hs2
  have Hg : Hid (w.heap.size ≤ g1 ∧ w.heap.size ≤ g2 ∧ g1 ≠ g2) := Lib.hid (by have := G1.out; have := G2.out; have := Hs1.out; omega)
  have K1 : Hid (Arr w2 g1 23 .u8 (L.take (4 * 0) ++ l.drop (4 * 0))) := Lib.hid (H1.out.below Hb2.out H1.out.lt)
  have B2 : Hid (Below w.heap.size w w2) := Lib.hid (Hb1.out.trans (Hb2.out.mono Hb1.out.size))
  clear H1 Hb1 Hb2 G1 G2 Hs1 Hs2
  go_wp2
  go_loopw [6] (fun i wr => ∃ c : Nat, c ≤ 4 ∧ i = .int .i64 (c : Int) ∧ Hid (Arr wr g2 23 .u8 (Zs 16)) ∧ Hid (Arr wr g1 23 .u8 (L.take (4 * c) ++ l.drop (4 * c))) ∧ Hid (Below w.heap.size w wr)) (fun i _ => 4 - (intOf i).toNat)
  case atStart => exact ⟨0, by omega, rfl, H2, K1, B2⟩
  case round =>
    clear K1 B2 H2
    obtain ⟨c, hc, rfl, K2, K1, B3⟩ := hrel
    by_cases hlt : c < 4
    · obtain ⟨p, q, r, t, hin, hout⟩ := Hat.out c hlt
      have Hin := Lib.hid hin
      have Hout := Lib.hid hout
      clear hin hout
      have hc' := fun w' => gcolumn_any p q r t w'
      have hsl := fun W => run_slice_arr (g := g1) arr16 info_u8n (4 * c) (4 * (c + 1)) (4 * (c : Int)) (4 * ((c : Int) + 1)) (by omega) (by omega) (by omega) (by omega) (by omega) W
      obtain ⟨o, ho⟩ : ∃ o, 4 * c = o := ⟨_, rfl⟩
      obtain ⟨m, hm⟩ : ∃ m, 16 - o = m := ⟨_, rfl⟩
      rw [ho, show 4 * (c + 1) - o = 4 by omega, hm] at hsl
      rw [ho] at K1 Hin Hout
      have Ho := Lib.hid ho
      clear ho hm
      have harr := fun W => run_arrayAt (P := Try.prog) arr4 (some ⟨g1, o, none⟩) 4 m (by omega) W
      have Ho16 : Hid (o + 4 ≤ 16) := Lib.hid (by have := Ho.out; omega)
      have Hcol : Hid (wr.rangeAt g1 o ((four p q r t).map fun (n : Nat) => Value.int .u8 (n : Int))) := Lib.hid (K1.out.range (fun j x hx => by
        have h16 := Ho16.out
        have hlen : (List.take o L).length = o := by rw [List.length_take, HL.out]; omega
        rw [List.getElem?_append_right (by omega), hlen, List.getElem?_drop, ← Hin.out j x hx]
        congr 1
        omega))
      go_wp2_with (first
        | refine wpList_load_mid rfl 51 (.tmp 16) rfl g1 o rfl _ _ Hcol.out arr4.under rfl rfl ?_
        | fail)
      refine (hc' _).mono ?_
      rintro e w4 ⟨rfl, hb4⟩
      have A1 : Hid (Arr w4 g1 23 .u8 (L.take o ++ l.drop o)) := Lib.hid (K1.out.below hb4 K1.out.lt)
      have A2 : Hid (Arr w4 g2 23 .u8 (Zs 16)) := Lib.hid (K2.out.below hb4 K2.out.lt)
      have A3 : Hid (Below w.heap.size w w4) := Lib.hid (abon B3.out hb4)
      clear hb4 K1 K2 B3 Hcol
      go_wp2_with (refine wp_alloc_arr (k := .u8) rfl 51 rfl 4 zero4 ?_)
      intro w5 g5 G5 H5 Hb5 Hs5
      go_wp2_with (refine wp_put_arr arr4 rfl (.tmp 5) (.tmp 18) rfl rfl (l' := gcolU p q r t) rfl H5.out (Zs_length _) rfl ?_)
      intro w6 H6 Hm6 Hs6
      have hne : Hid (g1 ≠ g5 ∧ g2 ≠ g5 ∧ w.heap.size ≤ g5) := Lib.hid (by have := G5.out; have := A1.out.lt; have := A2.out.lt; have := A3.out.size; omega)
      have C1 : Hid (Arr w6 g1 23 .u8 (L.take o ++ l.drop o)) := Lib.hid ((A1.out.below Hb5.out A1.out.lt).moves Hm6.out (fun h => hne.out.1 h))
      have C2 : Hid (Arr w6 g2 23 .u8 (Zs 16)) := Lib.hid ((A2.out.below Hb5.out A2.out.lt).moves Hm6.out (fun h => hne.out.2.1 h))
      have C3 : Hid (Below w.heap.size w w6) := Lib.hid ((abon A3.out Hb5.out).trans (Hm6.out.below (fun j hj => by rw [hj]; exact hne.out.2.2) (by have := A3.out.size; have := Hb5.out.size; omega)))
      clear A1 A2 A3 H5 Hb5 Hs5 Hm6 Hs6 G5
      go_wp2_with (refine wp_copy_arr (k := .u8) (g := g1) rfl (.tmp 19) (.tmp 20) 22 22 rfl 5 Try.underlying22 info_u8n o 4 m ⟨g5, 0, none⟩ 4 4 rfl rfl _ (gcolU p q r t) C1.out rfl (fun j x hx => by rw [add_flat, Nat.zero_add]; exact H6.out.at_ hx) (by have := Ho16.out; have h4 : (gcolU p q r t).length = 4 := rfl; rw [h4, List.length_append, List.length_take, List.length_drop, HL.out, Hl.out]; omega) ?_)
      intro w7 H7 Hm7 Hs7
      rw [afill_splice (L := L) (M := l) (ns := gcolU p q r t) (off := o) (by rw [HL.out, Hl.out]) (by have := Ho16.out; have h4 : (gcolU p q r t).length = 4 := rfl; rw [h4, Hl.out]; omega) Hout.out] at H7
      go_wp2
      go_roundw
      case rel =>
        refine ⟨c + 1, by omega, by go_num, Lib.hid (C2.out.moves Hm7.out (fun h => Hg.out.2.2 h.symm)), Lib.hid ?_, Lib.hid (C3.out.trans (Hm7.out.below (fun j hj => by rw [hj]; exact Hg.out.1) C3.out.size))⟩
        have h := H7.out
        have e4 : o + (gcolU p q r t).length = 4 * (c + 1) := by have := Ho.out; have h4 : (gcolU p q r t).length = 4 := rfl; omega
        rw [e4] at h
        exact h
      case measure => simp [intOf]; omega
    · have hk4 : c = 4 := by omega
      have Hr : Hid (Arr wr g1 23 .u8 L) := Lib.hid (by have h := K1.out; rw [hk4, fill_all HL.out Hl.out] at h; exact h)
      go_wp2_with (first
        | refine wp_load_arr arr16 rfl (.tmp 1) rfl rfl Hr.out HL.out ?_
        | refine wp_put_arr arr16 rfl (.tmp 2) (.tmp 23) rfl rfl (l' := L) rfl K2.out (Zs_length _) HL.out ?_)
      intro w5 H5 Hm5 Hs5
      go_wp2
      exact ret_arr arr16 rfl rfl H5.out HL.out rfl ⟨rfl, B3.out.trans (Hm5.out.below (fun j hj => by have := Hg.out; omega) B3.out.size)⟩

end Go.Proofs.Ytfkfkmdnffpcmaa

namespace Go.Proofs.Ytfkfkmdnffpcmaa
open Go.RowKit

set_option maxHeartbeats 1600000 in
theorem aadd_any (s t : List UInt8) (w : World) (hs : s.length = 16) (ht : t.length = 16) :
    Calls Try.prog 34 #[.agg (Nums .u8 (abn s)), .agg (Nums .u8 (abn t))] w (AnsA w .u8 (abn (aaddU s t))) := by
  have Hat : Hid (∀ k, k < 16 → ∃ x y : UInt8, (abn s)[k]? = some x.toNat ∧ (abn t)[k]? = some y.toNat ∧ (abn (aaddU s t))[k]? = some (x ^^^ y).toNat) := Lib.hid (fun k hk => by
    obtain ⟨x, y, h1, h2, h3⟩ := aadd_at (s := s) (t := t) (k := k) (by omega) (by omega)
    exact ⟨x, y, abn_get h1, abn_get h2, abn_get h3⟩)
  have Hl : Hid ((abn s).length = 16) := Lib.hid (by rw [abn_length, hs])
  have Hm : Hid ((abn t).length = 16) := Lib.hid (by rw [abn_length, ht])
  have HL : Hid ((abn (aaddU s t)).length = 16) := Lib.hid (by rw [abn_length, aadd_length hs ht])
  clear hs ht
  revert Hat Hl Hm HL
  generalize abn (aaddU s t) = L
  generalize abn s = l
  generalize abn t = m
  intro Hat Hl Hm HL
  go_enter Try.func34, Try.ntmps34
  go_wp2_with (refine wp_box_arr (k := .u8) rfl 23 (.tmp 0) rfl l rfl ?_)
  intro w1 g1 G1 H1 Hb1 Hs1
  go_wp2_with (refine wp_box_arr (k := .u8) rfl 23 (.tmp 1) rfl m rfl ?_)
  intro w2 g2 G2 H2 Hb2 Hs2
  go_wp2_with (refine wp_alloc_arr (k := .u8) rfl 23 rfl 16 zero16 ?_)
  intro w3 g3 G3 H3 Hb3 Hs3
  have Hg : Hid (w.heap.size ≤ g1 ∧ w.heap.size ≤ g2 ∧ w.heap.size ≤ g3 ∧ g1 ≠ g3 ∧ g2 ≠ g3 ∧ g1 ≠ g2) := Lib.hid (by have := G1.out; have := G2.out; have := G3.out; have := Hs1.out; have := Hs2.out; omega)
  have K1 : Hid (Arr w3 g1 23 .u8 (L.take 0 ++ l.drop 0)) := Lib.hid ((H1.out.below Hb2.out H1.out.lt).below Hb3.out (Nat.lt_of_lt_of_le H1.out.lt Hb2.out.size))
  have K2 : Hid (Arr w3 g2 23 .u8 m) := Lib.hid (H2.out.below Hb3.out H2.out.lt)
  have B3 : Hid (Below w.heap.size w w3) := Lib.hid ((Hb1.out.trans (Hb2.out.mono Hb1.out.size)).trans (Hb3.out.mono (Nat.le_trans Hb1.out.size Hb2.out.size)))
  clear H1 H2 Hb1 Hb2 Hb3 G1 G2 G3 Hs1 Hs2 Hs3
  go_wp2_with (refine wp_load_arr arr16 rfl (.tmp 3) rfl rfl K2.out Hm.out ?_)
  go_wp2
  go_loopw [8] (fun i wr => ∃ k : Nat, k ≤ 16 ∧ i = .int .i64 (k : Int) ∧ Hid (Arr wr g2 23 .u8 m) ∧ Hid (Arr wr g3 23 .u8 (Zs 16)) ∧ Hid (Arr wr g1 23 .u8 (L.take k ++ l.drop k)) ∧ Hid (Below w.heap.size w wr)) (fun i _ => 16 - (intOf i).toNat)
  case atStart => exact ⟨0, by omega, rfl, K2, H3, K1, B3⟩
  case round =>
    clear K1 K2 B3 H3
    obtain ⟨k, hk, rfl, K2, K3, K1, B3⟩ := hrel
    by_cases hlt : k < 16
    · obtain ⟨x, y, hx, hy, hxy⟩ := Hat.out k hlt
      have hix := fun w' => run_index_arr arr16 info_u8n Hm.out hy w'
      have hin := K1.out.at_ (afill_at hx (L := L) (by rw [HL.out]; omega))
      have hin2 := K2.out.at_ hy
      have hfz := K1.out.frozen k
      have hxor := gxor_u8 x y
      have Hy : Hid (L[k]? = some (x ^^^ y).toNat) := Lib.hid hxy
      clear hx hy hxy
      generalize x ^^^ y = z at *
      go_wp2
      go_roundw
      case rel =>
        refine ⟨k + 1, by omega, by go_num, Lib.hid (K2.out.other Hg.out.2.2.2.2.2.symm), Lib.hid (K3.out.other Hg.out.2.2.2.1.symm), Lib.hid ?_, Lib.hid (B3.out.setCell Hg.out.1 _)⟩
        rw [← afill_step Hy.out (by rw [Hl.out]; exact hlt)]
        exact K1.out.set
      case measure => simp [intOf]; omega
    · have hk4 : k = 16 := by omega
      have Hr : Hid (Arr wr g1 23 .u8 L) := Lib.hid (by have h := K1.out; rw [hk4, fill_all HL.out Hl.out] at h; exact h)
      go_wp2_with (first
        | refine wp_load_arr arr16 rfl (.tmp 2) rfl rfl Hr.out HL.out ?_
        | refine wp_put_arr arr16 rfl (.tmp 4) (.tmp 19) rfl rfl (l' := L) rfl K3.out (Zs_length _) HL.out ?_)
      intro w5 H5 Hm5 Hs5
      go_wp2
      exact ret_arr arr16 rfl rfl H5.out HL.out rfl ⟨rfl, B3.out.trans (Hm5.out.below (fun j hj => by have := Hg.out; omega) B3.out.size)⟩

end Go.Proofs.Ytfkfkmdnffpcmaa

namespace Go.Proofs.Ytfkfkmdnffpcmaa
open Go.RowKit

set_option maxHeartbeats 1600000 in
theorem aenc_any (k s : List UInt8) (w : World) (hk : k.length = 240) (hs : s.length = 16) :
    Calls Try.prog 27 #[.agg (Nums .u8 (abn k)), .agg (Nums .u8 (abn s))] w (AnsA w .u8 (abn (aencU k s))) := by
  have Hl : ∀ x : List UInt8, x.length = 16 → Hid ((abn x).length = 16) := fun x hx => Lib.hid (by rw [abn_length, hx])
  have HK : Hid ((abn k).length = 240) := Lib.hid (by rw [abn_length, hk])
  have Hk := Lib.hid hk
  have Hs := Lib.hid hs
  have Hr : Hid (∀ i, i < 15 → (aroundsB gboxU k s i).length = 16) := Lib.hid fun i hi => arounds_length hk hs hi
  have Hkey : Hid (∀ i, i < 15 → (akeyAt k i).length = 16) := Lib.hid fun i hi => akeyAt_length hk hi
  clear hk hs
  have cadd : ∀ (x y : List UInt8) (W : World), Hid (x.length = 16) → Hid (y.length = 16) → Calls Try.prog 34 #[.agg (Nums .u8 (abn x)), .agg (Nums .u8 (abn y))] W (AnsA W .u8 (abn (aaddU x y))) := fun x y W hx hy => aadd_any x y W hx.out hy.out
  go_enter Try.func27, Try.ntmps27
  go_wp2_with (refine wp_box_arr (k := .u8) rfl 47 (.tmp 0) rfl (abn k) rfl ?_)
  intro w1 g1 G1 H1 Hb1 Hs1
  go_wp2_with (refine wp_box_arr (k := .u8) rfl 23 (.tmp 1) rfl (abn s) rfl ?_)
  intro w2 g2 G2 H2 Hb2 Hs2
  go_wp2_with (refine wp_alloc_arr (k := .u8) rfl 23 rfl 16 zero16 ?_)
  intro w3 g3 G3 H3 Hb3 Hs3
  have Hg : Hid (w.heap.size ≤ g1 ∧ w.heap.size ≤ g2 ∧ w.heap.size ≤ g3 ∧ g1 ≠ g3 ∧ g2 ≠ g3 ∧ g1 ≠ g2) := Lib.hid (by have := G1.out; have := G2.out; have := G3.out; have := Hs1.out; have := Hs2.out; omega)
  have F3 : Hid (SK w [(g2, 23, abn s), (g1, 47, abn k), (g3, 23, Zs 16)] w3) := Lib.hid ⟨by
    intro x hx
    simp only [List.mem_cons, List.not_mem_nil, or_false] at hx
    rcases hx with rfl | rfl | rfl
    · exact H2.out.below Hb3.out H2.out.lt
    · exact (H1.out.below Hb2.out H1.out.lt).below Hb3.out (Nat.lt_of_lt_of_le H1.out.lt Hb2.out.size)
    · exact H3.out, abon (abon Hb1.out Hb2.out) Hb3.out⟩
  clear H1 H2 H3 Hb1 Hb2 Hb3 G1 G2 G3 Hs1 Hs2 Hs3
  have K1 : Hid (Arr w3 g1 47 .u8 (abn k)) := Lib.hid (F3.out.1 (g1, 47, abn k) (by simp))
  have ix0 := fun W => run_indexAt_w (b := g1) arrKeys info_16 0 0 0 rfl (by omega) (by omega) W
  have sl1 : ∀ W, (Instr.sliceAt 47 (.pointer (some ⟨g1, 0, none⟩)) (some (.int .i64 1)) (some (.int .i64 14)) none).run Try.prog W = .ok (.slice (some ⟨g1, 16, none⟩) 13 14) W := fun W => run_slice_w (b := g1) arrKeys info_16 1 14 16 13 14 (by omega) (by omega) (by omega) (by omega) (by omega) (by omega) W
  go_wp2_with (first
    | refine wp_load_arr arr16 rfl (.tmp 3) rfl rfl (sk_hd F3.out) (Hl s Hs.out).out ?_
    | refine wp_load_part (ns := abn (akeyAt k 0)) arr16.under rfl info_16 rfl (.tmp 10) rfl 0 rfl K1.out (Hl _ (Hkey.out 0 (by omega))).out (fun j x hx => akeyAt_get (i := 0) j x hx) ?_)
  refine (cadd _ _ _ Hs (Lib.hid (Hkey.out 0 (by omega)))).mono ?_
  rintro e w4 ⟨rfl, hb4⟩
  have F4 := Lib.hid (sk_below (sk_sub (M := [(g1, 47, abn k), (g3, 23, Zs 16)]) F3.out (by simp)) hb4)
  have Hrd0 : Hid (aroundsB gboxU k s 0 = aaddU s (akeyAt k 0)) := Lib.hid rfl
  have Hrl := Hr.out 0 (by omega)
  rw [← Hrd0.out]
  clear hb4 F3 K1
  go_wp2_with (refine wp_alloc_arr (k := .u8) rfl 23 rfl 16 zero16 ?_)
  intro w5 g5 G5 H5 Hb5 Hs5
  go_wp2_with (refine wp_put_arr arr16 rfl (.tmp 6) (.tmp 12) rfl rfl (l' := abn (aroundsB gboxU k s 0)) rfl H5.out (Zs_length _) (Hl _ Hrl).out ?_)
  intro w6 H6 Hm6 Hs6
  have Hg5 : Hid (g1 ≠ g5 ∧ g3 ≠ g5 ∧ w.heap.size ≤ g5 ∧ g1 ≠ g3 ∧ w.heap.size ≤ g3) := Lib.hid (by
    have e := G5.out
    have h1 := (F4.out.1 (g1, 47, abn k) (by simp)).lt
    have h2 := (F4.out.1 (g3, 23, Zs 16) (by simp)).lt
    have h3 := F4.out.2.size
    have h4 := Hg.out
    dsimp only at h1 h2
    omega)
  have F6 : Hid (SK w [(g5, 23, abn (aroundsB gboxU k s 0)), (g1, 47, abn k), (g3, 23, Zs 16)] w6) := Lib.hid (sk_cons (sk_keep (sk_below F4.out Hb5.out) Hm6.out (by
    have h4 := Hg5.out
    intro x hx
    simp only [List.mem_cons, List.not_mem_nil, or_false] at hx
    rcases hx with rfl | rfl
    · exact h4.1
    · exact h4.2.1) Hg5.out.2.2.1) H6.out)
  clear F4 H5 Hb5 Hs5 Hm6 Hs6 H6 G5 Hrd0 Hrl ix0 Hg Hs
  go_wp2
  go_loopw [16] (fun i wr => ∃ n : Nat, n ≤ 13 ∧ i = .int .i64 (n : Int) ∧ Hid (SK w [(g5, 23, abn (aroundsB gboxU k s n)), (g1, 47, abn k), (g3, 23, Zs 16)] wr)) (fun i _ => 13 - (intOf i).toNat)
  case atStart => exact ⟨0, by omega, rfl, F6⟩
  case round =>
    clear F6
    obtain ⟨n, hn, rfl, F6⟩ := hrel
    by_cases hlt : n < 13
    · obtain ⟨q, hq⟩ : ∃ q, 16 + n * 16 = q := ⟨_, rfl⟩
      have ix := fun W => run_indexAt_row (P := Try.prog) (b := g1) (t := 57) (e := 23) (by kernel_rfl) info_16 16 13 14 n q (n : Int) rfl hlt hq W
      have Hq : Hid (16 * (n + 1) = q) := Lib.hid (by omega)
      clear hq
      have K1 : Hid (Arr wr g1 47 .u8 (abn k)) := Lib.hid (F6.out.1 (g1, 47, abn k) (by simp))
      have Hkl := Lib.hid (Hkey.out (n + 1) (by omega))
      have Hsl := Lib.hid (Hr.out n (by omega))
      have Hnx : Hid (aaddU (amixU (ashiftU (asubU (aroundsB gboxU k s n)))) (akeyAt k (n + 1)) = aroundsB gboxU k s (n + 1)) := Lib.hid rfl
      go_wp2_with (first
        | refine wp_load_part (ns := abn (akeyAt k (n + 1))) arr16.under rfl info_16 rfl (.tmp 18) rfl q rfl K1.out (Hl _ Hkl.out).out (fun j x hx => by have h := akeyAt_get (i := n + 1) j x hx; rw [Hq.out] at h; exact h) ?_
        | refine wp_alloc_arr (k := .u8) rfl 23 rfl 16 zero16 ?_)
      intro w7 g7 G7 H7 Hb7 Hs7
      go_wp2_with (refine wp_put_arr arr16 rfl (.tmp 8) (.tmp 19) rfl rfl (l' := abn (akeyAt k (n + 1))) rfl H7.out (Zs_length _) (Hl _ Hkl.out).out ?_)
      intro w8 H8 Hm8 Hs8
      have Hg7 : Hid (g5 ≠ g7 ∧ g1 ≠ g7 ∧ g3 ≠ g7 ∧ w.heap.size ≤ g7) := Lib.hid (by
        have e := G7.out
        have h0 := (sk_hd F6.out).lt
        have h1 := K1.out.lt
        have h2 := (F6.out.1 (g3, 23, Zs 16) (by simp)).lt
        have h3 := F6.out.2.size
        dsimp only at h2
        omega)
      have F8 : Hid (SK w [(g5, 23, abn (aroundsB gboxU k s n)), (g7, 23, abn (akeyAt k (n + 1))), (g1, 47, abn k), (g3, 23, Zs 16)] w8) := Lib.hid (sk_sub (sk_cons (sk_keep (sk_below F6.out Hb7.out) Hm8.out (by
        have h4 := Hg7.out
        intro x hx
        simp only [List.mem_cons, List.not_mem_nil, or_false] at hx
        rcases hx with rfl | rfl | rfl
        · exact h4.1
        · exact h4.2.1
        · exact h4.2.2.1) Hg7.out.2.2.2) H8.out) (by intro x hx; simp only [List.mem_cons, List.not_mem_nil, or_false] at hx ⊢; rcases hx with rfl | rfl | rfl | rfl <;> simp))
      have Hne : Hid (∀ x ∈ [(g7, 23, abn (akeyAt k (n + 1))), (g1, 47, abn k), (g3, 23, Zs 16)], x.1 ≠ g5) := Lib.hid (by
        have h4 := Hg7.out
        have h5 := Hg5.out
        intro x hx
        simp only [List.mem_cons, List.not_mem_nil, or_false] at hx
        rcases hx with rfl | rfl | rfl
        · exact h4.1.symm
        · exact h5.1
        · exact h5.2.1)
      have Hsn := Lib.hid (Hr.out (n + 1) (by omega))
      clear F6 H7 H8 Hb7 Hs7 Hm8 Hs8 G7 K1 ix
      have csub := fun W => asub_any (aroundsB gboxU k s n) W Hsl.out
      have H1l : Hid ((asubU (aroundsB gboxU k s n)).length = 16) := Lib.hid (by rw [asubU, asubB_length]; exact Hsl.out)
      have cshift := fun W => ashift_any (asubU (aroundsB gboxU k s n)) W H1l.out
      have H2l : Hid ((ashiftU (asubU (aroundsB gboxU k s n))).length = 16) := Lib.hid (ashift_length _)
      have cmix := fun W => amix_any (ashiftU (asubU (aroundsB gboxU k s n))) W H2l.out
      have H3l : Hid ((amixU (ashiftU (asubU (aroundsB gboxU k s n)))).length = 16) := Lib.hid (amix_length H2l.out)
      have cadd2 := fun W => cadd (amixU (ashiftU (asubU (aroundsB gboxU k s n)))) (akeyAt k (n + 1)) W H3l Hkl
      rw [Hnx.out] at cadd2
      have HX0 := Hl _ Hsl.out
      have HXk := Hl _ Hkl.out
      have HXn := Hl _ Hsn.out
      clear Hsl H1l H2l H3l Hnx
      revert csub cshift cmix cadd2 F8 Hne HX0 HXk HXn
      generalize abn (amixU (ashiftU (asubU (aroundsB gboxU k s n)))) = X3
      generalize abn (ashiftU (asubU (aroundsB gboxU k s n))) = X2
      generalize abn (asubU (aroundsB gboxU k s n)) = X1
      generalize hX0 : abn (aroundsB gboxU k s n) = X0
      generalize hX4 : abn (aroundsB gboxU k s (n + 1)) = X4
      generalize abn (akeyAt k (n + 1)) = XK
      intro F8 Hne csub cshift cmix cadd2 HX0 HXk HXn
      have HX4 := Lib.hid hX4
      clear hX0 hX4
      go_wp2_with fail
      refine wp_region_ends (fun w' => SK w [(g5, 23, X0), (g7, 23, XK), (g1, 47, abn k), (g3, 23, Zs 16)] w') 6 (by kernel_rfl) ?_
      refine wpAnyE_take (i := 0) (some 20) rfl rfl (by kernel_rfl) (fun _ _ _ h => h) (yields_arr (k := .u8) (l := X0) (off := 0) (b := g5) (by rfl) _ rfl rfl (fun w' h => (sk_hd h).range (fun j x hx => by rw [Nat.zero_add]; exact hx)) arr16.under rfl (by rw [HX0.out]; exact info_16)) (sk_drewN F8.out 1) ?_
      simp only [Act.put, List.setIfInBounds_toArray, List.set_cons_zero, List.set_cons_succ]
      refine wpAnyE_take (i := 4) (some 24) rfl rfl (by kernel_rfl) (fun _ _ _ h => h) (yields_arr (k := .u8) (l := XK) (off := 0) (b := g7) (by rfl) _ rfl rfl (fun w' h => Arr.range (t := 23) (l := XK) (h.1 (g7, 23, XK) (by simp)) (fun j x hx => by rw [Nat.zero_add]; exact hx)) arr16.under rfl (by rw [HXk.out]; exact info_16)) (sk_drewN F8.out 1) ?_
      simp only [Act.put, List.setIfInBounds_toArray, List.set_cons_zero, List.set_cons_succ]
      refine wpAnyE_one (i := 1) (by kernel_rfl) rfl (fun K1 hK1 => ?_)
      refine stepE_call (v := .agg (Nums .u8 X1)) (R := fun w' => Below _ _ w') (some 21) rfl rfl 37 Try.func37 (by kernel_rfl) rfl _ _ rfl [.agg (Nums .u8 X0)] rfl (csub _) (fun W1 hW1 => hK1.out _ _ (.inr (sk_below (sk_drewN F8.out 1) hW1)) ?_)
      have S1 := Lib.hid (sk_below (sk_drewN F8.out 1) hW1)
      clear hW1
      simp only [Act.put, List.setIfInBounds_toArray, List.set_cons_zero, List.set_cons_succ]
      refine wpAnyE_one (i := 2) (by kernel_rfl) rfl (fun K2 hK2 => ?_)
      refine stepE_call (v := .agg (Nums .u8 X2)) (R := fun w' => Below _ _ w') (some 22) rfl rfl 36 Try.func36 (by kernel_rfl) rfl _ _ rfl [.agg (Nums .u8 X1)] rfl (cshift _) (fun W2 hW2 => hK2.out _ _ (.inr (sk_below S1.out hW2)) ?_)
      have S2 := Lib.hid (sk_below S1.out hW2)
      clear hW2 S1
      simp only [Act.put, List.setIfInBounds_toArray, List.set_cons_zero, List.set_cons_succ]
      refine wpAnyE_one (i := 3) (by kernel_rfl) rfl (fun K3 hK3 => ?_)
      refine stepE_call (v := .agg (Nums .u8 X3)) (R := fun w' => Below _ _ w') (some 23) rfl rfl 35 Try.func35 (by kernel_rfl) rfl _ _ rfl [.agg (Nums .u8 X2)] rfl (cmix _) (fun W3 hW3 => hK3.out _ _ (.inr (sk_below S2.out hW3)) ?_)
      have S3 := Lib.hid (sk_below S2.out hW3)
      clear hW3 S2
      simp only [Act.put, List.setIfInBounds_toArray, List.set_cons_zero, List.set_cons_succ]
      refine wpAnyE_one (i := 5) (by kernel_rfl) rfl (fun K4 hK4 => ?_)
      refine stepE_call (v := .agg (Nums .u8 X4)) (R := fun w' => Below _ _ w') (some 25) rfl rfl 34 Try.func34 (by kernel_rfl) rfl _ _ rfl [.agg (Nums .u8 X3), .agg (Nums .u8 XK)] rfl (cadd2 _) (fun W4 hW4 => hK4.out _ _ (.inr (sk_below S3.out hW4)) ?_)
      have S4 := Lib.hid (sk_below S3.out hW4)
      clear hW4 S3
      simp only [Act.put, List.setIfInBounds_toArray, List.set_cons_zero, List.set_cons_succ]
      refine wpAnyE_one (i := 6) (by kernel_rfl) rfl (fun K5 hK5 => ?_)
      refine stepE_put arr16 none rfl rfl _ _ rfl rfl rfl (sk_hd S4.out) HX0.out HXn.out (fun W5 A5 M5 _ => hK5.out _ _ (.inl rfl) ?_)
      have S5 := Lib.hid (sk_put S4.out M5.out A5.out Hne.out Hg5.out.2.2.1)
      clear S4 A5 M5
      simp only [Act.put]
      refine wpAnyE_done (by kernel_rfl) ?_
      have S6 := Lib.hid (sk_sub (M := [(g5, 23, X4), (g1, 47, abn k), (g3, 23, Zs 16)]) S5.out (by intro x hx; simp only [List.mem_cons, List.not_mem_nil, or_false] at hx ⊢; rcases hx with rfl | rfl | rfl <;> simp))
      rw [← HX4.out] at S6
      clear hK1 hK2 hK3 hK4 hK5 K1 K2 K3 K4 K5 S5
      go_wp2
      go_roundw
      case rel => exact ⟨n + 1, by omega, by go_num, S6⟩
      case measure => simp [intOf]; omega
    · obtain rfl : n = 13 := by omega
      have ix : ∀ W, (Instr.indexAt 47 (.pointer (some ⟨g1, 0, none⟩)) (.int .i64 14)).run Try.prog W = .ok (.pointer (some ⟨g1, 224, none⟩)) W := fun W => run_indexAt_w (b := g1) arrKeys info_16 14 224 14 rfl (by omega) (by omega) W
      have Hkl := Lib.hid (Hkey.out 14 (by omega))
      have Hsl := Lib.hid (Hr.out 13 (by omega))
      have Hfin : Hid (aaddU (ashiftU (asubU (aroundsB gboxU k s 13))) (akeyAt k 14) = aencU k s) := Lib.hid rfl
      have csub := fun W => asub_any (aroundsB gboxU k s 13) W Hsl.out
      have H1l : Hid ((asubU (aroundsB gboxU k s 13)).length = 16) := Lib.hid (by rw [asubU, asubB_length]; exact Hsl.out)
      have cshift := fun W => ashift_any (asubU (aroundsB gboxU k s 13)) W H1l.out
      have H2l : Hid ((ashiftU (asubU (aroundsB gboxU k s 13))).length = 16) := Lib.hid (ashift_length _)
      have cadd2 := fun W => cadd (ashiftU (asubU (aroundsB gboxU k s 13))) (akeyAt k 14) W H2l Hkl
      have HXn : Hid ((abn (aencU k s)).length = 16) := Lib.hid (by rw [abn_length, ← Hfin.out, aadd_length H2l.out Hkl.out])
      rw [Hfin.out] at cadd2
      have HX0 := Hl _ Hsl.out
      have HXk := Hl _ Hkl.out
      have Hpart : Hid (∀ j x : Nat, (abn (akeyAt k 14))[j]? = some x → (abn k)[224 + j]? = some x) := Lib.hid (fun j x hx => akeyAt_get (i := 14) j x hx)
      have Hg13 : Hid (∀ x ∈ [(g5, 23, abn (aroundsB gboxU k s 13)), (g1, 47, abn k)], x.1 ≠ g3) := Lib.hid (by
        have h5 := Hg5.out
        intro x hx
        simp only [List.mem_cons, List.not_mem_nil, or_false] at hx
        rcases hx with rfl | rfl
        · exact h5.2.1.symm
        · exact h5.2.2.2.1)
      clear Hsl Hkl H1l H2l Hfin Hl HK Hk Hr Hkey cadd sl1
      generalize abn (ashiftU (asubU (aroundsB gboxU k s 13))) = X2 at *
      generalize abn (asubU (aroundsB gboxU k s 13)) = X1 at *
      generalize abn (aroundsB gboxU k s 13) = X0 at *
      generalize abn (aencU k s) = X4 at *
      generalize abn (akeyAt k 14) = XK at *
      generalize abn k = XX at *
      go_wp2_with fail
      refine wp_region_ends (fun w' => SK w [(g5, 23, X0), (g1, 47, XX), (g3, 23, Zs 16)] w') 7 (by kernel_rfl) ?_
      refine wpAnyE_take (i := 0) (some 27) rfl rfl (by kernel_rfl) (fun _ _ _ h => h) (yields_arr (k := .u8) (l := X0) (off := 0) (b := g5) (by rfl) _ rfl rfl (fun w' h => (sk_hd h).range (fun j x hx => by rw [Nat.zero_add]; exact hx)) arr16.under rfl (by rw [HX0.out]; exact info_16)) (sk_drewN F6.out 1) ?_
      simp only [Act.put, List.setIfInBounds_toArray, List.set_cons_zero, List.set_cons_succ]
      refine wpAnyE_take (i := 3) (v := .int .i64 14) (some 30) rfl rfl (by kernel_rfl) (fun _ _ _ h => h) (.inl ⟨by rfl, fun _ _ => rfl⟩) (sk_drewN F6.out 1) ?_
      simp only [Act.put, List.setIfInBounds_toArray, List.set_cons_zero, List.set_cons_succ]
      refine wpAnyE_take (i := 4) (v := .pointer (some ⟨g1, 224, none⟩)) (some 31) rfl rfl (by kernel_rfl) (fun _ _ _ h => h) (.inl ⟨by rfl, fun W _ => by go_simp⟩) (sk_drewN F6.out 1) ?_
      simp only [Act.put, List.setIfInBounds_toArray, List.set_cons_zero, List.set_cons_succ]
      refine wpAnyE_take (i := 5) (some 32) rfl rfl (by kernel_rfl) (fun _ _ _ h => h) (yields_arr (k := .u8) (l := XK) (off := 224) (b := g1) (by rfl) _ rfl rfl (fun w' h => Arr.range (t := 47) (l := XX) (h.1 (g1, 47, XX) (by simp)) Hpart.out) arr16.under rfl (by rw [HXk.out]; exact info_16)) (sk_drewN F6.out 1) ?_
      simp only [Act.put, List.setIfInBounds_toArray, List.set_cons_zero, List.set_cons_succ]
      refine wpAnyE_one (i := 1) (by kernel_rfl) rfl (fun K1 hK1 => ?_)
      refine stepE_call (v := .agg (Nums .u8 X1)) (R := fun w' => Below _ _ w') (some 28) rfl rfl 37 Try.func37 (by kernel_rfl) rfl _ _ rfl [.agg (Nums .u8 X0)] rfl (csub _) (fun W1 hW1 => hK1.out _ _ (.inr (sk_below (sk_drewN F6.out 1) hW1)) ?_)
      have S1 := Lib.hid (sk_below (sk_drewN F6.out 1) hW1)
      clear hW1
      simp only [Act.put, List.setIfInBounds_toArray, List.set_cons_zero, List.set_cons_succ]
      refine wpAnyE_one (i := 2) (by kernel_rfl) rfl (fun K2 hK2 => ?_)
      refine stepE_call (v := .agg (Nums .u8 X2)) (R := fun w' => Below _ _ w') (some 29) rfl rfl 36 Try.func36 (by kernel_rfl) rfl _ _ rfl [.agg (Nums .u8 X1)] rfl (cshift _) (fun W2 hW2 => hK2.out _ _ (.inr (sk_below S1.out hW2)) ?_)
      have S2 := Lib.hid (sk_below S1.out hW2)
      clear hW2 S1
      simp only [Act.put, List.setIfInBounds_toArray, List.set_cons_zero, List.set_cons_succ]
      refine wpAnyE_one (i := 6) (by kernel_rfl) rfl (fun K4 hK4 => ?_)
      refine stepE_call (v := .agg (Nums .u8 X4)) (R := fun w' => Below _ _ w') (some 33) rfl rfl 34 Try.func34 (by kernel_rfl) rfl _ _ rfl [.agg (Nums .u8 X2), .agg (Nums .u8 XK)] rfl (cadd2 _) (fun W4 hW4 => hK4.out _ _ (.inr (sk_below S2.out hW4)) ?_)
      have S4 := Lib.hid (sk_below S2.out hW4)
      clear hW4 S2
      simp only [Act.put, List.setIfInBounds_toArray, List.set_cons_zero, List.set_cons_succ]
      refine wpAnyE_one (i := 7) (by kernel_rfl) rfl (fun K5 hK5 => ?_)
      refine stepE_put arr16 none rfl rfl _ _ rfl rfl rfl (S4.out.1 (g3, 23, Zs 16) (by simp)) (Zs_length _) HXn.out (fun W5 A5 M5 _ => hK5.out _ _ (.inl rfl) ?_)
      have S5 := Lib.hid (S4.out.2.trans (M5.out.below (B := w.heap.size) (fun j hj => by rw [hj]; exact Hg5.out.2.2.2.2) S4.out.2.size))
      clear hK1 hK2 hK4 hK5 K1 K2 K4 K5 S4 M5
      simp only [Act.put]
      refine wpAnyE_done (by kernel_rfl) ?_
      go_wp2
      exact ret_arr arr16 rfl rfl A5.out HXn.out rfl ⟨rfl, S5.out⟩

end Go.Proofs.Ytfkfkmdnffpcmaa

namespace Go.Proofs.Ytfkfkmdnffpcmaa
open Go.RowKit

set_option maxHeartbeats 1600000 in
/-- The closure that tells a block by its place. -/
theorem ctell_any (k s : List UInt8) (i g1 g2 : Nat) (w : World) (hk : k.length = 240) (hs : s.length = 16) (hi : i ≤ 65535)
    (hS : SK w [(g1, 47, abn k), (g2, 23, abn s)] w) :
    Calls Try.prog 26 #[.int .i64 (i : Int), .pointer (some ⟨g1, 0, none⟩), .pointer (some ⟨g2, 0, none⟩)] w (AnsA w .u8 (abn (cblkU k s i))) := by
  have H1 : Hid ((abn s).length = 16) := Lib.hid (by rw [abn_length, hs])
  have H2 : Hid ((abn k).length = 240) := Lib.hid (by rw [abn_length, hk])
  have H3 : Hid ((abn (cplusU s i)).length = 16) := Lib.hid (by rw [abn_length, cplus_length hs])
  have H4 : Hid ((abn (cblkU k s i)).length = 16) := Lib.hid (by rw [abn_length, cblk_length hk])
  have c1 := fun W => cplus_any s i W hs hi
  have c2 : ∀ W, Calls Try.prog 27 #[.agg (Nums .u8 (abn k)), .agg (Nums .u8 (abn (cplusU s i)))] W (AnsA W .u8 (abn (cblkU k s i))) := fun W => aenc_any k (cplusU s i) W hk (cplus_length hs)
  have HS := Lib.hid hS
  clear hk hs hi hS
  revert H1 H2 H3 H4 c1 c2 HS
  generalize abn (cblkU k s i) = R
  generalize abn (cplusU s i) = M
  generalize abn s = L
  generalize abn k = K
  intro H1 H2 H3 H4 c1 c2 HS
  go_enter Try.func26, Try.ntmps26
  go_wp2_with (refine wp_alloc_arr (k := .u8) rfl 23 rfl 16 zero16 ?_)
  intro w1 g3 G3 H5 Hb1 Hs1
  have Hg : Hid (w.heap.size ≤ g3 ∧ g1 ≠ g3 ∧ g2 ≠ g3) := Lib.hid (by
    have e := G3.out
    have h1 := (sk_hd HS.out).lt
    have h2 := (HS.out.1 (g2, 23, L) (by simp)).lt
    dsimp only at h2
    omega)
  have F1 : Hid (SK w [(g3, 23, Zs 16), (g1, 47, K), (g2, 23, L)] w1) := Lib.hid (sk_cons (sk_below HS.out Hb1.out) H5.out)
  have Hne : Hid (∀ x ∈ [(g1, 47, K), (g2, 23, L)], x.1 ≠ g3) := Lib.hid (by
    have h5 := Hg.out
    intro x hx
    simp only [List.mem_cons, List.not_mem_nil, or_false] at hx
    rcases hx with rfl | rfl
    · exact h5.2.1
    · exact h5.2.2)
  clear H5 Hb1 Hs1 G3 HS
  go_wp2_with fail
  refine wp_region_ends (fun w' => SK w [(g3, 23, Zs 16), (g1, 47, K), (g2, 23, L)] w') 5 (by kernel_rfl) ?_
  refine wpAnyE_take (i := 0) (some 5) rfl rfl (by kernel_rfl) (fun _ _ _ h => h) (yields_arr (k := .u8) (l := K) (off := 0) (b := g1) (by rfl) _ rfl rfl (fun w' h => sk_range (t := 47) (l := K) h (by simp)) arrKeys.under rfl (by rw [H2.out]; exact arrKeys.size)) (sk_drewN F1.out 1) ?_
  simp only [Act.put, List.setIfInBounds_toArray, List.set_cons_zero, List.set_cons_succ]
  refine wpAnyE_take (i := 1) (some 6) rfl rfl (by kernel_rfl) (fun _ _ _ h => h) (yields_arr (k := .u8) (l := L) (off := 0) (b := g2) (by rfl) _ rfl rfl (fun w' h => sk_range (t := 23) (l := L) h (by simp)) arr16.under rfl (by rw [H1.out]; exact info_16)) (sk_drewN F1.out 1) ?_
  simp only [Act.put, List.setIfInBounds_toArray, List.set_cons_zero, List.set_cons_succ]
  refine wpAnyE_take (i := 2) (v := .int .i64 (i : Int)) (some 7) rfl rfl (by kernel_rfl) (fun _ _ _ h => h) (.inl ⟨by rfl, fun W _ => rfl⟩) (sk_drewN F1.out 1) ?_
  simp only [Act.put, List.setIfInBounds_toArray, List.set_cons_zero, List.set_cons_succ]
  refine wpAnyE_one (i := 3) (by kernel_rfl) rfl (fun K1 hK1 => ?_)
  refine stepE_call (v := .agg (Nums .u8 M)) (R := fun w' => Below _ _ w') (some 8) rfl rfl 22 Try.func22 (by kernel_rfl) rfl _ _ rfl [.agg (Nums .u8 L), .int .i64 (i : Int)] rfl (c1 _) (fun W1 hW => hK1.out _ _ (.inr (sk_below (sk_drewN F1.out 1) hW)) ?_)
  have F2 := Lib.hid (sk_below (sk_drewN F1.out 1) hW)
  clear hW hK1 K1
  simp only [Act.put, List.setIfInBounds_toArray, List.set_cons_zero, List.set_cons_succ]
  refine wpAnyE_one (i := 4) (by kernel_rfl) rfl (fun K1 hK1 => ?_)
  refine stepE_call (v := .agg (Nums .u8 R)) (R := fun w' => Below _ _ w') (some 9) rfl rfl 27 Try.func27 (by kernel_rfl) rfl _ _ rfl [.agg (Nums .u8 K), .agg (Nums .u8 M)] rfl (c2 _) (fun W2 hW => hK1.out _ _ (.inr (sk_below F2.out hW)) ?_)
  have F3 := Lib.hid (sk_below F2.out hW)
  clear hW hK1 K1
  simp only [Act.put, List.setIfInBounds_toArray, List.set_cons_zero, List.set_cons_succ]
  refine wpAnyE_one (i := 5) (by kernel_rfl) rfl (fun K1 hK1 => ?_)
  refine stepE_put arr16 none rfl rfl _ _ rfl rfl rfl (sk_hd F3.out) (Zs_length _) H4.out (fun W5 A5 M5 _ => hK1.out _ _ (.inl rfl) ?_)
  have F5 := Lib.hid (sk_put F3.out M5.out A5.out Hne.out Hg.out.1)
  clear A5 M5 hK1 K1
  simp only [Act.put]
  refine wpAnyE_done (by kernel_rfl) ?_
  go_wp2
  exact ret_arr arr16 rfl rfl (sk_hd F5.out) H4.out rfl ⟨rfl, F5.out.2⟩

end Go.Proofs.Ytfkfkmdnffpcmaa
