import Derived.Test.YtckljalcmjomgaaAesMem
import Derived.Test.YtckljalcmjomgaaRefGfCol
import Derived.Deep.RegionHeld3
namespace Go.Proofs.Ytckljalcmjomgaa
open Go.RowKit

/-- The three arrays, and what was there. -/
def RMixS (w : World) (B g1 g2 g3 : Nat) (t : TypeId) (l m n : List Nat) (w' : World) : Prop :=
  Arr w' g1 t .u8 l ∧ Arr w' g2 t .u8 m ∧ Arr w' g3 t .u8 n ∧ Below w.heap.size w w' ∧ g1 < B ∧ g2 < B ∧ g3 < B ∧ w.heap.size ≤ B ∧ B ≤ w'.heap.size
section
variable {w w' : World} {B g1 g2 g3 : Nat} {t : TypeId} {l m n : List Nat}
theorem rmix_drewN (h : RMixS w B g1 g2 g3 t l m n w') (k : Nat) : RMixS w B g1 g2 g3 t l m n (w'.drewN k) := ⟨h.1, h.2.1, h.2.2.1, bdrewN h.2.2.2.1 k, h.2.2.2.2⟩
theorem rmix_alloc (h : RMixS w B g1 g2 g3 t l m n w') (o : Obj) : RMixS w B g1 g2 g3 t l m n (w'.alloc o) :=
  ⟨h.1.alloc o, h.2.1.alloc o, h.2.2.1.alloc o, h.2.2.2.1.alloc h.2.2.2.1.size o, h.2.2.2.2.1, h.2.2.2.2.2.1, h.2.2.2.2.2.2.1, h.2.2.2.2.2.2.2.1, by have := h.2.2.2.2.2.2.2.2; simp; omega⟩
theorem rmix_below (h : RMixS w B g1 g2 g3 t l m n w') {w2 : World} (hb : Below w'.heap.size w' w2) : RMixS w B g1 g2 g3 t l m n w2 :=
  ⟨h.1.below hb h.1.lt, h.2.1.below hb h.2.1.lt, h.2.2.1.below hb h.2.2.1.lt, abon h.2.2.2.1 hb, h.2.2.2.2.1, h.2.2.2.2.2.1, h.2.2.2.2.2.2.1, h.2.2.2.2.2.2.2.1, by have := h.2.2.2.2.2.2.2.2; have := hb.size; omega⟩
theorem rmix_row (h : RMixS w B g1 g2 g3 t l m n w') {g : Nat} (hg : B ≤ g) (cs : Array Value) : RMixS w B g1 g2 g3 t l m n (w'.setRow g cs) :=
  ⟨h.1.setRow_other (by have := h.2.2.2.2.1; omega), h.2.1.setRow_other (by have := h.2.2.2.2.2.1; omega), h.2.2.1.setRow_other (by have := h.2.2.2.2.2.2.1; omega), bsetRow h.2.2.2.1 (by have := h.2.2.2.2.2.2.2.1; omega) cs, h.2.2.2.2.1, h.2.2.2.2.2.1, h.2.2.2.2.2.2.1, h.2.2.2.2.2.2.2.1, by simpa using h.2.2.2.2.2.2.2.2⟩
theorem rmix_set (h : RMixS w B g1 g2 g3 t l m n w') (h1 : g1 ≠ g3) (h2 : g2 ≠ g3) (h3 : w.heap.size ≤ g3) (j x : Nat) : RMixS w B g1 g2 g3 t l m (n.set j x) (w'.setCell ⟨g3, j, none⟩ (.int .u8 (x : Int))) :=
  ⟨h.1.other h1, h.2.1.other h2, h.2.2.1.set, h.2.2.2.1.setCell h3 _, h.2.2.2.2.1, h.2.2.2.2.2.1, h.2.2.2.2.2.2.1, h.2.2.2.2.2.2.2.1, by simpa using h.2.2.2.2.2.2.2.2⟩
end

set_option maxHeartbeats 1600000 in
theorem ramix_any (s : List UInt8) (w : World) (hs : s.length = 16) :
    Calls Try.prog 11 #[.agg (Nums .u8 (abn s))] w (AnsA w .u8 (abn (amixU s))) := by
  have Hat := Lib.hid (fun c (hc : c < 4) => amix_at hs hc)
  have Hl : Hid ((abn s).length = 16) := Lib.hid (by rw [abn_length, hs])
  have HL : Hid ((abn (amixU s)).length = 16) := Lib.hid (by rw [abn_length, amix_length hs])
  clear hs
  revert Hat Hl HL
  generalize abn (amixU s) = L
  generalize abn s = l
  intro Hat Hl HL
  go_enter Try.func11, Try.ntmps11
  go_wp2_with (refine wp_box_arr (k := .u8) rfl 22 (.tmp 0) rfl l rfl ?_)
  intro w1 g1 G1 H1 Hb1 Hs1
  go_wp2_with (refine wp_alloc_arr (k := .u8) rfl 22 rfl 16 zero16 ?_)
  intro w2 g2 G2 H2 Hb2 Hs2
  go_wp2_with (refine wp_alloc_arr (k := .u8) rfl 22 rfl 16 zero16 ?_)
  intro w3 g3 G3 H3 Hb3 Hs3
  have Hg : Hid (w.heap.size ≤ g1 ∧ w.heap.size ≤ g2 ∧ w.heap.size ≤ g3 ∧ g1 ≠ g3 ∧ g2 ≠ g3 ∧ g1 ≠ g2) := Lib.hid (by have := G1.out; have := G2.out; have := G3.out; have := Hs1.out; have := Hs2.out; omega)
  have K1 : Hid (Arr w3 g1 22 .u8 l) := Lib.hid ((H1.out.below Hb2.out H1.out.lt).below Hb3.out (Nat.lt_of_lt_of_le H1.out.lt Hb2.out.size))
  have K2 : Hid (Arr w3 g2 22 .u8 (Zs 16)) := Lib.hid (H2.out.below Hb3.out H2.out.lt)
  have B3 : Hid (Below w.heap.size w w3) := Lib.hid ((Hb1.out.trans (Hb2.out.mono Hb1.out.size)).trans (Hb3.out.mono (Nat.le_trans Hb1.out.size Hb2.out.size)))
  have K3 : Hid (Arr w3 g3 22 .u8 (L.take (4 * 0) ++ (Zs 16).drop (4 * 0))) := Lib.hid H3.out
  clear H1 H2 H3 Hb1 Hb2 Hb3 G1 G2 G3 Hs1 Hs2 Hs3
  go_wp2
  go_loopw [4] (fun i wr => ∃ c : Nat, c ≤ 4 ∧ i = .int .i64 (c : Int) ∧ Hid (Arr wr g1 22 .u8 l) ∧ Hid (Arr wr g2 22 .u8 (Zs 16)) ∧ Hid (Arr wr g3 22 .u8 (L.take (4 * c) ++ (Zs 16).drop (4 * c))) ∧ Hid (Below w.heap.size w wr)) (fun i _ => 4 - (intOf i).toNat)
  case atStart => exact ⟨0, by omega, rfl, K1, K2, K3, B3⟩
  case round =>
    clear K1 K2 K3 B3
    obtain ⟨c, hc, rfl, K1, K2, K3, B3⟩ := hrel
    by_cases hlt : c < 4
    · obtain ⟨p, q, r, t, hin, hout⟩ := Hat.out c hlt
      have Hout := Lib.hid hout
      have Hin := Lib.hid hin
      have c0 := K1.out.at_ (hin 0 _ rfl)
      have c1 := K1.out.at_ (hin 1 _ rfl)
      have c2 := K1.out.at_ (hin 2 _ rfl)
      have c3 := K1.out.at_ (hin 3 _ rfl)
      have hc' : ∀ w, Calls Try.prog 22 #[.agg #[.int .u8 (p.toNat : Int), .int .u8 (q.toNat : Int), .int .u8 (r.toNat : Int), .int .u8 (t.toNat : Int)]] w (AnsA w .u8 (gcolU p q r t)) := fun w => rgcolumn_any p q r t w
      obtain ⟨o, ho⟩ : ∃ o, 4 * c = o := ⟨_, rfl⟩
      rw [ho] at K3 Hin Hout c0 c1 c2 c3
      rw [Nat.add_zero] at c0
      have ho16 : o < 13 := by omega
      have Ho := Lib.hid ho
      have r0 : IntKind.i64.wrap (4 * (c : Int)) = 4 * (c : Int) := IntWalk.i64_in _ ⟨by omega, by omega⟩
      have r1 : IntKind.i64.wrap (4 * (c : Int) + 1) = 4 * (c : Int) + 1 := IntWalk.i64_in _ ⟨by omega, by omega⟩
      have r2 : IntKind.i64.wrap (4 * (c : Int) + 2) = 4 * (c : Int) + 2 := IntWalk.i64_in _ ⟨by omega, by omega⟩
      have r3 : IntKind.i64.wrap (4 * (c : Int) + 3) = 4 * (c : Int) + 3 := IntWalk.i64_in _ ⟨by omega, by omega⟩
      have i0 := fun W => run_indexAt_arr (g := g1) arr16 info_u8n o (4 * (c : Int)) (by omega) (by omega) W
      have i1 := fun W => run_indexAt_arr (g := g1) arr16 info_u8n (o + 1) (4 * (c : Int) + 1) (by omega) (by omega) W
      have i2 := fun W => run_indexAt_arr (g := g1) arr16 info_u8n (o + 2) (4 * (c : Int) + 2) (by omega) (by omega) W
      have i3 := fun W => run_indexAt_arr (g := g1) arr16 info_u8n (o + 3) (4 * (c : Int) + 3) (by omega) (by omega) W
      clear hin hout ho
      go_wp2_with fail
      obtain ⟨B0, HB0⟩ : ∃ B0, Hid (wr.heap.size = B0) := ⟨_, Lib.hid rfl⟩
      have F0 : Hid (RMixS w B0 g1 g2 g3 22 l (Zs 16) (L.take o ++ (Zs 16).drop o) wr) := Lib.hid (by rw [← HB0.out]; exact ⟨K1.out, K2.out, K3.out, B3.out, K1.out.lt, K2.out.lt, K3.out.lt, B3.out.size, Nat.le_refl _⟩)
      have mk : Hid (∀ W, RMixS w B0 g1 g2 g3 22 l (Zs 16) (L.take o ++ (Zs 16).drop o) W → W.cell? ⟨g1, o, none⟩ = some (.int .u8 (p.toNat : Int)) ∧ W.cell? ⟨g1, o + 1, none⟩ = some (.int .u8 (q.toNat : Int)) ∧ W.cell? ⟨g1, o + 2, none⟩ = some (.int .u8 (r.toNat : Int)) ∧ W.cell? ⟨g1, o + 3, none⟩ = some (.int .u8 (t.toNat : Int)) ∧ Hid (RMixS w B0 g1 g2 g3 22 l (Zs 16) (L.take o ++ (Zs 16).drop o) W)) :=
        Lib.hid fun W h => ⟨h.1.at_ (Hin.out 0 _ rfl), h.1.at_ (Hin.out 1 _ rfl), h.1.at_ (Hin.out 2 _ rfl), h.1.at_ (Hin.out 3 _ rfl), Lib.hid h⟩
      have back : Hid (∀ W, (W.cell? ⟨g1, o, none⟩ = some (.int .u8 (p.toNat : Int)) ∧ W.cell? ⟨g1, o + 1, none⟩ = some (.int .u8 (q.toNat : Int)) ∧ W.cell? ⟨g1, o + 2, none⟩ = some (.int .u8 (r.toNat : Int)) ∧ W.cell? ⟨g1, o + 3, none⟩ = some (.int .u8 (t.toNat : Int)) ∧ Hid (RMixS w B0 g1 g2 g3 22 l (Zs 16) (L.take o ++ (Zs 16).drop o) W)) → RMixS w B0 g1 g2 g3 22 l (Zs 16) (L.take o ++ (Zs 16).drop o) W) :=
        Lib.hid fun W h => h.2.2.2.2.out
      have hstA : ∀ W : World, (storeCells ⟨W.heap.size, 0, none⟩ (Nums .u8 (gcolU p q r t)).toList).run Try.prog (W.alloc (.cells #[.int .u8 0, .int .u8 0, .int .u8 0, .int .u8 0] 40)) = .ok () ((W.alloc (.cells #[.int .u8 0, .int .u8 0, .int .u8 0, .int .u8 0] 40)).setRow W.heap.size (Nums .u8 (gcolU p q r t))) := fun W => run_storeCells_arr (t := 40) (l := Zs 4) (by have h := Arr.new (w := W) (t := 40) (k := .u8) (l := Zs 4); exact h) rfl
      clear K1 K2 K3 B3 c0 c1 c2 c3
      go_region_held3 (fun w' => w'.cell? ⟨g1, o, none⟩ = some (.int .u8 (p.toNat : Int)) ∧ w'.cell? ⟨g1, o + 1, none⟩ = some (.int .u8 (q.toNat : Int)) ∧ w'.cell? ⟨g1, o + 2, none⟩ = some (.int .u8 (r.toNat : Int)) ∧ w'.cell? ⟨g1, o + 3, none⟩ = some (.int .u8 (t.toNat : Int)) ∧ Hid (RMixS w B0 g1 g2 g3 22 l (Zs 16) (L.take o ++ (Zs 16).drop o) w'))
        (first
          | exact mk.out _ (rmix_drewN F0.out 1)
          | exact mk.out _ (rmix_drewN (rmix_alloc F0.out _) 1)
          | exact mk.out _ (rmix_alloc (back.out _ (by assumption)) _)
          | exact mk.out _ (rmix_below (back.out _ (by assumption)) (by exact Hb5.out))
          | exact mk.out _ (rmix_row (back.out _ (by assumption)) (by first | exact HB5.out | exact Nat.le_of_eq HB0.out.symm) _))
        (first
          | (go_at_call 22; (with_reducible refine (hc' wr.drew).mono ?_); rintro e w5 ⟨rfl, hb5⟩; have Hb5 := Lib.hid hb5; have HB5 : Hid (B0 ≤ w5.heap.size) := Lib.hid (by rw [← HB0.out]; exact hb5.size); clear hb5)
          | (go_at_call 22; (with_reducible refine (hc' (wr.alloc (.cells #[.int .u8 0, .int .u8 0, .int .u8 0, .int .u8 0] 40)).drew).mono ?_); rintro e w5 ⟨rfl, hb5⟩; have Hb5 := Lib.hid hb5; have A5 : Hid (Arr w5 wr.heap.size 40 .u8 (Zs 4)) := Lib.hid ((Arr.new (w := wr) (t := 40) (k := .u8) (l := Zs 4)).drew.below hb5 (by simp)); have hstB : (storeCells ⟨wr.heap.size, 0, none⟩ (Nums .u8 (gcolU p q r t)).toList).run Try.prog w5 = .ok () (w5.setRow wr.heap.size (Nums .u8 (gcolU p q r t))) := run_storeCells_arr A5.out rfl; clear hb5))
      all_goals first
        | (have F5 : Hid (RMixS w B0 g1 g2 g3 22 l (Zs 16) (L.take o ++ (Zs 16).drop o) ((w5.alloc (.cells #[.int .u8 0, .int .u8 0, .int .u8 0, .int .u8 0] 40)).setRow w5.heap.size (Nums .u8 (gcolU p q r t)))) := Lib.hid (back.out _ (by assumption))
           have H5 : Hid (Arr ((w5.alloc (.cells #[.int .u8 0, .int .u8 0, .int .u8 0, .int .u8 0] 40)).setRow w5.heap.size (Nums .u8 (gcolU p q r t))) w5.heap.size 40 .u8 (gcolU p q r t)) := Lib.hid (Arr.setRow (l := Zs 4) (by have h := Arr.new (w := w5) (t := 40) (k := .u8) (l := Zs 4); exact h))
           have HB : Hid (B0 ≤ w5.heap.size) := HB5
           revert F5 H5 HB
           generalize (w5.alloc (.cells #[.int .u8 0, .int .u8 0, .int .u8 0, .int .u8 0] 40)).setRow w5.heap.size (Nums .u8 (gcolU p q r t)) = W5
           generalize w5.heap.size = g5
           intro F5 H5 HB)
        | (have F5 : Hid (RMixS w B0 g1 g2 g3 22 l (Zs 16) (L.take o ++ (Zs 16).drop o) (w5.setRow wr.heap.size (Nums .u8 (gcolU p q r t)))) := Lib.hid (back.out _ (by assumption))
           have H5 : Hid (Arr (w5.setRow wr.heap.size (Nums .u8 (gcolU p q r t))) wr.heap.size 40 .u8 (gcolU p q r t)) := Lib.hid A5.out.setRow
           have HB : Hid (B0 ≤ wr.heap.size) := Lib.hid (Nat.le_of_eq HB0.out.symm)
           revert F5 H5 HB
           generalize w5.setRow wr.heap.size (Nums .u8 (gcolU p q r t)) = W5
           generalize wr.heap.size = g5
           intro F5 H5 HB)
      all_goals
        clear mk back hstA i0 i1 i2 i3 r0 r1 r2 r3 hc' HB0 F0
        have F6 : Hid (RMixS w B0 g1 g2 g3 22 l (Zs 16) (L.take (o + 0) ++ (Zs 16).drop (o + 0)) W5) := F5
        go_wp2
        go_loopw [6] (fun i wr => ∃ v : Nat, v ≤ 4 ∧ i = .int .i64 (v : Int) ∧ Hid (Arr wr g5 40 .u8 (gcolU p q r t)) ∧ Hid (RMixS w B0 g1 g2 g3 22 l (Zs 16) (L.take (o + v) ++ (Zs 16).drop (o + v)) wr)) (fun i _ => 4 - (intOf i).toNat)
        case atStart => exact ⟨0, by omega, rfl, H5, F6⟩
        case round =>
          clear F5 F6 H5
          obtain ⟨v, hv, rfl, H5, F5⟩ := hrel
          by_cases hlv : v < 4
          · obtain ⟨x, hx⟩ : ∃ x : Nat, (gcolU p q r t)[v]? = some x := ⟨_, List.getElem?_eq_getElem (show v < (gcolU p q r t).length from hlv)⟩
            have Hx := Lib.hid (Hout.out v x hx)
            obtain ⟨q', hq'⟩ : ∃ q', o + v = q' := ⟨_, rfl⟩
            rw [hq'] at Hx F5
            have Hq := Lib.hid hq'
            have hq16 : q' < 16 := by omega
            have eq' : 4 * (c : Int) + (v : Int) = (q' : Int) := by have := Ho.out; omega
            have hin := H5.out.at_ hx
            have hout := F5.out.2.2.1.at_ (fill_get (L := L) (M := Zs 16) (i := q') (by rw [Zs_length]; exact hq16) (by rw [HL.out]; omega))
            have hfz := F5.out.2.2.1.frozen q'
            clear hx hq'
            go_wp2
            go_roundw
            case rel =>
              refine ⟨v + 1, by omega, by go_num, Lib.hid (H5.out.other (show g5 ≠ g3 by have := F5.out.2.2.2.2.2.2.1; have := HB.out; omega)), Lib.hid ?_⟩
              have h := rmix_set F5.out Hg.out.2.2.2.1 Hg.out.2.2.2.2.1 Hg.out.2.2.1 q' x
              rw [afill_step Hx.out (by rw [Zs_length]; exact hq16)] at h
              rw [show o + (v + 1) = q' + 1 by have := Hq.out; omega]
              exact h
            case measure => simp [intOf]; omega
          · obtain rfl : v = 4 := by omega
            have e4 : o + 4 = 4 * (c + 1) := by have := Ho.out; omega
            rw [e4] at F5
            clear e4
            go_wp2
            go_roundw
            case rel => exact ⟨c + 1, by omega, by go_num, Lib.hid F5.out.1, Lib.hid F5.out.2.1, Lib.hid F5.out.2.2.1, Lib.hid F5.out.2.2.2.1⟩
            case measure => simp [intOf]; omega
    · have hk4 : c = 4 := by omega
      have Hr : Hid (Arr wr g3 22 .u8 L) := Lib.hid (by have h := K3.out; rw [hk4, fill_all HL.out (Zs_length _)] at h; exact h)
      go_wp2_with (first
        | refine wp_load_arr arr16 rfl (.tmp 3) rfl rfl Hr.out HL.out ?_
        | refine wp_put_arr arr16 rfl (.tmp 2) (.tmp 44) rfl rfl (l' := L) rfl K2.out (Zs_length _) HL.out ?_)
      intro w5 H5 Hm5 Hs5
      go_wp2
      exact ret_arr arr16 rfl rfl H5.out HL.out rfl ⟨rfl, B3.out.trans (Hm5.out.below (fun j hj => by have := Hg.out; omega) B3.out.size)⟩

end Go.Proofs.Ytckljalcmjomgaa
