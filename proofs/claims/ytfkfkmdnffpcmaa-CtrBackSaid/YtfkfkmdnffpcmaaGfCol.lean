import Derived.Test.YtfkfkmdnffpcmaaGfTwice
import Derived.Test.YtfkfkmdnffpcmaaArrIndex
namespace Go.Proofs.Ytfkfkmdnffpcmaa
open Go.RowKit

theorem arr4 : ArrT Try.prog 51 5 .u8 4 := ⟨by kernel_rfl, by kernel_rfl, by kernel_rfl⟩
theorem zero4 : (Try.prog.info? 51).map (fun i => (i.zero, i.size)) = some (some (.agg (Nums .u8 (Zs 4))), 4) := by kernel_rfl

/-- Four bytes, as numbers. -/
def four (a b c d : UInt8) : List Nat := [a.toNat, b.toNat, c.toNat, d.toNat]
theorem four_length (a b c d : UInt8) : (four a b c d).length = 4 := rfl
/-- .. mixed. -/
def gcolU (a b c d : UInt8) : List Nat := four (gmixU a b c d) (gmixU b c d a) (gmixU c d a b) (gmixU d a b c)
theorem gcol_at (a b c d : UInt8) (k : Nat) (h : k < 4) : ∃ p q r s : UInt8, (four a b c d)[k % 4]? = some p.toNat ∧ (four a b c d)[(k + 1) % 4]? = some q.toNat ∧ (four a b c d)[(k + 2) % 4]? = some r.toNat ∧ (four a b c d)[(k + 3) % 4]? = some s.toNat ∧ (gcolU a b c d)[k]? = some (gmixU p q r s).toNat := by
  match k, h with
  | 0, _ => exact ⟨a, b, c, d, rfl, rfl, rfl, rfl, rfl⟩
  | 1, _ => exact ⟨b, c, d, a, rfl, rfl, rfl, rfl, rfl⟩
  | 2, _ => exact ⟨c, d, a, b, rfl, rfl, rfl, rfl, rfl⟩
  | 3, _ => exact ⟨d, a, b, c, rfl, rfl, rfl, rfl, rfl⟩

set_option maxHeartbeats 800000 in
/-- The closure: the byte at that place, going round. -/
theorem gfrom_any (g j x : Nat) (l : List Nat) (w : World) (hj : j < 4096) (hx : l[j % 4]? = some x) (h : Arr w g 51 .u8 l) :
    Calls Try.prog 49 #[.int .i64 (j : Int), .pointer (some ⟨g, 0, none⟩)] w fun e w' => e = .returned (.int .u8 (x : Int)) ∧ w' = w := by
  obtain ⟨p, hp⟩ : ∃ p, j % 4 = p := ⟨_, rfl⟩
  rw [hp] at hx
  have hcell := h.at_ hx
  have hp4 : p < 4 := by omega
  have hmod : (j : Int) % 4 = (p : Int) := by omega
  clear h hx hp
  go_enter Try.func49, Try.ntmps49
  go_wp2
  go_ret
  exact ⟨rfl, rfl⟩

set_option maxHeartbeats 3200000 in
theorem gcolumn_any (a b c d : UInt8) (w : World) :
    Calls Try.prog 43 #[.agg (Nums .u8 (four a b c d))] w (AnsA w .u8 (gcolU a b c d)) := by
  have hmf : ∀ (fn : Fn) (first cap : Array Value) (w : World), (Instr.makeFunc fn first cap).run Try.prog w = .ok (.func fn first cap) w := fun _ _ _ _ => rfl
  have Hat := Lib.hid (gcol_at a b c d)
  have HL : Hid ((gcolU a b c d).length = 4) := Lib.hid rfl
  revert Hat HL
  generalize four a b c d = l
  generalize gcolU a b c d = L
  intro Hat HL
  go_enter Try.func43, Try.ntmps43
  go_wp2_with (refine wp_box_arr (k := .u8) rfl 51 (.tmp 0) rfl l rfl ?_)
  intro w1 g1 G1 H1 Hb1 Hs1
  go_wp2_with (refine wp_alloc_arr (k := .u8) rfl 51 rfl 4 zero4 ?_)
  intro w2 g2 G2 H2 Hb2 Hs2
  go_wp2_with (refine wp_alloc_arr (k := .u8) rfl 51 rfl 4 zero4 ?_)
  intro w3 g3 G3 H3 Hb3 Hs3
  have Hg : Hid (w.heap.size ≤ g1 ∧ w.heap.size ≤ g2 ∧ w.heap.size ≤ g3 ∧ g1 ≠ g3 ∧ g2 ≠ g3 ∧ g1 ≠ g2) := Lib.hid (by have := G1.out; have := G2.out; have := G3.out; have := Hs1.out; have := Hs2.out; omega)
  have K1 : Hid (Arr w3 g1 51 .u8 l) := Lib.hid ((H1.out.below Hb2.out H1.out.lt).below Hb3.out (Nat.lt_of_lt_of_le H1.out.lt Hb2.out.size))
  have K2 : Hid (Arr w3 g2 51 .u8 (Zs 4)) := Lib.hid (H2.out.below Hb3.out H2.out.lt)
  have B3 : Hid (Below w.heap.size w w3) := Lib.hid ((Hb1.out.trans (Hb2.out.mono Hb1.out.size)).trans (Hb3.out.mono (Nat.le_trans Hb1.out.size Hb2.out.size)))
  have K3 : Hid (Arr w3 g3 51 .u8 (L.take 0 ++ (Zs 4).drop 0)) := Lib.hid H3.out
  clear H1 H2 H3 Hb1 Hb2 Hb3 G1 G2 G3 Hs1 Hs2 Hs3
  go_wp2
  go_loopw [7] (fun i wr => ∃ k : Nat, k ≤ 4 ∧ i = .int .i64 (k : Int) ∧ Hid (Arr wr g1 51 .u8 l) ∧ Hid (Arr wr g2 51 .u8 (Zs 4)) ∧ Hid (Arr wr g3 51 .u8 (L.take k ++ (Zs 4).drop k)) ∧ Hid (Below w.heap.size w wr)) (fun i _ => 4 - (intOf i).toNat)
  case atStart => exact ⟨0, by omega, rfl, K1, K2, K3, B3⟩
  case round =>
    clear K1 K2 K3 B3
    obtain ⟨k, hk, rfl, K1, K2, K3, B3⟩ := hrel
    by_cases hlt : k < 4
    · obtain ⟨p, q, r, s, hp, hq, hr, hs, hm⟩ := Hat.out k hlt
      have c0 : Calls Try.prog 49 #[.int .i64 (k : Int), .pointer (some ⟨g1, 0, none⟩)] wr fun e w' => e = .returned (.int .u8 (p.toNat : Int)) ∧ w' = wr := gfrom_any g1 k p.toNat l wr (by omega) hp K1.out
      have c1 : Calls Try.prog 49 #[.int .i64 ((k : Int) + 1), .pointer (some ⟨g1, 0, none⟩)] wr fun e w' => e = .returned (.int .u8 (q.toNat : Int)) ∧ w' = wr := gfrom_any g1 (k + 1) q.toNat l wr (by omega) hq K1.out
      have c2 : Calls Try.prog 49 #[.int .i64 ((k : Int) + 2), .pointer (some ⟨g1, 0, none⟩)] wr fun e w' => e = .returned (.int .u8 (r.toNat : Int)) ∧ w' = wr := gfrom_any g1 (k + 2) r.toNat l wr (by omega) hr K1.out
      have c3 : Calls Try.prog 49 #[.int .i64 ((k : Int) + 3), .pointer (some ⟨g1, 0, none⟩)] wr fun e w' => e = .returned (.int .u8 (s.toNat : Int)) ∧ w' = wr := gfrom_any g1 (k + 3) s.toNat l wr (by omega) hs K1.out
      have t0 := gtwice_any p wr
      have t1 := gtwice_any q wr
      have x1 := gxor_u8 (gtwiceU p) q
      have x2 := gxor_u8 (gtwiceU p ^^^ q) (gtwiceU q)
      have x3 := gxor_u8 (gtwiceU p ^^^ q ^^^ gtwiceU q) r
      have x4 := gxor_u8 (gtwiceU p ^^^ q ^^^ gtwiceU q ^^^ r) s
      have Hm : Hid (L[k]? = some (gtwiceU p ^^^ q ^^^ gtwiceU q ^^^ r ^^^ s).toNat) := Lib.hid hm
      have hout := K3.out.at_ (fill_get (L := L) (M := Zs 4) (i := k) (by rw [Zs_length]; exact hlt) (by rw [HL.out]; omega))
      have hfz := K3.out.frozen k
      clear hp hq hr hs hm
      generalize gtwiceU p ^^^ q ^^^ gtwiceU q ^^^ r ^^^ s = y4 at *
      generalize gtwiceU p ^^^ q ^^^ gtwiceU q ^^^ r = y3 at *
      generalize gtwiceU p ^^^ q ^^^ gtwiceU q = y2 at *
      generalize gtwiceU p ^^^ q = y1 at *
      generalize gtwiceU p = tp at *
      generalize gtwiceU q = tq at *
      go_wp2_with fail
      refine (c0).mono ?_
      rintro e w9 ⟨rfl, rfl⟩
      go_wp2_with fail
      refine (t0).mono ?_
      rintro e w9 ⟨rfl, rfl⟩
      go_wp2_with fail
      refine (c1).mono ?_
      rintro e w9 ⟨rfl, rfl⟩
      go_wp2_with fail
      refine (c1).mono ?_
      rintro e w9 ⟨rfl, rfl⟩
      go_wp2_with fail
      refine (t1).mono ?_
      rintro e w9 ⟨rfl, rfl⟩
      go_wp2_with fail
      refine (c2).mono ?_
      rintro e w9 ⟨rfl, rfl⟩
      go_wp2_with fail
      refine (c3).mono ?_
      rintro e w9 ⟨rfl, rfl⟩
      go_wp2
      go_roundw
      case rel =>
        obtain ⟨hk2, hy⟩ := List.getElem?_eq_some_iff.1 Hm.out
        have e4 : (L.take k ++ (Zs 4).drop k).set k y4.toNat = L.take (k + 1) ++ (Zs 4).drop (k + 1) := by rw [← hy]; exact afill_set hk2 (by rw [Zs_length]; exact hlt)
        have hne : g1 ≠ g3 ∧ g2 ≠ g3 ∧ w.heap.size ≤ g3 := ⟨Hg.out.2.2.2.1, Hg.out.2.2.2.2.1, Hg.out.2.2.1⟩
        refine ⟨k + 1, by omega, by go_num, Lib.hid (K1.out.other hne.1), Lib.hid (K2.out.other hne.2.1), Lib.hid ?_, Lib.hid (B3.out.setCell hne.2.2 _)⟩
        rw [← e4]
        exact K3.out.set
      case measure => simp [intOf]; omega
    · have hk4 : k = 4 := by omega
      have Hr : Hid (Arr wr g3 51 .u8 L) := Lib.hid (by have h := K3.out; rw [hk4, fill_all HL.out (Zs_length 4)] at h; exact h)
      go_wp2_with (first
        | refine wp_load_arr arr4 rfl (.tmp 4) rfl rfl Hr.out HL.out ?_
        | refine wp_put_arr arr4 rfl (.tmp 2) (.tmp 38) rfl rfl (l' := L) rfl K2.out (Zs_length _) HL.out ?_)
      intro w5 H5 Hm5 Hs5
      go_wp2
      exact ret_arr arr4 rfl rfl H5.out HL.out rfl ⟨rfl, B3.out.trans (Hm5.out.below (fun j hj => by have := Hg.out; omega) B3.out.size)⟩

end Go.Proofs.Ytfkfkmdnffpcmaa
