import Derived.Test.YtfkfkmdnffpcmaaAesW
namespace Go.Proofs.Ytfkfkmdnffpcmaa
open Go.RowKit

set_option maxHeartbeats 1600000 in
theorem ashift_any (s : List UInt8) (w : World) (hs : s.length = 16) :
    Calls Try.prog 36 #[.agg (Nums .u8 (abn s))] w (AnsA w .u8 (abn (ashiftU s))) := by
  have Hat : Hid (∀ c r, c < 4 → r < 4 → ∃ x : UInt8, (abn s)[4 * ((c + r) % 4) + r]? = some x.toNat ∧ (abn (ashiftU s))[4 * c + r]? = some x.toNat) := Lib.hid (fun c r hc hr => by
    obtain ⟨x, h1, h2⟩ := ashift_at hs hc hr
    exact ⟨x, abn_get h1, abn_get h2⟩)
  have Hl : Hid ((abn s).length = 16) := Lib.hid (by rw [abn_length, hs])
  have HL : Hid ((abn (ashiftU s)).length = 16) := Lib.hid (by rw [abn_length, ashift_length])
  clear hs
  revert Hat Hl HL
  generalize abn (ashiftU s) = L
  generalize abn s = l
  intro Hat Hl HL
  go_enter Try.func36, Try.ntmps36
  go_wp2_with (refine wp_box_arr (k := .u8) rfl 23 (.tmp 0) rfl l rfl ?_)
  intro w1 g1 G1 H1 Hb1 Hs1
  go_wp2_with (refine wp_alloc_arr (k := .u8) rfl 23 rfl 16 zero16 ?_)
  intro w2 g2 G2 H2 Hb2 Hs2
  go_wp2_with (refine wp_alloc_arr (k := .u8) rfl 23 rfl 16 zero16 ?_)
  intro w3 g3 G3 H3 Hb3 Hs3
  have Hg : Hid (w.heap.size ≤ g1 ∧ w.heap.size ≤ g2 ∧ w.heap.size ≤ g3 ∧ g1 ≠ g3 ∧ g2 ≠ g3 ∧ g1 ≠ g2) := Lib.hid (by have := G1.out; have := G2.out; have := G3.out; have := Hs1.out; have := Hs2.out; omega)
  have K1 : Hid (Arr w3 g1 23 .u8 l) := Lib.hid ((H1.out.below Hb2.out H1.out.lt).below Hb3.out (Nat.lt_of_lt_of_le H1.out.lt Hb2.out.size))
  have K2 : Hid (Arr w3 g2 23 .u8 (Zs 16)) := Lib.hid (H2.out.below Hb3.out H2.out.lt)
  have B3 : Hid (Below w.heap.size w w3) := Lib.hid ((Hb1.out.trans (Hb2.out.mono Hb1.out.size)).trans (Hb3.out.mono (Nat.le_trans Hb1.out.size Hb2.out.size)))
  have K3 : Hid (Arr w3 g3 23 .u8 (L.take 0 ++ (Zs 16).drop 0)) := Lib.hid H3.out
  clear H1 H2 H3 Hb1 Hb2 Hb3 G1 G2 G3 Hs1 Hs2 Hs3
  go_wp2
  go_loopw [6] (fun i wr => ∃ c : Nat, c ≤ 4 ∧ i = .int .i64 (c : Int) ∧ Hid (Arr wr g1 23 .u8 l) ∧ Hid (Arr wr g2 23 .u8 (Zs 16)) ∧ Hid (Arr wr g3 23 .u8 (L.take (4 * c) ++ (Zs 16).drop (4 * c))) ∧ Hid (Below w.heap.size w wr)) (fun i _ => 4 - (intOf i).toNat)
  case atStart => exact ⟨0, by omega, rfl, K1, K2, K3, B3⟩
  case round =>
    clear K1 K2 K3 B3
    obtain ⟨c, hc, rfl, K1, K2, K3, B3⟩ := hrel
    by_cases hlt : c < 4
    · have K4 : Hid (Arr wr g3 23 .u8 (L.take (4 * c + 0) ++ (Zs 16).drop (4 * c + 0))) := Lib.hid K3.out
      go_wp2
      go_loopw [9] (fun i wr => ∃ r : Nat, r ≤ 4 ∧ i = .int .i64 (r : Int) ∧ Hid (Arr wr g1 23 .u8 l) ∧ Hid (Arr wr g2 23 .u8 (Zs 16)) ∧ Hid (Arr wr g3 23 .u8 (L.take (4 * c + r) ++ (Zs 16).drop (4 * c + r))) ∧ Hid (Below w.heap.size w wr)) (fun i _ => 4 - (intOf i).toNat)
      case atStart => exact ⟨0, by omega, rfl, K1, K2, K4, B3⟩
      case round =>
        clear K1 K2 K3 K4 B3
        obtain ⟨r, hr, rfl, K1, K2, K3, B3⟩ := hrel
        by_cases hlr : r < 4
        · obtain ⟨x, hx, hy⟩ := Hat.out c r hlt hlr
          obtain ⟨p, hp⟩ : ∃ p, (c + r) % 4 = p := ⟨_, rfl⟩
          rw [hp] at hx
          have hp4 : p < 4 := by omega
          have ep : ((c : Int) + (r : Int)) % 4 = (p : Int) := by omega
          obtain ⟨q, hq⟩ : ∃ q, 4 * p + r = q := ⟨_, rfl⟩
          rw [hq] at hx
          have hq16 : q < 16 := by omega
          have eq : 4 * (p : Int) + (r : Int) = (q : Int) := by omega
          obtain ⟨o, ho⟩ : ∃ o, 4 * c + r = o := ⟨_, rfl⟩
          rw [ho] at hy K3
          have ho16 : o < 16 := by omega
          have eo : 4 * (c : Int) + (r : Int) = (o : Int) := by omega
          have Ho := Lib.hid ho
          have Hy := Lib.hid hy
          have hin := K1.out.at_ hx
          have hout := K3.out.at_ (fill_get (L := L) (M := Zs 16) (i := o) (by rw [Zs_length]; exact ho16) (by rw [HL.out]; omega))
          have hfz := K3.out.frozen o
          clear hp hq ho hx hy
          go_wp2
          go_roundw
          case rel =>
            refine ⟨r + 1, by omega, by go_num, Lib.hid (K1.out.other Hg.out.2.2.2.1), Lib.hid (K2.out.other Hg.out.2.2.2.2.1), Lib.hid ?_, Lib.hid (B3.out.setCell Hg.out.2.2.1 _)⟩
            rw [show 4 * c + (r + 1) = o + 1 by have := Ho.out; omega, ← afill_step Hy.out (by rw [Zs_length]; exact ho16)]
            exact K3.out.set
          case measure => simp [intOf]; omega
        · have hr4 : r = 4 := by omega
          subst hr4
          have K4 : Hid (Arr wr g3 23 .u8 (L.take (4 * (c + 1)) ++ (Zs 16).drop (4 * (c + 1)))) := Lib.hid K3.out
          go_wp2
          go_roundw
          case rel => exact ⟨c + 1, by omega, by go_num, K1, K2, K4, B3⟩
          case measure => simp [intOf]; omega
    · have hk4 : c = 4 := by omega
      have Hr : Hid (Arr wr g3 23 .u8 L) := Lib.hid (by have h := K3.out; rw [hk4, fill_all HL.out (Zs_length _)] at h; exact h)
      go_wp2_with (first
        | refine wp_load_arr arr16 rfl (.tmp 3) rfl rfl Hr.out HL.out ?_
        | refine wp_put_arr arr16 rfl (.tmp 2) (.tmp 28) rfl rfl (l' := L) rfl K2.out (Zs_length _) HL.out ?_)
      intro w5 H5 Hm5 Hs5
      go_wp2
      exact ret_arr arr16 rfl rfl H5.out HL.out rfl ⟨rfl, B3.out.trans (Hm5.out.below (fun j hj => by have := Hg.out; omega) B3.out.size)⟩

end Go.Proofs.Ytfkfkmdnffpcmaa
