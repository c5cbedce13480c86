import Derived.Test.YtpnifmghbfajiaaDoorRefShaK
import Derived.Test.YtpnifmghbfajiaaDoorShaWords
namespace Go.Proofs.YtpnifmghbfajiaaDoor
open Go.RowKit

set_option maxHeartbeats 800000 in
theorem rks_any (w : World) : Calls Tryd.prog 12 #[] w (AnsA w .u32 ksU) := by
  have Hl : Hid (ksU.length = 64) := Lib.hid rfl
  have Hk : Hid (∀ t (h : t < ksU.length), kU (t : Int) = ksU[t]) := Lib.hid fun t h => kU_in h
  revert Hl Hk
  generalize ksU = L
  intro Hl Hk
  go_enter Tryd.func12, Tryd.ntmps12
  go_wp2_with (refine wp_alloc_arr (k := .u32) rfl 26 rfl 64 zero64 ?_)
  intro w1 g1 G1 H1 Hb1 Hs1
  go_wp2_with (refine wp_alloc_arr (k := .u32) rfl 26 rfl 64 zero64 ?_)
  intro w2 g2 G2 H2 Hb2 Hs2
  have Hg : Hid (w.heap.size ≤ g1 ∧ g1 ≠ g2 ∧ w.heap.size ≤ g2) := Lib.hid (by have := G1.out; have := G2.out; have := Hs1.out; omega)
  have H1' : Hid (Arr w2 g1 26 .u32 (Zs 64)) := Lib.hid (H1.out.below Hb2.out (by have := G1.out; have := Hs1.out; omega))
  have Hb : Hid (Below w.heap.size w w2) := Lib.hid (Hb1.out.trans (Hb2.out.mono (by have := Hs1.out; omega)))
  clear H1 Hb1 Hb2 G1 G2 Hs1 Hs2
  go_wp2
  go_loopw [2] (fun i wr => ∃ j : Nat, j ≤ 64 ∧ i = .int .i64 (j : Int) ∧ Hid (Arr wr g1 26 .u32 (Zs 64)) ∧ Hid (Arr wr g2 26 .u32 (L.take j ++ (Zs 64).drop j)) ∧ Hid (Below w.heap.size w wr)) (fun i _ => 64 - (intOf i).toNat)
  case atStart => exact ⟨0, by omega, rfl, H1', H2, Hb⟩
  case round =>
    clear H1' H2 Hb
    obtain ⟨j, hj, rfl, A1, A2, Hbr⟩ := hrel
    by_cases hj64 : j < 64
    · have hjL : j < L.length := by rw [Hl.out]; exact hj64
      have hjZ : j < (Zs 64).length := by rw [Zs_length]; exact hj64
      have Hset : Hid ((L.take j ++ (Zs 64).drop j).set j L[j] = L.take (j + 1) ++ (Zs 64).drop (j + 1)) := Lib.hid (fill_set hjL hjZ)
      have hc := fun w' => rk_any (j : Int) w' (by omega)
      rw [Hk.out j hjL] at hc
      have hlen2 : Hid ((L.take j ++ (Zs 64).drop j).length = 64) := Lib.hid (by rw [fill_length (by rw [Hl.out, Zs_length]), Zs_length])
      revert hc Hset
      generalize L[j] = x
      intro Hset hc
      go_wp2_with fail
      refine (hc _).mono ?_
      rintro e w3 ⟨rfl, hb3⟩
      have A3 : Hid (Arr w3 g2 26 .u32 (L.take j ++ (Zs 64).drop j)) := Lib.hid (A2.out.below hb3 A2.out.lt)
      have A1' : Hid (Arr w3 g1 26 .u32 (Zs 64)) := Lib.hid (A1.out.below hb3 A1.out.lt)
      have Hbr3 : Hid (Below w.heap.size w w3) := Lib.hid (Hbr.out.trans (hb3.mono Hbr.out.size))
      obtain ⟨z0, hc3⟩ : ∃ z0, w3.cell? ⟨g2, j, none⟩ = some z0 := ⟨_, A3.out.cell (j := j) (by rw [hlen2.out]; exact hj64)⟩
      have hf3 := A3.out.frozen j
      clear hb3
      go_wp2
      go_roundw
      case rel => exact ⟨j + 1, by omega, by go_num, Lib.hid (A1'.out.other Hg.out.2.1), Lib.hid (by rw [← Hset.out]; exact A3.out.set), Lib.hid (Hbr3.out.setCell Hg.out.2.2 _)⟩
      case measure => simp [intOf]; omega
    · obtain rfl : j = 64 := by omega
      have A2' : Hid (Arr wr g2 26 .u32 L) := Lib.hid (by have h := A2.out; rwa [fill_all Hl.out (Zs_length 64)] at h)
      go_wp2_with (first
        | refine wp_load_arr arr64 rfl (.tmp 1) rfl rfl A2'.out Hl.out ?_
        | refine wp_put_arr arr64 rfl (.tmp 0) (.tmp 11) rfl rfl (l' := L) rfl A1.out (Zs_length _) Hl.out ?_)
      intro w4 A4 Hm4 Hs4
      go_wp2
      exact ret_arr arr64 rfl rfl A4.out Hl.out rfl ⟨rfl, Hbr.out.trans (Hm4.out.below (fun k hk => by have := Hg.out; omega) Hbr.out.size)⟩

set_option maxHeartbeats 800000 in
theorem rfirst07_any (w : World) : Calls Tryd.prog 10 #[] w (AnsA w .u32 hsU) := by
  have Hl : Hid (hsU.length = 8) := Lib.hid rfl
  have Hk : Hid (∀ t (h : t < hsU.length), rootsU (primeU t) 2 = hsU[t]) := Lib.hid fun t h => hs_at h
  revert Hl Hk
  generalize hsU = L
  intro Hl Hk
  go_enter Tryd.func10, Tryd.ntmps10
  go_wp2_with (refine wp_alloc_arr (k := .u32) rfl 24 rfl 8 zero8 ?_)
  intro w1 g1 G1 H1 Hb1 Hs1
  go_wp2_with (refine wp_alloc_arr (k := .u32) rfl 24 rfl 8 zero8 ?_)
  intro w2 g2 G2 H2 Hb2 Hs2
  have Hg : Hid (w.heap.size ≤ g1 ∧ g1 ≠ g2 ∧ w.heap.size ≤ g2) := Lib.hid (by have := G1.out; have := G2.out; have := Hs1.out; omega)
  have H1' : Hid (Arr w2 g1 24 .u32 (Zs 8)) := Lib.hid (H1.out.below Hb2.out (by have := G1.out; have := Hs1.out; omega))
  have Hb : Hid (Below w.heap.size w w2) := Lib.hid (Hb1.out.trans (Hb2.out.mono (by have := Hs1.out; omega)))
  clear H1 Hb1 Hb2 G1 G2 Hs1 Hs2
  go_wp2
  go_loopw [2] (fun i wr => ∃ j : Nat, j ≤ 8 ∧ i = .int .i64 (j : Int) ∧ Hid (Arr wr g1 24 .u32 (Zs 8)) ∧ Hid (Arr wr g2 24 .u32 (L.take j ++ (Zs 8).drop j)) ∧ Hid (Below w.heap.size w wr)) (fun i _ => 8 - (intOf i).toNat)
  case atStart => exact ⟨0, by omega, rfl, H1', H2, Hb⟩
  case round =>
    clear H1' H2 Hb
    obtain ⟨j, hj, rfl, A1, A2, Hbr⟩ := hrel
    by_cases hj8 : j < 8
    · have hjL : j < L.length := by rw [Hl.out]; exact hj8
      have hjZ : j < (Zs 8).length := by rw [Zs_length]; exact hj8
      have Hset : Hid ((L.take j ++ (Zs 8).drop j).set j L[j] = L.take (j + 1) ++ (Zs 8).drop (j + 1)) := Lib.hid (fill_set hjL hjZ)
      have hc0 := fun w' => rprime_any j w' (by omega)
      have hc := fun w' => rroot_any (primeU j) 2 w' (primeU_lt j) (.inl rfl)
      rw [Hk.out j hjL] at hc
      have hlen2 : Hid ((L.take j ++ (Zs 8).drop j).length = 8) := Lib.hid (by rw [fill_length (by rw [Hl.out, Zs_length]), Zs_length])
      revert hc hc0 Hset
      generalize L[j] = x
      generalize primeU j = p
      intro Hset hc0 hc
      go_wp2_with fail
      refine (hc0 _).mono ?_
      rintro e w3 ⟨rfl, rfl⟩
      go_wp2_with fail
      refine (hc _).mono ?_
      rintro e w3 ⟨rfl, hb3⟩
      have A3 : Hid (Arr w3 g2 24 .u32 (L.take j ++ (Zs 8).drop j)) := Lib.hid (A2.out.below hb3 A2.out.lt)
      have A1' : Hid (Arr w3 g1 24 .u32 (Zs 8)) := Lib.hid (A1.out.below hb3 A1.out.lt)
      have Hbr3 : Hid (Below w.heap.size w w3) := Lib.hid (Hbr.out.trans (hb3.mono Hbr.out.size))
      obtain ⟨z0, hc3⟩ : ∃ z0, w3.cell? ⟨g2, j, none⟩ = some z0 := ⟨_, A3.out.cell (j := j) (by rw [hlen2.out]; exact hj8)⟩
      have hf3 := A3.out.frozen j
      clear hb3
      go_wp2
      go_roundw
      case rel => exact ⟨j + 1, by omega, by go_num, Lib.hid (A1'.out.other Hg.out.2.1), Lib.hid (by rw [← Hset.out]; exact A3.out.set), Lib.hid (Hbr3.out.setCell Hg.out.2.2 _)⟩
      case measure => simp [intOf]; omega
    · obtain rfl : j = 8 := by omega
      have A2' : Hid (Arr wr g2 24 .u32 L) := Lib.hid (by have h := A2.out; rwa [fill_all Hl.out (Zs_length 8)] at h)
      go_wp2_with (first
        | refine wp_load_arr arr8 rfl (.tmp 1) rfl rfl A2'.out Hl.out ?_
        | refine wp_put_arr arr8 rfl (.tmp 0) (.tmp 12) rfl rfl (l' := L) rfl A1.out (Zs_length _) Hl.out ?_)
      intro w4 A4 Hm4 Hs4
      go_wp2
      exact ret_arr arr8 rfl rfl A4.out Hl.out rfl ⟨rfl, Hbr.out.trans (Hm4.out.below (fun k hk => by have := Hg.out; omega) Hbr.out.size)⟩

end Go.Proofs.YtpnifmghbfajiaaDoor
