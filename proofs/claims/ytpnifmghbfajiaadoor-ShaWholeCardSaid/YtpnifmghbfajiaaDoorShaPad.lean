import Derived.Test.YtpnifmghbfajiaaDoorMakeCap
import Derived.Test.YtpnifmghbfajiaaDoorNumPut
import Derived.Test.YtpnifmghbfajiaaDoorShaS
namespace Go.Proofs.YtpnifmghbfajiaaDoor
open Go.RowKit

set_option maxHeartbeats 800000 in
theorem pad_in (n : Nat) (w : World) (hn : n ≤ 1099511627776) :
    Calls Tryd.prog 15 #[.int .i64 (n : Int)] w (NewB 5 w (padU n)) := by
  obtain ⟨z, hz⟩ : ∃ z, zerosU n = z := ⟨_, rfl⟩
  have hz0 : z = (119 - n % 64) % 64 := hz.symm
  have hz64 : z ≤ 63 := by omega
  have Hp : Hid (padU n = 128 :: (List.replicate z 0 ++ putL (8 * n) 8)) := Lib.hid (by rw [← hz]; rfl)
  have hput := fun w' => put_any (8 * n) 8 w' (by omega)
  rw [show putR (8 * n) 8 = putL (8 * n) 8 from rfl] at hput
  have Hpl : Hid ((putL (8 * n) 8).length = 8) := Lib.hid (putL_length _ _)
  have z1 : (64 - ((n : Int) % 64 + 1 + 8) % 64) % 64 = (z : Int) := by omega
  have z3 : (8 : Int) * (n : Int) = ((8 * n : Nat) : Int) := by omega
  revert hput Hp Hpl z3
  generalize putL (8 * n) 8 = L
  generalize h8 : 8 * n = q
  intro Hp hput Hpl z3
  have hq : q ≤ 8796093022208 := by omega
  clear hz hz0 h8
  go_enter Tryd.func15, Tryd.ntmps15
  go_wp2_with (refine wp_make_cap rfl _ _ 30 rfl 5 Tryd.underlying30 Tryd.info_u8 (1 + z) (1 + z + 8) rfl rfl (by omega) (by omega) ?_)
  intro w1 hown hb
  have hset := own_put hown 0 128 128 rfl
  have hb2 := hb.setCell (p := ⟨w.heap.size, 0, none⟩) (Nat.le_refl _) (.int .u8 128)
  obtain ⟨u, hc⟩ := own_any hown (j := 0) (by omega)
  have hf := hown.frozenAt 0
  rw [show (List.replicate (1 + z) (0 : UInt8)).set 0 128 = 128 :: List.replicate z 0 by rw [Nat.add_comm]; rfl] at hset
  clear hown hb
  revert hset hb2
  generalize hw2 : w1.setCell ⟨w.heap.size, 0, none⟩ (.int .u8 128) = w2
  intro hset hb2
  have Hset := Lib.hid hset; clear hset
  have Hb2 := Lib.hid hb2; clear hb2
  go_wp2_with fail
  refine (hput _).mono ?_
  rintro e w3 ⟨A3, c3, rfl, hown3, hb3⟩
  have hown2 := own_below Hset.out hb3 (Nat.le_refl _)
  have hsz : w.heap.size ≤ w3.heap.size := Nat.le_trans Hb2.out.size hb3.size
  have hl8 : L.length ≤ 8 := by rw [Hpl.out]; omega
  go_wp2_with (refine wp_append_foot rfl _ _ 30 rfl 5 Tryd.underlying30 (.int .u8 0) 1 (by omega) rfl Tryd.info_u8 w.heap.size (1 + z) (1 + z + 8) (some ⟨w.heap.size, 0, none⟩) _ rfl hown2 w3.heap.size L.length c3 A3 _ rfl (Rd.of_own hown3) (SlOK.of_own hown3) (Byt_one _) (by omega) hsz ?_)
  intro A4 c4 w4 hown4 hg4 hat4
  have hb4 : Below w.heap.size w w4 := (Hb2.out.trans (hb3.mono Hb2.out.size)).grown hg4 hsz (fun k hk => (hown2.lt k hk).1)
  rw [← Byt_append] at hown4
  have Hown := Lib.hid hown4; clear hown4 hown3 hown2
  have Hb4 := Lib.hid hb4; clear hb4
  go_wp2
  go_ret
  have hl : (128 :: (List.replicate z 0 ++ L)).length = 1 + z + L.length := by simp; omega
  rw [Hp.out]
  refine ⟨A4, c4, by rw [hl]; rfl, by rw [hl]; exact Hown.out, Hb4.out⟩

theorem pad_out (z : Int) (w : World) (hz : z < 0 ∨ 1099511627776 < z) :
    Calls Tryd.prog 15 #[.int .i64 z] w (NewB 5 w []) := by
  rcases hz with h | h
  all_goals
    go_enter Tryd.func15, Tryd.ntmps15
    go_wp2
    go_ret
    exact newB_nil _ _ _ (Below.refl _ _)

theorem pad_any (z : Int) (w : World) : Calls Tryd.prog 15 #[.int .i64 z] w (NewB 5 w (shaPadR z)) := by
  by_cases h : 0 ≤ z ∧ z ≤ 1099511627776
  · obtain ⟨k, rfl⟩ := Int.eq_ofNat_of_zero_le h.1
    rw [shaPadR, if_pos h, Int.toNat_natCast]
    exact pad_in k w (by omega)
  · rw [shaPadR, if_neg h]
    exact pad_out z w (by omega)

end Go.Proofs.YtpnifmghbfajiaaDoor
