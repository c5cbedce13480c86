import Derived.Test.YtpnifmghbfajiaaDoorArr
import Derived.Test.YtpnifmghbfajiaaDoorFacts
import Derived.Test.YtpnifmghbfajiaaDoorShaN
namespace Go.Proofs.YtpnifmghbfajiaaDoor
open Go.RowKit

theorem arr5 : ArrT Tryd.prog 55 41 .u64 5 := ⟨by kernel_rfl, by kernel_rfl, by kernel_rfl⟩

set_option maxHeartbeats 1600000 in
theorem rabove_any (a b : List Nat) (w : World) (ha : a.length = 5) (hb : b.length = 5) (hda : ∀ d ∈ a, d < 4294967296) (hdb : ∀ d ∈ b, d < 4294967296) :
    Calls Tryd.prog 36 #[.agg (Nums .u64 a), .agg (Nums .u64 b)] w (Ans w (.bool (aboveW a b))) := by
  have Ha := Lib.hid ha
  have Hb := Lib.hid hb
  clear ha hb
  go_enter Tryd.func36, Tryd.ntmps36
  go_wp2
  go_loopw [5] (fun z wr => ∃ k : Nat, k ≤ 5 ∧ z = .int .i64 ((k : Int) - 1) ∧ Hid (a.drop k = b.drop k) ∧ Hid (Arr wr w.heap.size 55 .u64 a) ∧ Hid (Arr wr (w.heap.size + 1) 55 .u64 b) ∧ Hid (Below w.heap.size w wr)) (fun z _ => ((intOf z) + 1).toNat)
  case atStart =>
    refine ⟨5, Nat.le_refl _, rfl, Lib.hid ?_, Lib.hid ?_, Lib.hid ?_, Lib.hid ?_⟩
    · rw [List.drop_of_length_le (by rw [Ha.out]; omega), List.drop_of_length_le (by rw [Hb.out]; omega)]
    · exact Arr.new.alloc _
    · have h : Arr ((w.alloc (.cells (Nums .u64 a) 55)).alloc (.cells (Nums .u64 b) 55)) (w.alloc (.cells (Nums .u64 a) 55)).heap.size 55 .u64 b := Arr.new
      simpa using h
    · exact ((Below.refl _ _).alloc (Nat.le_refl _) _).alloc (by simp) _
  case round =>
    obtain ⟨k, hk, rfl, Hd, HA, HB, Hbl⟩ := hrel
    cases k with
    | zero =>
      have Hab : Hid (aboveW a b = false) := Lib.hid (by have h := Hd.out; rw [List.drop_zero, List.drop_zero] at h; rw [h]; simp [aboveW])
      rw [show (((0 : Nat) : Int) - 1) = -1 from rfl]
      go_wp2
      go_ret
      exact ⟨by rw [Hab.out]; rfl, Hbl.out⟩
    | succ i =>
      have hia : i < a.length := by rw [Ha.out]; omega
      have hib : i < b.length := by rw [Hb.out]; omega
      have hca := HA.out.cell hia
      have hcb := HB.out.cell hib
      have h1 := hda _ (List.getElem_mem hia)
      have h2 := hdb _ (List.getElem_mem hib)
      have Hdd : Hid (a.drop i = a[i] :: a.drop (i + 1) ∧ b.drop i = b[i] :: b.drop (i + 1)) := Lib.hid ⟨List.drop_eq_getElem_cons hia, List.drop_eq_getElem_cons hib⟩
      have Hgt : Hid (b[i] < a[i] → aboveW a b = true) := Lib.hid fun h => decide_eq_true (valW_above hdb hib hia Hd.out.symm h)
      have Hlt : Hid (a[i] < b[i] → aboveW a b = false) := Lib.hid fun h => decide_eq_false (by have := valW_above hda hia hib Hd.out h; omega)
      revert hca hcb h1 h2 Hdd Hgt Hlt
      generalize a[i] = x
      generalize b[i] = y
      intro hca hcb h1 h2 Hdd Hgt Hlt
      have ei : (((i + 1 : Nat) : Int) - 1) = (i : Int) := by omega
      rw [ei]
      by_cases hxy : x = y
      · subst hxy
        go_wp2
        go_quiet (fail)
        have HA2 := Lib.hid (HA.out.drewN nq)
        have HB2 := Lib.hid (HB.out.drewN nq)
        have Hb2 := Lib.hid (bdrewN Hbl.out nq)
        go_wp2
        go_roundw
        case rel => exact ⟨i, by omega, rfl, Lib.hid (by rw [Hdd.out.1, Hdd.out.2, Hd.out]), HA2, HB2, Hb2⟩
        case measure => simp [intOf]
      · have hxy' : ¬ (x : Int) = (y : Int) := by omega
        by_cases hgt : y < x
        · have hgt' : (y : Int) < (x : Int) := by omega
          have Hr := Lib.hid (Hgt.out hgt)
          go_wp2
          go_quiet (fail)
          go_wp2
          go_quiet (fail)
          go_wp2
          go_ret
          exact ⟨by rw [Hr.out]; rfl, bdrewN (bdrewN Hbl.out _) _⟩
        · have hgt' : ¬ (y : Int) < (x : Int) := by omega
          have Hr := Lib.hid (Hlt.out (by omega))
          go_wp2
          go_quiet (fail)
          go_wp2
          go_quiet (fail)
          go_wp2
          go_ret
          exact ⟨by rw [Hr.out]; rfl, bdrewN (bdrewN Hbl.out _) _⟩

end Go.Proofs.YtpnifmghbfajiaaDoor
