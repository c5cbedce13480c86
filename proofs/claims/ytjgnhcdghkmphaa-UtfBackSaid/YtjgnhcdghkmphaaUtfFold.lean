import Derived.Test.YtjgnhcdghkmphaaUtfCut
import Derived.Test.YtjgnhcdghkmphaaUtfSmall
namespace Go.Proofs.Ytjgnhcdghkmphaa
open Go.RowKit

theorem foldV_ok {l : List UInt8} (h : brokenU 0 l = none) : foldV l = encU ((runesU l).map foldR) := by unfold foldV; rw [h]
theorem foldV_bad {l : List UInt8} {p : Nat} (h : brokenU 0 l = some p) : foldV l = [] := by unfold foldV; rw [h]
theorem valid_range {r : Int} (h : validU r = true) : 0 ≤ r ∧ r ≤ 1114111 := by
  simp only [validU, Lib.validRune, decide_eq_true_eq] at h
  omega
/-- One place more folded. -/
theorem fold_put (ns : List Int) (k : Nat) (hk : k < ns.length) : ((ns.take k).map foldR ++ ns.drop k).set k (foldR ns[k]) = (ns.take (k + 1)).map foldR ++ ns.drop (k + 1) := by
  have hl : ((ns.take k).map foldR).length = k := by simp; omega
  rw [List.set_append_right _ _ (by omega), hl, Nat.sub_self, List.drop_eq_getElem_cons hk, List.set_cons_zero, List.take_add_one, List.getElem?_eq_getElem hk]
  simp only [List.map_append, Option.toList, List.map_cons, List.map_nil, List.append_assoc, List.cons_append, List.nil_append]
theorem fold_at (ns : List Int) (k : Nat) (hk : k < ns.length) : ((ns.take k).map foldR ++ ns.drop k).length = ns.length ∧ ∀ h : k < ((ns.take k).map foldR ++ ns.drop k).length, ((ns.take k).map foldR ++ ns.drop k)[k] = ns[k] := by
  have hl : ((ns.take k).map foldR).length = k := by simp; omega
  refine ⟨by simp; omega, fun h => ?_⟩
  rw [List.getElem_append_right (by omega)]
  simp only [hl, Nat.sub_self, List.getElem_drop, Nat.add_zero]

set_option maxHeartbeats 3200000 in
theorem fold_any (s : ByteArray) (w : World) (hs : s.size ≤ 70368744177664) :
    Calls Try.prog 16 #[.string s] w (Ans w (.string ⟨(foldV s.data.toList).toArray⟩)) := by
  have hr := runes_any s w hs
  have hf := runes_few s
  cases h : brokenU 0 s.data.toList with
  | some p =>
    rw [runesV_bad h] at hr
    rw [foldV_bad h]
    clear h hf
    go_enter Try.func16, Try.ntmps16
    go_wp2_with fail
    refine hr.mono ?_
    rintro e w1 ⟨A, c, rfl, _, hb1⟩
    go_wp2
    go_ret
    exact ⟨rfl, hb1⟩
  | none =>
    have hval := runes_valid s.data.toList.length s.data.toList (Nat.le_refl _)
    rw [runesV_ok h] at hr
    rw [foldV_ok h]
    clear h
    generalize runesU s.data.toList = ns at *
    go_enter Try.func16, Try.ntmps16
    go_wp2_with fail
    refine hr.mono ?_
    rintro e w1 ⟨A, c, rfl, hown, hb1⟩
    dsimp only at hown
    go_wp2
    go_loopw [19] (fun i wr => ∃ k : Nat, k ≤ ns.length ∧ i = .int .i64 k ∧ wr.ownsRow w.heap.size 21 1 (.slice A ns.length c) ns.length (Ris .i32 ((ns.take k).map foldR ++ ns.drop k)) ∧ Below w.heap.size w wr) (fun i _ => ns.length - (intOf i).toNat)
    case atStart => exact ⟨0, Nat.zero_le _, rfl, by simpa using hown, hb1⟩
    case round =>
      obtain ⟨k, hk, rfl, hownr, hbr⟩ := hrel
      by_cases hlt : k < ns.length
      · obtain ⟨g, rfl, hg1, hg2⟩ := own_some hownr (by omega)
        obtain ⟨hl, hget⟩ := fold_at ns k hlt
        have hcell := ownI_cell hownr (j := k) (by omega)
        rw [hget] at hcell
        have hfz := hownr.frozenAt k
        obtain ⟨hv0, hv1⟩ := valid_range (hval _ (List.getElem_mem hlt))
        have Hl := Lib.hid hl; clear hl
        have Hget := Lib.hid hget; clear hget
        go_wp2_with fail
        refine (fold1_any ns[k] wr hv0 hv1).mono ?_
        rintro e w2 ⟨rfl, rfl⟩
        go_wp2
        go_roundw
        case rel =>
          have h2 := ownI_put hownr k (foldR ns[k])
          rw [fold_put ns k hlt] at h2
          exact ⟨k + 1, by omega, by go_num, h2, hbr.setCell hg1 _⟩
        case measure => simp [intOf]; omega
      · have hkl : k = ns.length := by omega
        subst hkl
        rw [List.take_length, List.drop_length, List.append_nil] at hownr
        have hx := Rd.of_own hownr
        have hcv := hx.runes (P := Try.prog) (c := c) 22 9 21 Try.underlying22 Try.underlying21 Try.underlying9
        rw [runesBytes_eq] at hcv
        go_wp2
        go_ret
        exact ⟨rfl, hbr⟩

end Go.Proofs.Ytjgnhcdghkmphaa
