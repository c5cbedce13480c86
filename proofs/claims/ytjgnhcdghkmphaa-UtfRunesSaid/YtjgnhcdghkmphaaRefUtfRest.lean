import Derived.Test.YtjgnhcdghkmphaaRefUtfRunes
import Derived.Test.YtjgnhcdghkmphaaRefUtfText
import Derived.Test.YtjgnhcdghkmphaaUtfFold
namespace Go.Proofs.Ytjgnhcdghkmphaa
open Go.RowKit

theorem countV_ok {l : List UInt8} (h : brokenU 0 l = none) : countV l = ((runesU l).length : Int) := by unfold countV; rw [h]
theorem countV_bad {l : List UInt8} {p : Nat} (h : brokenU 0 l = some p) : countV l = -1 := by unfold countV; rw [h]
theorem textV_valid {ns : List Int} (h : ∀ r ∈ ns, validU r = true) : textV ns = (encU ns, 0, 0) := textV_ok (firstBad_of 0 ns h)

set_option maxHeartbeats 800000 in
theorem rcount_any (s : ByteArray) (w : World) (hs : s.size ≤ 1099511627776) :
    Calls Try.prog 13 #[.string s] w (Ans w (.int .i64 (countV s.data.toList))) := by
  have hr := rrunes_any s w hs
  cases h : brokenU 0 s.data.toList with
  | some p =>
    rw [runesV_bad h] at hr
    rw [countV_bad h]
    clear h
    go_enter Try.func13, Try.ntmps13
    go_wp2_with fail
    refine hr.mono ?_
    rintro e w1 ⟨A, c, rfl, _, hb1⟩
    go_wp2
    go_ret
    exact ⟨rfl, hb1⟩
  | none =>
    rw [runesV_ok h] at hr
    rw [countV_ok h]
    clear h
    go_enter Try.func13, Try.ntmps13
    go_wp2_with fail
    refine hr.mono ?_
    rintro e w1 ⟨A, c, rfl, _, hb1⟩
    go_wp2
    go_ret
    exact ⟨rfl, hb1⟩

set_option maxHeartbeats 1600000 in
theorem rcut_any (s : ByteArray) (n : Int) (w : World) (hs : s.size ≤ 1099511627776) :
    Calls Try.prog 15 #[.string s, .int .i64 n] w (Ans w (.string ⟨(cutV s.data.toList n).toArray⟩)) := by
  have hr := rrunes_any s w hs
  have hf := runes_few s
  by_cases hn : n < 1
  · rw [cutV_low _ _ hn]
    clear hf
    go_enter Try.func15, Try.ntmps15
    go_wp2_with fail
    refine hr.mono ?_
    rintro e w1 ⟨A, c, rfl, _, hb1⟩
    go_wp2
    go_ret
    exact ⟨rfl, hb1⟩
  · obtain ⟨m, rfl⟩ := Int.eq_ofNat_of_zero_le (show 0 ≤ n by omega)
    obtain ⟨R, v2, v3, hR, hRl, hcut⟩ : ∃ R v2 v3, runesV s.data.toList = (R, v2, v3) ∧ R.length ≤ s.size ∧ ∀ k, k ≤ R.length → R.take m = R.take k → (∀ r ∈ R.take k, validU r = true) ∧ cutV s.data.toList m = encU (R.take k) := by
      have hval := runes_valid s.data.toList.length s.data.toList (Nat.le_refl _)
      cases h : brokenU 0 s.data.toList with
      | some p => exact ⟨[], _, _, runesV_bad h, Nat.zero_le _, fun k _ _ => ⟨fun r hr => by simp at hr, by rw [cutV_bad h]; simp [encU]⟩⟩
      | none => exact ⟨_, _, _, runesV_ok h, hf, fun k _ hk => ⟨fun r hr => hval r (List.mem_of_mem_take hr), by rw [cutV_ok h, Int.toNat_natCast, hk]⟩⟩
    rw [hR] at hr
    obtain ⟨k, hk, hmin, hte⟩ : ∃ k : Nat, k ≤ R.length ∧ min (m : Int) (R.length : Int) = (k : Int) ∧ R.take m = R.take k := by
      by_cases hle : m ≤ R.length
      · exact ⟨m, hle, by omega, rfl⟩
      · exact ⟨R.length, Nat.le_refl _, by omega, by rw [List.take_length, List.take_of_length_le (by omega)]⟩
    obtain ⟨hv, he⟩ := hcut k hk hte
    have htv := textV_valid hv
    rw [he]
    clear hR hte he hv hf hcut
    go_enter Try.func15, Try.ntmps15
    go_wp2_with fail
    refine hr.mono ?_
    rintro e w1 ⟨A, c, rfl, hown, hb1⟩
    dsimp only at hown
    obtain ⟨A', c', he, hc1, hc2⟩ := own_form hown
    injection he with he1 he2 he3
    subst he1 he3
    have hx := (Rd.of_own hown).head hk
    rw [← Ris_take] at hx
    unfold maxLen at hc2
    have htx := rtext_any w1.heap.size k c A (R.take k) w1 hx (by omega) (Nat.le_refl _)
    rw [htv] at htx
    have Htv := Lib.hid htv; clear htv
    generalize R.length = RL at *
    go_wp2_with fail
    refine htx.mono ?_
    rintro e w2 ⟨rfl, hb2⟩
    go_wp2
    go_ret
    exact ⟨rfl, bon hb1 hb2⟩

set_option maxHeartbeats 3200000 in
theorem rfold_any (s : ByteArray) (w : World) (hs : s.size ≤ 1099511627776) :
    Calls Try.prog 17 #[.string s] w (Ans w (.string ⟨(foldV s.data.toList).toArray⟩)) := by
  have hr := rrunes_any s w hs
  obtain ⟨R, v2, v3, hR, hRl, hval, hfold⟩ : ∃ R v2 v3, runesV s.data.toList = (R, v2, v3) ∧ R.length ≤ s.size ∧ (∀ r ∈ R, validU r = true) ∧ foldV s.data.toList = encU (R.map foldR) := by
    have hval := runes_valid s.data.toList.length s.data.toList (Nat.le_refl _)
    cases h : brokenU 0 s.data.toList with
    | some p => exact ⟨[], _, _, runesV_bad h, Nat.zero_le _, fun r hr => (by cases hr), by rw [foldV_bad h]; rfl⟩
    | none => exact ⟨_, _, _, runesV_ok h, runes_few s, hval, foldV_ok h⟩
  rw [hR] at hr
  rw [hfold]
  have htv : textV (R.map foldR) = (encU (R.map foldR), 0, 0) := textV_valid (fun r hr => by
    obtain ⟨r', h', rfl⟩ := List.mem_map.1 hr
    exact fold_valid r' (hval r' h'))
  have Htv := Lib.hid htv; clear htv
  clear hR hfold
  go_enter Try.func17, Try.ntmps17
  go_wp2_with fail
  refine hr.mono ?_
  rintro e w1 ⟨A, c, rfl, hown0, hb1⟩
  dsimp only at hown0
  have hx := Rd.of_own hown0
  go_wp2
  go_loopw [6, 7] (fun v i wr => ∃ (k c' : Nat) (A' : Option Addr), k ≤ R.length ∧ i = .int .i64 k ∧ v = .slice A' k c' ∧ wr.ownsRow w1.heap.size 21 1 (.slice A' k c') k (Ris .i32 ((R.take k).map foldR)) ∧ Below w1.heap.size w1 wr) (fun _ i _ => R.length - (intOf i).toNat)
  case atStart => exact ⟨0, 0, none, Nat.zero_le _, rfl, rfl, own_nil _ _ _, Below.refl _ _⟩
  case round =>
    obtain ⟨k, c', A', hk, rfl, rfl, hown, hbr⟩ := hrel
    by_cases hlt : k < R.length
    · obtain ⟨b, o, rfl, hb, hc⟩ := (hx.below hbr).int hlt hlt
      obtain ⟨hv0, hv1⟩ := valid_range (hval _ (List.getElem_mem hlt))
      have hsn : (R.take k).map foldR ++ [foldR R[k]] = (R.take (k + 1)).map foldR := by
        rw [List.take_add_one, List.getElem?_eq_getElem hlt, List.map_append]; rfl
      have Hsn := Lib.hid hsn; clear hsn
      have hbs := hbr.size
      have hup := rupper_any R[k] wr
      cases hu : upperU R[k] with
      | true =>
        have hfr : foldR R[k] = R[k] + 32 := by simp [foldR, hu]
        rw [hfr] at Hsn
        clear hfr
        rw [hu] at hup
        clear hu
        go_wp2_with fail
        refine hup.mono ?_
        rintro e w2 ⟨rfl, rfl⟩
        go_wp2_with (refine wp_append_rd rfl _ _ 22 rfl 21 Try.underlying22 (.int .i32 0) 4 (by omega) rfl Try.info_i32 w1.heap.size k c' A' _ rfl (hown.alloc _) (w2.heap.size + 1) 1 1 _ _ rfl (Rd.new w2 _ #[.int .i32 (R[k] + 32)] rfl) (by intro u hu; simp at hu; subst hu; rfl) (by omega) (by omega) (by simp; omega) w1 w1.heap.size (hbr.alloc hbs _) (Nat.le_refl _) ?_)
        intro A3 c3 w3 hown3 hb3
        have hown4 : w3.ownsRow w1.heap.size 21 1 (.slice A3 (k + 1) c3) (k + 1) (Ris .i32 ((R.take (k + 1)).map foldR)) := by rw [← Hsn.out, Ris_append, List.map_take]; exact hown3
        clear hown3
        go_wp2
        go_roundw
        case rel => exact ⟨k + 1, c3, A3, by omega, by go_num, rfl, hown4, hb3⟩
        case measure => simp [intOf]; omega
      | false =>
        have hfr : foldR R[k] = R[k] := by simp [foldR, hu]
        rw [hfr] at Hsn
        clear hfr
        rw [hu] at hup
        clear hu
        go_wp2_with fail
        refine hup.mono ?_
        rintro e w2 ⟨rfl, rfl⟩
        go_wp2_with (refine wp_append_rd rfl _ _ 22 rfl 21 Try.underlying22 (.int .i32 0) 4 (by omega) rfl Try.info_i32 w1.heap.size k c' A' _ rfl (hown.alloc _) (w2.heap.size + 1) 1 1 _ _ rfl (Rd.new w2 _ #[.int .i32 R[k]] rfl) (by intro u hu; simp at hu; subst hu; rfl) (by omega) (by omega) (by simp; omega) w1 w1.heap.size (hbr.alloc hbs _) (Nat.le_refl _) ?_)
        intro A3 c3 w3 hown3 hb3
        have hown4 : w3.ownsRow w1.heap.size 21 1 (.slice A3 (k + 1) c3) (k + 1) (Ris .i32 ((R.take (k + 1)).map foldR)) := by rw [← Hsn.out, Ris_append, List.map_take]; exact hown3
        clear hown3
        go_wp2
        go_roundw
        case rel => exact ⟨k + 1, c3, A3, by omega, by go_num, rfl, hown4, hb3⟩
        case measure => simp [intOf]; omega
    · obtain rfl : k = R.length := by omega
      rw [List.take_length] at hown
      have hx2 := Rd.of_own hown
      have htx := rtext_any wr.heap.size R.length c' A' (R.map foldR) wr hx2 (by omega) (Nat.le_refl _)
      rw [Htv.out] at htx
      go_wp2_with fail
      refine htx.mono ?_
      rintro e w2 ⟨rfl, hb2⟩
      go_wp2
      go_ret
      exact ⟨rfl, bon (bon hb1 hbr) hb2⟩

end Go.Proofs.Ytjgnhcdghkmphaa
