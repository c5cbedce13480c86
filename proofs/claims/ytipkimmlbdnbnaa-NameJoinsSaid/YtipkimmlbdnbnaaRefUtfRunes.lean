import Derived.Test.YtipkimmlbdnbnaaRefUtfFirst
import Derived.Test.YtipkimmlbdnbnaaUtfV
import Derived.Test.YtipkimmlbdnbnaaFactsR
namespace Go.Proofs.Ytipkimmlbdnbnaa
open Go.RowKit

theorem first_at {s : ByteArray} {p : Nat} (h : p < s.size) :
    (badL (s.data.toList.drop p) = true → firstV (s.extract p s.size).data.toList = (0, 0)) ∧
    (badL (s.data.toList.drop p) = false → firstV (s.extract p s.size).data.toList = (((Utf8.decode s p).1 : Int), ((Utf8.decode s p).2 : Int))) := by
  rw [ext_list]
  unfold firstV
  rw [if_neg (drop_ne h)]
  constructor
  · intro hb; rw [if_pos hb]
  · intro hb; rw [if_neg (by rw [hb]; simp), Lib.decodeL_drop]
theorem broken_at' {s : ByteArray} {p : Nat} (h : p < s.size) (hb : brokenU p (s.data.toList.drop p) = brokenU 0 s.data.toList) (hbad : badL (s.data.toList.drop p) = true) : brokenU 0 s.data.toList = some p := by
  rw [brokenU_step _ _ (drop_ne h), if_pos hbad] at hb
  exact hb.symm

set_option maxHeartbeats 3200000 in
theorem rrunes_any (s : ByteArray) (w : World) (hs : s.size ≤ 1099511627776) :
    Calls Try.prog 33 #[.string s] w (NewT .i32 21 w (runesV s.data.toList)) := by
  go_enter Try.func33, Try.ntmps33
  go_wp2
  go_loopw [5, 6] (fun v i wr => ∃ (p n c : Nat) (A : Option Addr) (l : List Int), p ≤ s.size ∧ n ≤ p ∧ i = .int .i64 p ∧ v = .slice A n c ∧ wr.ownsRow w.heap.size 21 1 (.slice A n c) n (Ris .i32 l) ∧ Below w.heap.size w wr ∧
      Hid (brokenU p (s.data.toList.drop p) = brokenU 0 s.data.toList) ∧ Hid (l ++ runesU (s.data.toList.drop p) = runesU s.data.toList)) (fun _ i _ => s.size - (intOf i).toNat)
  case atStart => exact ⟨0, 0, 0, none, [], Nat.zero_le _, Nat.le_refl _, rfl, rfl, own_nil _ _ _, Below.refl _ _, Lib.hid rfl, Lib.hid rfl⟩
  case round =>
    obtain ⟨p, n, c, A, l, hp, hnp, rfl, rfl, hown, hbr, Hb, Hl⟩ := hrel
    by_cases hlt : p < s.size
    · obtain ⟨hw1, hw2⟩ := step_le hlt
      obtain ⟨k1, k2⟩ := first_at hlt
      cases hbad : badL (s.data.toList.drop p) with
      | true =>
        have hf := rfirst_any (s.extract p s.size) wr
        rw [k1 hbad] at hf
        clear k1 k2
        have Hbad := Lib.hid hbad; clear hbad
        go_wp2_with fail
        refine hf.mono ?_
        rintro e w1 ⟨rfl, hb1⟩
        go_wp2
        go_ret3
        exact ⟨none, 0, by rw [runesV_bad (broken_at' hlt Hb.out Hbad.out)]; rfl, by rw [runesV_bad (broken_at' hlt Hb.out Hbad.out)]; exact own_nil _ _ _, bon hbr hb1⟩
      | false =>
        have hf := rfirst_any (s.extract p s.size) wr
        rw [k2 hbad] at hf
        have hz0 : (((Utf8.decode s p).2 : Int) == 0) = false := by simp; omega
        have hnb := (broken_at hlt Hb.out).2 hbad
        have hll := Hl.out
        rw [runesU_step _ (drop_ne hlt), Lib.decodeL_drop, List.drop_drop] at hll
        have Hnb := Lib.hid hnb; clear hnb
        have Hll := Lib.hid hll; clear hll
        clear k1 k2
        have Hbad := Lib.hid hbad; clear hbad
        go_wp2_with fail
        refine hf.mono ?_
        rintro e w1 ⟨rfl, hb1⟩
        have hown1 := own_below hown hb1 (Nat.le_refl _)
        have hbr1 := bon hbr hb1
        have hsz1 := hbr1.size
        go_wp2_with (refine wp_append_rd rfl _ _ 53 rfl 21 Try.underlying53 (.int .i32 0) 4 (by omega) rfl Try.info_i32 w.heap.size n c A _ rfl (hown1.alloc _) (w1.heap.size + 1) 1 1 _ _ rfl (Rd.new w1 _ #[.int .i32 ((Utf8.decode s p).1 : Int)] rfl) (by intro u hu; simp at hu; subst hu; rfl) (by omega) (by omega) (by simp; omega) w w.heap.size (hbr1.alloc hsz1 _) (Nat.le_refl _) ?_)
        intro A2 c2 w2 hown2 hb2
        have hown3 : w2.ownsRow w.heap.size 21 1 (.slice A2 (n + 1) c2) (n + 1) (Ris .i32 (l ++ [((Utf8.decode s p).1 : Int)])) := by rw [Ris_append]; exact hown2
        clear hown2
        go_wp2
        go_roundw
        case rel => exact ⟨p + (Utf8.decode s p).2, n + 1, c2, A2, _, hw1, by omega, by go_num, rfl, hown3, hb2, Hnb, Lib.hid (by rw [List.append_assoc]; exact Hll.out)⟩
        case measure => simp [intOf]; omega
    · have h0 : s.data.toList.drop p = [] := List.drop_eq_nil_of_le (by simp; omega)
      have h1 : brokenU 0 s.data.toList = none := by rw [← Hb.out, h0]; rfl
      have h2 : runesU s.data.toList = l := by rw [← Hl.out, h0, runesU_nil, List.append_nil]
      have H1 := Lib.hid h1; clear h1
      have H2 := Lib.hid h2; clear h2
      clear h0
      have hln := ownI_len hown
      have Hln := Lib.hid hln; clear hln
      go_wp2
      go_ret3
      refine ⟨A, c, by rw [runesV_ok H1.out, H2.out, Hln.out]; rfl, by rw [runesV_ok H1.out, H2.out, Hln.out]; exact hown, hbr⟩

end Go.Proofs.Ytipkimmlbdnbnaa
