import Derived.Test.YtmhmahimihhikaaDoorPrintS
import Derived.Test.YtmhmahimihhikaaDoorFacts
namespace Go.Proofs.YtmhmahimihhikaaDoor
open Go.RowKit

set_option maxHeartbeats 400000 in
theorem rprint_neg (n : Int) (w : World) (h : n < 0) :
    Calls Tryd.prog 9 #[.int .i64 n] w (Ans w (.string ⟨#[]⟩)) := by
  go_enter Tryd.func9, Tryd.ntmps9
  go_wp2_with fail
  go_ret
  exact ⟨rfl, Below.refl _ _⟩

theorem cat_strings (a b : List UInt8) : (⟨a.toArray⟩ : ByteArray) ++ ⟨b.toArray⟩ = ⟨(a ++ b).toArray⟩ := by
  apply ByteArray.ext
  simp

set_option maxHeartbeats 400000 in
theorem rprint_small (n : Nat) (w : World) (h10 : n < 10) :
    Calls Tryd.prog 9 #[.int .i64 n] w (Ans w (.string ⟨(Lib.decDigits n).toArray⟩)) := by
  obtain ⟨b, hb⟩ : ∃ b, b = UInt8.ofNat (48 + n) := ⟨_, rfl⟩
  rw [dec_small h10, ← hb]
  have hz : (b.toNat : Int) = 48 + (n : Int) := by rw [hb, u8_of]; omega
  clear hb
  have hr : Rd (w.alloc (.cells #[.int .u8 (48 + (n : Int))] 5)) (w.heap.size + 1) (some ⟨w.heap.size, 0, none⟩) 1 (Byt [b]) := by
    refine ⟨rfl, fun _ => ⟨w.heap.size, 0, rfl, by omega, fun j u hj => ?_⟩⟩
    match j, hj with
    | 0, hj =>
      simp only [Byt, List.map_cons, List.map_nil, List.getElem?_cons_zero, Option.some.injEq] at hj
      rw [← hj, hz, World.cell?_alloc_at _ _ _ _ rfl]; rfl
    | j + 1, hj => simp [Byt] at hj
  have hc := hr.conv (P := Tryd.prog) (c := 1) 29 9 5 Tryd.underlying29 Tryd.underlying5 Tryd.underlying9
  clear hr hz
  go_enter Tryd.func9, Tryd.ntmps9
  go_wp2_with fail
  go_ret
  exact ⟨rfl, (Below.refl _ _).alloc (Nat.le_refl _) _⟩

set_option maxHeartbeats 800000 in
theorem rprint_nat (k : Nat) : ∀ (n : Nat) (w : World), n ≤ k → n < 9223372036854775808 →
    Calls Tryd.prog 9 #[.int .i64 n] w (Ans w (.string ⟨(Lib.decDigits n).toArray⟩)) := by
  induction k with
  | zero => exact fun n w hk _ => rprint_small n w (by omega)
  | succ k ih =>
    intro n w hk hn
    by_cases h10 : n < 10
    · exact rprint_small n w h10
    · have hd := dec_big h10
      rw [hd]
      have hl1 := dec_len (show n / 10 < 9223372036854775808 by omega)
      have hl2 := dec_len (show n % 10 < 9223372036854775808 by omega)
      have Hi := Lib.hid ih; clear ih
      go_enter Tryd.func9, Tryd.ntmps9
      go_wp2_with fail
      refine (Hi.out (n / 10) _ (by omega) (by omega)).mono ?_
      rintro e w1 ⟨rfl, hb1⟩
      go_wp2_with fail
      refine (Hi.out (n % 10) _ (by omega) (by omega)).mono ?_
      rintro e w2 ⟨rfl, hb2⟩
      go_wp2_with fail
      go_ret
      exact ⟨by rw [← cat_strings]; rfl, hb1.trans (hb2.mono hb1.size)⟩

theorem rprint_any (n : Int) (w : World) (h : n < 9223372036854775808) :
    Calls Tryd.prog 9 #[.int .i64 n] w (Ans w (.string ⟨(printL n).toArray⟩)) := by
  by_cases h0 : n < 0
  · rw [printL, if_pos h0]
    exact rprint_neg n w h0
  · obtain ⟨k, rfl⟩ := Int.eq_ofNat_of_zero_le (show 0 ≤ n by omega)
    rw [printL, if_neg h0, Int.toNat_natCast]
    exact rprint_nat k k w (Nat.le_refl _) (by omega)

end Go.Proofs.YtmhmahimihhikaaDoor
