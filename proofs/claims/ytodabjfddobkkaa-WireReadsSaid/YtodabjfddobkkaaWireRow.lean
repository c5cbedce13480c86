import Derived.Test.YtodabjfddobkkaaWireNumber
namespace Go.Proofs.Ytodabjfddobkkaa
open Go.RowKit

theorem min_big {n : Nat} : (min (n : Int) 65535) = ((min n 65535 : Nat) : Int) := by omega
theorem putR2 (k : Nat) : putR k 2 = putL k 2 := by simp [putR]

theorem rowU_of {xs : List UInt8} {n k : Nat} (hx : xs.length = n) (hk : k = min n 65535) : rowU xs = putL k 2 ++ xs.take k := by
  have hlen : (xs.take 65535).length = k := by rw [List.length_take]; omega
  unfold rowU
  rw [hlen]
  congr 1
  by_cases hs : n ≤ 65535
  · rw [List.take_of_length_le (by omega), List.take_of_length_le (by omega)]
  · rw [hk, Nat.min_eq_right (by omega)]

set_option maxHeartbeats 800000 in
theorem wrow_in (k : Nat) (F : Nat → Prop) (bw B n c : Nat) (A : Option Addr) (l xs : List UInt8) (w : World) (h : WtrS 5 w F bw l) (hx : Rd w B A n (Byt xs)) (hok : SlOK A n c) (hB : B ≤ w.heap.size) (hoff : 0 < n → Off F A) (hn : l.length + 65543 ≤ 8796093022208) (hk : k = min n 65535)
    (hcase : (A = none ∧ n = 0 ∧ c = 0 ∧ k = 0) ∨ (n ≤ 65535 ∧ k = n) ∨ (65535 < n ∧ k = 65535)) :
    Calls Try.prog 25 #[.pointer (some ⟨bw, 0, none⟩), .slice A n c] w fun e w' => e = .returned (.tuple #[]) ∧ Wrote 5 w F bw (l ++ rowU xs) w' := by
  have hxl := hx.bytes
  have hcm := hok.le
  unfold maxLen at hcm
  have hx2 := hx.head (m := k) (by omega)
  rw [← Byt_take] at hx2
  rw [rowU_of hxl hk, ← List.append_assoc]
  have hok2 : SlOK A k c := by
    rcases hok with ⟨h1, h2, h3⟩ | ⟨a, h1, h2, h3⟩
    · exact .inl ⟨h1, by omega, h3⟩
    · exact .inr ⟨a, h1, by omega, h3⟩
  have hk64 : k < 18446744073709551616 := by omega
  have hp := wnumber_any F bw l k 2 hk64 w h (by omega)
  rw [putR2] at hp
  have hpl := putL_length k 2
  have hq : ∀ (w1 : World), Wrote 5 w F bw (l ++ putL k 2) w1 → Calls Try.prog 30 #[.pointer (some ⟨bw, 0, none⟩), .slice A k c] w1 fun e w' => e = .returned (.tuple #[]) ∧ Wrote 5 w F bw (l ++ putL k 2 ++ xs.take k) w' := by
    rintro w1 ⟨F1, hw1, hm1, hs1⟩
    refine (wput_any F1 bw B k c A _ _ w1 hw1 (hx2.moves hm1 hB fun h0 => hoff (by omega)) hok2 (by rw [List.length_append, hpl]; omega)).mono ?_
    rintro e w2 ⟨rfl, hw2⟩
    exact ⟨rfl, hw2.then hm1 hs1⟩
  clear hx hx2 hxl hpl hk
  have hmx : max (65535 : Int) 0 = 65535 := by decide
  rcases hok2 with ⟨rfl, h2, rfl⟩ | ⟨a, rfl, h2, h3⟩
  · obtain rfl : k = 0 := h2
    obtain rfl : n = 0 := by omega
    clear hcase
    go_enter Try.func25, Try.ntmps25
    go_wp2_with fail
    refine hp.mono ?_
    rintro e w1 ⟨rfl, hw1⟩
    have hq1 := hq w1 hw1
    clear hw1
    go_wp2_with fail
    refine hq1.mono ?_
    rintro e w2 ⟨rfl, hw2⟩
    go_wp2
    go_end0
    exact ⟨rfl, hw2⟩
  · rcases hcase with ⟨hA, _⟩ | ⟨h5, rfl⟩ | ⟨h5, rfl⟩
    · cases hA
    · have hi : (k : Int) ≤ 65535 := by omega
      have hic : (k : Int) ≤ (c : Int) := by omega
      go_enter Try.func25, Try.ntmps25
      go_wp2_with fail
      refine hp.mono ?_
      rintro e w1 ⟨rfl, hw1⟩
      have hq1 := hq w1 hw1
      clear hw1
      go_wp2_with fail
      refine hq1.mono ?_
      rintro e w2 ⟨rfl, hw2⟩
      go_wp2
      go_end0
      exact ⟨rfl, hw2⟩
    · have hi : ¬ (n : Int) ≤ 65535 := by omega
      have hic : (65535 : Int) ≤ (c : Int) := by omega
      have hic' : 65535 ≤ c := by omega
      go_enter Try.func25, Try.ntmps25
      go_wp2_with fail
      refine hp.mono ?_
      rintro e w1 ⟨rfl, hw1⟩
      have hq1 := hq w1 hw1
      clear hw1
      go_wp2_with fail
      refine hq1.mono ?_
      rintro e w2 ⟨rfl, hw2⟩
      go_wp2
      go_end0
      exact ⟨rfl, hw2⟩

theorem wrow_any (F : Nat → Prop) (bw B n c : Nat) (A : Option Addr) (l xs : List UInt8) (w : World) (h : WtrS 5 w F bw l) (hx : Rd w B A n (Byt xs)) (hok : SlOK A n c) (hB : B ≤ w.heap.size) (hoff : 0 < n → Off F A) (hn : l.length + 65543 ≤ 8796093022208) :
    Calls Try.prog 25 #[.pointer (some ⟨bw, 0, none⟩), .slice A n c] w fun e w' => e = .returned (.tuple #[]) ∧ Wrote 5 w F bw (l ++ rowU xs) w' := by
  rcases hok with ⟨rfl, rfl, rfl⟩ | ⟨a, rfl, h2, h3⟩
  · exact wrow_in 0 F bw B 0 0 none l xs w h hx .nil hB hoff hn rfl (.inl ⟨rfl, rfl, rfl, rfl⟩)
  · by_cases hs : n ≤ 65535
    · exact wrow_in n F bw B n c _ l xs w h hx (.inr ⟨a, rfl, h2, h3⟩) hB hoff hn (by omega) (.inr (.inl ⟨hs, rfl⟩))
    · exact wrow_in 65535 F bw B n c _ l xs w h hx (.inr ⟨a, rfl, h2, h3⟩) hB hoff hn (by omega) (.inr (.inr ⟨by omega, rfl⟩))

end Go.Proofs.Ytodabjfddobkkaa
