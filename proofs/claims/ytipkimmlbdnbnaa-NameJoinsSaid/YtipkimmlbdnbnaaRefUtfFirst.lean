import Derived.Test.YtipkimmlbdnbnaaUtfFirstS
import Derived.Test.YtipkimmlbdnbnaaUtfV
import Derived.Test.YtipkimmlbdnbnaaRefUtfRight
import Derived.Test.YtipkimmlbdnbnaaRefUtfBytes
namespace Go.Proofs.Ytipkimmlbdnbnaa
open Go.RowKit

/-- How great the rune may have grown. -/
def capR : Nat → Nat
  | 0 => 4
  | k + 1 => capR k * 64
theorem capR_le (k : Nat) (h : k ≤ 4) : capR k ≤ 67108864 := by
  match k, h with
  | 0, _ => decide
  | 1, _ => decide
  | 2, _ => decide
  | 3, _ => decide
  | 4, _ => decide
theorem capR_le3 (k : Nat) (h : k ≤ 3) : capR k ≤ 1048576 := by
  match k, h with
  | 0, _ => decide
  | 1, _ => decide
  | 2, _ => decide
  | 3, _ => decide
theorem headR_lt (b : UInt8) : headR b.toNat < 256 := by
  have := b.toNat_lt
  unfold headR
  repeat' split
  all_goals omega
theorem getD_at (s : ByteArray) (k : Nat) (h : k < s.size) : s.data.toList.getD k 0 = s[k] := by
  rw [List.getD, List.getElem?_eq_getElem (by simpa using h)]
  rfl
theorem add_step {s : ByteArray} {k r : Nat} (R0 : Nat) (h1 : 1 ≤ k) (hk : k < s.size) (hr : r = addR R0 ((s.data.toList.take k).drop 1)) : r * 64 + (s[k].toNat - 128) = addR R0 ((s.data.toList.take (k + 1)).drop 1) := by
  have hl : k < s.data.toList.length := by simpa using hk
  rw [List.take_add_one, List.getElem?_eq_getElem hl]
  rw [List.drop_append_of_le_length (by rw [List.length_take]; omega)]
  show _ = addR R0 ((s.data.toList.take k).drop 1 ++ [s.data.toList[k]])
  rw [addR_snoc, ← hr]
  rfl
theorem take_str (s : ByteArray) (k : Nat) : (s.extract 0 k).data.toList = s.data.toList.take k := by
  rw [ByteArray.data_extract, Array.toList_extract, List.extract_eq_take_drop]
  simp
theorem cut_eq (s : ByteArray) (k : Nat) (e : List UInt8) : ((!e == (s.extract 0 k).toList) = true → e ≠ s.data.toList.take k) ∧ ((!e == (s.extract 0 k).toList) = false → e = s.data.toList.take k) := by
  have h : (s.extract 0 k).toList = s.data.toList.take k := by rw [Lib.toList_data, take_str]
  rw [h]
  constructor
  · intro h1 h2
    subst h2
    simp at h1
  · intro h1
    simpa using h1
theorem bytes_ext {a b : ByteArray} (h : a.data.toList = b.data.toList) : a = b := by
  cases a; cases b; simpa using h

set_option maxHeartbeats 6400000 in
theorem rfirst_1 (s : ByteArray) (w : World) (b0 : Int) (h0 : 0 < s.size) (hb : ((s[0]'h0).toNat : Int) = b0) (_hb1 : 0 ≤ b0) (hb2 : b0 ≤ 255) (h1 : b0 < 240) (h2 : b0 < 224) (h3 : b0 < 192) :
    Calls Try.prog 42 #[.string s] w (Ans w (.tuple #[.int .i32 (firstV s.data.toList).1, .int .i64 (firstV s.data.toList).2])) := by
  have hne : s.data.toList ≠ [] := List.length_pos_iff.1 (by simpa using h0)
  have hlen : s.data.toList.length = s.size := by simp
  have hg0 := getD_at s 0 h0
  have hS : headS (s.data.toList.getD 0 0).toNat = 1 := by
    rw [hg0]; unfold headS
    repeat' split
    all_goals omega
  obtain ⟨R0, hR⟩ : ∃ R0, R0 = headR (s.data.toList.getD 0 0).toNat := ⟨_, rfl⟩
  have hR' : (R0 : Int) = b0 := by
    rw [hR, hg0]; unfold headR
    repeat' split
    all_goals omega
  have hR4 : R0 < capR 1 := by rw [hR]; exact headR_lt _
  have fshort : s.size < 1 → firstV s.data.toList = (0, 0) := fun h => first_short hne (by rw [hS, hlen]; exact h)
  have fcont : ∀ k (hk : k < s.size), 1 ≤ k → k < 1 → contB s[k] = false → firstV s.data.toList = (0, 0) := fun k hk h1 h2 h => first_cont hne k h1 (by rw [hS]; exact h2) (by rw [getD_at s k hk]; exact h)
  have fenc : ∀ r : Nat, r = addR R0 ((s.data.toList.take 1).drop 1) → (validU (r : Int) = false ∨ Lib.encodeRune (r : Int) ≠ s.data.toList.take 1) → firstV s.data.toList = (0, 0) := fun r hr h => first_enc hne r (by rw [hS, ← hR]; exact hr) (by rw [hS]; exact h)
  have fgood : ∀ r : Nat, 1 ≤ s.size → validU (r : Int) = true → Lib.encodeRune (r : Int) = s.data.toList.take 1 → firstV s.data.toList = ((r : Int), 1) := fun r hs hv he => firstV_good hne r 1 hv he (by rw [hlen]; exact hs)
  have Fshort := Lib.hid fshort; clear fshort
  have Fcont := Lib.hid fcont; clear fcont
  have Fenc := Lib.hid fenc; clear fenc
  have Fgood := Lib.hid fgood; clear fgood
  have HR4 := Lib.hid hR4; clear hR4
  clear hne hlen hg0 hS hR
  by_cases hsz : s.size < 1
  · omega
  · have HR := Lib.hid hR'; clear hR'
    go_enter Try.func42, Try.ntmps42
    go_wp2
    go_loopw [6, 7] (fun rv iv wr => ∃ (k : Nat) (z : Int), 1 ≤ k ∧ k ≤ 1 ∧ iv = .int .i64 k ∧ rv = .int .i32 z ∧ wr = w ∧ 0 ≤ z ∧ z < (capR k : Int) ∧ z = (addR R0 ((s.data.toList.take k).drop 1) : Int)) (fun _ iv _ => 1 - (intOf iv).toNat)
    case atStart => exact ⟨1, R0, Nat.le_refl _, by omega, rfl, by rw [HR.out], rfl, by omega, by have := HR4.out; omega, by rw [List.drop_take]; simp [addR]⟩
    case round =>
      obtain ⟨k, z, hk1, hk, rfl, rfl, rfl, hz0, hz1, hadd⟩ := hrel
      have hc4 := capR_le k (by omega)
      have Hadd := Lib.hid hadd; clear hadd
      have hz2 : z ≤ 67108864 := by omega
      have Hz1 := Lib.hid hz1; clear hz1
      clear hc4
      by_cases hlt : k < 1
      · omega
      · obtain rfl : k = 1 := by omega
        cases hv : validU z with
        | false =>
          have hR : ∀ wx, Calls Try.prog 49 #[.int .i32 z] wx (Is wx (.bool false)) := fun wx => by have := right_any z wx; rwa [hv] at this
          have fz := Fenc.out (addR R0 ((s.data.toList.take 1).drop 1)) rfl (.inl (by rw [← Hadd.out]; exact hv))
          have Fz := Lib.hid fz; clear fz
          clear hv
          go_wp2
          have hq : ∀ wx, Calls Try.prog 49 #[.int .i32 z] wx fun e w' => e = .returned (.bool false) ∧ ∃ n, w' = wx.drewN n := fun wx => (hR wx).mono (fun e w' h => ⟨h.1, 0, h.2⟩)
          go_quiet (refine Calls.quiet_of (hq _))
          all_goals
            go_wp2
            go_ret2
            exact ⟨by rw [Fz.out]; rfl, by first | exact Below.refl _ _ | exact bdrewN (Below.refl _ _) _ | exact (Below.refl _ _).drew | exact bdrewN (bdrewN (Below.refl _ _) _) _⟩
        | true =>
          have hR : ∀ wx, Calls Try.prog 49 #[.int .i32 z] wx (Is wx (.bool true)) := fun wx => by have := right_any z wx; rwa [hv] at this
          have hB : ∀ wx, Calls Try.prog 50 #[.int .i32 z] wx (NewB 5 wx (Lib.encodeRune z)) := fun wx => rbytes_any z wx hv
          go_wp2
          go_region_with (first | (refine (hR _).mono ?_; rintro e w1 ⟨rfl, rfl⟩) | (refine (hB _).mono ?_; rintro e w1 ⟨A1, c1, rfl, hown1, hb1⟩; have hcv := (Rd.of_own hown1).conv (P := Try.prog) (c := c1) 44 9 5 Try.underlying44 Try.underlying5 Try.underlying9))
          all_goals
            go_wp2
            · go_ret2
              have fz := Fenc.out (addR R0 ((s.data.toList.take 1).drop 1)) rfl (.inr (by rw [← Hadd.out]; exact (cut_eq s 1 _).1 (by assumption)))
              exact ⟨by rw [fz]; rfl, (Below.refl wr.heap.size wr).drew.trans hb1⟩
            · go_ret2
              have fz := Fgood.out (addR R0 ((s.data.toList.take 1).drop 1)) (by omega) (by rw [← Hadd.out]; exact hv) (by rw [← Hadd.out]; exact (cut_eq s 1 _).2 (by assumption))
              exact ⟨by rw [fz, ← Hadd.out]; rfl, (Below.refl wr.heap.size wr).drew.trans hb1⟩

set_option maxHeartbeats 6400000 in
theorem rfirst_2 (s : ByteArray) (w : World) (b0 : Int) (h0 : 0 < s.size) (hb : ((s[0]'h0).toNat : Int) = b0) (_hb1 : 0 ≤ b0) (hb2 : b0 ≤ 255) (h1 : b0 < 240) (h2 : b0 < 224) (h3 : 192 ≤ b0) :
    Calls Try.prog 42 #[.string s] w (Ans w (.tuple #[.int .i32 (firstV s.data.toList).1, .int .i64 (firstV s.data.toList).2])) := by
  have hne : s.data.toList ≠ [] := List.length_pos_iff.1 (by simpa using h0)
  have hlen : s.data.toList.length = s.size := by simp
  have hg0 := getD_at s 0 h0
  have hS : headS (s.data.toList.getD 0 0).toNat = 2 := by
    rw [hg0]; unfold headS
    repeat' split
    all_goals omega
  obtain ⟨R0, hR⟩ : ∃ R0, R0 = headR (s.data.toList.getD 0 0).toNat := ⟨_, rfl⟩
  have hR' : (R0 : Int) = b0 - 192 := by
    rw [hR, hg0]; unfold headR
    repeat' split
    all_goals omega
  have hR4 : R0 < capR 1 := by rw [hR]; exact headR_lt _
  have fshort : s.size < 2 → firstV s.data.toList = (0, 0) := fun h => first_short hne (by rw [hS, hlen]; exact h)
  have fcont : ∀ k (hk : k < s.size), 1 ≤ k → k < 2 → contB s[k] = false → firstV s.data.toList = (0, 0) := fun k hk h1 h2 h => first_cont hne k h1 (by rw [hS]; exact h2) (by rw [getD_at s k hk]; exact h)
  have fenc : ∀ r : Nat, r = addR R0 ((s.data.toList.take 2).drop 1) → (validU (r : Int) = false ∨ Lib.encodeRune (r : Int) ≠ s.data.toList.take 2) → firstV s.data.toList = (0, 0) := fun r hr h => first_enc hne r (by rw [hS, ← hR]; exact hr) (by rw [hS]; exact h)
  have fgood : ∀ r : Nat, 2 ≤ s.size → validU (r : Int) = true → Lib.encodeRune (r : Int) = s.data.toList.take 2 → firstV s.data.toList = ((r : Int), 2) := fun r hs hv he => firstV_good hne r 2 hv he (by rw [hlen]; exact hs)
  have Fshort := Lib.hid fshort; clear fshort
  have Fcont := Lib.hid fcont; clear fcont
  have Fenc := Lib.hid fenc; clear fenc
  have Fgood := Lib.hid fgood; clear fgood
  have HR4 := Lib.hid hR4; clear hR4
  clear hne hlen hg0 hS hR
  by_cases hsz : s.size < 2
  · have HR := Lib.hid hR'; clear hR'
    go_enter Try.func42, Try.ntmps42
    go_wp2
    go_ret2
    exact ⟨by rw [Fshort.out hsz]; rfl, Below.refl _ _⟩
  · have HR := Lib.hid hR'; clear hR'
    go_enter Try.func42, Try.ntmps42
    go_wp2
    go_loopw [6, 7] (fun rv iv wr => ∃ (k : Nat) (z : Int), 1 ≤ k ∧ k ≤ 2 ∧ iv = .int .i64 k ∧ rv = .int .i32 z ∧ wr = w ∧ 0 ≤ z ∧ z < (capR k : Int) ∧ z = (addR R0 ((s.data.toList.take k).drop 1) : Int)) (fun _ iv _ => 2 - (intOf iv).toNat)
    case atStart => exact ⟨1, R0, Nat.le_refl _, by omega, rfl, by rw [HR.out], rfl, by omega, by have := HR4.out; omega, by rw [List.drop_take]; simp [addR]⟩
    case round =>
      obtain ⟨k, z, hk1, hk, rfl, rfl, rfl, hz0, hz1, hadd⟩ := hrel
      have hc4 := capR_le k (by omega)
      have Hadd := Lib.hid hadd; clear hadd
      have hz2 : z ≤ 67108864 := by omega
      have Hz1 := Lib.hid hz1; clear hz1
      clear hc4
      by_cases hlt : k < 2
      · have hks : k < s.size := by omega
        have hc3 := capR_le3 k (by omega)
        have hz3 : z ≤ 1048576 := by have := Hz1.out; omega
        clear hz2 hc3
        obtain ⟨x, hx⟩ : ∃ x : Int, (s[k].toNat : Int) = x := ⟨_, rfl⟩
        have hx1 : 0 ≤ x := by omega
        have hx2 : x ≤ 255 := by have := s[k].toNat_lt; omega
        by_cases hc : 128 ≤ x ∧ x ≤ 191
        · have hcb : contB s[k] = true := decide_eq_true (by omega)
          have Hcb := Lib.hid hcb; clear hcb
          obtain ⟨hc1, hc2⟩ := hc
          have n1 : ¬ (x < 128) := by omega
          have n2 : decide (191 < x) = false := decide_eq_false (by omega)
          go_wp2
          go_roundw
          case rel =>
            have hst := add_step R0 hk1 hks (r := addR R0 ((s.data.toList.take k).drop 1)) rfl
            have hlast := Hadd.out
            have hcap := Hz1.out
            refine ⟨k + 1, z * 64 + x - 128, by omega, by omega, by go_num, by go_num, by first | trivial | rfl, by omega, by show _ < ((capR k * 64 : Nat) : Int); omega, ?_⟩
            rw [← hst]
            omega
          case measure => simp [intOf]; omega
        · have hcb : contB s[k] = false := decide_eq_false (by omega)
          have fz := Fcont.out k hks hk1 hlt hcb
          have Fz := Lib.hid fz; clear fz
          have e : x < 128 ∨ (¬ (x < 128) ∧ 191 < x) := by omega
          clear hc hcb
          rcases e with e | ⟨e, e'⟩
          all_goals
            go_wp2
            go_ret2
            exact ⟨by rw [Fz.out]; rfl, Below.refl _ _⟩
      · obtain rfl : k = 2 := by omega
        cases hv : validU z with
        | false =>
          have hR : ∀ wx, Calls Try.prog 49 #[.int .i32 z] wx (Is wx (.bool false)) := fun wx => by have := right_any z wx; rwa [hv] at this
          have fz := Fenc.out (addR R0 ((s.data.toList.take 2).drop 1)) rfl (.inl (by rw [← Hadd.out]; exact hv))
          have Fz := Lib.hid fz; clear fz
          clear hv
          go_wp2
          have hq : ∀ wx, Calls Try.prog 49 #[.int .i32 z] wx fun e w' => e = .returned (.bool false) ∧ ∃ n, w' = wx.drewN n := fun wx => (hR wx).mono (fun e w' h => ⟨h.1, 0, h.2⟩)
          go_quiet (refine Calls.quiet_of (hq _))
          all_goals
            go_wp2
            go_ret2
            exact ⟨by rw [Fz.out]; rfl, by first | exact Below.refl _ _ | exact bdrewN (Below.refl _ _) _ | exact (Below.refl _ _).drew | exact bdrewN (bdrewN (Below.refl _ _) _) _⟩
        | true =>
          have hR : ∀ wx, Calls Try.prog 49 #[.int .i32 z] wx (Is wx (.bool true)) := fun wx => by have := right_any z wx; rwa [hv] at this
          have hB : ∀ wx, Calls Try.prog 50 #[.int .i32 z] wx (NewB 5 wx (Lib.encodeRune z)) := fun wx => rbytes_any z wx hv
          go_wp2
          go_region_with (first | (refine (hR _).mono ?_; rintro e w1 ⟨rfl, rfl⟩) | (refine (hB _).mono ?_; rintro e w1 ⟨A1, c1, rfl, hown1, hb1⟩; have hcv := (Rd.of_own hown1).conv (P := Try.prog) (c := c1) 44 9 5 Try.underlying44 Try.underlying5 Try.underlying9))
          all_goals
            go_wp2
            · go_ret2
              have fz := Fenc.out (addR R0 ((s.data.toList.take 2).drop 1)) rfl (.inr (by rw [← Hadd.out]; exact (cut_eq s 2 _).1 (by assumption)))
              exact ⟨by rw [fz]; rfl, (Below.refl wr.heap.size wr).drew.trans hb1⟩
            · go_ret2
              have fz := Fgood.out (addR R0 ((s.data.toList.take 2).drop 1)) (by omega) (by rw [← Hadd.out]; exact hv) (by rw [← Hadd.out]; exact (cut_eq s 2 _).2 (by assumption))
              exact ⟨by rw [fz, ← Hadd.out]; rfl, (Below.refl wr.heap.size wr).drew.trans hb1⟩

set_option maxHeartbeats 6400000 in
theorem rfirst_3 (s : ByteArray) (w : World) (b0 : Int) (h0 : 0 < s.size) (hb : ((s[0]'h0).toNat : Int) = b0) (_hb1 : 0 ≤ b0) (hb2 : b0 ≤ 255) (h1 : b0 < 240) (h2 : 224 ≤ b0) :
    Calls Try.prog 42 #[.string s] w (Ans w (.tuple #[.int .i32 (firstV s.data.toList).1, .int .i64 (firstV s.data.toList).2])) := by
  have hne : s.data.toList ≠ [] := List.length_pos_iff.1 (by simpa using h0)
  have hlen : s.data.toList.length = s.size := by simp
  have hg0 := getD_at s 0 h0
  have hS : headS (s.data.toList.getD 0 0).toNat = 3 := by
    rw [hg0]; unfold headS
    repeat' split
    all_goals omega
  obtain ⟨R0, hR⟩ : ∃ R0, R0 = headR (s.data.toList.getD 0 0).toNat := ⟨_, rfl⟩
  have hR' : (R0 : Int) = b0 - 224 := by
    rw [hR, hg0]; unfold headR
    repeat' split
    all_goals omega
  have hR4 : R0 < capR 1 := by rw [hR]; exact headR_lt _
  have fshort : s.size < 3 → firstV s.data.toList = (0, 0) := fun h => first_short hne (by rw [hS, hlen]; exact h)
  have fcont : ∀ k (hk : k < s.size), 1 ≤ k → k < 3 → contB s[k] = false → firstV s.data.toList = (0, 0) := fun k hk h1 h2 h => first_cont hne k h1 (by rw [hS]; exact h2) (by rw [getD_at s k hk]; exact h)
  have fenc : ∀ r : Nat, r = addR R0 ((s.data.toList.take 3).drop 1) → (validU (r : Int) = false ∨ Lib.encodeRune (r : Int) ≠ s.data.toList.take 3) → firstV s.data.toList = (0, 0) := fun r hr h => first_enc hne r (by rw [hS, ← hR]; exact hr) (by rw [hS]; exact h)
  have fgood : ∀ r : Nat, 3 ≤ s.size → validU (r : Int) = true → Lib.encodeRune (r : Int) = s.data.toList.take 3 → firstV s.data.toList = ((r : Int), 3) := fun r hs hv he => firstV_good hne r 3 hv he (by rw [hlen]; exact hs)
  have Fshort := Lib.hid fshort; clear fshort
  have Fcont := Lib.hid fcont; clear fcont
  have Fenc := Lib.hid fenc; clear fenc
  have Fgood := Lib.hid fgood; clear fgood
  have HR4 := Lib.hid hR4; clear hR4
  clear hne hlen hg0 hS hR
  by_cases hsz : s.size < 3
  · have HR := Lib.hid hR'; clear hR'
    go_enter Try.func42, Try.ntmps42
    go_wp2
    go_ret2
    exact ⟨by rw [Fshort.out hsz]; rfl, Below.refl _ _⟩
  · have HR := Lib.hid hR'; clear hR'
    go_enter Try.func42, Try.ntmps42
    go_wp2
    go_loopw [6, 7] (fun rv iv wr => ∃ (k : Nat) (z : Int), 1 ≤ k ∧ k ≤ 3 ∧ iv = .int .i64 k ∧ rv = .int .i32 z ∧ wr = w ∧ 0 ≤ z ∧ z < (capR k : Int) ∧ z = (addR R0 ((s.data.toList.take k).drop 1) : Int)) (fun _ iv _ => 3 - (intOf iv).toNat)
    case atStart => exact ⟨1, R0, Nat.le_refl _, by omega, rfl, by rw [HR.out], rfl, by omega, by have := HR4.out; omega, by rw [List.drop_take]; simp [addR]⟩
    case round =>
      obtain ⟨k, z, hk1, hk, rfl, rfl, rfl, hz0, hz1, hadd⟩ := hrel
      have hc4 := capR_le k (by omega)
      have Hadd := Lib.hid hadd; clear hadd
      have hz2 : z ≤ 67108864 := by omega
      have Hz1 := Lib.hid hz1; clear hz1
      clear hc4
      by_cases hlt : k < 3
      · have hks : k < s.size := by omega
        have hc3 := capR_le3 k (by omega)
        have hz3 : z ≤ 1048576 := by have := Hz1.out; omega
        clear hz2 hc3
        obtain ⟨x, hx⟩ : ∃ x : Int, (s[k].toNat : Int) = x := ⟨_, rfl⟩
        have hx1 : 0 ≤ x := by omega
        have hx2 : x ≤ 255 := by have := s[k].toNat_lt; omega
        by_cases hc : 128 ≤ x ∧ x ≤ 191
        · have hcb : contB s[k] = true := decide_eq_true (by omega)
          have Hcb := Lib.hid hcb; clear hcb
          obtain ⟨hc1, hc2⟩ := hc
          have n1 : ¬ (x < 128) := by omega
          have n2 : decide (191 < x) = false := decide_eq_false (by omega)
          go_wp2
          go_roundw
          case rel =>
            have hst := add_step R0 hk1 hks (r := addR R0 ((s.data.toList.take k).drop 1)) rfl
            have hlast := Hadd.out
            have hcap := Hz1.out
            refine ⟨k + 1, z * 64 + x - 128, by omega, by omega, by go_num, by go_num, by first | trivial | rfl, by omega, by show _ < ((capR k * 64 : Nat) : Int); omega, ?_⟩
            rw [← hst]
            omega
          case measure => simp [intOf]; omega
        · have hcb : contB s[k] = false := decide_eq_false (by omega)
          have fz := Fcont.out k hks hk1 hlt hcb
          have Fz := Lib.hid fz; clear fz
          have e : x < 128 ∨ (¬ (x < 128) ∧ 191 < x) := by omega
          clear hc hcb
          rcases e with e | ⟨e, e'⟩
          all_goals
            go_wp2
            go_ret2
            exact ⟨by rw [Fz.out]; rfl, Below.refl _ _⟩
      · obtain rfl : k = 3 := by omega
        cases hv : validU z with
        | false =>
          have hR : ∀ wx, Calls Try.prog 49 #[.int .i32 z] wx (Is wx (.bool false)) := fun wx => by have := right_any z wx; rwa [hv] at this
          have fz := Fenc.out (addR R0 ((s.data.toList.take 3).drop 1)) rfl (.inl (by rw [← Hadd.out]; exact hv))
          have Fz := Lib.hid fz; clear fz
          clear hv
          go_wp2
          have hq : ∀ wx, Calls Try.prog 49 #[.int .i32 z] wx fun e w' => e = .returned (.bool false) ∧ ∃ n, w' = wx.drewN n := fun wx => (hR wx).mono (fun e w' h => ⟨h.1, 0, h.2⟩)
          go_quiet (refine Calls.quiet_of (hq _))
          all_goals
            go_wp2
            go_ret2
            exact ⟨by rw [Fz.out]; rfl, by first | exact Below.refl _ _ | exact bdrewN (Below.refl _ _) _ | exact (Below.refl _ _).drew | exact bdrewN (bdrewN (Below.refl _ _) _) _⟩
        | true =>
          have hR : ∀ wx, Calls Try.prog 49 #[.int .i32 z] wx (Is wx (.bool true)) := fun wx => by have := right_any z wx; rwa [hv] at this
          have hB : ∀ wx, Calls Try.prog 50 #[.int .i32 z] wx (NewB 5 wx (Lib.encodeRune z)) := fun wx => rbytes_any z wx hv
          go_wp2
          go_region_with (first | (refine (hR _).mono ?_; rintro e w1 ⟨rfl, rfl⟩) | (refine (hB _).mono ?_; rintro e w1 ⟨A1, c1, rfl, hown1, hb1⟩; have hcv := (Rd.of_own hown1).conv (P := Try.prog) (c := c1) 44 9 5 Try.underlying44 Try.underlying5 Try.underlying9))
          all_goals
            go_wp2
            · go_ret2
              have fz := Fenc.out (addR R0 ((s.data.toList.take 3).drop 1)) rfl (.inr (by rw [← Hadd.out]; exact (cut_eq s 3 _).1 (by assumption)))
              exact ⟨by rw [fz]; rfl, (Below.refl wr.heap.size wr).drew.trans hb1⟩
            · go_ret2
              have fz := Fgood.out (addR R0 ((s.data.toList.take 3).drop 1)) (by omega) (by rw [← Hadd.out]; exact hv) (by rw [← Hadd.out]; exact (cut_eq s 3 _).2 (by assumption))
              exact ⟨by rw [fz, ← Hadd.out]; rfl, (Below.refl wr.heap.size wr).drew.trans hb1⟩

set_option maxHeartbeats 6400000 in
theorem rfirst_4 (s : ByteArray) (w : World) (b0 : Int) (h0 : 0 < s.size) (hb : ((s[0]'h0).toNat : Int) = b0) (_hb1 : 0 ≤ b0) (hb2 : b0 ≤ 255) (h1 : 240 ≤ b0) :
    Calls Try.prog 42 #[.string s] w (Ans w (.tuple #[.int .i32 (firstV s.data.toList).1, .int .i64 (firstV s.data.toList).2])) := by
  have hne : s.data.toList ≠ [] := List.length_pos_iff.1 (by simpa using h0)
  have hlen : s.data.toList.length = s.size := by simp
  have hg0 := getD_at s 0 h0
  have hS : headS (s.data.toList.getD 0 0).toNat = 4 := by
    rw [hg0]; unfold headS
    repeat' split
    all_goals omega
  obtain ⟨R0, hR⟩ : ∃ R0, R0 = headR (s.data.toList.getD 0 0).toNat := ⟨_, rfl⟩
  have hR' : (R0 : Int) = b0 - 240 := by
    rw [hR, hg0]; unfold headR
    repeat' split
    all_goals omega
  have hR4 : R0 < capR 1 := by rw [hR]; exact headR_lt _
  have fshort : s.size < 4 → firstV s.data.toList = (0, 0) := fun h => first_short hne (by rw [hS, hlen]; exact h)
  have fcont : ∀ k (hk : k < s.size), 1 ≤ k → k < 4 → contB s[k] = false → firstV s.data.toList = (0, 0) := fun k hk h1 h2 h => first_cont hne k h1 (by rw [hS]; exact h2) (by rw [getD_at s k hk]; exact h)
  have fenc : ∀ r : Nat, r = addR R0 ((s.data.toList.take 4).drop 1) → (validU (r : Int) = false ∨ Lib.encodeRune (r : Int) ≠ s.data.toList.take 4) → firstV s.data.toList = (0, 0) := fun r hr h => first_enc hne r (by rw [hS, ← hR]; exact hr) (by rw [hS]; exact h)
  have fgood : ∀ r : Nat, 4 ≤ s.size → validU (r : Int) = true → Lib.encodeRune (r : Int) = s.data.toList.take 4 → firstV s.data.toList = ((r : Int), 4) := fun r hs hv he => firstV_good hne r 4 hv he (by rw [hlen]; exact hs)
  have Fshort := Lib.hid fshort; clear fshort
  have Fcont := Lib.hid fcont; clear fcont
  have Fenc := Lib.hid fenc; clear fenc
  have Fgood := Lib.hid fgood; clear fgood
  have HR4 := Lib.hid hR4; clear hR4
  clear hne hlen hg0 hS hR
  by_cases hsz : s.size < 4
  · have HR := Lib.hid hR'; clear hR'
    go_enter Try.func42, Try.ntmps42
    go_wp2
    go_ret2
    exact ⟨by rw [Fshort.out hsz]; rfl, Below.refl _ _⟩
  · have HR := Lib.hid hR'; clear hR'
    go_enter Try.func42, Try.ntmps42
    go_wp2
    go_loopw [6, 7] (fun rv iv wr => ∃ (k : Nat) (z : Int), 1 ≤ k ∧ k ≤ 4 ∧ iv = .int .i64 k ∧ rv = .int .i32 z ∧ wr = w ∧ 0 ≤ z ∧ z < (capR k : Int) ∧ z = (addR R0 ((s.data.toList.take k).drop 1) : Int)) (fun _ iv _ => 4 - (intOf iv).toNat)
    case atStart => exact ⟨1, R0, Nat.le_refl _, by omega, rfl, by rw [HR.out], rfl, by omega, by have := HR4.out; omega, by rw [List.drop_take]; simp [addR]⟩
    case round =>
      obtain ⟨k, z, hk1, hk, rfl, rfl, rfl, hz0, hz1, hadd⟩ := hrel
      have hc4 := capR_le k (by omega)
      have Hadd := Lib.hid hadd; clear hadd
      have hz2 : z ≤ 67108864 := by omega
      have Hz1 := Lib.hid hz1; clear hz1
      clear hc4
      by_cases hlt : k < 4
      · have hks : k < s.size := by omega
        have hc3 := capR_le3 k (by omega)
        have hz3 : z ≤ 1048576 := by have := Hz1.out; omega
        clear hz2 hc3
        obtain ⟨x, hx⟩ : ∃ x : Int, (s[k].toNat : Int) = x := ⟨_, rfl⟩
        have hx1 : 0 ≤ x := by omega
        have hx2 : x ≤ 255 := by have := s[k].toNat_lt; omega
        by_cases hc : 128 ≤ x ∧ x ≤ 191
        · have hcb : contB s[k] = true := decide_eq_true (by omega)
          have Hcb := Lib.hid hcb; clear hcb
          obtain ⟨hc1, hc2⟩ := hc
          have n1 : ¬ (x < 128) := by omega
          have n2 : decide (191 < x) = false := decide_eq_false (by omega)
          go_wp2
          go_roundw
          case rel =>
            have hst := add_step R0 hk1 hks (r := addR R0 ((s.data.toList.take k).drop 1)) rfl
            have hlast := Hadd.out
            have hcap := Hz1.out
            refine ⟨k + 1, z * 64 + x - 128, by omega, by omega, by go_num, by go_num, by first | trivial | rfl, by omega, by show _ < ((capR k * 64 : Nat) : Int); omega, ?_⟩
            rw [← hst]
            omega
          case measure => simp [intOf]; omega
        · have hcb : contB s[k] = false := decide_eq_false (by omega)
          have fz := Fcont.out k hks hk1 hlt hcb
          have Fz := Lib.hid fz; clear fz
          have e : x < 128 ∨ (¬ (x < 128) ∧ 191 < x) := by omega
          clear hc hcb
          rcases e with e | ⟨e, e'⟩
          all_goals
            go_wp2
            go_ret2
            exact ⟨by rw [Fz.out]; rfl, Below.refl _ _⟩
      · obtain rfl : k = 4 := by omega
        cases hv : validU z with
        | false =>
          have hR : ∀ wx, Calls Try.prog 49 #[.int .i32 z] wx (Is wx (.bool false)) := fun wx => by have := right_any z wx; rwa [hv] at this
          have fz := Fenc.out (addR R0 ((s.data.toList.take 4).drop 1)) rfl (.inl (by rw [← Hadd.out]; exact hv))
          have Fz := Lib.hid fz; clear fz
          clear hv
          go_wp2
          have hq : ∀ wx, Calls Try.prog 49 #[.int .i32 z] wx fun e w' => e = .returned (.bool false) ∧ ∃ n, w' = wx.drewN n := fun wx => (hR wx).mono (fun e w' h => ⟨h.1, 0, h.2⟩)
          go_quiet (refine Calls.quiet_of (hq _))
          all_goals
            go_wp2
            go_ret2
            exact ⟨by rw [Fz.out]; rfl, by first | exact Below.refl _ _ | exact bdrewN (Below.refl _ _) _ | exact (Below.refl _ _).drew | exact bdrewN (bdrewN (Below.refl _ _) _) _⟩
        | true =>
          have hR : ∀ wx, Calls Try.prog 49 #[.int .i32 z] wx (Is wx (.bool true)) := fun wx => by have := right_any z wx; rwa [hv] at this
          have hB : ∀ wx, Calls Try.prog 50 #[.int .i32 z] wx (NewB 5 wx (Lib.encodeRune z)) := fun wx => rbytes_any z wx hv
          go_wp2
          go_region_with (first | (refine (hR _).mono ?_; rintro e w1 ⟨rfl, rfl⟩) | (refine (hB _).mono ?_; rintro e w1 ⟨A1, c1, rfl, hown1, hb1⟩; have hcv := (Rd.of_own hown1).conv (P := Try.prog) (c := c1) 44 9 5 Try.underlying44 Try.underlying5 Try.underlying9))
          all_goals
            go_wp2
            · go_ret2
              have fz := Fenc.out (addR R0 ((s.data.toList.take 4).drop 1)) rfl (.inr (by rw [← Hadd.out]; exact (cut_eq s 4 _).1 (by assumption)))
              exact ⟨by rw [fz]; rfl, (Below.refl wr.heap.size wr).drew.trans hb1⟩
            · go_ret2
              have fz := Fgood.out (addR R0 ((s.data.toList.take 4).drop 1)) (by omega) (by rw [← Hadd.out]; exact hv) (by rw [← Hadd.out]; exact (cut_eq s 4 _).2 (by assumption))
              exact ⟨by rw [fz, ← Hadd.out]; rfl, (Below.refl wr.heap.size wr).drew.trans hb1⟩

theorem rfirst_nil (s : ByteArray) (w : World) (h0 : s.size = 0) :
    Calls Try.prog 42 #[.string s] w (Ans w (.tuple #[.int .i32 (firstV s.data.toList).1, .int .i64 (firstV s.data.toList).2])) := by
  have h : firstV s.data.toList = (0, 0) := by
    have : s.data.toList = [] := List.eq_nil_of_length_eq_zero (by simpa using h0)
    rw [this]; rfl
  rw [h]
  clear h
  go_enter Try.func42, Try.ntmps42
  go_wp2
  go_ret2
  exact ⟨rfl, Below.refl _ _⟩
theorem rfirst_any (s : ByteArray) (w : World) :
    Calls Try.prog 42 #[.string s] w (Ans w (.tuple #[.int .i32 (firstV s.data.toList).1, .int .i64 (firstV s.data.toList).2])) := by
  by_cases h0 : 0 < s.size
  · have hb := (s[0]'h0).toNat_lt
    by_cases h1 : 240 ≤ ((s[0]'h0).toNat : Int)
    · exact rfirst_4 s w _ h0 rfl (by omega) (by omega) h1
    · by_cases h2 : 224 ≤ ((s[0]'h0).toNat : Int)
      · exact rfirst_3 s w _ h0 rfl (by omega) (by omega) (by omega) h2
      · by_cases h3 : 192 ≤ ((s[0]'h0).toNat : Int)
        · exact rfirst_2 s w _ h0 rfl (by omega) (by omega) (by omega) (by omega) h3
        · exact rfirst_1 s w _ h0 rfl (by omega) (by omega) (by omega) (by omega) (by omega)
  · exact rfirst_nil s w (by omega)

end Go.Proofs.Ytipkimmlbdnbnaa
