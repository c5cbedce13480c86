import Derived.Test.YtfahiamogjcikaaLaw04
namespace Go.Proofs.Ytfahiamogjcikaa
open Go.RowKit

theorem num_le {xs : List UInt8} {m n : Nat} (hm : 0 < m) (hx : xs.length = n) : numU m xs ≤ n := by
  rcases Nat.eq_zero_or_pos (numU m xs) with h | h
  · omega
  · have := (num_lt (l := xs) (k := numU m xs - 1) hm).2 (by omega)
    have h2 : (numU m xs - 1) * 1 ≤ (numU m xs - 1) * m := Nat.mul_le_mul_left _ hm
    omega
/-- How long the rows are. -/
theorem row_len {xs : List UInt8} {m n k : Nat} (hm : 0 < m) (hx : xs.length = n) (hk : k < numU m xs) : ∃ q, (hexU (cutU m xs k)).length = q ∧ q ≤ 2 * m ∧ 0 < q ∧ (k + 1 < numU m xs → q = 2 * m) := by
  refine ⟨_, rfl, ?_⟩
  rw [hexU_length, cut_len, hx]
  have h1 := (num_lt (l := xs) (k := k) hm).2 hk
  rw [hx] at h1
  refine ⟨by omega, by omega, fun h => ?_⟩
  have h2 := (num_lt (l := xs) (k := k + 1) hm).2 h
  rw [hx, Nat.succ_mul] at h2
  omega

set_option maxHeartbeats 6400000 in
theorem hexSizes_walk (n c : Nat) (A : Option Addr) (xs : List UInt8) (z : Int) (w : World) (hx : Rd w w.heap.size A n (Byt xs)) (hn0 : n ≤ maxLen) (hnc : n ≤ c) :
    Calls Try.prog 5 #[.slice A n c, .int .i64 z] w (Ans w (.bool true)) := by
  unfold maxLen at hn0
  have hxl := hx.bytes
  by_cases hbig : 300 < n
  · have t1 : (300 : Int) < (n : Int) := by omega
    have Hxl := Lib.hid hxl; clear hxl
    go_enter Try.func5, Try.ntmps5
    go_wp2_with fail
    refine (alive4_any _).mono ?_
    rintro e w1 ⟨rfl, hb1⟩
    go_wp2
    go_ret
    exact ⟨rfl, hb1⟩
  · have t1 : ¬ ((300 : Int) < (n : Int)) := by omega
    have h1 := fun w (hx : Rd w w.heap.size A n (Byt xs)) => hrows_any _ n c A xs z w hx (Nat.le_refl _) (by omega) hnc
    have h2 := fun w (hx : Rd w w.heap.size A n (Byt xs)) => hprint_any _ n c A xs w hx (Nat.le_refl _) (by omega)
    have h3 := fun w (hx : Rd w w.heap.size A n (Byt xs)) => hshort_any _ n c A xs w hx (Nat.le_refl _) (by omega) hnc
    have s1 : ((tx (hexU xs)).size : Int) = 2 * (n : Int) := by rw [tx_size, hexU_length, hxl]; omega
    have s2 : ¬ ((8 : Int) < ((tx (hshortV xs)).size : Int)) := by rw [tx_size]; have := hshort_len xs; omega
    generalize tx (hexU xs) = T at h2 s1
    generalize tx (hshortV xs) = U at h3 s2
    have Hxl := Lib.hid hxl; clear hxl
    by_cases hz : z < 1
    · rw [hrowsV_out (.inl hz)] at h1
      go_enter Try.func5, Try.ntmps5
      go_wp2_with fail
      refine (h1 _ hx).mono ?_
      rintro e w1 ⟨A1, c1, rfl, hown1, hb1⟩
      go_wp2_with fail
      refine (h2 _ ((hx.below hb1).wider hb1.size)).mono ?_
      rintro e w2 ⟨rfl, hb2⟩
      have g2 := bon hb1 hb2
      go_wp2_with fail
      refine (h3 _ ((hx.below g2).wider g2.size)).mono ?_
      rintro e w3 ⟨rfl, hb3⟩
      have g3 := bon g2 hb3
      go_wp2_with fail
      refine (alive4_any _).mono ?_
      rintro e w4 ⟨rfl, hb4⟩
      go_wp2
      go_ret
      exact ⟨rfl, bon g3 hb4⟩
    · by_cases hz2 : 64 < z
      · rw [hrowsV_out (.inr hz2)] at h1
        go_enter Try.func5, Try.ntmps5
        go_wp2_with fail
        refine (h1 _ hx).mono ?_
        rintro e w1 ⟨A1, c1, rfl, hown1, hb1⟩
        go_wp2_with fail
        refine (h2 _ ((hx.below hb1).wider hb1.size)).mono ?_
        rintro e w2 ⟨rfl, hb2⟩
        have g2 := bon hb1 hb2
        go_wp2_with fail
        refine (h3 _ ((hx.below g2).wider g2.size)).mono ?_
        rintro e w3 ⟨rfl, hb3⟩
        have g3 := bon g2 hb3
        go_wp2_with fail
        refine (alive4_any _).mono ?_
        rintro e w4 ⟨rfl, hb4⟩
        go_wp2
        go_ret
        exact ⟨rfl, bon g3 hb4⟩
      · obtain ⟨m, rfl⟩ : ∃ m : Nat, z = (m : Int) := ⟨z.toNat, by omega⟩
        rw [hrowsV_in (by omega) (by omega)] at h1
        have t3 : decide ((64 : Int) < (m : Int)) = false := decide_eq_false (by omega)
        have hm0 : 0 < m := by omega
        have hm64 : m ≤ 64 := by omega
        have hle := num_le hm0 Hxl.out
        have hrow := fun k hk => row_len (k := k) hm0 Hxl.out hk
        have hlen : ((cutsU m xs (numU m xs)).map hexU).length = numU m xs := by rw [List.length_map, cuts_len]
        have hget : ∀ k (hk : k < ((cutsU m xs (numU m xs)).map hexU).length), ((cutsU m xs (numU m xs)).map hexU)[k] = hexU (cutU m xs k) := fun k hk => by simp [cutsU]
        have hnum : (numU m xs : Int) = ((n : Int) + (m : Int) - 1) / (m : Int) := by
          unfold numU; rw [Hxl.out, Int.natCast_ediv]; congr 1; omega
        generalize (cutsU m xs (numU m xs)).map hexU = R at h1 hlen hget
        rw [← hlen] at hrow hle hnum
        have Hrow := Lib.hid hrow; clear hrow
        have Hget := Lib.hid hget; clear hget
        have Hnum := Lib.hid hnum; clear hnum
        have Hlen := Lib.hid hlen; clear hlen
        go_enter Try.func5, Try.ntmps5
        go_wp2_with fail
        refine (h1 _ hx).mono ?_
        rintro e w1 ⟨A1, c1, rfl, hown1, hb1⟩
        go_wp2_with fail
        refine (h2 _ ((hx.below hb1).wider hb1.size)).mono ?_
        rintro e w2 ⟨rfl, hb2⟩
        have g2 := bon hb1 hb2
        go_wp2_with fail
        refine (h3 _ ((hx.below g2).wider g2.size)).mono ?_
        rintro e w3 ⟨rfl, hb3⟩
        have g3 := bon g2 hb3
        have r1 := (((Rd.of_own hown1).below hb2).wider hb2.size).below hb3
        go_wp2
        go_loopw [6] (fun i wr => ∃ k : Nat, k ≤ R.length ∧ i = .int .i64 k ∧ wr = w3) (fun i _ => R.length - (intOf i).toNat)
        case atStart => exact ⟨0, Nat.zero_le _, rfl, rfl⟩
        case round =>
          obtain ⟨k, hk, rfl, rfl⟩ := hrel
          by_cases hlt : k < R.length
          · obtain ⟨b, o, rfl, hbb, hcell⟩ := r1.str hlt hlt
            obtain ⟨q, hq, hq1, hq2, hq3⟩ := Hrow.out k hlt
            have hsz : ((tx R[k]).size : Int) = (q : Int) := by rw [tx_size, Hget.out k hlt, hq]
            obtain ⟨V, hV⟩ : ∃ V, tx R[k] = V := ⟨_, rfl⟩
            rw [hV] at hcell hsz
            have t4 : decide (2 * (m : Int) < (q : Int)) = false := decide_eq_false (by omega)
            have t7 : ((q : Int) == 0) = false := by simp; omega
            by_cases hnx : k + 1 < R.length
            · have t6 : ((q : Int) != 2 * (m : Int)) = false := by have := hq3 hnx; simp; omega
              have t5 : (k : Int) + 1 < (R.length : Int) := by omega
              clear hq hq1 hq2 hq3 hV
              go_wp2
              go_roundw
              case rel => exact ⟨k + 1, by omega, by go_num, by first | trivial | rfl⟩
              case measure => simp [intOf]; omega
            · have t5 : ¬ (k : Int) + 1 < (R.length : Int) := by omega
              clear hq hq1 hq2 hq3 hV
              go_wp2
              go_roundw
              case rel => exact ⟨k + 1, by omega, by go_num, by first | trivial | rfl⟩
              case measure => simp [intOf]; omega
          · obtain rfl : k = R.length := by omega
            go_wp2_with fail
            refine (alive4_any _).mono ?_
            rintro e w7 ⟨rfl, hb7⟩
            go_wp2
            go_ret
            exact ⟨rfl, bon g3 hb7⟩

end Go.Proofs.Ytfahiamogjcikaa
