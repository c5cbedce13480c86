import Derived.Test.YthcogjdbdadbaaaCrcOf
import Derived.Test.YthcogjdbdadbaaaRefCrc
import Derived.Test.YthcogjdbdadbaaaRefSame
import Derived.Test.YthcogjdbdadbaaaInts
namespace Go.Proofs.Ythcogjdbdadbaaa
open Go.RowKit

theorem crc_example : crcU [49, 50, 51, 52, 53, 54, 55, 56, 57] = 3421780262 := by decide +kernel

set_option maxHeartbeats 800000 in
theorem alive6_any (w : World) : Calls Try.prog 6 #[] w (Ans w (.bool true)) := by
  have hp := fun W h => cof_any (w.heap.size + 1) 9 9 (some ⟨w.heap.size, 0, none⟩) [49, 50, 51, 52, 53, 54, 55, 56, 57] W h
  rw [crc_example] at hp
  have hnew := Rd.new w 5 #[.int .u8 49, .int .u8 50, .int .u8 51, .int .u8 52, .int .u8 53, .int .u8 54, .int .u8 55, .int .u8 56, .int .u8 57] (n := 9) rfl
  have hq := hp _ hnew (by simp) (by decide)
  clear hp hnew
  have Hb : Hid (Below w.heap.size w (w.alloc (.cells #[.int .u8 49, .int .u8 50, .int .u8 51, .int .u8 52, .int .u8 53, .int .u8 54, .int .u8 55, .int .u8 56, .int .u8 57] 5))) := Lib.hid ((Below.refl _ _).alloc (Nat.le_refl _) _)
  go_enter Try.func6, Try.ntmps6
  go_wp2_with fail
  refine hq.mono ?_
  rintro e w1 ⟨rfl, hb⟩
  go_wp2
  go_ret
  exact ⟨rfl, bon Hb.out hb⟩

set_option maxHeartbeats 1600000 in
theorem crcSums_walk (n cap c : Nat) (A : Option Addr) (xs : List UInt8) (w : World) (hx : Rd w w.heap.size A n (Byt xs)) (hc : c < 4294967296) :
    Calls Try.prog 3 #[.slice A n cap, .int .u32 c] w (Ans w (.bool true)) := by
  by_cases h : n ≤ 600
  · have n1 : ¬ (600 < (n : Int)) := by omega
    have h1 := fun W hx hB => cof_any w.heap.size n cap A xs W hx hB (by omega)
    have h2 := fun W hx => rcof_any w.heap.size n cap A xs W hx (by omega)
    have h3 := fun W hx hB => cmore_any w.heap.size n cap c A xs W hx hB (by omega) hc
    have h4 := fun W hx => rcmore_any w.heap.size n cap c A xs W hx (by omega) hc
    have h5 := fun W hx hB => cbytes_any w.heap.size n cap A xs W hx hB (by omega)
    have h6 := fun W hx => rcbytes_any w.heap.size n cap A xs W hx (by omega)
    have hl : (putL (crcU xs) 8).length = 8 := putL_length _ _
    generalize putL (crcU xs) 8 = L at h5 h6 hl
    have Hl := Lib.hid hl; clear hl
    have hlm : Hid (L.length ≤ maxLen) := Lib.hid (by rw [Hl.out]; decide)
    clear Hl
    generalize crcU xs = m1 at h1 h2
    generalize crcMoreU c xs = m2 at h3 h4
    go_enter Try.func3, Try.ntmps3
    go_wp2_with fail
    refine (h1 _ hx (Nat.le_refl _)).mono ?_
    rintro e w1 ⟨rfl, hb1⟩
    have hx1 := hx.below hb1
    go_wp2_with fail
    refine (h2 _ hx1).mono ?_
    rintro e w2 ⟨rfl, hb2⟩
    have Hb2 := Lib.hid (bon hb1 hb2); clear hb1 hb2
    have hx2 := hx.below Hb2.out
    go_wp2_with fail
    refine (cstep_any c _ hc).mono ?_
    rintro e w3 ⟨rfl, rfl⟩
    go_wp2_with fail
    refine (rcstep_any c _ hc).mono ?_
    rintro e w4 ⟨rfl, rfl⟩
    generalize stepU c = q
    go_wp2_with fail
    refine (h3 _ hx2 Hb2.out.size).mono ?_
    rintro e w5 ⟨rfl, hb5⟩
    have Hb5 := Lib.hid (bon Hb2.out hb5); clear hb5
    have hx5 := hx.below Hb5.out
    go_wp2_with fail
    refine (h4 _ hx5).mono ?_
    rintro e w6 ⟨rfl, hb6⟩
    have Hb6 := Lib.hid (bon Hb5.out hb6); clear hb6
    have hx6 := hx.below Hb6.out
    go_wp2_with fail
    refine (h5 _ hx6 Hb6.out.size).mono ?_
    rintro e w7 ⟨A7, c7, rfl, hown7, hb7⟩
    have Hb7 := Lib.hid (bon Hb6.out hb7); clear hb7
    have hx7 := hx.below Hb7.out
    go_wp2_with fail
    refine (h6 _ hx7).mono ?_
    rintro e w8 ⟨A8, c8, rfl, hown8, hb8⟩
    have Hb8 := Lib.hid (bon Hb7.out hb8)
    have r7 := ((Rd.of_own hown7).below hb8).wider hb8.size
    have r8 := Rd.of_own hown8
    clear hb8
    have hs := rsame_any w8.heap.size L.length L.length c7 c8 A7 A8 L L w8 r7 r8 hlm.out hlm.out
    rw [sameL_self] at hs
    clear r7 r8
    go_wp2_with fail
    refine hs.mono ?_
    rintro e w9 ⟨rfl, hb9⟩
    have Hb9 := Lib.hid (bon Hb8.out hb9); clear hb9
    go_wp2_with fail
    refine (alive6_any _).mono ?_
    rintro e w10 ⟨rfl, hb10⟩
    go_wp2
    go_ret
    exact ⟨rfl, bon Hb9.out hb10⟩
  · have n1 : 600 < (n : Int) := by omega
    go_enter Try.func3, Try.ntmps3
    go_wp2_with fail
    refine (alive6_any _).mono ?_
    rintro e w1 ⟨rfl, hb⟩
    go_wp2
    go_ret
    exact ⟨rfl, hb⟩

end Go.Proofs.Ythcogjdbdadbaaa
