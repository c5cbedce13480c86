import Derived.Test.YtmhmahimihhikaaDoorDoorP
import Derived.Test.YtmhmahimihhikaaDoorNumBackS
import Derived.Test.YtmhmahimihhikaaDoorAlive1
import Derived.Test.YtmhmahimihhikaaDoorNumGet
import Derived.Test.YtmhmahimihhikaaDoorNumXor
import Derived.Test.YtmhmahimihhikaaDoorNumSame
import Derived.Test.YtmhmahimihhikaaDoorNumPrint
namespace Go.Proofs.YtmhmahimihhikaaDoor
open Go.RowKit


set_option maxRecDepth 100000 in
set_option maxHeartbeats 1600000 in
theorem numBack_big_le (n0 m c n d B : Nat) (z : Int) (A C : Option Addr) (xs ys : List UInt8) (w : World) (hn0 : n0 < 18446744073709551616) (hx : Rd w B A m (Byt xs)) (hy : Rd w B C n (Byt ys)) (hB : B ≤ w.heap.size) (hm : m ≤ 300) (hn : n ≤ 300)
    (hz0 : 0 ≤ z) (hz1 : 288230376151711744 ≤ z) (hmn : m ≤ n) (htab : Lib.TabIs Tryd.prog w "internal/strconv.uint64pow10" .u64 Lib.pow10Tab) :
    Calls Tryd.prog 4 #[.int .u64 n0, .int .i64 z, .slice A m c, .slice C n d] w (Ans w (.bool true)) := by
  have hxl := hx.bytes
  have hyl := hy.bytes
  have Hx := Lib.hid hxl; clear hxl
  have Hy := Lib.hid hyl; clear hyl
  have T := Lib.hid htab; clear htab
  have H0 := Lib.hid hn0; clear hn0
  go_enter Tryd.func4, Tryd.ntmps4
  go_wp2_with fail
  refine (put_any n0 8 _ H0.out).mono ?_
  rintro e w1 ⟨A1, c1, rfl, hown1, hb1⟩
  rw [show putR n0 8 = putL n0 8 from rfl, putL_length] at hown1
  rw [show (putR n0 8).length = 8 from putL_length _ _]
  have hr1 := Rd.of_own hown1
  go_wp2_with fail
  refine (get_any _ _ _ _ _ _ hr1 (by decide)).mono ?_
  rintro e w2 ⟨rfl, hb2⟩
  rw [get_put8 H0.out]
  have hb02 := bon hb1 hb2
  have hb04 := hb02
  have hx4 := hx.below (hb04.mono hB)
  have hy4 := hy.below (hb04.mono hB)
  go_wp2_with fail
  refine (xor_any B m c n d A C xs ys _ hx4 hy4 (by omega) (by omega) (Nat.le_trans hB hb04.size)).mono ?_
  rintro e w5 ⟨A5, c5, rfl, hown5, hb5⟩
  have hb05 := bon hb04 hb5
  rw [show (xorL xs ys).length = m by rw [xorL_length, Hx.out, Hy.out]; omega] at hown5 ⊢
  have hr5 := Rd.of_own hown5
  have hx5 := hx.below (hb05.mono hB)
  have hy5 := (hy.below (hb05.mono hB)).wider (Nat.le_trans hB hb05.size)
  go_wp2_with fail
  refine (xor_any w5.heap.size m c5 n d A5 C (xorL xs ys) ys _ hr5 hy5 (by omega) (by omega) (Nat.le_refl _)).mono ?_
  rintro e w6 ⟨A6, c6, rfl, hown6, hb6⟩
  rw [xor_back (show xs.length ≤ ys.length by rw [Hx.out, Hy.out]; exact hmn)] at hown6 ⊢
  rw [Hx.out] at hown6 ⊢
  have hr6 := Rd.of_own hown6
  have hb06 := bon hb05 hb6
  go_wp2_with fail
  refine (same_any w6.heap.size m m c6 c A6 A xs xs _ hr6 ((hx.below (hb06.mono hB)).wider (Nat.le_trans hB hb06.size))).mono ?_
  rintro e w7 ⟨rfl, hb7⟩
  rw [sameL_self]
  have hb07 := bon hb06 hb7
  have hmin : min (m : Int) (n : Int) = m := by rw [Int.min_def]; split <;> omega
  go_wp2_with fail
  refine (alive_any _).mono ?_
  rintro e w8 ⟨rfl, hb8⟩
  go_wp2
  go_ret
  exact ⟨rfl, bon hb07 hb8⟩

set_option maxRecDepth 100000 in
set_option maxHeartbeats 1600000 in
theorem numBack_big_gt (n0 m c n d B : Nat) (z : Int) (A C : Option Addr) (xs ys : List UInt8) (w : World) (hn0 : n0 < 18446744073709551616) (hx : Rd w B A m (Byt xs)) (hy : Rd w B C n (Byt ys)) (hB : B ≤ w.heap.size) (hm : m ≤ 300) (hn : n ≤ 300)
    (hz0 : 0 ≤ z) (hz1 : 288230376151711744 ≤ z) (hmn : n < m) (htab : Lib.TabIs Tryd.prog w "internal/strconv.uint64pow10" .u64 Lib.pow10Tab) :
    Calls Tryd.prog 4 #[.int .u64 n0, .int .i64 z, .slice A m c, .slice C n d] w (Ans w (.bool true)) := by
  have hxl := hx.bytes
  have hyl := hy.bytes
  have Hx := Lib.hid hxl; clear hxl
  have Hy := Lib.hid hyl; clear hyl
  have T := Lib.hid htab; clear htab
  have H0 := Lib.hid hn0; clear hn0
  go_enter Tryd.func4, Tryd.ntmps4
  go_wp2_with fail
  refine (put_any n0 8 _ H0.out).mono ?_
  rintro e w1 ⟨A1, c1, rfl, hown1, hb1⟩
  rw [show putR n0 8 = putL n0 8 from rfl, putL_length] at hown1
  rw [show (putR n0 8).length = 8 from putL_length _ _]
  have hr1 := Rd.of_own hown1
  go_wp2_with fail
  refine (get_any _ _ _ _ _ _ hr1 (by decide)).mono ?_
  rintro e w2 ⟨rfl, hb2⟩
  rw [get_put8 H0.out]
  have hb02 := bon hb1 hb2
  have hb04 := hb02
  have hx4 := hx.below (hb04.mono hB)
  have hy4 := hy.below (hb04.mono hB)
  go_wp2_with fail
  refine (xor_any B m c n d A C xs ys _ hx4 hy4 (by omega) (by omega) (Nat.le_trans hB hb04.size)).mono ?_
  rintro e w5 ⟨A5, c5, rfl, hown5, hb5⟩
  have hb05 := bon hb04 hb5
  rw [show (xorL xs ys).length = n by rw [xorL_length, Hx.out, Hy.out]; omega]
  have hb07 := hb05
  have hmin : min (m : Int) (n : Int) = n := by rw [Int.min_def]; split <;> omega
  go_wp2_with fail
  refine (alive_any _).mono ?_
  rintro e w8 ⟨rfl, hb8⟩
  go_wp2
  go_ret
  exact ⟨rfl, bon hb07 hb8⟩

end Go.Proofs.YtmhmahimihhikaaDoor
