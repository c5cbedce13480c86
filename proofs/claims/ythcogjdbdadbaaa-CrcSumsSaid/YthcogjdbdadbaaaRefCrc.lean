import Derived.Test.YthcogjdbdadbaaaRefCrcRun
import Derived.Test.YthcogjdbdadbaaaRefPut
import Derived.Test.YthcogjdbdadbaaaRow
namespace Go.Proofs.Ythcogjdbdadbaaa
open Go.RowKit

set_option maxHeartbeats 400000 in
theorem rcof_any (B n cap : Nat) (A : Option Addr) (xs : List UInt8) (w : World) (hx : Rd w B A n (Byt xs)) (hn : n ≤ 8796093022208) :
    Calls Try.prog 8 #[.slice A n cap] w (Ans w (.int .u32 (crcU xs : Nat))) := by
  have hr := runU_lt xs ones_lt
  have hxo := xor_u32_ones (runU 4294967295 xs) hr
  have hp := rcrun_any B n cap 4294967295 A xs w hx hn (by decide)
  go_enter Try.func8, Try.ntmps8
  go_wp2_with fail
  refine hp.mono ?_
  rintro e w1 ⟨rfl, hb⟩
  go_wp2
  go_ret
  exact ⟨by unfold crcU; rw [← hxo]; rfl, hb⟩

set_option maxHeartbeats 400000 in
theorem rcmore_any (B n cap s : Nat) (A : Option Addr) (xs : List UInt8) (w : World) (hx : Rd w B A n (Byt xs)) (hn : n ≤ 8796093022208) (hs : s < 4294967296) :
    Calls Try.prog 12 #[.int .u32 s, .slice A n cap] w (Ans w (.int .u32 (crcMoreU s xs : Nat))) := by
  have h0 := xor_u32_ones s hs
  have hs1 : s ^^^ 4294967295 < 4294967296 := xor_lt hs ones_lt
  have hxo := xor_u32_ones (runU (s ^^^ 4294967295) xs) (runU_lt xs hs1)
  have hp := rcrun_any B n cap (s ^^^ 4294967295) A xs w hx hn hs1
  go_enter Try.func12, Try.ntmps12
  go_wp2_with fail
  refine hp.mono ?_
  rintro e w1 ⟨rfl, hb⟩
  go_wp2
  go_ret
  exact ⟨by unfold crcMoreU; rw [← hxo]; rfl, hb⟩

set_option maxHeartbeats 400000 in
theorem rcbytes_any (B n cap : Nat) (A : Option Addr) (xs : List UInt8) (w : World) (hx : Rd w B A n (Byt xs)) (hn : n ≤ 8796093022208) :
    Calls Try.prog 15 #[.slice A n cap] w (NewB 5 w (putL (crcU xs) 8)) := by
  have hlt : crcU xs < 4294967296 := crcU_lt xs
  have hp := rcof_any B n cap A xs w hx hn
  revert hlt hp
  generalize crcU xs = m
  intro hlt hp
  have Hp : Hid (putR m 8 = putL m 8) := Lib.hid rfl
  go_enter Try.func15, Try.ntmps15
  go_wp2_with fail
  refine hp.mono ?_
  rintro e w1 ⟨rfl, hb⟩
  have hpp := rput_any m 8 w1 (by omega)
  rw [Hp.out] at hpp
  go_wp2_with fail
  refine hpp.mono ?_
  rintro e w2 ⟨A', c', rfl, hown, hb2⟩
  go_wp2
  go_ret
  exact ⟨A', c', rfl, own_base hown hb.size, bon hb hb2⟩

end Go.Proofs.Ythcogjdbdadbaaa
