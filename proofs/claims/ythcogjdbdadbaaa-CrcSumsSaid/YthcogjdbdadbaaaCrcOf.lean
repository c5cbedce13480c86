import Derived.Test.YthcogjdbdadbaaaCrcMore
import Derived.Test.YthcogjdbdadbaaaNumPut
import Derived.Test.YthcogjdbdadbaaaRow
namespace Go.Proofs.Ythcogjdbdadbaaa
open Go.RowKit

set_option maxHeartbeats 400000 in
theorem cof_any (B n cap : Nat) (A : Option Addr) (xs : List UInt8) (w : World) (hx : Rd w B A n (Byt xs)) (hB : B ≤ w.heap.size) (hn : n ≤ 8796093022208) :
    Calls Try.prog 7 #[.slice A n cap] w (Ans w (.int .u32 (crcU xs : Nat))) := by
  have hp := cmore_any B n cap 0 A xs w hx hB hn (by decide)
  rw [← crcU_more] at hp
  go_enter Try.func7, Try.ntmps7
  go_wp2_with fail
  refine hp.mono ?_
  rintro e w1 ⟨rfl, hb⟩
  go_wp2
  go_ret
  exact ⟨rfl, hb⟩

set_option maxHeartbeats 400000 in
theorem cbytes_any (B n cap : Nat) (A : Option Addr) (xs : List UInt8) (w : World) (hx : Rd w B A n (Byt xs)) (hB : B ≤ w.heap.size) (hn : n ≤ 8796093022208) :
    Calls Try.prog 14 #[.slice A n cap] w (NewB 5 w (putL (crcU xs) 8)) := by
  have hlt : crcU xs < 4294967296 := crcU_lt xs
  have hp := cof_any B n cap A xs w hx hB hn
  revert hlt hp
  generalize crcU xs = m
  intro hlt hp
  have Hp : Hid (putR m 8 = putL m 8) := Lib.hid rfl
  go_enter Try.func14, Try.ntmps14
  go_wp2_with fail
  refine hp.mono ?_
  rintro e w1 ⟨rfl, hb⟩
  have hpp := put_any m 8 w1 (by omega)
  rw [Hp.out] at hpp
  go_wp2_with fail
  refine hpp.mono ?_
  rintro e w2 ⟨A', c', rfl, hown, hb2⟩
  go_wp2
  go_ret
  exact ⟨A', c', rfl, own_base hown hb.size, bon hb hb2⟩

end Go.Proofs.Ythcogjdbdadbaaa
