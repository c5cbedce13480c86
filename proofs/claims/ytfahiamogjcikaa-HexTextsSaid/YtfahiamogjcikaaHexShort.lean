import Derived.Test.YtfahiamogjcikaaHexPrint
import Derived.Laws.Concat
namespace Go.Proofs.Ytfahiamogjcikaa
open Go.RowKit

theorem points_tx (l : List UInt8) : tx l ++ (⟨#[46, 46]⟩ : ByteArray) = tx (l ++ [46, 46]) := by rw [app_tx, tx_list]

set_option maxHeartbeats 1600000 in
theorem hshort_any (B n c : Nat) (A : Option Addr) (xs : List UInt8) (w : World) (hx : Rd w B A n (Byt xs)) (hB : B ≤ w.heap.size) (hn : n ≤ 1099511627776) (hnc : n ≤ c) :
    Calls Try.prog 15 #[.slice A n c] w (Ans w (.string (tx (hshortV xs)))) := by
  have hxl := hx.bytes
  unfold hshortV
  by_cases h : n ≤ 4
  · rw [if_pos (by omega)]
    have hp := hprint_any B n c A xs w hx hB hn
    have hi : (n : Int) ≤ 4 := by omega
    have Hx := Lib.hid hxl; clear hxl
    go_enter Try.func15, Try.ntmps15
    go_wp2_with fail
    refine hp.mono ?_
    rintro e w1 ⟨rfl, hb1⟩
    go_wp2
    go_ret
    exact ⟨rfl, hb1⟩
  · rw [if_neg (by omega)]
    obtain ⟨b, o, rfl, hb, hcell⟩ := hx.2 (by omega)
    have hx3 := hx.head (m := 3) (by omega)
    rw [← Byt_take] at hx3
    have hp := fun c => hprint_any B 3 c _ (xs.take 3) w hx3 hB (by omega)
    have hi : ¬ (n : Int) ≤ 4 := by omega
    have hi3 : (3 : Int) ≤ (c : Int) := by omega
    have hj3 : 3 ≤ c := by omega
    have hcat : ∀ w, (Op.stringOp .add (tx (hexU (xs.take 3))) ⟨#[46, 46]⟩).run Try.prog w = .ok (.string (tx (hexU (xs.take 3) ++ [46, 46]))) w := fun w => by
      rw [← points_tx]
      exact run_string_add_sum w (tx (hexU (xs.take 3))) ⟨#[46, 46]⟩ (by rw [tx_size, hexU_length, List.length_take, show (⟨#[46, 46]⟩ : ByteArray).size = 2 from rfl]; omega)
    have Hx := Lib.hid hxl; clear hxl
    go_enter Try.func15, Try.ntmps15
    go_wp2_with fail
    refine (hp _).mono ?_
    rintro e w1 ⟨rfl, hb1⟩
    go_wp2
    go_ret
    exact ⟨rfl, hb1⟩

end Go.Proofs.Ytfahiamogjcikaa
