import Derived.Test.YtmhmahimihhikaaRow
import Derived.Test.YtmhmahimihhikaaAlive1
import Derived.Test.YtmhmahimihhikaaNumGet
import Derived.Test.YtmhmahimihhikaaRefGet
import Derived.Test.YtmhmahimihhikaaRefPut
import Derived.Test.YtmhmahimihhikaaRefSame
namespace Go.Proofs.Ytmhmahimihhikaa
open Go.RowKit

set_option maxHeartbeats 1600000 in
theorem numBytes_walk (n : Nat) (size : Int) (B m c : Nat) (A : Option Addr) (xs : List UInt8) (w : World) (hn : n < 18446744073709551616) (hx : Rd w B A m (Byt xs)) (hm : m ≤ maxLen) (hB : B ≤ w.heap.size) :
    Calls Try.prog 3 #[.int .u64 n, .int .i64 size, .slice A m c] w (Ans w (.bool true)) := by
  have hm' := hm
  unfold maxLen at hm'
  by_cases h100 : 100 < m
  · go_enter Try.func3, Try.ntmps3
    go_wp2_with fail
    refine (alive_any _).mono ?_
    rintro e w1 ⟨rfl, hb⟩
    go_wp2
    go_ret
    exact ⟨rfl, hb⟩
  · obtain ⟨x, f, hv⟩ := getV_form xs
    have Hv := Lib.hid hv; clear hv
    go_enter Try.func3, Try.ntmps3
    go_wp2_with fail
    refine (get_any B m c A xs _ hx hm).mono ?_
    rintro e w1 ⟨rfl, hb1⟩
    rw [Hv.out]
    have hx1 := hx.below (hb1.mono hB)
    go_wp2_with fail
    refine (rget_any B m c A xs _ hx1 hm).mono ?_
    rintro e w2 ⟨rfl, hb2⟩
    rw [Hv.out]
    go_wp2_with fail
    refine (put_any n size _ hn).mono ?_
    rintro e w3 ⟨A3, c3, rfl, hown3, hb3⟩
    have hl3 := Rd.of_own hown3
    go_wp2_with fail
    refine (rput_any n size _ hn).mono ?_
    rintro e w4 ⟨A4, c4, rfl, hown4, hb4⟩
    have hl4 := Rd.of_own hown4
    have hk : (putR n size).length ≤ maxLen := by
      obtain ⟨_, _, e, h1, h2⟩ := own_form hown4
      exact Nat.le_trans h1 h2
    go_wp2_with fail
    refine (rsame_any w4.heap.size _ _ _ _ _ _ _ _ _ ((hl3.below hb4).wider hb4.size) hl4 hk hk).mono ?_
    rintro e w5 ⟨rfl, hb5⟩
    rw [sameL_self]
    go_wp2_with fail
    refine (alive_any _).mono ?_
    rintro e w6 ⟨rfl, hb6⟩
    go_wp2
    go_ret
    exact ⟨rfl, bon (bon (bon (bon (bon hb1 hb2) hb3) hb4) hb5) hb6⟩

end Go.Proofs.Ytmhmahimihhikaa
