import Derived.Test.YtmhmahimihhikaaDoorPrintS
import Derived.Test.YtmhmahimihhikaaDoorShelf
namespace Go.Proofs.YtmhmahimihhikaaDoor
open Go.RowKit

theorem below_grow (w : World) (k : Nat) (os : Array Obj) : Below w.heap.size w (Go.Sort.grow (w.drewN k) os) :=
  ⟨rfl, rfl, rfl, by simp [Go.Sort.grow, World.drewN], fun i hi => by
    show (w.heap ++ os)[i]? = _
    rw [Array.getElem?_append_left hi]⟩

set_option maxHeartbeats 400000 in
theorem print_any (n : Int) (w : World) (h0 : -9223372036854775808 ≤ n) (h1 : n ≤ 9223372036854775807) (htab : Lib.TabIs Tryd.prog w "internal/strconv.uint64pow10" .u64 Lib.pow10Tab) :
    Calls Tryd.prog 8 #[.int .i64 n] w (Ans w (.string ⟨(printL n).toArray⟩)) := by
  by_cases hn : n < 0
  · rw [printL, if_pos hn]
    clear htab
    go_enter Tryd.func8, Tryd.ntmps8
    go_wp2_with fail
    go_ret
    exact ⟨rfl, Below.refl _ _⟩
  · have hn' : 0 ≤ n := by omega
    have e : Lib.itoa n = printL n := by rw [printL, if_neg hn, Lib.itoa, if_neg hn]
    have E := Lib.hid e; clear e
    have T := Lib.hid htab; clear htab hn
    go_enter Tryd.func8, Tryd.ntmps8
    go_wp2_with fail
    refine (Tryd.strconv_Itoa n h0 h1 _ T.out).mono ?_
    rintro e w1 ⟨rfl, k, os, hw⟩
    have hb := below_grow w k os
    rw [← hw] at hb
    clear hw
    rw [E.out]
    go_wp2
    go_ret
    exact ⟨rfl, hb⟩

end Go.Proofs.YtmhmahimihhikaaDoor
