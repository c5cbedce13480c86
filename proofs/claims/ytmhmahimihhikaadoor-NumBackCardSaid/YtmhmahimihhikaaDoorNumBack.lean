import Derived.Test.YtmhmahimihhikaaDoorNumBackIn
import Derived.Test.YtmhmahimihhikaaDoorNumBackNeg
import Derived.Test.YtmhmahimihhikaaDoorNumBackBig
import Derived.Test.YtmhmahimihhikaaDoorNumBackS
import Derived.Test.YtmhmahimihhikaaDoorAlive1
import Derived.Test.YtmhmahimihhikaaDoorNumGet
import Derived.Test.YtmhmahimihhikaaDoorNumXor
import Derived.Test.YtmhmahimihhikaaDoorNumSame
import Derived.Test.YtmhmahimihhikaaDoorNumPrint
namespace Go.Proofs.YtmhmahimihhikaaDoor
open Go.RowKit

set_option maxHeartbeats 800000 in
theorem numBack_off (n0 m c n d : Nat) (z : Int) (A C : Option Addr) (w : World) (h : 300 < m ∨ m ≤ 300 ∧ 300 < n) (hm : m ≤ maxLen) (hn : n ≤ maxLen) :
    Calls Tryd.prog 4 #[.int .u64 n0, .int .i64 z, .slice A m c, .slice C n d] w (Ans w (.bool true)) := by
  unfold maxLen at hm hn
  rcases h with h | ⟨h, h'⟩
  all_goals
    go_enter Tryd.func4, Tryd.ntmps4
    go_wp2_with fail
    refine (alive_any _).mono ?_
    rintro e w1 ⟨rfl, hb⟩
    go_wp2
    go_ret
    exact ⟨rfl, hb⟩

theorem numBack_walk (n0 m c n d B : Nat) (z : Int) (A C : Option Addr) (xs ys : List UInt8) (w : World) (hn0 : n0 < 18446744073709551616) (hx : Rd w B A m (Byt xs)) (hy : Rd w B C n (Byt ys)) (hB : B ≤ w.heap.size) (hm : m ≤ maxLen) (hn : n ≤ maxLen)
    (htab : Lib.TabIs Tryd.prog w "internal/strconv.uint64pow10" .u64 Lib.pow10Tab) :
    Calls Tryd.prog 4 #[.int .u64 n0, .int .i64 z, .slice A m c, .slice C n d] w (Ans w (.bool true)) := by
  by_cases h : 300 < m ∨ m ≤ 300 ∧ 300 < n
  · exact numBack_off n0 m c n d z A C w h hm hn
  · by_cases hmn : m ≤ n
    · by_cases h0 : z < 0
      · exact numBack_neg_le n0 m c n d B z A C xs ys w hn0 hx hy hB (by omega) (by omega) h0 hmn htab
      · by_cases h1 : z < 288230376151711744
        · exact numBack_in_le n0 m c n d B z A C xs ys w hn0 hx hy hB (by omega) (by omega) (by omega) h1 hmn htab
        · exact numBack_big_le n0 m c n d B z A C xs ys w hn0 hx hy hB (by omega) (by omega) (by omega) (by omega) hmn htab
    · by_cases h0 : z < 0
      · exact numBack_neg_gt n0 m c n d B z A C xs ys w hn0 hx hy hB (by omega) (by omega) h0 (by omega) htab
      · by_cases h1 : z < 288230376151711744
        · exact numBack_in_gt n0 m c n d B z A C xs ys w hn0 hx hy hB (by omega) (by omega) (by omega) h1 (by omega) htab
        · exact numBack_big_gt n0 m c n d B z A C xs ys w hn0 hx hy hB (by omega) (by omega) (by omega) (by omega) (by omega) htab

end Go.Proofs.YtmhmahimihhikaaDoor
