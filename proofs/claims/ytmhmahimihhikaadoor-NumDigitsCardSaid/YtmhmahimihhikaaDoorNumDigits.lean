import Derived.Test.YtmhmahimihhikaaDoorDoorP
import Derived.Test.YtmhmahimihhikaaDoorAlive1
import Derived.Test.YtmhmahimihhikaaDoorNumPrint
import Derived.Test.YtmhmahimihhikaaDoorRefPrint
import Derived.Test.YtmhmahimihhikaaDoorRefParse
namespace Go.Proofs.YtmhmahimihhikaaDoor
open Go.RowKit

set_option maxHeartbeats 400000 in
theorem numDigits_off (n most : Int) (s : ByteArray) (w : World) (h : 100 < s.size) (hs : s.size ≤ maxLen) :
    Calls Tryd.prog 3 #[.int .i64 n, .string s, .int .i64 most] w (Ans w (.bool true)) := by
  unfold maxLen at hs
  go_enter Tryd.func3, Tryd.ntmps3
  go_wp2_with fail
  refine (alive_any _).mono ?_
  rintro e w1 ⟨rfl, hb⟩
  go_wp2
  go_ret
  exact ⟨rfl, hb⟩

set_option maxHeartbeats 1600000 in
theorem numDigits_on (n most : Int) (s : ByteArray) (w : World) (h : s.size ≤ 100) (h0 : -9223372036854775808 ≤ n) (h1 : n ≤ 9223372036854775807) (htab : Lib.TabIs Tryd.prog w "internal/strconv.uint64pow10" .u64 Lib.pow10Tab) :
    Calls Tryd.prog 3 #[.int .i64 n, .string s, .int .i64 most] w (Ans w (.bool true)) := by
  obtain ⟨x, f, hv⟩ := parseV_form s.data.toList most
  have Hv := Lib.hid hv; clear hv
  have T := Lib.hid htab; clear htab
  go_enter Tryd.func3, Tryd.ntmps3
  go_wp2_with fail
  refine (parse_any s most _).mono ?_
  rintro e w1 ⟨rfl, hb1⟩
  rw [Hv.out]
  go_wp2_with fail
  refine (rparse_any s most _).mono ?_
  rintro e w2 ⟨rfl, hb2⟩
  rw [Hv.out]
  have hb02 := bon hb1 hb2
  go_wp2_with fail
  refine (print_any n _ h0 h1 (tab_on T.out hb02)).mono ?_
  rintro e w3 ⟨rfl, hb3⟩
  have hb03 := bon hb02 hb3
  go_wp2_with fail
  refine (rprint_any n _ (by omega)).mono ?_
  rintro e w4 ⟨rfl, hb4⟩
  have hb04 := bon hb03 hb4
  generalize printL n = pl
  go_wp2_with fail
  refine (alive_any _).mono ?_
  rintro e w5 ⟨rfl, hb5⟩
  go_wp2
  go_ret
  exact ⟨rfl, bon hb04 hb5⟩

theorem numDigits_walk (n most : Int) (s : ByteArray) (w : World) (hs : s.size ≤ maxLen) (h0 : -9223372036854775808 ≤ n) (h1 : n ≤ 9223372036854775807) (htab : Lib.TabIs Tryd.prog w "internal/strconv.uint64pow10" .u64 Lib.pow10Tab) :
    Calls Tryd.prog 3 #[.int .i64 n, .string s, .int .i64 most] w (Ans w (.bool true)) := by
  by_cases h : 100 < s.size
  · exact numDigits_off n most s w h hs
  · exact numDigits_on n most s w (by omega) h0 h1 htab

end Go.Proofs.YtmhmahimihhikaaDoor
