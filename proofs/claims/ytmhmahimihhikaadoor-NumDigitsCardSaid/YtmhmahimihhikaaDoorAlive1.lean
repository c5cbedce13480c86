import Derived.Test.YtmhmahimihhikaaDoorNumPut
import Derived.Test.YtmhmahimihhikaaDoorNumParse
namespace Go.Proofs.YtmhmahimihhikaaDoor
open Go.RowKit

set_option maxHeartbeats 800000 in
theorem alive_any (w : World) : Calls Tryd.prog 5 #[] w (Ans w (.bool true)) := by
  have hp : putR 258 2 = [1, 2] := by decide
  have hq : parseV [48, 55] 9 = .tuple #[.int .i64 0, .int .i64 3] := parse_syn 9 (by decide)
  have Hp := Lib.hid hp; clear hp
  have Hq := Lib.hid hq; clear hq
  go_enter Tryd.func5, Tryd.ntmps5
  go_wp2_with fail
  refine (put_any 258 2 _ (by omega)).mono ?_
  rintro e w1 ⟨A, c, rfl, hown, hb1⟩
  rw [Hp.out] at hown ⊢
  have hr := Rd.of_own hown
  obtain ⟨b, o, rfl, hbb, hc0⟩ := hr.byte (k := 0) (by decide) (by decide)
  obtain ⟨b', o', e', _, hc1⟩ := hr.byte (k := 1) (by decide) (by decide)
  injection e' with e'
  injection e' with e1 e2
  subst e1
  subst e2
  simp at hc0 hc1
  go_wp2_with fail
  refine (parse_any ⟨#[48, 55]⟩ 9 _).mono ?_
  rintro e w2 ⟨rfl, hb2⟩
  rw [show parseV (ByteArray.mk #[48, 55]).data.toList 9 = parseV [48, 55] 9 from rfl, Hq.out]
  have hd0 := (hb2.cell (p := ⟨b, o, none⟩) hbb).trans hc0
  have hd1 := (hb2.cell (p := ⟨b, o + 1, none⟩) hbb).trans hc1
  clear hc0 hc1
  go_wp2
  go_ret
  exact ⟨rfl, hb1.trans (hb2.mono hb1.size)⟩

end Go.Proofs.YtmhmahimihhikaaDoor
