import Derived.Test.YtodabjfddobkkaaWireMem
import Derived.Test.YtodabjfddobkkaaBytesClone
namespace Go.Proofs.Ytodabjfddobkkaa
open Go.RowKit

set_option maxHeartbeats 400000 in
/-- A new reader, in a new block. -/
theorem wread_any (B n c : Nat) (A : Option Addr) (xs : List UInt8) (w : World) (hx : Rd w B A n (Byt xs)) (hok : SlOK A n c) (hB : B ≤ w.heap.size) (hn : n ≤ 8796093022208) :
    Calls Try.prog 13 #[.slice A n c] w fun e w' => ∃ br, e = .returned (.pointer (some ⟨br, 0, none⟩)) ∧ w.heap.size ≤ br ∧ RdrS w' br ⟨xs, true⟩ ∧ Below w.heap.size w w' := by
  have hp := bclone_any B n c A xs w hx hok hB hn
  go_enter Try.func13, Try.ntmps13
  go_wp2_with fail
  refine hp.mono ?_
  rintro e w1 ⟨A1, c1, rfl, hown1, hb1⟩
  have hsz := hb1.size
  have fin : RdrS (w1.alloc (.cells #[.slice A1 xs.length c1, .int .i64 0] 57)) w1.heap.size ⟨xs, true⟩ := by
    refine ⟨A1, xs.length, c1, by simp, by simp [faultOf], by simp [go_sem], by simp [go_sem], SlF.of_own hown1, ?_, ?_⟩
    · intro a ha hf
      have := (hown1.lt a.block (by rw [ha]; rfl)).2
      unfold Blk at hf
      omega
    · exact ((Rd.of_own hown1).alloc (Nat.le_refl _) _).wider (by simp)
  have Fin := Lib.hid fin
  clear fin hown1
  go_wp2
  go_ret
  exact ⟨_, rfl, hsz, Fin.out, hb1.alloc hsz _⟩

end Go.Proofs.Ytodabjfddobkkaa
