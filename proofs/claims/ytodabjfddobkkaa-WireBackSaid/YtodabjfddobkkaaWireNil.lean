import Derived.Test.YtodabjfddobkkaaWireText
namespace Go.Proofs.Ytodabjfddobkkaa
open Go.RowKit

set_option maxHeartbeats 400000 in
theorem wrow_nil (n c : Nat) (a : Addr) (w : World) (hn : n ≤ 65535) (hnc : n ≤ c) :
    Calls Try.prog 25 #[.pointer none, .slice (some a) n c] w fun e w' => e = .returned (.tuple #[]) ∧ Below w.heap.size w w' := by
  have hi : (n : Int) ≤ 65535 := by omega
  have hic : (n : Int) ≤ (c : Int) := by omega
  have hp := wnumber_nil n 2 (by omega) w
  go_enter Try.func25, Try.ntmps25
  go_wp2_with fail
  refine hp.mono ?_
  rintro e w1 ⟨rfl, hb⟩
  go_wp2_with fail
  refine (wput_nil _ _).mono ?_
  rintro e w2 ⟨rfl, rfl⟩
  go_wp2
  go_end0
  exact ⟨rfl, hb⟩

set_option maxHeartbeats 400000 in
theorem wtext_nil (s : ByteArray) (w : World) (hs : s.size ≤ 65535) :
    Calls Try.prog 20 #[.pointer none, .string s] w fun e w' => e = .returned (.tuple #[]) ∧ Below w.heap.size w w' := by
  obtain ⟨c, o, hcv, _, hok⟩ := conv_bytes Try.prog w 9 26 5 s Try.underlying9 Try.underlying26 Try.underlying5 (by unfold maxLen; omega)
  have hi : (s.size : Int) ≤ 65535 := by omega
  have hex : s.extract 0 s.size = s := by simp
  have hle := hok.le
  clear hok
  go_enter Try.func20, Try.ntmps20
  go_wp2_with fail
  refine (wrow_nil s.size c _ _ hs hle.1).mono ?_
  rintro e w1 ⟨rfl, hb⟩
  have hb' : Below w.heap.size w w1 := (((Below.refl w.heap.size w).alloc (Nat.le_refl _) o).drew).trans (hb.mono (by simp))
  clear hb
  go_wp2
  go_end0
  exact ⟨rfl, hb'⟩

end Go.Proofs.Ytodabjfddobkkaa
