import Derived.Test.YtodabjfddobkkaaWirePut
import Derived.Test.YtodabjfddobkkaaNumPut
namespace Go.Proofs.Ytodabjfddobkkaa
open Go.RowKit

set_option maxHeartbeats 400000 in
theorem wnumber_any (F : Nat → Prop) (bw : Nat) (l : List UInt8) (m0 : Nat) (size : Int) (hm : m0 < 18446744073709551616) (w : World) (h : WtrS 5 w F bw l) (hn : l.length + 8 ≤ 8796093022208) :
    Calls Try.prog 24 #[.pointer (some ⟨bw, 0, none⟩), .int .u64 m0, .int .i64 size] w fun e w' => e = .returned (.tuple #[]) ∧ Wrote 5 w F bw (l ++ putR m0 size) w' := by
  have hp := put_any m0 size w hm
  have hlen : (putR m0 size).length ≤ 8 := by unfold putR; split <;> simp [putL_length]; omega
  go_enter Try.func24, Try.ntmps24
  go_wp2_with fail
  refine hp.mono ?_
  rintro e w1 ⟨A, c, rfl, hown, hb⟩
  have hq := wput_any F bw w1.heap.size _ c A l (putR m0 size) w1 (h.below hb) (Rd.of_own hown) (SlOK.of_own hown) (by omega)
  generalize (putR m0 size).length = pn at hq
  clear hown
  go_wp2_with fail
  refine hq.mono ?_
  rintro e w2 ⟨rfl, hw⟩
  have hw' := Wrote.then (Moves.of_below hb) (fun _ hk => .inl hk) hw
  clear hw
  go_wp2
  go_end0
  exact ⟨rfl, hw'⟩

set_option maxHeartbeats 400000 in
theorem wnumber_nil (m0 : Nat) (size : Int) (hm : m0 < 18446744073709551616) (w : World) :
    Calls Try.prog 24 #[.pointer none, .int .u64 m0, .int .i64 size] w fun e w' => e = .returned (.tuple #[]) ∧ Below w.heap.size w w' := by
  have hp := put_any m0 size w hm
  go_enter Try.func24, Try.ntmps24
  go_wp2_with fail
  refine hp.mono ?_
  rintro e w1 ⟨A, c, rfl, hown, hb⟩
  generalize (putR m0 size).length = pn
  clear hown
  go_wp2_with fail
  refine (wput_nil _ _).mono ?_
  rintro e w2 ⟨rfl, rfl⟩
  go_wp2
  go_end0
  exact ⟨rfl, hb⟩

end Go.Proofs.Ytodabjfddobkkaa
