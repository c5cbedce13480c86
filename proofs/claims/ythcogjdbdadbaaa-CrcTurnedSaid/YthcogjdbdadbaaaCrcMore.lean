import Derived.Test.YthcogjdbdadbaaaCrcTake
namespace Go.Proofs.Ythcogjdbdadbaaa
open Go.RowKit

set_option maxHeartbeats 1600000 in
theorem cmore_any (B n cap s : Nat) (A : Option Addr) (xs : List UInt8) (w : World) (hx : Rd w B A n (Byt xs)) (hB : B ≤ w.heap.size) (hn : n ≤ 8796093022208) (hc : s < 4294967296) :
    Calls Try.prog 11 #[.int .u32 s, .slice A n cap] w (Ans w (.int .u32 (crcMoreU s xs : Nat))) := by
  have hmf : ∀ (fn : Fn) (first cap : Array Value) (w : World), (Instr.makeFunc fn first cap).run Try.prog w = .ok (.func fn first cap) w := fun _ _ _ _ => rfl
  have hnot := not_u32 s hc
  have hc0 : s ^^^ 4294967295 < 4294967296 := xor_lt hc ones_lt
  have hxl := hx.bytes
  have Hx := Lib.hid hxl; clear hxl
  go_enter Try.func11, Try.ntmps11
  go_wp2
  go_loopw [8, 14] (fun _ i wr => ∃ k z : Nat, k ≤ n ∧ i = .int .i64 k ∧ z < 4294967296 ∧ Hid (z = runU (s ^^^ 4294967295) (xs.take k)) ∧ SumS wr w.heap.size z ∧ Hid (Below w.heap.size w wr)) (fun _ i _ => n - (intOf i).toNat)
  case atStart => exact ⟨0, _, Nat.zero_le _, rfl, hc0, Lib.hid rfl, ⟨by simp, by simp, by simp⟩, Lib.hid ((Below.refl _ _).alloc (Nat.le_refl _) _)⟩
  case round =>
    obtain ⟨k, z, hk, rfl, hz, Hz, hsum, Hb⟩ := hrel
    by_cases hlt : k < n
    · have hkx : k < xs.length := by rw [Hx.out]; exact hlt
      obtain ⟨b, o, rfl, hbB, hcell⟩ := ((hx.wider hB).below Hb.out).byte hlt hkx
      have Hstep : Hid (runU (s ^^^ 4294967295) (xs.take (k + 1)) = byteU z xs[k]) := Lib.hid (by rw [runU_take hkx, ← Hz.out])
      have Hlt : Hid (byteU z xs[k] < 4294967296) := Lib.hid (byteU_lt _ hz)
      have hp := fun w' (h : SumS w' w.heap.size z) => ctake_any xs[k] z w.heap.size w' hz h
      revert hp Hstep Hlt hcell
      generalize xs[k] = d
      intro hcell Hstep Hlt hp
      go_wp2_with fail
      refine (hp _ hsum).mono ?_
      rintro e w1 ⟨rfl, hs1, hm1⟩
      have Hs1 := Lib.hid hs1; clear hs1
      have Hb1 : Hid (Below w.heap.size w w1) := Lib.hid (Hb.out.trans (hm1.below (fun k hk => by have : k = w.heap.size := hk; omega) Hb.out.size))
      clear hm1
      go_wp2
      go_roundw
      case rel => exact ⟨k + 1, byteU z d, by omega, by go_num, Hlt.out, Lib.hid Hstep.out.symm, Hs1.out, Hb1⟩
      case measure => simp [intOf]; omega
    · obtain ⟨hs, hfz, hsz⟩ := hsum
      have hn2 := not_u32 z hz
      go_wp2
      go_ret
      refine ⟨?_, Hb.out⟩
      show Ending.returned (.int .u32 ((z ^^^ 4294967295 : Nat) : Int)) = _
      rw [Hz.out, show xs.take k = xs from List.take_of_length_le (by rw [Hx.out]; omega)]
      rfl

end Go.Proofs.Ythcogjdbdadbaaa
