import Derived.Test.YtfkfkmdnffpcmaaCtrStream
import Derived.Test.YtfkfkmdnffpcmaaNumXor
namespace Go.Proofs.Ytfkfkmdnffpcmaa
open Go.RowKit

theorem cover_form (m d n c p q : Nat) (A C D : Option Addr) (w : World) (h : m ≠ 32 ∨ n ≠ 16) :
    Calls Try.prog 14 #[.slice A m d, .slice C n c, .slice D p q] w (NewRF w [] 4) := by
  have c1 := fun W => cstream_form m d n c A C (p : Int) W h
  go_enter Try.func14, Try.ntmps14
  go_wp2_with fail
  refine (c1 _).mono ?_
  rintro e w1 ⟨A1, k1, rfl, hr1, ho1, hb1⟩
  go_wp2
  go_ret2
  exact ⟨none, 0, rfl, Rd.nil, SlOK.nil, hb1⟩

set_option maxHeartbeats 800000 in
theorem cover_any (key s t : List UInt8) (c d q B n : Nat) (A C D : Option Addr) (w : World) (hr : Rd w B A 32 (Byt key)) (hc : 32 ≤ c) (hs : Rd w B C 16 (Byt s)) (ht : Rd w B D n (Byt t)) (hB : B ≤ w.heap.size) (hn : n ≤ 65536) :
    Calls Try.prog 14 #[.slice A 32 c, .slice C 16 d, .slice D n q] w (NewRF w (coverU (akeysU key) s t) 0) := by
  have htl := ht.bytes
  have c1 := cstream_any key s c d B n A C w hr hc hs hB hn
  have hl : (cstreamU (akeysU key) s n).length = n := cstream_length (akeys_length hr.bytes) n
  have Hfin : Hid (coverU (akeysU key) s t = xorL t (cstreamU (akeysU key) s n)) := Lib.hid (by rw [coverU, htl])
  revert c1 hl Hfin
  generalize coverU (akeysU key) s t = R
  generalize cstreamU (akeysU key) s n = L
  intro c1 hl Hfin
  have Hl := Lib.hid hl
  have Ht := Lib.hid ht
  have HB := Lib.hid hB
  unfold NewRF at c1
  rw [hl] at c1
  clear hl htl hr hs ht hB
  go_enter Try.func14, Try.ntmps14
  go_wp2_with fail
  refine c1.mono ?_
  rintro e w1 ⟨A1, k1, rfl, hr1, ho1, hb1⟩
  have c2 := xor_any w1.heap.size n q n k1 D A1 t L w1 ((Ht.out.below (hb1.mono HB.out)).wider (Nat.le_trans HB.out hb1.size)) hr1 (by omega) (by omega) (Nat.le_refl _)
  rw [← Hfin.out] at c2
  have Hb1 := Lib.hid hb1
  clear hr1 ho1 hb1
  go_wp2_with fail
  refine c2.mono ?_
  rintro e w2 ⟨A2, k2, rfl, hown, hb2⟩
  go_wp2
  go_ret2
  exact ⟨A2, k2, rfl, Rd.of_own hown, SlOK.of_own hown, Hb1.out.trans (hb2.mono Hb1.out.size)⟩

end Go.Proofs.Ytfkfkmdnffpcmaa
