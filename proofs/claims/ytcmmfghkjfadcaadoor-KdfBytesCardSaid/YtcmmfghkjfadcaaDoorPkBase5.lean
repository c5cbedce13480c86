/-
  Some of the texts that the last one of these needs: walks of the functions that the law calls, and the mathematics of their answers.
-/
import Derived.Test.YtcmmfghkjfadcaaDoorPkBase4
import Derived.Test.YtcmmfghkjfadcaaDoorPkBase3
import Derived.Test.YtcmmfghkjfadcaaDoorPkBase1
import Derived.Test.YtcmmfghkjfadcaaDoorPkBase2
import Derived.LaidMore
import Derived.OpenShut
import Derived.Stop.Joined
import Derived.Lib.LaidTab
import Derived.Test.YtcmmfghkjfadcaaDoorTie
import Derived.SevenTiedAt
import Derived.Deep.Slices
namespace Go.Proofs.YtcmmfghkjfadcaaDoor
open Go.RowKit

set_option maxHeartbeats 800000 in
theorem rkey_any (B n c : Nat) (A : Option Addr) (xs : List UInt8) (w : World) (hx : Rd w B A n (Byt xs)) (hok : SlOK A n c) (hn : n ≤ 1099511627776) (hB : B ≤ w.heap.size) :
    Calls Tryd.prog 32 #[.slice A n c] w (NewB 5 w (keyU xs)) := by
  have hxl := hx.bytes
  by_cases h : 64 < n
  · have hk : keyU xs = padL (sumU xs) 64 := by rw [keyU, if_pos (by omega)]
    rw [hk]
    have hl : (sumU xs).length = 32 := sumU_length _
    have hs := rsum_any B n c A xs w hx hok hn hB
    generalize sumU xs = L at hs hl
    subst hxl
    have Hl := Lib.hid hl; clear hl hk
    have HB := Lib.hid hB; clear hB
    go_enter Tryd.func32, Tryd.ntmps32
    go_wp2_with fail
    refine hs.mono ?_
    rintro e w1 ⟨A1, c1, rfl, hown1, hb1⟩
    have h2 := rpad_in w1.heap.size L.length c1 64 A1 L w1 (Rd.of_own hown1) (by rw [Hl.out]; decide) (Nat.le_refl _) (by decide) (by decide)
    have Hb1 := Lib.hid hb1; clear hb1
    clear hown1
    go_wp2_with fail
    refine h2.mono ?_
    rintro e w2 ⟨A2, c2, rfl, hown2, hb2⟩
    go_wp2
    go_ret
    exact ⟨A2, c2, rfl, own_base hown2 Hb1.out.size, bon Hb1.out hb2⟩
  · have hk : keyU xs = padL xs 64 := by rw [keyU, if_neg (by omega)]
    rw [hk]
    have h2 := rpad_in B n c 64 A xs w hx (by unfold maxLen; omega) hB (by decide) (by decide)
    clear hxl hk hx
    go_enter Tryd.func32, Tryd.ntmps32
    go_wp2_with fail
    refine h2.mono ?_
    rintro e w2 ⟨A2, c2, rfl, hown2, hb2⟩
    go_wp2
    go_ret
    exact ⟨A2, c2, rfl, hown2, hb2⟩

end Go.Proofs.YtcmmfghkjfadcaaDoor

namespace Go.Proofs.YtcmmfghkjfadcaaDoor
open Go.RowKit

/-- What a call ends in that answers new bytes and two numbers. -/
def NewP (e : TypeId) (w : World) (v : List UInt8 × Int × Int) (en : Ending) (w' : World) : Prop :=
  ∃ A c, en = .returned (.tuple #[.slice A v.1.length c, .int .i64 v.2.1, .int .i64 v.2.2]) ∧ w'.ownsRow w.heap.size e 1 (.slice A v.1.length c) v.1.length (Byt v.1) ∧ Below w.heap.size w w'
/-- A byte in a new block of its own reads as a row of one. -/
theorem Rd.byte1 (w : World) (e : TypeId) (z : Int) (c : UInt8) (hz : z = (c.toNat : Int)) : Rd (w.alloc (.cells #[.int .u8 z] e)) (w.heap.size + 1) (some ⟨w.heap.size, 0, none⟩) 1 (Byt [c]) := by
  subst hz; exact Rd.new w e #[.int .u8 (c.toNat : Int)] rfl

end Go.Proofs.YtcmmfghkjfadcaaDoor

namespace Go.Proofs.YtcmmfghkjfadcaaDoor
open Go.RowKit

set_option maxHeartbeats 800000 in
theorem rover_any (b : UInt8) (B n c : Nat) (A : Option Addr) (xs : List UInt8) (w : World) (hx : Rd w B A n (Byt xs)) (hok : SlOK A n c) (hn : n ≤ 1099511627776) (hB : B ≤ w.heap.size) :
    Calls Tryd.prog 24 #[.slice A n c, .int .u8 (b.toNat : Int)] w (NewB 5 w (overU xs b)) := by
  have hk := rkey_any B n c A xs w hx hok hn hB
  have hl := keyU_length xs
  have hstep := fun j h => over_step xs b (j := j) h
  have hol := overU_length xs b
  generalize hO : overU xs b = O at hstep hol ⊢
  clear hO
  generalize keyU xs = L at hk hl hstep
  clear hx hn hB
  have Hl := Lib.hid hl; clear hl
  have Hs := Lib.hid hstep; clear hstep
  have Ho := Lib.hid hol; clear hol
  go_enter Tryd.func24, Tryd.ntmps24
  go_wp2_with fail
  refine hk.mono ?_
  rintro e w1 ⟨A1, c1, rfl, hown1, hb1⟩
  go_wp2
  have hr1 := Rd.of_own hown1
  have Hb1 := Lib.hid hb1; clear hb1
  go_loopw [5, 7] (fun v i wr => ∃ (j : Nat) (A' : Option Addr) (c' : Nat), j ≤ 64 ∧ i = .int .i64 j ∧ v = .slice A' j c' ∧
      Hid (wr.ownsRow w1.heap.size 5 1 (.slice A' j c') j (Byt (O.take j))) ∧ Hid (Below w1.heap.size w1 wr)) (fun _ i _ => 64 - (intOf i).toNat)
  case atStart => exact ⟨0, none, 0, Nat.zero_le _, rfl, rfl, Lib.hid (World.ownsRow_nil _ _ _ _), Lib.hid (Below.refl _ _)⟩
  case round =>
    obtain ⟨j, A', c', hj, rfl, rfl, Hown, Hbr⟩ := hrel
    by_cases hlt : j < 64
    · have hjl : j < L.length := by rw [Hl.out]; exact hlt
      obtain ⟨b2, o2, e2, hb2, hc2⟩ := (hr1.below Hbr.out).byte hjl hjl
      subst e2
      have Hz := Lib.hid (xor_u8 L[j] b)
      have hsz := Hbr.out.size
      go_wp2_with (refine wp_append_rd rfl _ _ 22 rfl 5 Tryd.underlying22 (.int .u8 0) 1 (by omega) rfl Tryd.info_u8 w1.heap.size j c' A' _ rfl (Hown.out.alloc _) (wr.heap.size + 1) 1 1 _ _ rfl (Rd.byte1 wr _ _ _ Hz.out) (Byt_one _) (by omega) (by omega) (by simp; omega) w1 w1.heap.size (Hbr.out.alloc hsz _) (Nat.le_refl _) ?_)
      intro A3 c3 w3 hown3 hb3
      rw [← Byt_append, ← Hs.out j hjl] at hown3
      have Hown3 := Lib.hid hown3; clear hown3
      go_wp2
      go_roundw
      case rel => exact ⟨j + 1, A3, c3, by omega, by go_num, rfl, Hown3, Lib.hid hb3⟩
      case measure => simp [intOf]; omega
    · obtain rfl : j = 64 := by omega
      go_wp2
      go_ret
      rw [List.take_of_length_le (by rw [Ho.out]; exact Nat.le_refl _)] at Hown
      exact ⟨A', c', by rw [Ho.out]; rfl, by rw [Ho.out]; exact own_base Hown.out Hb1.out.size, bon Hb1.out Hbr.out⟩

end Go.Proofs.YtcmmfghkjfadcaaDoor

namespace Go.Proofs.YtcmmfghkjfadcaaDoor
open Go.RowKit

set_option maxHeartbeats 1600000 in
theorem rof_any (B n c m d : Nat) (A C : Option Addr) (xs ys : List UInt8) (w : World) (hx : Rd w B A n (Byt xs)) (hok : SlOK A n c) (hn : n ≤ 1099511627776)
    (hy : Rd w B C m (Byt ys)) (hyo : SlOK C m d) (hm : m ≤ 549755813888) (hB : B ≤ w.heap.size) :
    Calls Tryd.prog 11 #[.slice A n c, .slice C m d] w (NewB 5 w (macU xs ys)) := by
  have h1 := rover_any 0x36 B n c A xs w hx hok hn hB
  have hl1 := overU_length xs 0x36
  have hl2 := overU_length xs 0x5c
  have Hm : Hid (macU xs ys = sumU (overU xs 0x5c ++ sumU (overU xs 0x36 ++ ys))) := Lib.hid rfl
  have hyl := hy.bytes
  have Hyl := Lib.hid hyl; clear hyl
  have H2 := Lib.hid (fun W (hb : Below w.heap.size w W) => rover_any 0x5c B n c A xs W (hx.below (hb.mono hB)) hok hn (Nat.le_trans hB hb.size))
  have HY := Lib.hid (fun W (hb : Below w.heap.size w W) => (hy.below (hb.mono hB)).wider (Nat.le_trans hB hb.size))
  generalize overU xs 0x36 = L1 at h1 hl1 Hm
  generalize overU xs 0x5c = L2 at H2 hl2 Hm
  generalize macU xs ys = M at Hm ⊢
  have Hl1 := Lib.hid hl1; clear hl1
  have Hl2 := Lib.hid hl2; clear hl2
  clear hx hy hn hB
  go_enter Tryd.func11, Tryd.ntmps11
  go_wp2_with fail
  refine h1.mono ?_
  rintro e w1 ⟨A1, c1, rfl, hown1, hb1⟩
  have h3 := rjoin_any w1.heap.size L1.length c1 m d A1 C L1 ys w1 (Rd.of_own hown1) (HY.out w1 hb1) (SlOK.of_own hown1) hyo (Nat.le_refl _) (by rw [Hl1.out]; omega)
  have Hb1 := Lib.hid hb1; clear hb1
  clear hown1
  go_wp2_with fail
  refine h3.mono ?_
  rintro e w2 ⟨A2, c2, rfl, hown2, hb2⟩
  have hln : (L1 ++ ys).length ≤ 1099511627776 := by rw [List.length_append, Hl1.out, Hyl.out]; omega
  have h4 := rsum_any w2.heap.size (L1 ++ ys).length c2 A2 (L1 ++ ys) w2 (Rd.of_own hown2) (SlOK.of_own hown2) hln (Nat.le_refl _)
  clear hown2 hln h3
  have Hls : Hid ((sumU (L1 ++ ys)).length = 32) := Lib.hid (sumU_length _)
  generalize sumU (L1 ++ ys) = L3 at h4 Hm Hls
  generalize (L1 ++ ys).length = n2 at h4 ⊢
  have Hb2 := Lib.hid (bon Hb1.out hb2); clear hb2
  go_wp2_with fail
  refine h4.mono ?_
  rintro e w3 ⟨A3, c3, rfl, hown3, hb3⟩
  have Hb3 := Lib.hid (bon Hb2.out hb3); clear hb3
  have h5 := H2.out w3 Hb3.out
  have Hr3 := Lib.hid (Rd.of_own hown3)
  have Ho3 := Lib.hid (SlOK.of_own hown3)
  clear hown3 h4
  go_wp2_with fail
  refine h5.mono ?_
  rintro e w4 ⟨A4, c4, rfl, hown4, hb4⟩
  have h6 := rjoin_any w4.heap.size L2.length c4 L3.length c3 A4 A3 L2 L3 w4 (Rd.of_own hown4) ((Hr3.out.below hb4).wider hb4.size) (SlOK.of_own hown4) Ho3.out (Nat.le_refl _) (by rw [Hl2.out, Hls.out]; omega)
  have Hb4 := Lib.hid (bon Hb3.out hb4); clear hb4
  clear hown4 h5
  go_wp2_with fail
  refine h6.mono ?_
  rintro e w5 ⟨A5, c5, rfl, hown5, hb5⟩
  have hln : (L2 ++ L3).length ≤ 1099511627776 := by rw [List.length_append, Hl2.out, Hls.out]; omega
  have h7 := rsum_any w5.heap.size (L2 ++ L3).length c5 A5 (L2 ++ L3) w5 (Rd.of_own hown5) (SlOK.of_own hown5) hln (Nat.le_refl _)
  rw [← Hm.out] at h7
  have Hb5 := Lib.hid (bon Hb4.out hb5); clear hb5
  clear hown5 hln h6
  generalize (L2 ++ L3).length = n5 at h7 ⊢
  go_wp2_with fail
  refine h7.mono ?_
  rintro e w6 ⟨A6, c6, rfl, hown6, hb6⟩
  have Hb6 := Lib.hid (bon Hb5.out hb6)
  go_wp2
  go_ret
  exact ⟨A6, c6, rfl, own_base hown6 Hb5.out.size, Hb6.out⟩

end Go.Proofs.YtcmmfghkjfadcaaDoor

namespace Go.Proofs.YtcmmfghkjfadcaaDoor
open Go.RowKit

set_option maxHeartbeats 1600000 in
theorem rexpand_in (B n c m d size : Nat) (A I : Option Addr) (ks is : List UInt8) (w : World) (hk : Rd w B A n (Byt ks)) (hko : SlOK A n c) (hn : n ≤ 1099511627776)
    (hi : Rd w B I m (Byt is)) (hio : SlOK I m d) (hm : m ≤ 4294967296) (h1 : 1 ≤ size) (h2 : size ≤ 8160) (hB : B ≤ w.heap.size) :
    Calls Tryd.prog 8 #[.slice A n c, .slice I m d, .int .i64 (size : Int)] w (NewRF w (expU ks is size) 0) := by
  have hel := expU_length ks is h2
  have Hexp := Lib.hid (fun q (hq : q ≤ 255) (h : size ≤ 32 * q) => expU_at ks is hq h)
  have Hel := Lib.hid hel; clear hel
  generalize expU ks is size = X at Hexp Hel ⊢
  have hmax : size ≤ maxLen := by unfold maxLen; omega
  have hml := hi.bytes
  have H1 : Hid (∀ (j tn tc : Nat) (T : Option Addr) (W : World), Below w.heap.size w W → Rd W W.heap.size T tn (Byt (tagU ks is j)) → SlOK T tn tc →
      Calls Tryd.prog 22 #[.slice T tn tc, .slice I m d] W fun e w' => ∃ A1 n1 c1, e = .returned (.slice A1 n1 c1) ∧ n1 ≤ 4294967328 ∧ Hid (Rd w' w'.heap.size A1 n1 (Byt (tagU ks is j ++ is))) ∧ Hid (SlOK A1 n1 c1) ∧ Hid (Below W.heap.size W w')) := Lib.hid (by
    intro j tn tc T W hb ht hto
    have htl := ht.bytes
    have := tagU_le ks is j
    refine (rjoin_any W.heap.size tn tc m d T I _ is W ht ((hi.below (hb.mono hB)).wider (Nat.le_trans hB hb.size)) hto hio (Nat.le_refl _) (by omega)).mono ?_
    rintro e w2 ⟨A1, c1, rfl, hown, hb2⟩
    exact ⟨A1, _, c1, rfl, by rw [List.length_append]; omega, Lib.hid (Rd.of_own hown), Lib.hid (SlOK.of_own hown), Lib.hid hb2⟩)
  have H2 : Hid (∀ (j n1 c1 : Nat) (A1 : Option Addr) (b : UInt8) (z : Int) (W : World), z = (b.toNat : Int) → n1 ≤ 4294967328 → Rd W W.heap.size A1 n1 (Byt (tagU ks is j ++ is)) → SlOK A1 n1 c1 →
      Calls Tryd.prog 22 #[.slice A1 n1 c1, .slice (some ⟨W.heap.size, 0, none⟩) 1 1] (W.alloc (.cells #[.int .u8 z] 5)) fun e w' => ∃ A2 n2 c2, e = .returned (.slice A2 n2 c2) ∧ n2 ≤ 4294967329 ∧ Hid (Rd w' w'.heap.size A2 n2 (Byt (tagU ks is j ++ is ++ [b]))) ∧ Hid (SlOK A2 n2 c2) ∧ Hid (Below W.heap.size W w')) := Lib.hid (by
    intro j n1 c1 A1 b z W hz hn1 hr ho
    have hal : Below W.heap.size W (W.alloc (.cells #[.int .u8 z] 5)) := (Below.refl _ _).alloc (Nat.le_refl _) _
    have hr1 := hr.bytes
    have hb1 := Rd.byte1 W 5 z b hz
    rw [show W.heap.size + 1 = (W.alloc (.cells #[.int .u8 z] 5)).heap.size by simp] at hb1
    refine (rjoin_any _ n1 c1 1 1 A1 _ _ _ _ ((hr.below hal).wider hal.size) hb1 ho (.inr ⟨_, rfl, Nat.le_refl _, by decide⟩) (Nat.le_refl _) (by omega)).mono ?_
    rintro e w2 ⟨A2, c2, rfl, hown, hb2⟩
    exact ⟨A2, _, c2, rfl, by rw [List.length_append, hr1]; show n1 + 1 ≤ _; omega, Lib.hid (Rd.of_own hown), Lib.hid (SlOK.of_own hown), Lib.hid (bon hal hb2)⟩)
  have H3 : Hid (∀ (j n2 c2 : Nat) (A2 : Option Addr) (W : World), Below w.heap.size w W → n2 ≤ 4294967329 → Rd W W.heap.size A2 n2 (Byt (tagU ks is j ++ is ++ [UInt8.ofNat (j + 1)])) → SlOK A2 n2 c2 →
      Calls Tryd.prog 11 #[.slice A n c, .slice A2 n2 c2] W fun e w' => ∃ A3 c3, e = .returned (.slice A3 32 c3) ∧ Hid (w'.ownsRow W.heap.size 5 1 (.slice A3 32 c3) 32 (Byt (tagU ks is (j + 1)))) ∧ Hid (Below W.heap.size W w')) := Lib.hid (by
    intro j n2 c2 A2 W hb hn2 hr ho
    refine (rof_any W.heap.size n c n2 c2 A A2 ks _ W ((hk.below (hb.mono hB)).wider (Nat.le_trans hB hb.size)) hko hn hr ho (by omega) (Nat.le_refl _)).mono ?_
    rintro e w2 ⟨A3, c3, rfl, hown, hb2⟩
    rw [macU_length] at hown
    exact ⟨A3, c3, by rw [macU_length], Lib.hid hown, Lib.hid hb2⟩)
  have Hlen := Lib.hid (tagsU_length ks is)
  have Hstep := Lib.hid (fun q => show tagsU ks is q ++ tagU ks is (q + 1) = tagsU ks is (q + 1) from rfl)
  clear hk hi hko hio hml
  go_enter Tryd.func8, Tryd.ntmps8
  go_wp2
  go_loopw [8, 9, 10] (fun v t i wr => ∃ (q mm c' tn tc : Nat) (A' T : Option Addr), q ≤ 255 ∧ Hid (mm = 32 * q) ∧ (q < 255 ∨ size ≤ mm) ∧ Hid (mm < size + 32) ∧ i = .int .i64 ((q : Int) + 1) ∧ v = .slice A' mm c' ∧ t = .slice T tn tc ∧
      Hid (wr.ownsRow w.heap.size 5 1 (.slice A' mm c') mm (Byt (tagsU ks is q))) ∧ Hid (Rd wr wr.heap.size T tn (Byt (tagU ks is q))) ∧ Hid (SlOK T tn tc) ∧ Hid (Below w.heap.size w wr)) (fun _ _ i _ => 257 - (intOf i).toNat)
  case atStart => exact ⟨0, 0, 0, 0, 0, none, none, by omega, Lib.hid (by omega), by omega, Lib.hid (by omega), rfl, rfl, rfl, Lib.hid (World.ownsRow_nil _ _ _ _), Lib.hid Rd.nil, Lib.hid SlOK.nil, Lib.hid (Below.refl _ _)⟩
  case round =>
    obtain ⟨q, mm, c', tn, tc, A', T, hq2, Hmm, hor, Hlt, rfl, rfl, rfl, Hown, Ht, Hto, Hb⟩ := hrel
    by_cases hend : size ≤ mm
    · have hx := Hexp.out q hq2 (by have := Hmm.out; omega)
      have hr := (Rd.of_own Hown.out).front hend
      rw [hx] at hr
      obtain ⟨g, rfl, -, -⟩ := own_some Hown.out (by omega)
      have hcap : mm ≤ c' ∧ c' ≤ maxLen := (SlOK.of_own Hown.out).le
      have hcap2 : c' ≤ 9223372036854775807 := by unfold maxLen at hcap; omega
      have Hfin : Hid (NewRF w X 0 (.returned (.tuple #[.slice (some ⟨g, 0, none⟩) size c', .int .i64 0])) wr) := Lib.hid ⟨_, c', by rw [Hel.out], by rw [Hel.out]; exact hr, .inr ⟨_, rfl, by rw [Hel.out]; omega, hcap.2⟩, Hb.out⟩
      have hsc : size ≤ c' := by omega
      clear hx hr
      go_wp2
      go_ret2
      exact Hfin.out
    · have hq : q < 255 := by omega
      have h3 := H1.out q tn tc T wr Hb.out Ht.out Hto.out
      have Hu : Hid ((q : Int) + 1 = ((UInt8.ofNat (q + 1)).toNat : Int)) := Lib.hid (by rw [u8_of]; omega)
      go_wp2_with fail
      refine h3.mono ?_
      rintro e w2 ⟨A2, n2, c2, rfl, hn2, Hr2, Ho2, Hb2⟩
      have Hb2' := Lib.hid (bon Hb.out Hb2.out)
      clear h3
      go_wp2_with fail
      refine (H2.out q n2 c2 A2 _ _ w2 Hu.out hn2 Hr2.out Ho2.out).mono ?_
      rintro e w3 ⟨A3, n3, c3, rfl, hn3, Hr3, Ho3, Hb3⟩
      have Hb3' := Lib.hid (bon Hb2'.out Hb3.out)
      have h4 := H3.out q n3 c3 A3 w3 Hb3'.out hn3 Hr3.out Ho3.out
      go_wp2_with fail
      refine h4.mono ?_
      rintro e w4 ⟨A4, c4, rfl, Hr4, Hb4⟩
      have Hb4' := Lib.hid (bon Hb3'.out Hb4.out)
      have hg : Below wr.heap.size wr w4 := bon (bon Hb2.out Hb3.out) Hb4.out
      have Hown4 : Hid (w4.ownsRow w.heap.size 5 1 (.slice A' mm c') mm (Byt (tagsU ks is q))) := Lib.hid (own_below Hown.out hg (Nat.le_refl _))
      have hsz := Hb4'.out.size
      have hsz4 : wr.heap.size ≤ w3.heap.size := (bon Hb2.out Hb3.out).size
      clear hg h4
      have hmx : mm ≤ 16384 := by have := Hlt.out; omega
      go_wp2_with (refine wp_append_foot rfl _ _ 22 rfl 5 Tryd.underlying22 (.int .u8 0) 1 (by omega) rfl Tryd.info_u8 w.heap.size mm c' A' _ rfl Hown4.out w4.heap.size 32 c4 A4 _ rfl (Rd.of_own Hr4.out) (SlOK.of_own Hr4.out) (Byt_one _) (by omega) hsz ?_)
      intro A5 c5 w5 hown5 hg5 hat5
      have Hb5 : Hid (Below w.heap.size w w5) := Lib.hid (Hb4'.out.grown hg5 hsz (fun k hk => (Hown4.out.lt k hk).1))
      rw [← Byt_append, Hstep.out q] at hown5
      have Ho5 : Hid (w5.ownsRow w3.heap.size 5 1 (.slice A4 32 c4) 32 (Byt (tagU ks is (q + 1)))) := Lib.hid (own_grown Hr4.out hg5 (fun k hk hk2 => by
        have h1 := (Hr4.out.lt k hk).1
        have h2 := (Hown.out.lt k hk2.symm).2
        omega))
      have Hown5 := Lib.hid hown5; clear hown5 hat5 hg5
      go_wp2
      go_roundw
      case rel => exact ⟨q + 1, mm + 32, c5, 32, c4, A5, A4, by omega, Lib.hid (by have := Hmm.out; omega), by have := Hmm.out; omega, Lib.hid (by omega), by go_num, rfl, rfl, Hown5, Lib.hid (Rd.of_own Ho5.out), Lib.hid (SlOK.of_own Ho5.out), Hb5⟩
      case measure => simp [intOf]; omega

end Go.Proofs.YtcmmfghkjfadcaaDoor

namespace Go.Proofs.YtcmmfghkjfadcaaDoor
open Go.RowKit

set_option maxHeartbeats 400000 in
theorem rexpand_out (A I : Option Addr) (n c m d : Nat) (z : Int) (w : World) (h : z < 1 ∨ 8160 < z) :
    Calls Tryd.prog 8 #[.slice A n c, .slice I m d, .int .i64 z] w (NewRF w [] 2) := by
  rcases h with h | h
  all_goals
    go_enter Tryd.func8, Tryd.ntmps8
    go_wp2
    go_ret2
    exact ⟨none, 0, rfl, Rd.nil, SlOK.nil, Below.refl _ _⟩

theorem rexpand_any (B n c m d : Nat) (A I : Option Addr) (ks is : List UInt8) (z : Int) (w : World) (hk : Rd w B A n (Byt ks)) (hko : SlOK A n c) (hn : n ≤ 1099511627776)
    (hi : Rd w B I m (Byt is)) (hio : SlOK I m d) (hm : m ≤ 4294967296) (hB : B ≤ w.heap.size) :
    Calls Tryd.prog 8 #[.slice A n c, .slice I m d, .int .i64 z] w (NewRF w (expR ks is z) (expF z)) := by
  by_cases h : 1 ≤ z ∧ z ≤ 8160
  · obtain ⟨k, rfl⟩ := Int.eq_ofNat_of_zero_le (show 0 ≤ z by omega)
    rw [expR, expF, if_pos h, if_pos h, Int.toNat_natCast]
    exact rexpand_in B n c m d k A I ks is w hk hko hn hi hio hm (by omega) (by omega) hB
  · rw [expR, expF, if_neg h, if_neg h]
    exact rexpand_out A I n c m d z w (by omega)

end Go.Proofs.YtcmmfghkjfadcaaDoor

namespace Go.Proofs.YtcmmfghkjfadcaaDoor
open Go.RowKit

set_option maxHeartbeats 400000 in
theorem extract_any (B n c m d : Nat) (A C : Option Addr) (xs ys : List UInt8) (w : World) (hx : Rd w B A n (Byt xs)) (hok : SlOK A n c) (hn : n ≤ 1099511627776)
    (hy : Rd w B C m (Byt ys)) (hyo : SlOK C m d) (hm : m ≤ 549755813888) (hB : B ≤ w.heap.size) (hK : KsAt w) :
    Calls Tryd.prog 10 #[.slice A n c, .slice C m d] w (NewB 5 w (macU xs ys)) := by
  have h := of_any B n c m d A C xs ys w hx hok hn hy hyo hm hB hK
  clear hx hy hB
  generalize macU xs ys = M at h ⊢
  go_enter Tryd.func10, Tryd.ntmps10
  go_wp2_with fail
  refine h.mono ?_
  rintro e w1 ⟨A1, c1, rfl, hown1, hb1⟩
  go_wp2
  go_ret
  exact ⟨A1, c1, rfl, hown1, hb1⟩

end Go.Proofs.YtcmmfghkjfadcaaDoor

namespace Go.Proofs.YtcmmfghkjfadcaaDoor
open Go.RowKit

set_option maxHeartbeats 400000 in
theorem mix_any (B n c m d : Nat) (A C : Option Addr) (xs ys : List UInt8) (w : World) (hx : Rd w B A n (Byt xs)) (hok : SlOK A n c) (hn : n ≤ 1099511627776)
    (hy : Rd w B C m (Byt ys)) (hyo : SlOK C m d) (hm : m ≤ 549755813888) (hB : B ≤ w.heap.size) (hK : KsAt w) :
    Calls Tryd.prog 14 #[.slice A n c, .slice C m d] w (NewB 5 w (macU xs ys)) := by
  have h := extract_any B n c m d A C xs ys w hx hok hn hy hyo hm hB hK
  clear hx hy hB
  generalize macU xs ys = M at h ⊢
  go_enter Tryd.func14, Tryd.ntmps14
  go_wp2_with fail
  refine h.mono ?_
  rintro e w1 ⟨A1, c1, rfl, hown1, hb1⟩
  go_wp2
  go_ret
  exact ⟨A1, c1, rfl, hown1, hb1⟩

end Go.Proofs.YtcmmfghkjfadcaaDoor

namespace Go.Proofs.YtcmmfghkjfadcaaDoor
open Go.RowKit

/-- The label behind what keeps it apart, as a text. -/
theorem rahead_add (P : Program) (w : World) (s : ByteArray) (hs : s.size ≤ 1099511627776) : ∃ T : ByteArray, (Op.stringOp .add (⟨#[111, 117, 98, 108, 105, 101, 116, 116, 101, 32]⟩ : ByteArray) s).run P w = .ok (.string T) w ∧ T.size = s.size + 10 ∧ T.data.toList = aheadU ++ s.data.toList := by
  refine ⟨⟨#[111, 117, 98, 108, 105, 101, 116, 116, 101, 32]⟩ ++ s, run_string_add_sum _ _ _ ?_, ?_, ?_⟩
  · rw [show (⟨#[111, 117, 98, 108, 105, 101, 116, 116, 101, 32]⟩ : ByteArray).size = 10 from rfl]; omega
  · rw [ByteArray.size_append, show (⟨#[111, 117, 98, 108, 105, 101, 116, 116, 101, 32]⟩ : ByteArray).size = 10 from rfl]; omega
  · rw [ByteArray.data_append, Array.toList_append]; rfl

set_option maxHeartbeats 1600000 in
theorem rderive_any (B n c : Nat) (A : Option Addr) (ks : List UInt8) (s : ByteArray) (w : World) (hk : Rd w B A n (Byt ks)) (hko : SlOK A n c) (hn : n ≤ 1099511627776) (hs : s.size ≤ 1073741824) (hB : B ≤ w.heap.size) :
    Calls Tryd.prog 13 #[.slice A n c, .string s] w (NewR w (deriveU ks s.data.toList)) := by
  obtain ⟨T, hadd, hTs, hTl⟩ := rahead_add Tryd.prog w s (by omega)
  have hinfo : infoU s.data.toList = [0, 32, UInt8.ofNat T.size] ++ (aheadU ++ s.data.toList) := by
    rw [infoU, List.length_append, aheadU_length, str_len, show 10 + s.size = T.size by omega]
  have hil := infoU_length s.data.toList
  rw [str_len] at hil
  have hD : deriveU ks s.data.toList = expU ks (infoU s.data.toList) 32 := rfl
  rw [hD]
  generalize infoU s.data.toList = I at hinfo hil ⊢
  have Hexp : Hid (∀ nx cx Ax W, Below w.heap.size w W → nx = s.size + 13 → Rd W W.heap.size Ax nx (Byt I) → SlOK Ax nx cx → Calls Tryd.prog 8 #[.slice A n c, .slice Ax nx cx, .int .i64 ((32 : Nat) : Int)] W (NewRF W (expU ks I 32) 0)) := Lib.hid (fun nx cx Ax W hb hnx hx hxo =>
    rexpand_in W.heap.size n c nx cx 32 A Ax ks I W ((hk.below (hb.mono hB)).wider (Nat.le_trans hB hb.size)) hko hn hx hxo (by omega) (by decide) (by decide) (Nat.le_refl _))
  have Hel : Hid ((expU ks I 32).length = 32) := Lib.hid (expU_length _ _ (by decide))
  generalize expU ks I 32 = X at Hexp Hel ⊢
  -- the three bytes, and the text's bytes behind them
  have hlit : ∀ z : Int, z = ((UInt8.ofNat T.size).toNat : Int) → Rd (w.alloc (.cells #[.int .u8 0, .int .u8 32, .int .u8 z] 5)) (w.heap.size + 1) (some ⟨w.heap.size, 0, none⟩) 3 (Byt [0, 32, UInt8.ofNat T.size]) := by
    intro z hz
    subst hz
    exact Rd.new w 5 #[.int .u8 0, .int .u8 32, .int .u8 ((UInt8.ofNat T.size).toNat : Int)] (n := 3) rfl
  have hz : (T.size : Int) % 256 = ((UInt8.ofNat T.size).toNat : Int) := (u8_of _).symm
  have hr1 := hlit _ hz
  have hb1 : Below w.heap.size w (w.alloc (.cells #[.int .u8 0, .int .u8 32, .int .u8 ((T.size : Int) % 256)] 5)) := (Below.refl _ _).alloc (Nat.le_refl _) _
  have hs1 : w.heap.size + 1 = (w.alloc (.cells #[.int .u8 0, .int .u8 32, .int .u8 ((T.size : Int) % 256)] 5)).heap.size := by simp
  rw [hs1] at hr1
  have hconv := conv_bytes Tryd.prog (w.alloc (.cells #[.int .u8 0, .int .u8 32, .int .u8 ((T.size : Int) % 256)] 5)) 9 22 5 T Tryd.underlying9 Tryd.underlying22 Tryd.underlying5 (by unfold maxLen; omega)
  rw [← hs1] at hconv
  obtain ⟨c0, o, hcv, hrT, hoT⟩ := hconv
  rw [hTl] at hrT
  have hbd : Below (w.heap.size + 1) (w.alloc (.cells #[.int .u8 0, .int .u8 32, .int .u8 ((T.size : Int) % 256)] 5)) ((w.alloc (.cells #[.int .u8 0, .int .u8 32, .int .u8 ((T.size : Int) % 256)] 5)).drew.alloc o) := by
    rw [hs1]; exact ((Below.refl _ (w.alloc (.cells #[.int .u8 0, .int .u8 32, .int .u8 ((T.size : Int) % 256)] 5))).drew).alloc (Nat.le_refl _) _
  have hs2 : ((w.alloc (.cells #[.int .u8 0, .int .u8 32, .int .u8 ((T.size : Int) % 256)] 5)).drew.alloc o).heap.size = w.heap.size + 1 + 1 := by simp
  rw [← hs1] at hr1
  have hr2 := hr1.below hbd
  have hb2 : Below w.heap.size w ((w.alloc (.cells #[.int .u8 0, .int .u8 32, .int .u8 ((T.size : Int) % 256)] 5)).drew.alloc o) := hb1.trans (hbd.mono (Nat.le_succ _))
  clear hlit hr1 hb1 hbd
  have hj := rjoin_any (w.heap.size + 1 + 1) 3 3 T.size c0 (some ⟨w.heap.size, 0, none⟩) (some ⟨w.heap.size + 1, 0, none⟩) _ _ ((w.alloc (.cells #[.int .u8 0, .int .u8 32, .int .u8 ((T.size : Int) % 256)] 5)).drew.alloc o)
    (hr2.wider (Nat.le_succ _)) hrT (.inr ⟨_, rfl, Nat.le_refl _, by decide⟩) hoT (by rw [hs2]; exact Nat.le_refl _) (by omega)
  rw [← hinfo] at hj
  have htz : T.size ≤ 9223372036854775807 := by omega
  have Hb2 := Lib.hid hb2; clear hb2
  have Hil := Lib.hid hil; clear hil
  have hil2 := Hil.out
  unfold NewB at hj
  rw [hil2] at hj
  have Hj := Lib.hid hj
  clear hil2 hj hr2 hrT hinfo hTl hs1 hs2 hD hz hTs hk hoT
  obtain ⟨tz, htz0⟩ : ∃ tz, T.size = tz := ⟨_, rfl⟩
  rw [htz0] at hcv Hb2 htz Hj
  go_enter Tryd.func13, Tryd.ntmps13
  go_wp2_with fail
  refine Hj.out.mono ?_
  rintro e w3 ⟨A3, c3, rfl, hown3, hb3⟩
  have Hb3 := Lib.hid (bon Hb2.out hb3)
  have h6 := Hexp.out _ c3 A3 w3 Hb3.out rfl (Rd.of_own hown3) (SlOK.of_own hown3)
  clear hown3 hb3 Hj Hb2
  go_wp2_with fail
  refine h6.mono ?_
  rintro e w6 ⟨A6, c6, rfl, hr6, ho6, hb6⟩
  have Hb6 := Lib.hid (bon Hb3.out hb6)
  have Hr6 := Lib.hid hr6
  have Ho6 := Lib.hid ho6
  clear hr6 ho6 hb6 h6
  go_wp2
  go_ret
  exact ⟨A6, c6, rfl, Hr6.out, Ho6.out, Hb6.out⟩

end Go.Proofs.YtcmmfghkjfadcaaDoor

namespace Go.Proofs.YtcmmfghkjfadcaaDoor
open Go.RowKit

set_option maxHeartbeats 1600000 in
theorem rchain_any (B n c : Nat) (A : Option Addr) (ks : List UInt8) (s : ByteArray) (z : Int) (w : World) (hk : Rd w B A n (Byt ks)) (hko : SlOK A n c) (hn : n ≤ 1073741824) (hs : s.size ≤ 1073741824) (hB : B ≤ w.heap.size) :
    Calls Tryd.prog 17 #[.slice A n c, .string s, .int .i64 z] w (NewR w (chainU ks s.data.toList (min z 1000).toNat)) := by
  have hkl := hk.bytes
  have Hst : Hid (∀ (j tn tc : Nat) (T : Option Addr) (W : World), Below w.heap.size w W → Rd W W.heap.size T tn (Byt (chainU ks s.data.toList j)) → SlOK T tn tc →
      Calls Tryd.prog 13 #[.slice T tn tc, .string s] W (NewR W (chainU ks s.data.toList (j + 1)))) := Lib.hid (fun j tn tc T W hb hr ho =>
    rderive_any W.heap.size tn tc T _ s W hr ho (by have := hr.bytes; have := chainU_le ks s.data.toList j; omega) hs (Nat.le_refl _))
  have Hkl := Lib.hid hkl; clear hkl
  go_enter Tryd.func17, Tryd.ntmps17
  go_wp2_with (refine wp_append_foot rfl _ _ 22 rfl 5 Tryd.underlying22 (.int .u8 0) 1 (by omega) rfl Tryd.info_u8 w.heap.size 0 0 (some ⟨w.heap.size, 0, none⟩) _ rfl (own_lit0 w _) B n c A _ rfl (hk.alloc hB _) hko (Byt_one _) (by omega) (by simp) ?_)
  intro A1 c1 w1 hown1 hg1 hat1
  have Hb1 : Hid (Below w.heap.size w w1) := Lib.hid (((Below.refl w.heap.size w).alloc (Nat.le_refl _) _).grown hg1 (by simp) (fun k hk => by simp [Value.ownBlock] at hk; omega))
  rw [← Byt_append, List.nil_append] at hown1
  have Hr1 := Lib.hid (Rd.of_own hown1)
  have Ho1 := Lib.hid (SlOK.of_own hown1)
  clear hown1 hg1 hat1 hk hko
  go_wp2
  go_loopw [7, 8] (fun v i wr => ∃ (j tn tc : Nat) (T : Option Addr), j ≤ (min z 1000).toNat ∧ i = .int .i64 (j : Int) ∧ v = .slice T tn tc ∧ Hid (Rd wr wr.heap.size T tn (Byt (chainU ks s.data.toList j))) ∧ Hid (SlOK T tn tc) ∧ Hid (Below w.heap.size w wr)) (fun _ i _ => 1000 - (intOf i).toNat)
  case atStart => exact ⟨0, _, c1, A1, Nat.zero_le _, rfl, rfl, Hr1, Ho1, Hb1⟩
  case round =>
    obtain ⟨j, tn, tc, T, hj, rfl, rfl, Hr, Ho, Hb⟩ := hrel
    have hfin : ¬ ((j : Int) < z ∧ (j : Int) < 1000) → NewR w (chainU ks s.data.toList (min z 1000).toNat) (.returned (.slice T tn tc)) wr := by
      intro h
      obtain rfl : j = (min z 1000).toNat := by omega
      have hx := Hr.out.bytes
      subst hx
      exact ⟨T, tc, rfl, Hr.out, Ho.out, Hb.out⟩
    have Hfin := Lib.hid hfin; clear hfin
    by_cases hz : (j : Int) < z
    · by_cases ht : (j : Int) < 1000
      · have h2 := Hst.out j tn tc T wr Hb.out Hr.out Ho.out
        have Hj : Hid (j + 1 ≤ (min z 1000).toNat) := Lib.hid (by omega)
        clear hj
        go_wp2_with fail
        refine h2.mono ?_
        rintro e w2 ⟨A2, c2, rfl, hr2, ho2, hb2⟩
        have Hr2 := Lib.hid hr2
        have Ho2 := Lib.hid ho2
        have Hb2 := Lib.hid (bon Hb.out hb2)
        clear hr2 ho2 hb2 h2
        go_wp2
        go_roundw
        case rel => exact ⟨j + 1, _, c2, A2, Hj.out, by go_num, rfl, Hr2, Ho2, Hb2⟩
        case measure => simp [intOf]; omega
      · clear hj
        go_wp2
        go_ret
        exact Hfin.out (by omega)
    · clear hj
      go_wp2
      go_ret
      exact Hfin.out (by omega)

end Go.Proofs.YtcmmfghkjfadcaaDoor

namespace Go.Proofs.YtcmmfghkjfadcaaDoor
open Go.RowKit

set_option maxHeartbeats 400000 in
theorem rmix_any (B n c m d : Nat) (A C : Option Addr) (xs ys : List UInt8) (w : World) (hx : Rd w B A n (Byt xs)) (hok : SlOK A n c) (hn : n ≤ 1099511627776)
    (hy : Rd w B C m (Byt ys)) (hyo : SlOK C m d) (hm : m ≤ 549755813888) (hB : B ≤ w.heap.size) :
    Calls Tryd.prog 15 #[.slice A n c, .slice C m d] w (NewB 5 w (macU xs ys)) := by
  have h := rof_any B n c m d A C xs ys w hx hok hn hy hyo hm hB
  clear hx hy hB
  generalize macU xs ys = M at h ⊢
  go_enter Tryd.func15, Tryd.ntmps15
  go_wp2_with fail
  refine h.mono ?_
  rintro e w1 ⟨A1, c1, rfl, hown1, hb1⟩
  go_wp2
  go_ret
  exact ⟨A1, c1, rfl, hown1, hb1⟩

end Go.Proofs.YtcmmfghkjfadcaaDoor

namespace Go.Proofs.YtcmmfghkjfadcaaDoor
open Go.RowKit

set_option maxHeartbeats 400000 in
theorem rsame_any (B n m c d : Nat) (A C : Option Addr) (xs ys : List UInt8) (w : World) (hx : Rd w B A n (Byt xs)) (hy : Rd w B C m (Byt ys)) (hn : n ≤ maxLen) (hm : m ≤ maxLen) :
    Calls Tryd.prog 9 #[.slice A n c, .slice C m d] w (Ans w (.bool (sameL xs ys))) := by
  unfold maxLen at hn hm
  have hxl := hx.bytes
  have hyl := hy.bytes
  have Hx := Lib.hid hxl; clear hxl
  have Hy := Lib.hid hyl; clear hyl
  by_cases hnm : n = m
  · subst hnm
    go_enter Tryd.func9, Tryd.ntmps9
    go_wp2
    go_loopw [5] (fun i wr => ∃ k j : Nat, k ≤ n ∧ i = .int .i64 k ∧ xs.take k = ys.take k ∧ wr = w.drewN j) (fun i _ => n - (intOf i).toNat)
    case atStart => exact ⟨0, 0, Nat.zero_le _, rfl, rfl, rfl⟩
    case round =>
      obtain ⟨k, j, hk, rfl, ht, rfl⟩ := hrel
      have Ht := Lib.hid ht; clear ht
      by_cases hlt : k < n
      · have hkx : k < xs.length := by rw [Hx.out]; exact hlt
        have hky : k < ys.length := by rw [Hy.out]; exact hlt
        obtain ⟨b, o, rfl, hb, hc⟩ := hx.byte hlt hkx
        obtain ⟨b', o', rfl, hb', hc'⟩ := hy.byte hlt hky
        go_wp2
        go_quiet (fail)
        go_wp2
        · have h := same_not hkx hky (by assumption)
          go_ret
          exact ⟨by rw [h]; rfl, by first | exact bdrewN (Below.refl _ _) _ | exact bdrewN (bdrewN (Below.refl _ _) _) _⟩
        · have h := same_step hkx hky Ht.out (by assumption)
          go_roundw
          case rel => exact ⟨k + 1, _, by omega, by go_num, h, rfl⟩
          case measure => simp [intOf]; omega
      · have h := same_all (by rw [Hx.out]; omega) (by rw [Hy.out]; omega) Ht.out
        go_wp2
        go_ret
        exact ⟨by rw [h]; rfl, by first | exact bdrewN (Below.refl _ _) _ | exact bdrewN (bdrewN (Below.refl _ _) _) _⟩
  · have hne : (((n : Nat) : Int) != (m : Int)) = true := by simp; omega
    have h : sameL xs ys = false := decide_eq_false (fun e => hnm (by rw [← Hx.out, ← Hy.out, e]))
    have H := Lib.hid h; clear h
    go_enter Tryd.func9, Tryd.ntmps9
    go_wp2
    go_ret
    exact ⟨by rw [H.out]; rfl, Below.refl _ _⟩


end Go.Proofs.YtcmmfghkjfadcaaDoor

namespace Go.Proofs.YtcmmfghkjfadcaaDoor

theorem own : ownKnob Tryd.prog.godebug = none := by kernel_rfl
theorem laidOut : laidOutB Tryd.prog = true := by kernel_rfl
theorem cells_u8 : Tryd.prog.cellsOf 5 = 1 := by kernel_rfl

end Go.Proofs.YtcmmfghkjfadcaaDoor

/-
  A table among the listed variables, at every world of a call. No program is named here.
-/
namespace Go.Proofs.YtcmmfghkjfadcaaDoor
open Go.RowKit

/-- A table among the listed variables. -/
theorem tabIs_mem {P : Program} {W : World} {name : String} {k : IntKind} {zs : List Int} {g : Nat} {t e : TypeId} {n : Nat}
    (hg : P.globalNamed name = some g) (hty : (P.globals[g]?).map (·.type) = some t) (ht : P.underlying t = some (.array n e)) (he : P.underlying e = some (.int k)) (hce : P.cellsOf e = 1) (hct : P.cellsOf t = n) :
    ∀ (l : List (String × DataW Unit)) (ps : List MemPlace), DataW.LaidVars P W l ps → (name, Lib.tabData k zs) ∈ l → Lib.TabIs P W name k zs
  | [], _, _, hm => by cases hm
  | (n', d') :: r, ps, h, hm => by
    obtain ⟨g', t', cs, fuel, p, q, hg', ht', hvar, hd, hr, _⟩ := h
    rcases List.mem_cons.1 hm with e1 | hm
    · injection e1 with e1 e2
      subst e1
      subst e2
      obtain rfl := Option.some.inj (hg.symm.trans hg')
      obtain rfl := Option.some.inj (hty.symm.trans ht')
      unfold Lib.TabIs
      rw [hvar, ← Lib.cells_of_tab ht he hce hct hd]
    · exact tabIs_mem hg hty ht he hce hct r q hr hm

end Go.Proofs.YtcmmfghkjfadcaaDoor

/-
  What the rows' listed variable gives: the numbers of the rounds, at the world of a call.
-/
namespace Go.Proofs.YtcmmfghkjfadcaaDoor
open Go.ChangeShapes Go.WideShapes Go.ChangeAt Go.RowKit

theorem ks_laid : (Rows.laid_oubliette_sha_cubeRoots : DataW Unit) = Lib.tabData .u32 (ksU.map fun (n : Nat) => (n : Int)) := by kernel_rfl
theorem ks_of {W : World} {ps : List MemPlace} (h : DataW.LaidVars Tryd.prog W [("oubliette/sha.cubeRoots", Rows.laid_oubliette_sha_cubeRoots)] ps) : KsAt W := by
  rw [ks_laid] at h
  have ht := tabIs_mem (g := 1) (t := 44) (e := 43) (n := 64) (by kernel_rfl) (by kernel_rfl) (by kernel_rfl) Tryd.underlying43 (by kernel_rfl) (by kernel_rfl) _ ps h (List.mem_singleton.2 rfl)
  intro i hi
  have hc := ht.cell (g := 1) (by kernel_rfl) i (by rw [List.length_map]; exact hi)
  rw [hc, List.getD_eq_getElem?_getD, List.getElem?_map, List.getElem?_eq_getElem (show i < ksU.length from hi)]
  rfl

end Go.Proofs.YtcmmfghkjfadcaaDoor

/-
  Rows of fields (a struct of two ints, a number and bytes). No program is named here.
-/
namespace Go.Proofs.YtcmmfghkjfadcaaDoor
open Go.RowKit

/-- A field: what it holds, and where its bytes lie. -/
structure Fld where
  kind : Int
  size : Int
  num : Nat
  A : Option Addr
  m : Nat
  c : Nat
  bs : List UInt8
instance : Inhabited Fld := ⟨⟨0, 0, 0, none, 0, 0, []⟩⟩
def Fld.cells (f : Fld) : Array Value := #[.int .i64 f.kind, .int .i64 f.size, .int .u64 (f.num : Int), .slice f.A f.m f.c]
/-- What the field's parts keep. -/
structure FldOK (w : World) (B : Nat) (f : Fld) : Prop where
  kind : -9223372036854775808 ≤ f.kind ∧ f.kind ≤ 9223372036854775807
  size : -9223372036854775808 ≤ f.size ∧ f.size ≤ 9223372036854775807
  num : f.num < 18446744073709551616
  ok : SlOK f.A f.m f.c
  rd : Rd w B f.A f.m (Byt f.bs)
/-- The slice reads as fields: four cells each. -/
def Flds (w : World) (B : Nat) (A : Option Addr) (n : Nat) (fs : List Fld) : Prop :=
  fs.length = n ∧ (∀ f ∈ fs, FldOK w B f) ∧ (0 < n → ∃ b o, A = some ⟨b, o, none⟩ ∧ b < B ∧ ∀ j (hj : j < fs.length),
    w.cell? ⟨b, o + j * 4, none⟩ = some (.int .i64 fs[j].kind) ∧ w.cell? ⟨b, o + j * 4 + 1, none⟩ = some (.int .i64 fs[j].size) ∧ w.cell? ⟨b, o + j * 4 + 2, none⟩ = some (.int .u64 (fs[j].num : Int)) ∧ w.cell? ⟨b, o + j * 4 + 3, none⟩ = some (.slice fs[j].A fs[j].m fs[j].c))
section
variable {w w' : World} {B n : Nat} {A : Option Addr} {fs : List Fld}
theorem FldOK.keep {f : Fld} (h : FldOK w B f) (hk : ∀ p : Addr, p.block < B → w'.cell? p = w.cell? p) : FldOK w' B f := ⟨h.kind, h.size, h.num, h.ok, h.rd.keep hk⟩
theorem Flds.keep (h : Flds w B A n fs) (hk : ∀ p : Addr, p.block < B → w'.cell? p = w.cell? p) : Flds w' B A n fs :=
  ⟨h.1, fun f hf => (h.2.1 f hf).keep hk, fun hn => by
    obtain ⟨b, o, e, hb, hc⟩ := h.2.2 hn
    exact ⟨b, o, e, hb, fun j hj => by
      obtain ⟨h0, h1, h2, h3⟩ := hc j hj
      exact ⟨(hk _ hb).trans h0, (hk _ hb).trans h1, (hk _ hb).trans h2, (hk _ hb).trans h3⟩⟩⟩
theorem Flds.below (h : Flds w B A n fs) (hb : Below B w w') : Flds w' B A n fs := h.keep fun _ hp => hb.cell hp
theorem Flds.get (h : Flds w B A n fs) {j : Nat} (hj : j < fs.length) : FldOK w B fs[j] := h.2.1 _ (List.getElem_mem hj)
theorem Flds.at_ (h : Flds w B A n fs) {j : Nat} (hj : j < fs.length) : ∃ b o, A = some ⟨b, o, none⟩ ∧ b < B ∧
    w.cell? ⟨b, o + j * 4, none⟩ = some (.int .i64 fs[j].kind) ∧ w.cell? ⟨b, o + j * 4 + 1, none⟩ = some (.int .i64 fs[j].size) ∧ w.cell? ⟨b, o + j * 4 + 2, none⟩ = some (.int .u64 (fs[j].num : Int)) ∧ w.cell? ⟨b, o + j * 4 + 3, none⟩ = some (.slice fs[j].A fs[j].m fs[j].c) := by
  obtain ⟨b, o, e, hb, hc⟩ := h.2.2 (by have := h.1; omega)
  exact ⟨b, o, e, hb, hc j hj⟩
end

end Go.Proofs.YtcmmfghkjfadcaaDoor

/-
  A slice of fields that came in. No program is named here.
-/
namespace Go.Proofs.YtcmmfghkjfadcaaDoor
open Go.ChangeShapes Go.WideShapes Go.ChangeAt Go.RowKit

section
variable {H : Type} {enc : TypeId × Value → H} {P : Program} {w : World} {base : Nat} {held : Bool}

/-- A slice of bytes in a cell. -/
theorem bytes_cell {t e : TypeId} (ht : P.underlying t = some (.slice e)) (he : P.underlying e = some (.int .u8)) (hc : P.cellsOf e = 1)
    {fuel : Nat} {v : Value} {x : DataW H × List MemPlace} (hf : DataW.trod enc P w base (fun _ => true) held fuel t [v] = some x) (hlt : ∀ p ∈ x.2, p.block < w.heap.size) :
    ∃ A n c bs, v = .slice A n c ∧ SlOK A n c ∧ Rd w w.heap.size A n (Byt bs) := by
  rcases open_ints ht he hc hf with ⟨hcs, _⟩ | ⟨a, n, c, zs, hcs, _, hl, hm, hz, hx, hcell, hwz⟩
  · simp at hcs
    subst hcs
    exact ⟨none, 0, 0, [], rfl, .nil, Rd.nil⟩
  · simp at hcs
    subst hcs
    obtain ⟨x1, x2⟩ := x
    simp only [Prod.mk.injEq] at hx
    obtain ⟨-, rfl⟩ := hx
    simp only [if_true] at hz
    have hby : ∀ i (hi : i < zs.length), zs[i] = ((UInt8.ofNat zs[i].toNat).toNat : Int) := by
      intro i hi
      have h := hwz zs[i] (List.getElem_mem hi)
      simp only [Lit.wf, Bool.and_eq_true, decide_eq_true_eq] at h
      have h1 : IntKind.u8.min = 0 := rfl
      have h2 : IntKind.u8.max = 255 := rfl
      rw [UInt8.toNat_ofNat']
      omega
    rcases Nat.eq_zero_or_pos c with h0 | h0
    · subst h0
      obtain rfl : n = 0 := by omega
      exact ⟨_, 0, 0, [], rfl, .inr ⟨a, rfl, by omega, Nat.zero_le _⟩, ⟨rfl, fun h => by omega⟩⟩
    · have hlen : ((zs.take n).map fun z => UInt8.ofNat z.toNat).length = n := by simp; omega
      obtain ⟨b, o, sp⟩ := a
      have hsp : sp = none := by simpa [Addr.add] using World.cell?_spot (hcell 0 (by omega))
      subst hsp
      refine ⟨some ⟨b, o, none⟩, n, c, (zs.take n).map (fun z => UInt8.ofNat z.toNat), rfl, .inr ⟨_, rfl, hl, hm⟩, by rw [Byt_length]; exact hlen, fun hn => ?_⟩
      refine ⟨b, o, rfl, hlt (.cell b o) (MemPlace.mem_row.2 ⟨0, by omega, by simp⟩), fun j u hj => ?_⟩
      have hj' : j < ((zs.take n).map fun z => UInt8.ofNat z.toNat).length := by
        have := (List.getElem?_eq_some_iff.1 hj).1
        rwa [Byt_length] at this
      rw [Byt_get hj'] at hj
      injection hj with hj
      rw [← hj, ← add_flat, hcell j (by omega)]
      simp only [List.getElem_map, List.getElem_take]
      rw [← hby j (by omega)]
      simp [List.getD, List.getElem?_eq_getElem (show j < zs.length by omega)]

/-- A slice of bytes that came in, with what it may look like. -/
theorem open_bytesk {t e : TypeId} (ht : P.underlying t = some (.slice e)) (he : P.underlying e = some (.int .u8)) (hc : P.cellsOf e = 1)
    {r : Reach} {b0 : Nat} {v : Value} {d : DataW H} {ps : List MemPlace} (hval : Value.okWide P w r b0 t v) (hd : DataW.Trod enc P w base (fun _ => true) held t v d ps) (hlt : ∀ x ∈ ps, x.block < w.heap.size) :
    ∃ A n c bs, v = .slice A n c ∧ SlOK A n c ∧ Rd w w.heap.size A n (Byt bs) := by
  obtain ⟨A, n, c, rfl⟩ := okWide_slice ht hval
  obtain ⟨fuel, hf⟩ := hd
  exact bytes_cell ht he hc hf hlt

theorem take1 {v0 v1 v2 v3 : Value} : ([v0, v1, v2, v3].drop 0).take 1 = [v0] ∧ ([v0, v1, v2, v3].drop 1).take 1 = [v1] ∧ ([v0, v1, v2, v3].drop 2).take 1 = [v2] ∧ ([v0, v1, v2, v3].drop 3).take 1 = [v3] := ⟨rfl, rfl, rfl, rfl⟩

/-- A field in four cells. -/
theorem fld_cells {t ti tn tb te : TypeId} {f0 f1 f2 f3 : Field} (ht : P.underlying t = some (.struct #[f0, f1, f2, f3])) (o0 : f0.offset = 0 ∧ f0.type = ti) (o1 : f1.offset = 1 ∧ f1.type = ti) (o2 : f2.offset = 2 ∧ f2.type = tn) (o3 : f3.offset = 3 ∧ f3.type = tb)
    (hi : P.underlying ti = some (.int .i64)) (hn : P.underlying tn = some (.int .u64)) (hb : P.underlying tb = some (.slice te)) (he : P.underlying te = some (.int .u8)) (ce : P.cellsOf te = 1) (ci : P.cellsOf ti = 1) (cn : P.cellsOf tn = 1) (cb : P.cellsOf tb = 1) (ct : P.cellsOf t = 4)
    {fuel : Nat} {cs : List Value} {x : DataW H × List MemPlace} (h : DataW.trod enc P w base (fun _ => true) held fuel t cs = some x) (hlt : ∀ p ∈ x.2, p.block < w.heap.size) :
    ∃ f : Fld, FldOK w w.heap.size f ∧ cs = [.int .i64 f.kind, .int .i64 f.size, .int .u64 (f.num : Int), .slice f.A f.m f.c] := by
  obtain ⟨xs, n, _, hx, hl, hxl, hfs⟩ := DataW.trod_struct ht h
  rw [ct] at hl
  match cs, hl with
  | [v0, v1, v2, v3], _ =>
    obtain ⟨t0, t1, t2, t3⟩ := @take1 v0 v1 v2 v3
    have g0 := hfs 0 f0 rfl
    have g1 := hfs 1 f1 rfl
    have g2 := hfs 2 f2 rfl
    have g3 := hfs 3 f3 rfl
    rw [o0.1, o0.2, ci, t0] at g0
    rw [o1.1, o1.2, ci, t1] at g1
    rw [o2.1, o2.2, cn, t2] at g2
    rw [o3.1, o3.2, cb, t3] at g3
    have hxl4 : xs.length = 4 := hxl
    match xs, hxl4 with
    | [x0, x1, x2, x3], _ =>
      simp at g0 g1 g2 g3
      obtain ⟨z0, e0, _, w0⟩ := DataW.trod_int hi g0
      obtain ⟨z1, e1, _, w1⟩ := DataW.trod_int hi g1
      obtain ⟨z2, e2, _, w2⟩ := DataW.trod_int hn g2
      obtain ⟨A, m, c, bs, e3, hok, hrd⟩ := bytes_cell hb he ce g3 (fun p hp => hlt p (by rw [hx]; simp [hp]))
      obtain ⟨k, rfl, hk⟩ := wf_u64 w2
      injection e0 with e0 _
      injection e1 with e1 _
      injection e2 with e2 _
      subst e0 e1 e2 e3
      exact ⟨⟨z0, z1, k, A, m, c, bs⟩, ⟨wf_int w0, wf_int w1, hk, hok, hrd⟩, rfl⟩

/-- A slice of fields that came in. -/
theorem open_flds {t e ti tn tb te : TypeId} {f0 f1 f2 f3 : Field} (hs : P.underlying t = some (.slice e)) (ht : P.underlying e = some (.struct #[f0, f1, f2, f3])) (o0 : f0.offset = 0 ∧ f0.type = ti) (o1 : f1.offset = 1 ∧ f1.type = ti) (o2 : f2.offset = 2 ∧ f2.type = tn) (o3 : f3.offset = 3 ∧ f3.type = tb)
    (hi : P.underlying ti = some (.int .i64)) (hn : P.underlying tn = some (.int .u64)) (hb : P.underlying tb = some (.slice te)) (he : P.underlying te = some (.int .u8)) (ce : P.cellsOf te = 1) (ci : P.cellsOf ti = 1) (cn : P.cellsOf tn = 1) (cb : P.cellsOf tb = 1) (ct : P.cellsOf e = 4)
    {r : Reach} {b0 : Nat} {v : Value} {d : DataW H} {ps : List MemPlace} (hval : Value.okWide P w r b0 t v) (hd : DataW.Trod enc P w base (fun _ => true) held t v d ps) (hlt : ∀ x ∈ ps, x.block < w.heap.size) :
    ∃ A n c fs, v = .slice A n c ∧ n ≤ maxLen ∧ Flds w w.heap.size A n fs := by
  obtain ⟨A, n, c, rfl⟩ := okWide_slice hs hval
  obtain ⟨fuel, hf⟩ := hd
  rcases Go.Deep.open_slice hs hf with ⟨hcs, _⟩ | ⟨a, n', c', m, q, D, Pl, hcs, _, hl, hm, hmm, hx, hel⟩
  · simp [Value.cells] at hcs
    obtain ⟨rfl, rfl, rfl⟩ := hcs
    exact ⟨none, 0, 0, [], rfl, Nat.zero_le _, rfl, (fun f hf => by cases hf), (fun h => by omega)⟩
  · simp [Value.cells] at hcs
    obtain ⟨rfl, rfl, rfl⟩ := hcs
    simp only [if_true] at hmm
    subst hmm
    simp only [Prod.mk.injEq] at hx
    obtain ⟨-, rfl⟩ := hx
    rw [ct] at hel
    have each : ∀ i, i < n → ∃ f : Fld, FldOK w w.heap.size f ∧ w.cells? base (a.add (i * 4)) 4 = some [.int .i64 f.kind, .int .i64 f.size, .int .u64 (f.num : Int), .slice f.A f.m f.c] := by
      intro i hi'
      obtain ⟨cs, h1, h2⟩ := hel i (by omega)
      obtain ⟨f, hok, rfl⟩ := fld_cells ht o0 o1 o2 o3 hi hn hb he ce ci cn cb ct h2 (fun p hp => hlt p (List.mem_append.2 (.inr (List.mem_flatMap.2 ⟨i, List.mem_range.2 (by omega), hp⟩))))
      exact ⟨f, hok, h1⟩
    obtain ⟨G, hG⟩ := Go.Deep.choose_lt (α := Fld) (p := fun i f => FldOK w w.heap.size f ∧ w.cells? base (a.add (i * 4)) 4 = some [.int .i64 f.kind, .int .i64 f.size, .int .u64 (f.num : Int), .slice f.A f.m f.c]) each
    refine ⟨some a, n, _, (List.range n).map G, rfl, by omega, by simp, fun f hf => ?_, fun h0 => ?_⟩
    · obtain ⟨i, hi', rfl⟩ := List.mem_map.1 hf
      exact (hG i (List.mem_range.1 hi')).1
    · obtain ⟨b, o, sp⟩ := a
      have hsp : sp = none := by
        have := World.cells?_some (hG 0 h0).2
        have h1 := this.2.2 0 (by omega)
        simpa [Addr.add] using World.cell?_spot h1
      subst hsp
      refine ⟨b, o, rfl, hlt (.cell b o) (List.mem_append.2 (.inl (MemPlace.mem_row.2 ⟨0, by rw [ct]; omega, by simp⟩))), fun j hj => ?_⟩
      have hj' : j < n := by simpa using hj
      have hc := (World.cells?_some (hG j hj').2).2.2
      simp only [add_flat] at hc
      have e : ((List.range n).map G)[j] = G j := by simp
      rw [e]
      exact ⟨hc 0 (by omega), hc 1 (by omega), hc 2 (by omega), hc 3 (by omega)⟩
end

end Go.Proofs.YtcmmfghkjfadcaaDoor
