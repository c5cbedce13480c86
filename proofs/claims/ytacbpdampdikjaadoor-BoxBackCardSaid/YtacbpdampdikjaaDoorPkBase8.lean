/-
  Some of the texts that the last one of these needs: walks of the functions that the law calls, and the mathematics of their answers.
-/
import Derived.Test.YtacbpdampdikjaaDoorPkBase7
import Derived.Test.YtacbpdampdikjaaDoorPkBase3
import Derived.Test.YtacbpdampdikjaaDoorPkBase4
import Derived.Test.YtacbpdampdikjaaDoorPkBase6
import Derived.Test.YtacbpdampdikjaaDoorPkBase5
namespace Go.Proofs.YtacbpdampdikjaaDoor
open Go.RowKit

set_option maxHeartbeats 1600000 in
theorem rexpand_in (B n c m d size : Nat) (A I : Option Addr) (ks is : List UInt8) (w : World) (hk : Rd w B A n (Byt ks)) (hko : SlOK A n c) (hn : n ≤ 1099511627776)
    (hi : Rd w B I m (Byt is)) (hio : SlOK I m d) (hm : m ≤ 4294967296) (h1 : 1 ≤ size) (h2 : size ≤ 8160) (hB : B ≤ w.heap.size) :
    Calls Tryd.prog 23 #[.slice A n c, .slice I m d, .int .i64 (size : Int)] w (NewRF w (expU ks is size) 0) := by
  have hel := expU_length ks is h2
  have Hexp := Lib.hid (fun q (hq : q ≤ 255) (h : size ≤ 32 * q) => expU_at ks is hq h)
  have Hel := Lib.hid hel; clear hel
  generalize expU ks is size = X at Hexp Hel ⊢
  have hmax : size ≤ maxLen := by unfold maxLen; omega
  have hml := hi.bytes
  have H1 : Hid (∀ (j tn tc : Nat) (T : Option Addr) (W : World), Below w.heap.size w W → Rd W W.heap.size T tn (Byt (tagU ks is j)) → SlOK T tn tc →
      Calls Tryd.prog 19 #[.slice T tn tc, .slice I m d] W fun e w' => ∃ A1 n1 c1, e = .returned (.slice A1 n1 c1) ∧ n1 ≤ 4294967328 ∧ Hid (Rd w' w'.heap.size A1 n1 (Byt (tagU ks is j ++ is))) ∧ Hid (SlOK A1 n1 c1) ∧ Hid (Below W.heap.size W w')) := Lib.hid (by
    intro j tn tc T W hb ht hto
    have htl := ht.bytes
    have := tagU_le ks is j
    refine (rjoin_any W.heap.size tn tc m d T I _ is W ht ((hi.below (hb.mono hB)).wider (Nat.le_trans hB hb.size)) hto hio (Nat.le_refl _) (by omega)).mono ?_
    rintro e w2 ⟨A1, c1, rfl, hown, hb2⟩
    exact ⟨A1, _, c1, rfl, by rw [List.length_append]; omega, Lib.hid (Rd.of_own hown), Lib.hid (SlOK.of_own hown), Lib.hid hb2⟩)
  have H2 : Hid (∀ (j n1 c1 : Nat) (A1 : Option Addr) (b : UInt8) (z : Int) (W : World), z = (b.toNat : Int) → n1 ≤ 4294967328 → Rd W W.heap.size A1 n1 (Byt (tagU ks is j ++ is)) → SlOK A1 n1 c1 →
      Calls Tryd.prog 19 #[.slice A1 n1 c1, .slice (some ⟨W.heap.size, 0, none⟩) 1 1] (W.alloc (.cells #[.int .u8 z] 5)) fun e w' => ∃ A2 n2 c2, e = .returned (.slice A2 n2 c2) ∧ n2 ≤ 4294967329 ∧ Hid (Rd w' w'.heap.size A2 n2 (Byt (tagU ks is j ++ is ++ [b]))) ∧ Hid (SlOK A2 n2 c2) ∧ Hid (Below W.heap.size W w')) := Lib.hid (by
    intro j n1 c1 A1 b z W hz hn1 hr ho
    have hal : Below W.heap.size W (W.alloc (.cells #[.int .u8 z] 5)) := (Below.refl _ _).alloc (Nat.le_refl _) _
    have hr1 := hr.bytes
    have hb1 := Rd.byte1 W 5 z b hz
    rw [show W.heap.size + 1 = (W.alloc (.cells #[.int .u8 z] 5)).heap.size by simp] at hb1
    refine (rjoin_any _ n1 c1 1 1 A1 _ _ _ _ ((hr.below hal).wider hal.size) hb1 ho (.inr ⟨_, rfl, Nat.le_refl _, by decide⟩) (Nat.le_refl _) (by omega)).mono ?_
    rintro e w2 ⟨A2, c2, rfl, hown, hb2⟩
    exact ⟨A2, _, c2, rfl, by rw [List.length_append, hr1]; show n1 + 1 ≤ _; omega, Lib.hid (Rd.of_own hown), Lib.hid (SlOK.of_own hown), Lib.hid (bon hal hb2)⟩)
  have H3 : Hid (∀ (j n2 c2 : Nat) (A2 : Option Addr) (W : World), Below w.heap.size w W → n2 ≤ 4294967329 → Rd W W.heap.size A2 n2 (Byt (tagU ks is j ++ is ++ [UInt8.ofNat (j + 1)])) → SlOK A2 n2 c2 →
      Calls Tryd.prog 20 #[.slice A n c, .slice A2 n2 c2] W fun e w' => ∃ A3 c3, e = .returned (.slice A3 32 c3) ∧ Hid (w'.ownsRow W.heap.size 5 1 (.slice A3 32 c3) 32 (Byt (tagU ks is (j + 1)))) ∧ Hid (Below W.heap.size W w')) := Lib.hid (by
    intro j n2 c2 A2 W hb hn2 hr ho
    refine (rof_any W.heap.size n c n2 c2 A A2 ks _ W ((hk.below (hb.mono hB)).wider (Nat.le_trans hB hb.size)) hko hn hr ho (by omega) (Nat.le_refl _)).mono ?_
    rintro e w2 ⟨A3, c3, rfl, hown, hb2⟩
    rw [macU_length] at hown
    exact ⟨A3, c3, by rw [macU_length], Lib.hid hown, Lib.hid hb2⟩)
  have Hlen := Lib.hid (tagsU_length ks is)
  have Hstep := Lib.hid (fun q => show tagsU ks is q ++ tagU ks is (q + 1) = tagsU ks is (q + 1) from rfl)
  clear hk hi hko hio hml
  go_enter Tryd.func23, Tryd.ntmps23
  go_wp2
  go_loopw [8, 9, 10] (fun v t i wr => ∃ (q mm c' tn tc : Nat) (A' T : Option Addr), q ≤ 255 ∧ Hid (mm = 32 * q) ∧ (q < 255 ∨ size ≤ mm) ∧ Hid (mm < size + 32) ∧ i = .int .i64 ((q : Int) + 1) ∧ v = .slice A' mm c' ∧ t = .slice T tn tc ∧
      Hid (wr.ownsRow w.heap.size 5 1 (.slice A' mm c') mm (Byt (tagsU ks is q))) ∧ Hid (Rd wr wr.heap.size T tn (Byt (tagU ks is q))) ∧ Hid (SlOK T tn tc) ∧ Hid (Below w.heap.size w wr)) (fun _ _ i _ => 257 - (intOf i).toNat)
  case atStart => exact ⟨0, 0, 0, 0, 0, none, none, by omega, Lib.hid (by omega), by omega, Lib.hid (by omega), rfl, rfl, rfl, Lib.hid (World.ownsRow_nil _ _ _ _), Lib.hid Rd.nil, Lib.hid SlOK.nil, Lib.hid (Below.refl _ _)⟩
  case round =>
    obtain ⟨q, mm, c', tn, tc, A', T, hq2, Hmm, hor, Hlt, rfl, rfl, rfl, Hown, Ht, Hto, Hb⟩ := hrel
    by_cases hend : size ≤ mm
    · have hx := Hexp.out q hq2 (by have := Hmm.out; omega)
      have hr := (Rd.of_own Hown.out).front hend
      rw [hx] at hr
      obtain ⟨g, rfl, -, -⟩ := own_some Hown.out (by omega)
      have hcap : mm ≤ c' ∧ c' ≤ maxLen := (SlOK.of_own Hown.out).le
      have hcap2 : c' ≤ 9223372036854775807 := by unfold maxLen at hcap; omega
      have Hfin : Hid (NewRF w X 0 (.returned (.tuple #[.slice (some ⟨g, 0, none⟩) size c', .int .i64 0])) wr) := Lib.hid ⟨_, c', by rw [Hel.out], by rw [Hel.out]; exact hr, .inr ⟨_, rfl, by rw [Hel.out]; omega, hcap.2⟩, Hb.out⟩
      have hsc : size ≤ c' := by omega
      clear hx hr
      go_wp2
      go_ret2
      exact Hfin.out
    · have hq : q < 255 := by omega
      have h3 := H1.out q tn tc T wr Hb.out Ht.out Hto.out
      have Hu : Hid ((q : Int) + 1 = ((UInt8.ofNat (q + 1)).toNat : Int)) := Lib.hid (by rw [u8_of]; omega)
      go_wp2_with fail
      refine h3.mono ?_
      rintro e w2 ⟨A2, n2, c2, rfl, hn2, Hr2, Ho2, Hb2⟩
      have Hb2' := Lib.hid (bon Hb.out Hb2.out)
      clear h3
      go_wp2_with fail
      refine (H2.out q n2 c2 A2 _ _ w2 Hu.out hn2 Hr2.out Ho2.out).mono ?_
      rintro e w3 ⟨A3, n3, c3, rfl, hn3, Hr3, Ho3, Hb3⟩
      have Hb3' := Lib.hid (bon Hb2'.out Hb3.out)
      have h4 := H3.out q n3 c3 A3 w3 Hb3'.out hn3 Hr3.out Ho3.out
      go_wp2_with fail
      refine h4.mono ?_
      rintro e w4 ⟨A4, c4, rfl, Hr4, Hb4⟩
      have Hb4' := Lib.hid (bon Hb3'.out Hb4.out)
      have hg : Below wr.heap.size wr w4 := bon (bon Hb2.out Hb3.out) Hb4.out
      have Hown4 : Hid (w4.ownsRow w.heap.size 5 1 (.slice A' mm c') mm (Byt (tagsU ks is q))) := Lib.hid (own_below Hown.out hg (Nat.le_refl _))
      have hsz := Hb4'.out.size
      have hsz4 : wr.heap.size ≤ w3.heap.size := (bon Hb2.out Hb3.out).size
      clear hg h4
      have hmx : mm ≤ 16384 := by have := Hlt.out; omega
      go_wp2_with (refine wp_append_foot rfl _ _ 22 rfl 5 Tryd.underlying22 (.int .u8 0) 1 (by omega) rfl Tryd.info_u8 w.heap.size mm c' A' _ rfl Hown4.out w4.heap.size 32 c4 A4 _ rfl (Rd.of_own Hr4.out) (SlOK.of_own Hr4.out) (Byt_one _) (by omega) hsz ?_)
      intro A5 c5 w5 hown5 hg5 hat5
      have Hb5 : Hid (Below w.heap.size w w5) := Lib.hid (Hb4'.out.grown hg5 hsz (fun k hk => (Hown4.out.lt k hk).1))
      rw [← Byt_append, Hstep.out q] at hown5
      have Ho5 : Hid (w5.ownsRow w3.heap.size 5 1 (.slice A4 32 c4) 32 (Byt (tagU ks is (q + 1)))) := Lib.hid (own_grown Hr4.out hg5 (fun k hk hk2 => by
        have h1 := (Hr4.out.lt k hk).1
        have h2 := (Hown.out.lt k hk2.symm).2
        omega))
      have Hown5 := Lib.hid hown5; clear hown5 hat5 hg5
      go_wp2
      go_roundw
      case rel => exact ⟨q + 1, mm + 32, c5, 32, c4, A5, A4, by omega, Lib.hid (by have := Hmm.out; omega), by have := Hmm.out; omega, Lib.hid (by omega), by go_num, rfl, rfl, Hown5, Lib.hid (Rd.of_own Ho5.out), Lib.hid (SlOK.of_own Ho5.out), Hb5⟩
      case measure => simp [intOf]; omega

end Go.Proofs.YtacbpdampdikjaaDoor

namespace Go.Proofs.YtacbpdampdikjaaDoor
open Go.RowKit

/-- The label behind what keeps it apart, as a text. -/
theorem rahead_add (P : Program) (w : World) (s : ByteArray) (hs : s.size ≤ 1099511627776) : ∃ T : ByteArray, (Op.stringOp .add (⟨#[111, 117, 98, 108, 105, 101, 116, 116, 101, 32]⟩ : ByteArray) s).run P w = .ok (.string T) w ∧ T.size = s.size + 10 ∧ T.data.toList = aheadU ++ s.data.toList := by
  refine ⟨⟨#[111, 117, 98, 108, 105, 101, 116, 116, 101, 32]⟩ ++ s, run_string_add_sum _ _ _ ?_, ?_, ?_⟩
  · rw [show (⟨#[111, 117, 98, 108, 105, 101, 116, 116, 101, 32]⟩ : ByteArray).size = 10 from rfl]; omega
  · rw [ByteArray.size_append, show (⟨#[111, 117, 98, 108, 105, 101, 116, 116, 101, 32]⟩ : ByteArray).size = 10 from rfl]; omega
  · rw [ByteArray.data_append, Array.toList_append]; rfl

set_option maxHeartbeats 1600000 in
theorem rderive_any (B n c : Nat) (A : Option Addr) (ks : List UInt8) (s : ByteArray) (w : World) (hk : Rd w B A n (Byt ks)) (hko : SlOK A n c) (hn : n ≤ 1099511627776) (hs : s.size ≤ 1073741824) (hB : B ≤ w.heap.size) :
    Calls Tryd.prog 11 #[.slice A n c, .string s] w (NewR w (deriveU ks s.data.toList)) := by
  obtain ⟨T, hadd, hTs, hTl⟩ := rahead_add Tryd.prog w s (by omega)
  have hinfo : infoU s.data.toList = [0, 32, UInt8.ofNat T.size] ++ (aheadU ++ s.data.toList) := by
    rw [infoU, List.length_append, aheadU_length, str_len, show 10 + s.size = T.size by omega]
  have hil := infoU_length s.data.toList
  rw [str_len] at hil
  have hD : deriveU ks s.data.toList = expU ks (infoU s.data.toList) 32 := rfl
  rw [hD]
  generalize infoU s.data.toList = I at hinfo hil ⊢
  have Hexp : Hid (∀ nx cx Ax W, Below w.heap.size w W → nx = s.size + 13 → Rd W W.heap.size Ax nx (Byt I) → SlOK Ax nx cx → Calls Tryd.prog 23 #[.slice A n c, .slice Ax nx cx, .int .i64 ((32 : Nat) : Int)] W (NewRF W (expU ks I 32) 0)) := Lib.hid (fun nx cx Ax W hb hnx hx hxo =>
    rexpand_in W.heap.size n c nx cx 32 A Ax ks I W ((hk.below (hb.mono hB)).wider (Nat.le_trans hB hb.size)) hko hn hx hxo (by omega) (by decide) (by decide) (Nat.le_refl _))
  have Hel : Hid ((expU ks I 32).length = 32) := Lib.hid (expU_length _ _ (by decide))
  generalize expU ks I 32 = X at Hexp Hel ⊢
  -- the three bytes, and the text's bytes behind them
  have hlit : ∀ z : Int, z = ((UInt8.ofNat T.size).toNat : Int) → Rd (w.alloc (.cells #[.int .u8 0, .int .u8 32, .int .u8 z] 5)) (w.heap.size + 1) (some ⟨w.heap.size, 0, none⟩) 3 (Byt [0, 32, UInt8.ofNat T.size]) := by
    intro z hz
    subst hz
    exact Rd.new w 5 #[.int .u8 0, .int .u8 32, .int .u8 ((UInt8.ofNat T.size).toNat : Int)] (n := 3) rfl
  have hz : (T.size : Int) % 256 = ((UInt8.ofNat T.size).toNat : Int) := (u8_of _).symm
  have hr1 := hlit _ hz
  have hb1 : Below w.heap.size w (w.alloc (.cells #[.int .u8 0, .int .u8 32, .int .u8 ((T.size : Int) % 256)] 5)) := (Below.refl _ _).alloc (Nat.le_refl _) _
  have hs1 : w.heap.size + 1 = (w.alloc (.cells #[.int .u8 0, .int .u8 32, .int .u8 ((T.size : Int) % 256)] 5)).heap.size := by simp
  rw [hs1] at hr1
  have hconv := conv_bytes Tryd.prog (w.alloc (.cells #[.int .u8 0, .int .u8 32, .int .u8 ((T.size : Int) % 256)] 5)) 9 22 5 T Tryd.underlying9 Tryd.underlying22 Tryd.underlying5 (by unfold maxLen; omega)
  rw [← hs1] at hconv
  obtain ⟨c0, o, hcv, hrT, hoT⟩ := hconv
  rw [hTl] at hrT
  have hbd : Below (w.heap.size + 1) (w.alloc (.cells #[.int .u8 0, .int .u8 32, .int .u8 ((T.size : Int) % 256)] 5)) ((w.alloc (.cells #[.int .u8 0, .int .u8 32, .int .u8 ((T.size : Int) % 256)] 5)).drew.alloc o) := by
    rw [hs1]; exact ((Below.refl _ (w.alloc (.cells #[.int .u8 0, .int .u8 32, .int .u8 ((T.size : Int) % 256)] 5))).drew).alloc (Nat.le_refl _) _
  have hs2 : ((w.alloc (.cells #[.int .u8 0, .int .u8 32, .int .u8 ((T.size : Int) % 256)] 5)).drew.alloc o).heap.size = w.heap.size + 1 + 1 := by simp
  rw [← hs1] at hr1
  have hr2 := hr1.below hbd
  have hb2 : Below w.heap.size w ((w.alloc (.cells #[.int .u8 0, .int .u8 32, .int .u8 ((T.size : Int) % 256)] 5)).drew.alloc o) := hb1.trans (hbd.mono (Nat.le_succ _))
  clear hlit hr1 hb1 hbd
  have hj := rjoin_any (w.heap.size + 1 + 1) 3 3 T.size c0 (some ⟨w.heap.size, 0, none⟩) (some ⟨w.heap.size + 1, 0, none⟩) _ _ ((w.alloc (.cells #[.int .u8 0, .int .u8 32, .int .u8 ((T.size : Int) % 256)] 5)).drew.alloc o)
    (hr2.wider (Nat.le_succ _)) hrT (.inr ⟨_, rfl, Nat.le_refl _, by decide⟩) hoT (by rw [hs2]; exact Nat.le_refl _) (by omega)
  rw [← hinfo] at hj
  have htz : T.size ≤ 9223372036854775807 := by omega
  have Hb2 := Lib.hid hb2; clear hb2
  have Hil := Lib.hid hil; clear hil
  have hil2 := Hil.out
  unfold NewB at hj
  rw [hil2] at hj
  have Hj := Lib.hid hj
  clear hil2 hj hr2 hrT hinfo hTl hs1 hs2 hD hz hTs hk hoT
  obtain ⟨tz, htz0⟩ : ∃ tz, T.size = tz := ⟨_, rfl⟩
  rw [htz0] at hcv Hb2 htz Hj
  go_enter Tryd.func11, Tryd.ntmps11
  go_wp2_with fail
  refine Hj.out.mono ?_
  rintro e w3 ⟨A3, c3, rfl, hown3, hb3⟩
  have Hb3 := Lib.hid (bon Hb2.out hb3)
  have h6 := Hexp.out _ c3 A3 w3 Hb3.out rfl (Rd.of_own hown3) (SlOK.of_own hown3)
  clear hown3 hb3 Hj Hb2
  go_wp2_with fail
  refine h6.mono ?_
  rintro e w6 ⟨A6, c6, rfl, hr6, ho6, hb6⟩
  have Hb6 := Lib.hid (bon Hb3.out hb6)
  have Hr6 := Lib.hid hr6
  have Ho6 := Lib.hid ho6
  clear hr6 ho6 hb6 h6
  go_wp2
  go_ret
  exact ⟨A6, c6, rfl, Hr6.out, Ho6.out, Hb6.out⟩

end Go.Proofs.YtacbpdampdikjaaDoor

namespace Go.Proofs.YtacbpdampdikjaaDoor
open Go.RowKit

set_option maxHeartbeats 1600000 in
theorem rcounter_any (s : List UInt8) (n B d : Nat) (A : Option Addr) (w : World) (hr : Rd w B A 16 (Byt s)) (hB : B ≤ w.heap.size) (hn : n ≤ 65535) :
    Calls Tryd.prog 44 #[.slice A 16 d, .int .i64 (n : Int)] w (AnsA w .u8 (abn (cplusU s n))) := by
  have hc := hr.bytes
  obtain ⟨sb, so, rfl, hsb, hcell⟩ := hr.2 (by omega)
  have Hsb : Hid (sb < w.heap.size) := Lib.hid (by omega)
  have Hc := Lib.hid hc
  have Hs : Hid ((abn s).length = 16) := Lib.hid (by rw [abn_length, hc])
  have Hcell : Hid (∀ j, j < 16 → ∃ x : UInt8, (abn s)[j]? = some x.toNat ∧ w.cell? ⟨sb, so + j, none⟩ = some (.int .u8 (x.toNat : Int))) := Lib.hid (fun j hj => by
    have hl : j < s.length := by omega
    exact ⟨s[j], abn_get (List.getElem?_eq_getElem hl), hcell j _ (Byt_get hl)⟩)
  have HL : Hid ((abn (cplusU s n)).length = 16) := Lib.hid (by rw [abn_length, cplus_length hc])
  have Hn : Hid (∀ k, cN s n k ≤ 65535) := Lib.hid (cN_bound s hn)
  have H0 : Hid (cN s n 0 = n ∧ cD s n 0 = s ∧ cD s n 16 = cplusU s n) := Lib.hid ⟨rfl, rfl, rfl⟩
  clear hc hn hr hsb hcell hB
  go_enter Tryd.func44, Tryd.ntmps44
  go_wp2_with (refine wp_alloc_arr (k := .u8) rfl 49 rfl 16 zero16 ?_)
  intro w1 g1 G1 H1 Hb1 Hs1
  go_wp2_with (refine wp_alloc_arr (k := .u8) rfl 49 rfl 16 zero16 ?_)
  intro w2 g2 G2 H2 Hb2 Hs2
  have Hg : Hid (w.heap.size ≤ g1 ∧ w.heap.size ≤ g2 ∧ g1 ≠ g2) := Lib.hid (by have := G1.out; have := G2.out; have := Hs1.out; omega)
  have K1 : Hid (Arr w2 g1 49 .u8 (Zs 16)) := Lib.hid (H1.out.below Hb2.out H1.out.lt)
  have K2 : Hid (Arr w2 g2 49 .u8 ((abn s).take 0 ++ (Zs 16).drop 0)) := Lib.hid H2.out
  have B2 : Hid (Below w.heap.size w w2) := Lib.hid (abon Hb1.out Hb2.out)
  clear H1 Hb1 Hb2 G1 G2 Hs1 Hs2 H2
  go_wp2
  go_loopw [6] (fun v wr => ∃ j : Nat, j ≤ 16 ∧ v = .int .i64 (j : Int) ∧ Hid (Arr wr g1 49 .u8 (Zs 16)) ∧ Hid (Arr wr g2 49 .u8 ((abn s).take j ++ (Zs 16).drop j)) ∧ Hid (Below w.heap.size w wr)) (fun v _ => 16 - (intOf v).toNat)
  case atStart => exact ⟨0, by omega, rfl, K1, K2, B2⟩
  case round =>
    clear K1 K2 B2
    obtain ⟨j, hj, rfl, K1, K2, B2⟩ := hrel
    by_cases hlt : j < 16
    · obtain ⟨x, hx, hcl⟩ := Hcell.out j hlt
      have hin := (B2.out.cell (p := ⟨sb, so + j, none⟩) Hsb.out).trans hcl
      have hin2 := K2.out.at_ (fill_get (L := abn s) (M := Zs 16) (i := j) (by rw [Zs_length]; omega) (by rw [Hs.out]; omega))
      have hfz := K2.out.frozen j
      have Hx := Lib.hid hx
      clear hx hcl
      go_wp2
      go_roundw
      case rel =>
        refine ⟨j + 1, by omega, by go_num, Lib.hid (K1.out.other Hg.out.2.2), Lib.hid ?_, Lib.hid (B2.out.setCell Hg.out.2.1 _)⟩
        rw [← afill_step Hx.out (by rw [Zs_length]; omega)]
        exact K2.out.set
      case measure => simp [intOf]; omega
    · have hj16 : j = 16 := by omega
      have K3 : Hid (Arr wr g2 49 .u8 (abn (cD s n 0))) := Lib.hid (by have h := K2.out; rw [hj16, fill_all Hs.out (Zs_length _)] at h; rw [H0.out.2.1]; exact h)
      clear K2
      go_wp2
      go_loopw [7, 8] (fun u v wq => ∃ (k : Nat) (z : Int), k ≤ 16 ∧ u = .int .i64 ((cN s n k : Nat) : Int) ∧ v = .int .i64 z ∧ Hid (z + (k : Int) = 15) ∧ Hid (Arr wq g2 49 .u8 (abn (cD s n k))) ∧ Hid (Arr wq g1 49 .u8 (Zs 16)) ∧ Hid (Below w.heap.size w wq)) (fun _ v _ => (intOf v + 1).toNat)
      case atStart => exact ⟨0, 15, by omega, by rw [H0.out.1], rfl, Lib.hid rfl, K3, K1, B2⟩
      case round =>
        clear K1 B2 K3
        obtain ⟨k, z, hk, rfl, rfl, Hz, K1, K2, B2⟩ := hrel
        by_cases hlt : k < 16
        · obtain ⟨m, rfl⟩ : ∃ m : Nat, z = (m : Int) := ⟨z.toNat, by have := Hz.out; omega⟩
          have Hm : Hid (15 - k = m) := Lib.hid (by have := Hz.out; omega)
          have hm : m < 16 := by have := Hz.out; omega
          obtain ⟨b, h1, h2, h3, h4⟩ := cD_at Hc.out n hlt
          rw [Hm.out] at h1 h2 h4
          have hq := Hn.out k
          have hcell := K1.out.at_ (abn_get h2)
          have hfz := K1.out.frozen m
          have hb := b.toNat_lt
          have Hset : Hid (abn (cD s n (k + 1)) = (abn (cD s n k)).set m (UInt8.ofNat (cN s n k + b.toNat)).toNat) := Lib.hid (by rw [h4]; simp [abn, List.map_set])
          have Hnx := Lib.hid h3
          clear h1 h2 h3 h4
          generalize hqq : cN s n k = q at *
          generalize hbb : b.toNat = p at *
          go_wp2
          go_roundw
          case rel =>
            refine ⟨k + 1, (m : Int) - 1, by omega, by rw [Hnx.out]; rfl, rfl, Lib.hid (by have := Hz.out; omega), Lib.hid ?_, Lib.hid (K2.out.other Hg.out.2.2), Lib.hid (B2.out.setCell Hg.out.2.1 _)⟩
            rw [Hset.out]
            exact K1.out.put (by rw [u8_of]; rfl)
          case measure => simp [intOf]
        · have hk16 : k = 16 := by omega
          have K3 : Hid (Arr wr g2 49 .u8 (abn (cplusU s n))) := Lib.hid (by have h := K1.out; rw [hk16] at h; exact h)
          have hz : z = -1 := by have := Hz.out; omega
          subst hz
          clear K1 Hz
          go_wp2_with (first
            | refine wp_load_arr arr16 rfl (.tmp 5) rfl rfl K3.out HL.out ?_
            | refine wp_put_arr arr16 rfl (.tmp 4) (.tmp 37) rfl rfl (l' := abn (cplusU s n)) rfl K2.out (Zs_length _) HL.out ?_)
          intro w5 H5 Hm5 Hs5
          go_wp2
          exact ret_arr arr16 rfl rfl H5.out HL.out rfl ⟨rfl, B2.out.trans (Hm5.out.below (fun j hj => by have := Hg.out; omega) B2.out.size)⟩

end Go.Proofs.YtacbpdampdikjaaDoor

namespace Go.Proofs.YtacbpdampdikjaaDoor
open Go.RowKit

set_option maxHeartbeats 1600000 in
theorem rgmul_any (a b : UInt8) (w : World) :
    Calls Tryd.prog 97 #[.int .u8 (a.toNat : Int), .int .u8 (b.toNat : Int)] w (fun e w' => e = .returned (.int .u8 ((gmulU a b).toNat : Int)) ∧ w' = w) := by
  have Hm : Hid (gmulU a b = gloopU 8 a b 0) := Lib.hid rfl
  revert Hm
  generalize gmulU a b = m
  intro Hm
  go_enter Tryd.func97, Tryd.ntmps97
  go_wp2
  go_loopw [0, 1, 5, 6] (fun x y z i wr => ∃ (p : Nat) (a' b' s' : UInt8), p ≤ 8 ∧ i = .int .i64 p ∧ x = .int .u8 (a'.toNat : Int) ∧ y = .int .u8 (b'.toNat : Int) ∧ z = .int .u8 (s'.toNat : Int) ∧ Hid (m = gloopU (8 - p) a' b' s') ∧ wr = w) (fun _ _ _ i _ => 8 - (intOf i).toNat)
  case atStart => exact ⟨0, a, b, 0, Nat.zero_le _, rfl, rfl, rfl, rfl, Hm, rfl⟩
  case round =>
    obtain ⟨p, a', b', s', hp, rfl, rfl, rfl, rfl, Hl, rfl⟩ := hrel
    by_cases h8 : p < 8
    · have hd : (a' / 2).toNat = a'.toNat / 2 := by rw [UInt8.toNat_div]; rfl
      have hd1 : (a'.toNat : Int) / 2 = ((a' / 2).toNat : Int) := by omega
      have hz0 : 0 ≤ (a'.toNat : Int) := by omega
      have hz1 : (a'.toNat : Int) < 256 := by have := a'.toNat_lt; omega
      have hx := gxor_u8 s' b'
      have hc := fun w => rgtwice_any b' w
      have ha : (a'.toNat : Int) % 2 = ((a'.toNat % 2 : Nat) : Int) := by omega
      have Hl1 : Hid (m = gloopU (8 - (p + 1) + 1) a' b' s') := Lib.hid (by rw [show 8 - (p + 1) + 1 = 8 - p by omega]; exact Hl.out)
      rcases Nat.mod_two_eq_zero_or_one a'.toNat with h1 | h1
      · rw [h1] at ha
        have Hl' : Hid (m = gloopU (8 - (p + 1)) (a' / 2) (gtwiceU b') s') := Lib.hid (by rw [Hl1.out, gloop_even h1])
        clear h1 hd hx Hl Hl1
        revert hd1 hz0 hz1 hc ha Hl'
        generalize (a' / 2) = a2
        generalize (a'.toNat : Int) = z
        intro hd1 hz0 hz1 hc ha Hl'
        go_wp2_with fail
        refine (hc _).mono ?_
        rintro e w1 ⟨rfl, rfl⟩
        go_wp2
        go_roundw
        case rel => exact ⟨p + 1, a2, _, s', by omega, by go_num, rfl, rfl, rfl, Hl', trivial⟩
        case measure => simp [intOf]; omega
      · rw [h1] at ha
        have Hl' : Hid (m = gloopU (8 - (p + 1)) (a' / 2) (gtwiceU b') (s' ^^^ b')) := Lib.hid (by rw [Hl1.out, gloop_odd h1])
        clear h1 hd Hl Hl1
        revert hd1 hz0 hz1 hx hc ha Hl'
        generalize (a' / 2) = a2
        generalize (s' ^^^ b') = s2
        generalize (a'.toNat : Int) = z
        intro hd1 hz0 hz1 hx hc ha Hl'
        go_wp2_with fail
        refine (hc _).mono ?_
        rintro e w1 ⟨rfl, rfl⟩
        go_wp2
        go_roundw
        case rel => exact ⟨p + 1, a2, _, s2, by omega, by go_num, rfl, rfl, rfl, Hl', trivial⟩
        case measure => simp [intOf]; omega
    · have Hr : Hid (m = s') := Lib.hid (by rw [Hl.out, show 8 - p = 0 by omega]; rfl)
      go_wp2
      go_ret
      exact ⟨by rw [Hr.out]; rfl, rfl⟩

end Go.Proofs.YtacbpdampdikjaaDoor

namespace Go.Proofs.YtacbpdampdikjaaDoor
open Go.RowKit

set_option maxHeartbeats 1600000 in
set_option maxRecDepth 20000 in
theorem rginv_any (a : UInt8) (w : World) :
    Calls Tryd.prog 95 #[.int .u8 (a.toNat : Int)] w (fun e w' => e = .returned (.int .u8 ((ginvU a).toNat : Int)) ∧ w' = w) := by
  have Hm : Hid (ginvU a = gseekU a 256 0) := Lib.hid rfl
  revert Hm
  generalize ginvU a = m
  intro Hm
  go_enter Tryd.func95, Tryd.ntmps95
  go_wp2
  go_loopw [3] (fun i wr => ∃ k : Nat, k ≤ 256 ∧ i = .int .i64 k ∧ Hid (m = gseekU a (256 - k) k) ∧ wr = w) (fun i _ => 256 - (intOf i).toNat)
  case atStart => exact ⟨0, Nat.zero_le _, rfl, Hm, rfl⟩
  case round =>
    obtain ⟨k, hk, rfl, Hk, rfl⟩ := hrel
    by_cases hlt : k < 256
    · have hko : ((UInt8.ofNat k).toNat : Int) = (k : Int) := by rw [UInt8.toNat_ofNat']; omega
      have hc := fun w => rgmul_any a (UInt8.ofNat k) w
      rw [hko] at hc
      have Hs : Hid (gseekU a (256 - k) k = if gmulU a (UInt8.ofNat k) = 1 then UInt8.ofNat k else gseekU a (256 - (k + 1)) (k + 1)) := Lib.hid (by rw [show 256 - k = 256 - (k + 1) + 1 by omega]; rfl)
      by_cases h1 : gmulU a (UInt8.ofNat k) = 1
      · have Hr : Hid ((m.toNat : Int) = (k : Int)) := Lib.hid (by rw [Hk.out, Hs.out, if_pos h1]; exact hko)
        have e1 : ((gmulU a (UInt8.ofNat k)).toNat : Int) = 1 := by rw [h1]; rfl
        clear h1 Hs hko
        generalize gmulU a (UInt8.ofNat k) = p at *
        go_wp2_with fail
        refine (hc _).mono ?_
        rintro e w1 ⟨rfl, rfl⟩
        go_wp2
        go_ret
        exact ⟨by rw [Hr.out]; rfl, rfl⟩
      · have Hr : Hid (m = gseekU a (256 - (k + 1)) (k + 1)) := Lib.hid (by rw [Hk.out, Hs.out, if_neg h1])
        have e1 : (((gmulU a (UInt8.ofNat k)).toNat : Int) == 1) = false := by
          have : (gmulU a (UInt8.ofNat k)).toNat ≠ 1 := fun e => h1 (UInt8.toNat_inj.1 e)
          simp; omega
        clear h1 Hs hko
        generalize gmulU a (UInt8.ofNat k) = p at *
        go_wp2_with fail
        refine (hc _).mono ?_
        rintro e w1 ⟨rfl, rfl⟩
        go_wp2
        go_roundw
        case rel => exact ⟨k + 1, by omega, by go_num, Hr, trivial⟩
        case measure => simp [intOf]; omega
    · have Hr : Hid (m = 0) := Lib.hid (by rw [Hk.out, show 256 - k = 0 by omega]; rfl)
      go_wp2
      go_ret
      exact ⟨by rw [Hr.out]; rfl, rfl⟩

end Go.Proofs.YtacbpdampdikjaaDoor

namespace Go.Proofs.YtacbpdampdikjaaDoor
open Go.RowKit

theorem grot_all : ((List.range 256).all fun a => (List.range 8).all fun n => decide (1 ≤ n → bits .or .u8 ((a : Int) * 2 ^ n % 256) ((a : Int) / 2 ^ (8 - n)) = ((gleftU (UInt8.ofNat a) n).toNat : Int))) = true := by decide +kernel
theorem grot_bits (a : UInt8) (n : Nat) (h1 : 1 ≤ n) (h8 : n < 8) : bits .or .u8 ((a.toNat : Int) * 2 ^ n % 256) ((a.toNat : Int) / 2 ^ (8 - n)) = ((gleftU a n).toNat : Int) := by
  have h := of_decide_eq_true (List.all_eq_true.1 (List.all_eq_true.1 grot_all a.toNat (List.mem_range.2 a.toNat_lt)) n (List.mem_range.2 h8)) h1
  rwa [UInt8.ofNat_toNat] at h

set_option maxHeartbeats 800000 in
theorem rgleft_any (a : UInt8) (n : Nat) (w : World) (h1 : 1 ≤ n) (h8 : n < 8) :
    Calls Tryd.prog 96 #[.int .u8 (a.toNat : Int), .int .i64 (n : Int)] w fun e w' => e = .returned (.int .u8 ((gleftU a n).toNat : Int)) ∧ ∃ k, w' = w.drewN k := by
  have hr := grot_bits a n h1 h8
  go_enter Tryd.func96, Tryd.ntmps96
  go_wp2
  go_quiet (fail)
  go_wp2
  go_ret
  exact ⟨rfl, _, rfl⟩

end Go.Proofs.YtacbpdampdikjaaDoor

namespace Go.Proofs.YtacbpdampdikjaaDoor
open Go.RowKit

set_option maxHeartbeats 1600000 in
set_option maxRecDepth 20000 in
theorem rgbox_any (a : UInt8) (w : World) :
    Calls Tryd.prog 85 #[.int .u8 (a.toNat : Int)] w (fun e w' => e = .returned (.int .u8 ((gboxU a).toNat : Int)) ∧ ∃ k, w' = w.drewN k) := by
  have hc := fun w => rginv_any a w
  have Hm : Hid (gboxU a = ginvU a ^^^ gleftU (ginvU a) 1 ^^^ gleftU (ginvU a) 2 ^^^ gleftU (ginvU a) 3 ^^^ gleftU (ginvU a) 4 ^^^ 99) := Lib.hid rfl
  revert hc Hm
  generalize gboxU a = m
  generalize ginvU a = n
  intro hc Hm
  have h1 := fun w => rgleft_any n 1 w (by omega) (by omega)
  have h2 := fun w => rgleft_any n 2 w (by omega) (by omega)
  have h3 := fun w => rgleft_any n 3 w (by omega) (by omega)
  have h4 := fun w => rgleft_any n 4 w (by omega) (by omega)
  generalize gleftU n 1 = a1 at *
  generalize gleftU n 2 = a2 at *
  generalize gleftU n 3 = a3 at *
  generalize gleftU n 4 = a4 at *
  have x1 := gxor_u8 n a1
  have x2 := gxor_u8 (n ^^^ a1) a2
  have x3 := gxor_u8 (n ^^^ a1 ^^^ a2) a3
  have x4 := gxor_u8 (n ^^^ a1 ^^^ a2 ^^^ a3) a4
  have x5 := gxor_u8 (n ^^^ a1 ^^^ a2 ^^^ a3 ^^^ a4) 99
  rw [← Hm.out] at x5
  clear Hm
  generalize n ^^^ a1 ^^^ a2 ^^^ a3 ^^^ a4 = y4 at *
  generalize n ^^^ a1 ^^^ a2 ^^^ a3 = y3 at *
  generalize n ^^^ a1 ^^^ a2 = y2 at *
  generalize n ^^^ a1 = y1 at *
  have x5' : bits .xor .u8 (y4.toNat : Int) 99 = (m.toNat : Int) := x5
  clear x5
  go_enter Tryd.func85, Tryd.ntmps85
  go_wp2_with fail
  refine (hc _).mono ?_
  rintro e w1 ⟨rfl, rfl⟩
  go_wp2_with fail
  refine (h1 _).mono ?_
  rintro e w2 ⟨rfl, k1, rfl⟩
  go_wp2_with fail
  refine (h2 _).mono ?_
  rintro e w2 ⟨rfl, k2, rfl⟩
  go_wp2_with fail
  refine (h3 _).mono ?_
  rintro e w2 ⟨rfl, k3, rfl⟩
  go_wp2_with fail
  refine (h4 _).mono ?_
  rintro e w2 ⟨rfl, k4, rfl⟩
  go_wp2
  go_ret
  exact ⟨rfl, k1 + k2 + k3 + k4, by simp only⟩

end Go.Proofs.YtacbpdampdikjaaDoor

namespace Go.Proofs.YtacbpdampdikjaaDoor
open Go.RowKit

set_option maxHeartbeats 3200000 in
theorem rgpower_any (a : UInt8) (n : Int) (w : World) (hn : -9223372036854775808 ≤ n ∧ n ≤ 9223372036854775807) :
    Calls Tryd.prog 86 #[.int .u8 (a.toNat : Int), .int .i64 n] w (fun e w' => e = .returned (.int .u8 ((gpowerU a n).toNat : Int)) ∧ w' = w) := by
  have Hm : Hid (gpowerU a n = gpowU a (gtimes n)) := Lib.hid rfl
  obtain ⟨N, hN⟩ : ∃ N, gtimes n = N := ⟨_, rfl⟩
  rw [hN] at Hm
  unfold gtimes at hN
  by_cases h : 255 < n
  · rw [if_neg (by omega)] at hN
    have hz : (n - 1) % 255 + 1 = (N : Int) := by omega
    have hN2 : N ≤ 255 := by omega
    clear hN
    go_enter Tryd.func86, Tryd.ntmps86
    go_wp2
    go_loopw [5, 6] (fun x i wr => ∃ (k : Nat) (o : UInt8), k ≤ N ∧ i = .int .i64 k ∧ x = .int .u8 (o.toNat : Int) ∧ Hid (o = gpowU a k) ∧ wr = w) (fun _ i _ => N - (intOf i).toNat)
    case atStart => exact ⟨0, 1, Nat.zero_le _, rfl, rfl, Lib.hid rfl, rfl⟩
    case round =>
      obtain ⟨k, o, hk, rfl, rfl, Ho, rfl⟩ := hrel
      by_cases hlt : k < N
      · have hlt' : (k : Int) < (N : Int) := by omega
        have hc := fun w => rgmul_any o a w
        have Ho' : Hid (gmulU o a = gpowU a (k + 1)) := Lib.hid (by rw [Ho.out]; rfl)
        generalize gmulU o a = o2 at *
        go_wp2_with fail
        refine (hc _).mono ?_
        rintro e w1 ⟨rfl, rfl⟩
        go_wp2
        go_roundw
        case rel => exact ⟨k + 1, o2, by omega, by go_num, rfl, Ho', trivial⟩
        case measure => simp [intOf]; omega
      · have hge : ¬ (k : Int) < (N : Int) := by omega
        have Hr : Hid (gpowerU a n = o) := Lib.hid (by rw [Ho.out, show k = N by omega]; exact Hm.out)
        go_wp2
        go_ret
        exact ⟨by rw [Hr.out]; rfl, rfl⟩
  · have hN' : (N : Int) = if n < 1 then 0 else n := by
      subst hN
      split
      · rfl
      · omega
    clear hN
    have hk1 : ∀ k : Nat, k < N → (k : Int) < n := by intro k hk; split at hN' <;> omega
    have hk2 : ∀ k : Nat, k = N → n ≤ (k : Int) := by intro k hk; split at hN' <;> omega
    have hN2 : N ≤ 255 := by split at hN' <;> omega
    clear hN'
    have Hk1 := Lib.hid hk1; clear hk1
    have Hk2 := Lib.hid hk2; clear hk2
    go_enter Tryd.func86, Tryd.ntmps86
    go_wp2
    go_loopw [5, 6] (fun x i wr => ∃ (k : Nat) (o : UInt8), k ≤ N ∧ i = .int .i64 k ∧ x = .int .u8 (o.toNat : Int) ∧ Hid (o = gpowU a k) ∧ wr = w) (fun _ i _ => N - (intOf i).toNat)
    case atStart => exact ⟨0, 1, Nat.zero_le _, rfl, rfl, Lib.hid rfl, rfl⟩
    case round =>
      obtain ⟨k, o, hk, rfl, rfl, Ho, rfl⟩ := hrel
      by_cases hlt : k < N
      · have hlt' : (k : Int) < n := Hk1.out k hlt
        have hc := fun w => rgmul_any o a w
        have Ho' : Hid (gmulU o a = gpowU a (k + 1)) := Lib.hid (by rw [Ho.out]; rfl)
        generalize gmulU o a = o2 at *
        go_wp2_with fail
        refine (hc _).mono ?_
        rintro e w1 ⟨rfl, rfl⟩
        go_wp2
        go_roundw
        case rel => exact ⟨k + 1, o2, by omega, by go_num, rfl, Ho', trivial⟩
        case measure => simp [intOf]; omega
      · have hge : ¬ (k : Int) < n := by have := Hk2.out k (by omega); omega
        have Hr : Hid (gpowerU a n = o) := Lib.hid (by rw [Ho.out, show k = N by omega]; exact Hm.out)
        go_wp2
        go_ret
        exact ⟨by rw [Hr.out]; rfl, rfl⟩

end Go.Proofs.YtacbpdampdikjaaDoor

namespace Go.Proofs.YtacbpdampdikjaaDoor
open Go.RowKit

set_option maxHeartbeats 6400000 in
set_option maxRecDepth 20000 in
theorem raeswords_any (key : List UInt8) (c B : Nat) (A : Option Addr) (w : World) (hr : Rd w B A 32 (Byt key)) (hB : B ≤ w.heap.size) :
    Calls Tryd.prog 62 #[.slice A 32 c] w (AnsA w .u8 (abn (akeysU key))) := by
  have HF := Lib.hid (keyFacts hr.bytes)
  obtain ⟨kb, ko, rfl, hkb, hcells⟩ := hr.2 (by omega)
  have Hkb : Hid (kb < w.heap.size) := Lib.hid (by omega)
  have Hkey : Hid (∀ j, j < 32 → ∃ x : UInt8, key[j]? = some x ∧ w.cell? ⟨kb, ko + j, none⟩ = some (.int .u8 (x.toNat : Int))) := Lib.hid (fun j hj => by
    have hl : j < key.length := by have := hr.bytes; omega
    exact ⟨key[j], List.getElem?_eq_getElem hl, hcells j _ (Byt_get hl)⟩)
  have Hlow : Hid (∀ j, j < 32 → ∃ x : Nat, (abn (akeysU key))[j]? = some x ∧ w.cell? ⟨kb, ko + j, none⟩ = some (.int .u8 (x : Int))) := Lib.hid (fun j hj => by
    obtain ⟨x, h1, h2⟩ := Hkey.out j hj
    obtain ⟨y, h3, h4⟩ := HF.out.low j hj
    rw [h1] at h3
    injection h3 with h3
    subst h3
    exact ⟨_, h4, h2⟩)
  clear Hkey hcells hr hkb hB
  have HL := Lib.hid HF.out.len
  have Hhigh := Lib.hid HF.out.high
  clear HF
  revert Hlow HL Hhigh
  generalize abn (akeysU key) = L
  intro Hlow HL Hhigh
  go_enter Tryd.func62, Tryd.ntmps62
  go_wp2_with (refine wp_alloc_arr (k := .u8) rfl 76 rfl 240 zeroWords ?_)
  intro w1 g1 G1 H1 Hb1 Hs1
  go_wp2_with (refine wp_alloc_arr (k := .u8) rfl 76 rfl 240 zeroWords ?_)
  intro w2 g2 G2 H2 Hb2 Hs2
  have Hg : Hid ((w.heap.size ≤ g1 ∧ g1 ≠ g2) ∧ w.heap.size ≤ g2) := Lib.hid (by have := G1.out; have := G2.out; have := Hs1.out; omega)
  have F3 : Hid (SK w [(g2, 76, L.take (4 * 0) ++ (Zs 240).drop (4 * 0)), (g1, 76, Zs 240)] w2) := Lib.hid ⟨by
    intro x hx
    simp only [List.mem_cons, List.not_mem_nil, or_false] at hx
    rcases hx with rfl | rfl
    · exact H2.out
    · exact H1.out.below Hb2.out H1.out.lt, abon Hb1.out Hb2.out⟩
  have Hne2 : Hid (∀ x ∈ [(g1, 76, Zs 240)], x.1 ≠ g2) := Lib.hid (by
    have h5 := Hg.out
    intro x hx
    simp only [List.mem_cons, List.not_mem_nil, or_false] at hx
    rcases hx with rfl
    exact h5.1.2)
  clear H1 H2 Hb1 Hb2 G1 G2 Hs1 Hs2
  go_wp2
  go_loopw [4] (fun v wr => ∃ i : Nat, i ≤ 60 ∧ v = .int .i64 (i : Int) ∧ Hid (SK w [(g2, 76, L.take (4 * i) ++ (Zs 240).drop (4 * i)), (g1, 76, Zs 240)] wr)) (fun v _ => 60 - (intOf v).toNat)
  case atStart => exact ⟨0, by omega, rfl, F3⟩
  case round =>
    clear F3
    obtain ⟨i, hi, rfl, F5⟩ := hrel
    by_cases hlt : i < 60
    · obtain ⟨o, ho⟩ : ∃ o, 4 * i = o := ⟨_, rfl⟩
      have Ho := Lib.hid ho
      have ix := fun W => run_indexAt_w (b := g2) arrWords info_4 i o (i : Int) rfl hlt (by omega) W
      by_cases h8 : i < 8
      · obtain ⟨x0, hl0, hc0⟩ := Hlow.out o (by omega)
        obtain ⟨x1, hl1, hc1⟩ := Hlow.out (o + 1) (by omega)
        obtain ⟨x2, hl2, hc2⟩ := Hlow.out (o + 2) (by omega)
        obtain ⟨x3, hl3, hc3⟩ := Hlow.out (o + 3) (by omega)
        have Hfit : Hid (o + [x0, x1, x2, x3].length ≤ (L.take (4 * i) ++ (Zs 240).drop (4 * i)).length) := Lib.hid (by rw [fill_length (by rw [HL.out, Zs_length]), Zs_length]; show o + 4 ≤ 240; omega)
        have Hspl : Hid (splice (L.take (4 * i) ++ (Zs 240).drop (4 * i)) o [x0, x1, x2, x3] = L.take (4 * (i + 1)) ++ (Zs 240).drop (4 * (i + 1))) := Lib.hid (by
          rw [← ho, afill_splice (L := L) (M := Zs 240) (ns := [x0, x1, x2, x3]) (off := 4 * i) (by rw [HL.out, Zs_length]) (by rw [Zs_length]; show 4 * i + 4 ≤ 240; omega) (fun j x hx => by
            rw [ho]
            match j, hx with
            | 0, hx => injection hx with hx; rw [← hx]; exact hl0
            | 1, hx => injection hx with hx; rw [← hx]; exact hl1
            | 2, hx => injection hx with hx; rw [← hx]; exact hl2
            | 3, hx => injection hx with hx; rw [← hx]; exact hl3
            | j + 4, hx => simp at hx)]
          rfl)
        have Hc0 := Lib.hid hc0
        have Hc1 := Lib.hid hc1
        have Hc2 := Lib.hid hc2
        have Hc3 := Lib.hid hc3
        have k0 := fun W => run_indexAt_row (P := Tryd.prog) (b := kb) (t := 22) (e := 5) Tryd.underlying22 info_u8n ko 32 c o (ko + o) (4 * (i : Int)) (by omega) (by omega) (by omega) W
        have k1 := fun W => run_indexAt_row (P := Tryd.prog) (b := kb) (t := 22) (e := 5) Tryd.underlying22 info_u8n ko 32 c (o + 1) (ko + (o + 1)) (4 * (i : Int) + 1) (by omega) (by omega) (by omega) W
        have k2 := fun W => run_indexAt_row (P := Tryd.prog) (b := kb) (t := 22) (e := 5) Tryd.underlying22 info_u8n ko 32 c (o + 2) (ko + (o + 2)) (4 * (i : Int) + 2) (by omega) (by omega) (by omega) W
        have k3 := fun W => run_indexAt_row (P := Tryd.prog) (b := kb) (t := 22) (e := 5) Tryd.underlying22 info_u8n ko 32 c (o + 3) (ko + (o + 3)) (4 * (i : Int) + 3) (by omega) (by omega) (by omega) W
        have hw0 : IntKind.i64.wrap (4 * (i : Int)) = 4 * (i : Int) := IntWalk.i64_in _ ⟨by omega, by omega⟩
        have hw1 : IntKind.i64.wrap (4 * (i : Int) + 1) = 4 * (i : Int) + 1 := IntWalk.i64_in _ ⟨by omega, by omega⟩
        have hw2 : IntKind.i64.wrap (4 * (i : Int) + 2) = 4 * (i : Int) + 2 := IntWalk.i64_in _ ⟨by omega, by omega⟩
        have hw3 : IntKind.i64.wrap (4 * (i : Int) + 3) = 4 * (i : Int) + 3 := IntWalk.i64_in _ ⟨by omega, by omega⟩
        clear hl0 hl1 hl2 hl3 hc0 hc1 hc2 hc3 ho
        go_wp2_with fail
        refine wp_region_ends (fun w' => SK w [(g2, 76, L.take (4 * i) ++ (Zs 240).drop (4 * i)), (g1, 76, Zs 240)] w') 26 (by kernel_rfl) ?_
        refine wpAnyE_take (i := 0) (v := .int .i64 (i : Int)) (some 14) rfl rfl (by kernel_rfl) (fun _ _ _ h => h) (.inl ⟨by rfl, fun W _ => rfl⟩) (sk_drewN F5.out 1) ?_
        simp only [Act.put, List.setIfInBounds_toArray, List.set_cons_zero, List.set_cons_succ]
        refine wpAnyE_take (i := 1) (v := .slice (some ⟨kb, ko, none⟩) 32 c) (some 15) rfl rfl (by kernel_rfl) (fun _ _ _ h => h) (.inl ⟨by rfl, fun W _ => rfl⟩) (sk_drewN F5.out 1) ?_
        simp only [Act.put, List.setIfInBounds_toArray, List.set_cons_zero, List.set_cons_succ]
        refine wpAnyE_take (i := 2) (v := .int .i64 (i : Int)) (some 16) rfl rfl (by kernel_rfl) (fun _ _ _ h => h) (.inl ⟨by rfl, fun W _ => rfl⟩) (sk_drewN F5.out 1) ?_
        simp only [Act.put, List.setIfInBounds_toArray, List.set_cons_zero, List.set_cons_succ]
        refine wpAnyE_take (i := 3) (v := .int .i64 (4 * (i : Int))) (some 17) rfl rfl (by kernel_rfl) (fun _ _ _ h => h) (.inl ⟨by rfl, fun W _ => by go_simp⟩) (sk_drewN F5.out 1) ?_
        simp only [Act.put, List.setIfInBounds_toArray, List.set_cons_zero, List.set_cons_succ]
        refine wpAnyE_take (i := 4) (v := .pointer (some ⟨kb, ko + o, none⟩)) (some 18) rfl rfl (by kernel_rfl) (fun _ _ _ h => h) (.inl ⟨by rfl, fun W _ => by go_simp⟩) (sk_drewN F5.out 1) ?_
        simp only [Act.put, List.setIfInBounds_toArray, List.set_cons_zero, List.set_cons_succ]
        refine wpAnyE_take (i := 5) (v := .int .u8 (x0 : Int)) (some 19) rfl rfl (by kernel_rfl) (fun _ _ _ h => h) (.inl ⟨by rfl, fun W h => by have hc := (h.2.cell (p := ⟨kb, ko + o, none⟩) Hkb.out).trans Hc0.out; go_simp⟩) (sk_drewN F5.out 1) ?_
        simp only [Act.put, List.setIfInBounds_toArray, List.set_cons_zero, List.set_cons_succ]
        refine wpAnyE_take (i := 6) (v := .slice (some ⟨kb, ko, none⟩) 32 c) (some 20) rfl rfl (by kernel_rfl) (fun _ _ _ h => h) (.inl ⟨by rfl, fun W _ => rfl⟩) (sk_drewN F5.out 1) ?_
        simp only [Act.put, List.setIfInBounds_toArray, List.set_cons_zero, List.set_cons_succ]
        refine wpAnyE_take (i := 7) (v := .int .i64 (i : Int)) (some 21) rfl rfl (by kernel_rfl) (fun _ _ _ h => h) (.inl ⟨by rfl, fun W _ => rfl⟩) (sk_drewN F5.out 1) ?_
        simp only [Act.put, List.setIfInBounds_toArray, List.set_cons_zero, List.set_cons_succ]
        refine wpAnyE_take (i := 8) (v := .int .i64 (4 * (i : Int))) (some 22) rfl rfl (by kernel_rfl) (fun _ _ _ h => h) (.inl ⟨by rfl, fun W _ => by go_simp⟩) (sk_drewN F5.out 1) ?_
        simp only [Act.put, List.setIfInBounds_toArray, List.set_cons_zero, List.set_cons_succ]
        refine wpAnyE_take (i := 9) (v := .int .i64 (4 * (i : Int) + 1)) (some 23) rfl rfl (by kernel_rfl) (fun _ _ _ h => h) (.inl ⟨by rfl, fun W _ => by go_simp⟩) (sk_drewN F5.out 1) ?_
        simp only [Act.put, List.setIfInBounds_toArray, List.set_cons_zero, List.set_cons_succ]
        refine wpAnyE_take (i := 10) (v := .pointer (some ⟨kb, ko + (o + 1), none⟩)) (some 24) rfl rfl (by kernel_rfl) (fun _ _ _ h => h) (.inl ⟨by rfl, fun W _ => by go_simp⟩) (sk_drewN F5.out 1) ?_
        simp only [Act.put, List.setIfInBounds_toArray, List.set_cons_zero, List.set_cons_succ]
        refine wpAnyE_take (i := 11) (v := .int .u8 (x1 : Int)) (some 25) rfl rfl (by kernel_rfl) (fun _ _ _ h => h) (.inl ⟨by rfl, fun W h => by have hc := (h.2.cell (p := ⟨kb, ko + (o + 1), none⟩) Hkb.out).trans Hc1.out; go_simp⟩) (sk_drewN F5.out 1) ?_
        simp only [Act.put, List.setIfInBounds_toArray, List.set_cons_zero, List.set_cons_succ]
        refine wpAnyE_take (i := 12) (v := .slice (some ⟨kb, ko, none⟩) 32 c) (some 26) rfl rfl (by kernel_rfl) (fun _ _ _ h => h) (.inl ⟨by rfl, fun W _ => rfl⟩) (sk_drewN F5.out 1) ?_
        simp only [Act.put, List.setIfInBounds_toArray, List.set_cons_zero, List.set_cons_succ]
        refine wpAnyE_take (i := 13) (v := .int .i64 (i : Int)) (some 27) rfl rfl (by kernel_rfl) (fun _ _ _ h => h) (.inl ⟨by rfl, fun W _ => rfl⟩) (sk_drewN F5.out 1) ?_
        simp only [Act.put, List.setIfInBounds_toArray, List.set_cons_zero, List.set_cons_succ]
        refine wpAnyE_take (i := 14) (v := .int .i64 (4 * (i : Int))) (some 28) rfl rfl (by kernel_rfl) (fun _ _ _ h => h) (.inl ⟨by rfl, fun W _ => by go_simp⟩) (sk_drewN F5.out 1) ?_
        simp only [Act.put, List.setIfInBounds_toArray, List.set_cons_zero, List.set_cons_succ]
        refine wpAnyE_take (i := 15) (v := .int .i64 (4 * (i : Int) + 2)) (some 29) rfl rfl (by kernel_rfl) (fun _ _ _ h => h) (.inl ⟨by rfl, fun W _ => by go_simp⟩) (sk_drewN F5.out 1) ?_
        simp only [Act.put, List.setIfInBounds_toArray, List.set_cons_zero, List.set_cons_succ]
        refine wpAnyE_take (i := 16) (v := .pointer (some ⟨kb, ko + (o + 2), none⟩)) (some 30) rfl rfl (by kernel_rfl) (fun _ _ _ h => h) (.inl ⟨by rfl, fun W _ => by go_simp⟩) (sk_drewN F5.out 1) ?_
        simp only [Act.put, List.setIfInBounds_toArray, List.set_cons_zero, List.set_cons_succ]
        refine wpAnyE_take (i := 17) (v := .int .u8 (x2 : Int)) (some 31) rfl rfl (by kernel_rfl) (fun _ _ _ h => h) (.inl ⟨by rfl, fun W h => by have hc := (h.2.cell (p := ⟨kb, ko + (o + 2), none⟩) Hkb.out).trans Hc2.out; go_simp⟩) (sk_drewN F5.out 1) ?_
        simp only [Act.put, List.setIfInBounds_toArray, List.set_cons_zero, List.set_cons_succ]
        refine wpAnyE_take (i := 18) (v := .slice (some ⟨kb, ko, none⟩) 32 c) (some 32) rfl rfl (by kernel_rfl) (fun _ _ _ h => h) (.inl ⟨by rfl, fun W _ => rfl⟩) (sk_drewN F5.out 1) ?_
        simp only [Act.put, List.setIfInBounds_toArray, List.set_cons_zero, List.set_cons_succ]
        refine wpAnyE_take (i := 19) (v := .int .i64 (i : Int)) (some 33) rfl rfl (by kernel_rfl) (fun _ _ _ h => h) (.inl ⟨by rfl, fun W _ => rfl⟩) (sk_drewN F5.out 1) ?_
        simp only [Act.put, List.setIfInBounds_toArray, List.set_cons_zero, List.set_cons_succ]
        refine wpAnyE_take (i := 20) (v := .int .i64 (4 * (i : Int))) (some 34) rfl rfl (by kernel_rfl) (fun _ _ _ h => h) (.inl ⟨by rfl, fun W _ => by go_simp⟩) (sk_drewN F5.out 1) ?_
        simp only [Act.put, List.setIfInBounds_toArray, List.set_cons_zero, List.set_cons_succ]
        refine wpAnyE_take (i := 21) (v := .int .i64 (4 * (i : Int) + 3)) (some 35) rfl rfl (by kernel_rfl) (fun _ _ _ h => h) (.inl ⟨by rfl, fun W _ => by go_simp⟩) (sk_drewN F5.out 1) ?_
        simp only [Act.put, List.setIfInBounds_toArray, List.set_cons_zero, List.set_cons_succ]
        refine wpAnyE_take (i := 22) (v := .pointer (some ⟨kb, ko + (o + 3), none⟩)) (some 36) rfl rfl (by kernel_rfl) (fun _ _ _ h => h) (.inl ⟨by rfl, fun W _ => by go_simp⟩) (sk_drewN F5.out 1) ?_
        simp only [Act.put, List.setIfInBounds_toArray, List.set_cons_zero, List.set_cons_succ]
        refine wpAnyE_take (i := 23) (v := .int .u8 (x3 : Int)) (some 37) rfl rfl (by kernel_rfl) (fun _ _ _ h => h) (.inl ⟨by rfl, fun W h => by have hc := (h.2.cell (p := ⟨kb, ko + (o + 3), none⟩) Hkb.out).trans Hc3.out; go_simp⟩) (sk_drewN F5.out 1) ?_
        simp only [Act.put, List.setIfInBounds_toArray, List.set_cons_zero, List.set_cons_succ]
        refine wpAnyE_take (i := 24) (v := .agg (Nums .u8 [x0, x1, x2, x3])) (some 38) rfl rfl (by kernel_rfl) (fun _ _ _ h => h) (.inl ⟨by rfl, fun W _ => by go_simp; rfl⟩) (sk_drewN F5.out 1) ?_
        simp only [Act.put, List.setIfInBounds_toArray, List.set_cons_zero, List.set_cons_succ]
        refine wpAnyE_take (i := 25) (v := .pointer (some ⟨g2, o, none⟩)) (some 39) rfl rfl (by kernel_rfl) (fun _ _ _ h => h) (.inl ⟨by rfl, fun W _ => by go_simp⟩) (sk_drewN F5.out 1) ?_
        simp only [Act.put, List.setIfInBounds_toArray, List.set_cons_zero, List.set_cons_succ]
        refine wpAnyE_one (i := 26) (by kernel_rfl) rfl (fun K5 hK5 => ?_)
        refine stepE_put_part none rfl rfl _ _ rfl o rfl rfl (sk_hd F5.out).drew Hfit.out info_4 (fun W6 A6 M6 _ => hK5.out _ _ (.inl rfl) ?_)
        have F6 := Lib.hid (sk_put (sk_drewN F5.out 1) M6.out A6.out Hne2.out Hg.out.2)
        rw [Hspl.out] at F6
        clear hK5 K5 A6 M6 F5
        simp only [Act.put]
        refine wpAnyE_done (by kernel_rfl) ?_
        go_wp2
        go_roundw
        case rel => exact ⟨i + 1, by omega, by go_num, F6⟩
        case measure => simp [intOf]; omega
      · obtain ⟨a, b, c', d, hw, hx⟩ := Hhigh.out i (by omega) hlt
        have HR : Hid (abn (achgB gboxU i [a, b, c', d]) = if i % 8 = 0 then four (gboxU b ^^^ gpowerU 2 ((i / 8 : Nat) - 1 : Int)) (gboxU c') (gboxU d) (gboxU a) else if i % 4 = 0 then four (gboxU a) (gboxU b) (gboxU c') (gboxU d) else four a b c' d) := Lib.hid (by
          simp only [achgB]
          split
          · rfl
          · split <;> rfl)
        obtain ⟨o1, ho1⟩ : ∃ o1, 4 * (i - 1) = o1 := ⟨_, rfl⟩
        obtain ⟨o8, ho8⟩ : ∃ o8, 4 * (i - 8) = o8 := ⟨_, rfl⟩
        have Ho8 := Lib.hid ho8
        have ix1 := fun W => run_indexAt_w (b := g2) arrWords info_4 (i - 1) o1 ((i : Int) - 1) (by omega) (by omega) (by omega) W
        have ix8 := fun W => run_indexAt_w (b := g2) arrWords info_4 (i - 8) o8 ((i : Int) - 8) (by omega) (by omega) (by omega) W
        have Hn1 : Hid (∀ j x : Nat, (four a b c' d)[j]? = some x → (L.take (4 * i) ++ (Zs 240).drop (4 * i))[o1 + j]? = some x) := Lib.hid (fun j x hj => by
          have h4 : j < 4 := (List.getElem?_eq_some_iff.1 hj).1
          rw [afill_low (by omega) (by rw [HL.out]; omega), ← ho1]
          rw [← hw] at hj
          exact awn_get j x hj)
        have hw1 : IntKind.i64.wrap ((i : Int) - 1) = (i : Int) - 1 := IntWalk.i64_in _ ⟨by omega, by omega⟩
        have hw8 : IntKind.i64.wrap ((i : Int) - 8) = (i : Int) - 8 := IntWalk.i64_in _ ⟨by omega, by omega⟩
        have Hx := Lib.hid hx
        have z0 : (0 : Int) ≤ (i : Int) := by omega
        obtain ⟨m, hm⟩ : ∃ m, i % 8 = m := ⟨_, rfl⟩
        have em : (i : Int) % 8 = (m : Int) := by omega
        have emt : (i : Int).tmod 8 = (m : Int) := by rw [Int.tmod_eq_emod_of_nonneg z0]; exact em
        have hm8 : m < 8 := by omega
        obtain ⟨m4, hm4⟩ : ∃ m4, i % 4 = m4 := ⟨_, rfl⟩
        have em4 : (i : Int) % 4 = (m4 : Int) := by omega
        have emt4 : (i : Int).tmod 4 = (m4 : Int) := by rw [Int.tmod_eq_emod_of_nonneg z0]; exact em4
        have hm44 : m4 < 4 := by omega
        have hmm : m4 = m % 4 := by omega
        obtain ⟨q, hq⟩ : ∃ q, i / 8 = q := ⟨_, rfl⟩
        have eq : (i : Int) / 8 = (q : Int) := by omega
        have eqt : (i : Int).tdiv 8 = (q : Int) := by rw [Int.tdiv_eq_ediv_of_nonneg z0]; exact eq
        have hq8 : q < 1000 := by omega
        have hwq : IntKind.i64.wrap (q : Int) = (q : Int) := IntWalk.i64_in _ ⟨by omega, by omega⟩
        have hwr : IntKind.i64.wrap ((q : Int) - 1) = (q : Int) - 1 := IntWalk.i64_in _ ⟨by omega, by omega⟩
        rw [hm, hm4, hq] at HR
        clear hw hx ho1 ho8 ho hm hm4 hq
        go_wp2_with (first
          | refine wp_load_part (ns := four a b c' d) arr4.under rfl info_4 rfl (.tmp 42) rfl o1 rfl (sk_hd F5.out) rfl Hn1.out ?_
          | refine wp_alloc_arr (k := .u8) rfl 75 rfl 4 zero4 ?_)
        intro w5 g5 G5 H7 Hb7 Hs7
        go_wp2_with (refine wp_put_arr arr4 rfl (.tmp 5) (.tmp 43) rfl rfl (l' := four a b c' d) rfl H7.out (Zs_length _) rfl ?_)
        intro w6 H8 Hm8 Hs8
        have Hg7 : Hid (g2 ≠ g5 ∧ g1 ≠ g5 ∧ w.heap.size ≤ g5) := Lib.hid (by
          have e := G5.out
          have h0 := (sk_hd F5.out).lt
          have h2 := (F5.out.1 (g1, 76, Zs 240) (by simp)).lt
          have h3 := F5.out.2.size
          dsimp only at h2
          omega)
        have Hg5 := Lib.hid Hg7.out.2.2
        have F7 : Hid (SK w [(g5, 75, four a b c' d), (g2, 76, L.take (4 * i) ++ (Zs 240).drop (4 * i)), (g1, 76, Zs 240)] w6) := Lib.hid (sk_cons (sk_keep (sk_below F5.out Hb7.out) Hm8.out (by
          have h4 := Hg7.out
          intro x hx
          simp only [List.mem_cons, List.not_mem_nil, or_false] at hx
          rcases hx with rfl | rfl
          · exact h4.1
          · exact h4.2.1) Hg7.out.2.2) H8.out)
        have Hne5 : Hid (∀ x ∈ [(g2, 76, L.take (4 * i) ++ (Zs 240).drop (4 * i)), (g1, 76, Zs 240)], x.1 ≠ g5) := Lib.hid (by
          have h4 := Hg7.out
          intro x hx
          simp only [List.mem_cons, List.not_mem_nil, or_false] at hx
          rcases hx with rfl | rfl
          · exact h4.1
          · exact h4.2.1)
        have Hne25 : Hid (∀ C : List Nat, ∀ x ∈ [(g5, 75, C), (g1, 76, Zs 240)], x.1 ≠ g2) := Lib.hid (by
          have h4 := Hg7.out
          have h5 := Hg.out
          intro C x hx
          simp only [List.mem_cons, List.not_mem_nil, or_false] at hx
          rcases hx with rfl | rfl
          · exact h4.1.symm
          · exact h5.1.2)
        clear F5 H7 H8 Hb7 Hs7 Hm8 Hs8 G5 Hn1 ix1 hw1
        by_cases h0 : m = 0
        · subst h0
          obtain rfl : m4 = 0 := by omega
          have HC : Hid (abn (achgB gboxU i [a, b, c', d]) = four (gboxU b ^^^ gpowerU 2 ((q : Int) - 1)) (gboxU c') (gboxU d) (gboxU a)) := Lib.hid HR.out
          rw [HC.out] at Hx
          clear HR HC hmm
          have cpow : ∀ w, Calls Tryd.prog 86 #[.int .u8 2, .int .i64 ((q : Int) - 1)] w (fun e w' => e = .returned (.int .u8 ((gpowerU 2 ((q : Int) - 1)).toNat : Int)) ∧ w' = w) := fun w => rgpower_any 2 ((q : Int) - 1) w (by omega)
          have hxp := gxor_u8 (gboxU b) (gpowerU 2 ((q : Int) - 1))
          have HY : Hid (∀ k, k < 4 → ∃ u : UInt8, (four b c' d a)[k]? = some u.toNat ∧ (four (gboxU b) (gboxU c') (gboxU d) (gboxU a))[k]? = some (gboxU u).toNat) := Lib.hid (fun k hk => match k, hk with
            | 0, _ => ⟨b, rfl, rfl⟩
            | 1, _ => ⟨c', rfl, rfl⟩
            | 2, _ => ⟨d, rfl, rfl⟩
            | 3, _ => ⟨a, rfl, rfl⟩)
          revert Hx cpow hxp HY
          generalize gboxU b ^^^ gpowerU 2 ((q : Int) - 1) = px
          generalize gpowerU 2 ((q : Int) - 1) = pw
          generalize gboxU a = pa
          generalize gboxU b = pb
          generalize gboxU c' = pc
          generalize gboxU d = pd
          intro Hx cpow hxp HY
          have d0 := (sk_hd F7.out).at_ (j := 0) (x := a.toNat) rfl
          have d1 := (sk_hd F7.out).at_ (j := 1) (x := b.toNat) rfl
          have d2 := (sk_hd F7.out).at_ (j := 2) (x := c'.toNat) rfl
          have d3 := (sk_hd F7.out).at_ (j := 3) (x := d.toNat) rfl
          go_wp2_with (refine wp_put_arr arr4 rfl (.tmp 5) (.tmp 55) rfl rfl (l' := four b c' d a) rfl (sk_hd F7.out) rfl rfl ?_)
          intro w7 H9 Hm9 Hs9
          have F8 : Hid (SK w [(g5, 75, four b c' d a), (g2, 76, L.take (4 * i) ++ (Zs 240).drop (4 * i)), (g1, 76, Zs 240)] w7) := Lib.hid (sk_put F7.out Hm9.out H9.out Hne5.out Hg5.out)
          clear F7 H9 Hm9 Hs9 d0 d1 d2 d3
          have Fk : Hid (SK w [(g5, 75, (four pb pc pd pa).take 0 ++ (four b c' d a).drop 0), (g2, 76, L.take (4 * i) ++ (Zs 240).drop (4 * i)), (g1, 76, Zs 240)] _) := Lib.hid (show SK w [(g5, 75, four b c' d a), (g2, 76, L.take (4 * i) ++ (Zs 240).drop (4 * i)), (g1, 76, Zs 240)] _ from F8.out)
          clear F8
          go_wp2
          go_loopw [6] (fun u wr => ∃ k : Nat, k ≤ 4 ∧ u = .int .i64 (k : Int) ∧ Hid (SK w [(g5, 75, (four pb pc pd pa).take k ++ (four b c' d a).drop k), (g2, 76, L.take (4 * i) ++ (Zs 240).drop (4 * i)), (g1, 76, Zs 240)] wr)) (fun u _ => 4 - (intOf u).toNat)
          case atStart => exact ⟨0, by omega, rfl, Fk⟩
          case round =>
            clear Fk
            obtain ⟨k, hk, rfl, F7⟩ := hrel
            by_cases hlk : k < 4
            · obtain ⟨u, hu, hu2⟩ := HY.out k hlk
              have hc := fun w' => rgbox_any u w'
              have hin := (sk_hd F7.out).at_ (afill_at hu (L := four pb pc pd pa) (show k ≤ 4 by omega))
              have Hu := Lib.hid hu2
              clear hu hu2
              generalize gboxU u = uu at *
              go_wp2_with fail
              refine (hc _).mono ?_
              rintro e w4 ⟨rfl, n4, rfl⟩
              have F8 := Lib.hid (sk_drewN F7.out n4)
              have hout := (sk_hd F8.out).at_ (fill_get (L := four pb pc pd pa) (M := four b c' d a) (i := k) (show k < 4 from hlk) (show k ≤ 4 by omega))
              have hfz := (sk_hd F8.out).frozen k
              clear F7
              go_wp2
              go_roundw
              case rel =>
                refine ⟨k + 1, by omega, by go_num, Lib.hid ?_⟩
                rw [← afill_step Hu.out (show k < (four b c' d a).length from hlk)]
                exact sk_set F8.out Hne5.out Hg5.out k _
              case measure => simp [intOf]; omega
            · have F9 : Hid (SK w [(g5, 75, four pb pc pd pa), (g2, 76, L.take (4 * i) ++ (Zs 240).drop (4 * i)), (g1, 76, Zs 240)] wr) := Lib.hid (by have h := F7.out; rw [show k = 4 by omega] at h; exact h)
              clear F7
              go_wp2_with fail
              refine wp_region_ends (fun w' => SK w [(g5, 75, four pb pc pd pa), (g2, 76, L.take (4 * i) ++ (Zs 240).drop (4 * i)), (g1, 76, Zs 240)] w') 8 (by kernel_rfl) ?_
              refine wpAnyE_take (i := 0) (v := .pointer (some ⟨g5, 0, none⟩)) (some 72) rfl rfl (by kernel_rfl) (fun _ _ _ h => h) (.inl ⟨by rfl, fun W _ => by go_simp⟩) (sk_drewN F9.out 1) ?_
              simp only [Act.put, List.setIfInBounds_toArray, List.set_cons_zero, List.set_cons_succ]
              refine wpAnyE_take (i := 1) (v := .int .u8 (pb.toNat : Int)) (some 73) rfl rfl (by kernel_rfl) (fun _ _ _ h => h) (.inl ⟨by rfl, fun W h => by have hc := (sk_hd h).at_ (j := 0) (x := pb.toNat) rfl; go_simp⟩) (sk_drewN F9.out 1) ?_
              simp only [Act.put, List.setIfInBounds_toArray, List.set_cons_zero, List.set_cons_succ]
              refine wpAnyE_take (i := 2) (v := .int .i64 (i : Int)) (some 74) rfl rfl (by kernel_rfl) (fun _ _ _ h => h) (.inl ⟨by rfl, fun W _ => rfl⟩) (sk_drewN F9.out 1) ?_
              simp only [Act.put, List.setIfInBounds_toArray, List.set_cons_zero, List.set_cons_succ]
              refine wpAnyE_take (i := 3) (v := .int .i64 (q : Int)) (some 75) rfl rfl (by kernel_rfl) (fun _ _ _ h => h) (.inl ⟨by rfl, fun W _ => by go_simp⟩) (sk_drewN F9.out 1) ?_
              simp only [Act.put, List.setIfInBounds_toArray, List.set_cons_zero, List.set_cons_succ]
              refine wpAnyE_take (i := 4) (v := .int .i64 ((q : Int) - 1)) (some 76) rfl rfl (by kernel_rfl) (fun _ _ _ h => h) (.inl ⟨by rfl, fun W _ => by go_simp⟩) (sk_drewN F9.out 1) ?_
              simp only [Act.put, List.setIfInBounds_toArray, List.set_cons_zero, List.set_cons_succ]
              refine wpAnyE_one (i := 5) (by kernel_rfl) rfl (fun K5 hK5 => ?_)
              refine stepE_call (v := .int .u8 (pw.toNat : Int)) (R := fun w' => w' = _) (some 77) rfl rfl 86 Tryd.func86 (by kernel_rfl) rfl _ _ rfl [.int .u8 2, .int .i64 ((q : Int) - 1)] rfl (cpow _) (fun W5 hW => hK5.out _ _ (.inr (by rw [hW]; exact sk_drewN F9.out 1)) ?_)
              obtain rfl := hW
              clear hK5 K5
              simp only [Act.put, List.setIfInBounds_toArray, List.set_cons_zero, List.set_cons_succ]
              refine wpAnyE_take (i := 6) (v := .int .u8 (px.toNat : Int)) (some 78) rfl rfl (by kernel_rfl) (fun _ _ _ h => h) (.inl ⟨by rfl, fun W _ => by go_simp⟩) (sk_drewN F9.out 1) ?_
              simp only [Act.put, List.setIfInBounds_toArray, List.set_cons_zero, List.set_cons_succ]
              refine wpAnyE_take (i := 7) (v := .pointer (some ⟨g5, 0, none⟩)) (some 79) rfl rfl (by kernel_rfl) (fun _ _ _ h => h) (.inl ⟨by rfl, fun W _ => by go_simp⟩) (sk_drewN F9.out 1) ?_
              simp only [Act.put, List.setIfInBounds_toArray, List.set_cons_zero, List.set_cons_succ]
              refine wpAnyE_one (i := 8) (by kernel_rfl) rfl (fun K6 hK6 => ?_)
              have hfz := (sk_hd F9.out).drew.frozen 0
              have hcl := (sk_hd F9.out).drew.at_ (j := 0) (x := pb.toNat) rfl
              go_simp
              refine hK6.out _ _ (.inl rfl) ?_
              have F10 : Hid (SK w [(g5, 75, four px pc pd pa), (g2, 76, L.take (4 * i) ++ (Zs 240).drop (4 * i)), (g1, 76, Zs 240)] ((wr.setCell ⟨g5, 0, none⟩ (.int .u8 (px.toNat : Int))).drew)) := Lib.hid (sk_drewN (sk_set F9.out Hne5.out Hg5.out 0 px.toNat) 1)
              revert F10
              generalize (wr.setCell ⟨g5, 0, none⟩ (.int .u8 (px.toNat : Int))).drew = W6
              intro F10
              clear hK6 K6 F9 hfz hcl
              refine wpAnyE_done (by kernel_rfl) ?_
              have Fz : Hid (SK w [(g5, 75, four px pc pd pa), (g2, 76, L.take (o + 0) ++ (Zs 240).drop (o + 0)), (g1, 76, Zs 240)] _) := Lib.hid (by have h := F10.out; rw [Ho.out] at h; exact h)
              clear F10
              go_wp2
              go_loopw [7] (fun u wr => ∃ v : Nat, v ≤ 4 ∧ u = .int .i64 (v : Int) ∧ Hid (SK w [(g5, 75, four px pc pd pa), (g2, 76, L.take (o + v) ++ (Zs 240).drop (o + v)), (g1, 76, Zs 240)] wr)) (fun u _ => 4 - (intOf u).toNat)
              case atStart => exact ⟨0, by omega, rfl, Fz⟩
              case round =>
                clear Fz
                obtain ⟨v, hv, rfl, F7⟩ := hrel
                by_cases hlv : v < 4
                · obtain ⟨x, y, hx, hy, hz⟩ := Hx.out v hlv
                  obtain ⟨q, hq⟩ : ∃ q, o + v = q := ⟨_, rfl⟩
                  obtain ⟨q8, hq8⟩ : ∃ q8, o8 + v = q8 := ⟨_, rfl⟩
                  have ixj := fun W => run_indexAt_arr (g := g5) arr4 info_u8n v (v : Int) rfl hlv W
                  have ixq := fun W => run_indexAt_off (P := Tryd.prog) (b := g2) arr4 info_u8n o v q hlv hq W
                  have ixq8 := fun W => run_indexAt_off (P := Tryd.prog) (b := g2) arr4 info_u8n o8 v q8 hlv hq8 W
                  have hxor := gxor_u8 x y
                  rw [Ho.out, hq] at hz
                  rw [hq] at F7
                  have hq240 : q < 240 := by have := Ho.out; omega
                  have Hx8 : Hid ((L.take q ++ (Zs 240).drop q)[q8]? = some x.toNat) := Lib.hid (by
                    rw [afill_low (by have := Ho.out; have := Ho8.out; omega) (by rw [HL.out]; omega), ← hq8, ← Ho8.out]
                    exact awn_get v _ hx)
                  have Hz := Lib.hid hz
                  have Hy := Lib.hid hy
                  have Hq := Lib.hid hq
                  clear hx hy hz hq hq8
                  generalize x ^^^ y = z at *
                  have hfz := (sk_hd (sk_sub (M := [(g2, 76, L.take (q) ++ (Zs 240).drop (q)), (g1, 76, Zs 240)]) F7.out (by intro y hy; simp only [List.mem_cons, List.not_mem_nil, or_false] at hy ⊢; rcases hy with rfl | rfl <;> simp))).drew.frozen q
                  have hcl := (sk_hd (sk_sub (M := [(g2, 76, L.take (q) ++ (Zs 240).drop (q)), (g1, 76, Zs 240)]) F7.out (by intro y hy; simp only [List.mem_cons, List.not_mem_nil, or_false] at hy ⊢; rcases hy with rfl | rfl <;> simp))).drew.at_ (fill_get (L := L) (M := Zs 240) (i := q) (by rw [Zs_length]; omega) (by rw [HL.out]; omega))
                  go_wp2_with fail
                  refine wp_region_ends (fun w' => SK w [(g5, 75, four px pc pd pa), (g2, 76, L.take (q) ++ (Zs 240).drop (q)), (g1, 76, Zs 240)] w') 14 (by kernel_rfl) ?_
                  refine wpAnyE_take (i := 0) (v := .int .i64 (i : Int)) (some 84) rfl rfl (by kernel_rfl) (fun _ _ _ h => h) (.inl ⟨by rfl, fun W _ => rfl⟩) (sk_drewN F7.out 1) ?_
                  simp only [Act.put, List.setIfInBounds_toArray, List.set_cons_zero, List.set_cons_succ]
                  refine wpAnyE_take (i := 1) (v := .int .i64 (v : Int)) (some 85) rfl rfl (by kernel_rfl) (fun _ _ _ h => h) (.inl ⟨by rfl, fun W _ => rfl⟩) (sk_drewN F7.out 1) ?_
                  simp only [Act.put, List.setIfInBounds_toArray, List.set_cons_zero, List.set_cons_succ]
                  refine wpAnyE_take (i := 2) (v := .int .i64 (i : Int)) (some 86) rfl rfl (by kernel_rfl) (fun _ _ _ h => h) (.inl ⟨by rfl, fun W _ => rfl⟩) (sk_drewN F7.out 1) ?_
                  simp only [Act.put, List.setIfInBounds_toArray, List.set_cons_zero, List.set_cons_succ]
                  refine wpAnyE_take (i := 3) (v := .int .i64 ((i : Int) - 8)) (some 87) rfl rfl (by kernel_rfl) (fun _ _ _ h => h) (.inl ⟨by rfl, fun W _ => by go_simp⟩) (sk_drewN F7.out 1) ?_
                  simp only [Act.put, List.setIfInBounds_toArray, List.set_cons_zero, List.set_cons_succ]
                  refine wpAnyE_take (i := 4) (v := .int .i64 (v : Int)) (some 88) rfl rfl (by kernel_rfl) (fun _ _ _ h => h) (.inl ⟨by rfl, fun W _ => rfl⟩) (sk_drewN F7.out 1) ?_
                  simp only [Act.put, List.setIfInBounds_toArray, List.set_cons_zero, List.set_cons_succ]
                  refine wpAnyE_take (i := 5) (v := .pointer (some ⟨g2, o8, none⟩)) (some 89) rfl rfl (by kernel_rfl) (fun _ _ _ h => h) (.inl ⟨by rfl, fun W _ => by go_simp⟩) (sk_drewN F7.out 1) ?_
                  simp only [Act.put, List.setIfInBounds_toArray, List.set_cons_zero, List.set_cons_succ]
                  refine wpAnyE_take (i := 6) (v := .pointer (some ⟨g2, q8, none⟩)) (some 90) rfl rfl (by kernel_rfl) (fun _ _ _ h => h) (.inl ⟨by rfl, fun W _ => by go_simp⟩) (sk_drewN F7.out 1) ?_
                  simp only [Act.put, List.setIfInBounds_toArray, List.set_cons_zero, List.set_cons_succ]
                  refine wpAnyE_take (i := 7) (v := .int .u8 (x.toNat : Int)) (some 91) rfl rfl (by kernel_rfl) (fun _ _ _ h => h) (.inl ⟨by rfl, fun W h => by have hc := (sk_hd (sk_sub (M := [(g2, 76, L.take (q) ++ (Zs 240).drop (q)), (g1, 76, Zs 240)]) h (by intro y hy; simp only [List.mem_cons, List.not_mem_nil, or_false] at hy ⊢; rcases hy with rfl | rfl <;> simp))).at_ Hx8.out; go_simp⟩) (sk_drewN F7.out 1) ?_
                  simp only [Act.put, List.setIfInBounds_toArray, List.set_cons_zero, List.set_cons_succ]
                  refine wpAnyE_take (i := 8) (v := .int .i64 (v : Int)) (some 92) rfl rfl (by kernel_rfl) (fun _ _ _ h => h) (.inl ⟨by rfl, fun W _ => rfl⟩) (sk_drewN F7.out 1) ?_
                  simp only [Act.put, List.setIfInBounds_toArray, List.set_cons_zero, List.set_cons_succ]
                  refine wpAnyE_take (i := 9) (v := .pointer (some ⟨g5, v, none⟩)) (some 93) rfl rfl (by kernel_rfl) (fun _ _ _ h => h) (.inl ⟨by rfl, fun W _ => by go_simp⟩) (sk_drewN F7.out 1) ?_
                  simp only [Act.put, List.setIfInBounds_toArray, List.set_cons_zero, List.set_cons_succ]
                  refine wpAnyE_take (i := 10) (v := .int .u8 (y.toNat : Int)) (some 94) rfl rfl (by kernel_rfl) (fun _ _ _ h => h) (.inl ⟨by rfl, fun W h => by have hc := (sk_hd h).at_ Hy.out; go_simp⟩) (sk_drewN F7.out 1) ?_
                  simp only [Act.put, List.setIfInBounds_toArray, List.set_cons_zero, List.set_cons_succ]
                  refine wpAnyE_take (i := 11) (v := .int .u8 (z.toNat : Int)) (some 95) rfl rfl (by kernel_rfl) (fun _ _ _ h => h) (.inl ⟨by rfl, fun W _ => by go_simp⟩) (sk_drewN F7.out 1) ?_
                  simp only [Act.put, List.setIfInBounds_toArray, List.set_cons_zero, List.set_cons_succ]
                  refine wpAnyE_one (i := 12) (by kernel_rfl) rfl (fun K7 hK7 => ?_)
                  go_simp
                  refine hK7.out _ _ (.inr (sk_drewN F7.out 1)) ?_
                  clear hK7 K7
                  refine wpAnyE_take (i := 13) (v := .pointer (some ⟨g2, q, none⟩)) (some 97) rfl rfl (by kernel_rfl) (fun _ _ _ h => h) (.inl ⟨by rfl, fun W _ => by go_simp⟩) (sk_drewN F7.out 1) ?_
                  simp only [Act.put, List.setIfInBounds_toArray, List.set_cons_zero, List.set_cons_succ]
                  refine wpAnyE_one (i := 14) (by kernel_rfl) rfl (fun K6 hK6 => ?_)
                  go_simp
                  refine hK6.out _ _ (.inl rfl) ?_
                  have F8 : Hid (SK w [(g5, 75, four px pc pd pa), (g2, 76, L.take (o + (v + 1)) ++ (Zs 240).drop (o + (v + 1))), (g1, 76, Zs 240)] ((wr.setCell ⟨g2, q, none⟩ (.int .u8 (z.toNat : Int))).drew)) := Lib.hid (by
                    have h := sk_drewN (sk_set (sk_sub (M := [(g2, 76, L.take (q) ++ (Zs 240).drop (q)), (g5, 75, four px pc pd pa), (g1, 76, Zs 240)]) F7.out (by intro y hy; simp only [List.mem_cons, List.not_mem_nil, or_false] at hy ⊢; rcases hy with rfl | rfl | rfl <;> simp)) (Hne25.out _) Hg.out.2 q z.toNat) 1
                    rw [afill_step Hz.out (by rw [Zs_length]; omega)] at h
                    rw [show o + (v + 1) = q + 1 by have := Hq.out; omega]
                    exact sk_sub h (by intro y hy; simp only [List.mem_cons, List.not_mem_nil, or_false] at hy ⊢; rcases hy with rfl | rfl | rfl <;> simp))
                  clear hK6 K6 F7
                  refine wpAnyE_done (by kernel_rfl) ?_
                  go_wp2
                  go_roundw
                  case rel => exact ⟨v + 1, by omega, by go_num, F8⟩
                  case measure => simp [intOf]; omega
                · obtain rfl : v = 4 := by omega
                  have F9 : Hid (SK w [(g2, 76, L.take (4 * (i + 1)) ++ (Zs 240).drop (4 * (i + 1))), (g1, 76, Zs 240)] wr) := Lib.hid (by
                    have h := sk_sub (M := [(g2, 76, L.take (o + 4) ++ (Zs 240).drop (o + 4)), (g1, 76, Zs 240)]) F7.out (by intro y hy; simp only [List.mem_cons, List.not_mem_nil, or_false] at hy ⊢; rcases hy with rfl | rfl <;> simp)
                    rw [show o + 4 = 4 * (i + 1) by have := Ho.out; omega] at h
                    exact h)
                  clear F7
                  go_wp2
                  go_roundw
                  case rel => exact ⟨i + 1, by omega, by go_num, F9⟩
                  case measure => simp [intOf]; omega
        · by_cases h4 : m = 4
          · subst h4
            obtain rfl : m4 = 0 := by omega
            have HC : Hid (abn (achgB gboxU i [a, b, c', d]) = four (gboxU a) (gboxU b) (gboxU c') (gboxU d)) := Lib.hid HR.out
            rw [HC.out] at Hx
            clear HR HC hmm
            have HY : Hid (∀ k, k < 4 → ∃ u : UInt8, (four a b c' d)[k]? = some u.toNat ∧ (four (gboxU a) (gboxU b) (gboxU c') (gboxU d))[k]? = some (gboxU u).toNat) := Lib.hid (fun k hk => match k, hk with
              | 0, _ => ⟨a, rfl, rfl⟩
              | 1, _ => ⟨b, rfl, rfl⟩
              | 2, _ => ⟨c', rfl, rfl⟩
              | 3, _ => ⟨d, rfl, rfl⟩)
            revert Hx HY
            generalize gboxU a = pa
            generalize gboxU b = pb
            generalize gboxU c' = pc
            generalize gboxU d = pd
            intro Hx HY
            have F8 := F7
            clear F7
            have Fk : Hid (SK w [(g5, 75, (four pa pb pc pd).take 0 ++ (four a b c' d).drop 0), (g2, 76, L.take (4 * i) ++ (Zs 240).drop (4 * i)), (g1, 76, Zs 240)] _) := Lib.hid (show SK w [(g5, 75, four a b c' d), (g2, 76, L.take (4 * i) ++ (Zs 240).drop (4 * i)), (g1, 76, Zs 240)] _ from F8.out)
            clear F8
            go_wp2
            go_loopw [6] (fun u wr => ∃ k : Nat, k ≤ 4 ∧ u = .int .i64 (k : Int) ∧ Hid (SK w [(g5, 75, (four pa pb pc pd).take k ++ (four a b c' d).drop k), (g2, 76, L.take (4 * i) ++ (Zs 240).drop (4 * i)), (g1, 76, Zs 240)] wr)) (fun u _ => 4 - (intOf u).toNat)
            case atStart => exact ⟨0, by omega, rfl, Fk⟩
            case round =>
              clear Fk
              obtain ⟨k, hk, rfl, F7⟩ := hrel
              by_cases hlk : k < 4
              · obtain ⟨u, hu, hu2⟩ := HY.out k hlk
                have hc := fun w' => rgbox_any u w'
                have hin := (sk_hd F7.out).at_ (afill_at hu (L := four pa pb pc pd) (show k ≤ 4 by omega))
                have Hu := Lib.hid hu2
                clear hu hu2
                generalize gboxU u = uu at *
                go_wp2_with fail
                refine (hc _).mono ?_
                rintro e w4 ⟨rfl, n4, rfl⟩
                have F8 := Lib.hid (sk_drewN F7.out n4)
                have hout := (sk_hd F8.out).at_ (fill_get (L := four pa pb pc pd) (M := four a b c' d) (i := k) (show k < 4 from hlk) (show k ≤ 4 by omega))
                have hfz := (sk_hd F8.out).frozen k
                clear F7
                go_wp2
                go_roundw
                case rel =>
                  refine ⟨k + 1, by omega, by go_num, Lib.hid ?_⟩
                  rw [← afill_step Hu.out (show k < (four a b c' d).length from hlk)]
                  exact sk_set F8.out Hne5.out Hg5.out k _
                case measure => simp [intOf]; omega
              · have F9 : Hid (SK w [(g5, 75, four pa pb pc pd), (g2, 76, L.take (4 * i) ++ (Zs 240).drop (4 * i)), (g1, 76, Zs 240)] wr) := Lib.hid (by have h := F7.out; rw [show k = 4 by omega] at h; exact h)
                clear F7
                have Fz : Hid (SK w [(g5, 75, four pa pb pc pd), (g2, 76, L.take (o + 0) ++ (Zs 240).drop (o + 0)), (g1, 76, Zs 240)] _) := Lib.hid (by have h := F9.out; rw [Ho.out] at h; exact h)
                clear F9
                go_wp2
                have hd1 : decide ((i : Int) < 8) = false := by simp; omega
                have hd2 : decide ((k : Int) < 4) = false := by simp; omega
                try (simp only [hd1])
                try (simp only [hd2])
                go_loopw [7] (fun u wr => ∃ v : Nat, v ≤ 4 ∧ u = .int .i64 (v : Int) ∧ Hid (SK w [(g5, 75, four pa pb pc pd), (g2, 76, L.take (o + v) ++ (Zs 240).drop (o + v)), (g1, 76, Zs 240)] wr)) (fun u _ => 4 - (intOf u).toNat)
                case atStart => exact ⟨0, by omega, rfl, Fz⟩
                case round =>
                  clear Fz
                  obtain ⟨v, hv, rfl, F7⟩ := hrel
                  by_cases hlv : v < 4
                  · obtain ⟨x, y, hx, hy, hz⟩ := Hx.out v hlv
                    obtain ⟨q, hq⟩ : ∃ q, o + v = q := ⟨_, rfl⟩
                    obtain ⟨q8, hq8⟩ : ∃ q8, o8 + v = q8 := ⟨_, rfl⟩
                    have ixj := fun W => run_indexAt_arr (g := g5) arr4 info_u8n v (v : Int) rfl hlv W
                    have ixq := fun W => run_indexAt_off (P := Tryd.prog) (b := g2) arr4 info_u8n o v q hlv hq W
                    have ixq8 := fun W => run_indexAt_off (P := Tryd.prog) (b := g2) arr4 info_u8n o8 v q8 hlv hq8 W
                    have hxor := gxor_u8 x y
                    rw [Ho.out, hq] at hz
                    rw [hq] at F7
                    have hq240 : q < 240 := by have := Ho.out; omega
                    have Hx8 : Hid ((L.take q ++ (Zs 240).drop q)[q8]? = some x.toNat) := Lib.hid (by
                      rw [afill_low (by have := Ho.out; have := Ho8.out; omega) (by rw [HL.out]; omega), ← hq8, ← Ho8.out]
                      exact awn_get v _ hx)
                    have Hz := Lib.hid hz
                    have Hy := Lib.hid hy
                    have Hq := Lib.hid hq
                    clear hx hy hz hq hq8
                    generalize x ^^^ y = z at *
                    have hfz := (sk_hd (sk_sub (M := [(g2, 76, L.take (q) ++ (Zs 240).drop (q)), (g1, 76, Zs 240)]) F7.out (by intro y hy; simp only [List.mem_cons, List.not_mem_nil, or_false] at hy ⊢; rcases hy with rfl | rfl <;> simp))).drew.frozen q
                    have hcl := (sk_hd (sk_sub (M := [(g2, 76, L.take (q) ++ (Zs 240).drop (q)), (g1, 76, Zs 240)]) F7.out (by intro y hy; simp only [List.mem_cons, List.not_mem_nil, or_false] at hy ⊢; rcases hy with rfl | rfl <;> simp))).drew.at_ (fill_get (L := L) (M := Zs 240) (i := q) (by rw [Zs_length]; omega) (by rw [HL.out]; omega))
                    go_wp2_with fail
                    refine wp_region_ends (fun w' => SK w [(g5, 75, four pa pb pc pd), (g2, 76, L.take (q) ++ (Zs 240).drop (q)), (g1, 76, Zs 240)] w') 14 (by kernel_rfl) ?_
                    refine wpAnyE_take (i := 0) (v := .int .i64 (i : Int)) (some 84) rfl rfl (by kernel_rfl) (fun _ _ _ h => h) (.inl ⟨by rfl, fun W _ => rfl⟩) (sk_drewN F7.out 1) ?_
                    simp only [Act.put, List.setIfInBounds_toArray, List.set_cons_zero, List.set_cons_succ]
                    refine wpAnyE_take (i := 1) (v := .int .i64 (v : Int)) (some 85) rfl rfl (by kernel_rfl) (fun _ _ _ h => h) (.inl ⟨by rfl, fun W _ => rfl⟩) (sk_drewN F7.out 1) ?_
                    simp only [Act.put, List.setIfInBounds_toArray, List.set_cons_zero, List.set_cons_succ]
                    refine wpAnyE_take (i := 2) (v := .int .i64 (i : Int)) (some 86) rfl rfl (by kernel_rfl) (fun _ _ _ h => h) (.inl ⟨by rfl, fun W _ => rfl⟩) (sk_drewN F7.out 1) ?_
                    simp only [Act.put, List.setIfInBounds_toArray, List.set_cons_zero, List.set_cons_succ]
                    refine wpAnyE_take (i := 3) (v := .int .i64 ((i : Int) - 8)) (some 87) rfl rfl (by kernel_rfl) (fun _ _ _ h => h) (.inl ⟨by rfl, fun W _ => by go_simp⟩) (sk_drewN F7.out 1) ?_
                    simp only [Act.put, List.setIfInBounds_toArray, List.set_cons_zero, List.set_cons_succ]
                    refine wpAnyE_take (i := 4) (v := .int .i64 (v : Int)) (some 88) rfl rfl (by kernel_rfl) (fun _ _ _ h => h) (.inl ⟨by rfl, fun W _ => rfl⟩) (sk_drewN F7.out 1) ?_
                    simp only [Act.put, List.setIfInBounds_toArray, List.set_cons_zero, List.set_cons_succ]
                    refine wpAnyE_take (i := 5) (v := .pointer (some ⟨g2, o8, none⟩)) (some 89) rfl rfl (by kernel_rfl) (fun _ _ _ h => h) (.inl ⟨by rfl, fun W _ => by go_simp⟩) (sk_drewN F7.out 1) ?_
                    simp only [Act.put, List.setIfInBounds_toArray, List.set_cons_zero, List.set_cons_succ]
                    refine wpAnyE_take (i := 6) (v := .pointer (some ⟨g2, q8, none⟩)) (some 90) rfl rfl (by kernel_rfl) (fun _ _ _ h => h) (.inl ⟨by rfl, fun W _ => by go_simp⟩) (sk_drewN F7.out 1) ?_
                    simp only [Act.put, List.setIfInBounds_toArray, List.set_cons_zero, List.set_cons_succ]
                    refine wpAnyE_take (i := 7) (v := .int .u8 (x.toNat : Int)) (some 91) rfl rfl (by kernel_rfl) (fun _ _ _ h => h) (.inl ⟨by rfl, fun W h => by have hc := (sk_hd (sk_sub (M := [(g2, 76, L.take (q) ++ (Zs 240).drop (q)), (g1, 76, Zs 240)]) h (by intro y hy; simp only [List.mem_cons, List.not_mem_nil, or_false] at hy ⊢; rcases hy with rfl | rfl <;> simp))).at_ Hx8.out; go_simp⟩) (sk_drewN F7.out 1) ?_
                    simp only [Act.put, List.setIfInBounds_toArray, List.set_cons_zero, List.set_cons_succ]
                    refine wpAnyE_take (i := 8) (v := .int .i64 (v : Int)) (some 92) rfl rfl (by kernel_rfl) (fun _ _ _ h => h) (.inl ⟨by rfl, fun W _ => rfl⟩) (sk_drewN F7.out 1) ?_
                    simp only [Act.put, List.setIfInBounds_toArray, List.set_cons_zero, List.set_cons_succ]
                    refine wpAnyE_take (i := 9) (v := .pointer (some ⟨g5, v, none⟩)) (some 93) rfl rfl (by kernel_rfl) (fun _ _ _ h => h) (.inl ⟨by rfl, fun W _ => by go_simp⟩) (sk_drewN F7.out 1) ?_
                    simp only [Act.put, List.setIfInBounds_toArray, List.set_cons_zero, List.set_cons_succ]
                    refine wpAnyE_take (i := 10) (v := .int .u8 (y.toNat : Int)) (some 94) rfl rfl (by kernel_rfl) (fun _ _ _ h => h) (.inl ⟨by rfl, fun W h => by have hc := (sk_hd h).at_ Hy.out; go_simp⟩) (sk_drewN F7.out 1) ?_
                    simp only [Act.put, List.setIfInBounds_toArray, List.set_cons_zero, List.set_cons_succ]
                    refine wpAnyE_take (i := 11) (v := .int .u8 (z.toNat : Int)) (some 95) rfl rfl (by kernel_rfl) (fun _ _ _ h => h) (.inl ⟨by rfl, fun W _ => by go_simp⟩) (sk_drewN F7.out 1) ?_
                    simp only [Act.put, List.setIfInBounds_toArray, List.set_cons_zero, List.set_cons_succ]
                    refine wpAnyE_one (i := 12) (by kernel_rfl) rfl (fun K7 hK7 => ?_)
                    go_simp
                    refine hK7.out _ _ (.inr (sk_drewN F7.out 1)) ?_
                    clear hK7 K7
                    refine wpAnyE_take (i := 13) (v := .pointer (some ⟨g2, q, none⟩)) (some 97) rfl rfl (by kernel_rfl) (fun _ _ _ h => h) (.inl ⟨by rfl, fun W _ => by go_simp⟩) (sk_drewN F7.out 1) ?_
                    simp only [Act.put, List.setIfInBounds_toArray, List.set_cons_zero, List.set_cons_succ]
                    refine wpAnyE_one (i := 14) (by kernel_rfl) rfl (fun K6 hK6 => ?_)
                    go_simp
                    refine hK6.out _ _ (.inl rfl) ?_
                    have F8 : Hid (SK w [(g5, 75, four pa pb pc pd), (g2, 76, L.take (o + (v + 1)) ++ (Zs 240).drop (o + (v + 1))), (g1, 76, Zs 240)] ((wr.setCell ⟨g2, q, none⟩ (.int .u8 (z.toNat : Int))).drew)) := Lib.hid (by
                      have h := sk_drewN (sk_set (sk_sub (M := [(g2, 76, L.take (q) ++ (Zs 240).drop (q)), (g5, 75, four pa pb pc pd), (g1, 76, Zs 240)]) F7.out (by intro y hy; simp only [List.mem_cons, List.not_mem_nil, or_false] at hy ⊢; rcases hy with rfl | rfl | rfl <;> simp)) (Hne25.out _) Hg.out.2 q z.toNat) 1
                      rw [afill_step Hz.out (by rw [Zs_length]; omega)] at h
                      rw [show o + (v + 1) = q + 1 by have := Hq.out; omega]
                      exact sk_sub h (by intro y hy; simp only [List.mem_cons, List.not_mem_nil, or_false] at hy ⊢; rcases hy with rfl | rfl | rfl <;> simp))
                    clear hK6 K6 F7
                    refine wpAnyE_done (by kernel_rfl) ?_
                    go_wp2
                    go_roundw
                    case rel => exact ⟨v + 1, by omega, by go_num, F8⟩
                    case measure => simp [intOf]; omega
                  · obtain rfl : v = 4 := by omega
                    have F9 : Hid (SK w [(g2, 76, L.take (4 * (i + 1)) ++ (Zs 240).drop (4 * (i + 1))), (g1, 76, Zs 240)] wr) := Lib.hid (by
                      have h := sk_sub (M := [(g2, 76, L.take (o + 4) ++ (Zs 240).drop (o + 4)), (g1, 76, Zs 240)]) F7.out (by intro y hy; simp only [List.mem_cons, List.not_mem_nil, or_false] at hy ⊢; rcases hy with rfl | rfl <;> simp)
                      rw [show o + 4 = 4 * (i + 1) by have := Ho.out; omega] at h
                      exact h)
                    clear F7
                    go_wp2
                    go_roundw
                    case rel => exact ⟨i + 1, by omega, by go_num, F9⟩
                    case measure => simp [intOf]; omega
          · have HC : Hid (abn (achgB gboxU i [a, b, c', d]) = four a b c' d) := Lib.hid (by rw [HR.out, if_neg h0, if_neg (by omega)])
            rw [HC.out] at Hx
            have hm40 : m4 ≠ 0 := by omega
            clear HR HC hmm
            go_wp2
            go_loopw [6] (fun u wr => ∃ k : Nat, k ≤ 4 ∧ u = .int .i64 (k : Int) ∧ Hid (SK w [(g5, 75, four a b c' d), (g2, 76, L.take (4 * i) ++ (Zs 240).drop (4 * i)), (g1, 76, Zs 240)] wr)) (fun u _ => 4 - (intOf u).toNat)
            case atStart => exact ⟨0, by omega, rfl, F7⟩
            case round =>
              clear F7
              obtain ⟨k, hk, rfl, F7⟩ := hrel
              by_cases hlk : k < 4
              · go_wp2
                go_roundw
                case rel => exact ⟨k + 1, by omega, by go_num, F7⟩
                case measure => simp [intOf]; omega
              · have F9 := F7
                clear F7
                have Fz : Hid (SK w [(g5, 75, four a b c' d), (g2, 76, L.take (o + 0) ++ (Zs 240).drop (o + 0)), (g1, 76, Zs 240)] _) := Lib.hid (by have h := F9.out; rw [Ho.out] at h; exact h)
                clear F9
                go_wp2
                have hd1 : decide ((i : Int) < 8) = false := by simp; omega
                have hd2 : decide ((k : Int) < 4) = false := by simp; omega
                try (simp only [hd1])
                try (simp only [hd2])
                have hd3 : ((m : Int) == 0) = false := by simp; omega
                try (simp only [hd3])
                go_loopw [7] (fun u wr => ∃ v : Nat, v ≤ 4 ∧ u = .int .i64 (v : Int) ∧ Hid (SK w [(g5, 75, four a b c' d), (g2, 76, L.take (o + v) ++ (Zs 240).drop (o + v)), (g1, 76, Zs 240)] wr)) (fun u _ => 4 - (intOf u).toNat)
                case atStart => exact ⟨0, by omega, rfl, Fz⟩
                case round =>
                  clear Fz
                  obtain ⟨v, hv, rfl, F7⟩ := hrel
                  by_cases hlv : v < 4
                  · obtain ⟨x, y, hx, hy, hz⟩ := Hx.out v hlv
                    obtain ⟨q, hq⟩ : ∃ q, o + v = q := ⟨_, rfl⟩
                    obtain ⟨q8, hq8⟩ : ∃ q8, o8 + v = q8 := ⟨_, rfl⟩
                    have ixj := fun W => run_indexAt_arr (g := g5) arr4 info_u8n v (v : Int) rfl hlv W
                    have ixq := fun W => run_indexAt_off (P := Tryd.prog) (b := g2) arr4 info_u8n o v q hlv hq W
                    have ixq8 := fun W => run_indexAt_off (P := Tryd.prog) (b := g2) arr4 info_u8n o8 v q8 hlv hq8 W
                    have hxor := gxor_u8 x y
                    rw [Ho.out, hq] at hz
                    rw [hq] at F7
                    have hq240 : q < 240 := by have := Ho.out; omega
                    have Hx8 : Hid ((L.take q ++ (Zs 240).drop q)[q8]? = some x.toNat) := Lib.hid (by
                      rw [afill_low (by have := Ho.out; have := Ho8.out; omega) (by rw [HL.out]; omega), ← hq8, ← Ho8.out]
                      exact awn_get v _ hx)
                    have Hz := Lib.hid hz
                    have Hy := Lib.hid hy
                    have Hq := Lib.hid hq
                    clear hx hy hz hq hq8
                    generalize x ^^^ y = z at *
                    have hfz := (sk_hd (sk_sub (M := [(g2, 76, L.take (q) ++ (Zs 240).drop (q)), (g1, 76, Zs 240)]) F7.out (by intro y hy; simp only [List.mem_cons, List.not_mem_nil, or_false] at hy ⊢; rcases hy with rfl | rfl <;> simp))).drew.frozen q
                    have hcl := (sk_hd (sk_sub (M := [(g2, 76, L.take (q) ++ (Zs 240).drop (q)), (g1, 76, Zs 240)]) F7.out (by intro y hy; simp only [List.mem_cons, List.not_mem_nil, or_false] at hy ⊢; rcases hy with rfl | rfl <;> simp))).drew.at_ (fill_get (L := L) (M := Zs 240) (i := q) (by rw [Zs_length]; omega) (by rw [HL.out]; omega))
                    go_wp2_with fail
                    refine wp_region_ends (fun w' => SK w [(g5, 75, four a b c' d), (g2, 76, L.take (q) ++ (Zs 240).drop (q)), (g1, 76, Zs 240)] w') 14 (by kernel_rfl) ?_
                    refine wpAnyE_take (i := 0) (v := .int .i64 (i : Int)) (some 84) rfl rfl (by kernel_rfl) (fun _ _ _ h => h) (.inl ⟨by rfl, fun W _ => rfl⟩) (sk_drewN F7.out 1) ?_
                    simp only [Act.put, List.setIfInBounds_toArray, List.set_cons_zero, List.set_cons_succ]
                    refine wpAnyE_take (i := 1) (v := .int .i64 (v : Int)) (some 85) rfl rfl (by kernel_rfl) (fun _ _ _ h => h) (.inl ⟨by rfl, fun W _ => rfl⟩) (sk_drewN F7.out 1) ?_
                    simp only [Act.put, List.setIfInBounds_toArray, List.set_cons_zero, List.set_cons_succ]
                    refine wpAnyE_take (i := 2) (v := .int .i64 (i : Int)) (some 86) rfl rfl (by kernel_rfl) (fun _ _ _ h => h) (.inl ⟨by rfl, fun W _ => rfl⟩) (sk_drewN F7.out 1) ?_
                    simp only [Act.put, List.setIfInBounds_toArray, List.set_cons_zero, List.set_cons_succ]
                    refine wpAnyE_take (i := 3) (v := .int .i64 ((i : Int) - 8)) (some 87) rfl rfl (by kernel_rfl) (fun _ _ _ h => h) (.inl ⟨by rfl, fun W _ => by go_simp⟩) (sk_drewN F7.out 1) ?_
                    simp only [Act.put, List.setIfInBounds_toArray, List.set_cons_zero, List.set_cons_succ]
                    refine wpAnyE_take (i := 4) (v := .int .i64 (v : Int)) (some 88) rfl rfl (by kernel_rfl) (fun _ _ _ h => h) (.inl ⟨by rfl, fun W _ => rfl⟩) (sk_drewN F7.out 1) ?_
                    simp only [Act.put, List.setIfInBounds_toArray, List.set_cons_zero, List.set_cons_succ]
                    refine wpAnyE_take (i := 5) (v := .pointer (some ⟨g2, o8, none⟩)) (some 89) rfl rfl (by kernel_rfl) (fun _ _ _ h => h) (.inl ⟨by rfl, fun W _ => by go_simp⟩) (sk_drewN F7.out 1) ?_
                    simp only [Act.put, List.setIfInBounds_toArray, List.set_cons_zero, List.set_cons_succ]
                    refine wpAnyE_take (i := 6) (v := .pointer (some ⟨g2, q8, none⟩)) (some 90) rfl rfl (by kernel_rfl) (fun _ _ _ h => h) (.inl ⟨by rfl, fun W _ => by go_simp⟩) (sk_drewN F7.out 1) ?_
                    simp only [Act.put, List.setIfInBounds_toArray, List.set_cons_zero, List.set_cons_succ]
                    refine wpAnyE_take (i := 7) (v := .int .u8 (x.toNat : Int)) (some 91) rfl rfl (by kernel_rfl) (fun _ _ _ h => h) (.inl ⟨by rfl, fun W h => by have hc := (sk_hd (sk_sub (M := [(g2, 76, L.take (q) ++ (Zs 240).drop (q)), (g1, 76, Zs 240)]) h (by intro y hy; simp only [List.mem_cons, List.not_mem_nil, or_false] at hy ⊢; rcases hy with rfl | rfl <;> simp))).at_ Hx8.out; go_simp⟩) (sk_drewN F7.out 1) ?_
                    simp only [Act.put, List.setIfInBounds_toArray, List.set_cons_zero, List.set_cons_succ]
                    refine wpAnyE_take (i := 8) (v := .int .i64 (v : Int)) (some 92) rfl rfl (by kernel_rfl) (fun _ _ _ h => h) (.inl ⟨by rfl, fun W _ => rfl⟩) (sk_drewN F7.out 1) ?_
                    simp only [Act.put, List.setIfInBounds_toArray, List.set_cons_zero, List.set_cons_succ]
                    refine wpAnyE_take (i := 9) (v := .pointer (some ⟨g5, v, none⟩)) (some 93) rfl rfl (by kernel_rfl) (fun _ _ _ h => h) (.inl ⟨by rfl, fun W _ => by go_simp⟩) (sk_drewN F7.out 1) ?_
                    simp only [Act.put, List.setIfInBounds_toArray, List.set_cons_zero, List.set_cons_succ]
                    refine wpAnyE_take (i := 10) (v := .int .u8 (y.toNat : Int)) (some 94) rfl rfl (by kernel_rfl) (fun _ _ _ h => h) (.inl ⟨by rfl, fun W h => by have hc := (sk_hd h).at_ Hy.out; go_simp⟩) (sk_drewN F7.out 1) ?_
                    simp only [Act.put, List.setIfInBounds_toArray, List.set_cons_zero, List.set_cons_succ]
                    refine wpAnyE_take (i := 11) (v := .int .u8 (z.toNat : Int)) (some 95) rfl rfl (by kernel_rfl) (fun _ _ _ h => h) (.inl ⟨by rfl, fun W _ => by go_simp⟩) (sk_drewN F7.out 1) ?_
                    simp only [Act.put, List.setIfInBounds_toArray, List.set_cons_zero, List.set_cons_succ]
                    refine wpAnyE_one (i := 12) (by kernel_rfl) rfl (fun K7 hK7 => ?_)
                    go_simp
                    refine hK7.out _ _ (.inr (sk_drewN F7.out 1)) ?_
                    clear hK7 K7
                    refine wpAnyE_take (i := 13) (v := .pointer (some ⟨g2, q, none⟩)) (some 97) rfl rfl (by kernel_rfl) (fun _ _ _ h => h) (.inl ⟨by rfl, fun W _ => by go_simp⟩) (sk_drewN F7.out 1) ?_
                    simp only [Act.put, List.setIfInBounds_toArray, List.set_cons_zero, List.set_cons_succ]
                    refine wpAnyE_one (i := 14) (by kernel_rfl) rfl (fun K6 hK6 => ?_)
                    go_simp
                    refine hK6.out _ _ (.inl rfl) ?_
                    have F8 : Hid (SK w [(g5, 75, four a b c' d), (g2, 76, L.take (o + (v + 1)) ++ (Zs 240).drop (o + (v + 1))), (g1, 76, Zs 240)] ((wr.setCell ⟨g2, q, none⟩ (.int .u8 (z.toNat : Int))).drew)) := Lib.hid (by
                      have h := sk_drewN (sk_set (sk_sub (M := [(g2, 76, L.take (q) ++ (Zs 240).drop (q)), (g5, 75, four a b c' d), (g1, 76, Zs 240)]) F7.out (by intro y hy; simp only [List.mem_cons, List.not_mem_nil, or_false] at hy ⊢; rcases hy with rfl | rfl | rfl <;> simp)) (Hne25.out _) Hg.out.2 q z.toNat) 1
                      rw [afill_step Hz.out (by rw [Zs_length]; omega)] at h
                      rw [show o + (v + 1) = q + 1 by have := Hq.out; omega]
                      exact sk_sub h (by intro y hy; simp only [List.mem_cons, List.not_mem_nil, or_false] at hy ⊢; rcases hy with rfl | rfl | rfl <;> simp))
                    clear hK6 K6 F7
                    refine wpAnyE_done (by kernel_rfl) ?_
                    go_wp2
                    go_roundw
                    case rel => exact ⟨v + 1, by omega, by go_num, F8⟩
                    case measure => simp [intOf]; omega
                  · obtain rfl : v = 4 := by omega
                    have F9 : Hid (SK w [(g2, 76, L.take (4 * (i + 1)) ++ (Zs 240).drop (4 * (i + 1))), (g1, 76, Zs 240)] wr) := Lib.hid (by
                      have h := sk_sub (M := [(g2, 76, L.take (o + 4) ++ (Zs 240).drop (o + 4)), (g1, 76, Zs 240)]) F7.out (by intro y hy; simp only [List.mem_cons, List.not_mem_nil, or_false] at hy ⊢; rcases hy with rfl | rfl <;> simp)
                      rw [show o + 4 = 4 * (i + 1) by have := Ho.out; omega] at h
                      exact h)
                    clear F7
                    go_wp2
                    go_roundw
                    case rel => exact ⟨i + 1, by omega, by go_num, F9⟩
                    case measure => simp [intOf]; omega
    · obtain rfl : i = 60 := by omega
      have A2 : Hid (Arr wr g2 76 .u8 L) := Lib.hid (by have h := sk_hd F5.out; rw [show 4 * 60 = 240 from rfl, fill_all HL.out (Zs_length _)] at h; exact h)
      have A1 : Hid (Arr wr g1 76 .u8 (Zs 240)) := Lib.hid (F5.out.1 (g1, 76, Zs 240) (by simp))
      go_wp2_with (first
        | refine wp_load_w arrWords rfl (.tmp 3) rfl rfl A2.out HL.out ?_
        | refine wp_put_w arrWords rfl (.tmp 2) (.tmp 98) rfl rfl (l' := L) rfl A1.out (Zs_length _) HL.out ?_)
      intro w9 H9 Hm9 Hs9
      go_wp2
      exact ret_w arrWords rfl rfl H9.out HL.out rfl ⟨rfl, F5.out.2.trans (Hm9.out.below (fun j hj => by rw [hj]; exact Hg.out.1.1) F5.out.2.size)⟩

end Go.Proofs.YtacbpdampdikjaaDoor
