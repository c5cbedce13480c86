import Derived.Test.YtjgnhcdghkmphaaRefUtfBytes
import Derived.Test.YtjgnhcdghkmphaaUtfText
import Derived.Test.YtjgnhcdghkmphaaUtfSmall
namespace Go.Proofs.Ytjgnhcdghkmphaa
open Go.RowKit

theorem enc_len (ns : List Int) : (encU ns).length ≤ 4 * ns.length := by
  induction ns with
  | nil => simp [encU]
  | cons r t ih =>
    have := (enc_pos r).2
    rw [encU_cons, List.length_append, List.length_cons]; omega
theorem enc_snoc (ns : List Int) (k : Nat) (hk : k < ns.length) : encU (ns.take (k + 1)) = encU (ns.take k) ++ Lib.encodeRune ns[k] := by
  rw [List.take_add_one, List.getElem?_eq_getElem hk, encU_append]
  simp [encU]

set_option maxHeartbeats 3200000 in
theorem rtext_any (B n c : Nat) (A : Option Addr) (ns : List Int) (w : World) (hx : Rd w B A n (Ris .i32 ns)) (hn : n ≤ 1099511627776) (hB : B ≤ w.heap.size) :
    Calls Try.prog 10 #[.slice A n c] w (Ans w (.tuple #[.string ⟨(textV ns).1.toArray⟩, .int .i64 (textV ns).2.1, .int .i64 (textV ns).2.2])) := by
  have hxl := hx.ints
  have Hx := Lib.hid hxl; clear hxl
  go_enter Try.func10, Try.ntmps10
  go_wp2
  go_loopw [5, 6] (fun v i wr => ∃ (k m c' : Nat) (A' : Option Addr), k ≤ n ∧ m ≤ 4 * k ∧ i = .int .i64 k ∧ v = .slice A' m c' ∧ wr.ownsRow w.heap.size 5 1 (.slice A' m c') m (Byt (encU (ns.take k))) ∧ Below w.heap.size w wr ∧ Hid (firstBad 0 ns = firstBad k (ns.drop k))) (fun _ i _ => n - (intOf i).toNat)
  case atStart => exact ⟨0, 0, 0, none, Nat.zero_le _, Nat.le_refl _, rfl, rfl, own_nil _ _ _, Below.refl _ _, Lib.hid rfl⟩
  case round =>
    obtain ⟨k, m, c', A', hk, hm, rfl, rfl, hown, hbr, Hf⟩ := hrel
    have hbs := hbr.size
    by_cases hlt : k < n
    · have hkx : k < ns.length := by rw [Hx.out]; exact hlt
      obtain ⟨b, o, rfl, hb, hc⟩ := (hx.below (hbr.mono hB)).int hlt hkx
      have hst := firstBad_at ns 0 k hkx (by rw [Nat.zero_add]; exact Hf.out)
      rw [Nat.zero_add, Nat.zero_add] at hst
      have hv := right_any ns[k] wr
      have hs1 := enc_snoc ns k hkx
      have Hs1 := Lib.hid hs1; clear hs1
      cases hval : validU ns[k] with
      | true =>
        rw [hval, if_pos rfl] at hst
        have Hst := Lib.hid hst; clear hst
        have hB' := rbytes_any ns[k] wr hval
        rw [hval] at hv
        clear hval
        have h4 := (enc_pos ns[k]).2
        go_wp2_with fail
        refine hv.mono ?_
        rintro e w1 ⟨rfl, rfl⟩
        go_wp2_with fail
        refine hB'.mono ?_
        rintro e w2 ⟨A2, c2, rfl, hown2, hb2⟩
        have hown1 := own_below hown hb2 (Nat.le_refl _)
        have hbr1 := bon hbr hb2
        have hsz1 := hbr1.size
        have hE : 0 < (Lib.encodeRune ns[k]).length := (enc_pos ns[k]).1
        go_wp2_with (refine wp_append_rd rfl _ _ 39 rfl 5 Try.underlying39 (.int .u8 0) 1 (by omega) rfl Try.info_u8 w.heap.size m c' A' _ rfl hown1 w2.heap.size _ _ _ _ rfl (Rd.of_own hown2) (Byt_one _) hE (by omega) hsz1 w w.heap.size hbr1 (Nat.le_refl _) ?_)
        intro A3 c3 w3 hown3 hb3
        rw [← Byt_append, ← Hs1.out] at hown3
        go_wp2
        go_roundw
        case rel => exact ⟨k + 1, m + (Lib.encodeRune ns[k]).length, c3, A3, by omega, by omega, by go_num, rfl, hown3, hb3, Hst⟩
        case measure => simp [intOf]; omega
      | false =>
        rw [hval, if_neg (by simp)] at hst
        have Hst := Lib.hid hst; clear hst
        rw [hval] at hv
        clear hval
        go_wp2_with fail
        refine hv.mono ?_
        rintro e w1 ⟨rfl, rfl⟩
        go_wp2
        go_ret3
        exact ⟨by rw [textV_bad Hst.out]; rfl, hbr⟩
    · have hcv := (Rd.of_own hown).conv (P := Try.prog) (c := c') 39 9 5 Try.underlying39 Try.underlying5 Try.underlying9
      rw [List.take_of_length_le (by rw [Hx.out]; omega)] at hcv
      have h0 : ns.drop k = [] := List.drop_eq_nil_of_le (by rw [Hx.out]; omega)
      have hf := Hf.out
      rw [h0] at hf
      have Hf2 := Lib.hid hf; clear hf
      clear h0
      go_wp2
      go_ret3
      exact ⟨by rw [textV_ok Hf2.out]; rfl, hbr⟩

end Go.Proofs.Ytjgnhcdghkmphaa
