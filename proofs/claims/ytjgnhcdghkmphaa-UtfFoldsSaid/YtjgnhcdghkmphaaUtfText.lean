import Derived.Test.YtjgnhcdghkmphaaUtfU
import Derived.Test.YtjgnhcdghkmphaaShelf
namespace Go.Proofs.Ytjgnhcdghkmphaa
open Go.RowKit

theorem firstBad_at (ns : List Int) : ∀ (i k : Nat) (hk : k < ns.length), firstBad i ns = firstBad (i + k) (ns.drop k) → firstBad i ns = if validU ns[k] then firstBad (i + (k + 1)) (ns.drop (k + 1)) else some (i + k) := by
  intro i k hk h
  rw [h, List.drop_eq_getElem_cons hk]
  rfl
theorem textV_bad {ns : List Int} {p : Nat} (h : firstBad 0 ns = some p) : textV ns = ([], (p : Int), 4) := by unfold textV; rw [h]
theorem textV_ok {ns : List Int} (h : firstBad 0 ns = none) : textV ns = (encU ns, 0, 0) := by unfold textV; rw [h]

set_option maxHeartbeats 1600000 in
theorem text_any (B n c : Nat) (A : Option Addr) (ns : List Int) (w : World) (hx : Rd w B A n (Ris .i32 ns)) (hn : n ≤ maxLen) :
    Calls Try.prog 9 #[.slice A n c] w (Ans w (.tuple #[.string ⟨(textV ns).1.toArray⟩, .int .i64 (textV ns).2.1, .int .i64 (textV ns).2.2])) := by
  unfold maxLen at hn
  have hxl := hx.ints
  have Hx := Lib.hid hxl; clear hxl
  have hcv := hx.runes (P := Try.prog) (c := c) 22 9 21 Try.underlying22 Try.underlying21 Try.underlying9
  rw [runesBytes_eq] at hcv
  go_enter Try.func9, Try.ntmps9
  go_wp2
  go_loopw [9] (fun i wr => ∃ k : Nat, k ≤ n ∧ i = .int .i64 k ∧ wr = w ∧ firstBad 0 ns = firstBad k (ns.drop k)) (fun i _ => n - (intOf i).toNat)
  case atStart => exact ⟨0, Nat.zero_le _, rfl, rfl, rfl⟩
  case round =>
    obtain ⟨k, hk, rfl, rfl, hf⟩ := hrel
    by_cases hlt : k < n
    · have hkx : k < ns.length := by rw [Hx.out]; exact hlt
      obtain ⟨b, o, rfl, hb, hc⟩ := hx.int hlt hkx
      have hst := firstBad_at ns 0 k hkx (by rw [Nat.zero_add]; exact hf)
      rw [Nat.zero_add, Nat.zero_add] at hst
      have hv := Try.utf8_ValidRune ns[k] wr
      cases hval : validU ns[k] with
      | true =>
        rw [hval, if_pos rfl] at hst
        have Hst := Lib.hid hst; clear hst
        have Hf := Lib.hid hf; clear hf
        rw [show Lib.validRune ns[k] = true from hval] at hv
        clear hval
        go_wp2_with fail
        refine hv.mono ?_
        rintro e w1 ⟨rfl, rfl⟩
        go_wp2
        go_roundw
        case rel => exact ⟨k + 1, by omega, by go_num, by first | trivial | rfl, Hst.out⟩
        case measure => simp [intOf]; omega
      | false =>
        rw [hval, if_neg (by simp)] at hst
        have Hst := Lib.hid hst; clear hst
        have Hf := Lib.hid hf; clear hf
        rw [show Lib.validRune ns[k] = false from hval] at hv
        clear hval
        go_wp2_with fail
        refine hv.mono ?_
        rintro e w1 ⟨rfl, rfl⟩
        go_wp2
        go_ret3
        exact ⟨by rw [textV_bad Hst.out]; rfl, Below.refl _ _⟩
    · have h0 : ns.drop k = [] := List.drop_eq_nil_of_le (by rw [Hx.out]; omega)
      rw [h0] at hf
      have Hf := Lib.hid hf; clear hf
      clear h0
      go_wp2
      go_ret3
      exact ⟨by rw [textV_ok Hf.out]; rfl, Below.refl _ _⟩

end Go.Proofs.Ytjgnhcdghkmphaa
