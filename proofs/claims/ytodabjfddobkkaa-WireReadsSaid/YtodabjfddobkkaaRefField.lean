import Derived.Test.YtodabjfddobkkaaFlds
import Derived.Test.YtodabjfddobkkaaWireS
import Derived.Test.YtodabjfddobkkaaRefPut
import Derived.Test.YtodabjfddobkkaaRefJoin
namespace Go.Proofs.Ytodabjfddobkkaa
open Go.RowKit

theorem putR_few (m0 : Nat) (size : Int) : (putR m0 size).length ≤ 8 := by
  unfold putR
  split
  · rw [putL_length]; omega
  · exact Nat.zero_le _

set_option maxHeartbeats 1600000 in
theorem rfield_any (B : Nat) (f : Fld) (w : World) (h : FldOK w B f) (hB : B ≤ w.heap.size) (hm : f.m ≤ 300) :
    Calls Try.prog 10 #[.agg f.cells] w (NewB 5 w (fieldU f.kind f.size f.num f.bs)) := by
  obtain ⟨kind, size, num, A, m, c, bs⟩ := f
  obtain ⟨hk, hs, hnum, hok, hrd⟩ := h
  simp only at hk hs hnum hok hrd hm
  simp only [Fld.cells]
  have hbl := hrd.bytes
  have hcm := hok.le
  have hbox : ∀ o : Obj, Below w.heap.size w (w.alloc o) := fun o => (Below.refl _ _).alloc (Nat.le_refl _) _
  by_cases h0 : kind = 0
  · subst h0
    have hU : fieldU 0 size num bs = [UInt8.ofNat num] := rfl
    rw [hU]
    have hown : ∀ o : Obj, ((w.alloc o).alloc (.cells #[.int .u8 ((num : Int) % 256)] 5)).ownsRow w.heap.size 5 1 (.slice (some ⟨w.heap.size + 1, 0, none⟩) 1 1) 1 (Byt [UInt8.ofNat num]) := fun o => by
      have := World.ownsRow_lit (base := w.heap.size) (e := 5) (size := 1) (w.alloc o) #[.int .u8 ((num : Int) % 256)] 1 (by simp) (by decide) rfl
      rw [← u8_of num] at this ⊢
      simpa [Byt] using this
    have HB := Lib.hid hbox; clear hbox
    have HO := Lib.hid hown; clear hown hbl hcm hrd
    go_enter Try.func10, Try.ntmps10
    go_wp2
    go_ret
    exact ⟨_, 1, rfl, HO.out _, (HB.out _).alloc (by simp) _⟩
  · by_cases h1 : kind = 1
    · subst h1
      have hU : fieldU 1 size num bs = putR num size := rfl
      rw [hU]
      have hp := rput_any num size (w.alloc (.cells #[.int .i64 1, .int .i64 size, .int .u64 num, .slice A m c] 32)) hnum
      have HB := Lib.hid hbox; clear hbox
      clear hbl hcm hrd
      go_enter Try.func10, Try.ntmps10
      go_wp2_with fail
      refine hp.mono ?_
      rintro e w1 ⟨A1, c1, rfl, hown1, hb1⟩
      have Hown := Lib.hid hown1; clear hown1
      go_wp2
      go_ret
      exact ⟨A1, c1, rfl, own_base Hown.out (by simp), (HB.out _).trans (hb1.mono (by simp))⟩
    · have hU : fieldU kind size num bs = putL m 2 ++ bs := by
        unfold fieldU rowU
        rw [if_neg h0, if_neg h1, List.take_of_length_le (by omega), hbl]
      rw [hU]
      have e0 : (kind == 0) = false := by simpa using h0
      have e1 : (kind == 1) = false := by simpa using h1
      have hmin : min (m : Int) 65535 = (m : Int) := by omega
      have hmc : (m : Int) ≤ (c : Int) := by omega
      have hmc' : m ≤ c := hcm.1
      have hp := rput_any m 2 (w.alloc (.cells #[.int .i64 kind, .int .i64 size, .int .u64 num, .slice A m c] 32)) (by omega)
      have hpr : putR m 2 = putL m 2 := by simp [putR]
      rw [hpr] at hp
      have hpl : (putL m 2).length = 2 := putL_length m 2
      have hm64 : (m : Int) ≤ 300 := by omega
      have HB := Lib.hid hbox; clear hbox hbl hk hs hnum
      have Hpl := Lib.hid hpl; clear hpl hpr
      rcases hok with ⟨rfl, h2, h3⟩ | ⟨a, rfl, h2, h3⟩
      · subst h2 h3
        go_enter Try.func10, Try.ntmps10
        go_wp2_with fail
        refine hp.mono ?_
        rintro e w1 ⟨A1, c1, rfl, hown1, hb1⟩
        rw [Hpl.out] at hown1 ⊢
        have hb2 := (HB.out _).trans (hb1.mono (by simp))
        have hj := rjoin_any w1.heap.size 2 c1 0 0 A1 none (putL 0 2) bs w1 (Rd.of_own hown1) (hrd.none_nil.2 ▸ Rd.nil) (SlOK.of_own hown1) .nil (Nat.le_refl _) (by omega)
        clear hown1
        go_wp2_with fail
        refine hj.mono ?_
        rintro e w2 ⟨A2, c2, rfl, hown2, hb3⟩
        obtain ⟨ln, hln⟩ : ∃ ln, ln = (putL 0 2 ++ bs).length := ⟨_, rfl⟩
        rw [← hln] at hown2 ⊢
        have Hln := Lib.hid hln; clear hln
        have Hown := Lib.hid hown2; clear hown2
        have hsz := hb2.size
        go_wp2
        go_ret
        exact ⟨A2, c2, by rw [← Hln.out]; rfl, by rw [← Hln.out]; exact own_base Hown.out hsz, hb2.trans (hb3.mono hsz)⟩
      · go_enter Try.func10, Try.ntmps10
        go_wp2_with fail
        refine hp.mono ?_
        rintro e w1 ⟨A1, c1, rfl, hown1, hb1⟩
        rw [Hpl.out] at hown1 ⊢
        have hb2 := (HB.out _).trans (hb1.mono (by simp))
        have hsz := hb2.size
        have hj := rjoin_any w1.heap.size 2 c1 m c A1 (some a) (putL m 2) bs w1 (Rd.of_own hown1) ((hrd.keep fun _ hp => hb2.cell (by omega)).wider (by omega)) (SlOK.of_own hown1) (.inr ⟨a, rfl, h2, h3⟩) (Nat.le_refl _) (by omega)
        clear hown1
        go_wp2_with fail
        refine hj.mono ?_
        rintro e w2 ⟨A2, c2, rfl, hown2, hb3⟩
        obtain ⟨ln, hln⟩ : ∃ ln, ln = (putL m 2 ++ bs).length := ⟨_, rfl⟩
        rw [← hln] at hown2 ⊢
        have Hln := Lib.hid hln; clear hln
        have Hown := Lib.hid hown2; clear hown2
        go_wp2
        go_ret
        exact ⟨A2, c2, by rw [← Hln.out]; rfl, by rw [← Hln.out]; exact own_base Hown.out hsz, hb2.trans (hb3.mono hsz)⟩

end Go.Proofs.Ytodabjfddobkkaa
