import Derived.Test.YthcogjdbdadbaaaCrcStep
import Derived.Test.YthcogjdbdadbaaaFoot
namespace Go.Proofs.Ythcogjdbdadbaaa
open Go.RowKit

/-- A number of 32 bits in a block of its own. -/
def SumS (w : World) (bw c : Nat) : Prop := w.cell? ⟨bw, 0, none⟩ = some (.int .u32 (c : Int)) ∧ w.frozen? ⟨bw, 0, none⟩ = false ∧ bw < w.heap.size
/-- The footprint that is one block. -/
def OneBlk (b : Nat) (k : Nat) : Prop := k = b
theorem SumS.drewN {w : World} {bw c : Nat} (h : SumS w bw c) (n : Nat) : SumS (w.drewN n) bw c := h
theorem SumS.drew {w : World} {bw c : Nat} (h : SumS w bw c) : SumS w.drew bw c := h
theorem SumS.set {w : World} {bw c : Nat} (h : SumS w bw c) (d : Nat) : SumS (w.setCell ⟨bw, 0, none⟩ (.int .u32 (d : Int))) bw d := by
  refine ⟨World.cell?_setCell_same _ _ _ h.1, ?_, ?_⟩
  · rw [World.frozen?_setCell]; exact h.2.1
  · have := h.2.2
    simpa using this

set_option maxHeartbeats 800000 in
theorem ctake_any (b : UInt8) (c bw : Nat) (w : World) (hc : c < 4294967296) (h : SumS w bw c) :
    Calls Try.prog 19 #[.int .u8 (b.toNat : Int), .pointer (some ⟨bw, 0, none⟩)] w fun e w' => e = .returned (.tuple #[]) ∧ SumS w' bw (byteU c b) ∧ Moves (OneBlk bw) w w' := by
  have hxb := xor_u32_byte c b hc
  have hy : c ^^^ b.toNat < 4294967296 := xor_lt hc (byte_lt _)
  have Hs : Hid (byteU c b = stepsU 8 (c ^^^ b.toNat)) := Lib.hid rfl
  have hdm : (b.toNat : Int) % 4294967296 = (b.toNat : Int) := by have := b.toNat_lt; omega
  have h1 := h.set (c ^^^ b.toNat)
  have hm1 := (Moves.refl (OneBlk bw) w).setCell (p := ⟨bw, 0, none⟩) (.inl rfl) (.int .u32 ((c ^^^ b.toNat : Nat) : Int))
  obtain ⟨hcell, hfz, -⟩ := h
  revert hxb hy Hs hdm h1 hm1
  generalize (b.toNat : Int) = d
  generalize c ^^^ b.toNat = y
  intro hxb hy Hs hdm h1 hm1
  have hxb' : bits .xor .u32 (c : Int) (d % 4294967296) = (y : Int) := by rw [hdm]; exact hxb
  have H1 := Lib.hid h1; clear h1
  have Hm1 := Lib.hid hm1; clear hm1
  go_enter Try.func19, Try.ntmps19
  go_wp2
  go_loopw [7] (fun i wr => ∃ p y' : Nat, p ≤ 8 ∧ i = .int .i64 p ∧ y' < 4294967296 ∧ SumS wr bw y' ∧ Hid (stepsU 8 y = stepsU (8 - p) y') ∧ Hid (Moves (OneBlk bw) w wr)) (fun i _ => 8 - (intOf i).toNat)
  case atStart => exact ⟨0, y, Nat.zero_le _, rfl, hy, H1.out, Lib.hid rfl, Hm1⟩
  case round =>
    obtain ⟨p, y', hp, rfl, hy', hsum, Hy, Hm⟩ := hrel
    by_cases hp8 : p < 8
    · have h2 := hsum.set (stepU y')
      have hm2 := Hm.out.setCell (p := ⟨bw, 0, none⟩) (.inl rfl) (.int .u32 (stepU y' : Nat))
      have H2 := Lib.hid h2; clear h2
      have Hm2 := Lib.hid hm2; clear hm2
      obtain ⟨hcell', hfz', -⟩ := hsum
      go_wp2_with (refine (cstep_any y' _ hy').mono ?_; rintro e w1 ⟨rfl, rfl⟩)
      go_roundw
      case rel => exact ⟨p + 1, stepU y', by omega, by go_num, stepU_lt hy', H2.out, Lib.hid (by rw [Hy.out, show 8 - p = (8 - (p + 1)) + 1 by omega]; rfl), Hm2⟩
      case measure => simp [intOf]; omega
    · have Hs8 : Hid (byteU c b = y') := Lib.hid (by rw [Hs.out, Hy.out, show 8 - p = 0 by omega]; rfl)
      go_wp2
      go_end0
      exact ⟨rfl, by rw [Hs8.out]; exact hsum, Hm.out⟩

end Go.Proofs.Ythcogjdbdadbaaa
