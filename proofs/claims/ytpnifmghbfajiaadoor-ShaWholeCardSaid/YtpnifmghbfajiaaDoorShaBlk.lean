/-
  Blocks as they come, one by one: plain mathematics. No program is named here.
-/
import Derived.Test.YtpnifmghbfajiaaDoorShaS
import Derived.Test.YtpnifmghbfajiaaDoorChunkS
namespace Go.Proofs.YtpnifmghbfajiaaDoor
open Go.RowKit

theorem blocksU_append : ∀ (k : Nat) (h : List Nat) (a b : List UInt8), a.length = 64 * k → blocksU h (a ++ b) = blocksU (blocksU h a) b
  | 0, h, a, b, hl => by
    have : a = [] := List.eq_nil_of_length_eq_zero (by omega)
    subst this
    rw [List.nil_append, blocksU_none (h := h) (b := []) (by decide)]
  | k + 1, h, a, b, hl => by
    rw [blocksU_step (h := h) (b := a ++ b) (by rw [List.length_append]; omega), blocksU_step (h := h) (b := a) (by omega),
      List.take_append_of_le_length (by omega), List.drop_append_of_le_length (by omega)]
    exact blocksU_append k _ _ _ (by rw [List.length_drop]; omega)
theorem blocksU_one {h : List Nat} {c : List UInt8} (hc : c.length = 64) : blocksU h c = blockU h c := by
  rw [blocksU_step (by omega), blocksU_none (by rw [List.length_drop]; omega), List.take_of_length_le (by omega)]
/-- The pieces of whole blocks, one by one. -/
theorem fold_cuts (h : List Nat) (l : List UInt8) : ∀ k, k * 64 ≤ l.length → (cutsU 64 l k).foldl blockU h = blocksU h (l.take (k * 64))
  | 0, _ => by rw [Nat.zero_mul, List.take_zero, blocksU_none (by decide)]; rfl
  | k + 1, hk => by
    have hk' : k * 64 ≤ l.length := by omega
    have hc : (cutU 64 l k).length = 64 := by rw [cut_len]; omega
    rw [cuts_succ, List.foldl_append, fold_cuts h l k hk', List.foldl_cons, List.foldl_nil, ← blocksU_one hc, ← blocksU_append k h _ _ (by rw [List.length_take]; omega)]
    congr 1
    unfold cutU
    rw [show (k + 1) * 64 = k * 64 + 64 by omega, List.take_add]
theorem num_whole {l : List UInt8} {k : Nat} (h : l.length = 64 * k) : numU 64 l = k := by unfold numU; omega
/-- All blocks of b and what stands behind it: those of the whole ones, and those of what is last. -/
def wholeN (n : Nat) : Nat := n / 64 * 64
def lastU (b : List UInt8) : List UInt8 := b.drop (wholeN b.length) ++ padU b.length
def allBlk (b : List UInt8) : List (List UInt8) := cutsU 64 (b.take (wholeN b.length)) (numU 64 (b.take (wholeN b.length))) ++ cutsU 64 (lastU b) (numU 64 (lastU b))
theorem last_len (b : List UInt8) : ∃ k, (lastU b).length = 64 * k ∧ 1 ≤ k ∧ k ≤ 2 := by
  have h1 := padded b
  have h2 := padU_length b.length
  have h3 := zerosU_ok b.length
  unfold lastU wholeN
  rw [List.length_append] at h1
  rw [List.length_append, List.length_drop]
  exact ⟨(b.length - b.length / 64 * 64 + (padU b.length).length) / 64, by omega, by omega, by omega⟩
theorem allBlk_fold (h : List Nat) (b : List UInt8) : (allBlk b).foldl blockU h = blocksU h (b ++ padU b.length) := by
  have hw : (b.take (wholeN b.length)).length = 64 * (b.length / 64) := by unfold wholeN; rw [List.length_take]; omega
  obtain ⟨k, hk, -, -⟩ := last_len b
  unfold allBlk
  rw [List.foldl_append, num_whole hw, num_whole hk, fold_cuts h _ _ (by omega), fold_cuts _ _ _ (by omega), List.take_of_length_le (by omega), List.take_of_length_le (show (lastU b).length ≤ k * 64 by omega),
    ← blocksU_append _ h _ _ hw]
  congr 1
  unfold lastU
  rw [← List.append_assoc, List.take_append_drop]

end Go.Proofs.YtpnifmghbfajiaaDoor
