import Derived.Test.YtipkimmlbdnbnaaRow
import Derived.Test.YtipkimmlbdnbnaaStrs
import Derived.SliceStrings
namespace Go.Proofs.Ytipkimmlbdnbnaa
open Go.ChangeShapes Go.WideShapes Go.ChangeAt Go.RowKit

/-- A slice of texts that came in. -/
theorem open_strs {H : Type} {enc : TypeId × Value → H} {P : Program} {w : World} {base : Nat} {held : Bool} {t e : TypeId} (ht : P.underlying t = some (.slice e)) (he : P.underlying e = some .string) (hc : P.cellsOf e = 1)
    {r : Reach} {b0 : Nat} {v : Value} {d : DataW H} {ps : List MemPlace} (hval : Value.okWide P w r b0 t v) (hd : DataW.Trod enc P w base (fun _ => true) held t v d ps) (hlt : ∀ x ∈ ps, x.block < w.heap.size) :
    ∃ A n c xs, v = .slice A n c ∧ n ≤ maxLen ∧ n ≤ c ∧ Rd w w.heap.size A n (Sts xs) := by
  obtain ⟨A, n, c, rfl⟩ := okWide_slice ht hval
  obtain ⟨fuel, hf⟩ := hd
  rcases open_strings ht he hc hf with ⟨hcs, _⟩ | ⟨a, n', c', ss, hcs, _, hl, hm, hz, hx, hcell, _⟩
  · simp [Value.cells] at hcs
    obtain ⟨rfl, rfl, rfl⟩ := hcs
    exact ⟨none, 0, 0, [], rfl, Nat.zero_le _, Nat.le_refl _, Rd.nil⟩
  · simp [Value.cells] at hcs
    obtain ⟨rfl, rfl, rfl⟩ := hcs
    simp only [Prod.mk.injEq] at hx
    obtain ⟨-, rfl⟩ := hx
    simp only [if_true] at hz
    have hlen : ((ss.take n).map fun s => s.data.toList).length = n := by simp; omega
    refine ⟨some a, n, c, (ss.take n).map (fun s => s.data.toList), rfl, by omega, hl, by rw [Sts_length]; exact hlen, fun hn => ?_⟩
    obtain ⟨b, o, sp⟩ := a
    have hsp : sp = none := by simpa [Addr.add] using World.cell?_spot (hcell 0 (by omega))
    subst hsp
    refine ⟨b, o, rfl, hlt (.cell b o) (MemPlace.mem_row.2 ⟨0, by omega, by simp⟩), fun j u hj => ?_⟩
    have hj' : j < ((ss.take n).map fun s => s.data.toList).length := by
      have := (List.getElem?_eq_some_iff.1 hj).1
      rwa [Sts_length] at this
    rw [Sts_get hj'] at hj
    injection hj with hj
    rw [← hj, ← add_flat, hcell j (by omega)]
    simp only [List.getElem_map, List.getElem_take, tx_of]
    simp [List.getD, List.getElem?_eq_getElem (show j < ss.length by omega)]

end Go.Proofs.Ytipkimmlbdnbnaa
