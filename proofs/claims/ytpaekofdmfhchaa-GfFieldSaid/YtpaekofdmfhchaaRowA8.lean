/-
  An array of bytes that came in. No program is named here.
-/
import Derived.Test.YtpaekofdmfhchaaRowU
import Derived.Test.YtpaekofdmfhchaaArr
import Derived.OpenShut
import Derived.Deep.Grids
namespace Go.Proofs.Ytpaekofdmfhchaa
open Go.ChangeShapes Go.WideShapes Go.ChangeAt Go.RowKit

theorem open_arr8b {H : Type} {enc : TypeId × Value → H} {P : Program} {w : World} {base : Nat} {held : Bool} {sp : Nat → Bool} {t e : TypeId} {n : Nat} (ht : P.underlying t = some (.array n e)) (he : P.underlying e = some (.int .u8)) (ce : P.cellsOf e = 1) (ct : P.cellsOf t = n)
    {r : Reach} {b0 : Nat} {v : Value} {d : DataW H} {ps : List MemPlace} (hval : Value.okWide P w r b0 t v) (hd : DataW.Trod enc P w base sp held t v d ps) :
    ∃ l : List UInt8, v = .agg (Nums .u8 (l.map (·.toNat))) ∧ l.length = n := by
  obtain ⟨cs, rfl, hsz, _⟩ : ∃ cs, v = .agg cs ∧ cs.size = P.cellsOf t ∧ Row.okWide P w r b0 t cs := by
    simpa [Value.okWide, ht] using hval
  rw [ct] at hsz
  obtain ⟨fuel, hf⟩ := hd
  obtain ⟨xs, m, _, _, _, hl, hel⟩ := DataW.trod_array ht hf
  have each : ∀ i, i < n → ∃ z : UInt8, cs[i]? = some (.int .u8 (z.toNat : Int)) := by
    intro i hi
    have h1 := hel i hi
    rw [List.getElem?_eq_getElem (by omega)] at h1
    obtain ⟨z, h2, -, hw⟩ := DataW.trod_int he h1
    obtain ⟨k, rfl⟩ := wf_u8 hw
    refine ⟨k, ?_⟩
    have h3 : ((cs.toList.drop (i * 1)).take 1)[0]? = some (.int .u8 (k.toNat : Int)) := by
      have h4 : ((Value.agg cs).cells.toList.drop (i * P.cellsOf e)).take (P.cellsOf e) = [.int .u8 (k.toNat : Int)] := h2
      rw [ce] at h4
      have h5 : (Value.agg cs).cells = cs := rfl
      rw [h5] at h4
      rw [h4]; rfl
    rw [List.getElem?_take_of_lt (by omega), List.getElem?_drop, Nat.mul_one, Nat.add_zero] at h3
    simpa using h3
  obtain ⟨G, hG⟩ := Go.Deep.choose_lt (α := UInt8) (p := fun i z => cs[i]? = some (.int .u8 (z.toNat : Int))) each
  refine ⟨(List.range n).map G, ?_, by simp⟩
  · congr 1
    apply Array.ext_getElem?
    intro i
    by_cases hi : i < n
    · rw [hG i hi, Nums_get (by simpa using hi)]
      simp
    · rw [Array.getElem?_eq_none (by omega), Array.getElem?_eq_none (by rw [Nums_size]; simp; omega)]

end Go.Proofs.Ytpaekofdmfhchaa
