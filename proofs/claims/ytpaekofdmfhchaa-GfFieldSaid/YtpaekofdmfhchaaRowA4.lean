import Derived.Test.YtpaekofdmfhchaaRowA8
import Derived.Test.YtpaekofdmfhchaaGfCol
namespace Go.Proofs.Ytpaekofdmfhchaa
open Go.RowKit

/-- Four bytes that came in. -/
theorem arr4_form {v : Value} (h : ∃ l : List UInt8, v = .agg (Nums .u8 (l.map (·.toNat))) ∧ l.length = 4) : ∃ p q r s : UInt8, v = .agg (Nums .u8 (four p q r s)) := by
  obtain ⟨l, rfl, hl⟩ := h
  match l, hl with
  | [p, q, r, s], _ => exact ⟨p, q, r, s, rfl⟩

end Go.Proofs.Ytpaekofdmfhchaa
