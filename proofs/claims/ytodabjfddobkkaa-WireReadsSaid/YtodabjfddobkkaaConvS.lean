/-
  '[]byte(s)': a new row that reads as the text's bytes. No program is named here.
-/
import Derived.Test.YtodabjfddobkkaaFoot
import Derived.Test.YtodabjfddobkkaaStrs
namespace Go.Proofs.Ytodabjfddobkkaa
open Go.RowKit

theorem conv_bytes (P : Program) (w : World) (src dst e : TypeId) (s : ByteArray) (hs : P.underlying src = some .string) (hd : P.underlying dst = some (.slice e)) (he : P.underlying e = some (.int .u8)) (hm : s.size ≤ maxLen) :
    ∃ c o, (convert src dst (.string s)).run P w = .ok (.slice (some ⟨w.heap.size, 0, none⟩) s.size c) (w.drew.alloc o) ∧ Rd (w.drew.alloc o) (w.heap.size + 1) (some ⟨w.heap.size, 0, none⟩) s.size (Byt s.data.toList) ∧
      SlOK (some ⟨w.heap.size, 0, none⟩) s.size c := by
  refine ⟨_, _, run_bytes_of_string w src dst e s hs hd he, ⟨by rw [Byt_length]; simp, fun _ => ⟨w.heap.size, 0, rfl, by omega, fun j u hj => ?_⟩⟩, .inr ⟨_, rfl, grownCap_ge _ _ _ _, grownCap_le_maxLen _ _ _ _ hm⟩⟩
  have hg := heap_alloc_new w.drew (.cells (bytesRow s (grownCap w s.size 0 e)) e ((bytesRow s (grownCap w s.size 0 e)).size, (bytesRow s (grownCap w s.size 0 e)).size + 1))
  rw [Nat.zero_add, cell_of_row (w.drew.alloc _) w.heap.size j _ e _ hg]
  have hjs : j < s.data.toList.length := by
    have := (List.getElem?_eq_some_iff.1 hj).1
    rwa [Byt_length] at this
  rw [Byt_get hjs] at hj
  rw [← hj]
  rw [bytesRow_at s _ j (by simpa using hjs)]
  rfl

end Go.Proofs.Ytodabjfddobkkaa
