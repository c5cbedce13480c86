/-
  Rows of fields (a struct of two ints, a number and bytes). No program is named here.
-/
import Derived.Test.YtfkfkmdnffpcmaaFoot
namespace Go.Proofs.Ytfkfkmdnffpcmaa
open Go.RowKit

/-- A field: what it holds, and where its bytes lie. -/
structure Fld where
  kind : Int
  size : Int
  num : Nat
  A : Option Addr
  m : Nat
  c : Nat
  bs : List UInt8
instance : Inhabited Fld := ⟨⟨0, 0, 0, none, 0, 0, []⟩⟩
def Fld.cells (f : Fld) : Array Value := #[.int .i64 f.kind, .int .i64 f.size, .int .u64 (f.num : Int), .slice f.A f.m f.c]
/-- What the field's parts keep. -/
structure FldOK (w : World) (B : Nat) (f : Fld) : Prop where
  kind : -9223372036854775808 ≤ f.kind ∧ f.kind ≤ 9223372036854775807
  size : -9223372036854775808 ≤ f.size ∧ f.size ≤ 9223372036854775807
  num : f.num < 18446744073709551616
  ok : SlOK f.A f.m f.c
  rd : Rd w B f.A f.m (Byt f.bs)
/-- The slice reads as fields: four cells each. -/
def Flds (w : World) (B : Nat) (A : Option Addr) (n : Nat) (fs : List Fld) : Prop :=
  fs.length = n ∧ (∀ f ∈ fs, FldOK w B f) ∧ (0 < n → ∃ b o, A = some ⟨b, o, none⟩ ∧ b < B ∧ ∀ j (hj : j < fs.length),
    w.cell? ⟨b, o + j * 4, none⟩ = some (.int .i64 fs[j].kind) ∧ w.cell? ⟨b, o + j * 4 + 1, none⟩ = some (.int .i64 fs[j].size) ∧ w.cell? ⟨b, o + j * 4 + 2, none⟩ = some (.int .u64 (fs[j].num : Int)) ∧ w.cell? ⟨b, o + j * 4 + 3, none⟩ = some (.slice fs[j].A fs[j].m fs[j].c))
section
variable {w w' : World} {B n : Nat} {A : Option Addr} {fs : List Fld}
theorem FldOK.keep {f : Fld} (h : FldOK w B f) (hk : ∀ p : Addr, p.block < B → w'.cell? p = w.cell? p) : FldOK w' B f := ⟨h.kind, h.size, h.num, h.ok, h.rd.keep hk⟩
theorem Flds.keep (h : Flds w B A n fs) (hk : ∀ p : Addr, p.block < B → w'.cell? p = w.cell? p) : Flds w' B A n fs :=
  ⟨h.1, fun f hf => (h.2.1 f hf).keep hk, fun hn => by
    obtain ⟨b, o, e, hb, hc⟩ := h.2.2 hn
    exact ⟨b, o, e, hb, fun j hj => by
      obtain ⟨h0, h1, h2, h3⟩ := hc j hj
      exact ⟨(hk _ hb).trans h0, (hk _ hb).trans h1, (hk _ hb).trans h2, (hk _ hb).trans h3⟩⟩⟩
theorem Flds.below (h : Flds w B A n fs) (hb : Below B w w') : Flds w' B A n fs := h.keep fun _ hp => hb.cell hp
theorem Flds.get (h : Flds w B A n fs) {j : Nat} (hj : j < fs.length) : FldOK w B fs[j] := h.2.1 _ (List.getElem_mem hj)
theorem Flds.at_ (h : Flds w B A n fs) {j : Nat} (hj : j < fs.length) : ∃ b o, A = some ⟨b, o, none⟩ ∧ b < B ∧
    w.cell? ⟨b, o + j * 4, none⟩ = some (.int .i64 fs[j].kind) ∧ w.cell? ⟨b, o + j * 4 + 1, none⟩ = some (.int .i64 fs[j].size) ∧ w.cell? ⟨b, o + j * 4 + 2, none⟩ = some (.int .u64 (fs[j].num : Int)) ∧ w.cell? ⟨b, o + j * 4 + 3, none⟩ = some (.slice fs[j].A fs[j].m fs[j].c) := by
  obtain ⟨b, o, e, hb, hc⟩ := h.2.2 (by have := h.1; omega)
  exact ⟨b, o, e, hb, hc j hj⟩
end

end Go.Proofs.Ytfkfkmdnffpcmaa
