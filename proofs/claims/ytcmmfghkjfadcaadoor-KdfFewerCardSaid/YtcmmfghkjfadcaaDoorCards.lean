/-
  DERIVED. GIVEN WITH THE SEED: THE CARDS: each row of YtcmmfghkjfadcaaDoorRows.lean that lists a variable, with what it lists TIED to the program's text (the seventh form; the later family's looks); each row that meets fmt, with fmt's text TOLD by the authors' own Lean function (tested against real Go, not proved from fmt's source: count such statements apart). THE CARD IS WHAT COUNTS. Prove the row's statement (the work); the ties are given (YtcmmfghkjfadcaaDoorTie.lean); close each card by the builder's one call (the guide's Derived/Test/ToyasCard.lean, 'card_holds'). Laid BY PROGRAM, IN A SANDBOX (cutbox-door.mjs). By AI agents, Wed Nov 11 2026. No macro, syntax, notation, axiom, sorry.
-/
import Derived.Test.YtcmmfghkjfadcaaDoorRows
import GoSem.ClaimSeven
namespace Go.Proofs.YtcmmfghkjfadcaaDoor
namespace Rows

/-- THE TIED CARD OF 'oubliettelaw09.KdfBytes'. -/
def kdfBytesCard : Claim7 := { stood := { row := kdfBytesRow, standIns := [], harness := (true, "8305354a25663f56934cd5c7adf277d312a4e5e0a7e17ebea0008665611c2e7d"), looks := false }, kinds := [], alts := [], laidByText := true, laidKinds := [.data], laidTests := true, laidLooks := .later }
def KdfBytesCardSaid : Prop := Claim7.holds Tryd.pinned (.plain (OpenSpec.ofChange kdfBytesSpec)) kdfBytesCard

/-- THE TIED CARD OF 'oubliettelaw09.KdfKeys'. -/
def kdfKeysCard : Claim7 := { stood := { row := kdfKeysRow, standIns := [], harness := (true, "8305354a25663f56934cd5c7adf277d312a4e5e0a7e17ebea0008665611c2e7d"), looks := false }, kinds := [], alts := [], laidByText := true, laidKinds := [.data], laidTests := true, laidLooks := .later }
def KdfKeysCardSaid : Prop := Claim7.holds Tryd.pinned (.plain (OpenSpec.ofChange kdfKeysSpec)) kdfKeysCard

/-- THE TIED CARD OF 'oubliettelaw09.KdfFewer'. -/
def kdfFewerCard : Claim7 := { stood := { row := kdfFewerRow, standIns := [], harness := (true, "8305354a25663f56934cd5c7adf277d312a4e5e0a7e17ebea0008665611c2e7d"), looks := false }, kinds := [], alts := [], laidByText := true, laidKinds := [.data], laidTests := true, laidLooks := .later }
def KdfFewerCardSaid : Prop := Claim7.holds Tryd.pinned (.plain (OpenSpec.ofChange kdfFewerSpec)) kdfFewerCard

/-- THE SECOND FORM's CARD OF 'oubliettelaw09.KdfBytes'. -/
def kdfBytesUptoCard : Claim7 := { stood := { row := kdfBytesUptoRow, standIns := [], harness := (true, "8305354a25663f56934cd5c7adf277d312a4e5e0a7e17ebea0008665611c2e7d"), looks := false }, kinds := [], alts := [], laidByText := true, laidKinds := [.data], laidTests := true, laidLooks := .later }
def KdfBytesUptoCardSaid : Prop := Claim7.holds Tryd.pinned (.plain (OpenSpec.upto kdfBytesSpec)) kdfBytesUptoCard

/-- THE SECOND FORM's CARD OF 'oubliettelaw09.KdfKeys'. -/
def kdfKeysUptoCard : Claim7 := { stood := { row := kdfKeysUptoRow, standIns := [], harness := (true, "8305354a25663f56934cd5c7adf277d312a4e5e0a7e17ebea0008665611c2e7d"), looks := false }, kinds := [], alts := [], laidByText := true, laidKinds := [.data], laidTests := true, laidLooks := .later }
def KdfKeysUptoCardSaid : Prop := Claim7.holds Tryd.pinned (.plain (OpenSpec.upto kdfKeysSpec)) kdfKeysUptoCard

/-- THE SECOND FORM's CARD OF 'oubliettelaw09.KdfFewer'. -/
def kdfFewerUptoCard : Claim7 := { stood := { row := kdfFewerUptoRow, standIns := [], harness := (true, "8305354a25663f56934cd5c7adf277d312a4e5e0a7e17ebea0008665611c2e7d"), looks := false }, kinds := [], alts := [], laidByText := true, laidKinds := [.data], laidTests := true, laidLooks := .later }
def KdfFewerUptoCardSaid : Prop := Claim7.holds Tryd.pinned (.plain (OpenSpec.upto kdfFewerSpec)) kdfFewerUptoCard
end Rows
end Go.Proofs.YtcmmfghkjfadcaaDoor
