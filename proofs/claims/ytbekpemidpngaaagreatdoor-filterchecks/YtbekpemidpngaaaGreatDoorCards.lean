/-
  DERIVED. GIVEN WITH THE SEED: THE CARDS: each row of YtbekpemidpngaaaGreatDoorRows.lean that lists a variable, with what it lists TIED to the program's text (the seventh form; the later family's looks); each row that meets fmt, with fmt's text TOLD by the authors' own Lean function (tested against real Go, not proved from fmt's source: count such statements apart). THE CARD IS WHAT COUNTS. Prove the row's statement (the work); the ties are given (YtbekpemidpngaaaGreatDoorTie.lean); close each card by the builder's one call (the guide's Derived/Test/ToyasCard.lean, 'card_holds'). Laid BY PROGRAM, IN A SANDBOX (cutbox-door.mjs). By AI agents, Wed Nov 11 2026. No macro, syntax, notation, axiom, sorry.
-/
import Derived.Test.YtbekpemidpngaaaGreatDoorRows
import GoSem.ClaimSeven
namespace Go.Proofs.YtbekpemidpngaaaGreatDoor
namespace Rows

/-- THE TIED CARD OF 'caduceuslaw08.FilterChecks'. -/
def filterChecksCard : Claim7 := { stood := { row := filterChecksRow, standIns := [], harness := (true, "18d4ff9cba379c704b3b9e8007f5523f6d865e5b7d480202eb88ed0adcd99b78"), looks := true }, kinds := [], alts := [], laidByText := true, laidKinds := [.data, .data, .data, .data, .sentinel, .sentinel, .pinned], laidTests := true, laidLooks := .later }
def FilterChecksCardSaid : Prop := Claim7.holds Tryz.pinned (.plain (OpenSpec.ofChange filterChecksSpec)) filterChecksCard

/-- THE TIED CARD OF 'caduceuslaw08.FilterLets'. -/
def filterLetsCard : Claim7 := { stood := { row := filterLetsRow, standIns := [], harness := (true, "18d4ff9cba379c704b3b9e8007f5523f6d865e5b7d480202eb88ed0adcd99b78"), looks := true }, kinds := [], alts := [], laidByText := true, laidKinds := [.data, .data, .data, .data, .sentinel, .sentinel, .pinned], laidTests := true, laidLooks := .later }
def FilterLetsCardSaid : Prop := Claim7.holds Tryz.pinned (.plain (OpenSpec.ofChange filterLetsSpec)) filterLetsCard

/-- THE TIED CARD OF 'caduceuslaw08.FilterBoth'. -/
def filterBothCard : Claim7 := { stood := { row := filterBothRow, standIns := [], harness := (true, "18d4ff9cba379c704b3b9e8007f5523f6d865e5b7d480202eb88ed0adcd99b78"), looks := true }, kinds := [], alts := [], laidByText := true, laidKinds := [.data, .data, .data, .data, .sentinel, .sentinel, .pinned], laidTests := true, laidLooks := .later }
def FilterBothCardSaid : Prop := Claim7.holds Tryz.pinned (.plain (OpenSpec.ofChange filterBothSpec)) filterBothCard

/-- THE TIED CARD OF 'caduceuslaw08.FilterMore'. -/
def filterMoreCard : Claim7 := { stood := { row := filterMoreRow, standIns := [], harness := (true, "18d4ff9cba379c704b3b9e8007f5523f6d865e5b7d480202eb88ed0adcd99b78"), looks := true }, kinds := [], alts := [], laidByText := true, laidKinds := [.data, .data, .data, .data, .sentinel, .sentinel, .pinned], laidTests := true, laidLooks := .later }
def FilterMoreCardSaid : Prop := Claim7.holds Tryz.pinned (.plain (OpenSpec.ofChange filterMoreSpec)) filterMoreCard

/-- THE SECOND FORM's CARD OF 'caduceuslaw08.FilterChecks'. -/
def filterChecksUptoCard : Claim7 := { stood := { row := filterChecksUptoRow, standIns := [], harness := (true, "18d4ff9cba379c704b3b9e8007f5523f6d865e5b7d480202eb88ed0adcd99b78"), looks := true }, kinds := [], alts := [], laidByText := true, laidKinds := [.data, .data, .data, .data, .sentinel, .sentinel, .pinned], laidTests := true, laidLooks := .later }
def FilterChecksUptoCardSaid : Prop := Claim7.holds Tryz.pinned (.plain (OpenSpec.upto filterChecksSpec)) filterChecksUptoCard

/-- THE SECOND FORM's CARD OF 'caduceuslaw08.FilterLets'. -/
def filterLetsUptoCard : Claim7 := { stood := { row := filterLetsUptoRow, standIns := [], harness := (true, "18d4ff9cba379c704b3b9e8007f5523f6d865e5b7d480202eb88ed0adcd99b78"), looks := true }, kinds := [], alts := [], laidByText := true, laidKinds := [.data, .data, .data, .data, .sentinel, .sentinel, .pinned], laidTests := true, laidLooks := .later }
def FilterLetsUptoCardSaid : Prop := Claim7.holds Tryz.pinned (.plain (OpenSpec.upto filterLetsSpec)) filterLetsUptoCard

/-- THE SECOND FORM's CARD OF 'caduceuslaw08.FilterBoth'. -/
def filterBothUptoCard : Claim7 := { stood := { row := filterBothUptoRow, standIns := [], harness := (true, "18d4ff9cba379c704b3b9e8007f5523f6d865e5b7d480202eb88ed0adcd99b78"), looks := true }, kinds := [], alts := [], laidByText := true, laidKinds := [.data, .data, .data, .data, .sentinel, .sentinel, .pinned], laidTests := true, laidLooks := .later }
def FilterBothUptoCardSaid : Prop := Claim7.holds Tryz.pinned (.plain (OpenSpec.upto filterBothSpec)) filterBothUptoCard

/-- THE SECOND FORM's CARD OF 'caduceuslaw08.FilterMore'. -/
def filterMoreUptoCard : Claim7 := { stood := { row := filterMoreUptoRow, standIns := [], harness := (true, "18d4ff9cba379c704b3b9e8007f5523f6d865e5b7d480202eb88ed0adcd99b78"), looks := true }, kinds := [], alts := [], laidByText := true, laidKinds := [.data, .data, .data, .data, .sentinel, .sentinel, .pinned], laidTests := true, laidLooks := .later }
def FilterMoreUptoCardSaid : Prop := Claim7.holds Tryz.pinned (.plain (OpenSpec.upto filterMoreSpec)) filterMoreUptoCard
end Rows
end Go.Proofs.YtbekpemidpngaaaGreatDoor
