/-
  DERIVED. GIVEN WITH THE SEED: THE CARDS: each row of YtnmfonpchbjeoaaGreatDoorRows.lean that lists a variable, with what it lists TIED to the program's text (the seventh form; the later family's looks); each row that meets fmt, with fmt's text TOLD by the authors' own Lean function (tested against real Go, not proved from fmt's source: count such statements apart). THE CARD IS WHAT COUNTS. Prove the row's statement (the work); the ties are given (YtnmfonpchbjeoaaGreatDoorTie.lean); close each card by the builder's one call (the guide's Derived/Test/ToyasCard.lean, 'card_holds'). Laid BY PROGRAM, IN A SANDBOX (cutbox-door.mjs). By AI agents, Wed Nov 11 2026. No macro, syntax, notation, axiom, sorry.
-/
import Derived.Test.YtnmfonpchbjeoaaGreatDoorRows
import GoSem.ClaimSeven
namespace Go.Proofs.YtnmfonpchbjeoaaGreatDoor
namespace Rows

/-- THE TIED CARD OF 'caduceuslaw04.SchemaSorts'. -/
def schemaSortsCard : Claim7 := { stood := { row := schemaSortsRow, standIns := [], harness := (true, "247cb46e59e8866147e41ed113cbc17224511a09671d6ec47607c5ca36d10ec9"), looks := false }, kinds := [], alts := [], laidByText := true, laidKinds := [.data, .data, .pinned], laidTests := true, laidLooks := .later }
def SchemaSortsCardSaid : Prop := Claim7.holds Tryz.pinned (.plain (OpenSpec.ofChange schemaSortsSpec)) schemaSortsCard

/-- THE TIED CARD OF 'caduceuslaw04.SchemaFits'. -/
def schemaFitsCard : Claim7 := { stood := { row := schemaFitsRow, standIns := [], harness := (true, "247cb46e59e8866147e41ed113cbc17224511a09671d6ec47607c5ca36d10ec9"), looks := false }, kinds := [], alts := [], laidByText := true, laidKinds := [.data, .data, .pinned], laidTests := true, laidLooks := .later }
def SchemaFitsCardSaid : Prop := Claim7.holds Tryz.pinned (.plain (OpenSpec.ofChange schemaFitsSpec)) schemaFitsCard

/-- THE TIED CARD OF 'caduceuslaw04.SchemaLines'. -/
def schemaLinesCard : Claim7 := { stood := { row := schemaLinesRow, standIns := [], harness := (true, "247cb46e59e8866147e41ed113cbc17224511a09671d6ec47607c5ca36d10ec9"), looks := false }, kinds := [], alts := [], laidByText := true, laidKinds := [.data, .data, .pinned], laidTests := true, laidLooks := .later }
def SchemaLinesCardSaid : Prop := Claim7.holds Tryz.pinned (.plain (OpenSpec.ofChange schemaLinesSpec)) schemaLinesCard

/-- THE SECOND FORM's CARD OF 'caduceuslaw04.SchemaSorts'. -/
def schemaSortsUptoCard : Claim7 := { stood := { row := schemaSortsUptoRow, standIns := [], harness := (true, "247cb46e59e8866147e41ed113cbc17224511a09671d6ec47607c5ca36d10ec9"), looks := false }, kinds := [], alts := [], laidByText := true, laidKinds := [.data, .data, .pinned], laidTests := true, laidLooks := .later }
def SchemaSortsUptoCardSaid : Prop := Claim7.holds Tryz.pinned (.plain (OpenSpec.upto schemaSortsSpec)) schemaSortsUptoCard

/-- THE SECOND FORM's CARD OF 'caduceuslaw04.SchemaFits'. -/
def schemaFitsUptoCard : Claim7 := { stood := { row := schemaFitsUptoRow, standIns := [], harness := (true, "247cb46e59e8866147e41ed113cbc17224511a09671d6ec47607c5ca36d10ec9"), looks := false }, kinds := [], alts := [], laidByText := true, laidKinds := [.data, .data, .pinned], laidTests := true, laidLooks := .later }
def SchemaFitsUptoCardSaid : Prop := Claim7.holds Tryz.pinned (.plain (OpenSpec.upto schemaFitsSpec)) schemaFitsUptoCard

/-- THE SECOND FORM's CARD OF 'caduceuslaw04.SchemaLines'. -/
def schemaLinesUptoCard : Claim7 := { stood := { row := schemaLinesUptoRow, standIns := [], harness := (true, "247cb46e59e8866147e41ed113cbc17224511a09671d6ec47607c5ca36d10ec9"), looks := false }, kinds := [], alts := [], laidByText := true, laidKinds := [.data, .data, .pinned], laidTests := true, laidLooks := .later }
def SchemaLinesUptoCardSaid : Prop := Claim7.holds Tryz.pinned (.plain (OpenSpec.upto schemaLinesSpec)) schemaLinesUptoCard
end Rows
end Go.Proofs.YtnmfonpchbjeoaaGreatDoor
