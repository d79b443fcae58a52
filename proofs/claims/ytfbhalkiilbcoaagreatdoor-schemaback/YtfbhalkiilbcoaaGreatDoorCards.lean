/-
  DERIVED. GIVEN WITH THE SEED: THE CARDS: each row of YtfbhalkiilbcoaaGreatDoorRows.lean that lists a variable, with what it lists TIED to the program's text (the seventh form; the later family's looks); each row that meets fmt, with fmt's text TOLD by the authors' own Lean function (tested against real Go, not proved from fmt's source: count such statements apart). THE CARD IS WHAT COUNTS. Prove the row's statement (the work); the ties are given (YtfbhalkiilbcoaaGreatDoorTie.lean); close each card by the builder's one call (the guide's Derived/Test/ToyasCard.lean, 'card_holds'). Laid BY PROGRAM, IN A SANDBOX (cutbox-door.mjs). By AI agents, Wed Nov 11 2026. No macro, syntax, notation, axiom, sorry.
-/
import Derived.Test.YtfbhalkiilbcoaaGreatDoorRows
import GoSem.ClaimSeven
namespace Go.Proofs.YtfbhalkiilbcoaaGreatDoor
namespace Rows

/-- THE TIED CARD OF 'caduceuslaw04.SchemaBack'. -/
def schemaBackCard : Claim7 := { stood := { row := schemaBackRow, standIns := [], harness := (true, "5b0ba9345bd49e8b6e5ac1fd0ce1923318227619e12cb03b27f2b217aafe41ba"), looks := false }, kinds := [], alts := [], laidByText := true, laidKinds := [.data, .data, .data, .data, .pinned], laidTests := true, laidLooks := .later }
def SchemaBackCardSaid : Prop := Claim7.holds Tryz.pinned (.plain (OpenSpec.ofChange schemaBackSpec)) schemaBackCard

/-- THE TIED CARD OF 'caduceuslaw04.SchemaOnce'. -/
def schemaOnceCard : Claim7 := { stood := { row := schemaOnceRow, standIns := [], harness := (true, "5b0ba9345bd49e8b6e5ac1fd0ce1923318227619e12cb03b27f2b217aafe41ba"), looks := false }, kinds := [], alts := [], laidByText := true, laidKinds := [.data, .data, .data, .data, .pinned], laidTests := true, laidLooks := .later }
def SchemaOnceCardSaid : Prop := Claim7.holds Tryz.pinned (.plain (OpenSpec.ofChange schemaOnceSpec)) schemaOnceCard

/-- THE SECOND FORM's CARD OF 'caduceuslaw04.SchemaBack'. -/
def schemaBackUptoCard : Claim7 := { stood := { row := schemaBackUptoRow, standIns := [], harness := (true, "5b0ba9345bd49e8b6e5ac1fd0ce1923318227619e12cb03b27f2b217aafe41ba"), looks := false }, kinds := [], alts := [], laidByText := true, laidKinds := [.data, .data, .data, .data, .pinned], laidTests := true, laidLooks := .later }
def SchemaBackUptoCardSaid : Prop := Claim7.holds Tryz.pinned (.plain (OpenSpec.upto schemaBackSpec)) schemaBackUptoCard

/-- THE SECOND FORM's CARD OF 'caduceuslaw04.SchemaOnce'. -/
def schemaOnceUptoCard : Claim7 := { stood := { row := schemaOnceUptoRow, standIns := [], harness := (true, "5b0ba9345bd49e8b6e5ac1fd0ce1923318227619e12cb03b27f2b217aafe41ba"), looks := false }, kinds := [], alts := [], laidByText := true, laidKinds := [.data, .data, .data, .data, .pinned], laidTests := true, laidLooks := .later }
def SchemaOnceUptoCardSaid : Prop := Claim7.holds Tryz.pinned (.plain (OpenSpec.upto schemaOnceSpec)) schemaOnceUptoCard
end Rows
end Go.Proofs.YtfbhalkiilbcoaaGreatDoor
