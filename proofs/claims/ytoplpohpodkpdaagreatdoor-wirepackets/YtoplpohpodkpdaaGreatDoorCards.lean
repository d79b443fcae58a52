/-
  DERIVED. GIVEN WITH THE SEED: THE CARDS: each row of YtoplpohpodkpdaaGreatDoorRows.lean that lists a variable, with what it lists TIED to the program's text (the seventh form; the later family's looks); each row that meets fmt, with fmt's text TOLD by the authors' own Lean function (tested against real Go, not proved from fmt's source: count such statements apart). THE CARD IS WHAT COUNTS. Prove the row's statement (the work); the ties are given (YtoplpohpodkpdaaGreatDoorTie.lean); close each card by the builder's one call (the guide's Derived/Test/ToyasCard.lean, 'card_holds'). Laid BY PROGRAM, IN A SANDBOX (cutbox-door.mjs). By AI agents, Wed Nov 11 2026. No macro, syntax, notation, axiom, sorry.
-/
import Derived.Test.YtoplpohpodkpdaaGreatDoorRows
import GoSem.ClaimSeven
namespace Go.Proofs.YtoplpohpodkpdaaGreatDoor
namespace Rows

/-- THE TIED CARD OF 'caduceuslaw11.WirePackets'. -/
def wirePacketsCard : Claim7 := { stood := { row := wirePacketsRow, standIns := [], harness := (true, "59b6f4b826e12ee9584dd63961f9e41710e7339b43e02b21745429f8fe316caf"), looks := false }, kinds := [], alts := [], laidByText := true, laidKinds := [.data, .data, .data, .data, .pinned], laidTests := true, laidLooks := .later }
def WirePacketsCardSaid : Prop := Claim7.holds Tryz.pinned (.plain (OpenSpec.ofChange wirePacketsSpec)) wirePacketsCard

/-- THE SECOND FORM's CARD OF 'caduceuslaw11.WirePackets'. -/
def wirePacketsUptoCard : Claim7 := { stood := { row := wirePacketsUptoRow, standIns := [], harness := (true, "59b6f4b826e12ee9584dd63961f9e41710e7339b43e02b21745429f8fe316caf"), looks := false }, kinds := [], alts := [], laidByText := true, laidKinds := [.data, .data, .data, .data, .pinned], laidTests := true, laidLooks := .later }
def WirePacketsUptoCardSaid : Prop := Claim7.holds Tryz.pinned (.plain (OpenSpec.upto wirePacketsSpec)) wirePacketsUptoCard
end Rows
end Go.Proofs.YtoplpohpodkpdaaGreatDoor
