/-
  DERIVED. GIVEN WITH THE SEED: THE CARDS: each row of YtjamkfkbajhefaaGreatDoorRows.lean that lists a variable, with what it lists TIED to the program's text (the seventh form; the later family's looks); each row that meets fmt, with fmt's text TOLD by the authors' own Lean function (tested against real Go, not proved from fmt's source: count such statements apart). THE CARD IS WHAT COUNTS. Prove the row's statement (the work); the ties are given (YtjamkfkbajhefaaGreatDoorTie.lean); close each card by the builder's one call (the guide's Derived/Test/ToyasCard.lean, 'card_holds'). Laid BY PROGRAM, IN A SANDBOX (cutbox-door.mjs). By AI agents, Wed Nov 11 2026. No macro, syntax, notation, axiom, sorry.
-/
import Derived.Test.YtjamkfkbajhefaaGreatDoorRows
import GoSem.ClaimSeven
namespace Go.Proofs.YtjamkfkbajhefaaGreatDoor
namespace Rows

/-- THE TIED CARD OF 'caduceustop.TopBelow'. -/
def topBelowCard : Claim7 := { stood := { row := topBelowRow, standIns := [], harness := (true, "fd4e1429ec2cae25693d453c3da7c1c2010821cfd7e740965fbddd2eba9db3b1"), looks := true }, kinds := [], alts := [], laidByText := true, laidKinds := [.data, .data, .data, .data, .sentinel, .sentinel, .pinned], laidTests := true, laidLooks := .later }
def TopBelowCardSaid : Prop := Claim7.holds Tryz.pinned (.plain (OpenSpec.ofChange topBelowSpec)) topBelowCard

/-- THE SECOND FORM's CARD OF 'caduceustop.TopBelow'. -/
def topBelowUptoCard : Claim7 := { stood := { row := topBelowUptoRow, standIns := [], harness := (true, "fd4e1429ec2cae25693d453c3da7c1c2010821cfd7e740965fbddd2eba9db3b1"), looks := true }, kinds := [], alts := [], laidByText := true, laidKinds := [.data, .data, .data, .data, .sentinel, .sentinel, .pinned], laidTests := true, laidLooks := .later }
def TopBelowUptoCardSaid : Prop := Claim7.holds Tryz.pinned (.plain (OpenSpec.upto topBelowSpec)) topBelowUptoCard
end Rows
end Go.Proofs.YtjamkfkbajhefaaGreatDoor
