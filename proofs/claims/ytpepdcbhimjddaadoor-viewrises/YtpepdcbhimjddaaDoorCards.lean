/-
  DERIVED. GIVEN WITH THE SEED: THE CARDS: each row of YtpepdcbhimjddaaDoorRows.lean that lists a variable, with what it lists TIED to the program's text (the seventh form; the later family's looks); each row that meets fmt, with fmt's text TOLD by the authors' own Lean function (tested against real Go, not proved from fmt's source: count such statements apart). THE CARD IS WHAT COUNTS. Prove the row's statement (the work); the ties are given (YtpepdcbhimjddaaDoorTie.lean); close each card by the builder's one call (the guide's Derived/Test/ToyasCard.lean, 'card_holds'). Laid BY PROGRAM, IN A SANDBOX (cutbox-door.mjs). By AI agents, Wed Nov 11 2026. No macro, syntax, notation, axiom, sorry.
-/
import Derived.Test.YtpepdcbhimjddaaDoorRows
import GoSem.ClaimSeven
namespace Go.Proofs.YtpepdcbhimjddaaDoor
namespace Rows

/-- THE TIED CARD OF 'caduceuslaw14.ViewChecks'. -/
def viewChecksCard : Claim7 := { stood := { row := viewChecksRow, standIns := [], harness := (true, "dbfa613a65d13ee1ecd5ec6a78806ef563118b6af1a2da0d5eee1c69c10d820c"), looks := false }, kinds := [], alts := [], laidByText := true, laidKinds := [.data, .data], laidTests := true, laidLooks := .later }
def ViewChecksCardSaid : Prop := Claim7.holds Tryd.pinned (.plain (OpenSpec.ofChange viewChecksSpec)) viewChecksCard

/-- THE TIED CARD OF 'caduceuslaw14.ViewTurns'. -/
def viewTurnsCard : Claim7 := { stood := { row := viewTurnsRow, standIns := [], harness := (true, "dbfa613a65d13ee1ecd5ec6a78806ef563118b6af1a2da0d5eee1c69c10d820c"), looks := false }, kinds := [], alts := [], laidByText := true, laidKinds := [.data, .data], laidTests := true, laidLooks := .later }
def ViewTurnsCardSaid : Prop := Claim7.holds Tryd.pinned (.plain (OpenSpec.ofChange viewTurnsSpec)) viewTurnsCard

/-- THE TIED CARD OF 'caduceuslaw14.ViewReads'. -/
def viewReadsCard : Claim7 := { stood := { row := viewReadsRow, standIns := [], harness := (true, "dbfa613a65d13ee1ecd5ec6a78806ef563118b6af1a2da0d5eee1c69c10d820c"), looks := false }, kinds := [], alts := [], laidByText := true, laidKinds := [.data, .data], laidTests := true, laidLooks := .later }
def ViewReadsCardSaid : Prop := Claim7.holds Tryd.pinned (.plain (OpenSpec.ofChange viewReadsSpec)) viewReadsCard

/-- THE TIED CARD OF 'caduceuslaw14.ViewRises'. -/
def viewRisesCard : Claim7 := { stood := { row := viewRisesRow, standIns := [], harness := (true, "dbfa613a65d13ee1ecd5ec6a78806ef563118b6af1a2da0d5eee1c69c10d820c"), looks := false }, kinds := [], alts := [], laidByText := true, laidKinds := [.data, .data], laidTests := true, laidLooks := .later }
def ViewRisesCardSaid : Prop := Claim7.holds Tryd.pinned (.plain (OpenSpec.ofChange viewRisesSpec)) viewRisesCard

/-- THE TIED CARD OF 'caduceuslaw14.ViewHeirs'. -/
def viewHeirsCard : Claim7 := { stood := { row := viewHeirsRow, standIns := [], harness := (true, "dbfa613a65d13ee1ecd5ec6a78806ef563118b6af1a2da0d5eee1c69c10d820c"), looks := false }, kinds := [], alts := [], laidByText := true, laidKinds := [.data, .data, .data, .data, .pinned], laidTests := true, laidLooks := .later }
def ViewHeirsCardSaid : Prop := Claim7.holds Tryd.pinned (.plain (OpenSpec.ofChange viewHeirsSpec)) viewHeirsCard

/-- THE SECOND FORM's CARD OF 'caduceuslaw14.ViewChecks'. -/
def viewChecksUptoCard : Claim7 := { stood := { row := viewChecksUptoRow, standIns := [], harness := (true, "dbfa613a65d13ee1ecd5ec6a78806ef563118b6af1a2da0d5eee1c69c10d820c"), looks := false }, kinds := [], alts := [], laidByText := true, laidKinds := [.data, .data], laidTests := true, laidLooks := .later }
def ViewChecksUptoCardSaid : Prop := Claim7.holds Tryd.pinned (.plain (OpenSpec.upto viewChecksSpec)) viewChecksUptoCard

/-- THE SECOND FORM's CARD OF 'caduceuslaw14.ViewTurns'. -/
def viewTurnsUptoCard : Claim7 := { stood := { row := viewTurnsUptoRow, standIns := [], harness := (true, "dbfa613a65d13ee1ecd5ec6a78806ef563118b6af1a2da0d5eee1c69c10d820c"), looks := false }, kinds := [], alts := [], laidByText := true, laidKinds := [.data, .data], laidTests := true, laidLooks := .later }
def ViewTurnsUptoCardSaid : Prop := Claim7.holds Tryd.pinned (.plain (OpenSpec.upto viewTurnsSpec)) viewTurnsUptoCard

/-- THE SECOND FORM's CARD OF 'caduceuslaw14.ViewReads'. -/
def viewReadsUptoCard : Claim7 := { stood := { row := viewReadsUptoRow, standIns := [], harness := (true, "dbfa613a65d13ee1ecd5ec6a78806ef563118b6af1a2da0d5eee1c69c10d820c"), looks := false }, kinds := [], alts := [], laidByText := true, laidKinds := [.data, .data], laidTests := true, laidLooks := .later }
def ViewReadsUptoCardSaid : Prop := Claim7.holds Tryd.pinned (.plain (OpenSpec.upto viewReadsSpec)) viewReadsUptoCard

/-- THE SECOND FORM's CARD OF 'caduceuslaw14.ViewRises'. -/
def viewRisesUptoCard : Claim7 := { stood := { row := viewRisesUptoRow, standIns := [], harness := (true, "dbfa613a65d13ee1ecd5ec6a78806ef563118b6af1a2da0d5eee1c69c10d820c"), looks := false }, kinds := [], alts := [], laidByText := true, laidKinds := [.data, .data], laidTests := true, laidLooks := .later }
def ViewRisesUptoCardSaid : Prop := Claim7.holds Tryd.pinned (.plain (OpenSpec.upto viewRisesSpec)) viewRisesUptoCard

/-- THE SECOND FORM's CARD OF 'caduceuslaw14.ViewHeirs'. -/
def viewHeirsUptoCard : Claim7 := { stood := { row := viewHeirsUptoRow, standIns := [], harness := (true, "dbfa613a65d13ee1ecd5ec6a78806ef563118b6af1a2da0d5eee1c69c10d820c"), looks := false }, kinds := [], alts := [], laidByText := true, laidKinds := [.data, .data, .data, .data, .pinned], laidTests := true, laidLooks := .later }
def ViewHeirsUptoCardSaid : Prop := Claim7.holds Tryd.pinned (.plain (OpenSpec.upto viewHeirsSpec)) viewHeirsUptoCard
end Rows
end Go.Proofs.YtpepdcbhimjddaaDoor
