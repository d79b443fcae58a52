/-
  DERIVED. GIVEN WITH THE SEED: THE CARDS: each row of YtbnecokbbmlekaaDoorRows.lean that lists a variable, with what it lists TIED to the program's text (the seventh form; the later family's looks); each row that meets fmt, with fmt's text TOLD by the authors' own Lean function (tested against real Go, not proved from fmt's source: count such statements apart). THE CARD IS WHAT COUNTS. Prove the row's statement (the work); the ties are given (YtbnecokbbmlekaaDoorTie.lean); close each card by the builder's one call (the guide's Derived/Test/ToyasCard.lean, 'card_holds'). Laid BY PROGRAM, IN A SANDBOX (cutbox-door.mjs). By AI agents, Wed Nov 11 2026. No macro, syntax, notation, axiom, sorry.
-/
import Derived.Test.YtbnecokbbmlekaaDoorRows
import GoSem.ClaimSeven
namespace Go.Proofs.YtbnecokbbmlekaaDoor
namespace Rows

/-- THE TIED CARD OF 'caduceuslaw03.ValueAny'. -/
def valueAnyCard : Claim7 := { stood := { row := valueAnyRow, standIns := [], harness := (true, "f64946e3ab051989229a9f6d686fc4fbbb306bb46587c8c44e1a4d26eb5d99be"), looks := true }, kinds := [], alts := [], laidByText := true, laidKinds := [.data, .data, .data, .data, .sentinel, .sentinel, .pinned], laidTests := true, laidLooks := .later }
def ValueAnyCardSaid : Prop := Claim7.holds Tryd.pinned (.plain (OpenSpec.ofChange valueAnySpec)) valueAnyCard

/-- THE TIED CARD OF 'caduceuslaw03.ValueFrom'. -/
def valueFromCard : Claim7 := { stood := { row := valueFromRow, standIns := [], harness := (true, "f64946e3ab051989229a9f6d686fc4fbbb306bb46587c8c44e1a4d26eb5d99be"), looks := true }, kinds := [], alts := [], laidByText := true, laidKinds := [.data, .data, .data, .data, .sentinel, .sentinel, .pinned], laidTests := true, laidLooks := .later }
def ValueFromCardSaid : Prop := Claim7.holds Tryd.pinned (.plain (OpenSpec.ofChange valueFromSpec)) valueFromCard

/-- THE TIED CARD OF 'caduceuslaw03.ValueOrder'. -/
def valueOrderCard : Claim7 := { stood := { row := valueOrderRow, standIns := [], harness := (true, "f64946e3ab051989229a9f6d686fc4fbbb306bb46587c8c44e1a4d26eb5d99be"), looks := true }, kinds := [], alts := [], laidByText := true, laidKinds := [.data, .data, .data, .data, .sentinel, .sentinel, .pinned], laidTests := true, laidLooks := .later }
def ValueOrderCardSaid : Prop := Claim7.holds Tryd.pinned (.plain (OpenSpec.ofChange valueOrderSpec)) valueOrderCard

/-- THE SECOND FORM's CARD OF 'caduceuslaw03.ValueAny'. -/
def valueAnyUptoCard : Claim7 := { stood := { row := valueAnyUptoRow, standIns := [], harness := (true, "f64946e3ab051989229a9f6d686fc4fbbb306bb46587c8c44e1a4d26eb5d99be"), looks := true }, kinds := [], alts := [], laidByText := true, laidKinds := [.data, .data, .data, .data, .sentinel, .sentinel, .pinned], laidTests := true, laidLooks := .later }
def ValueAnyUptoCardSaid : Prop := Claim7.holds Tryd.pinned (.plain (OpenSpec.upto valueAnySpec)) valueAnyUptoCard

/-- THE SECOND FORM's CARD OF 'caduceuslaw03.ValueFrom'. -/
def valueFromUptoCard : Claim7 := { stood := { row := valueFromUptoRow, standIns := [], harness := (true, "f64946e3ab051989229a9f6d686fc4fbbb306bb46587c8c44e1a4d26eb5d99be"), looks := true }, kinds := [], alts := [], laidByText := true, laidKinds := [.data, .data, .data, .data, .sentinel, .sentinel, .pinned], laidTests := true, laidLooks := .later }
def ValueFromUptoCardSaid : Prop := Claim7.holds Tryd.pinned (.plain (OpenSpec.upto valueFromSpec)) valueFromUptoCard

/-- THE SECOND FORM's CARD OF 'caduceuslaw03.ValueOrder'. -/
def valueOrderUptoCard : Claim7 := { stood := { row := valueOrderUptoRow, standIns := [], harness := (true, "f64946e3ab051989229a9f6d686fc4fbbb306bb46587c8c44e1a4d26eb5d99be"), looks := true }, kinds := [], alts := [], laidByText := true, laidKinds := [.data, .data, .data, .data, .sentinel, .sentinel, .pinned], laidTests := true, laidLooks := .later }
def ValueOrderUptoCardSaid : Prop := Claim7.holds Tryd.pinned (.plain (OpenSpec.upto valueOrderSpec)) valueOrderUptoCard
end Rows
end Go.Proofs.YtbnecokbbmlekaaDoor
