/-
  DERIVED. GIVEN WITH THE SEED: THE CARDS: each row of YtkcnkjaeidbjbaaGreatDoorRows.lean that lists a variable, with what it lists TIED to the program's text (the seventh form; the later family's looks); each row that meets fmt, with fmt's text TOLD by the authors' own Lean function (tested against real Go, not proved from fmt's source: count such statements apart). THE CARD IS WHAT COUNTS. Prove the row's statement (the work); the ties are given (YtkcnkjaeidbjbaaGreatDoorTie.lean); close each card by the builder's one call (the guide's Derived/Test/ToyasCard.lean, 'card_holds'). Laid BY PROGRAM, IN A SANDBOX (cutbox-door.mjs). By AI agents, Wed Nov 11 2026. No macro, syntax, notation, axiom, sorry.
-/
import Derived.Test.YtkcnkjaeidbjbaaGreatDoorRows
import GoSem.ClaimSeven
namespace Go.Proofs.YtkcnkjaeidbjbaaGreatDoor
namespace Rows

/-- THE TIED CARD OF 'caduceuslaw05.ForestMakes'. -/
def forestMakesCard : Claim7 := { stood := { row := forestMakesRow, standIns := [], harness := (true, "7961390a11d4f6e6865e51250d2e025ae437a67942a36afdbae026ee67081395"), looks := false }, kinds := [], alts := [], laidByText := true, laidKinds := [.data, .pinned], laidTests := true, laidLooks := .later }
def ForestMakesCardSaid : Prop := Claim7.holds Tryz.pinned (.plain (OpenSpec.ofChange forestMakesSpec)) forestMakesCard

/-- THE TIED CARD OF 'caduceuslaw05.ForestAdds'. -/
def forestAddsCard : Claim7 := { stood := { row := forestAddsRow, standIns := [], harness := (true, "7961390a11d4f6e6865e51250d2e025ae437a67942a36afdbae026ee67081395"), looks := false }, kinds := [], alts := [], laidByText := true, laidKinds := [.data, .pinned], laidTests := true, laidLooks := .later }
def ForestAddsCardSaid : Prop := Claim7.holds Tryz.pinned (.plain (OpenSpec.ofChange forestAddsSpec)) forestAddsCard

/-- THE TIED CARD OF 'caduceuslaw05.ForestFits'. -/
def forestFitsCard : Claim7 := { stood := { row := forestFitsRow, standIns := [], harness := (true, "7961390a11d4f6e6865e51250d2e025ae437a67942a36afdbae026ee67081395"), looks := false }, kinds := [], alts := [], laidByText := true, laidKinds := [.data, .pinned], laidTests := true, laidLooks := .later }
def ForestFitsCardSaid : Prop := Claim7.holds Tryz.pinned (.plain (OpenSpec.ofChange forestFitsSpec)) forestFitsCard

/-- THE TIED CARD OF 'caduceuslaw05.ForestJoins'. -/
def forestJoinsCard : Claim7 := { stood := { row := forestJoinsRow, standIns := [], harness := (true, "7961390a11d4f6e6865e51250d2e025ae437a67942a36afdbae026ee67081395"), looks := false }, kinds := [], alts := [], laidByText := true, laidKinds := [.data, .pinned], laidTests := true, laidLooks := .later }
def ForestJoinsCardSaid : Prop := Claim7.holds Tryz.pinned (.plain (OpenSpec.ofChange forestJoinsSpec)) forestJoinsCard

/-- THE SECOND FORM's CARD OF 'caduceuslaw05.ForestMakes'. -/
def forestMakesUptoCard : Claim7 := { stood := { row := forestMakesUptoRow, standIns := [], harness := (true, "7961390a11d4f6e6865e51250d2e025ae437a67942a36afdbae026ee67081395"), looks := false }, kinds := [], alts := [], laidByText := true, laidKinds := [.data, .pinned], laidTests := true, laidLooks := .later }
def ForestMakesUptoCardSaid : Prop := Claim7.holds Tryz.pinned (.plain (OpenSpec.upto forestMakesSpec)) forestMakesUptoCard

/-- THE SECOND FORM's CARD OF 'caduceuslaw05.ForestAdds'. -/
def forestAddsUptoCard : Claim7 := { stood := { row := forestAddsUptoRow, standIns := [], harness := (true, "7961390a11d4f6e6865e51250d2e025ae437a67942a36afdbae026ee67081395"), looks := false }, kinds := [], alts := [], laidByText := true, laidKinds := [.data, .pinned], laidTests := true, laidLooks := .later }
def ForestAddsUptoCardSaid : Prop := Claim7.holds Tryz.pinned (.plain (OpenSpec.upto forestAddsSpec)) forestAddsUptoCard

/-- THE SECOND FORM's CARD OF 'caduceuslaw05.ForestFits'. -/
def forestFitsUptoCard : Claim7 := { stood := { row := forestFitsUptoRow, standIns := [], harness := (true, "7961390a11d4f6e6865e51250d2e025ae437a67942a36afdbae026ee67081395"), looks := false }, kinds := [], alts := [], laidByText := true, laidKinds := [.data, .pinned], laidTests := true, laidLooks := .later }
def ForestFitsUptoCardSaid : Prop := Claim7.holds Tryz.pinned (.plain (OpenSpec.upto forestFitsSpec)) forestFitsUptoCard

/-- THE SECOND FORM's CARD OF 'caduceuslaw05.ForestJoins'. -/
def forestJoinsUptoCard : Claim7 := { stood := { row := forestJoinsUptoRow, standIns := [], harness := (true, "7961390a11d4f6e6865e51250d2e025ae437a67942a36afdbae026ee67081395"), looks := false }, kinds := [], alts := [], laidByText := true, laidKinds := [.data, .pinned], laidTests := true, laidLooks := .later }
def ForestJoinsUptoCardSaid : Prop := Claim7.holds Tryz.pinned (.plain (OpenSpec.upto forestJoinsSpec)) forestJoinsUptoCard
end Rows
end Go.Proofs.YtkcnkjaeidbjbaaGreatDoor
