/-
  DERIVED. GIVEN WITH THE SEED: THE CARDS: each row of YticlejkeaagfjaaGreatDoorRows.lean that lists a variable, with what it lists TIED to the program's text (the seventh form; the later family's looks); each row that meets fmt, with fmt's text TOLD by the authors' own Lean function (tested against real Go, not proved from fmt's source: count such statements apart). THE CARD IS WHAT COUNTS. Prove the row's statement (the work); the ties are given (YticlejkeaagfjaaGreatDoorTie.lean); close each card by the builder's one call (the guide's Derived/Test/ToyasCard.lean, 'card_holds'). Laid BY PROGRAM, IN A SANDBOX (cutbox-door.mjs). By AI agents, Wed Nov 11 2026. No macro, syntax, notation, axiom, sorry.
-/
import Derived.Test.YticlejkeaagfjaaGreatDoorRows
import GoSem.ClaimSeven
namespace Go.Proofs.YticlejkeaagfjaaGreatDoor
namespace Rows

/-- THE TIED CARD OF 'caduceuslaw05.ForestGrows'. -/
def forestGrowsCard : Claim7 := { stood := { row := forestGrowsRow, standIns := [], harness := (true, "3c05001d4a3e150c359ffe6ab51b1375cea3647f9aef6773bb1c0f23ec2c97a8"), looks := false }, kinds := [], alts := [], laidByText := true, laidKinds := [.data, .pinned], laidTests := true, laidLooks := .later }
def ForestGrowsCardSaid : Prop := Claim7.holds Tryz.pinned (.plain (OpenSpec.ofChange forestGrowsSpec)) forestGrowsCard

/-- THE TIED CARD OF 'caduceuslaw05.ForestChains'. -/
def forestChainsCard : Claim7 := { stood := { row := forestChainsRow, standIns := [], harness := (true, "3c05001d4a3e150c359ffe6ab51b1375cea3647f9aef6773bb1c0f23ec2c97a8"), looks := false }, kinds := [], alts := [], laidByText := true, laidKinds := [.data, .pinned], laidTests := true, laidLooks := .later }
def ForestChainsCardSaid : Prop := Claim7.holds Tryz.pinned (.plain (OpenSpec.ofChange forestChainsSpec)) forestChainsCard

/-- THE TIED CARD OF 'caduceuslaw05.ForestFits'. -/
def forestFitsCard : Claim7 := { stood := { row := forestFitsRow, standIns := [], harness := (true, "3c05001d4a3e150c359ffe6ab51b1375cea3647f9aef6773bb1c0f23ec2c97a8"), looks := false }, kinds := [], alts := [], laidByText := true, laidKinds := [.data, .pinned], laidTests := true, laidLooks := .later }
def ForestFitsCardSaid : Prop := Claim7.holds Tryz.pinned (.plain (OpenSpec.ofChange forestFitsSpec)) forestFitsCard

/-- THE TIED CARD OF 'caduceuslaw05.ForestMakes'. -/
def forestMakesCard : Claim7 := { stood := { row := forestMakesRow, standIns := [], harness := (true, "3c05001d4a3e150c359ffe6ab51b1375cea3647f9aef6773bb1c0f23ec2c97a8"), looks := false }, kinds := [], alts := [], laidByText := true, laidKinds := [.data, .pinned], laidTests := true, laidLooks := .later }
def ForestMakesCardSaid : Prop := Claim7.holds Tryz.pinned (.plain (OpenSpec.ofChange forestMakesSpec)) forestMakesCard

/-- THE TIED CARD OF 'caduceuslaw05.ForestAdds'. -/
def forestAddsCard : Claim7 := { stood := { row := forestAddsRow, standIns := [], harness := (true, "3c05001d4a3e150c359ffe6ab51b1375cea3647f9aef6773bb1c0f23ec2c97a8"), looks := false }, kinds := [], alts := [], laidByText := true, laidKinds := [.data, .pinned], laidTests := true, laidLooks := .later }
def ForestAddsCardSaid : Prop := Claim7.holds Tryz.pinned (.plain (OpenSpec.ofChange forestAddsSpec)) forestAddsCard

/-- THE TIED CARD OF 'caduceuslaw05.ForestJoins'. -/
def forestJoinsCard : Claim7 := { stood := { row := forestJoinsRow, standIns := [], harness := (true, "3c05001d4a3e150c359ffe6ab51b1375cea3647f9aef6773bb1c0f23ec2c97a8"), looks := false }, kinds := [], alts := [], laidByText := true, laidKinds := [.data, .pinned], laidTests := true, laidLooks := .later }
def ForestJoinsCardSaid : Prop := Claim7.holds Tryz.pinned (.plain (OpenSpec.ofChange forestJoinsSpec)) forestJoinsCard

/-- THE SECOND FORM's CARD OF 'caduceuslaw05.ForestGrows'. -/
def forestGrowsUptoCard : Claim7 := { stood := { row := forestGrowsUptoRow, standIns := [], harness := (true, "3c05001d4a3e150c359ffe6ab51b1375cea3647f9aef6773bb1c0f23ec2c97a8"), looks := false }, kinds := [], alts := [], laidByText := true, laidKinds := [.data, .pinned], laidTests := true, laidLooks := .later }
def ForestGrowsUptoCardSaid : Prop := Claim7.holds Tryz.pinned (.plain (OpenSpec.upto forestGrowsSpec)) forestGrowsUptoCard

/-- THE SECOND FORM's CARD OF 'caduceuslaw05.ForestChains'. -/
def forestChainsUptoCard : Claim7 := { stood := { row := forestChainsUptoRow, standIns := [], harness := (true, "3c05001d4a3e150c359ffe6ab51b1375cea3647f9aef6773bb1c0f23ec2c97a8"), looks := false }, kinds := [], alts := [], laidByText := true, laidKinds := [.data, .pinned], laidTests := true, laidLooks := .later }
def ForestChainsUptoCardSaid : Prop := Claim7.holds Tryz.pinned (.plain (OpenSpec.upto forestChainsSpec)) forestChainsUptoCard

/-- THE SECOND FORM's CARD OF 'caduceuslaw05.ForestFits'. -/
def forestFitsUptoCard : Claim7 := { stood := { row := forestFitsUptoRow, standIns := [], harness := (true, "3c05001d4a3e150c359ffe6ab51b1375cea3647f9aef6773bb1c0f23ec2c97a8"), looks := false }, kinds := [], alts := [], laidByText := true, laidKinds := [.data, .pinned], laidTests := true, laidLooks := .later }
def ForestFitsUptoCardSaid : Prop := Claim7.holds Tryz.pinned (.plain (OpenSpec.upto forestFitsSpec)) forestFitsUptoCard

/-- THE SECOND FORM's CARD OF 'caduceuslaw05.ForestMakes'. -/
def forestMakesUptoCard : Claim7 := { stood := { row := forestMakesUptoRow, standIns := [], harness := (true, "3c05001d4a3e150c359ffe6ab51b1375cea3647f9aef6773bb1c0f23ec2c97a8"), looks := false }, kinds := [], alts := [], laidByText := true, laidKinds := [.data, .pinned], laidTests := true, laidLooks := .later }
def ForestMakesUptoCardSaid : Prop := Claim7.holds Tryz.pinned (.plain (OpenSpec.upto forestMakesSpec)) forestMakesUptoCard

/-- THE SECOND FORM's CARD OF 'caduceuslaw05.ForestAdds'. -/
def forestAddsUptoCard : Claim7 := { stood := { row := forestAddsUptoRow, standIns := [], harness := (true, "3c05001d4a3e150c359ffe6ab51b1375cea3647f9aef6773bb1c0f23ec2c97a8"), looks := false }, kinds := [], alts := [], laidByText := true, laidKinds := [.data, .pinned], laidTests := true, laidLooks := .later }
def ForestAddsUptoCardSaid : Prop := Claim7.holds Tryz.pinned (.plain (OpenSpec.upto forestAddsSpec)) forestAddsUptoCard

/-- THE SECOND FORM's CARD OF 'caduceuslaw05.ForestJoins'. -/
def forestJoinsUptoCard : Claim7 := { stood := { row := forestJoinsUptoRow, standIns := [], harness := (true, "3c05001d4a3e150c359ffe6ab51b1375cea3647f9aef6773bb1c0f23ec2c97a8"), looks := false }, kinds := [], alts := [], laidByText := true, laidKinds := [.data, .pinned], laidTests := true, laidLooks := .later }
def ForestJoinsUptoCardSaid : Prop := Claim7.holds Tryz.pinned (.plain (OpenSpec.upto forestJoinsSpec)) forestJoinsUptoCard
end Rows
end Go.Proofs.YticlejkeaagfjaaGreatDoor
