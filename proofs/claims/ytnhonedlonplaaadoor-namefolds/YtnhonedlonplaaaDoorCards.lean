/-
  DERIVED. GIVEN WITH THE SEED: THE CARDS: each row of YtnhonedlonplaaaDoorRows.lean that lists a variable, with what it lists TIED to the program's text (the seventh form; the later family's looks); each row that meets fmt, with fmt's text TOLD by the authors' own Lean function (tested against real Go, not proved from fmt's source: count such statements apart). THE CARD IS WHAT COUNTS. Prove the row's statement (the work); the ties are given (YtnhonedlonplaaaDoorTie.lean); close each card by the builder's one call (the guide's Derived/Test/ToyasCard.lean, 'card_holds'). Laid BY PROGRAM, IN A SANDBOX (cutbox-door.mjs). By AI agents, Wed Nov 11 2026. No macro, syntax, notation, axiom, sorry.
-/
import Derived.Test.YtnhonedlonplaaaDoorRows
import GoSem.ClaimSeven
namespace Go.Proofs.YtnhonedlonplaaaDoor
namespace Rows

/-- THE TIED CARD OF 'caduceuslaw01.QuicTakes'. -/
def quicTakesCard : Claim7 := { stood := { row := quicTakesRow, standIns := [], harness := (true, "1b0765e0836cc60d99a1bbb2f7c735ad09ae9c92dbb09762a91db9960c23761e"), looks := false }, kinds := [], alts := [], laidByText := true, laidKinds := [.data, .data], laidTests := true, laidLooks := .later }
def QuicTakesCardSaid : Prop := Claim7.holds Tryd.pinned (.plain (OpenSpec.ofChange quicTakesSpec)) quicTakesCard

/-- THE TIED CARD OF 'caduceuslaw02.NameChecks'. -/
def nameChecksCard : Claim7 := { stood := { row := nameChecksRow, standIns := [], harness := (true, "1b0765e0836cc60d99a1bbb2f7c735ad09ae9c92dbb09762a91db9960c23761e"), looks := false }, kinds := [], alts := [], laidByText := true, laidKinds := [.data, .pinned], laidTests := true, laidLooks := .later }
def NameChecksCardSaid : Prop := Claim7.holds Tryd.pinned (.plain (OpenSpec.ofChange nameChecksSpec)) nameChecksCard

/-- THE TIED CARD OF 'caduceuslaw02.NameRunes'. -/
def nameRunesCard : Claim7 := { stood := { row := nameRunesRow, standIns := [], harness := (true, "1b0765e0836cc60d99a1bbb2f7c735ad09ae9c92dbb09762a91db9960c23761e"), looks := false }, kinds := [], alts := [], laidByText := true, laidKinds := [.data, .pinned], laidTests := true, laidLooks := .later }
def NameRunesCardSaid : Prop := Claim7.holds Tryd.pinned (.plain (OpenSpec.ofChange nameRunesSpec)) nameRunesCard

/-- THE TIED CARD OF 'caduceuslaw02.NameFolds'. -/
def nameFoldsCard : Claim7 := { stood := { row := nameFoldsRow, standIns := [], harness := (true, "1b0765e0836cc60d99a1bbb2f7c735ad09ae9c92dbb09762a91db9960c23761e"), looks := false }, kinds := [], alts := [], laidByText := true, laidKinds := [.data, .pinned], laidTests := true, laidLooks := .later }
def NameFoldsCardSaid : Prop := Claim7.holds Tryd.pinned (.plain (OpenSpec.ofChange nameFoldsSpec)) nameFoldsCard

/-- THE TIED CARD OF 'caduceuslaw02.NameCompares'. -/
def nameComparesCard : Claim7 := { stood := { row := nameComparesRow, standIns := [], harness := (true, "1b0765e0836cc60d99a1bbb2f7c735ad09ae9c92dbb09762a91db9960c23761e"), looks := false }, kinds := [], alts := [], laidByText := true, laidKinds := [.data, .pinned], laidTests := true, laidLooks := .later }
def NameComparesCardSaid : Prop := Claim7.holds Tryd.pinned (.plain (OpenSpec.ofChange nameComparesSpec)) nameComparesCard

/-- THE TIED CARD OF 'caduceuslaw02.NameFolded'. -/
def nameFoldedCard : Claim7 := { stood := { row := nameFoldedRow, standIns := [], harness := (true, "1b0765e0836cc60d99a1bbb2f7c735ad09ae9c92dbb09762a91db9960c23761e"), looks := false }, kinds := [], alts := [], laidByText := true, laidKinds := [.data, .pinned], laidTests := true, laidLooks := .later }
def NameFoldedCardSaid : Prop := Claim7.holds Tryd.pinned (.plain (OpenSpec.ofChange nameFoldedSpec)) nameFoldedCard

/-- THE SECOND FORM's CARD OF 'caduceuslaw01.QuicTakes'. -/
def quicTakesUptoCard : Claim7 := { stood := { row := quicTakesUptoRow, standIns := [], harness := (true, "1b0765e0836cc60d99a1bbb2f7c735ad09ae9c92dbb09762a91db9960c23761e"), looks := false }, kinds := [], alts := [], laidByText := true, laidKinds := [.data, .data], laidTests := true, laidLooks := .later }
def QuicTakesUptoCardSaid : Prop := Claim7.holds Tryd.pinned (.plain (OpenSpec.upto quicTakesSpec)) quicTakesUptoCard

/-- THE SECOND FORM's CARD OF 'caduceuslaw02.NameChecks'. -/
def nameChecksUptoCard : Claim7 := { stood := { row := nameChecksUptoRow, standIns := [], harness := (true, "1b0765e0836cc60d99a1bbb2f7c735ad09ae9c92dbb09762a91db9960c23761e"), looks := false }, kinds := [], alts := [], laidByText := true, laidKinds := [.data, .pinned], laidTests := true, laidLooks := .later }
def NameChecksUptoCardSaid : Prop := Claim7.holds Tryd.pinned (.plain (OpenSpec.upto nameChecksSpec)) nameChecksUptoCard

/-- THE SECOND FORM's CARD OF 'caduceuslaw02.NameRunes'. -/
def nameRunesUptoCard : Claim7 := { stood := { row := nameRunesUptoRow, standIns := [], harness := (true, "1b0765e0836cc60d99a1bbb2f7c735ad09ae9c92dbb09762a91db9960c23761e"), looks := false }, kinds := [], alts := [], laidByText := true, laidKinds := [.data, .pinned], laidTests := true, laidLooks := .later }
def NameRunesUptoCardSaid : Prop := Claim7.holds Tryd.pinned (.plain (OpenSpec.upto nameRunesSpec)) nameRunesUptoCard

/-- THE SECOND FORM's CARD OF 'caduceuslaw02.NameFolds'. -/
def nameFoldsUptoCard : Claim7 := { stood := { row := nameFoldsUptoRow, standIns := [], harness := (true, "1b0765e0836cc60d99a1bbb2f7c735ad09ae9c92dbb09762a91db9960c23761e"), looks := false }, kinds := [], alts := [], laidByText := true, laidKinds := [.data, .pinned], laidTests := true, laidLooks := .later }
def NameFoldsUptoCardSaid : Prop := Claim7.holds Tryd.pinned (.plain (OpenSpec.upto nameFoldsSpec)) nameFoldsUptoCard

/-- THE SECOND FORM's CARD OF 'caduceuslaw02.NameCompares'. -/
def nameComparesUptoCard : Claim7 := { stood := { row := nameComparesUptoRow, standIns := [], harness := (true, "1b0765e0836cc60d99a1bbb2f7c735ad09ae9c92dbb09762a91db9960c23761e"), looks := false }, kinds := [], alts := [], laidByText := true, laidKinds := [.data, .pinned], laidTests := true, laidLooks := .later }
def NameComparesUptoCardSaid : Prop := Claim7.holds Tryd.pinned (.plain (OpenSpec.upto nameComparesSpec)) nameComparesUptoCard

/-- THE SECOND FORM's CARD OF 'caduceuslaw02.NameFolded'. -/
def nameFoldedUptoCard : Claim7 := { stood := { row := nameFoldedUptoRow, standIns := [], harness := (true, "1b0765e0836cc60d99a1bbb2f7c735ad09ae9c92dbb09762a91db9960c23761e"), looks := false }, kinds := [], alts := [], laidByText := true, laidKinds := [.data, .pinned], laidTests := true, laidLooks := .later }
def NameFoldedUptoCardSaid : Prop := Claim7.holds Tryd.pinned (.plain (OpenSpec.upto nameFoldedSpec)) nameFoldedUptoCard
end Rows
end Go.Proofs.YtnhonedlonplaaaDoor
