/-
  DERIVED. GIVEN WITH THE SEED: THE CARDS: each row of YtcfhghjgphhegabDoorRows.lean that lists a variable, with what it lists TIED to the program's text (the seventh form; the later family's looks); each row that meets fmt, with fmt's text TOLD by the authors' own Lean function (tested against real Go, not proved from fmt's source: count such statements apart). THE CARD IS WHAT COUNTS. Prove the row's statement (the work); the ties are given (YtcfhghjgphhegabDoorTie.lean); close each card by the builder's one call (the guide's Derived/Test/ToyasCard.lean, 'card_holds'). Laid BY PROGRAM, IN A SANDBOX (cutbox-door.mjs). By AI agents, Wed Nov 11 2026. No macro, syntax, notation, axiom, sorry.
-/
import Derived.Test.YtcfhghjgphhegabDoorRows
import GoSem.ClaimSeven
namespace Go.Proofs.YtcfhghjgphhegabDoor
namespace Rows

/-- THE TIED CARD OF 'caduceuslaw01.QuicOnce'. -/
def quicOnceCard : Claim7 := { stood := { row := quicOnceRow, standIns := [], harness := (true, "efd0005f47ef4ae1ffbcd6573e27036aec498f525a6128058c0a42f151840317"), looks := false }, kinds := [], alts := [], laidByText := true, laidKinds := [.data, .data], laidTests := true, laidLooks := .later }
def QuicOnceCardSaid : Prop := Claim7.holds Tryd.pinned (.plain (OpenSpec.ofChange quicOnceSpec)) quicOnceCard

/-- THE TIED CARD OF 'caduceuslaw01.QuicRises'. -/
def quicRisesCard : Claim7 := { stood := { row := quicRisesRow, standIns := [], harness := (true, "efd0005f47ef4ae1ffbcd6573e27036aec498f525a6128058c0a42f151840317"), looks := false }, kinds := [], alts := [], laidByText := true, laidKinds := [.data, .data], laidTests := true, laidLooks := .later }
def QuicRisesCardSaid : Prop := Claim7.holds Tryd.pinned (.plain (OpenSpec.ofChange quicRisesSpec)) quicRisesCard

/-- THE TIED CARD OF 'caduceuslaw02.NameChecks'. -/
def nameChecksCard : Claim7 := { stood := { row := nameChecksRow, standIns := [], harness := (true, "efd0005f47ef4ae1ffbcd6573e27036aec498f525a6128058c0a42f151840317"), looks := false }, kinds := [], alts := [], laidByText := true, laidKinds := [.data, .pinned], laidTests := true, laidLooks := .later }
def NameChecksCardSaid : Prop := Claim7.holds Tryd.pinned (.plain (OpenSpec.ofChange nameChecksSpec)) nameChecksCard

/-- THE TIED CARD OF 'caduceuslaw02.NameRunes'. -/
def nameRunesCard : Claim7 := { stood := { row := nameRunesRow, standIns := [], harness := (true, "efd0005f47ef4ae1ffbcd6573e27036aec498f525a6128058c0a42f151840317"), looks := false }, kinds := [], alts := [], laidByText := true, laidKinds := [.data, .pinned], laidTests := true, laidLooks := .later }
def NameRunesCardSaid : Prop := Claim7.holds Tryd.pinned (.plain (OpenSpec.ofChange nameRunesSpec)) nameRunesCard

/-- THE TIED CARD OF 'caduceuslaw02.NameFolds'. -/
def nameFoldsCard : Claim7 := { stood := { row := nameFoldsRow, standIns := [], harness := (true, "efd0005f47ef4ae1ffbcd6573e27036aec498f525a6128058c0a42f151840317"), looks := false }, kinds := [], alts := [], laidByText := true, laidKinds := [.data, .pinned], laidTests := true, laidLooks := .later }
def NameFoldsCardSaid : Prop := Claim7.holds Tryd.pinned (.plain (OpenSpec.ofChange nameFoldsSpec)) nameFoldsCard

/-- THE TIED CARD OF 'caduceuslaw02.NameCompares'. -/
def nameComparesCard : Claim7 := { stood := { row := nameComparesRow, standIns := [], harness := (true, "efd0005f47ef4ae1ffbcd6573e27036aec498f525a6128058c0a42f151840317"), looks := false }, kinds := [], alts := [], laidByText := true, laidKinds := [.data, .pinned], laidTests := true, laidLooks := .later }
def NameComparesCardSaid : Prop := Claim7.holds Tryd.pinned (.plain (OpenSpec.ofChange nameComparesSpec)) nameComparesCard

/-- THE SECOND FORM's CARD OF 'caduceuslaw01.QuicOnce'. -/
def quicOnceUptoCard : Claim7 := { stood := { row := quicOnceUptoRow, standIns := [], harness := (true, "efd0005f47ef4ae1ffbcd6573e27036aec498f525a6128058c0a42f151840317"), looks := false }, kinds := [], alts := [], laidByText := true, laidKinds := [.data, .data], laidTests := true, laidLooks := .later }
def QuicOnceUptoCardSaid : Prop := Claim7.holds Tryd.pinned (.plain (OpenSpec.upto quicOnceSpec)) quicOnceUptoCard

/-- THE SECOND FORM's CARD OF 'caduceuslaw01.QuicRises'. -/
def quicRisesUptoCard : Claim7 := { stood := { row := quicRisesUptoRow, standIns := [], harness := (true, "efd0005f47ef4ae1ffbcd6573e27036aec498f525a6128058c0a42f151840317"), looks := false }, kinds := [], alts := [], laidByText := true, laidKinds := [.data, .data], laidTests := true, laidLooks := .later }
def QuicRisesUptoCardSaid : Prop := Claim7.holds Tryd.pinned (.plain (OpenSpec.upto quicRisesSpec)) quicRisesUptoCard

/-- THE SECOND FORM's CARD OF 'caduceuslaw02.NameChecks'. -/
def nameChecksUptoCard : Claim7 := { stood := { row := nameChecksUptoRow, standIns := [], harness := (true, "efd0005f47ef4ae1ffbcd6573e27036aec498f525a6128058c0a42f151840317"), looks := false }, kinds := [], alts := [], laidByText := true, laidKinds := [.data, .pinned], laidTests := true, laidLooks := .later }
def NameChecksUptoCardSaid : Prop := Claim7.holds Tryd.pinned (.plain (OpenSpec.upto nameChecksSpec)) nameChecksUptoCard

/-- THE SECOND FORM's CARD OF 'caduceuslaw02.NameRunes'. -/
def nameRunesUptoCard : Claim7 := { stood := { row := nameRunesUptoRow, standIns := [], harness := (true, "efd0005f47ef4ae1ffbcd6573e27036aec498f525a6128058c0a42f151840317"), looks := false }, kinds := [], alts := [], laidByText := true, laidKinds := [.data, .pinned], laidTests := true, laidLooks := .later }
def NameRunesUptoCardSaid : Prop := Claim7.holds Tryd.pinned (.plain (OpenSpec.upto nameRunesSpec)) nameRunesUptoCard

/-- THE SECOND FORM's CARD OF 'caduceuslaw02.NameFolds'. -/
def nameFoldsUptoCard : Claim7 := { stood := { row := nameFoldsUptoRow, standIns := [], harness := (true, "efd0005f47ef4ae1ffbcd6573e27036aec498f525a6128058c0a42f151840317"), looks := false }, kinds := [], alts := [], laidByText := true, laidKinds := [.data, .pinned], laidTests := true, laidLooks := .later }
def NameFoldsUptoCardSaid : Prop := Claim7.holds Tryd.pinned (.plain (OpenSpec.upto nameFoldsSpec)) nameFoldsUptoCard

/-- THE SECOND FORM's CARD OF 'caduceuslaw02.NameCompares'. -/
def nameComparesUptoCard : Claim7 := { stood := { row := nameComparesUptoRow, standIns := [], harness := (true, "efd0005f47ef4ae1ffbcd6573e27036aec498f525a6128058c0a42f151840317"), looks := false }, kinds := [], alts := [], laidByText := true, laidKinds := [.data, .pinned], laidTests := true, laidLooks := .later }
def NameComparesUptoCardSaid : Prop := Claim7.holds Tryd.pinned (.plain (OpenSpec.upto nameComparesSpec)) nameComparesUptoCard
end Rows
end Go.Proofs.YtcfhghjgphhegabDoor
