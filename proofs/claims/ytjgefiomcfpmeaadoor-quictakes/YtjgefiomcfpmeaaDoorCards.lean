/-
  DERIVED. GIVEN WITH THE SEED: THE CARDS: each row of YtjgefiomcfpmeaaDoorRows.lean that lists a variable, with what it lists TIED to the program's text (the seventh form; the later family's looks); each row that meets fmt, with fmt's text TOLD by the authors' own Lean function (tested against real Go, not proved from fmt's source: count such statements apart). THE CARD IS WHAT COUNTS. Prove the row's statement (the work); the ties are given (YtjgefiomcfpmeaaDoorTie.lean); close each card by the builder's one call (the guide's Derived/Test/ToyasCard.lean, 'card_holds'). Laid BY PROGRAM, IN A SANDBOX (cutbox-door.mjs). By AI agents, Wed Nov 11 2026. No macro, syntax, notation, axiom, sorry.
-/
import Derived.Test.YtjgefiomcfpmeaaDoorRows
import GoSem.ClaimSeven
namespace Go.Proofs.YtjgefiomcfpmeaaDoor
namespace Rows

/-- THE TIED CARD OF 'caduceuslaw01.QuicPuts'. -/
def quicPutsCard : Claim7 := { stood := { row := quicPutsRow, standIns := [], harness := (true, "89170d962f451b7ec9bd7ef61b7c6510eac0fe3dc0cfd83744bab14abe11b9ba"), looks := false }, kinds := [], alts := [], laidByText := true, laidKinds := [.data, .data], laidTests := true, laidLooks := .later }
def QuicPutsCardSaid : Prop := Claim7.holds Tryd.pinned (.plain (OpenSpec.ofChange quicPutsSpec)) quicPutsCard

/-- THE TIED CARD OF 'caduceuslaw01.QuicTakes'. -/
def quicTakesCard : Claim7 := { stood := { row := quicTakesRow, standIns := [], harness := (true, "89170d962f451b7ec9bd7ef61b7c6510eac0fe3dc0cfd83744bab14abe11b9ba"), looks := false }, kinds := [], alts := [], laidByText := true, laidKinds := [.data, .data], laidTests := true, laidLooks := .later }
def QuicTakesCardSaid : Prop := Claim7.holds Tryd.pinned (.plain (OpenSpec.ofChange quicTakesSpec)) quicTakesCard

/-- THE TIED CARD OF 'caduceuslaw01.QuicLists'. -/
def quicListsCard : Claim7 := { stood := { row := quicListsRow, standIns := [], harness := (true, "89170d962f451b7ec9bd7ef61b7c6510eac0fe3dc0cfd83744bab14abe11b9ba"), looks := false }, kinds := [], alts := [], laidByText := true, laidKinds := [.data, .data], laidTests := true, laidLooks := .later }
def QuicListsCardSaid : Prop := Claim7.holds Tryd.pinned (.plain (OpenSpec.ofChange quicListsSpec)) quicListsCard

/-- THE SECOND FORM's CARD OF 'caduceuslaw01.QuicPuts'. -/
def quicPutsUptoCard : Claim7 := { stood := { row := quicPutsUptoRow, standIns := [], harness := (true, "89170d962f451b7ec9bd7ef61b7c6510eac0fe3dc0cfd83744bab14abe11b9ba"), looks := false }, kinds := [], alts := [], laidByText := true, laidKinds := [.data, .data], laidTests := true, laidLooks := .later }
def QuicPutsUptoCardSaid : Prop := Claim7.holds Tryd.pinned (.plain (OpenSpec.upto quicPutsSpec)) quicPutsUptoCard

/-- THE SECOND FORM's CARD OF 'caduceuslaw01.QuicTakes'. -/
def quicTakesUptoCard : Claim7 := { stood := { row := quicTakesUptoRow, standIns := [], harness := (true, "89170d962f451b7ec9bd7ef61b7c6510eac0fe3dc0cfd83744bab14abe11b9ba"), looks := false }, kinds := [], alts := [], laidByText := true, laidKinds := [.data, .data], laidTests := true, laidLooks := .later }
def QuicTakesUptoCardSaid : Prop := Claim7.holds Tryd.pinned (.plain (OpenSpec.upto quicTakesSpec)) quicTakesUptoCard

/-- THE SECOND FORM's CARD OF 'caduceuslaw01.QuicLists'. -/
def quicListsUptoCard : Claim7 := { stood := { row := quicListsUptoRow, standIns := [], harness := (true, "89170d962f451b7ec9bd7ef61b7c6510eac0fe3dc0cfd83744bab14abe11b9ba"), looks := false }, kinds := [], alts := [], laidByText := true, laidKinds := [.data, .data], laidTests := true, laidLooks := .later }
def QuicListsUptoCardSaid : Prop := Claim7.holds Tryd.pinned (.plain (OpenSpec.upto quicListsSpec)) quicListsUptoCard
end Rows
end Go.Proofs.YtjgefiomcfpmeaaDoor
