/-
  DERIVED. GIVEN WITH THE SEED: THE CARDS: each row of YtcfhghjgphhegaaDoorRows.lean that lists a variable, with what it lists TIED to the program's text (the seventh form; the later family's looks); each row that meets fmt, with fmt's text TOLD by the authors' own Lean function (tested against real Go, not proved from fmt's source: count such statements apart). THE CARD IS WHAT COUNTS. Prove the row's statement (the work); the ties are given (YtcfhghjgphhegaaDoorTie.lean); close each card by the builder's one call (the guide's Derived/Test/ToyasCard.lean, 'card_holds'). Laid BY PROGRAM, IN A SANDBOX (cutbox-door.mjs). By AI agents, Wed Nov 11 2026. No macro, syntax, notation, axiom, sorry.
-/
import Derived.Test.YtcfhghjgphhegaaDoorRows
import GoSem.ClaimSeven
namespace Go.Proofs.YtcfhghjgphhegaaDoor
namespace Rows

/-- THE TIED CARD OF 'caduceuslaw01.QuicNums'. -/
def quicNumsCard : Claim7 := { stood := { row := quicNumsRow, standIns := [], harness := (true, "20d0205fbc1a03b6a15d4316e4cc9d3ccf9ac4d9bffb84902f12fd68e0007e00"), looks := false }, kinds := [], alts := [], laidByText := true, laidKinds := [.data, .data], laidTests := true, laidLooks := .later }
def QuicNumsCardSaid : Prop := Claim7.holds Tryd.pinned (.plain (OpenSpec.ofChange quicNumsSpec)) quicNumsCard

/-- THE TIED CARD OF 'caduceuslaw01.QuicGets'. -/
def quicGetsCard : Claim7 := { stood := { row := quicGetsRow, standIns := [], harness := (true, "20d0205fbc1a03b6a15d4316e4cc9d3ccf9ac4d9bffb84902f12fd68e0007e00"), looks := false }, kinds := [], alts := [], laidByText := true, laidKinds := [.data, .data], laidTests := true, laidLooks := .later }
def QuicGetsCardSaid : Prop := Claim7.holds Tryd.pinned (.plain (OpenSpec.ofChange quicGetsSpec)) quicGetsCard

/-- THE TIED CARD OF 'caduceuslaw01.QuicPuts'. -/
def quicPutsCard : Claim7 := { stood := { row := quicPutsRow, standIns := [], harness := (true, "20d0205fbc1a03b6a15d4316e4cc9d3ccf9ac4d9bffb84902f12fd68e0007e00"), looks := false }, kinds := [], alts := [], laidByText := true, laidKinds := [.data, .data], laidTests := true, laidLooks := .later }
def QuicPutsCardSaid : Prop := Claim7.holds Tryd.pinned (.plain (OpenSpec.ofChange quicPutsSpec)) quicPutsCard

/-- THE TIED CARD OF 'caduceuslaw01.QuicTakes'. -/
def quicTakesCard : Claim7 := { stood := { row := quicTakesRow, standIns := [], harness := (true, "20d0205fbc1a03b6a15d4316e4cc9d3ccf9ac4d9bffb84902f12fd68e0007e00"), looks := false }, kinds := [], alts := [], laidByText := true, laidKinds := [.data, .data], laidTests := true, laidLooks := .later }
def QuicTakesCardSaid : Prop := Claim7.holds Tryd.pinned (.plain (OpenSpec.ofChange quicTakesSpec)) quicTakesCard

/-- THE TIED CARD OF 'caduceuslaw01.QuicLists'. -/
def quicListsCard : Claim7 := { stood := { row := quicListsRow, standIns := [], harness := (true, "20d0205fbc1a03b6a15d4316e4cc9d3ccf9ac4d9bffb84902f12fd68e0007e00"), looks := false }, kinds := [], alts := [], laidByText := true, laidKinds := [.data, .data], laidTests := true, laidLooks := .later }
def QuicListsCardSaid : Prop := Claim7.holds Tryd.pinned (.plain (OpenSpec.ofChange quicListsSpec)) quicListsCard

/-- THE TIED CARD OF 'caduceuslaw01.QuicBack'. -/
def quicBackCard : Claim7 := { stood := { row := quicBackRow, standIns := [], harness := (true, "20d0205fbc1a03b6a15d4316e4cc9d3ccf9ac4d9bffb84902f12fd68e0007e00"), looks := false }, kinds := [], alts := [], laidByText := true, laidKinds := [.data, .data], laidTests := true, laidLooks := .later }
def QuicBackCardSaid : Prop := Claim7.holds Tryd.pinned (.plain (OpenSpec.ofChange quicBackSpec)) quicBackCard

/-- THE SECOND FORM's CARD OF 'caduceuslaw01.QuicNums'. -/
def quicNumsUptoCard : Claim7 := { stood := { row := quicNumsUptoRow, standIns := [], harness := (true, "20d0205fbc1a03b6a15d4316e4cc9d3ccf9ac4d9bffb84902f12fd68e0007e00"), looks := false }, kinds := [], alts := [], laidByText := true, laidKinds := [.data, .data], laidTests := true, laidLooks := .later }
def QuicNumsUptoCardSaid : Prop := Claim7.holds Tryd.pinned (.plain (OpenSpec.upto quicNumsSpec)) quicNumsUptoCard

/-- THE SECOND FORM's CARD OF 'caduceuslaw01.QuicGets'. -/
def quicGetsUptoCard : Claim7 := { stood := { row := quicGetsUptoRow, standIns := [], harness := (true, "20d0205fbc1a03b6a15d4316e4cc9d3ccf9ac4d9bffb84902f12fd68e0007e00"), looks := false }, kinds := [], alts := [], laidByText := true, laidKinds := [.data, .data], laidTests := true, laidLooks := .later }
def QuicGetsUptoCardSaid : Prop := Claim7.holds Tryd.pinned (.plain (OpenSpec.upto quicGetsSpec)) quicGetsUptoCard

/-- THE SECOND FORM's CARD OF 'caduceuslaw01.QuicPuts'. -/
def quicPutsUptoCard : Claim7 := { stood := { row := quicPutsUptoRow, standIns := [], harness := (true, "20d0205fbc1a03b6a15d4316e4cc9d3ccf9ac4d9bffb84902f12fd68e0007e00"), looks := false }, kinds := [], alts := [], laidByText := true, laidKinds := [.data, .data], laidTests := true, laidLooks := .later }
def QuicPutsUptoCardSaid : Prop := Claim7.holds Tryd.pinned (.plain (OpenSpec.upto quicPutsSpec)) quicPutsUptoCard

/-- THE SECOND FORM's CARD OF 'caduceuslaw01.QuicTakes'. -/
def quicTakesUptoCard : Claim7 := { stood := { row := quicTakesUptoRow, standIns := [], harness := (true, "20d0205fbc1a03b6a15d4316e4cc9d3ccf9ac4d9bffb84902f12fd68e0007e00"), looks := false }, kinds := [], alts := [], laidByText := true, laidKinds := [.data, .data], laidTests := true, laidLooks := .later }
def QuicTakesUptoCardSaid : Prop := Claim7.holds Tryd.pinned (.plain (OpenSpec.upto quicTakesSpec)) quicTakesUptoCard

/-- THE SECOND FORM's CARD OF 'caduceuslaw01.QuicLists'. -/
def quicListsUptoCard : Claim7 := { stood := { row := quicListsUptoRow, standIns := [], harness := (true, "20d0205fbc1a03b6a15d4316e4cc9d3ccf9ac4d9bffb84902f12fd68e0007e00"), looks := false }, kinds := [], alts := [], laidByText := true, laidKinds := [.data, .data], laidTests := true, laidLooks := .later }
def QuicListsUptoCardSaid : Prop := Claim7.holds Tryd.pinned (.plain (OpenSpec.upto quicListsSpec)) quicListsUptoCard

/-- THE SECOND FORM's CARD OF 'caduceuslaw01.QuicBack'. -/
def quicBackUptoCard : Claim7 := { stood := { row := quicBackUptoRow, standIns := [], harness := (true, "20d0205fbc1a03b6a15d4316e4cc9d3ccf9ac4d9bffb84902f12fd68e0007e00"), looks := false }, kinds := [], alts := [], laidByText := true, laidKinds := [.data, .data], laidTests := true, laidLooks := .later }
def QuicBackUptoCardSaid : Prop := Claim7.holds Tryd.pinned (.plain (OpenSpec.upto quicBackSpec)) quicBackUptoCard
end Rows
end Go.Proofs.YtcfhghjgphhegaaDoor
