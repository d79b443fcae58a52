/-
  DERIVED. GIVEN WITH THE SEED: THE CARDS: each row of YtgnhehobeoealaaDoorRows.lean that lists a variable, with what it lists TIED to the program's text (the seventh form; the later family's looks); each row that meets fmt, with fmt's text TOLD by the authors' own Lean function (tested against real Go, not proved from fmt's source: count such statements apart). THE CARD IS WHAT COUNTS. Prove the row's statement (the work); the ties are given (YtgnhehobeoealaaDoorTie.lean); close each card by the builder's one call (the guide's Derived/Test/ToyasCard.lean, 'card_holds'). Laid BY PROGRAM, IN A SANDBOX (cutbox-door.mjs). By AI agents, Wed Nov 11 2026. No macro, syntax, notation, axiom, sorry.
-/
import Derived.Test.YtgnhehobeoealaaDoorRows
import GoSem.ClaimSeven
namespace Go.Proofs.YtgnhehobeoealaaDoor
namespace Rows

/-- THE TIED CARD OF 'caduceuslaw01.QuicPuts'. -/
def quicPutsCard : Claim7 := { stood := { row := quicPutsRow, standIns := [], harness := (true, "9f148de318c2c13e4b46b522ff9a7308bf854eab58d50fae1611e7920a7b968e"), looks := false }, kinds := [], alts := [], laidByText := true, laidKinds := [.data, .data], laidTests := true, laidLooks := .later }
def QuicPutsCardSaid : Prop := Claim7.holds Tryd.pinned (.plain (OpenSpec.ofChange quicPutsSpec)) quicPutsCard

/-- THE TIED CARD OF 'caduceuslaw01.QuicOnce'. -/
def quicOnceCard : Claim7 := { stood := { row := quicOnceRow, standIns := [], harness := (true, "9f148de318c2c13e4b46b522ff9a7308bf854eab58d50fae1611e7920a7b968e"), looks := false }, kinds := [], alts := [], laidByText := true, laidKinds := [.data, .data], laidTests := true, laidLooks := .later }
def QuicOnceCardSaid : Prop := Claim7.holds Tryd.pinned (.plain (OpenSpec.ofChange quicOnceSpec)) quicOnceCard

/-- THE SECOND FORM's CARD OF 'caduceuslaw01.QuicPuts'. -/
def quicPutsUptoCard : Claim7 := { stood := { row := quicPutsUptoRow, standIns := [], harness := (true, "9f148de318c2c13e4b46b522ff9a7308bf854eab58d50fae1611e7920a7b968e"), looks := false }, kinds := [], alts := [], laidByText := true, laidKinds := [.data, .data], laidTests := true, laidLooks := .later }
def QuicPutsUptoCardSaid : Prop := Claim7.holds Tryd.pinned (.plain (OpenSpec.upto quicPutsSpec)) quicPutsUptoCard

/-- THE SECOND FORM's CARD OF 'caduceuslaw01.QuicOnce'. -/
def quicOnceUptoCard : Claim7 := { stood := { row := quicOnceUptoRow, standIns := [], harness := (true, "9f148de318c2c13e4b46b522ff9a7308bf854eab58d50fae1611e7920a7b968e"), looks := false }, kinds := [], alts := [], laidByText := true, laidKinds := [.data, .data], laidTests := true, laidLooks := .later }
def QuicOnceUptoCardSaid : Prop := Claim7.holds Tryd.pinned (.plain (OpenSpec.upto quicOnceSpec)) quicOnceUptoCard
end Rows
end Go.Proofs.YtgnhehobeoealaaDoor
