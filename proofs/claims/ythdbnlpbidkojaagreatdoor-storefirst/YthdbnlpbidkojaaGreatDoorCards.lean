/-
  DERIVED. GIVEN WITH THE SEED: THE CARDS: each row of YthdbnlpbidkojaaGreatDoorRows.lean that lists a variable, with what it lists TIED to the program's text (the seventh form; the later family's looks); each row that meets fmt, with fmt's text TOLD by the authors' own Lean function (tested against real Go, not proved from fmt's source: count such statements apart). THE CARD IS WHAT COUNTS. Prove the row's statement (the work); the ties are given (YthdbnlpbidkojaaGreatDoorTie.lean); close each card by the builder's one call (the guide's Derived/Test/ToyasCard.lean, 'card_holds'). Laid BY PROGRAM, IN A SANDBOX (cutbox-door.mjs). By AI agents, Wed Nov 11 2026. No macro, syntax, notation, axiom, sorry.
-/
import Derived.Test.YthdbnlpbidkojaaGreatDoorRows
import GoSem.ClaimSeven
namespace Go.Proofs.YthdbnlpbidkojaaGreatDoor
namespace Rows

/-- THE TIED CARD OF 'caduceuslaw17.StorePlays'. -/
def storePlaysCard : Claim7 := { stood := { row := storePlaysRow, standIns := [], harness := (true, "79e6c634855b1c43d49329075aacc3cb9dc56aaccf071534623f217842ed143d"), looks := false }, kinds := [], alts := [], laidByText := true, laidKinds := [.data, .pinned], laidTests := true, laidLooks := .later }
def StorePlaysCardSaid : Prop := Claim7.holds Tryz.pinned (.plain (OpenSpec.ofChange storePlaysSpec)) storePlaysCard

/-- THE TIED CARD OF 'caduceuslaw17.StoreFirst'. -/
def storeFirstCard : Claim7 := { stood := { row := storeFirstRow, standIns := [], harness := (true, "79e6c634855b1c43d49329075aacc3cb9dc56aaccf071534623f217842ed143d"), looks := false }, kinds := [], alts := [], laidByText := true, laidKinds := [.data, .pinned], laidTests := true, laidLooks := .later }
def StoreFirstCardSaid : Prop := Claim7.holds Tryz.pinned (.plain (OpenSpec.ofChange storeFirstSpec)) storeFirstCard

/-- THE TIED CARD OF 'caduceuslaw17.StoreNil'. -/
def storeNilCard : Claim7 := { stood := { row := storeNilRow, standIns := [], harness := (true, "79e6c634855b1c43d49329075aacc3cb9dc56aaccf071534623f217842ed143d"), looks := false }, kinds := [], alts := [], laidByText := true, laidKinds := [.data, .pinned], laidTests := true, laidLooks := .later }
def StoreNilCardSaid : Prop := Claim7.holds Tryz.pinned (.plain (OpenSpec.ofChange storeNilSpec)) storeNilCard

/-- THE SECOND FORM's CARD OF 'caduceuslaw17.StorePlays'. -/
def storePlaysUptoCard : Claim7 := { stood := { row := storePlaysUptoRow, standIns := [], harness := (true, "79e6c634855b1c43d49329075aacc3cb9dc56aaccf071534623f217842ed143d"), looks := false }, kinds := [], alts := [], laidByText := true, laidKinds := [.data, .pinned], laidTests := true, laidLooks := .later }
def StorePlaysUptoCardSaid : Prop := Claim7.holds Tryz.pinned (.plain (OpenSpec.upto storePlaysSpec)) storePlaysUptoCard

/-- THE SECOND FORM's CARD OF 'caduceuslaw17.StoreFirst'. -/
def storeFirstUptoCard : Claim7 := { stood := { row := storeFirstUptoRow, standIns := [], harness := (true, "79e6c634855b1c43d49329075aacc3cb9dc56aaccf071534623f217842ed143d"), looks := false }, kinds := [], alts := [], laidByText := true, laidKinds := [.data, .pinned], laidTests := true, laidLooks := .later }
def StoreFirstUptoCardSaid : Prop := Claim7.holds Tryz.pinned (.plain (OpenSpec.upto storeFirstSpec)) storeFirstUptoCard

/-- THE SECOND FORM's CARD OF 'caduceuslaw17.StoreNil'. -/
def storeNilUptoCard : Claim7 := { stood := { row := storeNilUptoRow, standIns := [], harness := (true, "79e6c634855b1c43d49329075aacc3cb9dc56aaccf071534623f217842ed143d"), looks := false }, kinds := [], alts := [], laidByText := true, laidKinds := [.data, .pinned], laidTests := true, laidLooks := .later }
def StoreNilUptoCardSaid : Prop := Claim7.holds Tryz.pinned (.plain (OpenSpec.upto storeNilSpec)) storeNilUptoCard
end Rows
end Go.Proofs.YthdbnlpbidkojaaGreatDoor
