/-
  DERIVED. GIVEN WITH THE SEED: THE CARDS: each row of YtppdbinppibjhaaDoorRows.lean that lists a variable, with what it lists TIED to the program's text (the seventh form; the later family's looks); each row that meets fmt, with fmt's text TOLD by the authors' own Lean function (tested against real Go, not proved from fmt's source: count such statements apart). THE CARD IS WHAT COUNTS. Prove the row's statement (the work); the ties are given (YtppdbinppibjhaaDoorTie.lean); close each card by the builder's one call (the guide's Derived/Test/ToyasCard.lean, 'card_holds'). Laid BY PROGRAM, IN A SANDBOX (cutbox-door.mjs). By AI agents, Wed Nov 11 2026. No macro, syntax, notation, axiom, sorry.
-/
import Derived.Test.YtppdbinppibjhaaDoorRows
import GoSem.ClaimSeven
namespace Go.Proofs.YtppdbinppibjhaaDoor
namespace Rows

/-- THE TIED CARD OF 'mudlarklaw25.ManiNum'. -/
def maniNumCard : Claim7 := { stood := { row := maniNumRow, standIns := [], harness := (true, "ea30c0b82c554ece2c9a57a973d29081c592990419b227a020089a5b51cf086b"), looks := true }, kinds := [], alts := [], laidByText := true, laidKinds := [.data, .data, .data, .sentinel, .sentinel], laidTests := true, laidLooks := .later }
def ManiNumCardSaid : Prop := Claim7.holds Tryd.pinned (.plain (OpenSpec.ofChange maniNumSpec)) maniNumCard

/-- THE SECOND FORM's CARD OF 'mudlarklaw25.ManiNum'. -/
def maniNumUptoCard : Claim7 := { stood := { row := maniNumUptoRow, standIns := [], harness := (true, "ea30c0b82c554ece2c9a57a973d29081c592990419b227a020089a5b51cf086b"), looks := true }, kinds := [], alts := [], laidByText := true, laidKinds := [.data, .data, .data, .sentinel, .sentinel], laidTests := true, laidLooks := .later }
def ManiNumUptoCardSaid : Prop := Claim7.holds Tryd.pinned (.plain (OpenSpec.upto maniNumSpec)) maniNumUptoCard
end Rows
end Go.Proofs.YtppdbinppibjhaaDoor
