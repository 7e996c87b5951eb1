/-
  DERIVED. GIVEN WITH THE SEED: THE CARDS: each row of YtppdbinppibjhaaGreatDoorRows.lean that lists a variable, with what it lists TIED to the program's text (the seventh form; the later family's looks); each row that meets fmt, with fmt's text TOLD by the authors' own Lean function (tested against real Go, not proved from fmt's source: count such statements apart). THE CARD IS WHAT COUNTS. Prove the row's statement (the work); the ties are given (YtppdbinppibjhaaGreatDoorTie.lean); close each card by the builder's one call (the guide's Derived/Test/ToyasCard.lean, 'card_holds'). Laid BY PROGRAM, IN A SANDBOX (cutbox-door.mjs). By AI agents, Wed Nov 11 2026. No macro, syntax, notation, axiom, sorry.
-/
import Derived.Test.YtppdbinppibjhaaGreatDoorRows
import GoSem.ClaimSeven
namespace Go.Proofs.YtppdbinppibjhaaGreatDoor
namespace Rows

/-- THE TIED CARD OF 'mudlarklaw25.ManiPuts'. -/
def maniPutsCard : Claim7 := { stood := { row := maniPutsRow, standIns := [], harness := (true, "8629a1e11de3c149c1f91b9e98d7d29afd3fa0842669a410b570af219049dc54"), looks := true }, kinds := [], alts := [], laidByText := true, laidKinds := [.data, .data, .data, .sentinel, .sentinel], laidTests := true, laidLooks := .later }
def ManiPutsCardSaid : Prop := Claim7.holds Tryz.pinned (.plain (OpenSpec.ofChange maniPutsSpec)) maniPutsCard

/-- THE TIED CARD OF 'mudlarklaw25.ManiGets'. -/
def maniGetsCard : Claim7 := { stood := { row := maniGetsRow, standIns := [], harness := (true, "8629a1e11de3c149c1f91b9e98d7d29afd3fa0842669a410b570af219049dc54"), looks := true }, kinds := [], alts := [], laidByText := true, laidKinds := [.data, .data, .data, .sentinel, .sentinel], laidTests := true, laidLooks := .later }
def ManiGetsCardSaid : Prop := Claim7.holds Tryz.pinned (.plain (OpenSpec.ofChange maniGetsSpec)) maniGetsCard

/-- THE TIED CARD OF 'mudlarklaw25.ManiNames'. -/
def maniNamesCard : Claim7 := { stood := { row := maniNamesRow, standIns := [], harness := (true, "8629a1e11de3c149c1f91b9e98d7d29afd3fa0842669a410b570af219049dc54"), looks := true }, kinds := [], alts := [], laidByText := true, laidKinds := [.data, .data, .data, .sentinel, .sentinel], laidTests := true, laidLooks := .later }
def ManiNamesCardSaid : Prop := Claim7.holds Tryz.pinned (.plain (OpenSpec.ofChange maniNamesSpec)) maniNamesCard

/-- THE TIED CARD OF 'mudlarklaw25.ManiEnds'. -/
def maniEndsCard : Claim7 := { stood := { row := maniEndsRow, standIns := [], harness := (true, "8629a1e11de3c149c1f91b9e98d7d29afd3fa0842669a410b570af219049dc54"), looks := true }, kinds := [], alts := [], laidByText := true, laidKinds := [.data, .data, .data, .sentinel, .sentinel], laidTests := true, laidLooks := .later }
def ManiEndsCardSaid : Prop := Claim7.holds Tryz.pinned (.plain (OpenSpec.ofChange maniEndsSpec)) maniEndsCard

/-- THE TIED CARD OF 'mudlarklaw25.ManiBack'. -/
def maniBackCard : Claim7 := { stood := { row := maniBackRow, standIns := [], harness := (true, "8629a1e11de3c149c1f91b9e98d7d29afd3fa0842669a410b570af219049dc54"), looks := true }, kinds := [], alts := [], laidByText := true, laidKinds := [.data, .data, .data, .sentinel, .sentinel], laidTests := true, laidLooks := .later }
def ManiBackCardSaid : Prop := Claim7.holds Tryz.pinned (.plain (OpenSpec.ofChange maniBackSpec)) maniBackCard

/-- THE TIED CARD OF 'mudlarklaw25.ManiOnce'. -/
def maniOnceCard : Claim7 := { stood := { row := maniOnceRow, standIns := [], harness := (true, "8629a1e11de3c149c1f91b9e98d7d29afd3fa0842669a410b570af219049dc54"), looks := true }, kinds := [], alts := [], laidByText := true, laidKinds := [.data, .data, .data, .sentinel, .sentinel], laidTests := true, laidLooks := .later }
def ManiOnceCardSaid : Prop := Claim7.holds Tryz.pinned (.plain (OpenSpec.ofChange maniOnceSpec)) maniOnceCard

/-- THE SECOND FORM's CARD OF 'mudlarklaw25.ManiPuts'. -/
def maniPutsUptoCard : Claim7 := { stood := { row := maniPutsUptoRow, standIns := [], harness := (true, "8629a1e11de3c149c1f91b9e98d7d29afd3fa0842669a410b570af219049dc54"), looks := true }, kinds := [], alts := [], laidByText := true, laidKinds := [.data, .data, .data, .sentinel, .sentinel], laidTests := true, laidLooks := .later }
def ManiPutsUptoCardSaid : Prop := Claim7.holds Tryz.pinned (.plain (OpenSpec.upto maniPutsSpec)) maniPutsUptoCard

/-- THE SECOND FORM's CARD OF 'mudlarklaw25.ManiGets'. -/
def maniGetsUptoCard : Claim7 := { stood := { row := maniGetsUptoRow, standIns := [], harness := (true, "8629a1e11de3c149c1f91b9e98d7d29afd3fa0842669a410b570af219049dc54"), looks := true }, kinds := [], alts := [], laidByText := true, laidKinds := [.data, .data, .data, .sentinel, .sentinel], laidTests := true, laidLooks := .later }
def ManiGetsUptoCardSaid : Prop := Claim7.holds Tryz.pinned (.plain (OpenSpec.upto maniGetsSpec)) maniGetsUptoCard

/-- THE SECOND FORM's CARD OF 'mudlarklaw25.ManiNames'. -/
def maniNamesUptoCard : Claim7 := { stood := { row := maniNamesUptoRow, standIns := [], harness := (true, "8629a1e11de3c149c1f91b9e98d7d29afd3fa0842669a410b570af219049dc54"), looks := true }, kinds := [], alts := [], laidByText := true, laidKinds := [.data, .data, .data, .sentinel, .sentinel], laidTests := true, laidLooks := .later }
def ManiNamesUptoCardSaid : Prop := Claim7.holds Tryz.pinned (.plain (OpenSpec.upto maniNamesSpec)) maniNamesUptoCard

/-- THE SECOND FORM's CARD OF 'mudlarklaw25.ManiEnds'. -/
def maniEndsUptoCard : Claim7 := { stood := { row := maniEndsUptoRow, standIns := [], harness := (true, "8629a1e11de3c149c1f91b9e98d7d29afd3fa0842669a410b570af219049dc54"), looks := true }, kinds := [], alts := [], laidByText := true, laidKinds := [.data, .data, .data, .sentinel, .sentinel], laidTests := true, laidLooks := .later }
def ManiEndsUptoCardSaid : Prop := Claim7.holds Tryz.pinned (.plain (OpenSpec.upto maniEndsSpec)) maniEndsUptoCard

/-- THE SECOND FORM's CARD OF 'mudlarklaw25.ManiBack'. -/
def maniBackUptoCard : Claim7 := { stood := { row := maniBackUptoRow, standIns := [], harness := (true, "8629a1e11de3c149c1f91b9e98d7d29afd3fa0842669a410b570af219049dc54"), looks := true }, kinds := [], alts := [], laidByText := true, laidKinds := [.data, .data, .data, .sentinel, .sentinel], laidTests := true, laidLooks := .later }
def ManiBackUptoCardSaid : Prop := Claim7.holds Tryz.pinned (.plain (OpenSpec.upto maniBackSpec)) maniBackUptoCard

/-- THE SECOND FORM's CARD OF 'mudlarklaw25.ManiOnce'. -/
def maniOnceUptoCard : Claim7 := { stood := { row := maniOnceUptoRow, standIns := [], harness := (true, "8629a1e11de3c149c1f91b9e98d7d29afd3fa0842669a410b570af219049dc54"), looks := true }, kinds := [], alts := [], laidByText := true, laidKinds := [.data, .data, .data, .sentinel, .sentinel], laidTests := true, laidLooks := .later }
def ManiOnceUptoCardSaid : Prop := Claim7.holds Tryz.pinned (.plain (OpenSpec.upto maniOnceSpec)) maniOnceUptoCard
end Rows
end Go.Proofs.YtppdbinppibjhaaGreatDoor
