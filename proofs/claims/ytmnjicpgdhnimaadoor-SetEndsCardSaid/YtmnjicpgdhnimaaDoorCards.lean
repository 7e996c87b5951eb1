/-
  DERIVED. GIVEN WITH THE SEED: THE CARDS: each row of YtmnjicpgdhnimaaDoorRows.lean that lists a variable, with what it lists TIED to the program's text (the seventh form; the later family's looks); each row that meets fmt, with fmt's text TOLD by the authors' own Lean function (tested against real Go, not proved from fmt's source: count such statements apart). THE CARD IS WHAT COUNTS. Prove the row's statement (the work); the ties are given (YtmnjicpgdhnimaaDoorTie.lean); close each card by the builder's one call (the guide's Derived/Test/ToyasCard.lean, 'card_holds'). Laid BY PROGRAM, IN A SANDBOX (cutbox-door.mjs). By AI agents, Wed Nov 11 2026. No macro, syntax, notation, axiom, sorry.
-/
import Derived.Test.YtmnjicpgdhnimaaDoorRows
import GoSem.ClaimSeven
namespace Go.Proofs.YtmnjicpgdhnimaaDoor
namespace Rows

/-- THE TIED CARD OF 'mudlarklaw08.SetTells'. -/
def setTellsCard : Claim7 := { stood := { row := setTellsRow, standIns := [], harness := (true, "aa64810391e2a20c79578d10e0144ff19e49d8375718e0c5fbb5f09956049c70"), looks := false }, kinds := [], alts := [], laidByText := true, laidKinds := [.data], laidTests := true, laidLooks := .later }
def SetTellsCardSaid : Prop := Claim7.holds Tryd.pinned (.plain (OpenSpec.ofChange setTellsSpec)) setTellsCard

/-- THE TIED CARD OF 'mudlarklaw08.SetMakes'. -/
def setMakesCard : Claim7 := { stood := { row := setMakesRow, standIns := [], harness := (true, "aa64810391e2a20c79578d10e0144ff19e49d8375718e0c5fbb5f09956049c70"), looks := false }, kinds := [], alts := [], laidByText := true, laidKinds := [.data], laidTests := true, laidLooks := .later }
def SetMakesCardSaid : Prop := Claim7.holds Tryd.pinned (.plain (OpenSpec.ofChange setMakesSpec)) setMakesCard

/-- THE TIED CARD OF 'mudlarklaw08.SetEnds'. -/
def setEndsCard : Claim7 := { stood := { row := setEndsRow, standIns := [], harness := (true, "aa64810391e2a20c79578d10e0144ff19e49d8375718e0c5fbb5f09956049c70"), looks := false }, kinds := [], alts := [], laidByText := true, laidKinds := [.data], laidTests := true, laidLooks := .later }
def SetEndsCardSaid : Prop := Claim7.holds Tryd.pinned (.plain (OpenSpec.ofChange setEndsSpec)) setEndsCard

/-- THE TIED CARD OF 'mudlarklaw08.SetAlgebra'. -/
def setAlgebraCard : Claim7 := { stood := { row := setAlgebraRow, standIns := [], harness := (true, "aa64810391e2a20c79578d10e0144ff19e49d8375718e0c5fbb5f09956049c70"), looks := false }, kinds := [], alts := [], laidByText := true, laidKinds := [.data], laidTests := true, laidLooks := .later }
def SetAlgebraCardSaid : Prop := Claim7.holds Tryd.pinned (.plain (OpenSpec.ofChange setAlgebraSpec)) setAlgebraCard

/-- THE TIED CARD OF 'mudlarklaw08.SetWhole'. -/
def setWholeCard : Claim7 := { stood := { row := setWholeRow, standIns := [], harness := (true, "aa64810391e2a20c79578d10e0144ff19e49d8375718e0c5fbb5f09956049c70"), looks := false }, kinds := [], alts := [], laidByText := true, laidKinds := [.data], laidTests := true, laidLooks := .later }
def SetWholeCardSaid : Prop := Claim7.holds Tryd.pinned (.plain (OpenSpec.ofChange setWholeSpec)) setWholeCard

/-- THE SECOND FORM's CARD OF 'mudlarklaw08.SetTells'. -/
def setTellsUptoCard : Claim7 := { stood := { row := setTellsUptoRow, standIns := [], harness := (true, "aa64810391e2a20c79578d10e0144ff19e49d8375718e0c5fbb5f09956049c70"), looks := false }, kinds := [], alts := [], laidByText := true, laidKinds := [.data], laidTests := true, laidLooks := .later }
def SetTellsUptoCardSaid : Prop := Claim7.holds Tryd.pinned (.plain (OpenSpec.upto setTellsSpec)) setTellsUptoCard

/-- THE SECOND FORM's CARD OF 'mudlarklaw08.SetMakes'. -/
def setMakesUptoCard : Claim7 := { stood := { row := setMakesUptoRow, standIns := [], harness := (true, "aa64810391e2a20c79578d10e0144ff19e49d8375718e0c5fbb5f09956049c70"), looks := false }, kinds := [], alts := [], laidByText := true, laidKinds := [.data], laidTests := true, laidLooks := .later }
def SetMakesUptoCardSaid : Prop := Claim7.holds Tryd.pinned (.plain (OpenSpec.upto setMakesSpec)) setMakesUptoCard

/-- THE SECOND FORM's CARD OF 'mudlarklaw08.SetEnds'. -/
def setEndsUptoCard : Claim7 := { stood := { row := setEndsUptoRow, standIns := [], harness := (true, "aa64810391e2a20c79578d10e0144ff19e49d8375718e0c5fbb5f09956049c70"), looks := false }, kinds := [], alts := [], laidByText := true, laidKinds := [.data], laidTests := true, laidLooks := .later }
def SetEndsUptoCardSaid : Prop := Claim7.holds Tryd.pinned (.plain (OpenSpec.upto setEndsSpec)) setEndsUptoCard

/-- THE SECOND FORM's CARD OF 'mudlarklaw08.SetAlgebra'. -/
def setAlgebraUptoCard : Claim7 := { stood := { row := setAlgebraUptoRow, standIns := [], harness := (true, "aa64810391e2a20c79578d10e0144ff19e49d8375718e0c5fbb5f09956049c70"), looks := false }, kinds := [], alts := [], laidByText := true, laidKinds := [.data], laidTests := true, laidLooks := .later }
def SetAlgebraUptoCardSaid : Prop := Claim7.holds Tryd.pinned (.plain (OpenSpec.upto setAlgebraSpec)) setAlgebraUptoCard

/-- THE SECOND FORM's CARD OF 'mudlarklaw08.SetWhole'. -/
def setWholeUptoCard : Claim7 := { stood := { row := setWholeUptoRow, standIns := [], harness := (true, "aa64810391e2a20c79578d10e0144ff19e49d8375718e0c5fbb5f09956049c70"), looks := false }, kinds := [], alts := [], laidByText := true, laidKinds := [.data], laidTests := true, laidLooks := .later }
def SetWholeUptoCardSaid : Prop := Claim7.holds Tryd.pinned (.plain (OpenSpec.upto setWholeSpec)) setWholeUptoCard
end Rows
end Go.Proofs.YtmnjicpgdhnimaaDoor
