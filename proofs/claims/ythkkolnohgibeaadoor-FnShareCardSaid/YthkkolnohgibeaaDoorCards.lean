/-
  DERIVED. GIVEN WITH THE SEED: THE CARDS: each row of YthkkolnohgibeaaDoorRows.lean that lists a variable, with what it lists TIED to the program's text (the seventh form; the later family's looks); each row that meets fmt, with fmt's text TOLD by the authors' own Lean function (tested against real Go, not proved from fmt's source: count such statements apart). THE CARD IS WHAT COUNTS. Prove the row's statement (the work); the ties are given (YthkkolnohgibeaaDoorTie.lean); close each card by the builder's one call (the guide's Derived/Test/ToyasCard.lean, 'card_holds'). Laid BY PROGRAM, IN A SANDBOX (cutbox-door.mjs). By AI agents, Wed Nov 11 2026. No macro, syntax, notation, axiom, sorry.
-/
import Derived.Test.YthkkolnohgibeaaDoorRows
import GoSem.ClaimSeven
namespace Go.Proofs.YthkkolnohgibeaaDoor
namespace Rows

/-- THE TIED CARD OF 'laws.FnMoves'. -/
def fnMovesCard : Claim7 := { stood := { row := fnMovesRow, standIns := [], harness := (true, "70c8ecebd2053900e1055a9851a9a0abf09c99b1eecd5691ed46a6232e3d14ba"), looks := false }, kinds := [], alts := [], goes := true, laidByText := true, laidKinds := [.data, .data], laidTests := true, laidLooks := .later }
def FnMovesCardSaid : Prop := Claim7.holds Tryd.pinned (.plain (OpenSpec.ofChange fnMovesSpec)) fnMovesCard

/-- THE TIED CARD OF 'laws.FnShare'. -/
def fnShareCard : Claim7 := { stood := { row := fnShareRow, standIns := [], harness := (true, "70c8ecebd2053900e1055a9851a9a0abf09c99b1eecd5691ed46a6232e3d14ba"), looks := false }, kinds := [], alts := [], goes := true, laidByText := true, laidKinds := [.data, .data], laidTests := true, laidLooks := .later }
def FnShareCardSaid : Prop := Claim7.holds Tryd.pinned (.plain (OpenSpec.ofChange fnShareSpec)) fnShareCard

/-- THE TIED CARD OF 'laws.FnMost'. -/
def fnMostCard : Claim7 := { stood := { row := fnMostRow, standIns := [], harness := (true, "70c8ecebd2053900e1055a9851a9a0abf09c99b1eecd5691ed46a6232e3d14ba"), looks := false }, kinds := [], alts := [], goes := true, laidByText := true, laidKinds := [.data, .data], laidTests := true, laidLooks := .later }
def FnMostCardSaid : Prop := Claim7.holds Tryd.pinned (.plain (OpenSpec.ofChange fnMostSpec)) fnMostCard

/-- THE SECOND FORM's CARD OF 'laws.FnMoves'. -/
def fnMovesUptoCard : Claim7 := { stood := { row := fnMovesUptoRow, standIns := [], harness := (true, "70c8ecebd2053900e1055a9851a9a0abf09c99b1eecd5691ed46a6232e3d14ba"), looks := false }, kinds := [], alts := [], goes := true, laidByText := true, laidKinds := [.data, .data], laidTests := true, laidLooks := .later }
def FnMovesUptoCardSaid : Prop := Claim7.holds Tryd.pinned (.plain (OpenSpec.upto fnMovesSpec)) fnMovesUptoCard

/-- THE SECOND FORM's CARD OF 'laws.FnShare'. -/
def fnShareUptoCard : Claim7 := { stood := { row := fnShareUptoRow, standIns := [], harness := (true, "70c8ecebd2053900e1055a9851a9a0abf09c99b1eecd5691ed46a6232e3d14ba"), looks := false }, kinds := [], alts := [], goes := true, laidByText := true, laidKinds := [.data, .data], laidTests := true, laidLooks := .later }
def FnShareUptoCardSaid : Prop := Claim7.holds Tryd.pinned (.plain (OpenSpec.upto fnShareSpec)) fnShareUptoCard

/-- THE SECOND FORM's CARD OF 'laws.FnMost'. -/
def fnMostUptoCard : Claim7 := { stood := { row := fnMostUptoRow, standIns := [], harness := (true, "70c8ecebd2053900e1055a9851a9a0abf09c99b1eecd5691ed46a6232e3d14ba"), looks := false }, kinds := [], alts := [], goes := true, laidByText := true, laidKinds := [.data, .data], laidTests := true, laidLooks := .later }
def FnMostUptoCardSaid : Prop := Claim7.holds Tryd.pinned (.plain (OpenSpec.upto fnMostSpec)) fnMostUptoCard
end Rows
end Go.Proofs.YthkkolnohgibeaaDoor
