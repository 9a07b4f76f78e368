/-
  DERIVED. GIVEN WITH THE SEED: THE CARDS: each row of YtodfaiajlholdaaDoorRows.lean that lists a variable, with what it lists TIED to the program's text (the seventh form; the later family's looks); each row that meets fmt, with fmt's text TOLD by the authors' own Lean function (tested against real Go, not proved from fmt's source: count such statements apart). THE CARD IS WHAT COUNTS. Prove the row's statement (the work); the ties are given (YtodfaiajlholdaaDoorTie.lean); close each card by the builder's one call (the guide's Derived/Test/ToyasCard.lean, 'card_holds'). Laid BY PROGRAM, IN A SANDBOX (cutbox-door.mjs). By AI agents, Wed Nov 11 2026. No macro, syntax, notation, axiom, sorry.
-/
import Derived.Test.YtodfaiajlholdaaDoorRows
import GoSem.ClaimSeven
namespace Go.Proofs.YtodfaiajlholdaaDoor
namespace Rows

/-- THE TIED CARD OF 'laws.FnExactViewMoves'. -/
def fnExactViewMovesCard : Claim7 := { stood := { row := fnExactViewMovesRow, standIns := [], harness := (true, "8177657e3f18612a0de92a520a31566d4d4a42706bdb5775c4723c4e7b227661"), looks := false }, kinds := [], alts := [], goes := true, laidByText := true, laidKinds := [.data, .data], laidTests := true, laidLooks := .later }
def FnExactViewMovesCardSaid : Prop := Claim7.holds Tryd.pinned (.plain (OpenSpec.ofChange fnExactViewMovesSpec)) fnExactViewMovesCard

/-- THE TIED CARD OF 'laws.FnExactViewMost'. -/
def fnExactViewMostCard : Claim7 := { stood := { row := fnExactViewMostRow, standIns := [], harness := (true, "8177657e3f18612a0de92a520a31566d4d4a42706bdb5775c4723c4e7b227661"), looks := false }, kinds := [], alts := [], goes := true, laidByText := true, laidKinds := [.data, .data], laidTests := true, laidLooks := .later }
def FnExactViewMostCardSaid : Prop := Claim7.holds Tryd.pinned (.plain (OpenSpec.ofChange fnExactViewMostSpec)) fnExactViewMostCard

/-- THE SECOND FORM's CARD OF 'laws.FnExactViewMoves'. -/
def fnExactViewMovesUptoCard : Claim7 := { stood := { row := fnExactViewMovesUptoRow, standIns := [], harness := (true, "8177657e3f18612a0de92a520a31566d4d4a42706bdb5775c4723c4e7b227661"), looks := false }, kinds := [], alts := [], goes := true, laidByText := true, laidKinds := [.data, .data], laidTests := true, laidLooks := .later }
def FnExactViewMovesUptoCardSaid : Prop := Claim7.holds Tryd.pinned (.plain (OpenSpec.upto fnExactViewMovesSpec)) fnExactViewMovesUptoCard

/-- THE SECOND FORM's CARD OF 'laws.FnExactViewMost'. -/
def fnExactViewMostUptoCard : Claim7 := { stood := { row := fnExactViewMostUptoRow, standIns := [], harness := (true, "8177657e3f18612a0de92a520a31566d4d4a42706bdb5775c4723c4e7b227661"), looks := false }, kinds := [], alts := [], goes := true, laidByText := true, laidKinds := [.data, .data], laidTests := true, laidLooks := .later }
def FnExactViewMostUptoCardSaid : Prop := Claim7.holds Tryd.pinned (.plain (OpenSpec.upto fnExactViewMostSpec)) fnExactViewMostUptoCard
end Rows
end Go.Proofs.YtodfaiajlholdaaDoor
