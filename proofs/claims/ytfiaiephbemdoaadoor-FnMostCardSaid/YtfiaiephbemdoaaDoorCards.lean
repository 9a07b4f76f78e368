/-
  DERIVED. GIVEN WITH THE SEED: THE CARDS: each row of YtfiaiephbemdoaaDoorRows.lean that lists a variable, with what it lists TIED to the program's text (the seventh form; the later family's looks); each row that meets fmt, with fmt's text TOLD by the authors' own Lean function (tested against real Go, not proved from fmt's source: count such statements apart). THE CARD IS WHAT COUNTS. Prove the row's statement (the work); the ties are given (YtfiaiephbemdoaaDoorTie.lean); close each card by the builder's one call (the guide's Derived/Test/ToyasCard.lean, 'card_holds'). Laid BY PROGRAM, IN A SANDBOX (cutbox-door.mjs). By AI agents, Wed Nov 11 2026. No macro, syntax, notation, axiom, sorry.
-/
import Derived.Test.YtfiaiephbemdoaaDoorRows
import GoSem.ClaimSeven
namespace Go.Proofs.YtfiaiephbemdoaaDoor
namespace Rows

/-- THE TIED CARD OF 'laws.FnMost'. -/
def fnMostCard : Claim7 := { stood := { row := fnMostRow, standIns := [], harness := (true, "61ed45fe36678bf61cb41a1a59e06d5a726364c5882888036761ad23f67620a9"), looks := false }, kinds := [], alts := [], goes := true, laidByText := true, laidKinds := [.data, .data], laidTests := true, laidLooks := .later }
def FnMostCardSaid : Prop := Claim7.holds Tryd.pinned (.plain (OpenSpec.ofChange fnMostSpec)) fnMostCard

/-- THE TIED CARD OF 'laws.FnExactViewMost'. -/
def fnExactViewMostCard : Claim7 := { stood := { row := fnExactViewMostRow, standIns := [], harness := (true, "61ed45fe36678bf61cb41a1a59e06d5a726364c5882888036761ad23f67620a9"), looks := false }, kinds := [], alts := [], goes := true, laidByText := true, laidKinds := [.data, .data], laidTests := true, laidLooks := .later }
def FnExactViewMostCardSaid : Prop := Claim7.holds Tryd.pinned (.plain (OpenSpec.ofChange fnExactViewMostSpec)) fnExactViewMostCard

/-- THE SECOND FORM's CARD OF 'laws.FnMost'. -/
def fnMostUptoCard : Claim7 := { stood := { row := fnMostUptoRow, standIns := [], harness := (true, "61ed45fe36678bf61cb41a1a59e06d5a726364c5882888036761ad23f67620a9"), looks := false }, kinds := [], alts := [], goes := true, laidByText := true, laidKinds := [.data, .data], laidTests := true, laidLooks := .later }
def FnMostUptoCardSaid : Prop := Claim7.holds Tryd.pinned (.plain (OpenSpec.upto fnMostSpec)) fnMostUptoCard

/-- THE SECOND FORM's CARD OF 'laws.FnExactViewMost'. -/
def fnExactViewMostUptoCard : Claim7 := { stood := { row := fnExactViewMostUptoRow, standIns := [], harness := (true, "61ed45fe36678bf61cb41a1a59e06d5a726364c5882888036761ad23f67620a9"), looks := false }, kinds := [], alts := [], goes := true, laidByText := true, laidKinds := [.data, .data], laidTests := true, laidLooks := .later }
def FnExactViewMostUptoCardSaid : Prop := Claim7.holds Tryd.pinned (.plain (OpenSpec.upto fnExactViewMostSpec)) fnExactViewMostUptoCard
end Rows
end Go.Proofs.YtfiaiephbemdoaaDoor
