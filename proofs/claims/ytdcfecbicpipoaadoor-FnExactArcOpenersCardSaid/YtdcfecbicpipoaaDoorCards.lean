/-
  DERIVED. GIVEN WITH THE SEED: THE CARDS: each row of YtdcfecbicpipoaaDoorRows.lean that lists a variable, with what it lists TIED to the program's text (the seventh form; the later family's looks); each row that meets fmt, with fmt's text TOLD by the authors' own Lean function (tested against real Go, not proved from fmt's source: count such statements apart). THE CARD IS WHAT COUNTS. Prove the row's statement (the work); the ties are given (YtdcfecbicpipoaaDoorTie.lean); close each card by the builder's one call (the guide's Derived/Test/ToyasCard.lean, 'card_holds'). Laid BY PROGRAM, IN A SANDBOX (cutbox-door.mjs). By AI agents, Wed Nov 11 2026. No macro, syntax, notation, axiom, sorry.
-/
import Derived.Test.YtdcfecbicpipoaaDoorRows
import GoSem.ClaimSeven
namespace Go.Proofs.YtdcfecbicpipoaaDoor
namespace Rows

/-- THE TIED CARD OF 'laws.FnExactArcOpeners'. -/
def fnExactArcOpenersCard : Claim7 := { stood := { row := fnExactArcOpenersRow, standIns := [], harness := (true, "5aa26c575dc69b0c962e1fc6425183b3007fe8429630511ab68c987cf3bd1e27"), looks := false }, kinds := [], alts := [], laidByText := true, laidKinds := [.data, .data], laidTests := true, laidLooks := .later }
def FnExactArcOpenersCardSaid : Prop := Claim7.holds Tryd.pinned (.plain (OpenSpec.ofChange fnExactArcOpenersSpec)) fnExactArcOpenersCard

/-- THE SECOND FORM's CARD OF 'laws.FnExactArcOpeners'. -/
def fnExactArcOpenersUptoCard : Claim7 := { stood := { row := fnExactArcOpenersUptoRow, standIns := [], harness := (true, "5aa26c575dc69b0c962e1fc6425183b3007fe8429630511ab68c987cf3bd1e27"), looks := false }, kinds := [], alts := [], laidByText := true, laidKinds := [.data, .data], laidTests := true, laidLooks := .later }
def FnExactArcOpenersUptoCardSaid : Prop := Claim7.holds Tryd.pinned (.plain (OpenSpec.upto fnExactArcOpenersSpec)) fnExactArcOpenersUptoCard
end Rows
end Go.Proofs.YtdcfecbicpipoaaDoor
