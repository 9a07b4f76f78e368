/-
  DERIVED. GIVEN WITH THE SEED: THE CARDS: each row of YtfomfjbfhcajbaaDoorRows.lean that lists a variable, with what it lists TIED to the program's text (the seventh form; the later family's looks); each row that meets fmt, with fmt's text TOLD by the authors' own Lean function (tested against real Go, not proved from fmt's source: count such statements apart). THE CARD IS WHAT COUNTS. Prove the row's statement (the work); the ties are given (YtfomfjbfhcajbaaDoorTie.lean); close each card by the builder's one call (the guide's Derived/Test/ToyasCard.lean, 'card_holds'). Laid BY PROGRAM, IN A SANDBOX (cutbox-door.mjs). By AI agents, Wed Nov 11 2026. No macro, syntax, notation, axiom, sorry.
-/
import Derived.Test.YtfomfjbfhcajbaaDoorRows
import GoSem.ClaimSeven
namespace Go.Proofs.YtfomfjbfhcajbaaDoor
namespace Rows

/-- THE TIED CARD OF 'laws.FnPart'. -/
def fnPartCard : Claim7 := { stood := { row := fnPartRow, standIns := [], harness := (true, "d4b9150a0f3a8bdf48eb9191c8bead743ef6d79ec79e60767efce3b14d7c3582"), looks := false }, kinds := [], alts := [], laidByText := true, laidKinds := [.data, .data], laidTests := true, laidLooks := .later }
def FnPartCardSaid : Prop := Claim7.holds Tryd.pinned (.plain (OpenSpec.ofChange fnPartSpec)) fnPartCard

/-- THE TIED CARD OF 'laws.FnBlocks'. -/
def fnBlocksCard : Claim7 := { stood := { row := fnBlocksRow, standIns := [], harness := (true, "d4b9150a0f3a8bdf48eb9191c8bead743ef6d79ec79e60767efce3b14d7c3582"), looks := false }, kinds := [], alts := [], laidByText := true, laidKinds := [.data, .data], laidTests := true, laidLooks := .later }
def FnBlocksCardSaid : Prop := Claim7.holds Tryd.pinned (.plain (OpenSpec.ofChange fnBlocksSpec)) fnBlocksCard

/-- THE SECOND FORM's CARD OF 'laws.FnPart'. -/
def fnPartUptoCard : Claim7 := { stood := { row := fnPartUptoRow, standIns := [], harness := (true, "d4b9150a0f3a8bdf48eb9191c8bead743ef6d79ec79e60767efce3b14d7c3582"), looks := false }, kinds := [], alts := [], laidByText := true, laidKinds := [.data, .data], laidTests := true, laidLooks := .later }
def FnPartUptoCardSaid : Prop := Claim7.holds Tryd.pinned (.plain (OpenSpec.upto fnPartSpec)) fnPartUptoCard

/-- THE SECOND FORM's CARD OF 'laws.FnBlocks'. -/
def fnBlocksUptoCard : Claim7 := { stood := { row := fnBlocksUptoRow, standIns := [], harness := (true, "d4b9150a0f3a8bdf48eb9191c8bead743ef6d79ec79e60767efce3b14d7c3582"), looks := false }, kinds := [], alts := [], laidByText := true, laidKinds := [.data, .data], laidTests := true, laidLooks := .later }
def FnBlocksUptoCardSaid : Prop := Claim7.holds Tryd.pinned (.plain (OpenSpec.upto fnBlocksSpec)) fnBlocksUptoCard
end Rows
end Go.Proofs.YtfomfjbfhcajbaaDoor
