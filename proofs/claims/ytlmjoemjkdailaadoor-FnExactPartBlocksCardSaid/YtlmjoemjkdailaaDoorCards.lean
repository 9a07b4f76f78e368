/-
  DERIVED. GIVEN WITH THE SEED: THE CARDS: each row of YtlmjoemjkdailaaDoorRows.lean that lists a variable, with what it lists TIED to the program's text (the seventh form; the later family's looks); each row that meets fmt, with fmt's text TOLD by the authors' own Lean function (tested against real Go, not proved from fmt's source: count such statements apart). THE CARD IS WHAT COUNTS. Prove the row's statement (the work); the ties are given (YtlmjoemjkdailaaDoorTie.lean); close each card by the builder's one call (the guide's Derived/Test/ToyasCard.lean, 'card_holds'). Laid BY PROGRAM, IN A SANDBOX (cutbox-door.mjs). By AI agents, Wed Nov 11 2026. No macro, syntax, notation, axiom, sorry.
-/
import Derived.Test.YtlmjoemjkdailaaDoorRows
import GoSem.ClaimSeven
namespace Go.Proofs.YtlmjoemjkdailaaDoor
namespace Rows

/-- THE TIED CARD OF 'laws.FnExactPartBlocks'. -/
def fnExactPartBlocksCard : Claim7 := { stood := { row := fnExactPartBlocksRow, standIns := [], harness := (true, "3b0f4d3cf5353f5e560b77ea73a33690a378daa2b1e7c605ca54d8964facb6b5"), looks := false }, kinds := [], alts := [], laidByText := true, laidKinds := [.data, .data], laidTests := true, laidLooks := .later }
def FnExactPartBlocksCardSaid : Prop := Claim7.holds Tryd.pinned (.plain (OpenSpec.ofChange fnExactPartBlocksSpec)) fnExactPartBlocksCard

/-- THE SECOND FORM's CARD OF 'laws.FnExactPartBlocks'. -/
def fnExactPartBlocksUptoCard : Claim7 := { stood := { row := fnExactPartBlocksUptoRow, standIns := [], harness := (true, "3b0f4d3cf5353f5e560b77ea73a33690a378daa2b1e7c605ca54d8964facb6b5"), looks := false }, kinds := [], alts := [], laidByText := true, laidKinds := [.data, .data], laidTests := true, laidLooks := .later }
def FnExactPartBlocksUptoCardSaid : Prop := Claim7.holds Tryd.pinned (.plain (OpenSpec.upto fnExactPartBlocksSpec)) fnExactPartBlocksUptoCard
end Rows
end Go.Proofs.YtlmjoemjkdailaaDoor
