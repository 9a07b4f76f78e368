/-
  DERIVED. GIVEN WITH THE SEED: THE CARDS: each row of YtafcbgffpnhmgaaDoorRows.lean that lists a variable, with what it lists TIED to the program's text (the seventh form; the later family's looks); each row that meets fmt, with fmt's text TOLD by the authors' own Lean function (tested against real Go, not proved from fmt's source: count such statements apart). THE CARD IS WHAT COUNTS. Prove the row's statement (the work); the ties are given (YtafcbgffpnhmgaaDoorTie.lean); close each card by the builder's one call (the guide's Derived/Test/ToyasCard.lean, 'card_holds'). Laid BY PROGRAM, IN A SANDBOX (cutbox-door.mjs). By AI agents, Wed Nov 11 2026. No macro, syntax, notation, axiom, sorry.
-/
import Derived.Test.YtafcbgffpnhmgaaDoorRows
import GoSem.ClaimSeven
namespace Go.Proofs.YtafcbgffpnhmgaaDoor
namespace Rows

/-- THE TIED CARD OF 'laws.FnExactRingIn'. -/
def fnExactRingInCard : Claim7 := { stood := { row := fnExactRingInRow, standIns := [], harness := (true, "f541a28c487994347c1b3c05df0863c274112d068236d7b20c001e7527fee897"), looks := true }, kinds := [], alts := [], laidByText := true, laidKinds := [.handle], laidTests := true, laidLooks := .later }
def FnExactRingInCardSaid : Prop := Claim7.holds Tryd.pinned (.plain (OpenSpec.ofChange fnExactRingInSpec)) fnExactRingInCard

/-- THE TIED CARD OF 'laws.FnExactRingPart'. -/
def fnExactRingPartCard : Claim7 := { stood := { row := fnExactRingPartRow, standIns := [], harness := (true, "f541a28c487994347c1b3c05df0863c274112d068236d7b20c001e7527fee897"), looks := true }, kinds := [], alts := [], laidByText := true, laidKinds := [.handle], laidTests := true, laidLooks := .later }
def FnExactRingPartCardSaid : Prop := Claim7.holds Tryd.pinned (.plain (OpenSpec.ofChange fnExactRingPartSpec)) fnExactRingPartCard

/-- THE TIED CARD OF 'laws.FnExactRingOf'. -/
def fnExactRingOfCard : Claim7 := { stood := { row := fnExactRingOfRow, standIns := [], harness := (true, "f541a28c487994347c1b3c05df0863c274112d068236d7b20c001e7527fee897"), looks := true }, kinds := [], alts := [], laidByText := true, laidKinds := [.data, .data], laidTests := true, laidLooks := .later }
def FnExactRingOfCardSaid : Prop := Claim7.holds Tryd.pinned (.plain (OpenSpec.ofChange fnExactRingOfSpec)) fnExactRingOfCard

/-- THE TIED CARD OF 'laws.FnExactRingTimes'. -/
def fnExactRingTimesCard : Claim7 := { stood := { row := fnExactRingTimesRow, standIns := [], harness := (true, "f541a28c487994347c1b3c05df0863c274112d068236d7b20c001e7527fee897"), looks := true }, kinds := [], alts := [], laidByText := true, laidKinds := [.handle], laidTests := true, laidLooks := .later }
def FnExactRingTimesCardSaid : Prop := Claim7.holds Tryd.pinned (.plain (OpenSpec.ofChange fnExactRingTimesSpec)) fnExactRingTimesCard

/-- THE TIED CARD OF 'laws.FnExactRingBack'. -/
def fnExactRingBackCard : Claim7 := { stood := { row := fnExactRingBackRow, standIns := [], harness := (true, "f541a28c487994347c1b3c05df0863c274112d068236d7b20c001e7527fee897"), looks := true }, kinds := [], alts := [], laidByText := true, laidKinds := [.handle], laidTests := true, laidLooks := .later }
def FnExactRingBackCardSaid : Prop := Claim7.holds Tryd.pinned (.plain (OpenSpec.ofChange fnExactRingBackSpec)) fnExactRingBackCard

/-- THE TIED CARD OF 'laws.FnExactRingEven'. -/
def fnExactRingEvenCard : Claim7 := { stood := { row := fnExactRingEvenRow, standIns := [], harness := (true, "f541a28c487994347c1b3c05df0863c274112d068236d7b20c001e7527fee897"), looks := true }, kinds := [], alts := [], laidByText := true, laidKinds := [.handle], laidTests := true, laidLooks := .later }
def FnExactRingEvenCardSaid : Prop := Claim7.holds Tryd.pinned (.plain (OpenSpec.ofChange fnExactRingEvenSpec)) fnExactRingEvenCard

/-- THE TIED CARD OF 'laws.FnExactRingSwap'. -/
def fnExactRingSwapCard : Claim7 := { stood := { row := fnExactRingSwapRow, standIns := [], harness := (true, "f541a28c487994347c1b3c05df0863c274112d068236d7b20c001e7527fee897"), looks := true }, kinds := [], alts := [], laidByText := true, laidKinds := [.handle], laidTests := true, laidLooks := .later }
def FnExactRingSwapCardSaid : Prop := Claim7.holds Tryd.pinned (.plain (OpenSpec.ofChange fnExactRingSwapSpec)) fnExactRingSwapCard

/-- THE SECOND FORM's CARD OF 'laws.FnExactRingIn'. -/
def fnExactRingInUptoCard : Claim7 := { stood := { row := fnExactRingInUptoRow, standIns := [], harness := (true, "f541a28c487994347c1b3c05df0863c274112d068236d7b20c001e7527fee897"), looks := true }, kinds := [], alts := [], laidByText := true, laidKinds := [.handle], laidTests := true, laidLooks := .later }
def FnExactRingInUptoCardSaid : Prop := Claim7.holds Tryd.pinned (.plain (OpenSpec.upto fnExactRingInSpec)) fnExactRingInUptoCard

/-- THE SECOND FORM's CARD OF 'laws.FnExactRingPart'. -/
def fnExactRingPartUptoCard : Claim7 := { stood := { row := fnExactRingPartUptoRow, standIns := [], harness := (true, "f541a28c487994347c1b3c05df0863c274112d068236d7b20c001e7527fee897"), looks := true }, kinds := [], alts := [], laidByText := true, laidKinds := [.handle], laidTests := true, laidLooks := .later }
def FnExactRingPartUptoCardSaid : Prop := Claim7.holds Tryd.pinned (.plain (OpenSpec.upto fnExactRingPartSpec)) fnExactRingPartUptoCard

/-- THE SECOND FORM's CARD OF 'laws.FnExactRingOf'. -/
def fnExactRingOfUptoCard : Claim7 := { stood := { row := fnExactRingOfUptoRow, standIns := [], harness := (true, "f541a28c487994347c1b3c05df0863c274112d068236d7b20c001e7527fee897"), looks := true }, kinds := [], alts := [], laidByText := true, laidKinds := [.data, .data], laidTests := true, laidLooks := .later }
def FnExactRingOfUptoCardSaid : Prop := Claim7.holds Tryd.pinned (.plain (OpenSpec.upto fnExactRingOfSpec)) fnExactRingOfUptoCard

/-- THE SECOND FORM's CARD OF 'laws.FnExactRingTimes'. -/
def fnExactRingTimesUptoCard : Claim7 := { stood := { row := fnExactRingTimesUptoRow, standIns := [], harness := (true, "f541a28c487994347c1b3c05df0863c274112d068236d7b20c001e7527fee897"), looks := true }, kinds := [], alts := [], laidByText := true, laidKinds := [.handle], laidTests := true, laidLooks := .later }
def FnExactRingTimesUptoCardSaid : Prop := Claim7.holds Tryd.pinned (.plain (OpenSpec.upto fnExactRingTimesSpec)) fnExactRingTimesUptoCard

/-- THE SECOND FORM's CARD OF 'laws.FnExactRingBack'. -/
def fnExactRingBackUptoCard : Claim7 := { stood := { row := fnExactRingBackUptoRow, standIns := [], harness := (true, "f541a28c487994347c1b3c05df0863c274112d068236d7b20c001e7527fee897"), looks := true }, kinds := [], alts := [], laidByText := true, laidKinds := [.handle], laidTests := true, laidLooks := .later }
def FnExactRingBackUptoCardSaid : Prop := Claim7.holds Tryd.pinned (.plain (OpenSpec.upto fnExactRingBackSpec)) fnExactRingBackUptoCard

/-- THE SECOND FORM's CARD OF 'laws.FnExactRingEven'. -/
def fnExactRingEvenUptoCard : Claim7 := { stood := { row := fnExactRingEvenUptoRow, standIns := [], harness := (true, "f541a28c487994347c1b3c05df0863c274112d068236d7b20c001e7527fee897"), looks := true }, kinds := [], alts := [], laidByText := true, laidKinds := [.handle], laidTests := true, laidLooks := .later }
def FnExactRingEvenUptoCardSaid : Prop := Claim7.holds Tryd.pinned (.plain (OpenSpec.upto fnExactRingEvenSpec)) fnExactRingEvenUptoCard

/-- THE SECOND FORM's CARD OF 'laws.FnExactRingSwap'. -/
def fnExactRingSwapUptoCard : Claim7 := { stood := { row := fnExactRingSwapUptoRow, standIns := [], harness := (true, "f541a28c487994347c1b3c05df0863c274112d068236d7b20c001e7527fee897"), looks := true }, kinds := [], alts := [], laidByText := true, laidKinds := [.handle], laidTests := true, laidLooks := .later }
def FnExactRingSwapUptoCardSaid : Prop := Claim7.holds Tryd.pinned (.plain (OpenSpec.upto fnExactRingSwapSpec)) fnExactRingSwapUptoCard
end Rows
end Go.Proofs.YtafcbgffpnhmgaaDoor
