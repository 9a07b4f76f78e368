/-
  DERIVED. GIVEN WITH THE SEED: THE CARDS: each row of YtdeeeiimlcggpaaDoorRows.lean that lists a variable, with what it lists TIED to the program's text (the seventh form; the later family's looks); each row that meets fmt, with fmt's text TOLD by the authors' own Lean function (tested against real Go, not proved from fmt's source: count such statements apart). THE CARD IS WHAT COUNTS. Prove the row's statement (the work); the ties are given (YtdeeeiimlcggpaaDoorTie.lean); close each card by the builder's one call (the guide's Derived/Test/ToyasCard.lean, 'card_holds'). Laid BY PROGRAM, IN A SANDBOX (cutbox-door.mjs). By AI agents, Wed Nov 11 2026. No macro, syntax, notation, axiom, sorry.
-/
import Derived.Test.YtdeeeiimlcggpaaDoorRows
import GoSem.ClaimSeven
namespace Go.Proofs.YtdeeeiimlcggpaaDoor
namespace Rows

/-- THE TIED CARD OF 'laws.FnRing'. -/
def fnRingCard : Claim7 := { stood := { row := fnRingRow, standIns := [], harness := (true, "4ffb0cf18efd32f9a2ccce17c4113764645905ce3f0f8571166e52734fe32ac6"), looks := true }, kinds := [], alts := [], laidByText := true, laidKinds := [.handle], laidTests := true, laidLooks := .later }
def FnRingCardSaid : Prop := Claim7.holds Tryd.pinned (.plain (OpenSpec.ofChange fnRingSpec)) fnRingCard

/-- THE TIED CARD OF 'laws.FnRingPart'. -/
def fnRingPartCard : Claim7 := { stood := { row := fnRingPartRow, standIns := [], harness := (true, "4ffb0cf18efd32f9a2ccce17c4113764645905ce3f0f8571166e52734fe32ac6"), looks := true }, kinds := [], alts := [], laidByText := true, laidKinds := [.handle], laidTests := true, laidLooks := .later }
def FnRingPartCardSaid : Prop := Claim7.holds Tryd.pinned (.plain (OpenSpec.ofChange fnRingPartSpec)) fnRingPartCard

/-- THE TIED CARD OF 'laws.FnRingOf'. -/
def fnRingOfCard : Claim7 := { stood := { row := fnRingOfRow, standIns := [], harness := (true, "4ffb0cf18efd32f9a2ccce17c4113764645905ce3f0f8571166e52734fe32ac6"), looks := true }, kinds := [], alts := [], laidByText := true, laidKinds := [.data, .data, .handle], laidTests := true, laidLooks := .later }
def FnRingOfCardSaid : Prop := Claim7.holds Tryd.pinned (.plain (OpenSpec.ofChange fnRingOfSpec)) fnRingOfCard

/-- THE TIED CARD OF 'laws.FnRingPlain'. -/
def fnRingPlainCard : Claim7 := { stood := { row := fnRingPlainRow, standIns := [], harness := (true, "4ffb0cf18efd32f9a2ccce17c4113764645905ce3f0f8571166e52734fe32ac6"), looks := true }, kinds := [], alts := [], laidByText := true, laidKinds := [.data, .data, .handle], laidTests := true, laidLooks := .later }
def FnRingPlainCardSaid : Prop := Claim7.holds Tryd.pinned (.plain (OpenSpec.ofChange fnRingPlainSpec)) fnRingPlainCard

/-- THE TIED CARD OF 'laws.FnRingTimes'. -/
def fnRingTimesCard : Claim7 := { stood := { row := fnRingTimesRow, standIns := [], harness := (true, "4ffb0cf18efd32f9a2ccce17c4113764645905ce3f0f8571166e52734fe32ac6"), looks := true }, kinds := [], alts := [], laidByText := true, laidKinds := [.handle], laidTests := true, laidLooks := .later }
def FnRingTimesCardSaid : Prop := Claim7.holds Tryd.pinned (.plain (OpenSpec.ofChange fnRingTimesSpec)) fnRingTimesCard

/-- THE TIED CARD OF 'laws.FnRingBack'. -/
def fnRingBackCard : Claim7 := { stood := { row := fnRingBackRow, standIns := [], harness := (true, "4ffb0cf18efd32f9a2ccce17c4113764645905ce3f0f8571166e52734fe32ac6"), looks := true }, kinds := [], alts := [], laidByText := true, laidKinds := [.handle], laidTests := true, laidLooks := .later }
def FnRingBackCardSaid : Prop := Claim7.holds Tryd.pinned (.plain (OpenSpec.ofChange fnRingBackSpec)) fnRingBackCard

/-- THE TIED CARD OF 'laws.FnEven'. -/
def fnEvenCard : Claim7 := { stood := { row := fnEvenRow, standIns := [], harness := (true, "4ffb0cf18efd32f9a2ccce17c4113764645905ce3f0f8571166e52734fe32ac6"), looks := true }, kinds := [], alts := [], laidByText := true, laidKinds := [.handle], laidTests := true, laidLooks := .later }
def FnEvenCardSaid : Prop := Claim7.holds Tryd.pinned (.plain (OpenSpec.ofChange fnEvenSpec)) fnEvenCard

/-- THE TIED CARD OF 'laws.FnSwap'. -/
def fnSwapCard : Claim7 := { stood := { row := fnSwapRow, standIns := [], harness := (true, "4ffb0cf18efd32f9a2ccce17c4113764645905ce3f0f8571166e52734fe32ac6"), looks := true }, kinds := [], alts := [], laidByText := true, laidKinds := [.handle], laidTests := true, laidLooks := .later }
def FnSwapCardSaid : Prop := Claim7.holds Tryd.pinned (.plain (OpenSpec.ofChange fnSwapSpec)) fnSwapCard

/-- THE SECOND FORM's CARD OF 'laws.FnRing'. -/
def fnRingUptoCard : Claim7 := { stood := { row := fnRingUptoRow, standIns := [], harness := (true, "4ffb0cf18efd32f9a2ccce17c4113764645905ce3f0f8571166e52734fe32ac6"), looks := true }, kinds := [], alts := [], laidByText := true, laidKinds := [.handle], laidTests := true, laidLooks := .later }
def FnRingUptoCardSaid : Prop := Claim7.holds Tryd.pinned (.plain (OpenSpec.upto fnRingSpec)) fnRingUptoCard

/-- THE SECOND FORM's CARD OF 'laws.FnRingPart'. -/
def fnRingPartUptoCard : Claim7 := { stood := { row := fnRingPartUptoRow, standIns := [], harness := (true, "4ffb0cf18efd32f9a2ccce17c4113764645905ce3f0f8571166e52734fe32ac6"), looks := true }, kinds := [], alts := [], laidByText := true, laidKinds := [.handle], laidTests := true, laidLooks := .later }
def FnRingPartUptoCardSaid : Prop := Claim7.holds Tryd.pinned (.plain (OpenSpec.upto fnRingPartSpec)) fnRingPartUptoCard

/-- THE SECOND FORM's CARD OF 'laws.FnRingOf'. -/
def fnRingOfUptoCard : Claim7 := { stood := { row := fnRingOfUptoRow, standIns := [], harness := (true, "4ffb0cf18efd32f9a2ccce17c4113764645905ce3f0f8571166e52734fe32ac6"), looks := true }, kinds := [], alts := [], laidByText := true, laidKinds := [.data, .data, .handle], laidTests := true, laidLooks := .later }
def FnRingOfUptoCardSaid : Prop := Claim7.holds Tryd.pinned (.plain (OpenSpec.upto fnRingOfSpec)) fnRingOfUptoCard

/-- THE SECOND FORM's CARD OF 'laws.FnRingPlain'. -/
def fnRingPlainUptoCard : Claim7 := { stood := { row := fnRingPlainUptoRow, standIns := [], harness := (true, "4ffb0cf18efd32f9a2ccce17c4113764645905ce3f0f8571166e52734fe32ac6"), looks := true }, kinds := [], alts := [], laidByText := true, laidKinds := [.data, .data, .handle], laidTests := true, laidLooks := .later }
def FnRingPlainUptoCardSaid : Prop := Claim7.holds Tryd.pinned (.plain (OpenSpec.upto fnRingPlainSpec)) fnRingPlainUptoCard

/-- THE SECOND FORM's CARD OF 'laws.FnRingTimes'. -/
def fnRingTimesUptoCard : Claim7 := { stood := { row := fnRingTimesUptoRow, standIns := [], harness := (true, "4ffb0cf18efd32f9a2ccce17c4113764645905ce3f0f8571166e52734fe32ac6"), looks := true }, kinds := [], alts := [], laidByText := true, laidKinds := [.handle], laidTests := true, laidLooks := .later }
def FnRingTimesUptoCardSaid : Prop := Claim7.holds Tryd.pinned (.plain (OpenSpec.upto fnRingTimesSpec)) fnRingTimesUptoCard

/-- THE SECOND FORM's CARD OF 'laws.FnRingBack'. -/
def fnRingBackUptoCard : Claim7 := { stood := { row := fnRingBackUptoRow, standIns := [], harness := (true, "4ffb0cf18efd32f9a2ccce17c4113764645905ce3f0f8571166e52734fe32ac6"), looks := true }, kinds := [], alts := [], laidByText := true, laidKinds := [.handle], laidTests := true, laidLooks := .later }
def FnRingBackUptoCardSaid : Prop := Claim7.holds Tryd.pinned (.plain (OpenSpec.upto fnRingBackSpec)) fnRingBackUptoCard

/-- THE SECOND FORM's CARD OF 'laws.FnEven'. -/
def fnEvenUptoCard : Claim7 := { stood := { row := fnEvenUptoRow, standIns := [], harness := (true, "4ffb0cf18efd32f9a2ccce17c4113764645905ce3f0f8571166e52734fe32ac6"), looks := true }, kinds := [], alts := [], laidByText := true, laidKinds := [.handle], laidTests := true, laidLooks := .later }
def FnEvenUptoCardSaid : Prop := Claim7.holds Tryd.pinned (.plain (OpenSpec.upto fnEvenSpec)) fnEvenUptoCard

/-- THE SECOND FORM's CARD OF 'laws.FnSwap'. -/
def fnSwapUptoCard : Claim7 := { stood := { row := fnSwapUptoRow, standIns := [], harness := (true, "4ffb0cf18efd32f9a2ccce17c4113764645905ce3f0f8571166e52734fe32ac6"), looks := true }, kinds := [], alts := [], laidByText := true, laidKinds := [.handle], laidTests := true, laidLooks := .later }
def FnSwapUptoCardSaid : Prop := Claim7.holds Tryd.pinned (.plain (OpenSpec.upto fnSwapSpec)) fnSwapUptoCard
end Rows
end Go.Proofs.YtdeeeiimlcggpaaDoor
