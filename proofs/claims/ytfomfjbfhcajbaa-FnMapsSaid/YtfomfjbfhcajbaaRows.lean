/-
  No cell of these rows narrows 'for every input' (looked for: loops, veiled, ifaces, maps, wideKeys, modest, calm, conditions, laid).
  DERIVED. THE GIVEN ROWS OF THIS SEAT. 9 by the template 'for every input the law returns true; each argument reads behind the call as it read before'; 0 by the template 'total and deterministic' (their statements: YtfomfjbfhcajbaaTotals.lean).
  GIVEN WITH THE SEED: the statements are not yours to turn. If you find one false, say at which input.
  Laid BY PROGRAM, IN A SANDBOX (cutbox-rows.mjs): the forced cells as the released guide's own fill.sh prints them over the translation 361cd082b9c125db… (all of the seat's roots in one cut). By AI agents, Wed Nov 11 2026. No macro, syntax, notation, axiom, sorry.
-/
import Derived.Test.YtfomfjbfhcajbaaChecked
import GoSem.Claim
import GoSem.ClaimJoined
import GoSem.ClaimMapViews
import Derived.JoinedTies
import Derived.KernelRfl
namespace Go.Proofs.Ytfomfjbfhcajbaa
/- THE CELL 'sum', in the pinned program and in every row, IS THE sha256 OF THE DUMP (.gsa) THAT YtfomfjbfhcajbaaProg.lean LOADS. Nothing in Lean hashes anything: it is a label: what it is worth is what the hold of that sum in a sandbox is worth. -/
noncomputable def Try.pinned : Pinned := { name := "ytfomfjbfhcajbaa", sum := "361cd082b9c125db5533a4d02ebd79927ad6f47c73fc4b7bfb12aed70152614e", checked := Try.checked }
namespace Rows
def none {H : Type} : Left H := { results := [], args := [] }

/-- 'laws.FnNumberBlocks': WHATEVER THE INPUT: true; the input reads as it did. -/
def fnNumberBlocksSpec : ChangeSpec := { name := "fnNumberBlocks", fn := fun _ => fun
  | [d] => { results := [.lit (.bool true)], args := [d] }
  | _ => none }
def fnNumberBlocksRow : OpenClaim := { program := "ytfomfjbfhcajbaa", sum := "361cd082b9c125db5533a4d02ebd79927ad6f47c73fc4b7bfb12aed70152614e", func := "loop.example/setparts/laws.FnNumberBlocks", spec := "fnNumberBlocks", unfollowed := true, recurses := true, plainKeys := false, apart := false }
def FnNumberBlocksSaid : Prop := fnNumberBlocksRow.holds Try.pinned (OpenSpec.ofChange fnNumberBlocksSpec)

/-- ITS FALSE NEIGHBOUR: 'it returns false'. Refute it at one input. -/
def fnNumberBlocksWrong : ChangeSpec := { name := "fnNumberBlocks", fn := fun _ => fun
  | [d] => { results := [.lit (.bool false)], args := [d] }
  | _ => none }
def FnNumberBlocksWrongFalsely : Prop := fnNumberBlocksRow.holds Try.pinned (OpenSpec.ofChange fnNumberBlocksWrong)

/-- 'laws.FnNumberAll': WHATEVER THE INPUT: true; the input reads as it did. -/
def fnNumberAllSpec : ChangeSpec := { name := "fnNumberAll", fn := fun _ => fun
  | [d] => { results := [.lit (.bool true)], args := [d] }
  | _ => none }
def fnNumberAllRow : OpenClaim := { program := "ytfomfjbfhcajbaa", sum := "361cd082b9c125db5533a4d02ebd79927ad6f47c73fc4b7bfb12aed70152614e", func := "loop.example/setparts/laws.FnNumberAll", spec := "fnNumberAll", unfollowed := true, recurses := true, plainKeys := false, apart := false }
def FnNumberAllSaid : Prop := fnNumberAllRow.holds Try.pinned (OpenSpec.ofChange fnNumberAllSpec)

/-- ITS FALSE NEIGHBOUR: 'it returns false'. Refute it at one input. -/
def fnNumberAllWrong : ChangeSpec := { name := "fnNumberAll", fn := fun _ => fun
  | [d] => { results := [.lit (.bool false)], args := [d] }
  | _ => none }
def FnNumberAllWrongFalsely : Prop := fnNumberAllRow.holds Try.pinned (OpenSpec.ofChange fnNumberAllWrong)

/-- 'laws.FnNumberType': WHATEVER THE INPUT: true; the input reads as it did. -/
def fnNumberTypeSpec : ChangeSpec := { name := "fnNumberType", fn := fun _ => fun
  | [d] => { results := [.lit (.bool true)], args := [d] }
  | _ => none }
def fnNumberTypeRow : OpenClaim := { program := "ytfomfjbfhcajbaa", sum := "361cd082b9c125db5533a4d02ebd79927ad6f47c73fc4b7bfb12aed70152614e", func := "loop.example/setparts/laws.FnNumberType", spec := "fnNumberType", unfollowed := true, recurses := true, plainKeys := false, apart := false }
def FnNumberTypeSaid : Prop := fnNumberTypeRow.holds Try.pinned (OpenSpec.ofChange fnNumberTypeSpec)

/-- ITS FALSE NEIGHBOUR: 'it returns false'. Refute it at one input. -/
def fnNumberTypeWrong : ChangeSpec := { name := "fnNumberType", fn := fun _ => fun
  | [d] => { results := [.lit (.bool false)], args := [d] }
  | _ => none }
def FnNumberTypeWrongFalsely : Prop := fnNumberTypeRow.holds Try.pinned (OpenSpec.ofChange fnNumberTypeWrong)

/-- 'laws.FnRings': WHATEVER THE INPUT: true; the input reads as it did. -/
def fnRingsSpec : ChangeSpec := { name := "fnRings", fn := fun _ => fun
  | [d] => { results := [.lit (.bool true)], args := [d] }
  | _ => none }
def fnRingsRow : OpenClaim := { program := "ytfomfjbfhcajbaa", sum := "361cd082b9c125db5533a4d02ebd79927ad6f47c73fc4b7bfb12aed70152614e", func := "loop.example/setparts/laws.FnRings", spec := "fnRings", unfollowed := true, recurses := true, plainKeys := false, apart := false }
def FnRingsSaid : Prop := fnRingsRow.holds Try.pinned (OpenSpec.ofChange fnRingsSpec)

/-- ITS FALSE NEIGHBOUR: 'it returns false'. Refute it at one input. -/
def fnRingsWrong : ChangeSpec := { name := "fnRings", fn := fun _ => fun
  | [d] => { results := [.lit (.bool false)], args := [d] }
  | _ => none }
def FnRingsWrongFalsely : Prop := fnRingsRow.holds Try.pinned (OpenSpec.ofChange fnRingsWrong)

/-- 'laws.FnInverse': WHATEVER THE INPUT: true; the input reads as it did. -/
def fnInverseSpec : ChangeSpec := { name := "fnInverse", fn := fun _ => fun
  | [d] => { results := [.lit (.bool true)], args := [d] }
  | _ => none }
def fnInverseRow : OpenClaim := { program := "ytfomfjbfhcajbaa", sum := "361cd082b9c125db5533a4d02ebd79927ad6f47c73fc4b7bfb12aed70152614e", func := "loop.example/setparts/laws.FnInverse", spec := "fnInverse", unfollowed := true, recurses := true, plainKeys := false, apart := false }
def FnInverseSaid : Prop := fnInverseRow.holds Try.pinned (OpenSpec.ofChange fnInverseSpec)

/-- ITS FALSE NEIGHBOUR: 'it returns false'. Refute it at one input. -/
def fnInverseWrong : ChangeSpec := { name := "fnInverse", fn := fun _ => fun
  | [d] => { results := [.lit (.bool false)], args := [d] }
  | _ => none }
def FnInverseWrongFalsely : Prop := fnInverseRow.holds Try.pinned (OpenSpec.ofChange fnInverseWrong)

/-- 'laws.FnRows': WHATEVER THE INPUT: true; the input reads as it did. -/
def fnRowsSpec : ChangeSpec := { name := "fnRows", fn := fun _ => fun
  | [d] => { results := [.lit (.bool true)], args := [d] }
  | _ => none }
def fnRowsRow : OpenClaim := { program := "ytfomfjbfhcajbaa", sum := "361cd082b9c125db5533a4d02ebd79927ad6f47c73fc4b7bfb12aed70152614e", func := "loop.example/setparts/laws.FnRows", spec := "fnRows", unfollowed := true, recurses := true, plainKeys := false, apart := false }
def FnRowsSaid : Prop := fnRowsRow.holds Try.pinned (OpenSpec.ofChange fnRowsSpec)

/-- ITS FALSE NEIGHBOUR: 'it returns false'. Refute it at one input. -/
def fnRowsWrong : ChangeSpec := { name := "fnRows", fn := fun _ => fun
  | [d] => { results := [.lit (.bool false)], args := [d] }
  | _ => none }
def FnRowsWrongFalsely : Prop := fnRowsRow.holds Try.pinned (OpenSpec.ofChange fnRowsWrong)

/-- 'laws.FnGreat': WHATEVER THE INPUT: true; the input reads as it did. -/
def fnGreatSpec : ChangeSpec := { name := "fnGreat", fn := fun _ => fun
  | [d] => { results := [.lit (.bool true)], args := [d] }
  | _ => none }
def fnGreatRow : OpenClaim := { program := "ytfomfjbfhcajbaa", sum := "361cd082b9c125db5533a4d02ebd79927ad6f47c73fc4b7bfb12aed70152614e", func := "loop.example/setparts/laws.FnGreat", spec := "fnGreat", unfollowed := true, recurses := true, plainKeys := false, apart := false }
def FnGreatSaid : Prop := fnGreatRow.holds Try.pinned (OpenSpec.ofChange fnGreatSpec)

/-- ITS FALSE NEIGHBOUR: 'it returns false'. Refute it at one input. -/
def fnGreatWrong : ChangeSpec := { name := "fnGreat", fn := fun _ => fun
  | [d] => { results := [.lit (.bool false)], args := [d] }
  | _ => none }
def FnGreatWrongFalsely : Prop := fnGreatRow.holds Try.pinned (OpenSpec.ofChange fnGreatWrong)

/-- 'laws.FnMaps': WHATEVER THE INPUT: true; the input reads as it did. -/
def fnMapsSpec : ChangeSpec := { name := "fnMaps", fn := fun _ => fun
  | [d] => { results := [.lit (.bool true)], args := [d] }
  | _ => none }
def fnMapsRow : OpenClaim := { program := "ytfomfjbfhcajbaa", sum := "361cd082b9c125db5533a4d02ebd79927ad6f47c73fc4b7bfb12aed70152614e", func := "loop.example/setparts/laws.FnMaps", spec := "fnMaps", unfollowed := true, recurses := true, plainKeys := false, apart := false }
def FnMapsSaid : Prop := fnMapsRow.holds Try.pinned (OpenSpec.ofChange fnMapsSpec)

/-- ITS FALSE NEIGHBOUR: 'it returns false'. Refute it at one input. -/
def fnMapsWrong : ChangeSpec := { name := "fnMaps", fn := fun _ => fun
  | [d] => { results := [.lit (.bool false)], args := [d] }
  | _ => none }
def FnMapsWrongFalsely : Prop := fnMapsRow.holds Try.pinned (OpenSpec.ofChange fnMapsWrong)

/-- 'laws.FnPower': WHATEVER THE INPUT: true; the input reads as it did. -/
def fnPowerSpec : ChangeSpec := { name := "fnPower", fn := fun _ => fun
  | [d] => { results := [.lit (.bool true)], args := [d] }
  | _ => none }
def fnPowerRow : OpenClaim := { program := "ytfomfjbfhcajbaa", sum := "361cd082b9c125db5533a4d02ebd79927ad6f47c73fc4b7bfb12aed70152614e", func := "loop.example/setparts/laws.FnPower", spec := "fnPower", unfollowed := true, recurses := true, plainKeys := false, apart := false }
def FnPowerSaid : Prop := fnPowerRow.holds Try.pinned (OpenSpec.ofChange fnPowerSpec)

/-- ITS FALSE NEIGHBOUR: 'it returns false'. Refute it at one input. -/
def fnPowerWrong : ChangeSpec := { name := "fnPower", fn := fun _ => fun
  | [d] => { results := [.lit (.bool false)], args := [d] }
  | _ => none }
def FnPowerWrongFalsely : Prop := fnPowerRow.holds Try.pinned (OpenSpec.ofChange fnPowerWrong)

/- THE SECOND FORM. 'bulk': how many values and letters a reading holds, each counted each time it is reached (what is shared counts as often as it is met; a slice's spare places count too). A statement '..UptoSaid' is the law's where the arguments, and the package variables that the reading takes, are together of bulk at most 1048576: NARROWER than '..Said'. Prove '..Said' where nothing that the law and all that it calls make is longer than what came in: it says more and counts as full. Else prove '..UptoSaid'. A law counts once. -/
mutual
def uptoBulk {H : Type} : DataW H → Nat
  | .lit (.string bytes) => bytes.length + 1
  | .lit _ => 1
  | .nil => 1
  | .ptr d => uptoBulk d + 1
  | .slice elems spare => uptoBulkAll elems + uptoBulkAll spare + 1
  | .agg parts => uptoBulkAll parts + 1
  | .iface _ d => uptoBulk d + 1
  | .map entries => uptoBulkEntries entries + 1
  | .held _ => 1
def uptoBulkAll {H : Type} : List (DataW H) → Nat
  | [] => 0
  | d :: r => uptoBulk d + uptoBulkAll r
def uptoBulkEntries {H : Type} : List (Lit × DataW H) → Nat
  | [] => 0
  | x :: r => uptoBulkEntry x + uptoBulkEntries r
def uptoBulkEntry {H : Type} : Lit × DataW H → Nat
  | (.string bytes, d) => bytes.length + uptoBulk d + 1
  | (_, d) => uptoBulk d + 1
 end
def uptoSmall : (H : Type) → List (DataW H) → Bool := fun _ ds => decide (uptoBulkAll ds ≤ 1048576)
def OpenSpec.upto (s : _root_.Go.ChangeSpec) : _root_.Go.OpenSpec := { _root_.Go.OpenSpec.ofChange s with cond := some uptoSmall }

/-- 'laws.FnNumberBlocks', WHERE WHAT IT READS IS OF BULK AT MOST 1048576: true; the input reads as it did. -/
def fnNumberBlocksUptoRow : OpenClaim := { program := "ytfomfjbfhcajbaa", sum := "361cd082b9c125db5533a4d02ebd79927ad6f47c73fc4b7bfb12aed70152614e", func := "loop.example/setparts/laws.FnNumberBlocks", spec := "fnNumberBlocks", unfollowed := true, recurses := true, plainKeys := false, apart := false, narrowed := true }
def FnNumberBlocksUptoSaid : Prop := fnNumberBlocksUptoRow.holds Try.pinned (OpenSpec.upto fnNumberBlocksSpec)

/-- 'laws.FnNumberAll', WHERE WHAT IT READS IS OF BULK AT MOST 1048576: true; the input reads as it did. -/
def fnNumberAllUptoRow : OpenClaim := { program := "ytfomfjbfhcajbaa", sum := "361cd082b9c125db5533a4d02ebd79927ad6f47c73fc4b7bfb12aed70152614e", func := "loop.example/setparts/laws.FnNumberAll", spec := "fnNumberAll", unfollowed := true, recurses := true, plainKeys := false, apart := false, narrowed := true }
def FnNumberAllUptoSaid : Prop := fnNumberAllUptoRow.holds Try.pinned (OpenSpec.upto fnNumberAllSpec)

/-- 'laws.FnNumberType', WHERE WHAT IT READS IS OF BULK AT MOST 1048576: true; the input reads as it did. -/
def fnNumberTypeUptoRow : OpenClaim := { program := "ytfomfjbfhcajbaa", sum := "361cd082b9c125db5533a4d02ebd79927ad6f47c73fc4b7bfb12aed70152614e", func := "loop.example/setparts/laws.FnNumberType", spec := "fnNumberType", unfollowed := true, recurses := true, plainKeys := false, apart := false, narrowed := true }
def FnNumberTypeUptoSaid : Prop := fnNumberTypeUptoRow.holds Try.pinned (OpenSpec.upto fnNumberTypeSpec)

/-- 'laws.FnRings', WHERE WHAT IT READS IS OF BULK AT MOST 1048576: true; the input reads as it did. -/
def fnRingsUptoRow : OpenClaim := { program := "ytfomfjbfhcajbaa", sum := "361cd082b9c125db5533a4d02ebd79927ad6f47c73fc4b7bfb12aed70152614e", func := "loop.example/setparts/laws.FnRings", spec := "fnRings", unfollowed := true, recurses := true, plainKeys := false, apart := false, narrowed := true }
def FnRingsUptoSaid : Prop := fnRingsUptoRow.holds Try.pinned (OpenSpec.upto fnRingsSpec)

/-- 'laws.FnInverse', WHERE WHAT IT READS IS OF BULK AT MOST 1048576: true; the input reads as it did. -/
def fnInverseUptoRow : OpenClaim := { program := "ytfomfjbfhcajbaa", sum := "361cd082b9c125db5533a4d02ebd79927ad6f47c73fc4b7bfb12aed70152614e", func := "loop.example/setparts/laws.FnInverse", spec := "fnInverse", unfollowed := true, recurses := true, plainKeys := false, apart := false, narrowed := true }
def FnInverseUptoSaid : Prop := fnInverseUptoRow.holds Try.pinned (OpenSpec.upto fnInverseSpec)

/-- 'laws.FnRows', WHERE WHAT IT READS IS OF BULK AT MOST 1048576: true; the input reads as it did. -/
def fnRowsUptoRow : OpenClaim := { program := "ytfomfjbfhcajbaa", sum := "361cd082b9c125db5533a4d02ebd79927ad6f47c73fc4b7bfb12aed70152614e", func := "loop.example/setparts/laws.FnRows", spec := "fnRows", unfollowed := true, recurses := true, plainKeys := false, apart := false, narrowed := true }
def FnRowsUptoSaid : Prop := fnRowsUptoRow.holds Try.pinned (OpenSpec.upto fnRowsSpec)

/-- 'laws.FnGreat', WHERE WHAT IT READS IS OF BULK AT MOST 1048576: true; the input reads as it did. -/
def fnGreatUptoRow : OpenClaim := { program := "ytfomfjbfhcajbaa", sum := "361cd082b9c125db5533a4d02ebd79927ad6f47c73fc4b7bfb12aed70152614e", func := "loop.example/setparts/laws.FnGreat", spec := "fnGreat", unfollowed := true, recurses := true, plainKeys := false, apart := false, narrowed := true }
def FnGreatUptoSaid : Prop := fnGreatUptoRow.holds Try.pinned (OpenSpec.upto fnGreatSpec)

/-- 'laws.FnMaps', WHERE WHAT IT READS IS OF BULK AT MOST 1048576: true; the input reads as it did. -/
def fnMapsUptoRow : OpenClaim := { program := "ytfomfjbfhcajbaa", sum := "361cd082b9c125db5533a4d02ebd79927ad6f47c73fc4b7bfb12aed70152614e", func := "loop.example/setparts/laws.FnMaps", spec := "fnMaps", unfollowed := true, recurses := true, plainKeys := false, apart := false, narrowed := true }
def FnMapsUptoSaid : Prop := fnMapsUptoRow.holds Try.pinned (OpenSpec.upto fnMapsSpec)

/-- 'laws.FnPower', WHERE WHAT IT READS IS OF BULK AT MOST 1048576: true; the input reads as it did. -/
def fnPowerUptoRow : OpenClaim := { program := "ytfomfjbfhcajbaa", sum := "361cd082b9c125db5533a4d02ebd79927ad6f47c73fc4b7bfb12aed70152614e", func := "loop.example/setparts/laws.FnPower", spec := "fnPower", unfollowed := true, recurses := true, plainKeys := false, apart := false, narrowed := true }
def FnPowerUptoSaid : Prop := fnPowerUptoRow.holds Try.pinned (OpenSpec.upto fnPowerSpec)

end Rows
end Go.Proofs.Ytfomfjbfhcajbaa
