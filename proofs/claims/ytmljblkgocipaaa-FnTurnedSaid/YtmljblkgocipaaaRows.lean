/-
  No cell of these rows narrows 'for every input' (looked for: loops, veiled, ifaces, maps, wideKeys, modest, calm, conditions, laid).
  DERIVED. THE GIVEN ROWS OF THIS SEAT. 11 by the template 'for every input the law returns true; each argument reads behind the call as it read before'; 0 by the template 'total and deterministic' (their statements: YtmljblkgocipaaaTotals.lean).
  GIVEN WITH THE SEED: the statements are not yours to turn. If you find one false, say at which input.
  Laid BY PROGRAM, IN A SANDBOX (cutbox-rows.mjs): the forced cells as the released guide's own fill.sh prints them over the translation d56bfd550fd5eaf8… (all of the seat's roots in one cut). By AI agents, Wed Nov 11 2026. No macro, syntax, notation, axiom, sorry.
-/
import Derived.Test.YtmljblkgocipaaaChecked
import GoSem.Claim
import GoSem.ClaimJoined
import GoSem.ClaimMapViews
import Derived.JoinedTies
import Derived.KernelRfl
namespace Go.Proofs.Ytmljblkgocipaaa
/- THE CELL 'sum', in the pinned program and in every row, IS THE sha256 OF THE DUMP (.gsa) THAT YtmljblkgocipaaaProg.lean LOADS. Nothing in Lean hashes anything: it is a label: what it is worth is what the hold of that sum in a sandbox is worth. -/
noncomputable def Try.pinned : Pinned := { name := "ytmljblkgocipaaa", sum := "d56bfd550fd5eaf895cd8229e0fc766f1672f4e31a19f77e6565e4d3a51fac1b", checked := Try.checked }
namespace Rows
def none {H : Type} : Left H := { results := [], args := [] }

/-- 'laws.FnTurned': WHATEVER THE INPUT: true; the input reads as it did. -/
def fnTurnedSpec : ChangeSpec := { name := "fnTurned", fn := fun _ => fun
  | [d] => { results := [.lit (.bool true)], args := [d] }
  | _ => none }
def fnTurnedRow : OpenClaim := { program := "ytmljblkgocipaaa", sum := "d56bfd550fd5eaf895cd8229e0fc766f1672f4e31a19f77e6565e4d3a51fac1b", func := "loop.example/setparts/laws.FnTurned", spec := "fnTurned", recurses := true, apart := false }
def FnTurnedSaid : Prop := fnTurnedRow.holds Try.pinned (OpenSpec.ofChange fnTurnedSpec)

/-- ITS FALSE NEIGHBOUR: 'it returns false'. Refute it at one input. -/
def fnTurnedWrong : ChangeSpec := { name := "fnTurned", fn := fun _ => fun
  | [d] => { results := [.lit (.bool false)], args := [d] }
  | _ => none }
def FnTurnedWrongFalsely : Prop := fnTurnedRow.holds Try.pinned (OpenSpec.ofChange fnTurnedWrong)

/-- 'laws.FnExactPartIn': WHATEVER THE INPUT: true; the input reads as it did. -/
def fnExactPartInSpec : ChangeSpec := { name := "fnExactPartIn", fn := fun _ => fun
  | [d] => { results := [.lit (.bool true)], args := [d] }
  | _ => none }
def fnExactPartInRow : OpenClaim := { program := "ytmljblkgocipaaa", sum := "d56bfd550fd5eaf895cd8229e0fc766f1672f4e31a19f77e6565e4d3a51fac1b", func := "loop.example/setparts/laws.FnExactPartIn", spec := "fnExactPartIn", apart := false }
def FnExactPartInSaid : Prop := fnExactPartInRow.holds Try.pinned (OpenSpec.ofChange fnExactPartInSpec)

/-- ITS FALSE NEIGHBOUR: 'it returns false'. Refute it at one input. -/
def fnExactPartInWrong : ChangeSpec := { name := "fnExactPartIn", fn := fun _ => fun
  | [d] => { results := [.lit (.bool false)], args := [d] }
  | _ => none }
def FnExactPartInWrongFalsely : Prop := fnExactPartInRow.holds Try.pinned (OpenSpec.ofChange fnExactPartInWrong)

/-- 'laws.FnExactPartOf': WHATEVER THE INPUT: true; the input reads as it did. -/
def fnExactPartOfSpec : ChangeSpec := { name := "fnExactPartOf", fn := fun _ => fun
  | [d1, d2] => { results := [.lit (.bool true)], args := [d1, d2] }
  | _ => none }
def fnExactPartOfRow : OpenClaim := { program := "ytmljblkgocipaaa", sum := "d56bfd550fd5eaf895cd8229e0fc766f1672f4e31a19f77e6565e4d3a51fac1b", func := "loop.example/setparts/laws.FnExactPartOf", spec := "fnExactPartOf", apart := false }
def FnExactPartOfSaid : Prop := fnExactPartOfRow.holds Try.pinned (OpenSpec.ofChange fnExactPartOfSpec)

/-- ITS FALSE NEIGHBOUR: 'it returns false'. Refute it at one input. -/
def fnExactPartOfWrong : ChangeSpec := { name := "fnExactPartOf", fn := fun _ => fun
  | [d1, d2] => { results := [.lit (.bool false)], args := [d1, d2] }
  | _ => none }
def FnExactPartOfWrongFalsely : Prop := fnExactPartOfRow.holds Try.pinned (OpenSpec.ofChange fnExactPartOfWrong)

/-- 'laws.FnExactPartSize': WHATEVER THE INPUT: true; the input reads as it did. -/
def fnExactPartSizeSpec : ChangeSpec := { name := "fnExactPartSize", fn := fun _ => fun
  | [d] => { results := [.lit (.bool true)], args := [d] }
  | _ => none }
def fnExactPartSizeRow : OpenClaim := { program := "ytmljblkgocipaaa", sum := "d56bfd550fd5eaf895cd8229e0fc766f1672f4e31a19f77e6565e4d3a51fac1b", func := "loop.example/setparts/laws.FnExactPartSize", spec := "fnExactPartSize", apart := false }
def FnExactPartSizeSaid : Prop := fnExactPartSizeRow.holds Try.pinned (OpenSpec.ofChange fnExactPartSizeSpec)

/-- ITS FALSE NEIGHBOUR: 'it returns false'. Refute it at one input. -/
def fnExactPartSizeWrong : ChangeSpec := { name := "fnExactPartSize", fn := fun _ => fun
  | [d] => { results := [.lit (.bool false)], args := [d] }
  | _ => none }
def FnExactPartSizeWrongFalsely : Prop := fnExactPartSizeRow.holds Try.pinned (OpenSpec.ofChange fnExactPartSizeWrong)

/-- 'laws.FnExactPartKernel': WHATEVER THE INPUT: true; the input reads as it did. -/
def fnExactPartKernelSpec : ChangeSpec := { name := "fnExactPartKernel", fn := fun _ => fun
  | [d] => { results := [.lit (.bool true)], args := [d] }
  | _ => none }
def fnExactPartKernelRow : OpenClaim := { program := "ytmljblkgocipaaa", sum := "d56bfd550fd5eaf895cd8229e0fc766f1672f4e31a19f77e6565e4d3a51fac1b", func := "loop.example/setparts/laws.FnExactPartKernel", spec := "fnExactPartKernel", apart := false }
def FnExactPartKernelSaid : Prop := fnExactPartKernelRow.holds Try.pinned (OpenSpec.ofChange fnExactPartKernelSpec)

/-- ITS FALSE NEIGHBOUR: 'it returns false'. Refute it at one input. -/
def fnExactPartKernelWrong : ChangeSpec := { name := "fnExactPartKernel", fn := fun _ => fun
  | [d] => { results := [.lit (.bool false)], args := [d] }
  | _ => none }
def FnExactPartKernelWrongFalsely : Prop := fnExactPartKernelRow.holds Try.pinned (OpenSpec.ofChange fnExactPartKernelWrong)

/-- 'laws.FnExactPartTurned': WHATEVER THE INPUT: true; the input reads as it did. -/
def fnExactPartTurnedSpec : ChangeSpec := { name := "fnExactPartTurned", fn := fun _ => fun
  | [d] => { results := [.lit (.bool true)], args := [d] }
  | _ => none }
def fnExactPartTurnedRow : OpenClaim := { program := "ytmljblkgocipaaa", sum := "d56bfd550fd5eaf895cd8229e0fc766f1672f4e31a19f77e6565e4d3a51fac1b", func := "loop.example/setparts/laws.FnExactPartTurned", spec := "fnExactPartTurned", apart := false }
def FnExactPartTurnedSaid : Prop := fnExactPartTurnedRow.holds Try.pinned (OpenSpec.ofChange fnExactPartTurnedSpec)

/-- ITS FALSE NEIGHBOUR: 'it returns false'. Refute it at one input. -/
def fnExactPartTurnedWrong : ChangeSpec := { name := "fnExactPartTurned", fn := fun _ => fun
  | [d] => { results := [.lit (.bool false)], args := [d] }
  | _ => none }
def FnExactPartTurnedWrongFalsely : Prop := fnExactPartTurnedRow.holds Try.pinned (OpenSpec.ofChange fnExactPartTurnedWrong)

/-- 'laws.FnExactPartNamed': WHATEVER THE INPUT: true; the input reads as it did. -/
def fnExactPartNamedSpec : ChangeSpec := { name := "fnExactPartNamed", fn := fun _ => fun
  | [d1, d2] => { results := [.lit (.bool true)], args := [d1, d2] }
  | _ => none }
def fnExactPartNamedRow : OpenClaim := { program := "ytmljblkgocipaaa", sum := "d56bfd550fd5eaf895cd8229e0fc766f1672f4e31a19f77e6565e4d3a51fac1b", func := "loop.example/setparts/laws.FnExactPartNamed", spec := "fnExactPartNamed", apart := false }
def FnExactPartNamedSaid : Prop := fnExactPartNamedRow.holds Try.pinned (OpenSpec.ofChange fnExactPartNamedSpec)

/-- ITS FALSE NEIGHBOUR: 'it returns false'. Refute it at one input. -/
def fnExactPartNamedWrong : ChangeSpec := { name := "fnExactPartNamed", fn := fun _ => fun
  | [d1, d2] => { results := [.lit (.bool false)], args := [d1, d2] }
  | _ => none }
def FnExactPartNamedWrongFalsely : Prop := fnExactPartNamedRow.holds Try.pinned (OpenSpec.ofChange fnExactPartNamedWrong)

/-- 'laws.FnExactPartDrop': WHATEVER THE INPUT: true; the input reads as it did. -/
def fnExactPartDropSpec : ChangeSpec := { name := "fnExactPartDrop", fn := fun _ => fun
  | [d1, d2] => { results := [.lit (.bool true)], args := [d1, d2] }
  | _ => none }
def fnExactPartDropRow : OpenClaim := { program := "ytmljblkgocipaaa", sum := "d56bfd550fd5eaf895cd8229e0fc766f1672f4e31a19f77e6565e4d3a51fac1b", func := "loop.example/setparts/laws.FnExactPartDrop", spec := "fnExactPartDrop", apart := false }
def FnExactPartDropSaid : Prop := fnExactPartDropRow.holds Try.pinned (OpenSpec.ofChange fnExactPartDropSpec)

/-- ITS FALSE NEIGHBOUR: 'it returns false'. Refute it at one input. -/
def fnExactPartDropWrong : ChangeSpec := { name := "fnExactPartDrop", fn := fun _ => fun
  | [d1, d2] => { results := [.lit (.bool false)], args := [d1, d2] }
  | _ => none }
def FnExactPartDropWrongFalsely : Prop := fnExactPartDropRow.holds Try.pinned (OpenSpec.ofChange fnExactPartDropWrong)

/-- 'laws.FnExactPartPut': WHATEVER THE INPUT: true; the input reads as it did. -/
def fnExactPartPutSpec : ChangeSpec := { name := "fnExactPartPut", fn := fun _ => fun
  | [d1, d2] => { results := [.lit (.bool true)], args := [d1, d2] }
  | _ => none }
def fnExactPartPutRow : OpenClaim := { program := "ytmljblkgocipaaa", sum := "d56bfd550fd5eaf895cd8229e0fc766f1672f4e31a19f77e6565e4d3a51fac1b", func := "loop.example/setparts/laws.FnExactPartPut", spec := "fnExactPartPut", apart := false }
def FnExactPartPutSaid : Prop := fnExactPartPutRow.holds Try.pinned (OpenSpec.ofChange fnExactPartPutSpec)

/-- ITS FALSE NEIGHBOUR: 'it returns false'. Refute it at one input. -/
def fnExactPartPutWrong : ChangeSpec := { name := "fnExactPartPut", fn := fun _ => fun
  | [d1, d2] => { results := [.lit (.bool false)], args := [d1, d2] }
  | _ => none }
def FnExactPartPutWrongFalsely : Prop := fnExactPartPutRow.holds Try.pinned (OpenSpec.ofChange fnExactPartPutWrong)

/-- 'laws.FnExactPartTogether': WHATEVER THE INPUT: true; the input reads as it did. -/
def fnExactPartTogetherSpec : ChangeSpec := { name := "fnExactPartTogether", fn := fun _ => fun
  | [d1, d2, d3] => { results := [.lit (.bool true)], args := [d1, d2, d3] }
  | _ => none }
def fnExactPartTogetherRow : OpenClaim := { program := "ytmljblkgocipaaa", sum := "d56bfd550fd5eaf895cd8229e0fc766f1672f4e31a19f77e6565e4d3a51fac1b", func := "loop.example/setparts/laws.FnExactPartTogether", spec := "fnExactPartTogether", apart := false }
def FnExactPartTogetherSaid : Prop := fnExactPartTogetherRow.holds Try.pinned (OpenSpec.ofChange fnExactPartTogetherSpec)

/-- ITS FALSE NEIGHBOUR: 'it returns false'. Refute it at one input. -/
def fnExactPartTogetherWrong : ChangeSpec := { name := "fnExactPartTogether", fn := fun _ => fun
  | [d1, d2, d3] => { results := [.lit (.bool false)], args := [d1, d2, d3] }
  | _ => none }
def FnExactPartTogetherWrongFalsely : Prop := fnExactPartTogetherRow.holds Try.pinned (OpenSpec.ofChange fnExactPartTogetherWrong)

/-- 'laws.FnExactPartType': WHATEVER THE INPUT: true; the input reads as it did. -/
def fnExactPartTypeSpec : ChangeSpec := { name := "fnExactPartType", fn := fun _ => fun
  | [d] => { results := [.lit (.bool true)], args := [d] }
  | _ => none }
def fnExactPartTypeRow : OpenClaim := { program := "ytmljblkgocipaaa", sum := "d56bfd550fd5eaf895cd8229e0fc766f1672f4e31a19f77e6565e4d3a51fac1b", func := "loop.example/setparts/laws.FnExactPartType", spec := "fnExactPartType", recurses := true, apart := false }
def FnExactPartTypeSaid : Prop := fnExactPartTypeRow.holds Try.pinned (OpenSpec.ofChange fnExactPartTypeSpec)

/-- ITS FALSE NEIGHBOUR: 'it returns false'. Refute it at one input. -/
def fnExactPartTypeWrong : ChangeSpec := { name := "fnExactPartType", fn := fun _ => fun
  | [d] => { results := [.lit (.bool false)], args := [d] }
  | _ => none }
def FnExactPartTypeWrongFalsely : Prop := fnExactPartTypeRow.holds Try.pinned (OpenSpec.ofChange fnExactPartTypeWrong)

/- THE SECOND FORM. 'bulk': how many values and letters a reading holds, each counted each time it is reached (what is shared counts as often as it is met; a slice's spare places count too). A statement '..UptoSaid' is the law's where the arguments, and the package variables that the reading takes, are together of bulk at most 1048576: NARROWER than '..Said'. Prove '..Said' where nothing that the law and all that it calls make is longer than what came in: it says more and counts as full. Else prove '..UptoSaid'. A law counts once. -/
mutual
def uptoBulk {H : Type} : DataW H → Nat
  | .lit (.string bytes) => bytes.length + 1
  | .lit _ => 1
  | .nil => 1
  | .ptr d => uptoBulk d + 1
  | .slice elems spare => uptoBulkAll elems + uptoBulkAll spare + 1
  | .agg parts => uptoBulkAll parts + 1
  | .iface _ d => uptoBulk d + 1
  | .map entries => uptoBulkEntries entries + 1
  | .held _ => 1
def uptoBulkAll {H : Type} : List (DataW H) → Nat
  | [] => 0
  | d :: r => uptoBulk d + uptoBulkAll r
def uptoBulkEntries {H : Type} : List (Lit × DataW H) → Nat
  | [] => 0
  | x :: r => uptoBulkEntry x + uptoBulkEntries r
def uptoBulkEntry {H : Type} : Lit × DataW H → Nat
  | (.string bytes, d) => bytes.length + uptoBulk d + 1
  | (_, d) => uptoBulk d + 1
 end
def uptoSmall : (H : Type) → List (DataW H) → Bool := fun _ ds => decide (uptoBulkAll ds ≤ 1048576)
def OpenSpec.upto (s : _root_.Go.ChangeSpec) : _root_.Go.OpenSpec := { _root_.Go.OpenSpec.ofChange s with cond := some uptoSmall }

/-- 'laws.FnTurned', WHERE WHAT IT READS IS OF BULK AT MOST 1048576: true; the input reads as it did. -/
def fnTurnedUptoRow : OpenClaim := { program := "ytmljblkgocipaaa", sum := "d56bfd550fd5eaf895cd8229e0fc766f1672f4e31a19f77e6565e4d3a51fac1b", func := "loop.example/setparts/laws.FnTurned", spec := "fnTurned", recurses := true, apart := false, narrowed := true }
def FnTurnedUptoSaid : Prop := fnTurnedUptoRow.holds Try.pinned (OpenSpec.upto fnTurnedSpec)

/-- 'laws.FnExactPartIn', WHERE WHAT IT READS IS OF BULK AT MOST 1048576: true; the input reads as it did. -/
def fnExactPartInUptoRow : OpenClaim := { program := "ytmljblkgocipaaa", sum := "d56bfd550fd5eaf895cd8229e0fc766f1672f4e31a19f77e6565e4d3a51fac1b", func := "loop.example/setparts/laws.FnExactPartIn", spec := "fnExactPartIn", apart := false, narrowed := true }
def FnExactPartInUptoSaid : Prop := fnExactPartInUptoRow.holds Try.pinned (OpenSpec.upto fnExactPartInSpec)

/-- 'laws.FnExactPartOf', WHERE WHAT IT READS IS OF BULK AT MOST 1048576: true; the input reads as it did. -/
def fnExactPartOfUptoRow : OpenClaim := { program := "ytmljblkgocipaaa", sum := "d56bfd550fd5eaf895cd8229e0fc766f1672f4e31a19f77e6565e4d3a51fac1b", func := "loop.example/setparts/laws.FnExactPartOf", spec := "fnExactPartOf", apart := false, narrowed := true }
def FnExactPartOfUptoSaid : Prop := fnExactPartOfUptoRow.holds Try.pinned (OpenSpec.upto fnExactPartOfSpec)

/-- 'laws.FnExactPartSize', WHERE WHAT IT READS IS OF BULK AT MOST 1048576: true; the input reads as it did. -/
def fnExactPartSizeUptoRow : OpenClaim := { program := "ytmljblkgocipaaa", sum := "d56bfd550fd5eaf895cd8229e0fc766f1672f4e31a19f77e6565e4d3a51fac1b", func := "loop.example/setparts/laws.FnExactPartSize", spec := "fnExactPartSize", apart := false, narrowed := true }
def FnExactPartSizeUptoSaid : Prop := fnExactPartSizeUptoRow.holds Try.pinned (OpenSpec.upto fnExactPartSizeSpec)

/-- 'laws.FnExactPartKernel', WHERE WHAT IT READS IS OF BULK AT MOST 1048576: true; the input reads as it did. -/
def fnExactPartKernelUptoRow : OpenClaim := { program := "ytmljblkgocipaaa", sum := "d56bfd550fd5eaf895cd8229e0fc766f1672f4e31a19f77e6565e4d3a51fac1b", func := "loop.example/setparts/laws.FnExactPartKernel", spec := "fnExactPartKernel", apart := false, narrowed := true }
def FnExactPartKernelUptoSaid : Prop := fnExactPartKernelUptoRow.holds Try.pinned (OpenSpec.upto fnExactPartKernelSpec)

/-- 'laws.FnExactPartTurned', WHERE WHAT IT READS IS OF BULK AT MOST 1048576: true; the input reads as it did. -/
def fnExactPartTurnedUptoRow : OpenClaim := { program := "ytmljblkgocipaaa", sum := "d56bfd550fd5eaf895cd8229e0fc766f1672f4e31a19f77e6565e4d3a51fac1b", func := "loop.example/setparts/laws.FnExactPartTurned", spec := "fnExactPartTurned", apart := false, narrowed := true }
def FnExactPartTurnedUptoSaid : Prop := fnExactPartTurnedUptoRow.holds Try.pinned (OpenSpec.upto fnExactPartTurnedSpec)

/-- 'laws.FnExactPartNamed', WHERE WHAT IT READS IS OF BULK AT MOST 1048576: true; the input reads as it did. -/
def fnExactPartNamedUptoRow : OpenClaim := { program := "ytmljblkgocipaaa", sum := "d56bfd550fd5eaf895cd8229e0fc766f1672f4e31a19f77e6565e4d3a51fac1b", func := "loop.example/setparts/laws.FnExactPartNamed", spec := "fnExactPartNamed", apart := false, narrowed := true }
def FnExactPartNamedUptoSaid : Prop := fnExactPartNamedUptoRow.holds Try.pinned (OpenSpec.upto fnExactPartNamedSpec)

/-- 'laws.FnExactPartDrop', WHERE WHAT IT READS IS OF BULK AT MOST 1048576: true; the input reads as it did. -/
def fnExactPartDropUptoRow : OpenClaim := { program := "ytmljblkgocipaaa", sum := "d56bfd550fd5eaf895cd8229e0fc766f1672f4e31a19f77e6565e4d3a51fac1b", func := "loop.example/setparts/laws.FnExactPartDrop", spec := "fnExactPartDrop", apart := false, narrowed := true }
def FnExactPartDropUptoSaid : Prop := fnExactPartDropUptoRow.holds Try.pinned (OpenSpec.upto fnExactPartDropSpec)

/-- 'laws.FnExactPartPut', WHERE WHAT IT READS IS OF BULK AT MOST 1048576: true; the input reads as it did. -/
def fnExactPartPutUptoRow : OpenClaim := { program := "ytmljblkgocipaaa", sum := "d56bfd550fd5eaf895cd8229e0fc766f1672f4e31a19f77e6565e4d3a51fac1b", func := "loop.example/setparts/laws.FnExactPartPut", spec := "fnExactPartPut", apart := false, narrowed := true }
def FnExactPartPutUptoSaid : Prop := fnExactPartPutUptoRow.holds Try.pinned (OpenSpec.upto fnExactPartPutSpec)

/-- 'laws.FnExactPartTogether', WHERE WHAT IT READS IS OF BULK AT MOST 1048576: true; the input reads as it did. -/
def fnExactPartTogetherUptoRow : OpenClaim := { program := "ytmljblkgocipaaa", sum := "d56bfd550fd5eaf895cd8229e0fc766f1672f4e31a19f77e6565e4d3a51fac1b", func := "loop.example/setparts/laws.FnExactPartTogether", spec := "fnExactPartTogether", apart := false, narrowed := true }
def FnExactPartTogetherUptoSaid : Prop := fnExactPartTogetherUptoRow.holds Try.pinned (OpenSpec.upto fnExactPartTogetherSpec)

/-- 'laws.FnExactPartType', WHERE WHAT IT READS IS OF BULK AT MOST 1048576: true; the input reads as it did. -/
def fnExactPartTypeUptoRow : OpenClaim := { program := "ytmljblkgocipaaa", sum := "d56bfd550fd5eaf895cd8229e0fc766f1672f4e31a19f77e6565e4d3a51fac1b", func := "loop.example/setparts/laws.FnExactPartType", spec := "fnExactPartType", recurses := true, apart := false, narrowed := true }
def FnExactPartTypeUptoSaid : Prop := fnExactPartTypeUptoRow.holds Try.pinned (OpenSpec.upto fnExactPartTypeSpec)

end Rows
end Go.Proofs.Ytmljblkgocipaaa
