/-
  No cell of these rows narrows 'for every input' (looked for: loops, veiled, ifaces, maps, wideKeys, modest, calm, conditions, laid).
  DERIVED. THE GIVEN ROWS OF THIS SEAT. 7 by the template 'for every input the law returns true; each argument reads behind the call as it read before'; 0 by the template 'total and deterministic' (their statements: YtdcfecbicpipoaaTotals.lean).
  GIVEN WITH THE SEED: the statements are not yours to turn. If you find one false, say at which input.
  Laid BY PROGRAM, IN A SANDBOX (cutbox-rows.mjs): the forced cells as the released guide's own fill.sh prints them over the translation 9fe7b3532c11b22d… (all of the seat's roots in one cut). By AI agents, Wed Nov 11 2026. No macro, syntax, notation, axiom, sorry.
-/
import Derived.Test.YtdcfecbicpipoaaChecked
import GoSem.Claim
import GoSem.ClaimJoined
import GoSem.ClaimMapViews
import Derived.JoinedTies
import Derived.KernelRfl
namespace Go.Proofs.Ytdcfecbicpipoaa
/- THE CELL 'sum', in the pinned program and in every row, IS THE sha256 OF THE DUMP (.gsa) THAT YtdcfecbicpipoaaProg.lean LOADS. Nothing in Lean hashes anything: it is a label: what it is worth is what the hold of that sum in a sandbox is worth. -/
noncomputable def Try.pinned : Pinned := { name := "ytdcfecbicpipoaa", sum := "9fe7b3532c11b22dc2177f801ec2ed6ad956e77662e5705fd3cd9bfb40403bcf", checked := Try.checked }
namespace Rows
def none {H : Type} : Left H := { results := [], args := [] }

/-- 'laws.FnExactArcList': WHATEVER THE INPUT: true; the input reads as it did. -/
def fnExactArcListSpec : ChangeSpec := { name := "fnExactArcList", fn := fun _ => fun
  | [d] => { results := [.lit (.bool true)], args := [d] }
  | _ => none }
def fnExactArcListRow : OpenClaim := { program := "ytdcfecbicpipoaa", sum := "9fe7b3532c11b22dc2177f801ec2ed6ad956e77662e5705fd3cd9bfb40403bcf", func := "loop.example/setparts/laws.FnExactArcList", spec := "fnExactArcList", apart := false }
def FnExactArcListSaid : Prop := fnExactArcListRow.holds Try.pinned (OpenSpec.ofChange fnExactArcListSpec)

/-- ITS FALSE NEIGHBOUR: 'it returns false'. Refute it at one input. -/
def fnExactArcListWrong : ChangeSpec := { name := "fnExactArcList", fn := fun _ => fun
  | [d] => { results := [.lit (.bool false)], args := [d] }
  | _ => none }
def FnExactArcListWrongFalsely : Prop := fnExactArcListRow.holds Try.pinned (OpenSpec.ofChange fnExactArcListWrong)

/-- 'laws.FnExactArcCross': WHATEVER THE INPUT: true; the input reads as it did. -/
def fnExactArcCrossSpec : ChangeSpec := { name := "fnExactArcCross", fn := fun _ => fun
  | [d] => { results := [.lit (.bool true)], args := [d] }
  | _ => none }
def fnExactArcCrossRow : OpenClaim := { program := "ytdcfecbicpipoaa", sum := "9fe7b3532c11b22dc2177f801ec2ed6ad956e77662e5705fd3cd9bfb40403bcf", func := "loop.example/setparts/laws.FnExactArcCross", spec := "fnExactArcCross", unfollowed := true, recurses := true, apart := false }
def FnExactArcCrossSaid : Prop := fnExactArcCrossRow.holds Try.pinned (OpenSpec.ofChange fnExactArcCrossSpec)

/-- ITS FALSE NEIGHBOUR: 'it returns false'. Refute it at one input. -/
def fnExactArcCrossWrong : ChangeSpec := { name := "fnExactArcCross", fn := fun _ => fun
  | [d] => { results := [.lit (.bool false)], args := [d] }
  | _ => none }
def FnExactArcCrossWrongFalsely : Prop := fnExactArcCrossRow.holds Try.pinned (OpenSpec.ofChange fnExactArcCrossWrong)

/-- 'laws.FnExactArcNest': WHATEVER THE INPUT: true; the input reads as it did. -/
def fnExactArcNestSpec : ChangeSpec := { name := "fnExactArcNest", fn := fun _ => fun
  | [d] => { results := [.lit (.bool true)], args := [d] }
  | _ => none }
def fnExactArcNestRow : OpenClaim := { program := "ytdcfecbicpipoaa", sum := "9fe7b3532c11b22dc2177f801ec2ed6ad956e77662e5705fd3cd9bfb40403bcf", func := "loop.example/setparts/laws.FnExactArcNest", spec := "fnExactArcNest", unfollowed := true, recurses := true, apart := false }
def FnExactArcNestSaid : Prop := fnExactArcNestRow.holds Try.pinned (OpenSpec.ofChange fnExactArcNestSpec)

/-- ITS FALSE NEIGHBOUR: 'it returns false'. Refute it at one input. -/
def fnExactArcNestWrong : ChangeSpec := { name := "fnExactArcNest", fn := fun _ => fun
  | [d] => { results := [.lit (.bool false)], args := [d] }
  | _ => none }
def FnExactArcNestWrongFalsely : Prop := fnExactArcNestRow.holds Try.pinned (OpenSpec.ofChange fnExactArcNestWrong)

/-- 'laws.FnExactArcPart': WHATEVER THE INPUT: true; the input reads as it did. -/
def fnExactArcPartSpec : ChangeSpec := { name := "fnExactArcPart", fn := fun _ => fun
  | [d1, d2] => { results := [.lit (.bool true)], args := [d1, d2] }
  | _ => none }
def fnExactArcPartRow : OpenClaim := { program := "ytdcfecbicpipoaa", sum := "9fe7b3532c11b22dc2177f801ec2ed6ad956e77662e5705fd3cd9bfb40403bcf", func := "loop.example/setparts/laws.FnExactArcPart", spec := "fnExactArcPart", apart := false }
def FnExactArcPartSaid : Prop := fnExactArcPartRow.holds Try.pinned (OpenSpec.ofChange fnExactArcPartSpec)

/-- ITS FALSE NEIGHBOUR: 'it returns false'. Refute it at one input. -/
def fnExactArcPartWrong : ChangeSpec := { name := "fnExactArcPart", fn := fun _ => fun
  | [d1, d2] => { results := [.lit (.bool false)], args := [d1, d2] }
  | _ => none }
def FnExactArcPartWrongFalsely : Prop := fnExactArcPartRow.holds Try.pinned (OpenSpec.ofChange fnExactArcPartWrong)

/-- 'laws.FnExactArcPlain': WHATEVER THE INPUT: true; the input reads as it did. -/
def fnExactArcPlainSpec : ChangeSpec := { name := "fnExactArcPlain", fn := fun _ => fun
  | [d] => { results := [.lit (.bool true)], args := [d] }
  | _ => none }
def fnExactArcPlainRow : OpenClaim := { program := "ytdcfecbicpipoaa", sum := "9fe7b3532c11b22dc2177f801ec2ed6ad956e77662e5705fd3cd9bfb40403bcf", func := "loop.example/setparts/laws.FnExactArcPlain", spec := "fnExactArcPlain", unfollowed := true, recurses := true, apart := false }
def FnExactArcPlainSaid : Prop := fnExactArcPlainRow.holds Try.pinned (OpenSpec.ofChange fnExactArcPlainSpec)

/-- ITS FALSE NEIGHBOUR: 'it returns false'. Refute it at one input. -/
def fnExactArcPlainWrong : ChangeSpec := { name := "fnExactArcPlain", fn := fun _ => fun
  | [d] => { results := [.lit (.bool false)], args := [d] }
  | _ => none }
def FnExactArcPlainWrongFalsely : Prop := fnExactArcPlainRow.holds Try.pinned (OpenSpec.ofChange fnExactArcPlainWrong)

/-- 'laws.FnExactArcCount': WHATEVER THE INPUT: true; the input reads as it did. -/
def fnExactArcCountSpec : ChangeSpec := { name := "fnExactArcCount", fn := fun _ => fun
  | [d1, d2, d3] => { results := [.lit (.bool true)], args := [d1, d2, d3] }
  | _ => none }
def fnExactArcCountRow : OpenClaim := { program := "ytdcfecbicpipoaa", sum := "9fe7b3532c11b22dc2177f801ec2ed6ad956e77662e5705fd3cd9bfb40403bcf", func := "loop.example/setparts/laws.FnExactArcCount", spec := "fnExactArcCount", unfollowed := true, recurses := true, apart := false }
def FnExactArcCountSaid : Prop := fnExactArcCountRow.holds Try.pinned (OpenSpec.ofChange fnExactArcCountSpec)

/-- ITS FALSE NEIGHBOUR: 'it returns false'. Refute it at one input. -/
def fnExactArcCountWrong : ChangeSpec := { name := "fnExactArcCount", fn := fun _ => fun
  | [d1, d2, d3] => { results := [.lit (.bool false)], args := [d1, d2, d3] }
  | _ => none }
def FnExactArcCountWrongFalsely : Prop := fnExactArcCountRow.holds Try.pinned (OpenSpec.ofChange fnExactArcCountWrong)

/-- 'laws.FnExactArcLong': WHATEVER THE INPUT: true; the input reads as it did. -/
def fnExactArcLongSpec : ChangeSpec := { name := "fnExactArcLong", fn := fun _ => fun
  | [d] => { results := [.lit (.bool true)], args := [d] }
  | _ => none }
def fnExactArcLongRow : OpenClaim := { program := "ytdcfecbicpipoaa", sum := "9fe7b3532c11b22dc2177f801ec2ed6ad956e77662e5705fd3cd9bfb40403bcf", func := "loop.example/setparts/laws.FnExactArcLong", spec := "fnExactArcLong", apart := false }
def FnExactArcLongSaid : Prop := fnExactArcLongRow.holds Try.pinned (OpenSpec.ofChange fnExactArcLongSpec)

/-- ITS FALSE NEIGHBOUR: 'it returns false'. Refute it at one input. -/
def fnExactArcLongWrong : ChangeSpec := { name := "fnExactArcLong", fn := fun _ => fun
  | [d] => { results := [.lit (.bool false)], args := [d] }
  | _ => none }
def FnExactArcLongWrongFalsely : Prop := fnExactArcLongRow.holds Try.pinned (OpenSpec.ofChange fnExactArcLongWrong)

/- THE SECOND FORM. 'bulk': how many values and letters a reading holds, each counted each time it is reached (what is shared counts as often as it is met; a slice's spare places count too). A statement '..UptoSaid' is the law's where the arguments, and the package variables that the reading takes, are together of bulk at most 1048576: NARROWER than '..Said'. Prove '..Said' where nothing that the law and all that it calls make is longer than what came in: it says more and counts as full. Else prove '..UptoSaid'. A law counts once. -/
mutual
def uptoBulk {H : Type} : DataW H → Nat
  | .lit (.string bytes) => bytes.length + 1
  | .lit _ => 1
  | .nil => 1
  | .ptr d => uptoBulk d + 1
  | .slice elems spare => uptoBulkAll elems + uptoBulkAll spare + 1
  | .agg parts => uptoBulkAll parts + 1
  | .iface _ d => uptoBulk d + 1
  | .map entries => uptoBulkEntries entries + 1
  | .held _ => 1
def uptoBulkAll {H : Type} : List (DataW H) → Nat
  | [] => 0
  | d :: r => uptoBulk d + uptoBulkAll r
def uptoBulkEntries {H : Type} : List (Lit × DataW H) → Nat
  | [] => 0
  | x :: r => uptoBulkEntry x + uptoBulkEntries r
def uptoBulkEntry {H : Type} : Lit × DataW H → Nat
  | (.string bytes, d) => bytes.length + uptoBulk d + 1
  | (_, d) => uptoBulk d + 1
 end
def uptoSmall : (H : Type) → List (DataW H) → Bool := fun _ ds => decide (uptoBulkAll ds ≤ 1048576)
def OpenSpec.upto (s : _root_.Go.ChangeSpec) : _root_.Go.OpenSpec := { _root_.Go.OpenSpec.ofChange s with cond := some uptoSmall }

/-- 'laws.FnExactArcList', WHERE WHAT IT READS IS OF BULK AT MOST 1048576: true; the input reads as it did. -/
def fnExactArcListUptoRow : OpenClaim := { program := "ytdcfecbicpipoaa", sum := "9fe7b3532c11b22dc2177f801ec2ed6ad956e77662e5705fd3cd9bfb40403bcf", func := "loop.example/setparts/laws.FnExactArcList", spec := "fnExactArcList", apart := false, narrowed := true }
def FnExactArcListUptoSaid : Prop := fnExactArcListUptoRow.holds Try.pinned (OpenSpec.upto fnExactArcListSpec)

/-- 'laws.FnExactArcCross', WHERE WHAT IT READS IS OF BULK AT MOST 1048576: true; the input reads as it did. -/
def fnExactArcCrossUptoRow : OpenClaim := { program := "ytdcfecbicpipoaa", sum := "9fe7b3532c11b22dc2177f801ec2ed6ad956e77662e5705fd3cd9bfb40403bcf", func := "loop.example/setparts/laws.FnExactArcCross", spec := "fnExactArcCross", unfollowed := true, recurses := true, apart := false, narrowed := true }
def FnExactArcCrossUptoSaid : Prop := fnExactArcCrossUptoRow.holds Try.pinned (OpenSpec.upto fnExactArcCrossSpec)

/-- 'laws.FnExactArcNest', WHERE WHAT IT READS IS OF BULK AT MOST 1048576: true; the input reads as it did. -/
def fnExactArcNestUptoRow : OpenClaim := { program := "ytdcfecbicpipoaa", sum := "9fe7b3532c11b22dc2177f801ec2ed6ad956e77662e5705fd3cd9bfb40403bcf", func := "loop.example/setparts/laws.FnExactArcNest", spec := "fnExactArcNest", unfollowed := true, recurses := true, apart := false, narrowed := true }
def FnExactArcNestUptoSaid : Prop := fnExactArcNestUptoRow.holds Try.pinned (OpenSpec.upto fnExactArcNestSpec)

/-- 'laws.FnExactArcPart', WHERE WHAT IT READS IS OF BULK AT MOST 1048576: true; the input reads as it did. -/
def fnExactArcPartUptoRow : OpenClaim := { program := "ytdcfecbicpipoaa", sum := "9fe7b3532c11b22dc2177f801ec2ed6ad956e77662e5705fd3cd9bfb40403bcf", func := "loop.example/setparts/laws.FnExactArcPart", spec := "fnExactArcPart", apart := false, narrowed := true }
def FnExactArcPartUptoSaid : Prop := fnExactArcPartUptoRow.holds Try.pinned (OpenSpec.upto fnExactArcPartSpec)

/-- 'laws.FnExactArcPlain', WHERE WHAT IT READS IS OF BULK AT MOST 1048576: true; the input reads as it did. -/
def fnExactArcPlainUptoRow : OpenClaim := { program := "ytdcfecbicpipoaa", sum := "9fe7b3532c11b22dc2177f801ec2ed6ad956e77662e5705fd3cd9bfb40403bcf", func := "loop.example/setparts/laws.FnExactArcPlain", spec := "fnExactArcPlain", unfollowed := true, recurses := true, apart := false, narrowed := true }
def FnExactArcPlainUptoSaid : Prop := fnExactArcPlainUptoRow.holds Try.pinned (OpenSpec.upto fnExactArcPlainSpec)

/-- 'laws.FnExactArcCount', WHERE WHAT IT READS IS OF BULK AT MOST 1048576: true; the input reads as it did. -/
def fnExactArcCountUptoRow : OpenClaim := { program := "ytdcfecbicpipoaa", sum := "9fe7b3532c11b22dc2177f801ec2ed6ad956e77662e5705fd3cd9bfb40403bcf", func := "loop.example/setparts/laws.FnExactArcCount", spec := "fnExactArcCount", unfollowed := true, recurses := true, apart := false, narrowed := true }
def FnExactArcCountUptoSaid : Prop := fnExactArcCountUptoRow.holds Try.pinned (OpenSpec.upto fnExactArcCountSpec)

/-- 'laws.FnExactArcLong', WHERE WHAT IT READS IS OF BULK AT MOST 1048576: true; the input reads as it did. -/
def fnExactArcLongUptoRow : OpenClaim := { program := "ytdcfecbicpipoaa", sum := "9fe7b3532c11b22dc2177f801ec2ed6ad956e77662e5705fd3cd9bfb40403bcf", func := "loop.example/setparts/laws.FnExactArcLong", spec := "fnExactArcLong", apart := false, narrowed := true }
def FnExactArcLongUptoSaid : Prop := fnExactArcLongUptoRow.holds Try.pinned (OpenSpec.upto fnExactArcLongSpec)

end Rows
end Go.Proofs.Ytdcfecbicpipoaa
