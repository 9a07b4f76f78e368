/-
  No cell of these rows narrows 'for every input' (looked for: loops, veiled, ifaces, maps, wideKeys, modest, calm, conditions, laid).
  DERIVED. THE GIVEN ROWS OF THIS SEAT. 7 by the template 'for every input the law returns true; each argument reads behind the call as it read before'; 0 by the template 'total and deterministic' (their statements: YtipmafplpoadjaaTotals.lean).
  GIVEN WITH THE SEED: the statements are not yours to turn. If you find one false, say at which input.
  Laid BY PROGRAM, IN A SANDBOX (cutbox-rows.mjs): the forced cells as the released guide's own fill.sh prints them over the translation 5ad44344e91996f7… (all of the seat's roots in one cut). By AI agents, Wed Nov 11 2026. No macro, syntax, notation, axiom, sorry.
-/
import Derived.Test.YtipmafplpoadjaaChecked
import GoSem.Claim
import GoSem.ClaimJoined
import GoSem.ClaimMapViews
import Derived.JoinedTies
import Derived.KernelRfl
namespace Go.Proofs.Ytipmafplpoadjaa
/- THE CELL 'sum', in the pinned program and in every row, IS THE sha256 OF THE DUMP (.gsa) THAT YtipmafplpoadjaaProg.lean LOADS. Nothing in Lean hashes anything: it is a label: what it is worth is what the hold of that sum in a sandbox is worth. -/
noncomputable def Try.pinned : Pinned := { name := "ytipmafplpoadjaa", sum := "5ad44344e91996f75806a29decd365a74998fdfbb388502cb234d4b967f6b359", checked := Try.checked }
namespace Rows
def none {H : Type} : Left H := { results := [], args := [] }

/-- 'laws.FnSign': WHATEVER THE INPUT: true; the input reads as it did. -/
def fnSignSpec : ChangeSpec := { name := "fnSign", fn := fun _ => fun
  | [d] => { results := [.lit (.bool true)], args := [d] }
  | _ => none }
def fnSignRow : OpenClaim := { program := "ytipmafplpoadjaa", sum := "5ad44344e91996f75806a29decd365a74998fdfbb388502cb234d4b967f6b359", func := "loop.example/setparts/laws.FnSign", spec := "fnSign", unfollowed := true, recurses := true, apart := false }
def FnSignSaid : Prop := fnSignRow.holds Try.pinned (OpenSpec.ofChange fnSignSpec)

/-- ITS FALSE NEIGHBOUR: 'it returns false'. Refute it at one input. -/
def fnSignWrong : ChangeSpec := { name := "fnSign", fn := fun _ => fun
  | [d] => { results := [.lit (.bool false)], args := [d] }
  | _ => none }
def FnSignWrongFalsely : Prop := fnSignRow.holds Try.pinned (OpenSpec.ofChange fnSignWrong)

/-- 'laws.FnArcs': WHATEVER THE INPUT: true; the input reads as it did. -/
def fnArcsSpec : ChangeSpec := { name := "fnArcs", fn := fun _ => fun
  | [d] => { results := [.lit (.bool true)], args := [d] }
  | _ => none }
def fnArcsRow : OpenClaim := { program := "ytipmafplpoadjaa", sum := "5ad44344e91996f75806a29decd365a74998fdfbb388502cb234d4b967f6b359", func := "loop.example/setparts/laws.FnArcs", spec := "fnArcs", apart := false }
def FnArcsSaid : Prop := fnArcsRow.holds Try.pinned (OpenSpec.ofChange fnArcsSpec)

/-- ITS FALSE NEIGHBOUR: 'it returns false'. Refute it at one input. -/
def fnArcsWrong : ChangeSpec := { name := "fnArcs", fn := fun _ => fun
  | [d] => { results := [.lit (.bool false)], args := [d] }
  | _ => none }
def FnArcsWrongFalsely : Prop := fnArcsRow.holds Try.pinned (OpenSpec.ofChange fnArcsWrong)

/-- 'laws.FnCross': WHATEVER THE INPUT: true; the input reads as it did. -/
def fnCrossSpec : ChangeSpec := { name := "fnCross", fn := fun _ => fun
  | [d] => { results := [.lit (.bool true)], args := [d] }
  | _ => none }
def fnCrossRow : OpenClaim := { program := "ytipmafplpoadjaa", sum := "5ad44344e91996f75806a29decd365a74998fdfbb388502cb234d4b967f6b359", func := "loop.example/setparts/laws.FnCross", spec := "fnCross", unfollowed := true, recurses := true, apart := false }
def FnCrossSaid : Prop := fnCrossRow.holds Try.pinned (OpenSpec.ofChange fnCrossSpec)

/-- ITS FALSE NEIGHBOUR: 'it returns false'. Refute it at one input. -/
def fnCrossWrong : ChangeSpec := { name := "fnCross", fn := fun _ => fun
  | [d] => { results := [.lit (.bool false)], args := [d] }
  | _ => none }
def FnCrossWrongFalsely : Prop := fnCrossRow.holds Try.pinned (OpenSpec.ofChange fnCrossWrong)

/-- 'laws.FnNest': WHATEVER THE INPUT: true; the input reads as it did. -/
def fnNestSpec : ChangeSpec := { name := "fnNest", fn := fun _ => fun
  | [d] => { results := [.lit (.bool true)], args := [d] }
  | _ => none }
def fnNestRow : OpenClaim := { program := "ytipmafplpoadjaa", sum := "5ad44344e91996f75806a29decd365a74998fdfbb388502cb234d4b967f6b359", func := "loop.example/setparts/laws.FnNest", spec := "fnNest", unfollowed := true, recurses := true, apart := false }
def FnNestSaid : Prop := fnNestRow.holds Try.pinned (OpenSpec.ofChange fnNestSpec)

/-- ITS FALSE NEIGHBOUR: 'it returns false'. Refute it at one input. -/
def fnNestWrong : ChangeSpec := { name := "fnNest", fn := fun _ => fun
  | [d] => { results := [.lit (.bool false)], args := [d] }
  | _ => none }
def FnNestWrongFalsely : Prop := fnNestRow.holds Try.pinned (OpenSpec.ofChange fnNestWrong)

/-- 'laws.FnArcPart': WHATEVER THE INPUT: true; the input reads as it did. -/
def fnArcPartSpec : ChangeSpec := { name := "fnArcPart", fn := fun _ => fun
  | [d] => { results := [.lit (.bool true)], args := [d] }
  | _ => none }
def fnArcPartRow : OpenClaim := { program := "ytipmafplpoadjaa", sum := "5ad44344e91996f75806a29decd365a74998fdfbb388502cb234d4b967f6b359", func := "loop.example/setparts/laws.FnArcPart", spec := "fnArcPart", apart := false }
def FnArcPartSaid : Prop := fnArcPartRow.holds Try.pinned (OpenSpec.ofChange fnArcPartSpec)

/-- ITS FALSE NEIGHBOUR: 'it returns false'. Refute it at one input. -/
def fnArcPartWrong : ChangeSpec := { name := "fnArcPart", fn := fun _ => fun
  | [d] => { results := [.lit (.bool false)], args := [d] }
  | _ => none }
def FnArcPartWrongFalsely : Prop := fnArcPartRow.holds Try.pinned (OpenSpec.ofChange fnArcPartWrong)

/-- 'laws.FnPlain': WHATEVER THE INPUT: true; the input reads as it did. -/
def fnPlainSpec : ChangeSpec := { name := "fnPlain", fn := fun _ => fun
  | [d] => { results := [.lit (.bool true)], args := [d] }
  | _ => none }
def fnPlainRow : OpenClaim := { program := "ytipmafplpoadjaa", sum := "5ad44344e91996f75806a29decd365a74998fdfbb388502cb234d4b967f6b359", func := "loop.example/setparts/laws.FnPlain", spec := "fnPlain", unfollowed := true, recurses := true, apart := false }
def FnPlainSaid : Prop := fnPlainRow.holds Try.pinned (OpenSpec.ofChange fnPlainSpec)

/-- ITS FALSE NEIGHBOUR: 'it returns false'. Refute it at one input. -/
def fnPlainWrong : ChangeSpec := { name := "fnPlain", fn := fun _ => fun
  | [d] => { results := [.lit (.bool false)], args := [d] }
  | _ => none }
def FnPlainWrongFalsely : Prop := fnPlainRow.holds Try.pinned (OpenSpec.ofChange fnPlainWrong)

/-- 'laws.FnArcCount': WHATEVER THE INPUT: true; the input reads as it did. -/
def fnArcCountSpec : ChangeSpec := { name := "fnArcCount", fn := fun _ => fun
  | [d] => { results := [.lit (.bool true)], args := [d] }
  | _ => none }
def fnArcCountRow : OpenClaim := { program := "ytipmafplpoadjaa", sum := "5ad44344e91996f75806a29decd365a74998fdfbb388502cb234d4b967f6b359", func := "loop.example/setparts/laws.FnArcCount", spec := "fnArcCount", unfollowed := true, recurses := true, apart := false }
def FnArcCountSaid : Prop := fnArcCountRow.holds Try.pinned (OpenSpec.ofChange fnArcCountSpec)

/-- ITS FALSE NEIGHBOUR: 'it returns false'. Refute it at one input. -/
def fnArcCountWrong : ChangeSpec := { name := "fnArcCount", fn := fun _ => fun
  | [d] => { results := [.lit (.bool false)], args := [d] }
  | _ => none }
def FnArcCountWrongFalsely : Prop := fnArcCountRow.holds Try.pinned (OpenSpec.ofChange fnArcCountWrong)

/- THE SECOND FORM. 'bulk': how many values and letters a reading holds, each counted each time it is reached (what is shared counts as often as it is met; a slice's spare places count too). A statement '..UptoSaid' is the law's where the arguments, and the package variables that the reading takes, are together of bulk at most 1048576: NARROWER than '..Said'. Prove '..Said' where nothing that the law and all that it calls make is longer than what came in: it says more and counts as full. Else prove '..UptoSaid'. A law counts once. -/
mutual
def uptoBulk {H : Type} : DataW H → Nat
  | .lit (.string bytes) => bytes.length + 1
  | .lit _ => 1
  | .nil => 1
  | .ptr d => uptoBulk d + 1
  | .slice elems spare => uptoBulkAll elems + uptoBulkAll spare + 1
  | .agg parts => uptoBulkAll parts + 1
  | .iface _ d => uptoBulk d + 1
  | .map entries => uptoBulkEntries entries + 1
  | .held _ => 1
def uptoBulkAll {H : Type} : List (DataW H) → Nat
  | [] => 0
  | d :: r => uptoBulk d + uptoBulkAll r
def uptoBulkEntries {H : Type} : List (Lit × DataW H) → Nat
  | [] => 0
  | x :: r => uptoBulkEntry x + uptoBulkEntries r
def uptoBulkEntry {H : Type} : Lit × DataW H → Nat
  | (.string bytes, d) => bytes.length + uptoBulk d + 1
  | (_, d) => uptoBulk d + 1
 end
def uptoSmall : (H : Type) → List (DataW H) → Bool := fun _ ds => decide (uptoBulkAll ds ≤ 1048576)
def OpenSpec.upto (s : _root_.Go.ChangeSpec) : _root_.Go.OpenSpec := { _root_.Go.OpenSpec.ofChange s with cond := some uptoSmall }

/-- 'laws.FnSign', WHERE WHAT IT READS IS OF BULK AT MOST 1048576: true; the input reads as it did. -/
def fnSignUptoRow : OpenClaim := { program := "ytipmafplpoadjaa", sum := "5ad44344e91996f75806a29decd365a74998fdfbb388502cb234d4b967f6b359", func := "loop.example/setparts/laws.FnSign", spec := "fnSign", unfollowed := true, recurses := true, apart := false, narrowed := true }
def FnSignUptoSaid : Prop := fnSignUptoRow.holds Try.pinned (OpenSpec.upto fnSignSpec)

/-- 'laws.FnArcs', WHERE WHAT IT READS IS OF BULK AT MOST 1048576: true; the input reads as it did. -/
def fnArcsUptoRow : OpenClaim := { program := "ytipmafplpoadjaa", sum := "5ad44344e91996f75806a29decd365a74998fdfbb388502cb234d4b967f6b359", func := "loop.example/setparts/laws.FnArcs", spec := "fnArcs", apart := false, narrowed := true }
def FnArcsUptoSaid : Prop := fnArcsUptoRow.holds Try.pinned (OpenSpec.upto fnArcsSpec)

/-- 'laws.FnCross', WHERE WHAT IT READS IS OF BULK AT MOST 1048576: true; the input reads as it did. -/
def fnCrossUptoRow : OpenClaim := { program := "ytipmafplpoadjaa", sum := "5ad44344e91996f75806a29decd365a74998fdfbb388502cb234d4b967f6b359", func := "loop.example/setparts/laws.FnCross", spec := "fnCross", unfollowed := true, recurses := true, apart := false, narrowed := true }
def FnCrossUptoSaid : Prop := fnCrossUptoRow.holds Try.pinned (OpenSpec.upto fnCrossSpec)

/-- 'laws.FnNest', WHERE WHAT IT READS IS OF BULK AT MOST 1048576: true; the input reads as it did. -/
def fnNestUptoRow : OpenClaim := { program := "ytipmafplpoadjaa", sum := "5ad44344e91996f75806a29decd365a74998fdfbb388502cb234d4b967f6b359", func := "loop.example/setparts/laws.FnNest", spec := "fnNest", unfollowed := true, recurses := true, apart := false, narrowed := true }
def FnNestUptoSaid : Prop := fnNestUptoRow.holds Try.pinned (OpenSpec.upto fnNestSpec)

/-- 'laws.FnArcPart', WHERE WHAT IT READS IS OF BULK AT MOST 1048576: true; the input reads as it did. -/
def fnArcPartUptoRow : OpenClaim := { program := "ytipmafplpoadjaa", sum := "5ad44344e91996f75806a29decd365a74998fdfbb388502cb234d4b967f6b359", func := "loop.example/setparts/laws.FnArcPart", spec := "fnArcPart", apart := false, narrowed := true }
def FnArcPartUptoSaid : Prop := fnArcPartUptoRow.holds Try.pinned (OpenSpec.upto fnArcPartSpec)

/-- 'laws.FnPlain', WHERE WHAT IT READS IS OF BULK AT MOST 1048576: true; the input reads as it did. -/
def fnPlainUptoRow : OpenClaim := { program := "ytipmafplpoadjaa", sum := "5ad44344e91996f75806a29decd365a74998fdfbb388502cb234d4b967f6b359", func := "loop.example/setparts/laws.FnPlain", spec := "fnPlain", unfollowed := true, recurses := true, apart := false, narrowed := true }
def FnPlainUptoSaid : Prop := fnPlainUptoRow.holds Try.pinned (OpenSpec.upto fnPlainSpec)

/-- 'laws.FnArcCount', WHERE WHAT IT READS IS OF BULK AT MOST 1048576: true; the input reads as it did. -/
def fnArcCountUptoRow : OpenClaim := { program := "ytipmafplpoadjaa", sum := "5ad44344e91996f75806a29decd365a74998fdfbb388502cb234d4b967f6b359", func := "loop.example/setparts/laws.FnArcCount", spec := "fnArcCount", unfollowed := true, recurses := true, apart := false, narrowed := true }
def FnArcCountUptoSaid : Prop := fnArcCountUptoRow.holds Try.pinned (OpenSpec.upto fnArcCountSpec)

end Rows
end Go.Proofs.Ytipmafplpoadjaa
