/-
  No cell of these rows narrows 'for every input' (looked for: loops, veiled, ifaces, maps, wideKeys, modest, calm, conditions, laid).
  DERIVED. THE GIVEN ROWS OF THIS SEAT. 10 by the template 'for every input the law returns true; each argument reads behind the call as it read before'; 0 by the template 'total and deterministic' (their statements: YtieldehghmikkaaTotals.lean).
  GIVEN WITH THE SEED: the statements are not yours to turn. If you find one false, say at which input.
  Laid BY PROGRAM, IN A SANDBOX (cutbox-rows.mjs): the forced cells as the released guide's own fill.sh prints them over the translation dff60889645ea0e3… (all of the seat's roots in one cut). By AI agents, Wed Nov 11 2026. No macro, syntax, notation, axiom, sorry.
-/
import Derived.Test.YtieldehghmikkaaChecked
import GoSem.Claim
import GoSem.ClaimJoined
import GoSem.ClaimMapViews
import Derived.JoinedTies
import Derived.KernelRfl
namespace Go.Proofs.Ytieldehghmikkaa
/- THE CELL 'sum', in the pinned program and in every row, IS THE sha256 OF THE DUMP (.gsa) THAT YtieldehghmikkaaProg.lean LOADS. Nothing in Lean hashes anything: it is a label: what it is worth is what the hold of that sum in a sandbox is worth. -/
noncomputable def Try.pinned : Pinned := { name := "ytieldehghmikkaa", sum := "dff60889645ea0e32370c13c8fed3dbaf463c1699e3f4df0fb7b97ae1f05f634", checked := Try.checked }
namespace Rows
def none {H : Type} : Left H := { results := [], args := [] }

/-- 'laws.FnExactPairIn': WHATEVER THE INPUT: true; the input reads as it did. -/
def fnExactPairInSpec : ChangeSpec := { name := "fnExactPairIn", fn := fun _ => fun
  | [d1, d2] => { results := [.lit (.bool true)], args := [d1, d2] }
  | _ => none }
def fnExactPairInRow : OpenClaim := { program := "ytieldehghmikkaa", sum := "dff60889645ea0e32370c13c8fed3dbaf463c1699e3f4df0fb7b97ae1f05f634", func := "loop.example/setparts/laws.FnExactPairIn", spec := "fnExactPairIn", unfollowed := true, recurses := true, apart := false }
def FnExactPairInSaid : Prop := fnExactPairInRow.holds Try.pinned (OpenSpec.ofChange fnExactPairInSpec)

/-- ITS FALSE NEIGHBOUR: 'it returns false'. Refute it at one input. -/
def fnExactPairInWrong : ChangeSpec := { name := "fnExactPairIn", fn := fun _ => fun
  | [d1, d2] => { results := [.lit (.bool false)], args := [d1, d2] }
  | _ => none }
def FnExactPairInWrongFalsely : Prop := fnExactPairInRow.holds Try.pinned (OpenSpec.ofChange fnExactPairInWrong)

/-- 'laws.FnExactPairOf': WHATEVER THE INPUT: true; the input reads as it did. -/
def fnExactPairOfSpec : ChangeSpec := { name := "fnExactPairOf", fn := fun _ => fun
  | [d] => { results := [.lit (.bool true)], args := [d] }
  | _ => none }
def fnExactPairOfRow : OpenClaim := { program := "ytieldehghmikkaa", sum := "dff60889645ea0e32370c13c8fed3dbaf463c1699e3f4df0fb7b97ae1f05f634", func := "loop.example/setparts/laws.FnExactPairOf", spec := "fnExactPairOf", apart := false }
def FnExactPairOfSaid : Prop := fnExactPairOfRow.holds Try.pinned (OpenSpec.ofChange fnExactPairOfSpec)

/-- ITS FALSE NEIGHBOUR: 'it returns false'. Refute it at one input. -/
def fnExactPairOfWrong : ChangeSpec := { name := "fnExactPairOf", fn := fun _ => fun
  | [d] => { results := [.lit (.bool false)], args := [d] }
  | _ => none }
def FnExactPairOfWrongFalsely : Prop := fnExactPairOfRow.holds Try.pinned (OpenSpec.ofChange fnExactPairOfWrong)

/-- 'laws.FnExactPairPart': WHATEVER THE INPUT: true; the input reads as it did. -/
def fnExactPairPartSpec : ChangeSpec := { name := "fnExactPairPart", fn := fun _ => fun
  | [d1, d2] => { results := [.lit (.bool true)], args := [d1, d2] }
  | _ => none }
def fnExactPairPartRow : OpenClaim := { program := "ytieldehghmikkaa", sum := "dff60889645ea0e32370c13c8fed3dbaf463c1699e3f4df0fb7b97ae1f05f634", func := "loop.example/setparts/laws.FnExactPairPart", spec := "fnExactPairPart", unfollowed := true, recurses := true, apart := false }
def FnExactPairPartSaid : Prop := fnExactPairPartRow.holds Try.pinned (OpenSpec.ofChange fnExactPairPartSpec)

/-- ITS FALSE NEIGHBOUR: 'it returns false'. Refute it at one input. -/
def fnExactPairPartWrong : ChangeSpec := { name := "fnExactPairPart", fn := fun _ => fun
  | [d1, d2] => { results := [.lit (.bool false)], args := [d1, d2] }
  | _ => none }
def FnExactPairPartWrongFalsely : Prop := fnExactPairPartRow.holds Try.pinned (OpenSpec.ofChange fnExactPairPartWrong)

/-- 'laws.FnExactPairWhole': WHATEVER THE INPUT: true; the input reads as it did. -/
def fnExactPairWholeSpec : ChangeSpec := { name := "fnExactPairWhole", fn := fun _ => fun
  | [d1, d2] => { results := [.lit (.bool true)], args := [d1, d2] }
  | _ => none }
def fnExactPairWholeRow : OpenClaim := { program := "ytieldehghmikkaa", sum := "dff60889645ea0e32370c13c8fed3dbaf463c1699e3f4df0fb7b97ae1f05f634", func := "loop.example/setparts/laws.FnExactPairWhole", spec := "fnExactPairWhole", unfollowed := true, recurses := true, apart := false }
def FnExactPairWholeSaid : Prop := fnExactPairWholeRow.holds Try.pinned (OpenSpec.ofChange fnExactPairWholeSpec)

/-- ITS FALSE NEIGHBOUR: 'it returns false'. Refute it at one input. -/
def fnExactPairWholeWrong : ChangeSpec := { name := "fnExactPairWhole", fn := fun _ => fun
  | [d1, d2] => { results := [.lit (.bool false)], args := [d1, d2] }
  | _ => none }
def FnExactPairWholeWrongFalsely : Prop := fnExactPairWholeRow.holds Try.pinned (OpenSpec.ofChange fnExactPairWholeWrong)

/-- 'laws.FnExactPairChanges': WHATEVER THE INPUT: true; the input reads as it did. -/
def fnExactPairChangesSpec : ChangeSpec := { name := "fnExactPairChanges", fn := fun _ => fun
  | [d1, d2] => { results := [.lit (.bool true)], args := [d1, d2] }
  | _ => none }
def fnExactPairChangesRow : OpenClaim := { program := "ytieldehghmikkaa", sum := "dff60889645ea0e32370c13c8fed3dbaf463c1699e3f4df0fb7b97ae1f05f634", func := "loop.example/setparts/laws.FnExactPairChanges", spec := "fnExactPairChanges", unfollowed := true, recurses := true, apart := false }
def FnExactPairChangesSaid : Prop := fnExactPairChangesRow.holds Try.pinned (OpenSpec.ofChange fnExactPairChangesSpec)

/-- ITS FALSE NEIGHBOUR: 'it returns false'. Refute it at one input. -/
def fnExactPairChangesWrong : ChangeSpec := { name := "fnExactPairChanges", fn := fun _ => fun
  | [d1, d2] => { results := [.lit (.bool false)], args := [d1, d2] }
  | _ => none }
def FnExactPairChangesWrongFalsely : Prop := fnExactPairChangesRow.holds Try.pinned (OpenSpec.ofChange fnExactPairChangesWrong)

/-- 'laws.FnExactPairBest': WHATEVER THE INPUT: true; the input reads as it did. -/
def fnExactPairBestSpec : ChangeSpec := { name := "fnExactPairBest", fn := fun _ => fun
  | [d1, d2] => { results := [.lit (.bool true)], args := [d1, d2] }
  | _ => none }
def fnExactPairBestRow : OpenClaim := { program := "ytieldehghmikkaa", sum := "dff60889645ea0e32370c13c8fed3dbaf463c1699e3f4df0fb7b97ae1f05f634", func := "loop.example/setparts/laws.FnExactPairBest", spec := "fnExactPairBest", unfollowed := true, recurses := true, apart := false }
def FnExactPairBestSaid : Prop := fnExactPairBestRow.holds Try.pinned (OpenSpec.ofChange fnExactPairBestSpec)

/-- ITS FALSE NEIGHBOUR: 'it returns false'. Refute it at one input. -/
def fnExactPairBestWrong : ChangeSpec := { name := "fnExactPairBest", fn := fun _ => fun
  | [d1, d2] => { results := [.lit (.bool false)], args := [d1, d2] }
  | _ => none }
def FnExactPairBestWrongFalsely : Prop := fnExactPairBestRow.holds Try.pinned (OpenSpec.ofChange fnExactPairBestWrong)

/-- 'laws.FnExactPairThree': WHATEVER THE INPUT: true; the input reads as it did. -/
def fnExactPairThreeSpec : ChangeSpec := { name := "fnExactPairThree", fn := fun _ => fun
  | [d1, d2] => { results := [.lit (.bool true)], args := [d1, d2] }
  | _ => none }
def fnExactPairThreeRow : OpenClaim := { program := "ytieldehghmikkaa", sum := "dff60889645ea0e32370c13c8fed3dbaf463c1699e3f4df0fb7b97ae1f05f634", func := "loop.example/setparts/laws.FnExactPairThree", spec := "fnExactPairThree", unfollowed := true, recurses := true, apart := false }
def FnExactPairThreeSaid : Prop := fnExactPairThreeRow.holds Try.pinned (OpenSpec.ofChange fnExactPairThreeSpec)

/-- ITS FALSE NEIGHBOUR: 'it returns false'. Refute it at one input. -/
def fnExactPairThreeWrong : ChangeSpec := { name := "fnExactPairThree", fn := fun _ => fun
  | [d1, d2] => { results := [.lit (.bool false)], args := [d1, d2] }
  | _ => none }
def FnExactPairThreeWrongFalsely : Prop := fnExactPairThreeRow.holds Try.pinned (OpenSpec.ofChange fnExactPairThreeWrong)

/-- 'laws.FnExactPairOther': WHATEVER THE INPUT: true; the input reads as it did. -/
def fnExactPairOtherSpec : ChangeSpec := { name := "fnExactPairOther", fn := fun _ => fun
  | [d1, d2] => { results := [.lit (.bool true)], args := [d1, d2] }
  | _ => none }
def fnExactPairOtherRow : OpenClaim := { program := "ytieldehghmikkaa", sum := "dff60889645ea0e32370c13c8fed3dbaf463c1699e3f4df0fb7b97ae1f05f634", func := "loop.example/setparts/laws.FnExactPairOther", spec := "fnExactPairOther", unfollowed := true, recurses := true, apart := false }
def FnExactPairOtherSaid : Prop := fnExactPairOtherRow.holds Try.pinned (OpenSpec.ofChange fnExactPairOtherSpec)

/-- ITS FALSE NEIGHBOUR: 'it returns false'. Refute it at one input. -/
def fnExactPairOtherWrong : ChangeSpec := { name := "fnExactPairOther", fn := fun _ => fun
  | [d1, d2] => { results := [.lit (.bool false)], args := [d1, d2] }
  | _ => none }
def FnExactPairOtherWrongFalsely : Prop := fnExactPairOtherRow.holds Try.pinned (OpenSpec.ofChange fnExactPairOtherWrong)

/-- 'laws.FnExactFinerJoin': WHATEVER THE INPUT: true; the input reads as it did. -/
def fnExactFinerJoinSpec : ChangeSpec := { name := "fnExactFinerJoin", fn := fun _ => fun
  | [d1, d2] => { results := [.lit (.bool true)], args := [d1, d2] }
  | _ => none }
def fnExactFinerJoinRow : OpenClaim := { program := "ytieldehghmikkaa", sum := "dff60889645ea0e32370c13c8fed3dbaf463c1699e3f4df0fb7b97ae1f05f634", func := "loop.example/setparts/laws.FnExactFinerJoin", spec := "fnExactFinerJoin", apart := false }
def FnExactFinerJoinSaid : Prop := fnExactFinerJoinRow.holds Try.pinned (OpenSpec.ofChange fnExactFinerJoinSpec)

/-- ITS FALSE NEIGHBOUR: 'it returns false'. Refute it at one input. -/
def fnExactFinerJoinWrong : ChangeSpec := { name := "fnExactFinerJoin", fn := fun _ => fun
  | [d1, d2] => { results := [.lit (.bool false)], args := [d1, d2] }
  | _ => none }
def FnExactFinerJoinWrongFalsely : Prop := fnExactFinerJoinRow.holds Try.pinned (OpenSpec.ofChange fnExactFinerJoinWrong)

/-- 'laws.FnExactViewPath': WHATEVER THE INPUT: true; the input reads as it did. -/
def fnExactViewPathSpec : ChangeSpec := { name := "fnExactViewPath", fn := fun _ => fun
  | [d1, d2] => { results := [.lit (.bool true)], args := [d1, d2] }
  | _ => none }
def fnExactViewPathRow : OpenClaim := { program := "ytieldehghmikkaa", sum := "dff60889645ea0e32370c13c8fed3dbaf463c1699e3f4df0fb7b97ae1f05f634", func := "loop.example/setparts/laws.FnExactViewPath", spec := "fnExactViewPath", apart := false }
def FnExactViewPathSaid : Prop := fnExactViewPathRow.holds Try.pinned (OpenSpec.ofChange fnExactViewPathSpec)

/-- ITS FALSE NEIGHBOUR: 'it returns false'. Refute it at one input. -/
def fnExactViewPathWrong : ChangeSpec := { name := "fnExactViewPath", fn := fun _ => fun
  | [d1, d2] => { results := [.lit (.bool false)], args := [d1, d2] }
  | _ => none }
def FnExactViewPathWrongFalsely : Prop := fnExactViewPathRow.holds Try.pinned (OpenSpec.ofChange fnExactViewPathWrong)

/- THE SECOND FORM. 'bulk': how many values and letters a reading holds, each counted each time it is reached (what is shared counts as often as it is met; a slice's spare places count too). A statement '..UptoSaid' is the law's where the arguments, and the package variables that the reading takes, are together of bulk at most 1048576: NARROWER than '..Said'. Prove '..Said' where nothing that the law and all that it calls make is longer than what came in: it says more and counts as full. Else prove '..UptoSaid'. A law counts once. -/
mutual
def uptoBulk {H : Type} : DataW H → Nat
  | .lit (.string bytes) => bytes.length + 1
  | .lit _ => 1
  | .nil => 1
  | .ptr d => uptoBulk d + 1
  | .slice elems spare => uptoBulkAll elems + uptoBulkAll spare + 1
  | .agg parts => uptoBulkAll parts + 1
  | .iface _ d => uptoBulk d + 1
  | .map entries => uptoBulkEntries entries + 1
  | .held _ => 1
def uptoBulkAll {H : Type} : List (DataW H) → Nat
  | [] => 0
  | d :: r => uptoBulk d + uptoBulkAll r
def uptoBulkEntries {H : Type} : List (Lit × DataW H) → Nat
  | [] => 0
  | x :: r => uptoBulkEntry x + uptoBulkEntries r
def uptoBulkEntry {H : Type} : Lit × DataW H → Nat
  | (.string bytes, d) => bytes.length + uptoBulk d + 1
  | (_, d) => uptoBulk d + 1
 end
def uptoSmall : (H : Type) → List (DataW H) → Bool := fun _ ds => decide (uptoBulkAll ds ≤ 1048576)
def OpenSpec.upto (s : _root_.Go.ChangeSpec) : _root_.Go.OpenSpec := { _root_.Go.OpenSpec.ofChange s with cond := some uptoSmall }

/-- 'laws.FnExactPairIn', WHERE WHAT IT READS IS OF BULK AT MOST 1048576: true; the input reads as it did. -/
def fnExactPairInUptoRow : OpenClaim := { program := "ytieldehghmikkaa", sum := "dff60889645ea0e32370c13c8fed3dbaf463c1699e3f4df0fb7b97ae1f05f634", func := "loop.example/setparts/laws.FnExactPairIn", spec := "fnExactPairIn", unfollowed := true, recurses := true, apart := false, narrowed := true }
def FnExactPairInUptoSaid : Prop := fnExactPairInUptoRow.holds Try.pinned (OpenSpec.upto fnExactPairInSpec)

/-- 'laws.FnExactPairOf', WHERE WHAT IT READS IS OF BULK AT MOST 1048576: true; the input reads as it did. -/
def fnExactPairOfUptoRow : OpenClaim := { program := "ytieldehghmikkaa", sum := "dff60889645ea0e32370c13c8fed3dbaf463c1699e3f4df0fb7b97ae1f05f634", func := "loop.example/setparts/laws.FnExactPairOf", spec := "fnExactPairOf", apart := false, narrowed := true }
def FnExactPairOfUptoSaid : Prop := fnExactPairOfUptoRow.holds Try.pinned (OpenSpec.upto fnExactPairOfSpec)

/-- 'laws.FnExactPairPart', WHERE WHAT IT READS IS OF BULK AT MOST 1048576: true; the input reads as it did. -/
def fnExactPairPartUptoRow : OpenClaim := { program := "ytieldehghmikkaa", sum := "dff60889645ea0e32370c13c8fed3dbaf463c1699e3f4df0fb7b97ae1f05f634", func := "loop.example/setparts/laws.FnExactPairPart", spec := "fnExactPairPart", unfollowed := true, recurses := true, apart := false, narrowed := true }
def FnExactPairPartUptoSaid : Prop := fnExactPairPartUptoRow.holds Try.pinned (OpenSpec.upto fnExactPairPartSpec)

/-- 'laws.FnExactPairWhole', WHERE WHAT IT READS IS OF BULK AT MOST 1048576: true; the input reads as it did. -/
def fnExactPairWholeUptoRow : OpenClaim := { program := "ytieldehghmikkaa", sum := "dff60889645ea0e32370c13c8fed3dbaf463c1699e3f4df0fb7b97ae1f05f634", func := "loop.example/setparts/laws.FnExactPairWhole", spec := "fnExactPairWhole", unfollowed := true, recurses := true, apart := false, narrowed := true }
def FnExactPairWholeUptoSaid : Prop := fnExactPairWholeUptoRow.holds Try.pinned (OpenSpec.upto fnExactPairWholeSpec)

/-- 'laws.FnExactPairChanges', WHERE WHAT IT READS IS OF BULK AT MOST 1048576: true; the input reads as it did. -/
def fnExactPairChangesUptoRow : OpenClaim := { program := "ytieldehghmikkaa", sum := "dff60889645ea0e32370c13c8fed3dbaf463c1699e3f4df0fb7b97ae1f05f634", func := "loop.example/setparts/laws.FnExactPairChanges", spec := "fnExactPairChanges", unfollowed := true, recurses := true, apart := false, narrowed := true }
def FnExactPairChangesUptoSaid : Prop := fnExactPairChangesUptoRow.holds Try.pinned (OpenSpec.upto fnExactPairChangesSpec)

/-- 'laws.FnExactPairBest', WHERE WHAT IT READS IS OF BULK AT MOST 1048576: true; the input reads as it did. -/
def fnExactPairBestUptoRow : OpenClaim := { program := "ytieldehghmikkaa", sum := "dff60889645ea0e32370c13c8fed3dbaf463c1699e3f4df0fb7b97ae1f05f634", func := "loop.example/setparts/laws.FnExactPairBest", spec := "fnExactPairBest", unfollowed := true, recurses := true, apart := false, narrowed := true }
def FnExactPairBestUptoSaid : Prop := fnExactPairBestUptoRow.holds Try.pinned (OpenSpec.upto fnExactPairBestSpec)

/-- 'laws.FnExactPairThree', WHERE WHAT IT READS IS OF BULK AT MOST 1048576: true; the input reads as it did. -/
def fnExactPairThreeUptoRow : OpenClaim := { program := "ytieldehghmikkaa", sum := "dff60889645ea0e32370c13c8fed3dbaf463c1699e3f4df0fb7b97ae1f05f634", func := "loop.example/setparts/laws.FnExactPairThree", spec := "fnExactPairThree", unfollowed := true, recurses := true, apart := false, narrowed := true }
def FnExactPairThreeUptoSaid : Prop := fnExactPairThreeUptoRow.holds Try.pinned (OpenSpec.upto fnExactPairThreeSpec)

/-- 'laws.FnExactPairOther', WHERE WHAT IT READS IS OF BULK AT MOST 1048576: true; the input reads as it did. -/
def fnExactPairOtherUptoRow : OpenClaim := { program := "ytieldehghmikkaa", sum := "dff60889645ea0e32370c13c8fed3dbaf463c1699e3f4df0fb7b97ae1f05f634", func := "loop.example/setparts/laws.FnExactPairOther", spec := "fnExactPairOther", unfollowed := true, recurses := true, apart := false, narrowed := true }
def FnExactPairOtherUptoSaid : Prop := fnExactPairOtherUptoRow.holds Try.pinned (OpenSpec.upto fnExactPairOtherSpec)

/-- 'laws.FnExactFinerJoin', WHERE WHAT IT READS IS OF BULK AT MOST 1048576: true; the input reads as it did. -/
def fnExactFinerJoinUptoRow : OpenClaim := { program := "ytieldehghmikkaa", sum := "dff60889645ea0e32370c13c8fed3dbaf463c1699e3f4df0fb7b97ae1f05f634", func := "loop.example/setparts/laws.FnExactFinerJoin", spec := "fnExactFinerJoin", apart := false, narrowed := true }
def FnExactFinerJoinUptoSaid : Prop := fnExactFinerJoinUptoRow.holds Try.pinned (OpenSpec.upto fnExactFinerJoinSpec)

/-- 'laws.FnExactViewPath', WHERE WHAT IT READS IS OF BULK AT MOST 1048576: true; the input reads as it did. -/
def fnExactViewPathUptoRow : OpenClaim := { program := "ytieldehghmikkaa", sum := "dff60889645ea0e32370c13c8fed3dbaf463c1699e3f4df0fb7b97ae1f05f634", func := "loop.example/setparts/laws.FnExactViewPath", spec := "fnExactViewPath", apart := false, narrowed := true }
def FnExactViewPathUptoSaid : Prop := fnExactViewPathUptoRow.holds Try.pinned (OpenSpec.upto fnExactViewPathSpec)

end Rows
end Go.Proofs.Ytieldehghmikkaa
