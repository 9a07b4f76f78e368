/-
  No cell of these rows narrows 'for every input' (looked for: loops, veiled, ifaces, maps, wideKeys, modest, calm, conditions, laid).
  DERIVED. THE GIVEN ROWS OF THIS SEAT. 7 by the template 'for every input the law returns true; each argument reads behind the call as it read before'; 0 by the template 'total and deterministic' (their statements: YtlnbdanojhbdeaaTotals.lean).
  GIVEN WITH THE SEED: the statements are not yours to turn. If you find one false, say at which input.
  Laid BY PROGRAM, IN A SANDBOX (cutbox-rows.mjs): the forced cells as the released guide's own fill.sh prints them over the translation 89bcb94074728288… (all of the seat's roots in one cut). By AI agents, Wed Nov 11 2026. No macro, syntax, notation, axiom, sorry.
-/
import Derived.Test.YtlnbdanojhbdeaaChecked
import GoSem.Claim
import GoSem.ClaimJoined
import GoSem.ClaimMapViews
import Derived.JoinedTies
import Derived.KernelRfl
namespace Go.Proofs.Ytlnbdanojhbdeaa
/- THE CELL 'sum', in the pinned program and in every row, IS THE sha256 OF THE DUMP (.gsa) THAT YtlnbdanojhbdeaaProg.lean LOADS. Nothing in Lean hashes anything: it is a label: what it is worth is what the hold of that sum in a sandbox is worth. -/
noncomputable def Try.pinned : Pinned := { name := "ytlnbdanojhbdeaa", sum := "89bcb940747282888c4a9e1cbd597b62adaa165c950ad92431172246376b2a7a", checked := Try.checked }
namespace Rows
def none {H : Type} : Left H := { results := [], args := [] }

/-- 'laws.FnExactListAll': WHATEVER THE INPUT: true; the input reads as it did. -/
def fnExactListAllSpec : ChangeSpec := { name := "fnExactListAll", fn := fun _ => fun
  | [d] => { results := [.lit (.bool true)], args := [d] }
  | _ => none }
def fnExactListAllRow : OpenClaim := { program := "ytlnbdanojhbdeaa", sum := "89bcb940747282888c4a9e1cbd597b62adaa165c950ad92431172246376b2a7a", func := "loop.example/setparts/laws.FnExactListAll", spec := "fnExactListAll", unfollowed := true, recurses := true, apart := false }
def FnExactListAllSaid : Prop := fnExactListAllRow.holds Try.pinned (OpenSpec.ofChange fnExactListAllSpec)

/-- ITS FALSE NEIGHBOUR: 'it returns false'. Refute it at one input. -/
def fnExactListAllWrong : ChangeSpec := { name := "fnExactListAll", fn := fun _ => fun
  | [d] => { results := [.lit (.bool false)], args := [d] }
  | _ => none }
def FnExactListAllWrongFalsely : Prop := fnExactListAllRow.holds Try.pinned (OpenSpec.ofChange fnExactListAllWrong)

/-- 'laws.FnExactListPlace': WHATEVER THE INPUT: true; the input reads as it did. -/
def fnExactListPlaceSpec : ChangeSpec := { name := "fnExactListPlace", fn := fun _ => fun
  | [d] => { results := [.lit (.bool true)], args := [d] }
  | _ => none }
def fnExactListPlaceRow : OpenClaim := { program := "ytlnbdanojhbdeaa", sum := "89bcb940747282888c4a9e1cbd597b62adaa165c950ad92431172246376b2a7a", func := "loop.example/setparts/laws.FnExactListPlace", spec := "fnExactListPlace", recurses := true, apart := false }
def FnExactListPlaceSaid : Prop := fnExactListPlaceRow.holds Try.pinned (OpenSpec.ofChange fnExactListPlaceSpec)

/-- ITS FALSE NEIGHBOUR: 'it returns false'. Refute it at one input. -/
def fnExactListPlaceWrong : ChangeSpec := { name := "fnExactListPlace", fn := fun _ => fun
  | [d] => { results := [.lit (.bool false)], args := [d] }
  | _ => none }
def FnExactListPlaceWrongFalsely : Prop := fnExactListPlaceRow.holds Try.pinned (OpenSpec.ofChange fnExactListPlaceWrong)

/-- 'laws.FnExactListAt': WHATEVER THE INPUT: true; the input reads as it did. -/
def fnExactListAtSpec : ChangeSpec := { name := "fnExactListAt", fn := fun _ => fun
  | [d1, d2] => { results := [.lit (.bool true)], args := [d1, d2] }
  | _ => none }
def fnExactListAtRow : OpenClaim := { program := "ytlnbdanojhbdeaa", sum := "89bcb940747282888c4a9e1cbd597b62adaa165c950ad92431172246376b2a7a", func := "loop.example/setparts/laws.FnExactListAt", spec := "fnExactListAt", recurses := true, apart := false }
def FnExactListAtSaid : Prop := fnExactListAtRow.holds Try.pinned (OpenSpec.ofChange fnExactListAtSpec)

/-- ITS FALSE NEIGHBOUR: 'it returns false'. Refute it at one input. -/
def fnExactListAtWrong : ChangeSpec := { name := "fnExactListAt", fn := fun _ => fun
  | [d1, d2] => { results := [.lit (.bool false)], args := [d1, d2] }
  | _ => none }
def FnExactListAtWrongFalsely : Prop := fnExactListAtRow.holds Try.pinned (OpenSpec.ofChange fnExactListAtWrong)

/-- 'laws.FnExactListNext': WHATEVER THE INPUT: true; the input reads as it did. -/
def fnExactListNextSpec : ChangeSpec := { name := "fnExactListNext", fn := fun _ => fun
  | [d] => { results := [.lit (.bool true)], args := [d] }
  | _ => none }
def fnExactListNextRow : OpenClaim := { program := "ytlnbdanojhbdeaa", sum := "89bcb940747282888c4a9e1cbd597b62adaa165c950ad92431172246376b2a7a", func := "loop.example/setparts/laws.FnExactListNext", spec := "fnExactListNext", recurses := true, apart := false }
def FnExactListNextSaid : Prop := fnExactListNextRow.holds Try.pinned (OpenSpec.ofChange fnExactListNextSpec)

/-- ITS FALSE NEIGHBOUR: 'it returns false'. Refute it at one input. -/
def fnExactListNextWrong : ChangeSpec := { name := "fnExactListNext", fn := fun _ => fun
  | [d] => { results := [.lit (.bool false)], args := [d] }
  | _ => none }
def FnExactListNextWrongFalsely : Prop := fnExactListNextRow.holds Try.pinned (OpenSpec.ofChange fnExactListNextWrong)

/-- 'laws.FnExactListBefore': WHATEVER THE INPUT: true; the input reads as it did. -/
def fnExactListBeforeSpec : ChangeSpec := { name := "fnExactListBefore", fn := fun _ => fun
  | [d] => { results := [.lit (.bool true)], args := [d] }
  | _ => none }
def fnExactListBeforeRow : OpenClaim := { program := "ytlnbdanojhbdeaa", sum := "89bcb940747282888c4a9e1cbd597b62adaa165c950ad92431172246376b2a7a", func := "loop.example/setparts/laws.FnExactListBefore", spec := "fnExactListBefore", recurses := true, apart := false }
def FnExactListBeforeSaid : Prop := fnExactListBeforeRow.holds Try.pinned (OpenSpec.ofChange fnExactListBeforeSpec)

/-- ITS FALSE NEIGHBOUR: 'it returns false'. Refute it at one input. -/
def fnExactListBeforeWrong : ChangeSpec := { name := "fnExactListBefore", fn := fun _ => fun
  | [d] => { results := [.lit (.bool false)], args := [d] }
  | _ => none }
def FnExactListBeforeWrongFalsely : Prop := fnExactListBeforeRow.holds Try.pinned (OpenSpec.ofChange fnExactListBeforeWrong)

/-- 'laws.FnExactListBlocks': WHATEVER THE INPUT: true; the input reads as it did. -/
def fnExactListBlocksSpec : ChangeSpec := { name := "fnExactListBlocks", fn := fun _ => fun
  | [d1, d2] => { results := [.lit (.bool true)], args := [d1, d2] }
  | _ => none }
def fnExactListBlocksRow : OpenClaim := { program := "ytlnbdanojhbdeaa", sum := "89bcb940747282888c4a9e1cbd597b62adaa165c950ad92431172246376b2a7a", func := "loop.example/setparts/laws.FnExactListBlocks", spec := "fnExactListBlocks", unfollowed := true, recurses := true, apart := false }
def FnExactListBlocksSaid : Prop := fnExactListBlocksRow.holds Try.pinned (OpenSpec.ofChange fnExactListBlocksSpec)

/-- ITS FALSE NEIGHBOUR: 'it returns false'. Refute it at one input. -/
def fnExactListBlocksWrong : ChangeSpec := { name := "fnExactListBlocks", fn := fun _ => fun
  | [d1, d2] => { results := [.lit (.bool false)], args := [d1, d2] }
  | _ => none }
def FnExactListBlocksWrongFalsely : Prop := fnExactListBlocksRow.holds Try.pinned (OpenSpec.ofChange fnExactListBlocksWrong)

/-- 'laws.FnExactListOpen': WHATEVER THE INPUT: true; the input reads as it did. -/
def fnExactListOpenSpec : ChangeSpec := { name := "fnExactListOpen", fn := fun _ => fun
  | [d1, d2] => { results := [.lit (.bool true)], args := [d1, d2] }
  | _ => none }
def fnExactListOpenRow : OpenClaim := { program := "ytlnbdanojhbdeaa", sum := "89bcb940747282888c4a9e1cbd597b62adaa165c950ad92431172246376b2a7a", func := "loop.example/setparts/laws.FnExactListOpen", spec := "fnExactListOpen", recurses := true, apart := false }
def FnExactListOpenSaid : Prop := fnExactListOpenRow.holds Try.pinned (OpenSpec.ofChange fnExactListOpenSpec)

/-- ITS FALSE NEIGHBOUR: 'it returns false'. Refute it at one input. -/
def fnExactListOpenWrong : ChangeSpec := { name := "fnExactListOpen", fn := fun _ => fun
  | [d1, d2] => { results := [.lit (.bool false)], args := [d1, d2] }
  | _ => none }
def FnExactListOpenWrongFalsely : Prop := fnExactListOpenRow.holds Try.pinned (OpenSpec.ofChange fnExactListOpenWrong)

/- THE SECOND FORM. 'bulk': how many values and letters a reading holds, each counted each time it is reached (what is shared counts as often as it is met; a slice's spare places count too). A statement '..UptoSaid' is the law's where the arguments, and the package variables that the reading takes, are together of bulk at most 1048576: NARROWER than '..Said'. Prove '..Said' where nothing that the law and all that it calls make is longer than what came in: it says more and counts as full. Else prove '..UptoSaid'. A law counts once. -/
mutual
def uptoBulk {H : Type} : DataW H → Nat
  | .lit (.string bytes) => bytes.length + 1
  | .lit _ => 1
  | .nil => 1
  | .ptr d => uptoBulk d + 1
  | .slice elems spare => uptoBulkAll elems + uptoBulkAll spare + 1
  | .agg parts => uptoBulkAll parts + 1
  | .iface _ d => uptoBulk d + 1
  | .map entries => uptoBulkEntries entries + 1
  | .held _ => 1
def uptoBulkAll {H : Type} : List (DataW H) → Nat
  | [] => 0
  | d :: r => uptoBulk d + uptoBulkAll r
def uptoBulkEntries {H : Type} : List (Lit × DataW H) → Nat
  | [] => 0
  | x :: r => uptoBulkEntry x + uptoBulkEntries r
def uptoBulkEntry {H : Type} : Lit × DataW H → Nat
  | (.string bytes, d) => bytes.length + uptoBulk d + 1
  | (_, d) => uptoBulk d + 1
 end
def uptoSmall : (H : Type) → List (DataW H) → Bool := fun _ ds => decide (uptoBulkAll ds ≤ 1048576)
def OpenSpec.upto (s : _root_.Go.ChangeSpec) : _root_.Go.OpenSpec := { _root_.Go.OpenSpec.ofChange s with cond := some uptoSmall }

/-- 'laws.FnExactListAll', WHERE WHAT IT READS IS OF BULK AT MOST 1048576: true; the input reads as it did. -/
def fnExactListAllUptoRow : OpenClaim := { program := "ytlnbdanojhbdeaa", sum := "89bcb940747282888c4a9e1cbd597b62adaa165c950ad92431172246376b2a7a", func := "loop.example/setparts/laws.FnExactListAll", spec := "fnExactListAll", unfollowed := true, recurses := true, apart := false, narrowed := true }
def FnExactListAllUptoSaid : Prop := fnExactListAllUptoRow.holds Try.pinned (OpenSpec.upto fnExactListAllSpec)

/-- 'laws.FnExactListPlace', WHERE WHAT IT READS IS OF BULK AT MOST 1048576: true; the input reads as it did. -/
def fnExactListPlaceUptoRow : OpenClaim := { program := "ytlnbdanojhbdeaa", sum := "89bcb940747282888c4a9e1cbd597b62adaa165c950ad92431172246376b2a7a", func := "loop.example/setparts/laws.FnExactListPlace", spec := "fnExactListPlace", recurses := true, apart := false, narrowed := true }
def FnExactListPlaceUptoSaid : Prop := fnExactListPlaceUptoRow.holds Try.pinned (OpenSpec.upto fnExactListPlaceSpec)

/-- 'laws.FnExactListAt', WHERE WHAT IT READS IS OF BULK AT MOST 1048576: true; the input reads as it did. -/
def fnExactListAtUptoRow : OpenClaim := { program := "ytlnbdanojhbdeaa", sum := "89bcb940747282888c4a9e1cbd597b62adaa165c950ad92431172246376b2a7a", func := "loop.example/setparts/laws.FnExactListAt", spec := "fnExactListAt", recurses := true, apart := false, narrowed := true }
def FnExactListAtUptoSaid : Prop := fnExactListAtUptoRow.holds Try.pinned (OpenSpec.upto fnExactListAtSpec)

/-- 'laws.FnExactListNext', WHERE WHAT IT READS IS OF BULK AT MOST 1048576: true; the input reads as it did. -/
def fnExactListNextUptoRow : OpenClaim := { program := "ytlnbdanojhbdeaa", sum := "89bcb940747282888c4a9e1cbd597b62adaa165c950ad92431172246376b2a7a", func := "loop.example/setparts/laws.FnExactListNext", spec := "fnExactListNext", recurses := true, apart := false, narrowed := true }
def FnExactListNextUptoSaid : Prop := fnExactListNextUptoRow.holds Try.pinned (OpenSpec.upto fnExactListNextSpec)

/-- 'laws.FnExactListBefore', WHERE WHAT IT READS IS OF BULK AT MOST 1048576: true; the input reads as it did. -/
def fnExactListBeforeUptoRow : OpenClaim := { program := "ytlnbdanojhbdeaa", sum := "89bcb940747282888c4a9e1cbd597b62adaa165c950ad92431172246376b2a7a", func := "loop.example/setparts/laws.FnExactListBefore", spec := "fnExactListBefore", recurses := true, apart := false, narrowed := true }
def FnExactListBeforeUptoSaid : Prop := fnExactListBeforeUptoRow.holds Try.pinned (OpenSpec.upto fnExactListBeforeSpec)

/-- 'laws.FnExactListBlocks', WHERE WHAT IT READS IS OF BULK AT MOST 1048576: true; the input reads as it did. -/
def fnExactListBlocksUptoRow : OpenClaim := { program := "ytlnbdanojhbdeaa", sum := "89bcb940747282888c4a9e1cbd597b62adaa165c950ad92431172246376b2a7a", func := "loop.example/setparts/laws.FnExactListBlocks", spec := "fnExactListBlocks", unfollowed := true, recurses := true, apart := false, narrowed := true }
def FnExactListBlocksUptoSaid : Prop := fnExactListBlocksUptoRow.holds Try.pinned (OpenSpec.upto fnExactListBlocksSpec)

/-- 'laws.FnExactListOpen', WHERE WHAT IT READS IS OF BULK AT MOST 1048576: true; the input reads as it did. -/
def fnExactListOpenUptoRow : OpenClaim := { program := "ytlnbdanojhbdeaa", sum := "89bcb940747282888c4a9e1cbd597b62adaa165c950ad92431172246376b2a7a", func := "loop.example/setparts/laws.FnExactListOpen", spec := "fnExactListOpen", recurses := true, apart := false, narrowed := true }
def FnExactListOpenUptoSaid : Prop := fnExactListOpenUptoRow.holds Try.pinned (OpenSpec.upto fnExactListOpenSpec)

end Rows
end Go.Proofs.Ytlnbdanojhbdeaa
