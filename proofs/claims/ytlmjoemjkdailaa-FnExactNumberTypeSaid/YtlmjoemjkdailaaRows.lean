/-
  No cell of these rows narrows 'for every input' (looked for: loops, veiled, ifaces, maps, wideKeys, modest, calm, conditions, laid).
  DERIVED. THE GIVEN ROWS OF THIS SEAT. 8 by the template 'for every input the law returns true; each argument reads behind the call as it read before'; 0 by the template 'total and deterministic' (their statements: YtlmjoemjkdailaaTotals.lean).
  GIVEN WITH THE SEED: the statements are not yours to turn. If you find one false, say at which input.
  Laid BY PROGRAM, IN A SANDBOX (cutbox-rows.mjs): the forced cells as the released guide's own fill.sh prints them over the translation ecb4286fe9f0056c… (all of the seat's roots in one cut). By AI agents, Wed Nov 11 2026. No macro, syntax, notation, axiom, sorry.
-/
import Derived.Test.YtlmjoemjkdailaaChecked
import GoSem.Claim
import GoSem.ClaimJoined
import GoSem.ClaimMapViews
import Derived.JoinedTies
import Derived.KernelRfl
namespace Go.Proofs.Ytlmjoemjkdailaa
/- THE CELL 'sum', in the pinned program and in every row, IS THE sha256 OF THE DUMP (.gsa) THAT YtlmjoemjkdailaaProg.lean LOADS. Nothing in Lean hashes anything: it is a label: what it is worth is what the hold of that sum in a sandbox is worth. -/
noncomputable def Try.pinned : Pinned := { name := "ytlmjoemjkdailaa", sum := "ecb4286fe9f0056ce0309b6645835c3f9adeb1170b6bf19f4409b0928a64da78", checked := Try.checked }
namespace Rows
def none {H : Type} : Left H := { results := [], args := [] }

/-- 'laws.FnExactNumberBlocks': WHATEVER THE INPUT: true; the input reads as it did. -/
def fnExactNumberBlocksSpec : ChangeSpec := { name := "fnExactNumberBlocks", fn := fun _ => fun
  | [d1, d2] => { results := [.lit (.bool true)], args := [d1, d2] }
  | _ => none }
def fnExactNumberBlocksRow : OpenClaim := { program := "ytlmjoemjkdailaa", sum := "ecb4286fe9f0056ce0309b6645835c3f9adeb1170b6bf19f4409b0928a64da78", func := "loop.example/setparts/laws.FnExactNumberBlocks", spec := "fnExactNumberBlocks", unfollowed := true, recurses := true, plainKeys := false, apart := false }
def FnExactNumberBlocksSaid : Prop := fnExactNumberBlocksRow.holds Try.pinned (OpenSpec.ofChange fnExactNumberBlocksSpec)

/-- ITS FALSE NEIGHBOUR: 'it returns false'. Refute it at one input. -/
def fnExactNumberBlocksWrong : ChangeSpec := { name := "fnExactNumberBlocks", fn := fun _ => fun
  | [d1, d2] => { results := [.lit (.bool false)], args := [d1, d2] }
  | _ => none }
def FnExactNumberBlocksWrongFalsely : Prop := fnExactNumberBlocksRow.holds Try.pinned (OpenSpec.ofChange fnExactNumberBlocksWrong)

/-- 'laws.FnExactNumberAll': WHATEVER THE INPUT: true; the input reads as it did. -/
def fnExactNumberAllSpec : ChangeSpec := { name := "fnExactNumberAll", fn := fun _ => fun
  | [d] => { results := [.lit (.bool true)], args := [d] }
  | _ => none }
def fnExactNumberAllRow : OpenClaim := { program := "ytlmjoemjkdailaa", sum := "ecb4286fe9f0056ce0309b6645835c3f9adeb1170b6bf19f4409b0928a64da78", func := "loop.example/setparts/laws.FnExactNumberAll", spec := "fnExactNumberAll", unfollowed := true, recurses := true, plainKeys := false, apart := false }
def FnExactNumberAllSaid : Prop := fnExactNumberAllRow.holds Try.pinned (OpenSpec.ofChange fnExactNumberAllSpec)

/-- ITS FALSE NEIGHBOUR: 'it returns false'. Refute it at one input. -/
def fnExactNumberAllWrong : ChangeSpec := { name := "fnExactNumberAll", fn := fun _ => fun
  | [d] => { results := [.lit (.bool false)], args := [d] }
  | _ => none }
def FnExactNumberAllWrongFalsely : Prop := fnExactNumberAllRow.holds Try.pinned (OpenSpec.ofChange fnExactNumberAllWrong)

/-- 'laws.FnExactNumberType': WHATEVER THE INPUT: true; the input reads as it did. -/
def fnExactNumberTypeSpec : ChangeSpec := { name := "fnExactNumberType", fn := fun _ => fun
  | [d] => { results := [.lit (.bool true)], args := [d] }
  | _ => none }
def fnExactNumberTypeRow : OpenClaim := { program := "ytlmjoemjkdailaa", sum := "ecb4286fe9f0056ce0309b6645835c3f9adeb1170b6bf19f4409b0928a64da78", func := "loop.example/setparts/laws.FnExactNumberType", spec := "fnExactNumberType", unfollowed := true, recurses := true, plainKeys := false, apart := false }
def FnExactNumberTypeSaid : Prop := fnExactNumberTypeRow.holds Try.pinned (OpenSpec.ofChange fnExactNumberTypeSpec)

/-- ITS FALSE NEIGHBOUR: 'it returns false'. Refute it at one input. -/
def fnExactNumberTypeWrong : ChangeSpec := { name := "fnExactNumberType", fn := fun _ => fun
  | [d] => { results := [.lit (.bool false)], args := [d] }
  | _ => none }
def FnExactNumberTypeWrongFalsely : Prop := fnExactNumberTypeRow.holds Try.pinned (OpenSpec.ofChange fnExactNumberTypeWrong)

/-- 'laws.FnExactNumberRings': WHATEVER THE INPUT: true; the input reads as it did. -/
def fnExactNumberRingsSpec : ChangeSpec := { name := "fnExactNumberRings", fn := fun _ => fun
  | [d1, d2] => { results := [.lit (.bool true)], args := [d1, d2] }
  | _ => none }
def fnExactNumberRingsRow : OpenClaim := { program := "ytlmjoemjkdailaa", sum := "ecb4286fe9f0056ce0309b6645835c3f9adeb1170b6bf19f4409b0928a64da78", func := "loop.example/setparts/laws.FnExactNumberRings", spec := "fnExactNumberRings", unfollowed := true, recurses := true, plainKeys := false, apart := false }
def FnExactNumberRingsSaid : Prop := fnExactNumberRingsRow.holds Try.pinned (OpenSpec.ofChange fnExactNumberRingsSpec)

/-- ITS FALSE NEIGHBOUR: 'it returns false'. Refute it at one input. -/
def fnExactNumberRingsWrong : ChangeSpec := { name := "fnExactNumberRings", fn := fun _ => fun
  | [d1, d2] => { results := [.lit (.bool false)], args := [d1, d2] }
  | _ => none }
def FnExactNumberRingsWrongFalsely : Prop := fnExactNumberRingsRow.holds Try.pinned (OpenSpec.ofChange fnExactNumberRingsWrong)

/-- 'laws.FnExactNumberRows': WHATEVER THE INPUT: true; the input reads as it did. -/
def fnExactNumberRowsSpec : ChangeSpec := { name := "fnExactNumberRows", fn := fun _ => fun
  | [d1, d2] => { results := [.lit (.bool true)], args := [d1, d2] }
  | _ => none }
def fnExactNumberRowsRow : OpenClaim := { program := "ytlmjoemjkdailaa", sum := "ecb4286fe9f0056ce0309b6645835c3f9adeb1170b6bf19f4409b0928a64da78", func := "loop.example/setparts/laws.FnExactNumberRows", spec := "fnExactNumberRows", unfollowed := true, recurses := true, plainKeys := false, apart := false }
def FnExactNumberRowsSaid : Prop := fnExactNumberRowsRow.holds Try.pinned (OpenSpec.ofChange fnExactNumberRowsSpec)

/-- ITS FALSE NEIGHBOUR: 'it returns false'. Refute it at one input. -/
def fnExactNumberRowsWrong : ChangeSpec := { name := "fnExactNumberRows", fn := fun _ => fun
  | [d1, d2] => { results := [.lit (.bool false)], args := [d1, d2] }
  | _ => none }
def FnExactNumberRowsWrongFalsely : Prop := fnExactNumberRowsRow.holds Try.pinned (OpenSpec.ofChange fnExactNumberRowsWrong)

/-- 'laws.FnExactNumberGreat': WHATEVER THE INPUT: true; the input reads as it did. -/
def fnExactNumberGreatSpec : ChangeSpec := { name := "fnExactNumberGreat", fn := fun _ => fun
  | [d1, d2] => { results := [.lit (.bool true)], args := [d1, d2] }
  | _ => none }
def fnExactNumberGreatRow : OpenClaim := { program := "ytlmjoemjkdailaa", sum := "ecb4286fe9f0056ce0309b6645835c3f9adeb1170b6bf19f4409b0928a64da78", func := "loop.example/setparts/laws.FnExactNumberGreat", spec := "fnExactNumberGreat", unfollowed := true, recurses := true, plainKeys := false, apart := false }
def FnExactNumberGreatSaid : Prop := fnExactNumberGreatRow.holds Try.pinned (OpenSpec.ofChange fnExactNumberGreatSpec)

/-- ITS FALSE NEIGHBOUR: 'it returns false'. Refute it at one input. -/
def fnExactNumberGreatWrong : ChangeSpec := { name := "fnExactNumberGreat", fn := fun _ => fun
  | [d1, d2] => { results := [.lit (.bool false)], args := [d1, d2] }
  | _ => none }
def FnExactNumberGreatWrongFalsely : Prop := fnExactNumberGreatRow.holds Try.pinned (OpenSpec.ofChange fnExactNumberGreatWrong)

/-- 'laws.FnExactNumberMaps': WHATEVER THE INPUT: true; the input reads as it did. -/
def fnExactNumberMapsSpec : ChangeSpec := { name := "fnExactNumberMaps", fn := fun _ => fun
  | [d1, d2] => { results := [.lit (.bool true)], args := [d1, d2] }
  | _ => none }
def fnExactNumberMapsRow : OpenClaim := { program := "ytlmjoemjkdailaa", sum := "ecb4286fe9f0056ce0309b6645835c3f9adeb1170b6bf19f4409b0928a64da78", func := "loop.example/setparts/laws.FnExactNumberMaps", spec := "fnExactNumberMaps", unfollowed := true, recurses := true, plainKeys := false, apart := false }
def FnExactNumberMapsSaid : Prop := fnExactNumberMapsRow.holds Try.pinned (OpenSpec.ofChange fnExactNumberMapsSpec)

/-- ITS FALSE NEIGHBOUR: 'it returns false'. Refute it at one input. -/
def fnExactNumberMapsWrong : ChangeSpec := { name := "fnExactNumberMaps", fn := fun _ => fun
  | [d1, d2] => { results := [.lit (.bool false)], args := [d1, d2] }
  | _ => none }
def FnExactNumberMapsWrongFalsely : Prop := fnExactNumberMapsRow.holds Try.pinned (OpenSpec.ofChange fnExactNumberMapsWrong)

/-- 'laws.FnExactNumberPower': WHATEVER THE INPUT: true; the input reads as it did. -/
def fnExactNumberPowerSpec : ChangeSpec := { name := "fnExactNumberPower", fn := fun _ => fun
  | [d1, d2] => { results := [.lit (.bool true)], args := [d1, d2] }
  | _ => none }
def fnExactNumberPowerRow : OpenClaim := { program := "ytlmjoemjkdailaa", sum := "ecb4286fe9f0056ce0309b6645835c3f9adeb1170b6bf19f4409b0928a64da78", func := "loop.example/setparts/laws.FnExactNumberPower", spec := "fnExactNumberPower", unfollowed := true, recurses := true, plainKeys := false, apart := false }
def FnExactNumberPowerSaid : Prop := fnExactNumberPowerRow.holds Try.pinned (OpenSpec.ofChange fnExactNumberPowerSpec)

/-- ITS FALSE NEIGHBOUR: 'it returns false'. Refute it at one input. -/
def fnExactNumberPowerWrong : ChangeSpec := { name := "fnExactNumberPower", fn := fun _ => fun
  | [d1, d2] => { results := [.lit (.bool false)], args := [d1, d2] }
  | _ => none }
def FnExactNumberPowerWrongFalsely : Prop := fnExactNumberPowerRow.holds Try.pinned (OpenSpec.ofChange fnExactNumberPowerWrong)

/- THE SECOND FORM. 'bulk': how many values and letters a reading holds, each counted each time it is reached (what is shared counts as often as it is met; a slice's spare places count too). A statement '..UptoSaid' is the law's where the arguments, and the package variables that the reading takes, are together of bulk at most 1048576: NARROWER than '..Said'. Prove '..Said' where nothing that the law and all that it calls make is longer than what came in: it says more and counts as full. Else prove '..UptoSaid'. A law counts once. -/
mutual
def uptoBulk {H : Type} : DataW H → Nat
  | .lit (.string bytes) => bytes.length + 1
  | .lit _ => 1
  | .nil => 1
  | .ptr d => uptoBulk d + 1
  | .slice elems spare => uptoBulkAll elems + uptoBulkAll spare + 1
  | .agg parts => uptoBulkAll parts + 1
  | .iface _ d => uptoBulk d + 1
  | .map entries => uptoBulkEntries entries + 1
  | .held _ => 1
def uptoBulkAll {H : Type} : List (DataW H) → Nat
  | [] => 0
  | d :: r => uptoBulk d + uptoBulkAll r
def uptoBulkEntries {H : Type} : List (Lit × DataW H) → Nat
  | [] => 0
  | x :: r => uptoBulkEntry x + uptoBulkEntries r
def uptoBulkEntry {H : Type} : Lit × DataW H → Nat
  | (.string bytes, d) => bytes.length + uptoBulk d + 1
  | (_, d) => uptoBulk d + 1
 end
def uptoSmall : (H : Type) → List (DataW H) → Bool := fun _ ds => decide (uptoBulkAll ds ≤ 1048576)
def OpenSpec.upto (s : _root_.Go.ChangeSpec) : _root_.Go.OpenSpec := { _root_.Go.OpenSpec.ofChange s with cond := some uptoSmall }

/-- 'laws.FnExactNumberBlocks', WHERE WHAT IT READS IS OF BULK AT MOST 1048576: true; the input reads as it did. -/
def fnExactNumberBlocksUptoRow : OpenClaim := { program := "ytlmjoemjkdailaa", sum := "ecb4286fe9f0056ce0309b6645835c3f9adeb1170b6bf19f4409b0928a64da78", func := "loop.example/setparts/laws.FnExactNumberBlocks", spec := "fnExactNumberBlocks", unfollowed := true, recurses := true, plainKeys := false, apart := false, narrowed := true }
def FnExactNumberBlocksUptoSaid : Prop := fnExactNumberBlocksUptoRow.holds Try.pinned (OpenSpec.upto fnExactNumberBlocksSpec)

/-- 'laws.FnExactNumberAll', WHERE WHAT IT READS IS OF BULK AT MOST 1048576: true; the input reads as it did. -/
def fnExactNumberAllUptoRow : OpenClaim := { program := "ytlmjoemjkdailaa", sum := "ecb4286fe9f0056ce0309b6645835c3f9adeb1170b6bf19f4409b0928a64da78", func := "loop.example/setparts/laws.FnExactNumberAll", spec := "fnExactNumberAll", unfollowed := true, recurses := true, plainKeys := false, apart := false, narrowed := true }
def FnExactNumberAllUptoSaid : Prop := fnExactNumberAllUptoRow.holds Try.pinned (OpenSpec.upto fnExactNumberAllSpec)

/-- 'laws.FnExactNumberType', WHERE WHAT IT READS IS OF BULK AT MOST 1048576: true; the input reads as it did. -/
def fnExactNumberTypeUptoRow : OpenClaim := { program := "ytlmjoemjkdailaa", sum := "ecb4286fe9f0056ce0309b6645835c3f9adeb1170b6bf19f4409b0928a64da78", func := "loop.example/setparts/laws.FnExactNumberType", spec := "fnExactNumberType", unfollowed := true, recurses := true, plainKeys := false, apart := false, narrowed := true }
def FnExactNumberTypeUptoSaid : Prop := fnExactNumberTypeUptoRow.holds Try.pinned (OpenSpec.upto fnExactNumberTypeSpec)

/-- 'laws.FnExactNumberRings', WHERE WHAT IT READS IS OF BULK AT MOST 1048576: true; the input reads as it did. -/
def fnExactNumberRingsUptoRow : OpenClaim := { program := "ytlmjoemjkdailaa", sum := "ecb4286fe9f0056ce0309b6645835c3f9adeb1170b6bf19f4409b0928a64da78", func := "loop.example/setparts/laws.FnExactNumberRings", spec := "fnExactNumberRings", unfollowed := true, recurses := true, plainKeys := false, apart := false, narrowed := true }
def FnExactNumberRingsUptoSaid : Prop := fnExactNumberRingsUptoRow.holds Try.pinned (OpenSpec.upto fnExactNumberRingsSpec)

/-- 'laws.FnExactNumberRows', WHERE WHAT IT READS IS OF BULK AT MOST 1048576: true; the input reads as it did. -/
def fnExactNumberRowsUptoRow : OpenClaim := { program := "ytlmjoemjkdailaa", sum := "ecb4286fe9f0056ce0309b6645835c3f9adeb1170b6bf19f4409b0928a64da78", func := "loop.example/setparts/laws.FnExactNumberRows", spec := "fnExactNumberRows", unfollowed := true, recurses := true, plainKeys := false, apart := false, narrowed := true }
def FnExactNumberRowsUptoSaid : Prop := fnExactNumberRowsUptoRow.holds Try.pinned (OpenSpec.upto fnExactNumberRowsSpec)

/-- 'laws.FnExactNumberGreat', WHERE WHAT IT READS IS OF BULK AT MOST 1048576: true; the input reads as it did. -/
def fnExactNumberGreatUptoRow : OpenClaim := { program := "ytlmjoemjkdailaa", sum := "ecb4286fe9f0056ce0309b6645835c3f9adeb1170b6bf19f4409b0928a64da78", func := "loop.example/setparts/laws.FnExactNumberGreat", spec := "fnExactNumberGreat", unfollowed := true, recurses := true, plainKeys := false, apart := false, narrowed := true }
def FnExactNumberGreatUptoSaid : Prop := fnExactNumberGreatUptoRow.holds Try.pinned (OpenSpec.upto fnExactNumberGreatSpec)

/-- 'laws.FnExactNumberMaps', WHERE WHAT IT READS IS OF BULK AT MOST 1048576: true; the input reads as it did. -/
def fnExactNumberMapsUptoRow : OpenClaim := { program := "ytlmjoemjkdailaa", sum := "ecb4286fe9f0056ce0309b6645835c3f9adeb1170b6bf19f4409b0928a64da78", func := "loop.example/setparts/laws.FnExactNumberMaps", spec := "fnExactNumberMaps", unfollowed := true, recurses := true, plainKeys := false, apart := false, narrowed := true }
def FnExactNumberMapsUptoSaid : Prop := fnExactNumberMapsUptoRow.holds Try.pinned (OpenSpec.upto fnExactNumberMapsSpec)

/-- 'laws.FnExactNumberPower', WHERE WHAT IT READS IS OF BULK AT MOST 1048576: true; the input reads as it did. -/
def fnExactNumberPowerUptoRow : OpenClaim := { program := "ytlmjoemjkdailaa", sum := "ecb4286fe9f0056ce0309b6645835c3f9adeb1170b6bf19f4409b0928a64da78", func := "loop.example/setparts/laws.FnExactNumberPower", spec := "fnExactNumberPower", unfollowed := true, recurses := true, plainKeys := false, apart := false, narrowed := true }
def FnExactNumberPowerUptoSaid : Prop := fnExactNumberPowerUptoRow.holds Try.pinned (OpenSpec.upto fnExactNumberPowerSpec)

end Rows
end Go.Proofs.Ytlmjoemjkdailaa
