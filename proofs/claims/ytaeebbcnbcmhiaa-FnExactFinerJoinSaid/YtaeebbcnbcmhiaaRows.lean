/-
  No cell of these rows narrows 'for every input' (looked for: loops, veiled, ifaces, maps, wideKeys, modest, calm, conditions, laid).
  DERIVED. THE GIVEN ROWS OF THIS SEAT. 9 by the template 'for every input the law returns true; each argument reads behind the call as it read before'; 0 by the template 'total and deterministic' (their statements: YtaeebbcnbcmhiaaTotals.lean).
  GIVEN WITH THE SEED: the statements are not yours to turn. If you find one false, say at which input.
  Laid BY PROGRAM, IN A SANDBOX (cutbox-rows.mjs): the forced cells as the released guide's own fill.sh prints them over the translation 7cfd3211a67d76a4… (all of the seat's roots in one cut). By AI agents, Wed Nov 11 2026. No macro, syntax, notation, axiom, sorry.
-/
import Derived.Test.YtaeebbcnbcmhiaaChecked
import GoSem.Claim
import GoSem.ClaimJoined
import GoSem.ClaimMapViews
import Derived.JoinedTies
import Derived.KernelRfl
namespace Go.Proofs.Ytaeebbcnbcmhiaa
/- THE CELL 'sum', in the pinned program and in every row, IS THE sha256 OF THE DUMP (.gsa) THAT YtaeebbcnbcmhiaaProg.lean LOADS. Nothing in Lean hashes anything: it is a label: what it is worth is what the hold of that sum in a sandbox is worth. -/
noncomputable def Try.pinned : Pinned := { name := "ytaeebbcnbcmhiaa", sum := "7cfd3211a67d76a4b48ccfb184bb817f2476a344c7e26850b02446d157bf3dff", checked := Try.checked }
namespace Rows
def none {H : Type} : Left H := { results := [], args := [] }

/-- 'laws.FnExactFinerIn': WHATEVER THE INPUT: true; the input reads as it did. -/
def fnExactFinerInSpec : ChangeSpec := { name := "fnExactFinerIn", fn := fun _ => fun
  | [d1, d2] => { results := [.lit (.bool true)], args := [d1, d2] }
  | _ => none }
def fnExactFinerInRow : OpenClaim := { program := "ytaeebbcnbcmhiaa", sum := "7cfd3211a67d76a4b48ccfb184bb817f2476a344c7e26850b02446d157bf3dff", func := "loop.example/setparts/laws.FnExactFinerIn", spec := "fnExactFinerIn", apart := false }
def FnExactFinerInSaid : Prop := fnExactFinerInRow.holds Try.pinned (OpenSpec.ofChange fnExactFinerInSpec)

/-- ITS FALSE NEIGHBOUR: 'it returns false'. Refute it at one input. -/
def fnExactFinerInWrong : ChangeSpec := { name := "fnExactFinerIn", fn := fun _ => fun
  | [d1, d2] => { results := [.lit (.bool false)], args := [d1, d2] }
  | _ => none }
def FnExactFinerInWrongFalsely : Prop := fnExactFinerInRow.holds Try.pinned (OpenSpec.ofChange fnExactFinerInWrong)

/-- 'laws.FnExactFinerMeet': WHATEVER THE INPUT: true; the input reads as it did. -/
def fnExactFinerMeetSpec : ChangeSpec := { name := "fnExactFinerMeet", fn := fun _ => fun
  | [d1, d2] => { results := [.lit (.bool true)], args := [d1, d2] }
  | _ => none }
def fnExactFinerMeetRow : OpenClaim := { program := "ytaeebbcnbcmhiaa", sum := "7cfd3211a67d76a4b48ccfb184bb817f2476a344c7e26850b02446d157bf3dff", func := "loop.example/setparts/laws.FnExactFinerMeet", spec := "fnExactFinerMeet", apart := false }
def FnExactFinerMeetSaid : Prop := fnExactFinerMeetRow.holds Try.pinned (OpenSpec.ofChange fnExactFinerMeetSpec)

/-- ITS FALSE NEIGHBOUR: 'it returns false'. Refute it at one input. -/
def fnExactFinerMeetWrong : ChangeSpec := { name := "fnExactFinerMeet", fn := fun _ => fun
  | [d1, d2] => { results := [.lit (.bool false)], args := [d1, d2] }
  | _ => none }
def FnExactFinerMeetWrongFalsely : Prop := fnExactFinerMeetRow.holds Try.pinned (OpenSpec.ofChange fnExactFinerMeetWrong)

/-- 'laws.FnExactFinerJoin': WHATEVER THE INPUT: true; the input reads as it did. -/
def fnExactFinerJoinSpec : ChangeSpec := { name := "fnExactFinerJoin", fn := fun _ => fun
  | [d1, d2] => { results := [.lit (.bool true)], args := [d1, d2] }
  | _ => none }
def fnExactFinerJoinRow : OpenClaim := { program := "ytaeebbcnbcmhiaa", sum := "7cfd3211a67d76a4b48ccfb184bb817f2476a344c7e26850b02446d157bf3dff", func := "loop.example/setparts/laws.FnExactFinerJoin", spec := "fnExactFinerJoin", apart := false }
def FnExactFinerJoinSaid : Prop := fnExactFinerJoinRow.holds Try.pinned (OpenSpec.ofChange fnExactFinerJoinSpec)

/-- ITS FALSE NEIGHBOUR: 'it returns false'. Refute it at one input. -/
def fnExactFinerJoinWrong : ChangeSpec := { name := "fnExactFinerJoin", fn := fun _ => fun
  | [d1, d2] => { results := [.lit (.bool false)], args := [d1, d2] }
  | _ => none }
def FnExactFinerJoinWrongFalsely : Prop := fnExactFinerJoinRow.holds Try.pinned (OpenSpec.ofChange fnExactFinerJoinWrong)

/-- 'laws.FnExactFinerRank': WHATEVER THE INPUT: true; the input reads as it did. -/
def fnExactFinerRankSpec : ChangeSpec := { name := "fnExactFinerRank", fn := fun _ => fun
  | [d] => { results := [.lit (.bool true)], args := [d] }
  | _ => none }
def fnExactFinerRankRow : OpenClaim := { program := "ytaeebbcnbcmhiaa", sum := "7cfd3211a67d76a4b48ccfb184bb817f2476a344c7e26850b02446d157bf3dff", func := "loop.example/setparts/laws.FnExactFinerRank", spec := "fnExactFinerRank", apart := false }
def FnExactFinerRankSaid : Prop := fnExactFinerRankRow.holds Try.pinned (OpenSpec.ofChange fnExactFinerRankSpec)

/-- ITS FALSE NEIGHBOUR: 'it returns false'. Refute it at one input. -/
def fnExactFinerRankWrong : ChangeSpec := { name := "fnExactFinerRank", fn := fun _ => fun
  | [d] => { results := [.lit (.bool false)], args := [d] }
  | _ => none }
def FnExactFinerRankWrongFalsely : Prop := fnExactFinerRankRow.holds Try.pinned (OpenSpec.ofChange fnExactFinerRankWrong)

/-- 'laws.FnExactFinerMerges': WHATEVER THE INPUT: true; the input reads as it did. -/
def fnExactFinerMergesSpec : ChangeSpec := { name := "fnExactFinerMerges", fn := fun _ => fun
  | [d] => { results := [.lit (.bool true)], args := [d] }
  | _ => none }
def fnExactFinerMergesRow : OpenClaim := { program := "ytaeebbcnbcmhiaa", sum := "7cfd3211a67d76a4b48ccfb184bb817f2476a344c7e26850b02446d157bf3dff", func := "loop.example/setparts/laws.FnExactFinerMerges", spec := "fnExactFinerMerges", apart := false }
def FnExactFinerMergesSaid : Prop := fnExactFinerMergesRow.holds Try.pinned (OpenSpec.ofChange fnExactFinerMergesSpec)

/-- ITS FALSE NEIGHBOUR: 'it returns false'. Refute it at one input. -/
def fnExactFinerMergesWrong : ChangeSpec := { name := "fnExactFinerMerges", fn := fun _ => fun
  | [d] => { results := [.lit (.bool false)], args := [d] }
  | _ => none }
def FnExactFinerMergesWrongFalsely : Prop := fnExactFinerMergesRow.holds Try.pinned (OpenSpec.ofChange fnExactFinerMergesWrong)

/-- 'laws.FnExactFinerSplits': WHATEVER THE INPUT: true; the input reads as it did. -/
def fnExactFinerSplitsSpec : ChangeSpec := { name := "fnExactFinerSplits", fn := fun _ => fun
  | [d] => { results := [.lit (.bool true)], args := [d] }
  | _ => none }
def fnExactFinerSplitsRow : OpenClaim := { program := "ytaeebbcnbcmhiaa", sum := "7cfd3211a67d76a4b48ccfb184bb817f2476a344c7e26850b02446d157bf3dff", func := "loop.example/setparts/laws.FnExactFinerSplits", spec := "fnExactFinerSplits", unfollowed := true, recurses := true, apart := false }
def FnExactFinerSplitsSaid : Prop := fnExactFinerSplitsRow.holds Try.pinned (OpenSpec.ofChange fnExactFinerSplitsSpec)

/-- ITS FALSE NEIGHBOUR: 'it returns false'. Refute it at one input. -/
def fnExactFinerSplitsWrong : ChangeSpec := { name := "fnExactFinerSplits", fn := fun _ => fun
  | [d] => { results := [.lit (.bool false)], args := [d] }
  | _ => none }
def FnExactFinerSplitsWrongFalsely : Prop := fnExactFinerSplitsRow.holds Try.pinned (OpenSpec.ofChange fnExactFinerSplitsWrong)

/-- 'laws.FnExactFinerInterval': WHATEVER THE INPUT: true; the input reads as it did. -/
def fnExactFinerIntervalSpec : ChangeSpec := { name := "fnExactFinerInterval", fn := fun _ => fun
  | [d1, d2] => { results := [.lit (.bool true)], args := [d1, d2] }
  | _ => none }
def fnExactFinerIntervalRow : OpenClaim := { program := "ytaeebbcnbcmhiaa", sum := "7cfd3211a67d76a4b48ccfb184bb817f2476a344c7e26850b02446d157bf3dff", func := "loop.example/setparts/laws.FnExactFinerInterval", spec := "fnExactFinerInterval", apart := false }
def FnExactFinerIntervalSaid : Prop := fnExactFinerIntervalRow.holds Try.pinned (OpenSpec.ofChange fnExactFinerIntervalSpec)

/-- ITS FALSE NEIGHBOUR: 'it returns false'. Refute it at one input. -/
def fnExactFinerIntervalWrong : ChangeSpec := { name := "fnExactFinerInterval", fn := fun _ => fun
  | [d1, d2] => { results := [.lit (.bool false)], args := [d1, d2] }
  | _ => none }
def FnExactFinerIntervalWrongFalsely : Prop := fnExactFinerIntervalRow.holds Try.pinned (OpenSpec.ofChange fnExactFinerIntervalWrong)

/-- 'laws.FnExactFinerSign': WHATEVER THE INPUT: true; the input reads as it did. -/
def fnExactFinerSignSpec : ChangeSpec := { name := "fnExactFinerSign", fn := fun _ => fun
  | [d1, d2] => { results := [.lit (.bool true)], args := [d1, d2] }
  | _ => none }
def fnExactFinerSignRow : OpenClaim := { program := "ytaeebbcnbcmhiaa", sum := "7cfd3211a67d76a4b48ccfb184bb817f2476a344c7e26850b02446d157bf3dff", func := "loop.example/setparts/laws.FnExactFinerSign", spec := "fnExactFinerSign", apart := false }
def FnExactFinerSignSaid : Prop := fnExactFinerSignRow.holds Try.pinned (OpenSpec.ofChange fnExactFinerSignSpec)

/-- ITS FALSE NEIGHBOUR: 'it returns false'. Refute it at one input. -/
def fnExactFinerSignWrong : ChangeSpec := { name := "fnExactFinerSign", fn := fun _ => fun
  | [d1, d2] => { results := [.lit (.bool false)], args := [d1, d2] }
  | _ => none }
def FnExactFinerSignWrongFalsely : Prop := fnExactFinerSignRow.holds Try.pinned (OpenSpec.ofChange fnExactFinerSignWrong)

/-- 'laws.FnExactFinerChains': WHATEVER THE INPUT: true; the input reads as it did. -/
def fnExactFinerChainsSpec : ChangeSpec := { name := "fnExactFinerChains", fn := fun _ => fun
  | [d] => { results := [.lit (.bool true)], args := [d] }
  | _ => none }
def fnExactFinerChainsRow : OpenClaim := { program := "ytaeebbcnbcmhiaa", sum := "7cfd3211a67d76a4b48ccfb184bb817f2476a344c7e26850b02446d157bf3dff", func := "loop.example/setparts/laws.FnExactFinerChains", spec := "fnExactFinerChains", apart := false }
def FnExactFinerChainsSaid : Prop := fnExactFinerChainsRow.holds Try.pinned (OpenSpec.ofChange fnExactFinerChainsSpec)

/-- ITS FALSE NEIGHBOUR: 'it returns false'. Refute it at one input. -/
def fnExactFinerChainsWrong : ChangeSpec := { name := "fnExactFinerChains", fn := fun _ => fun
  | [d] => { results := [.lit (.bool false)], args := [d] }
  | _ => none }
def FnExactFinerChainsWrongFalsely : Prop := fnExactFinerChainsRow.holds Try.pinned (OpenSpec.ofChange fnExactFinerChainsWrong)

/- THE SECOND FORM. 'bulk': how many values and letters a reading holds, each counted each time it is reached (what is shared counts as often as it is met; a slice's spare places count too). A statement '..UptoSaid' is the law's where the arguments, and the package variables that the reading takes, are together of bulk at most 1048576: NARROWER than '..Said'. Prove '..Said' where nothing that the law and all that it calls make is longer than what came in: it says more and counts as full. Else prove '..UptoSaid'. A law counts once. -/
mutual
def uptoBulk {H : Type} : DataW H → Nat
  | .lit (.string bytes) => bytes.length + 1
  | .lit _ => 1
  | .nil => 1
  | .ptr d => uptoBulk d + 1
  | .slice elems spare => uptoBulkAll elems + uptoBulkAll spare + 1
  | .agg parts => uptoBulkAll parts + 1
  | .iface _ d => uptoBulk d + 1
  | .map entries => uptoBulkEntries entries + 1
  | .held _ => 1
def uptoBulkAll {H : Type} : List (DataW H) → Nat
  | [] => 0
  | d :: r => uptoBulk d + uptoBulkAll r
def uptoBulkEntries {H : Type} : List (Lit × DataW H) → Nat
  | [] => 0
  | x :: r => uptoBulkEntry x + uptoBulkEntries r
def uptoBulkEntry {H : Type} : Lit × DataW H → Nat
  | (.string bytes, d) => bytes.length + uptoBulk d + 1
  | (_, d) => uptoBulk d + 1
 end
def uptoSmall : (H : Type) → List (DataW H) → Bool := fun _ ds => decide (uptoBulkAll ds ≤ 1048576)
def OpenSpec.upto (s : _root_.Go.ChangeSpec) : _root_.Go.OpenSpec := { _root_.Go.OpenSpec.ofChange s with cond := some uptoSmall }

/-- 'laws.FnExactFinerIn', WHERE WHAT IT READS IS OF BULK AT MOST 1048576: true; the input reads as it did. -/
def fnExactFinerInUptoRow : OpenClaim := { program := "ytaeebbcnbcmhiaa", sum := "7cfd3211a67d76a4b48ccfb184bb817f2476a344c7e26850b02446d157bf3dff", func := "loop.example/setparts/laws.FnExactFinerIn", spec := "fnExactFinerIn", apart := false, narrowed := true }
def FnExactFinerInUptoSaid : Prop := fnExactFinerInUptoRow.holds Try.pinned (OpenSpec.upto fnExactFinerInSpec)

/-- 'laws.FnExactFinerMeet', WHERE WHAT IT READS IS OF BULK AT MOST 1048576: true; the input reads as it did. -/
def fnExactFinerMeetUptoRow : OpenClaim := { program := "ytaeebbcnbcmhiaa", sum := "7cfd3211a67d76a4b48ccfb184bb817f2476a344c7e26850b02446d157bf3dff", func := "loop.example/setparts/laws.FnExactFinerMeet", spec := "fnExactFinerMeet", apart := false, narrowed := true }
def FnExactFinerMeetUptoSaid : Prop := fnExactFinerMeetUptoRow.holds Try.pinned (OpenSpec.upto fnExactFinerMeetSpec)

/-- 'laws.FnExactFinerJoin', WHERE WHAT IT READS IS OF BULK AT MOST 1048576: true; the input reads as it did. -/
def fnExactFinerJoinUptoRow : OpenClaim := { program := "ytaeebbcnbcmhiaa", sum := "7cfd3211a67d76a4b48ccfb184bb817f2476a344c7e26850b02446d157bf3dff", func := "loop.example/setparts/laws.FnExactFinerJoin", spec := "fnExactFinerJoin", apart := false, narrowed := true }
def FnExactFinerJoinUptoSaid : Prop := fnExactFinerJoinUptoRow.holds Try.pinned (OpenSpec.upto fnExactFinerJoinSpec)

/-- 'laws.FnExactFinerRank', WHERE WHAT IT READS IS OF BULK AT MOST 1048576: true; the input reads as it did. -/
def fnExactFinerRankUptoRow : OpenClaim := { program := "ytaeebbcnbcmhiaa", sum := "7cfd3211a67d76a4b48ccfb184bb817f2476a344c7e26850b02446d157bf3dff", func := "loop.example/setparts/laws.FnExactFinerRank", spec := "fnExactFinerRank", apart := false, narrowed := true }
def FnExactFinerRankUptoSaid : Prop := fnExactFinerRankUptoRow.holds Try.pinned (OpenSpec.upto fnExactFinerRankSpec)

/-- 'laws.FnExactFinerMerges', WHERE WHAT IT READS IS OF BULK AT MOST 1048576: true; the input reads as it did. -/
def fnExactFinerMergesUptoRow : OpenClaim := { program := "ytaeebbcnbcmhiaa", sum := "7cfd3211a67d76a4b48ccfb184bb817f2476a344c7e26850b02446d157bf3dff", func := "loop.example/setparts/laws.FnExactFinerMerges", spec := "fnExactFinerMerges", apart := false, narrowed := true }
def FnExactFinerMergesUptoSaid : Prop := fnExactFinerMergesUptoRow.holds Try.pinned (OpenSpec.upto fnExactFinerMergesSpec)

/-- 'laws.FnExactFinerSplits', WHERE WHAT IT READS IS OF BULK AT MOST 1048576: true; the input reads as it did. -/
def fnExactFinerSplitsUptoRow : OpenClaim := { program := "ytaeebbcnbcmhiaa", sum := "7cfd3211a67d76a4b48ccfb184bb817f2476a344c7e26850b02446d157bf3dff", func := "loop.example/setparts/laws.FnExactFinerSplits", spec := "fnExactFinerSplits", unfollowed := true, recurses := true, apart := false, narrowed := true }
def FnExactFinerSplitsUptoSaid : Prop := fnExactFinerSplitsUptoRow.holds Try.pinned (OpenSpec.upto fnExactFinerSplitsSpec)

/-- 'laws.FnExactFinerInterval', WHERE WHAT IT READS IS OF BULK AT MOST 1048576: true; the input reads as it did. -/
def fnExactFinerIntervalUptoRow : OpenClaim := { program := "ytaeebbcnbcmhiaa", sum := "7cfd3211a67d76a4b48ccfb184bb817f2476a344c7e26850b02446d157bf3dff", func := "loop.example/setparts/laws.FnExactFinerInterval", spec := "fnExactFinerInterval", apart := false, narrowed := true }
def FnExactFinerIntervalUptoSaid : Prop := fnExactFinerIntervalUptoRow.holds Try.pinned (OpenSpec.upto fnExactFinerIntervalSpec)

/-- 'laws.FnExactFinerSign', WHERE WHAT IT READS IS OF BULK AT MOST 1048576: true; the input reads as it did. -/
def fnExactFinerSignUptoRow : OpenClaim := { program := "ytaeebbcnbcmhiaa", sum := "7cfd3211a67d76a4b48ccfb184bb817f2476a344c7e26850b02446d157bf3dff", func := "loop.example/setparts/laws.FnExactFinerSign", spec := "fnExactFinerSign", apart := false, narrowed := true }
def FnExactFinerSignUptoSaid : Prop := fnExactFinerSignUptoRow.holds Try.pinned (OpenSpec.upto fnExactFinerSignSpec)

/-- 'laws.FnExactFinerChains', WHERE WHAT IT READS IS OF BULK AT MOST 1048576: true; the input reads as it did. -/
def fnExactFinerChainsUptoRow : OpenClaim := { program := "ytaeebbcnbcmhiaa", sum := "7cfd3211a67d76a4b48ccfb184bb817f2476a344c7e26850b02446d157bf3dff", func := "loop.example/setparts/laws.FnExactFinerChains", spec := "fnExactFinerChains", apart := false, narrowed := true }
def FnExactFinerChainsUptoSaid : Prop := fnExactFinerChainsUptoRow.holds Try.pinned (OpenSpec.upto fnExactFinerChainsSpec)

end Rows
end Go.Proofs.Ytaeebbcnbcmhiaa
