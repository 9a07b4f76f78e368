/-
  No cell of these rows narrows 'for every input' (looked for: loops, veiled, ifaces, maps, wideKeys, modest, calm, conditions, laid).
  DERIVED. THE GIVEN ROWS OF THIS SEAT. 8 by the template 'for every input the law returns true; each argument reads behind the call as it read before'; 0 by the template 'total and deterministic' (their statements: YtjmmhonlkpmmoaaTotals.lean).
  GIVEN WITH THE SEED: the statements are not yours to turn. If you find one false, say at which input.
  Laid BY PROGRAM, IN A SANDBOX (cutbox-rows.mjs): the forced cells as the released guide's own fill.sh prints them over the translation f7a1e017ae9b34a8… (all of the seat's roots in one cut). By AI agents, Wed Nov 11 2026. No macro, syntax, notation, axiom, sorry.
-/
import Derived.Test.YtjmmhonlkpmmoaaChecked
import GoSem.Claim
import GoSem.ClaimJoined
import GoSem.ClaimMapViews
import Derived.JoinedTies
import Derived.KernelRfl
namespace Go.Proofs.Ytjmmhonlkpmmoaa
/- THE CELL 'sum', in the pinned program and in every row, IS THE sha256 OF THE DUMP (.gsa) THAT YtjmmhonlkpmmoaaProg.lean LOADS. Nothing in Lean hashes anything: it is a label: what it is worth is what the hold of that sum in a sandbox is worth. -/
noncomputable def Try.pinned : Pinned := { name := "ytjmmhonlkpmmoaa", sum := "f7a1e017ae9b34a89dd56eab1178c22b4847963538ac06f82cf8472d9ca7d84e", checked := Try.checked }
namespace Rows
def none {H : Type} : Left H := { results := [], args := [] }

/-- 'laws.FnSign': WHATEVER THE INPUT: true; the input reads as it did. -/
def fnSignSpec : ChangeSpec := { name := "fnSign", fn := fun _ => fun
  | [d] => { results := [.lit (.bool true)], args := [d] }
  | _ => none }
def fnSignRow : OpenClaim := { program := "ytjmmhonlkpmmoaa", sum := "f7a1e017ae9b34a89dd56eab1178c22b4847963538ac06f82cf8472d9ca7d84e", func := "loop.example/setparts/laws.FnSign", spec := "fnSign", unfollowed := true, recurses := true, plainKeys := false, apart := false }
def FnSignSaid : Prop := fnSignRow.holds Try.pinned (OpenSpec.ofChange fnSignSpec)

/-- ITS FALSE NEIGHBOUR: 'it returns false'. Refute it at one input. -/
def fnSignWrong : ChangeSpec := { name := "fnSign", fn := fun _ => fun
  | [d] => { results := [.lit (.bool false)], args := [d] }
  | _ => none }
def FnSignWrongFalsely : Prop := fnSignRow.holds Try.pinned (OpenSpec.ofChange fnSignWrong)

/-- 'laws.FnListAll': WHATEVER THE INPUT: true; the input reads as it did. -/
def fnListAllSpec : ChangeSpec := { name := "fnListAll", fn := fun _ => fun
  | [d] => { results := [.lit (.bool true)], args := [d] }
  | _ => none }
def fnListAllRow : OpenClaim := { program := "ytjmmhonlkpmmoaa", sum := "f7a1e017ae9b34a89dd56eab1178c22b4847963538ac06f82cf8472d9ca7d84e", func := "loop.example/setparts/laws.FnListAll", spec := "fnListAll", unfollowed := true, recurses := true, plainKeys := false, apart := false }
def FnListAllSaid : Prop := fnListAllRow.holds Try.pinned (OpenSpec.ofChange fnListAllSpec)

/-- ITS FALSE NEIGHBOUR: 'it returns false'. Refute it at one input. -/
def fnListAllWrong : ChangeSpec := { name := "fnListAll", fn := fun _ => fun
  | [d] => { results := [.lit (.bool false)], args := [d] }
  | _ => none }
def FnListAllWrongFalsely : Prop := fnListAllRow.holds Try.pinned (OpenSpec.ofChange fnListAllWrong)

/-- 'laws.FnPlace': WHATEVER THE INPUT: true; the input reads as it did. -/
def fnPlaceSpec : ChangeSpec := { name := "fnPlace", fn := fun _ => fun
  | [d] => { results := [.lit (.bool true)], args := [d] }
  | _ => none }
def fnPlaceRow : OpenClaim := { program := "ytjmmhonlkpmmoaa", sum := "f7a1e017ae9b34a89dd56eab1178c22b4847963538ac06f82cf8472d9ca7d84e", func := "loop.example/setparts/laws.FnPlace", spec := "fnPlace", recurses := true, plainKeys := false, apart := false }
def FnPlaceSaid : Prop := fnPlaceRow.holds Try.pinned (OpenSpec.ofChange fnPlaceSpec)

/-- ITS FALSE NEIGHBOUR: 'it returns false'. Refute it at one input. -/
def fnPlaceWrong : ChangeSpec := { name := "fnPlace", fn := fun _ => fun
  | [d] => { results := [.lit (.bool false)], args := [d] }
  | _ => none }
def FnPlaceWrongFalsely : Prop := fnPlaceRow.holds Try.pinned (OpenSpec.ofChange fnPlaceWrong)

/-- 'laws.FnAt': WHATEVER THE INPUT: true; the input reads as it did. -/
def fnAtSpec : ChangeSpec := { name := "fnAt", fn := fun _ => fun
  | [d] => { results := [.lit (.bool true)], args := [d] }
  | _ => none }
def fnAtRow : OpenClaim := { program := "ytjmmhonlkpmmoaa", sum := "f7a1e017ae9b34a89dd56eab1178c22b4847963538ac06f82cf8472d9ca7d84e", func := "loop.example/setparts/laws.FnAt", spec := "fnAt", recurses := true, plainKeys := false, apart := false }
def FnAtSaid : Prop := fnAtRow.holds Try.pinned (OpenSpec.ofChange fnAtSpec)

/-- ITS FALSE NEIGHBOUR: 'it returns false'. Refute it at one input. -/
def fnAtWrong : ChangeSpec := { name := "fnAt", fn := fun _ => fun
  | [d] => { results := [.lit (.bool false)], args := [d] }
  | _ => none }
def FnAtWrongFalsely : Prop := fnAtRow.holds Try.pinned (OpenSpec.ofChange fnAtWrong)

/-- 'laws.FnNext': WHATEVER THE INPUT: true; the input reads as it did. -/
def fnNextSpec : ChangeSpec := { name := "fnNext", fn := fun _ => fun
  | [d] => { results := [.lit (.bool true)], args := [d] }
  | _ => none }
def fnNextRow : OpenClaim := { program := "ytjmmhonlkpmmoaa", sum := "f7a1e017ae9b34a89dd56eab1178c22b4847963538ac06f82cf8472d9ca7d84e", func := "loop.example/setparts/laws.FnNext", spec := "fnNext", recurses := true, plainKeys := false, apart := false }
def FnNextSaid : Prop := fnNextRow.holds Try.pinned (OpenSpec.ofChange fnNextSpec)

/-- ITS FALSE NEIGHBOUR: 'it returns false'. Refute it at one input. -/
def fnNextWrong : ChangeSpec := { name := "fnNext", fn := fun _ => fun
  | [d] => { results := [.lit (.bool false)], args := [d] }
  | _ => none }
def FnNextWrongFalsely : Prop := fnNextRow.holds Try.pinned (OpenSpec.ofChange fnNextWrong)

/-- 'laws.FnBefore': WHATEVER THE INPUT: true; the input reads as it did. -/
def fnBeforeSpec : ChangeSpec := { name := "fnBefore", fn := fun _ => fun
  | [d] => { results := [.lit (.bool true)], args := [d] }
  | _ => none }
def fnBeforeRow : OpenClaim := { program := "ytjmmhonlkpmmoaa", sum := "f7a1e017ae9b34a89dd56eab1178c22b4847963538ac06f82cf8472d9ca7d84e", func := "loop.example/setparts/laws.FnBefore", spec := "fnBefore", recurses := true, plainKeys := false, apart := false }
def FnBeforeSaid : Prop := fnBeforeRow.holds Try.pinned (OpenSpec.ofChange fnBeforeSpec)

/-- ITS FALSE NEIGHBOUR: 'it returns false'. Refute it at one input. -/
def fnBeforeWrong : ChangeSpec := { name := "fnBefore", fn := fun _ => fun
  | [d] => { results := [.lit (.bool false)], args := [d] }
  | _ => none }
def FnBeforeWrongFalsely : Prop := fnBeforeRow.holds Try.pinned (OpenSpec.ofChange fnBeforeWrong)

/-- 'laws.FnListBlocks': WHATEVER THE INPUT: true; the input reads as it did. -/
def fnListBlocksSpec : ChangeSpec := { name := "fnListBlocks", fn := fun _ => fun
  | [d] => { results := [.lit (.bool true)], args := [d] }
  | _ => none }
def fnListBlocksRow : OpenClaim := { program := "ytjmmhonlkpmmoaa", sum := "f7a1e017ae9b34a89dd56eab1178c22b4847963538ac06f82cf8472d9ca7d84e", func := "loop.example/setparts/laws.FnListBlocks", spec := "fnListBlocks", unfollowed := true, recurses := true, plainKeys := false, apart := false }
def FnListBlocksSaid : Prop := fnListBlocksRow.holds Try.pinned (OpenSpec.ofChange fnListBlocksSpec)

/-- ITS FALSE NEIGHBOUR: 'it returns false'. Refute it at one input. -/
def fnListBlocksWrong : ChangeSpec := { name := "fnListBlocks", fn := fun _ => fun
  | [d] => { results := [.lit (.bool false)], args := [d] }
  | _ => none }
def FnListBlocksWrongFalsely : Prop := fnListBlocksRow.holds Try.pinned (OpenSpec.ofChange fnListBlocksWrong)

/-- 'laws.FnOpen': WHATEVER THE INPUT: true; the input reads as it did. -/
def fnOpenSpec : ChangeSpec := { name := "fnOpen", fn := fun _ => fun
  | [d] => { results := [.lit (.bool true)], args := [d] }
  | _ => none }
def fnOpenRow : OpenClaim := { program := "ytjmmhonlkpmmoaa", sum := "f7a1e017ae9b34a89dd56eab1178c22b4847963538ac06f82cf8472d9ca7d84e", func := "loop.example/setparts/laws.FnOpen", spec := "fnOpen", recurses := true, plainKeys := false, apart := false }
def FnOpenSaid : Prop := fnOpenRow.holds Try.pinned (OpenSpec.ofChange fnOpenSpec)

/-- ITS FALSE NEIGHBOUR: 'it returns false'. Refute it at one input. -/
def fnOpenWrong : ChangeSpec := { name := "fnOpen", fn := fun _ => fun
  | [d] => { results := [.lit (.bool false)], args := [d] }
  | _ => none }
def FnOpenWrongFalsely : Prop := fnOpenRow.holds Try.pinned (OpenSpec.ofChange fnOpenWrong)

/- THE SECOND FORM. 'bulk': how many values and letters a reading holds, each counted each time it is reached (what is shared counts as often as it is met; a slice's spare places count too). A statement '..UptoSaid' is the law's where the arguments, and the package variables that the reading takes, are together of bulk at most 1048576: NARROWER than '..Said'. Prove '..Said' where nothing that the law and all that it calls make is longer than what came in: it says more and counts as full. Else prove '..UptoSaid'. A law counts once. -/
mutual
def uptoBulk {H : Type} : DataW H → Nat
  | .lit (.string bytes) => bytes.length + 1
  | .lit _ => 1
  | .nil => 1
  | .ptr d => uptoBulk d + 1
  | .slice elems spare => uptoBulkAll elems + uptoBulkAll spare + 1
  | .agg parts => uptoBulkAll parts + 1
  | .iface _ d => uptoBulk d + 1
  | .map entries => uptoBulkEntries entries + 1
  | .held _ => 1
def uptoBulkAll {H : Type} : List (DataW H) → Nat
  | [] => 0
  | d :: r => uptoBulk d + uptoBulkAll r
def uptoBulkEntries {H : Type} : List (Lit × DataW H) → Nat
  | [] => 0
  | x :: r => uptoBulkEntry x + uptoBulkEntries r
def uptoBulkEntry {H : Type} : Lit × DataW H → Nat
  | (.string bytes, d) => bytes.length + uptoBulk d + 1
  | (_, d) => uptoBulk d + 1
 end
def uptoSmall : (H : Type) → List (DataW H) → Bool := fun _ ds => decide (uptoBulkAll ds ≤ 1048576)
def OpenSpec.upto (s : _root_.Go.ChangeSpec) : _root_.Go.OpenSpec := { _root_.Go.OpenSpec.ofChange s with cond := some uptoSmall }

/-- 'laws.FnSign', WHERE WHAT IT READS IS OF BULK AT MOST 1048576: true; the input reads as it did. -/
def fnSignUptoRow : OpenClaim := { program := "ytjmmhonlkpmmoaa", sum := "f7a1e017ae9b34a89dd56eab1178c22b4847963538ac06f82cf8472d9ca7d84e", func := "loop.example/setparts/laws.FnSign", spec := "fnSign", unfollowed := true, recurses := true, plainKeys := false, apart := false, narrowed := true }
def FnSignUptoSaid : Prop := fnSignUptoRow.holds Try.pinned (OpenSpec.upto fnSignSpec)

/-- 'laws.FnListAll', WHERE WHAT IT READS IS OF BULK AT MOST 1048576: true; the input reads as it did. -/
def fnListAllUptoRow : OpenClaim := { program := "ytjmmhonlkpmmoaa", sum := "f7a1e017ae9b34a89dd56eab1178c22b4847963538ac06f82cf8472d9ca7d84e", func := "loop.example/setparts/laws.FnListAll", spec := "fnListAll", unfollowed := true, recurses := true, plainKeys := false, apart := false, narrowed := true }
def FnListAllUptoSaid : Prop := fnListAllUptoRow.holds Try.pinned (OpenSpec.upto fnListAllSpec)

/-- 'laws.FnPlace', WHERE WHAT IT READS IS OF BULK AT MOST 1048576: true; the input reads as it did. -/
def fnPlaceUptoRow : OpenClaim := { program := "ytjmmhonlkpmmoaa", sum := "f7a1e017ae9b34a89dd56eab1178c22b4847963538ac06f82cf8472d9ca7d84e", func := "loop.example/setparts/laws.FnPlace", spec := "fnPlace", recurses := true, plainKeys := false, apart := false, narrowed := true }
def FnPlaceUptoSaid : Prop := fnPlaceUptoRow.holds Try.pinned (OpenSpec.upto fnPlaceSpec)

/-- 'laws.FnAt', WHERE WHAT IT READS IS OF BULK AT MOST 1048576: true; the input reads as it did. -/
def fnAtUptoRow : OpenClaim := { program := "ytjmmhonlkpmmoaa", sum := "f7a1e017ae9b34a89dd56eab1178c22b4847963538ac06f82cf8472d9ca7d84e", func := "loop.example/setparts/laws.FnAt", spec := "fnAt", recurses := true, plainKeys := false, apart := false, narrowed := true }
def FnAtUptoSaid : Prop := fnAtUptoRow.holds Try.pinned (OpenSpec.upto fnAtSpec)

/-- 'laws.FnNext', WHERE WHAT IT READS IS OF BULK AT MOST 1048576: true; the input reads as it did. -/
def fnNextUptoRow : OpenClaim := { program := "ytjmmhonlkpmmoaa", sum := "f7a1e017ae9b34a89dd56eab1178c22b4847963538ac06f82cf8472d9ca7d84e", func := "loop.example/setparts/laws.FnNext", spec := "fnNext", recurses := true, plainKeys := false, apart := false, narrowed := true }
def FnNextUptoSaid : Prop := fnNextUptoRow.holds Try.pinned (OpenSpec.upto fnNextSpec)

/-- 'laws.FnBefore', WHERE WHAT IT READS IS OF BULK AT MOST 1048576: true; the input reads as it did. -/
def fnBeforeUptoRow : OpenClaim := { program := "ytjmmhonlkpmmoaa", sum := "f7a1e017ae9b34a89dd56eab1178c22b4847963538ac06f82cf8472d9ca7d84e", func := "loop.example/setparts/laws.FnBefore", spec := "fnBefore", recurses := true, plainKeys := false, apart := false, narrowed := true }
def FnBeforeUptoSaid : Prop := fnBeforeUptoRow.holds Try.pinned (OpenSpec.upto fnBeforeSpec)

/-- 'laws.FnListBlocks', WHERE WHAT IT READS IS OF BULK AT MOST 1048576: true; the input reads as it did. -/
def fnListBlocksUptoRow : OpenClaim := { program := "ytjmmhonlkpmmoaa", sum := "f7a1e017ae9b34a89dd56eab1178c22b4847963538ac06f82cf8472d9ca7d84e", func := "loop.example/setparts/laws.FnListBlocks", spec := "fnListBlocks", unfollowed := true, recurses := true, plainKeys := false, apart := false, narrowed := true }
def FnListBlocksUptoSaid : Prop := fnListBlocksUptoRow.holds Try.pinned (OpenSpec.upto fnListBlocksSpec)

/-- 'laws.FnOpen', WHERE WHAT IT READS IS OF BULK AT MOST 1048576: true; the input reads as it did. -/
def fnOpenUptoRow : OpenClaim := { program := "ytjmmhonlkpmmoaa", sum := "f7a1e017ae9b34a89dd56eab1178c22b4847963538ac06f82cf8472d9ca7d84e", func := "loop.example/setparts/laws.FnOpen", spec := "fnOpen", recurses := true, plainKeys := false, apart := false, narrowed := true }
def FnOpenUptoSaid : Prop := fnOpenUptoRow.holds Try.pinned (OpenSpec.upto fnOpenSpec)

end Rows
end Go.Proofs.Ytjmmhonlkpmmoaa
