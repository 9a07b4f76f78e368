/-
  Partitions are their own kernels. For every input the Go text of laws.FnPart returns true, and its argument reads afterwards as before. No condition.
-/
import Derived.Test.YtfomfjbfhcajbaaDoorDrawPart
import Derived.Test.YtfomfjbfhcajbaaDoorSame
import Derived.Test.YtfomfjbfhcajbaaDoorRows
import Derived.Test.YtfomfjbfhcajbaaDoorPure
import Derived.Test.YtfomfjbfhcajbaaDoorHelp
import Derived.Test.YtfomfjbfhcajbaaDoorPlainMath
import Derived.Test.YtfomfjbfhcajbaaDoorPartBlocks
import Derived.Test.YtfomfjbfhcajbaaDoorPartBack
import Derived.Test.YtfomfjbfhcajbaaDoorHeldMat
import Derived.Test.YtfomfjbfhcajbaaDoorKernel
import Derived.Test.YtfomfjbfhcajbaaDoorPartOf
import Derived.WalkKit
import Derived.ProofKit
import Derived.OpenShut
import Derived.ShutString
import Derived.ChangeOld
import Derived.Below
import Derived.Test.YtfomfjbfhcajbaaDoorCards
import Derived.Test.YtfomfjbfhcajbaaDoorTie
import Derived.Test.YtfomfjbfhcajbaaDoorLaid
import Derived.LaidMore
import Derived.Stop.Joined
import Derived.SevenTiedAt
namespace Go.Proofs.YtfomfjbfhcajbaaDoor.fnPart
open Go.ChangeShapes Go.WideShapes Go.ChangeAt Go.RowKit
open Go.ChangeMaps (open_string shut_string)
set_option linter.unusedVariables false
set_option linter.unusedSimpArgs false
set_option linter.unnecessarySimpa false

theorem own : ownKnob Tryd.prog.godebug = none := by kernel_rfl
theorem laidOut : laidOutB Tryd.prog = true := by kernel_rfl

theorem sameInts_t (v u : Value) (xs : List Int) (w : World) (hv : RdV w v xs) (hu : RdV w u xs) : Calls Tryd.prog 11 #[v, u] w fun e w' => e = .returned (.bool true) ∧ Same w w' :=
  (sameInts_v v u xs xs w hv hu).mono fun e w' ⟨he, hw⟩ => ⟨by rw [he]; simp, hw⟩

theorem draw_any (a : Option Addr) (len cap : Nat) (w : World) (hby : Bytes w a len) (hlen : len ≤ 1048576) (hc : len ≤ cap) (hcm : cap ≤ maxLen) :
    Calls Tryd.prog 5 #[.slice a len cap] w fun e w' => ∃ v xs, e = .returned v ∧ Own w' w.heap.size v xs ∧ xs.length ≤ 9 ∧ (∀ x ∈ xs, 0 ≤ x ∧ x ≤ 9) ∧ Below w.heap.size w w' := by
  go_enter Tryd.func5, Tryd.ntmps5
  go_wp2_with fail
  refine (l91Some_any a len cap w hby hlen hc hcm).mono ?_
  rintro e w1 ⟨v, xs, rfl, h⟩
  go_wp2
  go_ret
  exact ⟨v, xs, rfl, h⟩

theorem door_met (os : Os) (args : Array Value) : laidMetH Tryd.prog [("math/bits.deBruijn32tab", Rows.laid_math_bits_deBruijn32tab), ("math/bits.deBruijn64tab", Rows.laid_math_bits_deBruijn64tab)] ((World.doorLaid Tryd.prog 400 os).forCall (fun _ _ => 0) ⟨#[], args, []⟩).memory :=
  laidMetH_of_parts3 (fuel := 8) (laidMet_of_run' 8 (by kernel_rfl) (by kernel_rfl)) (by kernel_rfl) (by kernel_rfl)

end Go.Proofs.YtfomfjbfhcajbaaDoor.fnPart
