/-
  The contracts of spec.l92Perm, DrawRingTimes and DrawRingSwap.
-/
import Derived.Test.YtdeeeiimlcggpaaDoorNames
namespace Go.Proofs.YtdeeeiimlcggpaaDoor
set_option linter.unusedSimpArgs false
set_option linter.unusedVariables false
set_option linter.unnecessarySimpa false
open Go.RowKit
set_option maxRecDepth 100000

/-- A drawn list. -/
def PermDrawn (w : World) (e : Ending) (w' : World) : Prop := ∃ v xs, e = .returned v ∧ Own w' w.heap.size v xs ∧ xs.length ≤ 8 ∧ Below w.heap.size w w'

set_option maxHeartbeats 1600000 in
theorem l92Perm_any (a : Option Addr) (len cap : Nat) (w : World) (hby : Bytes w a len) (hlen : len ≤ 1048576) (hc : len ≤ cap) (hcm : cap ≤ maxLen) :
    Calls Tryd.prog 38 #[.slice a len cap] w (PermDrawn w) := by
  go_enter Tryd.func38, Tryd.ntmps38
  go_wp2_with fail
  refine (open_r a len cap w hby hlen hc hcm).mono ?_
  rintro e w1 ⟨g, m, cp, rfl, r1⟩
  go_wp2_with fail
  refine (pick_r r1 _ (by omega) (by omega) (by omega)).mono ?_
  rintro e w2 ⟨t, rfl, ht, r2, hg2⟩
  clear hg2
  obtain ⟨n, hn⟩ : ∃ n : Nat, n = 1 + t := ⟨_, rfl⟩
  have hni : (1 : Int) + (t : Int) = (n : Int) := by omega
  have HNI := Lib.hid hni
  have HN1 := Lib.hid (show 1 ≤ n ∧ n ≤ 8 by omega)
  clear hni hn
  go_wp2_with fail
  rw [HNI.out]
  refine (names_r r2 n HN1.out.1 HN1.out.2 (by omega)).mono ?_
  rintro e w4 ⟨vu, ps, rfl, ou, hpl, hg4⟩
  have hs := r2.below.size
  have hb : Below w.heap.size w w4 := below_of_grown (grown_trans r2.grown hg4) (Nat.le_of_eq r2.hg.symm)
  go_wp2
  go_ret
  exact ⟨_, ps, rfl, own_mono ou hs, hpl, hb⟩

end Go.Proofs.YtdeeeiimlcggpaaDoor
