/-
  The contracts of ViewPath (impl and spec).
-/
import Derived.Test.YtodfaiajlholdaaDoorFinJoin
import Derived.Test.YtodfaiajlholdaaDoorFinJoinS
import Derived.Test.YtodfaiajlholdaaDoorFinMeet
import Derived.Test.YtodfaiajlholdaaDoorFinRank
import Derived.Test.YtodfaiajlholdaaDoorRankMath
import Derived.Test.YtodfaiajlholdaaDoorPlainKit
namespace Go.Proofs.YtodfaiajlholdaaDoor
set_option linter.unusedSimpArgs false
set_option linter.unusedVariables false
set_option linter.unnecessarySimpa false
open Go.RowKit
set_option maxRecDepth 100000

theorem l1Size_p (v : Value) (xs : List Int) (w : World) (hv : RdV w v xs) (hp : Hid (partIn xs = true)) :
    Calls Tryd.prog 26 #[v] w fun e w' => e = .returned (.int .i64 (pSize xs)) ∧ w = w' := by
  obtain ⟨ao, ca, rfl, h, h1, h2⟩ := hv
  have hl := partIn_len hp.out
  exact l1Size_any ao ca xs w h (by omega) (partIn_small hp.out)

/-- What ViewPath answers. -/
def viewPath (xs ys : List Int) : Int × Bool := if alike xs ys then (pSize xs + pSize ys - 2 * pSize (kOut (joinAll xs ys xs.length xs.length)), true) else (0, false)

theorem path_sizes {xs ys : List Int} (ha : alike xs ys = true) : pSize xs + pSize ys ≤ pSize (kOut (mix 8 xs ys)) + pSize (kOut (joinAll xs ys xs.length xs.length)) := by
  obtain ⟨hx, hy, hl⟩ := alike_iff.1 ha
  have hm := (finer_parts (meet_finer ha).1).1
  have hj := (finer_parts (join_finer ha).1).2.1
  have hml : (kOut (mix 8 xs ys)).length = xs.length := by rw [kOut_length, mix_length]
  have hjl : (kOut (joinAll xs ys xs.length xs.length)).length = xs.length := by rw [kOut_length, joinAll_len]
  obtain ⟨rm, rj, ra, rb, e1, e2, e3, e4, hle, _⟩ := ranks_facts ha
  rw [finerRank_yes hm] at e1
  rw [finerRank_yes hj] at e2
  rw [finerRank_yes hx] at e3
  rw [finerRank_yes hy] at e4
  injection e1 with e1
  injection e2 with e2
  injection e3 with e3
  injection e4 with e4
  omega

end Go.Proofs.YtodfaiajlholdaaDoor
