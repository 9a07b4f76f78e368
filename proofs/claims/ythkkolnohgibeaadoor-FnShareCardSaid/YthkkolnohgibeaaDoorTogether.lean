/-
  The contracts of PartTogether (impl and spec).
-/
import Derived.Test.YthkkolnohgibeaaDoorSize
namespace Go.Proofs.YthkkolnohgibeaaDoor
set_option linter.unusedSimpArgs false
set_option linter.unusedVariables false
set_option linter.unnecessarySimpa false
open Go.RowKit

theorem l6In_yes (n lo hi : Int) (w : World) (h1 : lo ≤ n) (h2 : n ≤ hi) : Calls Tryd.prog 63 #[.int .i64 n, .int .i64 lo, .int .i64 hi] w fun e w' => e = .returned (.bool true) ∧ w = w' :=
  (l6In_any n lo hi w).mono fun _ _ ⟨he, hw⟩ => ⟨by rw [he]; simp [h1, h2], hw⟩
theorem l6In_no (n lo hi : Int) (w : World) (h : n < lo ∨ hi < n) : Calls Tryd.prog 63 #[.int .i64 n, .int .i64 lo, .int .i64 hi] w fun e w' => e = .returned (.bool false) ∧ w = w' :=
  (l6In_any n lo hi w).mono fun _ _ ⟨he, hw⟩ => ⟨by rw [he, decide_eq_false (by omega)], hw⟩
theorem sPartIn_is (b : Bool) (v : Value) (xs : List Int) (w : World) (hv : RdV w v xs) (hp : Hid (partIn xs = b)) : Calls Tryd.prog 54 #[v] w fun e w' => e = .returned (.bool b) ∧ w = w' :=
  (sPartIn_w v xs w hv).mono fun _ _ ⟨he, hw⟩ => ⟨by rw [he, hp.out], hw⟩
theorem iPartIn_is (b : Bool) (v : Value) (xs : List Int) (w : World) (hv : RdV w v xs) (hp : Hid (partIn xs = b)) : Calls Tryd.prog 32 #[v] w fun e w' => e = .returned (.bool b) ∧ w = w' :=
  (iPartIn_w v xs w hv).mono fun _ _ ⟨he, hw⟩ => ⟨by rw [he, hp.out], hw⟩

def partTogether (xs : List Int) (i k : Int) : Bool := partIn xs && decide (0 ≤ i ∧ i < xs.length) && decide (0 ≤ k ∧ k < xs.length) && decide (xs.getD i.toNat 0 = xs.getD k.toNat 0)

end Go.Proofs.YthkkolnohgibeaaDoor
