/-
  The contracts of PartTogether (impl and spec).
-/
import Derived.Test.YtieldehghmikkaaSize
namespace Go.Proofs.Ytieldehghmikkaa
set_option linter.unusedSimpArgs false
set_option linter.unusedVariables false
set_option linter.unnecessarySimpa false
open Go.RowKit

theorem l6In_yes (n lo hi : Int) (w : World) (h1 : lo ≤ n) (h2 : n ≤ hi) : Calls Try.prog 43 #[.int .i64 n, .int .i64 lo, .int .i64 hi] w fun e w' => e = .returned (.bool true) ∧ w = w' :=
  (l6In_any n lo hi w).mono fun _ _ ⟨he, hw⟩ => ⟨by rw [he]; simp [h1, h2], hw⟩
theorem l6In_no (n lo hi : Int) (w : World) (h : n < lo ∨ hi < n) : Calls Try.prog 43 #[.int .i64 n, .int .i64 lo, .int .i64 hi] w fun e w' => e = .returned (.bool false) ∧ w = w' :=
  (l6In_any n lo hi w).mono fun _ _ ⟨he, hw⟩ => ⟨by rw [he, decide_eq_false (by omega)], hw⟩
theorem sPartIn_is (b : Bool) (v : Value) (xs : List Int) (w : World) (hv : RdV w v xs) (hp : Hid (partIn xs = b)) : Calls Try.prog 45 #[v] w fun e w' => e = .returned (.bool b) ∧ w = w' :=
  (sPartIn_w v xs w hv).mono fun _ _ ⟨he, hw⟩ => ⟨by rw [he, hp.out], hw⟩
theorem iPartIn_is (b : Bool) (v : Value) (xs : List Int) (w : World) (hv : RdV w v xs) (hp : Hid (partIn xs = b)) : Calls Try.prog 47 #[v] w fun e w' => e = .returned (.bool b) ∧ w = w' :=
  (iPartIn_w v xs w hv).mono fun _ _ ⟨he, hw⟩ => ⟨by rw [he, hp.out], hw⟩

theorem isThing_any (n x : Int) (w : World) : Calls Try.prog 85 #[.int .i64 n, .int .i64 x] w fun e w' => e = .returned (.bool (decide (0 ≤ x ∧ x < n))) ∧ w = w' := by
  by_cases h1 : 0 ≤ x
  · by_cases h2 : x < n
    all_goals
      go_enter Try.func85, Try.ntmps85
      go_wp2
      go_ret
      exact ⟨by simp [h1, h2]; try omega, rfl⟩
  · go_enter Try.func85, Try.ntmps85
    go_wp2
    go_ret
    exact ⟨by simp [h1]; omega, rfl⟩
theorem isThing_yes (n x : Int) (w : World) (h1 : 0 ≤ x) (h2 : x < n) : Calls Try.prog 85 #[.int .i64 n, .int .i64 x] w fun e w' => e = .returned (.bool true) ∧ w = w' :=
  (isThing_any n x w).mono fun _ _ ⟨he, hw⟩ => ⟨by rw [he]; simp [h1, h2], hw⟩
theorem isThing_no (n x : Int) (w : World) (h : x < 0 ∨ n ≤ x) : Calls Try.prog 85 #[.int .i64 n, .int .i64 x] w fun e w' => e = .returned (.bool false) ∧ w = w' :=
  (isThing_any n x w).mono fun _ _ ⟨he, hw⟩ => ⟨by rw [he, decide_eq_false (by omega)], hw⟩

def partTogether (xs : List Int) (i k : Int) : Bool := partIn xs && decide (0 ≤ i ∧ i < xs.length) && decide (0 ≤ k ∧ k < xs.length) && decide (xs.getD i.toNat 0 = xs.getD k.toNat 0)

end Go.Proofs.Ytieldehghmikkaa
