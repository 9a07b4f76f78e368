/-
  The model's contracts: spec.ListPlace, ListAt, ListNext, ListBefore, ListOpen.
-/
import Derived.Test.YtieldehghmikkaaListsS
namespace Go.Proofs.Ytieldehghmikkaa
set_option linter.unusedSimpArgs false
set_option linter.unusedVariables false
set_option linter.unnecessarySimpa false
open Go.RowKit

theorem bell_opnN : ∀ n, n < 9 → bellN n = (opnN n 0 : Int) := by decide +kernel
theorem bell_opn (n : Nat) (h : n ≤ 8) : bellN n = opn n 0 := by
  have := opn_nat n 0
  rw [bell_opnN n (by omega), ← this]
  rfl

theorem l6In_is (b : Bool) (n lo hi : Int) (w : World) (h : decide (lo ≤ n ∧ n ≤ hi) = b) : Calls Try.prog 43 #[.int .i64 n, .int .i64 lo, .int .i64 hi] w fun e w' => e = .returned (.bool b) ∧ w = w' := by
  subst h
  exact l6In_any n lo hi w

theorem next_is_at {xs : List Int} (hp : partIn xs = true) : listNext xs = listAt xs.length (plc xs + 1) := by
  have hl := partIn_len hp
  have hb := plc_bd (partIn_ok hp)
  unfold listNext listAt
  by_cases h : plc xs + 1 < opn xs.length 0
  · rw [if_pos ⟨hp, h⟩, if_pos ⟨by omega, by omega, by simpa using h⟩]
    simp
  · rw [if_neg (fun k => h k.2), if_neg (fun k => h (by simpa using k.2.2))]

theorem before_is_at {xs : List Int} (hp : partIn xs = true) : listBefore xs = listAt xs.length (plc xs - 1) := by
  have hl := partIn_len hp
  have hb := plc_bd (partIn_ok hp)
  unfold listBefore listAt
  by_cases h : 0 < plc xs
  · rw [if_pos ⟨hp, h⟩, if_pos ⟨by omega, by omega, by simp; omega⟩]
    simp
  · rw [if_neg (fun k => h k.2), if_neg (fun k => h (by omega))]

end Go.Proofs.Ytieldehghmikkaa
