/-
  The contracts of impl.firstLine, impl.lastLine, (line).togetherFrom, (line).aloneFrom.
-/
import Derived.Test.YtipmafplpoadjaaDoorLine2
namespace Go.Proofs.YtipmafplpoadjaaDoor
set_option linter.unusedSimpArgs false
set_option linter.unusedVariables false
set_option linter.unnecessarySimpa false
open Go.RowKit

theorem touch_zeros (g : Nat) (z : Value) : ∀ (m t : Nat) (w : World), Touch w (w.setCells g t (List.replicate m z)) g (g + 1) := by
  intro m
  induction m with
  | zero => intro t w; exact Touch.refl _ _ _
  | succ m ih =>
    intro t w
    rw [List.replicate_succ, World.setCells]
    exact (touch_cell w g t z).trans (ih (t + 1) _)

theorem clear_none (w : World) (ty : TypeId) (a : Option Addr) (c : Nat) : (Builtin.clear_ #[23] ty #[.slice a 0 c]).run Tryd.prog w = .ok (.tuple #[]) w := by
  cases a <;> simp [Builtin.clear_, run_underlying Tryd.underlying23]

theorem together_rows (xs : List Int) (t : Nat) (ht : t ≤ xs.length) (h8 : xs.length ≤ 8) :
    (ln xs).take t ++ List.replicate (xs.length - t) 0 ++ (ln xs).drop xs.length = ln (xs.take t ++ List.replicate (xs.length - t) 0) := by
  rw [ln_take ht]
  unfold ln
  rw [List.drop_left]
  congr 2
  simp
  omega

/-- The list with single things from place t up to place i. -/
def stageA (xs : List Int) (t : Nat) (s : Int) (i : Nat) : List Int := xs.take t ++ iota s (i - t) ++ xs.drop i

theorem stageA_length (xs : List Int) (t : Nat) (s : Int) (i : Nat) (h : t ≤ i) (hi : i ≤ xs.length) : (stageA xs t s i).length = xs.length := by
  simp [stageA, iota_length]; omega

theorem stageA_start (xs : List Int) (t : Nat) (s : Int) : stageA xs t s t = xs := by
  simp [stageA, iota]

theorem stageA_end (xs : List Int) (t : Nat) (s : Int) : stageA xs t s xs.length = xs.take t ++ iota s (xs.length - t) := by
  simp [stageA]

theorem stageA_step (xs : List Int) (t : Nat) (s : Int) (i : Nat) (h : t ≤ i) (hi : i < xs.length) : (stageA xs t s i).set i (s + ((i - t : Nat) : Int)) = stageA xs t s (i + 1) := by
  have hl : (xs.take t ++ iota s (i - t)).length = i := by simp [iota_length]; omega
  unfold stageA
  rw [List.set_append_right _ _ (by omega), hl, Nat.sub_self, drop_cons xs i hi, List.set_cons_zero, show i + 1 - t = (i - t) + 1 by omega]
  have e : iota s (i - t + 1) = iota s (i - t) ++ [s + ((i - t : Nat) : Int)] := by
    unfold iota
    rw [List.range_succ, List.map_append]
    rfl
  rw [e]
  simp

theorem stageA_small (xs : List Int) (t : Nat) (s : Int) (i : Nat) (hs : Small xs) (h : t ≤ i) (hi : i ≤ xs.length) (h8 : xs.length ≤ 8) (h0 : 0 ≤ s) (hst : s ≤ t) : Small (stageA xs t s i) := fun j hj => by
  rw [stageA_length xs t s i h hi] at hj
  unfold stageA
  simp only [List.getD, List.getElem?_append]
  have hl : (xs.take t).length = t := by simp; omega
  have hl2 : (xs.take t ++ iota s (i - t)).length = i := by simp [iota_length]; omega
  have hx := hs j hj
  simp only [List.getD] at hx
  by_cases h1 : j < i
  · rw [if_pos (by omega)]
    by_cases h2 : j < t
    · rw [if_pos (by omega), List.getElem?_take, if_pos h2]
      exact hx
    · rw [if_neg (by omega), hl]
      have := iota_getD s (i - t) (j - t) (by omega)
      simp only [List.getD] at this
      rw [this]
      omega
  · rw [if_neg (by omega), hl2, List.getElem?_drop, show i + (j - i) = j by omega]
    exact hx

theorem ln_set {xs : List Int} {i : Nat} {x : Int} (h : i < xs.length) : (ln xs).set i x = ln (xs.set i x) := by
  unfold ln
  rw [List.set_append_left _ _ h, List.length_set]

end Go.Proofs.YtipmafplpoadjaaDoor
