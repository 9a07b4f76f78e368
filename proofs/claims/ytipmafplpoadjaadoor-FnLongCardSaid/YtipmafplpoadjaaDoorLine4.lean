/-
  The contracts of (line).next and (line).before. (Made by wip/gen/mkline4.py.)
-/
import Derived.Test.YtipmafplpoadjaaDoorLine3
import Derived.Test.YtipmafplpoadjaaDoorCells
import Derived.Laws.StructEq
namespace Go.Proofs.YtipmafplpoadjaaDoor
set_option linter.unusedSimpArgs false
set_option linter.unusedVariables false
set_option linter.unnecessarySimpa false
open Go.RowKit

theorem all_range_row : ∀ (xs ys : List Int), xs.length = ys.length → ((List.range xs.length).all fun i => xs.getD i 0 == ys.getD i 0) = (xs == ys)
  | [], [], _ => rfl
  | x :: xs, y :: ys, h => by
    have ih := all_range_row xs ys (by simpa using h)
    rw [List.length_cons, List.range_succ_eq_map, List.all_cons, List.all_map]
    simp only [List.getD_cons_zero, Function.comp_def, List.getD_cons_succ, ih]
    simp [List.cons_beq_cons]
  | [], _ :: _, h => by simp at h
  | _ :: _, [], h => by simp at h

theorem ln_inj {xs ys : List Int} (hl : xs.length = ys.length) (h : ln xs = ln ys) : xs = ys := by
  have h2 : (ln xs).take xs.length = (ln ys).take ys.length := by rw [h, hl]
  rwa [ln_take (Nat.le_refl _), ln_take (Nat.le_refl _), List.take_length, List.take_length] at h2

theorem ln_beq {xs ys : List Int} (hl : xs.length = ys.length) : (ln xs == ln ys) = decide (xs = ys) := by
  rw [Bool.eq_iff_iff]
  simp
  exact ⟨ln_inj hl, fun h => by rw [h]⟩

/-- What a function that hands a line and a bool back leaves. -/
def GivesLB (w : World) (r : List Int × Bool) (e : Ending) (w' : World) : Prop := e = .returned (.tuple #[.agg (rowC (ln r.1)), .bool r.2]) ∧ Below w.heap.size w w'

theorem below_new2 (w : World) (o o2 : Obj) : Below w.heap.size w ((w.alloc o).alloc o2) := ((Below.refl _ _).alloc (Nat.le_refl _) _).alloc (by simp) _

/-- The partition behind another one, and whether there is one. -/
def nextR (xs : List Int) : List Int × Bool := if plc xs + 1 < opn xs.length 0 then (atL xs.length (plc xs + 1), true) else (xs, false)
/-- The partition ahead of another one, and whether there is one. -/
def beforeR (xs : List Int) : List Int × Bool := if 0 < plc xs then (atL xs.length (plc xs - 1), true) else (xs, false)

theorem small_set {xs : List Int} (h : Small xs) (t : Nat) (x : Int) (h0 : 0 ≤ x) (h7 : x ≤ 7) : Small (xs.set t x) := fun j hj => by
  simp at hj
  have := h j hj
  simp only [List.getD, List.getElem?_set]
  by_cases e : t = j
  · subst e; simp [hj]; omega
  · simp only [List.getD] at this; simpa [e] using this

theorem take_set_succ (xs : List Int) (t : Nat) (x : Int) (h : t < xs.length) : (xs.set t x).take (t + 1) = xs.take t ++ [x] := by
  rw [List.take_succ_eq_append_getElem (by simp; omega), List.take_set_of_le (Nat.le_refl _)]
  simp

set_option maxHeartbeats 800000 in
/-- What stands at the beginning of next and of before: is it the last one, the first one? -/
theorem eq_last (xs : List Int) (hp : partIn xs = true) : (ln xs == ln (iota 0 xs.length)) = decide (plc xs + 1 = opn xs.length 0) := by
  rw [ln_beq (by rw [iota_length]), Bool.eq_iff_iff]
  simp only [decide_eq_true_eq]
  rw [is_last (partIn_ok hp)]
  omega

theorem eq_first (xs : List Int) (hp : partIn xs = true) : (ln xs == ln (List.replicate xs.length 0)) = decide (plc xs = 0) := by
  rw [ln_beq (by simp), Bool.eq_iff_iff]
  simp only [decide_eq_true_eq]
  rw [is_first (partIn_ok hp)]

end Go.Proofs.YtipmafplpoadjaaDoor
