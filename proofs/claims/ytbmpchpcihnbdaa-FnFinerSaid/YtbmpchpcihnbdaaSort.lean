/-
  The contracts of the library's sort and reverse on a list of at most twelve integers of the call's own.
-/
import Derived.Test.YtbmpchpcihnbdaaPut
import Derived.BigRegion
import Derived.Deep.RegionHeld3
namespace Go.Proofs.Ytbmpchpcihnbdaa
set_option linter.unusedSimpArgs false
set_option linter.unusedVariables false
set_option linter.unnecessarySimpa false
open Go.RowKit

theorem grown_drewN {w w' : World} {r : Option Nat} (h : w.grownBy w' r) (n : Nat) : w.grownBy (w'.drewN n) r := ⟨h.os, h.tape, h.output, h.size, h.block⟩
theorem grown_drew {w w' : World} {r : Option Nat} (h : w.grownBy w' r) : w.grownBy w'.drew r := ⟨h.os, h.tape, h.output, h.size, h.block⟩
theorem own_drewN {w : World} {B : Nat} {v : Value} {xs : List Int} (h : Own w B v xs) (n : Nat) : Own (w.drewN n) B v xs := h
theorem own_drew1 {w : World} {B : Nat} {v : Value} {xs : List Int} (h : Own w B v xs) : Own w.drew B v xs := h

/-- The places j and j + 1 exchanged. -/
def swapAt (xs : List Int) (i j : Nat) : List Int := (xs.set i (xs.getD j 0)).set j (xs.getD i 0)

theorem swapAt_length (xs : List Int) (i j : Nat) : (swapAt xs i j).length = xs.length := by simp [swapAt]

/-- The number at place j moves down as long as it is less than the one ahead of it. -/
def sink (xs : List Int) : Nat → List Int
  | 0 => xs
  | j + 1 => if xs.getD (j + 1) 0 < xs.getD j 0 then sink (swapAt xs (j + 1) j) j else xs

theorem sink_length : ∀ (j : Nat) (xs : List Int), (sink xs j).length = xs.length := by
  intro j
  induction j with
  | zero => intro xs; rfl
  | succ j ih =>
    intro xs
    unfold sink
    split
    · rw [ih, swapAt_length]
    · rfl

/-- The first k numbers sorted by insertion. -/
def isort (xs : List Int) : Nat → List Int
  | 0 => xs
  | k + 1 => sink (isort xs k) k

theorem isort_length (xs : List Int) (k : Nat) : (isort xs k).length = xs.length := by
  induction k with
  | zero => rfl
  | succ k ih => rw [isort, sink_length, ih]

theorem isNaN_any (x : Int) (w : World) : Calls Try.prog 141 #[.int .i64 x] w fun e w' => e = .returned (.bool false) ∧ w = w' := by
  go_enter Try.func141, Try.ntmps141
  go_wp2
  go_ret
  exact ⟨by simp, rfl⟩

theorem own_swapped {w : World} {B g n cap : Nat} {xs : List Int} (h : Own w B (.slice (some ⟨g, 0, none⟩) n cap) xs) (hn : n = xs.length) (i j : Nat) (x y : Int) (hx : x = xs.getD j 0) (hy : y = xs.getD i 0) :
    Own ((w.setCell ⟨g, i, none⟩ (.int .i64 x)).setCell ⟨g, j, none⟩ (.int .i64 y)) B (.slice (some ⟨g, 0, none⟩) n cap) (swapAt xs i j) ∧ w.grownBy ((w.setCell ⟨g, i, none⟩ (.int .i64 x)).setCell ⟨g, j, none⟩ (.int .i64 y)) (some g) := by
  subst hx hy
  have h1 := own_stored h hn i (xs.getD j 0)
  have h2 := own_stored h1.1 (by rw [hn, List.length_set]) j (xs.getD i 0)
  exact ⟨h2.1, grown_trans h1.2 h2.2⟩

end Go.Proofs.Ytbmpchpcihnbdaa
