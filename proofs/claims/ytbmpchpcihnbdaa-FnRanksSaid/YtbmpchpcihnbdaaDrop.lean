/-
  The contracts of slices.Concat and PartDrop (impl and spec).
-/
import Derived.Test.YtbmpchpcihnbdaaPut
import Derived.Deep.RegionHeld3
namespace Go.Proofs.Ytbmpchpcihnbdaa
set_option linter.unusedSimpArgs false
set_option linter.unusedVariables false
set_option linter.unnecessarySimpa false
open Go.RowKit

def dropAt (xs : List Int) (i : Nat) : List Int := xs.take i ++ xs.drop (i + 1)
def partDrop (xs : List Int) (i : Int) : List Int × Bool := if partIn xs ∧ xs.length ≠ 1 ∧ 0 ≤ i ∧ i < xs.length then (kOut (dropAt xs i.toNat), true) else ([], false)

theorem dropAt_length (xs : List Int) (i : Nat) (h : i < xs.length) : (dropAt xs i).length = xs.length - 1 := by simp [dropAt]; omega

theorem partDrop_len (xs : List Int) (i : Int) (h : xs.length ≤ 1048576) : (partDrop xs i).1.length ≤ 2305843009213693952 := by
  unfold partDrop
  split
  · rw [kOut_length, dropAt]; simp; omega
  · simp

theorem cells_drew {w : World} {ad : Addr} {xs : List Int} (h : ∀ j, j < xs.length → w.cell? (ad.add j) = some (.int .i64 (xs.getD j 0))) : ∀ j, j < xs.length → w.drew.cell? (ad.add j) = some (.int .i64 (xs.getD j 0)) := h

theorem cells_take {w : World} {b off : Nat} {xs : List Int} (i : Nat) (h : ∀ j, j < xs.length → w.cell? ⟨b, off + j, none⟩ = some (.int .i64 (xs.getD j 0))) : ∀ j, j < (xs.take i).length → w.cell? ⟨b, off + j, none⟩ = some (.int .i64 ((xs.take i).getD j 0)) := by
  intro j hj
  have h1 : j < i ∧ j < xs.length := by simp at hj; omega
  rw [h j h1.2]
  simp [List.getD, List.getElem?_take, h1.1]

theorem cells_drop {w w' : World} {b off i : Nat} {xs : List Int} (hb : Below w.heap.size w w') (h : ∀ j, j < xs.length → w.cell? ⟨b, off + j, none⟩ = some (.int .i64 (xs.getD j 0))) : ∀ j, j < (xs.drop i).length → w'.cell? ((⟨b, off + i, none⟩ : Addr).add j) = some (.int .i64 ((xs.drop i).getD j 0)) := by
  intro j hj
  have h1 : i + j < xs.length := by simp at hj; omega
  have := h (i + j) h1
  rw [Addr.add_lit, Nat.add_assoc, hb.cell (World.block_lt_of_cell? w _ this), this]
  simp [List.getD]

theorem drop_below {w w2 : World} {o : Obj} (h : (w.alloc o).drew.grownBy w2 (some w.heap.size)) : Below w.heap.size w w2 :=
  (((Below.refl _ w).alloc (Nat.le_refl _) o).drew).grown h (by simp [World.drew]) (fun q hq => by cases hq; exact Nat.le_refl _)

theorem cell_two0 (w : World) (x y : Value) (t : TypeId) : (w.alloc (.cells #[x, y] t)).drew.cell? ⟨w.heap.size, 0, none⟩ = some x := by simp
theorem cell_two1 (w : World) (x y : Value) (t : TypeId) : (w.alloc (.cells #[x, y] t)).drew.cell? ⟨w.heap.size, 1, none⟩ = some y := by simp

theorem cells_drop_lit {w : World} {b off i : Nat} {xs : List Int} (h : ∀ j, j < xs.length → w.cell? ⟨b, off + j, none⟩ = some (.int .i64 (xs.getD j 0))) : ∀ j, j < (xs.drop i).length → w.cell? ⟨b, off + i + j, none⟩ = some (.int .i64 ((xs.drop i).getD j 0)) := by
  intro j hj
  have := cells_drop (i := i) (Below.refl _ _) h j hj
  rwa [Addr.add_lit] at this

end Go.Proofs.Ytbmpchpcihnbdaa
