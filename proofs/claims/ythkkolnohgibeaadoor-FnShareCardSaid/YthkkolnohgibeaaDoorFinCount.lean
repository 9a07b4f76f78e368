/-
  The contracts of countsWithin, l2Inner.
-/
import Derived.Test.YthkkolnohgibeaaDoorInnerMath
import Derived.Test.YthkkolnohgibeaaDoorPut
import Derived.Test.YthkkolnohgibeaaDoorSpecType
import Derived.Deep.RegionLaw
namespace Go.Proofs.YthkkolnohgibeaaDoor
set_option linter.unusedSimpArgs false
set_option linter.unusedVariables false
set_option linter.unnecessarySimpa false
open Go.RowKit
set_option maxRecDepth 100000

theorem shr0_fact : ∀ t, t < 256 → ∀ y, y < 8 → (bits BinOp.and IntKind.i64 (((t : Nat) : Int) / 2 ^ (y : Nat)) 1 == 0) = !t.testBit y := by decide +kernel
theorem or64b_fact : ∀ t, t < 256 → ∀ y, y < 8 → bits BinOp.or IntKind.i64 ((t : Nat) : Int) (wrap64 (2 ^ (y : Nat))) = ((t ||| 2 ^ y : Nat) : Int) := by decide +kernel

/-- Bell's triangle: the rows. -/
def bellNext (last : Int) : List Int → List Int
  | [] => []
  | x :: xs => (last + x) :: bellNext (last + x) xs
def bellRow : Nat → List Int
  | 0 => [1]
  | n + 1 => (bellRow n).getD n 0 :: bellNext ((bellRow n).getD n 0) (bellRow n)

/-- The first k numbers of the row behind the row n. -/
def bellTo (n k : Nat) : List Int := (bellRow (n + 1)).take (k + 1)

theorem bell_len : ∀ n, n < 8 → (bellRow n).length = n + 1 := by decide +kernel
theorem bell_bd : ∀ n, n < 8 → ∀ k, k < 9 → 0 ≤ (bellRow n).getD k 0 ∧ (bellRow n).getD k 0 ≤ 5000 := by decide +kernel
theorem bell_step : ∀ n, n < 7 → ∀ k, k < n + 1 → (bellRow (n + 1)).getD (k + 1) 0 = (bellRow (n + 1)).getD k 0 + (bellRow n).getD k 0 := by decide +kernel
theorem bell_head : ∀ n, n < 7 → (bellRow (n + 1)).take 1 = [(bellRow n).getD n 0] ∧ (bellRow (n + 1)).getD 0 0 = (bellRow n).getD n 0 := by decide +kernel
def bellN (n : Nat) : Int := (bellRow (n - 1)).getD (n - 1) 0

theorem own_lit1 (w : World) (B : Nat) (hB : B ≤ w.heap.size) (x : Int) : Own (w.alloc (.cells #[.int .i64 x] 3)) B (.slice (some ⟨w.heap.size, 0, none⟩) 1 1) [x] :=
  ⟨by simp, .inr ⟨w.heap.size, 1, #[.int .i64 x], rfl, hB, heap_alloc_new w _, Nat.le_refl _, by unfold maxLen; simp, rfl, by simp⟩⟩

def sliceLen : Value → Nat
  | .slice _ n _ => n
  | _ => 0

theorem bell_take (n k : Nat) (h : n < 7) (hk : k < n + 1) : (bellRow (n + 1)).take (k + 2) = (bellRow (n + 1)).take (k + 1) ++ [(bellRow (n + 1)).getD k 0 + (bellRow n).getD k 0] := by
  rw [take_snoc _ (k + 1) (by rw [bell_len _ (by omega)]; omega), bell_step n h k hk]

end Go.Proofs.YthkkolnohgibeaaDoor
