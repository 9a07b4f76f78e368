/-
  The contracts of spec.l1Blocks, spec.l1Type and spec.PartType.
-/
import Derived.Test.YtieldehghmikkaaSortMath
import Derived.Test.YtieldehghmikkaaMat
import Derived.Deep.RegionHeld3
namespace Go.Proofs.Ytieldehghmikkaa
set_option linter.unusedSimpArgs false
set_option linter.unusedVariables false
set_option linter.unnecessarySimpa false
open Go.RowKit

/-- The things below k in the block b. -/
def blkAt (xs : List Int) (b : Nat) : Nat → List Int
  | 0 => []
  | k + 1 => if xs.getD k 0 = b then blkAt xs b k ++ [(k : Int)] else blkAt xs b k

theorem blkAt_length (xs : List Int) (b k : Nat) : (blkAt xs b k).length = cntAt xs b k := by
  induction k with
  | zero => rfl
  | succ k ih =>
    unfold blkAt cntAt
    split
    · simp [ih]
    · exact ih

theorem cntAt_le (xs : List Int) (b k : Nat) : cntAt xs b k ≤ k := by
  induction k with
  | zero => exact Nat.le_refl _
  | succ k ih => unfold cntAt; split <;> omega

/-- The blocks below p, as lists. -/
def blocksTo (xs : List Int) (p : Nat) : List (List Int) := (List.range p).map fun b => blkAt xs b xs.length

theorem blocksTo_length (xs : List Int) (p : Nat) : (blocksTo xs p).length = p := by simp [blocksTo]
theorem blocksTo_succ (xs : List Int) (p : Nat) : blocksTo xs (p + 1) = blocksTo xs p ++ [blkAt xs p xs.length] := by simp [blocksTo, List.range_succ]
theorem blocksTo_getD (xs : List Int) (p b : Nat) (h : b < p) : (blocksTo xs p).getD b [] = blkAt xs b xs.length := by simp [blocksTo, List.getD, h]

theorem l1Size_v (v : Value) (xs : List Int) (w : World) (hv : RdV w v xs) (hs : Small xs) : Calls Try.prog 68 #[v] w fun e w' => e = .returned (.int .i64 (pSize xs)) ∧ w = w' := by
  obtain ⟨ao, ca, rfl, h, h1, h2⟩ := hv
  unfold maxLen at h2
  exact l1Size_any ao ca xs w h (by omega) hs

theorem sizes_eq (xs : List Int) (p k : Nat) (hp : pSize xs = p) (hk : k < p) : (sizes xs).getD k 0 = ((blocksTo xs p).getD k []).length := by
  rw [blocksTo_getD xs p k hk, blkAt_length]
  simp [sizes, List.getD, show k < (pSize xs).toNat by omega]

theorem fold_take_snoc (l : List Int) (k : Nat) (h : k < l.length) : (l.take (k + 1)).foldl insDesc [] = insDesc ((l.take k).foldl insDesc []) (l.getD k 0) := by
  rw [take_snoc l k h, List.foldl_append]
  rfl

theorem fold_length (l : List Int) : (l.foldl insDesc []).length = l.length := by rw [fold_desc, desc_length]

theorem cells_one {w : World} {ad : Addr} {x : Int} (h : w.cell? ad = some (.int .i64 x)) : ∀ j, j < [x].length → w.cell? (ad.add j) = some (.int .i64 ([x].getD j 0)) := by
  intro j hj
  have : j = 0 := by simpa using hj
  subst this
  simpa [Addr.add] using h

theorem cells_takeW {wo w : World} {g j : Nat} {L : List Int} (h : ∀ r, r < L.length → wo.cell? ⟨g, r, none⟩ = some (.int .i64 (L.getD r 0))) (hb : Below wo.heap.size wo w) : ∀ r, r < (L.take j).length → w.cell? ((⟨g, 0, none⟩ : Addr).add r) = some (.int .i64 ((L.take j).getD r 0)) := by
  intro r hr
  have h1 : r < j ∧ r < L.length := by simp at hr; omega
  rw [Addr.add_lit, Nat.zero_add, hb.cell (World.block_lt_of_cell? wo _ (h r h1.2)), h r h1.2]
  simp [List.getD, List.getElem?_take, h1.1]

theorem cells_dropW {wo w : World} {g j : Nat} {L : List Int} (h : ∀ r, r < L.length → wo.cell? ⟨g, r, none⟩ = some (.int .i64 (L.getD r 0))) (hb : Below wo.heap.size wo w) : ∀ r, r < (L.drop j).length → w.cell? ((⟨g, j, none⟩ : Addr).add r) = some (.int .i64 ((L.drop j).getD r 0)) := by
  intro r hr
  have h1 : j + r < L.length := by simp at hr; omega
  rw [Addr.add_lit, hb.cell (World.block_lt_of_cell? wo _ (h (j + r) h1)), h (j + r) h1]
  simp [List.getD]

theorem cells_drop0 {wo w : World} {g : Nat} {L : List Int} (h : ∀ r, r < L.length → wo.cell? ⟨g, r, none⟩ = some (.int .i64 (L.getD r 0))) (hb : Below wo.heap.size wo w) : ∀ r, r < (L.drop 0).length → w.cell? ((⟨g, 0, none⟩ : Addr).add r) = some (.int .i64 ((L.drop 0).getD r 0)) := cells_dropW h hb

end Go.Proofs.Ytieldehghmikkaa
