/-
  The contracts of looseLinks, (*link).least, (*link).tie, impl.FinerJoin.
-/
import Derived.Test.YtodfaiajlholdaaDoorJoinMath
import Derived.Test.YtodfaiajlholdaaDoorPut
namespace Go.Proofs.YtodfaiajlholdaaDoor
set_option linter.unusedSimpArgs false
set_option linter.unusedVariables false
set_option linter.unnecessarySimpa false
open Go.RowKit
set_option maxRecDepth 100000

def toPtr (C : Nat) (par : Nat → Nat) (j : Nat) : Option Addr := if par j = j then none else some ⟨C + par j, 0, none⟩

/-- The slice at block B holds pointers to n things, in the blocks behind it; each points on as par tells. -/
def Links (w : World) (B C n : Nat) (par : Nat → Nat) : Prop := B < C ∧ ∀ j, j < n →
  w.cell? ⟨B, j, none⟩ = some (.pointer (some ⟨C + j, 0, none⟩)) ∧ w.cell? ⟨C + j, 0, none⟩ = some (.int .i64 (j : Int)) ∧
  w.cell? ⟨C + j, 1, none⟩ = some (.pointer (toPtr C par j)) ∧ w.frozen? ⟨C + j, 1, none⟩ = false

theorem links_quiet {w w' : World} {B C n : Nat} {par : Nat → Nat} (h : Links w B C n par) (hq : Quiet w w') : Links w' B C n par := by
  obtain ⟨m, rfl⟩ := hq
  exact h

theorem links_below {w w' : World} {B C n : Nat} {par : Nat → Nat} (h : Links w B C n par) (hb : Below w.heap.size w w') : Links w' B C n par := ⟨h.1, fun j hj => by
  obtain ⟨h1, h2, h3, h4⟩ := h.2 j hj
  refine ⟨by rw [hb.cell (World.block_lt_of_cell? w _ h1)]; exact h1, by rw [hb.cell (World.block_lt_of_cell? w _ h2)]; exact h2, by rw [hb.cell (World.block_lt_of_cell? w _ h3)]; exact h3, ?_⟩
  rw [hb.frozen (World.block_lt_of_cell? w _ h3)]
  exact h4⟩

theorem cell_set_other {w : World} {p q : Addr} {v : Value} (h : p ≠ q) : (w.setCell p v).cell? q = w.cell? q := by
  first | exact World.cell?_setCell_other h | exact World.cell?_setCell_other _ h | exact World.cell?_setCell_other _ _ h | exact World.cell?_setCell_other _ _ _ h | exact World.cell?_setCell_other _ _ _ _ h
theorem cell_set_same {w : World} {p : Addr} {u v : Value} (h : w.cell? p = some u) : (w.setCell p v).cell? p = some v := by
  first | exact World.cell?_setCell_same h | exact World.cell?_setCell_same _ h | exact World.cell?_setCell_same _ _ h | exact World.cell?_setCell_same _ _ _ h

theorem links_set {w : World} {B C n : Nat} {par : Nat → Nat} (h : Links w B C n par) (g o : Nat) (v : Value) (hg : g ≠ B ∧ (g < C ∨ C + n ≤ g)) : Links (w.setCell ⟨g, o, none⟩ v) B C n par := ⟨h.1, fun j hj => by
  obtain ⟨h1, h2, h3, h4⟩ := h.2 j hj
  refine ⟨?_, ?_, ?_, by rw [World.frozen?_setCell]; exact h4⟩
  · rw [cell_set_other (by intro e; simp at e <;> omega)]; exact h1
  · rw [cell_set_other (by intro e; simp at e <;> omega)]; exact h2
  · rw [cell_set_other (by intro e; simp at e <;> omega)]; exact h3⟩

theorem links_hang {w : World} {B C n : Nat} {par : Nat → Nat} (h : Links w B C n par) {a b : Nat} (hb : b < n) (hab : a < b) :
    Links (w.setCell ⟨C + b, 1, none⟩ (.pointer (some ⟨C + a, 0, none⟩))) B C n (hang par b a) := ⟨h.1, fun j hj => by
  have hBC := h.1
  obtain ⟨h1, h2, h3, h4⟩ := h.2 j hj
  refine ⟨?_, ?_, ?_, by rw [World.frozen?_setCell]; exact h4⟩
  · rw [cell_set_other (by intro e; simp at e <;> omega)]; exact h1
  · rw [cell_set_other (by intro e; simp at e)]; exact h2
  · by_cases e : j = b
    · subst e
      rw [cell_set_same h3]
      unfold toPtr hang
      rw [if_pos rfl, if_neg (by omega)]
    · rw [cell_set_other (by intro e2; simp at e2 <;> omega), h3]
      unfold toPtr hang
      rw [if_neg e]⟩

def ptrBlock : Value → Nat
  | .pointer (some a) => a.block
  | _ => 0

theorem rt_le {n : Nat} {par rt : Nat → Nat} (h : Forest n par rt) {j : Nat} (hj : j < n) : rt j < n ∧ rt (rt j) = rt j := ⟨(h j hj).1, forest_root h hj⟩

/-- What a tie leaves. -/
def Tied (w : World) (B C n : Nat) (rt : Nat → Nat) (e : Ending) (w' : World) : Prop := e = .returned (.tuple #[]) ∧ ∃ par', Links w' B C n par' ∧ Forest n par' rt ∧ Below C w w'

/-- The pointers that are there after k rounds. -/
def ptrsTo (C n k : Nat) : List Value := (List.range n).map fun j => if j < k then .pointer (some ⟨C + j, 0, none⟩) else .pointer none

theorem ptrsTo_len (C n k : Nat) : (ptrsTo C n k).length = n := by simp [ptrsTo]
theorem ptrsTo_step (C n k : Nat) (h : k < n) : (ptrsTo C n k).set k (.pointer (some ⟨C + k, 0, none⟩)) = ptrsTo C n (k + 1) := by
  apply List.ext_getElem
  · simp [ptrsTo]
  · intro j h1 h2
    simp [ptrsTo] at h1 h2
    rw [List.getElem_set]
    by_cases e : k = j
    · subst e
      simp [ptrsTo]
    · rw [if_neg e]
      simp only [ptrsTo, List.getElem_map, List.getElem_range]
      by_cases h3 : j < k
      · rw [if_pos h3, if_pos (by omega)]
      · rw [if_neg h3, if_neg (by omega)]
theorem ptrsTo_zero (C n : Nat) : ptrsTo C n 0 = List.replicate n (.pointer none) := by
  apply List.ext_getElem <;> simp [ptrsTo]

/-- The first k things lie in the blocks from C on. -/
def Things (w : World) (C k : Nat) : Prop := ∀ j, j < k → w.cell? ⟨C + j, 0, none⟩ = some (.int .i64 (j : Int)) ∧ w.cell? ⟨C + j, 1, none⟩ = some (.pointer none) ∧ w.frozen? ⟨C + j, 1, none⟩ = false

theorem things_keep {w w' : World} {C k : Nat} (h : Things w C k) (hc : ∀ j o, j < k → w'.cell? ⟨C + j, o, none⟩ = w.cell? ⟨C + j, o, none⟩) (hf : ∀ j o, j < k → w'.frozen? ⟨C + j, o, none⟩ = w.frozen? ⟨C + j, o, none⟩) : Things w' C k := fun j hj => by
  rw [hc j 0 hj, hc j 1 hj, hf j 1 hj]
  exact h j hj

theorem toPtr_id (C j : Nat) : toPtr C id j = none := by simp [toPtr]

/-- What the making of loose things leaves. -/
def Loose (w : World) (n : Nat) (e : Ending) (w' : World) : Prop := e = .returned (.slice (some ⟨w.heap.size, 0, none⟩) n n) ∧ Below w.heap.size w w' ∧ ∃ C, Links w' w.heap.size C n id

theorem forest_id (n : Nat) : Forest n id id := fun j hj => ⟨hj, .inl ⟨rfl, rfl⟩⟩

/-- What is known of the roots when the first k things are tied. -/
def Joined (xs ys : List Int) (n : Nat) (rt : Nat → Nat) (k : Nat) : Prop :=
  (∀ j, j < k → rt j = rt (xs.idxOf (xs.getD j 0)) ∧ rt j = rt (ys.idxOf (ys.getD j 0))) ∧
  ∀ g : Nat → Int, (∀ i k, i < n → k < n → tog xs ys i k = true → g i = g k) → ∀ j, j < n → g (rt j) = g j

theorem joined_id (xs ys : List Int) (n : Nat) : Joined xs ys n id 0 := ⟨fun j hj => by omega, fun g _ j _ => rfl⟩

def rootList (rt : Nat → Nat) (n : Nat) : List Int := (List.range n).map fun j => (rt j : Int)
theorem rootList_length (rt : Nat → Nat) (n : Nat) : (rootList rt n).length = n := by simp [rootList]
theorem rootList_getD (rt : Nat → Nat) (n j : Nat) (h : j < n) : (rootList rt n).getD j 0 = (rt j : Int) := by simp [rootList, List.getD, h]

theorem idx_of {xs : List Int} {j : Nat} (h : j < xs.length) : xs.getD j 0 ∈ xs ∧ xs.idxOf (xs.getD j 0) < xs.length ∧ xs.getD (xs.idxOf (xs.getD j 0)) 0 = xs.getD j 0 := by
  have hm : xs.getD j 0 ∈ xs := mem_of_getD h rfl
  exact ⟨hm, List.idxOf_lt_length_of_mem hm, getD_idxOf hm⟩

theorem joined_step {xs ys : List Int} {n : Nat} {rt : Nat → Nat} (hx : xs.length = n) (hy : ys.length = n) {k : Nat} (hk : k < n) (h : Joined xs ys n rt k) :
    Joined xs ys n (tied (tied rt k (xs.idxOf (xs.getD k 0))) k (ys.idxOf (ys.getD k 0))) (k + 1) := by
  obtain ⟨hmx, hix, hgx⟩ := idx_of (xs := xs) (j := k) (by omega)
  obtain ⟨hmy, hiy, hgy⟩ := idx_of (xs := ys) (j := k) (by omega)
  refine ⟨fun j hj => ?_, fun g hg => ?_⟩
  · by_cases e : j = k
    · subst e
      exact ⟨tied_keeps _ _ _ (tied_eq _ _ _), tied_eq _ _ _⟩
    · obtain ⟨h1, h2⟩ := h.1 j (by omega)
      exact ⟨tied_keeps _ _ _ (tied_keeps _ _ _ h1), tied_keeps _ _ _ (tied_keeps _ _ _ h2)⟩
  · have h1 := tied_good g (h.2 g hg) hk (k := xs.idxOf (xs.getD k 0)) (by omega) (hg _ _ hk (by omega) (tog_iff.2 (.inl hgx.symm)))
    exact tied_good g h1 hk (k := ys.idxOf (ys.getD k 0)) (by omega) (hg _ _ hk (by omega) (tog_iff.2 (.inr hgy.symm)))

theorem joined_end {xs ys : List Int} {n : Nat} {par rt : Nat → Nat} (hx : xs.length = n) (hy : ys.length = n) (hf : Forest n par rt) (h : Joined xs ys n rt n) : kOut (rootList rt n) = kOut (joinAll xs ys n n) := by
  refine join_tells xs ys n (rootList rt n) (rootList_length _ _) (fun i k hi hk ht => ?_) fun g hg => ⟨rootList_length _ _, fun i hi => ?_⟩
  · rw [rootList_getD _ _ _ hi, rootList_getD _ _ _ hk]
    have h1 := h.1 i hi
    have h2 := h.1 k hk
    rcases tog_iff.1 ht with e | e
    · rw [h1.1, h2.1, e]
    · rw [h1.2, h2.2, e]
  · rw [rootList_getD _ _ _ hi]
    refine ⟨by omega, by have := (hf i hi).1; omega, ?_⟩
    rw [Int.toNat_natCast]
    exact h.2 g hg i hi

end Go.Proofs.YtodfaiajlholdaaDoor
