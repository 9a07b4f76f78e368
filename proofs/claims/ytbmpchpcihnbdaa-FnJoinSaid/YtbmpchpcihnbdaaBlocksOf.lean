/-
  The contracts of slices.Reverse, impl.blocksOf and impl.PartType.
-/
import Derived.Test.YtbmpchpcihnbdaaSort
import Derived.Test.YtbmpchpcihnbdaaBits
namespace Go.Proofs.Ytbmpchpcihnbdaa
set_option linter.unusedSimpArgs false
set_option linter.unusedVariables false
set_option linter.unnecessarySimpa false
open Go.RowKit

/-- The places below i and above n - 1 - i are turned, the others are not yet. -/
def Half (xs L : List Int) (i : Nat) : Prop := L.length = xs.length ∧ ∀ p, p < xs.length → L.getD p 0 = if p < i ∨ xs.length - 1 - p < i then xs.getD (xs.length - 1 - p) 0 else xs.getD p 0

theorem half_zero (xs : List Int) : Half xs xs 0 := ⟨rfl, fun p hp => by simp⟩

theorem half_step {xs L : List Int} {i : Nat} (h : Half xs L i) (hi : i < xs.length - 1 - i) : Half xs (swapAt L i (xs.length - 1 - i)) (i + 1) := by
  obtain ⟨hl, hp⟩ := h
  refine ⟨by rw [swapAt_length, hl], fun p hpl => ?_⟩
  have hset : ∀ (l : List Int) (k : Nat) (x : Int) (q : Nat), k < l.length → (l.set k x).getD q 0 = if q = k then x else l.getD q 0 := by
    intro l k x q hk
    rw [List.getD_eq_getElem?_getD, List.getElem?_set]
    by_cases e : k = q
    · subst e
      simp [hk]
    · rw [if_neg e, if_neg (fun e' => e e'.symm), ← List.getD_eq_getElem?_getD]
  unfold swapAt
  rw [hset _ _ _ _ (by simp; omega), hset _ _ _ _ (by omega), hp (xs.length - 1 - i) (by omega), hp i (by omega), hp p hpl]
  by_cases e1 : p = xs.length - 1 - i
  · subst e1
    rw [if_pos rfl, if_neg (by omega), if_pos (by omega)]
    congr 1
    omega
  · rw [if_neg e1]
    by_cases e2 : p = i
    · subst e2
      rw [if_pos rfl, if_neg (by omega), if_pos (by omega)]
    · rw [if_neg e2]
      by_cases e3 : p < i ∨ xs.length - 1 - p < i
      · rw [if_pos e3, if_pos (by omega)]
      · rw [if_neg e3, if_neg (by omega)]

theorem half_end {xs L : List Int} {i : Nat} (h : Half xs L i) (hi : ¬ i < xs.length - 1 - i) : L = xs.reverse := by
  obtain ⟨hl, hp⟩ := h
  refine ext_getD (by simp [hl]) fun p hpl => ?_
  rw [hp p (by omega)]
  have e : xs.reverse.getD p 0 = xs.getD (xs.length - 1 - p) 0 := by simp [List.getD, show p < xs.length by omega, show xs.length - 1 - p < xs.length by omega]
  rw [e]
  by_cases e3 : p < i ∨ xs.length - 1 - p < i
  · rw [if_pos e3]
  · rw [if_neg e3]
    congr 1
    omega

/-- The things below k in the block b, as a set. -/
def maskAt (xs : List Int) (b : Nat) : Nat → Nat
  | 0 => 0
  | k + 1 => if xs.getD k 0 = b then maskAt xs b k ||| 2 ^ k else maskAt xs b k

def cntAt (xs : List Int) (b : Nat) : Nat → Nat
  | 0 => 0
  | k + 1 => if xs.getD k 0 = b then cntAt xs b k + 1 else cntAt xs b k

theorem maskAt_lt (xs : List Int) (b k : Nat) : maskAt xs b k < 2 ^ k := by
  induction k with
  | zero => simp [maskAt]
  | succ k ih =>
    have h1 : 2 ^ k < 2 ^ (k + 1) := Nat.pow_lt_pow_right (by omega) (by omega)
    unfold maskAt
    split
    · exact Nat.or_lt_two_pow (by omega) h1
    · omega

theorem pow_le_256 : ∀ k, k < 9 → 2 ^ k ≤ 256 := by decide

theorem maskAt_256 (xs : List Int) (b k : Nat) (h : k ≤ 8) : maskAt xs b k < 256 := by
  have := maskAt_lt xs b k
  have := pow_le_256 k (by omega)
  omega

theorem cnt_mask (xs : List Int) (b k : Nat) (h : k ≤ 8) : cnt (maskAt xs b k) = cntAt xs b k := by
  induction k with
  | zero => show cnt 0 = 0; decide
  | succ k ih =>
    have := ih (by omega)
    unfold maskAt cntAt
    split
    · rw [cnt_or _ (maskAt_256 xs b k (by omega)) k (by omega), Nat.testBit_lt_two_pow (maskAt_lt xs b k), this]
      rfl
    · exact this

def masks (xs : List Int) (k p : Nat) : List Nat := (List.range p).map fun b => maskAt xs b k

theorem masks_step (xs : List Int) (k p x : Nat) (hx : xs.getD k 0 = x) (hp : x < p) : (masks xs k p).set x (maskAt xs x k ||| 2 ^ k) = masks xs (k + 1) p := by
  apply List.ext_getElem
  · simp [masks]
  · intro j h1 h2
    simp [masks] at h1 h2
    rw [List.getElem_set]
    by_cases e : x = j
    · subst e
      rw [if_pos rfl]
      simp [masks, maskAt, ← hx]
    · rw [if_neg e]
      have : ¬ xs.getD k 0 = (j : Int) := by omega
      simp only [masks, List.getElem_map, List.getElem_range, maskAt, if_neg this]

theorem masks_zero (xs : List Int) (p : Nat) : masks xs 0 p = List.replicate p 0 := by
  unfold masks
  apply List.ext_getElem <;> simp [maskAt]

def OwnU (w : World) (B : Nat) (v : Value) (ms : List Nat) : Prop := w.ownsRow B 68 1 v ms.length (ms.map fun (m : Nat) => Value.int .u64 (m : Int))

theorem Try.infoBlock : (Try.prog.info? 68).map (fun i => (i.zero, i.size, i.bytes)) = some (some (.int .u64 0), 1, 8) := by kernel_rfl

theorem ownU_cell {w : World} {B g n cap : Nat} {ms : List Nat} (h : OwnU w B (.slice (some ⟨g, 0, none⟩) n cap) ms) (hn : n = ms.length) (j : Nat) (hj : j < ms.length) : w.cell? ⟨g, j, none⟩ = some (.int .u64 (ms.getD j 0 : Nat)) := by
  subst hn
  rw [World.ownsRow.cellAt h j (by omega)]
  simp [List.getD, hj]

theorem ownU_frozen {w : World} {B g n cap : Nat} {ms : List Nat} (h : OwnU w B (.slice (some ⟨g, 0, none⟩) n cap) ms) (hn : n = ms.length) (j : Nat) : w.frozen? ⟨g, j, none⟩ = false := by
  subst hn
  exact World.ownsRow.frozenAt h j

theorem ownU_stored {w : World} {B g n cap : Nat} {ms : List Nat} (h : OwnU w B (.slice (some ⟨g, 0, none⟩) n cap) ms) (hn : n = ms.length) (j m : Nat) :
    OwnU (w.setCell ⟨g, j, none⟩ (.int .u64 (m : Int))) B (.slice (some ⟨g, 0, none⟩) n cap) (ms.set j m) := by
  subst hn
  have := World.ownsRow.stored h j (.int .u64 (m : Int))
  unfold OwnU
  rw [List.length_set, List.map_set]
  exact this.1

theorem ownU_below {w w' : World} {B : Nat} {v : Value} {ms : List Nat} (h : OwnU w B v ms) (hb : Below w.heap.size w w') : OwnU w' B v ms :=
  World.ownsRow.kept h (grown_of_below hb) (by cases hv : v.ownBlock <;> simp)

theorem ownU_made {w1 : World} {B g n c : Nat} (h : w1.ownsRow B 68 1 (.slice (some ⟨g, 0, none⟩) n c) n (madeCells #[Value.int .u64 0] n).toList) : OwnU w1 B (.slice (some ⟨g, 0, none⟩) n c) (List.replicate n 0) := by
  unfold OwnU
  rw [toList_madeCells_one] at h
  simpa using h

theorem sizeFrom_ge : ∀ (xs : List Int) (n : Int), n ≤ sizeFrom n xs ∧ ∀ j, j < xs.length → xs.getD j 0 < sizeFrom n xs := by
  intro xs
  induction xs with
  | nil => intro n; exact ⟨Int.le_refl _, fun j hj => by simp at hj⟩
  | cons x xs ih =>
    intro n
    have ⟨h1, h2⟩ := ih (max n (x + 1))
    simp only [sizeFrom]
    refine ⟨by omega, fun j hj => ?_⟩
    cases j with
    | zero => simp; omega
    | succ j => have := h2 j (by simpa using hj); simpa using this

theorem lt_pSize (xs : List Int) (j : Nat) (hj : j < xs.length) : xs.getD j 0 < pSize xs := (sizeFrom_ge xs 0).2 j hj

/-- The sizes of the blocks, in order. -/
def sizes (xs : List Int) : List Int := (List.range (pSize xs).toNat).map fun (b : Nat) => (cntAt xs b xs.length : Int)

/-- No number is greater than the one ahead of it. -/
def desc (l : List Int) : List Int := (isort l l.length).reverse

def partType (xs : List Int) : List Int × Bool := if partIn xs then (desc (sizes xs), true) else ([], false)

theorem sizes_length (xs : List Int) : (sizes xs).length = (pSize xs).toNat := by simp [sizes]
theorem desc_length (l : List Int) : (desc l).length = l.length := by simp [desc, isort_length]

theorem partType_len (xs : List Int) (h : xs.length ≤ 1048576) : (partType xs).1.length ≤ 2305843009213693952 := by
  unfold partType
  split
  · have := pSize_bd (partIn_small (by assumption))
    rw [desc_length, sizes_length]
    omega
  · simp

theorem sizes_take (xs : List Int) (p k : Nat) (hp : pSize xs = p) (hk : k < p) : (sizes xs).take (k + 1) = (sizes xs).take k ++ [(cntAt xs k xs.length : Int)] := by
  have hl : (sizes xs).length = p := by rw [sizes_length]; omega
  rw [take_snoc _ _ (by omega)]
  congr 1
  simp [sizes, List.getD, show k < (pSize xs).toNat by omega]

end Go.Proofs.Ytbmpchpcihnbdaa
