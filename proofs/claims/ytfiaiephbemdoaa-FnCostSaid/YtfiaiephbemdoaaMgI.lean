/-
  What the laws of this claim lean on: what functions of the program and of the model answer, one after another, and plain mathematics. No condition.
-/
import Derived.Test.YtfiaiephbemdoaaMgE
import Derived.Test.YtfiaiephbemdoaaMgF
import Derived.Test.YtfiaiephbemdoaaMgH
import Derived.Deep.RegionHeld3
import Derived.Conc.CompanyWords
import Derived.Conc.CompanyMem
import Derived.RowKit
import Derived.KernelRfl
import Derived.Conc.WgGenN3

set_option maxHeartbeats 800000
/-
  Plain lists: both ways to sort come to one list.
-/
namespace Go.Proofs.Ytfiaiephbemdoaa
set_option linter.unusedSimpArgs false
set_option linter.unusedVariables false
set_option linter.unnecessarySimpa false

theorem getD_set (l : List Int) (k : Nat) (x : Int) (q : Nat) (hk : k < l.length) : (l.set k x).getD q 0 = if q = k then x else l.getD q 0 := by
  rw [List.getD_eq_getElem?_getD, List.getElem?_set]
  by_cases e : k = q
  · subst e
    simp [hk]
  · rw [if_neg e, if_neg (fun e' => e e'.symm), ← List.getD_eq_getElem?_getD]

theorem getD_swap (l : List Int) (i j q : Nat) (hi : i < l.length) (hj : j < l.length) : (swapAt l i j).getD q 0 = if q = j then l.getD i 0 else if q = i then l.getD j 0 else l.getD q 0 := by
  unfold swapAt
  rw [getD_set _ _ _ _ (by simpa using hj), getD_set _ _ _ _ hi]

theorem swapAt_perm (l : List Int) (i j : Nat) (hi : i < l.length) (hj : j < l.length) : (swapAt l i j).Perm l := by
  have h := Array.swap_perm (xs := l.toArray) (i := i) (j := j) (by simpa using hi) (by simpa using hj)
  have h2 := Array.perm_iff_toList_perm.1 h
  have e : (l.toArray.swap i j (by simpa using hi) (by simpa using hj)).toList = swapAt l i j := by
    simp [swapAt, List.getD, hi, hj]
  rw [e] at h2
  simpa using h2

theorem sink_perm : ∀ (j : Nat) (l : List Int), j < l.length → (sink l j).Perm l := by
  intro j
  induction j with
  | zero => intro l _; exact List.Perm.refl _
  | succ j ih =>
    intro l hj
    unfold sink
    split
    · exact (ih _ (by rw [swapAt_length]; omega)).trans (swapAt_perm l (j + 1) j hj (by omega))
    · exact List.Perm.refl _

theorem isort_perm (l : List Int) (k : Nat) (h : k ≤ l.length) : (isort l k).Perm l := by
  induction k with
  | zero => exact List.Perm.refl _
  | succ k ih => exact (sink_perm k _ (by rw [isort_length]; omega)).trans (ih (by omega))

def SortedTo (l : List Int) (k : Nat) : Prop := ∀ p q, p < q → q < k → l.getD p 0 ≤ l.getD q 0

theorem sink_sorted (k : Nat) : ∀ (j : Nat) (l : List Int), j ≤ k → k < l.length → (∀ p q, p < q → q ≤ k → p ≠ j → q ≠ j → l.getD p 0 ≤ l.getD q 0) → (∀ q, j < q → q ≤ k → l.getD j 0 ≤ l.getD q 0) → SortedTo (sink l j) (k + 1) := by
  intro j
  induction j with
  | zero =>
    intro l hj hk h1 h2 p q hpq hq
    show l.getD p 0 ≤ l.getD q 0
    by_cases e : p = 0
    · subst e; exact h2 q hpq (by omega)
    · exact h1 p q hpq (by omega) e (by omega)
  | succ j ih =>
    intro l hj hk h1 h2
    unfold sink
    by_cases hlt : l.getD (j + 1) 0 < l.getD j 0
    · rw [if_pos hlt]
      have g := fun q => getD_swap l (j + 1) j q (by omega) (by omega)
      refine ih _ (by omega) (by rw [swapAt_length]; exact hk) ?_ ?_
      · intro p q hpq hq hp hqj
        rw [g p, g q, if_neg hp, if_neg hqj]
        by_cases e1 : p = j + 1
        · subst e1
          rw [if_pos rfl, if_neg (by omega)]
          exact h1 j q (by omega) hq (by omega) (by omega)
        · rw [if_neg e1]
          by_cases e2 : q = j + 1
          · subst e2
            rw [if_pos rfl]
            exact h1 p j (by omega) (by omega) e1 (by omega)
          · rw [if_neg e2]
            exact h1 p q hpq hq e1 e2
      · intro q hq hqk
        rw [g j, g q, if_pos rfl, if_neg (by omega)]
        by_cases e2 : q = j + 1
        · subst e2
          rw [if_pos rfl]
          omega
        · rw [if_neg e2]
          exact h2 q (by omega) hqk
    · rw [if_neg hlt]
      intro p q hpq hq
      by_cases e1 : p = j + 1
      · subst e1; exact h2 q hpq (by omega)
      · by_cases e2 : q = j + 1
        · subst e2
          by_cases e3 : p = j
          · subst e3; omega
          · have := h1 p j (by omega) (by omega) e1 (by omega)
            omega
        · exact h1 p q hpq (by omega) e1 e2

theorem isort_sorted (l : List Int) (k : Nat) (h : k ≤ l.length) : SortedTo (isort l k) k := by
  induction k with
  | zero => intro p q _ hq; omega
  | succ k ih =>
    have := ih (by omega)
    exact sink_sorted k k _ (Nat.le_refl _) (by rw [isort_length]; omega) (fun p q hpq hq hp hqk => this p q hpq (by omega)) (fun q hq hqk => by omega)

theorem desc_perm (l : List Int) : (desc l).Perm l := (List.reverse_perm _).trans (isort_perm l l.length (Nat.le_refl _))

theorem pairwise_of_getD (l : List Int) (h : ∀ p q, p < q → q < l.length → l.getD q 0 ≤ l.getD p 0) : l.Pairwise fun a b => b ≤ a := by
  rw [List.pairwise_iff_getElem]
  intro i j hi hj hij
  have := h i j hij hj
  simpa [List.getD, hi, hj] using this

theorem desc_pairwise (l : List Int) : (desc l).Pairwise fun a b => b ≤ a := by
  have hs := isort_sorted l l.length (Nat.le_refl _)
  have hl := isort_length l l.length
  refine pairwise_of_getD _ fun p q hpq hq => ?_
  rw [desc_length] at hq
  have e : ∀ r, r < l.length → (desc l).getD r 0 = (isort l l.length).getD (l.length - 1 - r) 0 := by
    intro r hr
    unfold desc
    rw [List.getD_eq_getElem?_getD, List.getElem?_reverse (by rw [hl]; exact hr), hl, ← List.getD_eq_getElem?_getD]
  rw [e p (by omega), e q (by omega)]
  exact hs _ _ (by omega) (by omega)

theorem desc_unique (l m : List Int) (hp : m.Perm l) (hs : m.Pairwise fun a b => b ≤ a) : m = desc l :=
  List.Perm.eq_of_pairwise (le := fun a b => b ≤ a) (fun a b _ _ h1 h2 => by omega) hs (desc_pairwise l) (hp.trans (desc_perm l).symm)

/-- Where a number goes into a list that does not rise: from place j down. -/
def posFrom (l : List Int) (v : Int) : Nat → Nat
  | 0 => 0
  | j + 1 => if l.getD j 0 < v then posFrom l v j else j + 1

theorem posFrom_spec (l : List Int) (v : Int) : ∀ j, posFrom l v j ≤ j ∧ (∀ p, posFrom l v j ≤ p → p < j → l.getD p 0 < v) ∧ (posFrom l v j = 0 ∨ v ≤ l.getD (posFrom l v j - 1) 0) := by
  intro j
  induction j with
  | zero => exact ⟨Nat.le_refl _, fun p _ hp => by omega, .inl rfl⟩
  | succ j ih =>
    unfold posFrom
    split
    · obtain ⟨h1, h2, h3⟩ := ih
      refine ⟨by omega, fun p hp hpj => ?_, h3⟩
      by_cases e : p = j
      · subst e; assumption
      · exact h2 p hp (by omega)
    · exact ⟨Nat.le_refl _, fun p hp hpj => by omega, .inr (by rw [Nat.add_sub_cancel]; omega)⟩

def insDesc (l : List Int) (v : Int) : List Int := l.take (posFrom l v l.length) ++ v :: l.drop (posFrom l v l.length)

theorem insDesc_perm (l : List Int) (v : Int) : (insDesc l v).Perm (l ++ [v]) := by
  unfold insDesc
  have h := List.perm_middle (a := v) (l₁ := l.take (posFrom l v l.length)) (l₂ := l.drop (posFrom l v l.length))
  rw [List.take_append_drop] at h
  exact h.trans (List.perm_append_singleton v l).symm

theorem getD_ins (l : List Int) (v : Int) (q p : Nat) (hq : q ≤ l.length) : (l.take q ++ v :: l.drop q).getD p 0 = if p < q then l.getD p 0 else if p = q then v else l.getD (p - 1) 0 := by
  have hl : (l.take q).length = q := by simp; omega
  rw [List.getD_eq_getElem?_getD]
  by_cases h1 : p < q
  · rw [if_pos h1, List.getElem?_append_left (by omega), List.getElem?_take, if_pos h1, ← List.getD_eq_getElem?_getD]
  · rw [if_neg h1, List.getElem?_append_right (by omega), hl]
    by_cases h2 : p = q
    · subst h2
      simp
    · rw [if_neg h2, show p - q = (p - q - 1) + 1 by omega, List.getElem?_cons_succ, List.getElem?_drop, show q + (p - q - 1) = p - 1 by omega, ← List.getD_eq_getElem?_getD]

theorem getD_of_pairwise (l : List Int) (h : l.Pairwise fun a b => b ≤ a) (p q : Nat) (hpq : p ≤ q) (hq : q < l.length) : l.getD q 0 ≤ l.getD p 0 := by
  by_cases e : p = q
  · subst e; exact Int.le_refl _
  · have := List.pairwise_iff_getElem.1 h p q (by omega) hq (by omega)
    simpa [List.getD, hq, show p < l.length by omega] using this

theorem insDesc_pairwise (l : List Int) (v : Int) (h : l.Pairwise fun a b => b ≤ a) : (insDesc l v).Pairwise fun a b => b ≤ a := by
  obtain ⟨h1, h2, h3⟩ := posFrom_spec l v l.length
  have hp := getD_of_pairwise l h
  unfold insDesc
  generalize posFrom l v l.length = q at *
  refine pairwise_of_getD _ fun a b hab hb => ?_
  simp at hb
  rw [getD_ins l v q a h1, getD_ins l v q b h1]
  by_cases a1 : a < q
  · rw [if_pos a1]
    by_cases b1 : b < q
    · rw [if_pos b1]; exact hp a b (by omega) (by omega)
    · rw [if_neg b1]
      by_cases b2 : b = q
      · rw [if_pos b2]
        rcases h3 with h3 | h3
        · omega
        · have := hp a (q - 1) (by omega) (by omega); omega
      · rw [if_neg b2]; exact hp a (b - 1) (by omega) (by omega)
  · rw [if_neg a1, if_neg (by omega), if_neg (by omega)]
    by_cases a2 : a = q
    · rw [if_pos a2]
      have := h2 (b - 1) (by omega) (by omega)
      omega
    · rw [if_neg a2]; exact hp (a - 1) (b - 1) (by omega) (by omega)

theorem fold_desc (l : List Int) : l.foldl insDesc [] = desc l := by
  have : ∀ (l acc : List Int), acc.Pairwise (fun a b => b ≤ a) → (l.foldl insDesc acc).Perm (acc ++ l) ∧ (l.foldl insDesc acc).Pairwise (fun a b => b ≤ a) := by
    intro l
    induction l with
    | nil => intro acc h; exact ⟨by simp, h⟩
    | cons x xs ih =>
      intro acc h
      obtain ⟨i1, i2⟩ := ih (insDesc acc x) (insDesc_pairwise acc x h)
      refine ⟨?_, i2⟩
      have h3 : (insDesc acc x ++ xs).Perm ((acc ++ [x]) ++ xs) := (insDesc_perm acc x).append_right xs
      simpa using i1.trans h3
  obtain ⟨h1, h2⟩ := this l [] List.Pairwise.nil
  exact desc_unique l _ (by simpa using h1) h2

end Go.Proofs.Ytfiaiephbemdoaa

/-
  Words for memory: a slice of slices that reads as a list of lists of integers; one that the call itself made; what keeps both.
-/
namespace Go.Proofs.Ytfiaiephbemdoaa
set_option linter.unusedSimpArgs false
set_option linter.unusedVariables false
set_option linter.unnecessarySimpa false
open Go.RowKit

def apart (a b : Value) : Prop := a.ownBlock = none ∨ a.ownBlock ≠ b.ownBlock

/-- The value v is a slice of slices that reads as the lists xss. -/
def RdM (w : World) (v : Value) (xss : List (List Int)) : Prop :=
  ∃ ao cap, ∃ vs : List Value, vs.length = xss.length ∧ v = .slice ao xss.length cap ∧ xss.length ≤ cap ∧ cap ≤ maxLen ∧
    (xss = [] ∨ ∃ b off, ao = some ⟨b, off, none⟩ ∧ ∀ i, i < xss.length → w.cell? ⟨b, off + i, none⟩ = some (vs.getD i undef)) ∧
    ∀ i, i < xss.length → RdV w (vs.getD i undef) (xss.getD i [])

/-- The slice of slices v, made by the call in blocks from B on and below S, holds the lists xss; no two rows share a block. -/
def OwnM (w : World) (B S : Nat) (v : Value) (xss : List (List Int)) : Prop :=
  ∃ vs : List Value, vs.length = xss.length ∧ w.ownsRow B 25 1 v xss.length vs ∧ InB v B S ∧
    (∀ i, i < xss.length → Own w B (vs.getD i undef) (xss.getD i []) ∧ InB (vs.getD i undef) B S) ∧
    (∀ i j, i < j → j < xss.length → apart (vs.getD i undef) (vs.getD j undef))

/-- Nothing outside the blocks from B on and below S has turned; no block has come or gone. -/
structure Touch (w w' : World) (B S : Nat) : Prop where
  os : w'.os = w.os
  tape : w'.tape = w.tape
  output : w'.output = w.output
  size : w'.heap.size = w.heap.size
  block : ∀ k, (k < B ∨ S ≤ k) → w'.heap[k]? = w.heap[k]?

theorem Touch.refl (w : World) (B S : Nat) : Touch w w B S := ⟨rfl, rfl, rfl, rfl, fun _ _ => rfl⟩
theorem Touch.trans {a b c : World} {B S : Nat} (h : Touch a b B S) (k : Touch b c B S) : Touch a c B S :=
  ⟨k.os.trans h.os, k.tape.trans h.tape, k.output.trans h.output, k.size.trans h.size, fun i hi => (k.block i hi).trans (h.block i hi)⟩

theorem touch_of_grown {w w' : World} {v : Value} {B S : Nat} (h : w.grownBy w' v.ownBlock) (hs : w'.heap.size = w.heap.size) (hv : InB v B S) : Touch w w' B S := by
  refine ⟨h.os, h.tape, h.output, hs, fun k hk => ?_⟩
  by_cases hkl : k < w.heap.size
  · exact h.block k hkl fun e => by have := hv k e.symm; omega
  · rw [Array.getElem?_eq_none (by omega), Array.getElem?_eq_none (by omega)]

theorem own_touch {w w' : World} {B b s B1 S1 : Nat} {v : Value} {xs : List Int} (h : Own w B v xs) (ht : Touch w w' B1 S1) (hv : InB v b s) (hd : s ≤ B1 ∨ S1 ≤ b) : Own w' B v xs := by
  refine ⟨h.1, ?_⟩
  rcases h.2 with h2 | ⟨g, cap, cur, rfl, hb, hg, rest⟩
  · exact .inl h2
  · have := hv g rfl
    exact .inr ⟨g, cap, cur, rfl, hb, by rw [ht.block g (by omega)]; exact hg, rest⟩

theorem rd_touch {w w' : World} {B1 S1 : Nat} {ao : Option Addr} {xs : List Int} (h : Rd w ao xs) (ht : Touch w w' B1 S1) (hd : ∀ a, ao = some a → a.block < B1 ∨ S1 ≤ a.block) : Rd w' ao xs := by
  rcases h with h | ⟨b, off, ha, hc⟩
  · exact .inl h
  · refine .inr ⟨b, off, ha, fun j hj => ?_⟩
    rw [World.cell?_of_block (w := w) (w' := w') (a := ⟨b, off + j, none⟩) (ht.block b (hd ⟨b, off, none⟩ ha))]
    exact hc j hj

theorem below_touch {w0 w w' : World} {B S : Nat} (hb : Below w0.heap.size w0 w) (ht : Touch w w' B S) (h : w0.heap.size ≤ B) : Below w0.heap.size w0 w' :=
  hb.trans ⟨ht.os, ht.tape, ht.output, Nat.le_of_eq ht.size.symm, fun k hk => ht.block k (by omega)⟩

theorem ownM_parts {w : World} {B S : Nat} {v : Value} {xss : List (List Int)} (h : OwnM w B S v xss) :
    ∃ vs : List Value, vs.length = xss.length ∧ ((v = .slice none 0 0 ∧ xss = []) ∨ ∃ g cap, v = .slice (some ⟨g, 0, none⟩) xss.length cap ∧ B ≤ g ∧ g < S ∧ g < w.heap.size ∧ xss.length ≤ cap ∧ cap ≤ maxLen ∧
      (∀ j, j < xss.length → w.cell? ⟨g, j, none⟩ = some (vs.getD j undef)) ∧ (∀ j, w.frozen? ⟨g, j, none⟩ = false)) ∧
      (∀ i, i < xss.length → Own w B (vs.getD i undef) (xss.getD i []) ∧ InB (vs.getD i undef) B S) ∧ (∀ i j, i < j → j < xss.length → apart (vs.getD i undef) (vs.getD j undef)) := by
  obtain ⟨vs, hl, ho, hin, hr, ha⟩ := h
  refine ⟨vs, hl, ?_, hr, ha⟩
  have h0 := ho
  rcases ho.2 with ⟨hv, hn⟩ | ⟨g, cap, cur, hv, hb, hg, hnc, hcm, hcs, htk⟩
  · exact .inl ⟨hv, List.eq_nil_of_length_eq_zero hn⟩
  · subst hv
    refine .inr ⟨g, cap, rfl, hb, (hin g rfl).2, (Array.getElem?_eq_some_iff.1 hg).1, hnc, hcm, ?_, fun j => World.ownsRow.frozenAt h0 j⟩
    intro j hj
    rw [World.ownsRow.cellAt h0 j (by omega)]
    simp [List.getD, hl, hj]

theorem ownM_rdM {w : World} {B S : Nat} {v : Value} {xss : List (List Int)} (h : OwnM w B S v xss) : RdM w v xss := by
  obtain ⟨vs, hl, hv, hr, _⟩ := ownM_parts h
  rcases hv with ⟨rfl, rfl⟩ | ⟨g, cap, rfl, hb, hs, hg, hnc, hcm, hc, _⟩
  · exact ⟨none, 0, vs, hl, rfl, Nat.le_refl _, Nat.zero_le _, .inl rfl, fun i hi => by simp at hi⟩
  · exact ⟨_, cap, vs, hl, rfl, hnc, hcm, .inr ⟨g, 0, rfl, fun j hj => by rw [Nat.zero_add]; exact hc j hj⟩, fun i hi => own_rdv (hr i hi).1⟩

theorem rdM_below {w w' : World} {v : Value} {xss : List (List Int)} (h : RdM w v xss) (hb : Below w.heap.size w w') : RdM w' v xss := by
  obtain ⟨ao, cap, vs, hl, h1, h2, h3, h4, h5⟩ := h
  refine ⟨ao, cap, vs, hl, h1, h2, h3, ?_, fun i hi => rdv_below (h5 i hi) hb⟩
  rcases h4 with h4 | ⟨b, off, ha, hc⟩
  · exact .inl h4
  · exact .inr ⟨b, off, ha, fun i hi => by rw [hb.cell (World.block_lt_of_cell? w _ (hc i hi))]; exact hc i hi⟩

theorem ownM_keep {w w' : World} {B S : Nat} {v : Value} {xss : List (List Int)} (h : OwnM w B S v xss) (hb : ∀ k, B ≤ k → k < S → k < w.heap.size → w'.heap[k]? = w.heap[k]?) : OwnM w' B S v xss := by
  obtain ⟨vs, hl, ho, hin, hr, ha⟩ := h
  have key : ∀ {e : TypeId} {u : Value} {n : Nat} {cs : List Value}, w.ownsRow B e 1 u n cs → InB u B S → w'.ownsRow B e 1 u n cs := by
    intro e u n cs ho hi
    refine ⟨ho.1, ?_⟩
    rcases ho.2 with h2 | ⟨g, cap, cur, rfl, hb', hg, rest⟩
    · exact .inl h2
    · have := hi g rfl
      exact .inr ⟨g, cap, cur, rfl, hb', by rw [hb g this.1 this.2 (Array.getElem?_eq_some_iff.1 hg).1]; exact hg, rest⟩
  exact ⟨vs, hl, key ho hin, hin, fun i hi => ⟨key (hr i hi).1 (hr i hi).2, (hr i hi).2⟩, ha⟩

theorem ownM_below {w w' : World} {B S : Nat} {v : Value} {xss : List (List Int)} (h : OwnM w B S v xss) (hb : Below w.heap.size w w') : OwnM w' B S v xss :=
  ownM_keep h fun k _ _ hk => hb.block k hk

theorem ownM_touch {w w' : World} {B S B1 S1 : Nat} {v : Value} {xss : List (List Int)} (h : OwnM w B S v xss) (ht : Touch w w' B1 S1) (hd : S ≤ B1 ∨ S1 ≤ B) : OwnM w' B S v xss :=
  ownM_keep h fun k h1 h2 _ => ht.block k (by omega)

theorem inB_mono {v : Value} {B B' S S' : Nat} (h : InB v B S) (h1 : B' ≤ B) (h2 : S ≤ S') : InB v B' S' := fun k hk => by have := h k hk; omega

theorem ownM_mono {w : World} {B B' S S' : Nat} {v : Value} {xss : List (List Int)} (h : OwnM w B S v xss) (hB : B' ≤ B) (hS : S ≤ S') : OwnM w B' S' v xss := by
  obtain ⟨vs, hl, ho, hin, hr, ha⟩ := h
  refine ⟨vs, hl, ⟨ho.1, ?_⟩, inB_mono hin hB hS, fun i hi => ⟨own_mono (hr i hi).1 hB, inB_mono (hr i hi).2 hB hS⟩, ha⟩
  rcases ho.2 with h2 | ⟨g, cap, cur, hv, hb, r⟩
  · exact .inl h2
  · exact .inr ⟨g, cap, cur, hv, by omega, r⟩

theorem ownM_nil (w : World) (B S : Nat) : OwnM w B S (.slice none 0 0) [] :=
  ⟨[], rfl, World.ownsRow_nil _ _ _ _, fun k hk => by simp [Value.ownBlock] at hk, fun i hi => by simp at hi, fun i j _ hj => by simp at hj⟩

theorem ownM_empty (w : World) (B : Nat) (hB : B ≤ w.heap.size) : OwnM (w.alloc (.cells #[] 25)) B (w.heap.size + 1) (.slice (some ⟨w.heap.size, 0, none⟩) 0 0) [] :=
  ⟨[], rfl, World.ownsRow_made w #[] 0 hB (Nat.zero_le _) rfl, fun k hk => by simp [Value.ownBlock] at hk; omega, fun i hi => by simp at hi, fun i j _ hj => by simp at hj⟩

/-- What a function that hands back a list of lists in new memory leaves. -/
def FreshM (w : World) (r : List (List Int)) (e : Ending) (w' : World) : Prop :=
  ∃ v, e = .returned v ∧ OwnM w' w.heap.size w'.heap.size v r ∧ Below w.heap.size w w'

def FreshMB (w : World) (r : List (List Int) × Bool) (e : Ending) (w' : World) : Prop :=
  ∃ v, e = .returned (.tuple #[v, .bool r.2]) ∧ OwnM w' w.heap.size w'.heap.size v r.1 ∧ Below w.heap.size w w'

theorem Try.infoInts : ((cutP Try.prog).info? 25).map (fun i => (i.zero, i.size, i.bytes)) = some (some (.slice none 0 0), 1, 24) := by kernel_rfl

theorem getD_snocV_lt {α : Type} (l : List α) (x d : α) (j : Nat) (h : j < l.length) : (l ++ [x]).getD j d = l.getD j d := by
  simp [List.getD, List.getElem?_append_left h]
theorem getD_snocV_eq {α : Type} (l : List α) (x d : α) : (l ++ [x]).getD l.length d = x := by simp [List.getD]

/-- 'append(out, row)' onto a slice of slices of the call's own that is not nil; the row was made later than all that out holds. -/
theorem wp_pushM {w : World} {o : Oper} {a : Act} {K : Act → World → Prop} {Q : Exit → Act → World → Prop} (s x : Operand)
    (ho : o.op = .call { callee := .builtin .append, args := #[s, x], argTypes := #[23, 23] })
    (B S g n cap : Nat) (xss : List (List Int)) (hs : a.eval s = .slice (some ⟨g, 0, none⟩) n cap) (hown : OwnM w B S (.slice (some ⟨g, 0, none⟩) n cap) xss) (hn : n = xss.length)
    (ad : Addr) (hx : a.eval x = .slice (some ad) 1 1) (u : Value) (ys : List Int) (hc : w.cell? ad = some u) (hu : Own w B u ys) (hui : InB u S w.heap.size) (hBS : B ≤ S) (hSw : S ≤ w.heap.size) (hl : n ≤ 1000000000)
    (r : Nat) (hr : n + 1 = r)
    (h : ∀ g' cap' w', OwnM w' B w'.heap.size (.slice (some ⟨g', 0, none⟩) r cap') (xss ++ [ys]) → w.grownBy w' (some g) → K (a.put o.dst (.slice (some ⟨g', 0, none⟩) r cap')) w') :
    o.wp (cutP Try.prog) a w K Q := by
  obtain ⟨i0, hi, hz0, hz1, hz2⟩ := info_parts Try.infoInts
  subst hr
  subst hn
  obtain ⟨vs, hvl, hrow, hin, hrows, hap⟩ := hown
  have hu1 : u.oneCell' = true := by
    rcases own_view hu with ⟨rfl, _⟩ | ⟨g', cap', rfl, _⟩ <;> rfl
  have hnews : ∀ j z, ([u] : List Value)[j]? = some z → w.cell? (ad.add j) = some z := by
    intro j z hj
    match j, hj with
    | 0, hj =>
      simp at hj
      subst hj
      simpa [Addr.add] using hc
  obtain ⟨v', w', hru, ho', hg', hnil, hb'⟩ := run_append_own_at (P := (cutP Try.prog)) w B 23 o.type 25 i0 (.slice none 0 0) 1 24 Tryp.underlying23 hi hz0 hz1 hz2 rfl (by decide) _ xss.length vs hrow ad 1 1 [u] rfl hnews (fun z hz => by simp at hz; subst hz; exact hu1) (by unfold maxLen; omega) (by omega) (by omega)
  unfold Oper.wp execOp
  simp only [ho, resolve, invoke, builtin, Sem.run_bind, Sem.run_pure, Result.andThen_ok, List.map_toArray, List.map_cons, List.map_nil, hs, hx, hru]
  have hgB := hin g rfl
  rcases ho'.2 with ⟨rfl, h2⟩ | ⟨g', cap', cur, rfl, hB', hg2, rest⟩
  · omega
  · have hg2s : g' < w'.heap.size := (Array.getElem?_eq_some_iff.1 hg2).1
    refine h g' cap' w' ?_ hg'
    have hne : ∀ z : Value, ∀ zs : List Int, Own w B z zs → z.ownBlock = none ∨ z.ownBlock ≠ some g := by
      intro z zs hz
      rcases hz.2 with ⟨rfl, _⟩ | ⟨gz, capz, curz, rfl, _, hgz, _⟩
      · exact .inl rfl
      · refine .inr fun e => ?_
        simp [Value.ownBlock] at e
        subst e
        rcases hrow.2 with ⟨h3, _⟩ | ⟨g3, cap3, cur3, h3, _, hg3, _⟩
        · cases h3
        · cases h3
          rw [hgz] at hg3
          simp at hg3
    refine ⟨vs ++ [u], by simp [hvl], by simpa using ho', fun k hk => by simp [Value.ownBlock] at hk; omega, ?_, ?_⟩
    · intro i hi'
      simp at hi'
      by_cases hil : i < xss.length
      · rw [getD_snocV_lt _ _ _ _ (by omega), getD_snocV_lt _ _ _ _ hil]
        exact ⟨own_grown (hrows i hil).1 hg' (hne _ _ (hrows i hil).1), inB_mono (hrows i hil).2 (Nat.le_refl _) (by have := hg'.size; omega)⟩
      · obtain rfl : i = xss.length := by omega
        rw [getD_snocV_eq]
        have : (vs ++ [u]).getD xss.length undef = u := by rw [← hvl]; exact getD_snocV_eq _ _ _
        rw [this]
        exact ⟨own_grown hu hg' (hne _ _ hu), inB_mono hui hBS hg'.size⟩
    · intro i j hij hj
      simp at hj
      by_cases hjl : j < xss.length
      · rw [getD_snocV_lt _ _ _ _ (by omega), getD_snocV_lt _ _ _ _ (by omega)]
        exact hap i j hij hjl
      · obtain rfl : j = xss.length := by omega
        have : (vs ++ [u]).getD xss.length undef = u := by rw [← hvl]; exact getD_snocV_eq _ _ _
        rw [getD_snocV_lt _ _ _ _ (by omega), this]
        have hi1 := (hrows i hij).2
        cases e1 : (vs.getD i undef).ownBlock with
        | none => exact .inl e1
        | some k =>
          refine .inr fun e => ?_
          rw [e1] at e
          have := hi1 k e1
          have := hui k e.symm
          omega

theorem wpList_pushM {w : World} {ops : Array Oper} {rest : List Oper} {o : Oper} {a : Act} {Q : Exit → Act → World → Prop} (hgd : o.guard = none) (s x : Operand)
    (ho : o.op = .call { callee := .builtin .append, args := #[s, x], argTypes := #[23, 23] })
    (B S g n cap : Nat) (xss : List (List Int)) (hs : a.eval s = .slice (some ⟨g, 0, none⟩) n cap) (hown : OwnM w B S (.slice (some ⟨g, 0, none⟩) n cap) xss) (hn : n = xss.length)
    (ad : Addr) (hx : a.eval x = .slice (some ad) 1 1) (u : Value) (ys : List Int) (hc : w.cell? ad = some u) (hu : Own w B u ys) (hui : InB u S w.heap.size) (hBS : B ≤ S) (hSw : S ≤ w.heap.size) (hl : n ≤ 1000000000)
    (r : Nat) (hr : n + 1 = r)
    (h : ∀ g' cap' w', OwnM w' B w'.heap.size (.slice (some ⟨g', 0, none⟩) r cap') (xss ++ [ys]) → w.grownBy w' (some g) → wpList (cutP Try.prog) ops Q rest (a.put o.dst (.slice (some ⟨g', 0, none⟩) r cap')) w') :
    wpList (cutP Try.prog) ops Q (o :: rest) a w :=
  wpList_plain hgd fun _ hK => wp_pushM s x ho B S g n cap xss hs hown hn ad hx u ys hc hu hui hBS hSw hl r hr fun g' cap' w' h1 h2 => hK _ _ (h g' cap' w' h1 h2)

theorem ownM_frozen {w : World} {B S g n cap : Nat} {xss : List (List Int)} (h : OwnM w B S (.slice (some ⟨g, 0, none⟩) n cap) xss) (j : Nat) : w.frozen? ⟨g, j, none⟩ = false := by
  obtain ⟨vs, _, hv, _, _⟩ := ownM_parts h
  rcases hv with ⟨h1, _⟩ | ⟨g', cap', h1, _, _, _, _, _, _, hf⟩
  · cases h1
  · simp only [Value.slice.injEq, Option.some.injEq, Addr.mk.injEq, and_true, true_and] at h1
    obtain ⟨rfl, _⟩ := h1
    exact hf j

theorem ownM_cell {w : World} {B S g n cap : Nat} {xss : List (List Int)} (h : OwnM w B S (.slice (some ⟨g, 0, none⟩) n cap) xss) (j : Nat) (hj : j < xss.length) :
    ∃ u, w.cell? ⟨g, j, none⟩ = some u ∧ Own w B u (xss.getD j []) ∧ InB u B S := by
  obtain ⟨vs, _, hv, hr, _⟩ := ownM_parts h
  rcases hv with ⟨h1, _⟩ | ⟨g', cap', h1, _, _, _, _, _, hc, _⟩
  · cases h1
  · simp only [Value.slice.injEq, Option.some.injEq, Addr.mk.injEq, and_true, true_and] at h1
    obtain ⟨rfl, _⟩ := h1
    exact ⟨_, hc j hj, hr j hj⟩

end Go.Proofs.Ytfiaiephbemdoaa

/-
  The contracts of spec.l1Blocks, spec.l1Type and spec.PartType.
-/
namespace Go.Proofs.Ytfiaiephbemdoaa
set_option linter.unusedSimpArgs false
set_option linter.unusedVariables false
set_option linter.unnecessarySimpa false
open Go.RowKit

/-- The things below k in the block b. -/
def blkAt (xs : List Int) (b : Nat) : Nat → List Int
  | 0 => []
  | k + 1 => if xs.getD k 0 = b then blkAt xs b k ++ [(k : Int)] else blkAt xs b k

theorem blkAt_length (xs : List Int) (b k : Nat) : (blkAt xs b k).length = cntAt xs b k := by
  induction k with
  | zero => rfl
  | succ k ih =>
    unfold blkAt cntAt
    split
    · simp [ih]
    · exact ih

theorem cntAt_le (xs : List Int) (b k : Nat) : cntAt xs b k ≤ k := by
  induction k with
  | zero => exact Nat.le_refl _
  | succ k ih => unfold cntAt; split <;> omega

/-- The blocks below p, as lists. -/
def blocksTo (xs : List Int) (p : Nat) : List (List Int) := (List.range p).map fun b => blkAt xs b xs.length

theorem blocksTo_length (xs : List Int) (p : Nat) : (blocksTo xs p).length = p := by simp [blocksTo]
theorem blocksTo_succ (xs : List Int) (p : Nat) : blocksTo xs (p + 1) = blocksTo xs p ++ [blkAt xs p xs.length] := by simp [blocksTo, List.range_succ]
theorem blocksTo_getD (xs : List Int) (p b : Nat) (h : b < p) : (blocksTo xs p).getD b [] = blkAt xs b xs.length := by simp [blocksTo, List.getD, h]

theorem l1Size_v (v : Value) (xs : List Int) (w : World) (hv : RdV w v xs) (hs : Small xs) : Calls (cutP Try.prog) 61 #[v] w fun e w' => e = .returned (.int .i64 (pSize xs)) ∧ w = w' := by
  obtain ⟨ao, ca, rfl, h, h1, h2⟩ := hv
  unfold maxLen at h2
  exact l1Size_any ao ca xs w h (by omega) hs

theorem sizes_eq (xs : List Int) (p k : Nat) (hp : pSize xs = p) (hk : k < p) : (sizes xs).getD k 0 = ((blocksTo xs p).getD k []).length := by
  rw [blocksTo_getD xs p k hk, blkAt_length]
  simp [sizes, List.getD, show k < (pSize xs).toNat by omega]

theorem fold_take_snoc (l : List Int) (k : Nat) (h : k < l.length) : (l.take (k + 1)).foldl insDesc [] = insDesc ((l.take k).foldl insDesc []) (l.getD k 0) := by
  rw [take_snoc l k h, List.foldl_append]
  rfl

theorem fold_length (l : List Int) : (l.foldl insDesc []).length = l.length := by rw [fold_desc, desc_length]

theorem cells_one {w : World} {ad : Addr} {x : Int} (h : w.cell? ad = some (.int .i64 x)) : ∀ j, j < [x].length → w.cell? (ad.add j) = some (.int .i64 ([x].getD j 0)) := by
  intro j hj
  have : j = 0 := by simpa using hj
  subst this
  simpa [Addr.add] using h

theorem cells_takeW {wo w : World} {g j : Nat} {L : List Int} (h : ∀ r, r < L.length → wo.cell? ⟨g, r, none⟩ = some (.int .i64 (L.getD r 0))) (hb : Below wo.heap.size wo w) : ∀ r, r < (L.take j).length → w.cell? ((⟨g, 0, none⟩ : Addr).add r) = some (.int .i64 ((L.take j).getD r 0)) := by
  intro r hr
  have h1 : r < j ∧ r < L.length := by simp at hr; omega
  rw [Addr.add_lit, Nat.zero_add, hb.cell (World.block_lt_of_cell? wo _ (h r h1.2)), h r h1.2]
  simp [List.getD, List.getElem?_take, h1.1]

theorem cells_dropW {wo w : World} {g j : Nat} {L : List Int} (h : ∀ r, r < L.length → wo.cell? ⟨g, r, none⟩ = some (.int .i64 (L.getD r 0))) (hb : Below wo.heap.size wo w) : ∀ r, r < (L.drop j).length → w.cell? ((⟨g, j, none⟩ : Addr).add r) = some (.int .i64 ((L.drop j).getD r 0)) := by
  intro r hr
  have h1 : j + r < L.length := by simp at hr; omega
  rw [Addr.add_lit, hb.cell (World.block_lt_of_cell? wo _ (h (j + r) h1)), h (j + r) h1]
  simp [List.getD]

theorem cells_drop0 {wo w : World} {g : Nat} {L : List Int} (h : ∀ r, r < L.length → wo.cell? ⟨g, r, none⟩ = some (.int .i64 (L.getD r 0))) (hb : Below wo.heap.size wo w) : ∀ r, r < (L.drop 0).length → w.cell? ((⟨g, 0, none⟩ : Addr).add r) = some (.int .i64 ((L.drop 0).getD r 0)) := cells_dropW h hb

end Go.Proofs.Ytfiaiephbemdoaa

/-
  A partition's numbers grow by one.
-/
namespace Go.Proofs.Ytfiaiephbemdoaa

theorem partIn_ok {xs : List Int} (h : partIn xs = true) : okFrom 0 xs = true := by
  simp only [partIn, Bool.and_eq_true] at h
  exact h.2

end Go.Proofs.Ytfiaiephbemdoaa

/-
  Plain lists: a partition turned twice is the same, and has blocks of the same sizes. No program is named here.
-/
namespace Go.Proofs.Ytfiaiephbemdoaa
set_option linter.unusedSimpArgs false
set_option linter.unusedVariables false
set_option linter.unnecessarySimpa false

theorem mem_iff_getD {f : List Int} {x : Int} : x ∈ f ↔ ∃ j, j < f.length ∧ f.getD j 0 = x := by
  constructor
  · intro h
    exact ⟨f.idxOf x, List.idxOf_lt_length_of_mem h, getD_idxOf h⟩
  · rintro ⟨j, h, e⟩
    exact mem_of_getD h e

/-- What is equal to what tells how things are numbered. -/
theorem kOut_pat : ∀ f g : List Int, g.length = f.length → (∀ i j, i < f.length → j < f.length → (f.getD i 0 = f.getD j 0 ↔ g.getD i 0 = g.getD j 0)) → kOut g = kOut f ∧ kNext g = kNext f := by
  refine snoc_induction ?_ ?_
  · intro g hg _
    rw [List.eq_nil_of_length_eq_zero hg]
    exact ⟨rfl, rfl⟩
  · intro f x ih g' hg hp
    rcases List.eq_nil_or_concat g' with h | ⟨g, y, h⟩
    · rw [h] at hg; simp at hg
    subst h
    simp only [List.concat_eq_append] at hg hp ⊢
    have hl : g.length = f.length := by simpa using hg
    have F : ∀ j, j < f.length → (f ++ [x]).getD j 0 = f.getD j 0 := fun j hj => getD_snoc_lt f x j hj
    have F1 : (f ++ [x]).getD f.length 0 = x := getD_snoc_eq f x
    have G : ∀ j, j < f.length → (g ++ [y]).getD j 0 = g.getD j 0 := fun j hj => getD_snoc_lt g y j (by omega)
    have G1 : (g ++ [y]).getD f.length 0 = y := by rw [← hl]; exact getD_snoc_eq g y
    have hin : ∀ i j, i < f.length → j < f.length → (f.getD i 0 = f.getD j 0 ↔ g.getD i 0 = g.getD j 0) := by
      intro i j hi hj
      have := hp i j (by simp; omega) (by simp; omega)
      rwa [F i hi, F j hj, G i hi, G j hj] at this
    have hla : ∀ i, i < f.length → (f.getD i 0 = x ↔ g.getD i 0 = y) := by
      intro i hi
      have := hp i f.length (by simp; omega) (by simp)
      rwa [F i hi, F1, G i hi, G1] at this
    obtain ⟨e1, e2⟩ := ih g hl hin
    by_cases h : x ∈ f
    · have hi := List.idxOf_lt_length_of_mem h
      have hy1 := (hla _ hi).1 (getD_idxOf h)
      have hy : y ∈ g := mem_of_getD (by omega) hy1
      have hi' := List.idxOf_lt_length_of_mem hy
      have hk := ((kOut_inv g).2 _ _ (by omega) hi').1 (hy1.trans (getD_idxOf hy).symm)
      rw [(kOut_mem h).1, (kOut_mem h).2, (kOut_mem hy).1, (kOut_mem hy).2, ← hk, e1, e2]
      exact ⟨rfl, rfl⟩
    · have hy : y ∉ g := by
        intro hy
        have hi' := List.idxOf_lt_length_of_mem hy
        exact h (mem_of_getD (by omega) ((hla _ (by omega)).2 (getD_idxOf hy)))
      rw [(kOut_new h).1, (kOut_new h).2, (kOut_new hy).1, (kOut_new hy).2, e1, e2]
      exact ⟨rfl, rfl⟩

/-- The numbers given are all from 0 on and below the next one. -/
theorem kOut_all : ∀ (f : List Int) (v : Int), v ∈ kOut f ↔ 0 ≤ v ∧ v < kNext f := by
  refine snoc_induction (fun v => by simp [kOut, kNext, kfold]) fun f x ih v => ?_
  have hb := kNext_bd f
  by_cases h : x ∈ f
  · have hi := List.idxOf_lt_length_of_mem h
    have hm : (kOut f).getD (f.idxOf x) 0 ∈ kOut f := mem_of_getD (by rw [kOut_length]; exact hi) rfl
    rw [(kOut_mem h).1, (kOut_mem h).2, ← ih v, List.mem_append]
    constructor
    · rintro (h1 | h1)
      · exact h1
      · rw [List.mem_singleton.1 h1]; exact hm
    · exact .inl
  · rw [(kOut_new h).1, (kOut_new h).2, List.mem_append, ih v, List.mem_singleton]
    omega

def endFrom : Int → List Int → Int
  | b, [] => b
  | b, x :: xs => endFrom (if x = b then b + 1 else b) xs

theorem okFrom_append : ∀ (f : List Int) (b x : Int), okFrom b (f ++ [x]) = (okFrom b f && (decide (0 ≤ x) && decide (x ≤ endFrom b f))) ∧ endFrom b (f ++ [x]) = if x = endFrom b f then endFrom b f + 1 else endFrom b f := by
  intro f
  induction f with
  | nil => intro b x; simp only [List.nil_append, okFrom, endFrom, Bool.and_true, Bool.true_and]; exact ⟨rfl, rfl⟩
  | cons y f ih =>
    intro b x
    have := ih (if y = b then b + 1 else b) x
    simp only [List.cons_append, okFrom, endFrom, this.1, this.2, Bool.and_assoc]
    exact ⟨rfl, rfl⟩

theorem okFrom_kOut : ∀ f : List Int, okFrom 0 (kOut f) = true ∧ endFrom 0 (kOut f) = kNext f := by
  refine snoc_induction ⟨rfl, rfl⟩ fun f x ih => ?_
  have hb := kNext_bd f
  by_cases h : x ∈ f
  · have hi := List.idxOf_lt_length_of_mem h
    have hr := (kOut_inv f).1 _ hi
    have := okFrom_append (kOut f) 0 ((kOut f).getD (f.idxOf x) 0)
    rw [(kOut_mem h).1, (kOut_mem h).2, this.1, this.2, ih.1, ih.2, if_neg (by omega)]
    refine ⟨?_, rfl⟩
    simp only [Bool.and_eq_true, decide_eq_true_eq]
    exact ⟨trivial, by omega, by omega⟩
  · have := okFrom_append (kOut f) 0 (kNext f)
    rw [(kOut_new h).1, (kOut_new h).2, this.1, this.2, ih.1, ih.2, if_pos rfl]
    refine ⟨?_, rfl⟩
    simp only [Bool.and_eq_true, decide_eq_true_eq]
    exact ⟨trivial, by omega, by omega⟩

theorem kOut_of_ok : ∀ f : List Int, okFrom 0 f = true → kOut f = f ∧ kNext f = endFrom 0 f := by
  refine snoc_induction (fun _ => ⟨rfl, rfl⟩) fun f x ih h => ?_
  have ha := okFrom_append f 0 x
  rw [ha.1] at h
  simp only [Bool.and_eq_true, decide_eq_true_eq] at h
  obtain ⟨h1, h2, h3⟩ := h
  obtain ⟨e1, e2⟩ := ih h1
  rw [← e2] at h3
  rw [ha.2, ← e2]
  by_cases hm : x ∈ f
  · have hx := (kOut_all f x).1 (by rw [e1]; exact hm)
    rw [(kOut_mem hm).1, (kOut_mem hm).2, e1, getD_idxOf hm, if_neg (by omega)]
    exact ⟨rfl, rfl⟩
  · have hx : x = kNext f := by
      by_cases e : x = kNext f
      · exact e
      · exact absurd (by have := (kOut_all f x).2 ⟨h2, by omega⟩; rwa [e1] at this) hm
    rw [(kOut_new hm).1, (kOut_new hm).2, e1, if_pos hx, hx]
    exact ⟨rfl, rfl⟩

theorem partIn_kOut {f : List Int} (h1 : 1 ≤ f.length) (h2 : f.length ≤ 8) : partIn (kOut f) = true := by
  simp only [partIn, Bool.and_eq_true, decide_eq_true_eq, kOut_length]
  exact ⟨⟨h1, h2⟩, (okFrom_kOut f).1⟩

theorem getD_reverse (xs : List Int) (j : Nat) (h : j < xs.length) : xs.reverse.getD j 0 = xs.getD (xs.length - 1 - j) 0 := by
  simp [List.getD, List.getElem?_reverse h]

/-- Turned twice is not turned. -/
theorem turned_twice {xs : List Int} (h : partIn xs = true) : kOut (kOut xs.reverse).reverse = xs := by
  have hk := (kOut_of_ok xs (partIn_ok h)).1
  have hl : (kOut xs.reverse).reverse.length = xs.length := by simp [kOut_length]
  refine ((kOut_pat xs _ hl fun i j hi hj => ?_).1).trans hk
  have hkl : (kOut xs.reverse).length = xs.length := by simp [kOut_length]
  rw [getD_reverse _ i (by omega), getD_reverse _ j (by omega), hkl]
  have := (kOut_inv xs.reverse).2 (xs.length - 1 - i) (xs.length - 1 - j) (by simp; omega) (by simp; omega)
  rw [← this, getD_reverse _ _ (by omega), getD_reverse _ _ (by omega), show xs.length - 1 - (xs.length - 1 - i) = i by omega, show xs.length - 1 - (xs.length - 1 - j) = j by omega]

theorem partTurned_twice {xs : List Int} (h : partIn xs = true) : partTurned (partTurned xs).1 = (xs, true) := by
  have hl := partIn_len h
  have e : (partTurned xs).1 = kOut xs.reverse := by simp [partTurned, h]
  rw [e]
  unfold partTurned
  rw [if_pos (partIn_kOut (by simpa using hl.1) (by simpa using hl.2)), turned_twice h]

theorem cntAt_count (xs : List Int) (b : Nat) : ∀ k, k ≤ xs.length → cntAt xs b k = (xs.take k).count (b : Int) := by
  intro k
  induction k with
  | zero => intro _; simp [cntAt]
  | succ k ih =>
    intro h
    rw [take_snoc xs k (by omega), List.count_append, ← ih (by omega)]
    simp only [cntAt, List.count_singleton]
    by_cases e : xs.getD k 0 = b
    · rw [e]
      simp
    · simp only [if_neg e]
      have : (xs.getD k 0 == (b : Int)) = false := by simpa using e
      rw [this]
      simp

theorem sizeFrom_append : ∀ (f : List Int) (n x : Int), sizeFrom n (f ++ [x]) = max (sizeFrom n f) (x + 1) := by
  intro f
  induction f with
  | nil => intro n x; simp [sizeFrom]
  | cons y f ih => intro n x; simp only [List.cons_append, sizeFrom]; exact ih _ _

theorem pSize_kOut : ∀ f : List Int, pSize (kOut f) = kNext f := by
  refine snoc_induction rfl fun f x ih => ?_
  have hb := kNext_bd f
  unfold pSize at *
  by_cases h : x ∈ f
  · have hr := (kOut_inv f).1 _ (List.idxOf_lt_length_of_mem h)
    rw [(kOut_mem h).1, (kOut_mem h).2, sizeFrom_append, ih]
    omega
  · rw [(kOut_new h).1, (kOut_new h).2, sizeFrom_append, ih]
    omega

/-- The sizes of the blocks of a list that is numbered from 0 on: how often each number is there. -/
theorem sizes_kOut (f : List Int) : sizes (kOut f) = (iota 0 (kNext f).toNat).map fun v => ((kOut f).count v : Int) := by
  unfold sizes iota
  rw [pSize_kOut, List.map_map]
  refine List.map_congr_left fun b _ => ?_
  simp only [Function.comp]
  rw [cntAt_count _ _ _ (Nat.le_refl _), List.take_length]
  simp

theorem iota_nodup (n : Nat) : (iota 0 n).Nodup := by
  unfold iota List.Nodup
  rw [List.pairwise_map]
  refine List.Pairwise.imp ?_ (List.nodup_range (n := n))
  intro a b h e
  exact h (by omega)

theorem mem_iota (n : Int) (v : Int) (hn : 0 ≤ n) : v ∈ iota 0 n.toNat ↔ 0 ≤ v ∧ v < n := by
  simp only [iota, List.mem_map, List.mem_range]
  constructor
  · rintro ⟨j, hj, e⟩
    omega
  · rintro ⟨h1, h2⟩
    exact ⟨v.toNat, by omega, by omega⟩

/-- Blocks numbered anew are as large as they were. -/
theorem sizes_perm (f r : List Int) (hr : r.Perm (kOut f)) : (sizes (kOut r)).Perm (sizes (kOut f)) := by
  let g : Int → Int := fun v => (kOut r).getD (r.idxOf v) 0
  have hg : ∀ v, v ∈ r → g v ∈ kOut r := fun v hv => mem_of_getD (by rw [kOut_length]; exact List.idxOf_lt_length_of_mem hv) rfl
  have hinj : ∀ u v, u ∈ r → v ∈ r → (g u = g v ↔ u = v) := by
    intro u v hu hv
    have := (kOut_inv r).2 _ _ (List.idxOf_lt_length_of_mem hu) (List.idxOf_lt_length_of_mem hv)
    rw [getD_idxOf hu, getD_idxOf hv] at this
    exact this.symm
  have hat : ∀ j, j < r.length → (kOut r).getD j 0 = g (r.getD j 0) := by
    intro j hj
    have hm : r.getD j 0 ∈ r := mem_of_getD hj rfl
    exact ((kOut_inv r).2 _ _ hj (List.idxOf_lt_length_of_mem hm)).1 (getD_idxOf hm).symm
  have hmap : kOut r = r.map g := by
    refine ext_getD (by simp [kOut_length]) fun j hj => ?_
    rw [kOut_length] at hj
    rw [hat j hj]
    simp [List.getD, hj]
  have hcount : ∀ u, u ∈ r → (kOut r).count (g u) = (kOut f).count u := by
    intro u hu
    rw [← hr.count_eq u, hmap, List.count_eq_countP, List.count_eq_countP, List.countP_map]
    refine List.countP_congr fun x hx => ?_
    simp only [Function.comp, beq_iff_eq]
    exact hinj x u hx hu
  have hmem : ∀ v, v ∈ r ↔ 0 ≤ v ∧ v < kNext f := fun v => by rw [hr.mem_iff, kOut_all]
  have hperm : (iota 0 (kNext r).toNat).Perm ((iota 0 (kNext f).toNat).map g) := by
    refine (List.perm_ext_iff_of_nodup (iota_nodup _) ?_).2 fun v => ?_
    · unfold List.Nodup
      rw [List.pairwise_map]
      refine List.Pairwise.imp_of_mem ?_ (iota_nodup (kNext f).toNat)
      intro a b ha hb h e
      rw [mem_iota _ _ (kNext_bd f).1, ← hmem] at ha hb
      exact h ((hinj a b ha hb).1 e)
    · rw [mem_iota _ _ (kNext_bd r).1, ← kOut_all, List.mem_map]
      constructor
      · intro h
        rw [hmap, List.mem_map] at h
        obtain ⟨u, hu, e⟩ := h
        exact ⟨u, (mem_iota _ _ (kNext_bd f).1).2 ((hmem u).1 hu), e⟩
      · rintro ⟨u, hu, e⟩
        rw [← e]
        exact hg u ((hmem u).2 ((mem_iota _ _ (kNext_bd f).1).1 hu))
  rw [sizes_kOut r, sizes_kOut f]
  refine (hperm.map _).trans (List.Perm.of_eq ?_)
  rw [List.map_map]
  refine List.map_congr_left fun u hu => ?_
  simp only [Function.comp]
  rw [hcount u ((hmem u).2 ((mem_iota _ _ (kNext_bd f).1).1 hu))]

/-- A partition turned has blocks as large. -/
theorem turned_type {xs : List Int} (h : partIn xs = true) : partType (partTurned xs).1 = partType xs := by
  have hl := partIn_len h
  have hk := (kOut_of_ok xs (partIn_ok h)).1
  have e : (partTurned xs).1 = kOut xs.reverse := by simp [partTurned, h]
  rw [e]
  unfold partType
  rw [if_pos h, if_pos (partIn_kOut (by simpa using hl.1) (by simpa using hl.2))]
  have hp := sizes_perm xs xs.reverse (by rw [hk]; exact List.reverse_perm xs)
  rw [hk] at hp
  rw [← desc_unique (sizes xs) (desc (sizes (kOut xs.reverse))) ((desc_perm _).trans hp) (desc_pairwise _)]

end Go.Proofs.Ytfiaiephbemdoaa

/-
  Plain lists: on how many pairs two partitions differ. No program is named here.
-/
namespace Go.Proofs.Ytfiaiephbemdoaa
set_option linter.unusedSimpArgs false
set_option linter.unusedVariables false
set_option linter.unnecessarySimpa false

/-- Do two lists differ on a pair? -/
def dif (a b : List Int) (i k : Nat) : Nat := if decide (a.getD i 0 = a.getD k 0) = decide (b.getD i 0 = b.getD k 0) then 0 else 1
/-- On how many pairs of i and one of the first k. -/
def qRow (a b : List Int) (i : Nat) : Nat → Nat
  | 0 => 0
  | k + 1 => qRow a b i k + dif a b i k
/-- On how many pairs of the first n. -/
def quarTo (a b : List Int) : Nat → Nat
  | 0 => 0
  | i + 1 => quarTo a b i + qRow a b i i
def quar (a b : List Int) : Nat := quarTo a b a.length

theorem dif_le (a b : List Int) (i k : Nat) : dif a b i k ≤ 1 := by unfold dif; split <;> omega
theorem dif_comm (a b : List Int) (i k : Nat) : dif a b i k = dif b a i k := by
  unfold dif
  by_cases h : decide (a.getD i 0 = a.getD k 0) = decide (b.getD i 0 = b.getD k 0)
  · rw [if_pos h, if_pos h.symm]
  · rw [if_neg h, if_neg (fun e => h e.symm)]
theorem dif_self (a : List Int) (i k : Nat) : dif a a i k = 0 := by simp [dif]
theorem dif_zero {a b : List Int} {i k : Nat} : dif a b i k = 0 ↔ (a.getD i 0 = a.getD k 0 ↔ b.getD i 0 = b.getD k 0) := by
  unfold dif
  by_cases h1 : a.getD i 0 = a.getD k 0 <;> by_cases h2 : b.getD i 0 = b.getD k 0 <;> simp [h1, h2]

theorem qRow_le (a b : List Int) (i k : Nat) : qRow a b i k ≤ k := by
  induction k with
  | zero => exact Nat.le_refl _
  | succ k ih => have := dif_le a b i k; unfold qRow; omega
theorem qRow_comm (a b : List Int) (i k : Nat) : qRow a b i k = qRow b a i k := by
  induction k with
  | zero => rfl
  | succ k ih => unfold qRow; rw [ih, dif_comm]
theorem quarTo_le (a b : List Int) (n : Nat) : quarTo a b n ≤ n * n := by
  induction n with
  | zero => exact Nat.le_refl _
  | succ n ih =>
    have h1 := qRow_le a b n n
    have h2 : (n + 1) * (n + 1) = n * n + n + n + 1 := by rw [Nat.succ_mul, Nat.mul_succ]; omega
    unfold quarTo
    omega
theorem quarTo_comm (a b : List Int) (n : Nat) : quarTo a b n = quarTo b a n := by
  induction n with
  | zero => rfl
  | succ n ih => unfold quarTo; rw [ih, qRow_comm]
theorem quar_comm {a b : List Int} (h : b.length = a.length) : quar a b = quar b a := by unfold quar; rw [h, quarTo_comm]

theorem qRow_self (a : List Int) (i k : Nat) : qRow a a i k = 0 := by
  induction k with
  | zero => rfl
  | succ k ih => unfold qRow; rw [ih, dif_self]
theorem quarTo_self (a : List Int) (n : Nat) : quarTo a a n = 0 := by
  induction n with
  | zero => rfl
  | succ n ih => unfold quarTo; rw [ih, qRow_self]

theorem qRow_zero {a b : List Int} {i : Nat} : ∀ k, qRow a b i k = 0 → ∀ j, j < k → dif a b i j = 0 := by
  intro k
  induction k with
  | zero => intro _ j hj; omega
  | succ k ih =>
    intro h j hj
    unfold qRow at h
    by_cases e : j = k
    · subst e; omega
    · exact ih (by omega) j (by omega)
theorem quarTo_zero {a b : List Int} : ∀ n, quarTo a b n = 0 → ∀ i k, k < i → i < n → dif a b i k = 0 := by
  intro n
  induction n with
  | zero => intro _ i k _ hi; omega
  | succ n ih =>
    intro h i k hk hi
    unfold quarTo at h
    by_cases e : i = n
    · subst e; exact qRow_zero i (by omega) k hk
    · exact ih (by omega) i k hk (by omega)

/-- Two partitions that differ on no pair are the same. -/
theorem quar_zero {a b : List Int} (ha : partIn a = true) (hb : partIn b = true) (hl : b.length = a.length) : quar a b = 0 ↔ a = b := by
  constructor
  · intro h
    have hz := quarTo_zero a.length h
    have hp : ∀ i k, i < a.length → k < a.length → (a.getD i 0 = a.getD k 0 ↔ b.getD i 0 = b.getD k 0) := by
      intro i k hi hk
      rcases Nat.lt_trichotomy i k with hlt | heq | hgt
      · have := dif_zero.1 (hz k i hlt hk)
        exact ⟨fun e => (this.1 e.symm).symm, fun e => (this.2 e.symm).symm⟩
      · subst heq; simp
      · exact dif_zero.1 (hz i k hgt hi)
    have e := (kOut_pat a b hl hp).1
    rw [(kOut_of_ok a (partIn_ok ha)).1, (kOut_of_ok b (partIn_ok hb)).1] at e
    exact e.symm
  · rintro rfl
    exact quarTo_self a _

/-- By way of what is together in both. -/
theorem dif_meet {a b m : List Int} {i k : Nat} (h : m.getD i 0 = m.getD k 0 ↔ a.getD i 0 = a.getD k 0 ∧ b.getD i 0 = b.getD k 0) : dif a m i k + dif m b i k = dif a b i k := by
  have hm : decide (m.getD i 0 = m.getD k 0) = (decide (a.getD i 0 = a.getD k 0) && decide (b.getD i 0 = b.getD k 0)) := by rw [← Bool.decide_and]; exact decide_eq_decide.2 h
  unfold dif
  rw [hm]
  cases decide (a.getD i 0 = a.getD k 0) <;> cases decide (b.getD i 0 = b.getD k 0) <;> rfl
theorem quar_meet {a b m : List Int} (h : ∀ i k, i < a.length → k < a.length → (m.getD i 0 = m.getD k 0 ↔ a.getD i 0 = a.getD k 0 ∧ b.getD i 0 = b.getD k 0)) (hl : m.length = a.length) : quar a m + quar m b = quar a b := by
  have hr : ∀ i, i < a.length → ∀ k, k ≤ i → qRow a m i k + qRow m b i k = qRow a b i k := by
    intro i hi k
    induction k with
    | zero => intro _; rfl
    | succ k ih =>
      intro hk
      have h1 := ih (by omega)
      have h2 := dif_meet (h i k hi (by omega))
      unfold qRow
      omega
  have hq : ∀ n, n ≤ a.length → quarTo a m n + quarTo m b n = quarTo a b n := by
    intro n
    induction n with
    | zero => intro _; rfl
    | succ n ih =>
      intro hn
      have h1 := ih (by omega)
      have h2 := hr n (by omega) n (Nat.le_refl _)
      unfold quarTo
      omega
  unfold quar
  rw [hl]
  exact hq _ (Nat.le_refl _)

/-- The sum of what one partition and some views differ on. -/
def costOf (a : List Int) (vs : List (List Int)) : Nat := vs.foldr (fun v s => quar a v + s) 0
theorem costOf_append (a : List Int) (l m : List (List Int)) : costOf a (l ++ m) = costOf a l + costOf a m := by
  induction l with
  | nil => simp [costOf]
  | cons x l ih =>
    show quar a x + costOf a (l ++ m) = quar a x + costOf a l + costOf a m
    rw [ih, Nat.add_assoc]
theorem costOf_step (a : List Int) (l : List (List Int)) (k : Nat) (h : k < l.length) : costOf a (l.take (k + 1)) = costOf a (l.take k) + quar a (l.getD k []) := by
  rw [List.take_succ_eq_append_getElem h, costOf_append]
  simp [costOf, List.getD, h]
theorem costOf_take (a : List Int) (l : List (List Int)) (k : Nat) : costOf a (l.take k) ≤ costOf a l := by
  have := costOf_append a (l.take k) (l.drop k)
  rw [List.take_append_drop] at this
  omega

/-- How many views differ from a on one pair; the sum over pairs. -/
def pc (a : List Int) (vs : List (List Int)) (i k : Nat) : Nat := vs.foldr (fun v s => dif a v i k + s) 0
def pRow (a : List Int) (vs : List (List Int)) (i : Nat) : Nat → Nat
  | 0 => 0
  | k + 1 => pRow a vs i k + pc a vs i k
def pTo (a : List Int) (vs : List (List Int)) : Nat → Nat
  | 0 => 0
  | i + 1 => pTo a vs i + pRow a vs i i

theorem pRow_nil (a : List Int) (i k : Nat) : pRow a [] i k = 0 := by
  induction k with
  | zero => rfl
  | succ k ih => unfold pRow; rw [ih]; rfl
theorem pTo_nil (a : List Int) (n : Nat) : pTo a [] n = 0 := by
  induction n with
  | zero => rfl
  | succ n ih => unfold pTo; rw [ih, pRow_nil]
theorem pRow_cons (a v : List Int) (vs : List (List Int)) (i k : Nat) : pRow a (v :: vs) i k = qRow a v i k + pRow a vs i k := by
  induction k with
  | zero => rfl
  | succ k ih =>
    have : pc a (v :: vs) i k = dif a v i k + pc a vs i k := rfl
    unfold pRow qRow
    omega
theorem pTo_cons (a v : List Int) (vs : List (List Int)) (n : Nat) : pTo a (v :: vs) n = quarTo a v n + pTo a vs n := by
  induction n with
  | zero => rfl
  | succ n ih =>
    have := pRow_cons a v vs n n
    unfold pTo quarTo
    omega
theorem costOf_pairs (a : List Int) (vs : List (List Int)) : costOf a vs = pTo a vs a.length := by
  induction vs with
  | nil => rw [pTo_nil]; rfl
  | cons v vs ih =>
    rw [pTo_cons, ← ih]
    rfl

theorem cost_le {a c : List Int} {vs : List (List Int)} (hl : c.length = a.length) (h : ∀ i k, i < a.length → k < i → pc a vs i k ≤ pc c vs i k) : costOf a vs ≤ costOf c vs := by
  rw [costOf_pairs, costOf_pairs, hl]
  have hr : ∀ i, i < a.length → ∀ k, k ≤ i → pRow a vs i k ≤ pRow c vs i k := by
    intro i hi k
    induction k with
    | zero => intro _; exact Nat.le_refl _
    | succ k ih =>
      intro hk
      have h1 := ih (by omega)
      have h2 := h i k hi (by omega)
      unfold pRow
      omega
  have hq : ∀ n, n ≤ a.length → pTo a vs n ≤ pTo c vs n := by
    intro n
    induction n with
    | zero => intro _; exact Nat.le_refl _
    | succ n ih =>
      intro hn
      have h1 := ih (by omega)
      have h2 := hr n (by omega) n (Nat.le_refl _)
      unfold pTo
      omega
  exact hq _ (Nat.le_refl _)

/-- How many views have a pair together. -/
def votes (vs : List (List Int)) (i k : Nat) : Nat := vs.foldr (fun v s => (if v.getD i 0 = v.getD k 0 then 1 else 0) + s) 0

theorem votes_le (vs : List (List Int)) (i k : Nat) : votes vs i k ≤ vs.length := by
  induction vs with
  | nil => exact Nat.le_refl _
  | cons v vs ih =>
    show (if v.getD i 0 = v.getD k 0 then 1 else 0) + votes vs i k ≤ vs.length + 1
    split <;> omega
theorem pc_votes (a : List Int) (vs : List (List Int)) (i k : Nat) : pc a vs i k = if a.getD i 0 = a.getD k 0 then vs.length - votes vs i k else votes vs i k := by
  induction vs with
  | nil => simp [pc, votes]
  | cons v vs ih =>
    have h0 := votes_le vs i k
    have h1 : pc a (v :: vs) i k = dif a v i k + pc a vs i k := rfl
    have h2 : votes (v :: vs) i k = (if v.getD i 0 = v.getD k 0 then 1 else 0) + votes vs i k := rfl
    have h3 : dif a v i k = if decide (a.getD i 0 = a.getD k 0) = decide (v.getD i 0 = v.getD k 0) then 0 else 1 := rfl
    rw [h1, h2, h3, ih, List.length_cons]
    by_cases ea : a.getD i 0 = a.getD k 0
    · rw [if_pos ea, if_pos ea, decide_eq_true ea]
      by_cases ev : v.getD i 0 = v.getD k 0
      · rw [if_pos ev, decide_eq_true ev, if_pos rfl]; omega
      · rw [if_neg ev, decide_eq_false ev, if_neg (by decide)]; omega
    · rw [if_neg ea, if_neg ea, decide_eq_false ea]
      by_cases ev : v.getD i 0 = v.getD k 0
      · rw [if_pos ev, decide_eq_true ev, if_neg (by decide)]
      · rw [if_neg ev, decide_eq_false ev, if_pos rfl]

/-- What has together just the pairs that most views have together costs least. -/
theorem most_least {a c : List Int} {vs : List (List Int)} (hl : c.length = a.length) (h : ∀ i k, i < a.length → k < i → (a.getD i 0 = a.getD k 0 ↔ vs.length < 2 * votes vs i k)) : costOf a vs ≤ costOf c vs := by
  refine cost_le hl fun i k hi hk => ?_
  have h0 := votes_le vs i k
  have h1 := h i k hi hk
  rw [pc_votes, pc_votes]
  by_cases e : a.getD i 0 = a.getD k 0
  · rw [if_pos e]
    have := h1.1 e
    split <;> omega
  · rw [if_neg e]
    have : ¬ vs.length < 2 * votes vs i k := fun hh => e (h1.2 hh)
    split <;> omega

end Go.Proofs.Ytfiaiephbemdoaa

/-
  What a worker asks, while others work: agree, quarrel, and the two questions. No condition.
-/
namespace Go.Proofs.Ytfiaiephbemdoaa
set_option linter.unusedVariables false
set_option linter.unusedSimpArgs false
open Go.Conc Go.RowKit
open Go.ConcN (WgLive)

section
variable {Φ : Ph} {k : Nat}
theorem drawW : LetsDraw (DW Φ k) := fun _ => ⟨⟨_, rfl⟩, by simp⟩
theorem ownW (w : World) : RW Φ k w { w with drawn := w.drawn + 1 } := ⟨fun _ _ => rfl, id⟩

/-- A list that the worker may read. -/
structure Lk (Φ : Ph) (k b off : Nat) (xs : List Int) (w : World) : Prop where
  rd : Φ.Rd k b
  at' : Nums w b off xs
theorem Lk.rely {b off : Nat} {xs : List Int} {w w₁ : World} (h : Lk Φ k b off xs w) (r : RW Φ k w w₁) : Lk Φ k b off xs w₁ := ⟨h.rd, fun j hj => (cell_eq (r.rd b h.rd)).trans (h.at' j hj)⟩
theorem Lk.at {b off : Nat} {xs : List Int} {w : World} (h : Lk Φ k b off xs w) (d : Nat) : Lk Φ k b off xs (w.at d) := ⟨h.rd, h.at'⟩

structure Lk2 (Φ : Ph) (k b off b' off' : Nat) (xs ys : List Int) (S : World → Prop) (w : World) : Prop where
  one : Lk Φ k b off xs w
  two : Lk Φ k b' off' ys w
  held : S w
  stays : ∀ w w₁, RW Φ k w w₁ → S w → S w₁
theorem Lk2.rely {b off b' off' : Nat} {xs ys : List Int} {S : World → Prop} {w w₁ : World} (h : Lk2 Φ k b off b' off' xs ys S w) (r : RW Φ k w w₁) : Lk2 Φ k b off b' off' xs ys S w₁ := ⟨h.one.rely r, h.two.rely r, h.stays _ _ r h.held, h.stays⟩

end

theorem eqb_events {P : Program} {t : TypeId} {x y : Bool} {w : World} (h : P.underlying t = some .bool) : (binOp .eql t (.bool x) (.bool y)).events P w #[] = #[] := by
  have h2 : (Op.equal t (.bool x) (.bool y)).events P w #[] = #[] := by
    have h3 : ∀ d, (Op.equalIn (d + 1) t (.bool x) (.bool y)).events P w #[] = #[] := fun d => by simp [Op.equalIn, go_sem, run_underlying h]
    exact h3 9999
  simp [binOp, go_sem, h2]
theorem bool_under : Try.prog.underlying 4 = some .bool := by kernel_rfl

section
variable {Φ : Ph} {k b off b' off' cap cap' : Nat} {xs ys : List Int}
set_option maxRecDepth 100000 in
theorem agree_w : ∃ m, ∀ (S : World → Prop) (b off b' off' cap cap' : Nat) (xs ys : List Int), ys.length = xs.length → ∀ (i j : Nat), i < xs.length → j < xs.length → ∀ w, Lk2 Φ k b off b' off' xs ys S w →
    CallsC Try.prog false (RW Φ k) (DW Φ k) 62 #[.slice (some ⟨b, off, none⟩) xs.length cap, .slice (some ⟨b', off', none⟩) ys.length cap', .int .i64 i, .int .i64 j] m w fun v w' => Lk2 Φ k b off b' off' xs ys S w' ∧ v = .bool ((xs.getD i 0 == xs.getD j 0) == (ys.getD i 0 == ys.getD j 0)) := by
  have T := termsW Φ k
  co_apply Exists.intro
  intro S b off b' off' cap cap' xs ys hl i j hi hj w₀ hF
  have hi' : i < ys.length := by omega
  have hj' : j < ys.length := by omega
  have zi : (0 : Int) ≤ i ∧ (i : Int) < xs.length := ⟨by omega, by omega⟩
  have zj : (0 : Int) ≤ j ∧ (j : Int) < xs.length := ⟨by omega, by omega⟩
  have yi : (0 : Int) ≤ i ∧ (i : Int) < ys.length := ⟨by omega, by omega⟩
  have yj : (0 : Int) ≤ j ∧ (j : Int) < ys.length := ⟨by omega, by omega⟩
  co_apply callsC_of_wpC Try.func62 (by rfl) rfl
  simp only [Try.ntmps62, List.size_toArray, List.length_cons, List.length_nil, Nat.reduceAdd, Nat.reduceSub, Array.replicate_succ, Array.replicate_zero, List.push_toArray, List.append_toArray, List.nil_append, List.cons_append]
  co_stmt T Lk2.rely hF (co_quiet T)
  co_apply wpC_seq T
  co_held T drawW ownW (Lk2 Φ k b off b' off' xs ys S) Lk2.rely hF
  co_take 0 T Lk2.rely hF hw (skip) (co_quiet T)
  co_take 1 T Lk2.rely hF hw (skip) (co_quiet T)
  co_take 2 T Lk2.rely hF hw (skip) (co_still T)
  co_take 3 T Lk2.rely hF hw (have hc := hw.one.at' i hi; have hr := hw.one.rd) (refine ⟨⟨_, rfl⟩, ?_⟩; co_evs (exact ⟨_, rfl, hr⟩))
  co_take 4 T Lk2.rely hF hw (skip) (co_quiet T)
  co_take 5 T Lk2.rely hF hw (skip) (co_quiet T)
  co_take 6 T Lk2.rely hF hw (skip) (co_still T)
  co_take 7 T Lk2.rely hF hw (have hc := hw.one.at' j hj; have hr := hw.one.rd) (refine ⟨⟨_, rfl⟩, ?_⟩; co_evs (exact ⟨_, rfl, hr⟩))
  co_take 8 T Lk2.rely hF hw (skip) (co_quiet T)
  co_take 9 T Lk2.rely hF hw (skip) (co_quiet T)
  co_take 10 T Lk2.rely hF hw (skip) (co_quiet T)
  co_take 11 T Lk2.rely hF hw (skip) (co_still T)
  co_take 12 T Lk2.rely hF hw (have hc := hw.two.at' i hi'; have hr := hw.two.rd) (refine ⟨⟨_, rfl⟩, ?_⟩; co_evs (exact ⟨_, rfl, hr⟩))
  co_take 13 T Lk2.rely hF hw (skip) (co_quiet T)
  co_take 14 T Lk2.rely hF hw (skip) (co_quiet T)
  co_take 15 T Lk2.rely hF hw (skip) (co_still T)
  co_take 16 T Lk2.rely hF hw (have hc := hw.two.at' j hj'; have hr := hw.two.rd) (refine ⟨⟨_, rfl⟩, ?_⟩; co_evs (exact ⟨_, rfl, hr⟩))
  co_take 17 T Lk2.rely hF hw (skip) (co_quiet T)
  co_take 18 T Lk2.rely hF hw (skip) (rw [listed_nil (by simp [go_sem, eqb_events bool_under])]; exact Terms.idle T _)
  co_take 19 T Lk2.rely hF hw (skip) (co_quiet T)
  co_done
  co_ctl T
  exact ⟨rfl, _, resultsC_tmp (by rfl) _, hF, by simp [List.getElem?_eq_getElem, hi, hj, hi', hj']⟩

theorem dif_b (xs ys : List Int) (i j : Nat) : ((xs.getD i 0 == xs.getD j 0) == (ys.getD i 0 == ys.getD j 0)) = decide (dif xs ys j i = 0) := by
  unfold dif
  generalize xs.getD i 0 = a
  generalize xs.getD j 0 = b
  generalize ys.getD i 0 = c
  generalize ys.getD j 0 = d
  by_cases h1 : a = b <;> by_cases h2 : c = d <;> first | (simp [h1, h2, eq_comm (a := b) (b := a), eq_comm (a := d) (b := c)]; done) | (rw [beq_false_of_ne h1, beq_false_of_ne h2]; simp [h1, h2, eq_comm (a := b) (b := a), eq_comm (a := d) (b := c)])

def OutI (Φ : Ph) (k b off b' off' cap cap' : Nat) (xs ys : List Int) (S : World → Prop) (a : Act) (w : World) : Prop :=
  ∃ (kk : Nat) (ci ki : Int) (v2 v3 v4 v6 v7 v8 v11 v12 v13 v14 v15 v16 v17 v18 v19 v20 v21 v22 v23 v24 v25 v26 v27 : Value), ci = (quarTo xs ys kk : Nat) ∧ ki = kk ∧ kk ≤ xs.length ∧ Lk2 Φ k b off b' off' xs ys S w ∧
    a = { tmps := #[.slice (some ⟨b, off, none⟩) xs.length cap, .slice (some ⟨b', off', none⟩) xs.length cap', v2, v3, v4, .int .i64 ci, v6, v7, v8, .int .i64 (xs.length : Nat), .int .i64 ki, v11, v12, v13, v14, v15, v16, v17, v18, v19, v20, v21, v22, v23, v24, v25, v26, v27], defers := [] }
def OutMu (xs : List Int) (a : Act) (_ : World) : Nat := match a.tmps.getD 10 undef with | .int _ j => xs.length - j.toNat | _ => 0
def InI (Φ : Ph) (k b off b' off' cap cap' : Nat) (xs ys : List Int) (S : World → Prop) (kk : Nat) (a : Act) (w : World) : Prop :=
  ∃ (jj : Nat) (ci ji : Int) (v2 v3 v4 v7 v8 v11 v12 v15 v16 v17 v18 v19 v20 v21 v22 v23 v24 v25 v26 v27 : Value), ci = (quarTo xs ys kk + qRow xs ys kk jj : Nat) ∧ ji = jj ∧ jj ≤ kk ∧ Lk2 Φ k b off b' off' xs ys S w ∧
    a = { tmps := #[.slice (some ⟨b, off, none⟩) xs.length cap, .slice (some ⟨b', off', none⟩) xs.length cap', v2, v3, v4, .int .i64 ci, .int .i64 kk, v7, v8, .int .i64 (xs.length : Nat), .int .i64 kk, v11, v12, .int .i64 kk, .int .i64 ji, v15, v16, v17, v18, v19, v20, v21, v22, v23, v24, v25, v26, v27], defers := [] }
def InMu (kk : Nat) (a : Act) (_ : World) : Nat := match a.tmps.getD 14 undef with | .int _ j => kk - j.toNat | _ => 0

set_option maxRecDepth 100000 in
set_option maxHeartbeats 4000000 in
theorem quarrel_w : ∃ m, ∀ (S : World → Prop) (b off b' off' cap cap' : Nat) (xs ys : List Int), 1 ≤ xs.length → xs.length ≤ 8 → ys.length = xs.length → ∀ w, Lk2 Φ k b off b' off' xs ys S w →
    CallsC Try.prog false (RW Φ k) (DW Φ k) 44 #[.slice (some ⟨b, off, none⟩) xs.length cap, .slice (some ⟨b', off', none⟩) xs.length cap'] m w fun v w' => Lk2 Φ k b off b' off' xs ys S w' ∧ v = .int .i64 (quar xs ys : Nat) := by
  have T := termsW Φ k
  obtain ⟨mA, hA'⟩ := agree_w (Φ := Φ) (k := k)
  co_apply Exists.intro
  intro S b off b' off' cap cap' xs ys hx h8 hl w₀ hF
  have hA := hA' S b off b' off' cap cap' xs ys hl
  rw [hl] at hA
  clear hl
  co_apply callsC_of_wpC Try.func44 (by rfl) rfl
  simp only [Try.ntmps44, List.size_toArray, List.length_cons, List.length_nil, Nat.reduceAdd, Nat.reduceSub, Array.replicate_succ, Array.replicate_zero, List.push_toArray, List.append_toArray, List.nil_append, List.cons_append]
  co_go T Lk2.rely hF (co_quiet T)
  co_apply wpC_loop T (OutI Φ k b off b' off' cap cap' xs ys S) (OutMu xs) _ 8
  · exact ⟨0, _, _, _, _, _, _, _, _, _, _, _, _, _, _, _, _, _, _, _, _, _, _, _, _, _, rfl, rfl, Nat.zero_le _, hF, rfl⟩
  · simp [OutMu]; omega
  · rintro a w ⟨kk, _, _, v2, v3, v4, v6, v7, v8, v11, v12, v13, v14, v15, v16, v17, v18, v19, v20, v21, v22, v23, v24, v25, v26, v27, rfl, rfl, hkk, hS, rfl⟩
    co_go T Lk2.rely hS (co_quiet T)
    co_split T (decide ((kk : Int) < (xs.length : Int)))
    · intro hlt
      have hlt' : kk < xs.length := by have := of_decide_eq_true hlt; omega
      co_go T Lk2.rely hS (co_quiet T)
      co_apply wpC_loop T (InI Φ k b off b' off' cap cap' xs ys S kk) (InMu kk) _ 8
      · exact ⟨0, _, _, _, _, _, _, _, _, _, _, _, _, _, _, _, _, _, _, _, _, _, _, by simp [qRow], rfl, Nat.zero_le _, hS, rfl⟩
      · simp [InMu]; omega
      · rintro a w ⟨jj, _, _, v2, v3, v4, v7, v8, v11, v12, v15, v16, v17, v18, v19, v20, v21, v22, v23, v24, v25, v26, v27, rfl, rfl, hjj, hS, rfl⟩
        have hm : quarTo xs ys kk + qRow xs ys kk jj ≤ 1000 := by
          have e3 := qRow_le xs ys kk jj
          have e4 := quarTo_le xs ys kk
          have e5 := Nat.mul_le_mul (show kk ≤ 8 by omega) (show kk ≤ 8 by omega)
          omega
        have e1 : IntKind.i64.wrap ((jj : Int) + 1) = ((jj + 1 : Nat) : Int) := by rw [IntKind.wrap_i64]; omega
        have e2 : IntKind.i64.wrap ((kk : Int) + 1) = ((kk + 1 : Nat) : Int) := by rw [IntKind.wrap_i64]; omega
        have e0 : IntKind.i64.wrap (((quarTo xs ys kk + qRow xs ys kk jj : Nat) : Int) + 1) = ((quarTo xs ys kk + qRow xs ys kk jj + 1 : Nat) : Int) := by rw [IntKind.wrap_i64]; omega
        co_go T Lk2.rely hS (co_quiet T)
        co_split T (decide ((jj : Int) < (kk : Int)))
        · intro hlt2
          have hlt2' : jj < kk := by have := of_decide_eq_true hlt2; omega
          co_go T Lk2.rely hS (co_quiet T)
          co_apply opsC_call (nf := mA) (Post := fun v w' => Lk2 Φ k b off b' off' xs ys S w' ∧ v = .bool (decide (dif xs ys kk jj = 0))) T rfl (by rfl) rfl
          · have hc := (hA jj kk (by omega) hlt' _ hS).mono (Post' := fun v w' => Lk2 Φ k b off b' off' xs ys S w' ∧ v = .bool (decide (dif xs ys kk jj = 0))) fun v w' h => ⟨h.1, h.2.trans (by rw [dif_b])⟩
            simpa [Act.eval] using hc
          clear hS
          rintro v w ⟨hS, rfl⟩
          walk_nrm
          co_go T Lk2.rely hS (co_quiet T)
          co_split T (!decide (dif xs ys kk jj = 0))
          · intro hb
            have hd1 : dif xs ys kk jj = 1 := by
              have := dif_le xs ys kk jj
              simp at hb
              omega
            clear hb
            co_go T Lk2.rely hS (co_quiet T)
            exact ⟨⟨jj + 1, _, _, _, _, _, _, _, _, _, _, _, _, _, _, _, _, _, _, _, _, _, _, by simp only [qRow, hd1]; (try rw [IntKind.wrap_i64]); omega, by simp, by omega, hS, rfl⟩, by simp [InMu]; omega⟩
          · intro hb
            have hd : dif xs ys kk jj = 0 := by simpa using hb
            clear hb
            co_go T Lk2.rely hS (co_quiet T)
            exact ⟨⟨jj + 1, _, _, _, _, _, _, _, _, _, _, _, _, _, _, _, _, _, _, _, _, _, _, by simp [qRow, hd], by simp, by omega, hS, rfl⟩, by simp [InMu]; omega⟩
        · intro hlt2
          obtain rfl : jj = kk := by have := of_decide_eq_false hlt2; omega
          co_go T Lk2.rely hS (co_quiet T)
          exact ⟨⟨jj + 1, _, _, _, _, _, _, _, _, _, _, _, _, _, _, _, _, _, _, _, _, _, _, _, _, _, by simp [quarTo], by simp, by omega, hS, rfl⟩, by simp [OutMu]; omega⟩
    · intro hlt
      obtain rfl : kk = xs.length := by have := of_decide_eq_false hlt; omega
      co_go T Lk2.rely hS (co_quiet T)
      exact ⟨rfl, _, resultsC_tmp (by rfl) _, hS, rfl⟩
end
end Go.Proofs.Ytfiaiephbemdoaa

/-
  What costs asks a worker to answer: the quarrel of a partition with its view. No condition.
-/
namespace Go.Proofs.Ytfiaiephbemdoaa
set_option linter.unusedVariables false
set_option linter.unusedSimpArgs false
open Go.Conc Go.RowKit
open Go.ConcN (WgLive)

/-- The box of the partitions, the row, and both lists. -/
structure Ck (Φ : Ph) (k bx pb po pn pcap number b off cap b' off' : Nat) (xs ys : List Int) (S : World → Prop) (w : World) : Prop where
  rbx : Φ.Rd k bx
  box : w.cell? ⟨bx, 0, none⟩ = some (.slice (some ⟨pb, po, none⟩) pn pcap)
  rpb : Φ.Rd k pb
  row : w.cell? ⟨pb, po + number, none⟩ = some (.slice (some ⟨b, off, none⟩) xs.length cap)
  one : Lk Φ k b off xs w
  two : Lk Φ k b' off' ys w
  held : S w
  stays : ∀ w w₁, RW Φ k w w₁ → S w → S w₁
theorem Ck.rely {Φ : Ph} {k bx pb po pn pcap number b off cap b' off' : Nat} {xs ys : List Int} {S : World → Prop} {w w₁ : World} (h : Ck Φ k bx pb po pn pcap number b off cap b' off' xs ys S w) (r : RW Φ k w w₁) : Ck Φ k bx pb po pn pcap number b off cap b' off' xs ys S w₁ :=
  ⟨h.rbx, (cell_eq (r.rd _ h.rbx)).trans h.box, h.rpb, (cell_eq (r.rd _ h.rpb)).trans h.row, h.one.rely r, h.two.rely r, h.stays _ _ r h.held, h.stays⟩

set_option maxRecDepth 100000 in
set_option maxHeartbeats 4000000 in
theorem askCosts {Φ : Ph} {k : Nat} : ∃ m, ∀ (S : World → Prop) (bx pb po pn pcap number b off cap b' off' cap' : Nat) (xs ys : List Int), 1 ≤ xs.length → xs.length ≤ 8 → ys.length = xs.length → number < pn → ∀ w, Ck Φ k bx pb po pn pcap number b off cap b' off' xs ys S w →
    CallsC Try.prog false (RW Φ k) (DW Φ k) 55 #[.slice (some ⟨b', off', none⟩) xs.length cap', .int .i64 number, .pointer (some ⟨bx, 0, none⟩)] m w fun v w' => S w' ∧ v = .int .i64 (quar xs ys : Nat) := by
  have T := termsW Φ k
  obtain ⟨mQ, hQ⟩ := quarrel_w (Φ := Φ) (k := k)
  co_apply Exists.intro
  intro S bx pb po pn pcap number b off cap b' off' cap' xs ys hx h8 hl hn w₀ hF
  have hQ' := hQ S b off b' off' cap cap' xs ys hx h8 hl
  clear hl
  co_apply callsC_of_wpC Try.func55 (by rfl) rfl
  simp only [Try.ntmps55, List.size_toArray, List.length_cons, List.length_nil, Nat.reduceAdd, Nat.reduceSub, Array.replicate_succ, Array.replicate_zero, List.push_toArray, List.append_toArray, List.nil_append, List.cons_append]
  have zn : (0 : Int) ≤ number ∧ (number : Int) < pn := ⟨by omega, by omega⟩
  co_go T Ck.rely hF (co_quiet T)
  co_opw Ck.rely hF (have hc := hF.box; have hr := hF.rbx) (refine ⟨⟨_, rfl⟩, ?_⟩; co_evs (exact ⟨_, rfl, hr⟩))
  co_go T Ck.rely hF (co_still T)
  co_opw Ck.rely hF (have hc := hF.row; have hr := hF.rpb) (refine ⟨⟨_, rfl⟩, ?_⟩; co_evs (exact ⟨_, rfl, hr⟩))
  co_go T Ck.rely hF (co_quiet T)
  co_apply opsC_call (nf := mQ) (Post := fun v w' => S w' ∧ v = .int .i64 (quar xs ys : Nat)) T rfl (by rfl) rfl
  · have hc := (hQ' _ ⟨hF.one, hF.two, hF.held, hF.stays⟩).mono (Post' := fun v w' => S w' ∧ v = .int .i64 (quar xs ys : Nat)) fun v w' h => ⟨h.1.held, h.2⟩
    simpa [Act.eval] using hc
  have hst := hF.stays
  rintro v w ⟨hE, rfl⟩
  clear hF
  walk_nrm
  co_go T (fun h r => hst _ _ r h) hE (co_quiet T)
  exact ⟨rfl, _, resultsC_tmp (by rfl) _, hE, rfl⟩
end Go.Proofs.Ytfiaiephbemdoaa

/-
  What togetherIn asks a worker to answer: whether its view has two things together. No condition.
-/
namespace Go.Proofs.Ytfiaiephbemdoaa
set_option linter.unusedVariables false
set_option linter.unusedSimpArgs false
open Go.Conc Go.RowKit
open Go.ConcN (WgLive)

/-- The box of the number of things, and the view. -/
structure Tk (Φ : Ph) (k bx b off : Nat) (ys : List Int) (S : World → Prop) (w : World) : Prop where
  rbx : Φ.Rd k bx
  box : w.cell? ⟨bx, 0, none⟩ = some (.int .i64 ys.length)
  one : Lk Φ k b off ys w
  held : S w
  stays : ∀ w w₁, RW Φ k w w₁ → S w → S w₁
theorem Tk.rely {Φ : Ph} {k bx b off : Nat} {ys : List Int} {S : World → Prop} {w w₁ : World} (h : Tk Φ k bx b off ys S w) (r : RW Φ k w w₁) : Tk Φ k bx b off ys S w₁ :=
  ⟨h.rbx, (cell_eq (r.rd _ h.rbx)).trans h.box, h.one.rely r, h.stays _ _ r h.held, h.stays⟩

theorem eqi_events {P : Program} {t : TypeId} {x y : Int} {k : IntKind} {w : World} (h : P.underlying t = some (.int k)) : (binOp .eql t (.int k x) (.int k y)).events P w #[] = #[] := by
  have h2 : (Op.equal t (.int k x) (.int k y)).events P w #[] = #[] := by
    have h3 : ∀ d, (Op.equalIn (d + 1) t (.int k x) (.int k y)).events P w #[] = #[] := fun d => by simp [Op.equalIn, go_sem, run_underlying h]
    exact h3 9999
  simp [binOp, go_sem, h2]

set_option maxRecDepth 100000 in
set_option maxHeartbeats 4000000 in
theorem askTogether {Φ : Ph} {k : Nat} : ∃ m, ∀ (S : World → Prop) (bx b off cap : Nat) (ys : List Int) (x y number : Nat), x < ys.length → y < ys.length → ys.length ≤ 8 → number / ys.length = x → number % ys.length = y → number < 64 → ∀ w, Tk Φ k bx b off ys S w →
    CallsC Try.prog false (RW Φ k) (DW Φ k) 63 #[.slice (some ⟨b, off, none⟩) ys.length cap, .int .i64 number, .pointer (some ⟨bx, 0, none⟩)] m w fun v w' => S w' ∧ v = .int .i64 (if ys.getD x 0 = ys.getD y 0 then 1 else 0) := by
  have T := termsW Φ k
  co_apply Exists.intro
  intro S bx b off cap ys x y number hx hy h8 hdx hmy hnu w₀ hF
  have q1 : ((number : Int)).tdiv (ys.length : Int) = (x : Int) := by rw [Int.tdiv_eq_ediv_of_nonneg (by omega), ← hdx]; exact (Int.natCast_ediv ..).symm
  have q2 : ((number : Int)).tmod (ys.length : Int) = (y : Int) := by rw [Int.tmod_eq_emod_of_nonneg (by omega), ← hmy]; exact (Int.natCast_emod ..).symm
  have q3 : (number : Int) / (ys.length : Int) = (x : Int) := by rw [← hdx]; exact (Int.natCast_ediv ..).symm
  have q4 : (number : Int) % (ys.length : Int) = (y : Int) := by rw [← hmy]; exact (Int.natCast_emod ..).symm
  have z0 : ¬ ((ys.length : Int) = 0) := by omega
  have z1 : ¬ (ys.length = 0) := by omega
  have z2 : ¬ (ys = []) := by intro e; subst e; simp at hx
  have w1 : IntKind.i64.wrap (x : Int) = x := by rw [IntKind.wrap_i64]; omega
  have w2 : IntKind.i64.wrap (y : Int) = y := by rw [IntKind.wrap_i64]; omega
  have zx : (0 : Int) ≤ x ∧ (x : Int) < ys.length := ⟨by omega, by omega⟩
  have zy : (0 : Int) ≤ y ∧ (y : Int) < ys.length := ⟨by omega, by omega⟩
  clear hdx hmy
  co_apply callsC_of_wpC Try.func63 (by rfl) rfl
  simp only [Try.ntmps63, List.size_toArray, List.length_cons, List.length_nil, Nat.reduceAdd, Nat.reduceSub, Array.replicate_succ, Array.replicate_zero, List.push_toArray, List.append_toArray, List.nil_append, List.cons_append]
  co_stmt T Tk.rely hF (co_quiet T)
  co_apply wpC_seq T
  co_apply wpC_seq T
  co_held T drawW ownW (Tk Φ k bx b off ys S) Tk.rely hF
  co_take 0 T Tk.rely hF hw (skip) (co_quiet T)
  co_take 1 T Tk.rely hF hw (skip) (co_quiet T)
  co_take 2 T Tk.rely hF hw (have hc := hw.box; have hr := hw.rbx) (refine ⟨⟨_, rfl⟩, ?_⟩; co_evs (exact ⟨_, rfl, hr⟩))
  co_take 3 T Tk.rely hF hw (skip) (co_still T)
  co_take 4 T Tk.rely hF hw (skip) (co_still T)
  co_take 5 T Tk.rely hF hw (have hc := hw.one.at' x hx; have hr := hw.one.rd) (refine ⟨⟨_, rfl⟩, ?_⟩; co_evs (exact ⟨_, rfl, hr⟩))
  co_take 6 T Tk.rely hF hw (skip) (co_quiet T)
  co_take 7 T Tk.rely hF hw (skip) (co_quiet T)
  co_take 8 T Tk.rely hF hw (have hc := hw.box; have hr := hw.rbx) (refine ⟨⟨_, rfl⟩, ?_⟩; co_evs (exact ⟨_, rfl, hr⟩))
  co_take 9 T Tk.rely hF hw (skip) (co_still T)
  co_take 10 T Tk.rely hF hw (skip) (co_still T)
  co_take 11 T Tk.rely hF hw (have hc := hw.one.at' y hy; have hr := hw.one.rd) (refine ⟨⟨_, rfl⟩, ?_⟩; co_evs (exact ⟨_, rfl, hr⟩))
  co_take 12 T Tk.rely hF hw (skip) (co_quiet T)
  co_done
  co_apply wpC_cond_split T (t := decide (ys.getD x 0 = ys.getD y 0))
  focus
    simp [Act.eval, List.getElem?_eq_getElem, hx, hy]
    by_cases h : ys[x] = ys[y] <;> simp [h]
  · intro ht
    have ht' := of_decide_eq_true ht
    clear ht
    co_go T Tk.rely hF (co_quiet T)
    exact ⟨rfl, _, resultsC_tmp (by rfl) _, hF.held, by rw [if_pos ht']; rfl⟩
  · intro ht
    have ht' := of_decide_eq_false ht
    clear ht
    co_go T Tk.rely hF (co_quiet T)
    exact ⟨rfl, _, resultsC_tmp (by rfl) _, hF.held, by rw [if_neg ht']; rfl⟩
end Go.Proofs.Ytfiaiephbemdoaa

/-
  (*WaitGroup).Add(1) while workers run: what goroutine 0 does there, stop by stop. Of whatever program that holds sync.WaitGroup. No condition.
-/
namespace Go.Proofs.Ytfiaiephbemdoaa
set_option linter.unusedVariables false
set_option linter.unusedSimpArgs false
open Go.Conc Go.RowKit Go.Conc.Lib Go.ConcR.Gen Go.ConcN.Gen
open Go.ConcN (WgLive st_flag st_waiters)
open Go.ConcR (KK WgAt stA smA rd wr mk DC0)

theorem tf_rely {Φ : Ph} {j : Nat} {F : World → Prop} (hF2 : ∀ w w', RM Φ j w w' → F w → F w') {w w₁ : World} (h : F w ∧ WgLive Φ.ty Φ.Wg w) (r : RM Φ j w w₁) : F w₁ ∧ WgLive Φ.ty Φ.Wg w₁ := ⟨hF2 _ _ r h.1, r.live h.2⟩

section
variable {Φ : Ph} {L : WgLink} {j : Nat} {Next : Goroutine → World → Prop} {F : World → Prop}
  {b₀ : Frame} {a₀ : Act} {ops₀ : Array Oper} {i₀ : Nat} {rest₀ : List Nat} {k₀ : List Item} {cs : List Frame} {mT : Nat}

set_option maxRecDepth 100000 in
set_option maxHeartbeats 16000000 in
theorem add_t (H : WgLib Φ.P L) (hty : Φ.ty = L.tWg) (hF2 : ∀ w w', RM Φ j w w' → F w → F w')
    (hT : ∀ w, F w → WgLive Φ.ty Φ.Wg w → Goes Φ.P true (RM Φ j) (DM Φ j) (AtGoS Φ j Next) mT (G (b₀.at (a₀.put ((ops₀[i₀]?).bind (·.dst)) (.tuple #[])) (.inRegion ops₀ rest₀ :: k₀)) cs) w)
    (w : World) (hF : F w ∧ WgLive Φ.ty Φ.Wg w) :
    Goes Φ.P true (RM Φ j) DC0 (AtKdS Φ j Next) 40
      (G ((base L.add).at ⟨#[.pointer (some ⟨Φ.Wg, 0, none⟩), .int .i64 1, undef, undef, undef, undef, undef, undef, undef, undef, undef, undef, undef, undef, undef, undef, undef, undef, undef, undef, undef, undef, undef, undef, undef, undef, undef, undef, undef, undef, undef, undef, undef, undef, undef, undef, undef, undef, undef, undef, undef, undef, undef, undef, undef, undef, undef, undef, undef, undef, undef, undef, undef, undef, undef, undef, undef, undef, undef, undef, undef, undef, undef, undef, undef, undef, undef, undef, undef, undef, undef, undef, undef, undef, undef, undef, undef, undef, undef, undef, undef, undef, undef, undef, undef, undef, undef, undef, undef, undef, undef, undef, undef, undef, undef, undef, undef, undef, undef, undef, undef, undef, undef, undef, undef, undef, undef, undef, undef, undef, undef, undef, undef, undef, undef, undef, undef], []⟩ [.code (body_add L)]) (b₀.at a₀ (.inRegion ops₀ (i₀ :: rest₀) :: k₀) :: cs)) w := by
  lib_facts
  simp only [body_add, addFn, Option.getD_some]
  iterate 12 (first
    | u_c stepG_seq (tf_rely hF2) hF
    | u_c stepG_region_end (tf_rely hF2) hF
    | u_c stepG_skip (tf_rely hF2) hF
    | u_c stepG_ret' (tf_rely hF2) hF
    | u_reg (tf_rely hF2) hF
    | (u_in (tf_rely hF2) hF; rw [stepG_cond (t := true)]; rotate_left; (first | rfl); simp only [goes_go, if_true, if_false, Bool.false_eq_true, reduceIte]; refine ⟨by u_nil, ?_⟩)
    | (u_in (tf_rely hF2) hF; rw [stepG_cond (t := false)]; rotate_left; (first | rfl); simp only [goes_go, if_true, if_false, Bool.false_eq_true, reduceIte]; refine ⟨by u_nil, ?_⟩)
    | u_skip (tf_rely hF2) hF
    | u_defer (tf_rely hF2) hF
    | u_bub (tf_rely hF2) hF
    | u_op (tf_rely hF2) hF
    | u_leave1 H.f_uAdd (tf_rely hF2) hF
    | u_call H.f_uAdd (nm_uAdd L) uAddFn (tf_rely hF2) hF)
  refine Goes.stop (fun w₁ h₁ => ?_)
  replace hF := tf_rely hF2 hF h₁
  clear h₁
  refine ⟨rfl, _, stepG_mark0 .disable (by simp) rfl rfl (by k_ne) rfl H.f_disable (x_disable_n L) (x_disable_b L) (x_disable_x L) (x_disable_f L), 80, ?_⟩
  walk_nrm
  iterate 34 (first
    | u_c stepG_seq (tf_rely hF2) hF
    | u_c stepG_region_end (tf_rely hF2) hF
    | u_c stepG_skip (tf_rely hF2) hF
    | u_c stepG_ret' (tf_rely hF2) hF
    | u_reg (tf_rely hF2) hF
    | (u_in (tf_rely hF2) hF; rw [stepG_cond (t := true)]; rotate_left; (first | rfl); simp only [goes_go, if_true, if_false, Bool.false_eq_true, reduceIte]; refine ⟨by u_nil, ?_⟩)
    | (u_in (tf_rely hF2) hF; rw [stepG_cond (t := false)]; rotate_left; (first | rfl); simp only [goes_go, if_true, if_false, Bool.false_eq_true, reduceIte]; refine ⟨by u_nil, ?_⟩)
    | u_skip (tf_rely hF2) hF
    | u_defer (tf_rely hF2) hF
    | u_bub (tf_rely hF2) hF
    | u_op (tf_rely hF2) hF
    | u_leave1 H.f_uAdd (tf_rely hF2) hF
    | u_call H.f_uAdd (nm_uAdd L) uAddFn (tf_rely hF2) hF)
  refine Goes.stop (fun w₂ h₂ => ?_)
  replace hF := tf_rely hF2 hF h₂
  clear h₂
  refine ⟨rfl, fun v hv hw => ?_⟩
  rw [hty] at hw
  rcases Nat.eq_zero_or_pos v with rfl | hvp
  · replace hw : WgAt L.tWg Φ.Wg w₂ 0 0 := by simpa using hw
    have z : (((0 : Nat) : Int) + 1) * KK = KK := by simp
    rw [z]
    have e0 : IntKind.u64.wrap (0 + 4294967296) = KK := by decide
    refine ⟨_, (stepG_add_atomic rfl rfl (by k_ne) rfl H.f_addU64 (x_addU64_n L) (x_addU64_b L) (x_addU64_x L) .u64 (x_addU64_f L) rfl rfl hw.cellSt (hw.thaw 0)).trans (by rw [e0]; rfl), fun _ => ⟨140, ?_⟩, fun h => absurd rfl h⟩
    replace hF : F (w₂.setCell (stA Φ.Wg) (.int .u64 KK)) ∧ WgLive Φ.ty Φ.Wg (w₂.setCell (stA Φ.Wg) (.int .u64 KK)) := by
      have h2 : WgAt Φ.ty Φ.Wg (w₂.setCell (stA Φ.Wg) (.int .u64 KK)) KK 0 := by rw [hty]; exact hw.setSt _
      exact ⟨hF2 _ _ (RM.of_wg rfl h2) hF.1, _, _, h2⟩
    clear hw
    simp only [KK] at hF ⊢
    walk_nrm
    u_op (tf_rely hF2) hF
    u_c stepG_region_end (tf_rely hF2) hF
    u_c stepG_ret' (tf_rely hF2) hF
    u_leave1 H.f_uAdd (tf_rely hF2) hF
    iterate 48 (first
      | u_c stepG_seq (tf_rely hF2) hF
      | u_c stepG_region_end (tf_rely hF2) hF
      | u_c stepG_skip (tf_rely hF2) hF
      | u_reg (tf_rely hF2) hF
      | (u_in (tf_rely hF2) hF; rw [stepG_cond (t := true)]; rotate_left; (first | rfl); simp only [goes_go, if_true, if_false, Bool.false_eq_true, reduceIte]; refine ⟨by u_nil, ?_⟩)
      | (u_in (tf_rely hF2) hF; rw [stepG_cond (t := false)]; rotate_left; (first | rfl); simp only [goes_go, if_true, if_false, Bool.false_eq_true, reduceIte]; refine ⟨by u_nil, ?_⟩)
      | u_skip (tf_rely hF2) hF
      | u_defer (tf_rely hF2) hF
      | u_bub (tf_rely hF2) hF
      | u_op (tf_rely hF2) hF)
    u_in (tf_rely hF2) hF
    refine goes_oper_k rfl rfl (by k_ne) (fun Kx hKx => ?_)
    have hcv := run_convert_to_unsafe (P := Φ.P) H.underlying_tPU32 H.underlying_tUP H.room_tU32 (WgLive.cell1 hF.2).choose_spec
    have hce := fun es => events_convert_to_unsafe (P := Φ.P) H.underlying_tPU32 H.underlying_tUP H.room_tU32 (WgLive.cell1 hF.2).choose_spec es
    go_simp
    refine hKx _ _ ⟨?_, ?_⟩
    · u_none
      intro ex hex
      have hmx := mem_listed hex
      simp [go_sem, hce] at hmx
    clear hKx Kx hcv hce
    refine Goes.stop (fun w₃ h₃ => ?_)
    replace hF := tf_rely hF2 hF h₃
    clear h₃
    refine ⟨rfl, _, stepG_markAt .read (by simp) rfl rfl (by k_ne) rfl H.f_raceRead (x_raceRead_n L) (x_raceRead_b L) (x_raceRead_x L) (x_raceRead_f L) (ad := ⟨Φ.Wg, 1, none⟩) (by simp [Act.eval]), 80, ?_⟩
    walk_nrm
    iterate 38 (first
      | u_c stepG_seq (tf_rely hF2) hF
      | u_c stepG_region_end (tf_rely hF2) hF
      | u_c stepG_skip (tf_rely hF2) hF
      | u_reg (tf_rely hF2) hF
      | (u_in (tf_rely hF2) hF; rw [stepG_cond (t := true)]; rotate_left; (first | rfl); simp only [goes_go, if_true, if_false, Bool.false_eq_true, reduceIte]; refine ⟨by u_nil, ?_⟩)
      | (u_in (tf_rely hF2) hF; rw [stepG_cond (t := false)]; rotate_left; (first | rfl); simp only [goes_go, if_true, if_false, Bool.false_eq_true, reduceIte]; refine ⟨by u_nil, ?_⟩)
      | u_skip (tf_rely hF2) hF
      | u_defer (tf_rely hF2) hF
      | u_bub (tf_rely hF2) hF
      | u_op (tf_rely hF2) hF)
    u_c stepG_ret' (tf_rely hF2) hF
    refine Goes.stop (fun w₃ h₃ => ?_)
    replace hF := tf_rely hF2 hF h₃
    clear h₃
    refine ⟨rfl, _, stepG_unwind_entry (v := .tuple #[]) (evs := #[mk .enable]) rfl H.f_enable (x_enable_n L) (x_enable_b L) (x_enable_x L) (x_enable_f L) (by simp [Extern.Race.none_]) (by simp [mk]) (by simp [mk]), mT + 1, ?_⟩
    u_in (tf_rely hF2) hF
    refine goes_leave0 rfl rfl H.f_add rfl ⟨dm_nil, ?_⟩
    walk_nrm
    exact hT _ hF.1 hF.2
  · obtain ⟨V, hV⟩ : ∃ V : Int, V = (v : Int) + 1 := ⟨_, rfl⟩
    obtain ⟨S, hS⟩ : ∃ S : Int, S = V * KK := ⟨_, rfl⟩
    have eS : IntKind.u64.wrap ((v : Int) * KK + 4294967296) = S := by rw [IntKind.wrap_u64, hS, hV]; simp only [KK]; omega
    rw [← hV, ← hS]
    have a1 : S / 4294967296 = V := by rw [hS]; simp only [KK]; omega
    have b1 : bits .and .u64 S 2147483648 = 0 := by rw [hS, hV]; have := st_flag (v + 1) 0 (by omega) (by omega); simpa [KK] using this
    have b2 : bits .and .u64 S 2147483647 = 0 := by rw [hS, hV]; have := st_waiters (v + 1) 0 (by omega) (by omega); simpa [KK] using this
    have c1 : IntKind.i32.wrap V = V := by rw [IntKind.wrap_i32]; omega
    have hV1 : 1 < V := by omega
    have hV2 : V < 2147483648 := by omega
    have q1 : (V == 1) = false := by simp; omega
    have q2 : decide (V = 1) = false := decide_eq_false (by omega)
    have q3 : decide (V < 0) = false := decide_eq_false (by omega)
    have q4 : decide (0 < V) = true := decide_eq_true (by omega)
    have q5 : (V == 0) = false := by simp; omega
    have q6 : decide (V = 0) = false := decide_eq_false (by omega)
    refine ⟨_, (stepG_add_atomic rfl rfl (by k_ne) rfl H.f_addU64 (x_addU64_n L) (x_addU64_b L) (x_addU64_x L) .u64 (x_addU64_f L) rfl rfl hw.cellSt (hw.thaw 0)).trans (by rw [eS]; rfl), fun h => absurd h (by omega), fun _ => ⟨140, ?_⟩⟩
    replace hF : F (w₂.setCell (stA Φ.Wg) (.int .u64 S)) ∧ WgLive Φ.ty Φ.Wg (w₂.setCell (stA Φ.Wg) (.int .u64 S)) := by
      have h2 : WgAt Φ.ty Φ.Wg (w₂.setCell (stA Φ.Wg) (.int .u64 S)) S 0 := by rw [hty]; exact hw.setSt _
      exact ⟨hF2 _ _ (RM.of_wg rfl h2) hF.1, _, _, h2⟩
    clear hw hS hV eS
    walk_nrm
    u_op (tf_rely hF2) hF
    u_c stepG_region_end (tf_rely hF2) hF
    u_c stepG_ret' (tf_rely hF2) hF
    u_leave1 H.f_uAdd (tf_rely hF2) hF
    iterate 82 (first
      | u_c stepG_seq (tf_rely hF2) hF
      | u_c stepG_region_end (tf_rely hF2) hF
      | u_c stepG_skip (tf_rely hF2) hF
      | u_reg (tf_rely hF2) hF
      | (u_in (tf_rely hF2) hF; rw [stepG_cond (t := true)]; rotate_left; (first | rfl | (simp [Act.eval]; done) | (simp [Act.eval]; omega)); simp only [goes_go, if_true, if_false, Bool.false_eq_true, reduceIte]; refine ⟨by u_nil, ?_⟩)
      | (u_in (tf_rely hF2) hF; rw [stepG_cond (t := false)]; rotate_left; (first | rfl | (simp [Act.eval]; done) | (simp [Act.eval]; omega)); simp only [goes_go, if_true, if_false, Bool.false_eq_true, reduceIte]; refine ⟨by u_nil, ?_⟩)
      | u_skip (tf_rely hF2) hF
      | u_defer (tf_rely hF2) hF
      | u_bub (tf_rely hF2) hF
      | u_op (tf_rely hF2) hF)
    u_c stepG_ret' (tf_rely hF2) hF
    refine Goes.stop (fun w₃ h₃ => ?_)
    replace hF := tf_rely hF2 hF h₃
    clear h₃
    refine ⟨rfl, _, stepG_unwind_entry (v := .tuple #[]) (evs := #[mk .enable]) rfl H.f_enable (x_enable_n L) (x_enable_b L) (x_enable_x L) (x_enable_f L) (by simp [Extern.Race.none_]) (by simp [mk]) (by simp [mk]), mT + 1, ?_⟩
    u_in (tf_rely hF2) hF
    refine goes_leave0 rfl rfl H.f_add rfl ⟨dm_nil, ?_⟩
    walk_nrm
    exact hT _ hF.1 hF.2
end
end Go.Proofs.Ytfiaiephbemdoaa

