/-
  The contracts of the laws' helpers on lists of lists: toIntSS, eqIntSS, markIntSS, szIntSS (and heldIntSS where the laws use it).
-/
import Derived.Test.YtbmpchpcihnbdaaMat
import Derived.Deep.RegionHeld3
namespace Go.Proofs.Ytbmpchpcihnbdaa
set_option linter.unusedSimpArgs false
set_option linter.unusedVariables false
set_option linter.unnecessarySimpa false
open Go.RowKit

theorem own_nilV (w : World) (B : Nat) : Own w B (.slice none 0 0) [] := World.ownsRow_nil _ _ _ _
theorem inB_nil (B S : Nat) : InB (.slice none 0 0) B S := fun k hk => by simp [Value.ownBlock] at hk

theorem ownM_made {w1 : World} {B g n c S : Nat} (h : w1.ownsRow B 30 1 (.slice (some ⟨g, 0, none⟩) n c) n (madeCells #[Value.slice none 0 0] n).toList) (hg : B ≤ g ∧ g < S) : OwnM w1 B S (.slice (some ⟨g, 0, none⟩) n c) (List.replicate n []) := by
  rw [toList_madeCells_one] at h
  have hv : ∀ i, i < n → (List.replicate n (Value.slice none 0 0)).getD i undef = .slice none 0 0 := fun i hi => by simp [List.getD, hi]
  refine ⟨List.replicate n (.slice none 0 0), by simp, by simpa using h, fun k hk => by simp [Value.ownBlock] at hk; omega, fun i hi => ?_, fun i j hij hj => ?_⟩
  · simp at hi
    rw [hv i hi, show (List.replicate n ([] : List Int)).getD i [] = [] by simp [List.getD, hi]]
    exact ⟨own_nilV _ _, inB_nil _ _⟩
  · simp at hj
    rw [hv i (by omega)]
    exact .inl rfl

theorem ownM_stored {w : World} {B S g n cap : Nat} {xss : List (List Int)} (h : OwnM w B S (.slice (some ⟨g, 0, none⟩) n cap) xss) (hn : n = xss.length) (k : Nat) (hk : k < n) (u : Value) (ys : List Int) (hu : Own w B u ys) (hui : InB u S w.heap.size) (hBS : B ≤ S) (hSw : S ≤ w.heap.size) :
    OwnM (w.setCell ⟨g, k, none⟩ u) B w.heap.size (.slice (some ⟨g, 0, none⟩) n cap) (xss.set k ys) ∧ w.grownBy (w.setCell ⟨g, k, none⟩ u) (some g) := by
  subst hn
  obtain ⟨vs, hvl, hrow, hin, hrows, hap⟩ := h
  obtain ⟨hst, hgr⟩ := World.ownsRow.stored hrow k u
  have hgB := hin g rfl
  have hne : ∀ z : Value, ∀ zs : List Int, Own w B z zs → z.ownBlock = none ∨ z.ownBlock ≠ some g := by
    intro z zs hz
    rcases hz.2 with ⟨rfl, _⟩ | ⟨gz, capz, curz, rfl, _, hgz, _⟩
    · exact .inl rfl
    · refine .inr fun e => ?_
      simp [Value.ownBlock] at e
      subst e
      rcases hrow.2 with ⟨h3, _⟩ | ⟨g3, cap3, cur3, h3, _, hg3, _⟩
      · cases h3
      · cases h3
        rw [hgz] at hg3
        simp at hg3
  have hset : ∀ {α : Type} (l : List α) (x d : α) (i : Nat), k < l.length → (l.set k x).getD i d = if i = k then x else l.getD i d := by
    intro α l x d i hl
    rw [List.getD_eq_getElem?_getD, List.getElem?_set]
    by_cases e : k = i
    · subst e
      simp [hl]
    · rw [if_neg e, if_neg (fun e' => e e'.symm), ← List.getD_eq_getElem?_getD]
  refine ⟨⟨vs.set k u, by simp [hvl], by simpa using hst, fun q hq => by have := hin q hq; omega, fun i hi => ?_, fun i j hij hj => ?_⟩, hgr⟩
  · simp at hi
    rw [hset vs u undef i (by omega), hset xss ys [] i (by omega)]
    by_cases e : i = k
    · rw [if_pos e, if_pos e]
      exact ⟨own_grown hu hgr (hne _ _ hu), inB_mono hui hBS (Nat.le_refl _)⟩
    · rw [if_neg e, if_neg e]
      exact ⟨own_grown (hrows i hi).1 hgr (hne _ _ (hrows i hi).1), inB_mono (hrows i hi).2 (Nat.le_refl _) hSw⟩
  · simp at hj
    rw [hset vs u undef i (by omega), hset vs u undef j (by omega)]
    by_cases ei : i = k
    · rw [if_pos ei, if_neg (by omega)]
      cases e1 : u.ownBlock with
      | none => exact .inl e1
      | some q =>
        refine .inr fun e => ?_
        rw [e1] at e
        have := hui q e1
        have := (hrows j hj).2 q e.symm
        omega
    · rw [if_neg ei]
      by_cases ej : j = k
      · rw [if_pos ej]
        cases e1 : (vs.getD i undef).ownBlock with
        | none => exact .inl e1
        | some q =>
          refine .inr fun e => ?_
          rw [e1] at e
          have := (hrows i (by omega)).2 q e1
          have := hui q e.symm
          omega
      · rw [if_neg ej]
        exact hap i j hij hj

theorem stageM (xss : List (List Int)) (k : Nat) (h : k < xss.length) : (xss.take k ++ List.replicate (xss.length - k) []).set k (xss.getD k []) = xss.take (k + 1) ++ List.replicate (xss.length - (k + 1)) [] := by
  have hk : (xss.take k).length = k := by simp; omega
  rw [List.set_append_right _ _ (by omega), hk, Nat.sub_self, show xss.length - k = (xss.length - (k + 1)) + 1 by omega, List.replicate_succ, List.set_cons_zero, List.take_succ_eq_append_getElem h, List.append_assoc]
  simp [List.getD, h]

def total (xss : List (List Int)) : Nat := (xss.map List.length).sum
theorem total_cons (xs : List Int) (xss : List (List Int)) : total (xs :: xss) = xs.length + total xss := by simp [total]
theorem len_le_total (xss : List (List Int)) (i : Nat) (h : i < xss.length) : (xss.getD i []).length ≤ total xss := by
  induction xss generalizing i with
  | nil => simp at h
  | cons xs xss ih =>
    rw [total_cons]
    cases i with
    | zero => simp
    | succ i => have := ih i (by simpa using h); simp only [List.getD_cons_succ]; omega

def markRows : Int → List (List Int) → List (List Int)
  | _, [] => []
  | m, xs :: xss => iota m xs.length :: markRows (m + xs.length) xss

theorem markRows_length : ∀ (xss : List (List Int)) (m : Int), (markRows m xss).length = xss.length := by
  intro xss
  induction xss with
  | nil => intro m; rfl
  | cons xs xss ih => intro m; simp [markRows, ih]

theorem markRows_getD : ∀ (xss : List (List Int)) (m : Int) (k : Nat), k < xss.length → (markRows m xss).getD k [] = iota (m + total (xss.take k)) (xss.getD k []).length := by
  intro xss
  induction xss with
  | nil => intro m k hk; simp at hk
  | cons xs xss ih =>
    intro m k hk
    cases k with
    | zero => simp [markRows, total]
    | succ k =>
      have := ih (m + xs.length) k (by simpa using hk)
      simp only [markRows, List.getD_cons_succ, this, List.take_succ_cons, total_cons]
      congr 1
      omega

theorem total_take_succ (xss : List (List Int)) (k : Nat) (h : k < xss.length) : total (xss.take (k + 1)) = total (xss.take k) + (xss.getD k []).length := by
  unfold total
  rw [List.take_succ_eq_append_getElem h, List.map_append, List.sum_append]
  simp [List.getD, h]

theorem total_take_le (xss : List (List Int)) (k : Nat) : total (xss.take k) ≤ total xss := by
  induction xss generalizing k with
  | nil => simp
  | cons xs xss ih =>
    cases k with
    | zero => simp [total]
    | succ k => rw [List.take_succ_cons, total_cons, total_cons]; have := ih k; omega

theorem set_getD_self {α : Type} (l : List α) (k : Nat) (d x : α) (h : k < l.length) (i : Nat) : (l.set k x).getD i d = if i = k then x else l.getD i d := by
  rw [List.getD_eq_getElem?_getD, List.getElem?_set]
  by_cases e : k = i
  · subst e
    simp [h]
  · rw [if_neg e, if_neg (fun e' => e e'.symm), ← List.getD_eq_getElem?_getD]

theorem mark_stageM (xss : List (List Int)) (m : Int) (k : Nat) (h : k < xss.length) :
    ((markRows m xss).take k ++ xss.drop k).set k (iota (m + total (xss.take k)) (xss.getD k []).length) = (markRows m xss).take (k + 1) ++ xss.drop (k + 1) := by
  have hk : ((markRows m xss).take k).length = k := by simp [markRows_length]; omega
  rw [← markRows_getD xss m k h, List.set_append_right _ _ (by omega), hk, Nat.sub_self, List.drop_eq_getElem_cons h, List.set_cons_zero, List.take_succ_eq_append_getElem (by rw [markRows_length]; exact h), List.append_assoc]
  simp [List.getD, markRows_length, h]

theorem ownM_row {w : World} {B S g n cap : Nat} {xss : List (List Int)} (h : OwnM w B S (.slice (some ⟨g, 0, none⟩) n cap) xss) (k : Nat) (hk : k < xss.length) :
    ∃ u, w.cell? ⟨g, k, none⟩ = some u ∧ Own w B u (xss.getD k []) ∧ InB u B S ∧ ∀ w' ys, Own w' B u ys → w.grownBy w' u.ownBlock → OwnM w' B S (.slice (some ⟨g, 0, none⟩) n cap) (xss.set k ys) := by
  obtain ⟨vs, hvl, hrow, hin, hrows, hap⟩ := h
  have hlen : n = xss.length := by
    rcases hrow.2 with ⟨h1, _⟩ | ⟨g', cap', cur, h1, _⟩
    · cases h1
    · simp only [Value.slice.injEq] at h1
      exact h1.2.1
  refine ⟨vs.getD k undef, ?_, (hrows k hk).1, (hrows k hk).2, fun w' ys hu hg => ?_⟩
  · subst hlen
    rw [World.ownsRow.cellAt hrow k (by omega)]
    simp [List.getD, hvl, hk]
  · have hgne : (Value.slice (some ⟨g, 0, none⟩) n cap).ownBlock ≠ (vs.getD k undef).ownBlock := by
      intro e
      rcases (hrows k hk).1.2 with ⟨h3, _⟩ | ⟨gz, capz, curz, h3, _, hgz, _⟩
      · rw [h3] at e
        simp [Value.ownBlock] at e
      · rw [h3] at e
        simp [Value.ownBlock] at e
        subst e
        rcases hrow.2 with ⟨h1, _⟩ | ⟨g', cap', cur, h1, _, hg', _⟩
        · cases h1
        · simp only [Value.slice.injEq, Option.some.injEq, Addr.mk.injEq, and_true, true_and] at h1
          obtain ⟨rfl, _⟩ := h1
          rw [hgz] at hg'
          simp at hg'
    refine ⟨vs, by simp [hvl], by rw [List.length_set]; exact World.ownsRow.kept hrow hg (.inr hgne), hin, fun i hi => ?_, fun i j hij hj => hap i j hij (by simpa using hj)⟩
    simp at hi
    rw [set_getD_self xss k [] ys hk i]
    by_cases e : i = k
    · subst e
      rw [if_pos rfl]
      exact ⟨hu, (hrows i hi).2⟩
    · rw [if_neg e]
      refine ⟨own_grown (hrows i hi).1 hg ?_, (hrows i hi).2⟩
      rcases Nat.lt_or_gt_of_ne e with h' | h'
      · exact hap i k h' hk
      · rcases hap k i h' hi with h2 | h2
        · rw [h2]
          cases e1 : (vs.getD i undef).ownBlock with
          | none => exact .inl rfl
          | some q => exact .inr (by simp)
        · exact .inr fun e => h2 e.symm

def szM (xss : List (List Int)) : Int := if xss.length + total xss ≤ 1048576 then 1048576 - (xss.length : Int) - (total xss : Int) else -1

theorem rdM_of_rows {w : World} {a : Addr} {len cap : Nat} {A : Nat → Option Addr} {L C : Nat → Nat} {Z : Nat → List Int} (hlc : len ≤ cap) (hm : cap ≤ maxLen)
    (h : ∀ r, r < cap → w.cell? (a.add r) = some (.slice (A r) (L r) (C r)) ∧ L r ≤ C r ∧ C r ≤ maxLen ∧ (Z r).length = C r ∧ (∀ n ∈ Z r, (Lit.int .i64 n).wf = true) ∧ (A r = none → C r = 0) ∧
      ∀ a', A r = some a' → 0 ≤ a'.block ∧ ∀ c, c < C r → w.cell? (a'.add c) = some (.int .i64 ((Z r).getD c 0))) :
    RdM w (.slice (some a) len cap) ((List.range len).map fun r => (Z r).take (L r)) := by
  refine ⟨some a, cap, (List.range len).map fun r => Value.slice (A r) (L r) (C r), by simp, by simp, by simpa using hlc, hm, ?_, ?_⟩
  · by_cases h0 : len = 0
    · exact .inl (by simp [h0])
    · obtain ⟨b, off, spot⟩ := a
      have hc0 := (h 0 (by omega)).1
      have hspot : spot = none := by simpa [Addr.add] using World.cell?_spot hc0
      subst hspot
      refine .inr ⟨b, off, rfl, fun i hi => ?_⟩
      have hi' : i < len := by simpa using hi
      have := (h i (by omega)).1
      rw [Addr.add_lit] at this
      rw [this]
      simp [List.getD, hi']
  · intro i hi
    have hi' : i < len := by simpa using hi
    obtain ⟨_, h2, h3, h4, h5, h6, h7⟩ := h i (by omega)
    have e1 : ((List.range len).map fun r => Value.slice (A r) (L r) (C r)).getD i undef = .slice (A i) (L i) (C i) := by simp [List.getD, hi']
    have e2 : ((List.range len).map fun r => (Z r).take (L r)).getD i [] = (Z i).take (L i) := by simp [List.getD, hi']
    rw [e1, e2]
    have hrow : IsRow .i64 w (A i) (L i) (C i) (Z i) := by
      cases hA : A i with
      | none =>
        have hc := h6 hA
        exact .inl ⟨rfl, by omega, hc, List.eq_nil_of_length_eq_zero (by omega)⟩
      | some a' => exact .inr ⟨a', rfl, h2, h3, h4, fun c hc => (h7 a' hA).2 c (by omega), h5⟩
    rcases hrow with ⟨ha, hl, hc, hz⟩ | ⟨x, ha, hl, hc, hz, hcell, hw⟩
    · rw [ha, hl, hc, hz]
      exact ⟨none, 0, rfl, .inl rfl, Nat.le_refl _, Nat.zero_le _⟩
    · rw [ha]
      refine ⟨some x, C i, by congr 1; simp; omega, ?_, by simp; omega, hc⟩
      by_cases h0 : L i = 0
      · exact .inl (by simp [h0])
      · obtain ⟨b, off, spot⟩ := x
        have hc0 := hcell 0 (by omega)
        have hspot : spot = none := by simpa [Addr.add] using World.cell?_spot hc0
        subst hspot
        refine .inr ⟨b, off, rfl, fun j hj => ?_⟩
        have hj' : j < L i := by simp at hj; omega
        have := hcell j (by omega)
        rw [Addr.add_lit] at this
        rw [this]
        simp [List.getD, List.getElem?_take, hj']

end Go.Proofs.Ytbmpchpcihnbdaa
