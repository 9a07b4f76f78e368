/-
  Arcs: what they are, turned, told back. No program is named here.
-/
import Derived.Test.YtipmafplpoadjaaArcMath
import Derived.Test.YtipmafplpoadjaaArcIff
import Derived.Test.YtipmafplpoadjaaArcPMath
import Derived.Test.YtipmafplpoadjaaTurnMath
namespace Go.Proofs.Ytipmafplpoadjaa
set_option linter.unusedSimpArgs false
set_option linter.unusedVariables false
set_option linter.unnecessarySimpa false

theorem arcs_nodup (xs : List Int) : (arcsOf xs).Nodup := (arcsFrom_sorted xs 0).imp fun h e => by have := h.1; rw [e] at this; omega

theorem arcs_perm {xs ys : List Int} (h : ∀ p, p ∈ arcsOf xs ↔ p ∈ arcsOf ys) : (arcsOf xs).Perm (arcsOf ys) := (List.perm_ext_iff_of_nodup (arcs_nodup xs) (arcs_nodup ys)).2 (by intro p; exact h p)

/-- Lists with the same numbers together have the same arcs. -/
theorem arcs_pat {xs ys : List Int} (hl : ys.length = xs.length) (h : ∀ i j, i < xs.length → j < xs.length → (xs.getD i 0 = xs.getD j 0 ↔ ys.getD i 0 = ys.getD j 0)) : (arcsOf xs).Perm (arcsOf ys) := by
  refine arcs_perm fun p => ?_
  rw [arcs_iff, arcs_iff, hl]
  constructor
  · rintro ⟨h1, h2, h3, h4⟩
    exact ⟨h1, h2, (h _ _ h2 (by omega)).1 h3, fun j hj hk e => h4 j hj hk ((h _ _ (by omega) (by omega)).2 e)⟩
  · rintro ⟨h1, h2, h3, h4⟩
    exact ⟨h1, h2, (h _ _ h2 (by omega)).2 h3, fun j hj hk e => h4 j hj hk ((h _ _ (by omega) (by omega)).1 e)⟩

theorem pairsL_perm (p : Nat × Nat → Nat × Nat → Bool) (hs : ∀ x y, p x y = p y x) {l m : List (Nat × Nat)} (h : l.Perm m) : pairsL p l = pairsL p m := by
  induction h with
  | nil => rfl
  | cons x h ih => rw [pairsL, pairsL, ih, h.countP_eq]
  | swap x y l =>
    simp only [pairsL, List.countP_cons]
    rw [hs y x]
    omega
  | trans _ _ i1 i2 => rw [i1, i2]

theorem pairsL_map (p : Nat × Nat → Nat × Nat → Bool) (f : Nat × Nat → Nat × Nat) : ∀ l, pairsL p (l.map f) = pairsL (fun x y => p (f x) (f y)) l := by
  intro l
  induction l with
  | nil => rfl
  | cons x l ih =>
    rw [List.map_cons, pairsL, pairsL, ih, List.countP_map]
    rfl

def either (p : Nat × Nat → Nat × Nat → Bool) (x y : Nat × Nat) : Bool := p x y || p y x
theorem either_symm (p : Nat × Nat → Nat × Nat → Bool) (x y : Nat × Nat) : either p x y = either p y x := by simp [either, Bool.or_comm]

theorem pairs_either (p : Nat × Nat → Nat × Nat → Bool) (hp : ∀ x y : Nat × Nat, p x y = true → x.1 < y.1) (xs : List Int) : pairsL p (arcsOf xs) = pairsL (either p) (arcsOf xs) := by
  refine pairsL_congr _ _ _ ((arcsFrom_sorted xs 0).imp fun {x y} h => ?_)
  cases h2 : p y x with
  | false => simp [either, h2]
  | true => have := hp _ _ h2; have := h.1; omega

theorem pairs_perm (p : Nat × Nat → Nat × Nat → Bool) (hp : ∀ x y : Nat × Nat, p x y = true → x.1 < y.1) {xs ys : List Int} (h : (arcsOf xs).Perm (arcsOf ys)) : pairsL p (arcsOf xs) = pairsL p (arcsOf ys) := by
  rw [pairs_either p hp, pairs_either p hp, pairsL_perm _ (either_symm p) h]

/-- An arc of n things, turned. -/
def flip (n : Nat) (p : Nat × Nat) : Nat × Nat := (n - 1 - p.2, n - 1 - p.1)

theorem arcs_turned (xs : List Int) : (arcsOf xs.reverse).Perm ((arcsOf xs).map (flip xs.length)) := by
  have hnd : ((arcsOf xs).map (flip xs.length)).Nodup := by
    refine List.pairwise_map.2 (List.Pairwise.imp_of_mem (fun {p q} hp hq h e => ?_) (arcsFrom_sorted xs 0))
    have h1 := (arcs_iff xs p).1 hp
    have h2 := (arcs_iff xs q).1 hq
    simp only [flip, Prod.mk.injEq] at e
    have := h.2
    omega
  refine (List.perm_ext_iff_of_nodup (arcs_nodup _) hnd).2 (by
    intro p
    rw [List.mem_map, arcs_iff, List.length_reverse]
    constructor
    · rintro ⟨h1, h2, h3, h4⟩
      refine ⟨flip xs.length p, (arcs_iff _ _).2 ⟨?_, ?_, ?_, ?_⟩, ?_⟩
      · simp only [flip]; omega
      · simp only [flip]; omega
      · rw [getD_reverse _ _ h2, getD_reverse _ _ (by omega)] at h3
        exact h3.symm
      · intro j hj hk e
        simp only [flip] at hj hk e
        have := h4 (xs.length - 1 - j) (by omega) (by omega)
        rw [getD_reverse _ _ (by omega), getD_reverse _ _ (by omega), show xs.length - 1 - (xs.length - 1 - j) = j by omega] at this
        rw [getD_reverse _ _ h2, getD_reverse _ _ (by omega)] at h3
        exact this (by rw [e, h3])
      · simp only [flip]
        obtain ⟨a, b⟩ := p
        simp only [Prod.mk.injEq] at h1 h2 ⊢
        omega
    · rintro ⟨q, hq, rfl⟩
      obtain ⟨h1, h2, h3, h4⟩ := (arcs_iff _ _).1 hq
      refine ⟨?_, ?_, ?_, ?_⟩
      · simp only [flip]; omega
      · simp only [flip]; omega
      · simp only [flip]
        rw [getD_reverse _ _ (by omega), getD_reverse _ _ (by omega), show xs.length - 1 - (xs.length - 1 - q.1) = q.1 by omega, show xs.length - 1 - (xs.length - 1 - q.2) = q.2 by omega]
        exact h3.symm
      · intro j hj hk e
        simp only [flip] at hj hk e
        rw [getD_reverse _ _ (by omega), getD_reverse _ _ (by omega), show xs.length - 1 - (xs.length - 1 - q.2) = q.2 by omega, h3] at e
        exact h4 (xs.length - 1 - j) (by omega) (by omega) e)

theorem cross_lt (x y : Nat × Nat) (h : crossB x y = true) : x.1 < y.1 := by simp [crossB] at h; omega
theorem nest_lt (x y : Nat × Nat) (h : nestB x y = true) : x.1 < y.1 := by simp [nestB] at h; omega

theorem pairs_turned (p : Nat × Nat → Nat × Nat → Bool) (hp : ∀ x y : Nat × Nat, p x y = true → x.1 < y.1) (xs : List Int)
    (hf : ∀ x y, x ∈ arcsOf xs → y ∈ arcsOf xs → either p (flip xs.length x) (flip xs.length y) = either p x y) : pairsL p (arcsOf xs.reverse) = pairsL p (arcsOf xs) := by
  rw [pairs_either p hp, pairs_either p hp, pairsL_perm _ (either_symm p) (arcs_turned xs), pairsL_map]
  exact pairsL_congr _ _ _ (List.Pairwise.imp_of_mem (fun {x y} hx hy _ => hf x y hx hy) (arcsFrom_sorted xs 0))

theorem crossB_iff (x y : Nat × Nat) : crossB x y = true ↔ (x.1 < y.1 ∧ y.1 < x.2) ∧ x.2 < y.2 := by simp [crossB]
theorem nestB_iff (x y : Nat × Nat) : nestB x y = true ↔ x.1 < y.1 ∧ y.2 < x.2 := by simp [nestB]

theorem cross_turned (xs : List Int) : crossings xs.reverse = crossings xs := by
  refine pairs_turned crossB cross_lt xs fun x y hx hy => ?_
  obtain ⟨h1, h2, _, _⟩ := (arcs_iff _ _).1 hx
  obtain ⟨h3, h4, _, _⟩ := (arcs_iff _ _).1 hy
  rw [Bool.eq_iff_iff]
  obtain ⟨a, b⟩ := x
  obtain ⟨c, d⟩ := y
  simp only [either, Bool.or_eq_true, crossB_iff, flip] at *
  constructor
  · rintro (⟨⟨_, _⟩, _⟩ | ⟨⟨_, _⟩, _⟩)
    · right; omega
    · left; omega
  · rintro (⟨⟨_, _⟩, _⟩ | ⟨⟨_, _⟩, _⟩)
    · right; omega
    · left; omega

theorem nest_turned (xs : List Int) : nestings xs.reverse = nestings xs := by
  refine pairs_turned nestB nest_lt xs fun x y hx hy => ?_
  obtain ⟨h1, h2, _, _⟩ := (arcs_iff _ _).1 hx
  obtain ⟨h3, h4, _, _⟩ := (arcs_iff _ _).1 hy
  rw [Bool.eq_iff_iff]
  obtain ⟨a, b⟩ := x
  obtain ⟨c, d⟩ := y
  simp only [either, Bool.or_eq_true, nestB_iff, flip] at *
  constructor
  · rintro (⟨_, _⟩ | ⟨_, _⟩)
    · left; omega
    · right; omega
  · rintro (⟨_, _⟩ | ⟨_, _⟩)
    · left; omega
    · right; omega

theorem arcs_kOut (f : List Int) : (arcsOf f).Perm (arcsOf (kOut f)) := arcs_pat (kOut_length f) fun i j hi hj => (kOut_inv f).2 i j hi hj

theorem cross_kOut (f : List Int) : crossings (kOut f) = crossings f := (pairs_perm crossB cross_lt (arcs_kOut f)).symm
theorem nest_kOut (f : List Int) : nestings (kOut f) = nestings f := (pairs_perm nestB nest_lt (arcs_kOut f)).symm

theorem pairs_both (p q : Nat × Nat → Nat × Nat → Bool) (h : ∀ x y, p x y = true → q x y = false) : ∀ l : List (Nat × Nat), 2 * (pairsL p l + pairsL q l) ≤ l.length * (l.length - 1) := by
  intro l
  induction l with
  | nil => simp [pairsL]
  | cons x l ih =>
    have hc : l.countP (p x) + l.countP (q x) ≤ l.length := by
      clear ih
      induction l with
      | nil => simp
      | cons y l ih =>
        simp only [List.countP_cons, List.length_cons]
        cases h1 : p x y with
        | true => have := h x y h1; simp [this]; omega
        | false => cases h2 : q x y <;> simp <;> omega
    simp only [pairsL, List.length_cons, Nat.add_sub_cancel]
    have e : (l.length + 1) * l.length = l.length * (l.length - 1) + 2 * l.length := by
      cases l.length with
      | zero => rfl
      | succ n => simp only [Nat.add_sub_cancel, Nat.add_mul, Nat.mul_add]; omega
    omega

theorem cross_nest_le (xs : List Int) : 2 * (crossings xs + nestings xs) ≤ (arcsOf xs).length * ((arcsOf xs).length - 1) :=
  pairs_both crossB nestB (fun x y h => by simp only [crossB, Bool.and_eq_true, decide_eq_true_eq] at h; simp only [nestB, Bool.and_eq_false_iff, decide_eq_false_iff_not]; omega) _

theorem kNext_snocA (f : List Int) (x : Int) : kNext (f ++ [x]) = kNext f + if x ∈ f then 0 else 1 := by
  by_cases h : x ∈ f
  · rw [(kOut_mem h).2, if_pos h]; omega
  · rw [(kOut_new h).2, if_neg h]

/-- A number put anywhere counts once more just where it was not there. -/
theorem kNext_putA (u : List Int) (x : Int) : ∀ v, kNext (u ++ x :: v) = kNext (u ++ v) + if x ∈ u ++ v then 0 else 1 := by
  refine snoc_induction ?_ fun v y ih => ?_
  · rw [List.append_nil]; exact kNext_snocA u x
  · have e1 : u ++ x :: (v ++ [y]) = (u ++ x :: v) ++ [y] := by simp
    have e2 : u ++ (v ++ [y]) = (u ++ v) ++ [y] := by simp
    rw [e1, e2, kNext_snocA, kNext_snocA, ih]
    by_cases hxy : y = x
    · subst hxy
      have m1 : y ∈ u ++ y :: v := by simp
      have m2 : y ∈ (u ++ v) ++ [y] := by simp
      rw [if_pos m1, if_pos m2]
    · have m1 : (y ∈ u ++ x :: v) ↔ y ∈ u ++ v := by simp [hxy]
      have m2 : (x ∈ (u ++ v) ++ [y]) ↔ x ∈ u ++ v := by simp [Ne.symm hxy]
      simp only [m1, m2]
      omega

theorem kOut_partA {xs : List Int} (h : partIn xs = true) : kOut xs = xs := (kOut_of_ok xs (partIn_ok h)).1
theorem kNext_partA {xs : List Int} (h : partIn xs = true) : pSize xs = kNext xs := by
  have := pSize_kOut xs
  rwa [kOut_partA h] at this

/-- There are as many arcs as the rank. -/
theorem arcs_count : ∀ (xs : List Int) (i : Nat), ((arcsFrom i xs).length : Int) + kNext xs = xs.length := by
  intro xs
  induction xs with
  | nil => intro i; rfl
  | cons x ys ih =>
    intro i
    have h1 := ih (i + 1)
    have h2 := kNext_putA [] x ys
    simp only [List.nil_append] at h2
    rw [h2]
    by_cases hx : x ∈ ys
    · rw [arcsFrom_yes hx, if_pos hx]; simp; omega
    · rw [arcsFrom_no hx, if_neg hx]; simp; omega

theorem arcs_rank {xs : List Int} (hx : partIn xs = true) : (xs.length : Int) - pSize xs = ((arcsOf xs).length : Nat) := by
  have := arcs_count xs 0
  rw [kNext_partA hx]
  show _ = ((arcsFrom 0 xs).length : Int)
  omega

end Go.Proofs.Ytipmafplpoadjaa
