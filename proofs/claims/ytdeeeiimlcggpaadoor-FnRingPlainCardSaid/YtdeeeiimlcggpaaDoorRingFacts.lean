/-
  What permutations and their rings keep: backwards, in turn, with two numbers exchanged. No program is named here.
-/
import Derived.Test.YtdeeeiimlcggpaaDoorRingEven
import Derived.Test.YtdeeeiimlcggpaaDoorRing3
import Derived.Test.YtdeeeiimlcggpaaDoorFinIn
namespace Go.Proofs.YtdeeeiimlcggpaaDoor
set_option linter.unusedSimpArgs false
set_option linter.unusedVariables false
set_option linter.unnecessarySimpa false

theorem kNext_snocR (f : List Int) (x : Int) : kNext (f ++ [x]) = kNext f + if x ∈ f then 0 else 1 := by
  by_cases h : x ∈ f
  · rw [(kOut_mem h).2, if_pos h]; omega
  · rw [(kOut_new h).2, if_neg h]

/-- A number put anywhere counts once more just where it was not there. -/
theorem kNext_putR (u : List Int) (x : Int) : ∀ v, kNext (u ++ x :: v) = kNext (u ++ v) + if x ∈ u ++ v then 0 else 1 := by
  refine snoc_induction ?_ fun v y ih => ?_
  · rw [List.append_nil]; exact kNext_snocR u x
  · have e1 : u ++ x :: (v ++ [y]) = (u ++ x :: v) ++ [y] := by simp
    have e2 : u ++ (v ++ [y]) = (u ++ v) ++ [y] := by simp
    rw [e1, e2, kNext_snocR, kNext_snocR, ih]
    by_cases hxy : y = x
    · subst hxy
      have m1 : y ∈ u ++ y :: v := by simp
      have m2 : y ∈ (u ++ v) ++ [y] := by simp
      rw [if_pos m1, if_pos m2]
    · have m1 : (y ∈ u ++ x :: v) ↔ y ∈ u ++ v := by simp [hxy]
      have m2 : (x ∈ (u ++ v) ++ [y]) ↔ x ∈ u ++ v := by simp [Ne.symm hxy]
      simp only [m1, m2]
      omega

theorem kNext_frontR (q : List Int) : ∀ f : List Int, (∀ x ∈ f, x ∈ q) → kNext (f ++ q) = kNext q := by
  intro f
  induction f with
  | nil => intro _; rfl
  | cons x f ih =>
    intro h
    have e := kNext_putR [] x (f ++ q)
    have m : x ∈ [] ++ (f ++ q) := by simp [h x (by simp)]
    rw [if_pos m] at e
    have i := ih fun y hy => h y (by simp [hy])
    simp only [List.nil_append] at e
    rw [List.cons_append, e, i]
    omega

theorem kNext_backR (f : List Int) : ∀ q : List Int, (∀ x ∈ q, x ∈ f) → kNext (f ++ q) = kNext f := by
  refine snoc_induction (fun _ => by rw [List.append_nil]) fun q x ih h => ?_
  have m : x ∈ f ++ q := by simp [h x (by simp)]
  rw [← List.append_assoc, kNext_snocR, if_pos m, ih fun y hy => h y (by simp [hy])]
  omega

def firstsR (B : Nat) : List Int := (List.range B).map Int.ofNat
theorem mem_firstsR (B : Nat) (x : Int) : x ∈ firstsR B ↔ 0 ≤ x ∧ x < B := by
  unfold firstsR
  rw [List.mem_map]
  constructor
  · rintro ⟨a, ha, rfl⟩
    rw [List.mem_range] at ha
    show (0 : Int) ≤ (a : Int) ∧ (a : Int) < B
    omega
  · rintro ⟨h0, h1⟩
    exact ⟨x.toNat, by rw [List.mem_range]; omega, by show ((x.toNat : Nat) : Int) = x; omega⟩
theorem kNext_firstsR : ∀ B, kNext (firstsR B) = B := by
  intro B
  induction B with
  | zero => rfl
  | succ B ih =>
    have e : firstsR (B + 1) = firstsR B ++ [(B : Int)] := by unfold firstsR; rw [List.range_succ, List.map_append]; rfl
    have m : (B : Int) ∉ firstsR B := fun h => by have := (mem_firstsR B _).1 h; omega
    rw [e, kNext_snocR, if_neg m, ih]
    push_cast
    rfl

theorem kNext_allR {f : List Int} {B : Nat} (h1 : ∀ x ∈ f, 0 ≤ x ∧ x < B) (h2 : ∀ c : Int, 0 ≤ c → c < B → c ∈ f) : kNext f = B := by
  have a := kNext_frontR (firstsR B) f fun x hx => (mem_firstsR B x).2 (h1 x hx)
  have b := kNext_backR f (firstsR B) fun x hx => by have := (mem_firstsR B x).1 hx; exact h2 x this.1 this.2
  rw [← b, a, kNext_firstsR]

theorem nameFrom_of (n : Nat) : ∀ (xs : List Int) (s : Nat), (∀ j, j < xs.length → 0 ≤ xs.getD j 0 ∧ xs.getD j 0 < n) → (∀ j, j < xs.length → s.testBit (xs.getD j 0).toNat = false) →
    (∀ i j, i < j → j < xs.length → (xs.getD i 0).toNat ≠ (xs.getD j 0).toNat) → nameFrom n s xs = true := by
  intro xs
  induction xs with
  | nil => intro s _ _ _; rfl
  | cons x xs ih =>
    intro s hr hs hd
    have r0 := hr 0 (by simp)
    have s0 := hs 0 (by simp)
    simp only [List.getD_cons_zero] at r0 s0
    simp only [nameFrom, Bool.and_eq_true, decide_eq_true_eq, Bool.not_eq_true']
    refine ⟨⟨r0, s0⟩, ih _ (fun j hj => by simpa using hr (j + 1) (by simpa using hj)) (fun j hj => ?_) (fun i j hij hj => by simpa using hd (i + 1) (j + 1) (by omega) (by simpa using hj))⟩
    have h1 := hs (j + 1) (by simpa using hj)
    have h2 := hd 0 (j + 1) (by omega) (by simpa using hj)
    simp only [List.getD_cons_zero, List.getD_cons_succ] at h1 h2
    rw [Nat.testBit_or, Bool.or_eq_false_iff, Nat.testBit_two_pow]
    exact ⟨h1, by simpa using h2⟩

theorem ringIn_of {xs : List Int} (h1 : 1 ≤ xs.length) (h8 : xs.length ≤ 8) (hr : ∀ j, j < xs.length → 0 ≤ xs.getD j 0 ∧ xs.getD j 0 < xs.length) (hi : ∀ i j, i < xs.length → j < xs.length → nx xs i = nx xs j → i = j) : ringIn xs = true := by
  have : nameFrom xs.length 0 xs = true := nameFrom_of xs.length xs 0 hr (fun j _ => by simp) (fun i j hij hj e => by
    have := hi i j (by omega) hj e
    omega)
  simp [ringIn, permOk, namesOk, h1, h8, this]

theorem ringIn_facts {xs : List Int} (h : ringIn xs = true) : 1 ≤ xs.length ∧ xs.length ≤ 8 ∧ (∀ j, j < xs.length → 0 ≤ xs.getD j 0 ∧ xs.getD j 0 < xs.length) ∧ Led xs.length (nx xs) := by
  obtain ⟨h1, h8, hN, _, hr⟩ := permOk_facts (show permOk xs.length xs = true from h)
  exact ⟨h1, h8, hr, led_of_names hN⟩

theorem nx_int {xs : List Int} (h : ringIn xs = true) {j : Nat} (hj : j < xs.length) : xs.getD j 0 = ((nx xs j : Nat) : Int) := by
  have := (ringIn_facts h).2.2.1 j hj
  unfold nx
  omega

theorem ringLs_pat {xs : List Int} (h : ringIn xs = true) {i j : Nat} (hi : i < xs.length) (hj : j < xs.length) : (ringLs (nx xs) xs.length).getD i 0 = (ringLs (nx xs) xs.length).getD j 0 ↔ Orb (nx xs) i j := by
  obtain ⟨_, h8, _, hL⟩ := ringIn_facts h
  rw [ringLs_getD _ _ _ hi, ringLs_getD _ _ _ hj, Int.ofNat_inj, ringL_pat hL h8 hi hj]

theorem ring_pat {xs : List Int} (h : ringIn xs = true) {i j : Nat} (hi : i < xs.length) (hj : j < xs.length) : (ringsOf xs).getD i 0 = (ringsOf xs).getD j 0 ↔ Orb (nx xs) i j := by
  rw [← ringLs_pat h hi hj, ringsOf]
  exact ((kOut_inv (ringLs (nx xs) xs.length)).2 i j (by rw [ringLs_length]; exact hi) (by rw [ringLs_length]; exact hj)).symm

theorem rings_eq_of {xs ys : List Int} (hl : ys.length = xs.length) (hx : ringIn xs = true) (hy : ringIn ys = true) (h : ∀ i j, i < xs.length → j < xs.length → (Orb (nx xs) i j ↔ Orb (nx ys) i j)) : ringsOf ys = ringsOf xs := by
  refine (kOut_pat _ _ (by rw [ringLs_length, ringLs_length, hl]) fun i j hi hj => ?_).1
  rw [ringLs_length] at hi hj
  rw [ringLs_pat hx hi hj, ringLs_pat hy (by omega) (by omega)]
  exact h i j hi hj

theorem getD_setR (l : List Int) (i q : Nat) (x : Int) : (l.set i x).getD q 0 = if i = q ∧ q < l.length then x else l.getD q 0 := by
  simp only [List.getD, List.getElem?_set]
  by_cases h : i = q
  · subst h
    by_cases h2 : i < l.length
    · simp [h2]
    · simp [h2]
  · simp [h]

theorem led_onto {n : Nat} {f : Nat → Nat} (h : Led n f) {y : Nat} (hy : y < n) : ∃ x, x < n ∧ f x = y := by
  obtain ⟨m, h1, _, h3⟩ := itf_back h hy
  refine ⟨itf f (m - 1) y, itf_lt h hy _, ?_⟩
  have : f (itf f (m - 1) y) = itf f (m - 1 + 1) y := rfl
  rw [this, Nat.sub_add_cancel h1, h3]

theorem back_at {xs : List Int} (h : ringIn xs = true) : ∀ k, k ≤ xs.length → ∀ j, j < k → (backTo xs k).getD (nx xs j) 0 = j := by
  obtain ⟨h1, h8, hr, hL⟩ := ringIn_facts h
  intro k
  induction k with
  | zero => intro _ j hj; omega
  | succ k ih =>
    intro hk j hj
    rw [backTo_succ xs k (by omega), getD_setR]
    have hn := hL.lt j (by omega)
    by_cases e : j = k
    · subst e
      rw [if_pos ⟨rfl, by rw [backTo_length]; exact hn⟩]
    · rw [if_neg (fun hh => e (hL.inj j k (by omega) (by omega) hh.1.symm))]
      exact ih (by omega) j (by omega)

theorem back_val {xs : List Int} (h : ringIn xs = true) {j : Nat} (hj : j < xs.length) : (backTo xs xs.length).getD (nx xs j) 0 = j := back_at h xs.length (Nat.le_refl _) j hj
theorem back_nx {xs : List Int} (h : ringIn xs = true) {j : Nat} (hj : j < xs.length) : nx (backTo xs xs.length) (nx xs j) = j := by
  have := back_val h hj
  unfold nx at this ⊢
  rw [this]
  rfl

theorem back_ring {xs : List Int} (h : ringIn xs = true) : ringIn (backTo xs xs.length) = true := by
  obtain ⟨h1, h8, hr, hL⟩ := ringIn_facts h
  have hl := backTo_length xs xs.length
  refine ringIn_of (by omega) (by omega) (fun y hy => ?_) (fun y z hy hz e => ?_)
  · rw [hl] at hy
    obtain ⟨x, hx, rfl⟩ := led_onto hL hy
    rw [back_val h hx, hl]
    omega
  · rw [hl] at hy hz
    obtain ⟨x, hx, rfl⟩ := led_onto hL hy
    obtain ⟨x2, hx2, rfl⟩ := led_onto hL hz
    rw [back_nx h hx, back_nx h hx2] at e
    rw [e]

theorem orb_inv {n : Nat} {f g : Nat → Nat} (hf : Led n f) (hg : Led n g) (h : ∀ j, j < n → g (f j) = j) {x y : Nat} (hx : x < n) (k : Orb f x y) : Orb g x y := by
  obtain ⟨a, rfl⟩ := k
  have : ∀ a, itf g a (itf f a x) = x := by
    intro a
    induction a with
    | zero => rfl
    | succ a ih =>
      have e1 : itf g (a + 1) (itf f (a + 1) x) = itf g a (g (f (itf f a x))) := itf_add g a 1 _
      rw [e1, h _ (itf_lt hf hx a), ih]
  exact orb_symm hg (itf_lt hf hx a) ⟨a, this a⟩

theorem back_led {xs : List Int} (h : ringIn xs = true) : Led xs.length (nx (backTo xs xs.length)) := by
  have := (ringIn_facts (back_ring h)).2.2.2
  rwa [backTo_length] at this

theorem back_other {xs : List Int} (h : ringIn xs = true) {y : Nat} (hy : y < xs.length) : nx xs (nx (backTo xs xs.length) y) = y := by
  obtain ⟨x, hx, rfl⟩ := led_onto (ringIn_facts h).2.2.2 hy
  rw [back_nx h hx]

theorem back_rings {xs : List Int} (h : ringIn xs = true) : ringsOf (backTo xs xs.length) = ringsOf xs := by
  have hL := (ringIn_facts h).2.2.2
  exact rings_eq_of (backTo_length _ _) h (back_ring h) fun i j hi hj => ⟨orb_inv hL (back_led h) (fun j hj => back_nx h hj) hi, orb_inv (back_led h) hL (fun j hj => back_other h hj) hi⟩

theorem back_back {xs : List Int} (h : ringIn xs = true) : backTo (backTo xs xs.length) xs.length = xs := by
  have hl := backTo_length xs xs.length
  have hb := back_ring h
  have hv := fun j (hj : j < (backTo xs xs.length).length) => back_val hb hj
  rw [hl] at hv
  refine ext_getD (by rw [backTo_length, hl]) fun y hy => ?_
  rw [backTo_length, hl] at hy
  obtain ⟨x, hx, rfl⟩ := led_onto (back_led h) hy
  rw [hv x hx, nx_int h ((back_led h).lt x hx), back_other h hx]

theorem prod_nx {xs ys : List Int} (hx : ringIn xs = true) {k : Nat} (hk : k < xs.length) : nx (prodL xs ys) k = nx ys (nx xs k) := by
  unfold nx
  rw [prodL_getD _ _ _ hk]

theorem prod_ring {xs ys : List Int} (hx : ringIn xs = true) (hy : permOk xs.length ys = true) : ringIn (prodL xs ys) = true := by
  obtain ⟨h1, h8, hr, hL⟩ := ringIn_facts hx
  obtain ⟨hy1, hyl⟩ := permOk_iff.1 hy
  obtain ⟨_, _, hry, hLy⟩ := ringIn_facts hy1
  rw [hyl] at hry hLy
  have hl := prodL_length xs ys
  refine ringIn_of (by omega) (by omega) (fun j hj => ?_) (fun i j hi hj e => ?_)
  · rw [hl] at hj ⊢
    rw [prodL_getD _ _ _ hj]
    exact hry _ (hL.lt j hj)
  · rw [hl] at hi hj
    rw [prod_nx hx hi, prod_nx hx hj] at e
    exact hL.inj _ _ hi hj (hLy.inj _ _ (hL.lt i hi) (hL.lt j hj) e)

theorem prod_back {xs : List Int} (h : ringIn xs = true) {i : Nat} (hi : i < xs.length) : (prodL xs (backTo xs xs.length)).getD i 0 = i := by
  rw [prodL_getD _ _ _ hi]
  exact back_val h hi

/-- Two numbers exchanged. -/
def swf (f : Nat → Nat) (i k q : Nat) : Nat := if q = k then f i else if q = i then f k else f q

theorem orb_closed {f : Nat → Nat} {S : Nat → Prop} (h : ∀ z, S z → S (f z)) {x y : Nat} (hx : S x) (k : Orb f x y) : S y := by
  obtain ⟨a, rfl⟩ := k
  induction a with
  | zero => exact hx
  | succ a ih => exact h _ ih

theorem swf_i {f : Nat → Nat} {i k : Nat} (h : i ≠ k) : swf f i k i = f k := by simp [swf, h]
theorem swf_k (f : Nat → Nat) (i k : Nat) : swf f i k k = f i := by simp [swf]
theorem swf_o {f : Nat → Nat} {i k q : Nat} (h1 : q ≠ i) (h2 : q ≠ k) : swf f i k q = f q := by simp [swf, h1, h2]

section
variable {n : Nat} {f : Nat → Nat} {i k : Nat}

theorem orb_merge (hf : Led n f) (hi : i < n) (hk : k < n) (hik : i ≠ k) (hne : ¬ Orb f i k) : Orb (swf f i k) i k := by
  apply Classical.byContradiction
  intro hno
  have hcl : ∀ z, (Orb (swf f i k) i z ∧ Orb f k z) → (Orb (swf f i k) i (f z) ∧ Orb f k (f z)) := by
    rintro z ⟨h1, h2⟩
    have n1 : z ≠ k := fun e => hno (e ▸ h1)
    have n2 : z ≠ i := fun e => hne (orb_symm hf hk (e ▸ h2))
    have hs := orb_step (swf f i k) z
    rw [swf_o n2 n1] at hs
    exact ⟨orb_trans h1 hs, orb_trans h2 (orb_step f z)⟩
  have h0 := orb_step (swf f i k) i
  rw [swf_i hik] at h0
  exact hno (orb_closed hcl ⟨h0, orb_step f k⟩ (orb_symm hf hk (orb_step f k))).1

/-- Two rings are merged. -/
theorem swap_join (hf : Led n f) (hf' : Led n (swf f i k)) (hi : i < n) (hk : k < n) (hik : i ≠ k) (hne : ¬ Orb f i k) {x y : Nat} (hx : x < n) (hy : y < n) :
    Orb (swf f i k) x y ↔ Orb f x y ∨ ((Orb f i x ∨ Orb f k x) ∧ (Orb f i y ∨ Orb f k y)) := by
  have hm := orb_merge hf hi hk hik hne
  have hstep : ∀ z, z < n → Orb (swf f i k) z (f z) := by
    intro z hz
    by_cases e1 : z = i
    · subst e1
      have := orb_step (swf f z k) k
      rw [swf_k] at this
      exact orb_trans hm this
    · by_cases e2 : z = k
      · subst e2
        have := orb_step (swf f i z) i
        rw [swf_i hik] at this
        exact orb_trans (orb_symm hf' hi hm) this
      · have := orb_step (swf f i k) z
        rw [swf_o e1 e2] at this
        exact this
  have hall : ∀ x, x < n → ∀ y, Orb f x y → Orb (swf f i k) x y := by
    intro x hx y h
    have := orb_closed (f := f) (S := fun z => z < n ∧ Orb (swf f i k) x z) (fun z hz => ⟨hf.lt z hz.1, orb_trans hz.2 (hstep z hz.1)⟩) ⟨hx, orb_refl _ _⟩ h
    exact this.2
  have hto : ∀ z, z < n → (Orb f i z ∨ Orb f k z) → Orb (swf f i k) i z := by
    rintro z hz (h | h)
    · exact hall i hi z h
    · exact orb_trans hm (hall k hk z h)
  constructor
  · intro h
    refine orb_closed (f := swf f i k) (S := fun z => z < n ∧ (Orb f x z ∨ ((Orb f i x ∨ Orb f k x) ∧ (Orb f i z ∨ Orb f k z)))) ?_ ⟨hx, .inl (orb_refl _ _)⟩ h |>.2
    rintro z ⟨hz, hS⟩
    refine ⟨hf'.lt z hz, ?_⟩
    by_cases e2 : z = k
    · subst e2
      rw [swf_k]
      refine .inr ⟨?_, .inl (orb_step f i)⟩
      rcases hS with h | h
      · exact .inr (orb_symm hf hx h)
      · exact h.1
    · by_cases e1 : z = i
      · subst e1
        rw [swf_i hik]
        refine .inr ⟨?_, .inr (orb_step f k)⟩
        rcases hS with h | h
        · exact .inl (orb_symm hf hx h)
        · exact h.1
      · rw [swf_o e1 e2]
        rcases hS with h | ⟨h, h'⟩
        · exact .inl (orb_trans h (orb_step f z))
        · exact .inr ⟨h, h'.elim (fun q => .inl (orb_trans q (orb_step f z))) (fun q => .inr (orb_trans q (orb_step f z)))⟩
  · rintro (h | ⟨h1, h2⟩)
    · exact hall x hx y h
    · exact orb_trans (orb_symm hf' hi (hto x hx h1)) (hto y hy h2)

theorem least_such (P : Nat → Prop) : ∀ a, P a → ∃ m, P m ∧ ∀ j, j < m → ¬ P j := by
  intro a
  induction a using Nat.strongRecOn with
  | _ a ih =>
    intro ha
    by_cases h : ∃ j, j < a ∧ P j
    · obtain ⟨j, h1, h2⟩ := h
      exact ih j h1 h2
    · exact ⟨a, ha, fun j hj hp => h ⟨j, hj, hp⟩⟩

/-- One ring is split. -/
theorem orb_split (hf : Led n f) (hi : i < n) (hk : k < n) (hik : i ≠ k) (ho : Orb f i k) : ¬ Orb (swf f i k) i k := by
  obtain ⟨a, ha⟩ := orb_symm hf hi ho
  obtain ⟨m, hm, hmin⟩ := least_such (fun j => itf f j k = i) a ha
  have hm1 : 1 ≤ m := by
    rcases Nat.eq_zero_or_pos m with h | h
    · subst h; exact absurd hm.symm hik
    · exact h
  have hnk : ∀ j, 1 ≤ j → j ≤ m → itf f j k ≠ k := by
    intro j h1 h2 e
    have : itf f (m - j) k = i := by
      have e2 := itf_add f (m - j) j k
      rw [Nat.sub_add_cancel h2, e, hm] at e2
      exact e2.symm
    exact hmin (m - j) (by omega) this
  intro h
  have := orb_closed (f := swf f i k) (S := fun z => ∃ j, 1 ≤ j ∧ j ≤ m ∧ itf f j k = z) (fun z => by
    rintro ⟨j, h1, h2, rfl⟩
    by_cases e : j = m
    · subst e
      refine ⟨1, Nat.le_refl _, hm1, ?_⟩
      rw [hm, swf_i hik]
      rfl
    · refine ⟨j + 1, by omega, by omega, ?_⟩
      rw [swf_o (hmin j (by omega)) (hnk j h1 h2)]
      rfl) ⟨m, hm1, Nat.le_refl _, hm⟩ h
  obtain ⟨j, h1, h2, h3⟩ := this
  exact hnk j h1 h2 h3
end

/-- How many numbers a list has when two of them are told as one. -/
theorem merged_count {A b : List Int} {P : Nat} (h1 : ∀ x ∈ A, 0 ≤ x ∧ x < P) (h2 : ∀ c : Int, 0 ≤ c → c < P → c ∈ A) {u v : Int} (huv : u < v) (hu : u ∈ A) (hv : v ∈ A) (hl : b.length = A.length)
    (hp : ∀ i j, i < A.length → j < A.length → (b.getD i 0 = b.getD j 0 ↔ A.getD i 0 = A.getD j 0 ∨ ((A.getD i 0 = u ∨ A.getD i 0 = v) ∧ (A.getD j 0 = u ∨ A.getD j 0 = v)))) : kNext b = (P : Int) - 1 := by
  obtain ⟨C, hC⟩ : ∃ C, C = A.map (fun x => if x = v then u else if v < x then x - 1 else x) := ⟨_, rfl⟩
  have u0 := h1 u hu
  have v0 := h1 v hv
  have hCl : C.length = A.length := by rw [hC, List.length_map]
  have hCg : ∀ i, i < A.length → C.getD i 0 = if A.getD i 0 = v then u else if v < A.getD i 0 then A.getD i 0 - 1 else A.getD i 0 := by
    intro i hi
    rw [hC]
    simp [List.getD, hi]
  have e1 := (kOut_pat b C (by rw [hCl, hl]) fun i j hi hj => by
    rw [hl] at hi hj
    rw [hp i j hi hj, hCg i hi, hCg j hj]
    generalize A.getD i 0 = x
    generalize A.getD j 0 = y
    constructor
    · rintro (rfl | ⟨hx | hx, hy | hy⟩)
      · rfl
      all_goals (subst hx; subst hy; (repeat' split) <;> first | rfl | omega)
    · intro e
      split at e <;> split at e <;> (try split at e) <;> (try split at e) <;> omega).2
  obtain ⟨Q, hQ⟩ : ∃ Q : Nat, (Q : Int) = (P : Int) - 1 := ⟨P - 1, by omega⟩
  rw [← e1, ← hQ]
  refine kNext_allR (fun y hy => ?_) (fun c hc0 hc1 => ?_)
  · rw [hC] at hy
    obtain ⟨x, hx, rfl⟩ := List.mem_map.1 hy
    have := h1 x hx
    split
    · omega
    · split <;> omega
  · rw [hC]
    by_cases hcv : c < v
    · exact List.mem_map.2 ⟨c, h2 c hc0 (by omega), by rw [if_neg (by omega), if_neg (by omega)]⟩
    · exact List.mem_map.2 ⟨c + 1, h2 (c + 1) (by omega) (by omega), by rw [if_neg (by omega), if_pos (by omega)]; omega⟩

theorem nx_swap (xs : List Int) {i k : Nat} (hi : i < xs.length) (hk : k < xs.length) : nx (swapAt xs i k) = swf (nx xs) i k := by
  funext q
  unfold nx swf
  rw [getD_swap _ _ _ _ hi hk]
  split
  · rfl
  · split <;> rfl

theorem swap_ring {xs : List Int} (h : ringIn xs = true) {i k : Nat} (hi : i < xs.length) (hk : k < xs.length) : ringIn (swapAt xs i k) = true := by
  obtain ⟨h1, h8, hr, hL⟩ := ringIn_facts h
  have hl := swapAt_length xs i k
  refine ringIn_of (by omega) (by omega) (fun j hj => ?_) (fun a b ha hb e => ?_)
  · rw [hl] at hj ⊢
    rw [getD_swap _ _ _ _ hi hk]
    split
    · exact hr i hi
    · split
      · exact hr k hk
      · exact hr j hj
  · rw [hl] at ha hb
    rw [nx_swap xs hi hk] at e
    unfold swf at e
    split at e <;> split at e <;> (try split at e) <;> (try split at e) <;> first | omega | (have := hL.inj _ _ (by omega) (by omega) e; omega)

theorem swap_swap (xs : List Int) {i k : Nat} (hi : i < xs.length) (hk : k < xs.length) : swapAt (swapAt xs i k) i k = xs := by
  have hl := swapAt_length xs i k
  refine ext_getD (by rw [swapAt_length, hl]) fun q hq => ?_
  rw [getD_swap _ _ _ _ (by omega) (by omega), getD_swap _ _ _ _ hi hk, getD_swap _ _ _ _ hi hk, getD_swap _ _ _ _ hi hk]
  split
  · rename_i e; subst e; split <;> rename_i e2
    · subst e2; rfl
    · rw [if_pos rfl]
  · rename_i e
    split
    · rename_i e2; subst e2; rw [if_pos rfl]
    · rfl

/-- What an exchange across two rings does. -/
theorem swap_two {xs : List Int} (h : ringIn xs = true) {i k : Nat} (hi : i < xs.length) (hk : k < xs.length) (hik : i ≠ k) (hne : ¬ Orb (nx xs) i k) :
    pSize (ringsOf (swapAt xs i k)) = pSize (ringsOf xs) - 1 ∧ finerIn (ringsOf xs) (ringsOf (swapAt xs i k)) = true := by
  obtain ⟨h1, h8, hr, hL⟩ := ringIn_facts h
  have hs := swap_ring h hi hk
  have hl := swapAt_length xs i k
  have hL' := (ringIn_facts hs).2.2.2
  rw [hl, nx_swap xs hi hk] at hL'
  have hj := fun x y (hx : x < xs.length) (hy : y < xs.length) => swap_join hL hL' hi hk hik hne hx hy
  constructor
  · have hA := kOut_all (ringLs (nx xs) xs.length)
    have hb := kNext_bd (ringLs (nx xs) xs.length)
    obtain ⟨P, hP⟩ := Int.eq_ofNat_of_zero_le hb.1
    rw [hP] at hA
    have hAl : (ringsOf xs).length = xs.length := ringsOf_length xs
    have hmem : ∀ q, q < xs.length → (ringsOf xs).getD q 0 ∈ ringsOf xs := fun q hq => by simp [List.getD, hAl, hq]
    have hpat : ∀ q, q < xs.length → ∀ z, z < xs.length → ((ringsOf xs).getD q 0 = (ringsOf xs).getD z 0 ↔ Orb (nx xs) q z) := fun q hq z hz => ring_pat h hq hz
    have hne2 : (ringsOf xs).getD i 0 ≠ (ringsOf xs).getD k 0 := fun e => hne ((hpat i hi k hk).1 e)
    have hp : ∀ a b, a < (ringsOf xs).length → b < (ringsOf xs).length → ((ringLs (nx (swapAt xs i k)) xs.length).getD a 0 = (ringLs (nx (swapAt xs i k)) xs.length).getD b 0 ↔ (ringsOf xs).getD a 0 = (ringsOf xs).getD b 0 ∨
        (((ringsOf xs).getD a 0 = (ringsOf xs).getD i 0 ∨ (ringsOf xs).getD a 0 = (ringsOf xs).getD k 0) ∧ ((ringsOf xs).getD b 0 = (ringsOf xs).getD i 0 ∨ (ringsOf xs).getD b 0 = (ringsOf xs).getD k 0))) := by
      intro a b ha hb
      rw [hAl] at ha hb
      have e1 := ringLs_pat hs (i := a) (j := b) (by rw [hl]; exact ha) (by rw [hl]; exact hb)
      rw [hl, nx_swap xs hi hk] at e1
      rw [nx_swap xs hi hk, e1, hj a b ha hb, hpat a ha b hb, eq_comm (a := (ringsOf xs).getD a 0) (b := (ringsOf xs).getD i 0), eq_comm (a := (ringsOf xs).getD a 0) (b := (ringsOf xs).getD k 0), eq_comm (a := (ringsOf xs).getD b 0) (b := (ringsOf xs).getD i 0), eq_comm (a := (ringsOf xs).getD b 0) (b := (ringsOf xs).getD k 0), hpat i hi a ha, hpat k hk a ha, hpat i hi b hb, hpat k hk b hb]
    have e0 : pSize (ringsOf xs) = (P : Int) := by rw [ringsOf, pSize_kOut, hP]
    have e2 : pSize (ringsOf (swapAt xs i k)) = kNext (ringLs (nx (swapAt xs i k)) xs.length) := by rw [ringsOf, pSize_kOut, hl]
    rw [e0, e2]
    have hll : (ringLs (nx (swapAt xs i k)) xs.length).length = (ringsOf xs).length := by rw [ringLs_length, hAl]
    rcases Int.lt_or_gt_of_ne hne2 with hlt | hlt
    · exact merged_count (fun x hx => (hA x).1 hx) (fun c a b => (hA c).2 ⟨a, b⟩) hlt (hmem i hi) (hmem k hk) hll hp
    · exact merged_count (fun x hx => (hA x).1 hx) (fun c a b => (hA c).2 ⟨a, b⟩) hlt (hmem k hk) (hmem i hi) hll fun a b ha hb => by
        rw [hp a b ha hb, or_comm (a := (ringsOf xs).getD a 0 = (ringsOf xs).getD i 0), or_comm (a := (ringsOf xs).getD b 0 = (ringsOf xs).getD i 0)]; exact Iff.rfl
  · simp only [finerIn, Bool.and_eq_true]
    refine ⟨alike_iff.2 ⟨rings_part h, rings_part hs, by rw [ringsOf_length, ringsOf_length, hl]⟩, finer_iff.2 fun a b ha hb e => ?_⟩
    rw [ringsOf_length] at ha hb
    rw [ring_pat hs (by rw [hl]; exact ha) (by rw [hl]; exact hb), nx_swap xs hi hk, hj a b ha hb]
    exact .inl ((ring_pat h ha hb).1 e)

/-- An exchange merges two rings, or splits one. -/
theorem swap_rank {xs : List Int} (h : ringIn xs = true) {i k : Nat} (hi : i < xs.length) (hk : k < xs.length) (hik : i ≠ k) :
    (pSize (ringsOf (swapAt xs i k)) = pSize (ringsOf xs) - 1 ∧ finerIn (ringsOf xs) (ringsOf (swapAt xs i k)) = true) ∨
    (pSize (ringsOf xs) = pSize (ringsOf (swapAt xs i k)) - 1 ∧ finerIn (ringsOf (swapAt xs i k)) (ringsOf xs) = true) := by
  by_cases ho : Orb (nx xs) i k
  · right
    have hs := swap_ring h hi hk
    have hl := swapAt_length xs i k
    have hne := orb_split (ringIn_facts h).2.2.2 hi hk hik ho
    rw [← nx_swap xs hi hk] at hne
    have := swap_two hs (i := i) (k := k) (by omega) (by omega) hik hne
    rw [swap_swap xs hi hk] at this
    exact this
  · exact .inl (swap_two h hi hk hik ho)

theorem even_swap {xs : List Int} (h : ringIn xs = true) {i k : Nat} (hi : i < xs.length) (hk : k < xs.length) (hik : i ≠ k) : evenL (swapAt xs i k) = !evenL xs := by
  have hl := swapAt_length xs i k
  have hb : ∀ ys, ringIn ys = true → pSize (ringsOf ys) ≤ ys.length := fun ys hy => by
    rw [ringsOf, pSize_kOut]
    have := (kNext_bd (ringLs (nx ys) ys.length)).2
    rwa [ringLs_length] at this
  have b1 := hb xs h
  have b2 := hb _ (swap_ring h hi hk)
  rw [hl] at b2
  unfold evenL
  rw [hl, Int.tmod_eq_emod_of_nonneg (by omega), Int.tmod_eq_emod_of_nonneg (by omega)]
  rcases swap_rank h hi hk hik with ⟨e, _⟩ | ⟨e, _⟩
  · rw [e]
    by_cases q : ((xs.length : Int) - pSize (ringsOf xs)) % 2 = 0
    · rw [decide_eq_true q, decide_eq_false (by omega)]; rfl
    · rw [decide_eq_false q, decide_eq_true (by omega)]; rfl
  · by_cases q : ((xs.length : Int) - pSize (ringsOf xs)) % 2 = 0
    · rw [decide_eq_true q, decide_eq_false (by omega)]; rfl
    · rw [decide_eq_false q, decide_eq_true (by omega)]; rfl

theorem even_back {xs : List Int} (h : ringIn xs = true) : evenL (backTo xs xs.length) = evenL xs := by
  unfold evenL
  rw [backTo_length, back_rings h]

theorem itf_fix {f : Nat → Nat} {x : Nat} (h : f x = x) (k : Nat) : itf f k x = x := by
  induction k with
  | zero => rfl
  | succ k ih => show f (itf f k x) = x; rw [ih, h]
theorem leastTo_fix {f : Nat → Nat} {x : Nat} (h : f x = x) (k : Nat) : leastTo f x k = x := by
  induction k with
  | zero => rfl
  | succ k ih => rw [leastTo, ih, itf_fix h]; exact Nat.min_self x

/-- Who leads each thing to itself is even. -/
theorem even_id {xs : List Int} (h : ∀ i, i < xs.length → xs.getD i 0 = i) : evenL xs = true := by
  have hf : ∀ i, i < xs.length → nx xs i = i := fun i hi => by unfold nx; rw [h i hi]; rfl
  have : pSize (ringsOf xs) = xs.length := by
    rw [ringsOf, pSize_kOut]
    refine kNext_allR (fun x hx => ?_) (fun c h0 h1 => ?_)
    · obtain ⟨q, hq, rfl⟩ := List.mem_map.1 hx
      have hq := List.mem_range.1 hq
      rw [show ringL (nx xs) q = q from leastTo_fix (hf q hq) 8]
      omega
    · obtain ⟨q, rfl⟩ := Int.eq_ofNat_of_zero_le h0
      exact List.mem_map.2 ⟨q, List.mem_range.2 (by omega), by rw [show ringL (nx xs) q = q from leastTo_fix (hf q (by omega)) 8]⟩
  unfold evenL
  rw [this]
  simp

theorem even_prod_from : ∀ (d : Nat) (xs ys : List Int) (j : Nat), j + d = xs.length → (∀ i, i < j → xs.getD i 0 = i) → ringIn xs = true → permOk xs.length ys = true → evenL (prodL xs ys) = (evenL xs == evenL ys) := by
  intro d
  induction d with
  | zero =>
    intro xs ys j hj hfix hx hy
    have hyl := (permOk_iff.1 hy).2
    have e : prodL xs ys = ys := by
      refine ext_getD (by rw [prodL_length, hyl]) fun i hi => ?_
      rw [prodL_length] at hi
      rw [prodL_getD _ _ _ hi, hfix i (by omega)]
      rfl
    rw [e, even_id (fun i hi => hfix i (by omega))]
    cases evenL ys <;> rfl
  | succ d ih =>
    intro xs ys j hj hfix hx hy
    by_cases hjj : xs.getD j 0 = j
    · refine ih xs ys (j + 1) (by omega) (fun i hi => ?_) hx hy
      by_cases e : i = j
      · rw [e]; exact hjj
      · exact hfix i (by omega)
    · obtain ⟨h1, h8, hr, hL⟩ := ringIn_facts hx
      obtain ⟨k, hk, hkj⟩ := led_onto hL (y := j) (by omega)
      have hne : j ≠ k := by
        rintro rfl
        exact hjj (by rw [nx_int hx hk, hkj])
      have hjk : j < k := by
        refine Nat.lt_of_not_le fun hle => ?_
        have h3 := hfix k (by omega)
        have h4 := nx_int hx hk
        omega
      have hl := swapAt_length xs j k
      have hs := swap_ring hx (i := j) (k := k) (by omega) hk
      have hq := ih (swapAt xs j k) ys (j + 1) (by omega) (fun i hi => by
        rw [getD_swap _ _ _ _ (by omega) hk, if_neg (by omega)]
        by_cases e : i = j
        · rw [if_pos e, nx_int hx hk, hkj, e]
        · rw [if_neg e]; exact hfix i (by omega)) hs (by rw [hl]; exact hy)
      have hp : prodL (swapAt xs j k) ys = swapAt (prodL xs ys) j k := by
        refine ext_getD (by rw [prodL_length, swapAt_length, swapAt_length, prodL_length]) fun i hi => ?_
        rw [prodL_length, hl] at hi
        rw [prodL_getD _ _ _ (by rw [hl]; exact hi), getD_swap _ _ _ _ (by omega) hk, getD_swap _ _ _ _ (by rw [prodL_length]; omega) (by rw [prodL_length]; exact hk)]
        split
        · rw [prodL_getD _ _ _ (by omega)]
        · split
          · rw [prodL_getD _ _ _ hk]
          · rw [prodL_getD _ _ _ hi]
      have hpr := prod_ring hx hy
      rw [hp, even_swap hpr (by rw [prodL_length]; omega) (by rw [prodL_length]; exact hk) hne, even_swap hx (by omega) hk hne] at hq
      cases h1 : evenL (prodL xs ys) <;> cases h2 : evenL xs <;> cases h3 : evenL ys <;> rw [h1, h2, h3] at hq <;> first | rfl | exact absurd hq (by decide)

/-- A product is even if both are, or none. -/
theorem even_prod {xs ys : List Int} (hx : ringIn xs = true) (hy : permOk xs.length ys = true) : evenL (prodL xs ys) = (evenL xs == evenL ys) :=
  even_prod_from xs.length xs ys 0 (by omega) (fun i hi => absurd hi (Nat.not_lt_zero _)) hx hy

theorem ring_together {xs : List Int} (h : ringIn xs = true) {i : Nat} (hi : i < xs.length) : partTogether (ringsOf xs) (i : Int) (xs.getD i 0) = true := by
  obtain ⟨h1, h8, hr, hL⟩ := ringIn_facts h
  have hn := hL.lt i hi
  rw [nx_int h hi]
  unfold partTogether
  rw [ringsOf_length]
  simp only [Bool.and_eq_true, decide_eq_true_eq, Int.toNat_natCast]
  exact ⟨⟨⟨rings_part h, by omega⟩, by omega⟩, (ring_pat h hi hn).2 (orb_step _ _)⟩

end Go.Proofs.YtdeeeiimlcggpaaDoor
