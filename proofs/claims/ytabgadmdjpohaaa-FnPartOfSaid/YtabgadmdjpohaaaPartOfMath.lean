/-
  Plain lists: the partition of which the blocks are told has as many blocks, and the things of each are together. No program is named here.
-/
import Derived.Test.YtabgadmdjpohaaaPartOf
import Derived.Test.YtabgadmdjpohaaaDropMath
import Derived.Test.YtabgadmdjpohaaaNamedMath
namespace Go.Proofs.Ytabgadmdjpohaaa
set_option linter.unusedSimpArgs false
set_option linter.unusedVariables false
set_option linter.unnecessarySimpa false

theorem fillRow_facts (n : Nat) (b : Int) : ∀ (r f : List Int) (s : Nat) (f' : List Int) (s' : Nat), f.length = n → fillRow n b f s r = some (f', s') →
    f'.length = n ∧ (∀ y, s.testBit y = true → s'.testBit y = true ∧ f'.getD y 0 = f.getD y 0) ∧ (∀ y, s.testBit y = false → s'.testBit y = true → f'.getD y 0 = b) ∧
    (∀ j, j < r.length → (0 ≤ r.getD j 0 ∧ r.getD j 0 < n) ∧ s'.testBit (r.getD j 0).toNat = true ∧ f'.getD (r.getD j 0).toNat 0 = b) := by
  intro r
  induction r with
  | nil =>
    intro f s f' s' hf h
    simp [fillRow] at h
    obtain ⟨rfl, rfl⟩ := h
    exact ⟨hf, fun y hy => ⟨hy, rfl⟩, fun y h1 h2 => absurd (h1.symm.trans h2) (by simp), fun j hj => by simp at hj⟩
  | cons x r ih =>
    intro f s f' s' hf h
    unfold fillRow at h
    split at h
    · rename_i hx
      obtain ⟨⟨hx0, hxn⟩, hxs⟩ := hx
      obtain ⟨i1, i2, i3, i4⟩ := ih _ _ _ _ (by rw [List.length_set]; exact hf) h
      have sb : ∀ y, (s ||| 2 ^ x.toNat).testBit y = (s.testBit y || decide (x.toNat = y)) := fun y => by rw [Nat.testBit_or, Nat.testBit_two_pow]
      have hself : s'.testBit x.toNat = true ∧ f'.getD x.toNat 0 = b := by
        have := i2 x.toNat (by rw [sb]; simp)
        exact ⟨this.1, by rw [this.2]; exact set_at _ _ _ (by omega)⟩
      refine ⟨i1, fun y hy => ?_, fun y h1 h2 => ?_, fun j hj => ?_⟩
      · have hne : x.toNat ≠ y := fun e => by rw [e, hy] at hxs; cases hxs
        have := i2 y (by rw [sb, hy]; rfl)
        exact ⟨this.1, by rw [this.2, set_far _ _ _ _ hne]⟩
      · by_cases e : x.toNat = y
        · rw [← e]; exact hself.2
        · exact i3 y (by rw [sb, h1]; simp [e]) h2
      · cases j with
        | zero => simpa using ⟨⟨hx0, hxn⟩, hself⟩
        | succ j => simpa using i4 j (by simpa using hj)
    · cases h

theorem fillAll_facts (n : Nat) : ∀ (rows : List (List Int)) (b : Int) (f : List Int) (s : Nat) (f' : List Int) (s' : Nat), f.length = n → 0 ≤ b →
    (∀ y, s.testBit y = true → 0 ≤ f.getD y 0 ∧ f.getD y 0 < b) → (∀ c, 0 ≤ c → c < b → ∃ y, s.testBit y = true ∧ f.getD y 0 = c) → fillAll n b f s rows = some (f', s') →
    f'.length = n ∧ (∀ y, s.testBit y = true → s'.testBit y = true ∧ f'.getD y 0 = f.getD y 0) ∧ (∀ y, s'.testBit y = true → 0 ≤ f'.getD y 0 ∧ f'.getD y 0 < b + rows.length) ∧
    (∀ c, 0 ≤ c → c < b + rows.length → ∃ y, s'.testBit y = true ∧ f'.getD y 0 = c) ∧
    (∀ row, rows.head? = some row → 1 ≤ row.length ∧ ∀ j, j < row.length → (0 ≤ row.getD j 0 ∧ row.getD j 0 < n) ∧ f'.getD (row.getD j 0).toNat 0 = b) := by
  intro rows
  induction rows with
  | nil =>
    intro b f s f' s' hf hb h1 h2 h
    simp [fillAll] at h
    obtain ⟨rfl, rfl⟩ := h
    exact ⟨hf, fun y hy => ⟨hy, rfl⟩, by simpa using h1, by simpa using h2, fun row hr => by simp at hr⟩
  | cons row rows ih =>
    intro b f s f' s' hf hb h1 h2 h
    unfold fillAll at h
    split at h
    · cases h
    rename_i hne
    split at h
    · cases h
    rename_i f1 s1 hr
    obtain ⟨r1, r2, r3, r4⟩ := fillRow_facts n b _ _ _ _ _ hf hr
    have hrl : 1 ≤ row.length := by
      cases row with
      | nil => exact absurd rfl hne
      | cons a l => simp
    have g1 : ∀ y, s1.testBit y = true → 0 ≤ f1.getD y 0 ∧ f1.getD y 0 < b + 1 := by
      intro y hy
      cases hs : s.testBit y
      · rw [r3 y hs hy]; omega
      · rw [(r2 y hs).2]; have := h1 y hs; omega
    have g2 : ∀ c, 0 ≤ c → c < b + 1 → ∃ y, s1.testBit y = true ∧ f1.getD y 0 = c := by
      intro c hc0 hc
      by_cases e : c = b
      · have := r4 0 (by omega)
        exact ⟨_, this.2.1, by rw [this.2.2, e]⟩
      · obtain ⟨y, hy, e⟩ := h2 c hc0 (by omega)
        exact ⟨y, (r2 y hy).1, by rw [(r2 y hy).2, e]⟩
    obtain ⟨i1, i2, i3, i4, _⟩ := ih _ _ _ _ _ r1 (by omega) g1 g2 h
    refine ⟨i1, fun y hy => ?_, fun y hy => ?_, fun c hc0 hc => ?_, fun row' hr' => ?_⟩
    · have a := r2 y hy
      have c := i2 y a.1
      exact ⟨c.1, by rw [c.2, a.2]⟩
    · have := i3 y hy
      rw [List.length_cons]
      push_cast
      omega
    · rw [List.length_cons] at hc
      push_cast at hc
      exact i4 c hc0 (by omega)
    · simp at hr'
      subst hr'
      refine ⟨hrl, fun j hj => ?_⟩
      have a := r4 j hj
      exact ⟨a.1, by rw [(i2 _ a.2.1).2, a.2.2]⟩

theorem kNext_front (q : List Int) : ∀ f : List Int, (∀ x ∈ f, x ∈ q) → kNext (f ++ q) = kNext q := by
  intro f
  induction f with
  | nil => intro _; rfl
  | cons x f ih =>
    intro h
    have e := kNext_put [] x (f ++ q)
    have m : x ∈ [] ++ (f ++ q) := by simp [h x (by simp)]
    rw [if_pos m] at e
    have i := ih fun y hy => h y (by simp [hy])
    simp only [List.nil_append] at e
    rw [List.cons_append, e, i]
    omega

theorem kNext_back (f : List Int) : ∀ q : List Int, (∀ x ∈ q, x ∈ f) → kNext (f ++ q) = kNext f := by
  refine snoc_induction (fun _ => by rw [List.append_nil]) fun q x ih h => ?_
  have m : x ∈ f ++ q := by simp [h x (by simp)]
  rw [← List.append_assoc, kNext_snoc, if_pos m, ih fun y hy => h y (by simp [hy])]
  omega

def firsts (B : Nat) : List Int := (List.range B).map Int.ofNat
theorem mem_firsts (B : Nat) (x : Int) : x ∈ firsts B ↔ 0 ≤ x ∧ x < B := by
  unfold firsts
  rw [List.mem_map]
  constructor
  · rintro ⟨a, ha, rfl⟩
    rw [List.mem_range] at ha
    show (0 : Int) ≤ (a : Int) ∧ (a : Int) < B
    omega
  · rintro ⟨h0, h1⟩
    exact ⟨x.toNat, by rw [List.mem_range]; omega, by show ((x.toNat : Nat) : Int) = x; omega⟩
theorem kNext_firsts : ∀ B, kNext (firsts B) = B := by
  intro B
  induction B with
  | zero => rfl
  | succ B ih =>
    have e : firsts (B + 1) = firsts B ++ [(B : Int)] := by unfold firsts; rw [List.range_succ, List.map_append]; rfl
    have m : (B : Int) ∉ firsts B := fun h => by have := (mem_firsts B _).1 h; omega
    rw [e, kNext_snoc, if_neg m, ih]
    push_cast
    rfl

theorem kNext_all {f : List Int} {B : Nat} (h1 : ∀ x ∈ f, 0 ≤ x ∧ x < B) (h2 : ∀ c : Int, 0 ≤ c → c < B → c ∈ f) : kNext f = B := by
  have a := kNext_front (firsts B) f fun x hx => (mem_firsts B x).2 (h1 x hx)
  have b := kNext_back f (firsts B) fun x hx => by have := (mem_firsts B x).1 hx; exact h2 x this.1 this.2
  rw [← b, a, kNext_firsts]

/-- What is made of blocks. -/
theorem partOf_facts {n : Int} {xss : List (List Int)} {out : List Int} (h : partOf n xss = (out, true)) :
    partIn out = true ∧ pSize out = xss.length ∧ 1 ≤ xss.length ∧ 1 ≤ (xss.getD 0 []).length ∧ xss.length ≤ 8 ∧
    ∀ i k, i < (xss.getD 0 []).length → k < (xss.getD 0 []).length → (0 ≤ (xss.getD 0 []).getD i 0 ∧ (xss.getD 0 []).getD i 0 < 8) ∧ partTogether out ((xss.getD 0 []).getD i 0) ((xss.getD 0 []).getD k 0) = true := by
  unfold partOf at h
  split at h
  · rename_i hn
    obtain ⟨m, rfl⟩ := Int.eq_ofNat_of_zero_le (show 0 ≤ n by omega)
    rw [Int.toNat_natCast] at h
    cases hf : fillAll m 0 (List.replicate m 0) 0 xss with
    | none => rw [hf] at h; simp [closeOf] at h
    | some r =>
      obtain ⟨f, s⟩ := r
      rw [hf] at h
      unfold closeOf at h
      dsimp only at h
      split at h
      · rename_i hs
        simp only [Prod.mk.injEq, and_true] at h
        subst h
        obtain ⟨i1, _, i3, i4, i5⟩ := fillAll_facts m xss 0 _ 0 f s (by simp) (Int.le_refl _) (fun y hy => by simp at hy) (fun c h0 h1 => by omega) hf
        have bit : ∀ y, s.testBit y = decide (y < m) := fun y => by rw [hs, Nat.testBit_two_pow_sub_one]
        have hp : partIn (kOut f) = true := partIn_kOut (by omega) (by omega)
        have hk : kNext f = (xss.length : Int) := by
          refine kNext_all (fun x hx => ?_) fun c h0 h1 => ?_
          · obtain ⟨y, hy, e⟩ := List.getElem_of_mem hx
            have := i3 y (by rw [bit]; simp; omega)
            have e2 : f.getD y 0 = x := by simp [List.getD, List.getElem?_eq_getElem hy, e]
            rw [e2] at this
            omega
          · obtain ⟨y, hy, e⟩ := i4 c h0 (by omega)
            rw [bit] at hy
            have hy : y < m := by simpa using hy
            exact mem_of_getD (by omega) e
        have hps : pSize (kOut f) = (xss.length : Int) := by rw [pSize_kOut, hk]
        have hpos := pSize_pos (partIn_small hp) (partIn_len hp).1
        have hbd := pSize_bd (partIn_small hp)
        have hx1 : 1 ≤ xss.length := by omega
        have hhead : xss.head? = some (xss.getD 0 []) := by
          cases xss with
          | nil => simp at hx1
          | cons a l => simp
        obtain ⟨j1, j2⟩ := i5 _ hhead
        refine ⟨hp, hps, hx1, j1, by omega, fun i k hi hk' => ?_⟩
        have a := j2 i hi
        have c := j2 k hk'
        refine ⟨by omega, ?_⟩
        unfold partTogether
        rw [hp, kOut_length, i1, decide_eq_true a.1, decide_eq_true c.1]
        simp only [Bool.true_and, decide_eq_true_eq]
        exact ((kOut_inv f).2 _ _ (by omega) (by omega)).1 (by rw [a.2, c.2])
      · simp at h
  · simp at h

end Go.Proofs.Ytabgadmdjpohaaa
