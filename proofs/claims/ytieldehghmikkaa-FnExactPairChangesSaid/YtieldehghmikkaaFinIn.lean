/-
  The contracts of areAlike, l2Two, isFiner, l2Finer, FinerIn (impl and spec).
-/
import Derived.Test.YtieldehghmikkaaCells
import Derived.Test.YtieldehghmikkaaKernel
namespace Go.Proofs.Ytieldehghmikkaa
set_option linter.unusedSimpArgs false
set_option linter.unusedVariables false
set_option linter.unnecessarySimpa false
open Go.RowKit
set_option maxRecDepth 100000

theorem slicesIndex_v (v : Value) (xs : List Int) (x : Int) (w : World) (hv : RdV w v xs) (hm : x ∈ xs) :
    Calls Try.prog 65 #[v, .int .i64 x] w fun e w' => e = .returned (.int .i64 (xs.idxOf x)) ∧ w = w' := by
  obtain ⟨ao, ca, rfl, h, h1, h2⟩ := hv
  unfold maxLen at h2
  exact slicesIndex_any ao ca xs x w h (by omega) hm

/-- Each number of ys is that at the first place that has the same number in xs. -/
def finerTo (xs ys : List Int) (n : Nat) : Bool := decide (∀ i, i < n → ys.getD i 0 = ys.getD (xs.idxOf (xs.getD i 0)) 0)
def finerB (xs ys : List Int) : Bool := finerTo xs ys xs.length
def alike (xs ys : List Int) : Bool := partIn xs && partIn ys && decide (xs.length = ys.length)
def finerIn (xs ys : List Int) : Bool := alike xs ys && finerB xs ys

theorem finerTo_zero (xs ys : List Int) : finerTo xs ys 0 = true := by simp [finerTo]
theorem finerTo_step {xs ys : List Int} {k : Nat} (h : finerTo xs ys k = true) (e : ys.getD k 0 = ys.getD (xs.idxOf (xs.getD k 0)) 0) : finerTo xs ys (k + 1) = true := by
  simp only [finerTo, decide_eq_true_eq] at h ⊢
  intro i hi
  by_cases hik : i = k
  · rw [hik]; exact e
  · exact h i (by omega)
theorem finerB_no {xs ys : List Int} {k : Nat} (hk : k < xs.length) (e : ys.getD k 0 ≠ ys.getD (xs.idxOf (xs.getD k 0)) 0) : finerB xs ys = false := by
  simp only [finerB, finerTo, decide_eq_false_iff_not]
  exact fun h => e (h k hk)

theorem finer_iff {xs ys : List Int} : finerB xs ys = true ↔ ∀ i k, i < xs.length → k < xs.length → xs.getD i 0 = xs.getD k 0 → ys.getD i 0 = ys.getD k 0 := by
  simp only [finerB, finerTo, decide_eq_true_eq]
  constructor
  · intro h i k hi hk e
    rw [h i hi, h k hk, e]
  · intro h i hi
    have hm : xs.getD i 0 ∈ xs := mem_of_getD hi rfl
    exact h _ _ hi (List.idxOf_lt_length_of_mem hm) (getD_idxOf hm).symm

theorem alike_iff {xs ys : List Int} : alike xs ys = true ↔ partIn xs = true ∧ partIn ys = true ∧ xs.length = ys.length := by
  simp [alike, and_assoc]

set_option maxHeartbeats 800000 in
theorem areAlike_v (v u : Value) (xs ys : List Int) (w : World) (hv : RdV w v xs) (hu : RdV w u ys) :
    Calls Try.prog 62 #[v, u] w fun e w' => e = .returned (.bool (alike xs ys)) ∧ w = w' := by
  have HV := Lib.hid hv
  have HU := Lib.hid hu
  have hlv : ∃ ao ca, v = .slice ao xs.length ca := by obtain ⟨ao, ca, h, _⟩ := hv; exact ⟨ao, ca, h⟩
  have hlu : ∃ ao ca, u = .slice ao ys.length ca := by obtain ⟨ao, ca, h, _⟩ := hu; exact ⟨ao, ca, h⟩
  have hbv : xs.length ≤ 9223372036854775807 := by obtain ⟨_, _, _, _, h1, h2⟩ := hv; unfold maxLen at h2; omega
  have hbu : ys.length ≤ 9223372036854775807 := by obtain ⟨_, _, _, _, h1, h2⟩ := hu; unfold maxLen at h2; omega
  clear hv hu
  obtain ⟨ao, ca, rfl⟩ := hlv
  obtain ⟨bo, cb, rfl⟩ := hlu
  have hr : alike xs ys = (partIn xs && partIn ys && decide (xs.length = ys.length)) := rfl
  have HR := Lib.hid hr
  clear hr
  obtain ⟨n, hn⟩ : ∃ n, n = xs.length := ⟨_, rfl⟩
  obtain ⟨m, hm⟩ : ∃ m, m = ys.length := ⟨_, rfl⟩
  have HN := Lib.hid hn
  have HM := Lib.hid hm
  rw [← hn] at HV hbv ⊢
  rw [← hm] at HU hbu ⊢
  clear hn hm
  obtain ⟨p, hp⟩ : ∃ p, p = partIn xs := ⟨_, rfl⟩
  obtain ⟨q, hq⟩ : ∃ q, q = partIn ys := ⟨_, rfl⟩
  have HP := Lib.hid hp
  have HQ := Lib.hid hq
  clear hp hq
  cases p
  · go_enter Try.func62, Try.ntmps62
    go_wp2_with fail
    refine (iPartIn_w _ _ _ HV.out).mono ?_
    rintro e w' ⟨rfl, rfl⟩
    rw [← HP.out]
    go_wp2
    go_ret
    exact ⟨ret_bool (by rw [HR.out, ← HP.out]; simp), rfl⟩
  · cases q
    · go_enter Try.func62, Try.ntmps62
      go_wp2_with fail
      refine (iPartIn_w _ _ _ HV.out).mono ?_
      rintro e w' ⟨rfl, rfl⟩
      rw [← HP.out]
      go_wp2_with fail
      refine (iPartIn_w _ _ _ HU.out).mono ?_
      rintro e w' ⟨rfl, rfl⟩
      rw [← HQ.out]
      go_wp2
      go_ret
      exact ⟨ret_bool (by rw [HR.out, ← HQ.out]; simp), rfl⟩
    · by_cases hnm : n = m
      · subst hnm
        go_enter Try.func62, Try.ntmps62
        go_wp2_with fail
        refine (iPartIn_w _ _ _ HV.out).mono ?_
        rintro e w' ⟨rfl, rfl⟩
        rw [← HP.out]
        go_wp2_with fail
        refine (iPartIn_w _ _ _ HU.out).mono ?_
        rintro e w' ⟨rfl, rfl⟩
        rw [← HQ.out]
        go_wp2
        go_ret
        exact ⟨ret_bool (by rw [HR.out, ← HP.out, ← HQ.out, ← HN.out, ← HM.out]; simp), rfl⟩
      · have hb : ((n : Int) == m) = false := by simp; omega
        go_enter Try.func62, Try.ntmps62
        go_wp2_with fail
        refine (iPartIn_w _ _ _ HV.out).mono ?_
        rintro e w' ⟨rfl, rfl⟩
        rw [← HP.out]
        go_wp2_with fail
        refine (iPartIn_w _ _ _ HU.out).mono ?_
        rintro e w' ⟨rfl, rfl⟩
        rw [← HQ.out]
        go_wp2
        go_ret
        exact ⟨ret_bool (by rw [HR.out, ← HP.out, ← HQ.out, ← HN.out, ← HM.out]; simp [hnm]), rfl⟩

set_option maxHeartbeats 800000 in
theorem l2Two_v (v u : Value) (xs ys : List Int) (w : World) (hv : RdV w v xs) (hu : RdV w u ys) :
    Calls Try.prog 60 #[v, u] w fun e w' => e = .returned (.bool (alike xs ys)) ∧ w = w' := by
  have HV := Lib.hid hv
  have HU := Lib.hid hu
  have hlv : ∃ ao ca, v = .slice ao xs.length ca := by obtain ⟨ao, ca, h, _⟩ := hv; exact ⟨ao, ca, h⟩
  have hlu : ∃ ao ca, u = .slice ao ys.length ca := by obtain ⟨ao, ca, h, _⟩ := hu; exact ⟨ao, ca, h⟩
  have hbv : xs.length ≤ 9223372036854775807 := by obtain ⟨_, _, _, _, h1, h2⟩ := hv; unfold maxLen at h2; omega
  have hbu : ys.length ≤ 9223372036854775807 := by obtain ⟨_, _, _, _, h1, h2⟩ := hu; unfold maxLen at h2; omega
  clear hv hu
  obtain ⟨ao, ca, rfl⟩ := hlv
  obtain ⟨bo, cb, rfl⟩ := hlu
  have hr : alike xs ys = (partIn xs && partIn ys && decide (xs.length = ys.length)) := rfl
  have HR := Lib.hid hr
  clear hr
  obtain ⟨n, hn⟩ : ∃ n, n = xs.length := ⟨_, rfl⟩
  obtain ⟨m, hm⟩ : ∃ m, m = ys.length := ⟨_, rfl⟩
  have HN := Lib.hid hn
  have HM := Lib.hid hm
  rw [← hn] at HV hbv ⊢
  rw [← hm] at HU hbu ⊢
  clear hn hm
  obtain ⟨p, hp⟩ : ∃ p, p = partIn xs := ⟨_, rfl⟩
  obtain ⟨q, hq⟩ : ∃ q, q = partIn ys := ⟨_, rfl⟩
  have HP := Lib.hid hp
  have HQ := Lib.hid hq
  clear hp hq
  cases p
  · go_enter Try.func60, Try.ntmps60
    go_wp2_with fail
    refine (sPartIn_w _ _ _ HV.out).mono ?_
    rintro e w' ⟨rfl, rfl⟩
    rw [← HP.out]
    go_wp2
    go_ret
    exact ⟨ret_bool (by rw [HR.out, ← HP.out]; simp), rfl⟩
  · cases q
    · go_enter Try.func60, Try.ntmps60
      go_wp2_with fail
      refine (sPartIn_w _ _ _ HV.out).mono ?_
      rintro e w' ⟨rfl, rfl⟩
      rw [← HP.out]
      go_wp2_with fail
      refine (sPartIn_w _ _ _ HU.out).mono ?_
      rintro e w' ⟨rfl, rfl⟩
      rw [← HQ.out]
      go_wp2
      go_ret
      exact ⟨ret_bool (by rw [HR.out, ← HQ.out]; simp), rfl⟩
    · by_cases hnm : n = m
      · subst hnm
        go_enter Try.func60, Try.ntmps60
        go_wp2_with fail
        refine (sPartIn_w _ _ _ HV.out).mono ?_
        rintro e w' ⟨rfl, rfl⟩
        rw [← HP.out]
        go_wp2_with fail
        refine (sPartIn_w _ _ _ HU.out).mono ?_
        rintro e w' ⟨rfl, rfl⟩
        rw [← HQ.out]
        go_wp2
        go_ret
        exact ⟨ret_bool (by rw [HR.out, ← HP.out, ← HQ.out, ← HN.out, ← HM.out]; simp), rfl⟩
      · have hb : ((n : Int) == m) = false := by simp; omega
        go_enter Try.func60, Try.ntmps60
        go_wp2_with fail
        refine (sPartIn_w _ _ _ HV.out).mono ?_
        rintro e w' ⟨rfl, rfl⟩
        rw [← HP.out]
        go_wp2_with fail
        refine (sPartIn_w _ _ _ HU.out).mono ?_
        rintro e w' ⟨rfl, rfl⟩
        rw [← HQ.out]
        go_wp2
        go_ret
        exact ⟨ret_bool (by rw [HR.out, ← HP.out, ← HQ.out, ← HN.out, ← HM.out]; simp [hnm]), rfl⟩

def pairsOk (xs ys : List Int) (i : Nat) : Prop := ∀ p, p < i → ∀ q, q < p → xs.getD p 0 = xs.getD q 0 → ys.getD p 0 = ys.getD q 0
def rowOk (xs ys : List Int) (p j : Nat) : Prop := ∀ q, q < j → xs.getD p 0 = xs.getD q 0 → ys.getD p 0 = ys.getD q 0

theorem pairsOk_zero (xs ys : List Int) : pairsOk xs ys 0 := fun p hp => by omega
theorem rowOk_zero (xs ys : List Int) (p : Nat) : rowOk xs ys p 0 := fun p hp => by omega
theorem pairsOk_step {xs ys : List Int} {i : Nat} (h : pairsOk xs ys i) (k : rowOk xs ys i i) : pairsOk xs ys (i + 1) := fun p hp q hq e => by
  by_cases hpi : p = i
  · subst hpi; exact k q hq e
  · exact h p (by omega) q hq e
theorem rowOk_step {xs ys : List Int} {p j : Nat} (h : rowOk xs ys p j) (k : xs.getD p 0 = xs.getD j 0 → ys.getD p 0 = ys.getD j 0) : rowOk xs ys p (j + 1) := fun q hq e => by
  by_cases hqj : q = j
  · subst hqj; exact k e
  · exact h q (by omega) e
theorem pairsOk_end {xs ys : List Int} (h : pairsOk xs ys xs.length) : finerB xs ys = true := finer_iff.2 fun i k hi hk e => by
  rcases Nat.lt_trichotomy i k with h1 | h1 | h1
  · exact (h k hk i h1 e.symm).symm
  · rw [h1]
  · exact h i hi k h1 e
theorem finer_not {xs ys : List Int} {i k : Nat} (hi : i < xs.length) (hk : k < xs.length) (e : xs.getD i 0 = xs.getD k 0) (ne : ys.getD i 0 ≠ ys.getD k 0) : finerB xs ys = false := by
  cases h : finerB xs ys
  · rfl
  · exact absurd (finer_iff.1 h i k hi hk e) ne

theorem alike_lens {xs ys : List Int} (h : alike xs ys = true) : 1 ≤ xs.length ∧ xs.length ≤ 8 ∧ ys.length = xs.length := by
  obtain ⟨h1, _, h3⟩ := alike_iff.1 h
  have := partIn_len h1
  omega

theorem areAlike_is (b : Bool) (v u : Value) (xs ys : List Int) (w : World) (hv : RdV w v xs) (hu : RdV w u ys) (h : Hid (alike xs ys = b)) :
    Calls Try.prog 62 #[v, u] w fun e w' => e = .returned (.bool b) ∧ w = w' := by
  rw [← h.out]; exact areAlike_v v u xs ys w hv hu

theorem l2Two_is (b : Bool) (v u : Value) (xs ys : List Int) (w : World) (hv : RdV w v xs) (hu : RdV w u ys) (h : Hid (alike xs ys = b)) :
    Calls Try.prog 60 #[v, u] w fun e w' => e = .returned (.bool b) ∧ w = w' := by
  rw [← h.out]; exact l2Two_v v u xs ys w hv hu

end Go.Proofs.Ytieldehghmikkaa
