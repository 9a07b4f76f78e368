/-
  The contracts of areAlike, l2Two, isFiner, l2Finer, FinerIn (impl and spec).
-/
import Derived.Test.YtbmpchpcihnbdaaCells
import Derived.Test.YtbmpchpcihnbdaaKernel
namespace Go.Proofs.Ytbmpchpcihnbdaa
set_option linter.unusedSimpArgs false
set_option linter.unusedVariables false
set_option linter.unnecessarySimpa false
open Go.RowKit
set_option maxRecDepth 100000

theorem slicesIndex_v (v : Value) (xs : List Int) (x : Int) (w : World) (hv : RdV w v xs) (hm : x ∈ xs) :
    Calls Try.prog 89 #[v, .int .i64 x] w fun e w' => e = .returned (.int .i64 (xs.idxOf x)) ∧ w = w' := by
  obtain ⟨ao, ca, rfl, h, h1, h2⟩ := hv
  unfold maxLen at h2
  exact slicesIndex_any ao ca xs x w h (by omega) hm

/-- Each number of ys is that at the first place that has the same number in xs. -/
def finerTo (xs ys : List Int) (n : Nat) : Bool := decide (∀ i, i < n → ys.getD i 0 = ys.getD (xs.idxOf (xs.getD i 0)) 0)
def finerB (xs ys : List Int) : Bool := finerTo xs ys xs.length
def alike (xs ys : List Int) : Bool := partIn xs && partIn ys && decide (xs.length = ys.length)
def finerIn (xs ys : List Int) : Bool := alike xs ys && finerB xs ys

theorem finerTo_zero (xs ys : List Int) : finerTo xs ys 0 = true := by simp [finerTo]
theorem finerTo_step {xs ys : List Int} {k : Nat} (h : finerTo xs ys k = true) (e : ys.getD k 0 = ys.getD (xs.idxOf (xs.getD k 0)) 0) : finerTo xs ys (k + 1) = true := by
  simp only [finerTo, decide_eq_true_eq] at h ⊢
  intro i hi
  by_cases hik : i = k
  · rw [hik]; exact e
  · exact h i (by omega)
theorem finerB_no {xs ys : List Int} {k : Nat} (hk : k < xs.length) (e : ys.getD k 0 ≠ ys.getD (xs.idxOf (xs.getD k 0)) 0) : finerB xs ys = false := by
  simp only [finerB, finerTo, decide_eq_false_iff_not]
  exact fun h => e (h k hk)

theorem finer_iff {xs ys : List Int} : finerB xs ys = true ↔ ∀ i k, i < xs.length → k < xs.length → xs.getD i 0 = xs.getD k 0 → ys.getD i 0 = ys.getD k 0 := by
  simp only [finerB, finerTo, decide_eq_true_eq]
  constructor
  · intro h i k hi hk e
    rw [h i hi, h k hk, e]
  · intro h i hi
    have hm : xs.getD i 0 ∈ xs := mem_of_getD hi rfl
    exact h _ _ hi (List.idxOf_lt_length_of_mem hm) (getD_idxOf hm).symm

theorem alike_iff {xs ys : List Int} : alike xs ys = true ↔ partIn xs = true ∧ partIn ys = true ∧ xs.length = ys.length := by
  simp [alike, and_assoc]

set_option maxHeartbeats 800000 in
theorem areAlike_v (v u : Value) (xs ys : List Int) (w : World) (hv : RdV w v xs) (hu : RdV w u ys) :
    Calls Try.prog 82 #[v, u] w fun e w' => e = .returned (.bool (alike xs ys)) ∧ w = w' := by
  have HV := Lib.hid hv
  have HU := Lib.hid hu
  have hlv : ∃ ao ca, v = .slice ao xs.length ca := by obtain ⟨ao, ca, h, _⟩ := hv; exact ⟨ao, ca, h⟩
  have hlu : ∃ ao ca, u = .slice ao ys.length ca := by obtain ⟨ao, ca, h, _⟩ := hu; exact ⟨ao, ca, h⟩
  have hbv : xs.length ≤ 9223372036854775807 := by obtain ⟨_, _, _, _, h1, h2⟩ := hv; unfold maxLen at h2; omega
  have hbu : ys.length ≤ 9223372036854775807 := by obtain ⟨_, _, _, _, h1, h2⟩ := hu; unfold maxLen at h2; omega
  clear hv hu
  obtain ⟨ao, ca, rfl⟩ := hlv
  obtain ⟨bo, cb, rfl⟩ := hlu
  have hr : alike xs ys = (partIn xs && partIn ys && decide (xs.length = ys.length)) := rfl
  have HR := Lib.hid hr
  clear hr
  obtain ⟨n, hn⟩ : ∃ n, n = xs.length := ⟨_, rfl⟩
  obtain ⟨m, hm⟩ : ∃ m, m = ys.length := ⟨_, rfl⟩
  have HN := Lib.hid hn
  have HM := Lib.hid hm
  rw [← hn] at HV hbv ⊢
  rw [← hm] at HU hbu ⊢
  clear hn hm
  obtain ⟨p, hp⟩ : ∃ p, p = partIn xs := ⟨_, rfl⟩
  obtain ⟨q, hq⟩ : ∃ q, q = partIn ys := ⟨_, rfl⟩
  have HP := Lib.hid hp
  have HQ := Lib.hid hq
  clear hp hq
  cases p
  · go_enter Try.func82, Try.ntmps82
    go_wp2_with fail
    refine (iPartIn_w _ _ _ HV.out).mono ?_
    rintro e w' ⟨rfl, rfl⟩
    rw [← HP.out]
    go_wp2
    go_ret
    exact ⟨ret_bool (by rw [HR.out, ← HP.out]; simp), rfl⟩
  · cases q
    · go_enter Try.func82, Try.ntmps82
      go_wp2_with fail
      refine (iPartIn_w _ _ _ HV.out).mono ?_
      rintro e w' ⟨rfl, rfl⟩
      rw [← HP.out]
      go_wp2_with fail
      refine (iPartIn_w _ _ _ HU.out).mono ?_
      rintro e w' ⟨rfl, rfl⟩
      rw [← HQ.out]
      go_wp2
      go_ret
      exact ⟨ret_bool (by rw [HR.out, ← HQ.out]; simp), rfl⟩
    · by_cases hnm : n = m
      · subst hnm
        go_enter Try.func82, Try.ntmps82
        go_wp2_with fail
        refine (iPartIn_w _ _ _ HV.out).mono ?_
        rintro e w' ⟨rfl, rfl⟩
        rw [← HP.out]
        go_wp2_with fail
        refine (iPartIn_w _ _ _ HU.out).mono ?_
        rintro e w' ⟨rfl, rfl⟩
        rw [← HQ.out]
        go_wp2
        go_ret
        exact ⟨ret_bool (by rw [HR.out, ← HP.out, ← HQ.out, ← HN.out, ← HM.out]; simp), rfl⟩
      · have hb : ((n : Int) == m) = false := by simp; omega
        go_enter Try.func82, Try.ntmps82
        go_wp2_with fail
        refine (iPartIn_w _ _ _ HV.out).mono ?_
        rintro e w' ⟨rfl, rfl⟩
        rw [← HP.out]
        go_wp2_with fail
        refine (iPartIn_w _ _ _ HU.out).mono ?_
        rintro e w' ⟨rfl, rfl⟩
        rw [← HQ.out]
        go_wp2
        go_ret
        exact ⟨ret_bool (by rw [HR.out, ← HP.out, ← HQ.out, ← HN.out, ← HM.out]; simp [hnm]), rfl⟩

set_option maxHeartbeats 800000 in
theorem l2Two_v (v u : Value) (xs ys : List Int) (w : World) (hv : RdV w v xs) (hu : RdV w u ys) :
    Calls Try.prog 84 #[v, u] w fun e w' => e = .returned (.bool (alike xs ys)) ∧ w = w' := by
  have HV := Lib.hid hv
  have HU := Lib.hid hu
  have hlv : ∃ ao ca, v = .slice ao xs.length ca := by obtain ⟨ao, ca, h, _⟩ := hv; exact ⟨ao, ca, h⟩
  have hlu : ∃ ao ca, u = .slice ao ys.length ca := by obtain ⟨ao, ca, h, _⟩ := hu; exact ⟨ao, ca, h⟩
  have hbv : xs.length ≤ 9223372036854775807 := by obtain ⟨_, _, _, _, h1, h2⟩ := hv; unfold maxLen at h2; omega
  have hbu : ys.length ≤ 9223372036854775807 := by obtain ⟨_, _, _, _, h1, h2⟩ := hu; unfold maxLen at h2; omega
  clear hv hu
  obtain ⟨ao, ca, rfl⟩ := hlv
  obtain ⟨bo, cb, rfl⟩ := hlu
  have hr : alike xs ys = (partIn xs && partIn ys && decide (xs.length = ys.length)) := rfl
  have HR := Lib.hid hr
  clear hr
  obtain ⟨n, hn⟩ : ∃ n, n = xs.length := ⟨_, rfl⟩
  obtain ⟨m, hm⟩ : ∃ m, m = ys.length := ⟨_, rfl⟩
  have HN := Lib.hid hn
  have HM := Lib.hid hm
  rw [← hn] at HV hbv ⊢
  rw [← hm] at HU hbu ⊢
  clear hn hm
  obtain ⟨p, hp⟩ : ∃ p, p = partIn xs := ⟨_, rfl⟩
  obtain ⟨q, hq⟩ : ∃ q, q = partIn ys := ⟨_, rfl⟩
  have HP := Lib.hid hp
  have HQ := Lib.hid hq
  clear hp hq
  cases p
  · go_enter Try.func84, Try.ntmps84
    go_wp2_with fail
    refine (sPartIn_w _ _ _ HV.out).mono ?_
    rintro e w' ⟨rfl, rfl⟩
    rw [← HP.out]
    go_wp2
    go_ret
    exact ⟨ret_bool (by rw [HR.out, ← HP.out]; simp), rfl⟩
  · cases q
    · go_enter Try.func84, Try.ntmps84
      go_wp2_with fail
      refine (sPartIn_w _ _ _ HV.out).mono ?_
      rintro e w' ⟨rfl, rfl⟩
      rw [← HP.out]
      go_wp2_with fail
      refine (sPartIn_w _ _ _ HU.out).mono ?_
      rintro e w' ⟨rfl, rfl⟩
      rw [← HQ.out]
      go_wp2
      go_ret
      exact ⟨ret_bool (by rw [HR.out, ← HQ.out]; simp), rfl⟩
    · by_cases hnm : n = m
      · subst hnm
        go_enter Try.func84, Try.ntmps84
        go_wp2_with fail
        refine (sPartIn_w _ _ _ HV.out).mono ?_
        rintro e w' ⟨rfl, rfl⟩
        rw [← HP.out]
        go_wp2_with fail
        refine (sPartIn_w _ _ _ HU.out).mono ?_
        rintro e w' ⟨rfl, rfl⟩
        rw [← HQ.out]
        go_wp2
        go_ret
        exact ⟨ret_bool (by rw [HR.out, ← HP.out, ← HQ.out, ← HN.out, ← HM.out]; simp), rfl⟩
      · have hb : ((n : Int) == m) = false := by simp; omega
        go_enter Try.func84, Try.ntmps84
        go_wp2_with fail
        refine (sPartIn_w _ _ _ HV.out).mono ?_
        rintro e w' ⟨rfl, rfl⟩
        rw [← HP.out]
        go_wp2_with fail
        refine (sPartIn_w _ _ _ HU.out).mono ?_
        rintro e w' ⟨rfl, rfl⟩
        rw [← HQ.out]
        go_wp2
        go_ret
        exact ⟨ret_bool (by rw [HR.out, ← HP.out, ← HQ.out, ← HN.out, ← HM.out]; simp [hnm]), rfl⟩

set_option maxHeartbeats 1600000 in
theorem isFiner_v (v u : Value) (xs ys : List Int) (w : World) (hv : RdV w v xs) (hu : RdV w u ys) (h1 : 1 ≤ xs.length) (h8 : xs.length ≤ 8) (hlen : ys.length = xs.length) :
    Calls Try.prog 83 #[v, u] w (QB w (finerB xs ys)) := by
  obtain ⟨bx, ox, cx, rfl, hcx, hbx, hcx1, hcx2⟩ := rdv_cells hv h1
  obtain ⟨by', oy, cy, rfl, hcy, hby, hcy1, hcy2⟩ := rdv_cells hu (by omega)
  have HV := Lib.hid hv
  clear hv hu
  obtain ⟨n, hn⟩ : ∃ n, n = xs.length := ⟨_, rfl⟩
  have HN := Lib.hid hn
  have HLY := Lib.hid hlen
  rw [hlen]
  rw [← hn] at HV h1 h8 HLY ⊢
  have hidx : ∀ k, k < n → xs.getD k 0 ∈ xs ∧ xs.idxOf (xs.getD k 0) < n := fun k hk => by
    have hm : xs.getD k 0 ∈ xs := mem_of_getD (by omega) rfl
    have := List.idxOf_lt_length_of_mem hm
    exact ⟨hm, by omega⟩
  have HIDX := Lib.hid hidx
  clear hn hlen hidx hcx1 hcx2 hcy1 hcy2
  go_enter Try.func83, Try.ntmps83
  go_wp2
  go_loopw [9] (fun i wr => ∃ k : Nat, k ≤ n ∧ i = .int .i64 k ∧ finerTo xs ys k = true ∧ Quiet w wr) (fun i _ => n - (intOf i).toNat)
  case atStart => exact ⟨0, Nat.zero_le _, rfl, finerTo_zero _ _, Quiet.refl _⟩
  case round =>
    obtain ⟨k, hk, rfl, hf, hq⟩ := hrel
    have hcx := hq.cells hcx
    have hcy := hq.cells hcy
    have HF := Lib.hid hf
    clear hf
    by_cases hlt : k < n
    · have hc1 := cells_at hcx k (by have := HN.out; omega)
      have hc2 := cells_at hcy k (by have := HLY.out; omega)
      obtain ⟨hmem, hp⟩ := HIDX.out k hlt
      have hc3 := cells_at hcy (xs.idxOf (xs.getD k 0)) (by have := HLY.out; omega)
      obtain ⟨x, hx⟩ : ∃ x, x = xs.getD k 0 := ⟨_, rfl⟩
      rw [← hx] at hc1 hc3 hp hmem
      obtain ⟨p, hpe⟩ : ∃ p, p = xs.idxOf x := ⟨_, rfl⟩
      rw [← hpe] at hc3 hp
      obtain ⟨y, hy⟩ : ∃ y, y = ys.getD k 0 := ⟨_, rfl⟩
      obtain ⟨z, hz⟩ : ∃ z, z = ys.getD p 0 := ⟨_, rfl⟩
      rw [← hy] at hc2
      rw [← hz] at hc3
      have HX := Lib.hid hx
      have HP := Lib.hid hpe
      have HY := Lib.hid hy
      have HZ := Lib.hid hz
      have hI : ∀ q, Calls Try.prog 89 #[.slice (some ⟨bx, ox, none⟩) n cx, .int .i64 x] (wr.drewN q) fun e w' => e = .returned (.int .i64 p) ∧ w' = wr.drewN q := fun q => by
        have := slicesIndex_any (some ⟨bx, ox, none⟩) cx xs x (wr.drewN q) (.inr ⟨bx, ox, rfl, hcx⟩) (by have := HN.out; omega) hmem
        rw [← hpe, ← HN.out] at this
        exact this.mono fun _ _ ⟨a, b⟩ => ⟨a, b.symm⟩
      have HI := Lib.hid hI
      have b1 : (k : Int) < n := by omega
      have b2 : (p : Int) < n := by omega
      have b3 : (0 : Int) ≤ (p : Int) := by omega
      clear hx hpe hy hz hI hmem
      by_cases hyz : y = z
      · subst hyz
        go_wp2
        go_quiet ((go_at_call 89; exact Calls.quiet_of_same (HI.out _)))
        go_wp2
        go_roundw
        case rel => exact ⟨k + 1, by omega, by go_num, finerTo_step HF.out (by rw [← HX.out, ← HP.out, ← HY.out, ← HZ.out]), hq.drewN _⟩
        case measure => simp [intOf]; omega
      · have hb : (y != z) = true := by simpa using hyz
        go_wp2
        go_quiet ((go_at_call 89; exact Calls.quiet_of_same (HI.out _)))
        go_wp2
        go_ret
        exact ⟨ret_bool (finerB_no (k := k) (by have := HN.out; omega) (by rw [← HX.out, ← HP.out, ← HY.out, ← HZ.out]; exact hyz)).symm, hq.drewN _⟩
    · have hkn : k = n := by omega
      subst hkn
      go_wp2
      go_ret
      exact ⟨ret_bool (by have := HF.out; rw [HN.out] at this; exact this.symm), hq⟩

def pairsOk (xs ys : List Int) (i : Nat) : Prop := ∀ p, p < i → ∀ q, q < p → xs.getD p 0 = xs.getD q 0 → ys.getD p 0 = ys.getD q 0
def rowOk (xs ys : List Int) (p j : Nat) : Prop := ∀ q, q < j → xs.getD p 0 = xs.getD q 0 → ys.getD p 0 = ys.getD q 0

theorem pairsOk_zero (xs ys : List Int) : pairsOk xs ys 0 := fun p hp => by omega
theorem rowOk_zero (xs ys : List Int) (p : Nat) : rowOk xs ys p 0 := fun p hp => by omega
theorem pairsOk_step {xs ys : List Int} {i : Nat} (h : pairsOk xs ys i) (k : rowOk xs ys i i) : pairsOk xs ys (i + 1) := fun p hp q hq e => by
  by_cases hpi : p = i
  · subst hpi; exact k q hq e
  · exact h p (by omega) q hq e
theorem rowOk_step {xs ys : List Int} {p j : Nat} (h : rowOk xs ys p j) (k : xs.getD p 0 = xs.getD j 0 → ys.getD p 0 = ys.getD j 0) : rowOk xs ys p (j + 1) := fun q hq e => by
  by_cases hqj : q = j
  · subst hqj; exact k e
  · exact h q (by omega) e
theorem pairsOk_end {xs ys : List Int} (h : pairsOk xs ys xs.length) : finerB xs ys = true := finer_iff.2 fun i k hi hk e => by
  rcases Nat.lt_trichotomy i k with h1 | h1 | h1
  · exact (h k hk i h1 e.symm).symm
  · rw [h1]
  · exact h i hi k h1 e
theorem finer_not {xs ys : List Int} {i k : Nat} (hi : i < xs.length) (hk : k < xs.length) (e : xs.getD i 0 = xs.getD k 0) (ne : ys.getD i 0 ≠ ys.getD k 0) : finerB xs ys = false := by
  cases h : finerB xs ys
  · rfl
  · exact absurd (finer_iff.1 h i k hi hk e) ne

set_option maxHeartbeats 1600000 in
theorem l2Finer_v (v u : Value) (xs ys : List Int) (w : World) (hv : RdV w v xs) (hu : RdV w u ys) (h1 : 1 ≤ xs.length) (h8 : xs.length ≤ 8) (hlen : ys.length = xs.length) :
    Calls Try.prog 85 #[v, u] w (QB w (finerB xs ys)) := by
  obtain ⟨bx, ox, cx, rfl, hcx, hbx, hcx1, hcx2⟩ := rdv_cells hv h1
  obtain ⟨by', oy, cy, rfl, hcy, hby, hcy1, hcy2⟩ := rdv_cells hu (by omega)
  clear hv hu
  obtain ⟨n, hn⟩ : ∃ n, n = xs.length := ⟨_, rfl⟩
  have HN := Lib.hid hn
  have HLY := Lib.hid hlen
  rw [hlen]
  rw [← hn] at h1 h8 HLY ⊢
  clear hn hlen hcx1 hcx2 hcy1 hcy2
  go_enter Try.func85, Try.ntmps85
  go_wp2
  go_loopw [5] (fun i wr => ∃ k : Nat, k ≤ n ∧ i = .int .i64 k ∧ pairsOk xs ys k ∧ Quiet w wr) (fun i _ => n - (intOf i).toNat)
  case atStart => exact ⟨0, Nat.zero_le _, rfl, pairsOk_zero _ _, Quiet.refl _⟩
  case round =>
    obtain ⟨k, hk, rfl, hf, hq⟩ := hrel
    by_cases hlt : k < n
    · obtain ⟨wo, hwo⟩ : ∃ wo : World, wo = wr := ⟨_, rfl⟩
      subst hwo
      go_wp2
      go_loopw [6] (fun i wr => ∃ j : Nat, j ≤ k ∧ i = .int .i64 j ∧ rowOk xs ys k j ∧ Quiet w wr) (fun i _ => k - (intOf i).toNat)
      case atStart => exact ⟨0, Nat.zero_le _, rfl, rowOk_zero _ _ _, hq⟩
      case round =>
        obtain ⟨j, hj, rfl, hg, hq2⟩ := hrel
        by_cases hjk : j < k
        · have hc1 := cells_at (hq2.cells hcx) k (by have := HN.out; omega)
          have hc2 := cells_at (hq2.cells hcx) j (by have := HN.out; omega)
          have hc3 := cells_at (hq2.cells hcy) k (by have := HLY.out; omega)
          have hc4 := cells_at (hq2.cells hcy) j (by have := HLY.out; omega)
          obtain ⟨x, hx⟩ : ∃ x, x = xs.getD k 0 := ⟨_, rfl⟩
          obtain ⟨y, hy⟩ : ∃ y, y = xs.getD j 0 := ⟨_, rfl⟩
          obtain ⟨s, hs⟩ : ∃ s, s = ys.getD k 0 := ⟨_, rfl⟩
          obtain ⟨z, hz⟩ : ∃ z, z = ys.getD j 0 := ⟨_, rfl⟩
          rw [← hx] at hc1
          rw [← hy] at hc2
          rw [← hs] at hc3
          rw [← hz] at hc4
          have HX := Lib.hid hx
          have HY := Lib.hid hy
          have HS := Lib.hid hs
          have HZ := Lib.hid hz
          have b1 : (k : Int) < n := by omega
          have b2 : (j : Int) < n := by omega
          have b3 : (j : Int) < k := by omega
          clear hx hy hs hz
          by_cases hxy : x = y
          · subst hxy
            by_cases hsz : s = z
            · subst hsz
              go_wp2
              go_quiet (fail)
              go_wp2
              go_roundw
              case rel => exact ⟨j + 1, by omega, by go_num, rowOk_step hg (fun _ => by rw [← HS.out, ← HZ.out]), hq2.drewN _⟩
              case measure => simp [intOf]; omega
            · have hb : (s != z) = true := by simpa using hsz
              go_wp2
              go_quiet (fail)
              go_wp2
              go_ret
              exact ⟨ret_bool (finer_not (i := k) (k := j) (by have := HN.out; omega) (by have := HN.out; omega) (by rw [← HX.out, ← HY.out]) (by rw [← HS.out, ← HZ.out]; exact hsz)).symm, hq2.drewN _⟩
          · have hb : (x == y) = false := by simpa using hxy
            go_wp2
            go_quiet (fail)
            go_wp2
            go_roundw
            case rel => exact ⟨j + 1, by omega, by go_num, rowOk_step hg (fun e => absurd e (by rw [← HX.out, ← HY.out]; exact hxy)), hq2.drewN _⟩
            case measure => simp [intOf]; omega
        · have hjk : j = k := by omega
          subst hjk
          go_wp2
          go_roundw
          case rel => exact ⟨j + 1, by omega, by go_num, pairsOk_step hf hg, hq2⟩
          case measure => simp [intOf]; omega
    · have hkn : k = n := by omega
      subst hkn
      go_wp2
      go_ret
      exact ⟨ret_bool (by have := hf; rw [HN.out] at this; exact (pairsOk_end this).symm), hq⟩

theorem alike_lens {xs ys : List Int} (h : alike xs ys = true) : 1 ≤ xs.length ∧ xs.length ≤ 8 ∧ ys.length = xs.length := by
  obtain ⟨h1, _, h3⟩ := alike_iff.1 h
  have := partIn_len h1
  omega

theorem areAlike_is (b : Bool) (v u : Value) (xs ys : List Int) (w : World) (hv : RdV w v xs) (hu : RdV w u ys) (h : Hid (alike xs ys = b)) :
    Calls Try.prog 82 #[v, u] w fun e w' => e = .returned (.bool b) ∧ w = w' := by
  rw [← h.out]; exact areAlike_v v u xs ys w hv hu

theorem l2Two_is (b : Bool) (v u : Value) (xs ys : List Int) (w : World) (hv : RdV w v xs) (hu : RdV w u ys) (h : Hid (alike xs ys = b)) :
    Calls Try.prog 84 #[v, u] w fun e w' => e = .returned (.bool b) ∧ w = w' := by
  rw [← h.out]; exact l2Two_v v u xs ys w hv hu

theorem iFinerIn_q (v u : Value) (xs ys : List Int) (w : World) (hv : RdV w v xs) (hu : RdV w u ys) :
    Calls Try.prog 45 #[v, u] w (QB w (finerIn xs ys)) := by
  have HV := Lib.hid hv
  have HU := Lib.hid hu
  clear hv hu
  cases ha : alike xs ys
  · have HA := Lib.hid ha
    have hr : finerIn xs ys = false := by rw [finerIn, ha]; rfl
    rw [hr]
    clear ha hr
    go_enter Try.func45, Try.ntmps45
    go_wp2_with fail
    refine (areAlike_is false _ _ _ _ _ HV.out HU.out HA).mono ?_
    rintro e w' ⟨rfl, rfl⟩
    go_wp2
    go_ret
    exact ⟨rfl, Quiet.refl _⟩
  · have HA := Lib.hid ha
    obtain ⟨h1, h8, hl⟩ := alike_lens ha
    have HL := Lib.hid hl
    have hr : finerIn xs ys = finerB xs ys := by rw [finerIn, ha]; rfl
    rw [hr]
    clear ha hr hl
    go_enter Try.func45, Try.ntmps45
    go_wp2_with fail
    refine (areAlike_is true _ _ _ _ _ HV.out HU.out HA).mono ?_
    rintro e w' ⟨rfl, rfl⟩
    go_wp2_with fail
    refine (isFiner_v _ _ _ _ _ HV.out HU.out h1 h8 HL.out).mono ?_
    rintro e w' ⟨rfl, hq⟩
    go_wp2
    go_ret
    exact ⟨rfl, hq⟩

theorem sFinerIn_q (v u : Value) (xs ys : List Int) (w : World) (hv : RdV w v xs) (hu : RdV w u ys) :
    Calls Try.prog 46 #[v, u] w (QB w (finerIn xs ys)) := by
  have HV := Lib.hid hv
  have HU := Lib.hid hu
  clear hv hu
  cases ha : alike xs ys
  · have HA := Lib.hid ha
    have hr : finerIn xs ys = false := by rw [finerIn, ha]; rfl
    rw [hr]
    clear ha hr
    go_enter Try.func46, Try.ntmps46
    go_wp2_with fail
    refine (l2Two_is false _ _ _ _ _ HV.out HU.out HA).mono ?_
    rintro e w' ⟨rfl, rfl⟩
    go_wp2
    go_ret
    exact ⟨rfl, Quiet.refl _⟩
  · have HA := Lib.hid ha
    obtain ⟨h1, h8, hl⟩ := alike_lens ha
    have HL := Lib.hid hl
    have hr : finerIn xs ys = finerB xs ys := by rw [finerIn, ha]; rfl
    rw [hr]
    clear ha hr hl
    go_enter Try.func46, Try.ntmps46
    go_wp2_with fail
    refine (l2Two_is true _ _ _ _ _ HV.out HU.out HA).mono ?_
    rintro e w' ⟨rfl, rfl⟩
    go_wp2_with fail
    refine (l2Finer_v _ _ _ _ _ HV.out HU.out h1 h8 HL.out).mono ?_
    rintro e w' ⟨rfl, hq⟩
    go_wp2
    go_ret
    exact ⟨rfl, hq⟩

theorem iFinerIn_v (v u : Value) (xs ys : List Int) (w : World) (hv : RdV w v xs) (hu : RdV w u ys) :
    Calls Try.prog 45 #[v, u] w (GivesB w (finerIn xs ys)) := (iFinerIn_q v u xs ys w hv hu).mono fun _ _ h => h.gives

theorem sFinerIn_v (v u : Value) (xs ys : List Int) (w : World) (hv : RdV w v xs) (hu : RdV w u ys) :
    Calls Try.prog 46 #[v, u] w (GivesB w (finerIn xs ys)) := (sFinerIn_q v u xs ys w hv hu).mono fun _ _ h => h.gives

end Go.Proofs.Ytbmpchpcihnbdaa
