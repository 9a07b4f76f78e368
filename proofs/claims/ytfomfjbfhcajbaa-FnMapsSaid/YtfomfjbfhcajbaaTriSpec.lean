/-
  The contracts of the model's numbers: l6In, l3In, l3Blocks, l3Rings, l3Rows, l3Great.
-/
import Derived.Test.YtfomfjbfhcajbaaTriRules
namespace Go.Proofs.Ytfomfjbfhcajbaa
set_option linter.unusedSimpArgs false
set_option linter.unusedVariables false
set_option linter.unnecessarySimpa false
open Go.RowKit
set_option maxRecDepth 100000

theorem sIn_any (n a b : Int) (w : World) : Calls Try.prog 58 #[.int .i64 n, .int .i64 a, .int .i64 b] w fun e w' => e = .returned (.bool (decide (a ≤ n ∧ n ≤ b))) ∧ w = w' := by
  by_cases h1 : a ≤ n
  · by_cases h2 : n ≤ b
    · go_enter Try.func58, Try.ntmps58
      go_wp2
      go_ret
      exact ⟨ret_bool (by simp [h1, h2]), rfl⟩
    · go_enter Try.func58, Try.ntmps58
      go_wp2
      go_ret
      exact ⟨ret_bool (by simp [h1, h2]), rfl⟩
  · go_enter Try.func58, Try.ntmps58
    go_wp2
    go_ret
    exact ⟨ret_bool (by simp; omega), rfl⟩

def inNum (n k : Int) : Bool := decide (0 ≤ n ∧ n ≤ 12) && decide (0 ≤ k ∧ k ≤ 12)

theorem sIn3_any (n k : Int) (w : World) : Calls Try.prog 41 #[.int .i64 n, .int .i64 k] w fun e w' => e = .returned (.bool (inNum n k)) ∧ w = w' := by
  obtain ⟨x, hx⟩ : ∃ x, x = decide (0 ≤ n ∧ n ≤ 12) := ⟨_, rfl⟩
  obtain ⟨y, hy⟩ : ∃ y, y = decide (0 ≤ k ∧ k ≤ 12) := ⟨_, rfl⟩
  have HI := Lib.hid (sIn_any n 0 12 w)
  have HJ := Lib.hid (sIn_any k 0 12 w)
  have hr : inNum n k = (x && y) := by rw [hx, hy]; rfl
  rw [← hx] at HI
  rw [← hy] at HJ
  rw [hr]
  clear hr hx hy
  cases x
  · go_enter Try.func41, Try.ntmps41
    go_wp2_with fail
    refine HI.out.mono ?_
    rintro e w' ⟨rfl, rfl⟩
    go_wp2
    go_ret
    exact ⟨rfl, rfl⟩
  · go_enter Try.func41, Try.ntmps41
    go_wp2_with fail
    refine HI.out.mono ?_
    rintro e w' ⟨rfl, rfl⟩
    go_wp2_with fail
    refine HJ.out.mono ?_
    rintro e w' ⟨rfl, rfl⟩
    go_wp2
    go_ret
    exact ⟨ret_bool (by simp), rfl⟩

theorem fB_zero (n : Nat) : fB (n + 1) 0 = 0 := by
  induction n with
  | zero => rfl
  | succ n ih => rw [fB, if_neg (by omega), ih, fB_out _ _ (by omega)]; simp

set_option maxHeartbeats 1600000 in
theorem l3Blocks_any : ∀ (N : Nat) (n k : Int) (w : World), n < N → 0 ≤ n → n ≤ 12 → -1 ≤ k → k ≤ 13 →
    Calls Try.prog 42 #[.int .i64 n, .int .i64 k] w fun e w' => e = .returned (.int .i64 (ext fB n k)) ∧ w = w' := by
  intro N
  induction N with
  | zero => intro n k w h1 h2; omega
  | succ N ih =>
    intro n k w h1 h2 h3 h4 h5
    by_cases hn : n = 0
    · by_cases hk : k = 0
      · subst hn
        subst hk
        have h0 := Lib.hid (numbers_B.top)
        clear ih
        go_enter Try.func42, Try.ntmps42
        go_wp2
        go_ret
        exact ⟨ret_int h0.out.symm, rfl⟩
      · subst hn
        have h0 := Lib.hid (numbers_B.out 0 k (by omega))
        have hz : (k == 0) = false := by simpa using hk
        clear ih
        go_enter Try.func42, Try.ntmps42
        go_wp2
        go_ret
        exact ⟨ret_int h0.out.symm, rfl⟩
    · have hz : (n == 0) = false := by simpa using hn
      by_cases hk : k ≤ 0
      · have h0 : ext fB n k = 0 := by
          by_cases hk0 : k = 0
          · obtain ⟨p, rfl⟩ : ∃ p : Nat, n = ((p + 1 : Nat) : Int) := ⟨(n - 1).toNat, by omega⟩
            rw [hk0, ext_nat]
            exact fB_zero p
          · exact numbers_B.out n k (by omega)
        have H0 := Lib.hid h0
        clear ih h0
        go_enter Try.func42, Try.ntmps42
        go_wp2
        go_ret
        exact ⟨ret_int H0.out.symm, rfl⟩
      · by_cases hkn : n < k
        · have H0 := Lib.hid (numbers_B.out n k (by omega))
          clear ih
          go_enter Try.func42, Try.ntmps42
          go_wp2
          go_ret
          exact ⟨ret_int H0.out.symm, rfl⟩
        · have hst := stepB (n := n) (k := k) (by omega) (by omega) (by omega)
          have hbx := numbers_B.bd (n - 1) k (by omega)
          have hby := numbers_B.bd (n - 1) (k - 1) (by omega)
          have HI := Lib.hid (ih (n - 1) k w (by omega) (by omega) (by omega) (by omega) (by omega))
          have HJ := Lib.hid (ih (n - 1) (k - 1) w (by omega) (by omega) (by omega) (by omega) (by omega))
          obtain ⟨x, hx⟩ : ∃ x, x = ext fB (n - 1) k := ⟨_, rfl⟩
          obtain ⟨y, hy⟩ : ∃ y, y = ext fB (n - 1) (k - 1) := ⟨_, rfl⟩
          rw [← hx] at HI hst hbx
          rw [← hy] at HJ hst hby
          rw [hst]
          have hmb := mul_bd (show 0 ≤ k by omega) (show k ≤ 12 by omega) hbx.1 hbx.2
          clear hst hx hy ih
          go_enter Try.func42, Try.ntmps42
          go_wp2_with fail
          refine HI.out.mono ?_
          rintro e w' ⟨rfl, rfl⟩
          go_wp2_with fail
          refine HJ.out.mono ?_
          rintro e w' ⟨rfl, rfl⟩
          go_wp2
          go_ret
          exact ⟨ret_int (by omega), rfl⟩

theorem l3Blocks_v (n k : Int) (w : World) (h2 : 0 ≤ n) (h3 : n ≤ 12) (h4 : -1 ≤ k) (h5 : k ≤ 13) :
    Calls Try.prog 42 #[.int .i64 n, .int .i64 k] w fun e w' => e = .returned (.int .i64 (ext fB n k)) ∧ w = w' := l3Blocks_any 13 n k w (by omega) h2 h3 h4 h5

theorem fR_zero (n : Nat) : fR (n + 1) 0 = 0 := by
  induction n with
  | zero => rfl
  | succ n ih => rw [fR, if_neg (by omega), ih, fR_out _ _ (by omega)]; simp

set_option maxHeartbeats 1600000 in
theorem l3Rings_any : ∀ (N : Nat) (n k : Int) (w : World), n < N → 0 ≤ n → n ≤ 12 → -1 ≤ k → k ≤ 13 →
    Calls Try.prog 60 #[.int .i64 n, .int .i64 k] w fun e w' => e = .returned (.int .i64 (ext fR n k)) ∧ w = w' := by
  intro N
  induction N with
  | zero => intro n k w h1 h2; omega
  | succ N ih =>
    intro n k w h1 h2 h3 h4 h5
    by_cases hn : n = 0
    · by_cases hk : k = 0
      · subst hn
        subst hk
        have h0 := Lib.hid (numbers_R.top)
        clear ih
        go_enter Try.func60, Try.ntmps60
        go_wp2
        go_ret
        exact ⟨ret_int h0.out.symm, rfl⟩
      · subst hn
        have h0 := Lib.hid (numbers_R.out 0 k (by omega))
        have hz : (k == 0) = false := by simpa using hk
        clear ih
        go_enter Try.func60, Try.ntmps60
        go_wp2
        go_ret
        exact ⟨ret_int h0.out.symm, rfl⟩
    · have hz : (n == 0) = false := by simpa using hn
      by_cases hk : k ≤ 0
      · have h0 : ext fR n k = 0 := by
          by_cases hk0 : k = 0
          · obtain ⟨p, rfl⟩ : ∃ p : Nat, n = ((p + 1 : Nat) : Int) := ⟨(n - 1).toNat, by omega⟩
            rw [hk0, ext_nat]
            exact fR_zero p
          · exact numbers_R.out n k (by omega)
        have H0 := Lib.hid h0
        clear ih h0
        go_enter Try.func60, Try.ntmps60
        go_wp2
        go_ret
        exact ⟨ret_int H0.out.symm, rfl⟩
      · by_cases hkn : n < k
        · have H0 := Lib.hid (numbers_R.out n k (by omega))
          clear ih
          go_enter Try.func60, Try.ntmps60
          go_wp2
          go_ret
          exact ⟨ret_int H0.out.symm, rfl⟩
        · have hst := stepR (n := n) (k := k) (by omega) (by omega) (by omega)
          have hbx := numbers_R.bd (n - 1) k (by omega)
          have hby := numbers_R.bd (n - 1) (k - 1) (by omega)
          have HI := Lib.hid (ih (n - 1) k w (by omega) (by omega) (by omega) (by omega) (by omega))
          have HJ := Lib.hid (ih (n - 1) (k - 1) w (by omega) (by omega) (by omega) (by omega) (by omega))
          obtain ⟨x, hx⟩ : ∃ x, x = ext fR (n - 1) k := ⟨_, rfl⟩
          obtain ⟨y, hy⟩ : ∃ y, y = ext fR (n - 1) (k - 1) := ⟨_, rfl⟩
          rw [← hx] at HI hst hbx
          rw [← hy] at HJ hst hby
          rw [hst]
          have hmb := mul_bd (show 0 ≤ n - 1 by omega) (show n - 1 ≤ 12 by omega) hbx.1 hbx.2
          clear hst hx hy ih
          go_enter Try.func60, Try.ntmps60
          go_wp2_with fail
          refine HI.out.mono ?_
          rintro e w' ⟨rfl, rfl⟩
          go_wp2_with fail
          refine HJ.out.mono ?_
          rintro e w' ⟨rfl, rfl⟩
          go_wp2
          go_ret
          exact ⟨ret_int (by omega), rfl⟩

theorem l3Rings_v (n k : Int) (w : World) (h2 : 0 ≤ n) (h3 : n ≤ 12) (h4 : -1 ≤ k) (h5 : k ≤ 13) :
    Calls Try.prog 60 #[.int .i64 n, .int .i64 k] w fun e w' => e = .returned (.int .i64 (ext fR n k)) ∧ w = w' := l3Rings_any 13 n k w (by omega) h2 h3 h4 h5

theorem fL_zero (n : Nat) : fL (n + 1) 0 = 0 := by
  induction n with
  | zero => rfl
  | succ n ih => rw [fL, if_neg (by omega), ih, fL_out _ _ (by omega)]; simp

set_option maxHeartbeats 1600000 in
theorem l3Rows_any : ∀ (N : Nat) (n k : Int) (w : World), n < N → 0 ≤ n → n ≤ 12 → -1 ≤ k → k ≤ 13 →
    Calls Try.prog 61 #[.int .i64 n, .int .i64 k] w fun e w' => e = .returned (.int .i64 (ext fL n k)) ∧ w = w' := by
  intro N
  induction N with
  | zero => intro n k w h1 h2; omega
  | succ N ih =>
    intro n k w h1 h2 h3 h4 h5
    by_cases hn : n = 0
    · by_cases hk : k = 0
      · subst hn
        subst hk
        have h0 := Lib.hid (numbers_L.top)
        clear ih
        go_enter Try.func61, Try.ntmps61
        go_wp2
        go_ret
        exact ⟨ret_int h0.out.symm, rfl⟩
      · subst hn
        have h0 := Lib.hid (numbers_L.out 0 k (by omega))
        have hz : (k == 0) = false := by simpa using hk
        clear ih
        go_enter Try.func61, Try.ntmps61
        go_wp2
        go_ret
        exact ⟨ret_int h0.out.symm, rfl⟩
    · have hz : (n == 0) = false := by simpa using hn
      by_cases hk : k ≤ 0
      · have h0 : ext fL n k = 0 := by
          by_cases hk0 : k = 0
          · obtain ⟨p, rfl⟩ : ∃ p : Nat, n = ((p + 1 : Nat) : Int) := ⟨(n - 1).toNat, by omega⟩
            rw [hk0, ext_nat]
            exact fL_zero p
          · exact numbers_L.out n k (by omega)
        have H0 := Lib.hid h0
        clear ih h0
        go_enter Try.func61, Try.ntmps61
        go_wp2
        go_ret
        exact ⟨ret_int H0.out.symm, rfl⟩
      · by_cases hkn : n < k
        · have H0 := Lib.hid (numbers_L.out n k (by omega))
          clear ih
          go_enter Try.func61, Try.ntmps61
          go_wp2
          go_ret
          exact ⟨ret_int H0.out.symm, rfl⟩
        · have hst := stepL (n := n) (k := k) (by omega) (by omega) (by omega)
          have hbx := numbers_L.bd (n - 1) k (by omega)
          have hby := numbers_L.bd (n - 1) (k - 1) (by omega)
          have HI := Lib.hid (ih (n - 1) k w (by omega) (by omega) (by omega) (by omega) (by omega))
          have HJ := Lib.hid (ih (n - 1) (k - 1) w (by omega) (by omega) (by omega) (by omega) (by omega))
          obtain ⟨x, hx⟩ : ∃ x, x = ext fL (n - 1) k := ⟨_, rfl⟩
          obtain ⟨y, hy⟩ : ∃ y, y = ext fL (n - 1) (k - 1) := ⟨_, rfl⟩
          rw [← hx] at HI hst hbx
          rw [← hy] at HJ hst hby
          rw [hst]
          have hmb := mul_bd (show 0 ≤ n - 1 + k by omega) (show n - 1 + k ≤ 24 by omega) hbx.1 hbx.2
          clear hst hx hy ih
          go_enter Try.func61, Try.ntmps61
          go_wp2_with fail
          refine HI.out.mono ?_
          rintro e w' ⟨rfl, rfl⟩
          go_wp2_with fail
          refine HJ.out.mono ?_
          rintro e w' ⟨rfl, rfl⟩
          go_wp2
          go_ret
          exact ⟨ret_int (by omega), rfl⟩

theorem l3Rows_v (n k : Int) (w : World) (h2 : 0 ≤ n) (h3 : n ≤ 12) (h4 : -1 ≤ k) (h5 : k ≤ 13) :
    Calls Try.prog 61 #[.int .i64 n, .int .i64 k] w fun e w' => e = .returned (.int .i64 (ext fL n k)) ∧ w = w' := l3Rows_any 13 n k w (by omega) h2 h3 h4 h5

theorem fG_zero : ∀ n : Nat, n < 13 → ∀ k : Nat, k < 14 → n < 2 * k ∨ (k = 0 ∧ 0 < n) → fG n k = 0 := by decide +kernel

set_option maxHeartbeats 1600000 in
theorem l3Great_any : ∀ (N : Nat) (n k : Int) (w : World), n < N → 0 ≤ n → n ≤ 12 → 0 ≤ k → k ≤ 13 →
    Calls Try.prog 63 #[.int .i64 n, .int .i64 k] w fun e w' => e = .returned (.int .i64 (ext fG n k)) ∧ w = w' := by
  intro N
  induction N with
  | zero => intro n k w h1 h2; omega
  | succ N ih =>
    intro n k w h1 h2 h3 h4 h5
    have hz0 : n < 2 * k ∨ (k = 0 ∧ 0 < n) → ext fG n k = 0 := by
      intro h
      obtain ⟨p, rfl⟩ := Int.eq_ofNat_of_zero_le h2
      obtain ⟨q, rfl⟩ := Int.eq_ofNat_of_zero_le h4
      rw [ext_nat]
      exact fG_zero p (by omega) q (by omega) (by omega)
    by_cases hk : k = 0
    · by_cases hn : n = 0
      · subst hn
        subst hk
        have h0 := Lib.hid (numbers_G.top)
        clear ih hz0
        go_enter Try.func63, Try.ntmps63
        go_wp2
        go_ret
        exact ⟨ret_int h0.out.symm, rfl⟩
      · subst hk
        have hz : (n == 0) = false := by simpa using hn
        have h0 := Lib.hid (hz0 (by omega))
        have hlt : ¬ n < 0 := by omega
        clear ih hz0
        go_enter Try.func63, Try.ntmps63
        go_wp2
        go_ret
        exact ⟨ret_int h0.out.symm, rfl⟩
    · have hk1 : ¬ k ≤ 0 := by omega
      have hzk : (k == 0) = false := by simpa using hk
      by_cases hlt : n < 2 * k
      · have h0 := Lib.hid (hz0 (.inl hlt))
        clear ih hz0
        by_cases hn : n = 0
        · subst hn
          go_enter Try.func63, Try.ntmps63
          go_wp2
          go_ret
          exact ⟨ret_int h0.out.symm, rfl⟩
        · have hz : (n == 0) = false := by simpa using hn
          go_enter Try.func63, Try.ntmps63
          go_wp2
          go_ret
          exact ⟨ret_int h0.out.symm, rfl⟩
      · have hz : (n == 0) = false := by simp; omega
        have hst := stepG (n := n) (k := k) (by omega) (by omega) (by omega)
        have hbx := numbers_G.bd (n - 1) k (by omega)
        have hby := numbers_G.bd (n - 2) (k - 1) (by omega)
        have HI := Lib.hid (ih (n - 1) k w (by omega) (by omega) (by omega) (by omega) (by omega))
        have HJ := Lib.hid (ih (n - 2) (k - 1) w (by omega) (by omega) (by omega) (by omega) (by omega))
        obtain ⟨x, hx⟩ : ∃ x, x = ext fG (n - 1) k := ⟨_, rfl⟩
        obtain ⟨y, hy⟩ : ∃ y, y = ext fG (n - 2) (k - 1) := ⟨_, rfl⟩
        rw [← hx] at HI hst hbx
        rw [← hy] at HJ hst hby
        rw [hst]
        have hmb := mul_bd (show 0 ≤ k by omega) (show k ≤ 13 by omega) hbx.1 hbx.2
        have hmc := mul_bd (show 0 ≤ n - 1 by omega) (show n - 1 ≤ 12 by omega) hby.1 hby.2
        clear hst hx hy ih hz0
        go_enter Try.func63, Try.ntmps63
        go_wp2_with fail
        refine HI.out.mono ?_
        rintro e w' ⟨rfl, rfl⟩
        go_wp2_with fail
        refine HJ.out.mono ?_
        rintro e w' ⟨rfl, rfl⟩
        go_wp2
        go_ret
        exact ⟨ret_int (by try omega), rfl⟩

theorem l3Great_v (n k : Int) (w : World) (h2 : 0 ≤ n) (h3 : n ≤ 12) (h4 : 0 ≤ k) (h5 : k ≤ 13) :
    Calls Try.prog 63 #[.int .i64 n, .int .i64 k] w fun e w' => e = .returned (.int .i64 (ext fG n k)) ∧ w = w' := l3Great_any 13 n k w (by omega) h2 h3 h4 h5

/-- A number of things and one of blocks. -/
def numBy (G : Int → Int → Int) (n k : Int) : Int × Bool := if inNum n k then (G n k, true) else (0, false)

theorem inNum_parts {n k : Int} (h : inNum n k = true) : (0 ≤ n ∧ n ≤ 12) ∧ (0 ≤ k ∧ k ≤ 12) := by simpa [inNum] using h

set_option maxHeartbeats 800000 in
theorem sNumberBlocks_v (n k : Int) (w : World) (_h0 : (Lit.int .i64 n).wf = true) (_h1 : (Lit.int .i64 k).wf = true) : Calls Try.prog 14 #[.int .i64 n, .int .i64 k] w (GivesIB w (numBy (ext fB) n k)) := by
  have HI := Lib.hid (sIn3_any n k w)
  cases h : inNum n k
  · have hr : numBy (ext fB) n k = (0, false) := by simp [numBy, h]
    rw [hr]
    rw [h] at HI
    clear h hr
    go_enter Try.func14, Try.ntmps14
    go_wp2_with fail
    refine HI.out.mono ?_
    rintro e w' ⟨rfl, rfl⟩
    go_wp2
    go_ret2
    exact ⟨rfl, Below.refl _ _⟩
  · have hr : numBy (ext fB) n k = (ext fB n k, true) := by simp [numBy, h]
    have hp := inNum_parts h
    have HJ := Lib.hid (l3Blocks_v n k w (by omega) (by omega) (by omega) (by omega))
    rw [hr]
    rw [h] at HI
    obtain ⟨x, hx⟩ : ∃ x, x = ext fB n k := ⟨_, rfl⟩
    rw [← hx] at HJ ⊢
    clear h hr hx
    go_enter Try.func14, Try.ntmps14
    go_wp2_with fail
    refine HI.out.mono ?_
    rintro e w' ⟨rfl, rfl⟩
    go_wp2_with fail
    refine HJ.out.mono ?_
    rintro e w' ⟨rfl, rfl⟩
    go_wp2
    go_ret2
    exact ⟨rfl, Below.refl _ _⟩

set_option maxHeartbeats 800000 in
theorem sNumberRings_v (n k : Int) (w : World) (_h0 : (Lit.int .i64 n).wf = true) (_h1 : (Lit.int .i64 k).wf = true) : Calls Try.prog 25 #[.int .i64 n, .int .i64 k] w (GivesIB w (numBy (ext fR) n k)) := by
  have HI := Lib.hid (sIn3_any n k w)
  cases h : inNum n k
  · have hr : numBy (ext fR) n k = (0, false) := by simp [numBy, h]
    rw [hr]
    rw [h] at HI
    clear h hr
    go_enter Try.func25, Try.ntmps25
    go_wp2_with fail
    refine HI.out.mono ?_
    rintro e w' ⟨rfl, rfl⟩
    go_wp2
    go_ret2
    exact ⟨rfl, Below.refl _ _⟩
  · have hr : numBy (ext fR) n k = (ext fR n k, true) := by simp [numBy, h]
    have hp := inNum_parts h
    have HJ := Lib.hid (l3Rings_v n k w (by omega) (by omega) (by omega) (by omega))
    rw [hr]
    rw [h] at HI
    obtain ⟨x, hx⟩ : ∃ x, x = ext fR n k := ⟨_, rfl⟩
    rw [← hx] at HJ ⊢
    clear h hr hx
    go_enter Try.func25, Try.ntmps25
    go_wp2_with fail
    refine HI.out.mono ?_
    rintro e w' ⟨rfl, rfl⟩
    go_wp2_with fail
    refine HJ.out.mono ?_
    rintro e w' ⟨rfl, rfl⟩
    go_wp2
    go_ret2
    exact ⟨rfl, Below.refl _ _⟩

set_option maxHeartbeats 800000 in
theorem sNumberRows_v (n k : Int) (w : World) (_h0 : (Lit.int .i64 n).wf = true) (_h1 : (Lit.int .i64 k).wf = true) : Calls Try.prog 28 #[.int .i64 n, .int .i64 k] w (GivesIB w (numBy (ext fL) n k)) := by
  have HI := Lib.hid (sIn3_any n k w)
  cases h : inNum n k
  · have hr : numBy (ext fL) n k = (0, false) := by simp [numBy, h]
    rw [hr]
    rw [h] at HI
    clear h hr
    go_enter Try.func28, Try.ntmps28
    go_wp2_with fail
    refine HI.out.mono ?_
    rintro e w' ⟨rfl, rfl⟩
    go_wp2
    go_ret2
    exact ⟨rfl, Below.refl _ _⟩
  · have hr : numBy (ext fL) n k = (ext fL n k, true) := by simp [numBy, h]
    have hp := inNum_parts h
    have HJ := Lib.hid (l3Rows_v n k w (by omega) (by omega) (by omega) (by omega))
    rw [hr]
    rw [h] at HI
    obtain ⟨x, hx⟩ : ∃ x, x = ext fL n k := ⟨_, rfl⟩
    rw [← hx] at HJ ⊢
    clear h hr hx
    go_enter Try.func28, Try.ntmps28
    go_wp2_with fail
    refine HI.out.mono ?_
    rintro e w' ⟨rfl, rfl⟩
    go_wp2_with fail
    refine HJ.out.mono ?_
    rintro e w' ⟨rfl, rfl⟩
    go_wp2
    go_ret2
    exact ⟨rfl, Below.refl _ _⟩

set_option maxHeartbeats 800000 in
theorem sNumberGreat_v (n k : Int) (w : World) (_h0 : (Lit.int .i64 n).wf = true) (_h1 : (Lit.int .i64 k).wf = true) : Calls Try.prog 31 #[.int .i64 n, .int .i64 k] w (GivesIB w (numBy (ext fG) n k)) := by
  have HI := Lib.hid (sIn3_any n k w)
  cases h : inNum n k
  · have hr : numBy (ext fG) n k = (0, false) := by simp [numBy, h]
    rw [hr]
    rw [h] at HI
    clear h hr
    go_enter Try.func31, Try.ntmps31
    go_wp2_with fail
    refine HI.out.mono ?_
    rintro e w' ⟨rfl, rfl⟩
    go_wp2
    go_ret2
    exact ⟨rfl, Below.refl _ _⟩
  · have hr : numBy (ext fG) n k = (ext fG n k, true) := by simp [numBy, h]
    have hp := inNum_parts h
    have HJ := Lib.hid (l3Great_v n k w (by omega) (by omega) (by omega) (by omega))
    rw [hr]
    rw [h] at HI
    obtain ⟨x, hx⟩ : ∃ x, x = ext fG n k := ⟨_, rfl⟩
    rw [← hx] at HJ ⊢
    clear h hr hx
    go_enter Try.func31, Try.ntmps31
    go_wp2_with fail
    refine HI.out.mono ?_
    rintro e w' ⟨rfl, rfl⟩
    go_wp2_with fail
    refine HJ.out.mono ?_
    rintro e w' ⟨rfl, rfl⟩
    go_wp2
    go_ret2
    exact ⟨rfl, Below.refl _ _⟩

end Go.Proofs.Ytfomfjbfhcajbaa
