/-
  The numbers of chapter 3 as plain functions, and the contracts of the rules that make them.
-/
import Derived.Test.YtdeeeiimlcggpaaTriMap
namespace Go.Proofs.Ytdeeeiimlcggpaa
set_option linter.unusedSimpArgs false
set_option linter.unusedVariables false
set_option linter.unnecessarySimpa false
open Go.RowKit
set_option maxRecDepth 100000

/-- Partitions with k blocks. -/
def fB : Nat → Int → Int
  | 0, k => if k = 0 then 1 else 0
  | n + 1, k => if k < 0 ∨ (n : Int) + 1 < k then 0 else fB n (k - 1) + k * fB n k

/-- Rings. -/
def fR : Nat → Int → Int
  | 0, k => if k = 0 then 1 else 0
  | n + 1, k => if k < 0 ∨ (n : Int) + 1 < k then 0 else fR n (k - 1) + (n : Int) * fR n k

/-- Rows. -/
def fL : Nat → Int → Int
  | 0, k => if k = 0 then 1 else 0
  | n + 1, k => if k < 0 ∨ (n : Int) + 1 < k then 0 else fL n (k - 1) + ((n : Int) + k) * fL n k

/-- Blocks of two things at least. -/
def fG : Nat → Int → Int
  | 0, k => if k = 0 then 1 else 0
  | 1, k => 0
  | n + 2, k => if k < 0 ∨ (n : Int) + 2 < k then 0 else k * fG (n + 1) k + ((n : Int) + 1) * fG n (k - 1)

/-- Maps. -/
def fM : Nat → Int → Int
  | 0, k => if k = 0 then 1 else 0
  | n + 1, k => if k < 0 ∨ (n : Int) + 1 < k then 0 else k * (fM n k + fM n (k - 1))

/-- Choices. -/
def fC : Nat → Int → Int
  | 0, k => if k = 0 then 1 else 0
  | n + 1, k => if k < 0 ∨ (n : Int) + 1 < k then 0 else fC n (k - 1) + fC n k

/-- Falling products. -/
def fP : Nat → Int → Int
  | 0, k => if k = 0 then 1 else 0
  | n + 1, k => if k < 0 ∨ (n : Int) + 1 < k then 0 else if k = 0 then 1 else ((n : Int) + 1) * fP n (k - 1)

def ext (f : Nat → Int → Int) (n k : Int) : Int := if n < 0 then 0 else f n.toNat k

theorem ext_nat (f : Nat → Int → Int) (n : Nat) (k : Int) : ext f n k = f n k := by unfold ext; rw [if_neg (by omega), Int.toNat_natCast]
theorem ext_neg (f : Nat → Int → Int) (n k : Int) (h : n < 0) : ext f n k = 0 := by unfold ext; rw [if_pos h]

theorem numbers_of {f : Nat → Int → Int} (h0 : f 0 0 = 1) (ho : ∀ (n : Nat) (k : Int), k < 0 ∨ (n : Int) < k → f n k = 0) (hb : ∀ n : Nat, n < 13 → ∀ k : Nat, k < 13 → 0 ≤ f n k ∧ f n k ≤ 1099511627776) : Numbers (ext f) := by
  have hout : ∀ n k, k < 0 ∨ n < k → ext f n k = 0 := by
    intro n k h
    by_cases hn : n < 0
    · exact ext_neg f n k hn
    · obtain ⟨p, rfl⟩ := Int.eq_ofNat_of_zero_le (Int.not_lt.1 hn)
      rw [ext_nat]
      exact ho p k h
  refine ⟨hout, ?_, ?_⟩
  · rw [show (0 : Int) = ((0 : Nat) : Int) from rfl, ext_nat]
    exact h0
  · intro n k hn
    by_cases h : k < 0 ∨ n < k
    · rw [hout n k h]
      omega
    · obtain ⟨q, rfl⟩ := Int.eq_ofNat_of_zero_le (show 0 ≤ k by omega)
      obtain ⟨p, rfl⟩ := Int.eq_ofNat_of_zero_le (show 0 ≤ n by omega)
      rw [ext_nat]
      exact hb p (by omega) q (by omega)

theorem fB_out : ∀ (n : Nat) (k : Int), k < 0 ∨ (n : Int) < k → fB n k = 0
  | 0, k, h => by unfold fB; rw [if_neg (by omega)]
  | n + 1, k, h => by unfold fB; rw [if_pos (by omega)]
theorem fR_out : ∀ (n : Nat) (k : Int), k < 0 ∨ (n : Int) < k → fR n k = 0
  | 0, k, h => by unfold fR; rw [if_neg (by omega)]
  | n + 1, k, h => by unfold fR; rw [if_pos (by omega)]
theorem fL_out : ∀ (n : Nat) (k : Int), k < 0 ∨ (n : Int) < k → fL n k = 0
  | 0, k, h => by unfold fL; rw [if_neg (by omega)]
  | n + 1, k, h => by unfold fL; rw [if_pos (by omega)]
theorem fG_out : ∀ (n : Nat) (k : Int), k < 0 ∨ (n : Int) < k → fG n k = 0
  | 0, k, h => by unfold fG; rw [if_neg (by omega)]
  | 1, k, h => by unfold fG; rfl
  | n + 2, k, h => by unfold fG; rw [if_pos (by omega)]
theorem fM_out : ∀ (n : Nat) (k : Int), k < 0 ∨ (n : Int) < k → fM n k = 0
  | 0, k, h => by unfold fM; rw [if_neg (by omega)]
  | n + 1, k, h => by unfold fM; rw [if_pos (by omega)]
theorem fC_out : ∀ (n : Nat) (k : Int), k < 0 ∨ (n : Int) < k → fC n k = 0
  | 0, k, h => by unfold fC; rw [if_neg (by omega)]
  | n + 1, k, h => by unfold fC; rw [if_pos (by omega)]
theorem fP_out : ∀ (n : Nat) (k : Int), k < 0 ∨ (n : Int) < k → fP n k = 0
  | 0, k, h => by unfold fP; rw [if_neg (by omega)]
  | n + 1, k, h => by unfold fP; rw [if_pos (by omega)]

theorem numbers_B : Numbers (ext fB) := numbers_of rfl fB_out (by decide +kernel)
theorem numbers_R : Numbers (ext fR) := numbers_of rfl fR_out (by decide +kernel)
theorem numbers_L : Numbers (ext fL) := numbers_of rfl fL_out (by decide +kernel)
theorem numbers_G : Numbers (ext fG) := numbers_of rfl fG_out (by decide +kernel)
theorem numbers_M : Numbers (ext fM) := numbers_of rfl fM_out (by decide +kernel)
theorem numbers_C : Numbers (ext fC) := numbers_of rfl fC_out (by decide +kernel)
theorem numbers_P : Numbers (ext fP) := numbers_of rfl fP_out (by decide +kernel)

theorem stepB {n k : Int} (h1 : 1 ≤ n) (h2 : 0 ≤ k) (h3 : k ≤ n) : ext fB n k = ext fB (n - 1) (k - 1) + k * ext fB (n - 1) k := by
  obtain ⟨p, rfl⟩ : ∃ p : Nat, n = p + 1 := ⟨(n - 1).toNat, by omega⟩
  rw [show (p : Int) + 1 - 1 = p by omega, show (p : Int) + 1 = ((p + 1 : Nat) : Int) by omega]
  simp only [ext_nat]
  rw [fB, if_neg (by omega)]
theorem stepR {n k : Int} (h1 : 1 ≤ n) (h2 : 0 ≤ k) (h3 : k ≤ n) : ext fR n k = ext fR (n - 1) (k - 1) + (n - 1) * ext fR (n - 1) k := by
  obtain ⟨p, rfl⟩ : ∃ p : Nat, n = p + 1 := ⟨(n - 1).toNat, by omega⟩
  rw [show (p : Int) + 1 - 1 = p by omega, show (p : Int) + 1 = ((p + 1 : Nat) : Int) by omega]
  simp only [ext_nat]
  rw [fR, if_neg (by omega)]
theorem stepL {n k : Int} (h1 : 1 ≤ n) (h2 : 0 ≤ k) (h3 : k ≤ n) : ext fL n k = ext fL (n - 1) (k - 1) + (n - 1 + k) * ext fL (n - 1) k := by
  obtain ⟨p, rfl⟩ : ∃ p : Nat, n = p + 1 := ⟨(n - 1).toNat, by omega⟩
  rw [show (p : Int) + 1 - 1 = p by omega, show (p : Int) + 1 = ((p + 1 : Nat) : Int) by omega]
  simp only [ext_nat]
  rw [fL, if_neg (by omega)]
theorem stepM {n k : Int} (h1 : 1 ≤ n) (h2 : 0 ≤ k) (h3 : k ≤ n) : ext fM n k = k * (ext fM (n - 1) k + ext fM (n - 1) (k - 1)) := by
  obtain ⟨p, rfl⟩ : ∃ p : Nat, n = p + 1 := ⟨(n - 1).toNat, by omega⟩
  rw [show (p : Int) + 1 - 1 = p by omega, show (p : Int) + 1 = ((p + 1 : Nat) : Int) by omega]
  simp only [ext_nat]
  rw [fM, if_neg (by omega)]
theorem stepC {n k : Int} (h1 : 1 ≤ n) (h2 : 0 ≤ k) (h3 : k ≤ n) : ext fC n k = ext fC (n - 1) (k - 1) + ext fC (n - 1) k := by
  obtain ⟨p, rfl⟩ : ∃ p : Nat, n = p + 1 := ⟨(n - 1).toNat, by omega⟩
  rw [show (p : Int) + 1 - 1 = p by omega, show (p : Int) + 1 = ((p + 1 : Nat) : Int) by omega]
  simp only [ext_nat]
  rw [fC, if_neg (by omega)]
theorem stepP {n k : Int} (h1 : 1 ≤ n) (h2 : 0 ≤ k) (h3 : k ≤ n) : ext fP n k = if k = 0 then 1 else n * ext fP (n - 1) (k - 1) := by
  obtain ⟨p, rfl⟩ : ∃ p : Nat, n = p + 1 := ⟨(n - 1).toNat, by omega⟩
  rw [show (p : Int) + 1 - 1 = p by omega, show (p : Int) + 1 = ((p + 1 : Nat) : Int) by omega]
  simp only [ext_nat]
  rw [fP, if_neg (by omega)]
  rfl
theorem stepG {n k : Int} (h1 : 1 ≤ n) (h2 : 0 ≤ k) (h3 : k ≤ n) : ext fG n k = k * ext fG (n - 1) k + (n - 1) * ext fG (n - 2) (k - 1) := by
  by_cases hn : n = 1
  · subst hn
    have h0 : ext fG (1 - 1) k = if k = 0 then 1 else 0 := rfl
    have h4 : ext fG 1 k = 0 := rfl
    rw [h0, h4]
    split
    · rename_i e; subst e; simp
    · simp
  · obtain ⟨p, rfl⟩ : ∃ p : Nat, n = p + 2 := ⟨(n - 2).toNat, by omega⟩
    rw [show (p : Int) + 2 - 1 = ((p + 1 : Nat) : Int) by omega, show (p : Int) + 2 - 2 = p by omega, show (p : Int) + 2 = ((p + 2 : Nat) : Int) by omega]
    simp only [ext_nat]
    rw [fG, if_neg (by omega)]
    simp

theorem mul_bd {a b : Int} {A B : Int} (h1 : 0 ≤ a) (h2 : a ≤ A) (h3 : 0 ≤ b) (h4 : b ≤ B) : 0 ≤ a * b ∧ a * b ≤ A * B :=
  ⟨Int.mul_nonneg h1 h3, Int.mul_le_mul h2 h4 h3 (by omega)⟩

set_option maxHeartbeats 1600000 in
theorem rule_rings : RuleOk 23 (ext fR) := by
  intro n k h1 h2 h3 h4 ih tb mb m w hT hm
  have hb1 := numbers_R.bd (n - 1) (k - 1) (by omega)
  have hb2 := numbers_R.bd (n - 1) k (by omega)
  have hst := stepR h1 h3 h4
  have HI1 := Lib.hid (fun mm ww a b => (ih (n - 1) (by omega) (by omega) tb mb mm (k - 1) ww (by omega) (by omega) a b : _))
  have HI2 := Lib.hid (fun mm ww a b => (ih (n - 1) (by omega) (by omega) tb mb mm k ww (by omega) (by omega) a b : _))
  have HT := Lib.hid hT
  have hp := triMore_pos (n - 1)
  obtain ⟨q, hq⟩ : ∃ q, q = triMore (n - 1) := ⟨_, rfl⟩
  obtain ⟨x, hx⟩ : ∃ x, x = ext fR (n - 1) (k - 1) := ⟨_, rfl⟩
  obtain ⟨y, hy⟩ : ∃ y, y = ext fR (n - 1) k := ⟨_, rfl⟩
  rw [← hq] at HI1 hp hm ⊢
  rw [← hq] at HI2
  rw [← hx] at hb1 hst HI1
  rw [← hy] at hb2 hst HI2
  rw [hst]
  have hmb := mul_bd (show 0 ≤ n - 1 by omega) (show n - 1 ≤ 12 by omega) hb2.1 hb2.2
  clear hT hst hx hy hq ih
  go_enter Try.func23, Try.ntmps23
  go_wp2_with fail
  refine (HI1.out m w HT.out (by omega)).mono ?_
  rintro e w1 ⟨rfl, hT1, hg1⟩
  have HT1 := Lib.hid hT1
  have HG1 := Lib.hid hg1
  clear hT1 hg1
  go_wp2_with fail
  refine (HI2.out _ w1 HT1.out (by omega)).mono ?_
  rintro e w2 ⟨rfl, hT2, hg2⟩
  have HT2 := Lib.hid hT2
  have HG2 := Lib.hid hg2
  clear hT2 hg2
  go_wp2
  go_ret
  exact ⟨ret_int (by try omega), triOk_mono HT2.out (by omega), grown_trans HG1.out HG2.out⟩

theorem fn_rings : RuleFn 23 := fun args w => by kernel_rfl
theorem at_rings (n : Int) (h1 : -1 ≤ n) (h2 : n ≤ 12) : AtOk 23 (ext fR) n := at_all _ _ numbers_R fn_rings rule_rings 13 n (by omega) h1 h2
end Go.Proofs.Ytdeeeiimlcggpaa
