/-
  Facts of the numbers of chapter 3, for all numbers up to twelve. No program is named here.
-/
import Derived.Test.YtfomfjbfhcajbaaTriAll
import Derived.Test.YtfomfjbfhcajbaaTriPower
namespace Go.Proofs.Ytfomfjbfhcajbaa
set_option linter.unusedSimpArgs false
set_option linter.unusedVariables false
set_option linter.unnecessarySimpa false
set_option maxRecDepth 100000

theorem numBy_yes {G : Int → Int → Int} {n k : Int} (h : inNum n k = true) : numBy G n k = (G n k, true) := by simp [numBy, h]
theorem numBy_no {G : Int → Int → Int} {n k : Int} (h : inNum n k = false) : numBy G n k = (0, false) := by simp [numBy, h]
theorem inNum_mk {n k : Int} (hn : 0 ≤ n ∧ n ≤ 12) (hk : 0 ≤ k ∧ k ≤ 12) : inNum n k = true := by simp [inNum]; omega

theorem two_nat {p : Int → Int → Prop} (h : ∀ n : Nat, n < 13 → ∀ k : Nat, k < 13 → p n k) {n k : Int} (hi : inNum n k = true) : p n k := by
  have hp := inNum_parts hi
  obtain ⟨a, rfl⟩ := Int.eq_ofNat_of_zero_le hp.1.1
  obtain ⟨b, rfl⟩ := Int.eq_ofNat_of_zero_le hp.2.1
  exact h a (by omega) b (by omega)

/-- The sum of the first c numbers. -/
def psum (F : Nat → Int) : Nat → Int
  | 0 => 0
  | c + 1 => psum F c + F c

theorem blocks_facts : ∀ n : Nat, n < 13 → ∀ k : Nat, k < 13 → ext fB n k ≤ ext fR n k ∧ ext fR n k ≤ ext fL n k ∧ (n < k → ext fL n k = 0) ∧ (n = k → ext fB n k = 1 ∧ ext fL n k = 1) := by decide +kernel
theorem great_facts : ∀ n : Nat, n < 13 → ∀ k : Nat, k < 13 → ext fG n k ≤ ext fB n k ∧ (ext fG n k = 0 ↔ (n < 2 * k ∨ (k = 0 ∧ 0 < n))) := by decide +kernel

theorem rings_bd : ∀ n : Nat, n < 13 → ∀ c : Nat, c < 14 → 0 ≤ psum (fun j => ext fR n j) c ∧ psum (fun j => ext fR n j) c ≤ 1099511627776 := by decide +kernel
theorem rings_sum : ∀ n : Nat, n < 13 → psum (fun j => ext fR n j) (n + 1) = (fac n : Int) := by decide +kernel

theorem all_bd : ∀ n : Nat, n < 13 → ∀ c : Nat, c < 14 → 0 ≤ psum (fun j => ext fB n j) c ∧ psum (fun j => ext fB n j) c ≤ 1099511627776 := by decide +kernel
theorem all_sum : ∀ n : Nat, n < 13 → psum (fun j => ext fB n j) (n + 1) = sumL (rowTo (ext fB) n (n + 1)) := by decide +kernel

theorem pow_is : ∀ x : Nat, x < 10 → ∀ n : Nat, n < 10 → powTo x n (n + 1) = (x : Int) ^ n := by decide +kernel
theorem pow_le : ∀ x : Nat, x < 10 → ∀ n : Nat, n < 10 → 0 ≤ (x : Int) ^ n ∧ (x : Int) ^ n ≤ 387420489 := by decide +kernel

def tabB : List (List Int) := [[1, 0, 0, 0, 0, 0, 0, 0, 0, 0, 0, 0, 0], [0, 1, 0, 0, 0, 0, 0, 0, 0, 0, 0, 0, 0], [0, 1, 1, 0, 0, 0, 0, 0, 0, 0, 0, 0, 0], [0, 1, 3, 1, 0, 0, 0, 0, 0, 0, 0, 0, 0], [0, 1, 7, 6, 1, 0, 0, 0, 0, 0, 0, 0, 0], [0, 1, 15, 25, 10, 1, 0, 0, 0, 0, 0, 0, 0], [0, 1, 31, 90, 65, 15, 1, 0, 0, 0, 0, 0, 0], [0, 1, 63, 301, 350, 140, 21, 1, 0, 0, 0, 0, 0], [0, 1, 127, 966, 1701, 1050, 266, 28, 1, 0, 0, 0, 0], [0, 1, 255, 3025, 7770, 6951, 2646, 462, 36, 1, 0, 0, 0], [0, 1, 511, 9330, 34105, 42525, 22827, 5880, 750, 45, 1, 0, 0], [0, 1, 1023, 28501, 145750, 246730, 179487, 63987, 11880, 1155, 55, 1, 0], [0, 1, 2047, 86526, 611501, 1379400, 1323652, 627396, 159027, 22275, 1705, 66, 1]]
def tabR : List (List Int) := [[1, 0, 0, 0, 0, 0, 0, 0, 0, 0, 0, 0, 0], [0, 1, 0, 0, 0, 0, 0, 0, 0, 0, 0, 0, 0], [0, 1, 1, 0, 0, 0, 0, 0, 0, 0, 0, 0, 0], [0, 2, 3, 1, 0, 0, 0, 0, 0, 0, 0, 0, 0], [0, 6, 11, 6, 1, 0, 0, 0, 0, 0, 0, 0, 0], [0, 24, 50, 35, 10, 1, 0, 0, 0, 0, 0, 0, 0], [0, 120, 274, 225, 85, 15, 1, 0, 0, 0, 0, 0, 0], [0, 720, 1764, 1624, 735, 175, 21, 1, 0, 0, 0, 0, 0], [0, 5040, 13068, 13132, 6769, 1960, 322, 28, 1, 0, 0, 0, 0], [0, 40320, 109584, 118124, 67284, 22449, 4536, 546, 36, 1, 0, 0, 0], [0, 362880, 1026576, 1172700, 723680, 269325, 63273, 9450, 870, 45, 1, 0, 0], [0, 3628800, 10628640, 12753576, 8409500, 3416930, 902055, 157773, 18150, 1320, 55, 1, 0], [0, 39916800, 120543840, 150917976, 105258076, 45995730, 13339535, 2637558, 357423, 32670, 1925, 66, 1]]
def tabM : List (List Int) := [[1, 0, 0, 0, 0, 0, 0, 0, 0, 0, 0, 0, 0], [0, 1, 0, 0, 0, 0, 0, 0, 0, 0, 0, 0, 0], [0, 1, 2, 0, 0, 0, 0, 0, 0, 0, 0, 0, 0], [0, 1, 6, 6, 0, 0, 0, 0, 0, 0, 0, 0, 0], [0, 1, 14, 36, 24, 0, 0, 0, 0, 0, 0, 0, 0], [0, 1, 30, 150, 240, 120, 0, 0, 0, 0, 0, 0, 0], [0, 1, 62, 540, 1560, 1800, 720, 0, 0, 0, 0, 0, 0], [0, 1, 126, 1806, 8400, 16800, 15120, 5040, 0, 0, 0, 0, 0], [0, 1, 254, 5796, 40824, 126000, 191520, 141120, 40320, 0, 0, 0, 0], [0, 1, 510, 18150, 186480, 834120, 1905120, 2328480, 1451520, 362880, 0, 0, 0], [0, 1, 1022, 55980, 818520, 5103000, 16435440, 29635200, 30240000, 16329600, 3628800, 0, 0], [0, 1, 2046, 171006, 3498000, 29607600, 129230640, 322494480, 479001600, 419126400, 199584000, 39916800, 0], [0, 1, 4094, 519156, 14676024, 165528000, 953029440, 3162075840, 6411968640, 8083152000, 6187104000, 2634508800, 479001600]]
def tB (n k : Nat) : Int := (tabB.getD n []).getD k 0
def tR (n k : Nat) : Int := (tabR.getD n []).getD k 0
def tM (n k : Nat) : Int := (tabM.getD n []).getD k 0
theorem tB_is : ∀ n : Nat, n < 13 → ∀ k : Nat, k < 13 → ext fB n k = tB n k := by decide +kernel
theorem tR_is : ∀ n : Nat, n < 13 → ∀ k : Nat, k < 13 → ext fR n k = tR n k := by decide +kernel
theorem tM_is : ∀ n : Nat, n < 13 → ∀ k : Nat, k < 13 → ext fM n k = tM n k := by decide +kernel
theorem tL_fact : ∀ n : Nat, n < 13 → ∀ k : Nat, k < 13 → k ≤ n → psum (fun c => tR n (k + c) * tB (k + c) k) (n + 1 - k) = ext fL n k := by decide +kernel
theorem tL_bd : ∀ n : Nat, n < 13 → ∀ k : Nat, k < 13 → ∀ c : Nat, c < 14 → 0 ≤ psum (fun c => tR n (k + c) * tB (k + c) k) c ∧ psum (fun c => tR n (k + c) * tB (k + c) k) c ≤ 1099511627776 := by decide +kernel
theorem tRB_bd : ∀ n : Nat, n < 13 → ∀ k : Nat, k < 13 → ∀ j : Nat, j < 13 → 0 ≤ tR n j * tB j k ∧ tR n j * tB j k ≤ 1099511627776 := by decide +kernel
/-- The sum with signs. -/
def sgnF (n k : Nat) (c : Nat) : Int := if ((n : Int) - ((k + c : Nat) : Int)) % 2 = 0 then tR n (k + c) * tB (k + c) k else -(tR n (k + c) * tB (k + c) k)
theorem inv_fact : ∀ n : Nat, n < 13 → ∀ k : Nat, k < 13 → k ≤ n → psum (sgnF n k) (n + 1 - k) = if n = k then 1 else 0 := by decide +kernel
theorem inv_bd : ∀ n : Nat, n < 13 → ∀ k : Nat, k < 13 → ∀ c : Nat, c < 14 → -1099511627776 ≤ psum (sgnF n k) c ∧ psum (sgnF n k) c ≤ 1099511627776 := by decide +kernel
/-- The ways to choose j of k, step by step. -/
def wayC (k : Nat) : Nat → Int
  | 0 => 1
  | j + 1 => wayC k j * ((k : Int) - (j : Int)) / ((j : Int) + 1)
theorem way_bd : ∀ k : Nat, k < 10 → ∀ j : Nat, j < 11 → 0 ≤ wayC k j ∧ wayC k j ≤ 126 := by decide +kernel
theorem map_bd : ∀ n : Nat, n < 10 → ∀ j : Nat, j < 10 → 0 ≤ tM n j ∧ tM n j ≤ 1099511627776 := by decide +kernel
theorem maps_bd : ∀ n : Nat, n < 10 → ∀ k : Nat, k < 10 → ∀ c : Nat, c < 11 → 0 ≤ psum (fun j => wayC k j * tM n j) c ∧ psum (fun j => wayC k j * tM n j) c ≤ 1099511627776 := by decide +kernel
theorem maps_fact2 : ∀ n : Nat, n < 10 → ∀ k : Nat, k < 10 → psum (fun j => wayC k j * tM n j) (k + 1) = (k : Int) ^ n := by decide +kernel

theorem inPow_parts {n k : Int} (h : inPow n k = true) : (0 ≤ n ∧ n ≤ 9) ∧ (0 ≤ k ∧ k ≤ 9) := by simpa [inPow] using h
theorem numPower_no {n k : Int} (h : inPow n k = false) : numPower n k = (0, false) := by simp [numPower, h]
theorem numPower_yes {n k : Nat} (hn : n < 10) (hk : k < 10) : numPower (n : Int) (k : Int) = ((n : Int) ^ k, true) := by
  have h : inPow (n : Int) (k : Int) = true := by simp [inPow]; omega
  unfold numPower
  rw [h, if_pos rfl, Int.toNat_natCast, pow_is n hn k hk]

end Go.Proofs.Ytfomfjbfhcajbaa
