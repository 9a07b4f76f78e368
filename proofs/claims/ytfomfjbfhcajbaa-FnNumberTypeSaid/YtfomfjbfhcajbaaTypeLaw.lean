/-
  Facts of types for the law of types; the total of a list that may be empty.
-/
import Derived.Test.YtfomfjbfhcajbaaTypeMath
import Derived.Test.YtfomfjbfhcajbaaTriType
import Derived.Test.YtfomfjbfhcajbaaTotal
import Derived.Test.YtfomfjbfhcajbaaNumMath
namespace Go.Proofs.Ytfomfjbfhcajbaa
set_option linter.unusedSimpArgs false
set_option linter.unusedVariables false
set_option linter.unnecessarySimpa false
open Go.RowKit
set_option maxRecDepth 100000

def onesB (l : List Int) : Bool := l.all (· == 1)
theorem types_law : (typesFrom 12 12 12).all (fun l => decide (typeNum l ≤ belN (sumL l).toNat) && decide ((typeNum l == 1) = (onesB l || decide (l.length < 2)))) = true := by decide +kernel
theorem type_law {l : List Int} (h : typeGo 12 12 l = true) : typeNum l ≤ belN (sumL l).toNat ∧ (typeNum l == 1) = (onesB l || decide (l.length < 2)) := by
  have h1 := List.all_eq_true.1 types_law l (types_mem 12 l 12 12 (by omega) (by omega) (by omega) h)
  simp only [Bool.and_eq_true, decide_eq_true_eq] at h1
  exact h1

theorem sum_sumL : ∀ l : List Int, l.sum = sumL l
  | [] => rfl
  | x :: l => by rw [List.sum_cons, sumL_cons, sum_sumL l]

theorem numType_yes {l : List Int} (h : typeGo 12 12 l = true) : numType l = (typeNum l, true) := by simp [numType, h]
theorem numType_no {l : List Int} (h : typeGo 12 12 l = false) : numType l = (0, false) := by simp [numType, h]
theorem numAll_yes {n : Int} (h : 0 ≤ n ∧ n ≤ 12) : numAll n = (belN n.toNat, true) := by
  obtain ⟨p, rfl⟩ := Int.eq_ofNat_of_zero_le h.1
  unfold numAll
  rw [if_pos h, Int.toNat_natCast, bell_fact p (by omega)]

theorem onesB_snoc (l : List Int) (x : Int) : onesB (l ++ [x]) = (onesB l && (x == 1)) := by simp [onesB]

set_option maxHeartbeats 800000 in
theorem total0_v (v : Value) (xs : List Int) (w : World) (hv : RdV w v xs) (h : typeGo 12 12 xs = true) :
    Calls Try.prog 23 #[v] w fun e w' => e = .returned (.int .i64 (sumL xs)) ∧ w = w' := by
  obtain ⟨f1, f2, f3, f4, f5⟩ := typeGo_facts _ 12 12 (by omega) h
  rcases Nat.eq_zero_or_pos xs.length with h0 | h0
  · have hx : xs = [] := List.eq_nil_of_length_eq_zero h0
    subst hx
    obtain ⟨ao, ca, rfl, _, _, _⟩ := hv
    clear f1 f2 f3 f4 f5 h h0
    go_enter Try.func23, Try.ntmps23
    go_wp2
    refine wp_loop_rounds 1 ?_
    rw [rounds_succ]
    go_wp2
    go_ret
    exact ⟨rfl, rfl⟩
  · rw [← sum_sumL]
    exact total_v v xs w hv (fun c hc => by have := f4 c hc; omega) h0 (by omega)

end Go.Proofs.Ytfomfjbfhcajbaa
