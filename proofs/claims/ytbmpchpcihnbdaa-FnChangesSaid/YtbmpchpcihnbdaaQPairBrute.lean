/-
  Facts on all pair lists of at most five things, one by one. No program is named here.
-/
import Derived.Test.YtbmpchpcihnbdaaMgC
import Derived.Test.YtbmpchpcihnbdaaMgD
namespace Go.Proofs.Ytbmpchpcihnbdaa
set_option linter.unusedSimpArgs false
set_option linter.unusedVariables false
set_option maxRecDepth 100000

/-- What is asked of one pair list. -/
def chkP (n : Nat) (ts : List (Nat × Nat × Nat)) (L : List (Nat × Nat)) : Bool :=
  let pt := partP n L
  ((ofP pt).length == L.length) == (ts.countP (twoP L) == 0) && (pt.length == n) && partIn pt && L.all (fun p => pt.getD p.1 0 == pt.getD p.2 0) && decide ((n : Int) ≤ pSize pt + L.length)

theorem part_all : ((List.range 7).all fun n => (allL n).all fun x => partP n (ofP x) == x) = true := by decide +kernel
theorem chk1 : ((subl (allP 1)).all (chkP 1 (tripP 1))) = true := by decide +kernel
theorem chk2 : ((subl (allP 2)).all (chkP 2 (tripP 2))) = true := by decide +kernel
theorem chk3 : ((subl (allP 3)).all (chkP 3 (tripP 3))) = true := by decide +kernel
theorem chk4 : ((subl (allP 4)).all (chkP 4 (tripP 4))) = true := by decide +kernel
theorem chk5 : ((subl (allP 5)).all (chkP 5 (tripP 5))) = true := by decide +kernel

/-- What holds of all pair lists of at most five things. -/
theorem pair_chk {n : Nat} {L : List (Nat × Nat)} (h1 : 1 ≤ n) (h5 : n ≤ 5) (h : L.Sublist (allP n)) : wholeP n L = (threeP n L == 0) ∧ (partP n L).length = n ∧ partIn (partP n L) = true ∧ (∀ p ∈ L, (partP n L).getD p.1 0 = (partP n L).getD p.2 0) ∧ (n : Int) ≤ pSize (partP n L) + L.length := by
  have hm := mem_subl h
  have key : chkP n (tripP n) L = true := by
    have : n = 1 ∨ n = 2 ∨ n = 3 ∨ n = 4 ∨ n = 5 := by omega
    rcases this with rfl | rfl | rfl | rfl | rfl
    · exact List.all_eq_true.1 chk1 L hm
    · exact List.all_eq_true.1 chk2 L hm
    · exact List.all_eq_true.1 chk3 L hm
    · exact List.all_eq_true.1 chk4 L hm
    · exact List.all_eq_true.1 chk5 L hm
  unfold chkP at key
  simp only [Bool.and_eq_true, decide_eq_true_eq, List.all_eq_true, beq_iff_eq] at key
  obtain ⟨⟨⟨⟨k1, k2⟩, k3⟩, k4⟩, k5⟩ := key
  exact ⟨k1, k2, k3, k4, k5⟩

end Go.Proofs.Ytbmpchpcihnbdaa
