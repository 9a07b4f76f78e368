/-
  The model's contracts: spec.l4Place, l4At, ListPlace, ListAt, ListNext, ListBefore, ListOpen.
-/
import Derived.Test.YtdeeeiimlcggpaaLists
import Derived.Test.YtdeeeiimlcggpaaFinCount
namespace Go.Proofs.Ytdeeeiimlcggpaa
set_option linter.unusedSimpArgs false
set_option linter.unusedVariables false
set_option linter.unnecessarySimpa false
open Go.RowKit

theorem at_stop {q o s : Int} (m : Nat) (ho : 1 ≤ o) (hm : (m : Int) ≤ s) (h0 : 0 ≤ q - m * o) (h1 : (m : Int) < s → q - m * o < o) : min (q / o) s = m := by
  by_cases h : (m : Int) < s
  · have hlt := h1 h
    have e : q = (q - m * o) + m * o := by omega
    have hd : q / o = m := by
      rw [e, Int.add_mul_ediv_right _ _ (by omega), Int.ediv_eq_zero_of_lt h0 hlt]
      omega
    rw [hd]
    omega
  · have he : (m : Int) = s := by omega
    have : s ≤ q / o := Int.le_ediv_of_mul_le (by omega) (by rw [← he]; omega)
    omega

end Go.Proofs.Ytdeeeiimlcggpaa
