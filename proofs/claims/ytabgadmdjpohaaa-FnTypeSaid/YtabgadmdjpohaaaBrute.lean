/-
  Plain lists: what is asked of each partition one by one, by the kernel. No program is named here.
-/
import Derived.Test.YtabgadmdjpohaaaPlainMath
import Derived.Test.YtabgadmdjpohaaaFinSplits
namespace Go.Proofs.Ytabgadmdjpohaaa
set_option linter.unusedSimpArgs false
set_option linter.unusedVariables false
set_option linter.unnecessarySimpa false

/-- Asked of each partition: a merge has one block less. -/
def mergeSizes (xs : List Int) : Bool :=
  (List.range (pSize xs).toNat).all fun y => (List.range y).all fun x => decide (kNext (retold xs (x : Int) (y : Int)) = pSize xs - 1)

theorem mergeSizes_all : forParts mergeSizes 8 0 [] = true := by decide +kernel

theorem merge_size {xs : List Int} (hx : partIn xs = true) {x y : Nat} (h1 : x < y) (h2 : (y : Int) < pSize xs) : pSize (kOut (retold xs (x : Int) (y : Int))) = pSize xs - 1 := by
  have h := parts_all mergeSizes mergeSizes_all hx
  unfold mergeSizes at h
  rw [List.all_eq_true] at h
  have h3 := h y (by simp; omega)
  rw [List.all_eq_true] at h3
  have h4 := h3 x (by simpa using h1)
  rw [pSize_kOut]
  simpa using h4

/-- Asked of each partition: the greatest size is 1 just where there are as many blocks as things; the sizes add up; each is 1 at least. -/
def sizeFacts (xs : List Int) : Bool :=
  decide ((pSize xs = xs.length) ↔ (desc (sizes xs)).getD 0 0 = 1) && decide ((desc (sizes xs)).sum = xs.length) && decide (0 < (desc (sizes xs)).getD 0 0)

theorem sizeFacts_all : forParts sizeFacts 8 0 [] = true := by decide +kernel

/-- Asked of each partition: no splits just where no two things are together; those of one block. -/
def splitFacts (xs : List Int) : Bool :=
  decide (sumOf spl (sizes xs) = 0 ↔ pSize xs = xs.length) && decide (pSize xs = 1 → sumOf spl (sizes xs) = ((2 ^ (xs.length - 1) - 1 : Nat) : Int))

theorem splitFacts_all : forParts splitFacts 8 0 [] = true := by decide +kernel

end Go.Proofs.Ytabgadmdjpohaaa
