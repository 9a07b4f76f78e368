/-
  The contract of impl.pairsThat: a labelled loop over pairs of arcs, and a function value that is asked of each pair.
-/
import Derived.Test.YtieldehghmikkaaArcs
import Derived.Deep.LoopGhost
namespace Go.Proofs.Ytieldehghmikkaa
set_option linter.unusedSimpArgs false
set_option linter.unusedVariables false
set_option linter.unnecessarySimpa false
open Go.RowKit

/-- The function f, asked of two arcs, tells pr. -/
def ArcFn (f : FuncId) (pr : Nat × Nat → Nat × Nat → Bool) : Prop :=
  ∀ (p q : Nat × Nat) (w : World), Calls Try.prog f #[arcV p, arcV q] w fun e w' => e = .returned (.bool (pr p q)) ∧ Below w.heap.size w w'
def IsFn (f : FuncId) : Prop := ∀ (args : Array Value) (w : World), (callFunc f args).run Try.prog w = .ok (.enter f args) w

theorem take_snocA (L : List (Nat × Nat)) (k : Nat) (h : k < L.length) : L.take (k + 1) = L.take k ++ [L.getD k (0, 0)] := by
  rw [List.take_add_one, List.getElem?_eq_getElem h]
  simp [List.getD, h]

theorem pairwise_lt {L : List (Nat × Nat)} (h : L.Pairwise (fun p q => p.1 < q.1)) (k j : Nat) (hk : k < j) (hj : j < L.length) : (L.getD k (0, 0)).1 < (L.getD j (0, 0)).1 := by
  have := List.pairwise_iff_getElem.1 h k j (by omega) hj hk
  simpa [List.getD, hj, show k < L.length by omega] using this

end Go.Proofs.Ytieldehghmikkaa
