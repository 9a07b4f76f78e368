/-
  The contract of impl.ListBlocks. (Made by wip/gen/mklistall.py.)
-/
import Derived.Test.YtipmafplpoadjaaListAll
namespace Go.Proofs.Ytipmafplpoadjaa
set_option linter.unusedSimpArgs false
set_option linter.unusedVariables false
set_option linter.unnecessarySimpa false
open Go.RowKit Go.Shelf
set_option maxRecDepth 100000

attribute [local go_sem] Oper.semAt_some

theorem cellsAt_ownFrom {β : Type} (B g : Nat) (cs : Array Value) (t : TypeId) : OwnFrom B (fun (_ : β) W => W.heap[g]? = some (.cells cs t (0, 0))) := fun s A C row h hg hrow => by
  refine (hg.block g (Array.getElem?_eq_some_iff.1 h).1 ?_).trans h
  intro e
  obtain ⟨_, o, ho, hc⟩ := hrow g e.symm
  rw [h] at ho
  cases ho
  cases hc

theorem collect_boxI {n₀ B b g' cap' m : Nat} {k : Int} {W w5 w7 : World} {v : Value} {xss : List (List Int)} (hb : Boxed W b 3 (.int .i64 k)) (hne : b ≠ B) (hom : OwnM W n₀ W.heap.size v xss) (hb5 : Below W.heap.size W w5) (o : Obj) (h2 : (w5.alloc o).grownBy w7 v.ownBlock) :
    Boxed (w7.setCell ⟨B, 0, none⟩ (.slice (some ⟨g', 0, none⟩) m cap')) b 3 (.int .i64 k) := by
  obtain ⟨vs, hr⟩ := ownM_row0 (ownM_below hom hb5)
  have h7 := ((boxed_below hb hb5).alloc o).kept h2 ((boxed_below hb hb5).not_row (by decide) hr)
  exact (heap_setCell_other w7 ⟨B, 0, none⟩ b _ (by simpa using hne)).trans h7

theorem holdsL_same {c n₀ B : Nat} {w W : World} {G : List Nat → List (List Int)} {pre pre' : List Nat} (h : HoldsL c n₀ B w G pre W) (e : G pre' = G pre) : HoldsL c n₀ B w G pre' W := by
  unfold HoldsL at *
  rw [e]
  exact h

theorem filter_snoc (k : Int) (c x : Nat) (pre : List Nat) : (((pre ++ [x]).map fun p => atL c (p : Nat)).filter fun xs => pSize xs == k) = ((pre.map fun p => atL c (p : Nat)).filter fun xs => pSize xs == k) ++ (if (pSize (atL c (x : Nat)) == k) = true then [atL c (x : Nat)] else []) := by
  rw [List.map_append, List.filter_append]
  congr 1
  simp only [List.map_cons, List.map_nil, List.filter_cons, List.filter_nil]

end Go.Proofs.Ytipmafplpoadjaa
