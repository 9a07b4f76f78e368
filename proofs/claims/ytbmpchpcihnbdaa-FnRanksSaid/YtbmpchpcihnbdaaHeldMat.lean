/-
  The contract of the laws' heldIntSS; append of a row that was just made.
-/
import Derived.Test.YtbmpchpcihnbdaaMatHelp
namespace Go.Proofs.Ytbmpchpcihnbdaa
set_option linter.unusedSimpArgs false
set_option linter.unusedVariables false
set_option linter.unnecessarySimpa false
open Go.RowKit
set_option maxRecDepth 100000

/-- The value of an owned list is a slice. -/
theorem own_slice' {w : World} {B : Nat} {v : Value} {xs : List Int} (h : Own w B v xs) : ∃ ao cap, v = .slice ao xs.length cap := by
  obtain ⟨ao, cap, hv, _⟩ := own_rd h
  exact ⟨ao, cap, hv⟩

/-- A slice of slices of the call's own that is not nil, opened. -/
theorem ownM_slot {w : World} {B S g n cap : Nat} {xss : List (List Int)} (h : OwnM w B S (.slice (some ⟨g, 0, none⟩) n cap) xss) : B ≤ g ∧ g < S ∧ g < w.heap.size := by
  obtain ⟨vs, _, hv, _⟩ := ownM_parts h
  rcases hv with ⟨h, _⟩ | ⟨g', cap', h, hb, hs, hg, _⟩
  · cases h
  · simp only [Value.slice.injEq, Option.some.injEq, Addr.mk.injEq, and_true, true_and] at h
    omega

/-- 'append(out, row)' behind the making of the row: what it is behind the step. -/
theorem wpList_row {w : World} {ops : Array Oper} {rest : List Oper} {o : Oper} {a : Act} {Q : Exit → Act → World → Prop} (hgd : o.guard = none) (s x : Operand)
    (ho : o.op = .call { callee := .builtin .append, args := #[s, x], argTypes := #[23, 23] })
    (w0 wq : World) (u : Value) (hw : w = wq.alloc (.cells #[u] 30)) (S g n cap : Nat) (xss : List (List Int)) (hs : a.eval s = .slice (some ⟨g, 0, none⟩) n cap) (hown : OwnM wq w0.heap.size S (.slice (some ⟨g, 0, none⟩) n cap) xss) (hn : n = xss.length)
    (hx : a.eval x = .slice (some ⟨wq.heap.size, 0, none⟩) 1 1) (ys : List Int) (hu : Own wq w0.heap.size u ys) (hui : InB u S wq.heap.size) (hSw : w0.heap.size ≤ S ∧ S ≤ wq.heap.size) (hl : n ≤ 1000000000) (hbel : Below w0.heap.size w0 wq)
    (h : ∀ g' cap' w', OwnM w' w0.heap.size w'.heap.size (.slice (some ⟨g', 0, none⟩) (n + 1) cap') (xss ++ [ys]) → Below w0.heap.size w0 w' → wq.heap.size < w'.heap.size → wpList Try.prog ops Q rest (a.put o.dst (.slice (some ⟨g', 0, none⟩) (n + 1) cap')) w') :
    wpList Try.prog ops Q (o :: rest) a w := by
  subst hw
  have hsl := ownM_slot hown
  refine wpList_pushM hgd s x ho w0.heap.size S g n cap xss hs (ownM_below hown ((Below.refl _ _).alloc (Nat.le_refl _) _)) hn ⟨wq.heap.size, 0, none⟩ hx u ys (cell_new1 _ _ _) (own_alloc hu _) (fun q hq => by have := hui q hq; simp; omega) hSw.1 (by simp; omega) hl (n + 1) rfl ?_
  intro g' cap' w' h1 h2
  refine h g' cap' w' h1 ?_ ?_
  · exact (hbel.alloc (by omega) _).grown h2 (by simp; omega) (fun q hq => by cases hq; exact hsl.1)
  · have := h2.size
    simp at this
    omega

end Go.Proofs.Ytbmpchpcihnbdaa
