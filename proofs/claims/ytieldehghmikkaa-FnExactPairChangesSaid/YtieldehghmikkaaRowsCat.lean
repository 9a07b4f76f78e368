/-
  spec.PartBlocks; append of rows of a list of lists onto a list of lists of the call's own.
-/
import Derived.Test.YtieldehghmikkaaSpecType
import Derived.Test.YtieldehghmikkaaHeldMat
namespace Go.Proofs.Ytieldehghmikkaa
set_option linter.unusedSimpArgs false
set_option linter.unusedVariables false
set_option linter.unnecessarySimpa false
open Go.RowKit
set_option maxRecDepth 100000

def partBlocks (xs : List Int) : List (List Int) × Bool := if partIn xs then (blocksTo xs (pSize xs).toNat, true) else ([], false)

/-- A list of slices' values in a block of the call's own. -/
def OwnV (w : World) (B : Nat) (v : Value) (vs : List Value) : Prop := w.ownsRow B 27 1 v vs.length vs

theorem ownV_empty (w : World) (B : Nat) (hB : B ≤ w.heap.size) : OwnV (w.alloc (.cells #[] 27)) B (.slice (some ⟨w.heap.size, 0, none⟩) 0 0) [] :=
  World.ownsRow_made w #[] 0 hB (Nat.zero_le _) rfl

/-- 'append(out, rows...)' onto a slice of slices of the call's own that is not nil. -/
theorem wp_catV {w : World} {o : Oper} {a : Act} {K : Act → World → Prop} {Q : Exit → Act → World → Prop} (s x : Operand)
    (ho : o.op = .call { callee := .builtin .append, args := #[s, x], argTypes := #[22, 22] })
    (B g n cap : Nat) (vs : List Value) (hs : a.eval s = .slice (some ⟨g, 0, none⟩) n cap) (hown : OwnV w B (.slice (some ⟨g, 0, none⟩) n cap) vs) (hn : n = vs.length)
    (ad : Addr) (m c : Nat) (hx : a.eval x = .slice (some ad) m c) (us : List Value) (hm : m = us.length) (hc : ∀ j, j < us.length → w.cell? (ad.add j) = some (us.getD j undef)) (hu : ∀ z ∈ us, z.oneCell' = true) (hl : n + m ≤ 1000000000) (hB : B ≤ w.heap.size) (r : Nat) (hr : n + m = r)
    (h : ∀ g' cap' w', OwnV w' B (.slice (some ⟨g', 0, none⟩) r cap') (vs ++ us) → w.grownBy w' (some g) → (g' = g ∨ g' = w.heap.size) → K (a.put o.dst (.slice (some ⟨g', 0, none⟩) r cap')) w') :
    o.wp Try.prog a w K Q := by
  obtain ⟨i0, hi, hz0, hz1, hz2⟩ := info_parts Try.infoInts
  subst hr
  subst hn
  subst hm
  have hnews : ∀ j u, us[j]? = some u → w.cell? (ad.add j) = some u := by
    intro j u hj
    have hjl : j < us.length := (List.getElem?_eq_some_iff.1 hj).1
    rw [hc j hjl]
    simp [List.getD, hj]
  obtain ⟨v', w', hru, ho', hg', hnil, hb'⟩ := run_append_own_at (P := Try.prog) w B 22 o.type 27 i0 (.slice none 0 0) 1 24 Try.underlying22 hi hz0 hz1 hz2 rfl (by decide) _ vs.length vs hown ad us.length c us (by simp) hnews hu (by unfold maxLen; omega) (by omega) hB
  unfold Oper.wp execOp
  simp only [ho, resolve, invoke, builtin, Sem.run_bind, Sem.run_pure, Result.andThen_ok, List.map_toArray, List.map_cons, List.map_nil, hs, hx, hru]
  have hown' : OwnV w' B v' (vs ++ us) := by
    unfold OwnV
    simpa using ho'
  rcases ho'.2 with ⟨rfl, h2⟩ | ⟨g', cap', cur, rfl, hB', hg2, rest⟩
  · simp at hnil
  · try simp only [List.length_append] at hown' ⊢
    refine h g' cap' w' hown' hg' ?_
    simpa [Value.ownBlock] using hb'

theorem step_catV {w : World} {ops : Array Oper} {o : Oper} {a : Act} {K : Act → World → Prop} {Q : Exit → Act → World → Prop} {E : Prop} (hgd : o.guard = none) (s x : Operand)
    (ho : o.op = .call { callee := .builtin .append, args := #[s, x], argTypes := #[22, 22] })
    (B g n cap : Nat) (vs : List Value) (hs : a.eval s = .slice (some ⟨g, 0, none⟩) n cap) (hown : OwnV w B (.slice (some ⟨g, 0, none⟩) n cap) vs) (hn : n = vs.length)
    (ad : Addr) (m c : Nat) (hx : a.eval x = .slice (some ad) m c) (us : List Value) (hm : m = us.length) (hc : ∀ j, j < us.length → w.cell? (ad.add j) = some (us.getD j undef)) (hu : ∀ z ∈ us, z.oneCell' = true) (hl : n + m ≤ 1000000000) (hB : B ≤ w.heap.size) (r : Nat) (hr : n + m = r)
    (h : ∀ g' cap' w', OwnV w' B (.slice (some ⟨g', 0, none⟩) r cap') (vs ++ us) → w.grownBy w' (some g) → (g' = g ∨ g' = w.heap.size) → K (a.put o.dst (.slice (some ⟨g', 0, none⟩) r cap')) w') :
    if Region.wanted o (yielded ops a.tmps) = true then Oper.wp Try.prog o a w K Q else E := by
  have hw : Region.wanted o (yielded ops a.tmps) = true := by simp [Region.wanted, hgd]
  rw [if_pos hw]
  exact wp_catV s x ho B g n cap vs hs hown hn ad m c hx us hm hc hu hl hB r hr h

end Go.Proofs.Ytieldehghmikkaa
