/-
  The contracts of slices.Clone and PartPut (impl and spec).
-/
import Derived.Test.YtieldehghmikkaaKernel
namespace Go.Proofs.Ytieldehghmikkaa
set_option linter.unusedSimpArgs false
set_option linter.unusedVariables false
set_option linter.unnecessarySimpa false
open Go.RowKit

/-- 'append(out, ys...)' onto a slice of the call's own that is not nil: what it is behind the step. -/
theorem wp_cat {w : World} {o : Oper} {a : Act} {K : Act → World → Prop} {Q : Exit → Act → World → Prop} (s x : Operand)
    (ho : o.op = .call { callee := .builtin .append, args := #[s, x], argTypes := #[27, 27] })
    (B g n cap : Nat) (xs : List Int) (hs : a.eval s = .slice (some ⟨g, 0, none⟩) n cap) (hown : Own w B (.slice (some ⟨g, 0, none⟩) n cap) xs) (hn : n = xs.length)
    (ad : Addr) (m c : Nat) (hx : a.eval x = .slice (some ad) m c) (ys : List Int) (hm : m = ys.length) (hc : ∀ j, j < ys.length → w.cell? (ad.add j) = some (.int .i64 (ys.getD j 0))) (hl : n + m ≤ 1000000000) (hB : B ≤ w.heap.size) (r : Nat) (hr : n + m = r)
    (h : ∀ g' cap' w', Own w' B (.slice (some ⟨g', 0, none⟩) r cap') (xs ++ ys) → w.grownBy w' (some g) → (g' = g ∨ g' = w.heap.size) → K (a.put o.dst (.slice (some ⟨g', 0, none⟩) r cap')) w') :
    o.wp Try.prog a w K Q := by
  obtain ⟨i0, hi, hz0, hz1, hz2⟩ := info_parts Try.infoInt
  subst hr
  subst hn
  subst hm
  have hnews : ∀ j u, (ys.map (Value.int .i64))[j]? = some u → w.cell? (ad.add j) = some u := by
    intro j u hj
    have hjl : j < ys.length := by have := (List.getElem?_eq_some_iff.1 hj).1; simpa using this
    rw [getD_map_int ys j hjl] at hj
    rw [hc j hjl, hj]
  obtain ⟨v', w', hru, ho', hg', hnil, hb'⟩ := run_append_own_at (P := Try.prog) w B 27 o.type 3 i0 (.int .i64 0) 1 8 Try.underlying27 hi hz0 hz1 hz2 rfl (by decide) _ xs.length (xs.map (Value.int .i64)) hown ad ys.length c (ys.map (Value.int .i64)) (by simp) hnews (ints_oneCell _ _) (by unfold maxLen; omega) (by omega) hB
  unfold Oper.wp execOp
  simp only [ho, resolve, invoke, builtin, Sem.run_bind, Sem.run_pure, Result.andThen_ok, List.map_toArray, List.map_cons, List.map_nil, hs, hx, hru]
  have hown' : Own w' B v' (xs ++ ys) := by
    unfold Own
    simpa using ho'
  rcases own_view hown' with ⟨rfl, h2⟩ | ⟨g', cap', rfl, _⟩
  · simp at hnil
  · simp only [List.length_append] at hown' ⊢
    refine h g' cap' w' hown' hg' ?_
    simpa [Value.ownBlock] using hb'

theorem wpList_cat {w : World} {ops : Array Oper} {rest : List Oper} {o : Oper} {a : Act} {Q : Exit → Act → World → Prop} (hgd : o.guard = none) (s x : Operand)
    (ho : o.op = .call { callee := .builtin .append, args := #[s, x], argTypes := #[27, 27] })
    (B g n cap : Nat) (xs : List Int) (hs : a.eval s = .slice (some ⟨g, 0, none⟩) n cap) (hown : Own w B (.slice (some ⟨g, 0, none⟩) n cap) xs) (hn : n = xs.length)
    (ad : Addr) (m c : Nat) (hx : a.eval x = .slice (some ad) m c) (ys : List Int) (hm : m = ys.length) (hc : ∀ j, j < ys.length → w.cell? (ad.add j) = some (.int .i64 (ys.getD j 0))) (hl : n + m ≤ 1000000000) (hB : B ≤ w.heap.size) (r : Nat) (hr : n + m = r)
    (h : ∀ g' cap' w', Own w' B (.slice (some ⟨g', 0, none⟩) r cap') (xs ++ ys) → w.grownBy w' (some g) → (g' = g ∨ g' = w.heap.size) → wpList Try.prog ops Q rest (a.put o.dst (.slice (some ⟨g', 0, none⟩) r cap')) w') :
    wpList Try.prog ops Q (o :: rest) a w :=
  wpList_plain hgd fun _ hK => wp_cat s x ho B g n cap xs hs hown hn ad m c hx ys hm hc hl hB r hr fun g' cap' w' h1 h2 h3 => hK _ _ (h g' cap' w' h1 h2 h3)

/-- The same as a step of a region that draws its order. -/
theorem step_cat {w : World} {ops : Array Oper} {o : Oper} {a : Act} {K : Act → World → Prop} {Q : Exit → Act → World → Prop} {E : Prop} (hgd : o.guard = none) (s x : Operand)
    (ho : o.op = .call { callee := .builtin .append, args := #[s, x], argTypes := #[27, 27] })
    (B g n cap : Nat) (xs : List Int) (hs : a.eval s = .slice (some ⟨g, 0, none⟩) n cap) (hown : Own w B (.slice (some ⟨g, 0, none⟩) n cap) xs) (hn : n = xs.length)
    (ad : Addr) (m c : Nat) (hx : a.eval x = .slice (some ad) m c) (ys : List Int) (hm : m = ys.length) (hc : ∀ j, j < ys.length → w.cell? (ad.add j) = some (.int .i64 (ys.getD j 0))) (hl : n + m ≤ 1000000000) (hB : B ≤ w.heap.size) (r : Nat) (hr : n + m = r)
    (h : ∀ g' cap' w', Own w' B (.slice (some ⟨g', 0, none⟩) r cap') (xs ++ ys) → w.grownBy w' (some g) → (g' = g ∨ g' = w.heap.size) → K (a.put o.dst (.slice (some ⟨g', 0, none⟩) r cap')) w') :
    if Region.wanted o (yielded ops a.tmps) = true then Oper.wp Try.prog o a w K Q else E := by
  have hw : Region.wanted o (yielded ops a.tmps) = true := by simp [Region.wanted, hgd]
  rw [if_pos hw]
  exact wp_cat s x ho B g n cap xs hs hown hn ad m c hx ys hm hc hl hB r hr h

theorem own_rd_cells {w : World} {b off : Nat} {xs : List Int} (h : ∀ j, j < xs.length → w.cell? ⟨b, off + j, none⟩ = some (.int .i64 (xs.getD j 0))) : ∀ j, j < xs.length → w.cell? ((⟨b, off, none⟩ : Addr).add j) = some (.int .i64 (xs.getD j 0)) := by
  intro j hj
  rw [Addr.add_lit]
  exact h j hj

theorem cells_alloc {w : World} {b off : Nat} {xs : List Int} (o : Obj) (h : ∀ j, j < xs.length → w.cell? ⟨b, off + j, none⟩ = some (.int .i64 (xs.getD j 0))) : ∀ j, j < xs.length → (w.alloc o).cell? ((⟨b, off, none⟩ : Addr).add j) = some (.int .i64 (xs.getD j 0)) := by
  intro j hj
  rw [Addr.add_lit, World.cell?_alloc_past _ _ _ (World.block_lt_of_cell? w _ (h j hj))]
  exact h j hj

def partPut (xs : List Int) (k : Int) : List Int × Bool := if partIn xs ∧ xs.length ≠ 8 ∧ 0 ≤ k ∧ k ≤ pSize xs then (xs ++ [k], true) else ([], false)

theorem partPut_len (xs : List Int) (k : Int) (h : xs.length ≤ 1048576) : (partPut xs k).1.length ≤ 2305843009213693952 := by
  unfold partPut
  split
  · simp; omega
  · simp

theorem slicesClone_any (b off ca : Nat) (xs : List Int) (w : World) (hl : xs.length ≤ 1000000) (hc : ∀ j, j < xs.length → w.cell? ⟨b, off + j, none⟩ = some (.int .i64 (xs.getD j 0))) :
    Calls Try.prog 90 #[.slice (some ⟨b, off, none⟩) xs.length ca] w fun e w' => ∃ g cap, e = .returned (.slice (some ⟨g, 0, none⟩) xs.length cap) ∧ Own w' w.heap.size (.slice (some ⟨g, 0, none⟩) xs.length cap) xs ∧ Below w.heap.size w w' := by
  have HC := Lib.hid hc
  clear hc
  go_enter Try.func90, Try.ntmps90
  have hn := fun (w : World) => Lib.run_eql_slice_nil (P := Try.prog) w 27 3 (some ⟨b, off, none⟩) xs.length ca 0 0 Try.underlying27
  go_wp2_with (at_builtin; refine wpList_cat rfl _ _ rfl w.heap.size w.heap.size 0 0 [] rfl (own_empty w _ (Nat.le_refl _)) rfl ⟨b, off, none⟩ _ _ rfl xs rfl (cells_alloc _ HC.out) (by omega) (by simp) xs.length (by omega) ?_)
  intro g' cap' w2 hown2 hgr2 hg2
  have hbel2 : Below w.heap.size w w2 := ((Below.refl _ _).alloc (Nat.le_refl _) _).grown hgr2 (by simp) (fun q hq => by cases hq; exact Nat.le_refl _)
  have HO2 := Lib.hid hown2
  clear hown2 hgr2 hg2
  go_wp2
  go_ret
  exact ⟨g', cap', rfl, HO2.out, hbel2⟩

theorem blockCount_v (v : Value) (xs : List Int) (w : World) (hv : RdV w v xs) (h1 : 1 ≤ xs.length) (hs : Small xs) : Calls Try.prog 69 #[v] w fun e w' => e = .returned (.int .i64 (pSize xs)) ∧ w = w' := by
  obtain ⟨ao, ca, rfl, h, _, h2⟩ := hv
  unfold maxLen at h2
  exact blockCount_any ao ca xs w h h1 (by omega) hs

end Go.Proofs.Ytieldehghmikkaa
