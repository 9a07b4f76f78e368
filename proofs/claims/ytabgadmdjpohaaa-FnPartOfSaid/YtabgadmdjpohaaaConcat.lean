/-
  The contracts of slices.Grow (on the nil slice) and slices.Concat (on two slices).
-/
import Derived.Test.YtabgadmdjpohaaaPut
import Derived.Lib.AppendZerosOnto
namespace Go.Proofs.Ytabgadmdjpohaaa
set_option linter.unusedSimpArgs false
set_option linter.unusedVariables false
set_option linter.unnecessarySimpa false
open Go.RowKit

set_option maxHeartbeats 1600000 in
theorem slicesGrow_any (n : Nat) (w : World) (h1 : 1 ≤ n) (hl : n ≤ 1000000) :
    Calls Try.prog 93 #[.slice none 0 0, .int .i64 n] w fun e w' => ∃ G, e = .returned (.slice (some ⟨w.heap.size, 0, none⟩) 0 G) ∧ n ≤ G ∧ Own w' w.heap.size (.slice (some ⟨w.heap.size, 0, none⟩) 0 G) [] ∧ Below w.heap.size w w' := by
  obtain ⟨i0, hi, hz0, hz1, hz2⟩ := info_parts Try.infoInt
  have hold : (Builtin.firstCells i0.size 0 (.slice none 0 0)).run Try.prog w.drew = .ok ([] : List Value).toArray w.drew := run_firstCells_none w.drew i0.size 0 0 0
  have hrz : ∀ ty, (Builtin.append_ #[26, 3] ty #[.slice none 0 0, .int .i64 (n : Int)]).run Try.prog w =
      .ok (.slice (some ⟨w.heap.size, 0, none⟩) n (grownCap w n 0 3)) (w.drew.alloc (.cells (([] : List Value).toArray ++ Builtin.zeroCells #[.int .i64 0] n ++ Builtin.zeroCells #[.int .i64 0] (grownCap w n 0 3 - n)) 3)) := fun ty => by
    have h := Lib.run_append_grow_zeros w 26 3 ty 3 i0 (.int .i64 0) .i64 .i64 Try.underlying26 Try.underlying3 hi hz0 none 0 0 [] hold n (by omega) (by rw [hz1]; omega) (by omega) (by omega) (by rw [hz2]; omega)
      (by rw [Nat.zero_add, hz2]; exact growslice_fits (by omega) (by omega))
    rw [Nat.zero_add] at h
    exact h
  have hGn : n ≤ grownCap w n 0 3 := grownCap_ge w _ _ _
  have hG63 := grownCap_le_maxLen w n 0 3 (by unfold maxLen; omega)
  obtain ⟨G, hG⟩ : ∃ G, G = grownCap w n 0 3 := ⟨_, rfl⟩
  rw [← hG] at hrz hGn hG63
  unfold maxLen at hG63
  have HR := Lib.hid hrz
  clear hold hG hrz
  go_enter Try.func93, Try.ntmps93
  go_wp2_with (at_builtin; refine Lib.wpList_append_run _ rfl _ _ _ _ rfl _ _ rfl rfl _ _ (HR.out _) ?_)
  all_goals go_ret
  refine ⟨G, rfl, hGn, ?_, (Below.refl _ _).drew.alloc (Nat.le_refl w.heap.size) _⟩
  exact World.ownsRow_made w.drew _ G (Nat.le_refl _) (by unfold maxLen; omega) (by simp [Builtin.zeroCells]; omega)

set_option maxRecDepth 100000 in
set_option maxHeartbeats 4000000 in
theorem slicesConcat_any (g : Nat) (a1 a2 : Addr) (c1 c2 n1 n2 : Nat) (xs ys : List Int) (w : World) (hn1 : n1 = xs.length) (hn2 : n2 = ys.length) (hl : 1 ≤ n1 + n2) (hl2 : n1 + n2 ≤ 1000)
    (hg0 : w.cell? ⟨g, 0, none⟩ = some (.slice (some a1) n1 c1)) (hg1 : w.cell? ⟨g, 1, none⟩ = some (.slice (some a2) n2 c2))
    (hx : ∀ j, j < xs.length → w.cell? (a1.add j) = some (.int .i64 (xs.getD j 0))) (hy : ∀ j, j < ys.length → w.cell? (a2.add j) = some (.int .i64 (ys.getD j 0))) :
    Calls Try.prog 76 #[.slice (some ⟨g, 0, none⟩) 2 2] w (FreshL w (xs ++ ys)) := by
  have HX := Lib.hid hx
  have HY := Lib.hid hy
  have HN1 := Lib.hid hn1
  have HN2 := Lib.hid hn2
  have HG0 := Lib.hid hg0
  have HG1 := Lib.hid hg1
  clear hx hy hn1 hn2
  go_enter Try.func76, Try.ntmps76
  go_wp2
  refine wp_loop_rounds 3 ?_
  rw [rounds_succ]
  go_wp2_with fail
  rw [rounds_succ]
  go_wp2_with fail
  rw [rounds_succ]
  go_wp2_with fail
  rw [show (n1 : Int) + (n2 : Int) = ((n1 + n2 : Nat) : Int) by omega]
  refine (slicesGrow_any (n1 + n2) _ hl (by omega)).mono ?_
  rintro e w1 ⟨G, rfl, hG, ho1, hb1⟩
  have hg0 : w1.cell? ⟨g, 0, none⟩ = some (.slice (some a1) n1 c1) := by rw [hb1.cell (World.block_lt_of_cell? w _ HG0.out)]; exact HG0.out
  have hg1 : w1.cell? ⟨g, 1, none⟩ = some (.slice (some a2) n2 c2) := by rw [hb1.cell (World.block_lt_of_cell? w _ HG1.out)]; exact HG1.out
  have HO1 := Lib.hid ho1
  clear ho1
  go_wp2
  refine wp_loop_rounds 3 ?_
  rw [rounds_succ]
  go_wp2_with (at_builtin; refine wpList_cat rfl _ _ rfl w.heap.size w.heap.size 0 G [] rfl HO1.out rfl a1 n1 c1 rfl xs HN1.out (fun j hj => by rw [hb1.cell (World.block_lt_of_cell? w _ (HX.out j hj))]; exact HX.out j hj) (by omega) hb1.size n1 (by omega) ?_)
  intro g2 cap2 w2 hown2 hgr2 hg2
  have hbel2 : Below w.heap.size w w2 := hb1.grown hgr2 hb1.size (fun q hq => by cases hq; exact Nat.le_refl _)
  have hg1' : w2.cell? ⟨g, 1, none⟩ = some (.slice (some a2) n2 c2) := by rw [hbel2.cell (World.block_lt_of_cell? w _ HG1.out)]; exact HG1.out
  have HO2 := Lib.hid hown2
  clear hown2 hgr2 hg2 hg0 hg1
  go_wp2_with fail
  rw [rounds_succ]
  go_wp2_with (at_builtin; refine wpList_cat rfl _ _ rfl w.heap.size g2 n1 cap2 xs rfl HO2.out HN1.out a2 n2 c2 rfl ys HN2.out (fun j hj => by rw [hbel2.cell (World.block_lt_of_cell? w _ (HY.out j hj))]; exact HY.out j hj) (by omega) hbel2.size (n1 + n2) (by omega) ?_)
  intro g3 cap3 w3 hown3 hgr3 hg3
  have hbel3 : Below w.heap.size w w3 := hbel2.grown hgr3 hbel2.size (fun q hq => by cases hq; exact (own_lt HO2.out g2 rfl).1)
  have HO3 := Lib.hid hown3
  clear hown3 hgr3 hg3
  go_wp2_with fail
  rw [rounds_succ]
  go_wp2_with fail
  go_ret
  exact ⟨_, rfl, HO3.out, hbel3⟩

end Go.Proofs.Ytabgadmdjpohaaa
