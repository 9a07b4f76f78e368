/-
  The contract of (sorted[pair]).without: a copy, a part of it moved, a slice with its own end of room.
-/
import Derived.Test.YtieldehghmikkaaPairWith
import Derived.Test.YtieldehghmikkaaCopyTwo
import Derived.StillTailTactics
namespace Go.Proofs.Ytieldehghmikkaa
set_option linter.unusedSimpArgs false
set_option linter.unusedVariables false
set_option linter.unnecessarySimpa false
open Go.RowKit
set_option maxRecDepth 100000

theorem arcC_get {L : List (Nat × Nat)} {w : World} {b off : Nat} (h : CellsP w b off L) : ∀ j u, (arcC L)[j]? = some u → w.cell? ((⟨b, off, none⟩ : Addr).add j) = some u := by
  intro j u hj
  have hl : j < (arcC L).length := (List.getElem?_eq_some_iff.1 hj).1
  rw [arcC_length] at hl
  have hk : j / 2 < L.length := by omega
  obtain ⟨a1, a2⟩ := arcC_at L (j / 2) hk
  obtain ⟨c1, c2⟩ := h (j / 2) hk
  rw [Addr.add_lit]
  rcases Nat.mod_two_eq_zero_or_one j with e | e
  · rw [show j / 2 * 2 = j by omega] at a1 c1
    rw [a1] at hj
    rw [c1]
    exact hj
  · rw [show j / 2 * 2 + 1 = j by omega] at a2
    rw [show off + j / 2 * 2 + 1 = off + j by omega] at c2
    rw [a2] at hj
    rw [c2]
    exact hj

theorem splice_all {α : Type} (Z cs : List α) (h : Z.length = cs.length) : splice Z 0 cs = cs := by simp [splice, h]
theorem arcC_one : ∀ (L : List (Nat × Nat)), ∀ v ∈ arcC L, v.oneCell' = true := by
  intro L v hv
  unfold arcC at hv
  obtain ⟨p, _, hp⟩ := List.mem_flatMap.1 hv
  simp at hp
  rcases hp with rfl | rfl <;> rfl
theorem arcC_take (L : List (Nat × Nat)) (k : Nat) : (arcC L).take (k * 2) = arcC (L.take k) := by
  by_cases hk : k ≤ L.length
  · have h := arcC_append (L.take k) (L.drop k)
    rw [List.take_append_drop] at h
    rw [h]
    have hl : (arcC (L.take k)).length = k * 2 := by rw [arcC_length, List.length_take, Nat.min_eq_left hk]
    rw [← hl, List.take_left]
  · rw [List.take_of_length_le (by rw [arcC_length]; omega), List.take_of_length_le (by omega)]

/-- What stands in the row behind both copies. -/
theorem moved (L : List (Nat × Nat)) (k : Nat) (hk : k < L.length) : ∃ T, splice (arcC L) (k * 2) (arcC (L.drop (k + 1))) = arcC (L.eraseIdx k) ++ T := by
  refine ⟨(arcC L).drop (k * 2 + (arcC (L.drop (k + 1))).length), ?_⟩
  unfold splice
  rw [arcC_take, List.eraseIdx_eq_take_drop_succ, arcC_append, List.append_assoc]

theorem cellsP_row {w : World} {g : Nat} {t : TypeId} {L : List (Nat × Nat)} {T : List Value} (h : w.heap[g]? = some (.cells (arcC L ++ T).toArray t (0, 0))) : CellsP w g 0 L := by
  intro j hj
  obtain ⟨a1, a2⟩ := arcC_at L j hj
  have l1 : j * 2 < (arcC L).length := by rw [arcC_length]; omega
  have l2 : j * 2 + 1 < (arcC L).length := by rw [arcC_length]; omega
  have e : ∀ i u, i < (arcC L).length → (arcC L)[i]? = some u → w.cell? ⟨g, i, none⟩ = some u := fun i u hi hu => by
    simp only [World.cell?, h]
    simpa [List.getElem?_append_left hi] using hu
  rw [Nat.zero_add]
  exact ⟨e _ _ l1 a1, e _ _ l2 a2⟩

theorem row_of_own {w : World} {B g n sz : Nat} {t : TypeId} {xs : List Value} (h : w.ownsRow B t sz (.slice (some ⟨g, 0, none⟩) n n) n xs) : w.heap[g]? = some (.cells xs.toArray t (0, 0)) ∧ xs.length = n * sz := by
  rcases h.2 with ⟨h1, _⟩ | ⟨g', cap, cur, hv, _, hg, _, _, hcs, htk⟩
  · cases h1
  · cases hv
    refine ⟨?_, h.1⟩
    rw [hg, ← htk]
    congr 2
    rw [List.take_of_length_le (by rw [Array.length_toList]; omega), Array.toArray_toList]

set_option maxHeartbeats 3200000 in
theorem without_any (v : Value) (L : List (Nat × Nat)) (k : Nat) (w : World) (hv : RdP w v L) (hk : k < L.length) (hl : L.length ≤ 1000000) :
    Calls Try.prog 79 #[v, .int .i64 k] w fun e w' => ∃ v', e = .returned v' ∧ RdP w' v' (L.eraseIdx k) ∧ Below w.heap.size w w' := by
  obtain ⟨ao, cap, rfl, h1, h2, hx⟩ := hv
  rcases hx with rfl | ⟨b, off, rfl, hc⟩
  · simp at hk
  have hcs := arcC_get hc
  have hcl : (arcC L).length = L.length * 2 := arcC_length L
  have hcd : (arcC (L.drop (k + 1))).length = (L.length - (k + 1)) * 2 := by rw [arcC_length, List.length_drop]
  have hmv := moved L k hk
  have hlr : (L.eraseIdx k).length = L.length - 1 := by rw [List.length_eraseIdx_of_lt hk]
  obtain ⟨E, hE⟩ : ∃ E, E = L.eraseIdx k := ⟨_, rfl⟩
  rw [← hE] at hmv hlr ⊢
  obtain ⟨n, hn⟩ : ∃ n, n = L.length := ⟨_, rfl⟩
  rw [← hn] at hk hl h1 hcl hcd hlr ⊢
  have HCS := Lib.hid hcs
  have HCL := Lib.hid hcl
  have HCD := Lib.hid hcd
  have HMV := Lib.hid hmv
  have HLR := Lib.hid hlr
  have hbw : b < w.heap.size := World.block_lt_of_cell? w _ (hc 0 (by omega)).1
  obtain ⟨i0, hi, hz0, hz1, hz2⟩ := info_parts Try.infoPair
  clear hc hcs hcl hcd hmv hlr hE hn
  go_enter Try.func79, Try.ntmps79
  go_wp2_with (at_make; refine wpList_make_full _ rfl _ _ 43 rfl w.heap.size 53 i0 (.agg #[.int .i64 0, .int .i64 0]) 2 Try.underlying43 hi hz0 hz1 _ _ _ _ n rfl rfl rfl rfl (by rw [hz2]; omega) (by unfold maxLen; omega) (Nat.le_refl _) ?_)
  intro w1 hown1 hgrow1
  have hb1 : Below w.heap.size w w1 := (Below.refl _ _).grown hgrow1 (Nat.le_refl _) (fun k h => by cases h)
  obtain ⟨hg1, hZl⟩ := row_of_own hown1
  obtain ⟨Z, hZ⟩ : ∃ Z, Z = (madeCells #[Value.int IntKind.i64 0, Value.int IntKind.i64 0] (n * 2)).toList := ⟨_, rfl⟩
  rw [← hZ] at hg1 hZl
  have HG1 := Lib.hid hg1
  have hcs1 : ∀ j u, (arcC L)[j]? = some u → w1.cell? ((⟨b, off, none⟩ : Addr).add j) = some u := fun j u h => cellSt (HCS.out j u h) hb1
  have HC1 := Lib.hid hcs1
  have hZa : splice Z 0 (arcC L) = arcC L := splice_all _ _ (by rw [hZl, HCL.out])
  have HZA := Lib.hid hZa
  have HZL := Lib.hid hZl
  have hH : w.heap.size < w1.heap.size := (Array.getElem?_eq_some_iff.1 hg1).1
  have HB1 := Lib.hid hb1
  clear hown1 hgrow1 hg1 hZl hZ hcs1 hZa hb1 hH
  go_wp2_with (refine wpList_copy_rows rfl _ _ _ _ rfl 53 2 Try.underlying43 (by rw [hi]; exact congrArg some hz1) _ _ _ _ _ _ rfl rfl w.heap.size 0 Z 53 HG1.out (arcC L) (by have := HCL.out; simp; omega) (by decide) (fun _ => ⟨rfl, _, rfl, HC1.out⟩) (by have := HZL.out; have := HCL.out; omega) (arcC_one L) w.heap.size w HB1.out (Nat.le_refl _) ?_; intro w2 HG2 HB2)
  have hg2 := HG2.out
  rw [HZA.out] at hg2
  have hrow2 : CellsP w2 w.heap.size 0 L := cellsP_row (T := []) (t := 53) (by rw [List.append_nil]; exact hg2)
  have hsrc2 := arcC_get (cellsP_drop hrow2 (k + 1))
  rw [Nat.zero_add] at hsrc2
  obtain ⟨w3, hw3⟩ : ∃ w3, w3 = w2.drew := ⟨_, rfl⟩
  have hg3 : w3.heap[w.heap.size]? = some (.cells (arcC L).toArray 53 (0, 0)) := by rw [hw3]; exact hg2
  have hsrc3 : ∀ j u, (arcC (L.drop (k + 1)))[j]? = some u → w3.cell? ((⟨w.heap.size, (k + 1) * 2, none⟩ : Addr).add j) = some u := by rw [hw3]; exact hsrc2
  have HB3 : Hid (Below w.heap.size w w3) := Lib.hid (by rw [hw3]; exact HB2.drew)
  have HG3 := Lib.hid hg3
  have HS3 := Lib.hid hsrc3
  clear hg2 hrow2 hsrc2 hg3 hsrc3 HG2 HB2 HG1 HB1 HC1 HCS HZA
  have w1' : IntKind.i64.wrap ((k : Int) + 1) = (k : Int) + 1 := IntWalk.i64_in _ (by omega)
  have t1 : ((k : Int) + 1).toNat = k + 1 := by omega
  have hne : ¬ n = k := by omega
  have b3 : (0 : Int) ≤ (k : Int) + 1 := by omega
  have b0 : (0 : Int) ≤ (k : Int) := by omega
  have b1 : (k : Int) ≤ (n : Int) := by omega
  have b2 : ((k : Int)) + 1 ≤ (n : Int) := by omega
  have w2' : IntKind.i64.wrap ((n : Int) - 1) = (n : Int) - 1 := IntWalk.i64_in _ (by omega)
  have t2 : ((n : Int) - 1).toNat = n - 1 := by omega
  have b4 : (0 : Int) ≤ (n : Int) - 1 := by omega
  have b5 : (n : Int) - 1 ≤ (n : Int) := by omega
  by_cases hkn : n = k + 1
  · have hkn2 : k + 1 = n := hkn.symm
    clear hkn
    go_still_tail 7, (by kernel_rfl)
    change wpList _ _ _ _ _ w2.drew
    rw [← hw3]
    refine wpList_copy_rows rfl _ _ _ _ rfl 53 2 Try.underlying43 (by rw [hi]; exact congrArg some hz1) _ _ _ _ _ _ rfl rfl w.heap.size (k * 2) (arcC L) 53 HG3.out (arcC (L.drop (k + 1))) (by rw [HCD.out]; simp <;> omega) (by decide) (fun h => absurd h (by have := HCD.out; omega)) (by have := HCD.out; have := HCL.out; omega) (arcC_one _) w.heap.size w HB3.out (Nat.le_refl _) ?_
    intro w4 HG4 HB4
    have HC4 : Hid (CellsP w4 w.heap.size 0 E) := Lib.hid (by
      obtain ⟨T, hT⟩ := HMV.out
      have := HG4.out
      rw [hT] at this
      exact cellsP_row this)
    clear HG4 HG3 HS3
    have HRD : Hid (RdP w4 (.slice (some ⟨w.heap.size, 0, none⟩) (n - 1) (n - 1)) E) := Lib.hid ⟨_, n - 1, by rw [HLR.out], by rw [HLR.out]; exact Nat.le_refl _, by unfold maxLen; omega, .inr ⟨_, _, rfl, HC4.out⟩⟩
    go_wp2
    go_ret
    exact ⟨_, rfl, HRD.out, HB4⟩
  · go_still_tail 7, (by kernel_rfl)
    change wpList _ _ _ _ _ w2.drew
    rw [← hw3]
    refine wpList_copy_rows rfl _ _ _ _ rfl 53 2 Try.underlying43 (by rw [hi]; exact congrArg some hz1) _ _ _ _ _ _ rfl rfl w.heap.size (k * 2) (arcC L) 53 HG3.out (arcC (L.drop (k + 1))) (by rw [HCD.out]; exact congrArg (· * 2) (Nat.min_eq_left (by omega)).symm) (by decide) (fun _ => ⟨rfl, _, rfl, HS3.out⟩) (by have := HCD.out; have := HCL.out; omega) (arcC_one _) w.heap.size w HB3.out (Nat.le_refl _) ?_
    intro w4 HG4 HB4
    have HC4 : Hid (CellsP w4 w.heap.size 0 E) := Lib.hid (by
      obtain ⟨T, hT⟩ := HMV.out
      have := HG4.out
      rw [hT] at this
      exact cellsP_row this)
    clear HG4 HG3 HS3
    have HRD : Hid (RdP w4 (.slice (some ⟨w.heap.size, 0, none⟩) (n - 1) (n - 1)) E) := Lib.hid ⟨_, n - 1, by rw [HLR.out], by rw [HLR.out]; exact Nat.le_refl _, by unfold maxLen; omega, .inr ⟨_, _, rfl, HC4.out⟩⟩
    go_wp2
    go_ret
    exact ⟨_, rfl, HRD.out, HB4⟩

end Go.Proofs.Ytieldehghmikkaa
