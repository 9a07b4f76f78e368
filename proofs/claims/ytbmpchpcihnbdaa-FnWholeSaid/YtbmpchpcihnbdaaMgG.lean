/-
  What the laws of this claim lean on: what functions of the program and of the model answer, one after another, and plain mathematics. No condition.
-/
import Derived.Test.YtbmpchpcihnbdaaMgA
import Derived.Test.YtbmpchpcihnbdaaMgB
import Derived.Test.YtbmpchpcihnbdaaMgC
import Derived.Test.YtbmpchpcihnbdaaMgD
import Derived.Test.YtbmpchpcihnbdaaMgE
import Derived.Test.YtbmpchpcihnbdaaMgF
import Derived.StillTailTactics

/-
  The contract of (sorted[pair]).without: a copy, a part of it moved, a slice with its own end of room.
-/
namespace Go.Proofs.Ytbmpchpcihnbdaa
set_option linter.unusedSimpArgs false
set_option linter.unusedVariables false
set_option linter.unnecessarySimpa false
open Go.RowKit
set_option maxRecDepth 100000

theorem arcC_get {L : List (Nat × Nat)} {w : World} {b off : Nat} (h : CellsP w b off L) : ∀ j u, (arcC L)[j]? = some u → w.cell? ((⟨b, off, none⟩ : Addr).add j) = some u := by
  intro j u hj
  have hl : j < (arcC L).length := (List.getElem?_eq_some_iff.1 hj).1
  rw [arcC_length] at hl
  have hk : j / 2 < L.length := by omega
  obtain ⟨a1, a2⟩ := arcC_at L (j / 2) hk
  obtain ⟨c1, c2⟩ := h (j / 2) hk
  rw [Addr.add_lit]
  rcases Nat.mod_two_eq_zero_or_one j with e | e
  · rw [show j / 2 * 2 = j by omega] at a1 c1
    rw [a1] at hj
    rw [c1]
    exact hj
  · rw [show j / 2 * 2 + 1 = j by omega] at a2
    rw [show off + j / 2 * 2 + 1 = off + j by omega] at c2
    rw [a2] at hj
    rw [c2]
    exact hj

theorem splice_all {α : Type} (Z cs : List α) (h : Z.length = cs.length) : splice Z 0 cs = cs := by simp [splice, h]
theorem arcC_one : ∀ (L : List (Nat × Nat)), ∀ v ∈ arcC L, v.oneCell' = true := by
  intro L v hv
  unfold arcC at hv
  obtain ⟨p, _, hp⟩ := List.mem_flatMap.1 hv
  simp at hp
  rcases hp with rfl | rfl <;> rfl
theorem arcC_take (L : List (Nat × Nat)) (k : Nat) : (arcC L).take (k * 2) = arcC (L.take k) := by
  by_cases hk : k ≤ L.length
  · have h := arcC_append (L.take k) (L.drop k)
    rw [List.take_append_drop] at h
    rw [h]
    have hl : (arcC (L.take k)).length = k * 2 := by rw [arcC_length, List.length_take, Nat.min_eq_left hk]
    rw [← hl, List.take_left]
  · rw [List.take_of_length_le (by rw [arcC_length]; omega), List.take_of_length_le (by omega)]

/-- What stands in the row behind both copies. -/
theorem moved (L : List (Nat × Nat)) (k : Nat) (hk : k < L.length) : ∃ T, splice (arcC L) (k * 2) (arcC (L.drop (k + 1))) = arcC (L.eraseIdx k) ++ T := by
  refine ⟨(arcC L).drop (k * 2 + (arcC (L.drop (k + 1))).length), ?_⟩
  unfold splice
  rw [arcC_take, List.eraseIdx_eq_take_drop_succ, arcC_append, List.append_assoc]

theorem cellsP_row {w : World} {g : Nat} {t : TypeId} {L : List (Nat × Nat)} {T : List Value} (h : w.heap[g]? = some (.cells (arcC L ++ T).toArray t (0, 0))) : CellsP w g 0 L := by
  intro j hj
  obtain ⟨a1, a2⟩ := arcC_at L j hj
  have l1 : j * 2 < (arcC L).length := by rw [arcC_length]; omega
  have l2 : j * 2 + 1 < (arcC L).length := by rw [arcC_length]; omega
  have e : ∀ i u, i < (arcC L).length → (arcC L)[i]? = some u → w.cell? ⟨g, i, none⟩ = some u := fun i u hi hu => by
    simp only [World.cell?, h]
    simpa [List.getElem?_append_left hi] using hu
  rw [Nat.zero_add]
  exact ⟨e _ _ l1 a1, e _ _ l2 a2⟩

theorem row_of_own {w : World} {B g n sz : Nat} {t : TypeId} {xs : List Value} (h : w.ownsRow B t sz (.slice (some ⟨g, 0, none⟩) n n) n xs) : w.heap[g]? = some (.cells xs.toArray t (0, 0)) ∧ xs.length = n * sz := by
  rcases h.2 with ⟨h1, _⟩ | ⟨g', cap, cur, hv, _, hg, _, _, hcs, htk⟩
  · cases h1
  · cases hv
    refine ⟨?_, h.1⟩
    rw [hg, ← htk]
    congr 2
    rw [List.take_of_length_le (by rw [Array.length_toList]; omega), Array.toArray_toList]

set_option maxHeartbeats 3200000 in
theorem without_any (v : Value) (L : List (Nat × Nat)) (k : Nat) (w : World) (hv : RdP w v L) (hk : k < L.length) (hl : L.length ≤ 1000000) :
    Calls Try.prog 98 #[v, .int .i64 k] w fun e w' => ∃ v', e = .returned v' ∧ RdP w' v' (L.eraseIdx k) ∧ Below w.heap.size w w' := by
  obtain ⟨ao, cap, rfl, h1, h2, hx⟩ := hv
  rcases hx with rfl | ⟨b, off, rfl, hc⟩
  · simp at hk
  have hcs := arcC_get hc
  have hcl : (arcC L).length = L.length * 2 := arcC_length L
  have hcd : (arcC (L.drop (k + 1))).length = (L.length - (k + 1)) * 2 := by rw [arcC_length, List.length_drop]
  have hmv := moved L k hk
  have hlr : (L.eraseIdx k).length = L.length - 1 := by rw [List.length_eraseIdx_of_lt hk]
  obtain ⟨E, hE⟩ : ∃ E, E = L.eraseIdx k := ⟨_, rfl⟩
  rw [← hE] at hmv hlr ⊢
  obtain ⟨n, hn⟩ : ∃ n, n = L.length := ⟨_, rfl⟩
  rw [← hn] at hk hl h1 hcl hcd hlr ⊢
  have HCS := Lib.hid hcs
  have HCL := Lib.hid hcl
  have HCD := Lib.hid hcd
  have HMV := Lib.hid hmv
  have HLR := Lib.hid hlr
  have hbw : b < w.heap.size := World.block_lt_of_cell? w _ (hc 0 (by omega)).1
  obtain ⟨i0, hi, hz0, hz1, hz2⟩ := info_parts Try.infoPair
  clear hc hcs hcl hcd hmv hlr hE hn
  go_enter Try.func98, Try.ntmps98
  go_wp2_with (at_make; refine wpList_make_full _ rfl _ _ 46 rfl w.heap.size 62 i0 (.agg #[.int .i64 0, .int .i64 0]) 2 Try.underlying46 hi hz0 hz1 _ _ _ _ n rfl rfl rfl rfl (by rw [hz2]; omega) (by unfold maxLen; omega) (Nat.le_refl _) ?_)
  intro w1 hown1 hgrow1
  have hb1 : Below w.heap.size w w1 := (Below.refl _ _).grown hgrow1 (Nat.le_refl _) (fun k h => by cases h)
  obtain ⟨hg1, hZl⟩ := row_of_own hown1
  obtain ⟨Z, hZ⟩ : ∃ Z, Z = (madeCells #[Value.int IntKind.i64 0, Value.int IntKind.i64 0] (n * 2)).toList := ⟨_, rfl⟩
  rw [← hZ] at hg1 hZl
  have HG1 := Lib.hid hg1
  have hcs1 : ∀ j u, (arcC L)[j]? = some u → w1.cell? ((⟨b, off, none⟩ : Addr).add j) = some u := fun j u h => cellSt (HCS.out j u h) hb1
  have HC1 := Lib.hid hcs1
  have hZa : splice Z 0 (arcC L) = arcC L := splice_all _ _ (by rw [hZl, HCL.out])
  have HZA := Lib.hid hZa
  have HZL := Lib.hid hZl
  have hH : w.heap.size < w1.heap.size := (Array.getElem?_eq_some_iff.1 hg1).1
  have HB1 := Lib.hid hb1
  clear hown1 hgrow1 hg1 hZl hZ hcs1 hZa hb1 hH
  go_wp2_with (refine wpList_copy_rows rfl _ _ _ _ rfl 62 2 Try.underlying46 (by rw [hi]; exact congrArg some hz1) _ _ _ _ _ _ rfl rfl w.heap.size 0 Z 62 HG1.out (arcC L) (by have := HCL.out; simp; omega) (by decide) (fun _ => ⟨rfl, _, rfl, HC1.out⟩) (by have := HZL.out; have := HCL.out; omega) (arcC_one L) w.heap.size w HB1.out (Nat.le_refl _) ?_; intro w2 HG2 HB2)
  have hg2 := HG2.out
  rw [HZA.out] at hg2
  have hrow2 : CellsP w2 w.heap.size 0 L := cellsP_row (T := []) (t := 62) (by rw [List.append_nil]; exact hg2)
  have hsrc2 := arcC_get (cellsP_drop hrow2 (k + 1))
  rw [Nat.zero_add] at hsrc2
  obtain ⟨w3, hw3⟩ : ∃ w3, w3 = w2.drew := ⟨_, rfl⟩
  have hg3 : w3.heap[w.heap.size]? = some (.cells (arcC L).toArray 62 (0, 0)) := by rw [hw3]; exact hg2
  have hsrc3 : ∀ j u, (arcC (L.drop (k + 1)))[j]? = some u → w3.cell? ((⟨w.heap.size, (k + 1) * 2, none⟩ : Addr).add j) = some u := by rw [hw3]; exact hsrc2
  have HB3 : Hid (Below w.heap.size w w3) := Lib.hid (by rw [hw3]; exact HB2.drew)
  have HG3 := Lib.hid hg3
  have HS3 := Lib.hid hsrc3
  clear hg2 hrow2 hsrc2 hg3 hsrc3 HG2 HB2 HG1 HB1 HC1 HCS HZA
  have w1' : IntKind.i64.wrap ((k : Int) + 1) = (k : Int) + 1 := IntWalk.i64_in _ (by omega)
  have t1 : ((k : Int) + 1).toNat = k + 1 := by omega
  have hne : ¬ n = k := by omega
  have b3 : (0 : Int) ≤ (k : Int) + 1 := by omega
  have b0 : (0 : Int) ≤ (k : Int) := by omega
  have b1 : (k : Int) ≤ (n : Int) := by omega
  have b2 : ((k : Int)) + 1 ≤ (n : Int) := by omega
  have w2' : IntKind.i64.wrap ((n : Int) - 1) = (n : Int) - 1 := IntWalk.i64_in _ (by omega)
  have t2 : ((n : Int) - 1).toNat = n - 1 := by omega
  have b4 : (0 : Int) ≤ (n : Int) - 1 := by omega
  have b5 : (n : Int) - 1 ≤ (n : Int) := by omega
  by_cases hkn : n = k + 1
  · have hkn2 : k + 1 = n := hkn.symm
    clear hkn
    go_still_tail 7, (by kernel_rfl)
    change wpList _ _ _ _ _ w2.drew
    rw [← hw3]
    refine wpList_copy_rows rfl _ _ _ _ rfl 62 2 Try.underlying46 (by rw [hi]; exact congrArg some hz1) _ _ _ _ _ _ rfl rfl w.heap.size (k * 2) (arcC L) 62 HG3.out (arcC (L.drop (k + 1))) (by rw [HCD.out]; simp <;> omega) (by decide) (fun h => absurd h (by have := HCD.out; omega)) (by have := HCD.out; have := HCL.out; omega) (arcC_one _) w.heap.size w HB3.out (Nat.le_refl _) ?_
    intro w4 HG4 HB4
    have HC4 : Hid (CellsP w4 w.heap.size 0 E) := Lib.hid (by
      obtain ⟨T, hT⟩ := HMV.out
      have := HG4.out
      rw [hT] at this
      exact cellsP_row this)
    clear HG4 HG3 HS3
    have HRD : Hid (RdP w4 (.slice (some ⟨w.heap.size, 0, none⟩) (n - 1) (n - 1)) E) := Lib.hid ⟨_, n - 1, by rw [HLR.out], by rw [HLR.out]; exact Nat.le_refl _, by unfold maxLen; omega, .inr ⟨_, _, rfl, HC4.out⟩⟩
    go_wp2
    go_ret
    exact ⟨_, rfl, HRD.out, HB4⟩
  · go_still_tail 7, (by kernel_rfl)
    change wpList _ _ _ _ _ w2.drew
    rw [← hw3]
    refine wpList_copy_rows rfl _ _ _ _ rfl 62 2 Try.underlying46 (by rw [hi]; exact congrArg some hz1) _ _ _ _ _ _ rfl rfl w.heap.size (k * 2) (arcC L) 62 HG3.out (arcC (L.drop (k + 1))) (by rw [HCD.out]; exact congrArg (· * 2) (Nat.min_eq_left (by omega)).symm) (by decide) (fun _ => ⟨rfl, _, rfl, HS3.out⟩) (by have := HCD.out; have := HCL.out; omega) (arcC_one _) w.heap.size w HB3.out (Nat.le_refl _) ?_
    intro w4 HG4 HB4
    have HC4 : Hid (CellsP w4 w.heap.size 0 E) := Lib.hid (by
      obtain ⟨T, hT⟩ := HMV.out
      have := HG4.out
      rw [hT] at this
      exact cellsP_row this)
    clear HG4 HG3 HS3
    have HRD : Hid (RdP w4 (.slice (some ⟨w.heap.size, 0, none⟩) (n - 1) (n - 1)) E) := Lib.hid ⟨_, n - 1, by rw [HLR.out], by rw [HLR.out]; exact Nat.le_refl _, by unfold maxLen; omega, .inr ⟨_, _, rfl, HC4.out⟩⟩
    go_wp2
    go_ret
    exact ⟨_, rfl, HRD.out, HB4⟩

end Go.Proofs.Ytbmpchpcihnbdaa

/-
  The contracts of othersOf, l8Has and of PairOther of both sides.
-/
namespace Go.Proofs.Ytbmpchpcihnbdaa
set_option linter.unusedSimpArgs false
set_option linter.unusedVariables false
set_option linter.unnecessarySimpa false
open Go.RowKit
set_option maxRecDepth 100000

theorem cmpP_self (p : Nat × Nat) : ¬ cmpP p p < 0 := by rw [cmpP_lt]; exact ltP_irrefl p

/-- What is taken away at its place is taken away. -/
theorem erase_ahead (p : Nat × Nat) : ∀ l : List (Nat × Nat), l.Pairwise ltP → p ∈ l → aheadN p l < l.length ∧ l.eraseIdx (aheadN p l) = l.filter fun q => q != p := by
  intro l
  induction l with
  | nil => intro _ h; cases h
  | cons q l ih =>
    intro hs hm
    obtain ⟨h1, h2⟩ := List.pairwise_cons.1 hs
    by_cases e : p = q
    · subst e
      have ha : aheadN p (p :: l) = 0 := by unfold aheadN; rw [if_neg (cmpP_self p)]
      rw [ha]
      refine ⟨by simp, ?_⟩
      rw [List.eraseIdx_zero, List.filter_cons]
      simp only [bne_self_eq_false, Bool.false_eq_true, if_false, List.tail_cons]
      symm
      rw [List.filter_eq_self]
      intro x hx
      have := h1 x hx
      simp only [bne_iff_ne, ne_eq]
      intro e2
      rw [e2] at this
      exact ltP_irrefl _ this
    · have hm2 : p ∈ l := (List.mem_cons.1 hm).resolve_left e
      obtain ⟨i1, i2⟩ := ih h2 hm2
      have hlt : cmpP q p < 0 := by rw [cmpP_lt]; exact h1 p hm2
      have ha : aheadN p (q :: l) = aheadN p l + 1 := by rw [aheadN, if_pos hlt]
      rw [ha]
      refine ⟨by simp; omega, ?_⟩
      rw [List.eraseIdx_cons_succ, i2, List.filter_cons]
      have hne : (q != p) = true := by simp only [bne_iff_ne, ne_eq]; exact fun e2 => e e2.symm
      rw [hne]
      rfl

/-- All pairs less the first k of a list. -/
def othersTo (n : Nat) (L : List (Nat × Nat)) (k : Nat) : List (Nat × Nat) := (allP n).filter fun p => !(L.take k).contains p
theorem othersTo_zero (n : Nat) (L : List (Nat × Nat)) : othersTo n L 0 = allP n := by
  unfold othersTo
  rw [List.filter_eq_self]
  intro p _
  simp
theorem othersTo_next {n : Nat} {L : List (Nat × Nat)} (hn : n < 7) (hs : L.Sublist (allP n)) {k : Nat} (hk : k < L.length) :
    aheadN (L.getD k (0, 0)) (othersTo n L k) < (othersTo n L k).length ∧ (othersTo n L k).eraseIdx (aheadN (L.getD k (0, 0)) (othersTo n L k)) = othersTo n L (k + 1) := by
  have hso : (othersTo n L k).Pairwise ltP := (allP_sorted n hn).sublist List.filter_sublist
  have hd := sorted_nodup ((allP_sorted n hn).sublist hs)
  have hg : L.getD k (0, 0) = L[k] := by simp [List.getD, hk]
  have hnt : L[k] ∉ L.take k := fun hm => by
    obtain ⟨j, hj, e⟩ := List.getElem_of_mem hm
    rw [List.getElem_take] at e
    rw [List.length_take] at hj
    exact (List.pairwise_iff_getElem.1 hd) j k (by omega) hk (by omega) e
  have hm : L.getD k (0, 0) ∈ othersTo n L k := by
    unfold othersTo
    rw [hg, List.mem_filter]
    exact ⟨hs.subset (List.getElem_mem hk), by simpa using hnt⟩
  obtain ⟨h1, h2⟩ := erase_ahead _ _ hso hm
  refine ⟨h1, h2.trans ?_⟩
  unfold othersTo
  rw [List.filter_filter]
  apply List.filter_congr
  intro q _
  rw [take_snocP L k hk]
  simp only [List.contains_append, Bool.not_or, List.contains_cons, List.contains_nil, Bool.or_false, Bool.and_comm]
  rfl
theorem othersTo_end (n : Nat) (L : List (Nat × Nat)) : othersTo n L L.length = otherP n L := by
  unfold othersTo otherP
  rw [List.take_length]
theorem othersTo_len {n : Nat} (hn : n ≤ 6) (L : List (Nat × Nat)) (k : Nat) : (othersTo n L k).length ≤ 15 := by
  have h1 := List.length_filter_le (fun p => !(L.take k).contains p) (allP n)
  have h2 := allP_le n hn
  unfold othersTo
  omega
theorem ofP_zeros (n : Nat) : ofP (List.replicate n 0) = allP n := by
  unfold ofP
  rw [List.length_replicate, List.filter_eq_self]
  rintro ⟨i, k⟩ hp
  have := mem_allP.1 hp
  simp [List.getD, List.getElem?_replicate, show i < n by omega, show k < n by omega]

set_option maxHeartbeats 4000000 in
theorem othersOf_any (n : Nat) (v : Value) (L : List (Nat × Nat)) (w : World) (hv : RdP w v L) (hs : L.Sublist (allP n)) (h1 : 1 ≤ n) (h6 : n ≤ 6) :
    Calls Try.prog 62 #[.int .i64 n, v] w fun e w' => ∃ v', e = .returned v' ∧ RdP w' v' (otherP n L) ∧ Below w.heap.size w w' := by
  obtain ⟨ao, ca, rfl, hlc, hcm, hx⟩ := hv
  unfold maxLen at hcm
  have HE := Lib.hid (othersTo_end n L)
  have HNX := Lib.hid fun (k : Nat) (hk : k < L.length) => othersTo_next (n := n) (by omega) hs hk
  obtain ⟨m, hm⟩ : ∃ m, m = L.length := ⟨_, rfl⟩
  rw [← hm] at hlc HE HNX ⊢
  have HM := Lib.hid hm
  have HX := Lib.hid hx
  have HFL := Lib.hid (firstLine_any n w h1 (by omega))
  have HLL := Lib.hid fun (w1 : World) => lineList_any (List.replicate n 0) w1 (fun j hj => by simp at hj; simp [List.getD, List.getElem?_replicate, hj]) (by simp; omega)
  have HPO := Lib.hid fun (w1 : World) (u : Value) (hu : RdV w1 u (List.replicate n 0)) => ofP_zeros n ▸ pairsOf_any u (List.replicate n 0) w1 hu (by simp; omega)
  clear hm hx hs
  go_enter Try.func62, Try.ntmps62
  go_wp2_with fail
  refine HFL.out.mono ?_
  rintro e w1 ⟨rfl, hb1⟩
  go_wp2_with fail
  refine (HLL.out _).mono ?_
  rintro e w2 ⟨u2, rfl, ho2, hb2⟩
  have HO2 := Lib.hid (own_rdv ho2)
  have HB2 := Lib.hid (below_step hb1 hb2)
  clear ho2 hb2
  go_wp2_with fail
  refine (HPO.out _ _ HO2.out).mono ?_
  rintro e w3 ⟨u3, rfl, ho3, hb3⟩
  have HO3 : Hid (RdP w3 u3 (othersTo n L 0)) := Lib.hid (by rw [othersTo_zero]; exact ownP_rd ho3)
  have HB3 := Lib.hid (below_step HB2.out hb3)
  clear ho3 hb3
  go_wp2
  go_loopw [5, 14] (fun u i wr => ∃ k : Nat, k ≤ m ∧ i = .int .i64 k ∧ RdP wr u (othersTo n L k) ∧ Below w.heap.size w wr) (fun _ i _ => m - (intOf i).toNat)
  case atStart => exact ⟨0, Nat.zero_le _, rfl, HO3.out, HB3.out⟩
  case round =>
    obtain ⟨k, hk, rfl, hrd, hbel⟩ := hrel
    have HRD := Lib.hid hrd
    have hbs := hbel.size
    clear hrd
    by_cases hlt : k < m
    · rcases HX.out with hx | ⟨bb, off, rfl, hcx⟩
      · have := HM.out
        rw [hx] at this
        simp at this
        omega
      have hcx' := hcx k (by have := HM.out; omega)
      have hc1 := cellSt hcx'.1 hbel
      have hc2 := cellSt hcx'.2 hbel
      obtain ⟨hn1, hn2⟩ := HNX.out k hlt
      have hll := othersTo_len h6 L k
      obtain ⟨⟨a, b⟩, hy⟩ : ∃ y, y = L.getD k (0, 0) := ⟨_, rfl⟩
      rw [← hy] at hc1 hc2 hn1 hn2
      dsimp only at hc1 hc2
      obtain ⟨X, hX⟩ : ∃ X, X = othersTo n L k := ⟨_, rfl⟩
      rw [← hX] at HRD hn1 hn2 hll
      have HA := Lib.hid fun (w4 : World) (hb : Below wr.heap.size wr w4) => ahead_any u5 X (a, b) w4 (rdP_below HRD.out hb) (by omega)
      obtain ⟨q, hq⟩ : ∃ q, q = aheadN (a, b) X := ⟨_, rfl⟩
      rw [← hq] at HA hn1 hn2
      have HW := Lib.hid fun (w4 : World) (hb : Below wr.heap.size wr w4) => hn2 ▸ without_any u5 X q w4 (rdP_below HRD.out hb) hn1 (by omega)
      have b0 : (k : Int) < m := by omega
      have HB4 := Lib.hid ((Below.refl wr.heap.size wr).alloc (Nat.le_refl _) (.cells #[.int .i64 a, .int .i64 b] 62))
      clear hy hcx hcx' hX hq hn1 hn2 hll
      unfold arcV at HA
      have HLT := Lib.hid hlt
      go_wp2_with fail
      refine (HA.out _ HB4.out).mono ?_
      rintro e w5 ⟨rfl, hb5⟩
      have HB5 := Lib.hid (below_step HB4.out hb5)
      clear hb5
      go_wp2_with fail
      refine (HW.out _ HB5.out).mono ?_
      rintro e w6 ⟨u6, rfl, hr6, hb6⟩
      have HB6 := Lib.hid (below_step hbel (below_step HB5.out hb6))
      have HR6 := Lib.hid hr6
      clear hr6 hb6
      go_wp2
      go_roundw
      case rel => exact ⟨k + 1, HLT.out, by go_num, HR6.out, HB6.out⟩
      case measure => have := HLT.out; simp [intOf]; omega
    · have hkm : k = m := by omega
      subst hkm
      rw [HE.out] at HRD
      go_wp2
      go_ret
      exact ⟨_, rfl, HRD.out, hbel⟩

/-- What PairOther answers. -/
def pairOther (n : Int) (ps : List (List Int)) : List (List Int) × Bool := if pairIn n ps then (encPs (otherP n.toNat (decL ps)), true) else ([], false)
theorem otherP_len {n : Nat} (hn : n ≤ 6) (L : List (Nat × Nat)) : (otherP n L).length ≤ 15 := by
  rw [← othersTo_end]
  exact othersTo_len hn L _
theorem pairOther_len (n : Int) (ps : List (List Int)) : (pairOther n ps).1.length ≤ 1000000 ∧ total (pairOther n ps).1 ≤ 1000000 := by
  unfold pairOther
  split
  · rename_i h
    obtain ⟨m, L, rfl, h1, h6, hs, rfl⟩ := pairIn_sub h
    have := otherP_len h6 (decL (encPs L))
    simp only [total_encPs, encPs_length, Int.toNat_natCast]
    omega
  · simp [total]

set_option maxHeartbeats 1600000 in
theorem iPairOther_v (v : Value) (n : Int) (ps : List (List Int)) (w : World) (hv : RdM w v ps) (_ : (Lit.int .i64 n).wf = true) :
    Calls Try.prog 19 #[.int .i64 n, v] w (FreshMB w (pairOther n ps)) := by
  cases h : pairIn n ps with
  | true =>
    have hr : pairOther n ps = (encPs (otherP n.toNat (decL ps)), true) := by simp [pairOther, h]
    obtain ⟨m, L, rfl, h1, h6, hs, he, hin, hl, hd⟩ := pair_open h
    rw [hr, hd, Int.toNat_natCast]
    have HT := Lib.hid (told_yes hv h hd)
    have hol := otherP_len h6 L
    have HC := Lib.hid fun (w1 : World) (u : Value) (hu : RdP w1 u L) => othersOf_any m u L w1 hu hs h1 h6
    obtain ⟨X, hX⟩ : ∃ X, X = otherP m L := ⟨_, rfl⟩
    rw [← hX] at HC hol ⊢
    have HOL := Lib.hid hol
    clear hr h he hin hl hd hs hv hX hol
    go_enter Try.func19, Try.ntmps19
    go_wp2_with fail
    refine HT.out.mono ?_
    rintro e w1 ⟨u, rfl, ho, hb⟩
    have HRD := Lib.hid (ownP_rd ho)
    clear ho
    go_wp2_with fail
    refine (HC.out _ _ HRD.out).mono ?_
    rintro e w2 ⟨u2, rfl, hr2, hb2⟩
    have HR2 := Lib.hid hr2
    have HB2 := Lib.hid (below_step hb hb2)
    clear hr2 hb2
    go_wp2_with fail
    refine (pairLists_any u2 X _ HR2.out (by have := HOL.out; omega)).mono ?_
    rintro e w3 ⟨u3, rfl, ho3, hb3⟩
    go_wp2
    go_ret2
    exact ⟨_, rfl, ownM_mono ho3 HB2.out.size (Nat.le_refl _), below_step HB2.out hb3⟩
  | false =>
    have hr : pairOther n ps = ([], false) := by simp [pairOther, h]
    rw [hr]
    have HT := Lib.hid (told_no hv h)
    clear hr h hv
    go_enter Try.func19, Try.ntmps19
    go_wp2_with fail
    refine HT.out.mono ?_
    rintro e w1 ⟨u, rfl, ho, hb⟩
    go_wp2
    go_ret2
    exact ⟨_, rfl, ownM_nil _ _ _, hb⟩

theorem contains_take_succ (L : List (Nat × Nat)) (k : Nat) (h : k < L.length) (p : Nat × Nat) : (L.take (k + 1)).contains p = ((L.take k).contains p || (L.getD k (0, 0) == p)) := by
  rw [take_snocP L k h, Bool.eq_iff_iff]
  simp only [List.contains_append, Bool.or_eq_true, List.contains_cons, List.contains_nil, Bool.or_false, beq_iff_eq]
  constructor
  · rintro (h | h)
    · exact .inl h
    · exact .inr h.symm
  · rintro (h | h)
    · exact .inl h
    · exact .inr h.symm

set_option maxHeartbeats 4000000 in
theorem l8Has_any (v : Value) (L : List (Nat × Nat)) (i k : Nat) (w : World) (hv : RdM w v (encPs L)) :
    Calls Try.prog 80 #[v, .int .i64 i, .int .i64 k] w (GivesB w (L.contains (i, k))) := by
  obtain ⟨ao, ca, vs, rfl, h1, h2, hx⟩ := encPs_at hv
  unfold maxLen at h2
  obtain ⟨R, hR⟩ : ∃ R, R = L.contains (i, k) := ⟨_, rfl⟩
  have HCS := Lib.hid fun (x : Nat) (h : x < L.length) => contains_take_succ L x h (i, k)
  have HMEM : Hid (∀ x, x < L.length → L.getD x (0, 0) = (i, k) → R = true) := Lib.hid fun x hx e => by
    rw [hR, ← e]
    simp [List.getD, hx]
  have HEND : Hid ((L.take L.length).contains (i, k) = R) := Lib.hid (by rw [List.take_length, hR])
  obtain ⟨m, hm⟩ : ∃ m, m = L.length := ⟨_, rfl⟩
  rw [← hR]
  rw [← hm] at h1 HCS HMEM HEND ⊢
  have HM := Lib.hid hm
  have HX := Lib.hid hx
  clear hm hx hR hv
  go_enter Try.func80, Try.ntmps80
  go_wp2
  go_loopw [7] (fun u wr => ∃ x : Nat, x ≤ m ∧ u = .int .i64 x ∧ Hid ((L.take x).contains (i, k) = false) ∧ w = wr) (fun u _ => m - (intOf u).toNat)
  case atStart => exact ⟨0, Nat.zero_le _, rfl, Lib.hid (by simp), rfl⟩
  case round =>
    obtain ⟨x, hxm, rfl, HC, rfl⟩ := hrel
    by_cases hlt : x < m
    · rcases HX.out with hx | ⟨bb, off, rfl, hcx⟩
      · have := HM.out
        rw [hx] at this
        simp at this
        omega
      obtain ⟨zb, zo, zc, d0, z1, z2, d1, d2⟩ := hcx x (by have := HM.out; omega)
      have HST := Lib.hid (HCS.out x hlt)
      have HME := Lib.hid (HMEM.out x hlt)
      obtain ⟨⟨a, b⟩, hy⟩ : ∃ y, y = L.getD x (0, 0) := ⟨_, rfl⟩
      rw [← hy] at d1 d2 HST HME
      dsimp only at d1 d2
      have b0 : (x : Int) < m := by omega
      clear hcx hy
      by_cases e1 : a = i
      · by_cases e2 : b = k
        · have HR1 := Lib.hid (HME.out (by rw [e1, e2]))
          subst e1 e2
          clear HME HST
          go_wp2
          go_ret
          rw [HR1.out]
          exact ⟨rfl, Below.refl _ _⟩
        · have HS : Hid ((L.take (x + 1)).contains (i, k) = false) := Lib.hid (by rw [HST.out, HC.out]; simp [e2])
          have e3 : ¬ ((b : Int) = (k : Int)) := by omega
          subst e1
          clear HME HST e2
          go_wp2
          go_roundw
          case rel => exact ⟨x + 1, by omega, by go_num, HS, by first | trivial | rfl⟩
          case measure => simp [intOf]; omega
      · have HS : Hid ((L.take (x + 1)).contains (i, k) = false) := Lib.hid (by rw [HST.out, HC.out]; simp [e1])
        have e3 : ¬ ((a : Int) = (i : Int)) := by omega
        clear HME HST e1
        go_wp2
        go_roundw
        case rel => exact ⟨x + 1, by omega, by go_num, HS, by first | trivial | rfl⟩
        case measure => simp [intOf]; omega
    · have hxm' : x = m := by omega
      subst hxm'
      have HR0 := Lib.hid (HEND.out.symm.trans HC.out)
      go_wp2
      go_ret
      rw [HR0.out]
      exact ⟨rfl, Below.refl _ _⟩

set_option maxHeartbeats 4000000 in
theorem sPairOther_v (v : Value) (n : Int) (ps : List (List Int)) (w : World) (hv : RdM w v ps) (hw : (Lit.int .i64 n).wf = true) :
    Calls Try.prog 43 #[.int .i64 n, v] w (FreshMB w (pairOther n ps)) := by
  have hb0 : Below w.heap.size w (w.alloc (.cells #[] 30)) := (Below.refl _ _).alloc (Nat.le_refl _) _
  have hv0 := rdM_below hv hb0
  have HOE := Lib.hid (ownM_empty w w.heap.size (Nat.le_refl _))
  have HB0 := Lib.hid hb0
  cases h : pairIn n ps with
  | true =>
    have hr : pairOther n ps = (encPs (otherP n.toNat (decL ps)), true) := by simp [pairOther, h]
    have HT := Lib.hid (sIn_is true hv0 h hw)
    obtain ⟨m, L, rfl, h1, h6, hs, he, hin, hl, hd⟩ := pair_open h
    rw [hr, hd, Int.toNat_natCast, otherP_sel]
    obtain ⟨f, hf⟩ : ∃ f : Nat × Nat → Bool, f = fun p => !L.contains p := ⟨_, rfl⟩
    have HF : Hid (∀ i k, f (i, k) = !L.contains (i, k)) := Lib.hid fun i k => by rw [hf]
    rw [← hf]
    have HH := Lib.hid fun (i k : Nat) (w1 : World) (hb : Below w.heap.size w w1) => l8Has_any v L i k w1 (by rw [← he]; exact rdM_below hv hb)
    clear hr h he hin hl hd hs hv hf hb0 hv0
    go_enter Try.func43, Try.ntmps43
    go_wp2_with fail
    refine HT.out.mono ?_
    rintro e w1 ⟨rfl, hb⟩
    have HO1 := Lib.hid (ownM_mono (ownM_below HOE.out hb) (Nat.le_refl w.heap.size) (by have := hb.size; simpa using this))
    have HB1 := Lib.hid (HB0.out.trans (hb.mono (by simp)))
    clear hb
    go_wp2
    go_loopw [6, 7] (fun u i wr => ∃ (k : Nat), k ≤ m ∧ i = .int .i64 k ∧ OwnM wr w.heap.size wr.heap.size u (encPs (selRows f m k)) ∧ Below w.heap.size w wr) (fun _ i _ => m - (intOf i).toNat)
    case atStart => exact ⟨0, Nat.zero_le _, rfl, by simpa [selRows, encPs] using HO1.out, HB1.out⟩
    case round =>
      obtain ⟨k, hk, rfl, hown, hbel⟩ := hrel
      by_cases hlt : k < m
      · have HO1 := Lib.hid hown
        have HB1 := Lib.hid hbel
        clear hown hbel
        go_wp2
        go_loopw [6, 8] (fun u i wr => ∃ (t : Nat), k + 1 ≤ t ∧ t ≤ m ∧ i = .int .i64 t ∧ OwnM wr w.heap.size wr.heap.size u (encPs (selRows f m k ++ selRow f k t)) ∧ Below w.heap.size w wr) (fun _ i _ => m - (intOf i).toNat)
        case atStart => exact ⟨k + 1, Nat.le_refl _, by omega, by go_num, by rw [selRow_start f k (k + 1) (Nat.le_refl _), List.append_nil]; exact HO1.out, HB1.out⟩
        case round =>
          obtain ⟨t, ht1, ht, rfl, hown, hbel⟩ := hrel
          have HO := Lib.hid hown
          have hbs := hbel.size
          clear hown
          by_cases htn : t < m
          · have hst := selRow_next f k t (by omega)
            rw [HF.out] at hst
            have hll := sel_len f (n := m) (i := k) (k := t) (by omega) hk ht
            obtain ⟨A, hA⟩ : ∃ A, A = selRows f m k ++ selRow f k t := ⟨_, rfl⟩
            have hst2 : selRows f m k ++ selRow f k (t + 1) = A ++ if (!L.contains (k, t)) then [(k, t)] else [] := by rw [hA, hst, List.append_assoc]
            rw [← hA] at HO hll
            obtain ⟨z, hz⟩ : ∃ z, z = A.length := ⟨_, rfl⟩
            rw [← hz] at hll
            have HZ := Lib.hid hz
            have HH2 := Lib.hid (HH.out k t wr hbel)
            cases hc : L.contains (k, t) with
            | false =>
              rw [hc] at HH2
              have HSE : Hid (selRows f m k ++ selRow f k (t + 1) = A ++ [(k, t)]) := Lib.hid (by rw [hst2, hc]; rfl)
              clear hst hst2 hA hz hc
              go_wp2_with fail
              refine HH2.out.mono ?_
              rintro e w2 ⟨rfl, hb2⟩
              have hbs2 := hb2.size
              have HO2 := Lib.hid (ownM_mono (ownM_below HO.out hb2) (Nat.le_refl w.heap.size) hbs2)
              have hbel2 := below_step hbel hb2
              have hbw2 := hbel2.size
              clear hb2
              have hcell := cell_new1 (w2.alloc (.cells #[.int .i64 k, .int .i64 t] 3)) (.slice (some ⟨w2.heap.size, 0, none⟩) 2 2) 30
              rw [show (w2.alloc (.cells #[.int .i64 k, .int .i64 t] 3)).heap.size = w2.heap.size + 1 by simp] at hcell
              have hou : Own ((w2.alloc (.cells #[.int .i64 k, .int .i64 t] 3)).alloc (.cells #[.slice (some ⟨w2.heap.size, 0, none⟩) 2 2] 30)) w.heap.size (.slice (some ⟨w2.heap.size, 0, none⟩) 2 2) [(k : Int), (t : Int)] := own_alloc (own_two w2 w.heap.size k t hbw2) _
              have hb3 := ((Below.refl w2.heap.size w2).alloc (Nat.le_refl _) (.cells #[.int .i64 k, .int .i64 t] 3)).alloc (by simp) (.cells #[.slice (some ⟨w2.heap.size, 0, none⟩) 2 2] 30)
              have HOM := Lib.hid (ownM_below HO2.out hb3)
              have HBQ := Lib.hid (below_step hbel2 hb3)
              have HCE := Lib.hid hcell
              have HOU := Lib.hid hou
              clear hcell hou hb3
              go_wp2_with (at_builtin; refine wpList_pushV rfl _ _ rfl w.heap.size w2.heap.size z _ (encPs A) rfl HOM.out (by rw [HZ.out, encPs_length]) ⟨w2.heap.size + 1, 0, none⟩ rfl _ _ HCE.out HOU.out (fun q hq => by simp [Value.ownBlock] at hq; simp; omega) hbw2 (by simp; omega) (by omega) ?_; intro g4 cap4 w4 hown4 hgr4)
              have hbel4 : Below w.heap.size w w4 := HBQ.out.grown hgr4 (by simp; omega) (fun q hq => by
                obtain ⟨vs, hr⟩ := ownM_row0 HOM.out
                exact (World.ownsRow.lt hr q hq).1)
              have HO4 := Lib.hid hown4
              clear hown4 hgr4
              go_wp2
              go_roundw
              case rel => exact ⟨t + 1, by omega, by omega, by go_num, by rw [HSE.out, encPs_append]; exact HO4.out, hbel4⟩
              case measure => simp [intOf]; omega
            | true =>
              rw [hc] at HH2
              have HSE : Hid (selRows f m k ++ selRow f k (t + 1) = A) := Lib.hid (by rw [hst2, hc]; simp)
              clear hst hst2 hA hz hc
              go_wp2_with fail
              refine HH2.out.mono ?_
              rintro e w2 ⟨rfl, hb2⟩
              have HO2 := Lib.hid (ownM_mono (ownM_below HO.out hb2) (Nat.le_refl w.heap.size) hb2.size)
              have HB2 := Lib.hid (below_step hbel hb2)
              clear hb2
              go_wp2
              go_roundw
              case rel => exact ⟨t + 1, by omega, by omega, by go_num, by rw [HSE.out]; exact HO2.out, HB2.out⟩
              case measure => simp [intOf]; omega
          · have htn' : t = m := by omega
            subst htn'
            go_wp2
            go_roundw
            case rel => exact ⟨k + 1, by omega, by go_num, by rw [selRows_next]; exact HO.out, hbel⟩
            case measure => simp [intOf]; omega
      · have hkn : k = m := by omega
        subst hkn
        go_wp2
        go_ret2
        exact ⟨_, rfl, hown, hbel⟩
  | false =>
    have hr : pairOther n ps = ([], false) := by simp [pairOther, h]
    rw [hr]
    have HT := Lib.hid (sIn_is false hv0 h hw)
    clear hr h hv hb0 hv0
    go_enter Try.func43, Try.ntmps43
    go_wp2_with fail
    refine HT.out.mono ?_
    rintro e w1 ⟨rfl, hb⟩
    go_wp2
    go_ret2
    exact ⟨_, rfl, ownM_mono (ownM_below HOE.out hb) (Nat.le_refl _) (by have := hb.size; simpa using this), HB0.out.trans (hb.mono (by simp))⟩

end Go.Proofs.Ytbmpchpcihnbdaa

/-
  The contracts of looseLinks, (*link).least, (*link).tie, impl.FinerJoin.
-/
namespace Go.Proofs.Ytbmpchpcihnbdaa
set_option linter.unusedSimpArgs false
set_option linter.unusedVariables false
set_option linter.unnecessarySimpa false
open Go.RowKit
set_option maxRecDepth 100000

def toPtr (C : Nat) (par : Nat → Nat) (j : Nat) : Option Addr := if par j = j then none else some ⟨C + par j, 0, none⟩

/-- The slice at block B holds pointers to n things, in the blocks behind it; each points on as par tells. -/
def Links (w : World) (B C n : Nat) (par : Nat → Nat) : Prop := B < C ∧ ∀ j, j < n →
  w.cell? ⟨B, j, none⟩ = some (.pointer (some ⟨C + j, 0, none⟩)) ∧ w.cell? ⟨C + j, 0, none⟩ = some (.int .i64 (j : Int)) ∧
  w.cell? ⟨C + j, 1, none⟩ = some (.pointer (toPtr C par j)) ∧ w.frozen? ⟨C + j, 1, none⟩ = false

theorem links_quiet {w w' : World} {B C n : Nat} {par : Nat → Nat} (h : Links w B C n par) (hq : Quiet w w') : Links w' B C n par := by
  obtain ⟨m, rfl⟩ := hq
  exact h

theorem links_below {w w' : World} {B C n : Nat} {par : Nat → Nat} (h : Links w B C n par) (hb : Below w.heap.size w w') : Links w' B C n par := ⟨h.1, fun j hj => by
  obtain ⟨h1, h2, h3, h4⟩ := h.2 j hj
  refine ⟨by rw [hb.cell (World.block_lt_of_cell? w _ h1)]; exact h1, by rw [hb.cell (World.block_lt_of_cell? w _ h2)]; exact h2, by rw [hb.cell (World.block_lt_of_cell? w _ h3)]; exact h3, ?_⟩
  rw [hb.frozen (World.block_lt_of_cell? w _ h3)]
  exact h4⟩

theorem cell_set_other {w : World} {p q : Addr} {v : Value} (h : p ≠ q) : (w.setCell p v).cell? q = w.cell? q := by
  first | exact World.cell?_setCell_other h | exact World.cell?_setCell_other _ h | exact World.cell?_setCell_other _ _ h | exact World.cell?_setCell_other _ _ _ h | exact World.cell?_setCell_other _ _ _ _ h
theorem cell_set_same {w : World} {p : Addr} {u v : Value} (h : w.cell? p = some u) : (w.setCell p v).cell? p = some v := by
  first | exact World.cell?_setCell_same h | exact World.cell?_setCell_same _ h | exact World.cell?_setCell_same _ _ h | exact World.cell?_setCell_same _ _ _ h

theorem links_set {w : World} {B C n : Nat} {par : Nat → Nat} (h : Links w B C n par) (g o : Nat) (v : Value) (hg : g ≠ B ∧ (g < C ∨ C + n ≤ g)) : Links (w.setCell ⟨g, o, none⟩ v) B C n par := ⟨h.1, fun j hj => by
  obtain ⟨h1, h2, h3, h4⟩ := h.2 j hj
  refine ⟨?_, ?_, ?_, by rw [World.frozen?_setCell]; exact h4⟩
  · rw [cell_set_other (by intro e; simp at e <;> omega)]; exact h1
  · rw [cell_set_other (by intro e; simp at e <;> omega)]; exact h2
  · rw [cell_set_other (by intro e; simp at e <;> omega)]; exact h3⟩

theorem links_hang {w : World} {B C n : Nat} {par : Nat → Nat} (h : Links w B C n par) {a b : Nat} (hb : b < n) (hab : a < b) :
    Links (w.setCell ⟨C + b, 1, none⟩ (.pointer (some ⟨C + a, 0, none⟩))) B C n (hang par b a) := ⟨h.1, fun j hj => by
  have hBC := h.1
  obtain ⟨h1, h2, h3, h4⟩ := h.2 j hj
  refine ⟨?_, ?_, ?_, by rw [World.frozen?_setCell]; exact h4⟩
  · rw [cell_set_other (by intro e; simp at e <;> omega)]; exact h1
  · rw [cell_set_other (by intro e; simp at e)]; exact h2
  · by_cases e : j = b
    · subst e
      rw [cell_set_same h3]
      unfold toPtr hang
      rw [if_pos rfl, if_neg (by omega)]
    · rw [cell_set_other (by intro e2; simp at e2 <;> omega), h3]
      unfold toPtr hang
      rw [if_neg e]⟩

def ptrBlock : Value → Nat
  | .pointer (some a) => a.block
  | _ => 0

set_option maxHeartbeats 800000 in
theorem least_any (B C n j : Nat) (par rt : Nat → Nat) (w : World) (hl : Links w B C n par) (hf : Forest n par rt) (hj : j < n) :
    Calls Try.prog 107 #[.pointer (some ⟨C + j, 0, none⟩)] w fun e w' => e = .returned (.pointer (some ⟨C + rt j, 0, none⟩)) ∧ w = w' := by
  have HL := Lib.hid hl
  have HF := Lib.hid hf
  clear hl hf
  go_enter Try.func107, Try.ntmps107
  go_wp2
  go_loop [0] (fun u => ∃ c, c < n ∧ u = .pointer (some ⟨C + c, 0, none⟩) ∧ rt c = rt j) (fun u => ptrBlock u)
  case atStart => exact ⟨j, hj, rfl, rfl⟩
  case round =>
    obtain ⟨c, hc, rfl, hrt⟩ := hrel
    have HR := Lib.hid hrt
    obtain ⟨h1, h2, h3, h4⟩ := HL.out.2 c hc
    clear hrt
    rcases (HF.out c hc).2 with ⟨hp, hr⟩ | ⟨hp, hr⟩
    · have e : toPtr C par c = none := by unfold toPtr; rw [if_pos hp]
      rw [e] at h3
      have HRC := Lib.hid hr
      clear e hp hr h4
      go_wp2
      go_ret
      exact ⟨by rw [← HR.out, HRC.out]; rfl, rfl⟩
    · have e : toPtr C par c = some ⟨C + par c, 0, none⟩ := by unfold toPtr; rw [if_neg (by omega)]
      rw [e] at h3
      obtain ⟨d, hd⟩ : ∃ d, d = par c := ⟨_, rfl⟩
      rw [← hd] at h3 hp hr
      have HRC := Lib.hid hr
      clear e hr h4 hd
      go_wp2
      go_round
      case rel => exact ⟨d, by omega, rfl, by rw [HRC.out, HR.out]⟩
      case measure => simp [ptrBlock]; omega

theorem rt_le {n : Nat} {par rt : Nat → Nat} (h : Forest n par rt) {j : Nat} (hj : j < n) : rt j < n ∧ rt (rt j) = rt j := ⟨(h j hj).1, forest_root h hj⟩

/-- What a tie leaves. -/
def Tied (w : World) (B C n : Nat) (rt : Nat → Nat) (e : Ending) (w' : World) : Prop := e = .returned (.tuple #[]) ∧ ∃ par', Links w' B C n par' ∧ Forest n par' rt ∧ Below C w w'

set_option maxHeartbeats 1600000 in
theorem tie_any (B C n i k : Nat) (par rt : Nat → Nat) (w : World) (hl : Links w B C n par) (hf : Forest n par rt) (hi : i < n) (hk : k < n) :
    Calls Try.prog 88 #[.pointer (some ⟨C + i, 0, none⟩), .pointer (some ⟨C + k, 0, none⟩)] w (Tied w B C n (tied rt i k)) := by
  have HL := Lib.hid hl
  have HF := Lib.hid hf
  obtain ⟨ha, har⟩ := rt_le hf hi
  obtain ⟨hb, hbr⟩ := rt_le hf hk
  have hres : tied rt i k = if rt i < rt k then rehang rt (rt k) (rt i) else if rt k < rt i then rehang rt (rt i) (rt k) else rt := rfl
  have HI := Lib.hid (fun w0 => least_any B C n i par rt w0)
  have HK := Lib.hid (fun w0 => least_any B C n k par rt w0)
  obtain ⟨a, hae⟩ : ∃ a, a = rt i := ⟨_, rfl⟩
  obtain ⟨b, hbe⟩ : ∃ b, b = rt k := ⟨_, rfl⟩
  rw [← hae] at ha har hres HI
  rw [← hbe] at hb hbr hres HK
  have HRES := Lib.hid hres
  have HAR := Lib.hid har
  have HBR := Lib.hid hbr
  obtain ⟨ha1, ha2, ha3, ha4⟩ := hl.2 a ha
  obtain ⟨hb1, hb2, hb3, hb4⟩ := hl.2 b hb
  have b1 : ((a : Nat) : Int) = (a : Int) := rfl
  clear hl hf hres hae hbe har hbr b1
  rcases Nat.lt_trichotomy a b with hab | hab | hab
  · have hc : ((a : Int) < (b : Int)) := by omega
    go_enter Try.func88, Try.ntmps88
    go_wp2_with fail
    refine (HI.out _ HL.out HF.out hi).mono ?_
    rintro e w' ⟨rfl, rfl⟩
    go_wp2_with fail
    refine (HK.out _ HL.out HF.out hk).mono ?_
    rintro e w' ⟨rfl, rfl⟩
    go_wp2
    go_quiet (fail)
    go_wp2
    go_end0
    refine ⟨rfl, hang par b a, links_hang (links_quiet HL.out (Quiet.mk _ _)) hb hab, ?_, (below_drewN (Below.refl _ _) _).setCell (by simp <;> omega) _⟩
    rw [HRES.out, if_pos hab]
    exact forest_hang HF.out hb hab HAR.out HBR.out
  · have HE := Lib.hid hab
    obtain ⟨c, hc⟩ : ∃ c : Int, c = (a : Int) := ⟨_, rfl⟩
    have hcb : c = (b : Int) := by omega
    rw [← hc] at ha2
    rw [← hcb] at hb2
    clear hc hcb hab
    go_enter Try.func88, Try.ntmps88
    go_wp2_with fail
    refine (HI.out _ HL.out HF.out hi).mono ?_
    rintro e w' ⟨rfl, rfl⟩
    go_wp2_with fail
    refine (HK.out _ HL.out HF.out hk).mono ?_
    rintro e w' ⟨rfl, rfl⟩
    go_wp2
    go_quiet (fail)
    go_wp2
    go_quiet (fail)
    go_wp2
    go_end0
    refine ⟨rfl, par, links_quiet HL.out (by first | exact Quiet.mk _ _ | exact (Quiet.mk _ _).drewN _), ?_, by first | exact below_drewN (Below.refl _ _) _ | exact below_drewN (below_drewN (Below.refl _ _) _) _⟩
    have hab := HE.out
    rw [HRES.out, if_neg (by omega), if_neg (by omega)]
    exact HF.out
  · have hc : ((b : Int) < (a : Int)) := by omega
    have hc2 : ¬ ((a : Int) < (b : Int)) := by omega
    go_enter Try.func88, Try.ntmps88
    go_wp2_with fail
    refine (HI.out _ HL.out HF.out hi).mono ?_
    rintro e w' ⟨rfl, rfl⟩
    go_wp2_with fail
    refine (HK.out _ HL.out HF.out hk).mono ?_
    rintro e w' ⟨rfl, rfl⟩
    go_wp2
    go_quiet (fail)
    go_wp2
    go_quiet (fail)
    go_wp2
    go_end0
    refine ⟨rfl, hang par a b, links_hang (links_quiet HL.out (by first | exact Quiet.mk _ _ | exact (Quiet.mk _ _).drewN _)) ha hab, ?_, Below.setCell (by first | exact below_drewN (Below.refl _ _) _ | exact below_drewN (below_drewN (Below.refl _ _) _) _) (by simp <;> omega) _⟩
    rw [HRES.out, if_neg (by omega), if_pos hab]
    exact forest_hang HF.out ha hab HBR.out HAR.out

theorem Try.infoLink : (Try.prog.info? 78).map (fun i => (i.zero, i.size, i.bytes)) = some (some (.pointer none), 1, 8) := by kernel_rfl

/-- The pointers that are there after k rounds. -/
def ptrsTo (C n k : Nat) : List Value := (List.range n).map fun j => if j < k then .pointer (some ⟨C + j, 0, none⟩) else .pointer none

theorem ptrsTo_len (C n k : Nat) : (ptrsTo C n k).length = n := by simp [ptrsTo]
theorem ptrsTo_step (C n k : Nat) (h : k < n) : (ptrsTo C n k).set k (.pointer (some ⟨C + k, 0, none⟩)) = ptrsTo C n (k + 1) := by
  apply List.ext_getElem
  · simp [ptrsTo]
  · intro j h1 h2
    simp [ptrsTo] at h1 h2
    rw [List.getElem_set]
    by_cases e : k = j
    · subst e
      simp [ptrsTo]
    · rw [if_neg e]
      simp only [ptrsTo, List.getElem_map, List.getElem_range]
      by_cases h3 : j < k
      · rw [if_pos h3, if_pos (by omega)]
      · rw [if_neg h3, if_neg (by omega)]
theorem ptrsTo_zero (C n : Nat) : ptrsTo C n 0 = List.replicate n (.pointer none) := by
  apply List.ext_getElem <;> simp [ptrsTo]

/-- The first k things lie in the blocks from C on. -/
def Things (w : World) (C k : Nat) : Prop := ∀ j, j < k → w.cell? ⟨C + j, 0, none⟩ = some (.int .i64 (j : Int)) ∧ w.cell? ⟨C + j, 1, none⟩ = some (.pointer none) ∧ w.frozen? ⟨C + j, 1, none⟩ = false

theorem things_keep {w w' : World} {C k : Nat} (h : Things w C k) (hc : ∀ j o, j < k → w'.cell? ⟨C + j, o, none⟩ = w.cell? ⟨C + j, o, none⟩) (hf : ∀ j o, j < k → w'.frozen? ⟨C + j, o, none⟩ = w.frozen? ⟨C + j, o, none⟩) : Things w' C k := fun j hj => by
  rw [hc j 0 hj, hc j 1 hj, hf j 1 hj]
  exact h j hj

theorem things_step {wr : World} {C k B : Nat} (hth : Things wr C k) (hsz : wr.heap.size = C + k) (hBC : B < C) (o : Nat) (v : Value) :
    Things ((wr.alloc (.cells #[.int .i64 (k : Int), .pointer none] 104)).setCell ⟨B, o, none⟩ v) C (k + 1) := fun j hj => by
  rw [cell_set_other (by intro e; simp at e <;> omega), cell_set_other (by intro e; simp at e <;> omega), World.frozen?_setCell]
  by_cases e : j = k
  · subst e
    rw [← hsz]
    have hn := heap_alloc_new wr (.cells #[.int .i64 (j : Int), .pointer none] 104)
    unfold World.cell? World.frozen?
    simp only [hn]
    exact ⟨rfl, rfl, rfl⟩
  · have hb : Below wr.heap.size wr (wr.alloc (.cells #[.int .i64 (k : Int), .pointer none] 104)) := (Below.refl _ _).alloc (Nat.le_refl _) _
    obtain ⟨h1, h2, h3⟩ := hth j (by omega)
    have hlt : C + j < wr.heap.size := by omega
    exact ⟨by rw [hb.cell (p := ⟨C + j, 0, none⟩) hlt]; exact h1, by rw [hb.cell (p := ⟨C + j, 1, none⟩) hlt]; exact h2, by rw [hb.frozen (p := ⟨C + j, 1, none⟩) hlt]; exact h3⟩

theorem toPtr_id (C j : Nat) : toPtr C id j = none := by simp [toPtr]

/-- What the making of loose things leaves. -/
def Loose (w : World) (n : Nat) (e : Ending) (w' : World) : Prop := e = .returned (.slice (some ⟨w.heap.size, 0, none⟩) n n) ∧ Below w.heap.size w w' ∧ ∃ C, Links w' w.heap.size C n id

set_option maxHeartbeats 1600000 in
theorem looseLinks_any (n : Nat) (w : World) (h1 : 1 ≤ n) (h8 : n ≤ 8) :
    Calls Try.prog 87 #[.int .i64 n] w (Loose w n) := by
  obtain ⟨i0, hi, hz0, hz1, hz2⟩ := info_parts Try.infoLink
  go_enter Try.func87, Try.ntmps87
  go_wp2_with (at_make; refine wpList_make_full _ rfl _ _ 76 rfl w.heap.size 78 i0 (.pointer none) 1 Try.underlying76 hi hz0 hz1 _ _ _ _ n rfl rfl rfl rfl (by rw [hz2]; omega) (by unfold maxLen; omega) (Nat.le_refl _) ?_)
  intro w1 hown1 hgrow1
  have hb1 : Below w.heap.size w w1 := (Below.refl _ _).grown hgrow1 (Nat.le_refl _) (fun k h => by cases h)
  obtain ⟨C, hC⟩ : ∃ C, C = w1.heap.size := ⟨_, rfl⟩
  have hBC : w.heap.size < C := by rw [hC]; exact (World.ownsRow.lt hown1 _ rfl).2
  have hrow : w1.ownsRow w.heap.size 78 1 (.slice (some ⟨w.heap.size, 0, none⟩) n n) n (ptrsTo C n 0) := by
    rw [ptrsTo_zero]
    rw [toList_madeCells_one] at hown1
    simpa using hown1
  have HC := Lib.hid hC
  clear hown1 hgrow1 hC
  go_wp2
  go_loopw [9] (fun i wr => ∃ k : Nat, k ≤ n ∧ i = .int .i64 k ∧ wr.ownsRow w.heap.size 78 1 (.slice (some ⟨w.heap.size, 0, none⟩) n n) n (ptrsTo C n k) ∧ Things wr C k ∧ wr.heap.size = C + k ∧ Below w.heap.size w wr) (fun i _ => n - (intOf i).toNat)
  case atStart => exact ⟨0, Nat.zero_le _, rfl, hrow, fun j hj => by omega, HC.out.symm, hb1⟩
  case round =>
    obtain ⟨k, hk, rfl, hown, hth, hsz, hbel⟩ := hrel
    by_cases hlt : k < n
    · have hown2 := World.ownsRow.alloc hown (.cells #[.int .i64 (k : Int), .pointer none] 104)
      have hfz := World.ownsRow.frozenAt hown2 k
      have hv0 := World.ownsRow.cellAt hown2 k (by omega)
      obtain ⟨v0, hv0'⟩ : ∃ v0, (ptrsTo C n k)[k]? = some v0 := ⟨_, List.getElem?_eq_getElem (by rw [ptrsTo_len]; exact hlt)⟩
      rw [hv0'] at hv0
      have hst := (World.ownsRow.stored hown2 k (.pointer (some ⟨wr.heap.size, 0, none⟩))).1
      have hth2 := things_step hth hsz hBC k (.pointer (some ⟨wr.heap.size, 0, none⟩))
      have e1 : (ptrsTo C n k).set k (.pointer (some ⟨wr.heap.size, 0, none⟩)) = ptrsTo C n (k + 1) := by rw [hsz, ptrsTo_step C n k hlt]
      rw [e1] at hst
      have HST := Lib.hid hst
      have HTH := Lib.hid hth2
      have HSZ := Lib.hid hsz
      have b1 : (k : Int) < n := by omega
      have hB := hbel.size
      clear hown hown2 hst hth hth2 hsz hv0' e1
      go_wp2
      go_roundw
      case rel => exact ⟨k + 1, by omega, by go_num, HST.out, HTH.out, by simp [World.setCell]; have := HSZ.out; omega, (hbel.alloc hB _).setCell (Nat.le_refl _) _⟩
      case measure => simp [intOf]; omega
    · have hkn : k = n := by omega
      subst hkn
      have hfin : Links wr w.heap.size C k id := by
        refine ⟨hBC, fun j hj => ?_⟩
        have hc := World.ownsRow.cellAt hown j (by omega)
        obtain ⟨h1, h2, h3⟩ := hth j hj
        refine ⟨?_, h1, by rw [toPtr_id]; exact h2, h3⟩
        rw [hc]
        simp [ptrsTo, hj]
      have HFIN := Lib.hid hfin
      clear hown hth hfin hsz
      go_wp2
      go_ret
      exact ⟨rfl, hbel, C, HFIN.out⟩

theorem forest_id (n : Nat) : Forest n id id := fun j hj => ⟨hj, .inl ⟨rfl, rfl⟩⟩

/-- What is known of the roots when the first k things are tied. -/
def Joined (xs ys : List Int) (n : Nat) (rt : Nat → Nat) (k : Nat) : Prop :=
  (∀ j, j < k → rt j = rt (xs.idxOf (xs.getD j 0)) ∧ rt j = rt (ys.idxOf (ys.getD j 0))) ∧
  ∀ g : Nat → Int, (∀ i k, i < n → k < n → tog xs ys i k = true → g i = g k) → ∀ j, j < n → g (rt j) = g j

theorem joined_id (xs ys : List Int) (n : Nat) : Joined xs ys n id 0 := ⟨fun j hj => by omega, fun g _ j _ => rfl⟩

def rootList (rt : Nat → Nat) (n : Nat) : List Int := (List.range n).map fun j => (rt j : Int)
theorem rootList_length (rt : Nat → Nat) (n : Nat) : (rootList rt n).length = n := by simp [rootList]
theorem rootList_getD (rt : Nat → Nat) (n j : Nat) (h : j < n) : (rootList rt n).getD j 0 = (rt j : Int) := by simp [rootList, List.getD, h]

theorem idx_of {xs : List Int} {j : Nat} (h : j < xs.length) : xs.getD j 0 ∈ xs ∧ xs.idxOf (xs.getD j 0) < xs.length ∧ xs.getD (xs.idxOf (xs.getD j 0)) 0 = xs.getD j 0 := by
  have hm : xs.getD j 0 ∈ xs := mem_of_getD h rfl
  exact ⟨hm, List.idxOf_lt_length_of_mem hm, getD_idxOf hm⟩

theorem joined_step {xs ys : List Int} {n : Nat} {rt : Nat → Nat} (hx : xs.length = n) (hy : ys.length = n) {k : Nat} (hk : k < n) (h : Joined xs ys n rt k) :
    Joined xs ys n (tied (tied rt k (xs.idxOf (xs.getD k 0))) k (ys.idxOf (ys.getD k 0))) (k + 1) := by
  obtain ⟨hmx, hix, hgx⟩ := idx_of (xs := xs) (j := k) (by omega)
  obtain ⟨hmy, hiy, hgy⟩ := idx_of (xs := ys) (j := k) (by omega)
  refine ⟨fun j hj => ?_, fun g hg => ?_⟩
  · by_cases e : j = k
    · subst e
      exact ⟨tied_keeps _ _ _ (tied_eq _ _ _), tied_eq _ _ _⟩
    · obtain ⟨h1, h2⟩ := h.1 j (by omega)
      exact ⟨tied_keeps _ _ _ (tied_keeps _ _ _ h1), tied_keeps _ _ _ (tied_keeps _ _ _ h2)⟩
  · have h1 := tied_good g (h.2 g hg) hk (k := xs.idxOf (xs.getD k 0)) (by omega) (hg _ _ hk (by omega) (tog_iff.2 (.inl hgx.symm)))
    exact tied_good g h1 hk (k := ys.idxOf (ys.getD k 0)) (by omega) (hg _ _ hk (by omega) (tog_iff.2 (.inr hgy.symm)))

theorem joined_end {xs ys : List Int} {n : Nat} {par rt : Nat → Nat} (hx : xs.length = n) (hy : ys.length = n) (hf : Forest n par rt) (h : Joined xs ys n rt n) : kOut (rootList rt n) = kOut (joinAll xs ys n n) := by
  refine join_tells xs ys n (rootList rt n) (rootList_length _ _) (fun i k hi hk ht => ?_) fun g hg => ⟨rootList_length _ _, fun i hi => ?_⟩
  · rw [rootList_getD _ _ _ hi, rootList_getD _ _ _ hk]
    have h1 := h.1 i hi
    have h2 := h.1 k hk
    rcases tog_iff.1 ht with e | e
    · rw [h1.1, h2.1, e]
    · rw [h1.2, h2.2, e]
  · rw [rootList_getD _ _ _ hi]
    refine ⟨by omega, by have := (hf i hi).1; omega, ?_⟩
    rw [Int.toNat_natCast]
    exact h.2 g hg i hi

set_option maxHeartbeats 1600000 in
theorem tiedOut_any (B C n : Nat) (par rt : Nat → Nat) (w : World) (hl : Links w B C n par) (hf : Forest n par rt) (h1 : 1 ≤ n) (h8 : n ≤ 8) :
    Calls Try.prog 90 #[.slice (some ⟨B, 0, none⟩) n n] w (FreshL w (kOut (rootList rt n))) := by
  have HL := Lib.hid hl
  have HF := Lib.hid hf
  have hBC := hl.1
  have hlo : C + n ≤ w.heap.size := by
    have h2 := (hl.2 (n - 1) (by omega)).2.1
    have := World.block_lt_of_cell? w _ h2
    simp at this
    omega
  obtain ⟨L, hL⟩ : ∃ L, L = rootList rt n := ⟨_, rfl⟩
  rw [← hL]
  have hLl : L.length = n := by rw [hL, rootList_length]
  have hLg : ∀ j, j < n → L.getD j 0 = (rt j : Int) := fun j hj => by rw [hL]; exact rootList_getD _ _ _ hj
  have HLL := Lib.hid hLl
  have HLG := Lib.hid hLg
  obtain ⟨i0, hi, hz0, hz1, hz2⟩ := info_parts Try.infoInt
  clear hl hf hL hLl hLg
  go_enter Try.func90, Try.ntmps90
  go_wp2_with (at_make; refine wpList_make_full _ rfl _ _ 30 rfl w.heap.size 3 i0 (.int .i64 0) 1 Try.underlying30 hi hz0 hz1 _ _ _ _ n rfl rfl rfl rfl (by rw [hz2]; omega) (by unfold maxLen; omega) (Nat.le_refl _) ?_)
  intro w4 hown4 hgrow4
  have hb4 : Below w.heap.size w w4 := (Below.refl _ _).grown hgrow4 (Nat.le_refl _) (fun k h => by cases h)
  have HO4 := Lib.hid (own_made hown4)
  have HL4 := Lib.hid (links_below HL.out hb4)
  clear hown4 hgrow4
  go_wp2
  go_loopw [11] (fun i wz => ∃ j : Nat, j ≤ n ∧ i = .int .i64 j ∧ Own wz w.heap.size (.slice (some ⟨w.heap.size, 0, none⟩) n n) (L.take j ++ List.replicate (n - j) 0) ∧ Links wz B C n par ∧ Below w.heap.size w wz) (fun i _ => n - (intOf i).toNat)
  case atStart => exact ⟨0, Nat.zero_le _, rfl, by simpa using HO4.out, HL4.out, hb4⟩
  case round =>
    obtain ⟨j, hj, rfl, hown, hlk, hbelz⟩ := hrel
    by_cases hlt : j < n
    · have hp1 := (hlk.2 j hlt).1
      have hr := rt_le HF.out hlt
      obtain ⟨r, hre⟩ : ∃ r, r = rt j := ⟨_, rfl⟩
      rw [← hre] at hr
      have hp2 := (hlk.2 r hr.1).2.1
      have hml : (L.take j ++ List.replicate (n - j) 0).length = n := by have := HLL.out; simp; omega
      have hfz := own_frozen hown j
      obtain ⟨v0, hv0⟩ : ∃ v0, wr.cell? ⟨w.heap.size, j, none⟩ = some v0 := ⟨_, own_cell hown j (by rw [hml]; omega)⟩
      obtain ⟨hst, hgs⟩ := own_stored hown hml.symm j (r : Int)
      rw [← HLL.out, set_stage L j (by rw [HLL.out]; exact hlt) (r : Int) (by rw [HLG.out j hlt, hre]), HLL.out] at hst
      have HST := Lib.hid hst
      have HLS := Lib.hid (links_set hlk w.heap.size j (.int .i64 (r : Int)) ⟨by omega, .inr hlo⟩)
      have HLE := Lib.hid (least_any B C n j par rt wr hlk HF.out hlt)
      rw [← hre] at HLE
      have b1 : (j : Int) < n := by omega
      clear hml hst hgs hown hlk hre hr
      go_wp2_with fail
      refine (HLE.out).mono ?_
      rintro e w' ⟨rfl, rfl⟩
      go_wp2
      go_roundw
      case rel => exact ⟨j + 1, by omega, by go_num, HST.out, HLS.out, hbelz.setCell (by simp) _⟩
      case measure => simp [intOf]; omega
    · have hjk : j = n := by omega
      subst hjk
      rw [Nat.sub_self, List.replicate_zero, List.append_nil, List.take_of_length_le (by rw [HLL.out]; omega)] at hown
      have HRD := Lib.hid (own_rdv hown)
      clear hown
      go_wp2_with fail
      refine (kernel_v _ _ _ HRD.out (by rw [HLL.out]; omega)).mono ?_
      rintro e w6 ⟨u, rfl, ho, hb⟩
      go_wp2
      go_ret
      exact ⟨_, rfl, own_mono ho hbelz.size, below_step hbelz hb⟩

set_option maxHeartbeats 4000000 in
theorem iFinerJoin_v (v u : Value) (xs ys : List Int) (w : World) (hv : RdV w v xs) (hu : RdV w u ys) :
    Calls Try.prog 48 #[v, u] w (FreshLB w (finerJoin xs ys)) := by
  have HV := Lib.hid hv
  have HU := Lib.hid hu
  cases ha : alike xs ys
  · have HA := Lib.hid ha
    have hr : finerJoin xs ys = ([], false) := by simp [finerJoin, ha]
    rw [hr]
    clear ha hr hv hu
    go_enter Try.func48, Try.ntmps48
    go_wp2_with fail
    refine (areAlike_is false _ _ _ _ _ HV.out HU.out HA).mono ?_
    rintro e w' ⟨rfl, rfl⟩
    go_wp2
    go_ret2
    exact ⟨_, rfl, own_nil _ _, Below.refl _ _⟩
  · have HA := Lib.hid ha
    obtain ⟨h1, h8, hl⟩ := alike_lens ha
    have hr : finerJoin xs ys = (kOut (joinAll xs ys xs.length xs.length), true) := by simp [finerJoin, ha]
    rw [hr]
    obtain ⟨bx, ox, cx, rfl, hcx, hbx, hcx1, hcx2⟩ := rdv_cells hv h1
    obtain ⟨by', oy, cy, rfl, hcy, hby, hcy1, hcy2⟩ := rdv_cells hu (by omega)
    obtain ⟨n, hn⟩ : ∃ n, n = xs.length := ⟨_, rfl⟩
    have HN := Lib.hid hn
    have HLY := Lib.hid hl
    rw [hl] at HU ⊢
    rw [← hn] at HV HU h1 h8 HLY ⊢
    clear ha hr hv hu hn hl hcx1 hcx2 hcy1 hcy2
    go_enter Try.func48, Try.ntmps48
    go_wp2_with fail
    refine (areAlike_is true _ _ _ _ _ HV.out HU.out HA).mono ?_
    rintro e w' ⟨rfl, rfl⟩
    go_wp2_with fail
    refine (looseLinks_any n _ h1 h8).mono ?_
    rintro e w1 ⟨rfl, hb1, C, hl1⟩
    have HL1 := Lib.hid hl1
    clear hl1
    go_wp2
    go_loopw [18] (fun i wr => ∃ (k : Nat) (par rt : Nat → Nat), k ≤ n ∧ i = .int .i64 k ∧ Links wr w.heap.size C n par ∧ Forest n par rt ∧ Joined xs ys n rt k ∧ Below w.heap.size w wr) (fun i _ => n - (intOf i).toNat)
    case atStart => exact ⟨0, id, id, Nat.zero_le _, rfl, HL1.out, forest_id n, joined_id _ _ _, hb1⟩
    case round =>
      obtain ⟨k, par, rt, hk, rfl, hlk, hfo, hjo, hbel⟩ := hrel
      have hBC := hlk.1
      by_cases hlt : k < n
      · have hjs := joined_step HN.out.symm HLY.out hlt hjo
        obtain ⟨hmx, hix, _⟩ := idx_of (xs := xs) (j := k) (by rw [← HN.out]; exact hlt)
        obtain ⟨hmy, hiy, _⟩ := idx_of (xs := ys) (j := k) (by rw [HLY.out]; exact hlt)
        have hc1 := cells_at (cells_below hcx hbel) k (by rw [← HN.out]; exact hlt)
        have hp1 := (hlk.2 k hlt).1
        obtain ⟨x, hx⟩ : ∃ x, x = xs.getD k 0 := ⟨_, rfl⟩
        obtain ⟨y, hy⟩ : ∃ y, y = ys.getD k 0 := ⟨_, rfl⟩
        rw [← hx] at hjs hmx hix hc1
        rw [← hy] at hjs hmy hiy
        obtain ⟨p, hp⟩ : ∃ p, p = xs.idxOf x := ⟨_, rfl⟩
        obtain ⟨q, hq⟩ : ∃ q, q = ys.idxOf y := ⟨_, rfl⟩
        rw [← hp] at hjs hix
        rw [← hq] at hjs hiy
        rw [← HN.out] at hix
        rw [HLY.out] at hiy
        have hp2 := (hlk.2 p hix).1
        have HMX := Lib.hid hmx
        have HMY := Lib.hid hmy
        have HP := Lib.hid hp
        have HQ := Lib.hid hq
        have HY := Lib.hid hy
        have HJS := Lib.hid hjs
        have HLK := Lib.hid hlk
        have HFO := Lib.hid hfo
        have HVr := Lib.hid (rdv_below HV.out hbel)
        have b1 : (k : Int) < n := by omega
        have b2 : (p : Int) < n := by omega
        have b3 : (q : Int) < n := by omega
        clear hx hy hp hq hjs hmx hmy hlk hfo hjo
        go_wp2_with fail
        refine (slicesIndex_v _ xs x _ HVr.out HMX.out).mono ?_
        rintro e w' ⟨rfl, rfl⟩
        rw [← HP.out]
        go_wp2_with fail
        refine (tie_any w.heap.size C n k p par rt _ HLK.out HFO.out hlt hix).mono ?_
        rintro e w2 ⟨rfl, par2, hl2, hf2, hb2⟩
        have hbel2 : Below w.heap.size w w2 := hbel.trans (hb2.mono (Nat.le_of_lt hBC))
        have hc2 := cells_at (cells_below hcy hbel2) k (by rw [HLY.out]; exact hlt)
        rw [← HY.out] at hc2
        have hp3 := (hl2.2 q hiy).1
        have HL2 := Lib.hid hl2
        have HF2 := Lib.hid hf2
        have HUr := Lib.hid (rdv_below HU.out hbel2)
        clear hl2 hf2 hb2
        go_wp2_with fail
        refine (slicesIndex_v _ ys y _ HUr.out HMY.out).mono ?_
        rintro e w' ⟨rfl, rfl⟩
        rw [← HQ.out]
        go_wp2_with fail
        refine (tie_any w.heap.size C n k q par2 _ _ HL2.out HF2.out hlt hiy).mono ?_
        rintro e w3 ⟨rfl, par3, hl3, hf3, hb3⟩
        have hbel3 : Below w.heap.size w w3 := hbel2.trans (hb3.mono (Nat.le_of_lt hBC))
        have HL3 := Lib.hid hl3
        have HF3 := Lib.hid hf3
        clear hl3 hf3 hb3
        go_wp2
        go_roundw
        case rel => exact ⟨k + 1, par3, _, by omega, by go_num, HL3.out, HF3.out, HJS.out, hbel3⟩
        case measure => simp [intOf]; omega
      · have hkn : k = n := by omega
        subst hkn
        have hend := joined_end HN.out.symm HLY.out hfo hjo
        have HLK := Lib.hid hlk
        have HFO := Lib.hid hfo
        have hB := hbel.size
        clear hjo hlk hfo
        go_wp2_with fail
        refine (tiedOut_any w.heap.size C k par rt wr HLK.out HFO.out h1 h8).mono ?_
        rintro e w6 ⟨u, rfl, ho, hb⟩
        have HOU := Lib.hid (own_mono ho hbel.size)
        have HBU := Lib.hid (below_step hbel hb)
        rw [hend] at HOU
        clear ho hb hend
        go_wp2
        go_ret2
        exact ⟨_, rfl, HOU.out, HBU.out⟩

end Go.Proofs.Ytbmpchpcihnbdaa

/-
  The contract of spec.FinerJoin.
-/
namespace Go.Proofs.Ytbmpchpcihnbdaa
set_option linter.unusedSimpArgs false
set_option linter.unusedVariables false
set_option linter.unnecessarySimpa false
open Go.RowKit
set_option maxRecDepth 100000

theorem iota_snoc (n : Nat) : iota 0 (n + 1) = iota 0 n ++ [(n : Int)] := by simp [iota, List.range_succ]

theorem row_len (xs ys f : List Int) (n : Nat) (hf : f.length = n) (i : Nat) (hi : i < n) (k : Nat) (hk : k ≤ n) : (joinRow xs ys f i k).length = n := (row_le xs ys n f hf i hi k hk).1
theorem pass_len (xs ys f : List Int) (n : Nat) (hf : f.length = n) (i : Nat) (hi : i ≤ n) : (joinPass xs ys f n i).length = n := (pass_le xs ys n f hf i hi).1

theorem own_quiet {w w' : World} {B : Nat} {v : Value} {xs : List Int} (h : Own w B v xs) (hq : Quiet w w') : Own w' B v xs := own_below h hq.below

set_option maxRecDepth 100000 in
set_option maxHeartbeats 4000000 in
theorem sFinerJoin_v (v u : Value) (xs ys : List Int) (w : World) (hv : RdV w v xs) (hu : RdV w u ys) :
    Calls Try.prog 52 #[v, u] w (FreshLB w (finerJoin xs ys)) := by
  have HV := Lib.hid hv
  have HU := Lib.hid hu
  cases ha : alike xs ys
  · have HA := Lib.hid ha
    have hr : finerJoin xs ys = ([], false) := by simp [finerJoin, ha]
    rw [hr]
    clear ha hr hv hu
    go_enter Try.func52, Try.ntmps52
    go_wp2_with fail
    refine (l2Two_is false _ _ _ _ _ HV.out HU.out HA).mono ?_
    rintro e w' ⟨rfl, rfl⟩
    go_wp2
    go_ret2
    exact ⟨_, rfl, own_empty _ _ (Nat.le_refl _), (Below.refl _ _).alloc (Nat.le_refl _) _⟩
  · have HA := Lib.hid ha
    obtain ⟨h1, h8, hl⟩ := alike_lens ha
    have hr : finerJoin xs ys = (kOut (joinAll xs ys xs.length xs.length), true) := by simp [finerJoin, ha]
    rw [hr]
    obtain ⟨bx, ox, cx, rfl, hcx, hbx, hcx1, hcx2⟩ := rdv_cells hv h1
    obtain ⟨by', oy, cy, rfl, hcy, hby, hcy1, hcy2⟩ := rdv_cells hu (by omega)
    obtain ⟨n, hn⟩ : ∃ n, n = xs.length := ⟨_, rfl⟩
    have HN := Lib.hid hn
    have HLY := Lib.hid hl
    rw [hl] at HU ⊢
    rw [← hn] at HV HU h1 h8 HLY ⊢
    clear ha hr hv hu hn hl hcx1 hcx2 hcy1 hcy2
    go_enter Try.func52, Try.ntmps52
    go_wp2_with fail
    refine (l2Two_is true _ _ _ _ _ HV.out HU.out HA).mono ?_
    rintro e w' ⟨rfl, rfl⟩
    go_wp2
    go_loopw [6, 7] (fun u i wr => ∃ k g cap : Nat, k ≤ n ∧ i = .int .i64 k ∧ u = .slice (some ⟨g, 0, none⟩) k cap ∧ Own wr w.heap.size (.slice (some ⟨g, 0, none⟩) k cap) (iota 0 k) ∧ Below w.heap.size w wr) (fun _ i _ => n - (intOf i).toNat)
    case atStart => exact ⟨0, w.heap.size, 0, Nat.zero_le _, rfl, rfl, own_empty w _ (Nat.le_refl _), (Below.refl _ _).alloc (Nat.le_refl _) _⟩
    case round =>
      obtain ⟨k, g, cap, hk, rfl, rfl, hown, hbel⟩ := hrel
      have HO := Lib.hid hown
      have hB := hbel.size
      by_cases hlt : k < n
      · clear hown
        go_wp2_with (at_builtin; refine wpList_push rfl _ _ rfl w.heap.size g k cap (iota 0 k) rfl (own_alloc HO.out _) (by rw [iota_length]) ⟨wr.heap.size, 0, none⟩ rfl (k : Int) (cell_new1 _ _ _) (by omega) (by simp; omega) ?_)
        intro g' cap' w2 hown2 hgr2 hg2
        have hbel2 : Below w.heap.size w w2 := (hbel.alloc hB _).grown hgr2 (by simp; omega) (fun q hq => by cases hq; exact (own_lt HO.out g rfl).1)
        have HO2 := Lib.hid hown2
        clear hown2 hgr2 hg2
        go_wp2
        go_roundw
        case rel => exact ⟨k + 1, g', cap', by omega, by go_num, rfl, by rw [iota_snoc]; exact HO2.out, hbel2⟩
        case measure => simp [intOf]; omega
      · have hkn : k = n := by omega
        subst hkn
        obtain ⟨wo, hwo⟩ : ∃ wo : World, wo = wr := ⟨_, rfl⟩
        subst hwo
        have hgl := own_lt hown g rfl
        clear hown
        go_wp2
        go_loopw [8] (fun i wr => ∃ t : Nat, t ≤ k ∧ i = .int .i64 t ∧ Own wr w.heap.size (.slice (some ⟨g, 0, none⟩) k cap) (joinAll xs ys k t) ∧ Below w.heap.size w wr) (fun i _ => k - (intOf i).toNat)
        case atStart => exact ⟨0, Nat.zero_le _, rfl, HO.out, hbel⟩
        case round =>
          obtain ⟨t, ht, rfl, hown, hbel⟩ := hrel
          have HOt := Lib.hid hown
          by_cases htk : t < k
          · obtain ⟨F, hF⟩ : ∃ F, F = joinAll xs ys k t := ⟨_, rfl⟩
            have hFl : F.length = k := by rw [hF]; exact joinAll_len xs ys k t
            rw [← hF] at HOt
            have HF := Lib.hid hF
            have HFL := Lib.hid hFl
            clear hown hF hFl
            go_wp2
            go_loopw [9] (fun i wr => ∃ a : Nat, a ≤ k ∧ i = .int .i64 a ∧ Own wr w.heap.size (.slice (some ⟨g, 0, none⟩) k cap) (joinPass xs ys F k a) ∧ Below w.heap.size w wr) (fun i _ => k - (intOf i).toNat)
            case atStart => exact ⟨0, Nat.zero_le _, rfl, HOt.out, hbel⟩
            case round =>
              obtain ⟨a, ha, rfl, hown, hbel⟩ := hrel
              have HOa := Lib.hid hown
              by_cases hak : a < k
              · obtain ⟨G, hG⟩ : ∃ G, G = joinPass xs ys F k a := ⟨_, rfl⟩
                have hGl : G.length = k := by rw [hG]; exact pass_len xs ys F k HFL.out a ha
                rw [← hG] at HOa
                have HG := Lib.hid hG
                have HGL := Lib.hid hGl
                clear hown hG hGl
                go_wp2
                go_loopw [10] (fun i wr => ∃ b : Nat, b ≤ k ∧ i = .int .i64 b ∧ Own wr w.heap.size (.slice (some ⟨g, 0, none⟩) k cap) (joinRow xs ys G a b) ∧ Below w.heap.size w wr) (fun i _ => k - (intOf i).toNat)
                case atStart => exact ⟨0, Nat.zero_le _, rfl, HOa.out, hbel⟩
                case round =>
                  obtain ⟨b, hb, rfl, hown, hbel⟩ := hrel
                  by_cases hbk : b < k
                  · have hc1 := cells_at (cells_below hcx hbel) a (by rw [← HN.out]; exact hak)
                    have hc2 := cells_at (cells_below hcx hbel) b (by rw [← HN.out]; exact hbk)
                    have hc3 := cells_at (cells_below hcy hbel) a (by rw [HLY.out]; exact hak)
                    have hc4 := cells_at (cells_below hcy hbel) b (by rw [HLY.out]; exact hbk)
                    have hHl := row_len xs ys G k HGL.out a hak b hb
                    have hstep : joinRow xs ys G a (b + 1) = joinK xs ys (joinRow xs ys G a b) a b := rfl
                    obtain ⟨H, hH⟩ : ∃ H, H = joinRow xs ys G a b := ⟨_, rfl⟩
                    rw [← hH] at hHl hstep hown
                    have hfa := own_cell hown a (by rw [hHl]; exact hak)
                    have hfb := own_cell hown b (by rw [hHl]; exact hbk)
                    have hfz := own_frozen hown a
                    have htog : tog xs ys a b = (decide (xs.getD a 0 = xs.getD b 0) || decide (ys.getD a 0 = ys.getD b 0)) := rfl
                    obtain ⟨x1, hx1⟩ : ∃ x1, x1 = xs.getD a 0 := ⟨_, rfl⟩
                    obtain ⟨x2, hx2⟩ : ∃ x2, x2 = xs.getD b 0 := ⟨_, rfl⟩
                    obtain ⟨y1, hy1⟩ : ∃ y1, y1 = ys.getD a 0 := ⟨_, rfl⟩
                    obtain ⟨y2, hy2⟩ : ∃ y2, y2 = ys.getD b 0 := ⟨_, rfl⟩
                    obtain ⟨p1, hp1⟩ : ∃ p1, p1 = H.getD a 0 := ⟨_, rfl⟩
                    obtain ⟨p2, hp2⟩ : ∃ p2, p2 = H.getD b 0 := ⟨_, rfl⟩
                    have hset : (tog xs ys a b = true → joinRow xs ys G a (b + 1) = H.set a (min p1 p2)) ∧ (tog xs ys a b = false → joinRow xs ys G a (b + 1) = H) := by
                      rw [hstep, hp1, hp2]
                      unfold joinK
                      exact ⟨fun h => by rw [if_pos h], fun h => by rw [h]; rfl⟩
                    rw [← hx1] at hc1 htog
                    rw [← hx2] at hc2 htog
                    rw [← hy1] at hc3 htog
                    rw [← hy2] at hc4 htog
                    rw [← hp1] at hfa
                    rw [← hp2] at hfb
                    have HTOG := Lib.hid htog
                    have HSET := Lib.hid hset
                    have HOH := Lib.hid hown
                    have HHL := Lib.hid hHl
                    have b1 : (a : Int) < k := by omega
                    have b2 : (b : Int) < k := by omega
                    clear hx1 hx2 hy1 hy2 hp1 hp2 hstep htog hset hown hH hHl
                    by_cases hxx : x1 = x2
                    · have HT : Hid (tog xs ys a b = true) := by
                        have h : tog xs ys a b = true := by rw [HTOG.out]; simp [hxx]
                        exact Lib.hid h
                      have hbx : (x1 == x2) = true := by simpa using hxx
                      clear hxx
                      by_cases hpp : p1 ≤ p2
                      · have HM : Hid (min p1 p2 = p1) := Lib.hid (Int.min_eq_left hpp)
                        go_wp2
                        go_quiet (fail)
                        have hq5 : Quiet wr (wr.drewN nq) := Quiet.mk _ _
                        generalize wr.drewN nq = w5 at hq5 ⊢
                        have hfa5 : w5.cell? ⟨g, a, none⟩ = some (.int .i64 p1) := by obtain ⟨m, rfl⟩ := hq5; exact hfa
                        have hfb5 : w5.cell? ⟨g, b, none⟩ = some (.int .i64 p2) := by obtain ⟨m, rfl⟩ := hq5; exact hfb
                        have hfz5 : w5.frozen? ⟨g, a, none⟩ = false := by obtain ⟨m, rfl⟩ := hq5; exact hfz
                        have hbel5 : Below w.heap.size w w5 := by obtain ⟨m, rfl⟩ := hq5; exact below_drewN hbel m
                        have HST := Lib.hid (own_stored (own_quiet HOH.out hq5) HHL.out.symm a p1).1
                        clear hq5
                        go_wp2
                        go_still_tail 12, (by kernel_rfl)
                        change wpList _ _ _ _ _ w5.drew
                        go_wp2
                        go_roundw
                        case rel => exact ⟨b + 1, by omega, by go_num, by rw [HSET.out.1 HT.out, HM.out]; exact own_drew1 HST.out, (hbel5.setCell hgl.1 _).drew⟩
                        case measure => simp [intOf]; omega
                      · have HM : Hid (min p1 p2 = p2) := Lib.hid (Int.min_eq_right (by omega))
                        go_wp2
                        go_quiet (fail)
                        have hq5 : Quiet wr (wr.drewN nq) := Quiet.mk _ _
                        generalize wr.drewN nq = w5 at hq5 ⊢
                        have hfa5 : w5.cell? ⟨g, a, none⟩ = some (.int .i64 p1) := by obtain ⟨m, rfl⟩ := hq5; exact hfa
                        have hfb5 : w5.cell? ⟨g, b, none⟩ = some (.int .i64 p2) := by obtain ⟨m, rfl⟩ := hq5; exact hfb
                        have hfz5 : w5.frozen? ⟨g, a, none⟩ = false := by obtain ⟨m, rfl⟩ := hq5; exact hfz
                        have hbel5 : Below w.heap.size w w5 := by obtain ⟨m, rfl⟩ := hq5; exact below_drewN hbel m
                        have HST := Lib.hid (own_stored (own_quiet HOH.out hq5) HHL.out.symm a p2).1
                        clear hq5
                        go_wp2
                        go_still_tail 12, (by kernel_rfl)
                        change wpList _ _ _ _ _ w5.drew
                        go_wp2
                        go_roundw
                        case rel => exact ⟨b + 1, by omega, by go_num, by rw [HSET.out.1 HT.out, HM.out]; exact own_drew1 HST.out, (hbel5.setCell hgl.1 _).drew⟩
                        case measure => simp [intOf]; omega
                    · have hbx : (x1 == x2) = false := by simpa using hxx
                      by_cases hyy : y1 = y2
                      · have HT : Hid (tog xs ys a b = true) := by
                          have h : tog xs ys a b = true := by rw [HTOG.out]; simp [hyy]
                          exact Lib.hid h
                        have hby : (y1 == y2) = true := by simpa using hyy
                        clear hxx hyy
                        by_cases hpp : p1 ≤ p2
                        · have HM : Hid (min p1 p2 = p1) := Lib.hid (Int.min_eq_left hpp)
                          go_wp2
                          go_quiet (fail)
                          have hq5 : Quiet wr (wr.drewN nq) := Quiet.mk _ _
                          generalize wr.drewN nq = w5 at hq5 ⊢
                          have hfa5 : w5.cell? ⟨g, a, none⟩ = some (.int .i64 p1) := by obtain ⟨m, rfl⟩ := hq5; exact hfa
                          have hfb5 : w5.cell? ⟨g, b, none⟩ = some (.int .i64 p2) := by obtain ⟨m, rfl⟩ := hq5; exact hfb
                          have hfz5 : w5.frozen? ⟨g, a, none⟩ = false := by obtain ⟨m, rfl⟩ := hq5; exact hfz
                          have hbel5 : Below w.heap.size w w5 := by obtain ⟨m, rfl⟩ := hq5; exact below_drewN hbel m
                          have HST := Lib.hid (own_stored (own_quiet HOH.out hq5) HHL.out.symm a p1).1
                          clear hq5
                          go_wp2
                          go_still_tail 12, (by kernel_rfl)
                          change wpList _ _ _ _ _ w5.drew
                          go_wp2
                          go_roundw
                          case rel => exact ⟨b + 1, by omega, by go_num, by rw [HSET.out.1 HT.out, HM.out]; exact own_drew1 HST.out, (hbel5.setCell hgl.1 _).drew⟩
                          case measure => simp [intOf]; omega
                        · have HM : Hid (min p1 p2 = p2) := Lib.hid (Int.min_eq_right (by omega))
                          go_wp2
                          go_quiet (fail)
                          have hq5 : Quiet wr (wr.drewN nq) := Quiet.mk _ _
                          generalize wr.drewN nq = w5 at hq5 ⊢
                          have hfa5 : w5.cell? ⟨g, a, none⟩ = some (.int .i64 p1) := by obtain ⟨m, rfl⟩ := hq5; exact hfa
                          have hfb5 : w5.cell? ⟨g, b, none⟩ = some (.int .i64 p2) := by obtain ⟨m, rfl⟩ := hq5; exact hfb
                          have hfz5 : w5.frozen? ⟨g, a, none⟩ = false := by obtain ⟨m, rfl⟩ := hq5; exact hfz
                          have hbel5 : Below w.heap.size w w5 := by obtain ⟨m, rfl⟩ := hq5; exact below_drewN hbel m
                          have HST := Lib.hid (own_stored (own_quiet HOH.out hq5) HHL.out.symm a p2).1
                          clear hq5
                          go_wp2
                          go_still_tail 12, (by kernel_rfl)
                          change wpList _ _ _ _ _ w5.drew
                          go_wp2
                          go_roundw
                          case rel => exact ⟨b + 1, by omega, by go_num, by rw [HSET.out.1 HT.out, HM.out]; exact own_drew1 HST.out, (hbel5.setCell hgl.1 _).drew⟩
                          case measure => simp [intOf]; omega
                      · have HT : Hid (tog xs ys a b = false) := by
                          have h : tog xs ys a b = false := by rw [HTOG.out]; simp [hxx, hyy]
                          exact Lib.hid h
                        have hby : (y1 == y2) = false := by simpa using hyy
                        clear hxx hyy
                        go_wp2
                        go_quiet (fail)
                        go_wp2
                        go_roundw
                        case rel => exact ⟨b + 1, by omega, by go_num, by rw [HSET.out.2 HT.out]; exact own_quiet HOH.out (Quiet.mk _ _), below_drewN hbel _⟩
                        case measure => simp [intOf]; omega
                  · have hbk : b = k := by omega
                    have HOb := Lib.hid hown
                    clear hown
                    rw [hbk] at HOb
                    subst hbk
                    go_wp2
                    go_roundw
                    case rel => exact ⟨a + 1, by omega, by go_num, by rw [joinPass, ← HG.out]; exact HOb.out, hbel⟩
                    case measure => simp [intOf]; omega
              · have hak : a = k := by omega
                clear hown
                rw [hak] at HOa
                subst hak
                go_wp2
                go_roundw
                case rel => exact ⟨t + 1, by omega, by go_num, by rw [joinAll, ← HF.out]; exact HOa.out, hbel⟩
                case measure => simp [intOf]; omega
          · have htk : t = k := by omega
            clear hown
            rw [htk] at HOt
            subst htk
            have HRD := Lib.hid (own_rdv HOt.out)
            go_wp2_with fail
            refine (l1Kernel_v _ _ _ HRD.out (by rw [joinAll_len]; omega)).mono ?_
            rintro e w6 ⟨u, rfl, ho, hb⟩
            go_wp2
            go_ret2
            exact ⟨_, rfl, own_mono ho hbel.size, below_step hbel hb⟩

end Go.Proofs.Ytbmpchpcihnbdaa

/-
  Labels handed on along pairs, pass by pass, and trees of things tied by pairs; both tell the same blocks. No program is named here.
-/
namespace Go.Proofs.Ytbmpchpcihnbdaa
set_option linter.unusedSimpArgs false
set_option linter.unusedVariables false
set_option linter.unnecessarySimpa false

theorem labStep_len (f : List Int) (p : Nat × Nat) : (labStep f p).length = f.length := by simp [labStep]
theorem labStep_at (f : List Int) (p : Nat × Nat) (n : Nat) (hf : f.length = n) (h1 : p.1 < n) (h2 : p.2 < n) (j : Nat) :
    (labStep f p).getD j 0 = if j = p.1 ∨ j = p.2 then min (f.getD p.1 0) (f.getD p.2 0) else f.getD j 0 := by
  unfold labStep
  rw [getD_setI _ _ _ _ (by rw [List.length_set]; omega), getD_setI _ _ _ _ (by omega)]
  by_cases e2 : j = p.2
  · simp [e2]
  · by_cases e1 : j = p.1
    · simp [e1]
    · simp [e1, e2]

section
variable (n : Nat)

theorem lab_ind (P : List Int → Prop) : ∀ (L : List (Nat × Nat)), (∀ f p, p ∈ L → P f → P (labStep f p)) → ∀ f, P f → P (L.foldl labStep f) := by
  intro L
  induction L with
  | nil => intro _ f h; exact h
  | cons a L ih =>
    intro hP f h
    exact ih (fun f p hp => hP f p (by simp [hp])) _ (hP f a (by simp) h)

theorem labTo_ind (L : List (Nat × Nat)) (P : List Int → Prop) (hP : ∀ f p, p ∈ L → P f → P (labStep f p)) (h : P (iota 0 n)) : ∀ t, P (labTo n L t) := by
  intro t
  induction t with
  | zero => exact h
  | succ t ih => exact lab_ind P L hP _ ih

theorem lab_le (L : List (Nat × Nat)) (hL : InN n L) (f : List Int) (hf : f.length = n) : LeOf n f (L.foldl labStep f) := by
  refine lab_ind (LeOf n f) L (fun g p hp hg => ⟨by rw [labStep_len]; exact hg.1, fun j hj => ?_⟩) f ⟨hf, fun _ _ => Int.le_refl _⟩
  rw [labStep_at g p n hg.1 (hL p hp).1 (hL p hp).2]
  have h1 := hg.2 j hj
  split
  · rename_i e
    rcases e with rfl | rfl <;> omega
  · exact h1

theorem lab_hit : ∀ (L : List (Nat × Nat)), InN n L → ∀ f : List Int, f.length = n → ∀ p ∈ L, (L.foldl labStep f).getD p.1 0 ≤ f.getD p.2 0 ∧ (L.foldl labStep f).getD p.2 0 ≤ f.getD p.1 0 := by
  intro L
  induction L with
  | nil => intro _ f _ p hp; cases hp
  | cons a L ih =>
    intro hL f hf p hp
    have ha := hL a (by simp)
    have hL' : InN n L := fun q hq => hL q (by simp [hq])
    have hl1 : (labStep f a).length = n := by rw [labStep_len]; exact hf
    have hle := lab_le n L hL' _ hl1
    show (L.foldl labStep (labStep f a)).getD p.1 0 ≤ _ ∧ (L.foldl labStep (labStep f a)).getD p.2 0 ≤ _
    rcases List.mem_cons.1 hp with rfl | hp
    · have h1 := hle.2 p.1 ha.1
      have h2 := hle.2 p.2 ha.2
      rw [labStep_at f p n hf ha.1 ha.2, if_pos (.inl rfl)] at h1
      rw [labStep_at f p n hf ha.1 ha.2, if_pos (.inr rfl)] at h2
      omega
    · have h1 := ih hL' _ hl1 p hp
      have hq := hL' p hp
      have h2 := (lab_le n [a] (fun q hq => by simp at hq; subst hq; exact ha) f hf).2 p.1 hq.1
      have h3 := (lab_le n [a] (fun q hq => by simp at hq; subst hq; exact ha) f hf).2 p.2 hq.2
      simp only [List.foldl_cons, List.foldl_nil] at h2 h3
      omega

/-- Both things of a pair have a number up to m, or none. -/
def ShutP (m : Int) (L : List (Nat × Nat)) (f : List Int) : Prop := ∀ p ∈ L, f.getD p.1 0 ≤ m ↔ f.getD p.2 0 ≤ m

theorem lab_shut (m : Int) (L : List (Nat × Nat)) (hL : InN n L) (f : List Int) (hf : f.length = n) (hs : ShutP m L f) : ∀ j, j < n → (L.foldl labStep f).getD j 0 ≤ m → f.getD j 0 ≤ m := by
  refine (lab_ind (fun h => h.length = n ∧ ∀ j, j < n → h.getD j 0 ≤ m → f.getD j 0 ≤ m) L ?_ f ⟨hf, fun _ _ h => h⟩).2
  intro h p hp ⟨hl, hh⟩
  refine ⟨by rw [labStep_len]; exact hl, fun j hj e => ?_⟩
  have hq := hL p hp
  rw [labStep_at h p n hl hq.1 hq.2] at e
  split at e
  · rename_i e2
    have k1 := hh p.1 hq.1
    have k2 := hh p.2 hq.2
    have s := hs p hp
    rcases Int.le_total (h.getD p.1 0) (h.getD p.2 0) with h1 | h1
    · rw [Int.min_eq_left h1] at e
      rcases e2 with rfl | rfl
      · exact k1 e
      · exact s.1 (k1 e)
    · rw [Int.min_eq_right h1] at e
      rcases e2 with rfl | rfl
      · exact s.2 (k2 e)
      · exact k2 e
  · exact hh j hj e

theorem labTo_len (L : List (Nat × Nat)) (t : Nat) : (labTo n L t).length = n :=
  labTo_ind n L (fun f => f.length = n) (fun f p _ h => by rw [labStep_len]; exact h) (iota_length 0 n) t

theorem lab_or (L : List (Nat × Nat)) (hL : InN n L) (m : Nat) (hm : m < n) : ∀ t, ShutP m L (labTo n L t) ∨ t + 1 ≤ upTo n m (labTo n L t) := by
  intro t
  induction t with
  | zero =>
    refine .inr ?_
    have : m ∈ (List.range n).filter fun j => decide ((iota 0 n).getD j 0 ≤ (m : Int)) := by
      rw [List.mem_filter]
      refine ⟨by simpa using hm, ?_⟩
      rw [iota_getD _ _ _ hm]
      simp
    exact List.length_pos_of_mem this
  | succ t ih =>
    have hl := labTo_len n L t
    have hle := (lab_le n L hL _ hl).2
    by_cases hs : ShutP m L (labTo n L t)
    · refine .inl fun p hp => ?_
      have hq := hL p hp
      have a1 := lab_shut n m L hL _ hl hs p.1 hq.1
      have a2 := lab_shut n m L hL _ hl hs p.2 hq.2
      have b1 := hle p.1 hq.1
      have b2 := hle p.2 hq.2
      have s := hs p hp
      show (L.foldl labStep (labTo n L t)).getD p.1 0 ≤ _ ↔ (L.foldl labStep (labTo n L t)).getD p.2 0 ≤ _
      exact ⟨fun e => Int.le_trans b2 (s.1 (a1 e)), fun e => Int.le_trans b1 (s.2 (a2 e))⟩
    · rcases ih with h | h
      · exact absurd h hs
      · refine .inr ?_
        have hex : ∃ i, i < n ∧ (labTo n L (t + 1)).getD i 0 ≤ (m : Int) ∧ ¬ (labTo n L t).getD i 0 ≤ (m : Int) := by
          refine Classical.byContradiction fun hc => hs fun p hp => ?_
          have hq := hL p hp
          have hh := lab_hit n L hL _ hl p hp
          refine ⟨fun e => ?_, fun e => ?_⟩
          · refine Classical.byContradiction fun h2 => hc ⟨p.2, hq.2, ?_, h2⟩
            exact Int.le_trans hh.2 e
          · refine Classical.byContradiction fun h2 => hc ⟨p.1, hq.1, ?_, h2⟩
            exact Int.le_trans hh.1 e
        obtain ⟨i, hi, e1, e2⟩ := hex
        have : upTo n m (labTo n L t) < upTo n m (labTo n L (t + 1)) := by
          refine filter_len_lt _ _ _ (fun j hj e => ?_) i (by simpa using hi) (by simpa using e2) (by simpa using e1)
          have := hle j (by simpa using hj)
          simp only [decide_eq_true_eq] at e ⊢
          exact Int.le_trans this e
        omega

theorem lab_closed (L : List (Nat × Nat)) (hL : InN n L) (m : Nat) (hm : m < n) : ShutP m L (labTo n L n) := by
  rcases lab_or n L hL m hm n with h | h
  · exact h
  · have := List.length_filter_le (fun j => decide ((labTo n L n).getD j 0 ≤ (m : Int))) (List.range n)
    rw [List.length_range] at this
    unfold upTo at h
    omega

theorem lab_good (L : List (Nat × Nat)) (hL : InN n L) (g : Nat → Int) (hg : ∀ p ∈ L, g p.1 = g p.2) (t : Nat) : Good n g (labTo n L t) := by
  refine labTo_ind n L (Good n g) ?_ ⟨iota_length 0 n, fun i hi => ?_⟩ t
  · intro f p hp ⟨hl, hf⟩
    have hq := hL p hp
    refine ⟨by rw [labStep_len]; exact hl, fun j hj => ?_⟩
    rw [labStep_at f p n hl hq.1 hq.2]
    split
    · rename_i e
      have h1 := hf p.1 hq.1
      have h2 := hf p.2 hq.2
      have h3 := hg p hp
      rcases Int.le_total (f.getD p.1 0) (f.getD p.2 0) with h4 | h4
      · rw [Int.min_eq_left h4]
        rcases e with rfl | rfl
        · exact h1
        · exact ⟨h1.1, h1.2.1, h1.2.2.trans h3⟩
      · rw [Int.min_eq_right h4]
        rcases e with rfl | rfl
        · exact ⟨h2.1, h2.2.1, h2.2.2.trans h3.symm⟩
        · exact h2
    · exact hf j hj
  · rw [iota_getD _ _ _ hi]
    simp [hi]

theorem lab_eq (L : List (Nat × Nat)) (hL : InN n L) {p : Nat × Nat} (hp : p ∈ L) : (labTo n L n).getD p.1 0 = (labTo n L n).getD p.2 0 := by
  have hq := hL p hp
  have hgd := lab_good n L hL (fun _ => 0) (fun _ _ => rfl) n
  have h1 := hgd.2 p.1 hq.1
  have h2 := hgd.2 p.2 hq.2
  have s1 := (lab_closed n L hL ((labTo n L n).getD p.1 0).toNat h1.2.1 p hp).1 (by omega)
  have s2 := (lab_closed n L hL ((labTo n L n).getD p.2 0).toNat h2.2.1 p hp).2 (by omega)
  omega

/-- Any numbers that are alike for the things of a pair, and are told by things alike, tell the blocks by pairs. -/
theorem lab_tells (L : List (Nat × Nat)) (hL : InN n L) (r : List Int) (hr : r.length = n) (heq : ∀ p ∈ L, r.getD p.1 0 = r.getD p.2 0)
    (hgood : ∀ g : Nat → Int, (∀ p ∈ L, g p.1 = g p.2) → Good n g r) : kOut r = partP n L := by
  have hl := labTo_len n L n
  unfold partP
  refine (kOut_pat (labTo n L n) r (by rw [hr, hl]) fun i j hi hj => ?_).1
  rw [hl] at hi hj
  constructor
  · intro e
    have hg := lab_good n L hL (fun i => r.getD i 0) heq n
    have h1 := (hg.2 i hi).2.2
    have h2 := (hg.2 j hj).2.2
    rw [e] at h1
    exact h1.symm.trans h2
  · intro e
    have hg := hgood (fun i => (labTo n L n).getD i 0) (fun p hp => lab_eq n L hL hp)
    have h1 := (hg.2 i hi).2.2
    have h2 := (hg.2 j hj).2.2
    rw [e] at h1
    exact h1.symm.trans h2
end

/-- The roots behind tying the things of each pair. -/
def rootsP (L : List (Nat × Nat)) (rt : Nat → Nat) : Nat → Nat := L.foldl (fun rt p => tied rt p.1 p.2) rt

/-- What is known of the roots when the pairs of L are tied. -/
def JoinedP (n : Nat) (L : List (Nat × Nat)) (rt : Nat → Nat) : Prop :=
  (∀ p ∈ L, rt p.1 = rt p.2) ∧ ∀ g : Nat → Int, (∀ p ∈ L, g p.1 = g p.2) → ∀ j, j < n → g (rt j) = g j

theorem joinedP_nil (n : Nat) : JoinedP n [] id := ⟨fun p hp => (by cases hp), fun g _ j _ => rfl⟩
theorem joinedP_step {n : Nat} {L : List (Nat × Nat)} {rt : Nat → Nat} (h : JoinedP n L rt) (p : Nat × Nat) (h1 : p.1 < n) (h2 : p.2 < n) : JoinedP n (L ++ [p]) (tied rt p.1 p.2) := by
  refine ⟨fun q hq => ?_, fun g hg => ?_⟩
  · rcases List.mem_append.1 hq with hq | hq
    · exact tied_keeps _ _ _ (h.1 q hq)
    · simp at hq
      subst hq
      exact tied_eq _ _ _
  · exact tied_good g (h.2 g fun q hq => hg q (by simp [hq])) h1 h2 (hg p (by simp))

end Go.Proofs.Ytbmpchpcihnbdaa

/-
  The contracts of connected, l8Part, and of PairPart, PairWhole of both sides.
-/
namespace Go.Proofs.Ytbmpchpcihnbdaa
set_option linter.unusedSimpArgs false
set_option linter.unusedVariables false
set_option linter.unnecessarySimpa false
open Go.RowKit
set_option maxRecDepth 100000

theorem joinedP_end {n : Nat} {L : List (Nat × Nat)} {par rt : Nat → Nat} (hL : InN n L) (hf : Forest n par rt) (h : JoinedP n L rt) : kOut (rootList rt n) = partP n L := by
  refine lab_tells n L hL (rootList rt n) (rootList_length _ _) (fun p hp => ?_) fun g hg => ⟨rootList_length _ _, fun i hi => ?_⟩
  · have hq := hL p hp
    rw [rootList_getD _ _ _ hq.1, rootList_getD _ _ _ hq.2, h.1 p hp]
  · rw [rootList_getD _ _ _ hi]
    refine ⟨by omega, by have := (hf i hi).1; omega, ?_⟩
    rw [Int.toNat_natCast]
    exact h.2 g hg i hi

set_option maxHeartbeats 4000000 in
theorem connected_any (n : Nat) (v : Value) (L : List (Nat × Nat)) (w : World) (hv : RdP w v L) (hL : InN n L) (h1 : 1 ≤ n) (h8 : n ≤ 8) (hl : L.length ≤ 1000000) :
    Calls Try.prog 70 #[.int .i64 n, v] w (FreshL w (partP n L)) := by
  obtain ⟨ao, ca, rfl, hlc, hcm, hx⟩ := hv
  obtain ⟨m, hm⟩ : ∃ m, m = L.length := ⟨_, rfl⟩
  rw [← hm] at hlc hl ⊢
  have HM := Lib.hid hm
  have HX := Lib.hid hx
  have HIN := Lib.hid hL
  clear hm hx hL
  go_enter Try.func70, Try.ntmps70
  go_wp2_with fail
  refine (looseLinks_any n _ h1 h8).mono ?_
  rintro e w1 ⟨rfl, hb1, C, hl1⟩
  have HL1 := Lib.hid hl1
  clear hl1
  go_wp2
  go_loopw [12] (fun i wr => ∃ (k : Nat) (par rt : Nat → Nat), k ≤ m ∧ i = .int .i64 k ∧ Links wr w.heap.size C n par ∧ Forest n par rt ∧ JoinedP n (L.take k) rt ∧ Below w.heap.size w wr) (fun i _ => m - (intOf i).toNat)
  case atStart => exact ⟨0, id, id, Nat.zero_le _, rfl, HL1.out, forest_id n, joinedP_nil _, hb1⟩
  case round =>
    obtain ⟨k, par, rt, hk, rfl, hlk, hfo, hjo, hbel⟩ := hrel
    have hBC := hlk.1
    by_cases hlt : k < m
    · rcases HX.out with hx | ⟨bb, off, rfl, hcx⟩
      · have := HM.out
        rw [hx] at this
        simp at this
        omega
      have hbw : bb < w.heap.size := World.block_lt_of_cell? w _ (hcx k (by have := HM.out; omega)).1
      have hcx' := hcx k (by have := HM.out; omega)
      have hc1 := cellSt hcx'.1 hbel
      have hc2 := cellSt hcx'.2 hbel
      have hpn := HIN.out (L.getD k (0, 0)) (by have h : k < L.length := (by have := HM.out; omega); rw [show L.getD k (0, 0) = L[k] by simp [List.getD, h]]; exact List.getElem_mem h)
      have hts := take_snocP L k (by have := HM.out; omega)
      have hjs := joinedP_step hjo (L.getD k (0, 0)) hpn.1 hpn.2
      rw [← hts] at hjs
      obtain ⟨⟨a, b⟩, hy⟩ : ∃ y, y = L.getD k (0, 0) := ⟨_, rfl⟩
      rw [← hy] at hc1 hc2 hpn hjs
      dsimp only at hc1 hc2 hpn hjs
      obtain ⟨ha, hb⟩ := hpn
      have hp1 := (hlk.2 a ha).1
      have hp2 := (hlk.2 b hb).1
      have hkw : k < L.length := by have := HM.out; omega
      have b0 : (k : Int) < m := by omega
      have b1 : (a : Int) < n := by omega
      have b2 : (b : Int) < n := by omega
      have b3 : (0 : Int) ≤ (a : Int) := by omega
      have b4 : (0 : Int) ≤ (b : Int) := by omega
      have HJS := Lib.hid hjs
      have HFO := Lib.hid hfo
      have hbr := hbel.size
      have HLK := Lib.hid (links_below hlk ((Below.refl wr.heap.size wr).alloc (Nat.le_refl _) (.cells #[.int .i64 a, .int .i64 b] 62)))
      have HBL := Lib.hid hbel
      clear hy hcx hcx' hts hjs hjo hlk hfo hkw
      go_wp2
      obtain ⟨W, hW⟩ : ∃ W, W = wr.alloc (.cells #[.int .i64 a, .int .i64 b] 62) := ⟨_, rfl⟩
      have f1 : W.cell? ⟨wr.heap.size, 0, none⟩ = some (.int .i64 a) := by rw [hW]; exact (cells_two rfl).1
      have f2 : W.cell? ⟨wr.heap.size, 1, none⟩ = some (.int .i64 b) := by rw [hW]; exact (cells_two rfl).2
      have f3 : W.cell? ⟨w.heap.size, a, none⟩ = some (.pointer (some ⟨C + a, 0, none⟩)) := by rw [hW]; exact cellAl hp1 _
      have f4 : W.cell? ⟨w.heap.size, b, none⟩ = some (.pointer (some ⟨C + b, 0, none⟩)) := by rw [hW]; exact cellAl hp2 _
      have hbW : Below w.heap.size w W := by rw [hW]; exact hbel.alloc hbr _
      rw [← hW] at HLK ⊢
      clear hW hp1 hp2 hc1 hc2
      have HLD : Hid (Links W.drew w.heap.size C n par) := Lib.hid (links_quiet HLK.out (Quiet.mk W 1))
      go_still_tail 10, (by kernel_rfl)
      change wpList _ _ _ _ _ W.drew
      go_wp2_with fail
      refine (tie_any w.heap.size C n a b par rt _ HLD.out HFO.out ha hb).mono ?_
      rintro e w2 ⟨rfl, par2, hl2, hf2, hb2⟩
      have hbel2 : Below w.heap.size w w2 := hbW.drew.trans (hb2.mono (Nat.le_of_lt hBC))
      have HL2 := Lib.hid hl2
      have HF2 := Lib.hid hf2
      clear hl2 hf2 hb2
      go_wp2
      go_roundw
      case rel => exact ⟨k + 1, par2, _, by omega, by go_num, HL2.out, HF2.out, HJS.out, hbel2⟩
      case measure => simp [intOf]; omega
    · have hkm : k = m := by omega
      subst hkm
      rw [List.take_of_length_le (by have := HM.out; omega)] at hjo
      have hend := joinedP_end HIN.out hfo hjo
      have HLK := Lib.hid hlk
      have HFO := Lib.hid hfo
      clear hjo hlk hfo
      go_wp2_with fail
      refine (tiedOut_any w.heap.size C n par rt wr HLK.out HFO.out h1 h8).mono ?_
      rintro e w6 ⟨u, rfl, ho, hb⟩
      have HOU := Lib.hid (own_mono ho hbel.size)
      have HBU := Lib.hid (below_step hbel hb)
      rw [hend] at HOU
      clear ho hb hend
      go_wp2
      go_ret
      exact ⟨_, rfl, HOU.out, HBU.out⟩

theorem fold_len (L : List (Nat × Nat)) (f : List Int) : (L.foldl labStep f).length = f.length := by
  refine lab_ind (fun g => g.length = f.length) L (fun g p _ h => by rw [labStep_len]; exact h) f rfl

set_option maxHeartbeats 8000000 in
theorem l8Part_any (n : Nat) (v : Value) (L : List (Nat × Nat)) (w : World) (hv : RdM w v (encPs L)) (hL : InN n L) (h8 : n ≤ 8) :
    Calls Try.prog 72 #[.int .i64 n, v] w (FreshL w (partP n L)) := by
  obtain ⟨ao, ca, vs, rfl, h1, h2, hx⟩ := encPs_at hv
  unfold maxLen at h2
  obtain ⟨m, hm⟩ : ∃ m, m = L.length := ⟨_, rfl⟩
  rw [← hm] at h1 ⊢
  have HM := Lib.hid hm
  have HX := Lib.hid hx
  have HIN := Lib.hid hL
  unfold partP
  clear hm hx hL hv
  go_enter Try.func72, Try.ntmps72
  go_wp2
  go_loopw [5, 6] (fun u i wr => ∃ k g cap : Nat, k ≤ n ∧ i = .int .i64 k ∧ u = .slice (some ⟨g, 0, none⟩) k cap ∧ Own wr w.heap.size (.slice (some ⟨g, 0, none⟩) k cap) (iota 0 k) ∧ Below w.heap.size w wr) (fun _ i _ => n - (intOf i).toNat)
  case atStart => exact ⟨0, w.heap.size, 0, Nat.zero_le _, rfl, rfl, own_empty w _ (Nat.le_refl _), (Below.refl _ _).alloc (Nat.le_refl _) _⟩
  case round =>
    obtain ⟨k, g, cap, hk, rfl, rfl, hown, hbel⟩ := hrel
    have HO := Lib.hid hown
    have hB := hbel.size
    by_cases hlt : k < n
    · clear hown
      go_wp2_with (at_builtin; refine wpList_push rfl _ _ rfl w.heap.size g k cap (iota 0 k) rfl (own_alloc HO.out _) (by rw [iota_length]) ⟨wr.heap.size, 0, none⟩ rfl (k : Int) (cell_new1 _ _ _) (by omega) (by simp; omega) ?_)
      intro g' cap' w2 hown2 hgr2 hg2
      have hbel2 : Below w.heap.size w w2 := (hbel.alloc hB _).grown hgr2 (by simp; omega) (fun q hq => by cases hq; exact (own_lt HO.out g rfl).1)
      have HO2 := Lib.hid hown2
      clear hown2 hgr2 hg2
      go_wp2
      go_roundw
      case rel => exact ⟨k + 1, g', cap', by omega, by go_num, rfl, by rw [iota_snoc]; exact HO2.out, hbel2⟩
      case measure => simp [intOf]; omega
    · have hkn : k = n := by omega
      subst hkn
      obtain ⟨wo, hwo⟩ : ∃ wo : World, wo = wr := ⟨_, rfl⟩
      subst hwo
      have hgl := own_lt hown g rfl
      clear hown
      go_wp2
      go_loopw [7] (fun i wr => ∃ t : Nat, t ≤ k ∧ i = .int .i64 t ∧ Own wr w.heap.size (.slice (some ⟨g, 0, none⟩) k cap) (labTo k L t) ∧ Below w.heap.size w wr) (fun i _ => k - (intOf i).toNat)
      case atStart => exact ⟨0, Nat.zero_le _, rfl, HO.out, hbel⟩
      case round =>
        obtain ⟨t, ht, rfl, hown, hbel⟩ := hrel
        have HOt := Lib.hid hown
        by_cases htk : t < k
        · obtain ⟨F, hF⟩ : ∃ F, F = labTo k L t := ⟨_, rfl⟩
          have hFl : F.length = k := by rw [hF]; exact labTo_len k L t
          rw [← hF] at HOt
          have HF := Lib.hid hF
          have HFL := Lib.hid hFl
          clear hown hF hFl
          go_wp2
          go_loopw [8] (fun i wr => ∃ x : Nat, x ≤ m ∧ i = .int .i64 x ∧ Own wr w.heap.size (.slice (some ⟨g, 0, none⟩) k cap) ((L.take x).foldl labStep F) ∧ Below w.heap.size w wr) (fun i _ => m - (intOf i).toNat)
          case atStart => exact ⟨0, Nat.zero_le _, rfl, HOt.out, hbel⟩
          case round =>
            obtain ⟨x, hxm, rfl, hown, hbel⟩ := hrel
            by_cases hxl : x < m
            · rcases HX.out with hx | ⟨bb, off, rfl, hcx⟩
              · have := HM.out
                rw [hx] at this
                simp at this
                omega
              obtain ⟨zb, zo, zc, hz, z1, z2, c0, c1⟩ := hcx x (by have := HM.out; omega)
              have d0 := cellSt hz hbel
              have d1 := cellSt c0 hbel
              have d2 := cellSt c1 hbel
              have hzw : zb < w.heap.size := World.block_lt_of_cell? w _ c0
              have hbw : bb < w.heap.size := World.block_lt_of_cell? w _ hz
              have hpn := HIN.out (L.getD x (0, 0)) (by have h : x < L.length := (by have := HM.out; omega); rw [show L.getD x (0, 0) = L[x] by simp [List.getD, h]]; exact List.getElem_mem h)
              have hts : (L.take (x + 1)).foldl labStep F = labStep ((L.take x).foldl labStep F) (L.getD x (0, 0)) := by
                rw [take_snocP L x (by have := HM.out; omega), List.foldl_append]
                rfl
              have hGl : ((L.take x).foldl labStep F).length = k := by rw [fold_len]; exact HFL.out
              obtain ⟨⟨a, b⟩, hy⟩ : ∃ y, y = L.getD x (0, 0) := ⟨_, rfl⟩
              rw [← hy] at d1 d2 hpn hts
              dsimp only at d1 d2 hpn
              obtain ⟨ha, hb⟩ := hpn
              obtain ⟨G, hG⟩ : ∃ G, G = (L.take x).foldl labStep F := ⟨_, rfl⟩
              rw [← hG] at hts hGl hown
              have e1 := own_cell hown a (by rw [hGl]; exact ha)
              have e2 := own_cell hown b (by rw [hGl]; exact hb)
              have hlab : labStep G (a, b) = (G.set a (min (G.getD a 0) (G.getD b 0))).set b (min (G.getD a 0) (G.getD b 0)) := rfl
              rw [hlab] at hts
              obtain ⟨p, hp⟩ : ∃ p, p = G.getD a 0 := ⟨_, rfl⟩
              obtain ⟨q, hq⟩ : ∃ q, q = G.getD b 0 := ⟨_, rfl⟩
              rw [← hp] at e1 hts
              rw [← hq] at e2 hts
              obtain ⟨s, hs⟩ : ∃ s, s = min p q := ⟨_, rfl⟩
              rw [← hs] at hts
              have HS := Lib.hid hs
              have HTS := Lib.hid hts
              have HGL := Lib.hid hGl
              have HOG := Lib.hid hown
              have b0 : (x : Int) < m := by omega
              have b1 : (a : Int) < k := by omega
              have b2 : (b : Int) < k := by omega
              clear hcx hz c0 c1 hy hlab hts hGl hG hp hq hs hown
              go_wp2_with fail
              have HSV : Hid (s = min p q) := HS
              obtain ⟨W5, hW5⟩ : ∃ W5, W5 = wr.drew := ⟨_, rfl⟩
              have k0 : W5.cell? ⟨bb, off + x, none⟩ = some (.slice (some ⟨zb, zo, none⟩) 2 zc) := by rw [hW5]; exact d0
              have k1 : W5.cell? ⟨zb, zo, none⟩ = some (.int .i64 a) := by rw [hW5]; exact d1
              have k2 : W5.cell? ⟨zb, zo + 1, none⟩ = some (.int .i64 b) := by rw [hW5]; exact d2
              have k3 : W5.cell? ⟨g, a, none⟩ = some (.int .i64 p) := by rw [hW5]; exact e1
              have k4 : W5.cell? ⟨g, b, none⟩ = some (.int .i64 q) := by rw [hW5]; exact e2
              have hbel5 : Below w.heap.size w W5 := by rw [hW5]; exact hbel.drew
              have hown5 : Own W5 w.heap.size (.slice (some ⟨g, 0, none⟩) k cap) G := by rw [hW5]; exact own_drew1 HOG.out
              have hf5 := own_frozen hown5 a
              have st1 := (own_stored hown5 HGL.out.symm a (min p q)).1
              obtain ⟨W6, hW6⟩ : ∃ W6, W6 = W5.setCell ⟨g, a, none⟩ (.int .i64 (min p q)) := ⟨_, rfl⟩
              rw [← hW6] at st1
              have j0 : W6.cell? ⟨bb, off + x, none⟩ = some (.slice (some ⟨zb, zo, none⟩) 2 zc) := by rw [hW6, cell_set_other (by intro e; simp at e <;> omega)]; exact k0
              have j1 : W6.cell? ⟨zb, zo, none⟩ = some (.int .i64 a) := by rw [hW6, cell_set_other (by intro e; simp at e <;> omega)]; exact k1
              have j2 : W6.cell? ⟨zb, zo + 1, none⟩ = some (.int .i64 b) := by rw [hW6, cell_set_other (by intro e; simp at e <;> omega)]; exact k2
              have hl6 : (G.set a (min p q)).length = k := by rw [List.length_set]; exact HGL.out
              obtain ⟨v6, j4⟩ : ∃ v6, W6.cell? ⟨g, b, none⟩ = some v6 := ⟨_, own_cell st1 b (by rw [hl6]; exact hb)⟩
              have hf6 := own_frozen st1 b
              have hbel6 : Below w.heap.size w W6 := by rw [hW6]; exact hbel5.setCell hgl.1 _
              have st2 := (own_stored st1 hl6.symm b (min p q)).1
              have HST := Lib.hid st2
              have HB6 := Lib.hid hbel6
              have HW6 := Lib.hid hW6
              rw [HSV.out] at HTS
              rw [hW6] at j0 j1 j2 j4 hf6
              clear st1 st2 hown5 hl6 hbel5 hbel6 hW6
              go_still_tail 18, (by kernel_rfl)
              change wpList _ _ _ _ _ wr.drew
              rw [← hW5]
              clear hW5 d0 d1 d2 e1 e2
              go_wp2
              go_roundw
              case rel => exact ⟨x + 1, by omega, by go_num, by rw [HTS.out, ← HW6.out]; exact HST.out, by rw [← HW6.out]; exact HB6.out.setCell hgl.1 _⟩
              case measure => simp [intOf]; omega
            · have hxm' : x = m := by omega
              have HOx := Lib.hid hown
              rw [List.take_of_length_le (by have := HM.out; omega)] at HOx
              clear hown
              subst hxm'
              go_wp2
              go_roundw
              case rel => exact ⟨t + 1, by omega, by go_num, by rw [labTo, ← HF.out]; exact HOx.out, hbel⟩
              case measure => simp [intOf]; omega
        · have htk : t = k := by omega
          clear hown
          rw [htk] at HOt
          subst htk
          have HRD := Lib.hid (own_rdv HOt.out)
          go_wp2_with fail
          refine (l1Kernel_v _ _ _ HRD.out (by rw [labTo_len]; omega)).mono ?_
          rintro e w6 ⟨u, rfl, ho, hb⟩
          go_wp2
          go_ret
          exact ⟨_, rfl, own_mono ho hbel.size, below_step hbel hb⟩

end Go.Proofs.Ytbmpchpcihnbdaa

