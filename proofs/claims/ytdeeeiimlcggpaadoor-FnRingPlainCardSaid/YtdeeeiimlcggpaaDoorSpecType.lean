/-
  The contracts of spec.l1Blocks, spec.l1Type and spec.PartType.
-/
import Derived.Test.YtdeeeiimlcggpaaDoorSortMath
import Derived.Test.YtdeeeiimlcggpaaDoorMat
import Derived.Deep.RegionHeld3
namespace Go.Proofs.YtdeeeiimlcggpaaDoor
set_option linter.unusedSimpArgs false
set_option linter.unusedVariables false
set_option linter.unnecessarySimpa false
open Go.RowKit

/-- The things below k in the block b. -/
def blkAt (xs : List Int) (b : Nat) : Nat → List Int
  | 0 => []
  | k + 1 => if xs.getD k 0 = b then blkAt xs b k ++ [(k : Int)] else blkAt xs b k

theorem blkAt_length (xs : List Int) (b k : Nat) : (blkAt xs b k).length = cntAt xs b k := by
  induction k with
  | zero => rfl
  | succ k ih =>
    unfold blkAt cntAt
    split
    · simp [ih]
    · exact ih

theorem cntAt_le (xs : List Int) (b k : Nat) : cntAt xs b k ≤ k := by
  induction k with
  | zero => exact Nat.le_refl _
  | succ k ih => unfold cntAt; split <;> omega

/-- The blocks below p, as lists. -/
def blocksTo (xs : List Int) (p : Nat) : List (List Int) := (List.range p).map fun b => blkAt xs b xs.length

theorem blocksTo_length (xs : List Int) (p : Nat) : (blocksTo xs p).length = p := by simp [blocksTo]
theorem blocksTo_succ (xs : List Int) (p : Nat) : blocksTo xs (p + 1) = blocksTo xs p ++ [blkAt xs p xs.length] := by simp [blocksTo, List.range_succ]
theorem blocksTo_getD (xs : List Int) (p b : Nat) (h : b < p) : (blocksTo xs p).getD b [] = blkAt xs b xs.length := by simp [blocksTo, List.getD, h]

theorem l1Size_v (v : Value) (xs : List Int) (w : World) (hv : RdV w v xs) (hs : Small xs) : Calls Tryd.prog 61 #[v] w fun e w' => e = .returned (.int .i64 (pSize xs)) ∧ w = w' := by
  obtain ⟨ao, ca, rfl, h, h1, h2⟩ := hv
  unfold maxLen at h2
  exact l1Size_any ao ca xs w h (by omega) hs

set_option maxRecDepth 100000 in
set_option maxHeartbeats 4000000 in
theorem l1Blocks_v (v : Value) (xs : List Int) (p : Nat) (w : World) (hv : RdV w v xs) (hp : partIn xs = true) (hps : pSize xs = p) :
    Calls Tryd.prog 52 #[v] w (FreshM w (blocksTo xs p)) := by
  have hv0 := hv
  obtain ⟨ao, ca, rfl, h, h1, h2⟩ := hv
  have HV := Lib.hid hv0
  have hl := partIn_len hp
  have hsm := partIn_small hp
  have hbd := pSize_bd hsm
  rw [hps] at hbd
  have HPS := Lib.hid hps
  have HSM := Lib.hid hsm
  have HX := Lib.hid h
  obtain ⟨n, hn⟩ : ∃ n, n = xs.length := ⟨_, rfl⟩
  rw [← hn] at hl HV ⊢
  have HN := Lib.hid hn
  clear hv0 h hp hps hsm hn
  obtain ⟨hl1, hl8⟩ := hl
  go_enter Tryd.func52, Tryd.ntmps52
  go_wp2
  go_loopw [3, 4] (fun u i wr => ∃ k g cap : Nat, k ≤ p ∧ i = .int .i64 k ∧ u = .slice (some ⟨g, 0, none⟩) k cap ∧ OwnM wr w.heap.size wr.heap.size (.slice (some ⟨g, 0, none⟩) k cap) (blocksTo xs k) ∧ Below w.heap.size w wr)
    (fun _ i _ => p - (intOf i).toNat)
  case atStart => exact ⟨0, w.heap.size, 0, Nat.zero_le _, rfl, rfl, by simpa [blocksTo] using ownM_empty w _ (Nat.le_refl _), (Below.refl _ _).alloc (Nat.le_refl _) _⟩
  case round =>
    obtain ⟨k, g, cap, hk, rfl, rfl, hown, hbel⟩ := hrel
    have HO := Lib.hid hown
    have hB := hbel.size
    clear hown
    by_cases hlt : k < p
    · rcases HX.out with hx | ⟨bb, off, rfl, hcx⟩
      · have := HN.out
        rw [hx] at this
        simp at this
        omega
      · obtain ⟨wo, hwo⟩ : ∃ wo : World, wo = wr := ⟨_, rfl⟩
        subst hwo
        have HC := Lib.hid (fun j (hj : j < n) => show wo.cell? ⟨bb, off + j, none⟩ = some (.int .i64 (xs.getD j 0)) by
          have := hcx j (by have := HN.out; omega)
          rw [hbel.cell (World.block_lt_of_cell? w _ this)]
          exact this)
        clear hcx
        go_wp2_with fail
        refine (l1Size_v _ xs _ (rdv_below HV.out hbel) HSM.out).mono ?_
        rintro e w' ⟨rfl, rfl⟩
        rw [HPS.out]
        go_wp2
        go_loopw [5, 6] (fun u i wi => ∃ j g2 m cap2 : Nat, j ≤ n ∧ i = .int .i64 j ∧ u = .slice (some ⟨g2, 0, none⟩) m cap2 ∧ m = (blkAt xs k j).length ∧ Own wi wo.heap.size (.slice (some ⟨g2, 0, none⟩) m cap2) (blkAt xs k j) ∧ Below wo.heap.size wo wi)
          (fun _ i _ => n - (intOf i).toNat)
        case atStart => exact ⟨0, wo.heap.size, 0, 0, Nat.zero_le _, rfl, rfl, rfl, own_empty wo _ (Nat.le_refl _), (Below.refl _ _).alloc (Nat.le_refl _) _⟩
        case round =>
          obtain ⟨j, g2, m, cap2, hj, rfl, rfl, hm, hob, hbi⟩ := hrel
          have HM := Lib.hid hm
          have HOB := Lib.hid hob
          have hBi := hbi.size
          have hmj : m ≤ j := by rw [hm, blkAt_length]; exact cntAt_le xs k j
          clear hm hob
          by_cases hjn : j < n
          · have hcj := HC.out j hjn
            rw [← hbi.cell (World.block_lt_of_cell? wo _ hcj)] at hcj
            obtain ⟨x, hx⟩ : ∃ x, x = xs.getD j 0 := ⟨_, rfl⟩
            rw [← hx] at hcj
            have HXJ := Lib.hid hx
            clear hx
            by_cases hxk : x = (k : Int)
            · have hd : (x == (k : Int)) = true := by simpa using hxk
              have HXK := Lib.hid hxk
              clear hxk
              go_wp2_with (at_builtin; refine wpList_push rfl _ _ rfl wo.heap.size g2 m cap2 (blkAt xs k j) rfl (own_alloc HOB.out _) HM.out ⟨wr.heap.size, 0, none⟩ rfl (j : Int) (cell_new1 _ _ _) (by omega) (by simp; omega) ?_)
              intro g3 cap3 w3 hown3 hgr3 hg3
              have hbi3 : Below wo.heap.size wo w3 := (hbi.alloc hBi _).grown hgr3 (by simp; omega) (fun q hq => by cases hq; exact (own_lt HOB.out g2 rfl).1)
              have HO3 := Lib.hid hown3
              clear hown3 hgr3 hg3
              go_wp2
              go_roundw
              case rel =>
                have e : blkAt xs k (j + 1) = blkAt xs k j ++ [(j : Int)] := by rw [blkAt, if_pos (by rw [← HXJ.out]; exact HXK.out)]
                exact ⟨j + 1, g3, m + 1, cap3, by omega, by go_num, rfl, by rw [e]; simp; exact HM.out, by rw [e]; exact HO3.out, hbi3⟩
              case measure => simp [intOf]; omega
            · have hd : (x == (k : Int)) = false := by simpa using hxk
              have HXK := Lib.hid hxk
              clear hxk
              go_wp2
              go_roundw
              case rel =>
                have e : blkAt xs k (j + 1) = blkAt xs k j := by rw [blkAt, if_neg (by rw [← HXJ.out]; exact HXK.out)]
                exact ⟨j + 1, g2, m, cap2, by omega, by go_num, rfl, by rw [e]; exact HM.out, by rw [e]; exact HOB.out, hbi⟩
              case measure => simp [intOf]; omega
          · have hjn : j = n := by omega
            subst hjn
            have HOi := Lib.hid (ownM_below HO.out hbi)
            have hui := inB_of_own HOB.out
            have hbw : Below w.heap.size w wr := below_step hbel hbi
            have hown0 : Own wr w.heap.size (.slice (some ⟨g2, 0, none⟩) m cap2) (blkAt xs k j) := own_mono HOB.out hB
            have HO0 := Lib.hid hown0
            have HUI := Lib.hid hui
            have hgl := own_lt HOB.out g2 rfl
            clear hown0 hui
            go_wp2_with (at_builtin; refine wpList_pushM rfl _ _ rfl w.heap.size wo.heap.size g k cap (blocksTo xs k) rfl (ownM_below HOi.out (by exact (Below.refl _ _).alloc (Nat.le_refl _) _)) (by rw [blocksTo_length]) ⟨wr.heap.size, 0, none⟩ rfl (.slice (some ⟨g2, 0, none⟩) m cap2) (blkAt xs k j) (cell_new1 _ _ _) (own_alloc HO0.out _) (fun q hq => by cases hq; simp; omega) hB (by simp; omega) (by omega) (k + 1) rfl ?_)
            intro g4 cap4 w4 hown4 hgr4
            have hbel4 : Below w.heap.size w w4 := (hbw.alloc (by omega) _).grown hgr4 (by simp; omega) (fun q hq => by
              cases hq
              obtain ⟨vs, _, hv, _⟩ := ownM_parts HO.out
              rcases hv with ⟨h, _⟩ | ⟨g', cap', h, hb, _⟩
              · cases h
              · simp only [Value.slice.injEq, Option.some.injEq, Addr.mk.injEq, and_true, true_and] at h
                omega)
            have HO4 := Lib.hid hown4
            clear hown4 hgr4
            go_wp2
            go_roundw
            case rel => exact ⟨k + 1, g4, cap4, by omega, by go_num, rfl, by rw [blocksTo_succ, ← HN.out]; exact HO4.out, hbel4⟩
            case measure => simp [intOf]; omega
    · have hkp : k = p := by omega
      subst hkp
      go_wp2_with fail
      refine (l1Size_v _ xs _ (rdv_below HV.out hbel) HSM.out).mono ?_
      rintro e w' ⟨rfl, rfl⟩
      rw [HPS.out]
      go_wp2
      go_ret
      exact ⟨_, rfl, HO.out, hbel⟩

theorem sizes_eq (xs : List Int) (p k : Nat) (hp : pSize xs = p) (hk : k < p) : (sizes xs).getD k 0 = ((blocksTo xs p).getD k []).length := by
  rw [blocksTo_getD xs p k hk, blkAt_length]
  simp [sizes, List.getD, show k < (pSize xs).toNat by omega]

theorem fold_take_snoc (l : List Int) (k : Nat) (h : k < l.length) : (l.take (k + 1)).foldl insDesc [] = insDesc ((l.take k).foldl insDesc []) (l.getD k 0) := by
  rw [take_snoc l k h, List.foldl_append]
  rfl

theorem fold_length (l : List Int) : (l.foldl insDesc []).length = l.length := by rw [fold_desc, desc_length]

theorem cells_one {w : World} {ad : Addr} {x : Int} (h : w.cell? ad = some (.int .i64 x)) : ∀ j, j < [x].length → w.cell? (ad.add j) = some (.int .i64 ([x].getD j 0)) := by
  intro j hj
  have : j = 0 := by simpa using hj
  subst this
  simpa [Addr.add] using h

theorem cells_takeW {wo w : World} {g j : Nat} {L : List Int} (h : ∀ r, r < L.length → wo.cell? ⟨g, r, none⟩ = some (.int .i64 (L.getD r 0))) (hb : Below wo.heap.size wo w) : ∀ r, r < (L.take j).length → w.cell? ((⟨g, 0, none⟩ : Addr).add r) = some (.int .i64 ((L.take j).getD r 0)) := by
  intro r hr
  have h1 : r < j ∧ r < L.length := by simp at hr; omega
  rw [Addr.add_lit, Nat.zero_add, hb.cell (World.block_lt_of_cell? wo _ (h r h1.2)), h r h1.2]
  simp [List.getD, List.getElem?_take, h1.1]

theorem cells_dropW {wo w : World} {g j : Nat} {L : List Int} (h : ∀ r, r < L.length → wo.cell? ⟨g, r, none⟩ = some (.int .i64 (L.getD r 0))) (hb : Below wo.heap.size wo w) : ∀ r, r < (L.drop j).length → w.cell? ((⟨g, j, none⟩ : Addr).add r) = some (.int .i64 ((L.drop j).getD r 0)) := by
  intro r hr
  have h1 : j + r < L.length := by simp at hr; omega
  rw [Addr.add_lit, hb.cell (World.block_lt_of_cell? wo _ (h (j + r) h1)), h (j + r) h1]
  simp [List.getD]

theorem cells_drop0 {wo w : World} {g : Nat} {L : List Int} (h : ∀ r, r < L.length → wo.cell? ⟨g, r, none⟩ = some (.int .i64 (L.getD r 0))) (hb : Below wo.heap.size wo w) : ∀ r, r < (L.drop 0).length → w.cell? ((⟨g, 0, none⟩ : Addr).add r) = some (.int .i64 ((L.drop 0).getD r 0)) := cells_dropW h hb

end Go.Proofs.YtdeeeiimlcggpaaDoor
