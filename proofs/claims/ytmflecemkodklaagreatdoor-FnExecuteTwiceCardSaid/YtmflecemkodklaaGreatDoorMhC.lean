/-
  What the laws of this claim lean on: what functions of the program and of the model answer, one after another, and plain mathematics. No condition.
-/
import Derived.Test.YtmflecemkodklaaGreatDoorMhA
import Derived.Test.YtmflecemkodklaaGreatDoorMhB
import Derived.Deep.RegionHeld3
import Derived.StillTailTactics
import Derived.Test.YtmflecemkodklaaGreatDoorProg
import Derived.LaidEql
import Derived.Stop.Asserts
import Derived.RowKitTokens
import Derived.Deep.RegionWith
import Derived.Deep.RegionLaw

set_option linter.unusedVariables false
set_option linter.unusedSimpArgs false
set_option linter.unnecessarySimpa false
set_option maxRecDepth 100000

namespace Go.Proofs.YtmflecemkodklaaGreatDoor

section
open Go.RowKit

def blkAt (xs : List Int) (b : Nat) : Nat → List Int
  | 0 => []
  | k + 1 => if xs.getD k 0 = b then blkAt xs b k ++ [(k : Int)] else blkAt xs b k

theorem blkAt_length (xs : List Int) (b k : Nat) : (blkAt xs b k).length = cntAt xs b k := by
  induction k with
  | zero => rfl
  | succ k ih =>
    unfold blkAt cntAt
    split
    · simp [ih]
    · exact ih

theorem cntAt_le (xs : List Int) (b k : Nat) : cntAt xs b k ≤ k := by
  induction k with
  | zero => exact Nat.le_refl _
  | succ k ih => unfold cntAt; split <;> omega

def blocksTo (xs : List Int) (p : Nat) : List (List Int) := (List.range p).map fun b => blkAt xs b xs.length

theorem yjz (xs : List Int) (p : Nat) : (blocksTo xs p).length = p := by simp [blocksTo]
theorem blocksTo_succ (xs : List Int) (p : Nat) : blocksTo xs (p + 1) = blocksTo xs p ++ [blkAt xs p xs.length] := by simp [blocksTo, List.range_succ]
theorem blocksTo_getD (xs : List Int) (p b : Nat) (h : b < p) : (blocksTo xs p).getD b [] = blkAt xs b xs.length := by simp [blocksTo, List.getD, h]

theorem l1Size_v (v : Value) (xs : List Int) (w : World) (hv : RdV w v xs) (hs : Small xs) : Calls Tryz.prog 62 #[v] w fun e w' => e = .returned (.int .i64 (pSize xs)) ∧ w = w' := by
  obtain ⟨ao, ca, rfl, h, h1, h2⟩ := hv
  unfold maxLen at h2
  exact l1Size_any ao ca xs w h (by omega) hs

set_option maxRecDepth 100000 in
set_option maxHeartbeats 4000000 in
theorem l1Blocks_v (v : Value) (xs : List Int) (p : Nat) (w : World) (hv : RdV w v xs) (hp : partIn xs = true) (hps : pSize xs = p) :
    Calls Tryz.prog 163 #[v] w (FreshM w (blocksTo xs p)) := by
  have hv0 := hv
  obtain ⟨ao, ca, rfl, h, h1, h2⟩ := hv
  have HV := Lib.hid hv0
  have hl := yCz hp
  have hsm := yBz hp
  have hbd := yGz hsm
  rw [hps] at hbd
  have HPS := Lib.hid hps
  have HSM := Lib.hid hsm
  have HX := Lib.hid h
  obtain ⟨n, hn⟩ : ∃ n, n = xs.length := ⟨_, rfl⟩
  rw [← hn] at hl HV ⊢
  have HN := Lib.hid hn
  clear hv0 h hp hps hsm hn
  obtain ⟨hl1, hl8⟩ := hl
  go_enter Tryz.func163, Tryz.ntmps163
  go_wp2
  go_loopw [3, 4] (fun u i wr => ∃ k g cap : Nat, k ≤ p ∧ i = .int .i64 k ∧ u = .slice (some ⟨g, 0, none⟩) k cap ∧ OwnM wr w.heap.size wr.heap.size (.slice (some ⟨g, 0, none⟩) k cap) (blocksTo xs k) ∧ Below w.heap.size w wr)
    (fun _ i _ => p - (intOf i).toNat)
  case atStart => exact ⟨0, w.heap.size, 0, Nat.zero_le _, rfl, rfl, by simpa [blocksTo] using ownM_empty w _ (Nat.le_refl _), (Below.refl _ _).alloc (Nat.le_refl _) _⟩
  case round =>
    obtain ⟨k, g, cap, hk, rfl, rfl, hown, hbel⟩ := hrel
    have HO := Lib.hid hown
    have hB := hbel.size
    clear hown
    by_cases hlt : k < p
    · rcases HX.out with hx | ⟨bb, off, rfl, hcx⟩
      · have := HN.out
        rw [hx] at this
        simp at this
        omega
      · obtain ⟨wo, hwo⟩ : ∃ wo : World, wo = wr := ⟨_, rfl⟩
        subst hwo
        have HC := Lib.hid (fun j (hj : j < n) => show wo.cell? ⟨bb, off + j, none⟩ = some (.int .i64 (xs.getD j 0)) by
          have := hcx j (by have := HN.out; omega)
          rw [hbel.cell (World.block_lt_of_cell? w _ this)]
          exact this)
        clear hcx
        go_wp2_with fail
        refine (l1Size_v _ xs _ (yDz HV.out hbel) HSM.out).mono ?_
        rintro e w' ⟨rfl, rfl⟩
        rw [HPS.out]
        go_wp2
        go_loopw [5, 6] (fun u i wi => ∃ j g2 m cap2 : Nat, j ≤ n ∧ i = .int .i64 j ∧ u = .slice (some ⟨g2, 0, none⟩) m cap2 ∧ m = (blkAt xs k j).length ∧ Own wi wo.heap.size (.slice (some ⟨g2, 0, none⟩) m cap2) (blkAt xs k j) ∧ Below wo.heap.size wo wi)
          (fun _ i _ => n - (intOf i).toNat)
        case atStart => exact ⟨0, wo.heap.size, 0, 0, Nat.zero_le _, rfl, rfl, rfl, yPz wo _ (Nat.le_refl _), (Below.refl _ _).alloc (Nat.le_refl _) _⟩
        case round =>
          obtain ⟨j, g2, m, cap2, hj, rfl, rfl, hm, hob, hbi⟩ := hrel
          have HM := Lib.hid hm
          have HOB := Lib.hid hob
          have hBi := hbi.size
          have hmj : m ≤ j := by rw [hm, blkAt_length]; exact cntAt_le xs k j
          clear hm hob
          by_cases hjn : j < n
          · have hcj := HC.out j hjn
            rw [← hbi.cell (World.block_lt_of_cell? wo _ hcj)] at hcj
            obtain ⟨x, hx⟩ : ∃ x, x = xs.getD j 0 := ⟨_, rfl⟩
            rw [← hx] at hcj
            have HXJ := Lib.hid hx
            clear hx
            by_cases hxk : x = (k : Int)
            · have hd : (x == (k : Int)) = true := by simpa using hxk
              have HXK := Lib.hid hxk
              clear hxk
              go_wp2_with (at_builtin; refine ysz rfl _ _ rfl wo.heap.size g2 m cap2 (blkAt xs k j) rfl (yQz HOB.out _) HM.out ⟨wr.heap.size, 0, none⟩ rfl (j : Int) (yXz _ _ _) (by omega) (by simp; omega) ?_)
              intro g3 cap3 w3 hown3 hgr3 hg3
              have hbi3 : Below wo.heap.size wo w3 := (hbi.alloc hBi _).grown hgr3 (by simp; omega) (fun q hq => by cases hq; exact (yZz HOB.out g2 rfl).1)
              have HO3 := Lib.hid hown3
              clear hown3 hgr3 hg3
              go_wp2
              go_roundw
              case rel =>
                have e : blkAt xs k (j + 1) = blkAt xs k j ++ [(j : Int)] := by rw [blkAt, if_pos (by rw [← HXJ.out]; exact HXK.out)]
                exact ⟨j + 1, g3, m + 1, cap3, by omega, by go_num, rfl, by rw [e]; simp; exact HM.out, by rw [e]; exact HO3.out, hbi3⟩
              case measure => simp [intOf]; omega
            · have hd : (x == (k : Int)) = false := by simpa using hxk
              have HXK := Lib.hid hxk
              clear hxk
              go_wp2
              go_roundw
              case rel =>
                have e : blkAt xs k (j + 1) = blkAt xs k j := by rw [blkAt, if_neg (by rw [← HXJ.out]; exact HXK.out)]
                exact ⟨j + 1, g2, m, cap2, by omega, by go_num, rfl, by rw [e]; exact HM.out, by rw [e]; exact HOB.out, hbi⟩
              case measure => simp [intOf]; omega
          · have hjn : j = n := by omega
            subst hjn
            have HOi := Lib.hid (yez HO.out hbi)
            have hui := inB_of_own HOB.out
            have hbw : Below w.heap.size w wr := yAz hbel hbi
            have hown0 : Own wr w.heap.size (.slice (some ⟨g2, 0, none⟩) m cap2) (blkAt xs k j) := yMz HOB.out hB
            have HO0 := Lib.hid hown0
            have HUI := Lib.hid hui
            have hgl := yZz HOB.out g2 rfl
            clear hown0 hui
            go_wp2_with (at_builtin; refine wpList_pushM rfl _ _ rfl w.heap.size wo.heap.size g k cap (blocksTo xs k) rfl (yez HOi.out (by exact (Below.refl _ _).alloc (Nat.le_refl _) _)) (by rw [yjz]) ⟨wr.heap.size, 0, none⟩ rfl (.slice (some ⟨g2, 0, none⟩) m cap2) (blkAt xs k j) (yXz _ _ _) (yQz HO0.out _) (fun q hq => by cases hq; simp; omega) hB (by simp; omega) (by omega) (k + 1) rfl ?_)
            intro g4 cap4 w4 hown4 hgr4
            have hbel4 : Below w.heap.size w w4 := (hbw.alloc (by omega) _).grown hgr4 (by simp; omega) (fun q hq => by
              cases hq
              obtain ⟨vs, _, hv, _⟩ := ownM_parts HO.out
              rcases hv with ⟨h, _⟩ | ⟨g', cap', h, hb, _⟩
              · cases h
              · simp only [Value.slice.injEq, Option.some.injEq, Addr.mk.injEq, and_true, true_and] at h
                omega)
            have HO4 := Lib.hid hown4
            clear hown4 hgr4
            go_wp2
            go_roundw
            case rel => exact ⟨k + 1, g4, cap4, by omega, by go_num, rfl, by rw [blocksTo_succ, ← HN.out]; exact HO4.out, hbel4⟩
            case measure => simp [intOf]; omega
    · have hkp : k = p := by omega
      subst hkp
      go_wp2_with fail
      refine (l1Size_v _ xs _ (yDz HV.out hbel) HSM.out).mono ?_
      rintro e w' ⟨rfl, rfl⟩
      rw [HPS.out]
      go_wp2
      go_ret
      exact ⟨_, rfl, HO.out, hbel⟩

theorem sizes_eq (xs : List Int) (p k : Nat) (hp : pSize xs = p) (hk : k < p) : (sizes xs).getD k 0 = ((blocksTo xs p).getD k []).length := by
  rw [blocksTo_getD xs p k hk, blkAt_length]
  simp [sizes, List.getD, show k < (pSize xs).toNat by omega]

theorem fold_take_snoc (l : List Int) (k : Nat) (h : k < l.length) : (l.take (k + 1)).foldl insDesc [] = insDesc ((l.take k).foldl insDesc []) (l.getD k 0) := by
  rw [yYz l k h, List.foldl_append]
  rfl

theorem fold_length (l : List Int) : (l.foldl insDesc []).length = l.length := by rw [fold_desc, desc_length]

theorem cells_one {w : World} {ad : Addr} {x : Int} (h : w.cell? ad = some (.int .i64 x)) : ∀ j, j < [x].length → w.cell? (ad.add j) = some (.int .i64 ([x].getD j 0)) := by
  intro j hj
  have : j = 0 := by simpa using hj
  subst this
  simpa [Addr.add] using h

theorem cells_takeW {wo w : World} {g j : Nat} {L : List Int} (h : ∀ r, r < L.length → wo.cell? ⟨g, r, none⟩ = some (.int .i64 (L.getD r 0))) (hb : Below wo.heap.size wo w) : ∀ r, r < (L.take j).length → w.cell? ((⟨g, 0, none⟩ : Addr).add r) = some (.int .i64 ((L.take j).getD r 0)) := by
  intro r hr
  have h1 : r < j ∧ r < L.length := by simp at hr; omega
  rw [Addr.add_lit, Nat.zero_add, hb.cell (World.block_lt_of_cell? wo _ (h r h1.2)), h r h1.2]
  simp [List.getD, List.getElem?_take, h1.1]

theorem cells_dropW {wo w : World} {g j : Nat} {L : List Int} (h : ∀ r, r < L.length → wo.cell? ⟨g, r, none⟩ = some (.int .i64 (L.getD r 0))) (hb : Below wo.heap.size wo w) : ∀ r, r < (L.drop j).length → w.cell? ((⟨g, j, none⟩ : Addr).add r) = some (.int .i64 ((L.drop j).getD r 0)) := by
  intro r hr
  have h1 : j + r < L.length := by simp at hr; omega
  rw [Addr.add_lit, hb.cell (World.block_lt_of_cell? wo _ (h (j + r) h1)), h (j + r) h1]
  simp [List.getD]

theorem cells_drop0 {wo w : World} {g : Nat} {L : List Int} (h : ∀ r, r < L.length → wo.cell? ⟨g, r, none⟩ = some (.int .i64 (L.getD r 0))) (hb : Below wo.heap.size wo w) : ∀ r, r < (L.drop 0).length → w.cell? ((⟨g, 0, none⟩ : Addr).add r) = some (.int .i64 ((L.drop 0).getD r 0)) := cells_dropW h hb

set_option maxRecDepth 100000 in
set_option maxHeartbeats 4000000 in
theorem l1Type_v (v : Value) (xs : List Int) (w : World) (hv : RdV w v xs) (hp : partIn xs = true) : Calls Tryz.prog 164 #[v] w (FreshL w (desc (sizes xs))) := by
  have HV := Lib.hid hv
  have hsm := yBz hp
  have hbd := yGz hsm
  obtain ⟨p, hps⟩ := Int.eq_ofNat_of_zero_le hbd.1
  rw [hps] at hbd
  have HPS := Lib.hid hps
  have HP := Lib.hid hp
  have hsl : (sizes xs).length = p := by rw [sizes_length]; omega
  have HSL := Lib.hid hsl
  clear hv hp hps hsm hsl
  go_enter Tryz.func164, Tryz.ntmps164
  go_wp2_with fail
  refine (l1Blocks_v _ xs p _ (yDz HV.out ((Below.refl _ _).alloc (Nat.le_refl _) _)) HP.out HPS.out).mono ?_
  rintro e w1 ⟨u, he, hu, hb1⟩
  obtain ⟨vs, hvl, hparts, _⟩ := ownM_parts hu
  have hp1 : 1 ≤ p := by
    have := pSize_pos (yBz HP.out) (yCz HP.out).1
    have := HPS.out
    omega
  rcases hparts with ⟨_, hnil⟩ | ⟨gb, capb, rfl, _⟩
  · have := congrArg List.length hnil
    rw [yjz] at this
    simp at this
    omega
  subst he
  rw [yjz] at hu ⊢
  have HO0 := Lib.hid (own_below (yPz w w.heap.size (Nat.le_refl _)) hb1)
  have hbel1 : Below w.heap.size w w1 := yAz ((Below.refl _ _).alloc (Nat.le_refl _) _) hb1
  have HU := Lib.hid hu
  simp at hb1
  clear hu hvl
  go_wp2
  go_loopw [3, 5] (fun u i wr => ∃ k g cap : Nat, k ≤ p ∧ i = .int .i64 k ∧ u = .slice (some ⟨g, 0, none⟩) k cap ∧ Own wr w.heap.size (.slice (some ⟨g, 0, none⟩) k cap) (((sizes xs).take k).foldl insDesc []) ∧ OwnM wr (w.heap.size + 1) w1.heap.size (.slice (some ⟨gb, 0, none⟩) p capb) (blocksTo xs p) ∧ Below w.heap.size w wr ∧ w1.heap.size ≤ wr.heap.size)
    (fun _ i _ => p - (intOf i).toNat)
  case atStart => exact ⟨0, w.heap.size, 0, Nat.zero_le _, rfl, rfl, by simpa using HO0.out, by simpa using HU.out, hbel1, Nat.le_refl _⟩
  case round =>
    obtain ⟨k, g, cap, hk, rfl, rfl, hown, hu, hbel, hsz⟩ := hrel
    by_cases hlt : k < p
    · obtain ⟨z, hz, hoz, hiz⟩ := ownM_cell hu k (by rw [yjz]; exact hlt)
      obtain ⟨zo, zc, rfl, _⟩ := own_rd hoz
      have hse := sizes_eq xs p k HPS.out hlt
      have hft := fold_take_snoc (sizes xs) k (by rw [HSL.out]; exact hlt)
      rw [hse] at hft
      obtain ⟨m, hm⟩ : ∃ m, m = ((blocksTo xs p).getD k []).length := ⟨_, rfl⟩
      rw [← hm] at hft hz
      have hm8 : m ≤ 8 := by
        have := (yCz HP.out).2
        have := cntAt_le xs k xs.length
        rw [hm, blocksTo_getD xs p k hlt, blkAt_length]
        omega
      obtain ⟨L, hL⟩ : ∃ L, L = ((sizes xs).take k).foldl insDesc [] := ⟨_, rfl⟩
      rw [← hL] at hown hft
      have hLk : L.length = k := by rw [hL, fold_length]; have := HSL.out; simp; omega
      have HO := Lib.hid hown
      have HUr := Lib.hid hu
      have HFT := Lib.hid hft
      have HLK := Lib.hid hLk
      have hcapk : k ≤ cap := by
        rcases own_view hown with ⟨h, _⟩ | ⟨g', cap', h, _, _, h3, _⟩
        · cases h
        · simp only [Value.slice.injEq] at h
          omega
      have hgl := yZz hown g rfl
      have hB := hbel.size
      clear hown hu hse hft hm hL hLk hoz hiz
      obtain ⟨wo, hwo⟩ : ∃ wo : World, wo = wr := ⟨_, rfl⟩
      subst hwo
      go_wp2
      go_loop [7] (fun i => ∃ j : Nat, j ≤ k ∧ i = .int .i64 j ∧ posFrom L m k = posFrom L m j) (fun i => (intOf i).toNat)
      case atStart => exact ⟨k, Nat.le_refl _, rfl, rfl⟩
      case round =>
        obtain ⟨j, hj, rfl, hpos⟩ := hrel
        have HPOS := Lib.hid hpos
        clear hpos
        have hdone : (j = 0 ∨ ∃ q, j = q + 1 ∧ ¬ L.getD q 0 < m) ∨ ∃ q, j = q + 1 ∧ L.getD q 0 < m := by
          cases j with
          | zero => exact .inl (.inl rfl)
          | succ q =>
            by_cases h : L.getD q 0 < m
            · exact .inr ⟨q, rfl, h⟩
            · exact .inl (.inr ⟨q, rfl, h⟩)
        rcases hdone with hdone | ⟨q, rfl, hq⟩
        · have hpj : posFrom L m k = j := by
            rw [HPOS.out]
            rcases hdone with rfl | ⟨q, rfl, hq⟩
            · rfl
            · rw [posFrom, if_neg hq]
          have hpl : insDesc L m = L.take j ++ ((m : Int) :: L.drop j) := by unfold insDesc; rw [HLK.out, hpj]
          have HPL := Lib.hid hpl
          have F1 : Own (wo.alloc (.cells #[] 3)) wo.heap.size (.slice (some ⟨wo.heap.size, 0, none⟩) 0 0) [] := yPz wo _ (Nat.le_refl _)
          have F2 : Own ((wo.alloc (.cells #[] 3)).alloc (.cells #[.int .i64 (m : Int)] 3)) wo.heap.size (.slice (some ⟨wo.heap.size, 0, none⟩) 0 0) [] := yQz F1 _
          have F3 : Own ((wo.alloc (.cells #[.int .i64 (m : Int)] 3)).alloc (.cells #[] 3)) wo.heap.size (.slice (some ⟨wo.heap.size + 1, 0, none⟩) 0 0) [] := by
            have := yPz (wo.alloc (.cells #[.int .i64 (m : Int)] 3)) wo.heap.size (by simp)
            simpa using this
          have hW1 : Below wo.heap.size wo (wo.alloc (.cells #[] 3)).drew := ((Below.refl _ wo).alloc (Nat.le_refl _) _).drew
          have hW2 : Below wo.heap.size wo ((wo.alloc (.cells #[] 3)).alloc (.cells #[.int .i64 (m : Int)] 3)).drew := (((Below.refl _ wo).alloc (Nat.le_refl _) _).alloc (by simp) _).drew
          have hW3 : Below wo.heap.size wo ((wo.alloc (.cells #[.int .i64 (m : Int)] 3)).alloc (.cells #[] 3)).drew := (((Below.refl _ wo).alloc (Nat.le_refl _) _).alloc (by simp) _).drew
          have V2 : ((wo.alloc (.cells #[] 3)).alloc (.cells #[.int .i64 (m : Int)] 3)).drew.cell? ⟨wo.heap.size + 1, 0, none⟩ = some (.int .i64 (m : Int)) := by
            have := yXz (wo.alloc (.cells #[] 3)) (.int .i64 (m : Int)) 3
            simpa using this
          have V3 : ((wo.alloc (.cells #[.int .i64 (m : Int)] 3)).alloc (.cells #[] 3)).drew.cell? ⟨wo.heap.size, 0, none⟩ = some (.int .i64 (m : Int)) := by
            have h := yXz wo (.int .i64 (m : Int)) 3
            show ((wo.alloc (.cells #[.int .i64 (m : Int)] 3)).alloc (.cells #[] 3)).cell? ⟨wo.heap.size, 0, none⟩ = _
            rw [World.cell?_alloc_past _ _ _ (by simp)]
            exact h
          have HF1 := Lib.hid F1
          have HF2 := Lib.hid F2
          have HF3 := Lib.hid F3
          have HW1 := Lib.hid hW1
          have HW2 := Lib.hid hW2
          have HW3 := Lib.hid hW3
          have HV2 := Lib.hid V2
          have HV3 := Lib.hid V3
          have HCC := Lib.hid (fun r (hr : r < L.length) => yWz HO.out r hr)
          have hb0 : (0 : Int) ≤ (j : Int) := by omega
          have hb1 : (j : Int) ≤ (cap : Int) := by omega
          have hb2 : (j : Int) ≤ (k : Int) := by omega
          have hb3 : (k : Int) ≤ (cap : Int) := by omega
          clear F1 F2 F3 hW1 hW2 hW3 V2 V3 hpl hpj
          rcases hdone with rfl | ⟨q, hjq, hq⟩
          · go_wp2
            go_region_held3 (fun w' => True) (trivial) (first | (refine ylz rfl _ _ (by rfl) wo.heap.size g3 (0 + 1) cap3 (L.take 0 ++ [(m : Int)]) (by rfl) HO3.out (by rw [List.length_append, List.length_take, HLK.out]; simp <;> omega) ⟨g, 0, none⟩ k _ (by rfl) (L.drop 0) (by rw [List.length_drop, HLK.out] <;> omega) (cells_drop0 HCC.out hbw3) (by omega) hbw3.size (k + 1) (by omega) ?_; intro g4 cap4 w4 hown4 hgr4 hg4; have HO4 := Lib.hid hown4; have hbw4 := hbw3.grown hgr4 hbw3.size (fun q hq => by cases hq; exact (yZz HO3.out g3 rfl).1); clear hown4 hgr4 hg4) | (refine ylz rfl _ _ (by rfl) wo.heap.size g2 0 cap2 (L.take 0) (by rfl) (yQz HO2.out _) (by rw [List.length_take, HLK.out]; omega) ⟨w2.heap.size, 0, none⟩ 1 1 (by rfl) [(m : Int)] rfl (cells_one (yXz _ _ _)) (by omega) (by have := hbw2.size; simp; omega) (0 + 1) rfl ?_; intro g3 cap3 w3 hown3 hgr3 hg3; have HO3 := Lib.hid hown3; have hbw3 := (hbw2.alloc hbw2.size _).grown hgr3 (by have := hbw2.size; simp; omega) (fun q hq => by cases hq; exact (yZz HO2.out g2 rfl).1); clear hown3 hgr3 hg3) | (refine ylz rfl _ _ (by rfl) wo.heap.size g2 0 cap2 (L.take 0) (by rfl) HO2.out (by rw [List.length_take, HLK.out]; omega) ⟨wo.heap.size + 1, 0, none⟩ 1 1 (by rfl) [(m : Int)] rfl (cells_one hcv) (by omega) hbw2.size (0 + 1) rfl ?_; intro g3 cap3 w3 hown3 hgr3 hg3; have HO3 := Lib.hid hown3; have hbw3 := hbw2.grown hgr3 hbw2.size (fun q hq => by cases hq; exact (yZz HO2.out g2 rfl).1); clear hown3 hgr3 hg3) | (refine ylz rfl _ _ (by rfl) wo.heap.size g2 0 cap2 (L.take 0) (by rfl) HO2.out (by rw [List.length_take, HLK.out]; omega) ⟨wo.heap.size, 0, none⟩ 1 1 (by rfl) [(m : Int)] rfl (cells_one hcv) (by omega) hbw2.size (0 + 1) rfl ?_; intro g3 cap3 w3 hown3 hgr3 hg3; have HO3 := Lib.hid hown3; have hbw3 := hbw2.grown hgr3 hbw2.size (fun q hq => by cases hq; exact (yZz HO2.out g2 rfl).1); clear hown3 hgr3 hg3) | (refine ylz rfl _ _ (by rfl) wo.heap.size wo.heap.size 0 0 [] (by rfl) HF1.out rfl ⟨g, 0, none⟩ 0 _ (by rfl) (L.take 0) (by rw [List.length_take, HLK.out]; omega) (cells_takeW HCC.out HW1.out) (by omega) HW1.out.size 0 (by omega) ?_; intro g2 cap2 w2 hown2 hgr2 hg2; rw [List.nil_append] at hown2; have HO2 := Lib.hid hown2; have hbw2 := HW1.out.grown hgr2 HW1.out.size (fun q hq => by cases hq; omega); clear hown2 hgr2 hg2) | (refine ylz rfl _ _ (by rfl) wo.heap.size wo.heap.size 0 0 [] (by rfl) HF2.out rfl ⟨g, 0, none⟩ 0 _ (by rfl) (L.take 0) (by rw [List.length_take, HLK.out]; omega) (cells_takeW HCC.out HW2.out) (by omega) HW2.out.size 0 (by omega) ?_; intro g2 cap2 w2 hown2 hgr2 hg2; rw [List.nil_append] at hown2; have HO2 := Lib.hid hown2; have hbw2 := HW2.out.grown hgr2 HW2.out.size (fun q hq => by cases hq; omega); have hcv := hgr2.cell HV2.out (by simp); clear hown2 hgr2 hg2) | (refine ylz rfl _ _ (by rfl) wo.heap.size (wo.heap.size + 1) 0 0 [] (by rfl) HF3.out rfl ⟨g, 0, none⟩ 0 _ (by rfl) (L.take 0) (by rw [List.length_take, HLK.out]; omega) (cells_takeW HCC.out HW3.out) (by omega) HW3.out.size 0 (by omega) ?_; intro g2 cap2 w2 hown2 hgr2 hg2; rw [List.nil_append] at hown2; have HO2 := Lib.hid hown2; have hbw2 := HW3.out.grown hgr2 HW3.out.size (fun q hq => by cases hq; omega); have hcv := hgr2.cell HV3.out (by simp); clear hown2 hgr2 hg2))
            all_goals
              go_wp2
              go_roundw
              case rel => exact ⟨k + 1, g4, cap4, by omega, by go_num, rfl, by rw [HFT.out, HPL.out]; simpa using yMz HO4.out hB, yez HUr.out hbw4, yAz hbel hbw4, Nat.le_trans hsz hbw4.size⟩
              case measure => simp [intOf]; omega
          · have hqj : q = j - 1 := by omega
            rw [hqj] at hq
            have hj0 : 0 < j := by omega
            have hc := yWz HO.out (j - 1) (by rw [HLK.out]; omega)
            obtain ⟨y, hy⟩ : ∃ y, y = L.getD (j - 1) 0 := ⟨_, rfl⟩
            rw [← hy] at hc hq
            have hq' : (m : Int) ≤ y := by omega
            clear hq hy hqj hjq
            have b1 : (0 : Int) < (j : Int) := by omega
            by_cases hcap : cap = j
            · have hkj : k = j := by omega
              subst hcap
              subst hkj
              go_wp2
              go_region_held3 (fun w' => True) (trivial) (first | (refine ylz rfl _ _ (by rfl) wo.heap.size g3 (k + 1) cap3 (L.take k ++ [(m : Int)]) (by rfl) HO3.out (by rw [List.length_append, List.length_take, HLK.out]; simp <;> omega) ⟨g, 0, none⟩ 0 _ (by rfl) (L.drop k) (by rw [List.length_drop, HLK.out] <;> omega) (fun r hr => by simp [HLK.out] at hr) (by omega) hbw3.size (k + 1) (by omega) ?_; intro g4 cap4 w4 hown4 hgr4 hg4; have HO4 := Lib.hid hown4; have hbw4 := hbw3.grown hgr4 hbw3.size (fun q hq => by cases hq; exact (yZz HO3.out g3 rfl).1); clear hown4 hgr4 hg4) | (refine ylz rfl _ _ (by rfl) wo.heap.size g2 k cap2 (L.take k) (by rfl) (yQz HO2.out _) (by rw [List.length_take, HLK.out]; omega) ⟨w2.heap.size, 0, none⟩ 1 1 (by rfl) [(m : Int)] rfl (cells_one (yXz _ _ _)) (by omega) (by have := hbw2.size; simp; omega) (k + 1) rfl ?_; intro g3 cap3 w3 hown3 hgr3 hg3; have HO3 := Lib.hid hown3; have hbw3 := (hbw2.alloc hbw2.size _).grown hgr3 (by have := hbw2.size; simp; omega) (fun q hq => by cases hq; exact (yZz HO2.out g2 rfl).1); clear hown3 hgr3 hg3) | (refine ylz rfl _ _ (by rfl) wo.heap.size g2 k cap2 (L.take k) (by rfl) HO2.out (by rw [List.length_take, HLK.out]; omega) ⟨wo.heap.size + 1, 0, none⟩ 1 1 (by rfl) [(m : Int)] rfl (cells_one hcv) (by omega) hbw2.size (k + 1) rfl ?_; intro g3 cap3 w3 hown3 hgr3 hg3; have HO3 := Lib.hid hown3; have hbw3 := hbw2.grown hgr3 hbw2.size (fun q hq => by cases hq; exact (yZz HO2.out g2 rfl).1); clear hown3 hgr3 hg3) | (refine ylz rfl _ _ (by rfl) wo.heap.size g2 k cap2 (L.take k) (by rfl) HO2.out (by rw [List.length_take, HLK.out]; omega) ⟨wo.heap.size, 0, none⟩ 1 1 (by rfl) [(m : Int)] rfl (cells_one hcv) (by omega) hbw2.size (k + 1) rfl ?_; intro g3 cap3 w3 hown3 hgr3 hg3; have HO3 := Lib.hid hown3; have hbw3 := hbw2.grown hgr3 hbw2.size (fun q hq => by cases hq; exact (yZz HO2.out g2 rfl).1); clear hown3 hgr3 hg3) | (refine ylz rfl _ _ (by rfl) wo.heap.size wo.heap.size 0 0 [] (by rfl) HF1.out rfl ⟨g, 0, none⟩ k _ (by rfl) (L.take k) (by rw [List.length_take, HLK.out]; omega) (cells_takeW HCC.out HW1.out) (by omega) HW1.out.size k (by omega) ?_; intro g2 cap2 w2 hown2 hgr2 hg2; rw [List.nil_append] at hown2; have HO2 := Lib.hid hown2; have hbw2 := HW1.out.grown hgr2 HW1.out.size (fun q hq => by cases hq; omega); clear hown2 hgr2 hg2) | (refine ylz rfl _ _ (by rfl) wo.heap.size wo.heap.size 0 0 [] (by rfl) HF2.out rfl ⟨g, 0, none⟩ k _ (by rfl) (L.take k) (by rw [List.length_take, HLK.out]; omega) (cells_takeW HCC.out HW2.out) (by omega) HW2.out.size k (by omega) ?_; intro g2 cap2 w2 hown2 hgr2 hg2; rw [List.nil_append] at hown2; have HO2 := Lib.hid hown2; have hbw2 := HW2.out.grown hgr2 HW2.out.size (fun q hq => by cases hq; omega); have hcv := hgr2.cell HV2.out (by simp); clear hown2 hgr2 hg2) | (refine ylz rfl _ _ (by rfl) wo.heap.size (wo.heap.size + 1) 0 0 [] (by rfl) HF3.out rfl ⟨g, 0, none⟩ k _ (by rfl) (L.take k) (by rw [List.length_take, HLK.out]; omega) (cells_takeW HCC.out HW3.out) (by omega) HW3.out.size k (by omega) ?_; intro g2 cap2 w2 hown2 hgr2 hg2; rw [List.nil_append] at hown2; have HO2 := Lib.hid hown2; have hbw2 := HW3.out.grown hgr2 HW3.out.size (fun q hq => by cases hq; omega); have hcv := hgr2.cell HV3.out (by simp); clear hown2 hgr2 hg2))
              all_goals
                go_wp2
                go_roundw
                case rel => exact ⟨k + 1, g4, cap4, by omega, by go_num, rfl, by rw [HFT.out, HPL.out]; simpa using yMz HO4.out hB, yez HUr.out hbw4, yAz hbel hbw4, Nat.le_trans hsz hbw4.size⟩
                case measure => simp [intOf]; omega
            · go_wp2
              go_region_held3 (fun w' => True) (trivial) (first | (refine ylz rfl _ _ (by rfl) wo.heap.size g3 (j + 1) cap3 (L.take j ++ [(m : Int)]) (by rfl) HO3.out (by rw [List.length_append, List.length_take, HLK.out]; simp <;> omega) ⟨g, j, none⟩ (k - j) _ (by rfl) (L.drop j) (by rw [List.length_drop, HLK.out] <;> omega) (cells_dropW HCC.out hbw3) (by omega) hbw3.size (k + 1) (by omega) ?_; intro g4 cap4 w4 hown4 hgr4 hg4; have HO4 := Lib.hid hown4; have hbw4 := hbw3.grown hgr4 hbw3.size (fun q hq => by cases hq; exact (yZz HO3.out g3 rfl).1); clear hown4 hgr4 hg4) | (refine ylz rfl _ _ (by rfl) wo.heap.size g2 j cap2 (L.take j) (by rfl) (yQz HO2.out _) (by rw [List.length_take, HLK.out]; omega) ⟨w2.heap.size, 0, none⟩ 1 1 (by rfl) [(m : Int)] rfl (cells_one (yXz _ _ _)) (by omega) (by have := hbw2.size; simp; omega) (j + 1) rfl ?_; intro g3 cap3 w3 hown3 hgr3 hg3; have HO3 := Lib.hid hown3; have hbw3 := (hbw2.alloc hbw2.size _).grown hgr3 (by have := hbw2.size; simp; omega) (fun q hq => by cases hq; exact (yZz HO2.out g2 rfl).1); clear hown3 hgr3 hg3) | (refine ylz rfl _ _ (by rfl) wo.heap.size g2 j cap2 (L.take j) (by rfl) HO2.out (by rw [List.length_take, HLK.out]; omega) ⟨wo.heap.size + 1, 0, none⟩ 1 1 (by rfl) [(m : Int)] rfl (cells_one hcv) (by omega) hbw2.size (j + 1) rfl ?_; intro g3 cap3 w3 hown3 hgr3 hg3; have HO3 := Lib.hid hown3; have hbw3 := hbw2.grown hgr3 hbw2.size (fun q hq => by cases hq; exact (yZz HO2.out g2 rfl).1); clear hown3 hgr3 hg3) | (refine ylz rfl _ _ (by rfl) wo.heap.size g2 j cap2 (L.take j) (by rfl) HO2.out (by rw [List.length_take, HLK.out]; omega) ⟨wo.heap.size, 0, none⟩ 1 1 (by rfl) [(m : Int)] rfl (cells_one hcv) (by omega) hbw2.size (j + 1) rfl ?_; intro g3 cap3 w3 hown3 hgr3 hg3; have HO3 := Lib.hid hown3; have hbw3 := hbw2.grown hgr3 hbw2.size (fun q hq => by cases hq; exact (yZz HO2.out g2 rfl).1); clear hown3 hgr3 hg3) | (refine ylz rfl _ _ (by rfl) wo.heap.size wo.heap.size 0 0 [] (by rfl) HF1.out rfl ⟨g, 0, none⟩ j _ (by rfl) (L.take j) (by rw [List.length_take, HLK.out]; omega) (cells_takeW HCC.out HW1.out) (by omega) HW1.out.size j (by omega) ?_; intro g2 cap2 w2 hown2 hgr2 hg2; rw [List.nil_append] at hown2; have HO2 := Lib.hid hown2; have hbw2 := HW1.out.grown hgr2 HW1.out.size (fun q hq => by cases hq; omega); clear hown2 hgr2 hg2) | (refine ylz rfl _ _ (by rfl) wo.heap.size wo.heap.size 0 0 [] (by rfl) HF2.out rfl ⟨g, 0, none⟩ j _ (by rfl) (L.take j) (by rw [List.length_take, HLK.out]; omega) (cells_takeW HCC.out HW2.out) (by omega) HW2.out.size j (by omega) ?_; intro g2 cap2 w2 hown2 hgr2 hg2; rw [List.nil_append] at hown2; have HO2 := Lib.hid hown2; have hbw2 := HW2.out.grown hgr2 HW2.out.size (fun q hq => by cases hq; omega); have hcv := hgr2.cell HV2.out (by simp); clear hown2 hgr2 hg2) | (refine ylz rfl _ _ (by rfl) wo.heap.size (wo.heap.size + 1) 0 0 [] (by rfl) HF3.out rfl ⟨g, 0, none⟩ j _ (by rfl) (L.take j) (by rw [List.length_take, HLK.out]; omega) (cells_takeW HCC.out HW3.out) (by omega) HW3.out.size j (by omega) ?_; intro g2 cap2 w2 hown2 hgr2 hg2; rw [List.nil_append] at hown2; have HO2 := Lib.hid hown2; have hbw2 := HW3.out.grown hgr2 HW3.out.size (fun q hq => by cases hq; omega); have hcv := hgr2.cell HV3.out (by simp); clear hown2 hgr2 hg2))
              all_goals
                go_wp2
                go_roundw
                case rel => exact ⟨k + 1, g4, cap4, by omega, by go_num, rfl, by rw [HFT.out, HPL.out]; simpa using yMz HO4.out hB, yez HUr.out hbw4, yAz hbel hbw4, Nat.le_trans hsz hbw4.size⟩
                case measure => simp [intOf]; omega
        · have hc := yWz HO.out q (by rw [HLK.out]; omega)
          obtain ⟨y, hy⟩ : ∃ y, y = L.getD q 0 := ⟨_, rfl⟩
          rw [← hy] at hc hq
          have HY := Lib.hid hy
          clear hy
          have b1 : (0 : Int) < (q : Int) + 1 := by omega
          go_wp2
          go_round
          case rel => exact ⟨q, by omega, by go_num, by rw [HPOS.out, posFrom, if_pos (by rw [← HY.out]; exact hq)]⟩
          case measure => simp [intOf] <;> omega
    · have hkp : k = p := by omega
      subst hkp
      rw [List.take_of_length_le (by rw [HSL.out]; omega), fold_desc] at hown
      go_wp2
      go_ret
      exact ⟨_, rfl, hown, hbel⟩

theorem sPartType_v (v : Value) (xs : List Int) (w : World) (hv : RdV w v xs) : Calls Tryz.prog 88 #[v] w (FreshLB w (partType xs)) := by
  have HV := Lib.hid hv
  by_cases hp : partIn xs = true
  · have hr : partType xs = (desc (sizes xs), true) := by simp [partType, hp]
    rw [hr]
    have HP := Lib.hid hp
    clear hr hp
    go_enter Tryz.func88, Tryz.ntmps88
    go_wp2_with fail
    refine (yHz true _ _ _ HV.out HP).mono ?_
    rintro e w' ⟨rfl, rfl⟩
    go_wp2_with fail
    refine (l1Type_v _ xs _ HV.out HP.out).mono ?_
    rintro e w1 ⟨u, rfl, ho, hb⟩
    go_wp2
    go_ret2
    exact ⟨_, rfl, ho, hb⟩
  · have hp : partIn xs = false := by simpa using hp
    have hr : partType xs = ([], false) := by simp [partType, hp]
    rw [hr]
    have HP := Lib.hid hp
    clear hp hr
    go_enter Tryz.func88, Tryz.ntmps88
    go_wp2_with fail
    refine (yHz false _ _ _ HV.out HP).mono ?_
    rintro e w' ⟨rfl, rfl⟩
    go_wp2
    go_ret2
    exact ⟨_, rfl, yPz _ _ (Nat.le_refl _), (Below.refl _ _).alloc (Nat.le_refl _) _⟩
end

theorem mem_iff_getD {f : List Int} {x : Int} : x ∈ f ↔ ∃ j, j < f.length ∧ f.getD j 0 = x := by
  constructor
  · intro h
    exact ⟨f.idxOf x, List.idxOf_lt_length_of_mem h, getD_idxOf h⟩
  · rintro ⟨j, h, e⟩
    exact ykz h e

theorem kOut_pat : ∀ f g : List Int, g.length = f.length → (∀ i j, i < f.length → j < f.length → (f.getD i 0 = f.getD j 0 ↔ g.getD i 0 = g.getD j 0)) → kOut g = kOut f ∧ kNext g = kNext f := by
  refine ydz ?_ ?_
  · intro g hg _
    rw [List.eq_nil_of_length_eq_zero hg]
    exact ⟨rfl, rfl⟩
  · intro f x ih g' hg hp
    rcases List.eq_nil_or_concat g' with h | ⟨g, y, h⟩
    · rw [h] at hg; simp at hg
    subst h
    simp only [List.concat_eq_append] at hg hp ⊢
    have hl : g.length = f.length := by simpa using hg
    have F : ∀ j, j < f.length → (f ++ [x]).getD j 0 = f.getD j 0 := fun j hj => getD_snoc_lt f x j hj
    have F1 : (f ++ [x]).getD f.length 0 = x := getD_snoc_eq f x
    have G : ∀ j, j < f.length → (g ++ [y]).getD j 0 = g.getD j 0 := fun j hj => getD_snoc_lt g y j (by omega)
    have G1 : (g ++ [y]).getD f.length 0 = y := by rw [← hl]; exact getD_snoc_eq g y
    have hin : ∀ i j, i < f.length → j < f.length → (f.getD i 0 = f.getD j 0 ↔ g.getD i 0 = g.getD j 0) := by
      intro i j hi hj
      have := hp i j (by simp; omega) (by simp; omega)
      rwa [F i hi, F j hj, G i hi, G j hj] at this
    have hla : ∀ i, i < f.length → (f.getD i 0 = x ↔ g.getD i 0 = y) := by
      intro i hi
      have := hp i f.length (by simp; omega) (by simp)
      rwa [F i hi, F1, G i hi, G1] at this
    obtain ⟨e1, e2⟩ := ih g hl hin
    by_cases h : x ∈ f
    · have hi := List.idxOf_lt_length_of_mem h
      have hy1 := (hla _ hi).1 (getD_idxOf h)
      have hy : y ∈ g := ykz (by omega) hy1
      have hi' := List.idxOf_lt_length_of_mem hy
      have hk := ((kOut_inv g).2 _ _ (by omega) hi').1 (hy1.trans (getD_idxOf hy).symm)
      rw [(kOut_mem h).1, (kOut_mem h).2, (kOut_mem hy).1, (kOut_mem hy).2, ← hk, e1, e2]
      exact ⟨rfl, rfl⟩
    · have hy : y ∉ g := by
        intro hy
        have hi' := List.idxOf_lt_length_of_mem hy
        exact h (ykz (by omega) ((hla _ (by omega)).2 (getD_idxOf hy)))
      rw [(kOut_new h).1, (kOut_new h).2, (kOut_new hy).1, (kOut_new hy).2, e1, e2]
      exact ⟨rfl, rfl⟩

theorem kOut_all : ∀ (f : List Int) (v : Int), v ∈ kOut f ↔ 0 ≤ v ∧ v < kNext f := by
  refine ydz (fun v => by simp [kOut, kNext, kfold]) fun f x ih v => ?_
  have hb := kNext_bd f
  by_cases h : x ∈ f
  · have hi := List.idxOf_lt_length_of_mem h
    have hm : (kOut f).getD (f.idxOf x) 0 ∈ kOut f := ykz (by rw [ycz]; exact hi) rfl
    rw [(kOut_mem h).1, (kOut_mem h).2, ← ih v, List.mem_append]
    constructor
    · rintro (h1 | h1)
      · exact h1
      · rw [List.mem_singleton.1 h1]; exact hm
    · exact .inl
  · rw [(kOut_new h).1, (kOut_new h).2, List.mem_append, ih v, List.mem_singleton]
    omega

def endFrom : Int → List Int → Int
  | b, [] => b
  | b, x :: xs => endFrom (if x = b then b + 1 else b) xs

theorem okFrom_append : ∀ (f : List Int) (b x : Int), okFrom b (f ++ [x]) = (okFrom b f && (decide (0 ≤ x) && decide (x ≤ endFrom b f))) ∧ endFrom b (f ++ [x]) = if x = endFrom b f then endFrom b f + 1 else endFrom b f := by
  intro f
  induction f with
  | nil => intro b x; simp only [List.nil_append, okFrom, endFrom, Bool.and_true, Bool.true_and]; exact ⟨rfl, rfl⟩
  | cons y f ih =>
    intro b x
    have := ih (if y = b then b + 1 else b) x
    simp only [List.cons_append, okFrom, endFrom, this.1, this.2, Bool.and_assoc]
    exact ⟨rfl, rfl⟩

theorem okFrom_kOut : ∀ f : List Int, okFrom 0 (kOut f) = true ∧ endFrom 0 (kOut f) = kNext f := by
  refine ydz ⟨rfl, rfl⟩ fun f x ih => ?_
  have hb := kNext_bd f
  by_cases h : x ∈ f
  · have hi := List.idxOf_lt_length_of_mem h
    have hr := (kOut_inv f).1 _ hi
    have := okFrom_append (kOut f) 0 ((kOut f).getD (f.idxOf x) 0)
    rw [(kOut_mem h).1, (kOut_mem h).2, this.1, this.2, ih.1, ih.2, if_neg (by omega)]
    refine ⟨?_, rfl⟩
    simp only [Bool.and_eq_true, decide_eq_true_eq]
    exact ⟨trivial, by omega, by omega⟩
  · have := okFrom_append (kOut f) 0 (kNext f)
    rw [(kOut_new h).1, (kOut_new h).2, this.1, this.2, ih.1, ih.2, if_pos rfl]
    refine ⟨?_, rfl⟩
    simp only [Bool.and_eq_true, decide_eq_true_eq]
    exact ⟨trivial, by omega, by omega⟩

theorem kOut_of_ok : ∀ f : List Int, okFrom 0 f = true → kOut f = f ∧ kNext f = endFrom 0 f := by
  refine ydz (fun _ => ⟨rfl, rfl⟩) fun f x ih h => ?_
  have ha := okFrom_append f 0 x
  rw [ha.1] at h
  simp only [Bool.and_eq_true, decide_eq_true_eq] at h
  obtain ⟨h1, h2, h3⟩ := h
  obtain ⟨e1, e2⟩ := ih h1
  rw [← e2] at h3
  rw [ha.2, ← e2]
  by_cases hm : x ∈ f
  · have hx := (kOut_all f x).1 (by rw [e1]; exact hm)
    rw [(kOut_mem hm).1, (kOut_mem hm).2, e1, getD_idxOf hm, if_neg (by omega)]
    exact ⟨rfl, rfl⟩
  · have hx : x = kNext f := by
      by_cases e : x = kNext f
      · exact e
      · exact absurd (by have := (kOut_all f x).2 ⟨h2, by omega⟩; rwa [e1] at this) hm
    rw [(kOut_new hm).1, (kOut_new hm).2, e1, if_pos hx, hx]
    exact ⟨rfl, rfl⟩

theorem partIn_kOut {f : List Int} (h1 : 1 ≤ f.length) (h2 : f.length ≤ 8) : partIn (kOut f) = true := by
  simp only [partIn, Bool.and_eq_true, decide_eq_true_eq, ycz]
  exact ⟨⟨h1, h2⟩, (okFrom_kOut f).1⟩

theorem sizeFrom_append : ∀ (f : List Int) (n x : Int), sizeFrom n (f ++ [x]) = max (sizeFrom n f) (x + 1) := by
  intro f
  induction f with
  | nil => intro n x; simp [sizeFrom]
  | cons y f ih => intro n x; simp only [List.cons_append, sizeFrom]; exact ih _ _

theorem pSize_kOut : ∀ f : List Int, pSize (kOut f) = kNext f := by
  refine ydz rfl fun f x ih => ?_
  have hb := kNext_bd f
  unfold pSize at *
  by_cases h : x ∈ f
  · have hr := (kOut_inv f).1 _ (List.idxOf_lt_length_of_mem h)
    rw [(kOut_mem h).1, (kOut_mem h).2, sizeFrom_append, ih]
    omega
  · rw [(kOut_new h).1, (kOut_new h).2, sizeFrom_append, ih]
    omega

section
open Go.RowKit

def mix (c : Int) (xs ys : List Int) : List Int := (List.range xs.length).map fun i => c * xs.getD i 0 + ys.getD i 0

theorem ybz (c : Int) (xs ys : List Int) : (mix c xs ys).length = xs.length := by simp [mix]
theorem mix_getD (c : Int) (xs ys : List Int) (i : Nat) (h : i < xs.length) : (mix c xs ys).getD i 0 = c * xs.getD i 0 + ys.getD i 0 := by
  simp [mix, List.getD, h]

theorem mix_pat (xs ys : List Int) (hx : Small xs) (hy : Small ys) (hl : ys.length = xs.length) : kOut (mix 10 xs ys) = kOut (mix 8 xs ys) := by
  refine (kOut_pat (mix 8 xs ys) (mix 10 xs ys) (by simp [ybz]) fun i j hi hj => ?_).1
  rw [ybz] at hi hj
  rw [mix_getD _ _ _ _ hi, mix_getD _ _ _ _ hj, mix_getD _ _ _ _ hi, mix_getD _ _ _ _ hj]
  have h1 := hx i hi
  have h2 := hx j hj
  have h3 := hy i (by omega)
  have h4 := hy j (by omega)
  omega

def finerMeet (xs ys : List Int) : List Int × Bool := if alike xs ys then (kOut (mix 8 xs ys), true) else ([], false)

set_option maxHeartbeats 1600000 in
theorem iFinerMeet_v (v u : Value) (xs ys : List Int) (w : World) (hv : RdV w v xs) (hu : RdV w u ys) :
    Calls Tryz.prog 186 #[v, u] w (FreshLB w (finerMeet xs ys)) := by
  have HV := Lib.hid hv
  have HU := Lib.hid hu
  cases ha : alike xs ys
  · have HA := Lib.hid ha
    have hr : finerMeet xs ys = ([], false) := by simp [finerMeet, ha]
    rw [hr]
    clear ha hr hv hu
    go_enter Tryz.func186, Tryz.ntmps186
    go_wp2_with fail
    refine (areAlike_is false _ _ _ _ _ HV.out HU.out HA).mono ?_
    rintro e w' ⟨rfl, rfl⟩
    go_wp2
    go_ret2
    exact ⟨_, rfl, own_nil _ _, Below.refl _ _⟩
  · have HA := Lib.hid ha
    obtain ⟨h1, h8, hl⟩ := alike_lens ha
    obtain ⟨hpx, hpy, _⟩ := alike_iff.1 ha
    have HSX := Lib.hid (yBz hpx)
    have HSY := Lib.hid (yBz hpy)
    have hr : finerMeet xs ys = (kOut (mix 8 xs ys), true) := by simp [finerMeet, ha]
    rw [hr]
    obtain ⟨bx, ox, cx, rfl, hcx, hbx, hcx1, hcx2⟩ := ymz hv h1
    obtain ⟨by', oy, cy, rfl, hcy, hby, hcy1, hcy2⟩ := ymz hu (by omega)
    obtain ⟨n, hn⟩ : ∃ n, n = xs.length := ⟨_, rfl⟩
    have HN := Lib.hid hn
    have HLY := Lib.hid hl
    rw [hl] at HU ⊢
    rw [← hn] at HV HU h1 h8 HLY ⊢
    obtain ⟨i0, hi, hz0, hz1, hz2⟩ := info_parts Tryz.infoInt
    clear ha hr hv hu hn hl hpx hpy hcx1 hcx2 hcy1 hcy2
    go_enter Tryz.func186, Tryz.ntmps186
    go_wp2_with fail
    refine (areAlike_is true _ _ _ _ _ HV.out HU.out HA).mono ?_
    rintro e w' ⟨rfl, rfl⟩
    go_wp2_with (at_make; refine wpList_make_full _ rfl _ _ 26 rfl w.heap.size 3 i0 (.int .i64 0) 1 Tryz.underlying26 hi hz0 hz1 _ _ _ _ n rfl rfl rfl rfl (by rw [hz2]; omega) (by unfold maxLen; omega) (Nat.le_refl _) ?_)
    intro w1 hown1 hgrow1
    have hb1 : Below w.heap.size w w1 := (Below.refl _ _).grown hgrow1 (Nat.le_refl _) (fun k h => by cases h)
    have hown := own_made hown1
    clear hown1 hgrow1
    go_wp2
    go_loopw [17] (fun i wr => ∃ k : Nat, k ≤ n ∧ i = .int .i64 k ∧ Own wr w.heap.size (.slice (some ⟨w.heap.size, 0, none⟩) n n) ((mix 8 xs ys).take k ++ List.replicate (n - k) 0) ∧ Below w.heap.size w wr) (fun i _ => n - (intOf i).toNat)
    case atStart => exact ⟨0, Nat.zero_le _, rfl, by simpa using hown, hb1⟩
    case round =>
      obtain ⟨k, hk, rfl, hown, hbel⟩ := hrel
      by_cases hlt : k < n
      · have hc1 := yiz (yoz hcx hbel) k (by have := HN.out; omega)
        have hc2 := yiz (yoz hcy hbel) k (by have := HLY.out; omega)
        have hml : ((mix 8 xs ys).take k ++ List.replicate (n - k) 0).length = n := by simp [ybz, ← HN.out]; omega
        have hmg := mix_getD 8 xs ys k (by rw [← HN.out]; exact hlt)
        obtain ⟨hx0, hx7⟩ := HSX.out k (by rw [← HN.out]; exact hlt)
        obtain ⟨hy0, hy7⟩ := HSY.out k (by rw [HLY.out]; exact hlt)
        obtain ⟨x, hx⟩ : ∃ x, x = xs.getD k 0 := ⟨_, rfl⟩
        obtain ⟨y, hy⟩ : ∃ y, y = ys.getD k 0 := ⟨_, rfl⟩
        rw [← hx] at hc1 hx0 hx7 hmg
        rw [← hy] at hc2 hy0 hy7 hmg
        have hfz := ytz hown k
        obtain ⟨v0, hv0⟩ : ∃ v0, wr.cell? ⟨w.heap.size, k, none⟩ = some v0 := ⟨_, yWz hown k (by rw [hml]; omega)⟩
        obtain ⟨hst, hgs⟩ := yqz hown hml.symm k (x * 8 + y)
        rw [HN.out, ← ybz 8 xs ys, set_stage (mix 8 xs ys) k (by rw [ybz, ← HN.out]; exact hlt) _ (by rw [hmg]; omega), ybz, ← HN.out] at hst
        have HST := Lib.hid hst
        have b1 : (k : Int) < n := by omega
        have b2 : IntKind.i64.wrap (x * 8) = x * 8 := IntWalk.i64_in _ (by omega)
        have b3 : IntKind.i64.wrap (x * 8 + y) = x * 8 + y := IntWalk.i64_in _ (by omega)
        clear hst hgs hml hmg hx hy hown
        go_wp2
        go_still_tail 13, (by kernel_rfl)
        change wpList _ _ _ _ _ wr.drew
        go_wp2
        go_roundw
        case rel => exact ⟨k + 1, by omega, by go_num, own_drew1 HST.out, (hbel.setCell (Nat.le_refl _) _).drew⟩
        case measure => simp [intOf]; omega
      · have hkn : k = n := by omega
        subst hkn
        rw [Nat.sub_self, List.replicate_zero, List.append_nil, List.take_of_length_le (by rw [ybz, ← HN.out]; omega)] at hown
        have HO := Lib.hid (yJz hown)
        clear hown
        go_wp2_with fail
        refine (kernel_v _ _ _ HO.out (by rw [ybz, ← HN.out]; omega)).mono ?_
        rintro e w2 ⟨u, rfl, ho, hb⟩
        go_wp2
        go_ret2
        exact ⟨_, rfl, yMz ho hbel.size, yAz hbel hb⟩

set_option maxHeartbeats 1600000 in
theorem sFinerMeet_v (v u : Value) (xs ys : List Int) (w : World) (hv : RdV w v xs) (hu : RdV w u ys) :
    Calls Tryz.prog 82 #[v, u] w (FreshLB w (finerMeet xs ys)) := by
  have HV := Lib.hid hv
  have HU := Lib.hid hu
  cases ha : alike xs ys
  · have HA := Lib.hid ha
    have hr : finerMeet xs ys = ([], false) := by simp [finerMeet, ha]
    rw [hr]
    clear ha hr hv hu
    go_enter Tryz.func82, Tryz.ntmps82
    go_wp2_with fail
    refine (l2Two_is false _ _ _ _ _ HV.out HU.out HA).mono ?_
    rintro e w' ⟨rfl, rfl⟩
    go_wp2
    go_ret2
    exact ⟨_, rfl, yPz _ _ (Nat.le_refl _), (Below.refl _ _).alloc (Nat.le_refl _) _⟩
  · have HA := Lib.hid ha
    obtain ⟨h1, h8, hl⟩ := alike_lens ha
    obtain ⟨hpx, hpy, _⟩ := alike_iff.1 ha
    have HSX := Lib.hid (yBz hpx)
    have HSY := Lib.hid (yBz hpy)
    have hr : finerMeet xs ys = (kOut (mix 10 xs ys), true) := by simp [finerMeet, ha, mix_pat xs ys HSX.out HSY.out hl]
    rw [hr]
    obtain ⟨bx, ox, cx, rfl, hcx, hbx, hcx1, hcx2⟩ := ymz hv h1
    obtain ⟨by', oy, cy, rfl, hcy, hby, hcy1, hcy2⟩ := ymz hu (by omega)
    obtain ⟨n, hn⟩ : ∃ n, n = xs.length := ⟨_, rfl⟩
    have HN := Lib.hid hn
    have HLY := Lib.hid hl
    rw [hl] at HU ⊢
    rw [← hn] at HV HU h1 h8 HLY ⊢
    clear ha hr hv hu hn hl hpx hpy hcx1 hcx2 hcy1 hcy2
    go_enter Tryz.func82, Tryz.ntmps82
    go_wp2_with fail
    refine (l2Two_is true _ _ _ _ _ HV.out HU.out HA).mono ?_
    rintro e w' ⟨rfl, rfl⟩
    go_wp2
    go_loopw [6, 7] (fun u i wr => ∃ k g cap : Nat, k ≤ n ∧ i = .int .i64 k ∧ u = .slice (some ⟨g, 0, none⟩) k cap ∧ Own wr w.heap.size (.slice (some ⟨g, 0, none⟩) k cap) ((mix 10 xs ys).take k) ∧ Below w.heap.size w wr) (fun _ i _ => n - (intOf i).toNat)
    case atStart => exact ⟨0, w.heap.size, 0, Nat.zero_le _, rfl, rfl, yPz w _ (Nat.le_refl _), (Below.refl _ _).alloc (Nat.le_refl _) _⟩
    case round =>
      obtain ⟨k, g, cap, hk, rfl, rfl, hown, hbel⟩ := hrel
      by_cases hlt : k < n
      · have hc1 := yiz (yoz hcx hbel) k (by have := HN.out; omega)
        have hc2 := yiz (yoz hcy hbel) k (by have := HLY.out; omega)
        have hmg := mix_getD 10 xs ys k (by rw [← HN.out]; exact hlt)
        have hts := yYz (mix 10 xs ys) k (by rw [ybz, ← HN.out]; exact hlt)
        obtain ⟨hx0, hx7⟩ := HSX.out k (by rw [← HN.out]; exact hlt)
        obtain ⟨hy0, hy7⟩ := HSY.out k (by rw [HLY.out]; exact hlt)
        obtain ⟨x, hx⟩ : ∃ x, x = xs.getD k 0 := ⟨_, rfl⟩
        obtain ⟨y, hy⟩ : ∃ y, y = ys.getD k 0 := ⟨_, rfl⟩
        rw [← hx] at hc1 hx0 hx7 hmg
        rw [← hy] at hc2 hy0 hy7 hmg
        rw [hmg] at hts
        have HTS := Lib.hid hts
        have b1 : (k : Int) < n := by omega
        have b2 : IntKind.i64.wrap (10 * x) = 10 * x := IntWalk.i64_in _ (by omega)
        have b3 : IntKind.i64.wrap (10 * x + y) = 10 * x + y := IntWalk.i64_in _ (by omega)
        have HO := Lib.hid hown
        clear hmg hts hx hy hown
        go_wp2
        go_region_held3 (fun w' => w'.cell? ⟨bx, ox + k, none⟩ = some (.int .i64 x) ∧ w'.cell? ⟨by', oy + k, none⟩ = some (.int .i64 y)) (first | exact ⟨hc1, hc2⟩ | exact ⟨cell_keep _ hc1, cell_keep _ hc2⟩ | exact ⟨cell_keepd _ hc1, cell_keepd _ hc2⟩ | exact ⟨hw1, hw2⟩) (first | (refine ylz rfl _ _ (by rfl) w.heap.size g k cap ((mix 10 xs ys).take k) (by rfl) (own_drew1 (yQz HO.out _)) (by rw [List.length_take, ybz, ← HN.out]; omega) ⟨wr.heap.size, 0, none⟩ 1 1 (by rfl) [10 * x + y] rfl (cells_one (yXz _ _ _)) (by omega) (by have := hbel.size; simp; omega) (k + 1) rfl ?_; intro g' cap' w2 hown2 hgr2 hg2; have HO2 := Lib.hid hown2; have hw1 := hgr2.cell (cell_keepd _ hc1) (by simp; have := (yZz HO.out g rfl).1; omega); have hw2 := hgr2.cell (cell_keepd _ hc2) (by simp; have := (yZz HO.out g rfl).1; omega); have hbel2 : Below w.heap.size w w2 := (hbel.alloc hbel.size _).drew.grown hgr2 (by have := hbel.size; simp; omega) (fun q hq => by cases hq; exact (yZz HO.out g rfl).1); clear hown2 hgr2 hg2))
        go_wp2
        go_roundw
        case rel => exact ⟨k + 1, g', cap', by omega, by go_num, rfl, by rw [HTS.out]; exact HO2.out, hbel2⟩
        case measure => simp [intOf]; omega
      · have hkn : k = n := by omega
        subst hkn
        rw [List.take_of_length_le (by rw [ybz, ← HN.out]; omega)] at hown
        have HO := Lib.hid (yJz hown)
        clear hown
        go_wp2_with fail
        refine (l1Kernel_v _ _ _ HO.out (by rw [ybz, ← HN.out]; omega)).mono ?_
        rintro e w2 ⟨u, rfl, ho, hb⟩
        go_wp2
        go_ret2
        exact ⟨_, rfl, yMz ho hbel.size, yAz hbel hb⟩
end

section
def tog (xs ys : List Int) (i k : Nat) : Bool := decide (xs.getD i 0 = xs.getD k 0) || decide (ys.getD i 0 = ys.getD k 0)

theorem tog_iff {xs ys : List Int} {i k : Nat} : tog xs ys i k = true ↔ xs.getD i 0 = xs.getD k 0 ∨ ys.getD i 0 = ys.getD k 0 := by
  simp only [tog, Bool.or_eq_true, decide_eq_true_eq]

theorem tog_symm {xs ys : List Int} {i k : Nat} (h : tog xs ys i k = true) : tog xs ys k i = true := by
  rw [tog_iff] at h ⊢
  rcases h with h | h
  · exact .inl h.symm
  · exact .inr h.symm

def joinK (xs ys f : List Int) (i k : Nat) : List Int := if tog xs ys i k then f.set i (min (f.getD i 0) (f.getD k 0)) else f
def joinRow (xs ys f : List Int) (i : Nat) : Nat → List Int
  | 0 => f
  | k + 1 => joinK xs ys (joinRow xs ys f i k) i k
def joinPass (xs ys f : List Int) (n : Nat) : Nat → List Int
  | 0 => f
  | i + 1 => joinRow xs ys (joinPass xs ys f n i) i n
def joinAll (xs ys : List Int) (n : Nat) : Nat → List Int
  | 0 => iota 0 n
  | t + 1 => joinPass xs ys (joinAll xs ys n t) n n

theorem getD_setI (l : List Int) (k : Nat) (x : Int) (q : Nat) (hk : k < l.length) : (l.set k x).getD q 0 = if q = k then x else l.getD q 0 := by
  rw [List.getD_eq_getElem?_getD, List.getElem?_set]
  by_cases e : k = q
  · subst e
    simp [hk]
  · rw [if_neg e, if_neg (fun e' => e e'.symm), ← List.getD_eq_getElem?_getD]

section
variable (xs ys : List Int) (n : Nat)

theorem row_ind (P : List Int → Prop) (hP : ∀ f i k, i < n → k < n → tog xs ys i k = true → P f → P (f.set i (min (f.getD i 0) (f.getD k 0)))) (f : List Int) (i : Nat) (hi : i < n) (h : P f) : ∀ k, k ≤ n → P (joinRow xs ys f i k) := by
  intro k
  induction k with
  | zero => intro _; exact h
  | succ k ih =>
    intro hk
    unfold joinRow joinK
    split
    · rename_i ht
      exact hP _ i k hi (by omega) ht (ih (by omega))
    · exact ih (by omega)

theorem pass_ind (P : List Int → Prop) (hP : ∀ f i k, i < n → k < n → tog xs ys i k = true → P f → P (f.set i (min (f.getD i 0) (f.getD k 0)))) (f : List Int) (h : P f) : ∀ i, i ≤ n → P (joinPass xs ys f n i) := by
  intro i
  induction i with
  | zero => intro _; exact h
  | succ i ih =>
    intro hi
    exact row_ind xs ys n P hP _ i (by omega) (ih (by omega)) n (Nat.le_refl _)

theorem all_ind (P : List Int → Prop) (hP : ∀ f i k, i < n → k < n → tog xs ys i k = true → P f → P (f.set i (min (f.getD i 0) (f.getD k 0)))) (h : P (iota 0 n)) : ∀ t, P (joinAll xs ys n t) := by
  intro t
  induction t with
  | zero => exact h
  | succ t ih => exact pass_ind xs ys n P hP _ ih n (Nat.le_refl _)

def LeOf (f h : List Int) : Prop := h.length = n ∧ ∀ j, j < n → h.getD j 0 ≤ f.getD j 0

theorem le_step (f : List Int) (h : List Int) (i k : Nat) (hi : i < n) (hk : k < n) (hh : LeOf n f h) : LeOf n f (h.set i (min (h.getD i 0) (h.getD k 0))) := by
  refine ⟨by rw [List.length_set]; exact hh.1, fun j hj => ?_⟩
  rw [getD_setI _ _ _ _ (by rw [hh.1]; exact hi)]
  have h1 := hh.2 j hj
  split
  · rename_i e
    subst e
    omega
  · exact h1

theorem row_le (f : List Int) (hf : f.length = n) (i : Nat) (hi : i < n) (k : Nat) (hk : k ≤ n) : LeOf n f (joinRow xs ys f i k) :=
  row_ind xs ys n (LeOf n f) (fun h i k hi hk _ hh => le_step n f h i k hi hk hh) f i hi ⟨hf, fun _ _ => Int.le_refl _⟩ k hk

theorem pass_le (f : List Int) (hf : f.length = n) (i : Nat) (hi : i ≤ n) : LeOf n f (joinPass xs ys f n i) :=
  pass_ind xs ys n (LeOf n f) (fun h i k hi hk _ hh => le_step n f h i k hi hk hh) f ⟨hf, fun _ _ => Int.le_refl _⟩ i hi

theorem row_hit (f : List Int) (hf : f.length = n) (i : Nat) (hi : i < n) : ∀ k, k ≤ n → ∀ q, q < k → tog xs ys i q = true → (joinRow xs ys f i k).getD i 0 ≤ f.getD q 0 := by
  intro k
  induction k with
  | zero => intro _ q hq; omega
  | succ k ih =>
    intro hk q hq ht
    have hl := row_le xs ys n f hf i hi k (by omega)
    unfold joinRow joinK
    by_cases e : q = k
    · subst e
      rw [if_pos ht, getD_setI _ _ _ _ (by rw [hl.1]; exact hi), if_pos rfl]
      have := hl.2 q (by omega)
      omega
    · have h1 := ih (by omega) q (by omega) ht
      split
      · rw [getD_setI _ _ _ _ (by rw [hl.1]; exact hi), if_pos rfl]
        omega
      · exact h1

theorem pass_hit (f : List Int) (hf : f.length = n) : ∀ i, i ≤ n → ∀ j, j < i → ∀ q, q < n → tog xs ys j q = true → (joinPass xs ys f n i).getD j 0 ≤ f.getD q 0 := by
  intro i
  induction i with
  | zero => intro _ j hj; omega
  | succ i ih =>
    intro hi j hj q hq ht
    have hl := pass_le xs ys n f hf i (by omega)
    show (joinRow xs ys (joinPass xs ys f n i) i n).getD j 0 ≤ _
    by_cases e : j = i
    · subst e
      have h1 := row_hit xs ys n _ hl.1 j (by omega) n (Nat.le_refl _) q hq ht
      have := hl.2 q hq
      omega
    · have h1 := ih (by omega) j (by omega) q hq ht
      have := (row_le xs ys n _ hl.1 i (by omega) n (Nat.le_refl _)).2 j (by omega)
      omega

def Shut (m : Int) (f : List Int) : Prop := ∀ i k, i < n → k < n → tog xs ys i k = true → f.getD k 0 ≤ m → f.getD i 0 ≤ m

theorem pass_shut (m : Int) (f : List Int) (hf : f.length = n) (hs : Shut xs ys n m f) : ∀ j, j < n → (joinPass xs ys f n n).getD j 0 ≤ m → f.getD j 0 ≤ m := by
  refine (pass_ind xs ys n (fun h => h.length = n ∧ ∀ j, j < n → h.getD j 0 ≤ m → f.getD j 0 ≤ m) ?_ f ⟨hf, fun _ _ h => h⟩ n (Nat.le_refl _)).2
  intro h i k hi hk ht ⟨hl, hh⟩
  refine ⟨by rw [List.length_set]; exact hl, fun j hj e => ?_⟩
  rw [getD_setI _ _ _ _ (by rw [hl]; exact hi)] at e
  split at e
  · rename_i e2
    subst e2
    rcases Int.le_total (h.getD j 0) (h.getD k 0) with h1 | h1
    · exact hh j hj (by omega)
    · exact hs j k hj hk ht (hh k hk (by omega))
  · exact hh j hj e

def upTo (m : Int) (f : List Int) : Nat := ((List.range n).filter fun j => decide (f.getD j 0 ≤ m)).length

theorem filter_len_le (p q : Nat → Bool) (l : List Nat) (h : ∀ x ∈ l, p x = true → q x = true) : (l.filter p).length ≤ (l.filter q).length := by
  induction l with
  | nil => exact Nat.le_refl _
  | cons x l ih =>
    have h1 := ih fun y hy => h y (by simp [hy])
    have h2 := h x (by simp)
    simp only [List.filter_cons]
    cases hp : p x
    · cases hq : q x <;> simp <;> omega
    · rw [h2 hp]; simp; omega

theorem filter_len_lt (p q : Nat → Bool) (l : List Nat) (h : ∀ x ∈ l, p x = true → q x = true) (y : Nat) (hy : y ∈ l) (h1 : p y = false) (h2 : q y = true) : (l.filter p).length < (l.filter q).length := by
  induction l with
  | nil => cases hy
  | cons x l ih =>
    have hle := filter_len_le p q l fun z hz => h z (by simp [hz])
    simp only [List.filter_cons]
    rcases List.mem_cons.1 hy with e | hm
    · subst e
      rw [h1, h2]
      simp
      omega
    · have h3 := ih (fun z hz => h z (by simp [hz])) hm
      have h4 := h x (by simp)
      cases hp : p x
      · cases hq : q x <;> simp <;> omega
      · rw [h4 hp]; simp; omega

theorem joinAll_len (t : Nat) : (joinAll xs ys n t).length = n :=
  all_ind xs ys n (fun f => f.length = n) (fun f i k _ _ _ h => by rw [List.length_set]; exact h) (ynz 0 n) t

theorem shut_or (m : Nat) (hm : m < n) : ∀ t, Shut xs ys n m (joinAll xs ys n t) ∨ t + 1 ≤ upTo n m (joinAll xs ys n t) := by
  intro t
  induction t with
  | zero =>
    refine .inr ?_
    have : m ∈ (List.range n).filter fun j => decide ((iota 0 n).getD j 0 ≤ (m : Int)) := by
      rw [List.mem_filter]
      refine ⟨by simpa using hm, ?_⟩
      rw [iota_getD _ _ _ hm]
      simp
    exact List.length_pos_of_mem this
  | succ t ih =>
    have hl := joinAll_len xs ys n t
    have hle := (pass_le xs ys n _ hl n (Nat.le_refl _)).2
    by_cases hs : Shut xs ys n m (joinAll xs ys n t)
    · refine .inl fun i k hi hk ht e => ?_
      have h1 := pass_shut xs ys n m _ hl hs k hk e
      have h2 := hs i k hi hk ht h1
      have h3 := hle i hi
      show (joinPass xs ys (joinAll xs ys n t) n n).getD i 0 ≤ _
      omega
    · rcases ih with h | h
      · exact absurd h hs
      · refine .inr ?_
        have hex : ∃ i k, i < n ∧ k < n ∧ tog xs ys i k = true ∧ (joinAll xs ys n t).getD k 0 ≤ m ∧ ¬ (joinAll xs ys n t).getD i 0 ≤ m := by
          refine Classical.byContradiction fun hc => hs fun i k hi hk ht e => ?_
          refine Classical.byContradiction fun h2 => hc ⟨i, k, hi, hk, ht, e, h2⟩
        obtain ⟨i, k, hi, hk, ht, e1, e2⟩ := hex
        have h3 := pass_hit xs ys n _ hl n (Nat.le_refl _) i hi k hk ht
        have : upTo n m (joinAll xs ys n t) < upTo n m (joinAll xs ys n (t + 1)) := by
          refine filter_len_lt _ _ _ (fun j hj e => ?_) i (by simpa using hi) (by simpa using e2) ?_
          · have := hle j (by simpa using hj)
            simp only [decide_eq_true_eq] at e ⊢
            show (joinPass xs ys (joinAll xs ys n t) n n).getD j 0 ≤ _
            omega
          · simp only [decide_eq_true_eq]
            show (joinPass xs ys (joinAll xs ys n t) n n).getD i 0 ≤ _
            omega
        omega

theorem join_shut (m : Nat) (hm : m < n) : Shut xs ys n m (joinAll xs ys n n) := by
  rcases shut_or xs ys n m hm n with h | h
  · exact h
  · have := List.length_filter_le (fun j => decide ((joinAll xs ys n n).getD j 0 ≤ (m : Int))) (List.range n)
    rw [List.length_range] at this
    unfold upTo at h
    omega

def Good (g : Nat → Int) (f : List Int) : Prop := f.length = n ∧ ∀ i, i < n → 0 ≤ f.getD i 0 ∧ (f.getD i 0).toNat < n ∧ g (f.getD i 0).toNat = g i

theorem join_good (g : Nat → Int) (hg : ∀ i k, i < n → k < n → tog xs ys i k = true → g i = g k) (t : Nat) : Good n g (joinAll xs ys n t) := by
  refine all_ind xs ys n (Good n g) ?_ ⟨ynz 0 n, fun i hi => ?_⟩ t
  · intro f i k hi hk ht ⟨hl, hf⟩
    refine ⟨by rw [List.length_set]; exact hl, fun j hj => ?_⟩
    rw [getD_setI _ _ _ _ (by rw [hl]; exact hi)]
    split
    · rename_i e
      subst e
      have h1 := hf j hj
      have h2 := hf k hk
      rcases Int.le_total (f.getD j 0) (f.getD k 0) with h3 | h3
      · rw [Int.min_eq_left h3]; exact h1
      · rw [Int.min_eq_right h3]
        exact ⟨h2.1, h2.2.1, h2.2.2.trans (hg j k hj hk ht).symm⟩
    · exact hf j hj
  · rw [iota_getD _ _ _ hi]
    simp [hi]

theorem join_eq {i k : Nat} (hi : i < n) (hk : k < n) (ht : tog xs ys i k = true) : (joinAll xs ys n n).getD i 0 = (joinAll xs ys n n).getD k 0 := by
  have hgd := join_good xs ys n (fun _ => 0) (fun _ _ _ _ _ => rfl) n
  have h1 := hgd.2 i hi
  have h2 := hgd.2 k hk
  have s1 := join_shut xs ys n ((joinAll xs ys n n).getD i 0).toNat h1.2.1 k i hk hi (tog_symm ht) (by omega)
  have s2 := join_shut xs ys n ((joinAll xs ys n n).getD k 0).toNat h2.2.1 i k hi hk ht (by omega)
  omega

theorem join_tells (r : List Int) (hr : r.length = n) (heq : ∀ i k, i < n → k < n → tog xs ys i k = true → r.getD i 0 = r.getD k 0)
    (hgood : ∀ g : Nat → Int, (∀ i k, i < n → k < n → tog xs ys i k = true → g i = g k) → Good n g r) : kOut r = kOut (joinAll xs ys n n) := by
  have hl := joinAll_len xs ys n n
  refine (kOut_pat (joinAll xs ys n n) r (by rw [hr, hl]) fun i j hi hj => ?_).1
  rw [hl] at hi hj
  constructor
  · intro e
    have hg := join_good xs ys n (fun i => r.getD i 0) heq n
    have h1 := (hg.2 i hi).2.2
    have h2 := (hg.2 j hj).2.2
    rw [e] at h1
    exact h1.symm.trans h2
  · intro e
    have hg := hgood (fun i => (joinAll xs ys n n).getD i 0) (fun i k hi hk ht => join_eq xs ys n hi hk ht)
    have h1 := (hg.2 i hi).2.2
    have h2 := (hg.2 j hj).2.2
    rw [e] at h1
    exact h1.symm.trans h2
end

def finerJoin (xs ys : List Int) : List Int × Bool := if alike xs ys then (kOut (joinAll xs ys xs.length xs.length), true) else ([], false)

def Forest (n : Nat) (par rt : Nat → Nat) : Prop := ∀ j, j < n → rt j < n ∧ ((par j = j ∧ rt j = j) ∨ (par j < j ∧ rt (par j) = rt j))

theorem forest_root {n : Nat} {par rt : Nat → Nat} (h : Forest n par rt) {j : Nat} (hj : j < n) : rt (rt j) = rt j := by
  have : ∀ k j, j ≤ k → j < n → rt (rt j) = rt j := by
    intro k
    induction k with
    | zero =>
      intro j hjk hj
      rcases (h j hj).2 with ⟨_, h2⟩ | ⟨h1, _⟩
      · rw [h2, h2]
      · omega
    | succ k ih =>
      intro j hjk hj
      rcases (h j hj).2 with ⟨_, h2⟩ | ⟨h1, h2⟩
      · rw [h2, h2]
      · rw [← h2]
        exact ih (par j) (by omega) (by omega)
  exact this j j (Nat.le_refl _) hj

def hang (f : Nat → Nat) (b a : Nat) : Nat → Nat := fun j => if j = b then a else f j
def rehang (rt : Nat → Nat) (b a : Nat) : Nat → Nat := fun j => if rt j = b then a else rt j

theorem forest_hang {n : Nat} {par rt : Nat → Nat} (h : Forest n par rt) {a b : Nat} (hb : b < n) (hab : a < b) (ha : rt a = a) (hbr : rt b = b) : Forest n (hang par b a) (rehang rt b a) := by
  intro j hj
  have hj1 := h j hj
  refine ⟨by unfold rehang; split <;> omega, ?_⟩
  by_cases e : j = b
  · subst e
    refine .inr ⟨by unfold hang; rw [if_pos rfl]; exact hab, ?_⟩
    unfold hang rehang
    rw [if_pos rfl, if_pos hbr, if_neg (by rw [ha]; omega), ha]
  · rcases hj1.2 with ⟨h1, h2⟩ | ⟨h1, h2⟩
    · refine .inl ⟨by unfold hang; rw [if_neg e]; exact h1, ?_⟩
      unfold rehang
      rw [if_neg (by rw [h2]; exact e)]
      exact h2
    · refine .inr ⟨by unfold hang; rw [if_neg e]; exact h1, ?_⟩
      unfold hang rehang
      rw [if_neg e, h2]

def tied (rt : Nat → Nat) (i k : Nat) : Nat → Nat := if rt i < rt k then rehang rt (rt k) (rt i) else if rt k < rt i then rehang rt (rt i) (rt k) else rt

theorem tied_keeps (rt : Nat → Nat) (i k : Nat) {a b : Nat} (h : rt a = rt b) : tied rt i k a = tied rt i k b := by
  unfold tied rehang
  split
  · simp only [h]
  · split
    · simp only [h]
    · exact h

theorem tied_eq (rt : Nat → Nat) (i k : Nat) : tied rt i k i = tied rt i k k := by
  unfold tied rehang
  split
  · dsimp only
    rw [if_neg (by omega)]
    simp
  · split
    · simp
    · omega

theorem tied_good {n : Nat} {rt : Nat → Nat} (g : Nat → Int) (hg : ∀ j, j < n → g (rt j) = g j) {i k : Nat} (hi : i < n) (hk : k < n) (e : g i = g k) : ∀ j, j < n → g (tied rt i k j) = g j := by
  intro j hj
  have h1 := hg i hi
  have h2 := hg k hk
  have h3 := hg j hj
  unfold tied rehang
  split
  · dsimp only
    split
    · rename_i e2
      rw [h1, e, ← h2, ← e2, h3]
    · exact h3
  · split
    · dsimp only
      split
      · rename_i e2
        rw [h2, ← e, ← h1, ← e2, h3]
      · exact h3
    · exact h3
end

section
open Go.RowKit Go.Extern.Stop Go.Stop Go.Extern

def ErrAt (w : World) : Prop := w.cell? ⟨6, 0, none⟩ = some (.iface 247 (.agg #[.pointer (some ⟨7, 47, none⟩)]))

theorem errAt_below {w w' : World} (h : ErrAt w) (hb : Below w.heap.size w w') : ErrAt w' := by
  unfold ErrAt at *
  rw [hb.cell (World.block_lt_of_cell? w _ h)]
  exact h

theorem as_nil (t : Value) (w : World) : Calls Tryz.prog 279 #[.nilIface, t] w fun e w' => e = .returned (.bool false) ∧ w' = w := by
  go_enter Tryz.func279, Tryz.ntmps279
  go_wp2
  go_ret
  exact ⟨rfl, rfl⟩

theorem asValueOfP (t : Addr) (w : World) : (ReflectliteValue.unpack (.iface 204 (.pointer (some t)))).run Tryz.prog w
    = .ok (.agg #[.pointer (some ⟨7, 204, none⟩), .pointer (some ⟨w.heap.size, 0, none⟩), .int .u64 150]) (w.alloc (.cells #[.pointer (some t)] 204)) := by kernel_rfl
theorem asTypeP (a : Addr) (w : World) : (ReflectliteValue.methodAny (ReflectliteValue.valueError "reflectlite.Value.Type" 0) (fun t _ _ _ => ReflectliteType.toType t) #[.agg #[.pointer (some ⟨7, 204, none⟩), .pointer (some a), .int .u64 150]]).run Tryz.prog w
    = .ok (.iface 247 (.agg #[.pointer (some ⟨7, 204, none⟩)])) w := by kernel_rfl
theorem asMethodKind (h : Value) (w : World) : (Go.method 396 247 (.agg #[h]) "Kind").run Tryz.prog w = .ok (341, h) w := by kernel_rfl
theorem asKindP (w : World) : ((ReflectliteType.abiMethod fun t => (fun a : Nat => Value.int IntKind.u8 (a : Int)) <$> Rtype.kind t) #[.pointer (some ⟨7, 204, none⟩)]).run Tryz.prog w = .ok (.int .u8 22) w := by kernel_rfl
theorem asKindE (w : World) : ((ReflectliteType.abiMethod fun t => (fun a : Nat => Value.int IntKind.u8 (a : Int)) <$> Rtype.kind t) #[.pointer (some ⟨7, 202, none⟩)]).run Tryz.prog w = .ok (.int .u8 25) w := by kernel_rfl

theorem asRlm (z : Sem Value) (f : TypeId → Addr → Nat → Nat → Sem Value) (v : Value) :
    ReflectliteValue.method z f #[v] = (do match ← ReflectliteValue.parts v with | none => z | some (t, a, fl) => f t a fl (fl % 32)) := rfl
theorem asPartsP (a : Addr) (w : World) : (ReflectliteValue.parts (.agg #[.pointer (some ⟨7, 204, none⟩), .pointer (some a), .int .u64 150])).run Tryz.prog w = .ok (some (204, a, 150)) w := by kernel_rfl
theorem asIsNil (a p : Addr) (W : World) (ha : W.cell? a = some (.pointer (some p))) :
    (ReflectliteValue.method (ReflectliteValue.valueError "reflectlite.Value.IsNil" 0) ReflectliteValue.isNil #[.agg #[.pointer (some ⟨7, 204, none⟩), .pointer (some a), .int .u64 150]]).run Tryz.prog W = .ok (.bool false) W := by
  rw [asRlm]
  simp only [Sem.run_bind, asPartsP, Result.andThen]
  simp [ReflectliteValue.isNil, loadVar, isAgg, underlying, Tryz.underlying204, ha, Result.andThen]

theorem asMethodElem (h : Value) (w : World) : (Go.method 396 247 (.agg #[h]) "Elem").run Tryz.prog w = .ok (356, .agg #[h]) w := by kernel_rfl
theorem asMethodImplements (h : Value) (w : World) : (Go.method 396 247 (.agg #[h]) "Implements").run Tryz.prog w = .ok (357, .agg #[h]) w := by kernel_rfl
theorem asMethodAssignableTo (h : Value) (w : World) : (Go.method 396 247 (.agg #[h]) "AssignableTo").run Tryz.prog w = .ok (354, .agg #[h]) w := by kernel_rfl
theorem asElemP (w : World) : (ReflectliteType.method ReflectliteType.elem #[.agg #[.pointer (some ⟨7, 204, none⟩)]]).run Tryz.prog w = .ok (.iface 247 (.agg #[.pointer (some ⟨7, 202, none⟩)])) w := by kernel_rfl
theorem asImplements (w : World) : (ReflectliteType.relation "Implements" ReflectliteType.implements_ #[.agg #[.pointer (some ⟨7, 202, none⟩)], .iface 247 (.agg #[.pointer (some ⟨7, 47, none⟩)])]).run Tryz.prog w = .ok (.bool true) w := by kernel_rfl
theorem asTypeOfE (v : Value) (w : World) : (ReflectliteType.typeOf #[.iface 202 v]).run Tryz.prog w = .ok (.iface 247 (.agg #[.pointer (some ⟨7, 202, none⟩)])) w := by kernel_rfl
theorem asAssignable (w : World) : (ReflectliteType.relation "AssignableTo" ReflectliteType.assignableTo #[.agg #[.pointer (some ⟨7, 202, none⟩)], .iface 247 (.agg #[.pointer (some ⟨7, 202, none⟩)])]).run Tryz.prog w = .ok (.bool true) w := by kernel_rfl
theorem asValueOfE (n : Int) (w : World) : (ReflectliteValue.unpack (.iface 202 (.agg #[.int .i64 n]))).run Tryz.prog w
    = .ok (.agg #[.pointer (some ⟨7, 202, none⟩), .pointer (some ⟨w.heap.size, 0, none⟩), .int .u64 153]) (w.alloc (.cells #[.int .i64 n] 202)) := by kernel_rfl

theorem asElemOf (w : World) : (Rtype.elem? 204).run Tryz.prog w = .ok (some 202) w := by kernel_rfl
theorem asMk (p : Addr) (w : World) : (ReflectliteValue.mk 202 p ReflectliteValue.flagAddr).run Tryz.prog w = .ok (.agg #[.pointer (some ⟨7, 202, none⟩), .pointer (some p), .int .u64 409]) w := by kernel_rfl
theorem asElemV (a p : Addr) (W : World) (ha : W.cell? a = some (.pointer (some p))) :
    (ReflectliteValue.method (ReflectliteValue.valueError "reflectlite.Value.Elem" 0) ReflectliteValue.elem #[.agg #[.pointer (some ⟨7, 204, none⟩), .pointer (some a), .int .u64 150]]).run Tryz.prog W
      = .ok (.agg #[.pointer (some ⟨7, 202, none⟩), .pointer (some p), .int .u64 409]) W := by
  rw [asRlm]
  simp only [Sem.run_bind, asPartsP, Result.andThen]
  simp [ReflectliteValue.elem, loadVar, isAgg, underlying, Tryz.underlying204, ha, Result.andThen, asElemOf, asMk]
theorem asRls (v x : Value) : ReflectliteValue.set #[v, x] = (do
    let (some (dst, a, fl), some (src, b, _)) := (← ReflectliteValue.parts v, ← ReflectliteValue.parts x)
      | unsupported (.noEntry "extern/(internal/reflectlite.Value).Set.zeroValue")
    if fl / ReflectliteValue.flagAddr % 2 == 0 then unsupported (.noEntry "extern/(internal/reflectlite.Value).Set.unaddressable")
    let val ← loadVar src b
    if ← Rtype.directlyAssignable dst src then storeVar dst a val
    else if ← Rtype.implements dst src then
      if (← Rtype.kind src) == 20 then
        match val with
        | .nilIface => unsupported (.noEntry "extern/reflectlite: a nil value of one interface type handed on as a value of another")
        | _ => storeVar dst a val
      else storeVar dst a (.iface src val)
    else panicString ("reflectlite.Set: value of type " ++ (← Rtype.spelt src) ++ " is not assignable to type " ++ (← Rtype.spelt dst))
    pure (.tuple #[])) := rfl
theorem asPartsA (a : Addr) (w : World) : (ReflectliteValue.parts (.agg #[.pointer (some ⟨7, 202, none⟩), .pointer (some a), .int .u64 409])).run Tryz.prog w = .ok (some (202, a, 409)) w := by kernel_rfl
theorem asPartsE (a : Addr) (w : World) : (ReflectliteValue.parts (.agg #[.pointer (some ⟨7, 202, none⟩), .pointer (some a), .int .u64 153])).run Tryz.prog w = .ok (some (202, a, 153)) w := by kernel_rfl
theorem asDirect (w : World) : (Rtype.directlyAssignable 202 202).run Tryz.prog w = .ok true w := by kernel_rfl
theorem asLoad (b : Addr) (n : Int) (W : World) (hb : W.cell? b = some (.int .i64 n)) : (loadVar 202 b).run Tryz.prog W = .ok (.agg #[.int .i64 n]) W := by
  simp [loadVar, isAgg, underlying, Tryz.underlying202, Result.andThen, loadCells, loadCellsFrom, hb, Addr.add]
theorem asSet (ta b : Addr) (n : Int) (old : Value) (W : World) (hb : W.cell? b = some (.int .i64 n)) (ht : W.cell? ta = some old) (hf : W.frozen? ta = false) :
    (ReflectliteValue.set #[.agg #[.pointer (some ⟨7, 202, none⟩), .pointer (some ta), .int .u64 409], .agg #[.pointer (some ⟨7, 202, none⟩), .pointer (some b), .int .u64 153]]).run Tryz.prog W
      = .ok (.tuple #[]) (W.setCell ta (.int .i64 n)) := by
  rw [asRls]
  simp only [Sem.run_bind, asPartsA, asPartsE, asLoad b n W hb, Result.andThen]
  simp [ReflectliteValue.flagAddr, Result.andThen, asDirect, storeVar, Value.cells, storeCells, Addr.add, asLoad b n W hb]
  rw [run_store Tryz.prog W ta _ _ (by rfl)]
  simp [ht, hf]

set_option maxHeartbeats 4000000 in
theorem as_hit (n : Int) (t : Addr) (old : Value) (w : World) (hg : ErrAt w) (ht0 : w.cell? t = some old) (hf0 : w.frozen? t = false) :
    Calls Tryz.prog 279 #[.iface 202 (.agg #[.int .i64 n]), .iface 204 (.pointer (some t))] w fun ev w' => ev = .returned (.bool true) ∧ w' = ((((w.alloc (.cells #[.pointer (some t)] 204)).alloc (.cells #[.pointer (some ⟨7, 204, none⟩), .pointer (some ⟨w.heap.size, 0, none⟩), .int .u64 150] 226)).alloc (.cells #[.pointer (some ⟨7, 204, none⟩), .pointer (some ⟨w.heap.size, 0, none⟩), .int .u64 150] 226)).alloc (.cells #[.int .i64 n] 202)).setCell t (.int .i64 n) := by
  unfold ErrAt at hg
  have h6 := @run_callFunc_extern Tryz.prog 296 _ (fun args => ReflectliteValue.unpack (args.getD 0 (.tuple #[]))) Tryz.func296 (by kernel_rfl) (by kernel_rfl) (by kernel_rfl) (by kernel_rfl)
  have h7 := @run_callFunc_extern Tryz.prog 297 _ (ReflectliteValue.methodAny (ReflectliteValue.valueError "reflectlite.Value.Type" 0) (fun t _ _ _ => ReflectliteType.toType t)) Tryz.func297 (by kernel_rfl) (by kernel_rfl) (by kernel_rfl) (by kernel_rfl)
  have h8 := @run_callFunc_extern Tryz.prog 298 _ (ReflectliteValue.method (ReflectliteValue.valueError "reflectlite.Value.IsNil" 0) ReflectliteValue.isNil) Tryz.func298 (by kernel_rfl) (by kernel_rfl) (by kernel_rfl) (by kernel_rfl)
  have h27 := @run_callFunc_extern Tryz.prog 341 _ (ReflectliteType.abiMethod fun t => do pure (.int .u8 (← Rtype.kind t))) Tryz.func341 (by kernel_rfl) (by kernel_rfl) (by kernel_rfl) (by kernel_rfl)
  have h37 := @run_callFunc_extern Tryz.prog 356 _ (ReflectliteType.method ReflectliteType.elem) Tryz.func356 (by kernel_rfl) (by kernel_rfl) (by kernel_rfl) (by kernel_rfl)
  have h38 := @run_callFunc_extern Tryz.prog 357 _ (ReflectliteType.relation "Implements" ReflectliteType.implements_) Tryz.func357 (by kernel_rfl) (by kernel_rfl) (by kernel_rfl) (by kernel_rfl)
  have h10 := @run_callFunc_extern Tryz.prog 316 _ ReflectliteType.typeOf Tryz.func316 (by kernel_rfl) (by kernel_rfl) (by kernel_rfl) (by kernel_rfl)
  have h35 := @run_callFunc_extern Tryz.prog 354 _ (ReflectliteType.relation "AssignableTo" ReflectliteType.assignableTo) Tryz.func354 (by kernel_rfl) (by kernel_rfl) (by kernel_rfl) (by kernel_rfl)
  have h11 := @run_callFunc_extern Tryz.prog 317 _ (ReflectliteValue.method (ReflectliteValue.valueError "reflectlite.Value.Elem" 0) ReflectliteValue.elem) Tryz.func317 (by kernel_rfl) (by kernel_rfl) (by kernel_rfl) (by kernel_rfl)
  have h12 := @run_callFunc_extern Tryz.prog 318 _ ReflectliteValue.set Tryz.func318 (by kernel_rfl) (by kernel_rfl) (by kernel_rfl) (by kernel_rfl)
  have tO := asTypeOfE
  have mA := asMethodAssignableTo
  have aE := asAssignable
  have vE := asValueOfE
  have f6 := asValueOfP
  have f7 := asTypeP
  have mK := asMethodKind
  have mE := asMethodElem
  have mI := asMethodImplements
  have kP := asKindP
  have kE := asKindE
  have eP := asElemP
  have iE := asImplements
  have n8 := asIsNil ⟨w.heap.size, 0, none⟩ t ((w.alloc (.cells #[.pointer (some t)] 204)).alloc (.cells #[.pointer (some ⟨7, 204, none⟩), .pointer (some ⟨w.heap.size, 0, none⟩), .int .u64 150] 226)) (by simp)
  have hlt : 6 < w.heap.size := by
    have := World.block_lt_of_cell? w _ hg
    simpa using this
  have hg2 : ((w.alloc (.cells #[.pointer (some t)] 204)).alloc (.cells #[.pointer (some ⟨7, 204, none⟩), .pointer (some ⟨w.heap.size, 0, none⟩), .int .u64 150] 226)).cell? ⟨6, 0, none⟩ = some (.iface 247 (.agg #[.pointer (some ⟨7, 47, none⟩)])) := by
    rw [World.cell?_alloc_lt _ _ ⟨6, 0, none⟩ (by simp <;> omega), World.cell?_alloc_lt _ _ ⟨6, 0, none⟩ hlt]; exact hg
  have htl : t.block < w.heap.size := World.block_lt_of_cell? w _ ht0
  have el := asElemV ⟨w.heap.size, 0, none⟩ t (((w.alloc (.cells #[.pointer (some t)] 204)).alloc (.cells #[.pointer (some ⟨7, 204, none⟩), .pointer (some ⟨w.heap.size, 0, none⟩), .int .u64 150] 226)).alloc (.cells #[.pointer (some ⟨7, 204, none⟩), .pointer (some ⟨w.heap.size, 0, none⟩), .int .u64 150] 226)) (by rw [World.cell?_alloc_lt _ _ ⟨w.heap.size, 0, none⟩ (by simp; omega)]; simp)
  have st := asSet t ⟨w.heap.size + 1 + 1 + 1, 0, none⟩ n old ((((w.alloc (.cells #[.pointer (some t)] 204)).alloc (.cells #[.pointer (some ⟨7, 204, none⟩), .pointer (some ⟨w.heap.size, 0, none⟩), .int .u64 150] 226)).alloc (.cells #[.pointer (some ⟨7, 204, none⟩), .pointer (some ⟨w.heap.size, 0, none⟩), .int .u64 150] 226)).alloc (.cells #[.int .i64 n] 202))
    (by rw [World.cell?_alloc_at _ _ _ _ (by simp)]; rfl)
    (by rw [World.cell?_alloc_lt _ _ t (by simp; omega), World.cell?_alloc_lt _ _ t (by simp; omega), World.cell?_alloc_lt _ _ t (by simp; omega), World.cell?_alloc_lt _ _ t htl]; exact ht0)
    (by rw [World.frozen?_alloc_old _ _ t (by simp; omega), World.frozen?_alloc_old _ _ t (by simp; omega), World.frozen?_alloc_old _ _ t (by simp; omega), World.frozen?_alloc_old _ _ t (Nat.ne_of_lt htl)]; exact hf0)
  go_enter Tryz.func279, Tryz.ntmps279
  go_wp2
  refine wp_loop_rounds 1 ?_
  rw [rounds_succ]
  go_wp2
  go_ret
  exact ⟨rfl, rfl⟩

theorem isNone_nil (w : World) : Calls Tryz.prog 238 #[.nilIface] w fun e w' => e = .returned (.bool false) ∧ Below w.heap.size w w' := by
  go_enter Tryz.func238, Tryz.ntmps238
  go_wp2_with (go_at_call 279; refine (as_nil _ _).mono ?_; rintro e w' ⟨rfl, rfl⟩)
  go_ret
  exact ⟨rfl, (Below.refl _ _).alloc (Nat.le_refl _) _⟩

set_option maxHeartbeats 1000000 in
theorem isNone_hit (n : Int) (w : World) (hg : ErrAt w) : Calls Tryz.prog 238 #[.iface 202 (.agg #[.int .i64 n])] w fun e w' => e = .returned (.bool true) ∧ Below w.heap.size w w' := by
  have hg2 : ErrAt (w.alloc (.cells #[.int .i64 0] 202)) := errAt_below hg ((Below.refl _ _).alloc (Nat.le_refl _) _)
  have ht : (w.alloc (.cells #[.int .i64 0] 202)).cell? ⟨w.heap.size, 0, none⟩ = some (.int .i64 0) := by simp
  have hf : (w.alloc (.cells #[.int .i64 0] 202)).frozen? ⟨w.heap.size, 0, none⟩ = false := by simp
  go_enter Tryz.func238, Tryz.ntmps238
  go_wp2_with (go_at_call 279; refine (as_hit n _ (.int .i64 0) _ hg2 ht hf).mono ?_; rintro e w' ⟨rfl, rfl⟩)
  go_ret
  have h0 : Below w.heap.size w w := Below.refl _ _
  have h1 := h0.alloc (Nat.le_refl _) (.cells #[.int .i64 n] 202)
  have h2 := h1.alloc (by simp) (.cells #[.pointer (some ⟨w.heap.size, 0, none⟩)] 204)
  have h3 := h2.alloc (by simp; omega) (.cells #[.pointer (some ⟨7, 204, none⟩), .pointer (some ⟨w.heap.size + 1, 0, none⟩), .int .u64 150] 226)
  have h4 := h3.alloc (by simp; omega) (.cells #[.pointer (some ⟨7, 204, none⟩), .pointer (some ⟨w.heap.size + 1, 0, none⟩), .int .u64 150] 226)
  have h5 := h4.alloc (by simp; omega) (.cells #[.int .i64 n] 202)
  exact ⟨rfl, h5⟩
end

section
open Go.RowKit

theorem nameFrom_cons (n s : Nat) (x : Int) (xs : List Int) : nameFrom n s (x :: xs) = (decide (0 ≤ x ∧ x < n) && !s.testBit x.toNat && nameFrom n (s ||| 2 ^ x.toNat) xs) := rfl

set_option maxHeartbeats 1600000 in
theorem isNaming_any (n : Nat) (ao : Option Addr) (ca : Nat) (ps : List Int) (w : World) (hn8 : n ≤ 8) (hx : Rd w ao ps) (hl : ps.length ≤ 9223372036854775807) :
    Calls Tryz.prog 278 #[.int .i64 n, .slice ao ps.length ca] w fun e w' => e = .returned (.bool (namesOk n ps)) ∧ w = w' := by
  by_cases hlen : ps.length = n
  · have HN := Lib.hid hlen
    have HOK : Hid (namesOk n ps = nameFrom n 0 ps) := by
      show namesOk n ps = _
      simp [namesOk, hlen]
    rw [hlen]
    clear hlen hl
    have HX := Lib.hid hx
    clear hx
    go_enter Tryz.func278, Tryz.ntmps278
    go_wp2
    go_loop [5, 14] (fun u i => ∃ k s : Nat, k ≤ n ∧ i = .int .i64 k ∧ u = .int .u64 s ∧ s < 256 ∧ nameFrom n 0 ps = nameFrom n s (ps.drop k)) (fun _ i => n - (intOf i).toNat)
    case atStart => exact ⟨0, 0, Nat.zero_le _, rfl, rfl, by omega, rfl⟩
    case round =>
      obtain ⟨k, s, hk, rfl, rfl, hs, hok⟩ := hrel
      have HK := Lib.hid hok
      clear hok
      by_cases hlt : k < n
      · rcases HX.out with hx | ⟨bb, off, rfl, hcx⟩
        · have := HN.out
          rw [hx] at this
          simp at this
          omega
        · have hc1 := hcx k (by have := HN.out; omega)
          clear hcx
          have hdr := drop_cons ps k (by have := HN.out; omega)
          obtain ⟨x, hx⟩ : ∃ x, x = ps.getD k 0 := ⟨_, rfl⟩
          rw [← hx] at hc1 hdr
          have hok := HK.out
          rw [hdr, nameFrom_cons] at hok
          have HK2 := Lib.hid hok
          clear hok HK hdr hx
          by_cases hr : 0 ≤ x ∧ x < n
          · obtain ⟨t, rfl⟩ := Int.eq_ofNat_of_zero_le hr.1
            have ht : t < 8 := by omega
            cases hb : s.testBit t
            · have HB := Lib.hid hb
              clear hb
              go_wp2_with fail
              refine (isThing_yes _ _ _ hr.1 hr.2).mono ?_
              rintro e w' ⟨rfl, rfl⟩
              go_wp2_with fail
              refine (has_any s t _ hs ht).mono ?_
              rintro e w' ⟨rfl, rfl⟩
              rw [HB.out]
              go_wp2_with fail
              refine (with_any s t _ hs ht).mono ?_
              rintro e w' ⟨rfl, rfl⟩
              go_wp2
              go_round
              case rel =>
                refine ⟨k + 1, s ||| 2 ^ t, by omega, by go_num, rfl, or_lt s hs t ht, ?_⟩
                rw [HK2.out, Int.toNat_natCast, HB.out, decide_eq_true hr]
                rfl
              case measure => simp [intOf]; omega
            · have HB := Lib.hid hb
              clear hb
              go_wp2_with fail
              refine (isThing_yes _ _ _ hr.1 hr.2).mono ?_
              rintro e w' ⟨rfl, rfl⟩
              go_wp2_with fail
              refine (has_any s t _ hs ht).mono ?_
              rintro e w' ⟨rfl, rfl⟩
              rw [HB.out]
              go_wp2
              go_ret
              exact ⟨yhz (by rw [HOK.out, HK2.out, Int.toNat_natCast, HB.out]; simp), rfl⟩
          · go_wp2_with fail
            refine (isThing_no _ _ _ (by omega)).mono ?_
            rintro e w' ⟨rfl, rfl⟩
            go_wp2
            go_ret
            exact ⟨yhz (by rw [HOK.out, HK2.out, decide_eq_false hr]; simp), rfl⟩
      · have hkn : k = n := by omega
        subst hkn
        go_wp2
        go_ret
        refine ⟨yhz ?_, rfl⟩
        rw [HOK.out, HK.out, List.drop_of_length_le (by have := HN.out; omega)]
        rfl
  · have hok : namesOk n ps = false := by simp [namesOk, hlen]
    rw [hok]
    clear hok
    go_enter Tryz.func278, Tryz.ntmps278
    go_wp2
    go_ret
    exact ⟨rfl, rfl⟩

theorem or64_fact : ∀ b, b < 256 → ∀ t, t < 8 → bits BinOp.or IntKind.i64 ((b : Nat) : Int) (wrap64 (2 ^ (t : Nat))) = ((b ||| 2 ^ t : Nat) : Int) := by decide +kernel
theorem pow64_fact : ∀ t, t < 9 → wrap64 (wrap64 (2 ^ (t : Nat)) - 1) = ((2 ^ t - 1 : Nat) : Int) := by decide +kernel
theorem maskFrom_snoc : ∀ (xs : List Int) (s : Nat) (x : Int), maskFrom s (xs ++ [x]) = maskFrom s xs ||| 2 ^ x.toNat := by
  intro xs
  induction xs with
  | nil => intro s x; rfl
  | cons y ys ih => intro s x; exact ih _ x

theorem inRange_snoc {n : Nat} {xs : List Int} {x : Int} (h : inRange n xs) (hx : 0 ≤ x ∧ x < n) : inRange n (xs ++ [x]) := by
  intro j hj
  simp at hj
  by_cases hl : j < xs.length
  · rw [getD_snoc_lt _ _ _ hl]; exact h j hl
  · obtain rfl : j = xs.length := by omega
    rw [getD_snoc_eq]; exact hx

set_option maxHeartbeats 1600000 in
theorem l1Names_any (n : Nat) (ao : Option Addr) (ca : Nat) (ps : List Int) (w : World) (hn8 : n ≤ 8) (hx : Rd w ao ps) (hl : ps.length ≤ 9223372036854775807) :
    Calls Tryz.prog 223 #[.slice ao ps.length ca, .int .i64 n] w fun e w' => e = .returned (.bool (namesOk n ps)) ∧ w = w' := by
  obtain ⟨m, hm⟩ : ∃ m, m = ps.length := ⟨_, rfl⟩
  rw [← hm] at hl ⊢
  have HM := Lib.hid hm
  clear hm
  have HX := Lib.hid hx
  clear hx
  go_enter Tryz.func223, Tryz.ntmps223
  go_wp2
  go_loop [5, 6] (fun u i => ∃ k s : Nat, k ≤ m ∧ i = .int .i64 k ∧ u = .int .i64 s ∧ s < 256 ∧ s = maskFrom 0 (ps.take k) ∧ inRange n (ps.take k)) (fun _ i => m - (intOf i).toNat)
  case atStart => exact ⟨0, 0, Nat.zero_le _, rfl, rfl, by omega, rfl, fun j hj => by simp at hj⟩
  case round =>
    obtain ⟨k, s, hk, rfl, rfl, hs, hmask, hr⟩ := hrel
    have HK := Lib.hid hmask
    have HR := Lib.hid hr
    clear hmask hr
    by_cases hlt : k < m
    · rcases HX.out with hx | ⟨bb, off, rfl, hcx⟩
      · have := HM.out
        rw [hx] at this
        simp at this
        omega
      · have hc1 := hcx k (by have := HM.out; omega)
        clear hcx
        have hts := yYz ps k (by have := HM.out; omega)
        obtain ⟨x, hx⟩ : ∃ x, x = ps.getD k 0 := ⟨_, rfl⟩
        rw [← hx] at hc1 hts
        have HTS := Lib.hid hts
        have HXK := Lib.hid hx
        clear hts hx
        by_cases hr : 0 ≤ x ∧ x < n
        · obtain ⟨t, rfl⟩ := Int.eq_ofNat_of_zero_le hr.1
          have ht : t < 8 := by omega
          have HF := Lib.hid (or64_fact s hs t ht)
          go_wp2_with fail
          refine (l6In_yes _ _ _ _ (by omega) (by omega)).mono ?_
          rintro e w' ⟨rfl, rfl⟩
          go_wp2
          go_round
          case rel => exact ⟨k + 1, s ||| 2 ^ t, by omega, by go_num, by rw [HF.out], or_lt s hs t ht, by rw [HTS.out, maskFrom_snoc, ← HK.out, Int.toNat_natCast], by rw [HTS.out]; exact inRange_snoc HR.out hr⟩
          case measure => simp [intOf]; omega
        · go_wp2_with fail
          refine (l6In_no _ _ _ _ (by omega)).mono ?_
          rintro e w' ⟨rfl, rfl⟩
          go_wp2
          go_ret
          refine ⟨yhz ?_, rfl⟩
          cases hb : namesOk n ps
          · rfl
          · simp only [namesOk, Bool.and_eq_true, decide_eq_true_eq] at hb
            have := nameFrom_range n ps 0 hb.2 k (by have := HM.out; omega)
            rw [← HXK.out] at this
            exact absurd this hr
    · have hkm : k = m := by omega
      subst hkm
      have hmask := HK.out
      have hr := HR.out
      rw [HM.out, List.take_length] at hmask hr
      by_cases hmn : k = n
      · subst hmn
        have HP := Lib.hid (pow64_fact k (by omega))
        have hfull := names_full k hn8 ps HM.out.symm hr
        rw [← hmask] at hfull
        have HFULL := Lib.hid hfull
        clear hfull hmask hr
        go_wp2
        go_ret
        refine ⟨yhz ?_, rfl⟩
        rw [HP.out]
        have hf := HFULL.out
        simp only [namesOk, ← HM.out, decide_true, Bool.true_and]
        cases hb : nameFrom k 0 ps
        · rw [hb] at hf
          simp at hf
          simp
          omega
        · rw [hb] at hf
          simp at hf
          simp
          omega
      · go_wp2
        go_ret
        exact ⟨yhz (by simp [namesOk, ← HM.out, hmn]), rfl⟩

theorem isNaming_is (b : Bool) (n : Nat) (v : Value) (ps : List Int) (w : World) (hv : RdV w v ps) (hn8 : n ≤ 8) (hb : Hid (namesOk n ps = b)) :
    Calls Tryz.prog 278 #[.int .i64 n, v] w fun e w' => e = .returned (.bool b) ∧ w = w' := by
  obtain ⟨ao, ca, rfl, h, h1, h2⟩ := hv
  unfold maxLen at h2
  exact (isNaming_any n ao ca ps w hn8 h (by omega)).mono fun _ _ ⟨he, hw⟩ => ⟨by rw [he, hb.out], hw⟩

theorem l1Names_is (b : Bool) (n : Nat) (v : Value) (ps : List Int) (w : World) (hv : RdV w v ps) (hn8 : n ≤ 8) (hb : Hid (namesOk n ps = b)) :
    Calls Tryz.prog 223 #[v, .int .i64 n] w fun e w' => e = .returned (.bool b) ∧ w = w' := by
  obtain ⟨ao, ca, rfl, h, h1, h2⟩ := hv
  unfold maxLen at h2
  exact (l1Names_any n ao ca ps w hn8 h (by omega)).mono fun _ _ ⟨he, hw⟩ => ⟨by rw [he, hb.out], hw⟩

theorem namesOk_facts {n : Nat} {ps : List Int} (h : namesOk n ps = true) : ps.length = n ∧ ∀ j, j < n → 0 ≤ ps.getD j 0 ∧ ps.getD j 0 < n := by
  simp only [namesOk, Bool.and_eq_true, decide_eq_true_eq] at h
  exact ⟨h.1, fun j hj => nameFrom_range n ps 0 h.2 j (by omega)⟩
end

section
open Go.RowKit

def permOk (n : Nat) (xs : List Int) : Bool := decide (1 ≤ n ∧ n ≤ 8) && namesOk n xs
def ringIn (xs : List Int) : Bool := permOk xs.length xs

theorem permOk_facts {n : Nat} {xs : List Int} (h : permOk n xs = true) : 1 ≤ n ∧ n ≤ 8 ∧ namesOk n xs = true ∧ xs.length = n ∧ ∀ j, j < n → 0 ≤ xs.getD j 0 ∧ xs.getD j 0 < n := by
  simp only [permOk, Bool.and_eq_true, decide_eq_true_eq] at h
  obtain ⟨h1, h2⟩ := namesOk_facts h.2
  exact ⟨h.1.1, h.1.2, h.2, h1, h2⟩

theorem toPerm_yes (n : Nat) (ao : Option Addr) (len ca : Nat) (xs : List Int) (w : World) (hv : RdV w (.slice ao len ca) xs) (h : Hid (permOk n xs = true)) :
    Calls Tryz.prog 237 #[.int .i64 n, .slice ao len ca] w fun e w' => e = .returned (.tuple #[.agg #[.slice ao len ca], .nilIface]) ∧ Below w.heap.size w w' := by
  obtain ⟨h1, h2, h3, _, _⟩ := permOk_facts h.out
  have HN := Lib.hid h3
  have HV := Lib.hid hv
  clear h3 hv h
  go_enter Tryz.func237, Tryz.ntmps237
  go_wp2_with fail
  refine (countFits_yes _ _ (by omega) (by omega)).mono ?_
  rintro e w' ⟨rfl, rfl⟩
  go_wp2_with fail
  refine (isNaming_is true _ _ xs _ (yDz HV.out ((Below.refl _ _).alloc (Nat.le_refl _) _)) h2 HN).mono ?_
  rintro e w' ⟨rfl, rfl⟩
  go_wp2
  refine bodyPost_ret (v := .tuple #[.agg #[.slice ao len ca], .nilIface]) (by simp [results, Tryz.results237, go_sem]) rfl ⟨rfl, (Below.refl _ _).alloc (Nat.le_refl _) _⟩

theorem toPerm_no (n : Nat) (ao : Option Addr) (len ca : Nat) (xs : List Int) (w : World) (hn : n ≤ 9223372036854775807) (hv : RdV w (.slice ao len ca) xs) (h : Hid (permOk n xs = false)) :
    Calls Tryz.prog 237 #[.int .i64 n, .slice ao len ca] w fun e w' => e = .returned (.tuple #[.agg #[.slice none 0 0], .iface 202 (.agg #[.int .i64 n])]) ∧ Below w.heap.size w w' := by
  have HV := Lib.hid hv
  clear hv
  by_cases hr : 1 ≤ n ∧ n ≤ 8
  · have h3 : namesOk n xs = false := by
      have := h.out
      simpa [permOk, hr] using this
    have HN := Lib.hid h3
    obtain ⟨h1, h2⟩ := hr
    clear h3 h
    go_enter Tryz.func237, Tryz.ntmps237
    go_wp2_with fail
    refine (countFits_yes _ _ (by omega) (by omega)).mono ?_
    rintro e w' ⟨rfl, rfl⟩
    go_wp2_with fail
    refine (isNaming_is false _ _ xs _ (yDz HV.out ((Below.refl _ _).alloc (Nat.le_refl _) _)) h2 HN).mono ?_
    rintro e w' ⟨rfl, rfl⟩
    go_wp2
    refine bodyPost_ret (v := .tuple #[.agg #[.slice none 0 0], .iface 202 (.agg #[.int .i64 n])]) (by simp [results, Tryz.results237, go_sem]) rfl ⟨rfl, (Below.refl _ _).alloc (Nat.le_refl _) _⟩
  · clear h
    go_enter Tryz.func237, Tryz.ntmps237
    go_wp2_with fail
    refine (countFits_no _ _ (by omega)).mono ?_
    rintro e w' ⟨rfl, rfl⟩
    go_wp2
    refine bodyPost_ret (v := .tuple #[.agg #[.slice none 0 0], .iface 202 (.agg #[.int .i64 n])]) (by simp [results, Tryz.results237, go_sem]) rfl ⟨rfl, (Below.refl _ _).alloc (Nat.le_refl _) _⟩

theorem things_w (ao : Option Addr) (n ca : Nat) (w : World) (hn : n ≤ 9223372036854775807) :
    Calls Tryz.prog 280 #[.slice ao n ca] w fun e w' => e = .returned (.int .i64 n) ∧ w = w' := by
  go_enter Tryz.func280, Tryz.ntmps280
  go_wp2
  go_ret
  exact ⟨rfl, rfl⟩

theorem next_w (b off n ca k : Nat) (x : Int) (w : World) (hc : w.cell? ⟨b, off + k, none⟩ = some (.int .i64 x)) (hk : k < n) (hn : n ≤ 1000000) :
    Calls Tryz.prog 300 #[.slice (some ⟨b, off, none⟩) n ca, .int .i64 k] w fun e w' => e = .returned (.int .i64 x) ∧ w = w' := by
  go_enter Tryz.func300, Tryz.ntmps300
  go_wp2
  go_ret
  exact ⟨rfl, rfl⟩

theorem sRingIn_w (v : Value) (xs : List Int) (w : World) (hv : RdV w v xs) : Calls Tryz.prog 160 #[v] w fun e w' => e = .returned (.bool (ringIn xs)) ∧ w = w' := by
  have hv0 := hv
  obtain ⟨ao, ca, rfl, h, h1, h2⟩ := hv
  unfold maxLen at h2
  have HV := Lib.hid hv0
  clear hv0 h
  by_cases hr : 1 ≤ xs.length ∧ xs.length ≤ 8
  · have he : ringIn xs = namesOk xs.length xs := by simp [ringIn, permOk, hr]
    obtain ⟨b, hb⟩ : ∃ b, b = namesOk xs.length xs := ⟨_, rfl⟩
    rw [he, ← hb]
    have HN := Lib.hid hb.symm
    clear he hb
    obtain ⟨h1, h2⟩ := hr
    go_enter Tryz.func160, Tryz.ntmps160
    go_wp2_with fail
    refine (l6In_yes _ _ _ _ (by omega) (by omega)).mono ?_
    rintro e w' ⟨rfl, rfl⟩
    go_wp2_with fail
    refine (l1Names_is b _ _ xs _ HV.out h2 HN).mono ?_
    rintro e w' ⟨rfl, rfl⟩
    go_wp2
    go_ret
    exact ⟨rfl, rfl⟩
  · have he : ringIn xs = false := by simp [ringIn, permOk, hr]
    rw [he]
    clear he
    go_enter Tryz.func160, Tryz.ntmps160
    go_wp2_with fail
    refine (l6In_no _ _ _ _ (by omega)).mono ?_
    rintro e w' ⟨rfl, rfl⟩
    go_wp2
    go_ret
    exact ⟨rfl, rfl⟩

theorem sRingIn_is (b : Bool) (v : Value) (xs : List Int) (w : World) (hv : RdV w v xs) (hb : Hid (ringIn xs = b)) : Calls Tryz.prog 160 #[v] w fun e w' => e = .returned (.bool b) ∧ w = w' :=
  (sRingIn_w v xs w hv).mono fun _ _ ⟨he, hw⟩ => ⟨by rw [he, hb.out], hw⟩
end

theorem pigeon : ∀ (n : Nat) (g : Nat → Nat), (∀ i, i ≤ n → g i < n) → ∃ i j, i < j ∧ j ≤ n ∧ g i = g j := by
  intro n
  induction n with
  | zero => intro g h; exact absurd (h 0 (Nat.le_refl _)) (Nat.not_lt_zero _)
  | succ n ih =>
    intro g h
    by_cases hv : ∃ i, i ≤ n ∧ g i = g (n + 1)
    · obtain ⟨i, hi, he⟩ := hv
      exact ⟨i, n + 1, by omega, Nat.le_refl _, he⟩
    · have hne : ∀ i, i ≤ n → g i ≠ g (n + 1) := fun i hi he => hv ⟨i, hi, he⟩
      have hl := h (n + 1) (Nat.le_refl _)
      obtain ⟨i, j, h1, h2, h3⟩ := ih (fun i => if g (n + 1) < g i then g i - 1 else g i) (fun i hi => by
        have a := h i (by omega)
        have b := hne i hi
        show (if g (n + 1) < g i then g i - 1 else g i) < n
        split <;> omega)
      have a := hne i (by omega)
      have b := hne j h2
      refine ⟨i, j, h1, by omega, ?_⟩
      split at h3 <;> split at h3 <;> omega

structure Led (n : Nat) (f : Nat → Nat) : Prop where
  lt : ∀ x, x < n → f x < n
  inj : ∀ x y, x < n → y < n → f x = f y → x = y

def itf (f : Nat → Nat) : Nat → Nat → Nat
  | 0, x => x
  | k + 1, x => f (itf f k x)

theorem itf_add (f : Nat → Nat) (a b x : Nat) : itf f (a + b) x = itf f a (itf f b x) := by
  induction a with
  | zero => simp [itf]
  | succ a ih => rw [Nat.succ_add]; simp only [itf, ih]

theorem itf_lt {n : Nat} {f : Nat → Nat} (h : Led n f) {x : Nat} (hx : x < n) (k : Nat) : itf f k x < n := by
  induction k with
  | zero => exact hx
  | succ k ih => exact h.lt _ ih

theorem itf_inj {n : Nat} {f : Nat → Nat} (h : Led n f) {x y : Nat} (hx : x < n) (hy : y < n) (k : Nat) (e : itf f k x = itf f k y) : x = y := by
  induction k with
  | zero => exact e
  | succ k ih => exact ih (h.inj _ _ (itf_lt h hx k) (itf_lt h hy k) e)

theorem itf_back {n : Nat} {f : Nat → Nat} (h : Led n f) {x : Nat} (hx : x < n) : ∃ m, 1 ≤ m ∧ m ≤ n ∧ itf f m x = x := by
  obtain ⟨i, j, h1, h2, h3⟩ := pigeon n (fun k => itf f k x) (fun i _ => itf_lt h hx i)
  refine ⟨j - i, by omega, by omega, ?_⟩
  have e : itf f i x = itf f i (itf f (j - i) x) := by rw [← itf_add, show i + (j - i) = j by omega]; exact h3
  exact (itf_inj h hx (itf_lt h hx _) i e).symm

theorem itf_mul {f : Nat → Nat} {x m : Nat} (hm : itf f m x = x) (k : Nat) : itf f (k * m) x = x := by
  induction k with
  | zero => simp [itf]
  | succ k ih => rw [Nat.succ_mul, itf_add, hm, ih]

def Orb (f : Nat → Nat) (x y : Nat) : Prop := ∃ k, itf f k x = y

theorem orb_refl (f : Nat → Nat) (x : Nat) : Orb f x x := ⟨0, rfl⟩
theorem orb_trans {f : Nat → Nat} {x y z : Nat} (h : Orb f x y) (k : Orb f y z) : Orb f x z := by
  obtain ⟨a, rfl⟩ := h
  obtain ⟨b, rfl⟩ := k
  exact ⟨b + a, itf_add f b a x⟩
theorem orb_symm {n : Nat} {f : Nat → Nat} (h : Led n f) {x y : Nat} (hx : x < n) (k : Orb f x y) : Orb f y x := by
  obtain ⟨a, rfl⟩ := k
  obtain ⟨m, h1, _, h3⟩ := itf_back h hx
  refine ⟨a * m - a, ?_⟩
  have : a ≤ a * m := Nat.le_mul_of_pos_right a h1
  rw [← itf_add, Nat.sub_add_cancel this]
  exact itf_mul h3 a
theorem orb_lt {n : Nat} {f : Nat → Nat} (h : Led n f) {x y : Nat} (hx : x < n) (k : Orb f x y) : y < n := by
  obtain ⟨a, rfl⟩ := k
  exact itf_lt h hx a

theorem orb_few {n : Nat} {f : Nat → Nat} (h : Led n f) {x y : Nat} (hx : x < n) (k : Orb f x y) : ∃ a, a < n ∧ itf f a x = y := by
  obtain ⟨a, rfl⟩ := k
  obtain ⟨m, h1, h2, h3⟩ := itf_back h hx
  refine ⟨a % m, Nat.lt_of_lt_of_le (Nat.mod_lt _ h1) h2, ?_⟩
  conv => rhs; rw [← Nat.mod_add_div a m, Nat.mul_comm m, itf_add, itf_mul h3]

def metTo (f : Nat → Nat) (x : Nat) : Nat → Nat
  | 0 => 0
  | k + 1 => metTo f x k ||| 2 ^ itf f k x

theorem metTo_bit (f : Nat → Nat) (x k y : Nat) : (metTo f x k).testBit y = true ↔ ∃ j, j < k ∧ itf f j x = y := by
  induction k with
  | zero => simp [metTo]
  | succ k ih =>
    rw [metTo, Nat.testBit_or, Bool.or_eq_true, ih, Nat.testBit_two_pow]
    constructor
    · rintro (⟨j, h1, h2⟩ | h)
      · exact ⟨j, by omega, h2⟩
      · exact ⟨k, by omega, by simpa using h⟩
    · rintro ⟨j, h1, h2⟩
      by_cases hj : j = k
      · right; subst hj; simpa using h2
      · exact .inl ⟨j, by omega, h2⟩

theorem metTo_lt {n : Nat} {f : Nat → Nat} (h : Led n f) (hn : n ≤ 8) {x : Nat} (hx : x < n) (k : Nat) : metTo f x k < 256 := by
  induction k with
  | zero => exact Nat.zero_lt_succ _
  | succ k ih => exact or_lt _ ih _ (Nat.lt_of_lt_of_le (itf_lt h hx k) hn)

def ringM (f : Nat → Nat) (x : Nat) : Nat := metTo f x 8

theorem ringM_bit {n : Nat} {f : Nat → Nat} (h : Led n f) (hn : n ≤ 8) {x : Nat} (hx : x < n) (y : Nat) : (ringM f x).testBit y = true ↔ Orb f x y := by
  unfold ringM
  rw [metTo_bit]
  constructor
  · rintro ⟨j, _, h2⟩; exact ⟨j, h2⟩
  · intro k
    obtain ⟨a, h1, h2⟩ := orb_few h hx k
    exact ⟨a, by omega, h2⟩

theorem ringM_pat {n : Nat} {f : Nat → Nat} (h : Led n f) (hn : n ≤ 8) {x y : Nat} (hx : x < n) (hy : y < n) : ringM f x = ringM f y ↔ Orb f x y := by
  constructor
  · intro e
    have := (ringM_bit h hn hy y).2 (orb_refl f y)
    rw [← e] at this
    exact (ringM_bit h hn hx y).1 this
  · intro k
    apply Nat.eq_of_testBit_eq
    intro z
    have : (ringM f x).testBit z = true ↔ (ringM f y).testBit z = true := by
      rw [ringM_bit h hn hx, ringM_bit h hn hy]
      exact ⟨fun a => orb_trans (orb_symm h hx k) a, fun a => orb_trans k a⟩
    cases h1 : (ringM f x).testBit z <;> cases h2 : (ringM f y).testBit z <;> simp [h1, h2] at this ⊢

theorem metTo_done {n : Nat} {f : Nat → Nat} (h : Led n f) (hn : n ≤ 8) {x : Nat} (hx : x < n) {k : Nat} (hb : (metTo f x k).testBit (itf f k x) = true) : metTo f x k = ringM f x := by
  obtain ⟨j, h1, h2⟩ := (metTo_bit f x k _).1 hb
  have e : itf f (k - j) x = x := by
    have : itf f j x = itf f j (itf f (k - j) x) := by rw [← itf_add, show j + (k - j) = k by omega]; exact h2
    exact (itf_inj h hx (itf_lt h hx _) j this).symm
  apply Nat.eq_of_testBit_eq
  intro z
  have : (metTo f x k).testBit z = true ↔ (ringM f x).testBit z = true := by
    rw [ringM_bit h hn hx, metTo_bit]
    constructor
    · rintro ⟨j, _, h2⟩; exact ⟨j, h2⟩
    · rintro ⟨a, rfl⟩
      refine ⟨a % (k - j), Nat.lt_of_lt_of_le (Nat.mod_lt _ (by omega)) (Nat.sub_le _ _), ?_⟩
      conv => rhs; rw [← Nat.mod_add_div a (k - j), Nat.mul_comm (k - j), itf_add, itf_mul e]
  cases h1 : (metTo f x k).testBit z <;> cases h2 : (ringM f x).testBit z <;> simp [h1, h2] at this ⊢

theorem metTo_room {n : Nat} {f : Nat → Nat} (h : Led n f) {x : Nat} (hx : x < n) {k : Nat} (hk : k ≤ n) (hb : (metTo f x k).testBit (itf f k x) = false) : k < n := by
  refine Nat.lt_of_le_of_ne hk fun e => ?_
  obtain ⟨m, h1, h2, h3⟩ := itf_back h hx
  have : (metTo f x k).testBit (itf f k x) = true := by
    refine (metTo_bit f x k _).2 ⟨k - m, by omega, ?_⟩
    conv => rhs; rw [show k = (k - m) + m by omega, itf_add, h3]
  rw [hb] at this
  cases this

def leastTo (f : Nat → Nat) (x : Nat) : Nat → Nat
  | 0 => x
  | k + 1 => min (leastTo f x k) (itf f (k + 1) x)

theorem leastTo_le (f : Nat → Nat) (x k j : Nat) (h : j ≤ k) : leastTo f x k ≤ itf f j x := by
  induction k with
  | zero => obtain rfl : j = 0 := by omega
            exact Nat.le_refl _
  | succ k ih =>
    rw [leastTo]
    by_cases hj : j = k + 1
    · subst hj; exact Nat.min_le_right _ _
    · exact Nat.le_trans (Nat.min_le_left _ _) (ih (by omega))

theorem leastTo_orb (f : Nat → Nat) (x k : Nat) : Orb f x (leastTo f x k) := by
  induction k with
  | zero => exact orb_refl _ _
  | succ k ih =>
    rw [leastTo]
    by_cases h : leastTo f x k ≤ itf f (k + 1) x
    · rw [Nat.min_eq_left h]; exact ih
    · rw [Nat.min_eq_right (by omega)]; exact ⟨_, rfl⟩

theorem leastTo_lt {n : Nat} {f : Nat → Nat} (h : Led n f) {x : Nat} (hx : x < n) (k : Nat) : leastTo f x k < n := orb_lt h hx (leastTo_orb f x k)

def ringL (f : Nat → Nat) (x : Nat) : Nat := leastTo f x 8

theorem ringL_le {n : Nat} {f : Nat → Nat} (h : Led n f) (hn : n ≤ 8) {x y : Nat} (hx : x < n) (k : Orb f x y) : ringL f x ≤ y := by
  obtain ⟨a, h1, rfl⟩ := orb_few h hx k
  exact leastTo_le f x 8 a (by omega)

theorem ringL_pat {n : Nat} {f : Nat → Nat} (h : Led n f) (hn : n ≤ 8) {x y : Nat} (hx : x < n) (hy : y < n) : ringL f x = ringL f y ↔ Orb f x y := by
  have ox := leastTo_orb f x 8
  have oy := leastTo_orb f y 8
  constructor
  · intro e
    have oy' : Orb f y (leastTo f x 8) := by
      have : leastTo f x 8 = leastTo f y 8 := e
      rw [this]; exact oy
    exact orb_trans ox (orb_symm h hy oy')
  · intro k
    have a := ringL_le h hn hx (orb_trans k oy)
    have b := ringL_le h hn hy (orb_trans (orb_symm h hx k) ox)
    exact Nat.le_antisymm a b

theorem leastTo_done {n : Nat} {f : Nat → Nat} (h : Led n f) (hn : n ≤ 8) {x : Nat} (hx : x < n) {k : Nat} (e : itf f (k + 1) x = x) : leastTo f x k = ringL f x := by
  have o1 := leastTo_orb f x k
  have a := ringL_le h hn hx o1
  have o2 := leastTo_orb f x 8
  have b : leastTo f x k ≤ ringL f x := by
    obtain ⟨c, hc⟩ := o2
    show leastTo f x k ≤ leastTo f x 8
    rw [← hc]
    have : itf f c x = itf f (c % (k + 1)) x := by
      conv => lhs; rw [← Nat.mod_add_div c (k + 1), Nat.mul_comm (k + 1), itf_add, itf_mul e]
    rw [this]
    exact leastTo_le f x k _ (Nat.le_of_lt_succ (Nat.mod_lt c (Nat.succ_pos k)))
  exact Nat.le_antisymm b a

theorem leastTo_room {n : Nat} {f : Nat → Nat} (h : Led n f) {x : Nat} (hx : x < n) {k : Nat} (hno : ∀ j, 1 ≤ j → j ≤ k → itf f j x ≠ x) : k < n := by
  obtain ⟨m, h1, h2, h3⟩ := itf_back h hx
  exact Nat.lt_of_not_le fun hk => hno m h1 (by omega) h3

def ringMs (f : Nat → Nat) (n : Nat) : List Int := (List.range n).map fun x => (ringM f x : Int)
def ringLs (f : Nat → Nat) (n : Nat) : List Int := (List.range n).map fun x => (ringL f x : Int)

theorem ringMs_length (f : Nat → Nat) (n : Nat) : (ringMs f n).length = n := by simp [ringMs]
theorem ringLs_length (f : Nat → Nat) (n : Nat) : (ringLs f n).length = n := by simp [ringLs]
theorem ringMs_getD (f : Nat → Nat) (n k : Nat) (h : k < n) : (ringMs f n).getD k 0 = (ringM f k : Int) := by simp [ringMs, List.getD, h]
theorem ringLs_getD (f : Nat → Nat) (n k : Nat) (h : k < n) : (ringLs f n).getD k 0 = (ringL f k : Int) := by simp [ringLs, List.getD, h]

theorem rings_same {n : Nat} {f : Nat → Nat} (h : Led n f) (hn : n ≤ 8) : kOut (ringMs f n) = kOut (ringLs f n) := by
  refine (kOut_pat _ _ (by rw [ringMs_length, ringLs_length]) fun i j hi hj => ?_).1
  rw [ringLs_length] at hi hj
  rw [ringMs_getD _ _ _ hi, ringMs_getD _ _ _ hj, ringLs_getD _ _ _ hi, ringLs_getD _ _ _ hj, Int.ofNat_inj, Int.ofNat_inj, ringM_pat h hn hi hj, ringL_pat h hn hi hj]

theorem nameFrom_bits (n : Nat) : ∀ (xs : List Int) (s : Nat), nameFrom n s xs = true → (∀ j, j < xs.length → s.testBit (xs.getD j 0).toNat = false) ∧ ∀ i j, i < j → j < xs.length → (xs.getD i 0).toNat ≠ (xs.getD j 0).toNat := by
  intro xs
  induction xs with
  | nil => intro s _; exact ⟨fun j hj => by simp at hj, fun i j _ hj => by simp at hj⟩
  | cons x xs ih =>
    intro s h
    simp only [nameFrom, Bool.and_eq_true, decide_eq_true_eq, Bool.not_eq_true'] at h
    obtain ⟨⟨hx, hs⟩, hr⟩ := h
    obtain ⟨h1, h2⟩ := ih _ hr
    have h3 : ∀ j, j < xs.length → s.testBit (xs.getD j 0).toNat = false ∧ x.toNat ≠ (xs.getD j 0).toNat := by
      intro j hj
      have := h1 j hj
      rw [Nat.testBit_or, Bool.or_eq_false_iff, Nat.testBit_two_pow] at this
      exact ⟨this.1, by simpa using this.2⟩
    constructor
    · intro j hj
      cases j with
      | zero => simpa using hs
      | succ j => simpa using (h3 j (by simpa using hj)).1
    · intro i j hij hj
      cases j with
      | zero => omega
      | succ j =>
        cases i with
        | zero => simpa using (h3 j (by simpa using hj)).2
        | succ i => simpa using h2 i j (by omega) (by simpa using hj)

def nx (xs : List Int) (x : Nat) : Nat := (xs.getD x 0).toNat

theorem led_of_names {n : Nat} {xs : List Int} (h : namesOk n xs = true) : Led n (nx xs) := by
  simp only [namesOk, Bool.and_eq_true, decide_eq_true_eq] at h
  obtain ⟨hl, h⟩ := h
  have hr := nameFrom_range n xs 0 h
  have hb := (nameFrom_bits n xs 0 h).2
  refine ⟨fun x hx => ?_, fun x y hx hy e => ?_⟩
  · have := hr x (by omega)
    unfold nx
    omega
  · rcases Nat.lt_trichotomy x y with h1 | h1 | h1
    · exact absurd e (hb x y h1 (by omega))
    · exact h1
    · exact absurd e.symm (hb y x h1 (by omega))

def ringsOf (xs : List Int) : List Int := kOut (ringLs (nx xs) xs.length)

section
open Go.RowKit

theorem or_gt : ∀ b, b < 256 → ∀ t, t < 8 → b.testBit t = false → b < b ||| 2 ^ t := by decide +kernel

set_option maxHeartbeats 1600000 in
theorem ring_w (bb off n ca t : Nat) (xs : List Int) (w : World) (hn8 : n ≤ 8) (hN : namesOk n xs = true) (hc : ∀ j, j < n → w.cell? ⟨bb, off + j, none⟩ = some (.int .i64 (xs.getD j 0))) (ht : t < n) :
    Calls Tryz.prog 281 #[.agg #[.slice (some ⟨bb, off, none⟩) n ca], .int .i64 t] w fun e w' => e = .returned (.int .u64 (ringM (nx xs) t : Nat)) ∧ Below w.heap.size w w' := by
  have hL := led_of_names hN
  obtain ⟨f, hf⟩ : ∃ f, f = nx xs := ⟨_, rfl⟩
  have hcf : ∀ j, j < n → w.cell? ⟨bb, off + j, none⟩ = some (.int .i64 ((f j : Nat) : Int)) := by
    intro j hj
    have h1 := (namesOk_facts hN).2 j hj
    rw [hc j hj, hf]
    unfold nx
    rw [Int.toNat_of_nonneg h1.1]
  rw [← hf] at hL ⊢
  have HL := Lib.hid hL
  have HC := Lib.hid hcf
  clear hc hN hf hL hcf
  have hbw : Below w.heap.size w (w.alloc (.cells #[.slice (some ⟨bb, off, none⟩) n ca] 168)) := (Below.refl _ _).alloc (Nat.le_refl _) _
  have hg : (w.alloc (.cells #[.slice (some ⟨bb, off, none⟩) n ca] 168)).cell? ⟨w.heap.size, 0, none⟩ = some (.slice (some ⟨bb, off, none⟩) n ca) := by simp
  have hcb : ∀ j, j < n → (w.alloc (.cells #[.slice (some ⟨bb, off, none⟩) n ca] 168)).cell? ⟨bb, off + j, none⟩ = some (.int .i64 ((f j : Nat) : Int)) := by
    intro j hj
    have := HC.out j hj
    rw [hbw.cell (World.block_lt_of_cell? w _ this)]
    exact this
  have HCB := Lib.hid hcb
  have HB := Lib.hid hbw
  clear hcb hbw
  go_enter Tryz.func281, Tryz.ntmps281
  go_wp2
  go_loop [1, 5] (fun u m => ∃ k : Nat, k ≤ n ∧ u = .int .i64 ((itf f k t : Nat) : Int) ∧ m = .int .u64 ((metTo f t k : Nat) : Int)) (fun _ m => 256 - (intOf m).toNat)
  case atStart => exact ⟨0, Nat.zero_le _, rfl, rfl⟩
  case round =>
    obtain ⟨k, hk, rfl, rfl⟩ := hrel
    have hx := itf_lt HL.out ht k
    have hm := metTo_lt HL.out hn8 ht k
    cases hb : (metTo f t k).testBit (itf f k t)
    · have hroom := metTo_room HL.out ht hk hb
      have hgt := or_gt _ hm _ (by omega) hb
      have hnew := metTo_lt HL.out hn8 ht (k + 1)
      have e1 : metTo f t (k + 1) = metTo f t k ||| 2 ^ itf f k t := rfl
      have e2 : itf f (k + 1) t = f (itf f k t) := rfl
      have hcx := HCB.out (itf f k t) hx
      rw [← e2] at hcx
      rw [← e1] at hgt
      obtain ⟨x, hxe⟩ : ∃ x, x = itf f k t := ⟨_, rfl⟩
      obtain ⟨m, hme⟩ : ∃ m, m = metTo f t k := ⟨_, rfl⟩
      obtain ⟨y, hye⟩ : ∃ y, y = itf f (k + 1) t := ⟨_, rfl⟩
      obtain ⟨z, hze⟩ : ∃ z, z = metTo f t (k + 1) := ⟨_, rfl⟩
      rw [← hxe] at hx hb hcx e1
      rw [← hme] at hm hb hgt e1
      rw [← hye] at hcx
      rw [← hze] at hgt hnew e1
      rw [← hxe, ← hme]
      have HBB := Lib.hid hb
      have HE1 := Lib.hid e1
      have HYE := Lib.hid hye
      have HZE := Lib.hid hze
      clear hb e1 e2 hxe hme hye hze
      go_wp2_with fail
      refine (has_any m x _ hm (by omega)).mono ?_
      rintro e w' ⟨rfl, rfl⟩
      rw [HBB.out]
      go_wp2_with fail
      refine (with_any m x _ hm (by omega)).mono ?_
      rintro e w' ⟨rfl, rfl⟩
      go_wp2_with fail
      refine (next_w bb off n ca x y _ hcx hx (by omega)).mono ?_
      rintro e w' ⟨rfl, rfl⟩
      go_wp2
      go_round
      case rel => exact ⟨k + 1, by omega, by rw [HYE.out], by rw [← HE1.out, HZE.out]⟩
      case measure =>
        rw [← HE1.out]
        simp [intOf]
        omega
    · have hdone := metTo_done HL.out hn8 ht hb
      obtain ⟨x, hxe⟩ : ∃ x, x = itf f k t := ⟨_, rfl⟩
      obtain ⟨m, hme⟩ : ∃ m, m = metTo f t k := ⟨_, rfl⟩
      rw [← hxe] at hx hb
      rw [← hme] at hm hb hdone ⊢
      rw [← hxe]
      have HBB := Lib.hid hb
      have HD := Lib.hid hdone
      clear hb hdone hxe hme
      go_wp2_with fail
      refine (has_any m x _ hm (by omega)).mono ?_
      rintro e w' ⟨rfl, rfl⟩
      rw [HBB.out]
      go_wp2
      go_ret
      exact ⟨by rw [HD.out]; rfl, HB.out⟩

set_option maxHeartbeats 1600000 in
theorem rings_w (bb off n ca : Nat) (xs : List Int) (w : World) (hn1 : 1 ≤ n) (hn8 : n ≤ 8) (hN : namesOk n xs = true) (hc : ∀ j, j < n → w.cell? ⟨bb, off + j, none⟩ = some (.int .i64 (xs.getD j 0))) :
    Calls Tryz.prog 239 #[.agg #[.slice (some ⟨bb, off, none⟩) n ca]] w (FreshL w (ringsOf xs)) := by
  have hlen := (namesOk_facts hN).1
  have hL := led_of_names hN
  have he : ringsOf xs = kOut (ringMs (nx xs) n) := by rw [ringsOf, hlen, rings_same hL hn8]
  rw [he]
  have HC := Lib.hid hc
  have HN := Lib.hid hN
  have HL := Lib.hid hL
  clear he hlen hN hL hc
  have hbw : Below w.heap.size w (w.alloc (.cells #[.slice (some ⟨bb, off, none⟩) n ca] 168)) := (Below.refl _ _).alloc (Nat.le_refl _) _
  have hg : (w.alloc (.cells #[.slice (some ⟨bb, off, none⟩) n ca] 168)).cell? ⟨w.heap.size, 0, none⟩ = some (.slice (some ⟨bb, off, none⟩) n ca) := by simp
  have hsz : (w.alloc (.cells #[.slice (some ⟨bb, off, none⟩) n ca] 168)).heap.size = w.heap.size + 1 := by simp
  have HB := Lib.hid hbw
  have HG := Lib.hid hg
  have HSZ := Lib.hid hsz
  clear hbw hg hsz
  obtain ⟨i0, hi, hz0, hz1, hz2⟩ := info_parts Tryz.infoInt
  go_enter Tryz.func239, Tryz.ntmps239
  go_wp2_with (first | (go_at_call 280; refine (things_w _ _ _ _ (by omega)).mono ?_; rintro e w' ⟨rfl, rfl⟩) | (at_make; refine wpList_make_full _ rfl _ _ 26 rfl (w.heap.size + 1) 3 i0 (.int .i64 0) 1 Tryz.underlying26 hi hz0 hz1 _ _ _ _ n rfl rfl rfl rfl (by rw [hz2]; omega) (by unfold maxLen; omega) (by rw [HSZ.out]; exact Nat.le_refl _) ?_))
  intro w3 hown3 hgrow3
  obtain ⟨w1, hw1⟩ : ∃ w1, w1 = w.alloc (.cells #[.slice (some ⟨bb, off, none⟩) n ca] 168) := ⟨_, rfl⟩
  have hb0 := HB.out
  have hg0 := HG.out
  have hs0 := HSZ.out
  rw [← hw1] at hb0 hg0 hs0 hgrow3
  have hb5 : Below (w.heap.size + 1) w1 w3 := (Below.refl _ _).grown hgrow3 (by omega) (fun k h => by cases h)
  have hown := own_made hown3
  clear hown3 hgrow3 HB HG HSZ hs0 hw1
  have HB0 := Lib.hid hb0
  have HG0 := Lib.hid hg0
  clear hb0 hg0
  obtain ⟨m, hm⟩ : ∃ m, m = w.heap.size + 1 := ⟨_, rfl⟩
  obtain ⟨q1, hq1⟩ : ∃ q1, q1 = w.heap.size := ⟨_, rfl⟩
  rw [← hm] at hown hb5 ⊢
  have hqm : q1 < m := by omega
  have HM : Hid (m = w.heap.size + 1) := Lib.hid hm
  have HQ : Hid (q1 = w.heap.size) := Lib.hid hq1
  have HG1 : Hid (w1.cell? ⟨q1, 0, none⟩ = some (.slice (some ⟨bb, off, none⟩) n ca)) := Lib.hid (by rw [hq1]; exact HG0.out)
  clear HG0 hm
  rw [← hq1]
  clear hq1
  go_wp2
  go_loopw [11] (fun i wr => ∃ k : Nat, k ≤ n ∧ i = .int .i64 k ∧ Own wr m (.slice (some ⟨m, 0, none⟩) n n) ((ringMs (nx xs) n).take k ++ List.replicate (n - k) 0) ∧ Below m w1 wr)
    (fun i _ => n - (intOf i).toNat)
  case atStart => exact ⟨0, Nat.zero_le _, rfl, by simpa using hown, hb5⟩
  case round =>
    obtain ⟨k, hk, rfl, hown, hbel⟩ := hrel
    have hbelw : Below w.heap.size w wr := HB0.out.trans (hbel.mono (by have := HM.out; omega))
    by_cases hlt : k < n
    · have hcw : ∀ j, j < n → wr.cell? ⟨bb, off + j, none⟩ = some (.int .i64 (xs.getD j 0)) := fun j hj => by
        have := HC.out j hj
        rw [hbelw.cell (World.block_lt_of_cell? w _ this)]
        exact this
      have hgr : wr.cell? ⟨q1, 0, none⟩ = some (.slice (some ⟨bb, off, none⟩) n ca) := by
        rw [hbel.cell (by simpa using hqm)]; exact HG1.out
      have HCW := Lib.hid hcw
      have HO := Lib.hid hown
      have hmw : m ≤ wr.heap.size := by have := (yZz hown m rfl).2; omega
      clear hcw hown
      go_wp2_with fail
      refine (ring_w bb off n ca k xs _ hn8 HN.out HCW.out hlt).mono ?_
      rintro e w4 ⟨rfl, hb⟩
      have hr8 : ringM (nx xs) k < 256 := metTo_lt HL.out hn8 hlt 8
      have hown4 := own_below HO.out hb
      have hbel4 : Below m w1 w4 := hbel.trans (hb.mono hmw)
      obtain ⟨x, hx⟩ : ∃ x, x = ringM (nx xs) k := ⟨_, rfl⟩
      rw [← hx] at hr8 ⊢
      have hll : n = ((ringMs (nx xs) n).take k ++ List.replicate (n - k) 0).length := by simp [ringMs_length]; omega
      have hfz := ytz hown4 k
      obtain ⟨v0, hv0⟩ : ∃ v0, w4.cell? ⟨m, k, none⟩ = some v0 := ⟨_, yWz hown4 k (by omega)⟩
      obtain ⟨hst, hgst⟩ := yqz hown4 hll k x
      have hst' : Own (w4.setCell ⟨m, k, none⟩ (.int .i64 x)) m (.slice (some ⟨m, 0, none⟩) n n) ((ringMs (nx xs) n).take (k + 1) ++ List.replicate (n - (k + 1)) 0) := by
        have hse := set_stage (ringMs (nx xs) n) k (by rw [ringMs_length]; omega) (x : Int) (by rw [ringMs_getD _ _ _ hlt, hx])
        rw [ringMs_length] at hse
        rw [← hse]
        exact hst
      have HST := Lib.hid hst'
      clear hst hgst hst' hx hown4 hll hgr
      go_wp2
      go_roundw
      case rel => exact ⟨k + 1, by omega, by go_num, HST.out, hbel4.setCell (Nat.le_refl _) _⟩
      case measure => simp [intOf]; omega
    · have hkn : k = n := by omega
      subst hkn
      rw [show (ringMs (nx xs) k).take k ++ List.replicate (k - k) 0 = ringMs (nx xs) k by
        rw [Nat.sub_self, List.replicate_zero, List.append_nil]
        exact List.take_of_length_le (by rw [ringMs_length]; exact Nat.le_refl _)] at hown
      have hrd := yJz hown
      have HRD := Lib.hid hrd
      have hmw : w.heap.size ≤ m := by have := HM.out; omega
      clear hown hrd
      go_wp2_with fail
      refine (kernel_v _ _ _ HRD.out (by rw [ringMs_length]; omega)).mono ?_
      rintro e w5 ⟨u, rfl, ho, hb2⟩
      go_wp2
      go_ret
      exact ⟨_, rfl, yMz ho hbelw.size, yAz hbelw hb2⟩

def ringPart (xs : List Int) : List Int × Bool := if ringIn xs then (ringsOf xs, true) else ([], false)

set_option maxHeartbeats 1600000 in
theorem iRingPart_v (v : Value) (xs : List Int) (w : World) (hE : ErrAt w) (hv : RdV w v xs) : Calls Tryz.prog 188 #[v] w (FreshLB w (ringPart xs)) := by
  have hv0 := hv
  obtain ⟨ao, ca, rfl, h, h1, h2⟩ := hv
  unfold maxLen at h2
  have HV := Lib.hid hv0
  clear hv0
  by_cases hr : ringIn xs = true
  · have he : ringPart xs = (ringsOf xs, true) := by simp [ringPart, hr]
    rw [he]
    have HR := Lib.hid (show permOk xs.length xs = true from hr)
    obtain ⟨hl1, hl8, hN, _, _⟩ := permOk_facts HR.out
    rcases h with hx | ⟨bb, off, rfl, hcx⟩
    · rw [hx] at hl1
      simp at hl1
    obtain ⟨n, hn⟩ : ∃ n, n = xs.length := ⟨_, rfl⟩
    rw [← hn] at h1 hl1 hl8 HV HR hN ⊢
    have HNN := Lib.hid hN
    have HN := Lib.hid hn
    have HC := Lib.hid hcx
    clear hr he hn hcx hN
    go_enter Tryz.func188, Tryz.ntmps188
    go_wp2_with fail
    refine (toPerm_yes _ _ _ _ xs _ HV.out HR).mono ?_
    rintro e w1 ⟨rfl, hb⟩
    have hb2 := hb.alloc hb.size (.cells #[.slice (some ⟨bb, off, none⟩) n ca] 168)
    have hg1 : (w1.alloc (.cells #[.slice (some ⟨bb, off, none⟩) n ca] 168)).cell? ⟨w1.heap.size, 0, none⟩ = some (.slice (some ⟨bb, off, none⟩) n ca) := by simp
    have hs1 : w.heap.size ≤ w1.heap.size := hb.size
    go_wp2_with fail
    refine (isNone_nil _).mono ?_
    rintro e w2 ⟨rfl, hb3⟩
    have hb4 := yAz hb2 hb3
    have hg2 : w2.cell? ⟨w1.heap.size, 0, none⟩ = some (.slice (some ⟨bb, off, none⟩) n ca) := by
      rw [hb3.cell (World.block_lt_of_cell? _ _ hg1)]; exact hg1
    have hs2 : w1.heap.size < w2.heap.size := by
      have := World.block_lt_of_cell? _ _ hg2
      simpa using this
    clear hb hb2 hb3 hg1
    obtain ⟨q1, hq1⟩ : ∃ q1, q1 = w1.heap.size := ⟨_, rfl⟩
    rw [← hq1] at hg2 hs1 hs2 ⊢
    clear hq1
    have HG2 := Lib.hid hg2
    go_wp2_with fail
    refine (rings_w bb off n ca xs _ hl1 hl8 HNN.out (fun j hj => by
      have := HC.out j (by have := HN.out; omega)
      rw [hb4.cell (World.block_lt_of_cell? w _ this)]; exact this)).mono ?_
    rintro e w3 ⟨u, rfl, ho, hb5⟩
    go_wp2
    go_ret2
    exact ⟨_, rfl, yMz ho hb4.size, yAz hb4 hb5⟩
  · have hr : ringIn xs = false := by simpa using hr
    have he : ringPart xs = ([], false) := by simp [ringPart, hr]
    rw [he]
    have HR := Lib.hid (show permOk xs.length xs = false from hr)
    clear hr he h
    go_enter Tryz.func188, Tryz.ntmps188
    go_wp2_with fail
    refine (toPerm_no _ _ _ _ xs _ (by omega) HV.out HR).mono ?_
    rintro e w1 ⟨rfl, hb⟩
    have hb2 := hb.alloc hb.size (.cells #[.slice none 0 0] 168)
    go_wp2_with fail
    refine (isNone_hit _ _ (errAt_below hE hb2)).mono ?_
    rintro e w2 ⟨rfl, hb3⟩
    have hb4 := yAz hb2 hb3
    go_wp2
    go_ret2
    exact ⟨_, rfl, own_nil _ _, hb4⟩

def left (f : Nat → Nat) (i : Nat) : Nat → Nat → Nat
  | 0, _ => 0
  | N + 1, x => if x = i then 0 else 1 + left f i N (f x)

theorem left_stable (f : Nat → Nat) (i : Nat) : ∀ N x m, m ≤ N → itf f m x = i → left f i (N + 1) x = left f i N x := by
  intro N
  induction N with
  | zero =>
    intro x m hm e
    obtain rfl : m = 0 := by omega
    have : x = i := e
    simp [left, this]
  | succ N ih =>
    intro x m hm e
    by_cases hx : x = i
    · simp [left, hx]
    · cases m with
      | zero => exact absurd e hx
      | succ m =>
        have e' : itf f m (f x) = i := by
          have := itf_add f m 1 x
          rw [e] at this
          exact this.symm
        have := ih (f x) m (by omega) e'
        rw [left, if_neg hx, this]
        conv => rhs; rw [left, if_neg hx]

theorem left_less {f : Nat → Nat} {i x m : Nat} (hm : m ≤ 8) (e : itf f m x = i) (hx : x ≠ i) : left f i 9 (f x) < left f i 9 x := by
  cases m with
  | zero => exact absurd e hx
  | succ m =>
    have e' : itf f m (f x) = i := by
      have := itf_add f m 1 x
      rw [e] at this
      exact this.symm
    have h1 : left f i 9 (f x) = left f i 8 (f x) := left_stable f i 8 (f x) m (by omega) e'
    have h2 : left f i 9 x = 1 + left f i 8 (f x) := by rw [left, if_neg hx]
    omega

set_option maxHeartbeats 3200000 in
theorem l6rPart_w (bb off n ca : Nat) (xs : List Int) (w : World) (hn1 : 1 ≤ n) (hn8 : n ≤ 8) (hN : namesOk n xs = true) (hc : ∀ j, j < n → w.cell? ⟨bb, off + j, none⟩ = some (.int .i64 (xs.getD j 0))) :
    Calls Tryz.prog 161 #[.slice (some ⟨bb, off, none⟩) n ca] w (FreshL w (ringsOf xs)) := by
  have hlen := (namesOk_facts hN).1
  have hL := led_of_names hN
  have he : ringsOf xs = kOut (ringLs (nx xs) n) := by rw [ringsOf, hlen]
  rw [he]
  obtain ⟨f, hf⟩ : ∃ f, f = nx xs := ⟨_, rfl⟩
  have hcf : ∀ j, j < n → w.cell? ⟨bb, off + j, none⟩ = some (.int .i64 ((f j : Nat) : Int)) := by
    intro j hj
    have h1 := (namesOk_facts hN).2 j hj
    rw [hc j hj, hf]
    unfold nx
    rw [Int.toNat_of_nonneg h1.1]
  rw [← hf] at hL ⊢
  have HL := Lib.hid hL
  have HC := Lib.hid hcf
  clear hc hN hf hL hcf he hlen
  go_enter Tryz.func161, Tryz.ntmps161
  go_wp2
  go_loopw [3, 4] (fun u i wr => ∃ k g cap : Nat, k ≤ n ∧ i = .int .i64 k ∧ u = .slice (some ⟨g, 0, none⟩) k cap ∧ Own wr w.heap.size (.slice (some ⟨g, 0, none⟩) k cap) ((ringLs f n).take k) ∧ Below w.heap.size w wr)
    (fun _ i _ => n - (intOf i).toNat)
  case atStart => exact ⟨0, w.heap.size, 0, Nat.zero_le _, rfl, rfl, yPz w _ (Nat.le_refl _), (Below.refl _ _).alloc (Nat.le_refl _) _⟩
  case round =>
    obtain ⟨k, g, cap, hk, rfl, rfl, hown, hbel⟩ := hrel
    by_cases hlt : k < n
    · obtain ⟨w0, hw0⟩ : ∃ w0 : World, w0 = wr := ⟨_, rfl⟩
      subst hw0
      have hcw : ∀ j, j < n → w0.cell? ⟨bb, off + j, none⟩ = some (.int .i64 ((f j : Nat) : Int)) := fun j hj => by
        have := HC.out j hj
        rw [hbel.cell (World.block_lt_of_cell? w _ this)]
        exact this
      have HCW := Lib.hid hcw
      have hck := hcw k hlt
      have HO := Lib.hid hown
      have hB := hbel.size
      have hkl : k = ((ringLs f n).take k).length := by rw [List.length_take, ringLs_length]; omega
      have HKL := Lib.hid hkl
      have hts := yYz (ringLs f n) k (by rw [ringLs_length]; omega)
      rw [ringLs_getD _ _ _ hlt] at hts
      have HTS := Lib.hid hts
      clear hcw hown hkl hts
      go_wp2
      go_loopw [5, 6] (fun l x wr => ∃ j : Nat, l = .int .i64 ((leastTo f k j : Nat) : Int) ∧ x = .int .i64 ((itf f (j + 1) k : Nat) : Int) ∧ (∀ a, 1 ≤ a → a ≤ j → itf f a k ≠ k) ∧ wr = w0)
        (fun _ x _ => left f k 9 (intOf x).toNat)
      case atStart => exact ⟨0, rfl, rfl, fun a h1 h2 => by omega, rfl⟩
      case round =>
        obtain ⟨j, rfl, rfl, hno, rfl⟩ := hrel
        have HNO := Lib.hid hno
        have hroom := leastTo_room HL.out hlt hno
        clear hno
        have hx := itf_lt HL.out hlt (j + 1)
        have hl := leastTo_lt HL.out hlt j
        have hmin : leastTo f k (j + 1) = min (leastTo f k j) (itf f (j + 1) k) := rfl
        have hnx : itf f (j + 1 + 1) k = f (itf f (j + 1) k) := rfl
        have hcx := HCW.out _ hx
        rw [← hnx] at hcx
        by_cases hret : itf f (j + 1) k = k
        · have hd := leastTo_done HL.out hn8 hlt hret
          rw [hret, hd]
          have HRL : ringL f k < n := leastTo_lt HL.out hlt 8
          obtain ⟨y, hy⟩ : ∃ y, y = ringL f k := ⟨_, rfl⟩
          rw [← hy]
          have HY := Lib.hid hy
          clear hd hy hret hcx hmin hnx hx hl hroom HRL
          go_wp2_with (at_builtin; refine ysz rfl _ _ rfl w.heap.size g k cap ((ringLs f n).take k) rfl (yQz HO.out _) HKL.out ⟨wr.heap.size, 0, none⟩ rfl (y : Int) (yXz _ _ _) (by omega) (by simp; omega) ?_)
          intro g' cap' w2 hown2 hgr2 hg2
          have hbel2 : Below w.heap.size w w2 := (hbel.alloc hB _).grown hgr2 (by simp; omega) (fun q hq => by cases hq; exact (yZz HO.out g rfl).1)
          have HO2 := Lib.hid hown2
          clear hown2 hgr2 hg2
          go_wp2
          go_roundw
          case rel => exact ⟨k + 1, g', cap', by omega, by go_num, rfl, by rw [HTS.out, ← HY.out]; exact HO2.out, hbel2⟩
          case measure => simp [intOf]; omega
        · obtain ⟨m, h1, h2, h3⟩ := itf_back HL.out hlt
          have hjm : j + 1 < m := by
            refine Nat.lt_of_not_le fun hle => ?_
            rcases Nat.lt_or_ge j m with hjm | hjm
            · obtain rfl : m = j + 1 := by omega
              exact hret h3
            · exact HNO.out m h1 hjm h3
          have hless := left_less (f := f) (i := k) (x := itf f (j + 1) k) (m := m - (j + 1)) (by omega) (by rw [← itf_add, Nat.sub_add_cancel (by omega)]; exact h3) hret
          rw [← hnx] at hless
          have hno2 : ∀ a, 1 ≤ a → a ≤ j + 1 → itf f a k ≠ k := by
            intro a ha1 ha2
            by_cases ha : a = j + 1
            · rw [ha]; exact hret
            · exact HNO.out a ha1 (by omega)
          have HNO2 := Lib.hid hno2
          obtain ⟨x, hxe⟩ : ∃ x, x = itf f (j + 1) k := ⟨_, rfl⟩
          obtain ⟨y, hye⟩ : ∃ y, y = itf f (j + 1 + 1) k := ⟨_, rfl⟩
          obtain ⟨l, hle⟩ : ∃ l, l = leastTo f k j := ⟨_, rfl⟩
          obtain ⟨p, hpe⟩ : ∃ p, p = leastTo f k (j + 1) := ⟨_, rfl⟩
          rw [← hxe] at hx hcx hret hmin hless ⊢
          rw [← hye] at hcx hless
          rw [← hle] at hl hmin ⊢
          rw [← hpe] at hmin
          have HLESS := Lib.hid hless
          have HYE := Lib.hid hye
          have HPE := Lib.hid hpe
          have HMIN : Hid ((p : Int) = min (l : Int) (x : Int)) := Lib.hid (by omega)
          have hb0 : ((x : Int) != (k : Int)) = true := by simp; omega
          have hb1 : ((x : Int) == (k : Int)) = false := by simp; omega
          clear hno2 hnx hxe hye hle hpe hmin hret hless hjm h1 h2 h3
          go_wp2
          go_roundw
          case rel => exact ⟨j + 1, by (rw [← HPE.out, HMIN.out]) <;> (first | rfl | (congr 1 <;> split <;> omega)), by rw [HYE.out], HNO2.out, by first | rfl | trivial⟩
          case measure => simpa [intOf] using HLESS.out
    · have hkn : k = n := by omega
      subst hkn
      rw [show (ringLs f k).take k = ringLs f k from List.take_of_length_le (by rw [ringLs_length]; exact Nat.le_refl _)] at hown
      have hrd := yJz hown
      have HRD := Lib.hid hrd
      clear hown hrd
      go_wp2_with fail
      refine (l1Kernel_v _ _ _ HRD.out (by rw [ringLs_length]; omega)).mono ?_
      rintro e w5 ⟨u, rfl, ho, hb2⟩
      go_wp2
      go_ret
      exact ⟨_, rfl, yMz ho hbel.size, yAz hbel hb2⟩

theorem sRingPart_v (v : Value) (xs : List Int) (w : World) (hv : RdV w v xs) : Calls Tryz.prog 84 #[v] w (FreshLB w (ringPart xs)) := by
  have hv0 := hv
  obtain ⟨ao, ca, rfl, h, h1, h2⟩ := hv
  unfold maxLen at h2
  have HV := Lib.hid hv0
  clear hv0
  by_cases hr : ringIn xs = true
  · have he : ringPart xs = (ringsOf xs, true) := by simp [ringPart, hr]
    rw [he]
    have HR := Lib.hid hr
    obtain ⟨hl1, hl8, hN, _, _⟩ := permOk_facts (show permOk xs.length xs = true from hr)
    rcases h with hx | ⟨bb, off, rfl, hcx⟩
    · rw [hx] at hl1
      simp at hl1
    obtain ⟨n, hn⟩ : ∃ n, n = xs.length := ⟨_, rfl⟩
    rw [← hn] at h1 hl1 hl8 HV hN ⊢
    have HNN := Lib.hid hN
    have HN := Lib.hid hn
    have HC := Lib.hid hcx
    clear hr he hn hcx hN
    go_enter Tryz.func84, Tryz.ntmps84
    go_wp2_with fail
    refine (sRingIn_is true _ xs _ HV.out HR).mono ?_
    rintro e w1 ⟨rfl, rfl⟩
    go_wp2_with fail
    refine (l6rPart_w bb off n ca xs _ hl1 hl8 HNN.out (fun j hj => HC.out j (by have := HN.out; omega))).mono ?_
    rintro e w3 ⟨u, rfl, ho, hb5⟩
    go_wp2
    go_ret2
    exact ⟨_, rfl, ho, hb5⟩
  · have hr : ringIn xs = false := by simpa using hr
    have he : ringPart xs = ([], false) := by simp [ringPart, hr]
    rw [he]
    have HR := Lib.hid hr
    clear hr he h
    go_enter Tryz.func84, Tryz.ntmps84
    go_wp2_with fail
    refine (sRingIn_is false _ xs _ HV.out HR).mono ?_
    rintro e w1 ⟨rfl, rfl⟩
    go_wp2
    go_ret2
    exact ⟨_, rfl, yPz _ _ (Nat.le_refl _), (Below.refl _ _).alloc (Nat.le_refl _) _⟩
end

theorem mem_part {xs : List Int} (h : partIn xs = true) (v : Int) : v ∈ xs ↔ 0 ≤ v ∧ v < pSize xs := by
  have e := (kOut_of_ok xs (yrz h)).1
  have h1 := kOut_all xs v
  have h2 := pSize_kOut xs
  rw [e] at h1 h2
  rw [h1, h2]

def under (xs ys : List Int) (y v : Nat) : Bool := decide (ys.getD (xs.idxOf (v : Int)) 0 = (y : Int))
def innerTo (xs ys : List Int) (q k : Nat) : List Int := (List.range q).map fun y => (((List.range k).filter (under xs ys y)).length : Int)
def inner (xs ys : List Int) : List Int := innerTo xs ys (pSize ys).toNat (pSize xs).toNat

theorem innerTo_length (xs ys : List Int) (q k : Nat) : (innerTo xs ys q k).length = q := by simp [innerTo]
theorem inner_length (xs ys : List Int) : (inner xs ys).length = (pSize ys).toNat := innerTo_length _ _ _ _
theorem innerTo_zero (xs ys : List Int) (q : Nat) : innerTo xs ys q 0 = List.replicate q 0 := by
  apply List.ext_getElem <;> simp [innerTo]
theorem innerTo_getD (xs ys : List Int) (q k y : Nat) (h : y < q) : (innerTo xs ys q k).getD y 0 = (((List.range k).filter (under xs ys y)).length : Int) := by
  simp [innerTo, List.getD, h]
theorem under_len_succ (xs ys : List Int) (y k : Nat) : ((List.range (k + 1)).filter (under xs ys y)).length = ((List.range k).filter (under xs ys y)).length + if ys.getD (xs.idxOf (k : Int)) 0 = (y : Int) then 1 else 0 := by
  rw [List.range_succ, List.filter_append, List.length_append]
  congr 1
  by_cases h : ys.getD (xs.idxOf (k : Int)) 0 = (y : Int)
  · have hu : under xs ys y k = true := decide_eq_true h
    rw [if_pos h]
    simp [List.filter, hu]
  · have hu : under xs ys y k = false := decide_eq_false h
    rw [if_neg h]
    simp [List.filter, hu]

theorem innerTo_step (xs ys : List Int) (q k z : Nat) (hz : z < q) (h : ys.getD (xs.idxOf (k : Int)) 0 = (z : Int)) : (innerTo xs ys q k).set z ((innerTo xs ys q k).getD z 0 + 1) = innerTo xs ys q (k + 1) := by
  apply List.ext_getElem
  · simp [innerTo_length]
  · intro j h1 h2
    simp [innerTo_length] at h1 h2
    rw [List.getElem_set]
    by_cases e : z = j
    · subst e
      rw [if_pos rfl, innerTo_getD _ _ _ _ _ hz]
      simp only [innerTo, List.getElem_map, List.getElem_range, under_len_succ, if_pos h]
      omega
    · rw [if_neg e]
      have : ¬ ys.getD (xs.idxOf (k : Int)) 0 = (j : Int) := by omega
      simp only [innerTo, List.getElem_map, List.getElem_range, under_len_succ, if_neg this]
      omega

theorem innerTo_bd (xs ys : List Int) (q k y : Nat) (h : y < q) : 0 ≤ (innerTo xs ys q k).getD y 0 ∧ (innerTo xs ys q k).getD y 0 ≤ k := by
  rw [innerTo_getD _ _ _ _ _ h]
  have := List.length_filter_le (under xs ys y) (List.range k)
  rw [List.length_range] at this
  omega

def overL (xs : List Int) (L : List Int) : Nat := L.foldl (fun s t => s ||| 2 ^ (xs.getD t.toNat 0).toNat) 0

theorem overL_snoc (xs L : List Int) (t : Int) : overL xs (L ++ [t]) = overL xs L ||| 2 ^ (xs.getD t.toNat 0).toNat := by simp [overL, List.foldl_append]

def ThingsOf (xs L : List Int) : Prop := ∀ t ∈ L, 0 ≤ t ∧ t.toNat < xs.length

theorem overL_bit (xs : List Int) (v : Nat) : ∀ L, (overL xs L).testBit v = true ↔ ∃ t ∈ L, (xs.getD t.toNat 0).toNat = v := by
  refine ydz (by simp [overL]) fun L t ih => ?_
  rw [overL_snoc, Nat.testBit_or, Nat.testBit_two_pow]
  simp only [Bool.or_eq_true, ih, decide_eq_true_eq, List.mem_append, List.mem_singleton]
  constructor
  · rintro (⟨u, hu, e⟩ | e)
    · exact ⟨u, .inl hu, e⟩
    · exact ⟨t, .inr rfl, e⟩
  · rintro ⟨u, hu | rfl, e⟩
    · exact .inl ⟨u, hu, e⟩
    · exact .inr e

theorem mem_blkAt (xs : List Int) (b : Nat) (t : Int) : ∀ k, t ∈ blkAt xs b k ↔ ∃ i, i < k ∧ t = (i : Int) ∧ xs.getD i 0 = (b : Int) := by
  intro k
  induction k with
  | zero => simp [blkAt]
  | succ k ih =>
    unfold blkAt
    split
    · rename_i hk
      rw [List.mem_append, ih, List.mem_singleton]
      constructor
      · rintro (⟨i, h1, h2⟩ | h)
        · exact ⟨i, by omega, h2⟩
        · exact ⟨k, by omega, h, hk⟩
      · rintro ⟨i, h1, h2, h3⟩
        by_cases e : i = k
        · subst e; exact .inr h2
        · exact .inl ⟨i, by omega, h2, h3⟩
    · rename_i hk
      rw [ih]
      constructor
      · rintro ⟨i, h1, h2⟩
        exact ⟨i, by omega, h2⟩
      · rintro ⟨i, h1, h2, h3⟩
        by_cases e : i = k
        · subst e; exact absurd h3 hk
        · exact ⟨i, by omega, h2, h3⟩

theorem blkAt_things (xs ys : List Int) (b : Nat) (hl : ys.length = xs.length) : ThingsOf xs (blkAt ys b ys.length) := fun t ht => by
  obtain ⟨i, h1, rfl, _⟩ := (mem_blkAt ys b t _).1 ht
  rw [Int.toNat_natCast]
  omega

theorem filter_range_le (p n : Nat) (h : p ≤ n) (f g : Nat → Bool) (h1 : ∀ v, v < p → f v = g v) (h2 : ∀ v, p ≤ v → f v = false) : (List.range n).filter f = (List.range p).filter g := by
  obtain ⟨d, rfl⟩ : ∃ d, n = p + d := ⟨n - p, by omega⟩
  rw [List.range_add, List.filter_append]
  have e1 : (List.range p).filter f = (List.range p).filter g := by
    apply List.filter_congr
    intro v hv
    exact h1 v (by simpa using hv)
  have e2 : ((List.range d).map (p + ·)).filter f = [] := by
    rw [List.filter_eq_nil_iff]
    intro v hv
    obtain ⟨u, _, rfl⟩ := List.mem_map.1 hv
    rw [h2 _ (by omega)]
    simp
  rw [e1, e2, List.append_nil]

theorem cnt_over {xs ys : List Int} (hx : partIn xs = true) (hl : ys.length = xs.length) (hf : finerB xs ys = true) (y p : Nat) (hp : pSize xs = p) :
    cnt (overL xs (blkAt ys y ys.length)) = ((List.range p).filter (under xs ys y)).length := by
  have hsm := yBz hx
  have hbd := yGz hsm
  unfold cnt
  rw [filter_range_le p 8 (by omega) _ (under xs ys y)]
  · intro v hv
    have hm : (v : Int) ∈ xs := (mem_part hx v).2 (by omega)
    have hi := List.idxOf_lt_length_of_mem hm
    have hg := getD_idxOf hm
    rw [Bool.eq_iff_iff, overL_bit]
    simp only [under, decide_eq_true_eq]
    constructor
    · rintro ⟨t, ht, e⟩
      obtain ⟨i, h1, rfl, h3⟩ := (mem_blkAt ys y t _).1 ht
      rw [Int.toNat_natCast] at e
      have h0 := (hsm i (by omega)).1
      rw [← h3]
      exact finer_iff.1 hf _ _ hi (by omega) (by rw [hg]; omega)
    · intro e
      refine ⟨_, (mem_blkAt ys y _ _).2 ⟨xs.idxOf (v : Int), by omega, rfl, e⟩, ?_⟩
      rw [Int.toNat_natCast, hg, Int.toNat_natCast]
  · intro v hv
    cases h : (overL xs (blkAt ys y ys.length)).testBit v
    · rfl
    · obtain ⟨t, ht, e⟩ := (overL_bit xs v _).1 h
      obtain ⟨h1, h2⟩ := blkAt_things xs ys y hl t ht
      have := lt_pSize xs _ h2
      have := (hsm _ h2).1
      omega

theorem inner_get {xs ys : List Int} (hx : partIn xs = true) (hl : ys.length = xs.length) (hf : finerB xs ys = true) (y q : Nat) (hq : pSize ys = q) (hy : y < q) :
    (inner xs ys).getD y 0 = (cnt (overL xs (blkAt ys y ys.length)) : Int) := by
  have hbd := yGz (yBz hx)
  obtain ⟨p, hp⟩ := Int.eq_ofNat_of_zero_le hbd.1
  rw [cnt_over hx hl hf y p hp]
  unfold inner
  rw [hp, hq, Int.toNat_natCast, Int.toNat_natCast, innerTo_getD _ _ _ _ _ hy]

theorem or_same : ∀ b, b < 256 → ∀ t, t < 8 → b.testBit t = true → b ||| 2 ^ t = b := by decide +kernel

section
open Go.RowKit

set_option maxHeartbeats 1600000 in
theorem countsWithin_v (v u : Value) (xs ys : List Int) (w : World) (hv : RdV w v xs) (hu : RdV w u ys) (hx : partIn xs = true) (hy : partIn ys = true) (hl : ys.length = xs.length) :
    Calls Tryz.prog 241 #[v, u] w (FreshL w (inner xs ys)) := by
  have HV := Lib.hid hv
  have HU := Lib.hid hu
  obtain ⟨hl1, hl8⟩ := yCz hx
  have HSX := Lib.hid (yBz hx)
  have HSY := Lib.hid (yBz hy)
  have hbx := yGz HSX.out
  have hby := yGz HSY.out
  obtain ⟨p, hp⟩ := Int.eq_ofNat_of_zero_le hbx.1
  obtain ⟨q, hq⟩ := Int.eq_ofNat_of_zero_le hby.1
  have hr : inner xs ys = innerTo xs ys q p := by unfold inner; rw [hp, hq, Int.toNat_natCast, Int.toNat_natCast]
  rw [hr]
  rw [hp] at hbx
  rw [hq] at hby
  have HP := Lib.hid hp
  have HQ := Lib.hid hq
  have HX := Lib.hid hx
  obtain ⟨bx, ox, cx, rfl, hcx, hbx', hcx1, hcx2⟩ := ymz hv hl1
  obtain ⟨by', oy, cy, rfl, hcy, hby', hcy1, hcy2⟩ := ymz hu (by omega)
  obtain ⟨n, hn⟩ : ∃ n, n = xs.length := ⟨_, rfl⟩
  have HN := Lib.hid hn
  have HLY := Lib.hid hl
  rw [hl] at HU ⊢
  rw [← hn] at HV HU hl1 hl8 HLY ⊢
  obtain ⟨i0, hi, hz0, hz1, hz2⟩ := info_parts Tryz.infoInt
  clear hr hv hu hn hl hx hy hp hq hcx1 hcx2 hcy1 hcy2
  go_enter Tryz.func241, Tryz.ntmps241
  go_wp2_with fail
  refine (blockCount_v _ ys _ HU.out (by rw [HLY.out]; exact hl1) HSY.out).mono ?_
  rintro e w' ⟨rfl, rfl⟩
  rw [HQ.out]
  go_wp2_with (at_make; refine wpList_make_full _ rfl _ _ 26 rfl w.heap.size 3 i0 (.int .i64 0) 1 Tryz.underlying26 hi hz0 hz1 _ _ _ _ q rfl rfl rfl rfl (by rw [hz2]; omega) (by unfold maxLen; omega) (Nat.le_refl _) ?_)
  intro w1 hown1 hgrow1
  have hb1 : Below w.heap.size w w1 := (Below.refl _ _).grown hgrow1 (Nat.le_refl _) (fun k h => by cases h)
  have hown := own_made hown1
  clear hown1 hgrow1
  go_wp2_with fail
  refine (blockCount_v _ xs _ (yDz HV.out hb1) (by rw [← HN.out]; exact hl1) HSX.out).mono ?_
  rintro e w' ⟨rfl, rfl⟩
  rw [HP.out]
  go_wp2
  go_loopw [12] (fun i wr => ∃ k : Nat, k ≤ p ∧ i = .int .i64 k ∧ Own wr w.heap.size (.slice (some ⟨w.heap.size, 0, none⟩) q q) (innerTo xs ys q k) ∧ Below w.heap.size w wr) (fun i _ => p - (intOf i).toNat)
  case atStart => exact ⟨0, Nat.zero_le _, rfl, by rw [innerTo_zero]; exact hown, hb1⟩
  case round =>
    obtain ⟨k, hk, rfl, hown, hbel⟩ := hrel
    by_cases hlt : k < p
    · have hm : (k : Int) ∈ xs := (mem_part HX.out _).2 (by rw [HP.out]; omega)
      have hix := List.idxOf_lt_length_of_mem hm
      have hc1 := yiz (yoz hcy hbel) (xs.idxOf (k : Int)) (by have := HLY.out; have := HN.out; omega)
      have hz0' := (HSY.out (xs.idxOf (k : Int)) (by have := HLY.out; have := HN.out; omega)).1
      have hzq := lt_pSize ys (xs.idxOf (k : Int)) (by have := HLY.out; have := HN.out; omega)
      rw [HQ.out] at hzq
      obtain ⟨z, hz⟩ := Int.eq_ofNat_of_zero_le hz0'
      have hst0 := innerTo_step xs ys q k z (by omega) hz
      have hbd := innerTo_bd xs ys q k z (by omega)
      rw [hz] at hc1 hzq
      have hc2 := yWz hown z (by rw [innerTo_length]; omega)
      have hfz := ytz hown z
      obtain ⟨hst, hgs⟩ := yqz hown (innerTo_length _ _ _ _).symm z ((innerTo xs ys q k).getD z 0 + 1)
      rw [hst0] at hst
      obtain ⟨s, hs⟩ : ∃ s, s = (innerTo xs ys q k).getD z 0 := ⟨_, rfl⟩
      rw [← hs] at hst hbd hc2
      obtain ⟨r, hre⟩ : ∃ r, r = xs.idxOf (k : Int) := ⟨_, rfl⟩
      rw [← hre] at hc1 hix
      have HST := Lib.hid hst
      have HRE := Lib.hid hre
      have HM := Lib.hid hm
      have hixn : r < n := by have := HN.out; omega
      have HRV := Lib.hid (yDz HV.out hbel)
      clear hst0 hst hgs hz hz0' hs hre hm hown hix
      go_wp2_with fail
      refine (slicesIndex_v _ xs _ _ HRV.out HM.out).mono ?_
      rintro e w' ⟨rfl, rfl⟩
      rw [← HRE.out]
      go_wp2
      go_roundw
      case rel => exact ⟨k + 1, by omega, by go_num, HST.out, hbel.setCell (Nat.le_refl _) _⟩
      case measure => simp [intOf]; omega
    · have hkn : k = p := by omega
      subst hkn
      go_wp2
      go_ret
      exact ⟨_, rfl, hown, hbel⟩

theorem shr0_fact : ∀ t, t < 256 → ∀ y, y < 8 → (bits BinOp.and IntKind.i64 (((t : Nat) : Int) / 2 ^ (y : Nat)) 1 == 0) = !t.testBit y := by decide +kernel
theorem or64b_fact : ∀ t, t < 256 → ∀ y, y < 8 → bits BinOp.or IntKind.i64 ((t : Nat) : Int) (wrap64 (2 ^ (y : Nat))) = ((t ||| 2 ^ y : Nat) : Int) := by decide +kernel

set_option maxRecDepth 100000 in
set_option maxHeartbeats 4000000 in
theorem l2Inner_v (v u : Value) (xs ys : List Int) (w : World) (hv : RdV w v xs) (hu : RdV w u ys) (hx : partIn xs = true) (hy : partIn ys = true) (hl : ys.length = xs.length) (hf : finerB xs ys = true) :
    Calls Tryz.prog 169 #[v, u] w (FreshL w (inner xs ys)) := by
  have HV := Lib.hid hv
  have HU := Lib.hid hu
  obtain ⟨hl1, hl8⟩ := yCz hx
  have HSX := Lib.hid (yBz hx)
  have HSY := Lib.hid (yBz hy)
  have hby := yGz HSY.out
  have hby1 := pSize_pos HSY.out (by omega)
  obtain ⟨q, hq⟩ := Int.eq_ofNat_of_zero_le hby.1
  rw [hq] at hby hby1
  have HQ := Lib.hid hq
  have HX := Lib.hid hx
  have HY := Lib.hid hy
  have HG := Lib.hid fun y hy => inner_get hx hl hf y q hq hy
  obtain ⟨bx, ox, cx, rfl, hcx, hbx', hcx1, hcx2⟩ := ymz hv hl1
  obtain ⟨n, hn⟩ : ∃ n, n = xs.length := ⟨_, rfl⟩
  have HN := Lib.hid hn
  have HLY := Lib.hid hl
  rw [← hn] at HV hl1 hl8 HLY ⊢
  have hil : (inner xs ys).length = q := by rw [inner_length, hq, Int.toNat_natCast]
  have HIL := Lib.hid hil
  clear hv hu hn hl hx hy hq hcx1 hcx2 hil hf
  go_enter Tryz.func169, Tryz.ntmps169
  go_wp2_with fail
  refine (l1Blocks_v _ ys q _ (yDz HU.out ((Below.refl _ _).alloc (Nat.le_refl _) _)) HY.out HQ.out).mono ?_
  rintro e w1 ⟨u, he, hu, hb1⟩
  obtain ⟨vs, hvl, hparts, _⟩ := ownM_parts hu
  rcases hparts with ⟨_, hnil⟩ | ⟨gb, capb, rfl, _⟩
  · have := congrArg List.length hnil
    rw [yjz] at this
    simp at this
    omega
  subst he
  rw [yjz] at hu ⊢
  have HO0 := Lib.hid (own_below (yPz w w.heap.size (Nat.le_refl _)) hb1)
  have hbel1 : Below w.heap.size w w1 := yAz ((Below.refl _ _).alloc (Nat.le_refl _) _) hb1
  have HUM := Lib.hid hu
  simp at hb1
  clear hu hvl
  go_wp2
  go_loopw [5, 7] (fun u i wr => ∃ k g cap : Nat, k ≤ q ∧ i = .int .i64 k ∧ u = .slice (some ⟨g, 0, none⟩) k cap ∧ Own wr w.heap.size (.slice (some ⟨g, 0, none⟩) k cap) ((inner xs ys).take k) ∧ OwnM wr (w.heap.size + 1) w1.heap.size (.slice (some ⟨gb, 0, none⟩) q capb) (blocksTo ys q) ∧ (g = w.heap.size ∨ w1.heap.size ≤ g) ∧ Below w.heap.size w wr ∧ w1.heap.size ≤ wr.heap.size)
    (fun _ i _ => q - (intOf i).toNat)
  case atStart => exact ⟨0, w.heap.size, 0, Nat.zero_le _, rfl, rfl, by simpa using HO0.out, by simpa using HUM.out, .inl rfl, hbel1, Nat.le_refl _⟩
  case round =>
    obtain ⟨k, g, cap, hk, rfl, rfl, hown, hum, hgw, hbel, hsz⟩ := hrel
    by_cases hlt : k < q
    · obtain ⟨z, hz, hoz, hiz⟩ := ownM_cell hum k (by rw [yjz]; exact hlt)
      obtain ⟨zo, zc, rfl, hrz, _⟩ := own_rd hoz
      have hkg := HG.out k hlt
      have hts := yYz (inner xs ys) k (by rw [HIL.out]; exact hlt)
      rw [hkg] at hts
      rw [blocksTo_getD ys q k hlt] at hz hrz
      have hthings := blkAt_things xs ys k (by rw [HLY.out, HN.out])
      obtain ⟨L, hL⟩ : ∃ L, L = blkAt ys k ys.length := ⟨_, rfl⟩
      rw [← hL] at hz hts hrz hthings
      have hm8 : L.length ≤ 8 := by
        have := cntAt_le ys k ys.length
        rw [hL, blkAt_length]
        have := HLY.out
        omega
      obtain ⟨m, hm⟩ : ∃ m, m = L.length := ⟨_, rfl⟩
      rw [← hm] at hz hm8
      have HM := Lib.hid hm
      have HTS := Lib.hid hts
      have HTH := Lib.hid hthings
      have HRZ := Lib.hid hrz
      have HO := Lib.hid hown
      have HUr := Lib.hid hum
      have hcx' := yoz hcx hbel
      have HC := Lib.hid hcx'
      have hB := hbel.size
      clear hown hum hkg hts hthings hL hm hoz hiz hrz hcx'
      obtain ⟨wo, hwo⟩ : ∃ wo : World, wo = wr := ⟨_, rfl⟩
      subst hwo
      go_wp2
      go_loop [8, 9, 10] (fun s c i => ∃ j t : Nat, j ≤ m ∧ i = .int .i64 j ∧ s = .int .i64 t ∧ c = .int .i64 (cnt t) ∧ t < 256 ∧ t = overL xs (L.take j)) (fun _ _ i => m - (intOf i).toNat)
      case atStart => exact ⟨0, 0, Nat.zero_le _, rfl, rfl, by rw [show cnt 0 = 0 from by decide]; rfl, by omega, rfl⟩
      case round =>
        obtain ⟨j, t, hj, rfl, rfl, rfl, ht, hov⟩ := hrel
        have HOV := Lib.hid hov
        clear hov
        by_cases hjm : j < m
        · rcases HRZ.out with hnil | ⟨bz, oz, rfl, hcz⟩
          · have := HM.out
            rw [hnil] at this
            simp at this
            omega
          · have hcj := hcz j (by have := HM.out; omega)
            have htk := yYz L j (by have := HM.out; omega)
            have hth := HTH.out (L.getD j 0) (ykz (by have := HM.out; omega) rfl)
            clear hcz
            obtain ⟨i, hi⟩ := Int.eq_ofNat_of_zero_le hth.1
            rw [hi] at hcj htk hth
            rw [Int.toNat_natCast] at hth
            have hci := yiz HC.out i hth.2
            obtain ⟨hx0, hx7⟩ := HSX.out i hth.2
            obtain ⟨x, hx⟩ := Int.eq_ofNat_of_zero_le hx0
            rw [hx] at hci hx7
            have hst : overL xs (L.take (j + 1)) = t ||| 2 ^ x := by rw [htk, overL_snoc, ← HOV.out, Int.toNat_natCast, hx, Int.toNat_natCast]
            have HST := Lib.hid hst
            have hin : (i : Int) < n := by have := HN.out; omega
            have hx8 : x < 8 := by omega
            have hsh := shr0_fact t ht x hx8
            have HOR := Lib.hid (or64b_fact t ht x hx8)
            have HCN := Lib.hid (cnt_or t ht x hx8)
            have HSM := Lib.hid (or_same t ht x hx8)
            have hlt256 := or_lt t ht x hx8
            have hc8 : cnt t ≤ 8 := by
              have := List.length_filter_le (fun y => t.testBit y) (List.range 8)
              rw [List.length_range] at this
              exact this
            clear hi hth hx hx0 hst htk
            cases hbit : t.testBit x
            · have HB := Lib.hid hbit
              rw [hbit] at hsh
              rw [Bool.not_false] at hsh
              clear hbit
              obtain ⟨c, hc⟩ : ∃ c, c = cnt t := ⟨_, rfl⟩
              rw [← hc] at hc8 ⊢
              have HCC := Lib.hid hc
              clear hc
              go_wp2
              go_round
              case rel => exact ⟨j + 1, t ||| 2 ^ x, by omega, by go_num, by rw [HOR.out], by rw [HCN.out, HB.out, ← HCC.out]; go_num, hlt256, HST.out.symm⟩
              case measure => simp [intOf]; omega
            · have HB := Lib.hid hbit
              rw [hbit] at hsh
              rw [Bool.not_true] at hsh
              clear hbit
              go_wp2
              go_round
              case rel => exact ⟨j + 1, t, by omega, by go_num, rfl, rfl, ht, by rw [HST.out, HSM.out HB.out]⟩
              case measure => simp [intOf]; omega
        · have hjm : j = m := by omega
          subst hjm
          have hov := HOV.out
          rw [List.take_of_length_le (by rw [← HM.out]; omega)] at hov
          have HOV2 := Lib.hid hov
          obtain ⟨c, hc⟩ : ∃ c : Int, c = (cnt t : Int) := ⟨_, rfl⟩
          rw [← hc]
          have HCC := Lib.hid hc
          clear hov hc
          go_wp2_with (at_builtin; refine ysz rfl _ _ rfl w.heap.size g k cap ((inner xs ys).take k) rfl (yQz HO.out _) (by have := HIL.out; rw [List.length_take]; omega) ⟨wo.heap.size, 0, none⟩ rfl c (yXz _ _ _) (by omega) (by simp; omega) ?_)
          intro g' cap' w3 hown3 hgr3 hg3
          have hbel3 : Below w.heap.size w w3 := (hbel.alloc hB _).grown hgr3 (by simp; omega) (fun q hq => by cases hq; exact (yZz HO.out g rfl).1)
          have hsz3 : w1.heap.size ≤ w3.heap.size := by have := hgr3.size; simp at this; omega
          have hum3 : OwnM w3 (w.heap.size + 1) w1.heap.size (.slice (some ⟨gb, 0, none⟩) q capb) (blocksTo ys q) := by
            refine ownM_keep HUr.out fun b h1 h2 h3 => ?_
            have e1 := hgr3.block b (by simp; omega) (by simp; omega)
            rw [e1]
            exact (((Below.refl _ wo).alloc (Nat.le_refl _) _).block b h3)
          have hg3' : g' = w.heap.size ∨ w1.heap.size ≤ g' := by
            first | omega | (simp at hg3; omega)
          have HO3 := Lib.hid hown3
          have HU3 := Lib.hid hum3
          clear hown3 hgr3 hg3 hum3
          go_wp2
          go_roundw
          case rel => exact ⟨k + 1, g', cap', by omega, by go_num, rfl, by rw [HTS.out, ← HOV2.out, ← HCC.out]; exact HO3.out, HU3.out, hg3', hbel3, hsz3⟩
          case measure => simp [intOf]; omega
    · have hkn : k = q := by omega
      subst hkn
      go_wp2
      go_ret
      rw [List.take_of_length_le (by rw [HIL.out]; omega)] at hown
      exact ⟨_, rfl, hown, hbel⟩

def bellNext (last : Int) : List Int → List Int
  | [] => []
  | x :: xs => (last + x) :: bellNext (last + x) xs
def bellRow : Nat → List Int
  | 0 => [1]
  | n + 1 => (bellRow n).getD n 0 :: bellNext ((bellRow n).getD n 0) (bellRow n)

theorem bell_len : ∀ n, n < 8 → (bellRow n).length = n + 1 := by decide +kernel
theorem bell_bd : ∀ n, n < 8 → ∀ k, k < 9 → 0 ≤ (bellRow n).getD k 0 ∧ (bellRow n).getD k 0 ≤ 5000 := by decide +kernel
theorem bell_step : ∀ n, n < 7 → ∀ k, k < n + 1 → (bellRow (n + 1)).getD (k + 1) 0 = (bellRow (n + 1)).getD k 0 + (bellRow n).getD k 0 := by decide +kernel
theorem bell_head : ∀ n, n < 7 → (bellRow (n + 1)).take 1 = [(bellRow n).getD n 0] ∧ (bellRow (n + 1)).getD 0 0 = (bellRow n).getD n 0 := by decide +kernel
def bellN (n : Nat) : Int := (bellRow (n - 1)).getD (n - 1) 0

theorem own_lit1 (w : World) (B : Nat) (hB : B ≤ w.heap.size) (x : Int) : Own (w.alloc (.cells #[.int .i64 x] 3)) B (.slice (some ⟨w.heap.size, 0, none⟩) 1 1) [x] :=
  ⟨by simp, .inr ⟨w.heap.size, 1, #[.int .i64 x], rfl, hB, heap_alloc_new w _, Nat.le_refl _, by unfold maxLen; simp, rfl, by simp⟩⟩

def sliceLen : Value → Nat
  | .slice _ n _ => n
  | _ => 0

theorem bell_take (n k : Nat) (h : n < 7) (hk : k < n + 1) : (bellRow (n + 1)).take (k + 2) = (bellRow (n + 1)).take (k + 1) ++ [(bellRow (n + 1)).getD k 0 + (bellRow n).getD k 0] := by
  rw [yYz _ (k + 1) (by rw [bell_len _ (by omega)]; omega), bell_step n h k hk]

set_option maxHeartbeats 1600000 in
theorem partitionCount_v (n : Int) (w : World) (h0 : 0 ≤ n) (h8 : n ≤ 8) :
    Calls Tryz.prog 242 #[.int .i64 n] w (GivesI w (bellN n.toNat)) := by
  obtain ⟨c, rfl⟩ := Int.eq_ofNat_of_zero_le h0
  rw [Int.toNat_natCast]
  go_enter Tryz.func242, Tryz.ntmps242
  go_wp2
  go_loopw [3] (fun u wr => ∃ r m g cap : Nat, (r = 0 ∨ m ≤ c) ∧ r < 8 ∧ m = r + 1 ∧ u = .slice (some ⟨g, 0, none⟩) m cap ∧ Own wr w.heap.size (.slice (some ⟨g, 0, none⟩) m cap) (bellRow r) ∧ Below w.heap.size w wr)
    (fun u _ => 10 - sliceLen u)
  case atStart => exact ⟨0, 1, w.heap.size, 1, .inl rfl, by omega, rfl, rfl, own_lit1 w _ (Nat.le_refl _) 1, (Below.refl _ _).alloc (Nat.le_refl _) _⟩
  case round =>
    obtain ⟨r, m, g, cap, hr, hr8, hm, rfl, hown, hbel⟩ := hrel
    have HM := Lib.hid hm
    have hm1 : 1 ≤ m := by omega
    have hm9 : m < 9 := by omega
    have hir : (m : Int) - 1 = (r : Int) := by omega
    have hbl := bell_len r hr8
    have hlast := yWz hown r (by rw [hbl]; omega)
    by_cases hlt : m < c
    · have hr7 : r < 7 := by omega
      obtain ⟨hh1, hh2⟩ := bell_head r hr7
      have HH1 := Lib.hid hh1
      have HH2 := Lib.hid hh2
      obtain ⟨x, hx⟩ : ∃ x, x = (bellRow r).getD r 0 := ⟨_, rfl⟩
      have hxb := bell_bd r hr8 r (by omega)
      rw [← hx] at hlast hxb
      have HX := Lib.hid hx
      have HBL := Lib.hid hbl
      have HO := Lib.hid hown
      have hB := hbel.size
      have hgl := yZz hown g rfl
      have b1 : (m : Int) < (c : Int) := by omega
      clear hown hx hh1 hh2 hbl hm
      obtain ⟨wo, hwo⟩ : ∃ wo : World, wo = wr := ⟨_, rfl⟩
      subst hwo
      go_wp2
      go_loopw [4, 5, 23] (fun l u i wr => ∃ k g' cap' : Nat, k ≤ m ∧ i = .int .i64 k ∧ l = .int .i64 ((bellRow (r + 1)).getD k 0) ∧ u = .slice (some ⟨g', 0, none⟩) ((k + 1 : Nat)) cap' ∧ Own wr w.heap.size (.slice (some ⟨g', 0, none⟩) (k + 1) cap') ((bellRow (r + 1)).take (k + 1)) ∧ Own wr w.heap.size (.slice (some ⟨g, 0, none⟩) m cap) (bellRow r) ∧ Below w.heap.size w wr ∧ g < g')
        (fun _ _ i _ => m - (intOf i).toNat)
      case atStart =>
        refine ⟨0, wo.heap.size, 1, Nat.zero_le _, rfl, by rw [HH2.out, ← HX.out], rfl, ?_, yQz HO.out _, hbel.alloc hB _, hgl.2⟩
        rw [HH1.out, ← HX.out]
        exact own_lit1 wo _ hB x
      case round =>
        obtain ⟨k, g', cap', hk, rfl, rfl, rfl, hown', hown, hbel', hgg⟩ := hrel
        by_cases hkr : k < m
        · have hck := yWz hown k (by rw [HBL.out, ← HM.out]; omega)
          have hyb := bell_bd r hr8 k (by have := HM.out; omega)
          have hlb := bell_bd (r + 1) (by omega) k (by have := HM.out; omega)
          have htk := bell_take r k hr7 (by have := HM.out; omega)
          have hst := bell_step r hr7 k (by have := HM.out; omega)
          obtain ⟨y, hy⟩ : ∃ y, y = (bellRow r).getD k 0 := ⟨_, rfl⟩
          obtain ⟨l, hl⟩ : ∃ l, l = (bellRow (r + 1)).getD k 0 := ⟨_, rfl⟩
          rw [← hy] at hck hyb htk hst
          rw [← hl] at hlb htk hst ⊢
          have HTK := Lib.hid htk
          have HST := Lib.hid hst
          have HO' := Lib.hid hown'
          have HOr := Lib.hid hown
          have hB' := hbel'.size
          have hgl' := yZz hown' g' rfl
          have htl : ((bellRow (r + 1)).take (k + 1)).length = k + 1 := by rw [List.length_take, bell_len _ (by omega)]; have := HM.out; omega
          have HTL := Lib.hid htl
          have b2 : (k : Int) < (m : Int) := by omega
          clear hy hl htk hst hown' hown htl
          go_wp2_with (at_builtin; refine ysz rfl _ _ rfl w.heap.size g' (k + 1) cap' ((bellRow (r + 1)).take (k + 1)) rfl (yQz HO'.out _) (by rw [HTL.out]) ⟨wr.heap.size, 0, none⟩ rfl (l + y) (yXz _ _ _) (by omega) (by simp; omega) ?_)
          intro g3 cap3 w3 hown3 hgr3 hg3
          have hbel3 : Below w.heap.size w w3 := (hbel'.alloc hB' _).grown hgr3 (by simp; omega) (fun q hq => by cases hq; exact hgl'.1)
          have hor3 : Own w3 w.heap.size (.slice (some ⟨g, 0, none⟩) m cap) (bellRow r) := own_grown (yQz HOr.out _) hgr3 (.inr (by simp [Value.ownBlock]; omega))
          have hg3' : g < g3 := by
            have := yZz HOr.out g rfl
            first | omega | (simp at hg3; omega)
          have HO3 := Lib.hid hown3
          have HOr3 := Lib.hid hor3
          clear hown3 hgr3 hg3 hor3
          go_wp2
          go_roundw
          case rel => exact ⟨k + 1, g3, cap3, by omega, by go_num, by rw [HST.out], rfl, by rw [HTK.out]; exact HO3.out, HOr3.out, hbel3, hg3'⟩
          case measure => simp [intOf]; omega
        · have hkr : k = m := by omega
          have hbl2 := bell_len (r + 1) (by omega)
          rw [hkr, List.take_of_length_le (by have := HM.out; omega)] at hown'
          have HBL2 := Lib.hid hbl2
          clear hbl2
          subst hkr
          go_wp2
          go_roundw
          case rel => exact ⟨r + 1, k + 1, g', cap', by omega, by have := HM.out; omega, by rw [HM.out], rfl, hown', hbel'⟩
          case measure => simp [sliceLen]; omega
    · have hrc : r = c - 1 := by omega
      have HRC := Lib.hid hrc
      have b1 : ¬ (m : Int) < (c : Int) := by omega
      obtain ⟨x, hx⟩ : ∃ x, x = (bellRow r).getD r 0 := ⟨_, rfl⟩
      rw [← hx] at hlast
      have HX := Lib.hid hx
      clear hrc hm hbl hx
      go_wp2
      go_ret
      have he : bellN c = x := by rw [HX.out]; unfold bellN; rw [← HRC.out]
      exact ⟨yuz he.symm, hbel⟩

set_option maxHeartbeats 1600000 in
theorem l2Bell_v (n : Int) (w : World) (h0 : 0 ≤ n) (h8 : n ≤ 8) :
    Calls Tryz.prog 157 #[.int .i64 n] w (GivesI w (bellN n.toNat)) := by
  obtain ⟨c, rfl⟩ := Int.eq_ofNat_of_zero_le h0
  rw [Int.toNat_natCast]
  go_enter Tryz.func157, Tryz.ntmps157
  go_wp2
  go_loopw [3, 4] (fun u i wr => ∃ r m g cap : Nat, (r = 0 ∨ m ≤ c) ∧ r < 8 ∧ m = r + 1 ∧ i = .int .i64 m ∧ u = .slice (some ⟨g, 0, none⟩) m cap ∧ Own wr w.heap.size (.slice (some ⟨g, 0, none⟩) m cap) (bellRow r) ∧ Below w.heap.size w wr)
    (fun _ i _ => c - (intOf i).toNat)
  case atStart => exact ⟨0, 1, w.heap.size, 1, .inl rfl, by omega, rfl, rfl, rfl, own_lit1 w _ (Nat.le_refl _) 1, (Below.refl _ _).alloc (Nat.le_refl _) _⟩
  case round =>
    obtain ⟨r, m, g, cap, hr, hr8, hm, rfl, rfl, hown, hbel⟩ := hrel
    have HM := Lib.hid hm
    have hm1 : 1 ≤ m := by omega
    have hm9 : m < 9 := by omega
    have hir : (m : Int) - 1 = (r : Int) := by omega
    have hbl := bell_len r hr8
    have hlast := yWz hown r (by rw [hbl]; omega)
    by_cases hlt : m < c
    · have hr7 : r < 7 := by omega
      obtain ⟨hh1, hh2⟩ := bell_head r hr7
      have HH1 := Lib.hid hh1
      have HH2 := Lib.hid hh2
      obtain ⟨x, hx⟩ : ∃ x, x = (bellRow r).getD r 0 := ⟨_, rfl⟩
      have hxb := bell_bd r hr8 r (by omega)
      rw [← hx] at hlast hxb
      have HX := Lib.hid hx
      have HBL := Lib.hid hbl
      have HO := Lib.hid hown
      have hB := hbel.size
      have hgl := yZz hown g rfl
      have b1 : (m : Int) < (c : Int) := by omega
      clear hown hx hh1 hh2 hbl hm
      obtain ⟨wo, hwo⟩ : ∃ wo : World, wo = wr := ⟨_, rfl⟩
      subst hwo
      go_wp2
      go_loopw [5, 6] (fun u i wr => ∃ k g' cap' : Nat, k ≤ m ∧ i = .int .i64 k ∧ u = .slice (some ⟨g', 0, none⟩) ((k + 1 : Nat)) cap' ∧ Own wr w.heap.size (.slice (some ⟨g', 0, none⟩) (k + 1) cap') ((bellRow (r + 1)).take (k + 1)) ∧ Own wr w.heap.size (.slice (some ⟨g, 0, none⟩) m cap) (bellRow r) ∧ Below w.heap.size w wr ∧ g < g')
        (fun _ i _ => m - (intOf i).toNat)
      case atStart =>
        refine ⟨0, wo.heap.size, 1, Nat.zero_le _, rfl, rfl, ?_, yQz HO.out _, hbel.alloc hB _, hgl.2⟩
        rw [HH1.out, ← HX.out]
        exact own_lit1 wo _ hB x
      case round =>
        obtain ⟨k, g', cap', hk, rfl, rfl, hown', hown, hbel', hgg⟩ := hrel
        by_cases hkr : k < m
        · have hck := yWz hown k (by rw [HBL.out, ← HM.out]; omega)
          have hcl := yWz hown' k (by rw [List.length_take, bell_len _ (by omega)]; have := HM.out; omega)
          have hgt : ((bellRow (r + 1)).take (k + 1)).getD k 0 = (bellRow (r + 1)).getD k 0 := by simp [List.getD, List.getElem?_take]
          rw [hgt] at hcl
          have hyb := bell_bd r hr8 k (by have := HM.out; omega)
          have hlb := bell_bd (r + 1) (by omega) k (by have := HM.out; omega)
          have htk := bell_take r k hr7 (by have := HM.out; omega)
          have hst := bell_step r hr7 k (by have := HM.out; omega)
          obtain ⟨y, hy⟩ : ∃ y, y = (bellRow r).getD k 0 := ⟨_, rfl⟩
          obtain ⟨l, hl⟩ : ∃ l, l = (bellRow (r + 1)).getD k 0 := ⟨_, rfl⟩
          rw [← hy] at hck hyb htk hst
          rw [← hl] at hlb htk hst hcl
          have HTK := Lib.hid htk
          have HST := Lib.hid hst
          have HO' := Lib.hid hown'
          have HOr := Lib.hid hown
          have hB' := hbel'.size
          have hgl' := yZz hown' g' rfl
          have htl : ((bellRow (r + 1)).take (k + 1)).length = k + 1 := by rw [List.length_take, bell_len _ (by omega)]; have := HM.out; omega
          have HTL := Lib.hid htl
          have b2 : (k : Int) < (m : Int) := by omega
          clear hy hl htk hst hown' hown htl
          have b3 : IntKind.i64.wrap (l + y) = l + y := IntWalk.i64_in _ (by omega)
          have b4 : (k : Int) < (k : Int) + 1 := by omega
          go_wp2
          go_region_law (first | (refine ylz rfl _ _ (by rfl) w.heap.size g' (k + 1) cap' ((bellRow (r + 1)).take (k + 1)) (by rfl) (own_drew1 (yQz HO'.out _)) (by rw [HTL.out]) ⟨wr.heap.size, 0, none⟩ 1 1 (by rfl) [l + y] rfl (cells_one (yXz _ _ _)) (by omega) (by simp; omega) (k + 1 + 1) rfl ?_; intro g3 cap3 w3 hown3 hgr3 hg3; have hbel3 : Below w.heap.size w w3 := (hbel'.alloc hB' _).drew.grown hgr3 (by simp; omega) (fun q hq => by cases hq; exact hgl'.1); have hor3 : Own w3 w.heap.size (.slice (some ⟨g, 0, none⟩) m cap) (bellRow r) := own_grown (own_drew1 (yQz HOr.out _)) hgr3 (.inr (by simp [Value.ownBlock]; omega)); have hg3' : g < g3 := (by have := yZz HOr.out g rfl; first | omega | (simp at hg3; omega)); have HO3 := Lib.hid hown3; have HOr3 := Lib.hid hor3; clear hown3 hgr3 hg3 hor3))
          all_goals
            go_wp2
            go_roundw
            case rel => exact ⟨k + 1, g3, cap3, by omega, by go_num, rfl, by rw [HTK.out]; exact HO3.out, HOr3.out, hbel3, hg3'⟩
            case measure => simp [intOf]; omega
        · have hkr : k = m := by omega
          have hbl2 := bell_len (r + 1) (by omega)
          rw [hkr, List.take_of_length_le (by have := HM.out; omega)] at hown'
          have HBL2 := Lib.hid hbl2
          clear hbl2
          subst hkr
          go_wp2
          go_roundw
          case rel => exact ⟨r + 1, k + 1, g', cap', by omega, by have := HM.out; omega, by rw [HM.out], by go_num, rfl, hown', hbel'⟩
          case measure => simp [intOf]; omega
    · have hrc : r = c - 1 := by omega
      have HRC := Lib.hid hrc
      have b1 : ¬ (m : Int) < (c : Int) := by omega
      obtain ⟨x, hx⟩ : ∃ x, x = (bellRow r).getD r 0 := ⟨_, rfl⟩
      rw [← hx] at hlast
      have HX := Lib.hid hx
      clear hrc hm hbl hx
      go_wp2
      go_ret
      have he : bellN c = x := by rw [HX.out]; unfold bellN; rw [← HRC.out]
      exact ⟨yuz he.symm, hbel⟩
end

section
open Go.RowKit

theorem sum_set (l : List Int) (z : Nat) (h : z < l.length) : (l.set z (l.getD z 0 + 1)).sum = l.sum + 1 := by
  induction l generalizing z with
  | nil => simp at h
  | cons x l ih =>
    cases z with
    | zero => simp; omega
    | succ z =>
      have := ih z (by simpa using h)
      simp only [List.set_cons_succ, List.sum_cons, List.getD_cons_succ, this]
      omega

theorem sum_zeros (n : Nat) : (List.replicate n (0 : Int)).sum = 0 := by
  induction n with
  | zero => rfl
  | succ n ih => simp [List.replicate_succ, ih]

theorem innerTo_sum {xs ys : List Int} (hx : partIn xs = true) (hy : partIn ys = true) (hl : ys.length = xs.length) (q p : Nat) (hp : pSize xs = p) (hq : pSize ys = q) : ∀ k, k ≤ p → (innerTo xs ys q k).sum = k := by
  intro k
  induction k with
  | zero => intro _; rw [innerTo_zero, sum_zeros]; rfl
  | succ k ih =>
    intro hk
    have hm : (k : Int) ∈ xs := (mem_part hx _).2 (by rw [hp]; omega)
    have hix := List.idxOf_lt_length_of_mem hm
    have hz0 := (yBz hy (xs.idxOf (k : Int)) (by omega)).1
    have hzq := lt_pSize ys (xs.idxOf (k : Int)) (by omega)
    obtain ⟨z, hz⟩ := Int.eq_ofNat_of_zero_le hz0
    rw [← innerTo_step xs ys q k z (by omega) hz, sum_set _ _ (by rw [innerTo_length]; omega), ih (by omega)]
    omega

theorem inner_facts {xs ys : List Int} (h : finerIn xs ys = true) : (inner xs ys).sum ≤ 8 ∧ ∀ y, y < (inner xs ys).length → 1 ≤ (inner xs ys).getD y 0 := by
  simp only [finerIn, Bool.and_eq_true] at h
  obtain ⟨ha, hf⟩ := h
  obtain ⟨hx, hy, hl⟩ := alike_iff.1 ha
  have bx := yGz (yBz hx)
  have by' := yGz (yBz hy)
  obtain ⟨p, hp⟩ := Int.eq_ofNat_of_zero_le bx.1
  obtain ⟨q, hq⟩ := Int.eq_ofNat_of_zero_le by'.1
  have e : inner xs ys = innerTo xs ys q p := by unfold inner; rw [hp, hq, Int.toNat_natCast, Int.toNat_natCast]
  rw [e]
  refine ⟨by rw [innerTo_sum hx hy hl.symm q p hp hq p (Nat.le_refl _)]; omega, fun y hyq => ?_⟩
  rw [innerTo_length] at hyq
  rw [innerTo_getD _ _ _ _ _ hyq]
  have hm : (y : Int) ∈ ys := (mem_part hy _).2 (by omega)
  have hi := List.idxOf_lt_length_of_mem hm
  have hg := getD_idxOf hm
  have hv0 := (yBz hx (ys.idxOf (y : Int)) (by omega)).1
  have hvp := lt_pSize xs (ys.idxOf (y : Int)) (by omega)
  obtain ⟨v, hv⟩ := Int.eq_ofNat_of_zero_le hv0
  have hmv : (v : Int) ∈ xs := ykz (by omega) hv
  have hu : under xs ys y v = true := by
    simp only [under, decide_eq_true_eq]
    rw [← hg]
    exact (finer_iff.1 hf _ _ (List.idxOf_lt_length_of_mem hmv) (by omega) (by rw [getD_idxOf hmv, hv]))
  have : v ∈ (List.range p).filter (under xs ys y) := by
    rw [List.mem_filter]
    exact ⟨by simp; omega, hu⟩
  have := List.length_pos_of_mem this
  omega

def prodOf (f : Nat → Int) (l : List Int) : Int := l.foldl (fun w c => w * f c.toNat) 1

theorem prodOf_snoc (f : Nat → Int) (l : List Int) (c : Int) : prodOf f (l ++ [c]) = prodOf f l * f c.toNat := by simp [prodOf, List.foldl_append]

theorem prodOf_bd (f : Nat → Int) (F : Nat → Nat) (h0 : F 0 = 1) (hm : ∀ s, s < 9 → ∀ c, c < 9 → s + c ≤ 8 → F s * (f c).natAbs ≤ F (s + c)) :
    ∀ l : List Int, (∀ c ∈ l, 0 ≤ c) → l.sum ≤ 8 → 0 ≤ l.sum ∧ (prodOf f l).natAbs ≤ F l.sum.toNat := by
  refine ydz (fun _ _ => ⟨Int.le_refl _, by simp [prodOf, h0]⟩) fun l c ih hc hs => ?_
  have hsum : (l ++ [c]).sum = l.sum + c := by simp [List.sum_append]
  have hc0 := hc c (by simp)
  rw [hsum] at hs ⊢
  have hl0 : 0 ≤ l.sum ∧ (prodOf f l).natAbs ≤ F l.sum.toNat := by
    refine ih (fun d hd => hc d (by simp [hd])) (by omega)
  refine ⟨by omega, ?_⟩
  rw [prodOf_snoc, Int.natAbs_mul]
  have h1 := hm l.sum.toNat (by omega) c.toNat (by omega) (by omega)
  have h2 : (l.sum + c).toNat = l.sum.toNat + c.toNat := by omega
  rw [h2]
  exact Nat.le_trans (Nat.mul_le_mul_right _ hl0.2) h1

theorem sum_take_le : ∀ (l : List Int) (k : Nat), (∀ c ∈ l, 0 ≤ c) → (l.take k).sum ≤ l.sum := by
  intro l
  induction l with
  | nil => intro k _; simp
  | cons x l ih =>
    intro k h
    cases k with
    | zero =>
      have : ∀ m : List Int, (∀ c ∈ m, 0 ≤ c) → 0 ≤ m.sum := by
        intro m
        induction m with
        | nil => intro _; exact Int.le_refl _
        | cons y m ih2 =>
          intro h2
          have a1 := h2 y (by simp)
          have a2 := ih2 fun c hc => h2 c (by simp [hc])
          simp; omega
      exact this _ h
    | succ k =>
      have := ih k fun c hc => h c (by simp [hc])
      simp; omega

theorem getD_le_sum : ∀ (l : List Int) (k : Nat), (∀ c ∈ l, 0 ≤ c) → k < l.length → l.getD k 0 ≤ l.sum := by
  intro l k h hk
  have h1 := sum_take_le l (k + 1) h
  rw [yYz l k hk, List.sum_append] at h1
  have h2 : 0 ≤ (l.take k).sum := by
    have := sum_take_le (l.take k) 0 fun c hc => h c (List.mem_of_mem_take hc)
    simpa using this
  simp at h1 ⊢
  omega

def fA : Nat → Nat
  | 0 => 1
  | n + 1 => (n + 1) * fA n
def sgp : Nat → Int
  | 0 => 1
  | f + 1 => sgp f * (-((f + 1 : Nat) : Int))
def sgn (c : Nat) : Int := sgp (c - 1)

theorem bell_mul : ∀ s, s < 9 → ∀ c, c < 9 → s + c ≤ 8 → (bellN s).toNat * (bellN c).natAbs ≤ (bellN (s + c)).toNat := by decide +kernel
theorem sgn_mul : ∀ s, s < 9 → ∀ c, c < 9 → s + c ≤ 8 → fA s * (sgn c).natAbs ≤ fA (s + c) := by decide +kernel
theorem sgp_mul : ∀ s, s < 9 → ∀ c, c < 9 → s + c ≤ 8 → ∀ f, f < c → fA s * (sgp f).natAbs ≤ 40320 := by decide +kernel
theorem bell_le : ∀ s, s < 9 → (bellN s).toNat ≤ 40320 := by decide +kernel
theorem fA_le : ∀ s, s < 9 → fA s ≤ 40320 := by decide +kernel

theorem prod_way (f : Nat → Int) (F : Nat → Nat) (h0 : F 0 = 1) (hm : ∀ s, s < 9 → ∀ c, c < 9 → s + c ≤ 8 → F s * (f c).natAbs ≤ F (s + c)) (hF : ∀ s, s < 9 → F s ≤ 40320)
    (l : List Int) (hl : l.sum ≤ 8) (hp : ∀ y, y < l.length → 1 ≤ l.getD y 0) (k : Nat) :
    -40320 ≤ prodOf f (l.take k) ∧ prodOf f (l.take k) ≤ 40320 ∧ (k < l.length → (1 ≤ l.getD k 0 ∧ l.getD k 0 ≤ 8) ∧ prodOf f (l.take (k + 1)) = prodOf f (l.take k) * f (l.getD k 0).toNat ∧
      ∃ s : Nat, s < 9 ∧ s + (l.getD k 0).toNat ≤ 8 ∧ (prodOf f (l.take k)).natAbs ≤ F s) := by
  have hnn : ∀ c ∈ l, 0 ≤ c := fun c hc => by
    obtain ⟨j, hj, e⟩ := mem_iff_getD.1 hc
    have := hp j hj
    omega
  have hs := sum_take_le l k hnn
  obtain ⟨h1, h2⟩ := prodOf_bd f F h0 hm (l.take k) (fun c hc => hnn c (List.mem_of_mem_take hc)) (by omega)
  have h3 := hF (l.take k).sum.toNat (by omega)
  refine ⟨by omega, by omega, fun hk => ⟨⟨hp k hk, ?_⟩, ?_, ?_⟩⟩
  · have := getD_le_sum l k hnn hk
    omega
  · rw [yYz l k hk, prodOf_snoc]
  · have h4 := sum_take_le l (k + 1) hnn
    rw [yYz l k hk, List.sum_append] at h4
    have h5 := hp k hk
    refine ⟨(l.take k).sum.toNat, by omega, ?_, h2⟩
    have e : ([l.getD k 0] : List Int).sum = l.getD k 0 := by simp
    rw [e] at h4
    omega

def finerInterval (xs ys : List Int) : Int × Bool := if finerIn xs ys then (prodOf bellN (inner xs ys), true) else (0, false)
def finerSign (xs ys : List Int) : Int × Bool := if finerIn xs ys then (prodOf sgn (inner xs ys), true) else (0, false)

theorem iFinerIn_is (b : Bool) (v u : Value) (xs ys : List Int) (w : World) (hv : RdV w v xs) (hu : RdV w u ys) (h : Hid (finerIn xs ys = b)) :
    Calls Tryz.prog 189 #[v, u] w (QB w b) := by
  rw [← h.out]; exact iFinerIn_q v u xs ys w hv hu
theorem sFinerIn_is (b : Bool) (v u : Value) (xs ys : List Int) (w : World) (hv : RdV w v xs) (hu : RdV w u ys) (h : Hid (finerIn xs ys = b)) :
    Calls Tryz.prog 101 #[v, u] w (QB w b) := by
  rw [← h.out]; exact sFinerIn_q v u xs ys w hv hu

theorem own_slice {w : World} {B : Nat} {v : Value} {xs : List Int} (h : Own w B v xs) (hl : 1 ≤ xs.length) : ∃ g cap, v = .slice (some ⟨g, 0, none⟩) xs.length cap ∧ g < w.heap.size := by
  rcases own_view h with ⟨_, hn⟩ | ⟨g, cap, hv, _, hg, _⟩
  · rw [hn] at hl; simp at hl
  · exact ⟨g, cap, hv, hg⟩

set_option maxHeartbeats 1600000 in
theorem iFinerInterval_v (v u : Value) (xs ys : List Int) (w : World) (hv : RdV w v xs) (hu : RdV w u ys) :
    Calls Tryz.prog 192 #[v, u] w (GivesIB w (finerInterval xs ys)) := by
  have HV := Lib.hid hv
  have HU := Lib.hid hu
  clear hv hu
  cases hf : finerIn xs ys
  · have HF := Lib.hid hf
    have hr : finerInterval xs ys = (0, false) := by simp [finerInterval, hf]
    rw [hr]
    clear hf hr
    go_enter Tryz.func192, Tryz.ntmps192
    go_wp2_with fail
    refine (iFinerIn_is false _ _ _ _ _ HV.out HU.out HF).mono ?_
    rintro e w1 ⟨rfl, hq⟩
    have hb := hq.below
    clear hq
    go_wp2
    go_ret2
    exact ⟨rfl, hb⟩
  · have HF := Lib.hid hf
    have hr : finerInterval xs ys = (prodOf bellN (inner xs ys), true) := by simp [finerInterval, hf]
    rw [hr]
    obtain ⟨hsum, hpos⟩ := inner_facts hf
    have ha : alike xs ys = true ∧ finerB xs ys = true := by simpa [finerIn] using hf
    obtain ⟨hx, hy, hl⟩ := alike_iff.1 ha.1
    have HPX := Lib.hid hx
    have HPY := Lib.hid hy
    have HLL := Lib.hid hl.symm
    have HFB := Lib.hid ha.2
    have HW := Lib.hid (prod_way bellN (fun s => (bellN s).toNat) (by decide) bell_mul bell_le (inner xs ys) hsum hpos)
    have hil : 1 ≤ (inner xs ys).length := by
      have := pSize_pos (yBz hy) (yCz hy).1
      rw [inner_length]; omega
    have hil8 : (inner xs ys).length ≤ 8 := by
      have := yGz (yBz hy)
      rw [inner_length]; omega
    clear hf hr hsum hpos ha hx hy hl
    go_enter Tryz.func192, Tryz.ntmps192
    go_wp2_with fail
    refine (iFinerIn_is true _ _ _ _ _ HV.out HU.out HF).mono ?_
    rintro e w1 ⟨rfl, hq⟩
    have hb1 := hq.below
    have HV1 := Lib.hid (yDz HV.out hb1)
    have HU1 := Lib.hid (yDz HU.out hb1)
    clear hq
    go_wp2_with fail
    refine (countsWithin_v _ _ xs ys _ HV1.out HU1.out HPX.out HPY.out HLL.out).mono ?_
    rintro e w2 ⟨uv, rfl, ho, hb2⟩
    obtain ⟨g, cap, rfl, hg⟩ := own_slice ho hil
    have hbel := yAz hb1 hb2
    have HO := Lib.hid ho
    obtain ⟨n, hn⟩ : ∃ n, n = (inner xs ys).length := ⟨_, rfl⟩
    rw [← hn] at HO hil hil8 ⊢
    have HN := Lib.hid hn
    clear ho hb1 hb2 hn
    go_wp2
    go_loopw [6, 17] (fun u i wr => ∃ k : Nat, k ≤ n ∧ i = .int .i64 k ∧ u = .int .i64 (prodOf bellN ((inner xs ys).take k)) ∧ Own wr w1.heap.size (.slice (some ⟨g, 0, none⟩) n cap) (inner xs ys) ∧ Below w.heap.size w wr) (fun _ i _ => n - (intOf i).toNat)
    case atStart => exact ⟨0, Nat.zero_le _, rfl, rfl, HO.out, hbel⟩
    case round =>
      obtain ⟨k, hk, rfl, rfl, hown, hbelr⟩ := hrel
      obtain ⟨hp1, hp2, hp3⟩ := HW.out k
      by_cases hlt : k < n
      · obtain ⟨⟨hc1, hc2⟩, hst, s, hs9, hsc, hsF⟩ := hp3 (by rw [← HN.out]; exact hlt)
        have hck := yWz hown k (by rw [← HN.out]; exact hlt)
        have hbl := bell_mul s hs9 ((inner xs ys).getD k 0).toNat (by omega) hsc
        have hbF := bell_le (s + ((inner xs ys).getD k 0).toNat) (by omega)
        obtain ⟨c, hc⟩ : ∃ c, c = (inner xs ys).getD k 0 := ⟨_, rfl⟩
        obtain ⟨x, hx⟩ : ∃ x, x = prodOf bellN ((inner xs ys).take k) := ⟨_, rfl⟩
        rw [← hc] at hc1 hc2 hst hsc hck hbl hbF
        rw [← hx] at hp1 hp2 hst hsF ⊢
        have hmul : (x * bellN c.toNat).natAbs ≤ 40320 := by
          rw [Int.natAbs_mul]
          exact Nat.le_trans (Nat.le_trans (Nat.mul_le_mul_right _ hsF) hbl) hbF
        obtain ⟨b, hb⟩ : ∃ b, b = bellN c.toNat := ⟨_, rfl⟩
        rw [← hb] at hst hmul
        have HB := Lib.hid hb
        have HST := Lib.hid hst
        have HO2 := Lib.hid hown
        have b1 : (k : Int) < n := by omega
        have b2 : IntKind.i64.wrap (x * b) = x * b := IntWalk.i64_in _ (by omega)
        have b3 : wrap64 (x * b) = x * b := by rw [← IntWalk.i64_left]; exact b2
        clear hc hx hb hst hown hp3 hsc hbl hbF hsF hmul
        go_wp2_with fail
        refine (partitionCount_v c _ (by omega) hc2).mono ?_
        rintro e w3 ⟨rfl, hb3⟩
        rw [← HB.out]
        have hbel3 := yAz hbelr hb3
        have HO3 := Lib.hid (own_below HO2.out hb3)
        clear hb3
        go_wp2
        go_roundw
        case rel => exact ⟨k + 1, by omega, by go_num, by rw [HST.out], HO3.out, hbel3⟩
        case measure => simp [intOf]; omega
      · have hkn : k = n := by omega
        subst hkn
        have he : prodOf bellN ((inner xs ys).take k) = prodOf bellN (inner xs ys) := by rw [List.take_of_length_le (by rw [← HN.out]; omega)]
        rw [he]
        clear hp3 he
        go_wp2
        go_ret2
        exact ⟨rfl, hbelr⟩

set_option maxHeartbeats 1600000 in
theorem sFinerInterval_v (v u : Value) (xs ys : List Int) (w : World) (hv : RdV w v xs) (hu : RdV w u ys) :
    Calls Tryz.prog 103 #[v, u] w (GivesIB w (finerInterval xs ys)) := by
  have HV := Lib.hid hv
  have HU := Lib.hid hu
  clear hv hu
  cases hf : finerIn xs ys
  · have HF := Lib.hid hf
    have hr : finerInterval xs ys = (0, false) := by simp [finerInterval, hf]
    rw [hr]
    clear hf hr
    go_enter Tryz.func103, Tryz.ntmps103
    go_wp2_with fail
    refine (sFinerIn_is false _ _ _ _ _ HV.out HU.out HF).mono ?_
    rintro e w1 ⟨rfl, hq⟩
    have hb := hq.below
    clear hq
    go_wp2
    go_ret2
    exact ⟨rfl, hb⟩
  · have HF := Lib.hid hf
    have hr : finerInterval xs ys = (prodOf bellN (inner xs ys), true) := by simp [finerInterval, hf]
    rw [hr]
    obtain ⟨hsum, hpos⟩ := inner_facts hf
    have ha : alike xs ys = true ∧ finerB xs ys = true := by simpa [finerIn] using hf
    obtain ⟨hx, hy, hl⟩ := alike_iff.1 ha.1
    have HPX := Lib.hid hx
    have HPY := Lib.hid hy
    have HLL := Lib.hid hl.symm
    have HFB := Lib.hid ha.2
    have HW := Lib.hid (prod_way bellN (fun s => (bellN s).toNat) (by decide) bell_mul bell_le (inner xs ys) hsum hpos)
    have hil : 1 ≤ (inner xs ys).length := by
      have := pSize_pos (yBz hy) (yCz hy).1
      rw [inner_length]; omega
    have hil8 : (inner xs ys).length ≤ 8 := by
      have := yGz (yBz hy)
      rw [inner_length]; omega
    clear hf hr hsum hpos ha hx hy hl
    go_enter Tryz.func103, Tryz.ntmps103
    go_wp2_with fail
    refine (sFinerIn_is true _ _ _ _ _ HV.out HU.out HF).mono ?_
    rintro e w1 ⟨rfl, hq⟩
    have hb1 := hq.below
    have HV1 := Lib.hid (yDz HV.out hb1)
    have HU1 := Lib.hid (yDz HU.out hb1)
    clear hq
    go_wp2_with fail
    refine (l2Inner_v _ _ xs ys _ HV1.out HU1.out HPX.out HPY.out HLL.out HFB.out).mono ?_
    rintro e w2 ⟨uv, rfl, ho, hb2⟩
    obtain ⟨g, cap, rfl, hg⟩ := own_slice ho hil
    have hbel := yAz hb1 hb2
    have HO := Lib.hid ho
    obtain ⟨n, hn⟩ : ∃ n, n = (inner xs ys).length := ⟨_, rfl⟩
    rw [← hn] at HO hil hil8 ⊢
    have HN := Lib.hid hn
    clear ho hb1 hb2 hn
    go_wp2
    go_loopw [6, 8] (fun u i wr => ∃ k : Nat, k ≤ n ∧ i = .int .i64 k ∧ u = .int .i64 (prodOf bellN ((inner xs ys).take k)) ∧ Own wr w1.heap.size (.slice (some ⟨g, 0, none⟩) n cap) (inner xs ys) ∧ Below w.heap.size w wr) (fun _ i _ => n - (intOf i).toNat)
    case atStart => exact ⟨0, Nat.zero_le _, rfl, rfl, HO.out, hbel⟩
    case round =>
      obtain ⟨k, hk, rfl, rfl, hown, hbelr⟩ := hrel
      obtain ⟨hp1, hp2, hp3⟩ := HW.out k
      by_cases hlt : k < n
      · obtain ⟨⟨hc1, hc2⟩, hst, s, hs9, hsc, hsF⟩ := hp3 (by rw [← HN.out]; exact hlt)
        have hck := yWz hown k (by rw [← HN.out]; exact hlt)
        have hbl := bell_mul s hs9 ((inner xs ys).getD k 0).toNat (by omega) hsc
        have hbF := bell_le (s + ((inner xs ys).getD k 0).toNat) (by omega)
        obtain ⟨c, hc⟩ : ∃ c, c = (inner xs ys).getD k 0 := ⟨_, rfl⟩
        obtain ⟨x, hx⟩ : ∃ x, x = prodOf bellN ((inner xs ys).take k) := ⟨_, rfl⟩
        rw [← hc] at hc1 hc2 hst hsc hck hbl hbF
        rw [← hx] at hp1 hp2 hst hsF ⊢
        have hmul : (x * bellN c.toNat).natAbs ≤ 40320 := by
          rw [Int.natAbs_mul]
          exact Nat.le_trans (Nat.le_trans (Nat.mul_le_mul_right _ hsF) hbl) hbF
        obtain ⟨b, hb⟩ : ∃ b, b = bellN c.toNat := ⟨_, rfl⟩
        rw [← hb] at hst hmul
        have HB := Lib.hid hb
        have HST := Lib.hid hst
        have HO2 := Lib.hid hown
        have b1 : (k : Int) < n := by omega
        have b2 : IntKind.i64.wrap (x * b) = x * b := IntWalk.i64_in _ (by omega)
        have b3 : wrap64 (x * b) = x * b := by rw [← IntWalk.i64_left]; exact b2
        clear hc hx hb hst hown hp3 hsc hbl hbF hsF hmul
        go_wp2_with fail
        refine (l2Bell_v c _ (by omega) hc2).mono ?_
        rintro e w3 ⟨rfl, hb3⟩
        rw [← HB.out]
        have hbel3 := yAz hbelr hb3
        have HO3 := Lib.hid (own_below HO2.out hb3)
        clear hb3
        go_wp2
        go_roundw
        case rel => exact ⟨k + 1, by omega, by go_num, by rw [HST.out], HO3.out, hbel3⟩
        case measure => simp [intOf]; omega
      · have hkn : k = n := by omega
        subst hkn
        have he : prodOf bellN ((inner xs ys).take k) = prodOf bellN (inner xs ys) := by rw [List.take_of_length_le (by rw [← HN.out]; omega)]
        rw [he]
        clear hp3 he
        go_wp2
        go_ret2
        exact ⟨rfl, hbelr⟩

theorem fA_bd : ∀ k, k < 8 → (fA k : Int) ≤ 5040 := by decide +kernel

set_option maxHeartbeats 1600000 in
theorem l2Factorial_v (c : Nat) (w : World) (h8 : c ≤ 7) : Calls Tryz.prog 166 #[.int .i64 c] w fun e w' => e = .returned (.int .i64 (fA c)) ∧ w = w' := by
  go_enter Tryz.func166, Tryz.ntmps166
  go_wp2
  go_loop [3, 4] (fun u i => ∃ k : Nat, 1 ≤ k ∧ (k ≤ c ∨ k = 1) ∧ i = .int .i64 ((k + 1 : Nat) : Int) ∧ u = .int .i64 (fA k)) (fun _ i => 9 - (intOf i).toNat)
  case atStart => exact ⟨1, by omega, .inr rfl, rfl, rfl⟩
  case round =>
    obtain ⟨k, hk1, hk, rfl, rfl⟩ := hrel
    have hb := fA_bd k (by omega)
    have hst : fA (k + 1) = (k + 1) * fA k := rfl
    obtain ⟨x, hx⟩ : ∃ x, x = fA k := ⟨_, rfl⟩
    rw [← hx] at hb hst ⊢
    have HX := Lib.hid hx
    have HST := Lib.hid hst
    obtain ⟨m, hm⟩ : ∃ m, m = k + 1 := ⟨_, rfl⟩
    rw [← hm] at HST ⊢
    have HM := Lib.hid hm
    by_cases hlt : m ≤ c
    · have hmm : m ≤ 7 := by omega
      have h1 : 0 ≤ (x : Int) * (m : Int) := Int.mul_nonneg (by omega) (by omega)
      have h2 : (x : Int) * (m : Int) ≤ 5040 * 7 := Int.mul_le_mul hb (by omega) (by omega) (by omega)
      have b1 : wrap64 ((x : Int) * (m : Int)) = (x : Int) * (m : Int) := IntWalk.wrap64_in _ (by omega)
      clear hx hst hm h1 h2
      go_wp2
      go_round
      case rel => exact ⟨m, by have := HM.out; omega, .inl hlt, by go_num, by rw [HST.out, Int.natCast_mul, Int.mul_comm (m : Int)]; first | rfl | rw [b1]⟩
      case measure => simp [intOf]; omega
    · have he : fA k = fA c := by
        by_cases h : k = 1
        · subst h
          have : c = 0 ∨ c = 1 := by omega
          rcases this with rfl | rfl <;> decide
        · congr 1; omega
      have HE := Lib.hid he
      clear hx hst hm he
      go_wp2
      go_ret
      exact ⟨yuz (by rw [HX.out, HE.out]), rfl⟩

set_option maxHeartbeats 1600000 in
theorem iFinerSign_v (v u : Value) (xs ys : List Int) (w : World) (hv : RdV w v xs) (hu : RdV w u ys) :
    Calls Tryz.prog 191 #[v, u] w (GivesIB w (finerSign xs ys)) := by
  have HV := Lib.hid hv
  have HU := Lib.hid hu
  clear hv hu
  cases hf : finerIn xs ys
  · have HF := Lib.hid hf
    have hr : finerSign xs ys = (0, false) := by simp [finerSign, hf]
    rw [hr]
    clear hf hr
    go_enter Tryz.func191, Tryz.ntmps191
    go_wp2_with fail
    refine (iFinerIn_is false _ _ _ _ _ HV.out HU.out HF).mono ?_
    rintro e w1 ⟨rfl, hq⟩
    have hb := hq.below
    clear hq
    go_wp2
    go_ret2
    exact ⟨rfl, hb⟩
  · have HF := Lib.hid hf
    have hr : finerSign xs ys = (prodOf sgn (inner xs ys), true) := by simp [finerSign, hf]
    rw [hr]
    obtain ⟨hsum, hpos⟩ := inner_facts hf
    have ha : alike xs ys = true ∧ finerB xs ys = true := by simpa [finerIn] using hf
    obtain ⟨hx, hy, hl⟩ := alike_iff.1 ha.1
    have HPX := Lib.hid hx
    have HPY := Lib.hid hy
    have HLL := Lib.hid hl.symm
    have HFB := Lib.hid ha.2
    have HW := Lib.hid (prod_way sgn fA rfl sgn_mul fA_le (inner xs ys) hsum hpos)
    have hil : 1 ≤ (inner xs ys).length := by
      have := pSize_pos (yBz hy) (yCz hy).1
      rw [inner_length]; omega
    have hil8 : (inner xs ys).length ≤ 8 := by
      have := yGz (yBz hy)
      rw [inner_length]; omega
    clear hf hr hsum hpos ha hx hy hl
    go_enter Tryz.func191, Tryz.ntmps191
    go_wp2_with fail
    refine (iFinerIn_is true _ _ _ _ _ HV.out HU.out HF).mono ?_
    rintro e w1 ⟨rfl, hq⟩
    have hb1 := hq.below
    have HV1 := Lib.hid (yDz HV.out hb1)
    have HU1 := Lib.hid (yDz HU.out hb1)
    clear hq
    go_wp2_with fail
    refine (countsWithin_v _ _ xs ys _ HV1.out HU1.out HPX.out HPY.out HLL.out).mono ?_
    rintro e w2 ⟨uv, rfl, ho, hb2⟩
    obtain ⟨g, cap, rfl, hg⟩ := own_slice ho hil
    have hbel := yAz hb1 hb2
    have HO := Lib.hid ho
    obtain ⟨n, hn⟩ : ∃ n, n = (inner xs ys).length := ⟨_, rfl⟩
    rw [← hn] at HO hil hil8 ⊢
    have HN := Lib.hid hn
    clear ho hb1 hb2 hn
    go_wp2
    go_loopw [6, 18] (fun u i wr => ∃ k : Nat, k ≤ n ∧ i = .int .i64 k ∧ u = .int .i64 (prodOf sgn ((inner xs ys).take k)) ∧ Own wr w1.heap.size (.slice (some ⟨g, 0, none⟩) n cap) (inner xs ys) ∧ Below w.heap.size w wr) (fun _ i _ => n - (intOf i).toNat)
    case atStart => exact ⟨0, Nat.zero_le _, rfl, rfl, HO.out, hbel⟩
    case round =>
      obtain ⟨k, hk, rfl, rfl, hown, hbelr⟩ := hrel
      obtain ⟨hp1, hp2, hp3⟩ := HW.out k
      by_cases hlt : k < n
      · obtain ⟨⟨hc1, hc2⟩, hst, s, hs9, hsc, hsF⟩ := hp3 (by rw [← HN.out]; exact hlt)
        have hck := yWz hown k (by rw [← HN.out]; exact hlt)
        have hbl := sgn_mul s hs9 ((inner xs ys).getD k 0).toNat (by omega) hsc
        have hbF := fA_le (s + ((inner xs ys).getD k 0).toNat) (by omega)
        obtain ⟨c, hc⟩ : ∃ c, c = (inner xs ys).getD k 0 := ⟨_, rfl⟩
        obtain ⟨x, hx⟩ : ∃ x, x = prodOf sgn ((inner xs ys).take k) := ⟨_, rfl⟩
        rw [← hc] at hc1 hc2 hst hsc hck hbl hbF
        rw [← hx] at hp1 hp2 hst hsF ⊢
        have hmul : (x * sgn c.toNat).natAbs ≤ 40320 := by
          rw [Int.natAbs_mul]
          exact Nat.le_trans (Nat.le_trans (Nat.mul_le_mul_right _ hsF) hbl) hbF
        obtain ⟨m, hm⟩ := Int.eq_ofNat_of_zero_le (show 0 ≤ c by omega)
        subst hm
        rw [Int.toNat_natCast] at hst hsc hbl hbF hmul
        have hway : ∀ f, f < m → (x * sgp f).natAbs ≤ 40320 := fun f hf => by
          rw [Int.natAbs_mul]
          exact Nat.le_trans (Nat.mul_le_mul_right _ hsF) (sgp_mul s hs9 m (by omega) hsc f hf)
        have HWAY := Lib.hid hway
        have HST := Lib.hid hst
        have HO2 := Lib.hid hown
        have HX := Lib.hid hx
        have b1 : (k : Int) < n := by omega
        clear hc hx hst hown hp3 hsc hbl hbF hsF hmul hway
        obtain ⟨wo, hwo⟩ : ∃ wo : World, wo = wr := ⟨_, rfl⟩
        subst hwo
        go_wp2
        go_loop [6, 9] (fun u i => ∃ f : Nat, 1 ≤ f ∧ f ≤ m ∧ i = .int .i64 f ∧ u = .int .i64 (x * sgp (f - 1))) (fun _ i => m - (intOf i).toNat)
        case atStart => exact ⟨1, by omega, by omega, rfl, by simp [sgp]⟩
        case round =>
          obtain ⟨f, hf1, hfm, rfl, rfl⟩ := hrel
          have hw0 := HWAY.out (f - 1) (by omega)
          by_cases hlt2 : f < m
          · have hw1 := HWAY.out f hlt2
            have hsf : x * sgp f = x * sgp (f - 1) * -(f : Int) := by
              obtain ⟨e, rfl⟩ : ∃ e, f = e + 1 := ⟨f - 1, by omega⟩
              rw [sgp, Int.mul_assoc]
              rfl
            rw [hsf] at hw1
            obtain ⟨y, hy⟩ : ∃ y, y = x * sgp (f - 1) := ⟨_, rfl⟩
            rw [← hy] at hw0 hw1 hsf ⊢
            have HSF := Lib.hid hsf
            have b4 : wrap64 (y * -(f : Int)) = y * -(f : Int) := IntWalk.wrap64_in _ (by omega)
            clear hy hsf
            go_wp2
            go_round
            case rel => exact ⟨f + 1, by omega, by omega, by go_num, by rw [Nat.add_sub_cancel, HSF.out]⟩
            case measure => simp [intOf]; omega
          · have hfm : f = m := by omega
            subst hfm
            go_wp2
            go_roundw
            case rel => exact ⟨k + 1, by omega, by go_num, by rw [HST.out]; rfl, HO2.out, hbelr⟩
            case measure => simp [intOf]; omega
      · have hkn : k = n := by omega
        subst hkn
        have he : prodOf sgn ((inner xs ys).take k) = prodOf sgn (inner xs ys) := by rw [List.take_of_length_le (by rw [← HN.out]; omega)]
        rw [he]
        clear hp3 he
        go_wp2
        go_ret2
        exact ⟨rfl, hbelr⟩

theorem sgn_fA : ∀ m, m < 9 → 1 ≤ m → sgn m = if m % 2 = 0 then -(fA (m - 1) : Int) else (fA (m - 1) : Int) := by decide +kernel

set_option maxHeartbeats 1600000 in
theorem sFinerSign_v (v u : Value) (xs ys : List Int) (w : World) (hv : RdV w v xs) (hu : RdV w u ys) :
    Calls Tryz.prog 102 #[v, u] w (GivesIB w (finerSign xs ys)) := by
  have HV := Lib.hid hv
  have HU := Lib.hid hu
  clear hv hu
  cases hf : finerIn xs ys
  · have HF := Lib.hid hf
    have hr : finerSign xs ys = (0, false) := by simp [finerSign, hf]
    rw [hr]
    clear hf hr
    go_enter Tryz.func102, Tryz.ntmps102
    go_wp2_with fail
    refine (sFinerIn_is false _ _ _ _ _ HV.out HU.out HF).mono ?_
    rintro e w1 ⟨rfl, hq⟩
    have hb := hq.below
    clear hq
    go_wp2
    go_ret2
    exact ⟨rfl, hb⟩
  · have HF := Lib.hid hf
    have hr : finerSign xs ys = (prodOf sgn (inner xs ys), true) := by simp [finerSign, hf]
    rw [hr]
    obtain ⟨hsum, hpos⟩ := inner_facts hf
    have ha : alike xs ys = true ∧ finerB xs ys = true := by simpa [finerIn] using hf
    obtain ⟨hx, hy, hl⟩ := alike_iff.1 ha.1
    have HPX := Lib.hid hx
    have HPY := Lib.hid hy
    have HLL := Lib.hid hl.symm
    have HFB := Lib.hid ha.2
    have HW := Lib.hid (prod_way sgn fA rfl sgn_mul fA_le (inner xs ys) hsum hpos)
    have hil : 1 ≤ (inner xs ys).length := by
      have := pSize_pos (yBz hy) (yCz hy).1
      rw [inner_length]; omega
    have hil8 : (inner xs ys).length ≤ 8 := by
      have := yGz (yBz hy)
      rw [inner_length]; omega
    clear hf hr hsum hpos ha hx hy hl
    go_enter Tryz.func102, Tryz.ntmps102
    go_wp2_with fail
    refine (sFinerIn_is true _ _ _ _ _ HV.out HU.out HF).mono ?_
    rintro e w1 ⟨rfl, hq⟩
    have hb1 := hq.below
    have HV1 := Lib.hid (yDz HV.out hb1)
    have HU1 := Lib.hid (yDz HU.out hb1)
    clear hq
    go_wp2_with fail
    refine (l2Inner_v _ _ xs ys _ HV1.out HU1.out HPX.out HPY.out HLL.out HFB.out).mono ?_
    rintro e w2 ⟨uv, rfl, ho, hb2⟩
    obtain ⟨g, cap, rfl, hg⟩ := own_slice ho hil
    have hbel := yAz hb1 hb2
    have HO := Lib.hid ho
    obtain ⟨n, hn⟩ : ∃ n, n = (inner xs ys).length := ⟨_, rfl⟩
    rw [← hn] at HO hil hil8 ⊢
    have HN := Lib.hid hn
    clear ho hb1 hb2 hn
    go_wp2
    go_loopw [6, 8] (fun u i wr => ∃ k : Nat, k ≤ n ∧ i = .int .i64 k ∧ u = .int .i64 (prodOf sgn ((inner xs ys).take k)) ∧ Own wr w1.heap.size (.slice (some ⟨g, 0, none⟩) n cap) (inner xs ys) ∧ Below w.heap.size w wr) (fun _ i _ => n - (intOf i).toNat)
    case atStart => exact ⟨0, Nat.zero_le _, rfl, rfl, HO.out, hbel⟩
    case round =>
      obtain ⟨k, hk, rfl, rfl, hown, hbelr⟩ := hrel
      obtain ⟨hp1, hp2, hp3⟩ := HW.out k
      by_cases hlt : k < n
      · obtain ⟨⟨hc1, hc2⟩, hst, s, hs9, hsc, hsF⟩ := hp3 (by rw [← HN.out]; exact hlt)
        have hck := yWz hown k (by rw [← HN.out]; exact hlt)
        have hbl := sgn_mul s hs9 ((inner xs ys).getD k 0).toNat (by omega) hsc
        have hbF := fA_le (s + ((inner xs ys).getD k 0).toNat) (by omega)
        obtain ⟨c, hc⟩ : ∃ c, c = (inner xs ys).getD k 0 := ⟨_, rfl⟩
        obtain ⟨x, hx⟩ : ∃ x, x = prodOf sgn ((inner xs ys).take k) := ⟨_, rfl⟩
        rw [← hc] at hc1 hc2 hst hsc hck hbl hbF
        rw [← hx] at hp1 hp2 hst hsF ⊢
        have hmul : (x * sgn c.toNat).natAbs ≤ 40320 := by
          rw [Int.natAbs_mul]
          exact Nat.le_trans (Nat.le_trans (Nat.mul_le_mul_right _ hsF) hbl) hbF
        obtain ⟨m, hm⟩ := Int.eq_ofNat_of_zero_le (show 0 ≤ c by omega)
        subst hm
        rw [Int.toNat_natCast] at hst hsc hbl hbF hmul
        have hfa : sgn m = if m % 2 = 0 then -(fA (m - 1) : Int) else (fA (m - 1) : Int) := sgn_fA m (by omega) (by omega)
        obtain ⟨z, hz⟩ : ∃ z, z = fA (m - 1) := ⟨_, rfl⟩
        rw [← hz] at hfa
        have hmz : (x * (z : Int)).natAbs ≤ 40320 := by
          have : (x * (z : Int)).natAbs = (x * sgn m).natAbs := by
            rw [hfa]
            split
            · rw [Int.mul_neg, Int.natAbs_neg]
            · rfl
          rw [this]
          exact hmul
        have HZ := Lib.hid hz
        have HFA := Lib.hid hfa
        have HST := Lib.hid hst
        have HO2 := Lib.hid hown
        have HX := Lib.hid hx
        have b1 : (k : Int) < n := by omega
        have b2 : wrap64 (x * (z : Int)) = x * (z : Int) := IntWalk.wrap64_in _ (by omega)
        have b3 : wrap64 (-(x * (z : Int))) = -(x * (z : Int)) := IntWalk.wrap64_in _ (by omega)
        have b4 : wrap64 (0 - x * (z : Int)) = -(x * (z : Int)) := by rw [IntWalk.wrap64_in _ (by omega)]; omega
        clear hc hx hst hown hp3 hsc hbl hbF hsF hmul hz hfa
        by_cases hev : m % 2 = 0
        · have b5 : ((m : Int) % 2 == 0) = true := by simp; omega
          have b6 : ((m : Int).tmod 2 == 0) = true := by rw [Int.tmod_eq_emod_of_nonneg (by omega)]; exact b5
          have HEV := Lib.hid hev
          clear hev
          go_wp2_with fail
          rw [show (m : Int) - 1 = ((m - 1 : Nat) : Int) by omega]
          refine (l2Factorial_v _ _ (by omega)).mono ?_
          rintro e w3 ⟨rfl, rfl⟩
          rw [← HZ.out]
          go_wp2
          go_roundw
          case rel => exact ⟨k + 1, by omega, by go_num, by rw [HST.out, HFA.out, if_pos HEV.out, Int.mul_neg], HO2.out, hbelr⟩
          case measure => simp [intOf]; omega
        · have b5 : ((m : Int) % 2 == 0) = false := by simp; omega
          have b6 : ((m : Int).tmod 2 == 0) = false := by rw [Int.tmod_eq_emod_of_nonneg (by omega)]; exact b5
          have HEV := Lib.hid hev
          clear hev
          go_wp2_with fail
          rw [show (m : Int) - 1 = ((m - 1 : Nat) : Int) by omega]
          refine (l2Factorial_v _ _ (by omega)).mono ?_
          rintro e w3 ⟨rfl, rfl⟩
          rw [← HZ.out]
          go_wp2
          go_roundw
          case rel => exact ⟨k + 1, by omega, by go_num, by rw [HST.out, HFA.out, if_neg HEV.out], HO2.out, hbelr⟩
          case measure => simp [intOf]; omega
      · have hkn : k = n := by omega
        subst hkn
        have he : prodOf sgn ((inner xs ys).take k) = prodOf sgn (inner xs ys) := by rw [List.take_of_length_le (by rw [← HN.out]; omega)]
        rw [he]
        clear hp3 he
        go_wp2
        go_ret2
        exact ⟨rfl, hbelr⟩
end

end Go.Proofs.YtmflecemkodklaaGreatDoor
