/-
  The contracts of spec.l1Blocks, spec.l1Type and spec.PartType.
-/
import Derived.Test.YtdeeeiimlcggpaaSortMath
import Derived.Test.YtdeeeiimlcggpaaMat
import Derived.Deep.RegionHeld3
namespace Go.Proofs.Ytdeeeiimlcggpaa
set_option linter.unusedSimpArgs false
set_option linter.unusedVariables false
set_option linter.unnecessarySimpa false
open Go.RowKit

/-- The things below k in the block b. -/
def blkAt (xs : List Int) (b : Nat) : Nat → List Int
  | 0 => []
  | k + 1 => if xs.getD k 0 = b then blkAt xs b k ++ [(k : Int)] else blkAt xs b k

theorem blkAt_length (xs : List Int) (b k : Nat) : (blkAt xs b k).length = cntAt xs b k := by
  induction k with
  | zero => rfl
  | succ k ih =>
    unfold blkAt cntAt
    split
    · simp [ih]
    · exact ih

theorem cntAt_le (xs : List Int) (b k : Nat) : cntAt xs b k ≤ k := by
  induction k with
  | zero => exact Nat.le_refl _
  | succ k ih => unfold cntAt; split <;> omega

/-- The blocks below p, as lists. -/
def blocksTo (xs : List Int) (p : Nat) : List (List Int) := (List.range p).map fun b => blkAt xs b xs.length

theorem blocksTo_length (xs : List Int) (p : Nat) : (blocksTo xs p).length = p := by simp [blocksTo]
theorem blocksTo_succ (xs : List Int) (p : Nat) : blocksTo xs (p + 1) = blocksTo xs p ++ [blkAt xs p xs.length] := by simp [blocksTo, List.range_succ]
theorem blocksTo_getD (xs : List Int) (p b : Nat) (h : b < p) : (blocksTo xs p).getD b [] = blkAt xs b xs.length := by simp [blocksTo, List.getD, h]

theorem l1Size_v (v : Value) (xs : List Int) (w : World) (hv : RdV w v xs) (hs : Small xs) : Calls Try.prog 42 #[v] w fun e w' => e = .returned (.int .i64 (pSize xs)) ∧ w = w' := by
  obtain ⟨ao, ca, rfl, h, h1, h2⟩ := hv
  unfold maxLen at h2
  exact l1Size_any ao ca xs w h (by omega) hs

set_option maxRecDepth 100000 in
set_option maxHeartbeats 4000000 in
theorem l1Blocks_v (v : Value) (xs : List Int) (p : Nat) (w : World) (hv : RdV w v xs) (hp : partIn xs = true) (hps : pSize xs = p) :
    Calls Try.prog 31 #[v] w (FreshM w (blocksTo xs p)) := by
  have hv0 := hv
  obtain ⟨ao, ca, rfl, h, h1, h2⟩ := hv
  have HV := Lib.hid hv0
  have hl := partIn_len hp
  have hsm := partIn_small hp
  have hbd := pSize_bd hsm
  rw [hps] at hbd
  have HPS := Lib.hid hps
  have HSM := Lib.hid hsm
  have HX := Lib.hid h
  obtain ⟨n, hn⟩ : ∃ n, n = xs.length := ⟨_, rfl⟩
  rw [← hn] at hl HV ⊢
  have HN := Lib.hid hn
  clear hv0 h hp hps hsm hn
  obtain ⟨hl1, hl8⟩ := hl
  go_enter Try.func31, Try.ntmps31
  go_wp2
  go_loopw [3, 4] (fun u i wr => ∃ k g cap : Nat, k ≤ p ∧ i = .int .i64 k ∧ u = .slice (some ⟨g, 0, none⟩) k cap ∧ OwnM wr w.heap.size wr.heap.size (.slice (some ⟨g, 0, none⟩) k cap) (blocksTo xs k) ∧ Below w.heap.size w wr)
    (fun _ i _ => p - (intOf i).toNat)
  case atStart => exact ⟨0, w.heap.size, 0, Nat.zero_le _, rfl, rfl, by simpa [blocksTo] using ownM_empty w _ (Nat.le_refl _), (Below.refl _ _).alloc (Nat.le_refl _) _⟩
  case round =>
    obtain ⟨k, g, cap, hk, rfl, rfl, hown, hbel⟩ := hrel
    have HO := Lib.hid hown
    have hB := hbel.size
    clear hown
    by_cases hlt : k < p
    · rcases HX.out with hx | ⟨bb, off, rfl, hcx⟩
      · have := HN.out
        rw [hx] at this
        simp at this
        omega
      · obtain ⟨wo, hwo⟩ : ∃ wo : World, wo = wr := ⟨_, rfl⟩
        subst hwo
        have HC := Lib.hid (fun j (hj : j < n) => show wo.cell? ⟨bb, off + j, none⟩ = some (.int .i64 (xs.getD j 0)) by
          have := hcx j (by have := HN.out; omega)
          rw [hbel.cell (World.block_lt_of_cell? w _ this)]
          exact this)
        clear hcx
        go_wp2_with fail
        refine (l1Size_v _ xs _ (rdv_below HV.out hbel) HSM.out).mono ?_
        rintro e w' ⟨rfl, rfl⟩
        rw [HPS.out]
        go_wp2
        go_loopw [5, 6] (fun u i wi => ∃ j g2 m cap2 : Nat, j ≤ n ∧ i = .int .i64 j ∧ u = .slice (some ⟨g2, 0, none⟩) m cap2 ∧ m = (blkAt xs k j).length ∧ Own wi wo.heap.size (.slice (some ⟨g2, 0, none⟩) m cap2) (blkAt xs k j) ∧ Below wo.heap.size wo wi)
          (fun _ i _ => n - (intOf i).toNat)
        case atStart => exact ⟨0, wo.heap.size, 0, 0, Nat.zero_le _, rfl, rfl, rfl, own_empty wo _ (Nat.le_refl _), (Below.refl _ _).alloc (Nat.le_refl _) _⟩
        case round =>
          obtain ⟨j, g2, m, cap2, hj, rfl, rfl, hm, hob, hbi⟩ := hrel
          have HM := Lib.hid hm
          have HOB := Lib.hid hob
          have hBi := hbi.size
          have hmj : m ≤ j := by rw [hm, blkAt_length]; exact cntAt_le xs k j
          clear hm hob
          by_cases hjn : j < n
          · have hcj := HC.out j hjn
            rw [← hbi.cell (World.block_lt_of_cell? wo _ hcj)] at hcj
            obtain ⟨x, hx⟩ : ∃ x, x = xs.getD j 0 := ⟨_, rfl⟩
            rw [← hx] at hcj
            have HXJ := Lib.hid hx
            clear hx
            by_cases hxk : x = (k : Int)
            · have hd : (x == (k : Int)) = true := by simpa using hxk
              have HXK := Lib.hid hxk
              clear hxk
              go_wp2_with (at_builtin; refine wpList_push rfl _ _ rfl wo.heap.size g2 m cap2 (blkAt xs k j) rfl (own_alloc HOB.out _) HM.out ⟨wr.heap.size, 0, none⟩ rfl (j : Int) (cell_new1 _ _ _) (by omega) (by simp; omega) ?_)
              intro g3 cap3 w3 hown3 hgr3 hg3
              have hbi3 : Below wo.heap.size wo w3 := (hbi.alloc hBi _).grown hgr3 (by simp; omega) (fun q hq => by cases hq; exact (own_lt HOB.out g2 rfl).1)
              have HO3 := Lib.hid hown3
              clear hown3 hgr3 hg3
              go_wp2
              go_roundw
              case rel =>
                have e : blkAt xs k (j + 1) = blkAt xs k j ++ [(j : Int)] := by rw [blkAt, if_pos (by rw [← HXJ.out]; exact HXK.out)]
                exact ⟨j + 1, g3, m + 1, cap3, by omega, by go_num, rfl, by rw [e]; simp; exact HM.out, by rw [e]; exact HO3.out, hbi3⟩
              case measure => simp [intOf]; omega
            · have hd : (x == (k : Int)) = false := by simpa using hxk
              have HXK := Lib.hid hxk
              clear hxk
              go_wp2
              go_roundw
              case rel =>
                have e : blkAt xs k (j + 1) = blkAt xs k j := by rw [blkAt, if_neg (by rw [← HXJ.out]; exact HXK.out)]
                exact ⟨j + 1, g2, m, cap2, by omega, by go_num, rfl, by rw [e]; exact HM.out, by rw [e]; exact HOB.out, hbi⟩
              case measure => simp [intOf]; omega
          · have hjn : j = n := by omega
            subst hjn
            have HOi := Lib.hid (ownM_below HO.out hbi)
            have hui := inB_of_own HOB.out
            have hbw : Below w.heap.size w wr := below_step hbel hbi
            have hown0 : Own wr w.heap.size (.slice (some ⟨g2, 0, none⟩) m cap2) (blkAt xs k j) := own_mono HOB.out hB
            have HO0 := Lib.hid hown0
            have HUI := Lib.hid hui
            have hgl := own_lt HOB.out g2 rfl
            clear hown0 hui
            go_wp2_with (at_builtin; refine wpList_pushM rfl _ _ rfl w.heap.size wo.heap.size g k cap (blocksTo xs k) rfl (ownM_below HOi.out (by exact (Below.refl _ _).alloc (Nat.le_refl _) _)) (by rw [blocksTo_length]) ⟨wr.heap.size, 0, none⟩ rfl (.slice (some ⟨g2, 0, none⟩) m cap2) (blkAt xs k j) (cell_new1 _ _ _) (own_alloc HO0.out _) (fun q hq => by cases hq; simp; omega) hB (by simp; omega) (by omega) (k + 1) rfl ?_)
            intro g4 cap4 w4 hown4 hgr4
            have hbel4 : Below w.heap.size w w4 := (hbw.alloc (by omega) _).grown hgr4 (by simp; omega) (fun q hq => by
              cases hq
              obtain ⟨vs, _, hv, _⟩ := ownM_parts HO.out
              rcases hv with ⟨h, _⟩ | ⟨g', cap', h, hb, _⟩
              · cases h
              · simp only [Value.slice.injEq, Option.some.injEq, Addr.mk.injEq, and_true, true_and] at h
                omega)
            have HO4 := Lib.hid hown4
            clear hown4 hgr4
            go_wp2
            go_roundw
            case rel => exact ⟨k + 1, g4, cap4, by omega, by go_num, rfl, by rw [blocksTo_succ, ← HN.out]; exact HO4.out, hbel4⟩
            case measure => simp [intOf]; omega
    · have hkp : k = p := by omega
      subst hkp
      go_wp2_with fail
      refine (l1Size_v _ xs _ (rdv_below HV.out hbel) HSM.out).mono ?_
      rintro e w' ⟨rfl, rfl⟩
      rw [HPS.out]
      go_wp2
      go_ret
      exact ⟨_, rfl, HO.out, hbel⟩

theorem sizes_eq (xs : List Int) (p k : Nat) (hp : pSize xs = p) (hk : k < p) : (sizes xs).getD k 0 = ((blocksTo xs p).getD k []).length := by
  rw [blocksTo_getD xs p k hk, blkAt_length]
  simp [sizes, List.getD, show k < (pSize xs).toNat by omega]

theorem fold_take_snoc (l : List Int) (k : Nat) (h : k < l.length) : (l.take (k + 1)).foldl insDesc [] = insDesc ((l.take k).foldl insDesc []) (l.getD k 0) := by
  rw [take_snoc l k h, List.foldl_append]
  rfl

theorem fold_length (l : List Int) : (l.foldl insDesc []).length = l.length := by rw [fold_desc, desc_length]

theorem cells_one {w : World} {ad : Addr} {x : Int} (h : w.cell? ad = some (.int .i64 x)) : ∀ j, j < [x].length → w.cell? (ad.add j) = some (.int .i64 ([x].getD j 0)) := by
  intro j hj
  have : j = 0 := by simpa using hj
  subst this
  simpa [Addr.add] using h

theorem cells_takeW {wo w : World} {g j : Nat} {L : List Int} (h : ∀ r, r < L.length → wo.cell? ⟨g, r, none⟩ = some (.int .i64 (L.getD r 0))) (hb : Below wo.heap.size wo w) : ∀ r, r < (L.take j).length → w.cell? ((⟨g, 0, none⟩ : Addr).add r) = some (.int .i64 ((L.take j).getD r 0)) := by
  intro r hr
  have h1 : r < j ∧ r < L.length := by simp at hr; omega
  rw [Addr.add_lit, Nat.zero_add, hb.cell (World.block_lt_of_cell? wo _ (h r h1.2)), h r h1.2]
  simp [List.getD, List.getElem?_take, h1.1]

theorem cells_dropW {wo w : World} {g j : Nat} {L : List Int} (h : ∀ r, r < L.length → wo.cell? ⟨g, r, none⟩ = some (.int .i64 (L.getD r 0))) (hb : Below wo.heap.size wo w) : ∀ r, r < (L.drop j).length → w.cell? ((⟨g, j, none⟩ : Addr).add r) = some (.int .i64 ((L.drop j).getD r 0)) := by
  intro r hr
  have h1 : j + r < L.length := by simp at hr; omega
  rw [Addr.add_lit, hb.cell (World.block_lt_of_cell? wo _ (h (j + r) h1)), h (j + r) h1]
  simp [List.getD]

theorem cells_drop0 {wo w : World} {g : Nat} {L : List Int} (h : ∀ r, r < L.length → wo.cell? ⟨g, r, none⟩ = some (.int .i64 (L.getD r 0))) (hb : Below wo.heap.size wo w) : ∀ r, r < (L.drop 0).length → w.cell? ((⟨g, 0, none⟩ : Addr).add r) = some (.int .i64 ((L.drop 0).getD r 0)) := cells_dropW h hb

set_option maxRecDepth 100000 in
set_option maxHeartbeats 4000000 in
theorem l1Type_v (v : Value) (xs : List Int) (w : World) (hv : RdV w v xs) (hp : partIn xs = true) : Calls Try.prog 15 #[v] w (FreshL w (desc (sizes xs))) := by
  have HV := Lib.hid hv
  have hsm := partIn_small hp
  have hbd := pSize_bd hsm
  obtain ⟨p, hps⟩ := Int.eq_ofNat_of_zero_le hbd.1
  rw [hps] at hbd
  have HPS := Lib.hid hps
  have HP := Lib.hid hp
  have hsl : (sizes xs).length = p := by rw [sizes_length]; omega
  have HSL := Lib.hid hsl
  clear hv hp hps hsm hsl
  go_enter Try.func15, Try.ntmps15
  go_wp2_with fail
  refine (l1Blocks_v _ xs p _ (rdv_below HV.out ((Below.refl _ _).alloc (Nat.le_refl _) _)) HP.out HPS.out).mono ?_
  rintro e w1 ⟨u, he, hu, hb1⟩
  obtain ⟨vs, hvl, hparts, _⟩ := ownM_parts hu
  have hp1 : 1 ≤ p := by
    have := pSize_pos (partIn_small HP.out) (partIn_len HP.out).1
    have := HPS.out
    omega
  rcases hparts with ⟨_, hnil⟩ | ⟨gb, capb, rfl, _⟩
  · have := congrArg List.length hnil
    rw [blocksTo_length] at this
    simp at this
    omega
  subst he
  rw [blocksTo_length] at hu ⊢
  have HO0 := Lib.hid (own_below (own_empty w w.heap.size (Nat.le_refl _)) hb1)
  have hbel1 : Below w.heap.size w w1 := below_step ((Below.refl _ _).alloc (Nat.le_refl _) _) hb1
  have HU := Lib.hid hu
  simp at hb1
  clear hu hvl
  go_wp2
  go_loopw [3, 5] (fun u i wr => ∃ k g cap : Nat, k ≤ p ∧ i = .int .i64 k ∧ u = .slice (some ⟨g, 0, none⟩) k cap ∧ Own wr w.heap.size (.slice (some ⟨g, 0, none⟩) k cap) (((sizes xs).take k).foldl insDesc []) ∧ OwnM wr (w.heap.size + 1) w1.heap.size (.slice (some ⟨gb, 0, none⟩) p capb) (blocksTo xs p) ∧ Below w.heap.size w wr ∧ w1.heap.size ≤ wr.heap.size)
    (fun _ i _ => p - (intOf i).toNat)
  case atStart => exact ⟨0, w.heap.size, 0, Nat.zero_le _, rfl, rfl, by simpa using HO0.out, by simpa using HU.out, hbel1, Nat.le_refl _⟩
  case round =>
    obtain ⟨k, g, cap, hk, rfl, rfl, hown, hu, hbel, hsz⟩ := hrel
    by_cases hlt : k < p
    · obtain ⟨z, hz, hoz, hiz⟩ := ownM_cell hu k (by rw [blocksTo_length]; exact hlt)
      obtain ⟨zo, zc, rfl, _⟩ := own_rd hoz
      have hse := sizes_eq xs p k HPS.out hlt
      have hft := fold_take_snoc (sizes xs) k (by rw [HSL.out]; exact hlt)
      rw [hse] at hft
      obtain ⟨m, hm⟩ : ∃ m, m = ((blocksTo xs p).getD k []).length := ⟨_, rfl⟩
      rw [← hm] at hft hz
      have hm8 : m ≤ 8 := by
        have := (partIn_len HP.out).2
        have := cntAt_le xs k xs.length
        rw [hm, blocksTo_getD xs p k hlt, blkAt_length]
        omega
      obtain ⟨L, hL⟩ : ∃ L, L = ((sizes xs).take k).foldl insDesc [] := ⟨_, rfl⟩
      rw [← hL] at hown hft
      have hLk : L.length = k := by rw [hL, fold_length]; have := HSL.out; simp; omega
      have HO := Lib.hid hown
      have HUr := Lib.hid hu
      have HFT := Lib.hid hft
      have HLK := Lib.hid hLk
      have hcapk : k ≤ cap := by
        rcases own_view hown with ⟨h, _⟩ | ⟨g', cap', h, _, _, h3, _⟩
        · cases h
        · simp only [Value.slice.injEq] at h
          omega
      have hgl := own_lt hown g rfl
      have hB := hbel.size
      clear hown hu hse hft hm hL hLk hoz hiz
      obtain ⟨wo, hwo⟩ : ∃ wo : World, wo = wr := ⟨_, rfl⟩
      subst hwo
      go_wp2
      go_loop [7] (fun i => ∃ j : Nat, j ≤ k ∧ i = .int .i64 j ∧ posFrom L m k = posFrom L m j) (fun i => (intOf i).toNat)
      case atStart => exact ⟨k, Nat.le_refl _, rfl, rfl⟩
      case round =>
        obtain ⟨j, hj, rfl, hpos⟩ := hrel
        have HPOS := Lib.hid hpos
        clear hpos
        have hdone : (j = 0 ∨ ∃ q, j = q + 1 ∧ ¬ L.getD q 0 < m) ∨ ∃ q, j = q + 1 ∧ L.getD q 0 < m := by
          cases j with
          | zero => exact .inl (.inl rfl)
          | succ q =>
            by_cases h : L.getD q 0 < m
            · exact .inr ⟨q, rfl, h⟩
            · exact .inl (.inr ⟨q, rfl, h⟩)
        rcases hdone with hdone | ⟨q, rfl, hq⟩
        · have hpj : posFrom L m k = j := by
            rw [HPOS.out]
            rcases hdone with rfl | ⟨q, rfl, hq⟩
            · rfl
            · rw [posFrom, if_neg hq]
          have hpl : insDesc L m = L.take j ++ ((m : Int) :: L.drop j) := by unfold insDesc; rw [HLK.out, hpj]
          have HPL := Lib.hid hpl
          have F1 : Own (wo.alloc (.cells #[] 3)) wo.heap.size (.slice (some ⟨wo.heap.size, 0, none⟩) 0 0) [] := own_empty wo _ (Nat.le_refl _)
          have F2 : Own ((wo.alloc (.cells #[] 3)).alloc (.cells #[.int .i64 (m : Int)] 3)) wo.heap.size (.slice (some ⟨wo.heap.size, 0, none⟩) 0 0) [] := own_alloc F1 _
          have F3 : Own ((wo.alloc (.cells #[.int .i64 (m : Int)] 3)).alloc (.cells #[] 3)) wo.heap.size (.slice (some ⟨wo.heap.size + 1, 0, none⟩) 0 0) [] := by
            have := own_empty (wo.alloc (.cells #[.int .i64 (m : Int)] 3)) wo.heap.size (by simp)
            simpa using this
          have hW1 : Below wo.heap.size wo (wo.alloc (.cells #[] 3)).drew := ((Below.refl _ wo).alloc (Nat.le_refl _) _).drew
          have hW2 : Below wo.heap.size wo ((wo.alloc (.cells #[] 3)).alloc (.cells #[.int .i64 (m : Int)] 3)).drew := (((Below.refl _ wo).alloc (Nat.le_refl _) _).alloc (by simp) _).drew
          have hW3 : Below wo.heap.size wo ((wo.alloc (.cells #[.int .i64 (m : Int)] 3)).alloc (.cells #[] 3)).drew := (((Below.refl _ wo).alloc (Nat.le_refl _) _).alloc (by simp) _).drew
          have V2 : ((wo.alloc (.cells #[] 3)).alloc (.cells #[.int .i64 (m : Int)] 3)).drew.cell? ⟨wo.heap.size + 1, 0, none⟩ = some (.int .i64 (m : Int)) := by
            have := cell_new1 (wo.alloc (.cells #[] 3)) (.int .i64 (m : Int)) 3
            simpa using this
          have V3 : ((wo.alloc (.cells #[.int .i64 (m : Int)] 3)).alloc (.cells #[] 3)).drew.cell? ⟨wo.heap.size, 0, none⟩ = some (.int .i64 (m : Int)) := by
            have h := cell_new1 wo (.int .i64 (m : Int)) 3
            show ((wo.alloc (.cells #[.int .i64 (m : Int)] 3)).alloc (.cells #[] 3)).cell? ⟨wo.heap.size, 0, none⟩ = _
            rw [World.cell?_alloc_past _ _ _ (by simp)]
            exact h
          have HF1 := Lib.hid F1
          have HF2 := Lib.hid F2
          have HF3 := Lib.hid F3
          have HW1 := Lib.hid hW1
          have HW2 := Lib.hid hW2
          have HW3 := Lib.hid hW3
          have HV2 := Lib.hid V2
          have HV3 := Lib.hid V3
          have HCC := Lib.hid (fun r (hr : r < L.length) => own_cell HO.out r hr)
          have hb0 : (0 : Int) ≤ (j : Int) := by omega
          have hb1 : (j : Int) ≤ (cap : Int) := by omega
          have hb2 : (j : Int) ≤ (k : Int) := by omega
          have hb3 : (k : Int) ≤ (cap : Int) := by omega
          clear F1 F2 F3 hW1 hW2 hW3 V2 V3 hpl hpj
          rcases hdone with rfl | ⟨q, hjq, hq⟩
          · go_wp2
            go_region_held3 (fun w' => True) (trivial) (first | (refine step_cat rfl _ _ (by rfl) wo.heap.size g3 (0 + 1) cap3 (L.take 0 ++ [(m : Int)]) (by rfl) HO3.out (by rw [List.length_append, List.length_take, HLK.out]; simp <;> omega) ⟨g, 0, none⟩ k _ (by rfl) (L.drop 0) (by rw [List.length_drop, HLK.out] <;> omega) (cells_drop0 HCC.out hbw3) (by omega) hbw3.size (k + 1) (by omega) ?_; intro g4 cap4 w4 hown4 hgr4 hg4; have HO4 := Lib.hid hown4; have hbw4 := hbw3.grown hgr4 hbw3.size (fun q hq => by cases hq; exact (own_lt HO3.out g3 rfl).1); clear hown4 hgr4 hg4) | (refine step_cat rfl _ _ (by rfl) wo.heap.size g2 0 cap2 (L.take 0) (by rfl) (own_alloc HO2.out _) (by rw [List.length_take, HLK.out]; omega) ⟨w2.heap.size, 0, none⟩ 1 1 (by rfl) [(m : Int)] rfl (cells_one (cell_new1 _ _ _)) (by omega) (by have := hbw2.size; simp; omega) (0 + 1) rfl ?_; intro g3 cap3 w3 hown3 hgr3 hg3; have HO3 := Lib.hid hown3; have hbw3 := (hbw2.alloc hbw2.size _).grown hgr3 (by have := hbw2.size; simp; omega) (fun q hq => by cases hq; exact (own_lt HO2.out g2 rfl).1); clear hown3 hgr3 hg3) | (refine step_cat rfl _ _ (by rfl) wo.heap.size g2 0 cap2 (L.take 0) (by rfl) HO2.out (by rw [List.length_take, HLK.out]; omega) ⟨wo.heap.size + 1, 0, none⟩ 1 1 (by rfl) [(m : Int)] rfl (cells_one hcv) (by omega) hbw2.size (0 + 1) rfl ?_; intro g3 cap3 w3 hown3 hgr3 hg3; have HO3 := Lib.hid hown3; have hbw3 := hbw2.grown hgr3 hbw2.size (fun q hq => by cases hq; exact (own_lt HO2.out g2 rfl).1); clear hown3 hgr3 hg3) | (refine step_cat rfl _ _ (by rfl) wo.heap.size g2 0 cap2 (L.take 0) (by rfl) HO2.out (by rw [List.length_take, HLK.out]; omega) ⟨wo.heap.size, 0, none⟩ 1 1 (by rfl) [(m : Int)] rfl (cells_one hcv) (by omega) hbw2.size (0 + 1) rfl ?_; intro g3 cap3 w3 hown3 hgr3 hg3; have HO3 := Lib.hid hown3; have hbw3 := hbw2.grown hgr3 hbw2.size (fun q hq => by cases hq; exact (own_lt HO2.out g2 rfl).1); clear hown3 hgr3 hg3) | (refine step_cat rfl _ _ (by rfl) wo.heap.size wo.heap.size 0 0 [] (by rfl) HF1.out rfl ⟨g, 0, none⟩ 0 _ (by rfl) (L.take 0) (by rw [List.length_take, HLK.out]; omega) (cells_takeW HCC.out HW1.out) (by omega) HW1.out.size 0 (by omega) ?_; intro g2 cap2 w2 hown2 hgr2 hg2; rw [List.nil_append] at hown2; have HO2 := Lib.hid hown2; have hbw2 := HW1.out.grown hgr2 HW1.out.size (fun q hq => by cases hq; omega); clear hown2 hgr2 hg2) | (refine step_cat rfl _ _ (by rfl) wo.heap.size wo.heap.size 0 0 [] (by rfl) HF2.out rfl ⟨g, 0, none⟩ 0 _ (by rfl) (L.take 0) (by rw [List.length_take, HLK.out]; omega) (cells_takeW HCC.out HW2.out) (by omega) HW2.out.size 0 (by omega) ?_; intro g2 cap2 w2 hown2 hgr2 hg2; rw [List.nil_append] at hown2; have HO2 := Lib.hid hown2; have hbw2 := HW2.out.grown hgr2 HW2.out.size (fun q hq => by cases hq; omega); have hcv := hgr2.cell HV2.out (by simp); clear hown2 hgr2 hg2) | (refine step_cat rfl _ _ (by rfl) wo.heap.size (wo.heap.size + 1) 0 0 [] (by rfl) HF3.out rfl ⟨g, 0, none⟩ 0 _ (by rfl) (L.take 0) (by rw [List.length_take, HLK.out]; omega) (cells_takeW HCC.out HW3.out) (by omega) HW3.out.size 0 (by omega) ?_; intro g2 cap2 w2 hown2 hgr2 hg2; rw [List.nil_append] at hown2; have HO2 := Lib.hid hown2; have hbw2 := HW3.out.grown hgr2 HW3.out.size (fun q hq => by cases hq; omega); have hcv := hgr2.cell HV3.out (by simp); clear hown2 hgr2 hg2))
            all_goals
              go_wp2
              go_roundw
              case rel => exact ⟨k + 1, g4, cap4, by omega, by go_num, rfl, by rw [HFT.out, HPL.out]; simpa using own_mono HO4.out hB, ownM_below HUr.out hbw4, below_step hbel hbw4, Nat.le_trans hsz hbw4.size⟩
              case measure => simp [intOf]; omega
          · have hqj : q = j - 1 := by omega
            rw [hqj] at hq
            have hj0 : 0 < j := by omega
            have hc := own_cell HO.out (j - 1) (by rw [HLK.out]; omega)
            obtain ⟨y, hy⟩ : ∃ y, y = L.getD (j - 1) 0 := ⟨_, rfl⟩
            rw [← hy] at hc hq
            have hq' : (m : Int) ≤ y := by omega
            clear hq hy hqj hjq
            have b1 : (0 : Int) < (j : Int) := by omega
            by_cases hcap : cap = j
            · have hkj : k = j := by omega
              subst hcap
              subst hkj
              go_wp2
              go_region_held3 (fun w' => True) (trivial) (first | (refine step_cat rfl _ _ (by rfl) wo.heap.size g3 (k + 1) cap3 (L.take k ++ [(m : Int)]) (by rfl) HO3.out (by rw [List.length_append, List.length_take, HLK.out]; simp <;> omega) ⟨g, 0, none⟩ 0 _ (by rfl) (L.drop k) (by rw [List.length_drop, HLK.out] <;> omega) (fun r hr => by simp [HLK.out] at hr) (by omega) hbw3.size (k + 1) (by omega) ?_; intro g4 cap4 w4 hown4 hgr4 hg4; have HO4 := Lib.hid hown4; have hbw4 := hbw3.grown hgr4 hbw3.size (fun q hq => by cases hq; exact (own_lt HO3.out g3 rfl).1); clear hown4 hgr4 hg4) | (refine step_cat rfl _ _ (by rfl) wo.heap.size g2 k cap2 (L.take k) (by rfl) (own_alloc HO2.out _) (by rw [List.length_take, HLK.out]; omega) ⟨w2.heap.size, 0, none⟩ 1 1 (by rfl) [(m : Int)] rfl (cells_one (cell_new1 _ _ _)) (by omega) (by have := hbw2.size; simp; omega) (k + 1) rfl ?_; intro g3 cap3 w3 hown3 hgr3 hg3; have HO3 := Lib.hid hown3; have hbw3 := (hbw2.alloc hbw2.size _).grown hgr3 (by have := hbw2.size; simp; omega) (fun q hq => by cases hq; exact (own_lt HO2.out g2 rfl).1); clear hown3 hgr3 hg3) | (refine step_cat rfl _ _ (by rfl) wo.heap.size g2 k cap2 (L.take k) (by rfl) HO2.out (by rw [List.length_take, HLK.out]; omega) ⟨wo.heap.size + 1, 0, none⟩ 1 1 (by rfl) [(m : Int)] rfl (cells_one hcv) (by omega) hbw2.size (k + 1) rfl ?_; intro g3 cap3 w3 hown3 hgr3 hg3; have HO3 := Lib.hid hown3; have hbw3 := hbw2.grown hgr3 hbw2.size (fun q hq => by cases hq; exact (own_lt HO2.out g2 rfl).1); clear hown3 hgr3 hg3) | (refine step_cat rfl _ _ (by rfl) wo.heap.size g2 k cap2 (L.take k) (by rfl) HO2.out (by rw [List.length_take, HLK.out]; omega) ⟨wo.heap.size, 0, none⟩ 1 1 (by rfl) [(m : Int)] rfl (cells_one hcv) (by omega) hbw2.size (k + 1) rfl ?_; intro g3 cap3 w3 hown3 hgr3 hg3; have HO3 := Lib.hid hown3; have hbw3 := hbw2.grown hgr3 hbw2.size (fun q hq => by cases hq; exact (own_lt HO2.out g2 rfl).1); clear hown3 hgr3 hg3) | (refine step_cat rfl _ _ (by rfl) wo.heap.size wo.heap.size 0 0 [] (by rfl) HF1.out rfl ⟨g, 0, none⟩ k _ (by rfl) (L.take k) (by rw [List.length_take, HLK.out]; omega) (cells_takeW HCC.out HW1.out) (by omega) HW1.out.size k (by omega) ?_; intro g2 cap2 w2 hown2 hgr2 hg2; rw [List.nil_append] at hown2; have HO2 := Lib.hid hown2; have hbw2 := HW1.out.grown hgr2 HW1.out.size (fun q hq => by cases hq; omega); clear hown2 hgr2 hg2) | (refine step_cat rfl _ _ (by rfl) wo.heap.size wo.heap.size 0 0 [] (by rfl) HF2.out rfl ⟨g, 0, none⟩ k _ (by rfl) (L.take k) (by rw [List.length_take, HLK.out]; omega) (cells_takeW HCC.out HW2.out) (by omega) HW2.out.size k (by omega) ?_; intro g2 cap2 w2 hown2 hgr2 hg2; rw [List.nil_append] at hown2; have HO2 := Lib.hid hown2; have hbw2 := HW2.out.grown hgr2 HW2.out.size (fun q hq => by cases hq; omega); have hcv := hgr2.cell HV2.out (by simp); clear hown2 hgr2 hg2) | (refine step_cat rfl _ _ (by rfl) wo.heap.size (wo.heap.size + 1) 0 0 [] (by rfl) HF3.out rfl ⟨g, 0, none⟩ k _ (by rfl) (L.take k) (by rw [List.length_take, HLK.out]; omega) (cells_takeW HCC.out HW3.out) (by omega) HW3.out.size k (by omega) ?_; intro g2 cap2 w2 hown2 hgr2 hg2; rw [List.nil_append] at hown2; have HO2 := Lib.hid hown2; have hbw2 := HW3.out.grown hgr2 HW3.out.size (fun q hq => by cases hq; omega); have hcv := hgr2.cell HV3.out (by simp); clear hown2 hgr2 hg2))
              all_goals
                go_wp2
                go_roundw
                case rel => exact ⟨k + 1, g4, cap4, by omega, by go_num, rfl, by rw [HFT.out, HPL.out]; simpa using own_mono HO4.out hB, ownM_below HUr.out hbw4, below_step hbel hbw4, Nat.le_trans hsz hbw4.size⟩
                case measure => simp [intOf]; omega
            · go_wp2
              go_region_held3 (fun w' => True) (trivial) (first | (refine step_cat rfl _ _ (by rfl) wo.heap.size g3 (j + 1) cap3 (L.take j ++ [(m : Int)]) (by rfl) HO3.out (by rw [List.length_append, List.length_take, HLK.out]; simp <;> omega) ⟨g, j, none⟩ (k - j) _ (by rfl) (L.drop j) (by rw [List.length_drop, HLK.out] <;> omega) (cells_dropW HCC.out hbw3) (by omega) hbw3.size (k + 1) (by omega) ?_; intro g4 cap4 w4 hown4 hgr4 hg4; have HO4 := Lib.hid hown4; have hbw4 := hbw3.grown hgr4 hbw3.size (fun q hq => by cases hq; exact (own_lt HO3.out g3 rfl).1); clear hown4 hgr4 hg4) | (refine step_cat rfl _ _ (by rfl) wo.heap.size g2 j cap2 (L.take j) (by rfl) (own_alloc HO2.out _) (by rw [List.length_take, HLK.out]; omega) ⟨w2.heap.size, 0, none⟩ 1 1 (by rfl) [(m : Int)] rfl (cells_one (cell_new1 _ _ _)) (by omega) (by have := hbw2.size; simp; omega) (j + 1) rfl ?_; intro g3 cap3 w3 hown3 hgr3 hg3; have HO3 := Lib.hid hown3; have hbw3 := (hbw2.alloc hbw2.size _).grown hgr3 (by have := hbw2.size; simp; omega) (fun q hq => by cases hq; exact (own_lt HO2.out g2 rfl).1); clear hown3 hgr3 hg3) | (refine step_cat rfl _ _ (by rfl) wo.heap.size g2 j cap2 (L.take j) (by rfl) HO2.out (by rw [List.length_take, HLK.out]; omega) ⟨wo.heap.size + 1, 0, none⟩ 1 1 (by rfl) [(m : Int)] rfl (cells_one hcv) (by omega) hbw2.size (j + 1) rfl ?_; intro g3 cap3 w3 hown3 hgr3 hg3; have HO3 := Lib.hid hown3; have hbw3 := hbw2.grown hgr3 hbw2.size (fun q hq => by cases hq; exact (own_lt HO2.out g2 rfl).1); clear hown3 hgr3 hg3) | (refine step_cat rfl _ _ (by rfl) wo.heap.size g2 j cap2 (L.take j) (by rfl) HO2.out (by rw [List.length_take, HLK.out]; omega) ⟨wo.heap.size, 0, none⟩ 1 1 (by rfl) [(m : Int)] rfl (cells_one hcv) (by omega) hbw2.size (j + 1) rfl ?_; intro g3 cap3 w3 hown3 hgr3 hg3; have HO3 := Lib.hid hown3; have hbw3 := hbw2.grown hgr3 hbw2.size (fun q hq => by cases hq; exact (own_lt HO2.out g2 rfl).1); clear hown3 hgr3 hg3) | (refine step_cat rfl _ _ (by rfl) wo.heap.size wo.heap.size 0 0 [] (by rfl) HF1.out rfl ⟨g, 0, none⟩ j _ (by rfl) (L.take j) (by rw [List.length_take, HLK.out]; omega) (cells_takeW HCC.out HW1.out) (by omega) HW1.out.size j (by omega) ?_; intro g2 cap2 w2 hown2 hgr2 hg2; rw [List.nil_append] at hown2; have HO2 := Lib.hid hown2; have hbw2 := HW1.out.grown hgr2 HW1.out.size (fun q hq => by cases hq; omega); clear hown2 hgr2 hg2) | (refine step_cat rfl _ _ (by rfl) wo.heap.size wo.heap.size 0 0 [] (by rfl) HF2.out rfl ⟨g, 0, none⟩ j _ (by rfl) (L.take j) (by rw [List.length_take, HLK.out]; omega) (cells_takeW HCC.out HW2.out) (by omega) HW2.out.size j (by omega) ?_; intro g2 cap2 w2 hown2 hgr2 hg2; rw [List.nil_append] at hown2; have HO2 := Lib.hid hown2; have hbw2 := HW2.out.grown hgr2 HW2.out.size (fun q hq => by cases hq; omega); have hcv := hgr2.cell HV2.out (by simp); clear hown2 hgr2 hg2) | (refine step_cat rfl _ _ (by rfl) wo.heap.size (wo.heap.size + 1) 0 0 [] (by rfl) HF3.out rfl ⟨g, 0, none⟩ j _ (by rfl) (L.take j) (by rw [List.length_take, HLK.out]; omega) (cells_takeW HCC.out HW3.out) (by omega) HW3.out.size j (by omega) ?_; intro g2 cap2 w2 hown2 hgr2 hg2; rw [List.nil_append] at hown2; have HO2 := Lib.hid hown2; have hbw2 := HW3.out.grown hgr2 HW3.out.size (fun q hq => by cases hq; omega); have hcv := hgr2.cell HV3.out (by simp); clear hown2 hgr2 hg2))
              all_goals
                go_wp2
                go_roundw
                case rel => exact ⟨k + 1, g4, cap4, by omega, by go_num, rfl, by rw [HFT.out, HPL.out]; simpa using own_mono HO4.out hB, ownM_below HUr.out hbw4, below_step hbel hbw4, Nat.le_trans hsz hbw4.size⟩
                case measure => simp [intOf]; omega
        · have hc := own_cell HO.out q (by rw [HLK.out]; omega)
          obtain ⟨y, hy⟩ : ∃ y, y = L.getD q 0 := ⟨_, rfl⟩
          rw [← hy] at hc hq
          have HY := Lib.hid hy
          clear hy
          have b1 : (0 : Int) < (q : Int) + 1 := by omega
          go_wp2
          go_round
          case rel => exact ⟨q, by omega, by go_num, by rw [HPOS.out, posFrom, if_pos (by rw [← HY.out]; exact hq)]⟩
          case measure => simp [intOf] <;> omega
    · have hkp : k = p := by omega
      subst hkp
      rw [List.take_of_length_le (by rw [HSL.out]; omega), fold_desc] at hown
      go_wp2
      go_ret
      exact ⟨_, rfl, hown, hbel⟩

end Go.Proofs.Ytdeeeiimlcggpaa
