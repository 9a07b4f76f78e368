/-
  The contract of spec.ArcPart.
-/
import Derived.Test.YtipmafplpoadjaaArcPart
import Derived.Test.YtipmafplpoadjaaNamed
namespace Go.Proofs.Ytipmafplpoadjaa
set_option linter.unusedSimpArgs false
set_option linter.unusedVariables false
set_option linter.unnecessarySimpa false
open Go.RowKit
set_option maxRecDepth 100000

set_option maxHeartbeats 3200000 in
theorem sArcPart_v (v : Value) (n : Int) (xss : List (List Int)) (w : World) (hv : RdM w v xss) (_ : (Lit.int .i64 n).wf = true) : Calls Try.prog 30 #[.int .i64 n, v] w (FreshLB w (arcPart n xss)) := by
  obtain ⟨ao, ca, vs, hvl, rfl, h1, h2, h3, h4⟩ := hv
  unfold maxLen at h2
  by_cases hn : 1 ≤ n ∧ n ≤ 8
  · obtain ⟨n, rfl⟩ := Int.eq_ofNat_of_zero_le (show 0 ≤ n by omega)
    have hn' : 1 ≤ n ∧ n ≤ 8 := by omega
    have HN := Lib.hid hn'
    obtain ⟨hn1, hn8⟩ := hn
    obtain ⟨m, hm⟩ : ∃ m, m = xss.length := ⟨_, rfl⟩
    rw [← hm] at h1 ⊢
    have HM := Lib.hid hm
    have H3 := Lib.hid h3
    have H4 := Lib.hid h4
    clear hm h3 h4 hvl hn'
    have h256 := pow_256 n (by omega)
    obtain ⟨i0, hi, hz0, hz1, hz2⟩ := info_parts Try.infoInt
    go_enter Try.func30, Try.ntmps30
    go_wp2_with fail
    refine (l6In_yes _ _ _ _ hn1 hn8).mono ?_
    rintro e w' ⟨rfl, rfl⟩
    go_wp2_with (at_make; refine wpList_make_full _ rfl _ _ 23 rfl w.heap.size 3 i0 (.int .i64 0) 1 Try.underlying23 hi hz0 hz1 _ _ _ _ n rfl rfl rfl rfl (by rw [hz2]; omega) (by unfold maxLen; omega) (Nat.le_refl _) ?_)
    intro w1 hown1 hgrow1
    have hb1 : Below w.heap.size w w1 := (Below.refl _ _).grown hgrow1 (Nat.le_refl _) (fun k h => by cases h)
    have hown := own_made hown1
    rw [← minusTo_zero] at hown
    clear hown1 hgrow1
    go_wp2
    go_loopw [9] (fun i wr => ∃ k : Nat, k ≤ n ∧ i = .int .i64 k ∧ Own wr w.heap.size (.slice (some ⟨w.heap.size, 0, none⟩) n n) (minusTo n k) ∧ Below w.heap.size w wr)
      (fun i _ => n - (intOf i).toNat)
    case atStart => exact ⟨0, Nat.zero_le _, rfl, hown, hb1⟩
    case round =>
      obtain ⟨k, hk, rfl, hown, hbel⟩ := hrel
      by_cases hlt : k < n
      · have hfz := own_frozen hown k
        obtain ⟨v0, hv0⟩ : ∃ v0, wr.cell? ⟨w.heap.size, k, none⟩ = some v0 := ⟨_, own_cell hown k (by rw [minusTo_length n k hk]; exact hlt)⟩
        have hst := (own_stored hown (by rw [minusTo_length n k hk]) k (-1)).1
        rw [minusTo_step n k hlt] at hst
        have HST := Lib.hid hst
        clear hst hown
        go_wp2
        go_roundw
        case rel => exact ⟨k + 1, by omega, by go_num, HST.out, hbel.setCell (Nat.le_refl _) _⟩
        case measure => simp [intOf]; omega
      · have hkn : k = n := by omega
        subst hkn
        rw [minusTo_end] at hown
        have HO1 := Lib.hid hown
        clear hown
        go_wp2
        go_loopw [7, 8, 10] (fun u t i wr => ∃ (b F T : Nat) (up : List Int), b ≤ m ∧ i = .int .i64 b ∧ u = .int .i64 F ∧ t = .int .i64 T ∧ F < 2 ^ k ∧ T < 2 ^ k ∧ up.length = k ∧ Hid (UpOk up) ∧ Hid (fillArcs k (List.replicate k (-1)) 0 0 xss = fillArcs k up F T (xss.drop b)) ∧ Own wr w.heap.size (.slice (some ⟨w.heap.size, 0, none⟩) k k) up ∧ Below w.heap.size w wr)
          (fun _ _ i _ => m - (intOf i).toNat)
        case atStart => exact ⟨0, 0, 0, _, Nat.zero_le _, rfl, rfl, rfl, Nat.pos_of_ne_zero (by simp), Nat.pos_of_ne_zero (by simp), by simp, Lib.hid (upOk_start k), Lib.hid rfl, HO1.out, hbel⟩
        case round =>
          obtain ⟨b, F, T, up, hb, rfl, rfl, rfl, hF, hT, hul, HU, HE, hown, hbel⟩ := hrel
          have HUL := Lib.hid hul
          have HO := Lib.hid hown
          clear hown hul
          have hbs := hbel.size
          by_cases hlt : b < m
          · rcases H3.out with hx | ⟨bb, off, rfl, hc⟩
            · have := HM.out
              rw [hx] at this
              simp at this
              omega
            have hcb := hc b (by have := HM.out; omega)
            rw [← hbel.cell (World.block_lt_of_cell? w _ hcb)] at hcb
            have hrow := rdv_below (H4.out b (by have := HM.out; omega)) (hbel.mono (Nat.le_refl _))
            have hdr := drop_consM xss b (by have := HM.out; omega)
            obtain ⟨row, hrw⟩ : ∃ row, row = xss.getD b [] := ⟨_, rfl⟩
            obtain ⟨z, hz⟩ : ∃ z, z = vs.getD b undef := ⟨_, rfl⟩
            rw [← hz] at hcb hrow
            rw [← hrw] at hrow hdr
            have he := HE.out
            rw [hdr, fillArcs] at he
            have HE2 := Lib.hid he
            clear he hc hdr hz hrw
            obtain ⟨zo, zc, rfl, hzr, hzl, hzc⟩ := hrow
            unfold maxLen at hzc
            have hF256 : F < 256 := by omega
            have hT256 : T < 256 := by omega
            by_cases hl2 : row.length = 2
            · rw [hl2] at hcb hzl
              rcases hzr with hzr | ⟨bz, oz, rfl, hcz⟩
              · rw [hzr] at hl2; simp at hl2
              have hc0 := hcz 0 (by omega)
              have hc1 := hcz 1 (by omega)
              rw [Nat.add_zero] at hc0
              obtain ⟨x, hx⟩ : ∃ x, x = row.getD 0 0 := ⟨_, rfl⟩
              obtain ⟨y, hy⟩ : ∃ y, y = row.getD 1 0 := ⟨_, rfl⟩
              have htold : toldOk (k : Int) row = decide ((0 ≤ x ∧ x < k) ∧ x < y ∧ y < k) := by rw [hx, hy]; simp [toldOk, hl2]
              rw [htold, ← hx, ← hy] at HE2
              rw [← hx] at hc0
              rw [← hy] at hc1
              clear hcz hx hy htold hl2
              by_cases hxr : 0 ≤ x ∧ x < k
              · obtain ⟨x, rfl⟩ := Int.eq_ofNat_of_zero_le hxr.1
                have hxk : x < k := by omega
                have hx8 : x < 8 := by omega
                clear hxr
                by_cases hyr : (x : Int) < y ∧ y < k
                · obtain ⟨y, rfl⟩ := Int.eq_ofNat_of_zero_le (show 0 ≤ y by omega)
                  have hxy : x < y := by omega
                  have hyk : y < k := by omega
                  have hy8 : y < 8 := by omega
                  clear hyr
                  have hdt : decide ((0 ≤ (x : Int) ∧ (x : Int) < k) ∧ (x : Int) < y ∧ (y : Int) < k) = true := by simp; omega
                  rw [hdt, Int.toNat_natCast, Int.toNat_natCast] at HE2
                  clear hdt
                  have hsF := shr_fact F hF256 x hx8
                  have hsT := shr_fact T hT256 y hy8
                  cases hbf : F.testBit x with
                  | true =>
                    rw [hbf] at hsF
                    have hre : fillArcs k (List.replicate k (-1)) 0 0 xss = none := by rw [HE2.out, if_neg (by simp [hbf])]
                    have HRE := Lib.hid (arcPart_no HN.out hre)
                    clear hbf hre hsT
                    go_wp2
                    go_quiet (first | (go_at_call_of 66 (Value.int IntKind.i64 (x : Int)); exact quiet_left (l6In_yes (x : Int) 0 ((k : Int) - 1) _ (by omega) (by omega))) | (go_at_call_of 66 (Value.int IntKind.i64 (y : Int)); exact quiet_left (l6In_yes (y : Int) ((x : Int) + 1) ((k : Int) - 1) _ (by omega) (by omega))))
                    go_wp2
                    go_ret2
                    rw [HRE.out]
                    exact ⟨_, rfl, own_empty _ _ (by simpa using hbs), (below_drewN hbel nq).alloc (by simpa using hbs) _⟩
                  | false =>
                    rw [hbf] at hsF
                    cases hbt : T.testBit y with
                    | true =>
                      rw [hbt] at hsT
                      have hre : fillArcs k (List.replicate k (-1)) 0 0 xss = none := by rw [HE2.out, if_neg (by simp [hbt])]
                      have HRE := Lib.hid (arcPart_no HN.out hre)
                      clear hbf hbt hre
                      go_wp2
                      go_quiet (first | (go_at_call_of 66 (Value.int IntKind.i64 (x : Int)); exact quiet_left (l6In_yes (x : Int) 0 ((k : Int) - 1) _ (by omega) (by omega))) | (go_at_call_of 66 (Value.int IntKind.i64 (y : Int)); exact quiet_left (l6In_yes (y : Int) ((x : Int) + 1) ((k : Int) - 1) _ (by omega) (by omega))))
                      go_wp2
                      go_ret2
                      rw [HRE.out]
                      exact ⟨_, rfl, own_empty _ _ (by simpa using hbs), (below_drewN hbel nq).alloc (by simpa using hbs) _⟩
                    | false =>
                      rw [hbt] at hsT
                      rw [if_pos ⟨rfl, hbf, hbt⟩] at HE2
                      have HOF := Lib.hid (or_lt_pow k (by omega) F hF x (by omega))
                      have HOT := Lib.hid (or_lt_pow k (by omega) T hT y (by omega))
                      have HRF := Lib.hid (or64_fact F hF256 x hx8)
                      have HRT := Lib.hid (or64_fact T hT256 y hy8)
                      have hfz := own_frozen HO.out y
                      obtain ⟨v0, hv0⟩ : ∃ v0, wr.cell? ⟨w.heap.size, y, none⟩ = some v0 := ⟨_, own_cell HO.out y (by rw [HUL.out]; omega)⟩
                      clear hbf hbt
                      go_wp2
                      go_quiet (first | (go_at_call_of 66 (Value.int IntKind.i64 (x : Int)); exact quiet_left (l6In_yes (x : Int) 0 ((k : Int) - 1) _ (by omega) (by omega))) | (go_at_call_of 66 (Value.int IntKind.i64 (y : Int)); exact quiet_left (l6In_yes (y : Int) ((x : Int) + 1) ((k : Int) - 1) _ (by omega) (by omega))))
                      go_wp2
                      obtain ⟨W5, hW5⟩ : ∃ W5, W5 = wr.drewN nq := ⟨_, rfl⟩
                      have e0 : W5.cell? ⟨bz, oz, none⟩ = some (.int .i64 x) := by rw [hW5]; exact hc0
                      have e1 : W5.cell? ⟨bz, oz + 1, none⟩ = some (.int .i64 y) := by rw [hW5]; exact hc1
                      have e2 : W5.cell? ⟨w.heap.size, y, none⟩ = some v0 := by rw [hW5]; exact hv0
                      have e3 : W5.frozen? ⟨w.heap.size, y, none⟩ = false := by rw [hW5]; exact hfz
                      have hbq := below_drewN (Below.refl wr.heap.size wr) (nq + 1)
                      have hob : Own W5.drew w.heap.size (.slice (some ⟨w.heap.size, 0, none⟩) k k) up := by rw [hW5]; exact own_below HO.out hbq
                      have hbo : Below w.heap.size w W5.drew := by rw [hW5]; exact below_drewN hbel (nq + 1)
                      have HST := Lib.hid (own_stored hob (by rw [HUL.out]) y (x : Int)).1
                      have HB5 := Lib.hid hbo
                      rw [← hW5]
                      clear hc0 hc1 hv0 hfz hW5 hbq hob hbo hsF hsT
                      go_still_tail 8, (by kernel_rfl)
                      change wpList _ _ _ _ _ (World.drew _)
                      go_wp2
                      go_roundw
                      case rel =>
                        exact ⟨b + 1, F ||| 2 ^ x, T ||| 2 ^ y, up.set y (x : Int), by omega, by go_num, by rw [HRF.out], by rw [HRT.out], HOF.out, HOT.out, by rw [List.length_set, HUL.out], Lib.hid (upOk_set HU.out y x (by omega)), Lib.hid HE2.out, HST.out, HB5.out.setCell (Nat.le_refl _) _⟩
                      case measure => simp [intOf]; omega
                · have hdt : decide ((0 ≤ (x : Int) ∧ (x : Int) < k) ∧ (x : Int) < y ∧ y < k) = false := by simp only [decide_eq_false_iff_not]; exact fun h => hyr h.2
                  have hre : fillArcs k (List.replicate k (-1)) 0 0 xss = none := by rw [HE2.out, if_neg (by rw [hdt]; simp)]
                  have HRE := Lib.hid (arcPart_no HN.out hre)
                  have HY := Lib.hid (show y < (x : Int) + 1 ∨ (k : Int) - 1 < y by omega)
                  clear hdt hre hyr
                  go_wp2
                  go_quiet (first | (go_at_call_of 66 (Value.int IntKind.i64 (x : Int)); exact quiet_left (l6In_yes (x : Int) 0 ((k : Int) - 1) _ (by omega) (by omega))) | (go_at_call_of 66 (Value.int IntKind.i64 y); exact quiet_left (l6In_no y ((x : Int) + 1) ((k : Int) - 1) _ HY.out)))
                  go_wp2
                  go_ret2
                  rw [HRE.out]
                  exact ⟨_, rfl, own_empty _ _ (by simpa using hbs), (below_drewN hbel nq).alloc (by simpa using hbs) _⟩
              · have hdt : decide ((0 ≤ x ∧ x < k) ∧ x < y ∧ y < k) = false := by simp only [decide_eq_false_iff_not]; exact fun h => hxr h.1
                have hre : fillArcs k (List.replicate k (-1)) 0 0 xss = none := by rw [HE2.out, if_neg (by rw [hdt]; simp)]
                have HRE := Lib.hid (arcPart_no HN.out hre)
                have HX := Lib.hid (show x < 0 ∨ (k : Int) - 1 < x by omega)
                clear hdt hre hxr
                go_wp2
                go_quiet ((go_at_call_of 66 (Value.int IntKind.i64 x); exact quiet_left (l6In_no x 0 ((k : Int) - 1) _ HX.out)))
                go_wp2
                go_ret2
                rw [HRE.out]
                exact ⟨_, rfl, own_empty _ _ (by simpa using hbs), (below_drewN hbel nq).alloc (by simpa using hbs) _⟩
            · have hto : toldOk (k : Int) row = false := by simp [toldOk, hl2]
              have hre : fillArcs k (List.replicate k (-1)) 0 0 xss = none := by rw [HE2.out, if_neg (by simp [hto])]
              have HRE := Lib.hid (arcPart_no HN.out hre)
              obtain ⟨q, hq⟩ : ∃ q, q = row.length := ⟨_, rfl⟩
              rw [← hq] at hcb hzl hl2
              have hd : ((q : Int) != 2) = true := by simp; omega
              clear hto hre hzr hq
              go_wp2
              go_quiet (fail)
              go_wp2
              go_ret2
              rw [HRE.out]
              exact ⟨_, rfl, own_empty _ _ (by simpa using hbs), (below_drewN hbel nq).alloc (by simpa using hbs) _⟩
          · have hbm : b = m := by omega
            subst hbm
            have he := HE.out
            rw [HM.out, List.drop_length, fillArcs] at he
            have HRE := Lib.hid (arcPart_yes HN.out he)
            clear he
            obtain ⟨wo, hwo⟩ : ∃ wo : World, wo = wr := ⟨_, rfl⟩
            subst hwo
            go_wp2
            go_loopw [12, 13] (fun u i wr => ∃ j g cap : Nat, j ≤ k ∧ i = .int .i64 j ∧ u = .slice (some ⟨g, 0, none⟩) j cap ∧ Own wr wo.heap.size (.slice (some ⟨g, 0, none⟩) j cap) (rootsTo up j) ∧ Below wo.heap.size wo wr)
              (fun _ i _ => k - (intOf i).toNat)
            case atStart => exact ⟨0, wo.heap.size, 0, Nat.zero_le _, rfl, rfl, own_empty wo _ (Nat.le_refl _), (Below.refl _ _).alloc (Nat.le_refl _) _⟩
            case round =>
              obtain ⟨j, g, cap, hj, rfl, rfl, hown, hbi⟩ := hrel
              have hBi := hbi.size
              have HOF := Lib.hid hown
              have hrl := rootsTo_length up j
              by_cases hlt : j < k
              · have hcj := own_cell (own_below HO.out hbi) j (by rw [HUL.out]; exact hlt)
                have huj := HU.out j (by rw [HUL.out]; exact hlt)
                have hrt : rootsTo up (j + 1) = rootsTo up j ++ [if up.getD j 0 < 0 then (j : Int) else (rootsTo up j).getD (up.getD j 0).toNat 0] := rfl
                obtain ⟨z, hz⟩ : ∃ z, z = up.getD j 0 := ⟨_, rfl⟩
                rw [← hz] at hcj huj hrt
                by_cases hz0 : z < 0
                · rw [if_pos hz0] at hrt
                  have HRT := Lib.hid hrt
                  have HRL := Lib.hid hrl
                  clear hrt hrl hown hz
                  go_wp2_with (at_builtin; refine wpList_push rfl _ _ rfl wo.heap.size g j cap (rootsTo up j) rfl (own_alloc HOF.out _) HRL.out.symm ⟨wr.heap.size, 0, none⟩ rfl (j : Int) (cell_new1 _ _ _) (by omega) (by simp; omega) ?_)
                  intro g3 cap3 w3 hown3 hgr3 hg3
                  have hbi3 : Below wo.heap.size wo w3 := (hbi.alloc hBi _).grown hgr3 (by simp; omega) (fun q hq => by cases hq; exact (own_lt HOF.out g rfl).1)
                  have HO3 := Lib.hid hown3
                  clear hown3 hgr3 hg3
                  go_wp2
                  go_roundw
                  case rel => exact ⟨j + 1, g3, cap3, by omega, by go_num, rfl, by rw [HRT.out]; exact HO3.out, hbi3⟩
                  case measure => simp [intOf]; omega
                · obtain ⟨q, rfl⟩ := Int.eq_ofNat_of_zero_le (show 0 ≤ z by omega)
                  have hqj : q < j := by omega
                  have hnn : ¬ ((q : Int) < 0) := by omega
                  rw [if_neg hnn, Int.toNat_natCast] at hrt
                  have hcq := own_cell hown q (by rw [hrl]; exact hqj)
                  obtain ⟨y, hy⟩ : ∃ y, y = (rootsTo up j).getD q 0 := ⟨_, rfl⟩
                  rw [← hy] at hcq hrt
                  have HRT := Lib.hid hrt
                  have HRL := Lib.hid hrl
                  clear hrt hrl hown hz hy hz0
                  go_wp2_with (at_builtin; refine wpList_push rfl _ _ rfl wo.heap.size g j cap (rootsTo up j) rfl (own_alloc HOF.out _) HRL.out.symm ⟨wr.heap.size, 0, none⟩ rfl y (cell_new1 _ _ _) (by omega) (by simp; omega) ?_)
                  intro g3 cap3 w3 hown3 hgr3 hg3
                  have hbi3 : Below wo.heap.size wo w3 := (hbi.alloc hBi _).grown hgr3 (by simp; omega) (fun q hq => by cases hq; exact (own_lt HOF.out g rfl).1)
                  have HO3 := Lib.hid hown3
                  clear hown3 hgr3 hg3
                  go_wp2
                  go_roundw
                  case rel => exact ⟨j + 1, g3, cap3, by omega, by go_num, rfl, by rw [HRT.out]; exact HO3.out, hbi3⟩
                  case measure => simp [intOf]; omega
              · have hjk : j = k := by omega
                subst hjk
                have HK := Lib.hid (l1Kernel_v _ _ wr (own_rdv HOF.out) (by rw [hrl]; omega))
                have hbw := below_step hbel hbi
                have HBW := Lib.hid hbw
                have hbs2 := hbw.size
                clear hrl hbw
                go_wp2_with fail
                refine HK.out.mono ?_
                rintro e w5 ⟨u5, rfl, hou, hb5⟩
                have HB5 := Lib.hid (below_step HBW.out hb5)
                have HOU := Lib.hid (own_mono hou hbs2)
                clear hou hb5
                go_wp2
                go_ret2
                rw [HRE.out]
                exact ⟨_, rfl, HOU.out, HB5.out⟩
  · have hr : arcPart n xss = ([], false) := by unfold arcPart; rw [if_neg hn]
    rw [hr]
    have HO0 := Lib.hid (own_empty w w.heap.size (Nat.le_refl _))
    clear hr h3 h4 hvl
    go_enter Try.func30, Try.ntmps30
    go_wp2_with fail
    refine (l6In_no _ _ _ _ (by omega)).mono ?_
    rintro e w' ⟨rfl, rfl⟩
    go_wp2
    go_ret2
    exact ⟨_, rfl, HO0.out, (Below.refl _ _).alloc (Nat.le_refl _) _⟩

end Go.Proofs.Ytipmafplpoadjaa
