/-
  The contract of spec.ArcOpeners.
-/
import Derived.Test.YtipmafplpoadjaaDoorArcOpen
namespace Go.Proofs.YtipmafplpoadjaaDoor
set_option linter.unusedSimpArgs false
set_option linter.unusedVariables false
set_option linter.unnecessarySimpa false
open Go.RowKit
set_option maxRecDepth 100000

set_option maxHeartbeats 3200000 in
theorem sArcOpeners_v (v : Value) (xs : List Int) (w : World) (hv : RdV w v xs) : Calls Tryd.prog 13 #[v] w (FreshLLW w (arcOpeners xs)) := by
  have HV := Lib.hid hv
  have HE1 := Lib.hid fun (w1 : World) (B : Nat) (h : B ≤ w1.heap.size) => own_empty w1 B h
  have hb0 : Below w.heap.size w ((w.alloc (.cells #[] 3)).alloc (.cells #[] 3)) := ((Below.refl _ _).alloc (Nat.le_refl _) _).alloc (by simp) _
  have ho1 : Own ((w.alloc (.cells #[] 3)).alloc (.cells #[] 3)) w.heap.size (.slice (some ⟨w.heap.size, 0, none⟩) 0 0) [] := own_alloc (own_empty w _ (Nat.le_refl _)) _
  have ho2 : Own ((w.alloc (.cells #[] 3)).alloc (.cells #[] 3)) w.heap.size (.slice (some ⟨w.heap.size + 1, 0, none⟩) 0 0) [] := by
    have := own_empty (w.alloc (.cells #[] 3)) w.heap.size (by simp)
    simpa using this
  have HB0 := Lib.hid hb0
  have HO1 := Lib.hid ho1
  have HO2 := Lib.hid ho2
  clear hb0 ho1 ho2
  obtain ⟨ao, ca, rfl, hx, hlc, hcm⟩ := hv
  by_cases hp : partIn xs = true
  · have hr : arcOpeners xs = (openTo xs xs.length, closeTo xs xs.length, true) := by simp [arcOpeners, hp, openL, closeL]
    rw [hr]
    have hl := partIn_len hp
    have HP := Lib.hid hp
    obtain ⟨n, hn⟩ : ∃ n, n = xs.length := ⟨_, rfl⟩
    rw [← hn] at hlc hl HV ⊢
    obtain ⟨hl1, hl8⟩ := hl
    have HN := Lib.hid hn
    have HX := Lib.hid hx
    clear hp hr hn hx
    go_enter Tryd.func13, Tryd.ntmps13
    go_wp2_with fail
    refine (sPartIn_is true _ xs _ (rdv_below HV.out ((Below.refl _ _).trans (HB0.out))) HP).mono ?_
    rintro e w' ⟨rfl, rfl⟩
    go_wp2
    go_loopw [5, 6, 7] (fun u t i wr => ∃ k gx mx cx gy my cy : Nat, k ≤ n ∧ i = .int .i64 k ∧ u = .slice (some ⟨gx, 0, none⟩) mx cx ∧ t = .slice (some ⟨gy, 0, none⟩) my cy ∧ gx ≠ gy ∧ Hid (mx = (openTo xs k).length) ∧ Hid (my = (closeTo xs k).length) ∧ mx ≤ k ∧ my ≤ k ∧
        Own wr w.heap.size (.slice (some ⟨gx, 0, none⟩) mx cx) (openTo xs k) ∧ Own wr w.heap.size (.slice (some ⟨gy, 0, none⟩) my cy) (closeTo xs k) ∧ Below w.heap.size w wr)
      (fun _ _ i _ => n - (intOf i).toNat)
    case atStart => exact ⟨0, w.heap.size, 0, 0, w.heap.size + 1, 0, 0, Nat.zero_le _, rfl, rfl, rfl, by omega, Lib.hid rfl, Lib.hid rfl, Nat.le_refl _, Nat.le_refl _, HO1.out, HO2.out, HB0.out⟩
    case round =>
      obtain ⟨k, gx, mx, cx, gy, my, cy, hk, rfl, rfl, rfl, hne, HMX, HMY, hmx, hmy, hox, hoy, hbel⟩ := hrel
      have HOX := Lib.hid hox
      have HOY := Lib.hid hoy
      have hbs := hbel.size
      clear hox hoy
      by_cases hlt : k < n
      · rcases HX.out with hx | ⟨bb, off, rfl, hcx⟩
        · have := HN.out
          rw [hx] at this
          simp at this
          omega
        have HC := Lib.hid (fun j (hj : j < n) => show w.cell? ⟨bb, off + j, none⟩ = some (.int .i64 (xs.getD j 0)) from hcx j (by have := HN.out; omega))
        clear hcx
        obtain ⟨x, hx⟩ : ∃ x, x = xs.getD k 0 := ⟨_, rfl⟩
        have HXK := Lib.hid hx
        clear hx
        obtain ⟨wo, hwo⟩ : ∃ wo : World, wo = wr := ⟨_, rfl⟩
        subst hwo
        go_wp2
        go_loopw [8, 9, 10] (fun u t i wi => ∃ (j : Nat) (p q : Bool), j ≤ n ∧ i = .int .i64 j ∧ u = .bool p ∧ t = .bool q ∧ Hid (p = befB xs k j) ∧ Hid (q = behB xs k j) ∧ Below wo.heap.size wo wi)
          (fun _ _ i _ => n - (intOf i).toNat)
        case atStart => exact ⟨0, false, false, Nat.zero_le _, rfl, rfl, rfl, Lib.hid rfl, Lib.hid rfl, Below.refl _ _⟩
        case round =>
          obtain ⟨j, p, q, hj, rfl, rfl, rfl, HPB, HQB, hbi⟩ := hrel
          have hBi := hbi.size
          have hbw : Below w.heap.size w wr := below_step hbel hbi
          by_cases hjn : j < n
          · have hcj := HC.out j hjn
            have hck := HC.out k hlt
            rw [← hbw.cell (World.block_lt_of_cell? w _ hcj)] at hcj
            rw [← hbw.cell (World.block_lt_of_cell? w _ hck)] at hck
            rw [← HXK.out] at hck
            obtain ⟨y, hy⟩ : ∃ y, y = xs.getD j 0 := ⟨_, rfl⟩
            rw [← hy] at hcj
            have HS1 := Lib.hid (befB_succ xs k j)
            have HS2 := Lib.hid (behB_succ xs k j)
            rw [← HPB.out, ← hy, ← HXK.out] at HS1
            rw [← HQB.out, ← hy, ← HXK.out] at HS2
            clear hy HPB HQB
            have hbd := hbi
            rcases Nat.lt_trichotomy j k with hjk | hjk | hjk
            · have hkj : ¬ (k < j) := by omega
              by_cases hyx : y = x
              · have hd : (y == x) = true := by simpa using hyx
                clear hyx
                cases p with
                | false =>
                  cases q with
                  | false =>
                    clear hbd
                    go_wp2
                    go_quiet (fail)
                    go_wp2
                    go_quiet (fail)
                    go_wp2
                    go_roundw
                    case rel => exact ⟨j + 1, true, false, by omega, by go_num, rfl, rfl, Lib.hid (by rw [HS1.out]; simp [*]), Lib.hid (by rw [HS2.out]; simp [*]), below_drewN hbi _⟩
                    case measure => simp [intOf]; omega
                  | true =>
                    clear hbd
                    go_wp2
                    go_quiet (fail)
                    go_wp2
                    go_quiet (fail)
                    go_wp2
                    go_roundw
                    case rel => exact ⟨j + 1, true, true, by omega, by go_num, rfl, rfl, Lib.hid (by rw [HS1.out]; simp [*]), Lib.hid (by rw [HS2.out]; simp [*]), below_drewN hbi _⟩
                    case measure => simp [intOf]; omega
                | true =>
                  cases q with
                  | false =>
                    clear hbd
                    go_wp2
                    go_quiet (fail)
                    go_wp2
                    go_quiet (fail)
                    go_wp2
                    go_roundw
                    case rel => exact ⟨j + 1, true, false, by omega, by go_num, rfl, rfl, Lib.hid (by rw [HS1.out]; simp [*]), Lib.hid (by rw [HS2.out]; simp [*]), below_drewN hbi _⟩
                    case measure => simp [intOf]; omega
                  | true =>
                    clear hbd
                    go_wp2
                    go_quiet (fail)
                    go_wp2
                    go_quiet (fail)
                    go_wp2
                    go_roundw
                    case rel => exact ⟨j + 1, true, true, by omega, by go_num, rfl, rfl, Lib.hid (by rw [HS1.out]; simp [*]), Lib.hid (by rw [HS2.out]; simp [*]), below_drewN hbi _⟩
                    case measure => simp [intOf]; omega
              · have hd : (y == x) = false := by simpa using hyx
                clear hyx
                cases p with
                | false =>
                  cases q with
                  | false =>
                    clear hbd
                    go_wp2
                    go_quiet (fail)
                    go_wp2
                    go_quiet (fail)
                    go_wp2
                    go_roundw
                    case rel => exact ⟨j + 1, false, false, by omega, by go_num, rfl, rfl, Lib.hid (by rw [HS1.out]; simp [*]), Lib.hid (by rw [HS2.out]; simp [*]), below_drewN hbi _⟩
                    case measure => simp [intOf]; omega
                  | true =>
                    clear hbd
                    go_wp2
                    go_quiet (fail)
                    go_wp2
                    go_quiet (fail)
                    go_wp2
                    go_roundw
                    case rel => exact ⟨j + 1, false, true, by omega, by go_num, rfl, rfl, Lib.hid (by rw [HS1.out]; simp [*]), Lib.hid (by rw [HS2.out]; simp [*]), below_drewN hbi _⟩
                    case measure => simp [intOf]; omega
                | true =>
                  cases q with
                  | false =>
                    clear hbd
                    go_wp2
                    go_quiet (fail)
                    go_wp2
                    go_quiet (fail)
                    go_wp2
                    go_roundw
                    case rel => exact ⟨j + 1, true, false, by omega, by go_num, rfl, rfl, Lib.hid (by rw [HS1.out]; simp [*]), Lib.hid (by rw [HS2.out]; simp [*]), below_drewN hbi _⟩
                    case measure => simp [intOf]; omega
                  | true =>
                    clear hbd
                    go_wp2
                    go_quiet (fail)
                    go_wp2
                    go_quiet (fail)
                    go_wp2
                    go_roundw
                    case rel => exact ⟨j + 1, true, true, by omega, by go_num, rfl, rfl, Lib.hid (by rw [HS1.out]; simp [*]), Lib.hid (by rw [HS2.out]; simp [*]), below_drewN hbi _⟩
                    case measure => simp [intOf]; omega
            · have hkj : ¬ (k < j) := by omega
              have hjk2 : ¬ (j < k) := by omega
              cases p with
              | false =>
                cases q with
                | false =>
                  clear hbd
                  go_wp2
                  go_quiet (fail)
                  go_wp2
                  go_quiet (fail)
                  go_wp2
                  go_roundw
                  case rel => exact ⟨j + 1, false, false, by omega, by go_num, rfl, rfl, Lib.hid (by rw [HS1.out]; simp [*]), Lib.hid (by rw [HS2.out]; simp [*]), below_drewN hbi _⟩
                  case measure => simp [intOf]; omega
                | true =>
                  clear hbd
                  go_wp2
                  go_quiet (fail)
                  go_wp2
                  go_quiet (fail)
                  go_wp2
                  go_roundw
                  case rel => exact ⟨j + 1, false, true, by omega, by go_num, rfl, rfl, Lib.hid (by rw [HS1.out]; simp [*]), Lib.hid (by rw [HS2.out]; simp [*]), below_drewN hbi _⟩
                  case measure => simp [intOf]; omega
              | true =>
                cases q with
                | false =>
                  clear hbd
                  go_wp2
                  go_quiet (fail)
                  go_wp2
                  go_quiet (fail)
                  go_wp2
                  go_roundw
                  case rel => exact ⟨j + 1, true, false, by omega, by go_num, rfl, rfl, Lib.hid (by rw [HS1.out]; simp [*]), Lib.hid (by rw [HS2.out]; simp [*]), below_drewN hbi _⟩
                  case measure => simp [intOf]; omega
                | true =>
                  clear hbd
                  go_wp2
                  go_quiet (fail)
                  go_wp2
                  go_quiet (fail)
                  go_wp2
                  go_roundw
                  case rel => exact ⟨j + 1, true, true, by omega, by go_num, rfl, rfl, Lib.hid (by rw [HS1.out]; simp [*]), Lib.hid (by rw [HS2.out]; simp [*]), below_drewN hbi _⟩
                  case measure => simp [intOf]; omega
            · have hjk2 : ¬ (j < k) := by omega
              by_cases hyx : y = x
              · have hd : (y == x) = true := by simpa using hyx
                clear hyx
                cases p with
                | false =>
                  cases q with
                  | false =>
                    clear hbd
                    go_wp2
                    go_quiet (fail)
                    go_wp2
                    go_quiet (fail)
                    go_wp2
                    go_roundw
                    case rel => exact ⟨j + 1, false, true, by omega, by go_num, rfl, rfl, Lib.hid (by rw [HS1.out]; simp [*]), Lib.hid (by rw [HS2.out]; simp [*]), below_drewN hbi _⟩
                    case measure => simp [intOf]; omega
                  | true =>
                    clear hbd
                    go_wp2
                    go_quiet (fail)
                    go_wp2
                    go_quiet (fail)
                    go_wp2
                    go_roundw
                    case rel => exact ⟨j + 1, false, true, by omega, by go_num, rfl, rfl, Lib.hid (by rw [HS1.out]; simp [*]), Lib.hid (by rw [HS2.out]; simp [*]), below_drewN hbi _⟩
                    case measure => simp [intOf]; omega
                | true =>
                  cases q with
                  | false =>
                    clear hbd
                    go_wp2
                    go_quiet (fail)
                    go_wp2
                    go_quiet (fail)
                    go_wp2
                    go_roundw
                    case rel => exact ⟨j + 1, true, true, by omega, by go_num, rfl, rfl, Lib.hid (by rw [HS1.out]; simp [*]), Lib.hid (by rw [HS2.out]; simp [*]), below_drewN hbi _⟩
                    case measure => simp [intOf]; omega
                  | true =>
                    clear hbd
                    go_wp2
                    go_quiet (fail)
                    go_wp2
                    go_quiet (fail)
                    go_wp2
                    go_roundw
                    case rel => exact ⟨j + 1, true, true, by omega, by go_num, rfl, rfl, Lib.hid (by rw [HS1.out]; simp [*]), Lib.hid (by rw [HS2.out]; simp [*]), below_drewN hbi _⟩
                    case measure => simp [intOf]; omega
              · have hd : (y == x) = false := by simpa using hyx
                clear hyx
                cases p with
                | false =>
                  cases q with
                  | false =>
                    clear hbd
                    go_wp2
                    go_quiet (fail)
                    go_wp2
                    go_quiet (fail)
                    go_wp2
                    go_roundw
                    case rel => exact ⟨j + 1, false, false, by omega, by go_num, rfl, rfl, Lib.hid (by rw [HS1.out]; simp [*]), Lib.hid (by rw [HS2.out]; simp [*]), below_drewN hbi _⟩
                    case measure => simp [intOf]; omega
                  | true =>
                    clear hbd
                    go_wp2
                    go_quiet (fail)
                    go_wp2
                    go_quiet (fail)
                    go_wp2
                    go_roundw
                    case rel => exact ⟨j + 1, false, true, by omega, by go_num, rfl, rfl, Lib.hid (by rw [HS1.out]; simp [*]), Lib.hid (by rw [HS2.out]; simp [*]), below_drewN hbi _⟩
                    case measure => simp [intOf]; omega
                | true =>
                  cases q with
                  | false =>
                    clear hbd
                    go_wp2
                    go_quiet (fail)
                    go_wp2
                    go_quiet (fail)
                    go_wp2
                    go_roundw
                    case rel => exact ⟨j + 1, true, false, by omega, by go_num, rfl, rfl, Lib.hid (by rw [HS1.out]; simp [*]), Lib.hid (by rw [HS2.out]; simp [*]), below_drewN hbi _⟩
                    case measure => simp [intOf]; omega
                  | true =>
                    clear hbd
                    go_wp2
                    go_quiet (fail)
                    go_wp2
                    go_quiet (fail)
                    go_wp2
                    go_roundw
                    case rel => exact ⟨j + 1, true, true, by omega, by go_num, rfl, rfl, Lib.hid (by rw [HS1.out]; simp [*]), Lib.hid (by rw [HS2.out]; simp [*]), below_drewN hbi _⟩
                    case measure => simp [intOf]; omega
          · have hjn' : j = n := by omega
            subst hjn'
            rw [HN.out, befB_all (by have := HN.out; omega)] at HPB
            rw [HN.out, behB_all] at HQB
            have HS1 := Lib.hid (openTo_succ xs k)
            have HS2 := Lib.hid (closeTo_succ xs k)
            rw [← HPB.out, ← HQB.out] at HS1 HS2
            have HOX1 := Lib.hid (own_below HOX.out hbi)
            have HOY1 := Lib.hid (own_below HOY.out hbi)
            clear HPB HQB
            cases p with
            | false =>
              cases q with
              | false =>
                go_wp2
                go_roundw
                case rel => exact ⟨k + 1, gx, mx, cx, gy, my, cy, by omega, by go_num, rfl, rfl, hne, Lib.hid (by rw [HS1.out, HMX.out]; simp), Lib.hid (by rw [HS2.out, HMY.out]; simp), by omega, by omega, by rw [HS1.out]; simpa using HOX1.out, by rw [HS2.out]; simpa using HOY1.out, hbw⟩
                case measure => simp [intOf]; omega
              | true =>
                go_wp2_with (at_builtin; refine wpList_push rfl _ _ rfl w.heap.size gx mx cx (openTo xs k) rfl (own_alloc HOX1.out _) HMX.out ⟨wr.heap.size, 0, none⟩ rfl (k : Int) (cell_new1 _ _ _) (by omega) (by simp; omega) ?_)
                intro g3 cap3 w3 hown3 hgr3 hg3
                have hol := own_lt HOY1.out gy rfl
                have hgl := own_lt HOX1.out gx rfl
                have hoo := own_grown (own_alloc HOY1.out (.cells #[.int .i64 k] 3)) hgr3 (.inr (by simp [Value.ownBlock]; omega))
                have hbel3 : Below w.heap.size w w3 := (hbw.alloc hbw.size _).grown hgr3 (by simp; omega) (fun q hq => by cases hq; exact hgl.1)
                have hn3 : g3 ≠ gy := by
                  rcases hg3 with h | h
                  · omega
                  · first | omega | (rw [World.size_alloc] at h; omega) | (simp at h; omega)
                have HO3 := Lib.hid hown3
                have HOO := Lib.hid hoo
                clear hown3 hgr3 hg3 hoo hol hgl
                go_wp2
                go_roundw
                case rel => exact ⟨k + 1, g3, mx + 1, cap3, gy, my, cy, by omega, by go_num, rfl, rfl, hn3, Lib.hid (by rw [HS1.out, HMX.out]; simp), Lib.hid (by rw [HS2.out, HMY.out]; simp), by omega, by omega, by rw [HS1.out]; simpa using HO3.out, by rw [HS2.out]; simpa using HOO.out, hbel3⟩
                case measure => simp [intOf]; omega
            | true =>
              cases q with
              | false =>
                go_wp2_with (at_builtin; refine wpList_push rfl _ _ rfl w.heap.size gy my cy (closeTo xs k) rfl (own_alloc HOY1.out _) HMY.out ⟨wr.heap.size, 0, none⟩ rfl (k : Int) (cell_new1 _ _ _) (by omega) (by simp; omega) ?_)
                intro g3 cap3 w3 hown3 hgr3 hg3
                have hol := own_lt HOX1.out gx rfl
                have hgl := own_lt HOY1.out gy rfl
                have hoo := own_grown (own_alloc HOX1.out (.cells #[.int .i64 k] 3)) hgr3 (.inr (by simp [Value.ownBlock]; omega))
                have hbel3 : Below w.heap.size w w3 := (hbw.alloc hbw.size _).grown hgr3 (by simp; omega) (fun q hq => by cases hq; exact hgl.1)
                have hn3 : g3 ≠ gx := by
                  rcases hg3 with h | h
                  · omega
                  · first | omega | (rw [World.size_alloc] at h; omega) | (simp at h; omega)
                have HO3 := Lib.hid hown3
                have HOO := Lib.hid hoo
                clear hown3 hgr3 hg3 hoo hol hgl
                go_wp2
                go_roundw
                case rel => exact ⟨k + 1, gx, mx, cx, g3, my + 1, cap3, by omega, by go_num, rfl, rfl, hn3.symm, Lib.hid (by rw [HS1.out, HMX.out]; simp), Lib.hid (by rw [HS2.out, HMY.out]; simp), by omega, by omega, by rw [HS1.out]; simpa using HOO.out, by rw [HS2.out]; simpa using HO3.out, hbel3⟩
                case measure => simp [intOf]; omega
              | true =>
                go_wp2
                go_roundw
                case rel => exact ⟨k + 1, gx, mx, cx, gy, my, cy, by omega, by go_num, rfl, rfl, hne, Lib.hid (by rw [HS1.out, HMX.out]; simp), Lib.hid (by rw [HS2.out, HMY.out]; simp), by omega, by omega, by rw [HS1.out]; simpa using HOX1.out, by rw [HS2.out]; simpa using HOY1.out, hbw⟩
                case measure => simp [intOf]; omega
      · have hkn : k = n := by omega
        subst hkn
        go_wp2
        exact bodyPost_ret (results_tmp3 rfl _ _ _) rfl ⟨_, _, rfl, HOX.out, HOY.out, hbel⟩
  · have hp : partIn xs = false := by simpa using hp
    have hr : arcOpeners xs = ([], [], false) := by simp [arcOpeners, hp]
    rw [hr]
    have HP := Lib.hid hp
    clear hp hr hx
    go_enter Tryd.func13, Tryd.ntmps13
    go_wp2_with fail
    refine (sPartIn_is false _ xs _ (rdv_below HV.out ((Below.refl _ _).trans (HB0.out))) HP).mono ?_
    rintro e w' ⟨rfl, rfl⟩
    go_wp2
    exact bodyPost_ret (results_tmp3 rfl _ _ _) rfl ⟨_, _, rfl, HO1.out, HO2.out, HB0.out⟩

end Go.Proofs.YtipmafplpoadjaaDoor
