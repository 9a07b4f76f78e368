/-
  The contract of spec.l5Pairs; the contracts of ArcCross, ArcNest and ArcLong of both sides.
-/
import Derived.Test.YtipmafplpoadjaaArcList
namespace Go.Proofs.Ytipmafplpoadjaa
set_option linter.unusedSimpArgs false
set_option linter.unusedVariables false
set_option linter.unnecessarySimpa false
open Go.RowKit

theorem rowsOf_getD (L : List (Nat × Nat)) (j : Nat) (h : j < L.length) : (rowsOf L).getD j [] = [((L.getD j (0, 0)).1 : Int), ((L.getD j (0, 0)).2 : Int)] := by
  simp [rowsOf, List.getD, h]

/-- Arcs told as lists, in memory: where each number stands. -/
def ArcsAt (w : World) (v : Value) (L : List (Nat × Nat)) : Prop :=
  ∃ ao cap, v = .slice ao L.length cap ∧ (L = [] ∨ ∃ g, ao = some ⟨g, 0, none⟩ ∧ ∀ j, j < L.length → ∃ gj cj, w.cell? ⟨g, j, none⟩ = some (.slice (some ⟨gj, 0, none⟩) 2 cj) ∧
    w.cell? ⟨gj, 0, none⟩ = some (.int .i64 (L.getD j (0, 0)).1) ∧ w.cell? ⟨gj, 1, none⟩ = some (.int .i64 (L.getD j (0, 0)).2))

theorem arcsAt_own {w : World} {B S : Nat} {v : Value} {L : List (Nat × Nat)} (h : OwnM w B S v (rowsOf L)) : ArcsAt w v L := by
  obtain ⟨vs, hvl, hv, hr, _⟩ := ownM_parts h
  rw [rowsOf_length] at hv
  rcases hv with ⟨h1, h2⟩ | ⟨g, cap, h1, _, _, _, _, _, hc, _⟩
  · rw [h1]
    have h2 : L = [] := by
      cases L with
      | nil => rfl
      | cons p L => simp [rowsOf] at h2
    subst h2
    exact ⟨none, 0, rfl, .inl rfl⟩
  · refine ⟨_, cap, h1, .inr ⟨g, rfl, fun j hj => ?_⟩⟩
    have h3 := hc j (by first | exact hj | (rw [rowsOf_length]; exact hj))
    have h4 := (hr j (by rw [rowsOf_length]; exact hj)).1
    rw [rowsOf_getD L j hj] at h4
    rcases own_view h4 with ⟨_, h5⟩ | ⟨gj, cj, h5, _, _, _, _, h6, _⟩
    · cases h5
    · rw [h5] at h3
      exact ⟨gj, cj, h3, h6 0 (by simp), h6 1 (by simp)⟩

set_option maxHeartbeats 4000000 in
theorem l5Pairs_any (v : Value) (xs : List Int) (w : World) (hv : RdV w v xs) (hl8 : xs.length ≤ 990) :
    Calls Try.prog 61 #[v] w fun e w' => e = .returned (.tuple #[.int .i64 (crossings xs), .int .i64 (nestings xs)]) ∧ Below w.heap.size w w' := by
  have HA := Lib.hid (l5Arcs_any v xs w hv (by omega))
  have hal := arcsOf_len xs
  rw [← cross_same, ← nest_same]
  obtain ⟨L, hL⟩ : ∃ L, L = arcsOf xs := ⟨_, rfl⟩
  rw [← hL] at HA hal ⊢
  have hL8 : L.length ≤ 990 := by omega
  clear hL hal hl8 hv
  go_enter Try.func61, Try.ntmps61
  go_wp2_with fail
  refine HA.out.mono ?_
  rintro e w1 ⟨va, rfl, ho, hb1⟩
  obtain ⟨ao, ca, rfl, hx⟩ := arcsAt_own ho
  obtain ⟨n, hn⟩ : ∃ n, n = L.length := ⟨_, rfl⟩
  rw [← hn] at hL8 ⊢
  have HN := Lib.hid hn
  have HX := Lib.hid hx
  clear ho hn hx
  have hs1 := hb1.size
  go_wp2
  go_loopw [5, 6, 7] (fun u m i wr => ∃ k c s : Nat, k ≤ n ∧ i = .int .i64 k ∧ u = .int .i64 c ∧ m = .int .i64 s ∧ c ≤ 990 * k ∧ s ≤ 990 * k ∧ Hid (pairsL crossS L = c + pairsL crossS (L.drop k)) ∧ Hid (pairsL nestS L = s + pairsL nestS (L.drop k)) ∧ Below w1.heap.size w1 wr)
    (fun _ _ i _ => n - (intOf i).toNat)
  case atStart => exact ⟨0, 0, 0, Nat.zero_le _, rfl, rfl, rfl, by omega, by omega, Lib.hid (by simp), Lib.hid (by simp), Below.refl _ _⟩
  case round =>
    obtain ⟨k, c, s, hk, rfl, rfl, rfl, hc9, hs9, HC, HS, hbel⟩ := hrel
    have hbs := hbel.size
    by_cases hlt : k < n
    · rcases HX.out with hx | ⟨g, rfl, hcx⟩
      · have := HN.out
        rw [hx] at this
        simp at this
        omega
      have HCX := Lib.hid hcx
      clear hcx
      have hd : L.drop k = L.getD k (0, 0) :: L.drop (k + 1) := by
        rw [List.drop_eq_getElem_cons (by have := HN.out; omega)]
        simp [List.getD, show k < L.length by have := HN.out; omega]
      rw [hd] at HC HS
      clear hd
      obtain ⟨⟨a, b⟩, hy⟩ : ∃ y, y = L.getD k (0, 0) := ⟨_, rfl⟩
      rw [← hy] at HC HS
      have HY := Lib.hid hy
      clear hy
      obtain ⟨wo, hwo⟩ : ∃ wo : World, wo = wr := ⟨_, rfl⟩
      subst hwo
      go_wp2
      go_loopw [5, 6, 8] (fun u m i wi => ∃ j c2 s2 : Nat, k < j ∧ j ≤ n ∧ i = .int .i64 j ∧ u = .int .i64 c2 ∧ m = .int .i64 s2 ∧ c2 ≤ c + (j - k) ∧ s2 ≤ s + (j - k) ∧ Hid (c + (L.drop (k + 1)).countP (crossS (a, b)) = c2 + (L.drop j).countP (crossS (a, b))) ∧ Hid (s + (L.drop (k + 1)).countP (nestS (a, b)) = s2 + (L.drop j).countP (nestS (a, b))) ∧ Below w1.heap.size w1 wi)
        (fun _ _ i _ => n - (intOf i).toNat)
      case atStart => exact ⟨k + 1, c, s, by omega, by omega, by go_num, rfl, rfl, by omega, by omega, Lib.hid rfl, Lib.hid rfl, hbel⟩
      case round =>
        obtain ⟨j, c2, s2, hkj, hjn, rfl, rfl, rfl, hc29, hs29, HC2, HS2, hbi⟩ := hrel
        by_cases hjl : j < n
        · obtain ⟨gk, ck, hk0, hk1, hk2⟩ := HCX.out k (by have := HN.out; omega)
          obtain ⟨gj, cj, hj0, hj1, hj2⟩ := HCX.out j (by have := HN.out; omega)
          rw [← HY.out] at hk1 hk2
          rw [← hbi.cell (World.block_lt_of_cell? w1 _ hk0)] at hk0
          rw [← hbi.cell (World.block_lt_of_cell? w1 _ hk1)] at hk1
          rw [← hbi.cell (World.block_lt_of_cell? w1 _ hk2)] at hk2
          rw [← hbi.cell (World.block_lt_of_cell? w1 _ hj0)] at hj0
          rw [← hbi.cell (World.block_lt_of_cell? w1 _ hj1)] at hj1
          rw [← hbi.cell (World.block_lt_of_cell? w1 _ hj2)] at hj2
          have hd : L.drop j = L.getD j (0, 0) :: L.drop (j + 1) := by
            rw [List.drop_eq_getElem_cons (by have := HN.out; omega)]
            simp [List.getD, show j < L.length by have := HN.out; omega]
          rw [hd, List.countP_cons] at HC2 HS2
          clear hd
          obtain ⟨⟨p, q⟩, hy⟩ : ∃ y, y = L.getD j (0, 0) := ⟨_, rfl⟩
          rw [← hy] at HC2 HS2 hj1 hj2
          dsimp only at hk1 hk2 hj1 hj2
          clear hy
          have hcs : c2 ≤ 980100 := by
            have := Nat.mul_le_mul (Nat.le_refl 990) (show k + 1 ≤ 990 by omega)
            omega
          have hss : s2 ≤ 980100 := by
            have := Nat.mul_le_mul (Nat.le_refl 990) (show k + 1 ≤ 990 by omega)
            omega
          by_cases h1 : p < b
          · by_cases h2 : b < q
            · have HC3 := Lib.hid (show crossS (a, b) (p, q) = true by simp [crossS, h1, h2])
              have HS3 := Lib.hid (show nestS (a, b) (p, q) = false by simp [nestS, h2])
              go_wp2
              go_quiet (fail)
              go_wp2
              go_quiet (fail)
              go_wp2
              go_roundw
              case rel =>
                have e1 := HC2.out
                have e2 := HS2.out
                rw [HC3.out] at e1
                rw [HS3.out] at e2
                simp at e1 e2
                exact ⟨j + 1, c2 + 1, s2 + 0, by omega, by omega, by go_num, by go_num, rfl, by omega, by omega, Lib.hid (by omega), Lib.hid (by omega), below_drewN hbi _⟩
              case measure => simp [intOf]; omega
            · have HC3 := Lib.hid (show crossS (a, b) (p, q) = false by simp [crossS, h2])
              have HS3 := Lib.hid (show nestS (a, b) (p, q) = true by simp [nestS, h1, h2])
              go_wp2
              go_quiet (fail)
              go_wp2
              go_quiet (fail)
              go_wp2
              go_roundw
              case rel =>
                have e1 := HC2.out
                have e2 := HS2.out
                rw [HC3.out] at e1
                rw [HS3.out] at e2
                simp at e1 e2
                exact ⟨j + 1, c2 + 0, s2 + 1, by omega, by omega, by go_num, rfl, by go_num, by omega, by omega, Lib.hid (by omega), Lib.hid (by omega), below_drewN hbi _⟩
              case measure => simp [intOf]; omega
          · have HC3 := Lib.hid (show crossS (a, b) (p, q) = false by simp [crossS, h1])
            have HS3 := Lib.hid (show nestS (a, b) (p, q) = false by simp [nestS, h1])
            go_wp2
            go_quiet (fail)
            go_wp2
            go_roundw
            case rel =>
              have e1 := HC2.out
              have e2 := HS2.out
              rw [HC3.out] at e1
              rw [HS3.out] at e2
              simp at e1 e2
              exact ⟨j + 1, c2 + 0, s2 + 0, by omega, by omega, by go_num, rfl, rfl, by omega, by omega, Lib.hid (by omega), Lib.hid (by omega), below_drewN hbi _⟩
            case measure => simp [intOf]; omega
        · have hjn' : j = n := by omega
          subst hjn'
          have hdn : L.drop j = [] := by rw [HN.out, List.drop_length]
          rw [hdn, List.countP_nil] at HC2 HS2
          have hc9' : c2 ≤ 990 * (k + 1) := by omega
          have hs9' : s2 ≤ 990 * (k + 1) := by omega
          have HC9 := Lib.hid hc9'
          have HS9 := Lib.hid hs9'
          have hkk : k + 1 ≤ j := by omega
          clear hdn hc9' hs9' hc29 hs29 hc9 hs9
          go_wp2
          go_roundw
          case rel =>
            have e1 := HC.out
            have e2 := HS.out
            have e3 := HC2.out
            have e4 := HS2.out
            rw [pairsL] at e1 e2
            exact ⟨k + 1, c2, s2, hkk, by go_num, rfl, rfl, HC9.out, HS9.out, Lib.hid (by omega), Lib.hid (by omega), hbi⟩
          case measure => simp [intOf]; omega
    · have hkn : k = n := by omega
      subst hkn
      have hdn : L.drop k = [] := by rw [HN.out, List.drop_length]
      rw [hdn, pairsL] at HC HS
      go_wp2
      go_ret2
      rw [HC.out, HS.out]
      exact ⟨rfl, hb1.trans (hbel.mono hs1)⟩

def arcCross (xs : List Int) : Int × Bool := if partIn xs then (((crossings xs : Nat) : Int), true) else (0, false)

set_option maxHeartbeats 800000 in
theorem sArcCross_v (v : Value) (xs : List Int) (w : World) (hv : RdV w v xs) : Calls Try.prog 24 #[v] w (GivesIB w (arcCross xs)) := by
  have HV := Lib.hid hv
  clear hv
  by_cases hp : partIn xs = true
  · have hr : arcCross xs = (((crossings xs : Nat) : Int), true) := by simp [arcCross, hp]
    rw [hr]
    have hl := partIn_len hp
    have HP := Lib.hid hp
    clear hp hr
    have HQ := Lib.hid (l5Pairs_any v xs w HV.out (by omega))
    obtain ⟨c, hc⟩ : ∃ c, c = crossings xs := ⟨_, rfl⟩
    obtain ⟨s, hs⟩ : ∃ s, s = nestings xs := ⟨_, rfl⟩
    rw [← hc, ← hs] at HQ
    first | rw [← hc] | rw [← hs]
    clear hc hs
    go_enter Try.func24, Try.ntmps24
    go_wp2_with fail
    refine (sPartIn_is true _ _ _ HV.out HP).mono ?_
    rintro e w' ⟨rfl, rfl⟩
    go_wp2_with fail
    refine HQ.out.mono ?_
    rintro e w1 ⟨rfl, hb1⟩
    go_wp2
    go_ret2
    exact ⟨rfl, hb1⟩
  · have hp : partIn xs = false := by simpa using hp
    have hr : arcCross xs = (0, false) := by simp [arcCross, hp]
    rw [hr]
    have HP := Lib.hid hp
    clear hp hr
    go_enter Try.func24, Try.ntmps24
    go_wp2_with fail
    refine (sPartIn_is false _ _ _ HV.out HP).mono ?_
    rintro e w' ⟨rfl, rfl⟩
    go_wp2
    go_ret2
    exact ⟨rfl, Below.refl _ _⟩

set_option maxHeartbeats 800000 in
theorem iArcCross_v (v : Value) (xs : List Int) (w : World) (hv : RdV w v xs) : Calls Try.prog 23 #[v] w (GivesIB w (arcCross xs)) := by
  have HV := Lib.hid hv
  clear hv
  by_cases hp : partIn xs = true
  · have hr : arcCross xs = (((crossings xs : Nat) : Int), true) := by simp [arcCross, hp]
    rw [hr]
    have hl := partIn_len hp
    have HP := Lib.hid hp
    clear hp hr
    have HA := Lib.hid (arcsOf_any v xs w HV.out (by omega))
    have hq := fun (u : Value) (w1 : World) (hu : RdA w1 u (arcsOf xs)) => pairsThat_any _ crossB cross_arc cross_fn u (arcsOf xs) w1 hu ((arcsFrom_sorted xs 0).imp fun h => h.1) (by have := arcsOf_len xs; omega)
    obtain ⟨c, hc⟩ : ∃ c, c = crossings xs := ⟨_, rfl⟩
    change ∀ u w1, RdA w1 u (arcsOf xs) → Calls _ _ _ _ (GivesI w1 ((crossings xs : Nat) : Int)) at hq
    rw [← hc] at hq ⊢
    have HQ := Lib.hid hq
    clear hc hq
    go_enter Try.func23, Try.ntmps23
    go_wp2_with fail
    refine (iPartIn_is true _ _ _ HV.out HP).mono ?_
    rintro e w' ⟨rfl, rfl⟩
    go_wp2_with fail
    refine HA.out.mono ?_
    rintro e w1 ⟨u, rfl, ho, hb1⟩
    have HO := Lib.hid (ownA_rd ho)
    clear ho
    go_wp2_with fail
    refine (HQ.out _ _ HO.out).mono ?_
    rintro e w2 ⟨rfl, hb2⟩
    go_wp2
    go_ret2
    exact ⟨rfl, below_step hb1 hb2⟩
  · have hp : partIn xs = false := by simpa using hp
    have hr : arcCross xs = (0, false) := by simp [arcCross, hp]
    rw [hr]
    have HP := Lib.hid hp
    clear hp hr
    go_enter Try.func23, Try.ntmps23
    go_wp2_with fail
    refine (iPartIn_is false _ _ _ HV.out HP).mono ?_
    rintro e w' ⟨rfl, rfl⟩
    go_wp2
    go_ret2
    exact ⟨rfl, Below.refl _ _⟩

def arcNest (xs : List Int) : Int × Bool := if partIn xs then (((nestings xs : Nat) : Int), true) else (0, false)

set_option maxHeartbeats 800000 in
theorem sArcNest_v (v : Value) (xs : List Int) (w : World) (hv : RdV w v xs) : Calls Try.prog 28 #[v] w (GivesIB w (arcNest xs)) := by
  have HV := Lib.hid hv
  clear hv
  by_cases hp : partIn xs = true
  · have hr : arcNest xs = (((nestings xs : Nat) : Int), true) := by simp [arcNest, hp]
    rw [hr]
    have hl := partIn_len hp
    have HP := Lib.hid hp
    clear hp hr
    have HQ := Lib.hid (l5Pairs_any v xs w HV.out (by omega))
    obtain ⟨c, hc⟩ : ∃ c, c = crossings xs := ⟨_, rfl⟩
    obtain ⟨s, hs⟩ : ∃ s, s = nestings xs := ⟨_, rfl⟩
    rw [← hc, ← hs] at HQ
    first | rw [← hc] | rw [← hs]
    clear hc hs
    go_enter Try.func28, Try.ntmps28
    go_wp2_with fail
    refine (sPartIn_is true _ _ _ HV.out HP).mono ?_
    rintro e w' ⟨rfl, rfl⟩
    go_wp2_with fail
    refine HQ.out.mono ?_
    rintro e w1 ⟨rfl, hb1⟩
    go_wp2
    go_ret2
    exact ⟨rfl, hb1⟩
  · have hp : partIn xs = false := by simpa using hp
    have hr : arcNest xs = (0, false) := by simp [arcNest, hp]
    rw [hr]
    have HP := Lib.hid hp
    clear hp hr
    go_enter Try.func28, Try.ntmps28
    go_wp2_with fail
    refine (sPartIn_is false _ _ _ HV.out HP).mono ?_
    rintro e w' ⟨rfl, rfl⟩
    go_wp2
    go_ret2
    exact ⟨rfl, Below.refl _ _⟩

set_option maxHeartbeats 800000 in
theorem iArcNest_v (v : Value) (xs : List Int) (w : World) (hv : RdV w v xs) : Calls Try.prog 26 #[v] w (GivesIB w (arcNest xs)) := by
  have HV := Lib.hid hv
  clear hv
  by_cases hp : partIn xs = true
  · have hr : arcNest xs = (((nestings xs : Nat) : Int), true) := by simp [arcNest, hp]
    rw [hr]
    have hl := partIn_len hp
    have HP := Lib.hid hp
    clear hp hr
    have HA := Lib.hid (arcsOf_any v xs w HV.out (by omega))
    have hq := fun (u : Value) (w1 : World) (hu : RdA w1 u (arcsOf xs)) => pairsThat_any _ nestB nest_arc nest_fn u (arcsOf xs) w1 hu ((arcsFrom_sorted xs 0).imp fun h => h.1) (by have := arcsOf_len xs; omega)
    obtain ⟨c, hc⟩ : ∃ c, c = nestings xs := ⟨_, rfl⟩
    change ∀ u w1, RdA w1 u (arcsOf xs) → Calls _ _ _ _ (GivesI w1 ((nestings xs : Nat) : Int)) at hq
    rw [← hc] at hq ⊢
    have HQ := Lib.hid hq
    clear hc hq
    go_enter Try.func26, Try.ntmps26
    go_wp2_with fail
    refine (iPartIn_is true _ _ _ HV.out HP).mono ?_
    rintro e w' ⟨rfl, rfl⟩
    go_wp2_with fail
    refine HA.out.mono ?_
    rintro e w1 ⟨u, rfl, ho, hb1⟩
    have HO := Lib.hid (ownA_rd ho)
    clear ho
    go_wp2_with fail
    refine (HQ.out _ _ HO.out).mono ?_
    rintro e w2 ⟨rfl, hb2⟩
    go_wp2
    go_ret2
    exact ⟨rfl, below_step hb1 hb2⟩
  · have hp : partIn xs = false := by simpa using hp
    have hr : arcNest xs = (0, false) := by simp [arcNest, hp]
    rw [hr]
    have HP := Lib.hid hp
    clear hp hr
    go_enter Try.func26, Try.ntmps26
    go_wp2_with fail
    refine (iPartIn_is false _ _ _ HV.out HP).mono ?_
    rintro e w' ⟨rfl, rfl⟩
    go_wp2
    go_ret2
    exact ⟨rfl, Below.refl _ _⟩

theorem arc_bd (xs : List Int) (h8 : xs.length ≤ 8) : ∀ k, k < (arcsOf xs).length → ((arcsOf xs).getD k (0, 0)).1 < ((arcsOf xs).getD k (0, 0)).2 ∧ ((arcsOf xs).getD k (0, 0)).2 < 8 := by
  intro k hk
  have hm : (arcsOf xs).getD k (0, 0) ∈ arcsFrom 0 xs := by
    show (arcsOf xs).getD k (0, 0) ∈ arcsOf xs
    simp [List.getD, hk]
  obtain ⟨_, h2, h3, _⟩ := arcsFrom_mem xs 0 _ hm
  exact ⟨h2, by omega⟩

def arcLong (xs : List Int) : Int × Bool := if partIn xs then (((longL (arcsOf xs) : Nat) : Int), true) else (0, false)

end Go.Proofs.Ytipmafplpoadjaa
