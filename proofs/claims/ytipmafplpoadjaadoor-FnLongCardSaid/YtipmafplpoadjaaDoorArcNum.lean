/-
  The contract of spec.l5Pairs; the contracts of ArcCross, ArcNest and ArcLong of both sides.
-/
import Derived.Test.YtipmafplpoadjaaDoorArcList
namespace Go.Proofs.YtipmafplpoadjaaDoor
set_option linter.unusedSimpArgs false
set_option linter.unusedVariables false
set_option linter.unnecessarySimpa false
open Go.RowKit

theorem rowsOf_getD (L : List (Nat × Nat)) (j : Nat) (h : j < L.length) : (rowsOf L).getD j [] = [((L.getD j (0, 0)).1 : Int), ((L.getD j (0, 0)).2 : Int)] := by
  simp [rowsOf, List.getD, h]

/-- Arcs told as lists, in memory: where each number stands. -/
def ArcsAt (w : World) (v : Value) (L : List (Nat × Nat)) : Prop :=
  ∃ ao cap, v = .slice ao L.length cap ∧ (L = [] ∨ ∃ g, ao = some ⟨g, 0, none⟩ ∧ ∀ j, j < L.length → ∃ gj cj, w.cell? ⟨g, j, none⟩ = some (.slice (some ⟨gj, 0, none⟩) 2 cj) ∧
    w.cell? ⟨gj, 0, none⟩ = some (.int .i64 (L.getD j (0, 0)).1) ∧ w.cell? ⟨gj, 1, none⟩ = some (.int .i64 (L.getD j (0, 0)).2))

theorem arcsAt_own {w : World} {B S : Nat} {v : Value} {L : List (Nat × Nat)} (h : OwnM w B S v (rowsOf L)) : ArcsAt w v L := by
  obtain ⟨vs, hvl, hv, hr, _⟩ := ownM_parts h
  rw [rowsOf_length] at hv
  rcases hv with ⟨h1, h2⟩ | ⟨g, cap, h1, _, _, _, _, _, hc, _⟩
  · rw [h1]
    have h2 : L = [] := by
      cases L with
      | nil => rfl
      | cons p L => simp [rowsOf] at h2
    subst h2
    exact ⟨none, 0, rfl, .inl rfl⟩
  · refine ⟨_, cap, h1, .inr ⟨g, rfl, fun j hj => ?_⟩⟩
    have h3 := hc j (by first | exact hj | (rw [rowsOf_length]; exact hj))
    have h4 := (hr j (by rw [rowsOf_length]; exact hj)).1
    rw [rowsOf_getD L j hj] at h4
    rcases own_view h4 with ⟨_, h5⟩ | ⟨gj, cj, h5, _, _, _, _, h6, _⟩
    · cases h5
    · rw [h5] at h3
      exact ⟨gj, cj, h3, h6 0 (by simp), h6 1 (by simp)⟩

def arcCross (xs : List Int) : Int × Bool := if partIn xs then (((crossings xs : Nat) : Int), true) else (0, false)

def arcNest (xs : List Int) : Int × Bool := if partIn xs then (((nestings xs : Nat) : Int), true) else (0, false)

theorem arc_bd (xs : List Int) (h8 : xs.length ≤ 8) : ∀ k, k < (arcsOf xs).length → ((arcsOf xs).getD k (0, 0)).1 < ((arcsOf xs).getD k (0, 0)).2 ∧ ((arcsOf xs).getD k (0, 0)).2 < 8 := by
  intro k hk
  have hm : (arcsOf xs).getD k (0, 0) ∈ arcsFrom 0 xs := by
    show (arcsOf xs).getD k (0, 0) ∈ arcsOf xs
    simp [List.getD, hk]
  obtain ⟨_, h2, h3, _⟩ := arcsFrom_mem xs 0 _ hm
  exact ⟨h2, by omega⟩

def arcLong (xs : List Int) : Int × Bool := if partIn xs then (((longL (arcsOf xs) : Nat) : Int), true) else (0, false)

set_option maxHeartbeats 4000000 in
theorem sArcLong_v (v : Value) (xs : List Int) (w : World) (hv : RdV w v xs) : Calls Tryd.prog 18 #[v] w (GivesIB w (arcLong xs)) := by
  have HV := Lib.hid hv
  clear hv
  by_cases hp : partIn xs = true
  · have hr : arcLong xs = (((longL (arcsOf xs) : Nat) : Int), true) := by simp [arcLong, hp]
    rw [hr]
    have hl := partIn_len hp
    have HP := Lib.hid hp
    have HA := Lib.hid (l5Arcs_any v xs w HV.out (by omega))
    have HBD := Lib.hid (arc_bd xs hl.2)
    have hal := arcsOf_len xs
    obtain ⟨L, hL⟩ : ∃ L, L = arcsOf xs := ⟨_, rfl⟩
    rw [← hL] at HA HBD hal ⊢
    have hL8 : L.length ≤ 8 := by omega
    clear hp hr hL hal hl
    go_enter Tryd.func18, Tryd.ntmps18
    go_wp2_with fail
    refine (sPartIn_is true _ _ _ HV.out HP).mono ?_
    rintro e w' ⟨rfl, rfl⟩
    go_wp2_with fail
    refine HA.out.mono ?_
    rintro e w1 ⟨va, rfl, ho, hb1⟩
    obtain ⟨ao, ca, rfl, hx⟩ := arcsAt_own ho
    obtain ⟨n, hn⟩ : ∃ n, n = L.length := ⟨_, rfl⟩
    rw [← hn] at hL8 ⊢
    have HN := Lib.hid hn
    have HX := Lib.hid hx
    clear ho hn hx
    have hs1 := hb1.size
    go_wp2
    go_loopw [4, 6] (fun u i wr => ∃ k s : Nat, k ≤ n ∧ i = .int .i64 k ∧ u = .int .i64 s ∧ s ≤ 8 * k ∧ Hid (longL L = s + longL (L.drop k)) ∧ Below w1.heap.size w1 wr)
      (fun _ i _ => n - (intOf i).toNat)
    case atStart => exact ⟨0, 0, Nat.zero_le _, rfl, rfl, by omega, Lib.hid (by simp), Below.refl _ _⟩
    case round =>
      obtain ⟨k, s, hk, rfl, rfl, hs8, HS, hbel⟩ := hrel
      have hbs := hbel.size
      by_cases hlt : k < n
      · rcases HX.out with hx | ⟨g, rfl, hcx⟩
        · have := HN.out
          rw [hx] at this
          simp at this
          omega
        obtain ⟨gk, ck, hk0, hk1, hk2⟩ := hcx k (by have := HN.out; omega)
        rw [← hbel.cell (World.block_lt_of_cell? w1 _ hk0)] at hk0
        rw [← hbel.cell (World.block_lt_of_cell? w1 _ hk1)] at hk1
        rw [← hbel.cell (World.block_lt_of_cell? w1 _ hk2)] at hk2
        have hd : L.drop k = L.getD k (0, 0) :: L.drop (k + 1) := by
          rw [List.drop_eq_getElem_cons (by have := HN.out; omega)]
          simp [List.getD, show k < L.length by have := HN.out; omega]
        rw [hd, longL] at HS
        obtain ⟨hab, hb8⟩ := HBD.out k (by have := HN.out; omega)
        obtain ⟨⟨a, b⟩, hy⟩ : ∃ y, y = L.getD k (0, 0) := ⟨_, rfl⟩
        rw [← hy] at HS hk1 hk2 hab hb8
        dsimp only at hk1 hk2 hab hb8 HS
        clear hy hcx hd
        go_wp2
        go_quiet (fail)
        go_wp2
        go_roundw
        case rel => exact ⟨k + 1, s + (b - a), by omega, by go_num, by go_num, by omega, Lib.hid (by have := HS.out; omega), below_drewN hbel _⟩
        case measure => simp [intOf]; omega
      · have hkn : k = n := by omega
        subst hkn
        have hdn : L.drop k = [] := by rw [HN.out, List.drop_length]
        rw [hdn, longL] at HS
        go_wp2
        go_ret2
        rw [HS.out]
        exact ⟨rfl, hb1.trans (hbel.mono hs1)⟩
  · have hp : partIn xs = false := by simpa using hp
    have hr : arcLong xs = (0, false) := by simp [arcLong, hp]
    rw [hr]
    have HP := Lib.hid hp
    clear hp hr
    go_enter Tryd.func18, Tryd.ntmps18
    go_wp2_with fail
    refine (sPartIn_is false _ _ _ HV.out HP).mono ?_
    rintro e w' ⟨rfl, rfl⟩
    go_wp2
    go_ret2
    exact ⟨rfl, Below.refl _ _⟩

set_option maxHeartbeats 4000000 in
theorem iArcLong_v (v : Value) (xs : List Int) (w : World) (hv : RdV w v xs) : Calls Tryd.prog 17 #[v] w (GivesIB w (arcLong xs)) := by
  have HV := Lib.hid hv
  clear hv
  by_cases hp : partIn xs = true
  · have hr : arcLong xs = (((longL (arcsOf xs) : Nat) : Int), true) := by simp [arcLong, hp]
    rw [hr]
    have hl := partIn_len hp
    have HP := Lib.hid hp
    have HA := Lib.hid (arcsOf_any v xs w HV.out (by omega))
    have HBD := Lib.hid (arc_bd xs hl.2)
    have hal := arcsOf_len xs
    obtain ⟨L, hL⟩ : ∃ L, L = arcsOf xs := ⟨_, rfl⟩
    rw [← hL] at HA HBD hal ⊢
    have hL8 : L.length ≤ 8 := by omega
    clear hp hr hL hal hl
    go_enter Tryd.func17, Tryd.ntmps17
    go_wp2_with fail
    refine (iPartIn_is true _ _ _ HV.out HP).mono ?_
    rintro e w' ⟨rfl, rfl⟩
    go_wp2_with fail
    refine HA.out.mono ?_
    rintro e w1 ⟨va, rfl, ho, hb1⟩
    obtain ⟨ao, ca, rfl, hlc, hcm, hx⟩ := ownA_rd ho
    obtain ⟨n, hn⟩ : ∃ n, n = L.length := ⟨_, rfl⟩
    rw [← hn] at hL8 ⊢
    have HN := Lib.hid hn
    have HX := Lib.hid hx
    clear ho hn hx
    have hs1 := hb1.size
    go_wp2
    go_loopw [4, 13] (fun u i wr => ∃ k s : Nat, k ≤ n ∧ i = .int .i64 k ∧ u = .int .i64 s ∧ s ≤ 8 * k ∧ Hid (longL L = s + longL (L.drop k)) ∧ Below w1.heap.size w1 wr)
      (fun _ i _ => n - (intOf i).toNat)
    case atStart => exact ⟨0, 0, Nat.zero_le _, rfl, rfl, by omega, Lib.hid (by simp), Below.refl _ _⟩
    case round =>
      obtain ⟨k, s, hk, rfl, rfl, hs8, HS, hbel⟩ := hrel
      have hbs := hbel.size
      by_cases hlt : k < n
      · rcases HX.out with hx | ⟨g, rfl, hcx⟩
        · have := HN.out
          rw [hx] at this
          simp at this
          omega
        obtain ⟨hk1, hk2⟩ := hcx k (by have := HN.out; omega)
        rw [← hbel.cell (World.block_lt_of_cell? w1 _ hk1)] at hk1
        rw [← hbel.cell (World.block_lt_of_cell? w1 _ hk2)] at hk2
        have hd : L.drop k = L.getD k (0, 0) :: L.drop (k + 1) := by
          rw [List.drop_eq_getElem_cons (by have := HN.out; omega)]
          simp [List.getD, show k < L.length by have := HN.out; omega]
        rw [hd, longL] at HS
        obtain ⟨hab, hb8⟩ := HBD.out k (by have := HN.out; omega)
        obtain ⟨⟨a, b⟩, hy⟩ : ∃ y, y = L.getD k (0, 0) := ⟨_, rfl⟩
        rw [← hy] at HS hk1 hk2 hab hb8
        dsimp only at hk1 hk2 hab hb8 HS
        clear hy hcx hd
        go_wp2
        go_roundw
        case rel => exact ⟨k + 1, s + (b - a), by omega, by go_num, by go_num, by omega, Lib.hid (by have := HS.out; omega), hbel.alloc hbs _⟩
        case measure => simp [intOf]; omega
      · have hkn : k = n := by omega
        subst hkn
        have hdn : L.drop k = [] := by rw [HN.out, List.drop_length]
        rw [hdn, longL] at HS
        go_wp2
        go_ret2
        rw [HS.out]
        exact ⟨rfl, hb1.trans (hbel.mono hs1)⟩
  · have hp : partIn xs = false := by simpa using hp
    have hr : arcLong xs = (0, false) := by simp [arcLong, hp]
    rw [hr]
    have HP := Lib.hid hp
    clear hp hr
    go_enter Tryd.func17, Tryd.ntmps17
    go_wp2_with fail
    refine (iPartIn_is false _ _ _ HV.out HP).mono ?_
    rintro e w' ⟨rfl, rfl⟩
    go_wp2
    go_ret2
    exact ⟨rfl, Below.refl _ _⟩

end Go.Proofs.YtipmafplpoadjaaDoor
