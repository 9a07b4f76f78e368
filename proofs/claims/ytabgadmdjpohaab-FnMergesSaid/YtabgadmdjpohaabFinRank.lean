/-
  The contracts of FinerRank, pairCount, FinerChains (impl and spec).
-/
import Derived.Test.YtabgadmdjpohaabCells
import Derived.Test.YtabgadmdjpohaabKernel
namespace Go.Proofs.Ytabgadmdjpohaab
set_option linter.unusedSimpArgs false
set_option linter.unusedVariables false
set_option linter.unnecessarySimpa false
open Go.RowKit
set_option maxRecDepth 100000

def finerRank (xs : List Int) : Int × Bool := if partIn xs then ((xs.length : Int) - pSize xs, true) else (0, false)

theorem iFinerRank_v (v : Value) (xs : List Int) (w : World) (hv : RdV w v xs) : Calls Try.prog 9 #[v] w (GivesIB w (finerRank xs)) := by
  have hv0 := hv
  obtain ⟨ao, ca, rfl, h, h1, h2⟩ := hv
  unfold maxLen at h2
  have HV := Lib.hid hv0
  clear hv0
  by_cases hp : partIn xs = true
  · have hr : finerRank xs = ((xs.length : Int) - pSize xs, true) := by simp [finerRank, hp]
    rw [hr]
    have hs := partIn_small hp
    have hl := partIn_len hp
    have hb := pSize_bd hs
    have HP := Lib.hid hp
    have HS := Lib.hid hs
    clear hp hr hs
    go_enter Try.func9, Try.ntmps9
    go_wp2_with fail
    refine (iPartIn_w _ _ _ HV.out).mono ?_
    rintro e w' ⟨rfl, rfl⟩
    rw [HP.out]
    go_wp2_with fail
    refine (blockCount_any _ _ _ _ h hl.1 (by omega) HS.out).mono ?_
    rintro e w' ⟨rfl, rfl⟩
    go_wp2
    go_ret2
    exact ⟨rfl, Below.refl _ _⟩
  · have hp : partIn xs = false := by simpa using hp
    have hr : finerRank xs = (0, false) := by simp [finerRank, hp]
    rw [hr]
    have HP := Lib.hid hp
    clear hp hr
    go_enter Try.func9, Try.ntmps9
    go_wp2_with fail
    refine (iPartIn_w _ _ _ HV.out).mono ?_
    rintro e w' ⟨rfl, rfl⟩
    rw [HP.out]
    go_wp2
    go_ret2
    exact ⟨rfl, Below.refl _ _⟩

theorem pairCount_any (c : Nat) (w : World) (hc : c ≤ 8) : Calls Try.prog 32 #[.int .i64 c] w fun e w' => e = .returned (.int .i64 ((c * (c - 1) / 2 : Nat) : Int)) ∧ w = w' := by
  have h : c = 0 ∨ c = 1 ∨ c = 2 ∨ c = 3 ∨ c = 4 ∨ c = 5 ∨ c = 6 ∨ c = 7 ∨ c = 8 := by omega
  rcases h with rfl | rfl | rfl | rfl | rfl | rfl | rfl | rfl | rfl
  all_goals
    go_enter Try.func32, Try.ntmps32
    go_wp2
    go_ret
    exact ⟨rfl, rfl⟩

/-- After d merges of p blocks: the ways. -/
def chD (p : Nat) : Nat → Int
  | 0 => 1
  | d + 1 => chD p d * (((p - d) * (p - d - 1) / 2 : Nat) : Int)

theorem chD_bd : ∀ p, p < 9 → ∀ d, d < 9 → 0 ≤ chD p d ∧ chD p d ≤ 2000000 := by decide +kernel

def finerChains (xs : List Int) : Int × Bool := if partIn xs then (chD (pSize xs).toNat ((pSize xs).toNat - 1), true) else (0, false)

set_option maxHeartbeats 1600000 in
theorem iFinerChains_v (v : Value) (xs : List Int) (w : World) (hv : RdV w v xs) : Calls Try.prog 25 #[v] w (GivesIB w (finerChains xs)) := by
  have hv0 := hv
  obtain ⟨ao, ca, rfl, h, h1, h2⟩ := hv
  unfold maxLen at h2
  have HV := Lib.hid hv0
  clear hv0
  by_cases hp : partIn xs = true
  · have hr : finerChains xs = (chD (pSize xs).toNat ((pSize xs).toNat - 1), true) := by simp [finerChains, hp]
    rw [hr]
    have hs := partIn_small hp
    have hl := partIn_len hp
    have hb := pSize_bd hs
    have hpos := pSize_pos hs hl.1
    have HP := Lib.hid hp
    have HS := Lib.hid hs
    obtain ⟨p, hpe⟩ := Int.eq_ofNat_of_zero_le hb.1
    have HPE := Lib.hid hpe
    rw [hpe] at hb hpos ⊢
    rw [Int.toNat_natCast]
    clear hp hr hs hpe
    go_enter Try.func25, Try.ntmps25
    go_wp2_with fail
    refine (iPartIn_w _ _ _ HV.out).mono ?_
    rintro e w' ⟨rfl, rfl⟩
    rw [HP.out]
    go_wp2_with fail
    refine (blockCount_any _ _ _ _ h hl.1 (by omega) HS.out).mono ?_
    rintro e w' ⟨rfl, rfl⟩
    rw [HPE.out]
    go_wp2
    go_loop [4, 5] (fun u i => ∃ d : Nat, d + 1 ≤ p ∧ i = .int .i64 ((p - d : Nat) : Int) ∧ u = .int .i64 (chD p d)) (fun _ i => (intOf i).toNat)
    case atStart => exact ⟨0, by omega, rfl, rfl⟩
    case round =>
      obtain ⟨d, hd, rfl, rfl⟩ := hrel
      obtain ⟨hc0, hc1⟩ := chD_bd p (by omega) d (by omega)
      have hst : chD p (d + 1) = chD p d * (((p - d) * (p - d - 1) / 2 : Nat) : Int) := rfl
      obtain ⟨c, hc⟩ : ∃ c, c = p - d := ⟨_, rfl⟩
      obtain ⟨x, hx⟩ : ∃ x, x = chD p d := ⟨_, rfl⟩
      rw [← hc] at hst ⊢
      rw [← hx] at hst hc0 hc1 ⊢
      have HC := Lib.hid hc
      have HX := Lib.hid hx
      have HST := Lib.hid hst
      have hc1' : 1 ≤ c := by omega
      have hc8 : c ≤ 8 := by omega
      clear hc hx hst
      by_cases hlt : 1 < c
      · have hq : c * (c - 1) / 2 ≤ 28 := by
          have h : c = 2 ∨ c = 3 ∨ c = 4 ∨ c = 5 ∨ c = 6 ∨ c = 7 ∨ c = 8 := by omega
          rcases h with rfl | rfl | rfl | rfl | rfl | rfl | rfl <;> decide
        obtain ⟨q, hqe⟩ : ∃ q, q = c * (c - 1) / 2 := ⟨_, rfl⟩
        have HQ := Lib.hid hqe
        rw [← hqe] at hq
        have hm : IntKind.i64.wrap (x * (q : Int)) = x * (q : Int) := by
          refine IntWalk.i64_in _ ?_
          have h1 : 0 ≤ x * (q : Int) := Int.mul_nonneg hc0 (by omega)
          have h2 : x * (q : Int) ≤ 2000000 * 28 := Int.mul_le_mul hc1 (by omega) (by omega) (by omega)
          omega
        clear hqe
        go_wp2_with fail
        refine (pairCount_any _ _ hc8).mono ?_
        rintro e w' ⟨rfl, rfl⟩
        rw [← HQ.out]
        go_wp2
        go_round
        case rel => exact ⟨d + 1, by have := HC.out; omega, by have := HC.out; congr 1; omega, by rw [HST.out, ← HQ.out]⟩
        case measure => simp [intOf]; omega
      · have HD : Hid (d = p - 1) := by
          have hd : d = p - 1 := by have := HC.out; omega
          exact Lib.hid hd
        go_wp2
        go_ret2
        exact ⟨ret_ib (by rw [HX.out, HD.out]), Below.refl _ _⟩
  · have hp : partIn xs = false := by simpa using hp
    have hr : finerChains xs = (0, false) := by simp [finerChains, hp]
    rw [hr]
    have HP := Lib.hid hp
    clear hp hr
    go_enter Try.func25, Try.ntmps25
    go_wp2_with fail
    refine (iPartIn_w _ _ _ HV.out).mono ?_
    rintro e w' ⟨rfl, rfl⟩
    rw [HP.out]
    go_wp2
    go_ret2
    exact ⟨rfl, Below.refl _ _⟩

theorem sFinerRank_v (v : Value) (xs : List Int) (w : World) (hv : RdV w v xs) : Calls Try.prog 10 #[v] w (GivesIB w (finerRank xs)) := by
  have hv0 := hv
  obtain ⟨ao, ca, rfl, h, h1, h2⟩ := hv
  unfold maxLen at h2
  have HV := Lib.hid hv0
  clear hv0
  by_cases hp : partIn xs = true
  · have hr : finerRank xs = ((xs.length : Int) - pSize xs, true) := by simp [finerRank, hp]
    rw [hr]
    have hs := partIn_small hp
    have hl := partIn_len hp
    have hb := pSize_bd hs
    have HP := Lib.hid hp
    have HS := Lib.hid hs
    clear hp hr hs
    go_enter Try.func10, Try.ntmps10
    go_wp2_with fail
    refine (sPartIn_w _ _ _ HV.out).mono ?_
    rintro e w' ⟨rfl, rfl⟩
    rw [HP.out]
    go_wp2_with fail
    refine (l1Size_any _ _ _ _ h (by omega) HS.out).mono ?_
    rintro e w' ⟨rfl, rfl⟩
    go_wp2
    go_ret2
    exact ⟨rfl, Below.refl _ _⟩
  · have hp : partIn xs = false := by simpa using hp
    have hr : finerRank xs = (0, false) := by simp [finerRank, hp]
    rw [hr]
    have HP := Lib.hid hp
    clear hp hr
    go_enter Try.func10, Try.ntmps10
    go_wp2_with fail
    refine (sPartIn_w _ _ _ HV.out).mono ?_
    rintro e w' ⟨rfl, rfl⟩
    rw [HP.out]
    go_wp2
    go_ret2
    exact ⟨rfl, Below.refl _ _⟩

set_option maxHeartbeats 1600000 in
theorem sFinerChains_v (v : Value) (xs : List Int) (w : World) (hv : RdV w v xs) : Calls Try.prog 26 #[v] w (GivesIB w (finerChains xs)) := by
  have hv0 := hv
  obtain ⟨ao, ca, rfl, h, h1, h2⟩ := hv
  unfold maxLen at h2
  have HV := Lib.hid hv0
  clear hv0
  by_cases hp : partIn xs = true
  · have hr : finerChains xs = (chD (pSize xs).toNat ((pSize xs).toNat - 1), true) := by simp [finerChains, hp]
    rw [hr]
    have hs := partIn_small hp
    have hl := partIn_len hp
    have hb := pSize_bd hs
    have hpos := pSize_pos hs hl.1
    have HP := Lib.hid hp
    have HS := Lib.hid hs
    obtain ⟨p, hpe⟩ := Int.eq_ofNat_of_zero_le hb.1
    have HPE := Lib.hid hpe
    rw [hpe] at hb hpos ⊢
    rw [Int.toNat_natCast]
    clear hp hr hs hpe
    go_enter Try.func26, Try.ntmps26
    go_wp2_with fail
    refine (sPartIn_w _ _ _ HV.out).mono ?_
    rintro e w' ⟨rfl, rfl⟩
    rw [HP.out]
    go_wp2_with fail
    refine (l1Size_any _ _ _ _ h (by omega) HS.out).mono ?_
    rintro e w' ⟨rfl, rfl⟩
    rw [HPE.out]
    go_wp2
    go_loop [4, 5] (fun u i => ∃ d : Nat, d + 1 ≤ p ∧ i = .int .i64 ((p - d : Nat) : Int) ∧ u = .int .i64 (chD p d)) (fun _ i => (intOf i).toNat)
    case atStart => exact ⟨0, by omega, rfl, rfl⟩
    case round =>
      obtain ⟨d, hd, rfl, rfl⟩ := hrel
      obtain ⟨hc0, hc1⟩ := chD_bd p (by omega) d (by omega)
      have hst : chD p (d + 1) = chD p d * (((p - d) * (p - d - 1) / 2 : Nat) : Int) := rfl
      obtain ⟨c, hc⟩ : ∃ c, c = p - d := ⟨_, rfl⟩
      obtain ⟨x, hx⟩ : ∃ x, x = chD p d := ⟨_, rfl⟩
      rw [← hc] at hst ⊢
      rw [← hx] at hst hc0 hc1 ⊢
      have HC := Lib.hid hc
      have HX := Lib.hid hx
      have HST := Lib.hid hst
      have hc1' : 1 ≤ c := by omega
      have hc8 : c ≤ 8 := by omega
      clear hc hx hst
      by_cases hlt : 1 < c
      · have hq : c * (c - 1) / 2 ≤ 28 := by
          have h : c = 2 ∨ c = 3 ∨ c = 4 ∨ c = 5 ∨ c = 6 ∨ c = 7 ∨ c = 8 := by omega
          rcases h with rfl | rfl | rfl | rfl | rfl | rfl | rfl <;> decide
        obtain ⟨q, hqe⟩ : ∃ q, q = c * (c - 1) / 2 := ⟨_, rfl⟩
        have HQ := Lib.hid hqe
        rw [← hqe] at hq
        have hm : IntKind.i64.wrap (x * (q : Int)) = x * (q : Int) := by
          refine IntWalk.i64_in _ ?_
          have h1 : 0 ≤ x * (q : Int) := Int.mul_nonneg hc0 (by omega)
          have h2 : x * (q : Int) ≤ 2000000 * 28 := Int.mul_le_mul hc1 (by omega) (by omega) (by omega)
          omega
        have b1 : IntKind.i64.wrap ((c : Int) - 1) = ((c - 1 : Nat) : Int) := by rw [IntWalk.i64_in _ (by omega)]; omega
        have b2 : IntKind.i64.wrap ((c : Int) * ((c - 1 : Nat) : Int)) = ((c * (c - 1) : Nat) : Int) := by
          have hq2 : c * (c - 1) ≤ 8 * 7 := Nat.mul_le_mul hc8 (by omega)
          rw [IntWalk.i64_in _ (by rw [← Int.natCast_mul]; omega), Int.natCast_mul]
        have b3 : ((c * (c - 1) : Nat) : Int).tdiv 2 = (q : Int) := by rw [hqe]; rfl
        have b4 : (c : Int) * ((c - 1 : Nat) : Int) / 2 = (q : Int) := by rw [hqe, ← Int.natCast_mul]; rfl
        have b5 : wrap64 (x * (q : Int)) = x * (q : Int) := by rw [← IntWalk.i64_left]; exact hm
        clear hqe
        go_wp2
        go_round
        case rel => exact ⟨d + 1, by have := HC.out; omega, by have := HC.out; congr 1; omega, by rw [HST.out, ← HQ.out]⟩
        case measure => simp [intOf]; omega
      · have HD : Hid (d = p - 1) := by
          have hd : d = p - 1 := by have := HC.out; omega
          exact Lib.hid hd
        go_wp2
        go_ret2
        exact ⟨ret_ib (by rw [HX.out, HD.out]), Below.refl _ _⟩
  · have hp : partIn xs = false := by simpa using hp
    have hr : finerChains xs = (0, false) := by simp [finerChains, hp]
    rw [hr]
    have HP := Lib.hid hp
    clear hp hr
    go_enter Try.func26, Try.ntmps26
    go_wp2_with fail
    refine (sPartIn_w _ _ _ HV.out).mono ?_
    rintro e w' ⟨rfl, rfl⟩
    rw [HP.out]
    go_wp2
    go_ret2
    exact ⟨rfl, Below.refl _ _⟩

end Go.Proofs.Ytabgadmdjpohaab
