/-
  The contracts of FinerRank, pairCount, FinerChains (impl and spec).
-/
import Derived.Test.YtbmpchpcihnbdaaCells
import Derived.Test.YtbmpchpcihnbdaaKernel
namespace Go.Proofs.Ytbmpchpcihnbdaa
set_option linter.unusedSimpArgs false
set_option linter.unusedVariables false
set_option linter.unnecessarySimpa false
open Go.RowKit
set_option maxRecDepth 100000

def finerRank (xs : List Int) : Int × Bool := if partIn xs then ((xs.length : Int) - pSize xs, true) else (0, false)

theorem iFinerRank_v (v : Value) (xs : List Int) (w : World) (hv : RdV w v xs) : Calls Try.prog 53 #[v] w (GivesIB w (finerRank xs)) := by
  have hv0 := hv
  obtain ⟨ao, ca, rfl, h, h1, h2⟩ := hv
  unfold maxLen at h2
  have HV := Lib.hid hv0
  clear hv0
  by_cases hp : partIn xs = true
  · have hr : finerRank xs = ((xs.length : Int) - pSize xs, true) := by simp [finerRank, hp]
    rw [hr]
    have hs := partIn_small hp
    have hl := partIn_len hp
    have hb := pSize_bd hs
    have HP := Lib.hid hp
    have HS := Lib.hid hs
    clear hp hr hs
    go_enter Try.func53, Try.ntmps53
    go_wp2_with fail
    refine (iPartIn_w _ _ _ HV.out).mono ?_
    rintro e w' ⟨rfl, rfl⟩
    rw [HP.out]
    go_wp2_with fail
    refine (blockCount_any _ _ _ _ h hl.1 (by omega) HS.out).mono ?_
    rintro e w' ⟨rfl, rfl⟩
    go_wp2
    go_ret2
    exact ⟨rfl, Below.refl _ _⟩
  · have hp : partIn xs = false := by simpa using hp
    have hr : finerRank xs = (0, false) := by simp [finerRank, hp]
    rw [hr]
    have HP := Lib.hid hp
    clear hp hr
    go_enter Try.func53, Try.ntmps53
    go_wp2_with fail
    refine (iPartIn_w _ _ _ HV.out).mono ?_
    rintro e w' ⟨rfl, rfl⟩
    rw [HP.out]
    go_wp2
    go_ret2
    exact ⟨rfl, Below.refl _ _⟩

theorem pairCount_any (c : Nat) (w : World) (hc : c ≤ 8) : Calls Try.prog 103 #[.int .i64 c] w fun e w' => e = .returned (.int .i64 ((c * (c - 1) / 2 : Nat) : Int)) ∧ w = w' := by
  have h : c = 0 ∨ c = 1 ∨ c = 2 ∨ c = 3 ∨ c = 4 ∨ c = 5 ∨ c = 6 ∨ c = 7 ∨ c = 8 := by omega
  rcases h with rfl | rfl | rfl | rfl | rfl | rfl | rfl | rfl | rfl
  all_goals
    go_enter Try.func103, Try.ntmps103
    go_wp2
    go_ret
    exact ⟨rfl, rfl⟩

/-- After d merges of p blocks: the ways. -/
def chD (p : Nat) : Nat → Int
  | 0 => 1
  | d + 1 => chD p d * (((p - d) * (p - d - 1) / 2 : Nat) : Int)

theorem chD_bd : ∀ p, p < 9 → ∀ d, d < 9 → 0 ≤ chD p d ∧ chD p d ≤ 2000000 := by decide +kernel

def finerChains (xs : List Int) : Int × Bool := if partIn xs then (chD (pSize xs).toNat ((pSize xs).toNat - 1), true) else (0, false)

end Go.Proofs.Ytbmpchpcihnbdaa
