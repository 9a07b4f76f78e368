/-
  The contracts of PartTogether (impl and spec).
-/
import Derived.Test.YtbmpchpcihnbdaaSize
namespace Go.Proofs.Ytbmpchpcihnbdaa
set_option linter.unusedSimpArgs false
set_option linter.unusedVariables false
set_option linter.unnecessarySimpa false
open Go.RowKit

theorem l6In_yes (n lo hi : Int) (w : World) (h1 : lo ≤ n) (h2 : n ≤ hi) : Calls Try.prog 60 #[.int .i64 n, .int .i64 lo, .int .i64 hi] w fun e w' => e = .returned (.bool true) ∧ w = w' :=
  (l6In_any n lo hi w).mono fun _ _ ⟨he, hw⟩ => ⟨by rw [he]; simp [h1, h2], hw⟩
theorem l6In_no (n lo hi : Int) (w : World) (h : n < lo ∨ hi < n) : Calls Try.prog 60 #[.int .i64 n, .int .i64 lo, .int .i64 hi] w fun e w' => e = .returned (.bool false) ∧ w = w' :=
  (l6In_any n lo hi w).mono fun _ _ ⟨he, hw⟩ => ⟨by rw [he, decide_eq_false (by omega)], hw⟩
theorem sPartIn_is (b : Bool) (v : Value) (xs : List Int) (w : World) (hv : RdV w v xs) (hp : Hid (partIn xs = b)) : Calls Try.prog 68 #[v] w fun e w' => e = .returned (.bool b) ∧ w = w' :=
  (sPartIn_w v xs w hv).mono fun _ _ ⟨he, hw⟩ => ⟨by rw [he, hp.out], hw⟩
theorem iPartIn_is (b : Bool) (v : Value) (xs : List Int) (w : World) (hv : RdV w v xs) (hp : Hid (partIn xs = b)) : Calls Try.prog 66 #[v] w fun e w' => e = .returned (.bool b) ∧ w = w' :=
  (iPartIn_w v xs w hv).mono fun _ _ ⟨he, hw⟩ => ⟨by rw [he, hp.out], hw⟩

theorem isThing_any (n x : Int) (w : World) : Calls Try.prog 74 #[.int .i64 n, .int .i64 x] w fun e w' => e = .returned (.bool (decide (0 ≤ x ∧ x < n))) ∧ w = w' := by
  by_cases h1 : 0 ≤ x
  · by_cases h2 : x < n
    all_goals
      go_enter Try.func74, Try.ntmps74
      go_wp2
      go_ret
      exact ⟨by simp [h1, h2]; try omega, rfl⟩
  · go_enter Try.func74, Try.ntmps74
    go_wp2
    go_ret
    exact ⟨by simp [h1]; omega, rfl⟩
theorem isThing_yes (n x : Int) (w : World) (h1 : 0 ≤ x) (h2 : x < n) : Calls Try.prog 74 #[.int .i64 n, .int .i64 x] w fun e w' => e = .returned (.bool true) ∧ w = w' :=
  (isThing_any n x w).mono fun _ _ ⟨he, hw⟩ => ⟨by rw [he]; simp [h1, h2], hw⟩
theorem isThing_no (n x : Int) (w : World) (h : x < 0 ∨ n ≤ x) : Calls Try.prog 74 #[.int .i64 n, .int .i64 x] w fun e w' => e = .returned (.bool false) ∧ w = w' :=
  (isThing_any n x w).mono fun _ _ ⟨he, hw⟩ => ⟨by rw [he, decide_eq_false (by omega)], hw⟩

def partTogether (xs : List Int) (i k : Int) : Bool := partIn xs && decide (0 ≤ i ∧ i < xs.length) && decide (0 ≤ k ∧ k < xs.length) && decide (xs.getD i.toNat 0 = xs.getD k.toNat 0)

set_option maxHeartbeats 800000 in
theorem iPartTogether_v (v : Value) (xs : List Int) (i k : Int) (w : World) (hv : RdV w v xs) (_ : (Lit.int .i64 i).wf = true) (_ : (Lit.int .i64 k).wf = true) : Calls Try.prog 30 #[v, .int .i64 i, .int .i64 k] w (GivesB w (partTogether xs i k)) := by
  have hv0 := hv
  obtain ⟨ao, ca, rfl, h, h1, h2⟩ := hv
  unfold maxLen at h2
  have HV := Lib.hid hv0
  clear hv0
  by_cases hp : partIn xs = true
  · have HP := Lib.hid hp
    have hl := partIn_len hp
    by_cases hi : 0 ≤ i ∧ i < xs.length
    · by_cases hk : 0 ≤ k ∧ k < xs.length
      · have hr : partTogether xs i k = decide (xs.getD i.toNat 0 = xs.getD k.toNat 0) := by simp [partTogether, hp, hi, hk]
        rw [hr]
        clear hp hr
        obtain ⟨i, rfl⟩ := Int.eq_ofNat_of_zero_le hi.1
        obtain ⟨k, rfl⟩ := Int.eq_ofNat_of_zero_le hk.1
        rcases h with hx | ⟨bb, off, rfl, hcx⟩
        · rw [hx] at hl
          simp at hl
        · have hci := hcx i (by omega)
          have hck := hcx k (by omega)
          clear hcx
          rw [Int.toNat_natCast, Int.toNat_natCast]
          obtain ⟨x, hx⟩ : ∃ x, x = xs.getD i 0 := ⟨_, rfl⟩
          obtain ⟨y, hy⟩ : ∃ y, y = xs.getD k 0 := ⟨_, rfl⟩
          rw [← hx] at hci ⊢
          rw [← hy] at hck ⊢
          clear hx hy
          obtain ⟨hi0, hi1⟩ := hi
          obtain ⟨hk0, hk1⟩ := hk
          obtain ⟨hl1, hl8⟩ := hl
          by_cases hxy : x = y
          all_goals
            go_enter Try.func30, Try.ntmps30
            go_wp2_with fail
            refine (iPartIn_is true _ _ _ HV.out HP).mono ?_
            rintro e w' ⟨rfl, rfl⟩
            go_wp2_with fail
            refine (isThing_yes _ _ _ hi0 hi1).mono ?_
            rintro e w' ⟨rfl, rfl⟩
            go_wp2_with fail
            refine (isThing_yes _ _ _ hk0 hk1).mono ?_
            rintro e w' ⟨rfl, rfl⟩
            go_wp2_with fail
            go_quiet (fail)
            go_wp2
            go_ret
            exact ⟨by simp [hxy], below_drewN (Below.refl _ _) _⟩
      · have hr : partTogether xs i k = false := by simp [partTogether, hk]
        rw [hr]
        clear hp hr
        go_enter Try.func30, Try.ntmps30
        go_wp2_with fail
        refine (iPartIn_is true _ _ _ HV.out HP).mono ?_
        rintro e w' ⟨rfl, rfl⟩
        go_wp2_with fail
        refine (isThing_yes _ _ _ hi.1 hi.2).mono ?_
        rintro e w' ⟨rfl, rfl⟩
        go_wp2_with fail
        refine (isThing_no _ _ _ (by omega)).mono ?_
        rintro e w' ⟨rfl, rfl⟩
        go_wp2
        go_ret
        exact ⟨rfl, Below.refl _ _⟩
    · have hr : partTogether xs i k = false := by simp [partTogether, hi]
      rw [hr]
      clear hp hr
      go_enter Try.func30, Try.ntmps30
      go_wp2_with fail
      refine (iPartIn_is true _ _ _ HV.out HP).mono ?_
      rintro e w' ⟨rfl, rfl⟩
      go_wp2_with fail
      refine (isThing_no _ _ _ (by omega)).mono ?_
      rintro e w' ⟨rfl, rfl⟩
      go_wp2
      go_ret
      exact ⟨rfl, Below.refl _ _⟩
  · have hp : partIn xs = false := by simpa using hp
    have hr : partTogether xs i k = false := by simp [partTogether, hp]
    rw [hr]
    have HP := Lib.hid hp
    clear hp hr
    go_enter Try.func30, Try.ntmps30
    go_wp2_with fail
    refine (iPartIn_is false _ _ _ HV.out HP).mono ?_
    rintro e w' ⟨rfl, rfl⟩
    go_wp2
    go_ret
    exact ⟨rfl, Below.refl _ _⟩

end Go.Proofs.Ytbmpchpcihnbdaa
