/-
  The contracts of impl.PartIn and spec.PartIn.
-/
import Derived.Test.YtieldehghmikkaaRows
import Derived.Test.YtieldehghmikkaaPure
import Derived.WalkLawsBesides
import Derived.WalkSpells
namespace Go.Proofs.Ytieldehghmikkaa
set_option linter.unusedSimpArgs false
set_option linter.unusedVariables false
set_option linter.unnecessarySimpa false
open Go.RowKit

def okFrom : Int → List Int → Bool
  | _, [] => true
  | b, x :: xs => decide (0 ≤ x) && decide (x ≤ b) && okFrom (if x = b then b + 1 else b) xs

def partIn (xs : List Int) : Bool := decide (1 ≤ xs.length) && decide (xs.length ≤ 8) && okFrom 0 xs

theorem okFrom_no {b x : Int} {xs : List Int} (h : x < 0 ∨ b < x) : okFrom b (x :: xs) = false := by
  rcases h with h | h
  · simp [okFrom, show ¬ 0 ≤ x by omega]
  · simp [okFrom, show ¬ x ≤ b by omega]

theorem okFrom_yes {b x : Int} {xs : List Int} (h : 0 ≤ x) (h2 : x < b) : okFrom b (x :: xs) = okFrom b xs := by
  simp [okFrom, h, show x ≤ b by omega, show ¬ x = b by omega]

theorem okFrom_new {b : Int} {xs : List Int} (h : 0 ≤ b) : okFrom b (b :: xs) = okFrom (b + 1) xs := by
  simp [okFrom, h]

theorem l6In_any (n lo hi : Int) (w : World) : Calls Try.prog 43 #[.int .i64 n, .int .i64 lo, .int .i64 hi] w fun e w' => e = .returned (.bool (decide (lo ≤ n ∧ n ≤ hi))) ∧ w = w' := by
  by_cases h1 : lo ≤ n
  · by_cases h2 : n ≤ hi
    all_goals
      go_enter Try.func43, Try.ntmps43
      go_wp2
      go_ret
      exact ⟨by simp [h1, h2]; try omega, rfl⟩
  · go_enter Try.func43, Try.ntmps43
    go_wp2
    go_ret
    exact ⟨by simp [h1]; omega, rfl⟩

theorem countFits_any (n : Int) (w : World) : Calls Try.prog 72 #[.int .i64 n] w fun e w' => e = .returned (.bool (decide (1 ≤ n ∧ n ≤ 8))) ∧ w = w' := by
  by_cases h1 : 1 ≤ n
  · by_cases h2 : n ≤ 8
    all_goals
      go_enter Try.func72, Try.ntmps72
      go_wp2
      go_ret
      exact ⟨by simp [h1, h2]; try omega, rfl⟩
  · go_enter Try.func72, Try.ntmps72
    go_wp2
    go_ret
    exact ⟨by simp [h1]; omega, rfl⟩

set_option maxHeartbeats 800000 in
theorem iPartIn_any (ao : Option Addr) (ca : Nat) (xs : List Int) (w : World) (hx : Rd w ao xs) (hl : xs.length ≤ 9223372036854775807) :
    Calls Try.prog 47 #[.slice ao xs.length ca] w fun e w' => e = .returned (.bool (partIn xs)) ∧ w = w' := by
  obtain ⟨n, hn⟩ : ∃ n, n = xs.length := ⟨_, rfl⟩
  rw [← hn]
  rw [← hn] at hl
  have HN := Lib.hid hn
  clear hn
  have HX := Lib.hid hx
  clear hx
  by_cases hf : 1 ≤ n ∧ n ≤ 8
  · have hd : decide (1 ≤ (n : Int) ∧ (n : Int) ≤ 8) = true := by simp; omega
    have HD := Lib.hid hd
    clear hd
    have HP : Hid (partIn xs = okFrom 0 xs) := by
      show partIn xs = okFrom 0 xs
      unfold partIn
      rw [← HN.out]
      simp [hf.1, hf.2]
    obtain ⟨h1, h8⟩ := hf
    go_enter Try.func47, Try.ntmps47
    go_wp2_with (go_at_call 72; refine (countFits_any _ _).mono ?_; rintro e w' ⟨rfl, rfl⟩; rw [HD.out])
    go_loop [3, 12] (fun u i => ∃ (k : Nat) (b : Int), k ≤ n ∧ i = .int .i64 k ∧ u = .int .i64 b ∧ 0 ≤ b ∧ b ≤ k ∧ okFrom 0 xs = okFrom b (xs.drop k)) (fun _ i => n - (intOf i).toNat)
    case atStart => exact ⟨0, 0, Nat.zero_le _, rfl, rfl, by omega, by omega, rfl⟩
    case round =>
      obtain ⟨k, b, hk, rfl, rfl, hb0, hbk, hok⟩ := hrel
      have HOK := Lib.hid hok
      clear hok
      by_cases hlt : k < n
      · rcases HX.out with hx | ⟨bb, off, rfl, hcx⟩
        · have := HN.out
          rw [hx] at this
          simp at this
          omega
        · have hc1 := hcx k (by have := HN.out; omega)
          clear hcx
          have hdr := drop_cons xs k (by have := HN.out; omega)
          obtain ⟨x, hx⟩ : ∃ x, x = xs.getD k 0 := ⟨_, rfl⟩
          rw [← hx] at hc1 hdr
          have hok := HOK.out
          rw [hdr] at hok
          have HOK2 := Lib.hid hok
          clear hok HOK hdr hx
          by_cases h0 : x < 0
          · go_wp2
            go_ret
            exact ⟨ret_bool (by rw [HP.out, HOK2.out, okFrom_no (.inl h0)]), rfl⟩
          · by_cases hgt : b < x
            · go_wp2
              go_ret
              exact ⟨ret_bool (by rw [HP.out, HOK2.out, okFrom_no (.inr hgt)]), rfl⟩
            · by_cases he : x = b
              · subst he
                go_wp2
                go_round
                case rel => exact ⟨k + 1, x + 1, by omega, by go_num, by go_num, by omega, by omega, by rw [HOK2.out, okFrom_new hb0]⟩
                case measure => simp [intOf]; omega
              · have hlt2 : x < b := by omega
                go_wp2
                go_round
                case rel => exact ⟨k + 1, b, by omega, by go_num, rfl, by omega, by omega, by rw [HOK2.out, okFrom_yes (by omega) hlt2]⟩
                case measure => simp [intOf]; omega
      · go_wp2
        go_ret
        have hkn : k = n := by omega
        subst hkn
        exact ⟨by rw [HP.out, HOK.out, HN.out, List.drop_length]; rfl, rfl⟩
  · have hd : decide (1 ≤ (n : Int) ∧ (n : Int) ≤ 8) = false := by simp; omega
    have HD := Lib.hid hd
    clear hd
    have HP : Hid (partIn xs = false) := by
      show partIn xs = false
      unfold partIn
      rw [← HN.out]
      simp
      omega
    go_enter Try.func47, Try.ntmps47
    go_wp2_with (go_at_call 72; refine (countFits_any _ _).mono ?_; rintro e w' ⟨rfl, rfl⟩; rw [HD.out])
    go_ret
    exact ⟨ret_bool (by rw [HP.out]), rfl⟩

set_option maxHeartbeats 800000 in
theorem sPartIn_any (ao : Option Addr) (ca : Nat) (xs : List Int) (w : World) (hx : Rd w ao xs) (hl : xs.length ≤ 9223372036854775807) :
    Calls Try.prog 45 #[.slice ao xs.length ca] w fun e w' => e = .returned (.bool (partIn xs)) ∧ w = w' := by
  obtain ⟨n, hn⟩ : ∃ n, n = xs.length := ⟨_, rfl⟩
  rw [← hn]
  rw [← hn] at hl
  have HN := Lib.hid hn
  clear hn
  have HX := Lib.hid hx
  clear hx
  go_enter Try.func45, Try.ntmps45
  go_wp2
  go_loop [3, 4] (fun u i => ∃ (k : Nat) (b : Int), k ≤ n ∧ i = .int .i64 k ∧ u = .int .i64 b ∧ -1 ≤ b ∧ b < k ∧ okFrom 0 xs = okFrom (b + 1) (xs.drop k)) (fun _ i => n - (intOf i).toNat)
  case atStart => exact ⟨0, -1, Nat.zero_le _, rfl, rfl, by omega, by omega, rfl⟩
  case round =>
    obtain ⟨k, b, hk, rfl, rfl, hb0, hbk, hok⟩ := hrel
    have HOK := Lib.hid hok
    clear hok
    by_cases hlt : k < n
    · rcases HX.out with hx | ⟨bb, off, rfl, hcx⟩
      · have := HN.out
        rw [hx] at this
        simp at this
        omega
      · have hc1 := hcx k (by have := HN.out; omega)
        clear hcx
        have hdr := drop_cons xs k (by have := HN.out; omega)
        obtain ⟨x, hx⟩ : ∃ x, x = xs.getD k 0 := ⟨_, rfl⟩
        rw [← hx] at hc1 hdr
        have hok := HOK.out
        rw [hdr] at hok
        have HOK2 := Lib.hid hok
        clear hok HOK hdr hx
        by_cases h0 : 0 ≤ x ∧ x ≤ b + 1
        · have hd : decide (0 ≤ x ∧ x ≤ b + 1) = true := by simpa using h0
          have HD := Lib.hid hd
          clear hd
          obtain ⟨h0, h1⟩ := h0
          by_cases he : x = b + 1
          · subst he
            go_wp2_with (go_at_call 43; refine (l6In_any _ _ _ _).mono ?_; rintro e w' ⟨rfl, rfl⟩; rw [HD.out])
            go_round
            case rel => exact ⟨k + 1, b + 1, by omega, by go_num, rfl, by omega, by omega, by rw [HOK2.out, okFrom_new (by omega)]⟩
            case measure => simp [intOf]; omega
          · have hlt2 : x < b + 1 := by omega
            go_wp2_with (go_at_call 43; refine (l6In_any _ _ _ _).mono ?_; rintro e w' ⟨rfl, rfl⟩; rw [HD.out])
            go_round
            case rel => exact ⟨k + 1, b, by omega, by go_num, rfl, by omega, by omega, by rw [HOK2.out, okFrom_yes h0 hlt2]⟩
            case measure => simp [intOf]; omega
        · have hd : decide (0 ≤ x ∧ x ≤ b + 1) = false := by simp; omega
          have HD := Lib.hid hd
          clear hd
          go_wp2_with (go_at_call 43; refine (l6In_any _ _ _ _).mono ?_; rintro e w' ⟨rfl, rfl⟩; rw [HD.out])
          go_ret
          exact ⟨ret_bool (by unfold partIn; rw [HOK2.out, okFrom_no (by omega)]; simp), rfl⟩
    · have hkn : k = n := by omega
      subst hkn
      go_wp2_with (go_at_call 43; refine (l6In_any _ _ _ _).mono ?_; rintro e w' ⟨rfl, rfl⟩)
      go_ret
      refine ⟨ret_bool ?_, rfl⟩
      have := HOK.out
      rw [HN.out, List.drop_length] at this
      unfold partIn
      rw [this, ← HN.out, show okFrom (b + 1) [] = true from rfl, Bool.eq_iff_iff]
      simp
      omega

theorem iPartIn_w (v : Value) (xs : List Int) (w : World) (hv : RdV w v xs) : Calls Try.prog 47 #[v] w fun e w' => e = .returned (.bool (partIn xs)) ∧ w = w' := by
  obtain ⟨ao, ca, rfl, h, h1, h2⟩ := hv
  unfold maxLen at h2
  exact iPartIn_any ao ca xs w h (by omega)

theorem sPartIn_w (v : Value) (xs : List Int) (w : World) (hv : RdV w v xs) : Calls Try.prog 45 #[v] w fun e w' => e = .returned (.bool (partIn xs)) ∧ w = w' := by
  obtain ⟨ao, ca, rfl, h, h1, h2⟩ := hv
  unfold maxLen at h2
  exact sPartIn_any ao ca xs w h (by omega)

theorem iPartIn_v (v : Value) (xs : List Int) (w : World) (hv : RdV w v xs) : Calls Try.prog 47 #[v] w (GivesB w (partIn xs)) :=
  (iPartIn_w v xs w hv).mono fun _ _ ⟨he, hw⟩ => ⟨he, hw ▸ Below.refl _ _⟩

theorem sPartIn_v (v : Value) (xs : List Int) (w : World) (hv : RdV w v xs) : Calls Try.prog 45 #[v] w (GivesB w (partIn xs)) :=
  (sPartIn_w v xs w hv).mono fun _ _ ⟨he, hw⟩ => ⟨he, hw ▸ Below.refl _ _⟩

end Go.Proofs.Ytieldehghmikkaa
