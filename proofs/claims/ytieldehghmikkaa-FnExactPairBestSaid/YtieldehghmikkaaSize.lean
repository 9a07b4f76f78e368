/-
  The contracts of slices.Max, impl.blockCount, spec.l1Size, PartSize, PartTogether (impl and spec).
-/
import Derived.Test.YtieldehghmikkaaPartIn
import Derived.BigQuiet
import Derived.Deep.QuietTactic
namespace Go.Proofs.Ytieldehghmikkaa
set_option linter.unusedSimpArgs false
set_option linter.unusedVariables false
set_option linter.unnecessarySimpa false
open Go.RowKit

def sizeFrom : Int → List Int → Int
  | n, [] => n
  | n, x :: xs => sizeFrom (max n (x + 1)) xs

/-- Each number is from 0 to 7. -/
def Small (xs : List Int) : Prop := ∀ j, j < xs.length → 0 ≤ xs.getD j 0 ∧ xs.getD j 0 ≤ 7

theorem okFrom_small : ∀ (xs : List Int) (b : Int), 0 ≤ b → okFrom b xs = true → ∀ j, j < xs.length → 0 ≤ xs.getD j 0 ∧ xs.getD j 0 ≤ b + j := by
  intro xs
  induction xs with
  | nil => intro b _ _ j hj; simp at hj
  | cons x xs ih =>
    intro b hb h j hj
    simp only [okFrom, Bool.and_eq_true, decide_eq_true_eq] at h
    obtain ⟨⟨h0, h1⟩, h2⟩ := h
    cases j with
    | zero => simp; omega
    | succ j =>
      have := ih (if x = b then b + 1 else b) (by split <;> omega) h2 j (by simpa using hj)
      simp only [List.getD_cons_succ]
      refine ⟨this.1, ?_⟩
      have h3 := this.2
      split at h3 <;> omega

theorem partIn_len {xs : List Int} (h : partIn xs = true) : 1 ≤ xs.length ∧ xs.length ≤ 8 := by
  simp only [partIn, Bool.and_eq_true, decide_eq_true_eq] at h
  omega

theorem partIn_small {xs : List Int} (h : partIn xs = true) : Small xs := by
  have hl := partIn_len h
  simp only [partIn, Bool.and_eq_true, decide_eq_true_eq] at h
  intro j hj
  have := okFrom_small xs 0 (by omega) h.2 j hj
  omega

theorem sizeFrom_bd : ∀ (xs : List Int) (n : Int), Small xs → 0 ≤ n → n ≤ 8 → n ≤ sizeFrom n xs ∧ sizeFrom n xs ≤ 8 := by
  intro xs
  induction xs with
  | nil => intro n _ h0 h8; simp only [sizeFrom]; omega
  | cons x xs ih =>
    intro n hs h0 h8
    have hx := hs 0 (by simp)
    simp at hx
    have := ih (max n (x + 1)) (fun j hj => by have := hs (j + 1) (by simpa using hj); simpa using this) (by omega) (by omega)
    simp only [sizeFrom]
    omega

def pSize (xs : List Int) : Int := sizeFrom 0 xs

theorem pSize_bd {xs : List Int} (h : Small xs) : 0 ≤ pSize xs ∧ pSize xs ≤ 8 := sizeFrom_bd xs 0 h (by omega) (by omega)

theorem pSize_pos {xs : List Int} (h : Small xs) (hl : 1 ≤ xs.length) : 1 ≤ pSize xs := by
  cases xs with
  | nil => simp at hl
  | cons x xs =>
    have hx := h 0 (by simp)
    simp at hx
    have := sizeFrom_bd xs (max 0 (x + 1)) (fun j hj => by have := h (j + 1) (by simpa using hj); simpa using this) (by omega) (by omega)
    show 1 ≤ sizeFrom (max 0 (x + 1)) xs
    omega

set_option maxHeartbeats 800000 in
theorem l1Size_any (ao : Option Addr) (ca : Nat) (xs : List Int) (w : World) (hx : Rd w ao xs) (hl : xs.length ≤ 9223372036854775807) (hs : Small xs) :
    Calls Try.prog 68 #[.slice ao xs.length ca] w fun e w' => e = .returned (.int .i64 (pSize xs)) ∧ w = w' := by
  obtain ⟨n, hn⟩ : ∃ n, n = xs.length := ⟨_, rfl⟩
  rw [← hn]
  rw [← hn] at hl
  have HN := Lib.hid hn
  clear hn
  have HX := Lib.hid hx
  clear hx
  have HS := Lib.hid hs
  clear hs
  go_enter Try.func68, Try.ntmps68
  go_wp2
  go_loop [3, 4] (fun u i => ∃ (k : Nat) (b : Int), k ≤ n ∧ i = .int .i64 k ∧ u = .int .i64 b ∧ 0 ≤ b ∧ b ≤ 8 ∧ pSize xs = sizeFrom b (xs.drop k)) (fun _ i => n - (intOf i).toNat)
  case atStart => exact ⟨0, 0, Nat.zero_le _, rfl, rfl, by omega, by omega, rfl⟩
  case round =>
    obtain ⟨k, b, hk, rfl, rfl, hb0, hb8, hok⟩ := hrel
    have HOK := Lib.hid hok
    clear hok
    by_cases hlt : k < n
    · rcases HX.out with hx | ⟨bb, off, rfl, hcx⟩
      · have := HN.out
        rw [hx] at this
        simp at this
        omega
      · have hc1 := hcx k (by have := HN.out; omega)
        clear hcx
        have hdr := drop_cons xs k (by have := HN.out; omega)
        obtain ⟨hx0, hx7⟩ := HS.out k (by have := HN.out; omega)
        obtain ⟨x, hx⟩ : ∃ x, x = xs.getD k 0 := ⟨_, rfl⟩
        rw [← hx] at hc1 hdr hx0 hx7
        have hok := HOK.out
        rw [hdr, sizeFrom] at hok
        have HOK2 := Lib.hid hok
        clear hok HOK hdr hx
        by_cases hm : x + 1 ≤ b
        · go_wp2
          go_round
          case rel => exact ⟨k + 1, b, by omega, by go_num, by first | rfl | (congr 1; omega), by omega, by omega, by rw [HOK2.out, Int.max_eq_left hm]⟩
          case measure => simp [intOf]; omega
        · go_wp2
          go_round
          case rel => exact ⟨k + 1, x + 1, by omega, by go_num, by first | rfl | (congr 1; omega), by omega, by omega, by rw [HOK2.out, Int.max_eq_right (by omega)]⟩
          case measure => simp [intOf]; omega
    · have hkn : k = n := by omega
      subst hkn
      go_wp2
      go_ret
      exact ⟨ret_int (by rw [HOK.out, HN.out, List.drop_length]; rfl), rfl⟩

set_option maxHeartbeats 800000 in
theorem slicesMax_any (ao : Option Addr) (ca : Nat) (xs : List Int) (w : World) (hx : Rd w ao xs) (h1 : 1 ≤ xs.length) (hl : xs.length ≤ 9223372036854775807) (hs : Small xs) :
    Calls Try.prog 84 #[.slice ao xs.length ca] w fun e w' => e = .returned (.int .i64 (pSize xs - 1)) ∧ w = w' := by
  obtain ⟨n, hn⟩ : ∃ n, n = xs.length := ⟨_, rfl⟩
  rw [← hn]
  rw [← hn] at hl h1
  have HN := Lib.hid hn
  clear hn
  rcases hx with hx | ⟨bb, off, rfl, hcx⟩
  · have := HN.out
    rw [hx] at this
    simp at this
    omega
  have HX := Lib.hid hcx
  have hc0 := hcx 0 (by have := HN.out; omega)
  rw [Nat.add_zero] at hc0
  clear hcx
  obtain ⟨hy0, hy7⟩ := hs 0 (by have := HN.out; omega)
  have HS := Lib.hid hs
  clear hs
  have hst : pSize xs = sizeFrom (xs.getD 0 0 + 1) (xs.drop 1) := by
    have := drop_cons xs 0 (by have := HN.out; omega)
    rw [List.drop_zero] at this
    show sizeFrom 0 xs = _
    rw [this, sizeFrom, Int.max_eq_right (by omega)]
    rfl
  obtain ⟨y, hy⟩ : ∃ y, y = xs.getD 0 0 := ⟨_, rfl⟩
  rw [← hy] at hc0 hst hy0 hy7
  have HST := Lib.hid hst
  clear hst hy
  go_enter Try.func84, Try.ntmps84
  go_wp2
  go_loop [3, 4] (fun u i => ∃ (k : Nat) (b : Int), k ≤ n ∧ 1 ≤ k ∧ i = .int .i64 k ∧ u = .int .i64 b ∧ 0 ≤ b ∧ b ≤ 7 ∧ pSize xs = sizeFrom (b + 1) (xs.drop k)) (fun _ i => n - (intOf i).toNat)
  case atStart => exact ⟨1, y, h1, Nat.le_refl _, rfl, rfl, by omega, by omega, HST.out⟩
  case round =>
    obtain ⟨k, b, hk, hk1, rfl, rfl, hb0, hb8, hok⟩ := hrel
    have HOK := Lib.hid hok
    clear hok
    by_cases hlt : k < n
    · have hc1 := HX.out k (by have := HN.out; omega)
      have hdr := drop_cons xs k (by have := HN.out; omega)
      obtain ⟨hx0, hx7⟩ := HS.out k (by have := HN.out; omega)
      obtain ⟨x, hx⟩ : ∃ x, x = xs.getD k 0 := ⟨_, rfl⟩
      rw [← hx] at hc1 hdr hx0 hx7
      have hok := HOK.out
      rw [hdr, sizeFrom] at hok
      have HOK2 := Lib.hid hok
      clear hok HOK hdr hx
      by_cases hm : x ≤ b
      · go_wp2
        go_round
        case rel => exact ⟨k + 1, b, by omega, by omega, by go_num, by first | rfl | (congr 1; omega), by omega, by omega, by rw [HOK2.out, Int.max_eq_left (by omega)]⟩
        case measure => simp [intOf]; omega
      · go_wp2
        go_round
        case rel => exact ⟨k + 1, x, by omega, by omega, by go_num, by first | rfl | (congr 1; omega), by omega, by omega, by rw [HOK2.out, Int.max_eq_right (by omega)]⟩
        case measure => simp [intOf]; omega
    · have hkn : k = n := by omega
      subst hkn
      go_wp2
      go_ret
      refine ⟨ret_int ?_, rfl⟩
      have := HOK.out
      rw [HN.out, List.drop_length] at this
      rw [this, sizeFrom]
      omega

theorem blockCount_any (ao : Option Addr) (ca : Nat) (xs : List Int) (w : World) (hx : Rd w ao xs) (h1 : 1 ≤ xs.length) (hl : xs.length ≤ 9223372036854775807) (hs : Small xs) :
    Calls Try.prog 69 #[.slice ao xs.length ca] w fun e w' => e = .returned (.int .i64 (pSize xs)) ∧ w = w' := by
  have hb := pSize_bd hs
  go_enter Try.func69, Try.ntmps69
  go_wp2_with (go_at_call 84; refine (slicesMax_any _ _ _ _ hx h1 hl hs).mono ?_; rintro e w' ⟨rfl, rfl⟩)
  go_ret
  exact ⟨ret_int (by omega), rfl⟩

def partSize (xs : List Int) : Int × Bool := if partIn xs then (pSize xs, true) else (0, false)

end Go.Proofs.Ytieldehghmikkaa
