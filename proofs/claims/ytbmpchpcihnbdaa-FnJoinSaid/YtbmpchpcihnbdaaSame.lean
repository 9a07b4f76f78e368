/-
  The contract of laws.sameInts.
-/
import Derived.Test.YtbmpchpcihnbdaaHelp
namespace Go.Proofs.Ytbmpchpcihnbdaa
set_option linter.unusedSimpArgs false
set_option linter.unusedVariables false
set_option linter.unnecessarySimpa false
open Go.RowKit

set_option maxHeartbeats 400000 in
theorem sameInts_any (ao bo : Option Addr) (ca cb : Nat) (xs ys : List Int) (w : World) (hx : Rd w ao xs) (hy : Rd w bo ys) (hlx : xs.length ≤ 9223372036854775807) (hly : ys.length ≤ 9223372036854775807) :
    Calls Try.prog 25 #[.slice ao xs.length ca, .slice bo ys.length cb] w fun e w' => e = .returned (.bool (decide (xs = ys))) ∧ Same w w' := by
  obtain ⟨n, hn⟩ : ∃ n, n = xs.length := ⟨_, rfl⟩
  obtain ⟨m, hm⟩ : ∃ m, m = ys.length := ⟨_, rfl⟩
  rw [← hn, ← hm]
  rw [← hn] at hlx
  rw [← hm] at hly
  have HN := Lib.hid hn
  have HM := Lib.hid hm
  clear hn hm
  have HX := Lib.hid hx
  have HY := Lib.hid hy
  clear hx hy
  by_cases hnm : n = m
  · subst hnm
    go_enter Try.func25, Try.ntmps25
    go_wp2
    go_loopw [5] (fun i wr => ∃ k : Nat, k ≤ n ∧ i = .int .i64 k ∧ xs.take k = ys.take k ∧ Same w wr) (fun i _ => n - (intOf i).toNat)
    case atStart => exact ⟨0, Nat.zero_le _, rfl, rfl, Same.refl w⟩
    case round =>
      obtain ⟨k, hk, rfl, htk, hsr⟩ := hrel
      have HT := Lib.hid htk
      clear htk
      by_cases hlt : k < n
      · have hx := rd_same HX.out hsr
        have hy := rd_same HY.out hsr
        rcases hx with hx | ⟨b, off, rfl, hcx⟩
        · have := HN.out
          rw [hx] at this
          simp at this
          omega
        · rcases hy with hy | ⟨b2, off2, rfl, hcy⟩
          · have := HM.out
            rw [hy] at this
            simp at this
            omega
          · have hc1 := hcx k (by have := HN.out; omega)
            have hc2 := hcy k (by have := HM.out; omega)
            clear hcx hcy
            obtain ⟨x, hx⟩ : ∃ x, x = xs.getD k 0 := ⟨_, rfl⟩
            obtain ⟨y, hy⟩ : ∃ y, y = ys.getD k 0 := ⟨_, rfl⟩
            rw [← hx] at hc1
            rw [← hy] at hc2
            have HXK := Lib.hid hx
            have HYK := Lib.hid hy
            clear hx hy
            have hlt' : (k : Int) < n := by omega
            by_cases hxy : x = y
            · subst hxy
              go_wp2
              go_quiet (fail)
              go_wp2
              go_roundw
              case rel => exact ⟨k + 1, by omega, by go_num, take_succ_eq HT.out (by have := HN.out; omega) (by have := HM.out; omega) (by rw [← HXK.out, ← HYK.out]), hsr.drewN _⟩
              case measure => simp [intOf]; omega
            · have hb : (x != y) = true := by simpa using hxy
              go_wp2
              go_quiet (fail)
              go_wp2
              go_ret
              have hne : ¬ xs = ys := fun e => hxy (by rw [HXK.out, HYK.out, e])
              exact ⟨by simp [hne], hsr.drewN _⟩
      · go_wp2
        go_ret
        have hkn : k = n := by omega
        subst hkn
        have he : xs = ys := by
          have := HT.out
          rwa [List.take_of_length_le (by have := HN.out; omega), List.take_of_length_le (by have := HM.out; omega)] at this
        exact ⟨by simp [he], hsr⟩
  · go_enter Try.func25, Try.ntmps25
    go_wp2
    go_ret
    have hne : ¬ xs = ys := fun e => hnm (by rw [HN.out, HM.out, e])
    exact ⟨by simp [hne], Same.refl w⟩

theorem sameInts_v (v u : Value) (xs ys : List Int) (w : World) (hv : RdV w v xs) (hu : RdV w u ys) : Calls Try.prog 25 #[v, u] w fun e w' => e = .returned (.bool (decide (xs = ys))) ∧ Same w w' := by
  obtain ⟨ao, ca, rfl, h, h1, h2⟩ := hv
  obtain ⟨bo, cb, rfl, k, k1, k2⟩ := hu
  unfold maxLen at h2 k2
  exact sameInts_any ao bo ca cb xs ys w h k (by omega) (by omega)

end Go.Proofs.Ytbmpchpcihnbdaa
