/-
  The contract of laws.total.
-/
import Derived.Test.YthkkolnohgibeaaDoorFinSign
namespace Go.Proofs.YthkkolnohgibeaaDoor
set_option linter.unusedSimpArgs false
set_option linter.unusedVariables false
set_option linter.unnecessarySimpa false
open Go.RowKit
set_option maxRecDepth 100000

theorem sum_bd : ∀ l : List Int, (∀ c ∈ l, 0 ≤ c ∧ c ≤ 100000) → 0 ≤ l.sum ∧ l.sum ≤ 100000 * l.length := by
  refine snoc_induction (fun _ => by simp) fun l c ih h => ?_
  have h1 := ih fun d hd => h d (by simp [hd])
  have h2 := h c (by simp)
  rw [List.sum_append, List.length_append]
  simp
  omega

set_option maxHeartbeats 800000 in
theorem total_v (v : Value) (xs : List Int) (w : World) (hv : RdV w v xs) (hs : ∀ c ∈ xs, 0 ≤ c ∧ c ≤ 100000) (hl1 : 1 ≤ xs.length) (hl : xs.length ≤ 1000) :
    Calls Tryd.prog 18 #[v] w fun e w' => e = .returned (.int .i64 xs.sum) ∧ w = w' := by
  obtain ⟨bx, ox, cx, rfl, hcx, _⟩ := rdv_cells hv hl1
  obtain ⟨n, hn⟩ : ∃ n, n = xs.length := ⟨_, rfl⟩
  have HN := Lib.hid hn
  have HS := Lib.hid hs
  rw [← hn] at hl1 hl ⊢
  clear hv hn hs
  go_enter Tryd.func18, Tryd.ntmps18
  go_wp2
  go_loop [3, 4] (fun u i => ∃ k : Nat, k ≤ n ∧ i = .int .i64 k ∧ u = .int .i64 (xs.take k).sum) (fun _ i => n - (intOf i).toNat)
  case atStart => exact ⟨0, Nat.zero_le _, rfl, by simp⟩
  case round =>
    obtain ⟨k, hk, rfl, rfl⟩ := hrel
    have hb := sum_bd (xs.take k) fun c hc => HS.out c (List.mem_of_mem_take hc)
    have hlk : (xs.take k).length ≤ 1000 := by rw [List.length_take]; omega
    by_cases hlt : k < n
    · have hck := cells_at hcx k (by rw [← HN.out]; exact hlt)
      have hcb := HS.out (xs.getD k 0) (mem_of_getD (by rw [← HN.out]; exact hlt) rfl)
      have hts := take_snoc xs k (by rw [← HN.out]; exact hlt)
      obtain ⟨c, hc⟩ : ∃ c, c = xs.getD k 0 := ⟨_, rfl⟩
      obtain ⟨s, hs⟩ : ∃ s, s = (xs.take k).sum := ⟨_, rfl⟩
      have hst : (xs.take (k + 1)).sum = s + c := by rw [hts, List.sum_append, hs, hc]; simp
      rw [← hc] at hck hcb
      rw [← hs] at hb ⊢
      have HST := Lib.hid hst
      have b1 : (k : Int) < n := by omega
      clear hts hc hs hst
      go_wp2
      go_round
      case rel => exact ⟨k + 1, by omega, by go_num, by rw [HST.out]⟩
      case measure => simp [intOf]; omega
    · have he : (xs.take k).sum = xs.sum := by rw [List.take_of_length_le (by rw [← HN.out]; omega)]
      rw [he] at hb ⊢
      clear he
      go_wp2
      go_ret
      exact ⟨rfl, rfl⟩

end Go.Proofs.YthkkolnohgibeaaDoor
