/-
  The contracts of the model's Bell numbers and factorials, up to twelve.
-/
import Derived.Test.YtdeeeiimlcggpaaPut
import Derived.Test.YtdeeeiimlcggpaaSpecType
import Derived.Deep.RegionLaw
namespace Go.Proofs.Ytdeeeiimlcggpaa
set_option linter.unusedSimpArgs false
set_option linter.unusedVariables false
set_option linter.unnecessarySimpa false
open Go.RowKit
set_option maxRecDepth 100000

def fac : Nat → Nat
  | 0 => 1
  | n + 1 => (n + 1) * fac n

theorem fac_bd : ∀ k, k < 13 → (fac k : Int) ≤ 479001600 := by decide +kernel

set_option maxHeartbeats 1600000 in
theorem l2Fact12_v (c : Nat) (w : World) (h8 : c ≤ 12) : Calls Try.prog 16 #[.int .i64 c] w fun e w' => e = .returned (.int .i64 (fac c)) ∧ w = w' := by
  go_enter Try.func16, Try.ntmps16
  go_wp2
  go_loop [3, 4] (fun u i => ∃ k : Nat, 1 ≤ k ∧ (k ≤ c ∨ k = 1) ∧ i = .int .i64 ((k + 1 : Nat) : Int) ∧ u = .int .i64 (fac k)) (fun _ i => 14 - (intOf i).toNat)
  case atStart => exact ⟨1, by omega, .inr rfl, rfl, rfl⟩
  case round =>
    obtain ⟨k, hk1, hk, rfl, rfl⟩ := hrel
    have hb := fac_bd k (by omega)
    have hst : fac (k + 1) = (k + 1) * fac k := rfl
    obtain ⟨x, hx⟩ : ∃ x, x = fac k := ⟨_, rfl⟩
    rw [← hx] at hb hst ⊢
    have HX := Lib.hid hx
    have HST := Lib.hid hst
    obtain ⟨m, hm⟩ : ∃ m, m = k + 1 := ⟨_, rfl⟩
    rw [← hm] at HST ⊢
    have HM := Lib.hid hm
    by_cases hlt : m ≤ c
    · have hmm : m ≤ 12 := by omega
      have h1 : 0 ≤ (x : Int) * (m : Int) := Int.mul_nonneg (by omega) (by omega)
      have h2 : (x : Int) * (m : Int) ≤ 479001600 * 12 := Int.mul_le_mul hb (by omega) (by omega) (by omega)
      have b1 : wrap64 ((x : Int) * (m : Int)) = (x : Int) * (m : Int) := IntWalk.wrap64_in _ (by omega)
      clear hx hst hm h1 h2
      go_wp2
      go_round
      case rel => exact ⟨m, by have := HM.out; omega, .inl hlt, by go_num, by rw [HST.out, Int.natCast_mul, Int.mul_comm (m : Int)]; first | rfl | rw [b1]⟩
      case measure => simp [intOf]; omega
    · have he : fac k = fac c := by
        by_cases h : k = 1
        · subst h
          have : c = 0 ∨ c = 1 := by omega
          rcases this with rfl | rfl <;> decide
        · congr 1; omega
      have HE := Lib.hid he
      clear hx hst hm he
      go_wp2
      go_ret
      exact ⟨ret_int (by rw [HX.out, HE.out]), rfl⟩

/-- Bell's triangle: the rows. -/
def belNext (last : Int) : List Int → List Int
  | [] => []
  | x :: xs => (last + x) :: belNext (last + x) xs
def belRow : Nat → List Int
  | 0 => [1]
  | n + 1 => (belRow n).getD n 0 :: belNext ((belRow n).getD n 0) (belRow n)

theorem bel_len : ∀ n, n < 12 → (belRow n).length = n + 1 := by decide +kernel
theorem bel_bd : ∀ n, n < 12 → ∀ k, k < 13 → 0 ≤ (belRow n).getD k 0 ∧ (belRow n).getD k 0 ≤ 5000000 := by decide +kernel
theorem bel_step : ∀ n, n < 11 → ∀ k, k < n + 1 → (belRow (n + 1)).getD (k + 1) 0 = (belRow (n + 1)).getD k 0 + (belRow n).getD k 0 := by decide +kernel
theorem bel_head : ∀ n, n < 11 → (belRow (n + 1)).take 1 = [(belRow n).getD n 0] ∧ (belRow (n + 1)).getD 0 0 = (belRow n).getD n 0 := by decide +kernel
def belN (n : Nat) : Int := (belRow (n - 1)).getD (n - 1) 0

theorem own_litA (w : World) (B : Nat) (hB : B ≤ w.heap.size) (x : Int) : Own (w.alloc (.cells #[.int .i64 x] 3)) B (.slice (some ⟨w.heap.size, 0, none⟩) 1 1) [x] :=
  ⟨by simp, .inr ⟨w.heap.size, 1, #[.int .i64 x], rfl, hB, heap_alloc_new w _, Nat.le_refl _, by unfold maxLen; simp, rfl, by simp⟩⟩

def slcLen : Value → Nat
  | .slice _ n _ => n
  | _ => 0

theorem bel_take (n k : Nat) (h : n < 11) (hk : k < n + 1) : (belRow (n + 1)).take (k + 2) = (belRow (n + 1)).take (k + 1) ++ [(belRow (n + 1)).getD k 0 + (belRow n).getD k 0] := by
  rw [take_snoc _ (k + 1) (by rw [bel_len _ (by omega)]; omega), bel_step n h k hk]

end Go.Proofs.Ytdeeeiimlcggpaa
