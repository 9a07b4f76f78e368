/-
  The contracts of bits.TrailingZeros on small numbers, given what its table holds.
-/
import Derived.Test.YthkkolnohgibeaaDoorBits
namespace Go.Proofs.YthkkolnohgibeaaDoor
set_option linter.unusedSimpArgs false
set_option linter.unusedVariables false
set_option linter.unnecessarySimpa false
open Go.RowKit
set_option maxRecDepth 100000

/-- The number of zeros behind. -/
def tz (b : Nat) : Nat := ((List.range 8).find? fun t => b.testBit t).getD 64

/-- What the table holds. -/
def tzTab : List Int := [0, 1, 56, 2, 57, 49, 28, 3, 61, 58, 42, 50, 38, 29, 17, 4, 62, 47, 59, 36, 45, 43, 51, 22, 53, 39, 33, 30, 24, 18, 12, 5, 63, 55, 48, 27, 60, 41, 37, 16, 46, 35, 44, 21, 52, 32, 23, 11, 54, 26, 40, 15, 34, 20, 31, 10, 25, 14, 19, 9, 13, 8, 7, 6]

def Tab (w : World) : Prop := 1 + 1 ≤ w.heap.size ∧ ∀ j, j < 64 → w.cell? ⟨1, j, none⟩ = some (.int .u8 (tzTab.getD j 0))

theorem tab_below {w w' : World} (h : Tab w) (hb : Below w.heap.size w w') : Tab w' :=
  ⟨Nat.le_trans h.1 hb.size, fun j hj => by rw [hb.cell (World.block_lt_of_cell? w _ (h.2 j hj))]; exact h.2 j hj⟩

/-- The place in the table. -/
def tzAt (b : Nat) : Nat := (IntKind.u64.wrap (bits BinOp.and IntKind.u64 (b : Int) (IntKind.u64.wrap (-(b : Int))) * 285870213051353865) / 288230376151711744).toNat

theorem tz_fact : ∀ b, b < 256 → 0 < b → tzAt b < 64 ∧ tzTab.getD (tzAt b) 0 = (tz b : Int) ∧ tz b < 8 ∧ IntKind.u64.wrap (bits BinOp.and IntKind.u64 (b : Int) (IntKind.u64.wrap (-(b : Int))) * 285870213051353865) / 288230376151711744 = (tzAt b : Int) := by decide +kernel

set_option maxHeartbeats 800000 in
theorem tz64_any (b : Nat) (w : World) (hT : Tab w) (hb : b < 256) (h0 : 0 < b) : Calls Tryd.prog 78 #[.int .u64 b] w fun e w' => e = .returned (.int .i64 (tz b)) ∧ w = w' := by
  obtain ⟨h1, h2, h3, h4⟩ := tz_fact b hb h0
  have hc := hT.2 _ h1
  rw [h2] at hc
  have hz : ((b : Int) == 0) = false := by simp; omega
  obtain ⟨i, hi⟩ : ∃ i, i = tzAt b := ⟨_, rfl⟩
  obtain ⟨r, hr⟩ : ∃ r, r = tz b := ⟨_, rfl⟩
  rw [← hi] at hc h1 h4
  rw [← hr] at hc h3 ⊢
  have hi64 : (i : Int) < 64 := by omega
  clear h2 hi hr
  go_enter Tryd.func78, Tryd.ntmps78
  go_wp2
  go_ret
  exact ⟨rfl, rfl⟩

theorem tz_any (b : Nat) (w : World) (hT : Tab w) (hb : b < 256) (h0 : 0 < b) : Calls Tryd.prog 62 #[.int .u64 b] w fun e w' => e = .returned (.int .i64 (tz b)) ∧ w = w' := by
  go_enter Tryd.func62, Tryd.ntmps62
  go_wp2_with fail
  refine (tz64_any b _ hT hb h0).mono ?_
  rintro e w' ⟨rfl, rfl⟩
  go_wp2
  go_ret
  exact ⟨rfl, rfl⟩

end Go.Proofs.YthkkolnohgibeaaDoor
