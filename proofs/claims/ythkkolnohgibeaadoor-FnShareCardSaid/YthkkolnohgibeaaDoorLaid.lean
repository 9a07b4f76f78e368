/-
  From what the row lists to what the contracts ask of the table of bits.TrailingZeros64.
-/
import Derived.Test.YthkkolnohgibeaaDoorRows
import Derived.Test.YthkkolnohgibeaaDoorTz
import Derived.Lib.LaidTab
import Derived.MakeChecks
namespace Go.Proofs.YthkkolnohgibeaaDoor
set_option maxRecDepth 100000

theorem gTz32 : Tryd.prog.globalNamed "math/bits.deBruijn32tab" = some 0 := by kernel_rfl
theorem gTz64 : Tryd.prog.globalNamed "math/bits.deBruijn64tab" = some 1 := by kernel_rfl
theorem tTz64 : (Tryd.prog.globals[(1 : Nat)]?).map (·.type) = some 121 := by kernel_rfl
theorem dTz64 : (Rows.laid_math_bits_deBruijn64tab : DataW Unit) = Lib.tabData .u8 tzTab := rfl

theorem tab_of_met {W : World} (h : laidMet Tryd.prog [("math/bits.deBruijn32tab", Rows.laid_math_bits_deBruijn32tab), ("math/bits.deBruijn64tab", Rows.laid_math_bits_deBruijn64tab)] W) : Tab W := by
  obtain ⟨ps, ⟨g0, t0, cs0, f0, p0, q0, hg0, ht0, hv0, hd0, ⟨g1, t1, cs1, f1, p1, q1, hg1, ht1, hv1, hd1, _, _⟩, _⟩, _, _⟩ := h
  obtain rfl := Option.some.inj (gTz64.symm.trans hg1)
  obtain rfl := Option.some.inj (tTz64.symm.trans ht1)
  rw [dTz64] at hd1
  have hc := Lib.cells_of_tab Tryd.underlying121 Tryd.underlying5 (by kernel_rfl) (by kernel_rfl) hd1
  have hcell : ∀ j, j < 64 → W.cell? ⟨1, j, none⟩ = some (.int .u8 (tzTab.getD j 0)) := by
    intro j hj
    have h2 : Lib.TabIs Tryd.prog W "math/bits.deBruijn64tab" .u8 tzTab := by
      unfold Lib.TabIs
      rw [hv1, ← hc]
    exact h2.cell gTz64 j (by show j < 64; exact hj)
  exact ⟨by have := World.block_lt_of_cell? W _ (hcell 0 (by omega)); simp at this; omega, hcell⟩

theorem tab_of_laid {W : World} (h : laidMetH Tryd.prog [("math/bits.deBruijn32tab", Rows.laid_math_bits_deBruijn32tab), ("math/bits.deBruijn64tab", Rows.laid_math_bits_deBruijn64tab)] W) : Tab W := by
  rw [MakeChecks.laidMetH_plain _ _ _ (by kernel_rfl)] at h
  exact tab_of_met h

end Go.Proofs.YthkkolnohgibeaaDoor
