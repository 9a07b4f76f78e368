/-
  The contracts of agree, quarrel, l7Quarrel, ViewQuarrel (impl and spec).
-/
import Derived.Test.YtodfaiajlholdaaDoorFinIn
import Derived.Test.YtodfaiajlholdaaDoorViewMath
namespace Go.Proofs.YtodfaiajlholdaaDoor
set_option linter.unusedSimpArgs false
set_option linter.unusedVariables false
set_option linter.unnecessarySimpa false
open Go.RowKit
set_option maxRecDepth 100000

theorem dif_sym (a b : List Int) (i k : Nat) : dif a b i k = dif a b k i := by
  unfold dif
  have e1 : decide (a.getD i 0 = a.getD k 0) = decide (a.getD k 0 = a.getD i 0) := decide_eq_decide.2 ⟨Eq.symm, Eq.symm⟩
  have e2 : decide (b.getD i 0 = b.getD k 0) = decide (b.getD k 0 = b.getD i 0) := decide_eq_decide.2 ⟨Eq.symm, Eq.symm⟩
  rw [e1, e2]

theorem agree_v (v u : Value) (xs ys : List Int) (i k : Nat) (w : World) (hv : RdV w v xs) (hu : RdV w u ys) (hl : ys.length = xs.length) (hi : i < xs.length) (hk : k < xs.length) :
    Calls Tryd.prog 29 #[v, u, .int .i64 i, .int .i64 k] w (QB w (decide (dif xs ys i k = 0))) := by
  obtain ⟨bx, ox, cx, rfl, hcx, hbx, hcx1, hcx2⟩ := rdv_cells hv (by omega)
  obtain ⟨by', oy, cy, rfl, hcy, hby, hcy1, hcy2⟩ := rdv_cells hu (by omega)
  clear hv hu hcx1 hcx2 hcy1 hcy2
  have hc1 := cells_at hcx i hi
  have hc2 := cells_at hcx k hk
  have hc3 := cells_at hcy i (by omega)
  have hc4 := cells_at hcy k (by omega)
  obtain ⟨n, hn⟩ : ∃ n, n = xs.length := ⟨_, rfl⟩
  rw [hl, ← hn]
  rw [← hn] at hi hk
  have b1 : (i : Int) < n := by omega
  have b2 : (k : Int) < n := by omega
  have hr : decide (dif xs ys i k = 0) = ((xs.getD i 0 == xs.getD k 0) == (ys.getD i 0 == ys.getD k 0)) := by
    have e1 : (xs.getD i 0 == xs.getD k 0) = decide (xs.getD i 0 = xs.getD k 0) := rfl
    have e2 : (ys.getD i 0 == ys.getD k 0) = decide (ys.getD i 0 = ys.getD k 0) := rfl
    rw [e1, e2]
    unfold dif
    cases decide (xs.getD i 0 = xs.getD k 0) <;> cases decide (ys.getD i 0 = ys.getD k 0) <;> rfl
  rw [hr]
  clear hr hl hn
  obtain ⟨x, hx⟩ : ∃ x, x = xs.getD i 0 := ⟨_, rfl⟩
  obtain ⟨y, hy⟩ : ∃ y, y = xs.getD k 0 := ⟨_, rfl⟩
  obtain ⟨s, hs⟩ : ∃ s, s = ys.getD i 0 := ⟨_, rfl⟩
  obtain ⟨z, hz⟩ : ∃ z, z = ys.getD k 0 := ⟨_, rfl⟩
  rw [← hx] at hc1 ⊢
  rw [← hy] at hc2 ⊢
  rw [← hs] at hc3 ⊢
  rw [← hz] at hc4 ⊢
  clear hx hy hs hz hcx hcy
  go_enter Tryd.func29, Tryd.ntmps29
  go_wp2
  go_quiet (fail)
  go_wp2
  go_ret
  exact ⟨rfl, (Quiet.refl w).drewN _⟩

/-- What ViewQuarrel answers. -/
def viewQuarrel (xs ys : List Int) : Int × Bool := if alike xs ys then ((quar xs ys : Int), true) else (0, false)

end Go.Proofs.YtodfaiajlholdaaDoor
