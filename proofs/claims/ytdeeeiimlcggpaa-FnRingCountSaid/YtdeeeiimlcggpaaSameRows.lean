/-
  The contract of laws.sameRows; values of owned lists of lists.
-/
import Derived.Test.YtdeeeiimlcggpaaHeldMat
namespace Go.Proofs.Ytdeeeiimlcggpaa
set_option linter.unusedSimpArgs false
set_option linter.unusedVariables false
set_option linter.unnecessarySimpa false
open Go.RowKit
set_option maxRecDepth 100000

theorem ownM_slice' {w : World} {B S : Nat} {v : Value} {xss : List (List Int)} (h : OwnM w B S v xss) : ∃ ao cap, v = .slice ao xss.length cap := by
  obtain ⟨ao, cap, vs, _, hv, _⟩ := ownM_rdM h
  exact ⟨ao, cap, hv⟩

/-- A row of an owned list of lists, by its place. -/
theorem ownM_at {w : World} {B S n cap : Nat} {ao : Option Addr} {xss : List (List Int)} (h : OwnM w B S (.slice ao n cap) xss) (k : Nat) (hk : k < xss.length) :
    ∃ g u, ao = some ⟨g, 0, none⟩ ∧ w.cell? ⟨g, k, none⟩ = some u ∧ RdV w u (xss.getD k []) := by
  obtain ⟨vs, hvl, hv, hr, _⟩ := ownM_parts h
  rcases hv with ⟨_, h2⟩ | ⟨g, cap', h1, _, _, _, _, _, hc, _⟩
  · rw [h2] at hk; simp at hk
  · simp only [Value.slice.injEq] at h1
    exact ⟨g, _, h1.1, hc k hk, own_rdv (hr k hk).1⟩

end Go.Proofs.Ytdeeeiimlcggpaa
