/-
  A pair list opened; what tells that a list is one.
-/
import Derived.Test.YtieldehghmikkaaPairSpec
namespace Go.Proofs.Ytieldehghmikkaa
set_option linter.unusedSimpArgs false
set_option linter.unusedVariables false
set_option linter.unnecessarySimpa false
open Go.RowKit
set_option maxRecDepth 100000

theorem encPs_at {w : World} {v : Value} {L : List (Nat × Nat)} (hv : RdM w v (encPs L)) : ∃ ao ca, ∃ vs : List Value, v = .slice ao L.length ca ∧ L.length ≤ ca ∧ ca ≤ maxLen ∧
    (L = [] ∨ ∃ b off, ao = some ⟨b, off, none⟩ ∧ ∀ k, k < L.length → ∃ zb zo zc, w.cell? ⟨b, off + k, none⟩ = some (.slice (some ⟨zb, zo, none⟩) 2 zc) ∧ 2 ≤ zc ∧ zc ≤ maxLen ∧ w.cell? ⟨zb, zo, none⟩ = some (.int .i64 (L.getD k (0, 0)).1) ∧ w.cell? ⟨zb, zo + 1, none⟩ = some (.int .i64 (L.getD k (0, 0)).2)) := by
  obtain ⟨ao, ca, vs, hvl, rfl, h1, h2, h3, h4⟩ := hv
  rw [encPs_length] at h1 h4 hvl ⊢
  refine ⟨ao, ca, vs, rfl, h1, h2, ?_⟩
  rcases h3 with h3 | ⟨b, off, ha, hc⟩
  · have := congrArg List.length h3
    rw [encPs_length] at this
    exact .inl (List.eq_nil_of_length_eq_zero this)
  · refine .inr ⟨b, off, ha, fun k hk => ?_⟩
    have hr := h4 k hk
    rw [encPs_getD L hk] at hr
    obtain ⟨zb, zo, zc, hz, z1, z2, c0, c1⟩ := rdv_two hr rfl
    refine ⟨zb, zo, zc, ?_, z1, z2, c0, c1⟩
    have := hc k (by rw [encPs_length]; exact hk)
    rw [hz] at this
    exact this

/-- A pair list, opened. -/
theorem pair_open {n : Int} {ps : List (List Int)} (h : pairIn n ps = true) : ∃ (m : Nat) (L : List (Nat × Nat)), n = (m : Int) ∧ 1 ≤ m ∧ m ≤ 6 ∧ L.Sublist (allP m) ∧ ps = encPs L ∧ InN m L ∧ L.length ≤ 15 ∧ decL ps = L := by
  obtain ⟨m, L, e, h1, h6, hs, he⟩ := pairIn_sub h
  have := hs.length_le
  have h15 := allP_le m h6
  exact ⟨m, L, e, h1, h6, hs, he, inN_of_sub hs, by omega, by rw [he, decL_enc]⟩

theorem told_yes {n : Int} {v : Value} {ps : List (List Int)} {w : World} {L : List (Nat × Nat)} (hv : RdM w v ps) (h : pairIn n ps = true) (hd : decL ps = L) :
    Calls Try.prog 44 #[.int .i64 n, v] w fun e w' => ∃ v', e = .returned (.tuple #[v', .bool true]) ∧ OwnP w' w.heap.size v' L ∧ Below w.heap.size w w' :=
  (pairsTold_any n v ps w hv).mono fun e w' ⟨v', he, ho, hb⟩ => ⟨v', by rw [he, h], by rw [h, if_pos rfl, hd] at ho; exact ho, hb⟩
theorem told_no {n : Int} {v : Value} {ps : List (List Int)} {w : World} (hv : RdM w v ps) (h : pairIn n ps = false) :
    Calls Try.prog 44 #[.int .i64 n, v] w fun e w' => ∃ v', e = .returned (.tuple #[v', .bool false]) ∧ OwnP w' w.heap.size v' [] ∧ Below w.heap.size w w' :=
  (pairsTold_any n v ps w hv).mono fun e w' ⟨v', he, ho, hb⟩ => ⟨v', by rw [he, h], by rw [h] at ho; exact ho, hb⟩
theorem sIn_is (b : Bool) {n : Int} {v : Value} {ps : List (List Int)} {w : World} (hv : RdM w v ps) (h : pairIn n ps = b) (hw : (Lit.int .i64 n).wf = true) :
    Calls Try.prog 14 #[.int .i64 n, v] w fun e w' => e = .returned (.bool b) ∧ Below w.heap.size w w' := by
  subst h
  exact sPairIn_v v n ps w hv hw

end Go.Proofs.Ytieldehghmikkaa
