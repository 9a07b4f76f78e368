/-
  Slices of arcs: what reads as a list of arcs, what owns one; the contracts of (arc).crosses, (arc).nests.
-/
import Derived.Test.YtieldehghmikkaaKernel
import Derived.Test.YtieldehghmikkaaLine
import Derived.Test.YtieldehghmikkaaArcMath
namespace Go.Proofs.Ytieldehghmikkaa
set_option linter.unusedSimpArgs false
set_option linter.unusedVariables false
set_option linter.unnecessarySimpa false
open Go.RowKit

/-- An arc as a value. -/
def arcV (p : Nat × Nat) : Value := .agg #[.int .i64 p.1, .int .i64 p.2]

/-- The cells of a list of arcs. -/
def arcC (L : List (Nat × Nat)) : List Value := L.flatMap fun p => [.int .i64 p.1, .int .i64 p.2]

theorem arcC_length : ∀ L, (arcC L).length = L.length * 2 := by
  intro L
  induction L with
  | nil => rfl
  | cons p L ih => simp [arcC] at ih ⊢; omega

theorem arcC_append (L M : List (Nat × Nat)) : arcC (L ++ M) = arcC L ++ arcC M := by simp [arcC]

theorem arcC_at : ∀ (L : List (Nat × Nat)) (j : Nat), j < L.length → (arcC L)[j * 2]? = some (.int .i64 (L.getD j (0, 0)).1) ∧ (arcC L)[j * 2 + 1]? = some (.int .i64 (L.getD j (0, 0)).2) := by
  intro L
  induction L with
  | nil => intro j h; simp at h
  | cons p L ih =>
    intro j h
    have e : arcC (p :: L) = .int .i64 p.1 :: .int .i64 p.2 :: arcC L := rfl
    match j with
    | 0 => rw [e]; simp
    | j + 1 =>
      obtain ⟨h1, h2⟩ := ih j (by simp at h; omega)
      rw [e, show (j + 1) * 2 = j * 2 + 1 + 1 by omega]
      simp only [List.getElem?_cons_succ, List.getD_cons_succ]
      exact ⟨h1, h2⟩

/-- The slice value v, made since the heap had B blocks, holds the arcs L. -/
def OwnA (w : World) (B : Nat) (v : Value) (L : List (Nat × Nat)) : Prop := w.ownsRow B 71 2 v L.length (arcC L)

theorem ownA_nil (w : World) (B : Nat) : OwnA w B (.slice none 0 0) [] := World.ownsRow_nil _ _ _ _
theorem ownA_alloc {w : World} {B : Nat} {v : Value} {L : List (Nat × Nat)} (h : OwnA w B v L) (o : Obj) : OwnA (w.alloc o) B v L := World.ownsRow.alloc h o
theorem ownA_grown {w w' : World} {B : Nat} {v : Value} {L : List (Nat × Nat)} {row : Option Nat} (h : OwnA w B v L) (hg : w.grownBy w' row) (hne : v.ownBlock = none ∨ v.ownBlock ≠ row) : OwnA w' B v L := World.ownsRow.kept h hg hne
theorem ownA_below {w w' : World} {B : Nat} {v : Value} {L : List (Nat × Nat)} (h : OwnA w B v L) (hb : Below w.heap.size w w') : OwnA w' B v L :=
  ownA_grown h (grown_of_below hb) (by cases hv : v.ownBlock <;> simp)

/-- The value v is a slice that reads as the arcs L. -/
def RdA (w : World) (v : Value) (L : List (Nat × Nat)) : Prop :=
  ∃ ao cap, v = .slice ao L.length cap ∧ L.length ≤ cap ∧ cap ≤ maxLen ∧ (L = [] ∨ ∃ b, ao = some ⟨b, 0, none⟩ ∧
    ∀ j, j < L.length → w.cell? ⟨b, j * 2, none⟩ = some (.int .i64 (L.getD j (0, 0)).1) ∧ w.cell? ⟨b, j * 2 + 1, none⟩ = some (.int .i64 (L.getD j (0, 0)).2))

theorem ownA_rd {w : World} {B : Nat} {v : Value} {L : List (Nat × Nat)} (h : OwnA w B v L) : RdA w v L := by
  have h0 := h
  rcases h.2 with ⟨hv, hn⟩ | ⟨g, cap, cur, hv, hb, hg, hnc, hcm, hcs, htk⟩
  · have hL := List.eq_nil_of_length_eq_zero hn
    subst hL
    exact ⟨none, 0, hv, Nat.le_refl _, Nat.zero_le _, .inl rfl⟩
  · refine ⟨_, cap, hv, hnc, hcm, .inr ⟨g, rfl, fun j hj => ?_⟩⟩
    obtain ⟨h1, h2⟩ := arcC_at L j hj
    have hc := fun j u h => World.ownsRow.cells h0 (g := g) (by rw [hv]; rfl) j u h
    have e1 := hc _ _ h1
    have e2 := hc _ _ h2
    rw [Addr.add_lit, Nat.zero_add] at e1 e2
    exact ⟨e1, e2⟩

theorem rdA_below {w w' : World} {v : Value} {L : List (Nat × Nat)} (h : RdA w v L) (hb : Below w.heap.size w w') : RdA w' v L := by
  obtain ⟨ao, cap, h1, h2, h3, h4⟩ := h
  refine ⟨ao, cap, h1, h2, h3, ?_⟩
  rcases h4 with h4 | ⟨b, ha, hc⟩
  · exact .inl h4
  · refine .inr ⟨b, ha, fun j hj => ?_⟩
    obtain ⟨c1, c2⟩ := hc j hj
    rw [hb.cell (World.block_lt_of_cell? w _ c1), hb.cell (World.block_lt_of_cell? w _ c2)]
    exact ⟨c1, c2⟩

theorem Try.infoArc : (Try.prog.info? 71).map (fun i => (i.zero, i.size, i.bytes)) = some (some (.agg #[.int .i64 0, .int .i64 0]), 2, 16) := by kernel_rfl

/-- What a function leaves that hands back a new slice of arcs. -/
def FreshA (w : World) (L : List (Nat × Nat)) (e : Ending) (w' : World) : Prop := ∃ v, e = .returned v ∧ OwnA w' w.heap.size v L ∧ Below w.heap.size w w'

theorem rd_drop {w : World} {b off : Nat} {xs : List Int} (h : ∀ j, j < xs.length → w.cell? ⟨b, off + j, none⟩ = some (.int .i64 (xs.getD j 0))) (k : Nat) : Rd w (some ⟨b, off + k, none⟩) (xs.drop k) := by
  refine .inr ⟨b, off + k, rfl, fun j hj => ?_⟩
  simp at hj
  have := h (k + j) (by omega)
  rw [← Nat.add_assoc] at this
  rw [this]
  simp [List.getD]

theorem slicesIndex_nil (ao : Option Addr) (m ca : Nat) (x : Int) (w : World) (hm : m = 0) : Calls Try.prog 65 #[.slice ao m ca, .int .i64 x] w fun e w' => e = .returned (.int .i64 (-1)) ∧ w = w' := by
  subst hm
  have := slicesIndex_no ao ca [] x w (.inl rfl) (by simp) (by simp)
  simpa using this

end Go.Proofs.Ytieldehghmikkaa
