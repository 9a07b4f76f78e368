/-
  Words for memory: cells that read as a list of integers, behind one word; worlds that only have drawn.
-/
import Derived.Test.YtbmpchpcihnbdaaSize
namespace Go.Proofs.Ytbmpchpcihnbdaa
set_option linter.unusedSimpArgs false
set_option linter.unusedVariables false
set_option linter.unnecessarySimpa false
open Go.RowKit

/-- The cells from (b, off) on read as the integers xs. -/
def Cells (w : World) (b off : Nat) (xs : List Int) : Prop := ∀ j, j < xs.length → w.cell? ⟨b, off + j, none⟩ = some (.int .i64 (xs.getD j 0))

/-- A slice that is not empty, by its cells. -/
theorem rdv_cells {w : World} {v : Value} {xs : List Int} (h : RdV w v xs) (hl : 1 ≤ xs.length) :
    ∃ b off cap, v = .slice (some ⟨b, off, none⟩) xs.length cap ∧ Cells w b off xs ∧ b < w.heap.size ∧ xs.length ≤ cap ∧ cap ≤ maxLen := by
  obtain ⟨ao, cap, rfl, h1, h2, h3⟩ := h
  rcases h1 with h1 | ⟨b, off, rfl, hc⟩
  · rw [h1] at hl; simp at hl
  · exact ⟨b, off, cap, rfl, hc, World.block_lt_of_cell? w _ (hc 0 (by omega)), h2, h3⟩

theorem cells_rdv {w : World} {b off n cap : Nat} {xs : List Int} (h : Cells w b off xs) (hn : n = xs.length) (h1 : n ≤ cap) (h2 : cap ≤ maxLen) : RdV w (.slice (some ⟨b, off, none⟩) n cap) xs := by
  subst hn
  exact ⟨_, cap, rfl, .inr ⟨b, off, rfl, h⟩, h1, h2⟩

theorem cells_at {w : World} {b off : Nat} {xs : List Int} (h : Cells w b off xs) (j : Nat) (hj : j < xs.length) : w.cell? ⟨b, off + j, none⟩ = some (.int .i64 (xs.getD j 0)) := h j hj

theorem cells_at' {w : World} {b off : Nat} {xs : List Int} (h : Cells w b off xs) (j : Nat) (hj : j < xs.length) (x : Int) (hx : xs.getD j 0 = x) : w.cell? ⟨b, off + j, none⟩ = some (.int .i64 x) := by
  rw [← hx]; exact h j hj

theorem cells_below {w w' : World} {b off : Nat} {xs : List Int} (h : Cells w b off xs) (hb : Below w.heap.size w w') : Cells w' b off xs := fun j hj => by
  rw [hb.cell (World.block_lt_of_cell? w _ (h j hj))]; exact h j hj

theorem cells_drewN {w : World} {b off : Nat} {xs : List Int} (h : Cells w b off xs) (n : Nat) : Cells (w.drewN n) b off xs := h

/-- The world has only drawn. -/
def Quiet (w w' : World) : Prop := ∃ m, w' = w.drewN m
theorem Quiet.refl (w : World) : Quiet w w := ⟨0, rfl⟩
theorem Quiet.mk (w : World) (m : Nat) : Quiet w (w.drewN m) := ⟨m, rfl⟩
theorem Quiet.drewN {a w : World} (h : Quiet a w) (n : Nat) : Quiet a (w.drewN n) := by
  obtain ⟨m, rfl⟩ := h
  exact ⟨m + n, by rw [World.drewN_drewN]⟩
theorem Quiet.trans {a b c : World} (h : Quiet a b) (k : Quiet b c) : Quiet a c := by
  obtain ⟨m, rfl⟩ := k
  exact h.drewN m
theorem Quiet.cells {w w' : World} {b off : Nat} {xs : List Int} (hq : Quiet w w') (h : Cells w b off xs) : Cells w' b off xs := by
  obtain ⟨m, rfl⟩ := hq
  exact h
theorem Quiet.below {w w' : World} (h : Quiet w w') : Below w.heap.size w w' := by
  obtain ⟨m, rfl⟩ := h
  exact below_drewN (Below.refl _ _) m
theorem Quiet.same {w w' : World} (h : Quiet w w') : Same w w' := by
  obtain ⟨m, rfl⟩ := h
  exact fun B => below_drewN (Below.refl _ _) m

/-- What a function that only reads, and hands back a bool, leaves. -/
def QB (w : World) (r : Bool) (e : Ending) (w' : World) : Prop := e = .returned (.bool r) ∧ Quiet w w'
def QI (w : World) (r : Int) (e : Ending) (w' : World) : Prop := e = .returned (.int .i64 r) ∧ Quiet w w'
def QIB (w : World) (r : Int × Bool) (e : Ending) (w' : World) : Prop := e = .returned (.tuple #[.int .i64 r.1, .bool r.2]) ∧ Quiet w w'

theorem QB.gives {w : World} {r : Bool} {e : Ending} {w' : World} (h : QB w r e w') : GivesB w r e w' := ⟨h.1, h.2.below⟩
theorem QI.gives {w : World} {r : Int} {e : Ending} {w' : World} (h : QI w r e w') : GivesI w r e w' := ⟨h.1, h.2.below⟩
theorem QIB.gives {w : World} {r : Int × Bool} {e : Ending} {w' : World} (h : QIB w r e w') : GivesIB w r e w' := ⟨h.1, h.2.below⟩

theorem rdv_quiet {w w' : World} {v : Value} {xs : List Int} (h : RdV w v xs) (hq : Quiet w w') : RdV w' v xs := rdv_below h hq.below

theorem cell_keep {w : World} {b q : Nat} {v : Value} (o : Obj) (h : w.cell? ⟨b, q, none⟩ = some v) : (w.alloc o).cell? ⟨b, q, none⟩ = some v := by
  rw [World.cell?_alloc_past _ _ _ (World.block_lt_of_cell? w _ h)]; exact h
theorem cell_keepd {w : World} {b q : Nat} {v : Value} (o : Obj) (h : w.cell? ⟨b, q, none⟩ = some v) : (w.alloc o).drew.cell? ⟨b, q, none⟩ = some v := cell_keep o h

theorem ret_ib {a b : Int} {c : Bool} (h : a = b) : Ending.returned (.tuple #[.int .i64 a, .bool c]) = .returned (.tuple #[.int .i64 b, .bool c]) := by rw [h]

end Go.Proofs.Ytbmpchpcihnbdaa
