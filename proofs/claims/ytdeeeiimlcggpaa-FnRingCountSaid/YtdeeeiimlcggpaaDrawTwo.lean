/-
  The contract of spec.l91Two: two drawn lists.
-/
import Derived.Test.YtdeeeiimlcggpaaDrawPart
import Derived.Test.YtdeeeiimlcggpaaFinMeet
namespace Go.Proofs.Ytdeeeiimlcggpaa
set_option linter.unusedSimpArgs false
set_option linter.unusedVariables false
set_option linter.unnecessarySimpa false
open Go.RowKit
set_option maxRecDepth 100000

/-- Two drawn lists of at most nine numbers. -/
def TwoDrawn (w : World) (e : Ending) (w' : World) : Prop :=
  ∃ v u xs ys, e = .returned (.tuple #[v, u]) ∧ Own w' w.heap.size v xs ∧ Own w' w.heap.size u ys ∧ xs.length ≤ 9 ∧ ys.length ≤ 9 ∧ Below w.heap.size w w'

theorem apart_of_ge {w : World} {B g : Nat} {v : Value} {xs : List Int} (h : Own w B v xs) (hg : g < B) : v.ownBlock = none ∨ v.ownBlock ≠ some g := by
  cases hv : v.ownBlock with
  | none => exact .inl rfl
  | some k => exact .inr fun e => by have := (own_lt h k hv).1; cases e; omega

theorem below_of_grown {w w' : World} {g : Nat} (h : w.grownBy w' (some g)) (hg : w.heap.size ≤ g) : Below w.heap.size w w' :=
  ⟨h.os, h.tape, h.output, h.size, fun k hk => h.block k hk (fun e => by cases e; omega)⟩

theorem hne_of_bytes {w : World} {a : Option Addr} {m : Nat} (hbm : Bytes w a m) : 0 < m → ∀ x, a = some x → x.block ≠ w.heap.size := by
  intro h0 x hx
  rcases hbm with h | ⟨b, off, ha, hcs⟩
  · omega
  · obtain ⟨y, _, hc⟩ := hcs 0 h0
    have := World.block_lt_of_cell? w _ hc
    rw [ha] at hx
    cases hx
    exact Nat.ne_of_lt this

end Go.Proofs.Ytdeeeiimlcggpaa
