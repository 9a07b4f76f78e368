/-
  Lines: eight numbers in one block. What keeps them; the contracts of (line).things, blocksAhead, list, impl.endings, spec.l4Open, impl.isListed.
-/
import Derived.Test.YtdeeeiimlcggpaaDoorListMath
import Derived.Test.YtdeeeiimlcggpaaDoorKernel
import Derived.Test.YtdeeeiimlcggpaaDoorPut
import Derived.Test.YtdeeeiimlcggpaaDoorMat
import Derived.Laws.Rows
import Derived.Laws.CopyOwn
import Derived.Lib.SliceRun
import Derived.Lib.SlBuf
namespace Go.Proofs.YtdeeeiimlcggpaaDoor
set_option linter.unusedSimpArgs false
set_option linter.unusedVariables false
set_option linter.unnecessarySimpa false
open Go.RowKit

/-- The cells of a row of integers. -/
def rowC (L : List Int) : Array Value := (L.map (Value.int .i64)).toArray

/-- The numbers of a line: those of the list, -1 behind its end. -/
def ln (xs : List Int) : List Int := xs ++ List.replicate (8 - xs.length) (-1)

theorem ln_length {xs : List Int} (h : xs.length ≤ 8) : (ln xs).length = 8 := by simp [ln]; omega
theorem ln_lt {xs : List Int} {j : Nat} (h : j < xs.length) : (ln xs).getD j 0 = xs.getD j 0 := by
  simp [ln, List.getD, List.getElem?_append_left h]
theorem ln_ge {xs : List Int} {j : Nat} (h : xs.length ≤ j) (h8 : j < 8) : (ln xs).getD j 0 = -1 := by
  simp [ln, List.getD, List.getElem?_append_right h, List.getElem?_replicate, show j - xs.length < 8 - xs.length by omega]

theorem rowC_size (L : List Int) : (rowC L).size = L.length := by simp [rowC]
theorem rowC_at (L : List Int) (j : Nat) (h : j < L.length) : (rowC L)[j]? = some (.int .i64 (L.getD j 0)) := by
  simp [rowC, List.getD, h]
theorem rowC_one (L : List Int) : (rowC L).all (·.oneCell') = true := by
  simp [rowC, Value.oneCell']
theorem rowC_set (L : List Int) (j : Nat) (x : Int) : (rowC L).setIfInBounds j (.int .i64 x) = rowC (L.set j x) := by
  simp [rowC, List.map_set]

theorem touch_row (w : World) (g : Nat) (c : Array Value) : Touch w (w.setRow g c) g (g + 1) :=
  ⟨rfl, rfl, rfl, by simp, fun k hk => setRow_other w g k c (by omega)⟩
theorem touch_cell (w : World) (g j : Nat) (v : Value) : Touch w (w.setCell ⟨g, j, none⟩ v) g (g + 1) :=
  ⟨rfl, rfl, rfl, by simp [World.setCell], fun k hk => heap_setCell_other w ⟨g, j, none⟩ k v (by simp; omega)⟩

theorem touch_below {w w' : World} {B S n : Nat} (ht : Touch w w' B S) (h : n ≤ B) : Below n w w' := ⟨ht.os, ht.tape, ht.output, Nat.le_of_eq ht.size.symm, fun k hk => ht.block k (by omega)⟩

set_option maxHeartbeats 800000 in
theorem slicesIndex_no (ao : Option Addr) (ca : Nat) (xs : List Int) (x : Int) (w : World) (hx : Rd w ao xs) (hl : xs.length ≤ 9223372036854775807) (hm : ∀ j, j < xs.length → xs.getD j 0 ≠ x) :
    Calls Tryd.prog 75 #[.slice ao xs.length ca, .int .i64 x] w fun e w' => e = .returned (.int .i64 (-1)) ∧ w = w' := by
  obtain ⟨n, hn⟩ : ∃ n, n = xs.length := ⟨_, rfl⟩
  rw [← hn]
  rw [← hn] at hl hm
  have HN := Lib.hid hn
  clear hn
  have HM := Lib.hid hm
  have HX := Lib.hid hx
  clear hm hx
  go_enter Tryd.func75, Tryd.ntmps75
  go_wp2
  go_loop [8] (fun i => ∃ k : Nat, k ≤ n ∧ i = .int .i64 k) (fun i => n - (intOf i).toNat)
  case atStart => exact ⟨0, Nat.zero_le _, rfl⟩
  case round =>
    obtain ⟨k, hk, rfl⟩ := hrel
    by_cases hlt : k < n
    · rcases HX.out with hx | ⟨bb, off, rfl, hcx⟩
      · have := HN.out
        rw [hx] at this
        simp at this
        omega
      have hc1 := hcx k (by have := HN.out; omega)
      have hne := HM.out k hlt
      clear hcx
      obtain ⟨y, hy⟩ : ∃ y, y = xs.getD k 0 := ⟨_, rfl⟩
      rw [← hy] at hc1 hne
      clear hy
      have hb : (x == y) = false := by simp; exact fun e => hne e.symm
      go_wp2
      go_round
      case rel => exact ⟨k + 1, by omega, by go_num⟩
      case measure => simp [intOf]; omega
    · go_wp2
      go_ret
      exact ⟨rfl, rfl⟩

theorem ln_index {xs : List Int} (hs : Small xs) (h : xs.length < 8) : (-1 : Int) ∈ ln xs ∧ (ln xs).idxOf (-1) = xs.length := by
  have hn : (-1 : Int) ∉ xs := by
    intro hm
    obtain ⟨j, hj, he⟩ := List.getElem_of_mem hm
    have := hs j hj
    simp [List.getD, hj, he] at this
  obtain ⟨m, hm⟩ : ∃ m, 8 - xs.length = m + 1 := ⟨8 - xs.length - 1, by omega⟩
  refine ⟨by simp [ln, hm, List.replicate_succ], ?_⟩
  unfold ln
  rw [hm, List.replicate_succ, List.idxOf_append, if_neg hn, List.idxOf_cons_self, Nat.zero_add]

theorem take_len8 {L : List Int} (h : L.length = 8) : L.take 8 = L := by rw [← h, List.take_length]

theorem ln_take {xs : List Int} {k : Nat} (h : k ≤ xs.length) : (ln xs).take k = xs.take k := by
  unfold ln
  rw [List.take_append_of_le_length h]

theorem small_take {xs : List Int} (h : Small xs) (k : Nat) : Small (xs.take k) := fun j hj => by
  simp at hj
  have := h j (by omega)
  simpa [List.getD, List.getElem?_take, show j < k by omega] using this

theorem size_take_bd {xs : List Int} (h : Small xs) (k : Nat) : 0 ≤ sizeFrom 0 (xs.take k) ∧ sizeFrom 0 (xs.take k) ≤ 8 := sizeFrom_bd _ 0 (small_take h k) (by omega) (by omega)

end Go.Proofs.YtdeeeiimlcggpaaDoor
