/-
  Lines: eight numbers in one block. What keeps them; the contracts of (line).things, blocksAhead, list, impl.endings, spec.l4Open, impl.isListed.
-/
import Derived.Test.YtieldehghmikkaaListMath
import Derived.Test.YtieldehghmikkaaKernel
import Derived.Test.YtieldehghmikkaaPut
import Derived.Test.YtieldehghmikkaaMat
import Derived.Laws.Rows
import Derived.Laws.CopyOwn
import Derived.Lib.SliceRun
import Derived.Lib.SlBuf
namespace Go.Proofs.Ytieldehghmikkaa
set_option linter.unusedSimpArgs false
set_option linter.unusedVariables false
set_option linter.unnecessarySimpa false
open Go.RowKit

/-- The cells of a row of integers. -/
def rowC (L : List Int) : Array Value := (L.map (Value.int .i64)).toArray

/-- The numbers of a line: those of the list, -1 behind its end. -/
def ln (xs : List Int) : List Int := xs ++ List.replicate (8 - xs.length) (-1)

theorem ln_length {xs : List Int} (h : xs.length ≤ 8) : (ln xs).length = 8 := by simp [ln]; omega
theorem ln_lt {xs : List Int} {j : Nat} (h : j < xs.length) : (ln xs).getD j 0 = xs.getD j 0 := by
  simp [ln, List.getD, List.getElem?_append_left h]
theorem ln_ge {xs : List Int} {j : Nat} (h : xs.length ≤ j) (h8 : j < 8) : (ln xs).getD j 0 = -1 := by
  simp [ln, List.getD, List.getElem?_append_right h, List.getElem?_replicate, show j - xs.length < 8 - xs.length by omega]

theorem rowC_size (L : List Int) : (rowC L).size = L.length := by simp [rowC]
theorem rowC_at (L : List Int) (j : Nat) (h : j < L.length) : (rowC L)[j]? = some (.int .i64 (L.getD j 0)) := by
  simp [rowC, List.getD, h]
theorem rowC_one (L : List Int) : (rowC L).all (·.oneCell') = true := by
  simp [rowC, Value.oneCell']
theorem rowC_set (L : List Int) (j : Nat) (x : Int) : (rowC L).setIfInBounds j (.int .i64 x) = rowC (L.set j x) := by
  simp [rowC, List.map_set]

/-- Block g is a line that holds the numbers L. -/
def RowAt (w : World) (g : Nat) (L : List Int) : Prop := w.heap[g]? = some (.cells (rowC L) 82 (0, 0))

theorem rowAt_lt {w : World} {g : Nat} {L : List Int} (h : RowAt w g L) : g < w.heap.size := (Array.getElem?_eq_some_iff.1 h).1
theorem rowAt_new (w : World) (L : List Int) : RowAt (w.alloc (.cells (rowC L) 82)) w.heap.size L := heap_alloc_new w _
theorem rowAt_cell {w : World} {g : Nat} {L : List Int} (h : RowAt w g L) (j : Nat) (hj : j < L.length) : w.cell? ⟨g, j, none⟩ = some (.int .i64 (L.getD j 0)) := by
  rw [cell_of_row w g j _ _ _ h, rowC_at L j hj]
theorem rowAt_frozen {w : World} {g : Nat} {L : List Int} (h : RowAt w g L) (j : Nat) : w.frozen? ⟨g, j, none⟩ = false := frozen_of_row w g j _ _ h
theorem rowAt_block {w w' : World} {g : Nat} {L : List Int} (h : RowAt w g L) (hk : w'.heap[g]? = w.heap[g]?) : RowAt w' g L := by
  unfold RowAt; rw [hk]; exact h
theorem rowAt_below {w w' : World} {g : Nat} {L : List Int} (h : RowAt w g L) (hb : Below w.heap.size w w') : RowAt w' g L := rowAt_block h (hb.block g (rowAt_lt h))
theorem rowAt_alloc {w : World} {g : Nat} {L : List Int} (h : RowAt w g L) (o : Obj) : RowAt (w.alloc o) g L := rowAt_below h ((Below.refl _ _).alloc (Nat.le_refl _) _)
theorem rowAt_drewN {w : World} {g : Nat} {L : List Int} (h : RowAt w g L) (n : Nat) : RowAt (w.drewN n) g L := h
theorem rowAt_drew {w : World} {g : Nat} {L : List Int} (h : RowAt w g L) : RowAt w.drew g L := h
theorem rowAt_setCell {w : World} {g : Nat} {L : List Int} (h : RowAt w g L) (j : Nat) (x : Int) : RowAt (w.setCell ⟨g, j, none⟩ (.int .i64 x)) g (L.set j x) := by
  have := heap_setCell_same w g j (rowC L) _ (.int .i64 x) h
  rw [rowC_set] at this
  exact this
theorem rowAt_rd {w : World} {g : Nat} {L : List Int} (h : RowAt w g L) (t n : Nat) (hn : t + n ≤ L.length) : Rd w (some ⟨g, t, none⟩) ((L.drop t).take n) := by
  refine .inr ⟨g, t, rfl, fun j hj => ?_⟩
  simp at hj
  rw [rowAt_cell h _ (by omega)]
  simp [List.getD, List.getElem?_take, show j < n by omega]

theorem rowAt_rd0 {w : World} {g : Nat} {L : List Int} (h : RowAt w g L) (n : Nat) (hn : n ≤ L.length) : Rd w (some ⟨g, 0, none⟩) (L.take n) := by
  have := rowAt_rd h 0 n (by omega)
  rwa [List.drop_zero] at this

theorem touch_row (w : World) (g : Nat) (c : Array Value) : Touch w (w.setRow g c) g (g + 1) :=
  ⟨rfl, rfl, rfl, by simp, fun k hk => setRow_other w g k c (by omega)⟩
theorem touch_cell (w : World) (g j : Nat) (v : Value) : Touch w (w.setCell ⟨g, j, none⟩ v) g (g + 1) :=
  ⟨rfl, rfl, rfl, by simp [World.setCell], fun k hk => heap_setCell_other w ⟨g, j, none⟩ k v (by simp; omega)⟩

theorem rowAt_touch {w w' : World} {g B S : Nat} {L : List Int} (h : RowAt w g L) (ht : Touch w w' B S) (hd : g < B ∨ S ≤ g) : RowAt w' g L := rowAt_block h (ht.block g hd)

theorem touch_below {w w' : World} {B S n : Nat} (ht : Touch w w' B S) (h : n ≤ B) : Below n w w' := ⟨ht.os, ht.tape, ht.output, Nat.le_of_eq ht.size.symm, fun k hk => ht.block k (by omega)⟩

theorem Try.infoLine : (Try.prog.info? 82).map (·.size) = some 8 := by kernel_rfl

/-- The whole line is read. -/
theorem wpList_loadL {ops : Array Oper} {rest : List Oper} {o : Oper} {a : Act} {w : World} {Q : Exit → Act → World → Prop} (hgd : o.guard = none) (x : Operand) (ho : o.op = .load 82 x)
    (g : Nat) (hx : a.eval x = .pointer (some ⟨g, 0, none⟩)) (L : List Int) (hL : L.length = 8) (hg : RowAt w g L)
    (h : wpList Try.prog ops Q rest (a.put o.dst (.agg (rowC L))) w) : wpList Try.prog ops Q (o :: rest) a w :=
  wpList_load_row hgd _ x ho g hx _ (rowC L) (0, 0) _ hg Try.underlying82 rfl (by rw [rowC_size, hL]; exact Try.infoLine) h

/-- The whole line is written. -/
theorem wpList_storeL {ops : Array Oper} {rest : List Oper} {o : Oper} {a : Act} {w : World} {Q : Exit → Act → World → Prop} (hgd : o.guard = none) (x y : Operand) (ho : o.op = .store 82 x y)
    (g : Nat) (L : List Int) (hx : a.eval x = .pointer (some ⟨g, 0, none⟩)) (hy : a.eval y = .agg (rowC L)) (K : List Int) (hK : K.length = 8) (hL : L.length = 8) (hg : RowAt w g K)
    (h : ∀ w', RowAt w' g L → Touch w w' g (g + 1) → wpList Try.prog ops Q rest (a.put o.dst undef) w') : wpList Try.prog ops Q (o :: rest) a w :=
  wpList_store_row hgd _ x y ho g (rowC L) hx hy _ (rowC K) hg (by rw [rowC_size, hL]; exact Try.infoLine) (by rw [rowC_size, rowC_size, hK, hL]) (rowC_one L) (h _ (setRow_heap w g _ _ _ _ hg) (touch_row w g _))

/-- A function that hands a line back out of its variable. -/
theorem results_line {fn : Func} {p : Tmp} (h : fn.results = #[.cell p 82]) (tmps : Array Value) (w : World) (g : Nat) (L : List Int) (hL : L.length = 8)
    (hp : tmps.getD p undef = .pointer (some ⟨g, 0, none⟩)) (hg : RowAt w g L) : (results fn tmps).run Try.prog w = .ok (.agg (rowC L)) w :=
  results_cell_row h tmps w g _ (rowC L) (0, 0) _ hp hg Try.underlying82 rfl (by rw [rowC_size, hL]; exact Try.infoLine)

set_option maxHeartbeats 800000 in
theorem slicesIndex_no (ao : Option Addr) (ca : Nat) (xs : List Int) (x : Int) (w : World) (hx : Rd w ao xs) (hl : xs.length ≤ 9223372036854775807) (hm : ∀ j, j < xs.length → xs.getD j 0 ≠ x) :
    Calls Try.prog 65 #[.slice ao xs.length ca, .int .i64 x] w fun e w' => e = .returned (.int .i64 (-1)) ∧ w = w' := by
  obtain ⟨n, hn⟩ : ∃ n, n = xs.length := ⟨_, rfl⟩
  rw [← hn]
  rw [← hn] at hl hm
  have HN := Lib.hid hn
  clear hn
  have HM := Lib.hid hm
  have HX := Lib.hid hx
  clear hm hx
  go_enter Try.func65, Try.ntmps65
  go_wp2
  go_loop [8] (fun i => ∃ k : Nat, k ≤ n ∧ i = .int .i64 k) (fun i => n - (intOf i).toNat)
  case atStart => exact ⟨0, Nat.zero_le _, rfl⟩
  case round =>
    obtain ⟨k, hk, rfl⟩ := hrel
    by_cases hlt : k < n
    · rcases HX.out with hx | ⟨bb, off, rfl, hcx⟩
      · have := HN.out
        rw [hx] at this
        simp at this
        omega
      have hc1 := hcx k (by have := HN.out; omega)
      have hne := HM.out k hlt
      clear hcx
      obtain ⟨y, hy⟩ : ∃ y, y = xs.getD k 0 := ⟨_, rfl⟩
      rw [← hy] at hc1 hne
      clear hy
      have hb : (x == y) = false := by simp; exact fun e => hne e.symm
      go_wp2
      go_round
      case rel => exact ⟨k + 1, by omega, by go_num⟩
      case measure => simp [intOf]; omega
    · go_wp2
      go_ret
      exact ⟨rfl, rfl⟩

theorem ln_index {xs : List Int} (hs : Small xs) (h : xs.length < 8) : (-1 : Int) ∈ ln xs ∧ (ln xs).idxOf (-1) = xs.length := by
  have hn : (-1 : Int) ∉ xs := by
    intro hm
    obtain ⟨j, hj, he⟩ := List.getElem_of_mem hm
    have := hs j hj
    simp [List.getD, hj, he] at this
  obtain ⟨m, hm⟩ : ∃ m, 8 - xs.length = m + 1 := ⟨8 - xs.length - 1, by omega⟩
  refine ⟨by simp [ln, hm, List.replicate_succ], ?_⟩
  unfold ln
  rw [hm, List.replicate_succ, List.idxOf_append, if_neg hn, List.idxOf_cons_self, Nat.zero_add]

theorem take_len8 {L : List Int} (h : L.length = 8) : L.take 8 = L := by rw [← h, List.take_length]

set_option maxHeartbeats 800000 in
theorem things_any (xs : List Int) (w : World) (hs : Small xs) (h8 : xs.length ≤ 8) :
    Calls Try.prog 91 #[.agg (rowC (ln xs))] w fun e w' => e = .returned (.int .i64 xs.length) ∧ w' = w.alloc (.cells (rowC (ln xs)) 82) := by
  have hL := ln_length h8
  have hnew := rowAt_new w (ln xs)
  have hrd := rowAt_rd0 hnew 8 (by omega)
  rw [take_len8 hL] at hrd
  by_cases hlt : xs.length < 8
  · obtain ⟨h1, h2⟩ := ln_index hs hlt
    have hc := slicesIndex_any (some ⟨w.heap.size, 0, none⟩) 8 (ln xs) (-1) _ hrd (by omega) h1
    rw [h2, hL] at hc
    have HC := Lib.hid hc
    obtain ⟨n, hn⟩ : ∃ n, n = xs.length := ⟨_, rfl⟩
    rw [← hn] at HC hlt ⊢
    clear hc hrd hnew hL h1 h2 h8 hn
    go_enter Try.func91, Try.ntmps91
    go_wp2_with (go_at_call 65; refine HC.out.mono ?_; rintro e w' ⟨rfl, rfl⟩)
    go_ret
    exact ⟨rfl, rfl⟩
  · have hn8 : xs.length = 8 := by omega
    have hc := slicesIndex_no (some ⟨w.heap.size, 0, none⟩) 8 (ln xs) (-1) _ hrd (by omega) (fun j hj => by rw [ln_lt (by omega)]; have := hs j (by omega); omega)
    rw [hL] at hc
    have HC := Lib.hid hc
    rw [hn8]
    clear hc hrd hnew hL h8 hlt hn8
    go_enter Try.func91, Try.ntmps91
    go_wp2_with (go_at_call 65; refine HC.out.mono ?_; rintro e w' ⟨rfl, rfl⟩)
    go_ret
    exact ⟨rfl, rfl⟩

theorem run_sliceL (w : World) (g k : Nat) (hk : k ≤ 8) :
    (Instr.sliceAt 82 (.pointer (some ⟨g, 0, none⟩)) none (some (.int .i64 k)) none).run Try.prog w = .ok (.slice (some ⟨g, 0, none⟩) k 8) w := by
  have h1 : (k : Int) ≤ 8 := by omega
  simp [Instr.sliceAt, run_underlying Try.underlying82, Instr.sureAddr, Instr.sliceBounds, Instr.sliceBound, asIntOf, h1, Try.sizeOf3, Addr.add]
  intro h
  omega

theorem run_sliceL2 (w : World) (g l k : Nat) (hl : l ≤ k) (hk : k ≤ 8) :
    (Instr.sliceAt 82 (.pointer (some ⟨g, 0, none⟩)) (some (.int .i64 l)) (some (.int .i64 k)) none).run Try.prog w = .ok (.slice (some (if 8 = l then ⟨g, 0, none⟩ else ⟨g, l, none⟩)) (k - l) (8 - l)) w := by
  have h1 : (k : Int) ≤ 8 := by omega
  have h2 : (l : Int) ≤ k := by omega
  simp [Instr.sliceAt, run_underlying Try.underlying82, Instr.sureAddr, Instr.sliceBounds, Instr.sliceBound, asIntOf, h1, h2, hk, hl, Try.sizeOf3, Addr.add]
  by_cases h : l = 0
  · subst h; simp
  · simp [h]

theorem ln_take {xs : List Int} {k : Nat} (h : k ≤ xs.length) : (ln xs).take k = xs.take k := by
  unfold ln
  rw [List.take_append_of_le_length h]

theorem small_take {xs : List Int} (h : Small xs) (k : Nat) : Small (xs.take k) := fun j hj => by
  simp at hj
  have := h j (by omega)
  simpa [List.getD, List.getElem?_take, show j < k by omega] using this

theorem size_take_bd {xs : List Int} (h : Small xs) (k : Nat) : 0 ≤ sizeFrom 0 (xs.take k) ∧ sizeFrom 0 (xs.take k) ≤ 8 := sizeFrom_bd _ 0 (small_take h k) (by omega) (by omega)

set_option maxHeartbeats 800000 in
theorem blocksAhead_any (xs : List Int) (k : Nat) (w : World) (hs : Small xs) (h8 : xs.length ≤ 8) (hk : k ≤ xs.length) :
    Calls Try.prog 97 #[.agg (rowC (ln xs)), .int .i64 k] w fun e w' => e = .returned (.int .i64 (sizeFrom 0 (xs.take k))) ∧ w' = w.alloc (.cells (rowC (ln xs)) 82) := by
  have hL := ln_length h8
  obtain ⟨W, hW⟩ : ∃ W, W = w.alloc (.cells (rowC (ln xs)) 82) := ⟨_, rfl⟩
  have hnew := rowAt_new w (ln xs)
  rw [← hW] at hnew
  have hcell : ∀ j, j < k → W.cell? ⟨w.heap.size, j, none⟩ = some (.int .i64 (xs.getD j 0)) := fun j hj => by
    rw [rowAt_cell hnew j (by omega), ln_lt (by omega)]
  have HC := Lib.hid hcell
  have HS := Lib.hid hs
  have HK := Lib.hid hk
  have hk8 : k ≤ 8 := by omega
  have hsl := fun (w1 : World) => run_sliceL w1 w.heap.size k hk8
  clear hcell hnew hL hs hk h8
  have HW := Lib.hid hW
  go_enter Try.func97, Try.ntmps97
  go_wp2
  rw [← HW.out]
  clear hW hsl
  go_loop [5, 11] (fun u i => ∃ (j : Nat) (b : Int), j ≤ k ∧ i = .int .i64 j ∧ u = .int .i64 b ∧ 0 ≤ b ∧ b ≤ 8 ∧ sizeFrom 0 (xs.take k) = sizeFrom b ((xs.take k).drop j)) (fun _ i => k - (intOf i).toNat)
  case atStart => exact ⟨0, 0, Nat.zero_le _, rfl, rfl, by omega, by omega, rfl⟩
  case round =>
    obtain ⟨j, b, hj, rfl, rfl, hb0, hb8, hok⟩ := hrel
    have HOK := Lib.hid hok
    clear hok
    by_cases hlt : j < k
    · have hc1 := HC.out j hlt
      have hdr := drop_cons (xs.take k) j (by have := HK.out; simp; omega)
      obtain ⟨hx0, hx7⟩ := HS.out j (by have := HK.out; omega)
      have hg : (xs.take k).getD j 0 = xs.getD j 0 := by simp [List.getD, List.getElem?_take, hlt]
      rw [hg] at hdr
      obtain ⟨x, hx⟩ : ∃ x, x = xs.getD j 0 := ⟨_, rfl⟩
      rw [← hx] at hc1 hdr hx0 hx7
      have hok := HOK.out
      rw [hdr, sizeFrom] at hok
      have HOK2 := Lib.hid hok
      clear hok HOK hdr hx hg
      by_cases hm : x + 1 ≤ b
      · go_wp2
        go_round
        case rel => exact ⟨j + 1, b, by omega, by go_num, by first | rfl | (congr 1; omega), by omega, by omega, by rw [HOK2.out, Int.max_eq_left hm]⟩
        case measure => simp [intOf]; omega
      · go_wp2
        go_round
        case rel => exact ⟨j + 1, x + 1, by omega, by go_num, by first | rfl | (congr 1; omega), by omega, by omega, by rw [HOK2.out, Int.max_eq_right (by omega)]⟩
        case measure => simp [intOf]; omega
    · have hkn : j = k := by omega
      subst hkn
      go_wp2
      go_ret
      refine ⟨ret_int ?_, HW.out⟩
      have := HOK.out
      rw [List.drop_of_length_le (by rw [List.length_take]; omega)] at this
      rw [this]
      rfl

end Go.Proofs.Ytieldehghmikkaa
