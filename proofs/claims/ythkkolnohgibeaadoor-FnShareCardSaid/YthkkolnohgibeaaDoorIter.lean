/-
  The contracts of (block).things and (block).list: a range over a function.
-/
import Derived.RangeFuncBox
import Derived.RangeFuncNested
import Derived.RangeFuncBound
import Derived.RangeFuncCalls
import Derived.RangeFuncLeaves
import Derived.Shelf.Abstract
import Derived.WalkKit
import Derived.OwnWalkIn
import Derived.TacticsInMore
import Derived.LoopNIn
import Derived.LoopIn
import Derived.Maps.AppendAt
import Derived.Lib.BufferWrite
import Derived.Test.YthkkolnohgibeaaDoorTz
import Derived.Test.YthkkolnohgibeaaDoorHelp
namespace Go.Proofs.YthkkolnohgibeaaDoor
set_option linter.unusedSimpArgs false
set_option linter.unusedVariables false
set_option linter.unnecessarySimpa false
open Go.RowKit Go.Shelf
set_option maxRecDepth 100000

attribute [local go_sem] Oper.semAt_some

/-- The things of a block, in ascending order. -/
def bitsL (b : Nat) : List Int := ((List.range 8).filter fun t => b.testBit t).map fun (t : Nat) => (t : Int)

theorem bits_step : ∀ r, r < 256 → 0 < r → bitsL r = (tz r : Int) :: bitsL (r &&& (r - 1)) ∧ bits BinOp.and IntKind.u64 (r : Int) ((r : Int) - 1) = ((r &&& (r - 1) : Nat) : Int) ∧ (r &&& (r - 1)) < r := by decide +kernel
theorem bits_len : ∀ b, b < 256 → (bitsL b).length = cnt b ∧ cnt b ≤ 8 := by decide +kernel

theorem tab_belowN {n₀ : Nat} {w w' : World} (h : Tab w) (hn : 1 + 1 ≤ n₀) (hb : Below n₀ w w') : Tab w' :=
  ⟨Nat.le_trans h.1 hb.size, fun j hj => (hb.cell (p := ⟨1, j, none⟩) (by simp; omega)).trans (h.2 j hj)⟩

set_option maxHeartbeats 1600000 in
theorem things1_in (n : Nat) (hn : 1 ≤ n) (l Bn n₀ b : Nat) (hb : b < 256) (hn₀ : 1 + 1 ≤ n₀) (J Jx : List Int → World → Prop)
    (hY : ∀ pre x W, J pre W → pre.length < (bitsL b).length → YieldAt Fence.wide (n - 1) Tryd.prog l #[.int .i64 x] W fun e W' =>
      (e = .returned (.bool true) ∧ J (pre ++ [x]) W' ∧ Below n₀ W W') ∨ (e = .returned (.bool false) ∧ Jx (pre ++ [x]) W'))
    (W : World) (hT : Tab W) (hBn : W.cell? ⟨Bn, 0, none⟩ = some (.int .u64 b)) (h0 : J [] W) :
    CallsIn Fence.wide n Tryd.prog 61 #[.func (.yield l) #[] #[], .pointer (some ⟨Bn, 0, none⟩)] W fun e W' => (∃ v, e = .returned v) ∧
      ((∃ ys, ys = bitsL b ∧ J ys W') ∨ (∃ pre, pre <+: bitsL b ∧ Jx pre W')) := by
  refine callsIn_of_wp Tryd.func61 rfl trivial ?_ rfl
  simp only [Tryd.ntmps61, List.size_toArray, List.length_cons, List.length_nil, Nat.reduceAdd, Nat.reduceSub, Array.replicate_succ, Array.replicate_zero, List.push_toArray, List.append_toArray, List.nil_append, List.cons_append]
  gi_wp2
  gi_loopw [3] (fun p wr => ∃ (pre : List Int) (r : Nat), p = .int .u64 r ∧ r < 256 ∧ bitsL b = pre ++ bitsL r ∧ Tab wr ∧ J pre wr)
    (fun p wr => (intOf p).toNat)
  case atStart => exact ⟨[], b, rfl, hb, rfl, hT, h0⟩
  case round =>
    obtain ⟨pre, r, rfl, hr, hx, hTr, hJs⟩ := hrel
    by_cases hr0 : r = 0
    · subst hr0
      have he : bitsL 0 = [] := by decide
      rw [he, List.append_nil] at hx
      gi_wp2
      go_end0
      exact ⟨⟨_, rfl⟩, .inl ⟨pre, hx.symm, hJs⟩⟩
    · obtain ⟨h1, h2, h3⟩ := bits_step r hr (by omega)
      rw [h1] at hx
      obtain ⟨s, hs⟩ : ∃ s, s = r &&& (r - 1) := ⟨_, rfl⟩
      rw [← hs] at h2 h3 hx
      obtain ⟨x, hxe⟩ : ∃ x : Nat, x = tz r := ⟨_, rfl⟩
      have HC := Lib.hid (tz_any r wr hTr hr (by omega))
      rw [← hxe] at hx HC
      have HX := Lib.hid hx
      have hlen : pre.length < (bitsL b).length := by rw [hx]; simp
      obtain ⟨fn, tmps, assign, body, hy, hR⟩ := hY pre x wr hJs hlen
      have hz : ((r : Int) != 0) = true := by simp; omega
      clear h1 hs hxe hx hlen
      gi_wp2_with (refine ⟨trivial, ?_⟩; gi_at_call 62; refine (callsIn_wide.2 HC.out).mono ?_; rintro e w' ⟨rfl, rfl⟩)
      refine hR.mono ?_
      rintro e W3 (⟨rfl, hJ3, hk3⟩ | ⟨rfl, hJx3⟩)
      · have hT3 := tab_belowN hTr hn₀ hk3
        gi_wp2
        go_roundw
        case rel => exact ⟨pre ++ [(x : Int)], s, by go_num, by omega, by rw [HX.out]; simp, hT3, hJ3⟩
        case measure => simp [intOf]; omega
      · gi_wp2
        refine bodyPost_ret (results_none rfl _ _ _) rfl ?_
        exact ⟨⟨_, rfl⟩, .inr ⟨pre ++ [(x : Int)], ⟨bitsL s, by rw [HX.out]; simp⟩, hJx3⟩⟩

theorem things_in (n : Nat) (b : Nat) (w : World) :
    CallsIn Fence.wide n Tryd.prog 41 #[.int .u64 b] w fun e w' => e = .returned (.func (.func 61) #[] #[.pointer (some ⟨w.heap.size, 0, none⟩)]) ∧ w' = w.alloc (.cells #[.int .u64 b] 45) := by
  refine callsIn_of_wp Tryd.func41 rfl trivial ?_ rfl
  simp only [Tryd.ntmps41, List.size_toArray, List.length_cons, List.length_nil, Nat.reduceAdd, Nat.reduceSub, Array.replicate_succ, Array.replicate_zero, List.push_toArray, List.append_toArray, List.nil_append, List.cons_append]
  gi_wp2
  go_ret
  exact ⟨rfl, rfl⟩

theorem things_stops (n : Nat) (hn : 1 ≤ n) (Bn n₀ b : Nat) (hb : b < 256) (w : World) (hT : Tab w) (h2 : 1 + 1 ≤ n₀) (hBn : Bn < w.heap.size) (hn₀ : n₀ ≤ w.heap.size) (hc : w.cell? ⟨Bn, 0, none⟩ = some (.int .u64 b)) :
    SeqStopsK Fence.wide n Tryd.prog 61 #[.pointer (some ⟨Bn, 0, none⟩)] (fun x : Int => #[Value.int .i64 x]) (Below n₀) (fun ys => ys = bitsL b) (fun pre => pre <+: bitsL b) (bitsL b).length w := fun l J Jx W hW _ _ hY h0 =>
  things1_in n hn l Bn n₀ b hb h2 J Jx hY W (tab_below hT hW) ((hW.cell (p := ⟨Bn, 0, none⟩) hBn).trans hc) h0

set_option maxHeartbeats 3200000 in
theorem list_in (n : Nat) (hn : 3 ≤ n) (b : Nat) (w : World) (hT : Tab w) (hb : b < 256) :
    CallsIn Fence.wide n Tryd.prog 36 #[.int .u64 b] w (FreshL w (bitsL b)) := by
  have h1 : 1 ≤ n := by omega
  obtain ⟨i0, hi, hz0, hz1, hz2⟩ := info_parts Tryd.infoInt
  obtain ⟨hbl, hb8⟩ := bits_len b hb
  have hC := Lib.hid (size_any b w hb)
  obtain ⟨m, hm⟩ : ∃ m, m = cnt b := ⟨_, rfl⟩
  rw [← hm] at hbl hb8 hC
  clear hm
  have hT2 := hT.1
  refine callsIn_of_wp_marks Tryd.func36 rfl trivial ?_ rfl
  simp only [Tryd.ntmps36, List.size_toArray, List.length_cons, List.length_nil, Nat.reduceAdd, Nat.reduceSub, Array.replicate_succ, Array.replicate_zero, List.push_toArray, List.append_toArray, List.nil_append, List.cons_append]
  gi_wp2_with (first | (gi_at_make; refine wpListIn_make_own _ rfl _ _ 23 rfl w.heap.size 3 i0 (.int .i64 0) 1 Tryd.underlying23 hi hz0 hz1 _ _ _ m rfl rfl rfl (by rw [hz2]; omega) (by unfold maxLen; omega) (Nat.le_refl _) ?_; intro w1 hown1 hgrow1) | (refine ⟨trivial, ?_⟩; gi_at_call 27; refine (callsIn_wide.2 hC.out).mono ?_; rintro e w' ⟨rfl, rfl⟩))
  have hs1 : w.heap.size < w1.heap.size := by
    have := World.ownsRow.lt hown1 w.heap.size rfl
    omega
  have hb1 : Below w.heap.size w w1 := (Below.refl _ _).grown hgrow1 (Nat.le_refl _) (fun k h => by cases h)
  clear hgrow1
  gi_wp2_with (refine ⟨trivial, ?_⟩; gi_at_call 41; refine (things_in _ b _).mono ?_; rintro e w' ⟨rfl, rfl⟩)
  have bO := Boxed.new w1 23 (.slice (some ⟨w.heap.size, 0, none⟩) 0 m)
  obtain ⟨W2, hW2⟩ : ∃ W2, W2 = w1.alloc (.cells #[.slice (some ⟨w.heap.size, 0, none⟩) 0 m] 23) := ⟨_, rfl⟩
  have hsz2 : W2.heap.size = w1.heap.size + 1 := by rw [hW2]; simp
  have hB2 : Below w.heap.size w W2 := by rw [hW2]; exact hb1.alloc hb1.size _
  have hrow2 : W2.ownsRow w.heap.size 3 1 (.slice (some ⟨w.heap.size, 0, none⟩) 0 m) 0 [] := by
    rw [hW2]
    exact hown1.alloc _
  rw [← hW2] at bO ⊢
  have bN := Boxed.new W2 45 (.int .u64 b)
  rw [hsz2] at bN
  have hB3 : Below w.heap.size w (W2.alloc (.cells #[.int .u64 b] 45)) := hB2.alloc hB2.size _
  have hT3 : Tab (W2.alloc (.cells #[.int .u64 b] 45)) := tab_belowN hT hT2 hB3
  clear hW2 hown1 hb1
  refine wpIn_rangeFunc_ownG rfl h1 (gf := 61) (lb := #[.pointer (some ⟨w1.heap.size + 1, 0, none⟩)]) rfl trivial (enters_of Tryd.func61 (by kernel_rfl) rfl)
    (things_stops (n - 1) (by omega) (w1.heap.size + 1) w.heap.size b hb _ hT3 hT2 (by simp; omega) (by simp; omega) bN.cell) belowK_t (belowK_b (by simp; omega)) (Below.refl _ _) (fun _ => rfl)
    (fun pre W => (∃ v, Boxed W w1.heap.size 23 v ∧ W.ownsRow w.heap.size 3 1 v pre.length (pre.map (Value.int .i64)) ∧ True) ∧ Below w.heap.size w W)
    (fun _ _ _ => False)
    (OwnFrom.and (Own.from (holdsRow_own w.heap.size w1.heap.size 23 3 1 (fun pre : List Int => pre.length) (fun pre => pre.map (Value.int .i64)) (fun _ _ => True)) _) (ownFrom_below (Nat.le_refl _) (by simp; omega)))
    (fun _ _ _ _ _ hs _ _ => hs)
    ⟨⟨_, bO.alloc _, hrow2.alloc _, trivial⟩, hB3⟩
    (fun x => { tmps := #[.int .u64 b, undef, .slice none 0 0, .pointer (some ⟨w1.heap.size, 0, none⟩), .int .i64 x, .int .u64 b, .int .i64 m, .slice (some ⟨w.heap.size, 0, none⟩) 0 m, .int .u64 b, .func (.func 61) #[] #[.pointer (some ⟨w1.heap.size + 1, 0, none⟩)], .int .i64 x, undef, undef, undef, undef, undef], defers := [] }) ?assign ?body ?done ?stop
  case assign =>
    intro l x W K hK
    gi_wp2
    exact hK
  case body =>
    rintro l pre x W ⟨⟨v, hv, hrow, _⟩, hB⟩ hlt
    have hc := hv.cell
    gi_wp2_with (gi_at_builtin; refine wpListIn_append_own _ rfl _ _ 23 rfl w.heap.size 3 i0 (.int .i64 0) 1 8 Tryd.underlying23 hi hz0 hz1 hz2 rfl (by decide) _ _ _ rfl (hrow.alloc _) ⟨W.heap.size, 0, none⟩ 1 1 [.int .i64 x] rfl rfl (cell_one_new _ _ _) (by simp [Value.oneCell']) (by unfold maxLen; omega) (by omega) (by have := hB.size; simp; omega) ?_; intro v' w2 hown' hgrow _; obtain ⟨g', cap', rfl⟩ := ownsRow_succ hown'; obtain ⟨hv1, hv2, hr2, hk2, hb2⟩ := hv.appended (by decide) hrow hB.size (by omega) hown' hgrow; have hc1 := hv1.cell; have hf1 := hv1.frozen)
    exact ⟨hk2.from _, hb2, ⟨_, hv2, by simpa using hr2, trivial⟩, hB.trans hb2⟩
  case done =>
    rintro D ys W hD rfl ⟨⟨v, hv, hrow, _⟩, hB⟩ hK
    have hc := hv.cell
    gi_wp2
    refine ⟨by simp, .inl ⟨_, _, rfl, run_takeDeferred hK, ?_⟩⟩
    exact ⟨_, results_tmp rfl _ _ _, v, rfl, ownsRow_putObj hrow _ hK rfl, hB.trans (belowK_b (w := w) (Nat.le_refl _) W D _ _ (by simp at hD; omega) hK rfl rfl)⟩
  case stop =>
    rintro D c pre W _ _ h _
    exact h.elim

theorem list_any (b : Nat) (w : World) (hT : Tab w) (hb : b < 256) : Calls Tryd.prog 36 #[.int .u64 b] w (FreshL w (bitsL b)) :=
  callsIn_wide.1 (list_in 5 (by omega) b w hT hb)

end Go.Proofs.YthkkolnohgibeaaDoor
