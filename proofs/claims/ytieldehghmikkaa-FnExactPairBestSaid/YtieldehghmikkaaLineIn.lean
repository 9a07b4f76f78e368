/-
  Lines inside a fence; what keeps a list of lists over the rounds of an iterator; the contract of impl.linesOf and of its iterator.
-/
import Derived.RangeFuncBox
import Derived.RangeFuncNested
import Derived.RangeFuncBound
import Derived.RangeFuncCalls
import Derived.RangeFuncLeaves
import Derived.Shelf.Abstract
import Derived.WalkKit
import Derived.OwnWalkIn
import Derived.TacticsInMore
import Derived.LoopNIn
import Derived.LoopIn
import Derived.Sort.LoopGhostIn
import Derived.Maps.AppendAt
import Derived.Lib.BufferWrite
import Derived.Test.YtieldehghmikkaaLine4
namespace Go.Proofs.Ytieldehghmikkaa
set_option linter.unusedSimpArgs false
set_option linter.unusedVariables false
set_option linter.unnecessarySimpa false
open Go.RowKit Go.Shelf
set_option maxRecDepth 100000

attribute [local go_sem] Oper.semAt_some

theorem run_loadL (w : World) (g : Nat) (L : List Int) (hL : L.length = 8) (hg : RowAt w g L) :
    (Instr.loadAt 82 (.pointer (some ⟨g, 0, none⟩))).run Try.prog w = .ok (.agg (rowC L)) w := by
  simp only [Instr.loadAt, Instr.sureAddr, Sem.run_bind, Sem.run_pure, Result.andThen]
  exact run_loadVar_row w g _ _ (rowC L) (0, 0) _ hg Try.underlying82 rfl (by rw [rowC_size, hL]; exact Try.infoLine)

theorem run_storeL (w : World) (g : Nat) (K L : List Int) (hK : K.length = 8) (hL : L.length = 8) (hg : RowAt w g K) :
    (Instr.storeAt 82 (.pointer (some ⟨g, 0, none⟩)) (.agg (rowC L))).run Try.prog w = .ok () (w.setRow g (rowC L)) := by
  simp only [Instr.storeAt, Instr.sureAddr, Sem.run_bind, Sem.run_pure, Result.andThen]
  exact run_storeVar_row w g _ _ (rowC K) (rowC L) hg (by rw [rowC_size, hL]; exact Try.infoLine) (by rw [rowC_size, rowC_size, hK, hL]) (rowC_one L)

section
variable {F : Fence} {n : Nat}

theorem wpIn_loadL {o : Oper} {a : Act} {w : World} {K : Act → World → Prop} {Q : Exit → Act → World → Prop} (x : Operand) (ho : o.op = .load 82 x)
    (g : Nat) (hx : a.eval x = .pointer (some ⟨g, 0, none⟩)) (L : List Int) (hL : L.length = 8) (hg : RowAt w g L) (h : K (a.put o.dst (.agg (rowC L))) w) : o.wpIn F n Try.prog a w K Q := by
  unfold Oper.wpIn
  refine ⟨by simp [Oper.about, ho], ?_⟩
  rw [Oper.semAt_plain F _ _ (by rw [ho]; intro c hc; cases hc)]
  simp only [execOp, ho, hx, Sem.run_bind, run_loadL w g L hL hg, Sem.run_pure, Result.andThen_ok]
  exact h

theorem wpListIn_loadL {ops : Array Oper} {rest : List Oper} {o : Oper} {a : Act} {w : World} {Q : Exit → Act → World → Prop} (hgd : o.guard = none) (x : Operand) (ho : o.op = .load 82 x)
    (g : Nat) (hx : a.eval x = .pointer (some ⟨g, 0, none⟩)) (L : List Int) (hL : L.length = 8) (hg : RowAt w g L)
    (h : wpListIn F n Try.prog ops Q rest (a.put o.dst (.agg (rowC L))) w) : wpListIn F n Try.prog ops Q (o :: rest) a w :=
  wpListIn_plain hgd fun _ hK => wpIn_loadL x ho g hx L hL hg (hK _ _ h)

theorem wpListIn_storeL {ops : Array Oper} {rest : List Oper} {o : Oper} {a : Act} {w : World} {Q : Exit → Act → World → Prop} (hgd : o.guard = none) (x y : Operand) (ho : o.op = .store 82 x y)
    (g : Nat) (L : List Int) (hx : a.eval x = .pointer (some ⟨g, 0, none⟩)) (hy : a.eval y = .agg (rowC L)) (K : List Int) (hK : K.length = 8) (hL : L.length = 8) (hg : RowAt w g K)
    (h : ∀ w', RowAt w' g L → Touch w w' g (g + 1) → wpListIn F n Try.prog ops Q rest (a.put o.dst undef) w') : wpListIn F n Try.prog ops Q (o :: rest) a w := by
  refine wpListIn_plain hgd fun K' hK' => ?_
  unfold Oper.wpIn
  refine ⟨by simp [Oper.about, ho], ?_⟩
  rw [Oper.semAt_plain F _ _ (by rw [ho]; intro c hc; cases hc)]
  simp only [execOp, ho, hx, hy, Sem.run_bind, run_storeL w g K L hK hL hg, Sem.run_pure, Result.andThen_ok]
  exact hK' _ _ (h _ (setRow_heap w g _ _ _ _ hg) (touch_row w g _))
end

/-- All lists of n things. -/
def allL (n : Nat) : List (List Int) := (List.range (opn n 0).toNat).map fun p => atL n (p : Nat)

theorem allL_length (n : Nat) : (allL n).length = (opn n 0).toNat := by simp [allL]

theorem range_prefix (p T : Nat) (h : p ≤ T) : List.range p <+: List.range T := by
  have := List.take_prefix p (List.range T)
  rwa [List.take_range, Nat.min_eq_left h] at this

/-- The iterator's own lines stay. -/
def KeepL (W W' : World) : Prop := ∀ g L, RowAt W g L → RowAt W' g L
theorem KeepL.refl (W : World) : KeepL W W := fun _ _ h => h
theorem KeepL.trans {A B C : World} (h : KeepL A B) (k : KeepL B C) : KeepL A C := fun g L r => k g L (h g L r)
theorem keepL_below {W W' : World} (h : Below W.heap.size W W') : KeepL W W' := fun _ _ r => rowAt_below r h

/-- What the body of a round must keep: what lay below n₀, and the lines. -/
def KpL (n₀ : Nat) (W W' : World) : Prop := Below n₀ W W' ∧ KeepL W W'
theorem kpL_t {n₀ : Nat} {A B C : World} (h : KpL n₀ A B) (k : KpL n₀ B C) : KpL n₀ A C := ⟨h.1.trans k.1, h.2.trans k.2⟩
theorem kpL_b {n₀ : Nat} {w : World} (hn : n₀ ≤ w.heap.size) (W : World) (l : Nat) (o o' : Obj) (hl : w.heap.size ≤ l) (h : W.heap[l]? = some o) (hc : o.isCells = false) (hw : o.isWalk = false) : KpL n₀ W (W.putObj l o') := by
  refine ⟨belowK_b hn W l o o' hl h hc hw, fun g L r => ?_⟩
  refine rowAt_block r (World.putObj_heap_other ?_)
  intro e
  subst e
  rw [show W.heap[g]? = _ from r] at h
  cases h
  cases hc

set_option maxHeartbeats 1600000 in
theorem lines1_in (n : Nat) (hn : 1 ≤ n) (l Bn n₀ c : Nat) (hc1 : 1 ≤ c) (hc8 : c ≤ 8) (J Jx : List Nat → World → Prop)
    (hJ : ∀ pre X Y, J pre X → Below X.heap.size X Y → J pre Y)
    (hY : ∀ pre x W, J pre W → pre.length < (opn c 0).toNat → YieldAt Fence.wide (n - 1) Try.prog l #[.agg (rowC (ln (atL c (x : Nat))))] W fun e W' =>
      (e = .returned (.bool true) ∧ J (pre ++ [x]) W' ∧ KpL n₀ W W') ∨ (e = .returned (.bool false) ∧ Jx (pre ++ [x]) W'))
    (W : World) (hBn : W.cell? ⟨Bn, 0, none⟩ = some (.int .i64 c)) (h0 : J [] W) :
    CallsIn Fence.wide n Try.prog 88 #[.func (.yield l) #[] #[], .pointer (some ⟨Bn, 0, none⟩)] W fun e W' => (∃ v, e = .returned v) ∧
      ((∃ ys, ys = List.range (opn c 0).toNat ∧ J ys W') ∨ (∃ pre, pre <+: List.range (opn c 0).toNat ∧ Jx pre W')) := by
  have hTp := opn_bd c 0 (by omega) (by omega)
  obtain ⟨T, hT⟩ : ∃ T : Nat, T = (opn c 0).toNat := ⟨_, rfl⟩
  rw [← hT] at hY ⊢
  have hTi : opn c 0 = (T : Int) := by omega
  have hT1 : 1 ≤ T := by omega
  have hL0 : atL c 0 = List.replicate c 0 := by
    have := before_at (xs := List.replicate c 0) (ys := List.replicate c 0) rfl (ok_zeros _ _ (by omega))
    have h2 := atL_plc (xs := List.replicate c 0) (ok_zeros _ _ (by omega))
    rw [plc_first, List.length_replicate] at h2
    exact h2
  have HF := Lib.hid (firstLine_any c W hc1 hc8)
  have HJ := Lib.hid hJ
  have HY := Lib.hid hY
  have HLN : Hid (∀ p : Nat, (ln (atL c p)).length = 8) := fun p => ln_length (by rw [atL_length]; exact hc8)
  have HNX : Hid (∀ (p : Nat) (w1 : World), p < T → Calls Try.prog 89 #[.agg (rowC (ln (atL c p)))] w1 (GivesLB w1 (if p + 1 < T then (atL c ((p + 1 : Nat) : Int), true) else (atL c p, false)))) := fun p w1 h => by
    have hpq := plc_atL c (p : Int) (by omega) (by omega)
    have hp := next_any (atL c p) w1 (atL_partIn c p hc1 hc8 (by omega) (by omega))
    have e : nextR (atL c p) = if p + 1 < T then (atL c ((p + 1 : Nat) : Int), true) else (atL c p, false) := by
      unfold nextR
      rw [atL_length, hpq.2, hTi]
      by_cases h2 : p + 1 < T
      · rw [if_pos h2, if_pos (by omega)]
        rfl
      · rw [if_neg h2, if_neg (by omega)]
    rw [e] at hp
    exact hp
  have HL0 := Lib.hid hL0
  clear hJ hY hTp hT hTi hL0
  refine callsIn_of_wp Try.func88 rfl trivial ?_ rfl
  simp only [Try.ntmps88, List.size_toArray, List.length_cons, List.length_nil, Nat.reduceAdd, Nat.reduceSub, Array.replicate_succ, Array.replicate_zero, List.push_toArray, List.append_toArray, List.nil_append, List.cons_append]
  gi_wp2_with fail
  refine ⟨trivial, ?_⟩
  refine (callsIn_wide.2 HF.out).mono ?_
  rintro e w1 ⟨rfl, hb1⟩
  have hz1 : RowAt (w1.alloc (.cells #[.int .i64 0, .int .i64 0, .int .i64 0, .int .i64 0, .int .i64 0, .int .i64 0, .int .i64 0, .int .i64 0] 82)) w1.heap.size (List.replicate 8 0) := heap_alloc_new w1 _
  have HZ1 := Lib.hid hz1
  have hj1 := HJ.out [] W _ h0 (hb1.alloc hb1.size (.cells #[.int .i64 0, .int .i64 0, .int .i64 0, .int .i64 0, .int .i64 0, .int .i64 0, .int .i64 0, .int .i64 0] 82))
  have HLZ := Lib.hid (ln_length (xs := List.replicate c 0) (by simp; exact hc8))
  have hs1 := hb1.size
  have HB1 := Lib.hid (hb1.alloc hb1.size (.cells #[.int .i64 0, .int .i64 0, .int .i64 0, .int .i64 0, .int .i64 0, .int .i64 0, .int .i64 0, .int .i64 0] 82))
  clear hz1 hb1 hj1
  gi_wp2_with (first | (refine wpListIn_storeL rfl _ _ rfl w1.heap.size _ rfl rfl (List.replicate 8 0) rfl HLZ.out HZ1.out ?_; intro w3 hg3 ht3; have HG3 := Lib.hid hg3; have HB3 := Lib.hid (HB1.out.trans (touch_below ht3 hs1)); clear hg3 ht3))
  have HG3' : Hid (RowAt w3 w1.heap.size (ln (atL c ((0 : Nat) : Int)))) := by
    show RowAt _ _ _
    rw [show (((0 : Nat) : Int)) = 0 from rfl, HL0.out]
    exact HG3.out
  have HJ3 := Lib.hid (HJ.out [] W w3 h0 HB3.out)
  clear h0 hBn
  gi_loopg [3, 4] T (fun k b f wr => ∃ p g : Nat, p ≤ T ∧ k = T - p ∧ b = .pointer (some ⟨g, 0, none⟩) ∧ f = .bool (decide (p < T)) ∧ J (List.range p) wr ∧ (p < T → RowAt wr g (ln (atL c p))))
  case atStart => exact ⟨0, w1.heap.size, Nat.zero_le _, by omega, rfl, by rw [decide_eq_true (by omega)], by simpa using HJ3.out, fun _ => HG3'.out⟩
  case round =>
    obtain ⟨p, g, hp, hk, rfl, rfl, hj, hrow⟩ := hrel
    by_cases hlt : p < T
    · have hr := hrow hlt
      have hlen : (List.range p).length < T := by rw [List.length_range]; exact hlt
      obtain ⟨fn, tmps, assign, body, hy, hR⟩ := HY.out (List.range p) p wr hj hlen
      have hd : decide (p < T) = true := decide_eq_true hlt
      have HTSP := Lib.hid (List.range_succ (n := p))
      have HNP := Lib.hid fun (w5 : World) => HNX.out p w5 hlt
      obtain ⟨xs, hxs⟩ : ∃ xs, xs = atL c p := ⟨_, rfl⟩
      have HXS := Lib.hid hxs
      have HLX := Lib.hid (HLN.out p)
      rw [← hxs] at hy hr HNP HLX
      have HR := Lib.hid hr
      have HRR := Lib.hid hR
      rw [hd]
      clear hlen hrow hj hxs hr hR hd
      gi_wp2_with (first | (refine wpListIn_loadL rfl _ rfl g rfl _ HLX.out HR.out ?_))
      refine HRR.out.mono ?_
      rintro e w4 (⟨rfl, hj4, hk4⟩ | ⟨rfl, hx4⟩)
      · have hr4 := hk4.2 g _ HR.out
        have HR4 := Lib.hid hr4
        have hz4 : RowAt (w4.alloc (.cells #[.int .i64 0, .int .i64 0, .int .i64 0, .int .i64 0, .int .i64 0, .int .i64 0, .int .i64 0, .int .i64 0] 82)) w4.heap.size (List.replicate 8 0) := heap_alloc_new w4 _
        have HZ4 := Lib.hid hz4
        have hb4 : Below w4.heap.size w4 (w4.alloc (.cells #[.int .i64 0, .int .i64 0, .int .i64 0, .int .i64 0, .int .i64 0, .int .i64 0, .int .i64 0, .int .i64 0] 82)) := (Below.refl _ _).alloc (Nat.le_refl _) _
        have HB4 := Lib.hid hb4
        rw [← HTSP.out] at hj4
        have HJ4 := Lib.hid hj4
        clear hr4 hz4 hb4 hj4 hk4
        by_cases h2 : p + 1 < T
        · have hn2 := HNP.out
          have HN2 := Lib.hid fun (w5 : World) => by
            have := hn2 w5
            rw [if_pos h2] at this
            exact this
          have HLX2 := Lib.hid (HLN.out (p + 1))
          clear hn2
          gi_wp2_with (first | (refine wpListIn_loadL rfl _ rfl g rfl _ HLX.out HR4.out ?_) | (refine wpListIn_storeL rfl _ _ rfl w4.heap.size _ rfl rfl (List.replicate 8 0) rfl HLX.out HZ4.out ?_; intro w5 hg5 ht5; have HG5 := Lib.hid hg5; have HB5 := Lib.hid (HB4.out.trans (touch_below ht5 (Nat.le_refl _))); clear hg5 ht5) | (refine wpListIn_loadL rfl _ rfl w4.heap.size rfl _ HLX.out HG5.out ?_) | (refine ⟨trivial, ?_⟩; gi_at_call 89; refine (callsIn_wide.2 (HN2.out _)).mono ?_; rintro e w6 ⟨rfl, hb6⟩; have HG6 := Lib.hid (rowAt_below HG5.out hb6); have HB6 := Lib.hid (below_step HB5.out hb6); clear hb6) | (refine wpListIn_storeL rfl _ _ rfl w4.heap.size _ rfl rfl _ HLX.out HLX2.out HG6.out ?_; intro w7 hg7 ht7; have HG7 := Lib.hid hg7; have HB7 := Lib.hid (HB6.out.trans (touch_below ht7 (Nat.le_refl _))); clear hg7 ht7))
          gi_roundg (T - (p + 1))
          case rel => exact ⟨p + 1, w4.heap.size, by omega, rfl, rfl, by rw [decide_eq_true h2], HJ.out _ w4 w7 HJ4.out HB7.out, fun _ => HG7.out⟩
          case measure => omega
        · have hn2 := HNP.out
          have HN2 := Lib.hid fun (w5 : World) => by
            have := hn2 w5
            rw [if_neg h2] at this
            exact this
          clear hn2
          gi_wp2_with (first | (refine wpListIn_loadL rfl _ rfl g rfl _ HLX.out HR4.out ?_) | (refine wpListIn_storeL rfl _ _ rfl w4.heap.size _ rfl rfl (List.replicate 8 0) rfl HLX.out HZ4.out ?_; intro w5 hg5 ht5; have HG5 := Lib.hid hg5; have HB5 := Lib.hid (HB4.out.trans (touch_below ht5 (Nat.le_refl _))); clear hg5 ht5) | (refine wpListIn_loadL rfl _ rfl w4.heap.size rfl _ HLX.out HG5.out ?_) | (refine ⟨trivial, ?_⟩; gi_at_call 89; refine (callsIn_wide.2 (HN2.out _)).mono ?_; rintro e w6 ⟨rfl, hb6⟩; have HG6 := Lib.hid (rowAt_below HG5.out hb6); have HB6 := Lib.hid (below_step HB5.out hb6); clear hb6) | (refine wpListIn_storeL rfl _ _ rfl w4.heap.size _ rfl rfl _ HLX.out HLX.out HG6.out ?_; intro w7 hg7 ht7; have HG7 := Lib.hid hg7; have HB7 := Lib.hid (HB6.out.trans (touch_below ht7 (Nat.le_refl _))); clear hg7 ht7))
          gi_roundg (T - (p + 1))
          case rel => exact ⟨p + 1, w4.heap.size, by omega, rfl, rfl, by rw [decide_eq_false h2], HJ.out _ w4 w7 HJ4.out HB7.out, fun h => absurd h h2⟩
          case measure => omega
      · gi_wp2
        refine bodyPost_ret (results_none rfl _ _ _) rfl ?_
        refine ⟨⟨_, rfl⟩, .inr ⟨_, ?_, hx4⟩⟩
        rw [← HTSP.out]
        exact range_prefix (p + 1) T (by omega)
    · obtain rfl : p = T := by omega
      have hd : decide (p < p) = false := decide_eq_false (by omega)
      rw [hd]
      clear hrow
      gi_wp2
      go_end0
      exact ⟨⟨_, rfl⟩, .inl ⟨_, rfl, hj⟩⟩

theorem linesOf_in (n : Nat) (c : Int) (w : World) :
    CallsIn Fence.wide n Try.prog 75 #[.int .i64 c] w fun e w' => e = .returned (.func (.func 88) #[] #[.pointer (some ⟨w.heap.size, 0, none⟩)]) ∧ w' = w.alloc (.cells #[.int .i64 c] 3) := by
  refine callsIn_of_wp Try.func75 rfl trivial ?_ rfl
  simp only [Try.ntmps75, List.size_toArray, List.length_cons, List.length_nil, Nat.reduceAdd, Nat.reduceSub, Array.replicate_succ, Array.replicate_zero, List.push_toArray, List.append_toArray, List.nil_append, List.cons_append]
  gi_wp2
  go_ret
  exact ⟨rfl, rfl⟩

theorem lines_stops (n : Nat) (hn : 1 ≤ n) (Bn n₀ c : Nat) (hc1 : 1 ≤ c) (hc8 : c ≤ 8) (w : World) (hBn : Bn < w.heap.size) (hc : w.cell? ⟨Bn, 0, none⟩ = some (.int .i64 c)) :
    SeqStopsK Fence.wide n Try.prog 88 #[.pointer (some ⟨Bn, 0, none⟩)] (fun x : Nat => #[Value.agg (rowC (ln (atL c (x : Int))))]) (KpL n₀) (fun ys => ys = List.range (opn c 0).toNat) (fun pre => pre <+: List.range (opn c 0).toNat) (opn c 0).toNat w := fun l J Jx W hW hAJ _ hY h0 =>
  lines1_in n hn l Bn n₀ c hc1 hc8 J Jx (fun pre X Y hj hb => hAJ pre X Y none hj (grown_of_below hb) (fun r e => by cases e)) hY W ((hW.cell (p := ⟨Bn, 0, none⟩) hBn).trans hc) h0

end Go.Proofs.Ytieldehghmikkaa
