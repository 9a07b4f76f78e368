/-
  The contract of impl.linesThat: a range over a function, in whose rounds a function value is asked. (Made by wip/gen/mklines.py.)
-/
import Derived.Test.YtipmafplpoadjaaListBlk
import Derived.Test.YtipmafplpoadjaaPairs
namespace Go.Proofs.Ytipmafplpoadjaa
set_option linter.unusedSimpArgs false
set_option linter.unusedVariables false
set_option linter.unnecessarySimpa false
open Go.RowKit Go.Shelf
set_option maxRecDepth 100000

attribute [local go_sem] Oper.semAt_some

section
variable {n l : Nat} {o : Oper} {a : Act} {w : World} {K : Act → World → Prop} {Q : Exit → Act → World → Prop}

theorem wpIn_loadF {F : Fence} (x : Operand) (ho : o.op = .load 80 x) (B : Nat) (v : Value) (hv : Boxed w B 80 v) (hx : a.eval x = .pointer (some ⟨B, 0, none⟩)) (h : K (a.put o.dst v) w) : o.wpIn F n Try.prog a w K Q := by
  have hr : (Instr.loadAt 80 (.pointer (some ⟨B, 0, none⟩))).run Try.prog w = .ok v w := by
    have hc := hv.cell
    simp [go_sem, hc]
  unfold Oper.wpIn
  refine ⟨by simp [Oper.about, ho], ?_⟩
  rw [Oper.semAt_plain F _ _ (by rw [ho]; intro c hc; cases hc)]
  simp only [execOp, ho, hx, Sem.run_bind, hr, Sem.run_pure, Result.andThen_ok]
  exact h

/-- A call of a function value that holds what it has caught. -/
theorem wpIn_callF (f : FuncId) (caps : Array Value) (s x : Operand) (t : TypeId) (ho : o.op = .call { callee := .value s, args := #[x], argTypes := #[t] }) (hs : a.eval s = .func (.func f) #[] caps) (u : Value) (hx : a.eval x = u)
    (R : Ending → World → Prop) (hc : Calls Try.prog f (#[u] ++ caps) w R) (he : (callFunc f (#[u] ++ caps)).run Try.prog w = .ok (.enter f (#[u] ++ caps)) w) (h : ∀ e w', R e w' → ∃ v, e = .returned v ∧ K (a.put o.dst v) w') : o.wpIn (Fence.wide.inRound l) n Try.prog a w K Q := by
  unfold Oper.wpIn
  refine ⟨fun _ _ => trivial, ?_⟩
  rw [Oper.semAt_plain _ _ _ (by rw [ho]; intro c hc'; cases hc')]
  have hcall : (execOp a.eval o).run Try.prog w = .ok (.enter f (#[u] ++ caps)) w := by
    simp only [execOp, ho, List.map_toArray, List.map_cons, List.map_nil, hx, hs, resolve, invoke]
    simp [Deferred.ofValue, he]
  rw [hcall]
  refine ⟨fun hd => by simp [Fence.wide] at hd, ?_⟩
  refine CallsIn.mono (callsIn_wide.2 hc) ?_
  intro e w' hr
  obtain ⟨v, rfl, hk⟩ := h e w' hr
  exact hk
end

/-- The function value, asked of the arcs of a partition in whatever world that came out of w0, tells p. -/
def FitFn (f : FuncId) (caps : Array Value) (w0 : World) (p : List (Nat × Nat) → Bool) : Prop :=
  ∀ (xs : List Int) (W : World) (u : Value), partIn xs = true → Below w0.heap.size w0 W → RdA W u (arcsOf xs) → Calls Try.prog f (#[u] ++ caps) W fun e W' => e = .returned (.bool (p (arcsOf xs))) ∧ Below W.heap.size W W'

/-- How many of the lists of n things at some places have arcs as p tells. -/
def cntP (p : List (Nat × Nat) → Bool) (c : Nat) (pre : List Nat) : Nat := (pre.map fun q => atL c (q : Nat)).countP fun xs => p (arcsOf xs)

theorem cntP_snoc (p : List (Nat × Nat) → Bool) (c x : Nat) (pre : List Nat) : cntP p c (pre ++ [x]) = cntP p c pre + if p (arcsOf (atL c (x : Nat))) then 1 else 0 := by
  simp [cntP, List.countP_cons]

/-- What the loop keeps: both variables, and all that is older. -/
def HoldsN (p : List (Nat × Nat) → Bool) (c n₀ B Bf : Nat) (fv : Value) (w : World) (pre : List Nat) (W : World) : Prop :=
  Boxed W B 3 (.int .i64 (cntP p c pre : Nat)) ∧ Boxed W Bf 80 fv ∧ Below n₀ w W

theorem boxedAt_ownFrom {β : Type} (B b : Nat) (t : TypeId) (f : β → Value) : OwnFrom B (fun (s : β) W => Boxed W b t (f s)) := fun s A C row h hg hrow => by
  refine (hg.block b (Array.getElem?_eq_some_iff.1 h).1 ?_).trans h
  intro e
  obtain ⟨_, o, ho, hc⟩ := hrow b e.symm
  rw [show A.heap[b]? = _ from h] at ho
  cases ho
  cases hc

theorem holdsN_own (p : List (Nat × Nat) → Bool) (c n₀ B Bf m : Nat) (fv : Value) (w : World) (hn : n₀ ≤ w.heap.size) (hm : n₀ ≤ m) : OwnFrom m (HoldsN p c n₀ B Bf fv w) :=
  OwnFrom.and (boxedAt_ownFrom m B _ _) (OwnFrom.and (boxedAt_ownFrom m Bf _ _) (ownFrom_below hn hm))

theorem holdsN_below {p : List (Nat × Nat) → Bool} {c n₀ B Bf : Nat} {fv : Value} {w : World} {pre : List Nat} {W W' : World} (hn : n₀ ≤ w.heap.size) (h : HoldsN p c n₀ B Bf fv w pre W) (hb : Below W.heap.size W W') : HoldsN p c n₀ B Bf fv w pre W' :=
  ⟨boxed_below h.1 hb, boxed_below h.2.1 hb, h.2.2.trans (hb.mono (Nat.le_trans hn h.2.2.size))⟩

theorem linesThat_no (p : List (Nat × Nat) → Bool) (c n₀ m : Nat) {B Bf x : Nat} {fv : Value} {w W w7 : World} {pre : List Nat} (hn : n₀ ≤ w.heap.size) (h : HoldsN p c n₀ B Bf fv w pre W) (hb : Below W.heap.size W w7) (hp : p (arcsOf (atL c (x : Nat))) = false) :
    KeepsFrom m W w7 ∧ KpL n₀ W w7 ∧ HoldsN p c n₀ B Bf fv w (pre ++ [x]) w7 := by
  refine ⟨keepsFrom_below _ hb, ⟨hb.mono (Nat.le_trans hn h.2.2.size), keepL_below hb⟩, ?_⟩
  obtain ⟨h1, h2⟩ := holdsN_below hn h hb
  refine ⟨?_, h2⟩
  rw [cntP_snoc, hp]
  exact h1

theorem linesThat_yes (p : List (Nat × Nat) → Bool) (c n₀ m : Nat) {B Bf x : Nat} {fv : Value} {w W w7 : World} {pre : List Nat} (hn : n₀ ≤ w.heap.size) (hB : n₀ ≤ B) (hne : Bf ≠ B) (h : HoldsN p c n₀ B Bf fv w pre W) (hb : Below W.heap.size W w7) (hp : p (arcsOf (atL c (x : Nat))) = true) :
    KeepsFrom m W (w7.setCell ⟨B, 0, none⟩ (.int .i64 ((cntP p c pre : Nat) + 1))) ∧ KpL n₀ W (w7.setCell ⟨B, 0, none⟩ (.int .i64 ((cntP p c pre : Nat) + 1))) ∧ HoldsN p c n₀ B Bf fv w (pre ++ [x]) (w7.setCell ⟨B, 0, none⟩ (.int .i64 ((cntP p c pre : Nat) + 1))) := by
  have hbn : Below n₀ W w7 := hb.mono (Nat.le_trans hn h.2.2.size)
  obtain ⟨h1, h2, h3⟩ := holdsN_below hn h hb
  refine ⟨(keepsFrom_below _ hb).trans ((KeepsOthers.setCell _ _ _).from m), ⟨hbn.setCell (p := ⟨B, 0, none⟩) hB _, (keepL_below hb).trans fun g L r => ?_⟩, ?_, h2.other hne _, h3.setCell (p := ⟨B, 0, none⟩) hB _⟩
  · refine rowAt_block r (heap_setCell_other w7 ⟨B, 0, none⟩ g _ ?_)
    intro e
    simp at e
    subst e
    have hb2 : w7.heap[g]? = some (.cells #[.int .i64 (cntP p c pre : Nat)] 3 (0, 0)) := h1
    have hr2 : w7.heap[g]? = some (.cells (rowC L) 55 (0, 0)) := r
    rw [hr2] at hb2
    simp at hb2
  · rw [cntP_snoc, hp]
    simpa using h1.set (.int .i64 ((cntP p c pre : Nat) + 1))

theorem cntP_le (p : List (Nat × Nat) → Bool) (c : Nat) (pre : List Nat) : cntP p c pre ≤ pre.length := by
  have := List.countP_le_length (p := fun xs => p (arcsOf xs)) (l := pre.map fun q => atL c (q : Nat))
  rwa [List.length_map] at this

set_option maxHeartbeats 3200000 in
theorem linesThat_in (n : Nat) (hn : 3 ≤ n) (c : Nat) (f : FuncId) (caps : Array Value) (p : List (Nat × Nat) → Bool) (w : World) (hc1 : 1 ≤ c) (hc7 : c ≤ 7) (hfit : FitFn f caps w p) (hfe : IsFn f) :
    CallsIn Fence.wide n Try.prog 69 #[.func (.func f) #[] caps, .int .i64 c] w (GivesI w (cntP p c (List.range (opn c 0).toNat) : Nat)) := by
  have h1 : 1 ≤ n := by omega
  have HFT := Lib.hid hfit
  have HEF := Lib.hid hfe
  clear hfit hfe
  refine callsIn_of_wp_marks Try.func69 rfl trivial ?_ rfl
  simp only [Try.ntmps69, List.size_toArray, List.length_cons, List.length_nil, Nat.reduceAdd, Nat.reduceSub, Array.replicate_succ, Array.replicate_zero, List.push_toArray, List.append_toArray, List.nil_append, List.cons_append]
  gi_wp2_with (first | (refine ⟨trivial, ?_⟩; gi_at_call 44; refine (linesOf_in _ _ _).mono ?_; rintro e w' ⟨rfl, rfl⟩))
  have bF := Boxed.new w 80 (.func (.func f) #[] caps)
  have bO := Boxed.new (w.alloc (.cells #[.func (.func f) #[] caps] 80)) 3 (.int .i64 0)
  obtain ⟨W2, hW2⟩ : ∃ W2, W2 = (w.alloc (.cells #[.func (.func f) #[] caps] 80)).alloc (.cells #[.int .i64 0] 3) := ⟨_, rfl⟩
  have hsz2 : W2.heap.size = w.heap.size + 1 + 1 := by rw [hW2]; simp
  have hB2 : Below w.heap.size w W2 := by rw [hW2]; exact below_new2 w _ _
  have bF2 : Boxed W2 w.heap.size 80 (.func (.func f) #[] caps) := by rw [hW2]; exact bF.alloc _
  have bO2 : Boxed W2 (w.heap.size + 1) 3 (.int .i64 0) := by rw [hW2]; simpa using bO
  rw [← hW2]
  have bN := Boxed.new W2 3 (.int .i64 c)
  rw [hsz2] at bN
  have hI0 : HoldsN p c w.heap.size (w.heap.size + 1) w.heap.size (.func (.func f) #[] caps) w [] W2 := ⟨bO2, bF2, hB2⟩
  have hI1 := holdsN_below (Nat.le_refl _) hI0 ((Below.refl W2.heap.size W2).alloc (Nat.le_refl _) (.cells #[.int .i64 c] 3))
  clear hW2 bO hI0 bF bF2 bO2
  refine wpIn_rangeFunc_ownH rfl h1 (gf := 78) (lb := #[.pointer (some ⟨w.heap.size + 1 + 1, 0, none⟩)]) rfl trivial (enters_of Try.func78 (by kernel_rfl) rfl)
    (lines_stops (n - 1) (by omega) (w.heap.size + 1 + 1) w.heap.size c hc1 (by omega) _ (by simp; omega) bN.cell) kpL_t (kpL_b (by simp; omega)) (Below.refl _ _) (fun _ => rfl)
    (HoldsN p c w.heap.size (w.heap.size + 1) w.heap.size (.func (.func f) #[] caps) w)
    (fun _ _ _ => False)
    (holdsN_own _ _ _ _ _ _ _ _ (Nat.le_refl _) (by simp; omega))
    (fun _ _ _ _ _ hs _ _ => hs)
    hI1
    (fun x a' W => ∃ g, a' = { tmps := #[.func (.func f) #[] caps, .int .i64 c, .pointer (some ⟨w.heap.size, 0, none⟩), undef, .int .i64 0, .pointer (some ⟨w.heap.size + 1, 0, none⟩), .pointer (some ⟨g, 0, none⟩), .int .i64 c, .func (.func 78) #[] #[.pointer (some ⟨w.heap.size + 1 + 1, 0, none⟩)], .agg (rowC (ln (atL c (x : Int)))), undef, undef, undef, undef, undef, undef, undef, undef], defers := [] } ∧ RowAt W g (ln (atL c (x : Int))) ∧ w.heap.size ≤ g)
    (fun x a' => fun s A C row ⟨g, e, hr, hg⟩ hgr hrow => ⟨g, e, rowAt_ownFrom (β := Unit) 0 _ g _ s A C row hr hgr hrow, hg⟩) ?assign ?body ?done ?stop
  case assign =>
    intro l pre x W K hI hK
    have hz : RowAt (W.alloc (.cells #[.int .i64 0, .int .i64 0, .int .i64 0, .int .i64 0, .int .i64 0, .int .i64 0, .int .i64 0, .int .i64 0] 55)) W.heap.size (List.replicate 8 0) := heap_alloc_new W _
    have HZ := Lib.hid hz
    have HLX := Lib.hid (ln_length (xs := atL c (x : Int)) (by rw [atL_length]; omega))
    have HB := Lib.hid ((Below.refl W.heap.size W).alloc (Nat.le_refl _) (.cells #[.int .i64 0, .int .i64 0, .int .i64 0, .int .i64 0, .int .i64 0, .int .i64 0, .int .i64 0, .int .i64 0] 55))
    have hBW := hI.2.2.size
    have HI := Lib.hid hI
    clear hz hI
    gi_wp2_with (first | (refine wpListIn_storeL rfl _ _ rfl W.heap.size _ rfl rfl (List.replicate 8 0) rfl HLX.out HZ.out ?_; intro w3 hg3 ht3; have HG3 := Lib.hid hg3; have HB3 := Lib.hid (HB.out.trans (touch_below ht3 (Nat.le_refl _))); clear hg3 ht3))
    exact hK _ _ (keepsFrom_below _ HB3.out) ⟨HB3.out.mono hBW, keepL_below HB3.out⟩ (holdsN_below (Nat.le_refl _) HI.out HB3.out) ⟨W.heap.size, rfl, HG3.out, hBW⟩
  case body =>
    rintro l pre x a' W hl hloop hH ⟨g, rfl, hr, hg⟩ hlt
    have HH := Lib.hid hH
    obtain ⟨hcb, hfb, hB⟩ := hH
    have hBW := hB.size
    have hpx : partIn (atL c (x : Int)) = true := atL_partIn_any c x hc1 (by omega)
    have HLX := Lib.hid (ln_length (xs := atL c (x : Int)) (by rw [atL_length]; omega))
    have HLL := Lib.hid fun (w5 : World) => lineList_f (atL c (x : Int)) w5 hpx
    have HAO := Lib.hid fun (u : Value) (w5 : World) (hu : RdV w5 u (atL c (x : Int))) => arcsOf_any u (atL c (x : Int)) w5 hu (by rw [atL_length]; omega)
    have HFX := Lib.hid fun (w6 : World) (u : Value) (h1 : Below w.heap.size w w6) (h2 : RdA w6 u (arcsOf (atL c (x : Int)))) => HFT.out (atL c (x : Int)) w6 u hpx h1 h2
    have HEN := Lib.hid (enters_of Try.func45 (by kernel_rfl) rfl)
    have HEA := Lib.hid (enters_of Try.func50 (by kernel_rfl) rfl)
    have hpl : cntP p c pre ≤ 4140 := by
      have h1 := opn_bd c 0 (by omega) (by omega)
      have h2 := cntP_le p c pre
      omega
    obtain ⟨q, hq⟩ : ∃ q, q = cntP p c pre := ⟨_, rfl⟩
    rw [← hq] at hcb hpl
    have HQ := Lib.hid hq
    have hf0 : Boxed W.drew w.heap.size 80 (.func (.func f) #[] caps) := hfb
    have hr0 : RowAt W.drew g (ln (atL c (x : Int))) := hr
    clear hpx hq
    cases hpp : p (arcsOf (atL c (x : Int))) with
    | true =>
      rw [hpp] at HFX
      have HPP := Lib.hid hpp
      clear hpp
      gi_wp2
      refine wpIn_region_any (by kernel_rfl) ?_
      change wpAnyIn _ _ _ _ _ _ _ _ _ (World.drew _)
      refine wpAnyIn_ready (rs := [0, 1]) (by kernel_rfl) (by simp) (AllReadyIn.cons rfl (fun K hK => ?_) (AllReadyIn.cons rfl (fun K hK => ?_) AllReadyIn.nil))
      · rw [if_pos (by rfl)]
        refine wpIn_loadF _ rfl _ _ hf0 rfl (hK _ _ ?_)
        clear hK K
        simp only [Act.put, List.setIfInBounds_toArray, List.set_cons_zero, List.set_cons_succ, List.getElem_toArray, List.getElem_cons_zero, List.getElem_cons_succ]
        refine wpAnyIn_ready (rs := [1]) (by kernel_rfl) (by simp) (AllReadyIn.cons rfl (fun K hK => ?_) AllReadyIn.nil)
        rw [if_pos (by rfl)]
        refine wpIn_loadL _ rfl g rfl _ HLX.out hr0 (hK _ _ ?_)
        clear hK K
        simp only [Act.put, List.setIfInBounds_toArray, List.set_cons_zero, List.set_cons_succ, List.getElem_toArray, List.getElem_cons_zero, List.getElem_cons_succ]
        refine wpAnyIn_ready (rs := [2]) (by kernel_rfl) (by simp) (AllReadyIn.cons rfl (fun K hK => ?_) AllReadyIn.nil)
        rw [if_pos (by rfl)]
        refine wpIn_call1 45 _ _ rfl _ rfl _ (HLL.out W.drew) (HEN.out _ _) ?_
        rintro e w5 ⟨u, rfl, hu, hb5⟩
        refine ⟨_, rfl, hK _ _ ?_⟩
        have hb5 : Below W.heap.size W w5 := (below_drewN (Below.refl _ W) 1).trans hb5
        have hf5 := boxed_below hfb hb5
        clear hK K
        simp only [Act.put, List.setIfInBounds_toArray, List.set_cons_zero, List.set_cons_succ, List.getElem_toArray, List.getElem_cons_zero, List.getElem_cons_succ]
        refine wpAnyIn_ready (rs := [3]) (by kernel_rfl) (by simp) (AllReadyIn.cons rfl (fun K hK => ?_) AllReadyIn.nil)
        rw [if_pos (by rfl)]
        refine wpIn_call1 50 _ _ rfl _ rfl _ (HAO.out u w5 (own_rdv hu)) (HEA.out _ _) ?_
        rintro e w6 ⟨ua, rfl, hua, hb6⟩
        refine ⟨_, rfl, hK _ _ ?_⟩
        have hb6 : Below W.heap.size W w6 := hb5.trans (hb6.mono hb5.size)
        have hf6 := boxed_below hfb hb6
        clear hK K
        simp only [Act.put, List.setIfInBounds_toArray, List.set_cons_zero, List.set_cons_succ, List.getElem_toArray, List.getElem_cons_zero, List.getElem_cons_succ]
        refine wpAnyIn_ready (rs := [4]) (by kernel_rfl) (by simp) (AllReadyIn.cons rfl (fun K hK => ?_) AllReadyIn.nil)
        rw [if_pos (by rfl)]
        refine wpIn_callF f caps _ _ _ rfl rfl _ rfl _ (HFX.out w6 ua (hB.trans (hb6.mono hBW)) (ownA_rd hua)) (HEF.out _ _) ?_
        rintro e w7 ⟨rfl, hb7⟩
        refine ⟨_, rfl, hK _ _ ?_⟩
        have hb7 : Below W.heap.size W w7 := hb6.trans (hb7.mono hb6.size)
        clear hK K
        simp only [Act.put, List.setIfInBounds_toArray, List.set_cons_zero, List.set_cons_succ, List.getElem_toArray, List.getElem_cons_zero, List.getElem_cons_succ]
        refine wpAnyIn_done (by kernel_rfl) ?_ _
        have hcb7 := boxed_below hcb hb7
        have hc7 := hcb7.cell
        have hz7 := hcb7.frozen
        gi_wp2
        rw [HQ.out]
        exact linesThat_yes p c _ _ (Nat.le_refl _) (by omega) (by omega) HH.out hb7 HPP.out
      · rw [if_pos (by rfl)]
        refine wpIn_loadL _ rfl g rfl _ HLX.out hr0 (hK _ _ ?_)
        clear hK K
        simp only [Act.put, List.setIfInBounds_toArray, List.set_cons_zero, List.set_cons_succ, List.getElem_toArray, List.getElem_cons_zero, List.getElem_cons_succ]
        refine wpAnyIn_ready (rs := [0, 2]) (by kernel_rfl) (by simp) (AllReadyIn.cons rfl (fun K hK => ?_) (AllReadyIn.cons rfl (fun K hK => ?_) AllReadyIn.nil))
        · rw [if_pos (by rfl)]
          refine wpIn_loadF _ rfl _ _ hf0 rfl (hK _ _ ?_)
          clear hK K
          simp only [Act.put, List.setIfInBounds_toArray, List.set_cons_zero, List.set_cons_succ, List.getElem_toArray, List.getElem_cons_zero, List.getElem_cons_succ]
          refine wpAnyIn_ready (rs := [2]) (by kernel_rfl) (by simp) (AllReadyIn.cons rfl (fun K hK => ?_) AllReadyIn.nil)
          rw [if_pos (by rfl)]
          refine wpIn_call1 45 _ _ rfl _ rfl _ (HLL.out W.drew) (HEN.out _ _) ?_
          rintro e w5 ⟨u, rfl, hu, hb5⟩
          refine ⟨_, rfl, hK _ _ ?_⟩
          have hb5 : Below W.heap.size W w5 := (below_drewN (Below.refl _ W) 1).trans hb5
          have hf5 := boxed_below hfb hb5
          clear hK K
          simp only [Act.put, List.setIfInBounds_toArray, List.set_cons_zero, List.set_cons_succ, List.getElem_toArray, List.getElem_cons_zero, List.getElem_cons_succ]
          refine wpAnyIn_ready (rs := [3]) (by kernel_rfl) (by simp) (AllReadyIn.cons rfl (fun K hK => ?_) AllReadyIn.nil)
          rw [if_pos (by rfl)]
          refine wpIn_call1 50 _ _ rfl _ rfl _ (HAO.out u w5 (own_rdv hu)) (HEA.out _ _) ?_
          rintro e w6 ⟨ua, rfl, hua, hb6⟩
          refine ⟨_, rfl, hK _ _ ?_⟩
          have hb6 : Below W.heap.size W w6 := hb5.trans (hb6.mono hb5.size)
          have hf6 := boxed_below hfb hb6
          clear hK K
          simp only [Act.put, List.setIfInBounds_toArray, List.set_cons_zero, List.set_cons_succ, List.getElem_toArray, List.getElem_cons_zero, List.getElem_cons_succ]
          refine wpAnyIn_ready (rs := [4]) (by kernel_rfl) (by simp) (AllReadyIn.cons rfl (fun K hK => ?_) AllReadyIn.nil)
          rw [if_pos (by rfl)]
          refine wpIn_callF f caps _ _ _ rfl rfl _ rfl _ (HFX.out w6 ua (hB.trans (hb6.mono hBW)) (ownA_rd hua)) (HEF.out _ _) ?_
          rintro e w7 ⟨rfl, hb7⟩
          refine ⟨_, rfl, hK _ _ ?_⟩
          have hb7 : Below W.heap.size W w7 := hb6.trans (hb7.mono hb6.size)
          clear hK K
          simp only [Act.put, List.setIfInBounds_toArray, List.set_cons_zero, List.set_cons_succ, List.getElem_toArray, List.getElem_cons_zero, List.getElem_cons_succ]
          refine wpAnyIn_done (by kernel_rfl) ?_ _
          have hcb7 := boxed_below hcb hb7
          have hc7 := hcb7.cell
          have hz7 := hcb7.frozen
          gi_wp2
          rw [HQ.out]
          exact linesThat_yes p c _ _ (Nat.le_refl _) (by omega) (by omega) HH.out hb7 HPP.out
        · rw [if_pos (by rfl)]
          refine wpIn_call1 45 _ _ rfl _ rfl _ (HLL.out W.drew) (HEN.out _ _) ?_
          rintro e w5 ⟨u, rfl, hu, hb5⟩
          refine ⟨_, rfl, hK _ _ ?_⟩
          have hb5 : Below W.heap.size W w5 := (below_drewN (Below.refl _ W) 1).trans hb5
          have hf5 := boxed_below hfb hb5
          clear hK K
          simp only [Act.put, List.setIfInBounds_toArray, List.set_cons_zero, List.set_cons_succ, List.getElem_toArray, List.getElem_cons_zero, List.getElem_cons_succ]
          refine wpAnyIn_ready (rs := [0, 3]) (by kernel_rfl) (by simp) (AllReadyIn.cons rfl (fun K hK => ?_) (AllReadyIn.cons rfl (fun K hK => ?_) AllReadyIn.nil))
          · rw [if_pos (by rfl)]
            refine wpIn_loadF _ rfl _ _ hf5 rfl (hK _ _ ?_)
            clear hK K
            simp only [Act.put, List.setIfInBounds_toArray, List.set_cons_zero, List.set_cons_succ, List.getElem_toArray, List.getElem_cons_zero, List.getElem_cons_succ]
            refine wpAnyIn_ready (rs := [3]) (by kernel_rfl) (by simp) (AllReadyIn.cons rfl (fun K hK => ?_) AllReadyIn.nil)
            rw [if_pos (by rfl)]
            refine wpIn_call1 50 _ _ rfl _ rfl _ (HAO.out u w5 (own_rdv hu)) (HEA.out _ _) ?_
            rintro e w6 ⟨ua, rfl, hua, hb6⟩
            refine ⟨_, rfl, hK _ _ ?_⟩
            have hb6 : Below W.heap.size W w6 := hb5.trans (hb6.mono hb5.size)
            have hf6 := boxed_below hfb hb6
            clear hK K
            simp only [Act.put, List.setIfInBounds_toArray, List.set_cons_zero, List.set_cons_succ, List.getElem_toArray, List.getElem_cons_zero, List.getElem_cons_succ]
            refine wpAnyIn_ready (rs := [4]) (by kernel_rfl) (by simp) (AllReadyIn.cons rfl (fun K hK => ?_) AllReadyIn.nil)
            rw [if_pos (by rfl)]
            refine wpIn_callF f caps _ _ _ rfl rfl _ rfl _ (HFX.out w6 ua (hB.trans (hb6.mono hBW)) (ownA_rd hua)) (HEF.out _ _) ?_
            rintro e w7 ⟨rfl, hb7⟩
            refine ⟨_, rfl, hK _ _ ?_⟩
            have hb7 : Below W.heap.size W w7 := hb6.trans (hb7.mono hb6.size)
            clear hK K
            simp only [Act.put, List.setIfInBounds_toArray, List.set_cons_zero, List.set_cons_succ, List.getElem_toArray, List.getElem_cons_zero, List.getElem_cons_succ]
            refine wpAnyIn_done (by kernel_rfl) ?_ _
            have hcb7 := boxed_below hcb hb7
            have hc7 := hcb7.cell
            have hz7 := hcb7.frozen
            gi_wp2
            rw [HQ.out]
            exact linesThat_yes p c _ _ (Nat.le_refl _) (by omega) (by omega) HH.out hb7 HPP.out
          · rw [if_pos (by rfl)]
            refine wpIn_call1 50 _ _ rfl _ rfl _ (HAO.out u w5 (own_rdv hu)) (HEA.out _ _) ?_
            rintro e w6 ⟨ua, rfl, hua, hb6⟩
            refine ⟨_, rfl, hK _ _ ?_⟩
            have hb6 : Below W.heap.size W w6 := hb5.trans (hb6.mono hb5.size)
            have hf6 := boxed_below hfb hb6
            clear hK K
            simp only [Act.put, List.setIfInBounds_toArray, List.set_cons_zero, List.set_cons_succ, List.getElem_toArray, List.getElem_cons_zero, List.getElem_cons_succ]
            refine wpAnyIn_ready (rs := [0]) (by kernel_rfl) (by simp) (AllReadyIn.cons rfl (fun K hK => ?_) AllReadyIn.nil)
            rw [if_pos (by rfl)]
            refine wpIn_loadF _ rfl _ _ hf6 rfl (hK _ _ ?_)
            clear hK K
            simp only [Act.put, List.setIfInBounds_toArray, List.set_cons_zero, List.set_cons_succ, List.getElem_toArray, List.getElem_cons_zero, List.getElem_cons_succ]
            refine wpAnyIn_ready (rs := [4]) (by kernel_rfl) (by simp) (AllReadyIn.cons rfl (fun K hK => ?_) AllReadyIn.nil)
            rw [if_pos (by rfl)]
            refine wpIn_callF f caps _ _ _ rfl rfl _ rfl _ (HFX.out w6 ua (hB.trans (hb6.mono hBW)) (ownA_rd hua)) (HEF.out _ _) ?_
            rintro e w7 ⟨rfl, hb7⟩
            refine ⟨_, rfl, hK _ _ ?_⟩
            have hb7 : Below W.heap.size W w7 := hb6.trans (hb7.mono hb6.size)
            clear hK K
            simp only [Act.put, List.setIfInBounds_toArray, List.set_cons_zero, List.set_cons_succ, List.getElem_toArray, List.getElem_cons_zero, List.getElem_cons_succ]
            refine wpAnyIn_done (by kernel_rfl) ?_ _
            have hcb7 := boxed_below hcb hb7
            have hc7 := hcb7.cell
            have hz7 := hcb7.frozen
            gi_wp2
            rw [HQ.out]
            exact linesThat_yes p c _ _ (Nat.le_refl _) (by omega) (by omega) HH.out hb7 HPP.out
    | false =>
      rw [hpp] at HFX
      have HPP := Lib.hid hpp
      clear hpp
      gi_wp2
      refine wpIn_region_any (by kernel_rfl) ?_
      change wpAnyIn _ _ _ _ _ _ _ _ _ (World.drew _)
      refine wpAnyIn_ready (rs := [0, 1]) (by kernel_rfl) (by simp) (AllReadyIn.cons rfl (fun K hK => ?_) (AllReadyIn.cons rfl (fun K hK => ?_) AllReadyIn.nil))
      · rw [if_pos (by rfl)]
        refine wpIn_loadF _ rfl _ _ hf0 rfl (hK _ _ ?_)
        clear hK K
        simp only [Act.put, List.setIfInBounds_toArray, List.set_cons_zero, List.set_cons_succ, List.getElem_toArray, List.getElem_cons_zero, List.getElem_cons_succ]
        refine wpAnyIn_ready (rs := [1]) (by kernel_rfl) (by simp) (AllReadyIn.cons rfl (fun K hK => ?_) AllReadyIn.nil)
        rw [if_pos (by rfl)]
        refine wpIn_loadL _ rfl g rfl _ HLX.out hr0 (hK _ _ ?_)
        clear hK K
        simp only [Act.put, List.setIfInBounds_toArray, List.set_cons_zero, List.set_cons_succ, List.getElem_toArray, List.getElem_cons_zero, List.getElem_cons_succ]
        refine wpAnyIn_ready (rs := [2]) (by kernel_rfl) (by simp) (AllReadyIn.cons rfl (fun K hK => ?_) AllReadyIn.nil)
        rw [if_pos (by rfl)]
        refine wpIn_call1 45 _ _ rfl _ rfl _ (HLL.out W.drew) (HEN.out _ _) ?_
        rintro e w5 ⟨u, rfl, hu, hb5⟩
        refine ⟨_, rfl, hK _ _ ?_⟩
        have hb5 : Below W.heap.size W w5 := (below_drewN (Below.refl _ W) 1).trans hb5
        have hf5 := boxed_below hfb hb5
        clear hK K
        simp only [Act.put, List.setIfInBounds_toArray, List.set_cons_zero, List.set_cons_succ, List.getElem_toArray, List.getElem_cons_zero, List.getElem_cons_succ]
        refine wpAnyIn_ready (rs := [3]) (by kernel_rfl) (by simp) (AllReadyIn.cons rfl (fun K hK => ?_) AllReadyIn.nil)
        rw [if_pos (by rfl)]
        refine wpIn_call1 50 _ _ rfl _ rfl _ (HAO.out u w5 (own_rdv hu)) (HEA.out _ _) ?_
        rintro e w6 ⟨ua, rfl, hua, hb6⟩
        refine ⟨_, rfl, hK _ _ ?_⟩
        have hb6 : Below W.heap.size W w6 := hb5.trans (hb6.mono hb5.size)
        have hf6 := boxed_below hfb hb6
        clear hK K
        simp only [Act.put, List.setIfInBounds_toArray, List.set_cons_zero, List.set_cons_succ, List.getElem_toArray, List.getElem_cons_zero, List.getElem_cons_succ]
        refine wpAnyIn_ready (rs := [4]) (by kernel_rfl) (by simp) (AllReadyIn.cons rfl (fun K hK => ?_) AllReadyIn.nil)
        rw [if_pos (by rfl)]
        refine wpIn_callF f caps _ _ _ rfl rfl _ rfl _ (HFX.out w6 ua (hB.trans (hb6.mono hBW)) (ownA_rd hua)) (HEF.out _ _) ?_
        rintro e w7 ⟨rfl, hb7⟩
        refine ⟨_, rfl, hK _ _ ?_⟩
        have hb7 : Below W.heap.size W w7 := hb6.trans (hb7.mono hb6.size)
        clear hK K
        simp only [Act.put, List.setIfInBounds_toArray, List.set_cons_zero, List.set_cons_succ, List.getElem_toArray, List.getElem_cons_zero, List.getElem_cons_succ]
        refine wpAnyIn_done (by kernel_rfl) ?_ _
        have hcb7 := boxed_below hcb hb7
        have hc7 := hcb7.cell
        have hz7 := hcb7.frozen
        gi_wp2
        exact linesThat_no p c _ _ (Nat.le_refl _) HH.out hb7 HPP.out
      · rw [if_pos (by rfl)]
        refine wpIn_loadL _ rfl g rfl _ HLX.out hr0 (hK _ _ ?_)
        clear hK K
        simp only [Act.put, List.setIfInBounds_toArray, List.set_cons_zero, List.set_cons_succ, List.getElem_toArray, List.getElem_cons_zero, List.getElem_cons_succ]
        refine wpAnyIn_ready (rs := [0, 2]) (by kernel_rfl) (by simp) (AllReadyIn.cons rfl (fun K hK => ?_) (AllReadyIn.cons rfl (fun K hK => ?_) AllReadyIn.nil))
        · rw [if_pos (by rfl)]
          refine wpIn_loadF _ rfl _ _ hf0 rfl (hK _ _ ?_)
          clear hK K
          simp only [Act.put, List.setIfInBounds_toArray, List.set_cons_zero, List.set_cons_succ, List.getElem_toArray, List.getElem_cons_zero, List.getElem_cons_succ]
          refine wpAnyIn_ready (rs := [2]) (by kernel_rfl) (by simp) (AllReadyIn.cons rfl (fun K hK => ?_) AllReadyIn.nil)
          rw [if_pos (by rfl)]
          refine wpIn_call1 45 _ _ rfl _ rfl _ (HLL.out W.drew) (HEN.out _ _) ?_
          rintro e w5 ⟨u, rfl, hu, hb5⟩
          refine ⟨_, rfl, hK _ _ ?_⟩
          have hb5 : Below W.heap.size W w5 := (below_drewN (Below.refl _ W) 1).trans hb5
          have hf5 := boxed_below hfb hb5
          clear hK K
          simp only [Act.put, List.setIfInBounds_toArray, List.set_cons_zero, List.set_cons_succ, List.getElem_toArray, List.getElem_cons_zero, List.getElem_cons_succ]
          refine wpAnyIn_ready (rs := [3]) (by kernel_rfl) (by simp) (AllReadyIn.cons rfl (fun K hK => ?_) AllReadyIn.nil)
          rw [if_pos (by rfl)]
          refine wpIn_call1 50 _ _ rfl _ rfl _ (HAO.out u w5 (own_rdv hu)) (HEA.out _ _) ?_
          rintro e w6 ⟨ua, rfl, hua, hb6⟩
          refine ⟨_, rfl, hK _ _ ?_⟩
          have hb6 : Below W.heap.size W w6 := hb5.trans (hb6.mono hb5.size)
          have hf6 := boxed_below hfb hb6
          clear hK K
          simp only [Act.put, List.setIfInBounds_toArray, List.set_cons_zero, List.set_cons_succ, List.getElem_toArray, List.getElem_cons_zero, List.getElem_cons_succ]
          refine wpAnyIn_ready (rs := [4]) (by kernel_rfl) (by simp) (AllReadyIn.cons rfl (fun K hK => ?_) AllReadyIn.nil)
          rw [if_pos (by rfl)]
          refine wpIn_callF f caps _ _ _ rfl rfl _ rfl _ (HFX.out w6 ua (hB.trans (hb6.mono hBW)) (ownA_rd hua)) (HEF.out _ _) ?_
          rintro e w7 ⟨rfl, hb7⟩
          refine ⟨_, rfl, hK _ _ ?_⟩
          have hb7 : Below W.heap.size W w7 := hb6.trans (hb7.mono hb6.size)
          clear hK K
          simp only [Act.put, List.setIfInBounds_toArray, List.set_cons_zero, List.set_cons_succ, List.getElem_toArray, List.getElem_cons_zero, List.getElem_cons_succ]
          refine wpAnyIn_done (by kernel_rfl) ?_ _
          have hcb7 := boxed_below hcb hb7
          have hc7 := hcb7.cell
          have hz7 := hcb7.frozen
          gi_wp2
          exact linesThat_no p c _ _ (Nat.le_refl _) HH.out hb7 HPP.out
        · rw [if_pos (by rfl)]
          refine wpIn_call1 45 _ _ rfl _ rfl _ (HLL.out W.drew) (HEN.out _ _) ?_
          rintro e w5 ⟨u, rfl, hu, hb5⟩
          refine ⟨_, rfl, hK _ _ ?_⟩
          have hb5 : Below W.heap.size W w5 := (below_drewN (Below.refl _ W) 1).trans hb5
          have hf5 := boxed_below hfb hb5
          clear hK K
          simp only [Act.put, List.setIfInBounds_toArray, List.set_cons_zero, List.set_cons_succ, List.getElem_toArray, List.getElem_cons_zero, List.getElem_cons_succ]
          refine wpAnyIn_ready (rs := [0, 3]) (by kernel_rfl) (by simp) (AllReadyIn.cons rfl (fun K hK => ?_) (AllReadyIn.cons rfl (fun K hK => ?_) AllReadyIn.nil))
          · rw [if_pos (by rfl)]
            refine wpIn_loadF _ rfl _ _ hf5 rfl (hK _ _ ?_)
            clear hK K
            simp only [Act.put, List.setIfInBounds_toArray, List.set_cons_zero, List.set_cons_succ, List.getElem_toArray, List.getElem_cons_zero, List.getElem_cons_succ]
            refine wpAnyIn_ready (rs := [3]) (by kernel_rfl) (by simp) (AllReadyIn.cons rfl (fun K hK => ?_) AllReadyIn.nil)
            rw [if_pos (by rfl)]
            refine wpIn_call1 50 _ _ rfl _ rfl _ (HAO.out u w5 (own_rdv hu)) (HEA.out _ _) ?_
            rintro e w6 ⟨ua, rfl, hua, hb6⟩
            refine ⟨_, rfl, hK _ _ ?_⟩
            have hb6 : Below W.heap.size W w6 := hb5.trans (hb6.mono hb5.size)
            have hf6 := boxed_below hfb hb6
            clear hK K
            simp only [Act.put, List.setIfInBounds_toArray, List.set_cons_zero, List.set_cons_succ, List.getElem_toArray, List.getElem_cons_zero, List.getElem_cons_succ]
            refine wpAnyIn_ready (rs := [4]) (by kernel_rfl) (by simp) (AllReadyIn.cons rfl (fun K hK => ?_) AllReadyIn.nil)
            rw [if_pos (by rfl)]
            refine wpIn_callF f caps _ _ _ rfl rfl _ rfl _ (HFX.out w6 ua (hB.trans (hb6.mono hBW)) (ownA_rd hua)) (HEF.out _ _) ?_
            rintro e w7 ⟨rfl, hb7⟩
            refine ⟨_, rfl, hK _ _ ?_⟩
            have hb7 : Below W.heap.size W w7 := hb6.trans (hb7.mono hb6.size)
            clear hK K
            simp only [Act.put, List.setIfInBounds_toArray, List.set_cons_zero, List.set_cons_succ, List.getElem_toArray, List.getElem_cons_zero, List.getElem_cons_succ]
            refine wpAnyIn_done (by kernel_rfl) ?_ _
            have hcb7 := boxed_below hcb hb7
            have hc7 := hcb7.cell
            have hz7 := hcb7.frozen
            gi_wp2
            exact linesThat_no p c _ _ (Nat.le_refl _) HH.out hb7 HPP.out
          · rw [if_pos (by rfl)]
            refine wpIn_call1 50 _ _ rfl _ rfl _ (HAO.out u w5 (own_rdv hu)) (HEA.out _ _) ?_
            rintro e w6 ⟨ua, rfl, hua, hb6⟩
            refine ⟨_, rfl, hK _ _ ?_⟩
            have hb6 : Below W.heap.size W w6 := hb5.trans (hb6.mono hb5.size)
            have hf6 := boxed_below hfb hb6
            clear hK K
            simp only [Act.put, List.setIfInBounds_toArray, List.set_cons_zero, List.set_cons_succ, List.getElem_toArray, List.getElem_cons_zero, List.getElem_cons_succ]
            refine wpAnyIn_ready (rs := [0]) (by kernel_rfl) (by simp) (AllReadyIn.cons rfl (fun K hK => ?_) AllReadyIn.nil)
            rw [if_pos (by rfl)]
            refine wpIn_loadF _ rfl _ _ hf6 rfl (hK _ _ ?_)
            clear hK K
            simp only [Act.put, List.setIfInBounds_toArray, List.set_cons_zero, List.set_cons_succ, List.getElem_toArray, List.getElem_cons_zero, List.getElem_cons_succ]
            refine wpAnyIn_ready (rs := [4]) (by kernel_rfl) (by simp) (AllReadyIn.cons rfl (fun K hK => ?_) AllReadyIn.nil)
            rw [if_pos (by rfl)]
            refine wpIn_callF f caps _ _ _ rfl rfl _ rfl _ (HFX.out w6 ua (hB.trans (hb6.mono hBW)) (ownA_rd hua)) (HEF.out _ _) ?_
            rintro e w7 ⟨rfl, hb7⟩
            refine ⟨_, rfl, hK _ _ ?_⟩
            have hb7 : Below W.heap.size W w7 := hb6.trans (hb7.mono hb6.size)
            clear hK K
            simp only [Act.put, List.setIfInBounds_toArray, List.set_cons_zero, List.set_cons_succ, List.getElem_toArray, List.getElem_cons_zero, List.getElem_cons_succ]
            refine wpAnyIn_done (by kernel_rfl) ?_ _
            have hcb7 := boxed_below hcb hb7
            have hc7 := hcb7.cell
            have hz7 := hcb7.frozen
            gi_wp2
            exact linesThat_no p c _ _ (Nat.le_refl _) HH.out hb7 HPP.out
  case done =>
    rintro D ys W hD rfl ⟨hcb, hfb, hB⟩ hK
    have hc := hcb.cell
    gi_wp2
    refine ⟨by simp, .inl ⟨_, _, rfl, run_takeDeferred hK, ?_⟩⟩
    exact ⟨_, results_tmp rfl _ _ _, rfl, hB.trans (belowK_b (w := w) (Nat.le_refl _) W D _ _ (by simp at hD; omega) hK rfl rfl)⟩
  case stop =>
    rintro D c pre W _ _ h _
    exact h.elim

end Go.Proofs.Ytipmafplpoadjaa
