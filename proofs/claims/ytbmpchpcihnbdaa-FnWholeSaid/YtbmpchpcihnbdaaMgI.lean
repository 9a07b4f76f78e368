/-
  What the laws of this claim lean on: what functions of the program and of the model answer, one after another, and plain mathematics. No condition.
-/
import Derived.Test.YtbmpchpcihnbdaaMgB
import Derived.Test.YtbmpchpcihnbdaaMgC
import Derived.Test.YtbmpchpcihnbdaaMgD
import Derived.Test.YtbmpchpcihnbdaaMgE
import Derived.Test.YtbmpchpcihnbdaaMgF
import Derived.Test.YtbmpchpcihnbdaaMgH

/-
  The contract of impl.nearest: a range over a function. (Made by wip/gen/mkbest.py.)
-/
namespace Go.Proofs.Ytbmpchpcihnbdaa
set_option linter.unusedSimpArgs false
set_option linter.unusedVariables false
set_option linter.unnecessarySimpa false
open Go.RowKit Go.Shelf
set_option maxRecDepth 100000

attribute [local go_sem] Oper.semAt_some

section
variable {n l : Nat} {o : Oper} {a : Act} {w : World} {K : Act → World → Prop} {Q : Exit → Act → World → Prop}

theorem wpIn_mv {F : Fence} (x : Operand) (ho : o.op = .move x ∨ o.op = .assign x) (u : Value) (hx : a.eval x = u) (h : K (a.put o.dst u) w) : o.wpIn F n Try.prog a w K Q := by
  subst hx
  unfold Oper.wpIn
  rcases ho with ho | ho
  · refine ⟨by simp [Oper.about, ho], ?_⟩
    rw [Oper.semAt_plain F _ _ (by rw [ho]; intro c hc; cases hc)]
    simp only [execOp, ho, Sem.run_pure, Sem.run_bind, Result.andThen_ok]
    exact h
  · refine ⟨by simp [Oper.about, ho], ?_⟩
    rw [Oper.semAt_plain F _ _ (by rw [ho]; intro c hc; cases hc)]
    simp only [execOp, ho, Sem.run_pure, Sem.run_bind, Result.andThen_ok]
    exact h

theorem wpIn_loadP {F : Fence} (x : Operand) (ho : o.op = .load 46 x) (B : Nat) (v : Value) (hv : Boxed w B 46 v) (hx : a.eval x = .pointer (some ⟨B, 0, none⟩)) (h : K (a.put o.dst v) w) : o.wpIn F n Try.prog a w K Q := by
  have hr : (Instr.loadAt 46 (.pointer (some ⟨B, 0, none⟩))).run Try.prog w = .ok v w := by
    have hc := hv.cell
    simp [go_sem, hc]
  unfold Oper.wpIn
  refine ⟨by simp [Oper.about, ho], ?_⟩
  rw [Oper.semAt_plain F _ _ (by rw [ho]; intro c hc; cases hc)]
  simp only [execOp, ho, hx, Sem.run_bind, hr, Sem.run_pure, Result.andThen_ok]
  exact h

theorem wpIn_loadR {F : Fence} (x : Operand) (ho : o.op = .load 30 x) (B : Nat) (v : Value) (hv : Boxed w B 30 v) (hx : a.eval x = .pointer (some ⟨B, 0, none⟩)) (h : K (a.put o.dst v) w) : o.wpIn F n Try.prog a w K Q := by
  have hr : (Instr.loadAt 30 (.pointer (some ⟨B, 0, none⟩))).run Try.prog w = .ok v w := by
    have hc := hv.cell
    simp [go_sem, hc]
  unfold Oper.wpIn
  refine ⟨by simp [Oper.about, ho], ?_⟩
  rw [Oper.semAt_plain F _ _ (by rw [ho]; intro c hc; cases hc)]
  simp only [execOp, ho, hx, Sem.run_bind, hr, Sem.run_pure, Result.andThen_ok]
  exact h

theorem wpIn_call2 (f : FuncId) (x y : Operand) (t t' : TypeId) (ho : o.op = .call { callee := .value (.func f), args := #[x, y], argTypes := #[t, t'] }) (u : Value) (hx : a.eval x = u) (v : Value) (hy : a.eval y = v)
    (R : Ending → World → Prop) (hc : Calls Try.prog f #[u, v] w R) (he : (callFunc f #[u, v]).run Try.prog w = .ok (.enter f #[u, v]) w) (h : ∀ e w', R e w' → ∃ v, e = .returned v ∧ K (a.put o.dst v) w') : o.wpIn (Fence.wide.inRound l) n Try.prog a w K Q := by
  unfold Oper.wpIn
  refine ⟨fun _ _ => trivial, ?_⟩
  rw [Oper.semAt_plain _ _ _ (by rw [ho]; intro c hc'; cases hc')]
  have hcall : (execOp a.eval o).run Try.prog w = .ok (.enter f #[u, v]) w := by
    simp only [execOp, ho, List.map_toArray, List.map_cons, List.map_nil, hx, hy, resolve, invoke, show a.eval (.func f) = .func (.func f) #[] #[] from rfl]
    simp [Deferred.ofValue, he]
  rw [hcall]
  refine ⟨fun hd => by simp [Fence.wide] at hd, ?_⟩
  refine CallsIn.mono (callsIn_wide.2 hc) ?_
  intro e w' hr
  obtain ⟨v, rfl, hk⟩ := h e w' hr
  exact hk
end

/-- What the loop keeps: the pairs, the best partition so far, how many changes it takes, and all that is older. -/
def HoldsB (c : Nat) (L : List (Nat × Nat)) (F : Int) (vp : Value) (w : World) (pre : List Nat) (W : World) : Prop :=
  Boxed W w.heap.size 46 vp ∧ (∃ vb, Boxed W (w.heap.size + 1) 30 vb ∧ Own W (w.heap.size + 3) vb (bstTo c L F pre).1) ∧ Boxed W (w.heap.size + 2) 3 (.int .i64 (bstTo c L F pre).2) ∧ Below w.heap.size w W

theorem boxedOwn (m b : Nat) (t : TypeId) (v : Value) : OwnFrom m (fun (_ : List Nat) W => Boxed W b t v) := fun s A C row h hg hrow => by
  refine (hg.block b (Array.getElem?_eq_some_iff.1 h).1 ?_).trans h
  intro e
  obtain ⟨_, o, ho, hc⟩ := hrow b e.symm
  rw [show A.heap[b]? = _ from h] at ho
  cases ho
  cases hc
theorem ownOwn {m B : Nat} {v : Value} {xs : List Int} {A C : World} {row : Option Nat} (h : Own A B v xs) (hg : A.grownBy C row) (hrow : ∀ r, row = some r → m ≤ r ∧ ∃ o : Obj, A.heap[r]? = some o ∧ o.isCells = false) : Own C B v xs := by
  refine own_grown h hg ?_
  cases hv : v.ownBlock with
  | none => exact .inl rfl
  | some k =>
    refine .inr fun e => ?_
    obtain ⟨_, o, ho, hc⟩ := hrow k e.symm
    rcases h.2 with ⟨rfl, _⟩ | ⟨g, cap, cur, rfl, _, hgc, _⟩
    · cases hv
    · simp [Value.ownBlock] at hv
      subst hv
      rw [hgc] at ho
      cases ho
      cases hc

theorem holdsB_own (c : Nat) (L : List (Nat × Nat)) (F : Int) (m : Nat) (vp : Value) (w : World) (hm : w.heap.size ≤ m) : OwnFrom m (HoldsB c L F vp w) := fun pre A C row ⟨h1, ⟨vb, h2, h3⟩, h4, h5⟩ hg hrow =>
  ⟨boxedOwn m _ _ _ pre A C row h1 hg hrow, ⟨vb, boxedOwn m _ _ _ pre A C row h2 hg hrow, ownOwn h3 hg hrow⟩, boxedOwn m _ _ _ pre A C row h4 hg hrow, (ownFrom_below (Nat.le_refl _) hm : OwnFrom m (fun (_ : List Nat) W => Below w.heap.size w W)) pre A C row h5 hg hrow⟩

theorem holdsB_below {c : Nat} {L : List (Nat × Nat)} {F : Int} {vp : Value} {w : World} {pre : List Nat} {W W' : World} (h : HoldsB c L F vp w pre W) (hb : Below W.heap.size W W') : HoldsB c L F vp w pre W' := by
  obtain ⟨h1, ⟨vb, h2, h3⟩, h4, h5⟩ := h
  exact ⟨boxed_below h1 hb, ⟨vb, boxed_below h2 hb, own_below h3 hb⟩, boxed_below h4 hb, below_step h5 hb⟩

theorem ownM_keep1 {A C : World} {B : Nat} {v : Value} {xs : List Int} (h : Own A B v xs) (hk : ∀ j, v.ownBlock = some j → C.heap[j]? = A.heap[j]?) : Own C B v xs := by
  refine ⟨h.1, ?_⟩
  rcases h.2 with h2 | ⟨g, cap, cur, rfl, hb, hg, rest⟩
  · exact .inl h2
  · exact .inr ⟨g, cap, cur, rfl, hb, by rw [hk g rfl]; exact hg, rest⟩

theorem near_no {c : Nat} {L : List (Nat × Nat)} {F : Int} {m x : Nat} {vp : Value} {w W W4 w6 : World} {pre : List Nat} (h : HoldsB c L F vp w pre W) (h4 : Below W.heap.size W W4) (h6 : Below W4.heap.size W4 w6)
    (hlt : (bstTo c L F pre).2 ≤ ((unlikeN (ofP (atL c (x : Nat))) L : Nat) : Int)) (hbx : True) :
    KeepsFrom m W w6 ∧ KpL w.heap.size W w6 ∧ HoldsB c L F vp w (pre ++ [x]) w6 := by
  have hb := below_step h4 h6
  refine ⟨keepsFrom_below _ hb, ⟨hb.mono h.2.2.2.size, keepL_below hb⟩, ?_⟩
  have := holdsB_below h hb
  unfold HoldsB at this ⊢
  rw [bstTo_snoc, bstStep, if_neg (by omega)]
  exact this

theorem near_yes {c : Nat} {L : List (Nat × Nat)} {F : Int} {m x : Nat} {vp u : Value} {w W W4 w6 : World} {pre : List Nat} (h : HoldsB c L F vp w pre W) (h4 : Below W.heap.size W W4) (h6 : Below W4.heap.size W4 w6) (ho : Own W4 W.heap.size u (atL c (x : Nat)))
    (hlt : ((unlikeN (ofP (atL c (x : Nat))) L : Nat) : Int) < (bstTo c L F pre).2) (hbx : True) :
    KeepsFrom m W ((w6.setCell ⟨w.heap.size + 1, 0, none⟩ u).setCell ⟨w.heap.size + 2, 0, none⟩ (.int .i64 ((unlikeN (ofP (atL c (x : Nat))) L : Nat) : Int))) ∧
    KpL w.heap.size W ((w6.setCell ⟨w.heap.size + 1, 0, none⟩ u).setCell ⟨w.heap.size + 2, 0, none⟩ (.int .i64 ((unlikeN (ofP (atL c (x : Nat))) L : Nat) : Int))) ∧
    HoldsB c L F vp w (pre ++ [x]) ((w6.setCell ⟨w.heap.size + 1, 0, none⟩ u).setCell ⟨w.heap.size + 2, 0, none⟩ (.int .i64 ((unlikeN (ofP (atL c (x : Nat))) L : Nat) : Int))) := by
  have hb := below_step h4 h6
  obtain ⟨b1, ⟨vb, b2, _⟩, b3, hB⟩ := holdsB_below h hb
  have hlt2 := b3.lt
  have hW3 : w.heap.size + 3 ≤ W.heap.size := by have := h.2.2.1.lt; omega
  have hu : Own w6 (w.heap.size + 3) u (atL c (x : Nat)) := own_mono (own_below ho h6) hW3
  have hlow : ∀ k, u.ownBlock = some k → w.heap.size + 3 ≤ k := fun k hk => (World.ownsRow.lt hu k hk).1
  have keepL1 : ∀ (A : World) (k : Nat) (t : TypeId) (v z : Value), Boxed A k t v → t ≠ 89 → KeepL A (A.setCell ⟨k, 0, none⟩ z) := fun A k t v z hbx hne g Y r => by
    refine rowAt_block r (heap_setCell_other A ⟨k, 0, none⟩ g z ?_)
    intro e
    simp at e
    subst e
    have e1 : A.heap[g]? = some (.cells #[v] t (0, 0)) := hbx
    have e2 : A.heap[g]? = some (.cells (rowC Y) 89 (0, 0)) := r
    rw [e2] at e1
    simp at e1
    exact hne e1.2.symm
  have own1 : ∀ (A : World) (k : Nat) (z : Value), Own A (w.heap.size + 3) u (atL c (x : Nat)) → k < w.heap.size + 3 → Own (A.setCell ⟨k, 0, none⟩ z) (w.heap.size + 3) u (atL c (x : Nat)) := fun A k z ha hk => by
    refine ownM_keep1 ha fun j hj => heap_setCell_other A ⟨k, 0, none⟩ j z ?_
    intro e
    have := (World.ownsRow.lt ha j hj).1
    simp at e
    omega
  refine ⟨((keepsFrom_below _ hb).trans ((KeepsOthers.setCell _ _ _).from m)).trans ((KeepsOthers.setCell _ _ _).from m), ⟨?_, ?_⟩, ?_⟩
  · exact ((hb.mono h.2.2.2.size).setCell (p := ⟨w.heap.size + 1, 0, none⟩) (by simp) _).setCell (p := ⟨w.heap.size + 2, 0, none⟩) (by simp) _
  · exact ((keepL_below hb).trans (keepL1 _ _ _ _ _ b2 (by decide))).trans (keepL1 _ _ _ _ _ (b3.other (by omega) _) (by decide))
  · unfold HoldsB
    rw [bstTo_snoc, bstStep, if_pos hlt]
    refine ⟨(b1.other (by omega) _).other (by omega) _, ⟨u, (b2.set u).other (by omega) _, own1 _ _ _ (own1 _ _ _ hu (by omega)) (by omega)⟩, ?_, ?_⟩
    · exact (b3.other (by omega) _).set _
    · exact (hB.setCell (p := ⟨w.heap.size + 1, 0, none⟩) (by simp) _).setCell (p := ⟨w.heap.size + 2, 0, none⟩) (by simp) _

theorem freshSome {w : World} {B : Nat} {u : Value} {xs : List Int} (h : Own w B u xs) (h1 : 1 ≤ xs.length) : ∃ g cap, u = .slice (some ⟨g, 0, none⟩) xs.length cap := by
  rcases own_view h with ⟨_, rfl⟩ | ⟨g, cap, rfl, _⟩
  · simp at h1
  · exact ⟨g, cap, rfl⟩

set_option maxHeartbeats 3200000 in
theorem nearest_in (n : Nat) (hn : 3 ≤ n) (c : Nat) (v : Value) (L : List (Nat × Nat)) (w : World) (hv : RdP w v L) (hs : L.Sublist (allP c)) (hc1 : 1 ≤ c) (hc6 : c ≤ 6) :
    CallsIn Fence.wide n Try.prog 77 #[.int .i64 c, v] w fun e w' => ∃ vb, e = .returned (.tuple #[vb, .int .i64 (costP (bestP c L) L)]) ∧ Own w' w.heap.size vb (bestP c L) ∧ Below w.heap.size w w' := by
  have h1 : 1 ≤ n := by omega
  have HV := Lib.hid hv
  obtain ⟨ao, ca, hve, _, hcm, _⟩ := hv
  obtain ⟨l, hl⟩ : ∃ l, l = L.length := ⟨_, rfl⟩
  rw [← hl] at hve
  subst hve
  have hl15 : L.length ≤ 15 := by have := hs.length_le; have := allP_le c hc6; omega
  have HL15 := Lib.hid hl15
  have HS := Lib.hid hs
  have HPC := Lib.hid fun (w1 : World) => pairCount_any c w1 (by omega)
  have hF : c * (c - 1) / 2 ≤ 15 := by
    have : c = 1 ∨ c = 2 ∨ c = 3 ∨ c = 4 ∨ c = 5 ∨ c = 6 := by omega
    rcases this with rfl | rfl | rfl | rfl | rfl | rfl <;> decide
  have HEND := Lib.hid (bst_all hc1 hc6 hs)
  obtain ⟨F0, hF0⟩ : ∃ F0, F0 = c * (c - 1) / 2 := ⟨_, rfl⟩
  rw [← hF0] at HPC hF HEND
  clear hs hF0 hl hl15
  refine callsIn_of_wp_marks Try.func77 rfl trivial ?_ rfl
  simp only [Try.ntmps77, List.size_toArray, List.length_cons, List.length_nil, Nat.reduceAdd, Nat.reduceSub, Array.replicate_succ, Array.replicate_zero, List.push_toArray, List.append_toArray, List.nil_append, List.cons_append]
  gi_wp2_with (first | (refine ⟨trivial, ?_⟩; gi_at_call 103; refine (callsIn_wide.2 (HPC.out _)).mono ?_; rintro e w' ⟨rfl, rfl⟩) | (refine ⟨trivial, ?_⟩; gi_at_call 104; refine (linesOf_in _ _ _).mono ?_; rintro e w' ⟨rfl, rfl⟩))
  obtain ⟨W3, hW3⟩ : ∃ W3, W3 = (((w.alloc (.cells #[.slice ao l ca] 46)).alloc (.cells #[.slice none 0 0] 30)).alloc (.cells #[.int .i64 ((F0 : Int) + 1)] 3)) := ⟨_, rfl⟩
  have hsz3 : W3.heap.size = w.heap.size + 1 + 1 + 1 := by rw [hW3]; simp
  have hB3 : Below w.heap.size w W3 := by rw [hW3]; exact (((Below.refl _ _).alloc (Nat.le_refl _) _).alloc (by simp) _).alloc (by simp; omega) _
  have bP3 : Boxed W3 w.heap.size 46 (.slice ao l ca) := by rw [hW3]; exact ((Boxed.new w 46 (.slice ao l ca)).alloc _).alloc _
  have bB3 : Boxed W3 (w.heap.size + 1) 30 (.slice none 0 0) := by
    rw [hW3]
    have := (Boxed.new (w.alloc (.cells #[.slice ao l ca] 46)) 30 (.slice none 0 0)).alloc (.cells #[.int .i64 ((F0 : Int) + 1)] 3)
    simpa using this
  have bF3 : Boxed W3 (w.heap.size + 2) 3 (.int .i64 ((F0 : Int) + 1)) := by
    rw [hW3]
    have := Boxed.new ((w.alloc (.cells #[.slice ao l ca] 46)).alloc (.cells #[.slice none 0 0] 30)) 3 (.int .i64 ((F0 : Int) + 1))
    simpa using this
  rw [← hW3]
  have bN := Boxed.new W3 3 (.int .i64 c)
  rw [hsz3] at bN
  have hI0 : HoldsB c L ((F0 : Int) + 1) (.slice ao l ca) w [] W3 := ⟨bP3, ⟨_, bB3, own_nil _ _⟩, bF3, hB3⟩
  have hI1 := holdsB_below hI0 ((Below.refl W3.heap.size W3).alloc (Nat.le_refl _) (.cells #[.int .i64 c] 3))
  clear hW3 hI0 bP3 bB3 bF3
  refine wpIn_rangeFunc_ownH rfl h1 (gf := 114) (lb := #[.pointer (some ⟨w.heap.size + 1 + 1 + 1, 0, none⟩)]) rfl trivial (enters_of Try.func114 (by kernel_rfl) rfl)
    (lines_stops (n - 1) (by omega) (w.heap.size + 1 + 1 + 1) w.heap.size c hc1 (by omega) _ (by simp; omega) bN.cell) kpL_t (kpL_b (by simp; omega)) (Below.refl _ _) (fun _ => rfl)
    (HoldsB c L ((F0 : Int) + 1) (.slice ao l ca) w)
    (fun _ _ _ => False)
    (holdsB_own _ _ _ _ _ _ (by simp; omega))
    (fun _ _ _ _ _ hs _ _ => hs)
    hI1
    (fun x a' W => ∃ g, a' = { tmps := #[.int .i64 c, .slice ao l ca, undef, .pointer (some ⟨w.heap.size, 0, none⟩), .slice none 0 0, .int .i64 0, .pointer (some ⟨w.heap.size + 1, 0, none⟩), .pointer (some ⟨w.heap.size + 1 + 1, 0, none⟩), .pointer (some ⟨g, 0, none⟩), undef, undef, .int .i64 c, .int .i64 F0, .int .i64 ((F0 : Int) + 1), .int .i64 c, .func (.func 114) #[] #[.pointer (some ⟨w.heap.size + 1 + 1 + 1, 0, none⟩)], .agg (rowC (ln (atL c (x : Int)))), undef, undef, undef, undef, undef, undef, undef, undef, undef, undef, undef, undef, undef], defers := [] } ∧ RowAt W g (ln (atL c (x : Int))) ∧ w.heap.size ≤ g)
    (fun x a' => fun s A C row ⟨g, e, hr, hg⟩ hgr hrow => ⟨g, e, rowAt_ownFrom (β := Unit) 0 _ g _ s A C row hr hgr hrow, hg⟩) ?assign ?body ?done ?stop
  case assign =>
    intro l pre x W K hI hK
    have hz : RowAt (W.alloc (.cells #[.int .i64 0, .int .i64 0, .int .i64 0, .int .i64 0, .int .i64 0, .int .i64 0, .int .i64 0, .int .i64 0] 89)) W.heap.size (List.replicate 8 0) := heap_alloc_new W _
    have HZ := Lib.hid hz
    have HLX := Lib.hid (ln_length (xs := atL c (x : Int)) (by rw [atL_length]; omega))
    have HB := Lib.hid ((Below.refl W.heap.size W).alloc (Nat.le_refl _) (.cells #[.int .i64 0, .int .i64 0, .int .i64 0, .int .i64 0, .int .i64 0, .int .i64 0, .int .i64 0, .int .i64 0] 89))
    have hBW := hI.2.2.2.size
    have HI := Lib.hid hI
    clear hz hI
    gi_wp2_with (first | (refine wpListIn_storeL rfl _ _ rfl W.heap.size _ rfl rfl (List.replicate 8 0) rfl HLX.out HZ.out ?_; intro w3 hg3 ht3; have HG3 := Lib.hid hg3; have HB3 := Lib.hid (HB.out.trans (touch_below ht3 (Nat.le_refl _))); clear hg3 ht3))
    exact hK _ _ (keepsFrom_below _ HB3.out) ⟨HB3.out.mono hBW, keepL_below HB3.out⟩ (holdsB_below HI.out HB3.out) ⟨W.heap.size, rfl, HG3.out, hBW⟩
  case body =>
    rintro l' pre x a' W hl' hloop hH ⟨g, rfl, hr, hg⟩ hlt
    have HH := Lib.hid hH
    obtain ⟨hpb, ⟨vb, hbb, _⟩, hfb, hB⟩ := hH
    have hBW := hB.size
    have hpx : partIn (atL c (x : Int)) = true := atL_partIn_any c x hc1 (by omega)
    have HLX := Lib.hid (ln_length (xs := atL c (x : Int)) (by rw [atL_length]; omega))
    have HLL := Lib.hid (lineList_f (atL c (x : Int)) W hpx)
    have hxl : (atL c (x : Int)).length = c := atL_length _ _
    have hol := ofP_len (atL c (x : Int)) (by omega)
    have HR := Lib.hid hr
    have HRV := Lib.hid (rdP_below HV.out hB)
    have hPO := fun (u : Value) (w5 : World) (hu : RdV w5 u (atL c (x : Int))) => pairsOf_any u (atL c (x : Int)) w5 hu (by omega)
    have hlen1 : 1 ≤ (atL c (x : Int)).length := by omega
    obtain ⟨X, hX⟩ : ∃ X, X = ofP (atL c (x : Int)) := ⟨_, rfl⟩
    rw [← hX] at hPO hol
    have hUN := fun (u : Value) (w5 : World) (hu : RdP w5 u X) (hb : Below W.heap.size W w5) => unlike_any u (.slice ao l ca) X L w5 hu (rdP_below HRV.out hb) (by omega) (by have := HL15.out; omega)
    obtain ⟨z, hz⟩ : ∃ z, z = unlikeN X L := ⟨_, rfl⟩
    rw [← hz] at hUN
    obtain ⟨f, hf⟩ : ∃ f, f = (bstTo c L ((F0 : Int) + 1) pre).2 := ⟨_, rfl⟩
    rw [← hf] at hfb
    have HZ : Hid (((unlikeN (ofP (atL c (x : Nat))) L : Nat) : Int) = (z : Int)) := Lib.hid (by rw [← hX, hz])
    have HF := Lib.hid hf
    have HPO2 := Lib.hid hPO
    have HUN2 := Lib.hid hUN
    have HEP := Lib.hid (enters_of Try.func67 (by kernel_rfl) rfl)
    have HEU := Lib.hid (enters_of Try.func105 (by kernel_rfl) rfl)
    have HL1 := Lib.hid hlen1
    have HXL := Lib.hid hxl
    have HPB := Lib.hid hpb
    have HBB := Lib.hid hbb
    have HFB := Lib.hid hfb
    clear hpx hX hz hf hPO hUN hol hr hlen1 hxl hpb hbb hfb
    gi_wp2_with (first | (refine wpListIn_loadL rfl _ rfl g rfl _ HLX.out HR.out ?_) | (refine ⟨trivial, fun hd => by simp [Fence.wide] at hd, ?_⟩; refine CallsIn.mono (callsIn_wide.2 HLL.out) ?_; rintro e W4 ⟨u, rfl, hou, hb4⟩))
    have hpb := boxed_below HPB.out hb4
    have hbb := boxed_below HBB.out hb4
    have hfb := boxed_below HFB.out hb4
    obtain ⟨gu, cu, rfl⟩ := freshSome hou HL1.out
    rw [HXL.out] at hou ⊢
    have hp0 : Boxed W4.drew w.heap.size 46 (.slice ao l ca) := hpb
    have HPO : Hid (Calls Try.prog 67 #[.slice (some ⟨gu, 0, none⟩) c cu] W4.drew (FreshP W4.drew X)) := Lib.hid (HPO2.out _ _ (rdv_drewN (own_rdv hou) 1))
    have HUN := Lib.hid fun (u5 : Value) (w5 : World) (hu : RdP w5 u5 X) (hb : Below W4.heap.size W4 w5) => HUN2.out u5 w5 hu (below_step hb4 hb)
    have HW4 := Lib.hid hb4
    have HOU := Lib.hid hou
    have HBX : Hid True := trivial
    clear hb4 hou
    by_cases hzf : (z : Int) < f
    · have HLT : Hid (((unlikeN (ofP (atL c (x : Nat))) L : Nat) : Int) < (bstTo c L ((F0 : Int) + 1) pre).2) := Lib.hid (by rw [HZ.out, ← HF.out]; exact hzf)
      refine wpIn_region_any (by kernel_rfl) ?_
      change wpAnyIn _ _ _ _ _ _ _ _ _ (World.drew _)
      refine wpAnyIn_ready (rs := [0, 2]) (by kernel_rfl) (by simp) (AllReadyIn.cons rfl (fun K hK => ?_) (AllReadyIn.cons rfl (fun K hK => ?_) AllReadyIn.nil))
      · rw [if_pos (by rfl)]
        refine wpIn_mv _ (.inl rfl) (.slice (some ⟨gu, 0, none⟩) c cu) rfl (hK _ _ ?_)
        clear hK K
        simp only [Act.put, List.setIfInBounds_toArray, List.set_cons_zero, List.set_cons_succ, List.getElem_toArray, List.getElem_cons_zero, List.getElem_cons_succ]
        refine wpAnyIn_ready (rs := [1, 2]) (by kernel_rfl) (by simp) (AllReadyIn.cons rfl (fun K hK => ?_) (AllReadyIn.cons rfl (fun K hK => ?_) AllReadyIn.nil))
        · rw [if_pos (by rfl)]
          refine wpIn_call1 67 _ _ rfl _ rfl _ HPO.out (HEP.out _ _) ?_
          rintro e w5 ⟨u5, rfl, ho5, hb5⟩
          refine ⟨_, rfl, hK _ _ ?_⟩
          have hb5 : Below W4.heap.size W4 w5 := (below_drewN (Below.refl _ W4) 1).trans hb5
          have hp5 := boxed_below hpb hb5
          clear hK K
          simp only [Act.put, List.setIfInBounds_toArray, List.set_cons_zero, List.set_cons_succ, List.getElem_toArray, List.getElem_cons_zero, List.getElem_cons_succ]
          refine wpAnyIn_ready (rs := [2]) (by kernel_rfl) (by simp) (AllReadyIn.cons rfl (fun K hK => ?_) AllReadyIn.nil)
          rw [if_pos (by rfl)]
          refine wpIn_loadP _ rfl _ _ hp5 rfl (hK _ _ ?_)
          clear hK K
          simp only [Act.put, List.setIfInBounds_toArray, List.set_cons_zero, List.set_cons_succ, List.getElem_toArray, List.getElem_cons_zero, List.getElem_cons_succ]
          refine wpAnyIn_ready (rs := [3]) (by kernel_rfl) (by simp) (AllReadyIn.cons rfl (fun K hK => ?_) AllReadyIn.nil)
          rw [if_pos (by rfl)]
          refine wpIn_call2 105 _ _ _ _ rfl _ rfl _ rfl _ (HUN.out _ w5 (ownP_rd ho5) hb5) (HEU.out _ _) ?_
          rintro e w6 ⟨rfl, hb6⟩
          refine ⟨_, rfl, hK _ _ ?_⟩
          have hb6 : Below W4.heap.size W4 w6 := hb5.trans (hb6.mono hb5.size)
          clear hK K
          simp only [Act.put, List.setIfInBounds_toArray, List.set_cons_zero, List.set_cons_succ, List.getElem_toArray, List.getElem_cons_zero, List.getElem_cons_succ]
          refine wpAnyIn_ready (rs := [4]) (by kernel_rfl) (by simp) (AllReadyIn.cons rfl (fun K hK => ?_) AllReadyIn.nil)
          rw [if_pos (by rfl)]
          refine wpIn_mv _ (.inr rfl) (.int .i64 (z : Int)) rfl (hK _ _ ?_)
          clear hK K
          simp only [Act.put, List.setIfInBounds_toArray, List.set_cons_zero, List.set_cons_succ, List.getElem_toArray, List.getElem_cons_zero, List.getElem_cons_succ]
          refine wpAnyIn_done (by kernel_rfl) ?_ _
          have hfb6 := boxed_below hfb hb6
          have hbb6 := boxed_below hbb hb6
          have hc7 : w6.cell? ⟨w.heap.size + 1 + 1, 0, none⟩ = _ := hfb6.cell
          have hz7 : w6.frozen? ⟨w.heap.size + 1 + 1, 0, none⟩ = _ := hfb6.frozen
          have hc8 := hbb6.cell
          have hz8 := hbb6.frozen
          have hc9 : (w6.setCell ⟨w.heap.size + 1, 0, none⟩ (.slice (some ⟨gu, 0, none⟩) c cu)).cell? ⟨w.heap.size + 1 + 1, 0, none⟩ = _ := (hfb6.other (by omega) _).cell
          have hz9 : (w6.setCell ⟨w.heap.size + 1, 0, none⟩ (.slice (some ⟨gu, 0, none⟩) c cu)).frozen? ⟨w.heap.size + 1 + 1, 0, none⟩ = _ := (hfb6.other (by omega) _).frozen
          clear hpb hbb hfb hfb6 hbb6
          gi_wp2
          rw [← HZ.out]
          exact near_yes HH.out HW4.out hb6 HOU.out HLT.out HBX.out
        · rw [if_pos (by rfl)]
          refine wpIn_loadP _ rfl _ _ hp0 rfl (hK _ _ ?_)
          clear hK K
          simp only [Act.put, List.setIfInBounds_toArray, List.set_cons_zero, List.set_cons_succ, List.getElem_toArray, List.getElem_cons_zero, List.getElem_cons_succ]
          refine wpAnyIn_ready (rs := [1]) (by kernel_rfl) (by simp) (AllReadyIn.cons rfl (fun K hK => ?_) AllReadyIn.nil)
          rw [if_pos (by rfl)]
          refine wpIn_call1 67 _ _ rfl _ rfl _ HPO.out (HEP.out _ _) ?_
          rintro e w5 ⟨u5, rfl, ho5, hb5⟩
          refine ⟨_, rfl, hK _ _ ?_⟩
          have hb5 : Below W4.heap.size W4 w5 := (below_drewN (Below.refl _ W4) 1).trans hb5
          have hp5 := boxed_below hpb hb5
          clear hK K
          simp only [Act.put, List.setIfInBounds_toArray, List.set_cons_zero, List.set_cons_succ, List.getElem_toArray, List.getElem_cons_zero, List.getElem_cons_succ]
          refine wpAnyIn_ready (rs := [3]) (by kernel_rfl) (by simp) (AllReadyIn.cons rfl (fun K hK => ?_) AllReadyIn.nil)
          rw [if_pos (by rfl)]
          refine wpIn_call2 105 _ _ _ _ rfl _ rfl _ rfl _ (HUN.out _ w5 (ownP_rd ho5) hb5) (HEU.out _ _) ?_
          rintro e w6 ⟨rfl, hb6⟩
          refine ⟨_, rfl, hK _ _ ?_⟩
          have hb6 : Below W4.heap.size W4 w6 := hb5.trans (hb6.mono hb5.size)
          clear hK K
          simp only [Act.put, List.setIfInBounds_toArray, List.set_cons_zero, List.set_cons_succ, List.getElem_toArray, List.getElem_cons_zero, List.getElem_cons_succ]
          refine wpAnyIn_ready (rs := [4]) (by kernel_rfl) (by simp) (AllReadyIn.cons rfl (fun K hK => ?_) AllReadyIn.nil)
          rw [if_pos (by rfl)]
          refine wpIn_mv _ (.inr rfl) (.int .i64 (z : Int)) rfl (hK _ _ ?_)
          clear hK K
          simp only [Act.put, List.setIfInBounds_toArray, List.set_cons_zero, List.set_cons_succ, List.getElem_toArray, List.getElem_cons_zero, List.getElem_cons_succ]
          refine wpAnyIn_done (by kernel_rfl) ?_ _
          have hfb6 := boxed_below hfb hb6
          have hbb6 := boxed_below hbb hb6
          have hc7 : w6.cell? ⟨w.heap.size + 1 + 1, 0, none⟩ = _ := hfb6.cell
          have hz7 : w6.frozen? ⟨w.heap.size + 1 + 1, 0, none⟩ = _ := hfb6.frozen
          have hc8 := hbb6.cell
          have hz8 := hbb6.frozen
          have hc9 : (w6.setCell ⟨w.heap.size + 1, 0, none⟩ (.slice (some ⟨gu, 0, none⟩) c cu)).cell? ⟨w.heap.size + 1 + 1, 0, none⟩ = _ := (hfb6.other (by omega) _).cell
          have hz9 : (w6.setCell ⟨w.heap.size + 1, 0, none⟩ (.slice (some ⟨gu, 0, none⟩) c cu)).frozen? ⟨w.heap.size + 1 + 1, 0, none⟩ = _ := (hfb6.other (by omega) _).frozen
          clear hpb hbb hfb hfb6 hbb6
          gi_wp2
          rw [← HZ.out]
          exact near_yes HH.out HW4.out hb6 HOU.out HLT.out HBX.out
      · rw [if_pos (by rfl)]
        refine wpIn_loadP _ rfl _ _ hp0 rfl (hK _ _ ?_)
        clear hK K
        simp only [Act.put, List.setIfInBounds_toArray, List.set_cons_zero, List.set_cons_succ, List.getElem_toArray, List.getElem_cons_zero, List.getElem_cons_succ]
        refine wpAnyIn_ready (rs := [0]) (by kernel_rfl) (by simp) (AllReadyIn.cons rfl (fun K hK => ?_) AllReadyIn.nil)
        rw [if_pos (by rfl)]
        refine wpIn_mv _ (.inl rfl) (.slice (some ⟨gu, 0, none⟩) c cu) rfl (hK _ _ ?_)
        clear hK K
        simp only [Act.put, List.setIfInBounds_toArray, List.set_cons_zero, List.set_cons_succ, List.getElem_toArray, List.getElem_cons_zero, List.getElem_cons_succ]
        refine wpAnyIn_ready (rs := [1]) (by kernel_rfl) (by simp) (AllReadyIn.cons rfl (fun K hK => ?_) AllReadyIn.nil)
        rw [if_pos (by rfl)]
        refine wpIn_call1 67 _ _ rfl _ rfl _ HPO.out (HEP.out _ _) ?_
        rintro e w5 ⟨u5, rfl, ho5, hb5⟩
        refine ⟨_, rfl, hK _ _ ?_⟩
        have hb5 : Below W4.heap.size W4 w5 := (below_drewN (Below.refl _ W4) 1).trans hb5
        have hp5 := boxed_below hpb hb5
        clear hK K
        simp only [Act.put, List.setIfInBounds_toArray, List.set_cons_zero, List.set_cons_succ, List.getElem_toArray, List.getElem_cons_zero, List.getElem_cons_succ]
        refine wpAnyIn_ready (rs := [3]) (by kernel_rfl) (by simp) (AllReadyIn.cons rfl (fun K hK => ?_) AllReadyIn.nil)
        rw [if_pos (by rfl)]
        refine wpIn_call2 105 _ _ _ _ rfl _ rfl _ rfl _ (HUN.out _ w5 (ownP_rd ho5) hb5) (HEU.out _ _) ?_
        rintro e w6 ⟨rfl, hb6⟩
        refine ⟨_, rfl, hK _ _ ?_⟩
        have hb6 : Below W4.heap.size W4 w6 := hb5.trans (hb6.mono hb5.size)
        clear hK K
        simp only [Act.put, List.setIfInBounds_toArray, List.set_cons_zero, List.set_cons_succ, List.getElem_toArray, List.getElem_cons_zero, List.getElem_cons_succ]
        refine wpAnyIn_ready (rs := [4]) (by kernel_rfl) (by simp) (AllReadyIn.cons rfl (fun K hK => ?_) AllReadyIn.nil)
        rw [if_pos (by rfl)]
        refine wpIn_mv _ (.inr rfl) (.int .i64 (z : Int)) rfl (hK _ _ ?_)
        clear hK K
        simp only [Act.put, List.setIfInBounds_toArray, List.set_cons_zero, List.set_cons_succ, List.getElem_toArray, List.getElem_cons_zero, List.getElem_cons_succ]
        refine wpAnyIn_done (by kernel_rfl) ?_ _
        have hfb6 := boxed_below hfb hb6
        have hbb6 := boxed_below hbb hb6
        have hc7 : w6.cell? ⟨w.heap.size + 1 + 1, 0, none⟩ = _ := hfb6.cell
        have hz7 : w6.frozen? ⟨w.heap.size + 1 + 1, 0, none⟩ = _ := hfb6.frozen
        have hc8 := hbb6.cell
        have hz8 := hbb6.frozen
        have hc9 : (w6.setCell ⟨w.heap.size + 1, 0, none⟩ (.slice (some ⟨gu, 0, none⟩) c cu)).cell? ⟨w.heap.size + 1 + 1, 0, none⟩ = _ := (hfb6.other (by omega) _).cell
        have hz9 : (w6.setCell ⟨w.heap.size + 1, 0, none⟩ (.slice (some ⟨gu, 0, none⟩) c cu)).frozen? ⟨w.heap.size + 1 + 1, 0, none⟩ = _ := (hfb6.other (by omega) _).frozen
        clear hpb hbb hfb hfb6 hbb6
        gi_wp2
        rw [← HZ.out]
        exact near_yes HH.out HW4.out hb6 HOU.out HLT.out HBX.out
    · have HLT : Hid ((bstTo c L ((F0 : Int) + 1) pre).2 ≤ ((unlikeN (ofP (atL c (x : Nat))) L : Nat) : Int)) := Lib.hid (by rw [HZ.out, ← HF.out]; omega)
      refine wpIn_region_any (by kernel_rfl) ?_
      change wpAnyIn _ _ _ _ _ _ _ _ _ (World.drew _)
      refine wpAnyIn_ready (rs := [0, 2]) (by kernel_rfl) (by simp) (AllReadyIn.cons rfl (fun K hK => ?_) (AllReadyIn.cons rfl (fun K hK => ?_) AllReadyIn.nil))
      · rw [if_pos (by rfl)]
        refine wpIn_mv _ (.inl rfl) (.slice (some ⟨gu, 0, none⟩) c cu) rfl (hK _ _ ?_)
        clear hK K
        simp only [Act.put, List.setIfInBounds_toArray, List.set_cons_zero, List.set_cons_succ, List.getElem_toArray, List.getElem_cons_zero, List.getElem_cons_succ]
        refine wpAnyIn_ready (rs := [1, 2]) (by kernel_rfl) (by simp) (AllReadyIn.cons rfl (fun K hK => ?_) (AllReadyIn.cons rfl (fun K hK => ?_) AllReadyIn.nil))
        · rw [if_pos (by rfl)]
          refine wpIn_call1 67 _ _ rfl _ rfl _ HPO.out (HEP.out _ _) ?_
          rintro e w5 ⟨u5, rfl, ho5, hb5⟩
          refine ⟨_, rfl, hK _ _ ?_⟩
          have hb5 : Below W4.heap.size W4 w5 := (below_drewN (Below.refl _ W4) 1).trans hb5
          have hp5 := boxed_below hpb hb5
          clear hK K
          simp only [Act.put, List.setIfInBounds_toArray, List.set_cons_zero, List.set_cons_succ, List.getElem_toArray, List.getElem_cons_zero, List.getElem_cons_succ]
          refine wpAnyIn_ready (rs := [2]) (by kernel_rfl) (by simp) (AllReadyIn.cons rfl (fun K hK => ?_) AllReadyIn.nil)
          rw [if_pos (by rfl)]
          refine wpIn_loadP _ rfl _ _ hp5 rfl (hK _ _ ?_)
          clear hK K
          simp only [Act.put, List.setIfInBounds_toArray, List.set_cons_zero, List.set_cons_succ, List.getElem_toArray, List.getElem_cons_zero, List.getElem_cons_succ]
          refine wpAnyIn_ready (rs := [3]) (by kernel_rfl) (by simp) (AllReadyIn.cons rfl (fun K hK => ?_) AllReadyIn.nil)
          rw [if_pos (by rfl)]
          refine wpIn_call2 105 _ _ _ _ rfl _ rfl _ rfl _ (HUN.out _ w5 (ownP_rd ho5) hb5) (HEU.out _ _) ?_
          rintro e w6 ⟨rfl, hb6⟩
          refine ⟨_, rfl, hK _ _ ?_⟩
          have hb6 : Below W4.heap.size W4 w6 := hb5.trans (hb6.mono hb5.size)
          clear hK K
          simp only [Act.put, List.setIfInBounds_toArray, List.set_cons_zero, List.set_cons_succ, List.getElem_toArray, List.getElem_cons_zero, List.getElem_cons_succ]
          refine wpAnyIn_ready (rs := [4]) (by kernel_rfl) (by simp) (AllReadyIn.cons rfl (fun K hK => ?_) AllReadyIn.nil)
          rw [if_pos (by rfl)]
          refine wpIn_mv _ (.inr rfl) (.int .i64 (z : Int)) rfl (hK _ _ ?_)
          clear hK K
          simp only [Act.put, List.setIfInBounds_toArray, List.set_cons_zero, List.set_cons_succ, List.getElem_toArray, List.getElem_cons_zero, List.getElem_cons_succ]
          refine wpAnyIn_done (by kernel_rfl) ?_ _
          have hfb6 := boxed_below hfb hb6
          have hbb6 := boxed_below hbb hb6
          have hc7 : w6.cell? ⟨w.heap.size + 1 + 1, 0, none⟩ = _ := hfb6.cell
          clear hpb hbb hfb hfb6 hbb6
          gi_wp2
          exact near_no HH.out HW4.out hb6 HLT.out HBX.out
        · rw [if_pos (by rfl)]
          refine wpIn_loadP _ rfl _ _ hp0 rfl (hK _ _ ?_)
          clear hK K
          simp only [Act.put, List.setIfInBounds_toArray, List.set_cons_zero, List.set_cons_succ, List.getElem_toArray, List.getElem_cons_zero, List.getElem_cons_succ]
          refine wpAnyIn_ready (rs := [1]) (by kernel_rfl) (by simp) (AllReadyIn.cons rfl (fun K hK => ?_) AllReadyIn.nil)
          rw [if_pos (by rfl)]
          refine wpIn_call1 67 _ _ rfl _ rfl _ HPO.out (HEP.out _ _) ?_
          rintro e w5 ⟨u5, rfl, ho5, hb5⟩
          refine ⟨_, rfl, hK _ _ ?_⟩
          have hb5 : Below W4.heap.size W4 w5 := (below_drewN (Below.refl _ W4) 1).trans hb5
          have hp5 := boxed_below hpb hb5
          clear hK K
          simp only [Act.put, List.setIfInBounds_toArray, List.set_cons_zero, List.set_cons_succ, List.getElem_toArray, List.getElem_cons_zero, List.getElem_cons_succ]
          refine wpAnyIn_ready (rs := [3]) (by kernel_rfl) (by simp) (AllReadyIn.cons rfl (fun K hK => ?_) AllReadyIn.nil)
          rw [if_pos (by rfl)]
          refine wpIn_call2 105 _ _ _ _ rfl _ rfl _ rfl _ (HUN.out _ w5 (ownP_rd ho5) hb5) (HEU.out _ _) ?_
          rintro e w6 ⟨rfl, hb6⟩
          refine ⟨_, rfl, hK _ _ ?_⟩
          have hb6 : Below W4.heap.size W4 w6 := hb5.trans (hb6.mono hb5.size)
          clear hK K
          simp only [Act.put, List.setIfInBounds_toArray, List.set_cons_zero, List.set_cons_succ, List.getElem_toArray, List.getElem_cons_zero, List.getElem_cons_succ]
          refine wpAnyIn_ready (rs := [4]) (by kernel_rfl) (by simp) (AllReadyIn.cons rfl (fun K hK => ?_) AllReadyIn.nil)
          rw [if_pos (by rfl)]
          refine wpIn_mv _ (.inr rfl) (.int .i64 (z : Int)) rfl (hK _ _ ?_)
          clear hK K
          simp only [Act.put, List.setIfInBounds_toArray, List.set_cons_zero, List.set_cons_succ, List.getElem_toArray, List.getElem_cons_zero, List.getElem_cons_succ]
          refine wpAnyIn_done (by kernel_rfl) ?_ _
          have hfb6 := boxed_below hfb hb6
          have hbb6 := boxed_below hbb hb6
          have hc7 : w6.cell? ⟨w.heap.size + 1 + 1, 0, none⟩ = _ := hfb6.cell
          clear hpb hbb hfb hfb6 hbb6
          gi_wp2
          exact near_no HH.out HW4.out hb6 HLT.out HBX.out
      · rw [if_pos (by rfl)]
        refine wpIn_loadP _ rfl _ _ hp0 rfl (hK _ _ ?_)
        clear hK K
        simp only [Act.put, List.setIfInBounds_toArray, List.set_cons_zero, List.set_cons_succ, List.getElem_toArray, List.getElem_cons_zero, List.getElem_cons_succ]
        refine wpAnyIn_ready (rs := [0]) (by kernel_rfl) (by simp) (AllReadyIn.cons rfl (fun K hK => ?_) AllReadyIn.nil)
        rw [if_pos (by rfl)]
        refine wpIn_mv _ (.inl rfl) (.slice (some ⟨gu, 0, none⟩) c cu) rfl (hK _ _ ?_)
        clear hK K
        simp only [Act.put, List.setIfInBounds_toArray, List.set_cons_zero, List.set_cons_succ, List.getElem_toArray, List.getElem_cons_zero, List.getElem_cons_succ]
        refine wpAnyIn_ready (rs := [1]) (by kernel_rfl) (by simp) (AllReadyIn.cons rfl (fun K hK => ?_) AllReadyIn.nil)
        rw [if_pos (by rfl)]
        refine wpIn_call1 67 _ _ rfl _ rfl _ HPO.out (HEP.out _ _) ?_
        rintro e w5 ⟨u5, rfl, ho5, hb5⟩
        refine ⟨_, rfl, hK _ _ ?_⟩
        have hb5 : Below W4.heap.size W4 w5 := (below_drewN (Below.refl _ W4) 1).trans hb5
        have hp5 := boxed_below hpb hb5
        clear hK K
        simp only [Act.put, List.setIfInBounds_toArray, List.set_cons_zero, List.set_cons_succ, List.getElem_toArray, List.getElem_cons_zero, List.getElem_cons_succ]
        refine wpAnyIn_ready (rs := [3]) (by kernel_rfl) (by simp) (AllReadyIn.cons rfl (fun K hK => ?_) AllReadyIn.nil)
        rw [if_pos (by rfl)]
        refine wpIn_call2 105 _ _ _ _ rfl _ rfl _ rfl _ (HUN.out _ w5 (ownP_rd ho5) hb5) (HEU.out _ _) ?_
        rintro e w6 ⟨rfl, hb6⟩
        refine ⟨_, rfl, hK _ _ ?_⟩
        have hb6 : Below W4.heap.size W4 w6 := hb5.trans (hb6.mono hb5.size)
        clear hK K
        simp only [Act.put, List.setIfInBounds_toArray, List.set_cons_zero, List.set_cons_succ, List.getElem_toArray, List.getElem_cons_zero, List.getElem_cons_succ]
        refine wpAnyIn_ready (rs := [4]) (by kernel_rfl) (by simp) (AllReadyIn.cons rfl (fun K hK => ?_) AllReadyIn.nil)
        rw [if_pos (by rfl)]
        refine wpIn_mv _ (.inr rfl) (.int .i64 (z : Int)) rfl (hK _ _ ?_)
        clear hK K
        simp only [Act.put, List.setIfInBounds_toArray, List.set_cons_zero, List.set_cons_succ, List.getElem_toArray, List.getElem_cons_zero, List.getElem_cons_succ]
        refine wpAnyIn_done (by kernel_rfl) ?_ _
        have hfb6 := boxed_below hfb hb6
        have hbb6 := boxed_below hbb hb6
        have hc7 : w6.cell? ⟨w.heap.size + 1 + 1, 0, none⟩ = _ := hfb6.cell
        clear hpb hbb hfb hfb6 hbb6
        gi_wp2
        exact near_no HH.out HW4.out hb6 HLT.out HBX.out
  case done =>
    rintro D ys W hD rfl ⟨hpb, ⟨vb, hbb, hown⟩, hfb, hB⟩ hK
    have he := HEND.out
    rw [he] at hown hfb
    dsimp only at hown hfb
    obtain ⟨f, hf⟩ : ∃ f, f = costP (bestP c L) L := ⟨_, rfl⟩
    rw [← hf] at hfb
    have HFE := Lib.hid hf
    have hb0 : Boxed W.drew (w.heap.size + 1) 30 vb := hbb
    have hf0 : Boxed W.drew (w.heap.size + 2) 3 (.int .i64 f) := hfb
    have hK2 : W.drew.heap[D]? = some (.deferred (some [])) := hK
    have HOWN : Hid (Own W.drew (w.heap.size + 3) vb (bestP c L)) := Lib.hid (own_below hown (Below.refl _ _).drew)
    have HB : Hid (Below w.heap.size w W.drew) := Lib.hid hB.drew
    have HFB0 := Lib.hid hf0
    clear he hown hfb hf hbb hpb hB
    gi_wp2
    refine wpIn_region_any (by kernel_rfl) ?_
    change wpAnyIn _ _ _ _ _ _ _ _ _ (World.drew _)
    refine wpAnyIn_ready (rs := [0, 1]) (by kernel_rfl) (by simp) (AllReadyIn.cons rfl (fun K hK => ?_) (AllReadyIn.cons rfl (fun K hK => ?_) AllReadyIn.nil))
    · rw [if_pos (by rfl)]
      refine wpIn_loadR _ rfl _ _ hb0 rfl (hK _ _ ?_)
      clear hK K
      simp only [Act.put, List.setIfInBounds_toArray, List.set_cons_zero, List.set_cons_succ, List.getElem_toArray, List.getElem_cons_zero, List.getElem_cons_succ]
      refine wpAnyIn_ready (rs := [1, 2]) (by kernel_rfl) (by simp) (AllReadyIn.cons rfl (fun K hK => ?_) (AllReadyIn.cons rfl (fun K hK => ?_) AllReadyIn.nil))
      · rw [if_pos (by rfl)]
        refine wpIn_loadI _ rfl _ _ hf0 rfl (hK _ _ ?_)
        clear hK K
        simp only [Act.put, List.setIfInBounds_toArray, List.set_cons_zero, List.set_cons_succ, List.getElem_toArray, List.getElem_cons_zero, List.getElem_cons_succ]
        refine wpAnyIn_ready (rs := [2]) (by kernel_rfl) (by simp) (AllReadyIn.cons rfl (fun K hK => ?_) AllReadyIn.nil)
        rw [if_pos (by rfl)]
        refine wpIn_mv _ (.inr rfl) vb rfl (hK _ _ ?_)
        clear hK K
        simp only [Act.put, List.setIfInBounds_toArray, List.set_cons_zero, List.set_cons_succ, List.getElem_toArray, List.getElem_cons_zero, List.getElem_cons_succ]
        refine wpAnyIn_ready (rs := [3]) (by kernel_rfl) (by simp) (AllReadyIn.cons rfl (fun K hK => ?_) AllReadyIn.nil)
        rw [if_pos (by rfl)]
        refine wpIn_mv _ (.inr rfl) (.int .i64 f) rfl (hK _ _ ?_)
        clear hK K
        simp only [Act.put, List.setIfInBounds_toArray, List.set_cons_zero, List.set_cons_succ, List.getElem_toArray, List.getElem_cons_zero, List.getElem_cons_succ]
        refine wpAnyIn_done (by kernel_rfl) ?_ _
        gi_wp2
        rw [HFE.out] at HFB0
        refine ⟨by simp, .inl ⟨_, _, rfl, run_takeDeferred hK2, ?_⟩⟩
        refine ⟨_, results_tmp2 rfl _ _ _, vb, ?_, ?_, ?_⟩
        · rw [← HFE.out]; rfl
        · exact own_mono (ownOwn (m := 0) HOWN.out (grownBy_putObj' _ D _) (fun r e => by cases e; exact ⟨Nat.zero_le _, _, hK2, rfl⟩)) (by omega)
        · exact HB.out.trans (belowK_b (w := w) (Nat.le_refl _) W.drew D _ _ (by simp at hD; omega) hK2 rfl rfl)
      · rw [if_pos (by rfl)]
        refine wpIn_mv _ (.inr rfl) vb rfl (hK _ _ ?_)
        clear hK K
        simp only [Act.put, List.setIfInBounds_toArray, List.set_cons_zero, List.set_cons_succ, List.getElem_toArray, List.getElem_cons_zero, List.getElem_cons_succ]
        refine wpAnyIn_ready (rs := [1]) (by kernel_rfl) (by simp) (AllReadyIn.cons rfl (fun K hK => ?_) AllReadyIn.nil)
        rw [if_pos (by rfl)]
        refine wpIn_loadI _ rfl _ _ hf0 rfl (hK _ _ ?_)
        clear hK K
        simp only [Act.put, List.setIfInBounds_toArray, List.set_cons_zero, List.set_cons_succ, List.getElem_toArray, List.getElem_cons_zero, List.getElem_cons_succ]
        refine wpAnyIn_ready (rs := [3]) (by kernel_rfl) (by simp) (AllReadyIn.cons rfl (fun K hK => ?_) AllReadyIn.nil)
        rw [if_pos (by rfl)]
        refine wpIn_mv _ (.inr rfl) (.int .i64 f) rfl (hK _ _ ?_)
        clear hK K
        simp only [Act.put, List.setIfInBounds_toArray, List.set_cons_zero, List.set_cons_succ, List.getElem_toArray, List.getElem_cons_zero, List.getElem_cons_succ]
        refine wpAnyIn_done (by kernel_rfl) ?_ _
        gi_wp2
        rw [HFE.out] at HFB0
        refine ⟨by simp, .inl ⟨_, _, rfl, run_takeDeferred hK2, ?_⟩⟩
        refine ⟨_, results_tmp2 rfl _ _ _, vb, ?_, ?_, ?_⟩
        · rw [← HFE.out]; rfl
        · exact own_mono (ownOwn (m := 0) HOWN.out (grownBy_putObj' _ D _) (fun r e => by cases e; exact ⟨Nat.zero_le _, _, hK2, rfl⟩)) (by omega)
        · exact HB.out.trans (belowK_b (w := w) (Nat.le_refl _) W.drew D _ _ (by simp at hD; omega) hK2 rfl rfl)
    · rw [if_pos (by rfl)]
      refine wpIn_loadI _ rfl _ _ hf0 rfl (hK _ _ ?_)
      clear hK K
      simp only [Act.put, List.setIfInBounds_toArray, List.set_cons_zero, List.set_cons_succ, List.getElem_toArray, List.getElem_cons_zero, List.getElem_cons_succ]
      refine wpAnyIn_ready (rs := [0]) (by kernel_rfl) (by simp) (AllReadyIn.cons rfl (fun K hK => ?_) AllReadyIn.nil)
      rw [if_pos (by rfl)]
      refine wpIn_loadR _ rfl _ _ hb0 rfl (hK _ _ ?_)
      clear hK K
      simp only [Act.put, List.setIfInBounds_toArray, List.set_cons_zero, List.set_cons_succ, List.getElem_toArray, List.getElem_cons_zero, List.getElem_cons_succ]
      refine wpAnyIn_ready (rs := [2]) (by kernel_rfl) (by simp) (AllReadyIn.cons rfl (fun K hK => ?_) AllReadyIn.nil)
      rw [if_pos (by rfl)]
      refine wpIn_mv _ (.inr rfl) vb rfl (hK _ _ ?_)
      clear hK K
      simp only [Act.put, List.setIfInBounds_toArray, List.set_cons_zero, List.set_cons_succ, List.getElem_toArray, List.getElem_cons_zero, List.getElem_cons_succ]
      refine wpAnyIn_ready (rs := [3]) (by kernel_rfl) (by simp) (AllReadyIn.cons rfl (fun K hK => ?_) AllReadyIn.nil)
      rw [if_pos (by rfl)]
      refine wpIn_mv _ (.inr rfl) (.int .i64 f) rfl (hK _ _ ?_)
      clear hK K
      simp only [Act.put, List.setIfInBounds_toArray, List.set_cons_zero, List.set_cons_succ, List.getElem_toArray, List.getElem_cons_zero, List.getElem_cons_succ]
      refine wpAnyIn_done (by kernel_rfl) ?_ _
      gi_wp2
      rw [HFE.out] at HFB0
      refine ⟨by simp, .inl ⟨_, _, rfl, run_takeDeferred hK2, ?_⟩⟩
      refine ⟨_, results_tmp2 rfl _ _ _, vb, ?_, ?_, ?_⟩
      · rw [← HFE.out]; rfl
      · exact own_mono (ownOwn (m := 0) HOWN.out (grownBy_putObj' _ D _) (fun r e => by cases e; exact ⟨Nat.zero_le _, _, hK2, rfl⟩)) (by omega)
      · exact HB.out.trans (belowK_b (w := w) (Nat.le_refl _) W.drew D _ _ (by simp at hD; omega) hK2 rfl rfl)
  case stop =>
    rintro D c pre W _ _ h _
    exact h.elim

theorem nearest_any (c : Nat) (v : Value) (L : List (Nat × Nat)) (w : World) (hv : RdP w v L) (hs : L.Sublist (allP c)) (hc1 : 1 ≤ c) (hc6 : c ≤ 6) :
    Calls Try.prog 77 #[.int .i64 c, v] w fun e w' => ∃ vb, e = .returned (.tuple #[vb, .int .i64 (costP (bestP c L) L)]) ∧ Own w' w.heap.size vb (bestP c L) ∧ Below w.heap.size w w' :=
  callsIn_wide.1 (nearest_in 6 (by omega) c v L w hv hs hc1 hc6)

end Go.Proofs.Ytbmpchpcihnbdaa

/-
  The model's contracts: spec.l4Place, l4At, ListPlace, ListAt, ListNext, ListBefore, ListOpen.
-/
namespace Go.Proofs.Ytbmpchpcihnbdaa
set_option linter.unusedSimpArgs false
set_option linter.unusedVariables false
set_option linter.unnecessarySimpa false
open Go.RowKit

theorem at_stop {q o s : Int} (m : Nat) (ho : 1 ≤ o) (hm : (m : Int) ≤ s) (h0 : 0 ≤ q - m * o) (h1 : (m : Int) < s → q - m * o < o) : min (q / o) s = m := by
  by_cases h : (m : Int) < s
  · have hlt := h1 h
    have e : q = (q - m * o) + m * o := by omega
    have hd : q / o = m := by
      rw [e, Int.add_mul_ediv_right _ _ (by omega), Int.ediv_eq_zero_of_lt h0 hlt]
      omega
    rw [hd]
    omega
  · have he : (m : Int) = s := by omega
    have : s ≤ q / o := Int.le_ediv_of_mul_le (by omega) (by rw [← he]; omega)
    omega

set_option maxHeartbeats 1600000 in
theorem l4At_any (n : Nat) (P : Int) (w : World) (h8 : n ≤ 8) (hP0 : 0 ≤ P) (hP1 : P < opn n 0) :
    Calls Try.prog 117 #[.int .i64 n, .int .i64 P] w (FreshL w (atL n P)) := by
  have HST := Lib.hid (atStage_start n P hP0 hP1)
  have HO0 := Lib.hid (own_empty w w.heap.size (Nat.le_refl _))
  clear hP0 hP1
  go_enter Try.func117, Try.ntmps117
  go_wp2
  go_loopw [1, 5, 6] (fun u o v wr => ∃ (i g cap : Nat) (q : Int) (pre : List Int), v = .int .i64 i ∧ u = .int .i64 q ∧ o = .slice (some ⟨g, 0, none⟩) i cap ∧ AtStage n P i pre q ∧ Own wr w.heap.size (.slice (some ⟨g, 0, none⟩) i cap) pre ∧ Below w.heap.size w wr)
    (fun _ _ v _ => n - (intOf v).toNat)
  case atStart => exact ⟨0, w.heap.size, 0, P, [], rfl, rfl, rfl, HST.out, HO0.out, (Below.refl _ _).alloc (Nat.le_refl _) _⟩
  case round =>
    obtain ⟨i, g, cap, q, pre, rfl, rfl, rfl, hst, hown, hb⟩ := hrel
    have hile := hst.le
    have HO := Lib.hid hown
    have HB := Lib.hid hb
    by_cases hlt : i < n
    · have hsm : Small pre := by
        have := pre_small (n := n) hst.ok (by rw [hst.len]; omega) 0
        simpa using this
      have hsl := size_le_len pre 0 (by omega) hst.ok
      rw [hst.len] at hsl
      have hs0 := sizeFrom_nonneg pre 0
      have hq0 := hst.q0
      have hq1 := hst.q1
      have hn1 : n - i = (n - (i + 1)) + 1 := by omega
      have hq4 := (opn_bd (n - i) (sizeFrom 0 pre) hs0 (by omega)).2
      have hstep := atStage_step hst hlt
      have hl4 := fun (k : Int) (w1 : World) (h1 : sizeFrom 0 pre ≤ k) (h2 : k ≤ sizeFrom 0 pre + 1) => l4Open_any (n - (i + 1)) ((n : Int) - 1 - (i : Int)) k w1 (by omega) (by omega) (by omega)
      have HSZ : Hid (Calls Try.prog 92 #[.slice (some ⟨g, 0, none⟩) i cap] wr fun e w' => e = .returned (.int .i64 (sizeFrom 0 pre)) ∧ wr = w') := by
        have hr := own_rdv hown
        obtain ⟨ao, ca, e1, h1, h2, h3⟩ := hr
        unfold maxLen at h3
        have := l1Size_any ao ca pre wr h1 (by omega) hsm
        rw [← e1] at this
        exact this
      have hob := opn_bd (n - (i + 1)) (sizeFrom 0 pre) hs0 (by omega)
      have hq5 : q < sizeFrom 0 pre * opn (n - (i + 1)) (sizeFrom 0 pre) + opn (n - (i + 1)) (sizeFrom 0 pre + 1) := by
        rw [hn1] at hq1
        exact hq1
      have hlen := hst.len
      have hbs := hb.size
      obtain ⟨s, hsd⟩ : ∃ s, s = sizeFrom 0 pre := ⟨_, rfl⟩
      rw [← hsd] at hsl hs0 hq1 hq4 hstep hl4 HSZ hob hq5
      obtain ⟨o, ho⟩ : ∃ o, o = opn (n - (i + 1)) s := ⟨_, rfl⟩
      rw [← ho] at hstep hob hq5
      obtain ⟨ho1, ho2⟩ := hob
      have hq6 : q ≤ 4140 := by omega
      have HL4 := Lib.hid hl4
      have HSTEP := Lib.hid hstep
      have HOE := Lib.hid ho
      have HLEN := Lib.hid hlen
      have HQ5 := Lib.hid hq5
      have HN1 := Lib.hid hn1
      clear hl4 hstep ho hlen hq5 hq1 hq4 hsd hsm hst hown hb hn1
      go_wp2_with (go_at_call 92; refine HSZ.out.mono ?_; rintro e w' ⟨rfl, rfl⟩)
      go_loop [1, 8] (fun u v => ∃ m : Nat, (m : Int) ≤ s ∧ v = .int .i64 m ∧ u = .int .i64 (q - m * o) ∧ 0 ≤ q - m * o) (fun _ v => (s - intOf v).toNat)
      case atStart => exact ⟨0, by omega, rfl, by congr 1; simp, by simp; omega⟩
      case round =>
        obtain ⟨m, hm, rfl, rfl, hr0⟩ := hrel
        have hmo0 : 0 ≤ (m : Int) * o := Int.mul_nonneg (by omega) (by omega)
        have hcall := HL4.out (max s ((m : Int) + 1)) wr (by omega) (by omega)
        have hzb := opn_bd (n - (i + 1)) (max s ((m : Int) + 1)) (by omega) (by omega)
        obtain ⟨z, hz⟩ : ∃ z, z = opn (n - (i + 1)) (max s ((m : Int) + 1)) := ⟨_, rfl⟩
        rw [← hz] at hcall hzb
        obtain ⟨hz1, hz2⟩ := hzb
        have HCALL := Lib.hid hcall
        obtain ⟨r, hr⟩ : ∃ r, r = q - (m : Int) * o := ⟨_, rfl⟩
        have hr4 : r ≤ 4140 := by omega
        rw [← hr] at hr0
        have hzo : (m : Int) < s → z = o := fun h => by rw [hz, HOE.out, show max s ((m : Int) + 1) = s by omega]
        by_cases hstop : r < z
        · have hmin : (m : Int) = min (q / o) s := (at_stop m ho1 hm (by omega) (fun h => by rw [← hr, ← hzo h]; exact hstop)).symm
          obtain ⟨hs2, _, _⟩ := HSTEP.out (m : Int) hmin
          rw [← hr] at hs2 ⊢
          have HS2 := Lib.hid hs2
          clear hs2 hmin hr hz hzo hcall hmo0
          go_wp2_with (first | (go_at_call 121; refine HCALL.out.mono ?_; rintro e w' ⟨rfl, rfl⟩) | (at_builtin; refine wpList_push rfl _ _ rfl w.heap.size g i cap pre rfl (own_alloc HO.out _) HLEN.out.symm ⟨wr.heap.size, 0, none⟩ rfl (m : Int) (cell_new1 _ _ _) (by omega) (by simp; omega) ?_))
          intro g' cap' w3 hown3 hgr3 hg3
          have hbel3 : Below w.heap.size w w3 := (HB.out.alloc hbs _).grown hgr3 (by simp; omega) (fun q hq => by cases hq; exact (own_lt HO.out g rfl).1)
          have HO3 := Lib.hid hown3
          clear hown3 hgr3 hg3
          go_wp2
          go_roundw
          case rel => exact ⟨i + 1, g', cap', r, pre ++ [(m : Int)], by go_num, rfl, rfl, HS2.out, HO3.out, hbel3⟩
          case measure => simp [intOf]; omega
        · have hms : (m : Int) < s := by
            rcases Int.lt_or_le (m : Int) s with h | h
            · exact h
            · have he : (m : Int) = s := by omega
              have hzz : z = opn (n - (i + 1)) (s + 1) := by rw [hz, he, max_new]
              have := HQ5.out
              rw [← hzz, ← he] at this
              omega
          have hze := hzo hms
          have HEQ : Hid (q - ((m + 1 : Nat) : Int) * o = r - z) := by
            show q - ((m + 1 : Nat) : Int) * o = r - z
            rw [hze, hr, show ((m + 1 : Nat) : Int) = (m : Int) + 1 by omega, Int.add_mul, Int.one_mul]
            omega
          rw [← hr]
          have hrz : 0 ≤ r - z := by omega
          clear hr hz hzo hcall hmo0 hze
          go_wp2_with (first | (go_at_call 121; refine HCALL.out.mono ?_; rintro e w' ⟨rfl, rfl⟩))
          go_round
          case rel => exact ⟨m + 1, by omega, by go_num, by rw [HEQ.out], by rw [HEQ.out]; exact hrz⟩
          case measure => simp [intOf]; omega
    · obtain rfl : i = n := by omega
      have hend := atStage_end hst
      have HEND := Lib.hid hend
      have HLEN := Lib.hid hst.len
      clear hend hst hown hb
      go_wp2
      go_ret
      exact ⟨_, rfl, by rw [HEND.out]; exact HO.out, HB.out⟩

end Go.Proofs.Ytbmpchpcihnbdaa

/-
  The model's contracts: spec.ListPlace, ListAt, ListNext, ListBefore, ListOpen.
-/
namespace Go.Proofs.Ytbmpchpcihnbdaa
set_option linter.unusedSimpArgs false
set_option linter.unusedVariables false
set_option linter.unnecessarySimpa false
open Go.RowKit

theorem bell_opnN : ∀ n, n < 9 → bellN n = (opnN n 0 : Int) := by decide +kernel
theorem bell_opn (n : Nat) (h : n ≤ 8) : bellN n = opn n 0 := by
  have := opn_nat n 0
  rw [bell_opnN n (by omega), ← this]
  rfl

theorem l6In_is (b : Bool) (n lo hi : Int) (w : World) (h : decide (lo ≤ n ∧ n ≤ hi) = b) : Calls Try.prog 60 #[.int .i64 n, .int .i64 lo, .int .i64 hi] w fun e w' => e = .returned (.bool b) ∧ w = w' := by
  subst h
  exact l6In_any n lo hi w

theorem next_is_at {xs : List Int} (hp : partIn xs = true) : listNext xs = listAt xs.length (plc xs + 1) := by
  have hl := partIn_len hp
  have hb := plc_bd (partIn_ok hp)
  unfold listNext listAt
  by_cases h : plc xs + 1 < opn xs.length 0
  · rw [if_pos ⟨hp, h⟩, if_pos ⟨by omega, by omega, by simpa using h⟩]
    simp
  · rw [if_neg (fun k => h k.2), if_neg (fun k => h (by simpa using k.2.2))]

theorem before_is_at {xs : List Int} (hp : partIn xs = true) : listBefore xs = listAt xs.length (plc xs - 1) := by
  have hl := partIn_len hp
  have hb := plc_bd (partIn_ok hp)
  unfold listBefore listAt
  by_cases h : 0 < plc xs
  · rw [if_pos ⟨hp, h⟩, if_pos ⟨by omega, by omega, by simp; omega⟩]
    simp
  · rw [if_neg (fun k => h k.2), if_neg (fun k => h (by omega))]

end Go.Proofs.Ytbmpchpcihnbdaa

/-
  The contracts of impl.ListAll and impl.ListBlocks: a range over a function.
-/
namespace Go.Proofs.Ytbmpchpcihnbdaa
set_option linter.unusedSimpArgs false
set_option linter.unusedVariables false
set_option linter.unnecessarySimpa false
open Go.RowKit Go.Shelf
set_option maxRecDepth 100000

attribute [local go_sem] Oper.semAt_some

def listAll (n : Int) : List (List Int) × Bool := if 1 ≤ n ∧ n ≤ 7 then (allL n.toNat, true) else ([], false)
def listBlocks (n k : Int) : List (List Int) × Bool := if (1 ≤ n ∧ n ≤ 7) ∧ 1 ≤ k ∧ k ≤ 7 then ((allL n.toNat).filter fun xs => pSize xs == k, true) else ([], false)

theorem total_rows (m : Nat) : ∀ l : List (List Int), (∀ r ∈ l, r.length ≤ m) → total l ≤ m * l.length := by
  intro l
  induction l with
  | nil => intro _; simp [total]
  | cons x l ih =>
    intro h
    have h1 := h x (by simp)
    have h2 := ih fun r hr => h r (by simp [hr])
    rw [total_cons, List.length_cons, Nat.mul_add]
    omega

theorem allL_rows (n : Nat) : ∀ r ∈ allL n, r.length ≤ n := fun r hr => by
  simp only [allL, List.mem_map] at hr
  obtain ⟨p, _, rfl⟩ := hr
  rw [atL_length]
  exact Nat.le_refl _

theorem listAll_len (a : Int) : (listAll a).1.length ≤ 1000000 ∧ total (listAll a).1 ≤ 1000000 := by
  unfold listAll
  split
  · have h1 := opn_bd a.toNat 0 (by omega) (by omega)
    have h2 := allL_length a.toNat
    have h3 := total_rows 7 (allL a.toNat) (fun r hr => by have := allL_rows a.toNat r hr; omega)
    dsimp only
    omega
  · simp [total]

theorem listBlocks_len (a b : Int) : (listBlocks a b).1.length ≤ 1000000 ∧ total (listBlocks a b).1 ≤ 1000000 := by
  unfold listBlocks
  split
  · have h1 := opn_bd a.toNat 0 (by omega) (by omega)
    have h2 := allL_length a.toNat
    have h4 := List.length_filter_le (fun xs => pSize xs == b) (allL a.toNat)
    have h3 := total_rows 7 ((allL a.toNat).filter fun xs => pSize xs == b) (fun r hr => by have := allL_rows a.toNat r (List.mem_filter.1 hr).1; omega)
    dsimp only
    omega
  · simp [total]

theorem fresh_some {w : World} {B : Nat} {u : Value} {xs : List Int} (h : Own w B u xs) (h1 : 1 ≤ xs.length) : ∃ g cap, u = .slice (some ⟨g, 0, none⟩) xs.length cap := by
  rcases own_view h with ⟨_, rfl⟩ | ⟨g, cap, rfl, _⟩
  · simp at h1
  · exact ⟨g, cap, rfl⟩

end Go.Proofs.Ytbmpchpcihnbdaa

/-
  spec.PartBlocks; append of rows of a list of lists onto a list of lists of the call's own.
-/
namespace Go.Proofs.Ytbmpchpcihnbdaa
set_option linter.unusedSimpArgs false
set_option linter.unusedVariables false
set_option linter.unnecessarySimpa false
open Go.RowKit
set_option maxRecDepth 100000

def partBlocks (xs : List Int) : List (List Int) × Bool := if partIn xs then (blocksTo xs (pSize xs).toNat, true) else ([], false)

/-- A list of slices' values in a block of the call's own. -/
def OwnV (w : World) (B : Nat) (v : Value) (vs : List Value) : Prop := w.ownsRow B 30 1 v vs.length vs

theorem ownV_empty (w : World) (B : Nat) (hB : B ≤ w.heap.size) : OwnV (w.alloc (.cells #[] 30)) B (.slice (some ⟨w.heap.size, 0, none⟩) 0 0) [] :=
  World.ownsRow_made w #[] 0 hB (Nat.zero_le _) rfl

/-- 'append(out, rows...)' onto a slice of slices of the call's own that is not nil. -/
theorem wp_catV {w : World} {o : Oper} {a : Act} {K : Act → World → Prop} {Q : Exit → Act → World → Prop} (s x : Operand)
    (ho : o.op = .call { callee := .builtin .append, args := #[s, x], argTypes := #[23, 23] })
    (B g n cap : Nat) (vs : List Value) (hs : a.eval s = .slice (some ⟨g, 0, none⟩) n cap) (hown : OwnV w B (.slice (some ⟨g, 0, none⟩) n cap) vs) (hn : n = vs.length)
    (ad : Addr) (m c : Nat) (hx : a.eval x = .slice (some ad) m c) (us : List Value) (hm : m = us.length) (hc : ∀ j, j < us.length → w.cell? (ad.add j) = some (us.getD j undef)) (hu : ∀ z ∈ us, z.oneCell' = true) (hl : n + m ≤ 1000000000) (hB : B ≤ w.heap.size) (r : Nat) (hr : n + m = r)
    (h : ∀ g' cap' w', OwnV w' B (.slice (some ⟨g', 0, none⟩) r cap') (vs ++ us) → w.grownBy w' (some g) → (g' = g ∨ g' = w.heap.size) → K (a.put o.dst (.slice (some ⟨g', 0, none⟩) r cap')) w') :
    o.wp Try.prog a w K Q := by
  obtain ⟨i0, hi, hz0, hz1, hz2⟩ := info_parts Try.infoInts
  subst hr
  subst hn
  subst hm
  have hnews : ∀ j u, us[j]? = some u → w.cell? (ad.add j) = some u := by
    intro j u hj
    have hjl : j < us.length := (List.getElem?_eq_some_iff.1 hj).1
    rw [hc j hjl]
    simp [List.getD, hj]
  obtain ⟨v', w', hru, ho', hg', hnil, hb'⟩ := run_append_own_at (P := Try.prog) w B 23 o.type 30 i0 (.slice none 0 0) 1 24 Try.underlying23 hi hz0 hz1 hz2 rfl (by decide) _ vs.length vs hown ad us.length c us (by simp) hnews hu (by unfold maxLen; omega) (by omega) hB
  unfold Oper.wp execOp
  simp only [ho, resolve, invoke, builtin, Sem.run_bind, Sem.run_pure, Result.andThen_ok, List.map_toArray, List.map_cons, List.map_nil, hs, hx, hru]
  have hown' : OwnV w' B v' (vs ++ us) := by
    unfold OwnV
    simpa using ho'
  rcases ho'.2 with ⟨rfl, h2⟩ | ⟨g', cap', cur, rfl, hB', hg2, rest⟩
  · simp at hnil
  · try simp only [List.length_append] at hown' ⊢
    refine h g' cap' w' hown' hg' ?_
    simpa [Value.ownBlock] using hb'

theorem step_catV {w : World} {ops : Array Oper} {o : Oper} {a : Act} {K : Act → World → Prop} {Q : Exit → Act → World → Prop} {E : Prop} (hgd : o.guard = none) (s x : Operand)
    (ho : o.op = .call { callee := .builtin .append, args := #[s, x], argTypes := #[23, 23] })
    (B g n cap : Nat) (vs : List Value) (hs : a.eval s = .slice (some ⟨g, 0, none⟩) n cap) (hown : OwnV w B (.slice (some ⟨g, 0, none⟩) n cap) vs) (hn : n = vs.length)
    (ad : Addr) (m c : Nat) (hx : a.eval x = .slice (some ad) m c) (us : List Value) (hm : m = us.length) (hc : ∀ j, j < us.length → w.cell? (ad.add j) = some (us.getD j undef)) (hu : ∀ z ∈ us, z.oneCell' = true) (hl : n + m ≤ 1000000000) (hB : B ≤ w.heap.size) (r : Nat) (hr : n + m = r)
    (h : ∀ g' cap' w', OwnV w' B (.slice (some ⟨g', 0, none⟩) r cap') (vs ++ us) → w.grownBy w' (some g) → (g' = g ∨ g' = w.heap.size) → K (a.put o.dst (.slice (some ⟨g', 0, none⟩) r cap')) w') :
    if Region.wanted o (yielded ops a.tmps) = true then Oper.wp Try.prog o a w K Q else E := by
  have hw : Region.wanted o (yielded ops a.tmps) = true := by simp [Region.wanted, hgd]
  rw [if_pos hw]
  exact wp_catV s x ho B g n cap vs hs hown hn ad m c hx us hm hc hu hl hB r hr h

end Go.Proofs.Ytbmpchpcihnbdaa

/-
  The model's contracts: spec.ListAll, ListBlocks.
-/
namespace Go.Proofs.Ytbmpchpcihnbdaa
set_option linter.unusedSimpArgs false
set_option linter.unusedVariables false
set_option linter.unnecessarySimpa false
open Go.RowKit

theorem l6In7_is (b : Bool) (n : Int) (w : World) (h : decide (1 ≤ n ∧ n ≤ 7) = b) : Calls Try.prog 60 #[.int .i64 n, .int .i64 1, .int .i64 7] w fun e w' => e = .returned (.bool b) ∧ w = w' := l6In_is b n 1 7 w h

set_option maxHeartbeats 1600000 in
theorem sListAll_w (a : Int) (w : World) : Calls Try.prog 106 #[.int .i64 a] w (FreshMB w (listAll a)) := by
  have HO0 := Lib.hid (ownM_empty w w.heap.size (Nat.le_refl _))
  by_cases h : 1 ≤ a ∧ a ≤ 7
  · have hr : listAll a = (allL a.toNat, true) := by unfold listAll; rw [if_pos h]
    rw [hr]
    obtain ⟨c, rfl⟩ : ∃ c : Nat, a = c := ⟨a.toNat, by omega⟩
    rw [Int.toNat_natCast]
    have hc8 : c ≤ 8 := by omega
    have hc7 : c ≤ 7 := by omega
    have hc1 : 1 ≤ c := by omega
    have HC := Lib.hid fun (w1 : World) => l6In7_is true (c : Int) w1 (by simpa using h)
    have hob := opn_bd c 0 (by omega) (by omega)
    have hbl := fun (w1 : World) => l2Bell_v (c : Int) w1 (by omega) (by omega)
    rw [Int.toNat_natCast, bell_opn c hc8] at hbl
    obtain ⟨T, hT⟩ : ∃ T : Nat, T = (opn c 0).toNat := ⟨_, rfl⟩
    have hTi : opn c 0 = (T : Int) := by omega
    have hT2 : T ≤ 4140 := by omega
    rw [hTi] at hbl
    have HB := Lib.hid hbl
    have HAL : Hid (allL c = (List.range T).map fun p => atL c (p : Nat)) := by show _ = _; unfold allL; rw [hT]
    have HL := Lib.hid fun (p : Nat) (w1 : World) (hp : p < T) => l4At_any c (p : Int) w1 hc8 (by omega) (by omega)
    clear hr h hbl hT hTi hob
    go_enter Try.func106, Try.ntmps106
    go_wp2_with fail
    refine (HC.out _).mono ?_
    rintro e w' ⟨rfl, rfl⟩
    go_wp2_with fail
    go_loopw [4, 5] (fun u v wr => ∃ p g cap : Nat, p ≤ T ∧ v = .int .i64 p ∧ u = .slice (some ⟨g, 0, none⟩) p cap ∧ OwnM wr w.heap.size wr.heap.size (.slice (some ⟨g, 0, none⟩) p cap) ((List.range p).map fun p => atL c (p : Nat)) ∧ Below w.heap.size w wr)
      (fun _ v _ => T - (intOf v).toNat)
    case atStart => exact ⟨0, w.heap.size, 0, Nat.zero_le _, rfl, rfl, ownM_mono HO0.out (Nat.le_refl _) (by simp), (Below.refl _ _).alloc (Nat.le_refl _) _⟩
    case round =>
      obtain ⟨p, g, cap, hp, rfl, rfl, hom, hb⟩ := hrel
      have HOM := Lib.hid hom
      have HBB := Lib.hid hb
      clear hom hb
      go_wp2_with fail
      refine (HB.out _).mono ?_
      rintro e w1 ⟨rfl, hb1⟩
      have HOM1 := Lib.hid (ownM_below HOM.out hb1)
      have hs1 := hb1.size
      have hbel1 := below_step HBB.out hb1
      have HB1 := Lib.hid hbel1
      clear hb1 hbel1
      by_cases hlt : p < T
      · have HLP := Lib.hid fun (w2 : World) => HL.out p w2 hlt
        have hsw := HBB.out.size
        have HRS := Lib.hid (List.range_succ (n := p))
        go_wp2_with fail
        refine (HLP.out _).mono ?_
        rintro e w5 ⟨u, rfl, ho5, hb5⟩
        obtain ⟨gu, cu, rfl⟩ := own_slice' ho5
        have hbel5 := below_step HB1.out hb5
        have hin := inB_of_own ho5
        have HO5 := Lib.hid (own_mono ho5 HB1.out.size)
        have HOM5 := Lib.hid (ownM_below HOM1.out hb5)
        have hs35 := hb5.size
        clear ho5 hb5
        go_wp2_with (at_builtin; refine wpList_row rfl _ _ rfl w w5 _ rfl w1.heap.size g p cap ((List.range p).map fun p => atL c (p : Nat)) rfl (ownM_mono HOM5.out (Nat.le_refl _) (by omega)) (by simp) rfl (atL c (p : Nat)) HO5.out hin ⟨HB1.out.size, hs35⟩ (by omega) hbel5 ?_)
        intro g6 cap6 w6 hown6 hbel6 hs6
        have HO6 := Lib.hid hown6
        clear hown6
        go_wp2
        go_roundw
        case rel => exact ⟨p + 1, g6, cap6, by omega, by go_num, rfl, by rw [HRS.out, List.map_append]; exact HO6.out, hbel6⟩
        case measure => simp [intOf]; omega
      · obtain rfl : p = T := by omega
        go_wp2
        go_ret2
        exact ⟨_, rfl, by rw [HAL.out]; exact ownM_mono HOM1.out (Nat.le_refl _) hs1, HB1.out⟩
  · have hr : listAll a = ([], false) := by unfold listAll; rw [if_neg h]
    rw [hr]
    have HC := Lib.hid fun (w1 : World) => l6In7_is false a w1 (by simpa using h)
    clear hr h
    go_enter Try.func106, Try.ntmps106
    go_wp2_with fail
    refine (HC.out _).mono ?_
    rintro e w' ⟨rfl, rfl⟩
    go_wp2
    go_ret2
    exact ⟨_, rfl, ownM_mono HO0.out (Nat.le_refl _) (by simp), (Below.refl _ _).alloc (Nat.le_refl _) _⟩

theorem sListAll_v (a : Int) (w : World) (_ : (Lit.int .i64 a).wf = true) : Calls Try.prog 106 #[.int .i64 a] w (FreshMB w (listAll a)) := sListAll_w a w

theorem wpList_catV' {w : World} {ops : Array Oper} {rest : List Oper} {o : Oper} {a : Act} {Q : Exit → Act → World → Prop} (hgd : o.guard = none) (s x : Operand)
    (ho : o.op = .call { callee := .builtin .append, args := #[s, x], argTypes := #[23, 23] })
    (B g n cap : Nat) (vs : List Value) (hs : a.eval s = .slice (some ⟨g, 0, none⟩) n cap) (hown : OwnV w B (.slice (some ⟨g, 0, none⟩) n cap) vs) (hn : n = vs.length)
    (ad : Addr) (hx : a.eval x = .slice (some ad) 1 1) (u : Value) (hc : w.cell? ad = some u) (hu : u.oneCell' = true) (hl : n + 1 ≤ 1000000000) (hB : B ≤ w.heap.size)
    (h : ∀ g' cap' w', OwnV w' B (.slice (some ⟨g', 0, none⟩) (n + 1) cap') (vs ++ [u]) → w.grownBy w' (some g) → (g' = g ∨ g' = w.heap.size) → wpList Try.prog ops Q rest (a.put o.dst (.slice (some ⟨g', 0, none⟩) (n + 1) cap')) w') :
    wpList Try.prog ops Q (o :: rest) a w :=
  wpList_plain hgd fun _ hK => wp_catV s x ho B g n cap vs hs hown hn ad 1 1 hx [u] rfl (fun j hj => by
    obtain rfl : j = 0 := by simpa using hj
    simpa [Addr.add] using hc) (fun z hz => by simp at hz; subst hz; exact hu) hl hB (n + 1) rfl fun g' cap' w' h1 h2 h3 => hK _ _ (h g' cap' w' h1 h2 h3)

theorem ownV_later {w w' : World} {B : Nat} {v : Value} {vs : List Value} (h : OwnV w B v vs) (hb : Below w.heap.size w w') : OwnV w' B v vs := World.ownsRow.kept h (grown_of_below hb) (by
  cases ho : v.ownBlock with
  | none => exact .inl rfl
  | some z => exact .inr (by simp))

/-- The places up to i at which a list with k blocks stands. -/
def isOf (k : Int) (xss : List (List Int)) (i : Nat) : List Nat := (List.range i).filter fun j => pSize (xss.getD j []) == k

theorem isOf_succ (k : Int) (xss : List (List Int)) (i : Nat) : isOf k xss (i + 1) = isOf k xss i ++ (if (pSize (xss.getD i []) == k) = true then [i] else []) := by
  unfold isOf
  rw [List.range_succ, List.filter_append]
  congr 1
  simp only [List.filter_cons, List.filter_nil]

theorem isOf_lt {k : Int} {xss : List (List Int)} {i j : Nat} (h : j ∈ isOf k xss i) : j < i := by
  unfold isOf at h
  simp at h
  exact h.1

theorem isOf_sorted (k : Int) (xss : List (List Int)) (i : Nat) : (isOf k xss i).Pairwise (· < ·) := by
  unfold isOf
  exact List.Pairwise.filter _ List.pairwise_lt_range

theorem isOf_filter (k : Int) (xss : List (List Int)) : (isOf k xss xss.length).map (fun j => xss.getD j []) = xss.filter fun xs => pSize xs == k := by
  have e : xss = (List.range xss.length).map (fun j => xss.getD j []) := by
    apply List.ext_getElem?
    intro j
    by_cases hj : j < xss.length
    · simp [hj, List.getD]
    · simp [hj, List.getElem?_eq_none (show xss.length ≤ j by omega)]
  unfold isOf
  conv => rhs; rw [e]
  rw [List.filter_map]
  rfl

/-- Rows of a list of lists of the call's own, picked in order, in a new slice of the call's own. -/
theorem ownM_pick {w : World} {B B0 S S' : Nat} {u : Value} {xss : List (List Int)} {vs : List Value} (hvl : vs.length = xss.length)
    (hrows : ∀ i, i < xss.length → Own w B (vs.getD i undef) (xss.getD i []) ∧ InB (vs.getD i undef) B S) (hap : ∀ i j, i < j → j < xss.length → apart (vs.getD i undef) (vs.getD j undef)) (hB0 : B0 ≤ B) (hS : S ≤ S')
    (is : List Nat) (hlt : ∀ j, j ∈ is → j < xss.length) (hso : is.Pairwise (· < ·)) (ho : OwnV w B0 u (is.map fun j => vs.getD j undef)) (hu : InB u B0 S') : OwnM w B0 S' u (is.map fun j => xss.getD j []) := by
  have hg : ∀ i, i < is.length → (is.map fun j => vs.getD j undef).getD i undef = vs.getD (is.getD i 0) undef ∧ (is.map fun j => xss.getD j []).getD i [] = xss.getD (is.getD i 0) [] ∧ is.getD i 0 < xss.length := fun i hi => by
    refine ⟨by simp [List.getD, hi], by simp [List.getD, hi], ?_⟩
    have : is.getD i 0 ∈ is := by simp [List.getD, hi]
    exact hlt _ this
  refine ⟨is.map fun j => vs.getD j undef, by simp, ?_, hu, ?_, ?_⟩
  · have h2 := ho
    unfold OwnV at h2
    simpa using h2
  · intro i hi
    simp at hi
    obtain ⟨e1, e2, e3⟩ := hg i hi
    rw [e1, e2]
    exact ⟨own_mono (hrows _ e3).1 hB0, inB_mono (hrows _ e3).2 hB0 hS⟩
  · intro i j hij hj
    simp at hj
    obtain ⟨e1, _, e3⟩ := hg i (by omega)
    obtain ⟨f1, _, f3⟩ := hg j hj
    rw [e1, f1]
    refine hap _ _ ?_ f3
    have := List.pairwise_iff_getElem.1 hso i j (by omega) hj hij
    simpa [List.getD, hj, show i < is.length by omega] using this

end Go.Proofs.Ytbmpchpcihnbdaa

/-
  The contracts of l8Cost, l8Best, and of PairChanges, PairBest of both sides.
-/
namespace Go.Proofs.Ytbmpchpcihnbdaa
set_option linter.unusedSimpArgs false
set_option linter.unusedVariables false
set_option linter.unnecessarySimpa false
open Go.RowKit
set_option maxRecDepth 100000

/-- The cost after the first k pairs. -/
def cstTo (xs : List Int) (L : List (Nat × Nat)) (k : Nat) : Int := ((ofP xs).length : Int) + ((L.take k).map fun p => if xs.getD p.1 0 == xs.getD p.2 0 then (-1 : Int) else 1).sum
theorem cstTo_end (xs : List Int) (L : List (Nat × Nat)) : cstTo xs L L.length = costP xs L := by unfold cstTo costP; rw [List.take_length]
theorem cstTo_next (xs : List Int) (L : List (Nat × Nat)) (k : Nat) (h : k < L.length) : cstTo xs L (k + 1) = cstTo xs L k + if xs.getD (L.getD k (0, 0)).1 0 == xs.getD (L.getD k (0, 0)).2 0 then (-1 : Int) else 1 := by
  unfold cstTo
  rw [take_snocP L k h, List.map_append, List.sum_append]
  simp only [List.map_cons, List.map_nil, List.sum_cons, List.sum_nil]
  omega
theorem cstTo_bd (xs : List Int) (L : List (Nat × Nat)) (hx : xs.length ≤ 8) : ∀ k, k ≤ L.length → -(k : Int) ≤ cstTo xs L k ∧ cstTo xs L k ≤ 100 + k := by
  intro k
  induction k with
  | zero =>
    intro _
    have := ofP_len xs hx
    unfold cstTo
    simp
    omega
  | succ k ih =>
    intro hk
    have h := ih (by omega)
    rw [cstTo_next xs L k (by omega)]
    split <;> omega

set_option maxHeartbeats 4000000 in
theorem l8Cost_any (v u : Value) (xs : List Int) (L : List (Nat × Nat)) (w : World) (hv : RdV w v xs) (hu : RdM w u (encPs L)) (hL : InN xs.length L) (hx8 : xs.length ≤ 8) (hl : L.length ≤ 1000) :
    Calls Try.prog 78 #[v, u] w (GivesI w (costP xs L)) := by
  have HO := Lib.hid (l8Of_any v xs w hv hx8)
  have hbd := fun k (h : k ≤ L.length) => cstTo_bd xs L hx8 k h
  have h0 : cstTo xs L 0 = ((ofP xs).length : Int) := by unfold cstTo; simp
  rw [← cstTo_end]
  obtain ⟨ao, ca, rfl, hx, hlc, hcm⟩ := hv
  obtain ⟨bo, cb, vs, rfl, h1, h2, hy⟩ := encPs_at hu
  unfold maxLen at h2
  have HNX := Lib.hid fun (k : Nat) (h : k < L.length) => cstTo_next xs L k h
  obtain ⟨n, hn⟩ : ∃ n, n = xs.length := ⟨_, rfl⟩
  obtain ⟨m, hm⟩ : ∃ m, m = L.length := ⟨_, rfl⟩
  rw [← hn] at hlc hL hx8 HO ⊢
  rw [← hm] at h1 hl hbd HNX ⊢
  have HN := Lib.hid hn
  have HM := Lib.hid hm
  have HX := Lib.hid hx
  have HY := Lib.hid hy
  have HIN := Lib.hid hL
  have HBD := Lib.hid hbd
  obtain ⟨X, hX⟩ : ∃ X, X = ofP xs := ⟨_, rfl⟩
  rw [← hX] at HO h0
  obtain ⟨q, hq⟩ : ∃ q, q = X.length := ⟨_, rfl⟩
  rw [← hq] at h0
  have HQ := Lib.hid hq
  have H0 := Lib.hid h0
  clear hn hm hx hy hL hu hbd hX hq h0
  go_enter Try.func78, Try.ntmps78
  go_wp2_with fail
  refine HO.out.mono ?_
  rintro e w1 ⟨uo, rfl, ho, hb1⟩
  obtain ⟨go, gc, rfl⟩ : ∃ go gc, uo = .slice go q gc := by
    obtain ⟨q1, q2, _, _, e, _⟩ := ownM_rdM ho
    rw [encPs_length, ← HQ.out] at e
    exact ⟨_, _, e⟩
  clear ho
  go_wp2
  go_loopw [5, 6] (fun c i wr => ∃ k : Nat, k ≤ m ∧ i = .int .i64 k ∧ c = .int .i64 (cstTo xs L k) ∧ Below w.heap.size w wr) (fun _ i _ => m - (intOf i).toNat)
  case atStart => exact ⟨0, Nat.zero_le _, rfl, by rw [H0.out], hb1⟩
  case round =>
    obtain ⟨k, hk, rfl, rfl, hbel⟩ := hrel
    have hbd := HBD.out k hk
    by_cases hlt : k < m
    · rcases HY.out with hy | ⟨bb, off, rfl, hcy⟩
      · have := HM.out
        rw [hy] at this
        simp at this
        omega
      obtain ⟨zb, zo, zc, d0, z1, z2, d1, d2⟩ := hcy k (by have := HM.out; omega)
      have e0 := cellSt d0 hbel
      have e1 := cellSt d1 hbel
      have e2 := cellSt d2 hbel
      have hlk : k < L.length := by have := HM.out; omega
      have hpn := HIN.out (L.getD k (0, 0)) (by rw [show L.getD k (0, 0) = L[k] by simp [List.getD, hlk]]; exact List.getElem_mem hlk)
      have hnx := HNX.out k hlt
      obtain ⟨⟨a, b⟩, hy⟩ : ∃ y, y = L.getD k (0, 0) := ⟨_, rfl⟩
      rw [← hy] at e1 e2 hpn hnx
      dsimp only at e1 e2 hpn hnx
      obtain ⟨ha, hb⟩ := hpn
      rcases HX.out with hx | ⟨xb, xo, rfl, hcx⟩
      · have := HN.out
        rw [hx] at this
        simp at this
        omega
      have g1 := cellSt (hcx a (by have := HN.out; omega)) hbel
      have g2 := cellSt (hcx b (by have := HN.out; omega)) hbel
      obtain ⟨x, hx⟩ : ∃ x, x = xs.getD a 0 := ⟨_, rfl⟩
      obtain ⟨y, hy2⟩ : ∃ y, y = xs.getD b 0 := ⟨_, rfl⟩
      rw [← hx] at g1 hnx
      rw [← hy2] at g2 hnx
      obtain ⟨s, hs⟩ : ∃ s, s = cstTo xs L k := ⟨_, rfl⟩
      rw [← hs] at hnx hbd ⊢
      have HNE := Lib.hid hnx
      have b0 : (k : Int) < m := by omega
      have b1 : (a : Int) < n := by omega
      have b2 : (b : Int) < n := by omega
      have b3 : (0 : Int) ≤ (a : Int) := by omega
      have b4 : (0 : Int) ≤ (b : Int) := by omega
      have b5 : (0 : Int) ≤ (k : Int) := by omega
      have s1 : -1000 ≤ s := by omega
      have s2 : s ≤ 2000 := by omega
      clear hcy hcx d0 d1 d2 hy hx hy2 hs hnx hlk hbd
      by_cases hxy : x = y
      · have hd : (x == y) = true := by simpa using hxy
        have HST : Hid (cstTo xs L (k + 1) = s - 1) := Lib.hid (by rw [HNE.out, if_pos hd]; omega)
        clear hxy
        go_wp2
        go_quiet (fail)
        go_wp2
        go_roundw
        case rel => exact ⟨k + 1, by omega, by go_num, by rw [HST.out], below_drewN hbel _⟩
        case measure => simp [intOf]; omega
      · have hd : (x == y) = false := by simpa using hxy
        have HST : Hid (cstTo xs L (k + 1) = s + 1) := Lib.hid (by rw [HNE.out, hd]; simp)
        clear hxy
        go_wp2
        go_quiet (fail)
        go_wp2
        go_roundw
        case rel => exact ⟨k + 1, by omega, by go_num, by rw [HST.out], below_drewN hbel _⟩
        case measure => simp [intOf]; omega
    · have hkm : k = m := by omega
      subst hkm
      go_wp2
      go_ret
      exact ⟨rfl, hbel⟩

theorem bestIn_snoc (L : List (Nat × Nat)) (x : List Int) : ∀ (l : List (List Int)) (b : List Int), bestIn L b (l ++ [x]) = if costP x L < costP (bestIn L b l) L then x else bestIn L b l := by
  intro l
  induction l with
  | nil => intro b; rfl
  | cons y l ih =>
    intro b
    show bestIn L (if costP y L < costP b L then y else b) (l ++ [x]) = _
    rw [ih]
    rfl

/-- The best of the first i partitions. -/
def bestTo (n : Nat) (L : List (Nat × Nat)) (i : Nat) : List Int := bestIn L ((allL n).getD 0 []) ((allL n).tail.take i)
theorem bestTo_next (n : Nat) (L : List (Nat × Nat)) (i : Nat) (h : i + 1 < (allL n).length) : bestTo n L (i + 1) = if costP ((allL n).getD (i + 1) []) L < costP (bestTo n L i) L then (allL n).getD (i + 1) [] else bestTo n L i := by
  unfold bestTo
  have hl : i < (allL n).tail.length := by rw [List.length_tail]; omega
  have e : (allL n).tail.take (i + 1) = (allL n).tail.take i ++ [(allL n).getD (i + 1) []] := by
    rw [List.take_add_one, List.getElem?_eq_getElem hl]
    simp [List.getD, h]
  rw [e, bestIn_snoc]
theorem bestTo_end (n : Nat) (L : List (Nat × Nat)) : bestTo n L ((allL n).length - 1) = bestP n L := by
  unfold bestTo bestP
  rw [List.take_of_length_le (by rw [List.length_tail]; omega)]
theorem bestTo_in {n : Nat} (h1 : 1 ≤ n) (h6 : n ≤ 6) (L : List (Nat × Nat)) (i : Nat) : (bestTo n L i).length = n := by
  have h := best_mem L ((allL n).tail.take i) ((allL n).getD 0 [])
  refine allL_len ?_
  rw [← all_cons h1 h6]
  rcases List.mem_cons.1 h with e | e
  · unfold bestTo
    rw [e]
    simp
  · exact List.mem_cons_of_mem _ (List.mem_of_mem_take e)

theorem rdM_at {w : World} {v : Value} {R : List (List Int)} (h : RdM w v R) : ∃ ao ca, ∃ vs : List Value, v = .slice ao R.length ca ∧ R.length ≤ ca ∧ ca ≤ maxLen ∧ (R = [] ∨ ∃ b off, ao = some ⟨b, off, none⟩ ∧ ∀ k, k < R.length → w.cell? ⟨b, off + k, none⟩ = some (vs.getD k undef)) ∧ ∀ k, k < R.length → RdV w (vs.getD k undef) (R.getD k []) := by
  obtain ⟨ao, ca, vs, _, h1, h2, h3, h4, h5⟩ := h
  exact ⟨ao, ca, vs, h1, h2, h3, h4, h5⟩

set_option maxHeartbeats 4000000 in
theorem l8Best_any (n : Nat) (v : Value) (L : List (Nat × Nat)) (w : World) (hv : RdM w v (encPs L)) (hs : L.Sublist (allP n)) (h1 : 1 ≤ n) (h6 : n ≤ 6) :
    Calls Try.prog 79 #[.int .i64 n, v] w (FreshL w (bestP n L)) := by
  have hl15 : L.length ≤ 15 := by have := hs.length_le; have := allP_le n h6; omega
  have hin := inN_of_sub hs
  have hlr : listAll (n : Int) = (allL n, true) := by unfold listAll; rw [if_pos (by omega)]; simp
  have HLA := Lib.hid (hlr ▸ sListAll_w (n : Int) w)
  have HCO := Lib.hid fun (w1 : World) (u : Value) (xs : List Int) (hb : Below w.heap.size w w1) (hu : RdV w1 u xs) (hx : xs.length = n) => l8Cost_any u v xs L w1 hu (rdM_below hv hb) (by rw [hx]; exact hin) (by omega) (by omega)
  have HLN := Lib.hid fun (x : List Int) (hx : x ∈ allL n) => allL_len hx
  have HBL := Lib.hid fun (i : Nat) => bestTo_in h1 h6 L i
  have hT := allL_length n
  have hTp := opn_bd n 0 (by omega) (by omega)
  have HNX := Lib.hid fun (i : Nat) (h : i + 1 < (allL n).length) => bestTo_next n L i h
  have HEND := Lib.hid (bestTo_end n L)
  have H0 : Hid (bestTo n L 0 = (allL n).getD 0 []) := rfl
  obtain ⟨R, hR⟩ : ∃ R, R = allL n := ⟨_, rfl⟩
  rw [← hR] at HLA HNX HLN HEND H0 hT
  obtain ⟨T, hTe⟩ : ∃ T, T = R.length := ⟨_, rfl⟩
  rw [← hTe] at HNX HEND hT
  have hT1 : 1 ≤ T := by omega
  have hT2 : T ≤ 4140 := by omega
  have HTE := Lib.hid hTe
  clear hv hin hlr hl15 hT hTp hR hTe hs
  go_enter Try.func79, Try.ntmps79
  go_wp2_with fail
  refine HLA.out.mono ?_
  rintro e w1 ⟨ul, rfl, hom, hb1⟩
  have hom : OwnM w1 w.heap.size w1.heap.size ul R := hom
  obtain ⟨lo, lc, vs, rfl, _, hlm, hcells, hrows⟩ := rdM_at (ownM_rdM hom)
  rw [← HTE.out]
  have HROW := Lib.hid hrows
  rcases hcells with hc | ⟨bb, off, rfl, hc⟩
  · have := HTE.out
    rw [hc] at this
    simp at this
    omega
  have HC := Lib.hid hc
  have hc0 := hc 0 (by have := HTE.out; omega)
  rw [Nat.add_zero] at hc0
  have HR0 : Hid (RdV w1 (vs.getD 0 undef) (bestTo n L 0)) := Lib.hid (by rw [H0.out]; exact hrows 0 (by have := HTE.out; omega))
  have bT : (0 : Int) < (T : Int) := by omega
  obtain ⟨z0, hz0⟩ : ∃ z0, z0 = vs.getD 0 undef := ⟨_, rfl⟩
  rw [← hz0] at hc0 HR0
  have hzs : ∃ a b c, z0 = .slice a b c := by
    obtain ⟨a, c, e, _⟩ := HR0.out
    exact ⟨a, _, c, e⟩
  obtain ⟨za, zb, zc, rfl⟩ := hzs
  clear hom hc hrows hz0
  go_wp2
  go_loopw [7, 8] (fun u i wr => ∃ k : Nat, 1 ≤ k ∧ k ≤ T ∧ i = .int .i64 k ∧ RdV w1 u (bestTo n L (k - 1)) ∧ Below w1.heap.size w1 wr) (fun _ i _ => T - (intOf i).toNat)
  case atStart => exact ⟨1, Nat.le_refl _, hT1, rfl, HR0.out, Below.refl _ _⟩
  case round =>
    obtain ⟨k, hk1, hk, rfl, hru, hbel⟩ := hrel
    have HRU := Lib.hid hru
    by_cases hlt : k < T
    · have hck := cellSt (HC.out k (by have := HTE.out; omega)) hbel
      have hrk := HROW.out k (by have := HTE.out; omega)
      have hnx := HNX.out (k - 1) (by omega)
      rw [show k - 1 + 1 = k by omega] at hnx
      obtain ⟨x, hx⟩ : ∃ x, x = R.getD k [] := ⟨_, rfl⟩
      have hxl : x.length = n := HLN.out x (by have h : k < R.length := (by have := HTE.out; omega); rw [hx, show R.getD k [] = R[k] by simp [List.getD, h]]; exact List.getElem_mem h)
      have hyl := HBL.out (k - 1)
      rw [← hx] at hrk hnx
      obtain ⟨y, hy⟩ : ∃ y, y = bestTo n L (k - 1) := ⟨_, rfl⟩
      rw [← hy] at hnx hyl HRU
      obtain ⟨z, hz⟩ : ∃ z, z = vs.getD k undef := ⟨_, rfl⟩
      rw [← hz] at hck hrk
      have HRK := Lib.hid hrk
      have HC1 := Lib.hid fun (w4 : World) (hb : Below w1.heap.size w1 w4) => HCO.out w4 z x (below_step hb1 hb) (rdv_below HRK.out hb) hxl
      have HC2 := Lib.hid fun (w4 : World) (hb : Below w1.heap.size w1 w4) => HCO.out w4 u7 y (below_step hb1 hb) (rdv_below HRU.out hb) hyl
      obtain ⟨p, hp⟩ : ∃ p, p = costP x L := ⟨_, rfl⟩
      obtain ⟨q, hq⟩ : ∃ q, q = costP y L := ⟨_, rfl⟩
      rw [← hp] at HC1 hnx
      rw [← hq] at HC2 hnx
      have HNE := Lib.hid hnx
      have b0 : (0 : Int) ≤ (k : Int) := by omega
      have b1 : (k : Int) < (T : Int) := by omega
      have hzs : ∃ a b c, z = .slice a b c := by
        obtain ⟨a, c, e, _⟩ := HRK.out
        exact ⟨a, _, c, e⟩
      obtain ⟨za', zb', zc', rfl⟩ := hzs
      have HBR := Lib.hid hbel
      have hkey : ∀ w4 : World, Below wr.heap.size wr w4 → w4.cell? ⟨bb, off + k, none⟩ = some (.slice za' zb' zc') := fun w4 hb => cellSt hck hb
      have HKEY := Lib.hid hkey
      clear hx hy hz hp hq hnx hrk hxl hyl hru hkey
      go_wp2_with fail
      refine (HC1.out _ HBR.out).mono ?_
      rintro e w5 ⟨rfl, hb5⟩
      have HB5 := Lib.hid (below_step HBR.out hb5)
      have hc5 := HKEY.out w5 hb5
      go_wp2_with fail
      refine (HC2.out _ HB5.out).mono ?_
      rintro e w6 ⟨rfl, hb6⟩
      have HB6 := Lib.hid (below_step HB5.out hb6)
      have hc6 := HKEY.out w6 (below_step hb5 hb6)
      clear hb5 hb6 hc5 hck hbel
      by_cases hpq : p < q
      · have HBN : Hid (bestTo n L (k + 1 - 1) = x) := Lib.hid (by rw [Nat.add_sub_cancel, HNE.out, if_pos hpq])
        go_wp2
        go_roundw
        case rel => exact ⟨k + 1, by omega, by omega, by go_num, by rw [HBN.out]; exact HRK.out, HB6.out⟩
        case measure => simp [intOf]; omega
      · have HBN : Hid (bestTo n L (k + 1 - 1) = y) := Lib.hid (by rw [Nat.add_sub_cancel, HNE.out, if_neg hpq])
        go_wp2
        go_roundw
        case rel => exact ⟨k + 1, by omega, by omega, by go_num, by rw [HBN.out]; exact HRU.out, HB6.out⟩
        case measure => simp [intOf]; omega
    · have hkT : k = T := by omega
      subst hkT
      rw [HEND.out] at HRU
      have hyl : (bestP n L).length = n := by rw [← HEND.out]; exact HBL.out _
      obtain ⟨y, hy⟩ : ∃ y, y = bestP n L := ⟨_, rfl⟩
      rw [← hy] at HRU hyl
      have HYE := Lib.hid hy
      obtain ⟨yb, yo, yc, rfl, hcy, hyw, hy1, hy2⟩ := rdv_cells HRU.out (by omega)
      have HCY := Lib.hid (cells_below hcy hbel)
      rw [hyl] at hy1 ⊢
      have HYL := Lib.hid hyl
      have hbw := below_step hb1 hbel
      have hws := hbw.size
      have HOE := Lib.hid (own_empty wr w.heap.size hws)
      have HBW := Lib.hid (hbw.alloc hws (.cells #[] 3))
      clear hy hcy hyl hru
      go_wp2_with (at_builtin; refine wpList_cat rfl _ _ rfl w.heap.size wr.heap.size 0 0 [] rfl HOE.out rfl ⟨yb, yo, none⟩ n yc rfl y HYL.out.symm (fun j hj => by rw [Addr.add_lit]; exact cells_at (cells_below HCY.out ((Below.refl _ _).alloc (Nat.le_refl _) _)) j hj) (by omega) (by simp; omega) n (by omega) ?_)
      intro g' cap' w9 ho9 hg9 _
      have hb9 : Below w.heap.size w w9 := HBW.out.grown hg9 (by simp; omega) (fun q hq => by cases hq; exact hws)
      have HO9 : Hid (Own w9 w.heap.size (.slice (some ⟨g', 0, none⟩) n cap') (bestP n L)) := Lib.hid (by rw [← HYE.out]; simpa using ho9)
      clear ho9 hg9
      go_wp2
      go_ret
      exact ⟨_, rfl, HO9.out, hb9⟩

/-- What PairChanges, PairBest answer. -/
def pairChanges (n : Int) (ps : List (List Int)) : Int × Bool := if pairIn n ps then (costP (bestP n.toNat (decL ps)) (decL ps), true) else (0, false)
def pairBest (n : Int) (ps : List (List Int)) : List Int × Bool := if pairIn n ps then (bestP n.toNat (decL ps), true) else ([], false)

theorem bestP_len {n : Nat} (h1 : 1 ≤ n) (h6 : n ≤ 6) (L : List (Nat × Nat)) : (bestP n L).length = n := by
  rw [← bestTo_end]
  exact bestTo_in h1 h6 L _
theorem pairBest_len (n : Int) (ps : List (List Int)) : (pairBest n ps).1.length ≤ 2305843009213693952 := by
  unfold pairBest
  split
  · rename_i h
    obtain ⟨m, L, rfl, h1, h6, hs, rfl⟩ := pairIn_sub h
    rw [Int.toNat_natCast, bestP_len h1 h6]
    omega
  · simp

set_option maxHeartbeats 1600000 in
theorem iPairChanges_v (v : Value) (n : Int) (ps : List (List Int)) (w : World) (hv : RdM w v ps) (_ : (Lit.int .i64 n).wf = true) :
    Calls Try.prog 34 #[.int .i64 n, v] w (GivesIB w (pairChanges n ps)) := by
  cases h : pairIn n ps with
  | true =>
    have hr : pairChanges n ps = (costP (bestP n.toNat (decL ps)) (decL ps), true) := by simp [pairChanges, h]
    obtain ⟨m, L, rfl, h1, h6, hs, he, hin, hl, hd⟩ := pair_open h
    rw [hr, hd, Int.toNat_natCast]
    have HT := Lib.hid (told_yes hv h hd)
    have HC := Lib.hid fun (w1 : World) (u : Value) (hu : RdP w1 u L) => nearest_any m u L w1 hu hs h1 h6
    obtain ⟨C, hC⟩ : ∃ C, C = costP (bestP m L) L := ⟨_, rfl⟩
    rw [← hC] at HC ⊢
    clear hr h he hin hl hd hs hv hC
    go_enter Try.func34, Try.ntmps34
    go_wp2_with fail
    refine HT.out.mono ?_
    rintro e w1 ⟨u, rfl, ho, hb⟩
    have HRD := Lib.hid (ownP_rd ho)
    clear ho
    go_wp2_with fail
    refine (HC.out _ _ HRD.out).mono ?_
    rintro e w2 ⟨u2, rfl, ho2, hb2⟩
    go_wp2
    go_ret2
    exact ⟨rfl, below_step hb hb2⟩
  | false =>
    have hr : pairChanges n ps = (0, false) := by simp [pairChanges, h]
    rw [hr]
    have HT := Lib.hid (told_no hv h)
    clear hr h hv
    go_enter Try.func34, Try.ntmps34
    go_wp2_with fail
    refine HT.out.mono ?_
    rintro e w1 ⟨u, rfl, ho, hb⟩
    go_wp2
    go_ret2
    exact ⟨rfl, hb⟩

set_option maxHeartbeats 1600000 in
theorem iPairBest_v (v : Value) (n : Int) (ps : List (List Int)) (w : World) (hv : RdM w v ps) (_ : (Lit.int .i64 n).wf = true) :
    Calls Try.prog 35 #[.int .i64 n, v] w (FreshLB w (pairBest n ps)) := by
  cases h : pairIn n ps with
  | true =>
    have hr : pairBest n ps = (bestP n.toNat (decL ps), true) := by simp [pairBest, h]
    obtain ⟨m, L, rfl, h1, h6, hs, he, hin, hl, hd⟩ := pair_open h
    rw [hr, hd, Int.toNat_natCast]
    have HT := Lib.hid (told_yes hv h hd)
    have HC := Lib.hid fun (w1 : World) (u : Value) (hu : RdP w1 u L) => nearest_any m u L w1 hu hs h1 h6
    obtain ⟨C, hC⟩ : ∃ C, C = costP (bestP m L) L := ⟨_, rfl⟩
    rw [← hC] at HC
    clear hr h he hin hl hd hs hv hC
    go_enter Try.func35, Try.ntmps35
    go_wp2_with fail
    refine HT.out.mono ?_
    rintro e w1 ⟨u, rfl, ho, hb⟩
    have HRD := Lib.hid (ownP_rd ho)
    clear ho
    go_wp2_with fail
    refine (HC.out _ _ HRD.out).mono ?_
    rintro e w2 ⟨u2, rfl, ho2, hb2⟩
    go_wp2
    go_ret2
    exact ⟨_, rfl, own_mono ho2 hb.size, below_step hb hb2⟩
  | false =>
    have hr : pairBest n ps = ([], false) := by simp [pairBest, h]
    rw [hr]
    have HT := Lib.hid (told_no hv h)
    clear hr h hv
    go_enter Try.func35, Try.ntmps35
    go_wp2_with fail
    refine HT.out.mono ?_
    rintro e w1 ⟨u, rfl, ho, hb⟩
    go_wp2
    go_ret2
    exact ⟨_, rfl, own_nil _ _, hb⟩

set_option maxHeartbeats 1600000 in
theorem sPairBest_v (v : Value) (n : Int) (ps : List (List Int)) (w : World) (hv : RdM w v ps) (hw : (Lit.int .i64 n).wf = true) :
    Calls Try.prog 39 #[.int .i64 n, v] w (FreshLB w (pairBest n ps)) := by
  cases h : pairIn n ps with
  | true =>
    have hr : pairBest n ps = (bestP n.toNat (decL ps), true) := by simp [pairBest, h]
    have HT := Lib.hid (sIn_is true hv h hw)
    obtain ⟨m, L, rfl, h1, h6, hs, he, hin, hl, hd⟩ := pair_open h
    rw [hr, hd, Int.toNat_natCast]
    have HC := Lib.hid fun (w1 : World) (hb : Below w.heap.size w w1) => l8Best_any m v L w1 (by rw [← he]; exact rdM_below hv hb) hs h1 h6
    clear hr h he hin hl hd hs hv
    go_enter Try.func39, Try.ntmps39
    go_wp2_with fail
    refine HT.out.mono ?_
    rintro e w1 ⟨rfl, hb⟩
    go_wp2_with fail
    refine (HC.out _ hb).mono ?_
    rintro e w2 ⟨u2, rfl, ho2, hb2⟩
    go_wp2
    go_ret2
    exact ⟨_, rfl, own_mono ho2 hb.size, below_step hb hb2⟩
  | false =>
    have hr : pairBest n ps = ([], false) := by simp [pairBest, h]
    rw [hr]
    have HT := Lib.hid (sIn_is false hv h hw)
    clear hr h hv
    go_enter Try.func39, Try.ntmps39
    go_wp2_with fail
    refine HT.out.mono ?_
    rintro e w1 ⟨rfl, hb⟩
    go_wp2
    go_ret2
    exact ⟨_, rfl, own_mono (own_empty w1 w1.heap.size (Nat.le_refl _)) hb.size, hb.alloc hb.size _⟩

set_option maxHeartbeats 1600000 in
theorem sPairChanges_v (v : Value) (n : Int) (ps : List (List Int)) (w : World) (hv : RdM w v ps) (hw : (Lit.int .i64 n).wf = true) :
    Calls Try.prog 37 #[.int .i64 n, v] w (GivesIB w (pairChanges n ps)) := by
  cases h : pairIn n ps with
  | true =>
    have hr : pairChanges n ps = (costP (bestP n.toNat (decL ps)) (decL ps), true) := by simp [pairChanges, h]
    have HT := Lib.hid (sIn_is true hv h hw)
    obtain ⟨m, L, rfl, h1, h6, hs, he, hin, hl, hd⟩ := pair_open h
    rw [hr, hd, Int.toNat_natCast]
    have hbl := bestP_len h1 h6 L
    have HC := Lib.hid fun (w1 : World) (hb : Below w.heap.size w w1) => l8Best_any m v L w1 (by rw [← he]; exact rdM_below hv hb) hs h1 h6
    obtain ⟨X, hX⟩ : ∃ X, X = bestP m L := ⟨_, rfl⟩
    rw [← hX] at HC hbl ⊢
    have HD := Lib.hid fun (w1 : World) (u : Value) (hb : Below w.heap.size w w1) (hu : RdV w1 u X) => l8Cost_any u v X L w1 hu (by rw [← he]; exact rdM_below hv hb) (by rw [hbl]; exact hin) (by omega) (by omega)
    obtain ⟨C, hC⟩ : ∃ C, C = costP X L := ⟨_, rfl⟩
    rw [← hC] at HD ⊢
    clear hr h he hin hl hd hs hv hX hC hbl
    go_enter Try.func37, Try.ntmps37
    go_wp2_with fail
    refine HT.out.mono ?_
    rintro e w1 ⟨rfl, hb⟩
    go_wp2_with fail
    refine (HC.out _ hb).mono ?_
    rintro e w2 ⟨u2, rfl, ho2, hb2⟩
    have HB2 := Lib.hid (below_step hb hb2)
    have HRV := Lib.hid (own_rdv ho2)
    clear ho2 hb2
    go_wp2_with fail
    refine (HD.out _ _ HB2.out HRV.out).mono ?_
    rintro e w3 ⟨rfl, hb3⟩
    go_wp2
    go_ret2
    exact ⟨rfl, below_step HB2.out hb3⟩
  | false =>
    have hr : pairChanges n ps = (0, false) := by simp [pairChanges, h]
    rw [hr]
    have HT := Lib.hid (sIn_is false hv h hw)
    clear hr h hv
    go_enter Try.func37, Try.ntmps37
    go_wp2_with fail
    refine HT.out.mono ?_
    rintro e w1 ⟨rfl, hb⟩
    go_wp2
    go_ret2
    exact ⟨rfl, hb⟩

end Go.Proofs.Ytbmpchpcihnbdaa

/-
  Maths for the plain laws of pair lists: how many pairs two lists share, told step by step. And a row of a list of pairs, read.
-/
namespace Go.Proofs.Ytbmpchpcihnbdaa
set_option linter.unusedSimpArgs false
set_option linter.unusedVariables false
set_option maxRecDepth 100000

def bothTo (M L : List (Nat × Nat)) (k : Nat) : Nat := (L.take k).countP fun p => M.contains p
def hitTo (M : List (Nat × Nat)) (p : Nat × Nat) (t : Nat) : Nat := if (M.take t).contains p then 1 else 0
theorem bothTo_zero (M L : List (Nat × Nat)) : bothTo M L 0 = 0 := by simp [bothTo]
theorem hitTo_zero (M : List (Nat × Nat)) (p : Nat × Nat) : hitTo M p 0 = 0 := by simp [hitTo]
theorem hitTo_le (M : List (Nat × Nat)) (p : Nat × Nat) (t : Nat) : hitTo M p t ≤ 1 := by unfold hitTo; split <;> omega
theorem bothTo_le (M L : List (Nat × Nat)) (k : Nat) : bothTo M L k ≤ k := by
  unfold bothTo
  exact Nat.le_trans List.countP_le_length (by rw [List.length_take]; omega)
theorem bothTo_next (M L : List (Nat × Nat)) (k : Nat) (h : k < L.length) : bothTo M L (k + 1) = bothTo M L k + hitTo M (L.getD k (0, 0)) M.length := by
  unfold bothTo hitTo
  rw [take_snocP L k h, List.countP_append, List.countP_cons, List.countP_nil, List.take_length]
  simp
theorem bothTo_end (M L : List (Nat × Nat)) : bothTo M L L.length = L.countP fun p => M.contains p := by unfold bothTo; rw [List.take_length]
theorem hitTo_next (M : List (Nat × Nat)) (hM : M.Nodup) (p : Nat × Nat) (t : Nat) (h : t < M.length) : hitTo M p (t + 1) = hitTo M p t + if p = M.getD t (0, 0) then 1 else 0 := by
  unfold hitTo
  have hg : M.getD t (0, 0) = M[t] := by simp [List.getD, h]
  rw [take_snocP M t h]
  by_cases e : p = M.getD t (0, 0)
  · have hn : p ∉ M.take t := by
      intro hm
      rw [e, hg] at hm
      have hs : M.take t ++ [M[t]] = M.take (t + 1) := by rw [take_snocP M t h, hg]
      have hd : (M.take t ++ [M[t]]).Nodup := by rw [hs]; exact hM.sublist (List.take_sublist _ _)
      exact (List.nodup_append.1 hd).2.2 _ hm _ (List.mem_singleton.2 rfl) rfl
    simp [hn, ← e]
  · rw [if_neg e]
    by_cases hm : p ∈ M.take t
    · simp [hm]
    · simp only [List.getD_eq_getElem?_getD] at e
      simp [hm, e]

theorem rdM_enc {w : World} {v : Value} {L : List (Nat × Nat)} {k : Nat} (h : RdM w v (encPs L)) (hk : k < L.length) : ∃ b off cap a c, v = .slice (some ⟨b, off, none⟩) L.length cap ∧ w.cell? ⟨b, off + k, none⟩ = some (.slice a 2 c) ∧ RdV w (.slice a 2 c) (encP (L.getD k (0, 0))) := by
  obtain ⟨ao, ca, vs, hvl, rfl, h1, h2, h3, h4⟩ := h
  have hk2 : k < (encPs L).length := by rw [encPs_length]; exact hk
  rcases h3 with h3 | ⟨b, off, rfl, hc⟩
  · rw [h3] at hk2; simp at hk2
  · have hr := h4 k hk2
    have hcell := hc k hk2
    rw [encPs_getD L hk] at hr
    have hr0 := hr
    obtain ⟨a, c, e, _⟩ := hr0
    rw [encLen] at e
    rw [e] at hr hcell
    exact ⟨b, off, ca, a, c, by rw [encPs_length], hcell, hr⟩

end Go.Proofs.Ytbmpchpcihnbdaa

