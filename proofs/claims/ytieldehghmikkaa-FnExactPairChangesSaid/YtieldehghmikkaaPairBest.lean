/-
  The contract of impl.nearest: a range over a function. (Made by wip/gen/mkbest.py.)
-/
import Derived.Test.YtieldehghmikkaaPairBestM
import Derived.Test.YtieldehghmikkaaPairOfs
import Derived.Test.YtieldehghmikkaaMatIn
import Derived.Test.YtieldehghmikkaaLists
import Derived.Test.YtieldehghmikkaaFinRank
namespace Go.Proofs.Ytieldehghmikkaa
set_option linter.unusedSimpArgs false
set_option linter.unusedVariables false
set_option linter.unnecessarySimpa false
open Go.RowKit Go.Shelf
set_option maxRecDepth 100000

attribute [local go_sem] Oper.semAt_some

section
variable {n l : Nat} {o : Oper} {a : Act} {w : World} {K : Act → World → Prop} {Q : Exit → Act → World → Prop}

theorem wpIn_mv {F : Fence} (x : Operand) (ho : o.op = .move x ∨ o.op = .assign x) (u : Value) (hx : a.eval x = u) (h : K (a.put o.dst u) w) : o.wpIn F n Try.prog a w K Q := by
  subst hx
  unfold Oper.wpIn
  rcases ho with ho | ho
  · refine ⟨by simp [Oper.about, ho], ?_⟩
    rw [Oper.semAt_plain F _ _ (by rw [ho]; intro c hc; cases hc)]
    simp only [execOp, ho, Sem.run_pure, Sem.run_bind, Result.andThen_ok]
    exact h
  · refine ⟨by simp [Oper.about, ho], ?_⟩
    rw [Oper.semAt_plain F _ _ (by rw [ho]; intro c hc; cases hc)]
    simp only [execOp, ho, Sem.run_pure, Sem.run_bind, Result.andThen_ok]
    exact h

theorem wpIn_loadP {F : Fence} (x : Operand) (ho : o.op = .load 43 x) (B : Nat) (v : Value) (hv : Boxed w B 43 v) (hx : a.eval x = .pointer (some ⟨B, 0, none⟩)) (h : K (a.put o.dst v) w) : o.wpIn F n Try.prog a w K Q := by
  have hr : (Instr.loadAt 43 (.pointer (some ⟨B, 0, none⟩))).run Try.prog w = .ok v w := by
    have hc := hv.cell
    simp [go_sem, hc]
  unfold Oper.wpIn
  refine ⟨by simp [Oper.about, ho], ?_⟩
  rw [Oper.semAt_plain F _ _ (by rw [ho]; intro c hc; cases hc)]
  simp only [execOp, ho, hx, Sem.run_bind, hr, Sem.run_pure, Result.andThen_ok]
  exact h

theorem wpIn_loadR {F : Fence} (x : Operand) (ho : o.op = .load 27 x) (B : Nat) (v : Value) (hv : Boxed w B 27 v) (hx : a.eval x = .pointer (some ⟨B, 0, none⟩)) (h : K (a.put o.dst v) w) : o.wpIn F n Try.prog a w K Q := by
  have hr : (Instr.loadAt 27 (.pointer (some ⟨B, 0, none⟩))).run Try.prog w = .ok v w := by
    have hc := hv.cell
    simp [go_sem, hc]
  unfold Oper.wpIn
  refine ⟨by simp [Oper.about, ho], ?_⟩
  rw [Oper.semAt_plain F _ _ (by rw [ho]; intro c hc; cases hc)]
  simp only [execOp, ho, hx, Sem.run_bind, hr, Sem.run_pure, Result.andThen_ok]
  exact h

theorem wpIn_call2 (f : FuncId) (x y : Operand) (t t' : TypeId) (ho : o.op = .call { callee := .value (.func f), args := #[x, y], argTypes := #[t, t'] }) (u : Value) (hx : a.eval x = u) (v : Value) (hy : a.eval y = v)
    (R : Ending → World → Prop) (hc : Calls Try.prog f #[u, v] w R) (he : (callFunc f #[u, v]).run Try.prog w = .ok (.enter f #[u, v]) w) (h : ∀ e w', R e w' → ∃ v, e = .returned v ∧ K (a.put o.dst v) w') : o.wpIn (Fence.wide.inRound l) n Try.prog a w K Q := by
  unfold Oper.wpIn
  refine ⟨fun _ _ => trivial, ?_⟩
  rw [Oper.semAt_plain _ _ _ (by rw [ho]; intro c hc'; cases hc')]
  have hcall : (execOp a.eval o).run Try.prog w = .ok (.enter f #[u, v]) w := by
    simp only [execOp, ho, List.map_toArray, List.map_cons, List.map_nil, hx, hy, resolve, invoke, show a.eval (.func f) = .func (.func f) #[] #[] from rfl]
    simp [Deferred.ofValue, he]
  rw [hcall]
  refine ⟨fun hd => by simp [Fence.wide] at hd, ?_⟩
  refine CallsIn.mono (callsIn_wide.2 hc) ?_
  intro e w' hr
  obtain ⟨v, rfl, hk⟩ := h e w' hr
  exact hk
end

/-- What the loop keeps: the pairs, the best partition so far, how many changes it takes, and all that is older. -/
def HoldsB (c : Nat) (L : List (Nat × Nat)) (F : Int) (vp : Value) (w : World) (pre : List Nat) (W : World) : Prop :=
  Boxed W w.heap.size 43 vp ∧ (∃ vb, Boxed W (w.heap.size + 1) 27 vb ∧ Own W (w.heap.size + 3) vb (bstTo c L F pre).1) ∧ Boxed W (w.heap.size + 2) 3 (.int .i64 (bstTo c L F pre).2) ∧ Below w.heap.size w W

theorem boxedOwn (m b : Nat) (t : TypeId) (v : Value) : OwnFrom m (fun (_ : List Nat) W => Boxed W b t v) := fun s A C row h hg hrow => by
  refine (hg.block b (Array.getElem?_eq_some_iff.1 h).1 ?_).trans h
  intro e
  obtain ⟨_, o, ho, hc⟩ := hrow b e.symm
  rw [show A.heap[b]? = _ from h] at ho
  cases ho
  cases hc
theorem ownOwn {m B : Nat} {v : Value} {xs : List Int} {A C : World} {row : Option Nat} (h : Own A B v xs) (hg : A.grownBy C row) (hrow : ∀ r, row = some r → m ≤ r ∧ ∃ o : Obj, A.heap[r]? = some o ∧ o.isCells = false) : Own C B v xs := by
  refine own_grown h hg ?_
  cases hv : v.ownBlock with
  | none => exact .inl rfl
  | some k =>
    refine .inr fun e => ?_
    obtain ⟨_, o, ho, hc⟩ := hrow k e.symm
    rcases h.2 with ⟨rfl, _⟩ | ⟨g, cap, cur, rfl, _, hgc, _⟩
    · cases hv
    · simp [Value.ownBlock] at hv
      subst hv
      rw [hgc] at ho
      cases ho
      cases hc

theorem holdsB_own (c : Nat) (L : List (Nat × Nat)) (F : Int) (m : Nat) (vp : Value) (w : World) (hm : w.heap.size ≤ m) : OwnFrom m (HoldsB c L F vp w) := fun pre A C row ⟨h1, ⟨vb, h2, h3⟩, h4, h5⟩ hg hrow =>
  ⟨boxedOwn m _ _ _ pre A C row h1 hg hrow, ⟨vb, boxedOwn m _ _ _ pre A C row h2 hg hrow, ownOwn h3 hg hrow⟩, boxedOwn m _ _ _ pre A C row h4 hg hrow, (ownFrom_below (Nat.le_refl _) hm : OwnFrom m (fun (_ : List Nat) W => Below w.heap.size w W)) pre A C row h5 hg hrow⟩

theorem holdsB_below {c : Nat} {L : List (Nat × Nat)} {F : Int} {vp : Value} {w : World} {pre : List Nat} {W W' : World} (h : HoldsB c L F vp w pre W) (hb : Below W.heap.size W W') : HoldsB c L F vp w pre W' := by
  obtain ⟨h1, ⟨vb, h2, h3⟩, h4, h5⟩ := h
  exact ⟨boxed_below h1 hb, ⟨vb, boxed_below h2 hb, own_below h3 hb⟩, boxed_below h4 hb, below_step h5 hb⟩

theorem ownM_keep1 {A C : World} {B : Nat} {v : Value} {xs : List Int} (h : Own A B v xs) (hk : ∀ j, v.ownBlock = some j → C.heap[j]? = A.heap[j]?) : Own C B v xs := by
  refine ⟨h.1, ?_⟩
  rcases h.2 with h2 | ⟨g, cap, cur, rfl, hb, hg, rest⟩
  · exact .inl h2
  · exact .inr ⟨g, cap, cur, rfl, hb, by rw [hk g rfl]; exact hg, rest⟩

theorem near_no {c : Nat} {L : List (Nat × Nat)} {F : Int} {m x : Nat} {vp : Value} {w W W4 w6 : World} {pre : List Nat} (h : HoldsB c L F vp w pre W) (h4 : Below W.heap.size W W4) (h6 : Below W4.heap.size W4 w6)
    (hlt : (bstTo c L F pre).2 ≤ ((unlikeN (ofP (atL c (x : Nat))) L : Nat) : Int)) (hbx : True) :
    KeepsFrom m W w6 ∧ KpL w.heap.size W w6 ∧ HoldsB c L F vp w (pre ++ [x]) w6 := by
  have hb := below_step h4 h6
  refine ⟨keepsFrom_below _ hb, ⟨hb.mono h.2.2.2.size, keepL_below hb⟩, ?_⟩
  have := holdsB_below h hb
  unfold HoldsB at this ⊢
  rw [bstTo_snoc, bstStep, if_neg (by omega)]
  exact this

theorem near_yes {c : Nat} {L : List (Nat × Nat)} {F : Int} {m x : Nat} {vp u : Value} {w W W4 w6 : World} {pre : List Nat} (h : HoldsB c L F vp w pre W) (h4 : Below W.heap.size W W4) (h6 : Below W4.heap.size W4 w6) (ho : Own W4 W.heap.size u (atL c (x : Nat)))
    (hlt : ((unlikeN (ofP (atL c (x : Nat))) L : Nat) : Int) < (bstTo c L F pre).2) (hbx : True) :
    KeepsFrom m W ((w6.setCell ⟨w.heap.size + 1, 0, none⟩ u).setCell ⟨w.heap.size + 2, 0, none⟩ (.int .i64 ((unlikeN (ofP (atL c (x : Nat))) L : Nat) : Int))) ∧
    KpL w.heap.size W ((w6.setCell ⟨w.heap.size + 1, 0, none⟩ u).setCell ⟨w.heap.size + 2, 0, none⟩ (.int .i64 ((unlikeN (ofP (atL c (x : Nat))) L : Nat) : Int))) ∧
    HoldsB c L F vp w (pre ++ [x]) ((w6.setCell ⟨w.heap.size + 1, 0, none⟩ u).setCell ⟨w.heap.size + 2, 0, none⟩ (.int .i64 ((unlikeN (ofP (atL c (x : Nat))) L : Nat) : Int))) := by
  have hb := below_step h4 h6
  obtain ⟨b1, ⟨vb, b2, _⟩, b3, hB⟩ := holdsB_below h hb
  have hlt2 := b3.lt
  have hW3 : w.heap.size + 3 ≤ W.heap.size := by have := h.2.2.1.lt; omega
  have hu : Own w6 (w.heap.size + 3) u (atL c (x : Nat)) := own_mono (own_below ho h6) hW3
  have hlow : ∀ k, u.ownBlock = some k → w.heap.size + 3 ≤ k := fun k hk => (World.ownsRow.lt hu k hk).1
  have keepL1 : ∀ (A : World) (k : Nat) (t : TypeId) (v z : Value), Boxed A k t v → t ≠ 82 → KeepL A (A.setCell ⟨k, 0, none⟩ z) := fun A k t v z hbx hne g Y r => by
    refine rowAt_block r (heap_setCell_other A ⟨k, 0, none⟩ g z ?_)
    intro e
    simp at e
    subst e
    have e1 : A.heap[g]? = some (.cells #[v] t (0, 0)) := hbx
    have e2 : A.heap[g]? = some (.cells (rowC Y) 82 (0, 0)) := r
    rw [e2] at e1
    simp at e1
    exact hne e1.2.symm
  have own1 : ∀ (A : World) (k : Nat) (z : Value), Own A (w.heap.size + 3) u (atL c (x : Nat)) → k < w.heap.size + 3 → Own (A.setCell ⟨k, 0, none⟩ z) (w.heap.size + 3) u (atL c (x : Nat)) := fun A k z ha hk => by
    refine ownM_keep1 ha fun j hj => heap_setCell_other A ⟨k, 0, none⟩ j z ?_
    intro e
    have := (World.ownsRow.lt ha j hj).1
    simp at e
    omega
  refine ⟨((keepsFrom_below _ hb).trans ((KeepsOthers.setCell _ _ _).from m)).trans ((KeepsOthers.setCell _ _ _).from m), ⟨?_, ?_⟩, ?_⟩
  · exact ((hb.mono h.2.2.2.size).setCell (p := ⟨w.heap.size + 1, 0, none⟩) (by simp) _).setCell (p := ⟨w.heap.size + 2, 0, none⟩) (by simp) _
  · exact ((keepL_below hb).trans (keepL1 _ _ _ _ _ b2 (by decide))).trans (keepL1 _ _ _ _ _ (b3.other (by omega) _) (by decide))
  · unfold HoldsB
    rw [bstTo_snoc, bstStep, if_pos hlt]
    refine ⟨(b1.other (by omega) _).other (by omega) _, ⟨u, (b2.set u).other (by omega) _, own1 _ _ _ (own1 _ _ _ hu (by omega)) (by omega)⟩, ?_, ?_⟩
    · exact (b3.other (by omega) _).set _
    · exact (hB.setCell (p := ⟨w.heap.size + 1, 0, none⟩) (by simp) _).setCell (p := ⟨w.heap.size + 2, 0, none⟩) (by simp) _

theorem freshSome {w : World} {B : Nat} {u : Value} {xs : List Int} (h : Own w B u xs) (h1 : 1 ≤ xs.length) : ∃ g cap, u = .slice (some ⟨g, 0, none⟩) xs.length cap := by
  rcases own_view h with ⟨_, rfl⟩ | ⟨g, cap, rfl, _⟩
  · simp at h1
  · exact ⟨g, cap, rfl⟩

set_option maxHeartbeats 3200000 in
theorem nearest_in (n : Nat) (hn : 3 ≤ n) (c : Nat) (v : Value) (L : List (Nat × Nat)) (w : World) (hv : RdP w v L) (hs : L.Sublist (allP c)) (hc1 : 1 ≤ c) (hc6 : c ≤ 6) :
    CallsIn Fence.wide n Try.prog 55 #[.int .i64 c, v] w fun e w' => ∃ vb, e = .returned (.tuple #[vb, .int .i64 (costP (bestP c L) L)]) ∧ Own w' w.heap.size vb (bestP c L) ∧ Below w.heap.size w w' := by
  have h1 : 1 ≤ n := by omega
  have HV := Lib.hid hv
  obtain ⟨ao, ca, hve, _, hcm, _⟩ := hv
  obtain ⟨l, hl⟩ : ∃ l, l = L.length := ⟨_, rfl⟩
  rw [← hl] at hve
  subst hve
  have hl15 : L.length ≤ 15 := by have := hs.length_le; have := allP_le c hc6; omega
  have HL15 := Lib.hid hl15
  have HS := Lib.hid hs
  have HPC := Lib.hid fun (w1 : World) => pairCount_any c w1 (by omega)
  have hF : c * (c - 1) / 2 ≤ 15 := by
    have : c = 1 ∨ c = 2 ∨ c = 3 ∨ c = 4 ∨ c = 5 ∨ c = 6 := by omega
    rcases this with rfl | rfl | rfl | rfl | rfl | rfl <;> decide
  have HEND := Lib.hid (bst_all hc1 hc6 hs)
  obtain ⟨F0, hF0⟩ : ∃ F0, F0 = c * (c - 1) / 2 := ⟨_, rfl⟩
  rw [← hF0] at HPC hF HEND
  clear hs hF0 hl hl15
  refine callsIn_of_wp_marks Try.func55 rfl trivial ?_ rfl
  simp only [Try.ntmps55, List.size_toArray, List.length_cons, List.length_nil, Nat.reduceAdd, Nat.reduceSub, Array.replicate_succ, Array.replicate_zero, List.push_toArray, List.append_toArray, List.nil_append, List.cons_append]
  gi_wp2_with (first | (refine ⟨trivial, ?_⟩; gi_at_call 74; refine (callsIn_wide.2 (HPC.out _)).mono ?_; rintro e w' ⟨rfl, rfl⟩) | (refine ⟨trivial, ?_⟩; gi_at_call 75; refine (linesOf_in _ _ _).mono ?_; rintro e w' ⟨rfl, rfl⟩))
  obtain ⟨W3, hW3⟩ : ∃ W3, W3 = (((w.alloc (.cells #[.slice ao l ca] 43)).alloc (.cells #[.slice none 0 0] 27)).alloc (.cells #[.int .i64 ((F0 : Int) + 1)] 3)) := ⟨_, rfl⟩
  have hsz3 : W3.heap.size = w.heap.size + 1 + 1 + 1 := by rw [hW3]; simp
  have hB3 : Below w.heap.size w W3 := by rw [hW3]; exact (((Below.refl _ _).alloc (Nat.le_refl _) _).alloc (by simp) _).alloc (by simp; omega) _
  have bP3 : Boxed W3 w.heap.size 43 (.slice ao l ca) := by rw [hW3]; exact ((Boxed.new w 43 (.slice ao l ca)).alloc _).alloc _
  have bB3 : Boxed W3 (w.heap.size + 1) 27 (.slice none 0 0) := by
    rw [hW3]
    have := (Boxed.new (w.alloc (.cells #[.slice ao l ca] 43)) 27 (.slice none 0 0)).alloc (.cells #[.int .i64 ((F0 : Int) + 1)] 3)
    simpa using this
  have bF3 : Boxed W3 (w.heap.size + 2) 3 (.int .i64 ((F0 : Int) + 1)) := by
    rw [hW3]
    have := Boxed.new ((w.alloc (.cells #[.slice ao l ca] 43)).alloc (.cells #[.slice none 0 0] 27)) 3 (.int .i64 ((F0 : Int) + 1))
    simpa using this
  rw [← hW3]
  have bN := Boxed.new W3 3 (.int .i64 c)
  rw [hsz3] at bN
  have hI0 : HoldsB c L ((F0 : Int) + 1) (.slice ao l ca) w [] W3 := ⟨bP3, ⟨_, bB3, own_nil _ _⟩, bF3, hB3⟩
  have hI1 := holdsB_below hI0 ((Below.refl W3.heap.size W3).alloc (Nat.le_refl _) (.cells #[.int .i64 c] 3))
  clear hW3 hI0 bP3 bB3 bF3
  refine wpIn_rangeFunc_ownH rfl h1 (gf := 88) (lb := #[.pointer (some ⟨w.heap.size + 1 + 1 + 1, 0, none⟩)]) rfl trivial (enters_of Try.func88 (by kernel_rfl) rfl)
    (lines_stops (n - 1) (by omega) (w.heap.size + 1 + 1 + 1) w.heap.size c hc1 (by omega) _ (by simp; omega) bN.cell) kpL_t (kpL_b (by simp; omega)) (Below.refl _ _) (fun _ => rfl)
    (HoldsB c L ((F0 : Int) + 1) (.slice ao l ca) w)
    (fun _ _ _ => False)
    (holdsB_own _ _ _ _ _ _ (by simp; omega))
    (fun _ _ _ _ _ hs _ _ => hs)
    hI1
    (fun x a' W => ∃ g, a' = { tmps := #[.int .i64 c, .slice ao l ca, undef, .pointer (some ⟨w.heap.size, 0, none⟩), .slice none 0 0, .int .i64 0, .pointer (some ⟨w.heap.size + 1, 0, none⟩), .pointer (some ⟨w.heap.size + 1 + 1, 0, none⟩), .pointer (some ⟨g, 0, none⟩), undef, undef, .int .i64 c, .int .i64 F0, .int .i64 ((F0 : Int) + 1), .int .i64 c, .func (.func 88) #[] #[.pointer (some ⟨w.heap.size + 1 + 1 + 1, 0, none⟩)], .agg (rowC (ln (atL c (x : Int)))), undef, undef, undef, undef, undef, undef, undef, undef, undef, undef, undef, undef, undef], defers := [] } ∧ RowAt W g (ln (atL c (x : Int))) ∧ w.heap.size ≤ g)
    (fun x a' => fun s A C row ⟨g, e, hr, hg⟩ hgr hrow => ⟨g, e, rowAt_ownFrom (β := Unit) 0 _ g _ s A C row hr hgr hrow, hg⟩) ?assign ?body ?done ?stop
  case assign =>
    intro l pre x W K hI hK
    have hz : RowAt (W.alloc (.cells #[.int .i64 0, .int .i64 0, .int .i64 0, .int .i64 0, .int .i64 0, .int .i64 0, .int .i64 0, .int .i64 0] 82)) W.heap.size (List.replicate 8 0) := heap_alloc_new W _
    have HZ := Lib.hid hz
    have HLX := Lib.hid (ln_length (xs := atL c (x : Int)) (by rw [atL_length]; omega))
    have HB := Lib.hid ((Below.refl W.heap.size W).alloc (Nat.le_refl _) (.cells #[.int .i64 0, .int .i64 0, .int .i64 0, .int .i64 0, .int .i64 0, .int .i64 0, .int .i64 0, .int .i64 0] 82))
    have hBW := hI.2.2.2.size
    have HI := Lib.hid hI
    clear hz hI
    gi_wp2_with (first | (refine wpListIn_storeL rfl _ _ rfl W.heap.size _ rfl rfl (List.replicate 8 0) rfl HLX.out HZ.out ?_; intro w3 hg3 ht3; have HG3 := Lib.hid hg3; have HB3 := Lib.hid (HB.out.trans (touch_below ht3 (Nat.le_refl _))); clear hg3 ht3))
    exact hK _ _ (keepsFrom_below _ HB3.out) ⟨HB3.out.mono hBW, keepL_below HB3.out⟩ (holdsB_below HI.out HB3.out) ⟨W.heap.size, rfl, HG3.out, hBW⟩
  case body =>
    rintro l' pre x a' W hl' hloop hH ⟨g, rfl, hr, hg⟩ hlt
    have HH := Lib.hid hH
    obtain ⟨hpb, ⟨vb, hbb, _⟩, hfb, hB⟩ := hH
    have hBW := hB.size
    have hpx : partIn (atL c (x : Int)) = true := atL_partIn_any c x hc1 (by omega)
    have HLX := Lib.hid (ln_length (xs := atL c (x : Int)) (by rw [atL_length]; omega))
    have HLL := Lib.hid (lineList_f (atL c (x : Int)) W hpx)
    have hxl : (atL c (x : Int)).length = c := atL_length _ _
    have hol := ofP_len (atL c (x : Int)) (by omega)
    have HR := Lib.hid hr
    have HRV := Lib.hid (rdP_below HV.out hB)
    have hPO := fun (u : Value) (w5 : World) (hu : RdV w5 u (atL c (x : Int))) => pairsOf_any u (atL c (x : Int)) w5 hu (by omega)
    have hlen1 : 1 ≤ (atL c (x : Int)).length := by omega
    obtain ⟨X, hX⟩ : ∃ X, X = ofP (atL c (x : Int)) := ⟨_, rfl⟩
    rw [← hX] at hPO hol
    have hUN := fun (u : Value) (w5 : World) (hu : RdP w5 u X) (hb : Below W.heap.size W w5) => unlike_any u (.slice ao l ca) X L w5 hu (rdP_below HRV.out hb) (by omega) (by have := HL15.out; omega)
    obtain ⟨z, hz⟩ : ∃ z, z = unlikeN X L := ⟨_, rfl⟩
    rw [← hz] at hUN
    obtain ⟨f, hf⟩ : ∃ f, f = (bstTo c L ((F0 : Int) + 1) pre).2 := ⟨_, rfl⟩
    rw [← hf] at hfb
    have HZ : Hid (((unlikeN (ofP (atL c (x : Nat))) L : Nat) : Int) = (z : Int)) := Lib.hid (by rw [← hX, hz])
    have HF := Lib.hid hf
    have HPO2 := Lib.hid hPO
    have HUN2 := Lib.hid hUN
    have HEP := Lib.hid (enters_of Try.func49 (by kernel_rfl) rfl)
    have HEU := Lib.hid (enters_of Try.func77 (by kernel_rfl) rfl)
    have HL1 := Lib.hid hlen1
    have HXL := Lib.hid hxl
    have HPB := Lib.hid hpb
    have HBB := Lib.hid hbb
    have HFB := Lib.hid hfb
    clear hpx hX hz hf hPO hUN hol hr hlen1 hxl hpb hbb hfb
    gi_wp2_with (first | (refine wpListIn_loadL rfl _ rfl g rfl _ HLX.out HR.out ?_) | (refine ⟨trivial, fun hd => by simp [Fence.wide] at hd, ?_⟩; refine CallsIn.mono (callsIn_wide.2 HLL.out) ?_; rintro e W4 ⟨u, rfl, hou, hb4⟩))
    have hpb := boxed_below HPB.out hb4
    have hbb := boxed_below HBB.out hb4
    have hfb := boxed_below HFB.out hb4
    obtain ⟨gu, cu, rfl⟩ := freshSome hou HL1.out
    rw [HXL.out] at hou ⊢
    have hp0 : Boxed W4.drew w.heap.size 43 (.slice ao l ca) := hpb
    have HPO : Hid (Calls Try.prog 49 #[.slice (some ⟨gu, 0, none⟩) c cu] W4.drew (FreshP W4.drew X)) := Lib.hid (HPO2.out _ _ (rdv_drewN (own_rdv hou) 1))
    have HUN := Lib.hid fun (u5 : Value) (w5 : World) (hu : RdP w5 u5 X) (hb : Below W4.heap.size W4 w5) => HUN2.out u5 w5 hu (below_step hb4 hb)
    have HW4 := Lib.hid hb4
    have HOU := Lib.hid hou
    have HBX : Hid True := trivial
    clear hb4 hou
    by_cases hzf : (z : Int) < f
    · have HLT : Hid (((unlikeN (ofP (atL c (x : Nat))) L : Nat) : Int) < (bstTo c L ((F0 : Int) + 1) pre).2) := Lib.hid (by rw [HZ.out, ← HF.out]; exact hzf)
      refine wpIn_region_any (by kernel_rfl) ?_
      change wpAnyIn _ _ _ _ _ _ _ _ _ (World.drew _)
      refine wpAnyIn_ready (rs := [0, 2]) (by kernel_rfl) (by simp) (AllReadyIn.cons rfl (fun K hK => ?_) (AllReadyIn.cons rfl (fun K hK => ?_) AllReadyIn.nil))
      · rw [if_pos (by rfl)]
        refine wpIn_mv _ (.inl rfl) (.slice (some ⟨gu, 0, none⟩) c cu) rfl (hK _ _ ?_)
        clear hK K
        simp only [Act.put, List.setIfInBounds_toArray, List.set_cons_zero, List.set_cons_succ, List.getElem_toArray, List.getElem_cons_zero, List.getElem_cons_succ]
        refine wpAnyIn_ready (rs := [1, 2]) (by kernel_rfl) (by simp) (AllReadyIn.cons rfl (fun K hK => ?_) (AllReadyIn.cons rfl (fun K hK => ?_) AllReadyIn.nil))
        · rw [if_pos (by rfl)]
          refine wpIn_call1 49 _ _ rfl _ rfl _ HPO.out (HEP.out _ _) ?_
          rintro e w5 ⟨u5, rfl, ho5, hb5⟩
          refine ⟨_, rfl, hK _ _ ?_⟩
          have hb5 : Below W4.heap.size W4 w5 := (below_drewN (Below.refl _ W4) 1).trans hb5
          have hp5 := boxed_below hpb hb5
          clear hK K
          simp only [Act.put, List.setIfInBounds_toArray, List.set_cons_zero, List.set_cons_succ, List.getElem_toArray, List.getElem_cons_zero, List.getElem_cons_succ]
          refine wpAnyIn_ready (rs := [2]) (by kernel_rfl) (by simp) (AllReadyIn.cons rfl (fun K hK => ?_) AllReadyIn.nil)
          rw [if_pos (by rfl)]
          refine wpIn_loadP _ rfl _ _ hp5 rfl (hK _ _ ?_)
          clear hK K
          simp only [Act.put, List.setIfInBounds_toArray, List.set_cons_zero, List.set_cons_succ, List.getElem_toArray, List.getElem_cons_zero, List.getElem_cons_succ]
          refine wpAnyIn_ready (rs := [3]) (by kernel_rfl) (by simp) (AllReadyIn.cons rfl (fun K hK => ?_) AllReadyIn.nil)
          rw [if_pos (by rfl)]
          refine wpIn_call2 77 _ _ _ _ rfl _ rfl _ rfl _ (HUN.out _ w5 (ownP_rd ho5) hb5) (HEU.out _ _) ?_
          rintro e w6 ⟨rfl, hb6⟩
          refine ⟨_, rfl, hK _ _ ?_⟩
          have hb6 : Below W4.heap.size W4 w6 := hb5.trans (hb6.mono hb5.size)
          clear hK K
          simp only [Act.put, List.setIfInBounds_toArray, List.set_cons_zero, List.set_cons_succ, List.getElem_toArray, List.getElem_cons_zero, List.getElem_cons_succ]
          refine wpAnyIn_ready (rs := [4]) (by kernel_rfl) (by simp) (AllReadyIn.cons rfl (fun K hK => ?_) AllReadyIn.nil)
          rw [if_pos (by rfl)]
          refine wpIn_mv _ (.inr rfl) (.int .i64 (z : Int)) rfl (hK _ _ ?_)
          clear hK K
          simp only [Act.put, List.setIfInBounds_toArray, List.set_cons_zero, List.set_cons_succ, List.getElem_toArray, List.getElem_cons_zero, List.getElem_cons_succ]
          refine wpAnyIn_done (by kernel_rfl) ?_ _
          have hfb6 := boxed_below hfb hb6
          have hbb6 := boxed_below hbb hb6
          have hc7 : w6.cell? ⟨w.heap.size + 1 + 1, 0, none⟩ = _ := hfb6.cell
          have hz7 : w6.frozen? ⟨w.heap.size + 1 + 1, 0, none⟩ = _ := hfb6.frozen
          have hc8 := hbb6.cell
          have hz8 := hbb6.frozen
          have hc9 : (w6.setCell ⟨w.heap.size + 1, 0, none⟩ (.slice (some ⟨gu, 0, none⟩) c cu)).cell? ⟨w.heap.size + 1 + 1, 0, none⟩ = _ := (hfb6.other (by omega) _).cell
          have hz9 : (w6.setCell ⟨w.heap.size + 1, 0, none⟩ (.slice (some ⟨gu, 0, none⟩) c cu)).frozen? ⟨w.heap.size + 1 + 1, 0, none⟩ = _ := (hfb6.other (by omega) _).frozen
          clear hpb hbb hfb hfb6 hbb6
          gi_wp2
          rw [← HZ.out]
          exact near_yes HH.out HW4.out hb6 HOU.out HLT.out HBX.out
        · rw [if_pos (by rfl)]
          refine wpIn_loadP _ rfl _ _ hp0 rfl (hK _ _ ?_)
          clear hK K
          simp only [Act.put, List.setIfInBounds_toArray, List.set_cons_zero, List.set_cons_succ, List.getElem_toArray, List.getElem_cons_zero, List.getElem_cons_succ]
          refine wpAnyIn_ready (rs := [1]) (by kernel_rfl) (by simp) (AllReadyIn.cons rfl (fun K hK => ?_) AllReadyIn.nil)
          rw [if_pos (by rfl)]
          refine wpIn_call1 49 _ _ rfl _ rfl _ HPO.out (HEP.out _ _) ?_
          rintro e w5 ⟨u5, rfl, ho5, hb5⟩
          refine ⟨_, rfl, hK _ _ ?_⟩
          have hb5 : Below W4.heap.size W4 w5 := (below_drewN (Below.refl _ W4) 1).trans hb5
          have hp5 := boxed_below hpb hb5
          clear hK K
          simp only [Act.put, List.setIfInBounds_toArray, List.set_cons_zero, List.set_cons_succ, List.getElem_toArray, List.getElem_cons_zero, List.getElem_cons_succ]
          refine wpAnyIn_ready (rs := [3]) (by kernel_rfl) (by simp) (AllReadyIn.cons rfl (fun K hK => ?_) AllReadyIn.nil)
          rw [if_pos (by rfl)]
          refine wpIn_call2 77 _ _ _ _ rfl _ rfl _ rfl _ (HUN.out _ w5 (ownP_rd ho5) hb5) (HEU.out _ _) ?_
          rintro e w6 ⟨rfl, hb6⟩
          refine ⟨_, rfl, hK _ _ ?_⟩
          have hb6 : Below W4.heap.size W4 w6 := hb5.trans (hb6.mono hb5.size)
          clear hK K
          simp only [Act.put, List.setIfInBounds_toArray, List.set_cons_zero, List.set_cons_succ, List.getElem_toArray, List.getElem_cons_zero, List.getElem_cons_succ]
          refine wpAnyIn_ready (rs := [4]) (by kernel_rfl) (by simp) (AllReadyIn.cons rfl (fun K hK => ?_) AllReadyIn.nil)
          rw [if_pos (by rfl)]
          refine wpIn_mv _ (.inr rfl) (.int .i64 (z : Int)) rfl (hK _ _ ?_)
          clear hK K
          simp only [Act.put, List.setIfInBounds_toArray, List.set_cons_zero, List.set_cons_succ, List.getElem_toArray, List.getElem_cons_zero, List.getElem_cons_succ]
          refine wpAnyIn_done (by kernel_rfl) ?_ _
          have hfb6 := boxed_below hfb hb6
          have hbb6 := boxed_below hbb hb6
          have hc7 : w6.cell? ⟨w.heap.size + 1 + 1, 0, none⟩ = _ := hfb6.cell
          have hz7 : w6.frozen? ⟨w.heap.size + 1 + 1, 0, none⟩ = _ := hfb6.frozen
          have hc8 := hbb6.cell
          have hz8 := hbb6.frozen
          have hc9 : (w6.setCell ⟨w.heap.size + 1, 0, none⟩ (.slice (some ⟨gu, 0, none⟩) c cu)).cell? ⟨w.heap.size + 1 + 1, 0, none⟩ = _ := (hfb6.other (by omega) _).cell
          have hz9 : (w6.setCell ⟨w.heap.size + 1, 0, none⟩ (.slice (some ⟨gu, 0, none⟩) c cu)).frozen? ⟨w.heap.size + 1 + 1, 0, none⟩ = _ := (hfb6.other (by omega) _).frozen
          clear hpb hbb hfb hfb6 hbb6
          gi_wp2
          rw [← HZ.out]
          exact near_yes HH.out HW4.out hb6 HOU.out HLT.out HBX.out
      · rw [if_pos (by rfl)]
        refine wpIn_loadP _ rfl _ _ hp0 rfl (hK _ _ ?_)
        clear hK K
        simp only [Act.put, List.setIfInBounds_toArray, List.set_cons_zero, List.set_cons_succ, List.getElem_toArray, List.getElem_cons_zero, List.getElem_cons_succ]
        refine wpAnyIn_ready (rs := [0]) (by kernel_rfl) (by simp) (AllReadyIn.cons rfl (fun K hK => ?_) AllReadyIn.nil)
        rw [if_pos (by rfl)]
        refine wpIn_mv _ (.inl rfl) (.slice (some ⟨gu, 0, none⟩) c cu) rfl (hK _ _ ?_)
        clear hK K
        simp only [Act.put, List.setIfInBounds_toArray, List.set_cons_zero, List.set_cons_succ, List.getElem_toArray, List.getElem_cons_zero, List.getElem_cons_succ]
        refine wpAnyIn_ready (rs := [1]) (by kernel_rfl) (by simp) (AllReadyIn.cons rfl (fun K hK => ?_) AllReadyIn.nil)
        rw [if_pos (by rfl)]
        refine wpIn_call1 49 _ _ rfl _ rfl _ HPO.out (HEP.out _ _) ?_
        rintro e w5 ⟨u5, rfl, ho5, hb5⟩
        refine ⟨_, rfl, hK _ _ ?_⟩
        have hb5 : Below W4.heap.size W4 w5 := (below_drewN (Below.refl _ W4) 1).trans hb5
        have hp5 := boxed_below hpb hb5
        clear hK K
        simp only [Act.put, List.setIfInBounds_toArray, List.set_cons_zero, List.set_cons_succ, List.getElem_toArray, List.getElem_cons_zero, List.getElem_cons_succ]
        refine wpAnyIn_ready (rs := [3]) (by kernel_rfl) (by simp) (AllReadyIn.cons rfl (fun K hK => ?_) AllReadyIn.nil)
        rw [if_pos (by rfl)]
        refine wpIn_call2 77 _ _ _ _ rfl _ rfl _ rfl _ (HUN.out _ w5 (ownP_rd ho5) hb5) (HEU.out _ _) ?_
        rintro e w6 ⟨rfl, hb6⟩
        refine ⟨_, rfl, hK _ _ ?_⟩
        have hb6 : Below W4.heap.size W4 w6 := hb5.trans (hb6.mono hb5.size)
        clear hK K
        simp only [Act.put, List.setIfInBounds_toArray, List.set_cons_zero, List.set_cons_succ, List.getElem_toArray, List.getElem_cons_zero, List.getElem_cons_succ]
        refine wpAnyIn_ready (rs := [4]) (by kernel_rfl) (by simp) (AllReadyIn.cons rfl (fun K hK => ?_) AllReadyIn.nil)
        rw [if_pos (by rfl)]
        refine wpIn_mv _ (.inr rfl) (.int .i64 (z : Int)) rfl (hK _ _ ?_)
        clear hK K
        simp only [Act.put, List.setIfInBounds_toArray, List.set_cons_zero, List.set_cons_succ, List.getElem_toArray, List.getElem_cons_zero, List.getElem_cons_succ]
        refine wpAnyIn_done (by kernel_rfl) ?_ _
        have hfb6 := boxed_below hfb hb6
        have hbb6 := boxed_below hbb hb6
        have hc7 : w6.cell? ⟨w.heap.size + 1 + 1, 0, none⟩ = _ := hfb6.cell
        have hz7 : w6.frozen? ⟨w.heap.size + 1 + 1, 0, none⟩ = _ := hfb6.frozen
        have hc8 := hbb6.cell
        have hz8 := hbb6.frozen
        have hc9 : (w6.setCell ⟨w.heap.size + 1, 0, none⟩ (.slice (some ⟨gu, 0, none⟩) c cu)).cell? ⟨w.heap.size + 1 + 1, 0, none⟩ = _ := (hfb6.other (by omega) _).cell
        have hz9 : (w6.setCell ⟨w.heap.size + 1, 0, none⟩ (.slice (some ⟨gu, 0, none⟩) c cu)).frozen? ⟨w.heap.size + 1 + 1, 0, none⟩ = _ := (hfb6.other (by omega) _).frozen
        clear hpb hbb hfb hfb6 hbb6
        gi_wp2
        rw [← HZ.out]
        exact near_yes HH.out HW4.out hb6 HOU.out HLT.out HBX.out
    · have HLT : Hid ((bstTo c L ((F0 : Int) + 1) pre).2 ≤ ((unlikeN (ofP (atL c (x : Nat))) L : Nat) : Int)) := Lib.hid (by rw [HZ.out, ← HF.out]; omega)
      refine wpIn_region_any (by kernel_rfl) ?_
      change wpAnyIn _ _ _ _ _ _ _ _ _ (World.drew _)
      refine wpAnyIn_ready (rs := [0, 2]) (by kernel_rfl) (by simp) (AllReadyIn.cons rfl (fun K hK => ?_) (AllReadyIn.cons rfl (fun K hK => ?_) AllReadyIn.nil))
      · rw [if_pos (by rfl)]
        refine wpIn_mv _ (.inl rfl) (.slice (some ⟨gu, 0, none⟩) c cu) rfl (hK _ _ ?_)
        clear hK K
        simp only [Act.put, List.setIfInBounds_toArray, List.set_cons_zero, List.set_cons_succ, List.getElem_toArray, List.getElem_cons_zero, List.getElem_cons_succ]
        refine wpAnyIn_ready (rs := [1, 2]) (by kernel_rfl) (by simp) (AllReadyIn.cons rfl (fun K hK => ?_) (AllReadyIn.cons rfl (fun K hK => ?_) AllReadyIn.nil))
        · rw [if_pos (by rfl)]
          refine wpIn_call1 49 _ _ rfl _ rfl _ HPO.out (HEP.out _ _) ?_
          rintro e w5 ⟨u5, rfl, ho5, hb5⟩
          refine ⟨_, rfl, hK _ _ ?_⟩
          have hb5 : Below W4.heap.size W4 w5 := (below_drewN (Below.refl _ W4) 1).trans hb5
          have hp5 := boxed_below hpb hb5
          clear hK K
          simp only [Act.put, List.setIfInBounds_toArray, List.set_cons_zero, List.set_cons_succ, List.getElem_toArray, List.getElem_cons_zero, List.getElem_cons_succ]
          refine wpAnyIn_ready (rs := [2]) (by kernel_rfl) (by simp) (AllReadyIn.cons rfl (fun K hK => ?_) AllReadyIn.nil)
          rw [if_pos (by rfl)]
          refine wpIn_loadP _ rfl _ _ hp5 rfl (hK _ _ ?_)
          clear hK K
          simp only [Act.put, List.setIfInBounds_toArray, List.set_cons_zero, List.set_cons_succ, List.getElem_toArray, List.getElem_cons_zero, List.getElem_cons_succ]
          refine wpAnyIn_ready (rs := [3]) (by kernel_rfl) (by simp) (AllReadyIn.cons rfl (fun K hK => ?_) AllReadyIn.nil)
          rw [if_pos (by rfl)]
          refine wpIn_call2 77 _ _ _ _ rfl _ rfl _ rfl _ (HUN.out _ w5 (ownP_rd ho5) hb5) (HEU.out _ _) ?_
          rintro e w6 ⟨rfl, hb6⟩
          refine ⟨_, rfl, hK _ _ ?_⟩
          have hb6 : Below W4.heap.size W4 w6 := hb5.trans (hb6.mono hb5.size)
          clear hK K
          simp only [Act.put, List.setIfInBounds_toArray, List.set_cons_zero, List.set_cons_succ, List.getElem_toArray, List.getElem_cons_zero, List.getElem_cons_succ]
          refine wpAnyIn_ready (rs := [4]) (by kernel_rfl) (by simp) (AllReadyIn.cons rfl (fun K hK => ?_) AllReadyIn.nil)
          rw [if_pos (by rfl)]
          refine wpIn_mv _ (.inr rfl) (.int .i64 (z : Int)) rfl (hK _ _ ?_)
          clear hK K
          simp only [Act.put, List.setIfInBounds_toArray, List.set_cons_zero, List.set_cons_succ, List.getElem_toArray, List.getElem_cons_zero, List.getElem_cons_succ]
          refine wpAnyIn_done (by kernel_rfl) ?_ _
          have hfb6 := boxed_below hfb hb6
          have hbb6 := boxed_below hbb hb6
          have hc7 : w6.cell? ⟨w.heap.size + 1 + 1, 0, none⟩ = _ := hfb6.cell
          clear hpb hbb hfb hfb6 hbb6
          gi_wp2
          exact near_no HH.out HW4.out hb6 HLT.out HBX.out
        · rw [if_pos (by rfl)]
          refine wpIn_loadP _ rfl _ _ hp0 rfl (hK _ _ ?_)
          clear hK K
          simp only [Act.put, List.setIfInBounds_toArray, List.set_cons_zero, List.set_cons_succ, List.getElem_toArray, List.getElem_cons_zero, List.getElem_cons_succ]
          refine wpAnyIn_ready (rs := [1]) (by kernel_rfl) (by simp) (AllReadyIn.cons rfl (fun K hK => ?_) AllReadyIn.nil)
          rw [if_pos (by rfl)]
          refine wpIn_call1 49 _ _ rfl _ rfl _ HPO.out (HEP.out _ _) ?_
          rintro e w5 ⟨u5, rfl, ho5, hb5⟩
          refine ⟨_, rfl, hK _ _ ?_⟩
          have hb5 : Below W4.heap.size W4 w5 := (below_drewN (Below.refl _ W4) 1).trans hb5
          have hp5 := boxed_below hpb hb5
          clear hK K
          simp only [Act.put, List.setIfInBounds_toArray, List.set_cons_zero, List.set_cons_succ, List.getElem_toArray, List.getElem_cons_zero, List.getElem_cons_succ]
          refine wpAnyIn_ready (rs := [3]) (by kernel_rfl) (by simp) (AllReadyIn.cons rfl (fun K hK => ?_) AllReadyIn.nil)
          rw [if_pos (by rfl)]
          refine wpIn_call2 77 _ _ _ _ rfl _ rfl _ rfl _ (HUN.out _ w5 (ownP_rd ho5) hb5) (HEU.out _ _) ?_
          rintro e w6 ⟨rfl, hb6⟩
          refine ⟨_, rfl, hK _ _ ?_⟩
          have hb6 : Below W4.heap.size W4 w6 := hb5.trans (hb6.mono hb5.size)
          clear hK K
          simp only [Act.put, List.setIfInBounds_toArray, List.set_cons_zero, List.set_cons_succ, List.getElem_toArray, List.getElem_cons_zero, List.getElem_cons_succ]
          refine wpAnyIn_ready (rs := [4]) (by kernel_rfl) (by simp) (AllReadyIn.cons rfl (fun K hK => ?_) AllReadyIn.nil)
          rw [if_pos (by rfl)]
          refine wpIn_mv _ (.inr rfl) (.int .i64 (z : Int)) rfl (hK _ _ ?_)
          clear hK K
          simp only [Act.put, List.setIfInBounds_toArray, List.set_cons_zero, List.set_cons_succ, List.getElem_toArray, List.getElem_cons_zero, List.getElem_cons_succ]
          refine wpAnyIn_done (by kernel_rfl) ?_ _
          have hfb6 := boxed_below hfb hb6
          have hbb6 := boxed_below hbb hb6
          have hc7 : w6.cell? ⟨w.heap.size + 1 + 1, 0, none⟩ = _ := hfb6.cell
          clear hpb hbb hfb hfb6 hbb6
          gi_wp2
          exact near_no HH.out HW4.out hb6 HLT.out HBX.out
      · rw [if_pos (by rfl)]
        refine wpIn_loadP _ rfl _ _ hp0 rfl (hK _ _ ?_)
        clear hK K
        simp only [Act.put, List.setIfInBounds_toArray, List.set_cons_zero, List.set_cons_succ, List.getElem_toArray, List.getElem_cons_zero, List.getElem_cons_succ]
        refine wpAnyIn_ready (rs := [0]) (by kernel_rfl) (by simp) (AllReadyIn.cons rfl (fun K hK => ?_) AllReadyIn.nil)
        rw [if_pos (by rfl)]
        refine wpIn_mv _ (.inl rfl) (.slice (some ⟨gu, 0, none⟩) c cu) rfl (hK _ _ ?_)
        clear hK K
        simp only [Act.put, List.setIfInBounds_toArray, List.set_cons_zero, List.set_cons_succ, List.getElem_toArray, List.getElem_cons_zero, List.getElem_cons_succ]
        refine wpAnyIn_ready (rs := [1]) (by kernel_rfl) (by simp) (AllReadyIn.cons rfl (fun K hK => ?_) AllReadyIn.nil)
        rw [if_pos (by rfl)]
        refine wpIn_call1 49 _ _ rfl _ rfl _ HPO.out (HEP.out _ _) ?_
        rintro e w5 ⟨u5, rfl, ho5, hb5⟩
        refine ⟨_, rfl, hK _ _ ?_⟩
        have hb5 : Below W4.heap.size W4 w5 := (below_drewN (Below.refl _ W4) 1).trans hb5
        have hp5 := boxed_below hpb hb5
        clear hK K
        simp only [Act.put, List.setIfInBounds_toArray, List.set_cons_zero, List.set_cons_succ, List.getElem_toArray, List.getElem_cons_zero, List.getElem_cons_succ]
        refine wpAnyIn_ready (rs := [3]) (by kernel_rfl) (by simp) (AllReadyIn.cons rfl (fun K hK => ?_) AllReadyIn.nil)
        rw [if_pos (by rfl)]
        refine wpIn_call2 77 _ _ _ _ rfl _ rfl _ rfl _ (HUN.out _ w5 (ownP_rd ho5) hb5) (HEU.out _ _) ?_
        rintro e w6 ⟨rfl, hb6⟩
        refine ⟨_, rfl, hK _ _ ?_⟩
        have hb6 : Below W4.heap.size W4 w6 := hb5.trans (hb6.mono hb5.size)
        clear hK K
        simp only [Act.put, List.setIfInBounds_toArray, List.set_cons_zero, List.set_cons_succ, List.getElem_toArray, List.getElem_cons_zero, List.getElem_cons_succ]
        refine wpAnyIn_ready (rs := [4]) (by kernel_rfl) (by simp) (AllReadyIn.cons rfl (fun K hK => ?_) AllReadyIn.nil)
        rw [if_pos (by rfl)]
        refine wpIn_mv _ (.inr rfl) (.int .i64 (z : Int)) rfl (hK _ _ ?_)
        clear hK K
        simp only [Act.put, List.setIfInBounds_toArray, List.set_cons_zero, List.set_cons_succ, List.getElem_toArray, List.getElem_cons_zero, List.getElem_cons_succ]
        refine wpAnyIn_done (by kernel_rfl) ?_ _
        have hfb6 := boxed_below hfb hb6
        have hbb6 := boxed_below hbb hb6
        have hc7 : w6.cell? ⟨w.heap.size + 1 + 1, 0, none⟩ = _ := hfb6.cell
        clear hpb hbb hfb hfb6 hbb6
        gi_wp2
        exact near_no HH.out HW4.out hb6 HLT.out HBX.out
  case done =>
    rintro D ys W hD rfl ⟨hpb, ⟨vb, hbb, hown⟩, hfb, hB⟩ hK
    have he := HEND.out
    rw [he] at hown hfb
    dsimp only at hown hfb
    obtain ⟨f, hf⟩ : ∃ f, f = costP (bestP c L) L := ⟨_, rfl⟩
    rw [← hf] at hfb
    have HFE := Lib.hid hf
    have hb0 : Boxed W.drew (w.heap.size + 1) 27 vb := hbb
    have hf0 : Boxed W.drew (w.heap.size + 2) 3 (.int .i64 f) := hfb
    have hK2 : W.drew.heap[D]? = some (.deferred (some [])) := hK
    have HOWN : Hid (Own W.drew (w.heap.size + 3) vb (bestP c L)) := Lib.hid (own_below hown (Below.refl _ _).drew)
    have HB : Hid (Below w.heap.size w W.drew) := Lib.hid hB.drew
    have HFB0 := Lib.hid hf0
    clear he hown hfb hf hbb hpb hB
    gi_wp2
    refine wpIn_region_any (by kernel_rfl) ?_
    change wpAnyIn _ _ _ _ _ _ _ _ _ (World.drew _)
    refine wpAnyIn_ready (rs := [0, 1]) (by kernel_rfl) (by simp) (AllReadyIn.cons rfl (fun K hK => ?_) (AllReadyIn.cons rfl (fun K hK => ?_) AllReadyIn.nil))
    · rw [if_pos (by rfl)]
      refine wpIn_loadR _ rfl _ _ hb0 rfl (hK _ _ ?_)
      clear hK K
      simp only [Act.put, List.setIfInBounds_toArray, List.set_cons_zero, List.set_cons_succ, List.getElem_toArray, List.getElem_cons_zero, List.getElem_cons_succ]
      refine wpAnyIn_ready (rs := [1, 2]) (by kernel_rfl) (by simp) (AllReadyIn.cons rfl (fun K hK => ?_) (AllReadyIn.cons rfl (fun K hK => ?_) AllReadyIn.nil))
      · rw [if_pos (by rfl)]
        refine wpIn_loadI _ rfl _ _ hf0 rfl (hK _ _ ?_)
        clear hK K
        simp only [Act.put, List.setIfInBounds_toArray, List.set_cons_zero, List.set_cons_succ, List.getElem_toArray, List.getElem_cons_zero, List.getElem_cons_succ]
        refine wpAnyIn_ready (rs := [2]) (by kernel_rfl) (by simp) (AllReadyIn.cons rfl (fun K hK => ?_) AllReadyIn.nil)
        rw [if_pos (by rfl)]
        refine wpIn_mv _ (.inr rfl) vb rfl (hK _ _ ?_)
        clear hK K
        simp only [Act.put, List.setIfInBounds_toArray, List.set_cons_zero, List.set_cons_succ, List.getElem_toArray, List.getElem_cons_zero, List.getElem_cons_succ]
        refine wpAnyIn_ready (rs := [3]) (by kernel_rfl) (by simp) (AllReadyIn.cons rfl (fun K hK => ?_) AllReadyIn.nil)
        rw [if_pos (by rfl)]
        refine wpIn_mv _ (.inr rfl) (.int .i64 f) rfl (hK _ _ ?_)
        clear hK K
        simp only [Act.put, List.setIfInBounds_toArray, List.set_cons_zero, List.set_cons_succ, List.getElem_toArray, List.getElem_cons_zero, List.getElem_cons_succ]
        refine wpAnyIn_done (by kernel_rfl) ?_ _
        gi_wp2
        rw [HFE.out] at HFB0
        refine ⟨by simp, .inl ⟨_, _, rfl, run_takeDeferred hK2, ?_⟩⟩
        refine ⟨_, results_tmp2 rfl _ _ _, vb, ?_, ?_, ?_⟩
        · rw [← HFE.out]; rfl
        · exact own_mono (ownOwn (m := 0) HOWN.out (grownBy_putObj' _ D _) (fun r e => by cases e; exact ⟨Nat.zero_le _, _, hK2, rfl⟩)) (by omega)
        · exact HB.out.trans (belowK_b (w := w) (Nat.le_refl _) W.drew D _ _ (by simp at hD; omega) hK2 rfl rfl)
      · rw [if_pos (by rfl)]
        refine wpIn_mv _ (.inr rfl) vb rfl (hK _ _ ?_)
        clear hK K
        simp only [Act.put, List.setIfInBounds_toArray, List.set_cons_zero, List.set_cons_succ, List.getElem_toArray, List.getElem_cons_zero, List.getElem_cons_succ]
        refine wpAnyIn_ready (rs := [1]) (by kernel_rfl) (by simp) (AllReadyIn.cons rfl (fun K hK => ?_) AllReadyIn.nil)
        rw [if_pos (by rfl)]
        refine wpIn_loadI _ rfl _ _ hf0 rfl (hK _ _ ?_)
        clear hK K
        simp only [Act.put, List.setIfInBounds_toArray, List.set_cons_zero, List.set_cons_succ, List.getElem_toArray, List.getElem_cons_zero, List.getElem_cons_succ]
        refine wpAnyIn_ready (rs := [3]) (by kernel_rfl) (by simp) (AllReadyIn.cons rfl (fun K hK => ?_) AllReadyIn.nil)
        rw [if_pos (by rfl)]
        refine wpIn_mv _ (.inr rfl) (.int .i64 f) rfl (hK _ _ ?_)
        clear hK K
        simp only [Act.put, List.setIfInBounds_toArray, List.set_cons_zero, List.set_cons_succ, List.getElem_toArray, List.getElem_cons_zero, List.getElem_cons_succ]
        refine wpAnyIn_done (by kernel_rfl) ?_ _
        gi_wp2
        rw [HFE.out] at HFB0
        refine ⟨by simp, .inl ⟨_, _, rfl, run_takeDeferred hK2, ?_⟩⟩
        refine ⟨_, results_tmp2 rfl _ _ _, vb, ?_, ?_, ?_⟩
        · rw [← HFE.out]; rfl
        · exact own_mono (ownOwn (m := 0) HOWN.out (grownBy_putObj' _ D _) (fun r e => by cases e; exact ⟨Nat.zero_le _, _, hK2, rfl⟩)) (by omega)
        · exact HB.out.trans (belowK_b (w := w) (Nat.le_refl _) W.drew D _ _ (by simp at hD; omega) hK2 rfl rfl)
    · rw [if_pos (by rfl)]
      refine wpIn_loadI _ rfl _ _ hf0 rfl (hK _ _ ?_)
      clear hK K
      simp only [Act.put, List.setIfInBounds_toArray, List.set_cons_zero, List.set_cons_succ, List.getElem_toArray, List.getElem_cons_zero, List.getElem_cons_succ]
      refine wpAnyIn_ready (rs := [0]) (by kernel_rfl) (by simp) (AllReadyIn.cons rfl (fun K hK => ?_) AllReadyIn.nil)
      rw [if_pos (by rfl)]
      refine wpIn_loadR _ rfl _ _ hb0 rfl (hK _ _ ?_)
      clear hK K
      simp only [Act.put, List.setIfInBounds_toArray, List.set_cons_zero, List.set_cons_succ, List.getElem_toArray, List.getElem_cons_zero, List.getElem_cons_succ]
      refine wpAnyIn_ready (rs := [2]) (by kernel_rfl) (by simp) (AllReadyIn.cons rfl (fun K hK => ?_) AllReadyIn.nil)
      rw [if_pos (by rfl)]
      refine wpIn_mv _ (.inr rfl) vb rfl (hK _ _ ?_)
      clear hK K
      simp only [Act.put, List.setIfInBounds_toArray, List.set_cons_zero, List.set_cons_succ, List.getElem_toArray, List.getElem_cons_zero, List.getElem_cons_succ]
      refine wpAnyIn_ready (rs := [3]) (by kernel_rfl) (by simp) (AllReadyIn.cons rfl (fun K hK => ?_) AllReadyIn.nil)
      rw [if_pos (by rfl)]
      refine wpIn_mv _ (.inr rfl) (.int .i64 f) rfl (hK _ _ ?_)
      clear hK K
      simp only [Act.put, List.setIfInBounds_toArray, List.set_cons_zero, List.set_cons_succ, List.getElem_toArray, List.getElem_cons_zero, List.getElem_cons_succ]
      refine wpAnyIn_done (by kernel_rfl) ?_ _
      gi_wp2
      rw [HFE.out] at HFB0
      refine ⟨by simp, .inl ⟨_, _, rfl, run_takeDeferred hK2, ?_⟩⟩
      refine ⟨_, results_tmp2 rfl _ _ _, vb, ?_, ?_, ?_⟩
      · rw [← HFE.out]; rfl
      · exact own_mono (ownOwn (m := 0) HOWN.out (grownBy_putObj' _ D _) (fun r e => by cases e; exact ⟨Nat.zero_le _, _, hK2, rfl⟩)) (by omega)
      · exact HB.out.trans (belowK_b (w := w) (Nat.le_refl _) W.drew D _ _ (by simp at hD; omega) hK2 rfl rfl)
  case stop =>
    rintro D c pre W _ _ h _
    exact h.elim

theorem nearest_any (c : Nat) (v : Value) (L : List (Nat × Nat)) (w : World) (hv : RdP w v L) (hs : L.Sublist (allP c)) (hc1 : 1 ≤ c) (hc6 : c ≤ 6) :
    Calls Try.prog 55 #[.int .i64 c, v] w fun e w' => ∃ vb, e = .returned (.tuple #[vb, .int .i64 (costP (bestP c L) L)]) ∧ Own w' w.heap.size vb (bestP c L) ∧ Below w.heap.size w w' :=
  callsIn_wide.1 (nearest_in 6 (by omega) c v L w hv hs hc1 hc6)

end Go.Proofs.Ytieldehghmikkaa
