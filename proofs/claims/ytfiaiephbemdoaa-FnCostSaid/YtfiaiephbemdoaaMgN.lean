/-
  What the laws of this claim lean on: what functions of the program and of the model answer, one after another, and plain mathematics. No condition.
-/
import Derived.Test.YtfiaiephbemdoaaMgM

set_option maxHeartbeats 800000
/-
  A list of lists over the rounds of an iterator: what keeps it; append onto it inside a fence.
-/
namespace Go.Proofs.Ytfiaiephbemdoaa
set_option linter.unusedSimpArgs false
set_option linter.unusedVariables false
set_option linter.unnecessarySimpa false
open Go.RowKit Go.Shelf
set_option maxRecDepth 100000

/-- A row of the call's own is no other block than one of cells. -/
theorem ownsRow_ne {w : World} {B : Nat} {e : TypeId} {size k : Nat} {v : Value} {vs : List Value} (h : w.ownsRow B e size v k vs) {row : Option Nat} (hr : ∀ r, row = some r → ∃ o : Obj, w.heap[r]? = some o ∧ o.isCells = false) : v.ownBlock = none ∨ v.ownBlock ≠ row := by
  rcases h.2 with ⟨rfl, _⟩ | ⟨g, cap, cur, rfl, _, hgb, _⟩
  · exact .inl rfl
  · refine .inr fun e' => ?_
    obtain ⟨o, ho, hc⟩ := hr g (by simpa [Value.ownBlock] using e'.symm)
    rw [hgb] at ho
    cases ho
    cases hc

theorem ownsRow_ne_type {w : World} {B : Nat} {e t : TypeId} {size k : Nat} {v : Value} {vs : List Value} (h : w.ownsRow B e size v k vs) {b : Nat} {cs : Array Value} {fr : Nat × Nat} (hb : w.heap[b]? = some (.cells cs t fr)) (hne : t ≠ e) : v.ownBlock = none ∨ v.ownBlock ≠ some b := by
  rcases h.2 with ⟨rfl, _⟩ | ⟨g, cap, cur, rfl, _, hgb, _⟩
  · exact .inl rfl
  · refine .inr fun e' => ?_
    obtain rfl : g = b := by simpa [Value.ownBlock] using e'
    rw [hgb] at hb
    simp at hb
    exact hne hb.2.1.symm

theorem ownM_kept {w w' : World} {B S : Nat} {v : Value} {xss : List (List Int)} (h : OwnM w B S v xss) {row : Option Nat} (hg : w.grownBy w' row)
    (h1 : ∀ u vs k, w.ownsRow B 25 1 u k vs → u.ownBlock = none ∨ u.ownBlock ≠ row) (h2 : ∀ u vs k, w.ownsRow B 3 1 u k vs → u.ownBlock = none ∨ u.ownBlock ≠ row) : OwnM w' B S v xss := by
  obtain ⟨vs, hl, ho, hin, hr, ha⟩ := h
  exact ⟨vs, hl, ho.kept hg (h1 _ _ _ ho), hin, fun i hi => ⟨own_grown (hr i hi).1 hg (h2 _ _ _ (hr i hi).1), (hr i hi).2⟩, ha⟩

theorem ownM_putObj {w : World} {B S l : Nat} {v : Value} {xss : List (List Int)} (h : OwnM w B S v xss) {o : Obj} (o' : Obj) (hl : w.heap[l]? = some o) (hc : o.isCells = false) : OwnM (w.putObj l o') B S v xss :=
  ownM_kept h (grownBy_putObj' w l o') (fun u vs k hu => ownsRow_ne hu (fun r e => by cases e; exact ⟨o, hl, hc⟩)) (fun u vs k hu => ownsRow_ne hu (fun r e => by cases e; exact ⟨o, hl, hc⟩))

theorem ownM_setBox {w : World} {B S b : Nat} {v u : Value} {xss : List (List Int)} (h : OwnM w B S v xss) (hb : Boxed w b 23 u) (x : Value) : OwnM (w.setCell ⟨b, 0, none⟩ x) B S v xss :=
  ownM_kept h (grownBy_setCell' w b x) (fun u vs k hu => ownsRow_ne_type hu hb (by decide)) (fun u vs k hu => ownsRow_ne_type hu hb (by decide))

/-- 'The variable holds a list of lists of the call's own' speaks of cells alone. -/
theorem holdsM_own {β : Type} (n₀ B : Nat) (G : β → List (List Int)) : _root_.Go.Own (fun s W => ∃ v, Boxed W B 23 v ∧ OwnM W n₀ W.heap.size v (G s)) := by
  rintro s X Y row ⟨v, hv, hr⟩ hg hrow
  refine ⟨v, hv.kept hg (fun e' => ?_), ownM_mono (ownM_kept hr hg (fun u vs k hu => ownsRow_ne hu hrow) (fun u vs k hu => ownsRow_ne hu hrow)) (Nat.le_refl _) hg.size⟩
  obtain ⟨o, ho, hc⟩ := hrow B e'.symm
  rw [show X.heap[B]? = _ from hv] at ho
  cases ho
  cases hc

theorem keepL_row {w w' : World} {B k : Nat} {v : Value} {vs : List Value} (hr : w.ownsRow B 25 1 v k vs) (hg : w.grownBy w' v.ownBlock) : KeepL w w' := fun g L r => by
  refine rowAt_block r (hg.block g (rowAt_lt r) ?_)
  intro e
  rcases ownsRow_ne_type hr (b := g) r (by decide) with h | h
  · rw [h] at e; cases e
  · exact h e.symm

theorem keepL_box {w : World} {b : Nat} {u : Value} (hb : Boxed w b 23 u) (x : Value) : KeepL w (w.setCell ⟨b, 0, none⟩ x) := fun g L r => by
  refine rowAt_block r (heap_setCell_other w ⟨b, 0, none⟩ g x ?_)
  intro e
  simp at e
  subst e
  have hb2 : w.heap[g]? = some (.cells #[u] 23 (0, 0)) := hb
  have hr2 : w.heap[g]? = some (.cells (rowC L) 65 (0, 0)) := r
  rw [hr2] at hb2
  simp at hb2

/-- 'append(out, row)' onto a list of lists of the call's own, nil or not; the row was made later than all that out holds. -/
theorem run_pushV {w : World} (ty : TypeId) (B S n : Nat) (v : Value) (xss : List (List Int)) (hown : OwnM w B S v xss) (hn : n = xss.length)
    (ad : Addr) (u : Value) (ys : List Int) (hc : w.cell? ad = some u) (hu : Own w B u ys) (hui : InB u S w.heap.size) (hBS : B ≤ S) (hSw : S ≤ w.heap.size) (hl : n ≤ 1000000000) :
    ∃ g' cap' w', (Builtin.append_ #[23, 23] ty #[v, .slice (some ad) 1 1]).run (cutP Try.prog) w = .ok (.slice (some ⟨g', 0, none⟩) (n + 1) cap') w' ∧
      OwnM w' B w'.heap.size (.slice (some ⟨g', 0, none⟩) (n + 1) cap') (xss ++ [ys]) ∧ w.grownBy w' v.ownBlock := by
  obtain ⟨i0, hi, hz0, hz1, hz2⟩ := info_parts Try.infoInts
  subst hn
  obtain ⟨vs, hvl, hrow, hin, hrows, hap⟩ := hown
  have hu1 : u.oneCell' = true := by
    rcases own_view hu with ⟨rfl, _⟩ | ⟨g', cap', rfl, _⟩ <;> rfl
  have hnews : ∀ j z, ([u] : List Value)[j]? = some z → w.cell? (ad.add j) = some z := by
    intro j z hj
    match j, hj with
    | 0, hj =>
      simp at hj
      subst hj
      simpa [Addr.add] using hc
  obtain ⟨v', w', hru, ho', hg', hnil, hb'⟩ := run_append_own_at (P := (cutP Try.prog)) (w := w) B 23 ty 25 i0 (.slice none 0 0) 1 24 Tryp.underlying23 hi hz0 hz1 hz2 rfl (by decide) _ xss.length vs hrow ad 1 1 [u] rfl hnews (fun z hz => by simp at hz; subst hz; exact hu1) (by unfold maxLen; omega) (by omega) (by omega)
  rcases ho'.2 with ⟨rfl, h2⟩ | ⟨g', cap', cur, rfl, hB', hg2, rest⟩
  · omega
  · have hg2s : g' < w'.heap.size := (Array.getElem?_eq_some_iff.1 hg2).1
    refine ⟨g', cap', w', hru, ?_, hg'⟩
    have hne : ∀ z : Value, ∀ zs : List Int, Own w B z zs → z.ownBlock = none ∨ z.ownBlock ≠ v.ownBlock := by
      intro z zs hz
      rcases hrow.2 with ⟨rfl, _⟩ | ⟨g3, cap3, cur3, rfl, _, hg3, _⟩
      · cases e : z.ownBlock with
        | none => exact .inl rfl
        | some k => exact .inr (by simp [Value.ownBlock])
      · exact ownsRow_ne_type hz (b := g3) hg3 (by decide)
    refine ⟨vs ++ [u], by simp [hvl], by simpa using ho', fun k hk => by simp [Value.ownBlock] at hk; omega, ?_, ?_⟩
    · intro i hi'
      simp at hi'
      by_cases hil : i < xss.length
      · rw [getD_snocV_lt _ _ _ _ (by omega), getD_snocV_lt _ _ _ _ hil]
        exact ⟨own_grown (hrows i hil).1 hg' (hne _ _ (hrows i hil).1), inB_mono (hrows i hil).2 (Nat.le_refl _) (by have := hg'.size; omega)⟩
      · obtain rfl : i = xss.length := by omega
        rw [getD_snocV_eq]
        have : (vs ++ [u]).getD xss.length undef = u := by rw [← hvl]; exact getD_snocV_eq _ _ _
        rw [this]
        exact ⟨own_grown hu hg' (hne _ _ hu), inB_mono hui hBS hg'.size⟩
    · intro i j hij hj
      simp at hj
      by_cases hjl : j < xss.length
      · rw [getD_snocV_lt _ _ _ _ (by omega), getD_snocV_lt _ _ _ _ (by omega)]
        exact hap i j hij hjl
      · obtain rfl : j = xss.length := by omega
        have : (vs ++ [u]).getD xss.length undef = u := by rw [← hvl]; exact getD_snocV_eq _ _ _
        rw [getD_snocV_lt _ _ _ _ (by omega), this]
        have hi1 := (hrows i hij).2
        cases e1 : (vs.getD i undef).ownBlock with
        | none => exact .inl e1
        | some k =>
          refine .inr fun e => ?_
          rw [e1] at e
          have := hi1 k e1
          have := hui k e.symm
          omega

theorem ownM_row0 {w : World} {B S : Nat} {v : Value} {xss : List (List Int)} (h : OwnM w B S v xss) : ∃ vs, w.ownsRow B 25 1 v xss.length vs := by
  obtain ⟨vs, _, ho, _⟩ := h
  exact ⟨vs, ho⟩

theorem keepsFrom_below {W W' : World} (B : Nat) (h : Below W.heap.size W W') : KeepsFrom B W W' :=
  ⟨h.size, fun k o _ hk _ => by rw [h.block k (Array.getElem?_eq_some_iff.1 hk).1]; exact hk⟩

theorem boxed_below {W W' : World} {b : Nat} {t : TypeId} {v : Value} (h : Boxed W b t v) (hb : Below W.heap.size W W') : Boxed W' b t v := (hb.block b h.lt).trans h

theorem rowAt_ownFrom {β : Type} (n₀ B g : Nat) (L : List Int) : OwnFrom B (fun (_ : β) W => RowAt W g L) := fun s A C row h hg hrow => by
  refine rowAt_block h (hg.block g (rowAt_lt h) ?_)
  intro e
  obtain ⟨_, o, ho, hc⟩ := hrow g e.symm
  rw [show A.heap[g]? = _ from h] at ho
  cases ho
  cases hc

/-- What the loop keeps: the variable holds the lists so far; nothing older has turned. -/
def HoldsL (c n₀ B : Nat) (w : World) (G : List Nat → List (List Int)) (pre : List Nat) (W : World) : Prop :=
  (∃ v, Boxed W B 23 v ∧ OwnM W n₀ W.heap.size v (G pre)) ∧ Below n₀ w W

theorem holdsL_own (c n₀ B m : Nat) (w : World) (G : List Nat → List (List Int)) (hn : n₀ ≤ w.heap.size) (hm : n₀ ≤ m) : OwnFrom m (HoldsL c n₀ B w G) :=
  OwnFrom.and (_root_.Go.Own.from (holdsM_own n₀ B G) _) (ownFrom_below hn hm)

theorem holdsL_below {c n₀ B : Nat} {w : World} {G : List Nat → List (List Int)} {pre : List Nat} {W W' : World} (hn : n₀ ≤ w.heap.size) (h : HoldsL c n₀ B w G pre W) (hb : Below W.heap.size W W') : HoldsL c n₀ B w G pre W' := by
  obtain ⟨⟨v, hv, ho⟩, hB⟩ := h
  exact ⟨⟨v, boxed_below hv hb, ownM_mono (ownM_below ho hb) (Nat.le_refl _) hb.size⟩, hB.trans (hb.mono (Nat.le_trans hn hB.size))⟩

attribute [local go_sem] Oper.semAt_some

section
variable {n l : Nat} {o : Oper} {a : Act} {w : World} {K : Act → World → Prop} {Q : Exit → Act → World → Prop}

theorem wpIn_loadB {F : Fence} (x : Operand) (ho : o.op = .load 23 x) (B : Nat) (v : Value) (hv : Boxed w B 23 v) (hx : a.eval x = .pointer (some ⟨B, 0, none⟩)) (h : K (a.put o.dst v) w) : o.wpIn F n (cutP Try.prog) a w K Q := by
  have hr : (Instr.loadAt 23 (.pointer (some ⟨B, 0, none⟩))).run (cutP Try.prog) w = .ok v w := by
    have hc := hv.cell
    simp [go_sem, hc]
  unfold Oper.wpIn
  refine ⟨by simp [Oper.about, ho], ?_⟩
  rw [Oper.semAt_plain F _ _ (by rw [ho]; intro c hc; cases hc)]
  simp only [execOp, ho, hx, Sem.run_bind, hr, Sem.run_pure, Result.andThen_ok]
  exact h

theorem wpIn_loadI {F : Fence} (x : Operand) (ho : o.op = .load 3 x) (B : Nat) (k : Int) (hv : Boxed w B 3 (.int .i64 k)) (hx : a.eval x = .pointer (some ⟨B, 0, none⟩)) (h : K (a.put o.dst (.int .i64 k)) w) : o.wpIn F n (cutP Try.prog) a w K Q := by
  have hr : (Instr.loadAt 3 (.pointer (some ⟨B, 0, none⟩))).run (cutP Try.prog) w = .ok (.int .i64 k) w := by
    have hc := hv.cell
    simp [go_sem, hc]
  unfold Oper.wpIn
  refine ⟨by simp [Oper.about, ho], ?_⟩
  rw [Oper.semAt_plain F _ _ (by rw [ho]; intro c hc; cases hc)]
  simp only [execOp, ho, hx, Sem.run_bind, hr, Sem.run_pure, Result.andThen_ok]
  exact h

theorem wpIn_eqlI {F : Fence} (t : TypeId) (x y : Operand) (t' : TypeId) (ho : o.op = .binOp .eql t x y t') (i k : Int) (hx : a.eval x = .int .i64 i) (hy : a.eval y = .int .i64 k) (h : K (a.put o.dst (.bool (i == k))) w) : o.wpIn F n (cutP Try.prog) a w K Q := by
  unfold Oper.wpIn
  refine ⟨by simp [Oper.about, ho], ?_⟩
  rw [Oper.semAt_plain F _ _ (by rw [ho]; intro c hc; cases hc)]
  simp only [execOp, ho, hx, hy]
  simp [go_sem]
  exact h

theorem wpIn_storeB {F : Fence} (x y : Operand) (ho : o.op = .store 23 x y) (B : Nat) (v : Value) (g m c : Nat) (hv : Boxed w B 23 v) (hx : a.eval x = .pointer (some ⟨B, 0, none⟩)) (hy : a.eval y = .slice (some ⟨g, 0, none⟩) m c) (h : K (a.put o.dst undef) (w.setCell ⟨B, 0, none⟩ (.slice (some ⟨g, 0, none⟩) m c))) : o.wpIn F n (cutP Try.prog) a w K Q := by
  have hr : (Instr.storeAt 23 (.pointer (some ⟨B, 0, none⟩)) (.slice (some ⟨g, 0, none⟩) m c)).run (cutP Try.prog) w = .ok () (w.setCell ⟨B, 0, none⟩ (.slice (some ⟨g, 0, none⟩) m c)) := by
    have hc := hv.cell
    have hf := hv.frozen
    simp [go_sem, hc, hf]
  unfold Oper.wpIn
  refine ⟨by simp [Oper.about, ho], ?_⟩
  rw [Oper.semAt_plain F _ _ (by rw [ho]; intro c hc; cases hc)]
  simp only [execOp, ho, hx, hy, Sem.run_bind, hr, Sem.run_pure, Result.andThen_ok]
  exact h

theorem wpIn_buildB {F : Fence} (x : Operand) (ho : o.op = .buildSlice 23 1 #[(0, x)]) (ao : Option Addr) (m c : Nat) (hx : a.eval x = .slice ao m c) (h : K (a.put o.dst (.slice (some ⟨w.heap.size, 0, none⟩) 1 1)) (w.alloc (.cells #[.slice ao m c] 25))) : o.wpIn F n (cutP Try.prog) a w K Q := by
  unfold Oper.wpIn
  refine ⟨by simp [Oper.about, ho], ?_⟩
  rw [Oper.semAt_plain F _ _ (by rw [ho]; intro c hc; cases hc)]
  simp only [execOp, ho, List.map_toArray, List.map_cons, List.map_nil, hx]
  simp [go_sem]
  exact h

theorem wpIn_pushV {F : Fence} (s x : Operand) (ho : o.op = .call { callee := .builtin .append, args := #[s, x], argTypes := #[23, 23] })
    (B S m : Nat) (v : Value) (xss : List (List Int)) (hown : OwnM w B S v xss) (hn : m = xss.length) (hs : a.eval s = v)
    (ad : Addr) (hx : a.eval x = .slice (some ad) 1 1) (u : Value) (ys : List Int) (hc : w.cell? ad = some u) (hu : Own w B u ys) (hui : InB u S w.heap.size) (hBS : B ≤ S) (hSw : S ≤ w.heap.size) (hl : m ≤ 1000000000)
    (h : ∀ g' cap' w', OwnM w' B w'.heap.size (.slice (some ⟨g', 0, none⟩) (m + 1) cap') (xss ++ [ys]) → w.grownBy w' v.ownBlock → K (a.put o.dst (.slice (some ⟨g', 0, none⟩) (m + 1) cap')) w') : o.wpIn F n (cutP Try.prog) a w K Q := by
  obtain ⟨g', cap', w', hru, h1, h2⟩ := run_pushV o.type B S m v xss hown hn ad u ys hc hu hui hBS hSw hl
  unfold Oper.wpIn
  refine ⟨by simp [Oper.about, ho, resolve, Target.leads, Sem.run_pure], ?_⟩
  rw [Oper.semAt_plain F _ _ (by rw [ho]; intro c hc'; cases hc')]
  simp only [execOp, ho, resolve, invoke, builtin, Sem.run_bind, Sem.run_pure, Result.andThen_ok, List.map_toArray, List.map_cons, List.map_nil, hs, hx, hru]
  exact h g' cap' w' h1 h2

theorem wpIn_call1 (f : FuncId) (x : Operand) (t : TypeId) (ho : o.op = .call { callee := .value (.func f), args := #[x], argTypes := #[t] }) (u : Value) (hx : a.eval x = u)
    (R : Ending → World → Prop) (hc : Calls (cutP Try.prog) f #[u] w R) (he : (callFunc f #[u]).run (cutP Try.prog) w = .ok (.enter f #[u]) w) (h : ∀ e w', R e w' → ∃ v, e = .returned v ∧ K (a.put o.dst v) w') : o.wpIn (Fence.wide.inRound l) n (cutP Try.prog) a w K Q := by
  unfold Oper.wpIn
  refine ⟨fun _ _ => trivial, ?_⟩
  rw [Oper.semAt_plain _ _ _ (by rw [ho]; intro c hc'; cases hc')]
  have hcall : (execOp a.eval o).run (cutP Try.prog) w = .ok (.enter f #[u]) w := by
    simp only [execOp, ho, List.map_toArray, List.map_cons, List.map_nil, hx, resolve, invoke, show a.eval (.func f) = .func (.func f) #[] #[] from rfl]
    simp [Deferred.ofValue, he]
  rw [hcall]
  refine ⟨fun hd => by simp [Fence.wide] at hd, ?_⟩
  refine CallsIn.mono (callsIn_wide.2 hc) ?_
  intro e w' hr
  obtain ⟨v, rfl, hk⟩ := h e w' hr
  exact hk
end

theorem collect_box {n₀ B : Nat} {w W w5 w7 : World} {v : Value} {xss : List (List Int)} (hn : n₀ ≤ w.heap.size) (hB : Below n₀ w W) (hv : Boxed W B 23 v) (hom : OwnM W n₀ W.heap.size v xss) (hb5 : Below W.heap.size W w5) (o : Obj) (h2 : (w5.alloc o).grownBy w7 v.ownBlock) : Boxed w7 B 23 v := by
  obtain ⟨vs, hr⟩ := ownM_row0 (ownM_below hom hb5)
  exact ((boxed_below hv hb5).alloc o).kept h2 ((boxed_below hv hb5).not_row (by decide) hr)

theorem collect_done (c m : Nat) {n₀ B g' cap' k : Nat} {w W w5 w7 : World} {v : Value} {G : List Nat → List (List Int)} {pre : List Nat} {p : Nat} {ys : List Int} (hn : n₀ ≤ w.heap.size) (hBn : n₀ ≤ B) (hB : Below n₀ w W) (hv : Boxed W B 23 v) (hom : OwnM W n₀ W.heap.size v (G pre)) (hb5 : Below W.heap.size W w5) (o : Obj)
    (h1 : OwnM w7 n₀ w7.heap.size (.slice (some ⟨g', 0, none⟩) k cap') (G pre ++ [ys])) (h2 : (w5.alloc o).grownBy w7 v.ownBlock) (hG : G (pre ++ [p]) = G pre ++ [ys]) :
    KeepsFrom m W (w7.setCell ⟨B, 0, none⟩ (.slice (some ⟨g', 0, none⟩) k cap')) ∧ KpL n₀ W (w7.setCell ⟨B, 0, none⟩ (.slice (some ⟨g', 0, none⟩) k cap')) ∧ HoldsL c n₀ B w G (pre ++ [p]) (w7.setCell ⟨B, 0, none⟩ (.slice (some ⟨g', 0, none⟩) k cap')) := by
  obtain ⟨vs, hr⟩ := ownM_row0 (ownM_below hom hb5)
  obtain ⟨vs7, hr7⟩ := ownM_row0 h1
  have hn5 : n₀ ≤ w5.heap.size := Nat.le_trans hn (Nat.le_trans hB.size hb5.size)
  obtain ⟨e1, e2, _, e4, e5⟩ := (boxed_below hv hb5).appended (by decide) hr hn5 hBn hr7 h2
  have hbW : Below n₀ W w5 := hb5.mono (Nat.le_trans hn hB.size)
  refine ⟨(keepsFrom_below m hb5).trans (e4.from m), ⟨hbW.trans e5, ?_⟩, ⟨_, e2, ?_⟩, hB.trans (hbW.trans e5)⟩
  · exact ((keepL_below hb5).trans ((keepL_below (W := w5) ((Below.refl _ _).alloc (Nat.le_refl _) o)).trans (keepL_row (hr.alloc o) h2))).trans (keepL_box e1 _)
  · rw [hG]
    exact ownM_mono (ownM_setBox h1 e1 _) (Nat.le_refl _) (Nat.le_of_eq (by simp [World.setCell]))

/-- 'append(out, row)' onto a list of lists of the call's own, nil or not. -/
theorem wpList_pushV {w : World} {ops : Array Oper} {rest : List Oper} {o : Oper} {a : Act} {Q : Exit → Act → World → Prop} (hgd : o.guard = none) (s x : Operand)
    (ho : o.op = .call { callee := .builtin .append, args := #[s, x], argTypes := #[23, 23] })
    (B S m : Nat) (v : Value) (xss : List (List Int)) (hs : a.eval s = v) (hown : OwnM w B S v xss) (hn : m = xss.length)
    (ad : Addr) (hx : a.eval x = .slice (some ad) 1 1) (u : Value) (ys : List Int) (hc : w.cell? ad = some u) (hu : Own w B u ys) (hui : InB u S w.heap.size) (hBS : B ≤ S) (hSw : S ≤ w.heap.size) (hl : m ≤ 1000000000)
    (h : ∀ g' cap' w', OwnM w' B w'.heap.size (.slice (some ⟨g', 0, none⟩) (m + 1) cap') (xss ++ [ys]) → w.grownBy w' v.ownBlock → wpList (cutP Try.prog) ops Q rest (a.put o.dst (.slice (some ⟨g', 0, none⟩) (m + 1) cap')) w') :
    wpList (cutP Try.prog) ops Q (o :: rest) a w :=
  wpList_plain hgd fun _ hK => by
    obtain ⟨g', cap', w', hru, h1, h2⟩ := run_pushV o.type B S m v xss hown hn ad u ys hc hu hui hBS hSw hl
    unfold Oper.wp execOp
    simp only [ho, resolve, invoke, builtin, Sem.run_bind, Sem.run_pure, Result.andThen_ok, List.map_toArray, List.map_cons, List.map_nil, hs, hx, hru]
    exact hK _ _ (h g' cap' w' h1 h2)

theorem own_two (w : World) (B : Nat) (x y : Int) (hB : B ≤ w.heap.size) : Own (w.alloc (.cells #[.int .i64 x, .int .i64 y] 3)) B (.slice (some ⟨w.heap.size, 0, none⟩) 2 2) [x, y] :=
  ⟨rfl, .inr ⟨w.heap.size, 2, _, rfl, hB, heap_alloc_new w _, Nat.le_refl _, by decide, rfl, rfl⟩⟩

end Go.Proofs.Ytfiaiephbemdoaa

/-
  The contracts of spec.l92Views, l92Some and of what draws views.
-/
namespace Go.Proofs.Ytfiaiephbemdoaa
set_option linter.unusedSimpArgs false
set_option linter.unusedVariables false
set_option linter.unnecessarySimpa false
open Go.RowKit
set_option maxRecDepth 100000

theorem ownM_readV {w w' : World} {B S g : Nat} {v : Value} {ps : List (List Int)} (h : OwnM w B S v ps) (hB : g < B) (hg : w.grownBy w' (some g)) : OwnM w' B S v ps :=
  ownM_kept h hg
    (fun u vs k hu => by
      cases hv : u.ownBlock with
      | none => exact .inl rfl
      | some q => exact .inr fun e => by have := (World.ownsRow.lt hu q hv).1; cases e; omega)
    (fun u vs k hu => by
      cases hv : u.ownBlock with
      | none => exact .inl rfl
      | some q => exact .inr fun e => by have := (World.ownsRow.lt hu q hv).1; cases e; omega)
def Few (xss : List (List Int)) : Prop := ∀ x ∈ xss, 1 ≤ x.length ∧ x.length ≤ 7
theorem few_snoc {xss : List (List Int)} {x : List Int} (h : Few xss) (h1 : 1 ≤ x.length) (h2 : x.length ≤ 7) : Few (xss ++ [x]) := by
  intro y hy
  rcases List.mem_append.1 hy with hy | hy
  · exact h y hy
  · rw [List.mem_singleton.1 hy]; exact ⟨h1, h2⟩

/-- Drawn views; the reader has gone on. -/
def ViewsR (w0 : World) (g : Nat) (a : Option Addr) (m cap p : Nat) (e : Ending) (w' : World) : Prop :=
  ∃ v xss q, e = .returned v ∧ OwnM w' (g + 1) w'.heap.size v xss ∧ (1 ≤ xss.length ∧ xss.length ≤ 6) ∧ Few xss ∧ q ≤ p + 400 ∧ Rds w0 w' g a m cap q

set_option maxHeartbeats 3200000 in
theorem views_r {w0 w : World} {g m cap p : Nat} {a : Option Addr} (h : Rds w0 w g a m cap p) (hp : p ≤ 100) :
    Calls (cutP Try.prog) 40 #[.pointer (some ⟨g, 0, none⟩)] w (ViewsR w0 g a m cap p) := by
  go_enter Tryp.func40, Tryp.ntmps40
  go_wp2_with fail
  refine (pick_r h _ (by omega) (by omega) (by omega)).mono ?_
  rintro e w1 ⟨n0, rfl, hn0, r1, hg1⟩
  clear hg1
  obtain ⟨n, hn⟩ : ∃ n : Nat, n = n0 + 1 := ⟨_, rfl⟩
  have HNI := Lib.hid (show (1 : Int) + (n0 : Int) = n by omega)
  have hn1 : 1 ≤ n := by omega
  have hn5 : n ≤ 5 := by omega
  clear hn
  go_wp2_with fail
  rw [HNI.out]
  clear hn0
  refine (pick_r r1 _ (by omega) (by omega) (by omega)).mono ?_
  rintro e w2 ⟨k0, rfl, hk0, r2, hg2⟩
  clear hg2
  obtain ⟨kk, hk⟩ : ∃ n : Nat, n = k0 + 1 := ⟨_, rfl⟩
  have HKI := Lib.hid (show (1 : Int) + (k0 : Int) = kk by omega)
  have hk1 : 1 ≤ kk := by omega
  have hk4 : kk ≤ 4 := by omega
  have hgw : g = w0.heap.size := r2.hg
  have hlt2 := r2.lt
  have HOM0 : Hid (OwnM (w2.alloc (.cells #[] 25)) (g + 1) (w2.alloc (.cells #[] 25)).heap.size (.slice (some ⟨w2.heap.size, 0, none⟩) 0 0) []) := Lib.hid (ownM_mono (ownM_empty w2 (g + 1) (by omega)) (Nat.le_refl _) (by simp))
  have R2 := Lib.hid (Rds.step r2 ((Below.refl _ _).alloc (Nat.le_refl _) (.cells #[] 25)))
  have HGW := Lib.hid hgw
  clear r1 r2 hk hgw hlt2 h
  go_wp2
  rw [HKI.out]
  clear hk0
  go_loopw [5, 6] (fun u i wr => ∃ (k g' cap' q : Nat) (xss : List (List Int)), k ≤ kk ∧ i = .int .i64 k ∧ u = .slice (some ⟨g', 0, none⟩) k cap' ∧ OwnM wr (g + 1) wr.heap.size (.slice (some ⟨g', 0, none⟩) k cap') xss ∧ k = xss.length ∧ Few xss ∧ q ≤ p + 2 + 40 * k ∧ Rds w0 wr g a m cap q) (fun _ i _ => kk - (intOf i).toNat)
  case atStart => exact ⟨0, w2.heap.size, 0, p + 1 + 1, [], Nat.zero_le _, rfl, rfl, HOM0.out, rfl, fun x hx => by simp at hx, by omega, R2.out⟩
  case round =>
    clear HOM0 R2
    obtain ⟨k, g', cap', q, xss, hk, rfl, rfl, hown, hm', hfew, hq, hr⟩ := hrel
    have HO := Lib.hid hown
    have HM := Lib.hid hm'
    have HF := Lib.hid hfew
    have R := Lib.hid hr
    have hgl0 := hr.lt
    clear hown hm' hfew hr
    by_cases hlt : k < kk
    · go_wp2_with fail
      refine (part_rs R.out n hn1 (by omega) (by omega)).mono ?_
      rintro e w3 ⟨va, xs, q2, rfl, oa, hl, hq2, r3, hg3⟩
      have hs3 := hg3.size
      obtain ⟨ao3, ca3, rfl⟩ := own_slice' oa
      have hi3 := inB_mono (S' := w3.heap.size + 1) (inB_of_own oa) (Nat.le_refl _) (by omega)
      have HOM := Lib.hid (ownM_below (ownM_readV HO.out (Nat.lt_succ_self g) hg3) ((Below.refl _ _).alloc (Nat.le_refl _) (.cells #[.slice ao3 xs.length ca3] 25)))
      have HOU := Lib.hid (own_alloc (own_mono (B' := g + 1) oa (by omega)) (.cells #[.slice ao3 xs.length ca3] 25))
      have HCE := Lib.hid (cell_new1 w3 (.slice ao3 xs.length ca3) 25)
      have R3 := Lib.hid r3
      have HIN : Hid (InB (.slice ao3 xs.length ca3) wr.heap.size (w3.alloc (.cells #[.slice ao3 xs.length ca3] 25)).heap.size) := Lib.hid (by simpa using hi3)
      have HSW : Hid (wr.heap.size ≤ (w3.alloc (.cells #[.slice ao3 xs.length ca3] 25)).heap.size) := Lib.hid (by simp; omega)
      clear oa r3 hg3 hi3 HO R
      go_wp2_with (at_builtin; refine wpList_pushV rfl _ _ rfl (g + 1) wr.heap.size k _ xss rfl HOM.out HM.out ⟨w3.heap.size, 0, none⟩ rfl _ _ HCE.out HOU.out HIN.out (by omega) HSW.out (by omega) ?_; intro g4 cap4 w9 hown4 hgr4)
      have hrow : g + 1 ≤ g' := by
        obtain ⟨vs, hr⟩ := ownM_row0 HOM.out
        exact (World.ownsRow.lt hr g' rfl).1
      have hgw := HGW.out
      have HR9 := Lib.hid (Rds.push (g' := g') R3.out hgr4 (by omega) (by omega))
      have HO9 := Lib.hid hown4
      clear hown4 hgr4 HOM HCE HOU HIN HSW hgw R3
      go_wp2
      go_roundw
      case rel => exact ⟨k + 1, g4, cap4, q2, xss ++ [xs], by omega, by go_num, rfl, HO9.out, by simp [HM.out], few_snoc HF.out (by omega) (by omega), by omega, HR9.out⟩
      case measure => simp [intOf]; omega
    · have hkn : k = kk := by omega
      subst hkn
      go_wp2_with fail
      refine (pick_r R.out _ (by omega) (by omega) (by omega)).mono ?_
      rintro e w4 ⟨t, rfl, ht, r4, hg4⟩
      have hs4 := hg4.size
      have HO4 := Lib.hid (ownM_mono (ownM_readV HO.out (Nat.lt_succ_self g) hg4) (Nat.le_refl _) hs4)
      have R4 := Lib.hid r4
      have hgl4 := r4.lt
      clear hg4 r4 HO R
      by_cases h0 : t = 0
      · subst h0
        have HE := Lib.hid (show (n : Int) + 1 = ((n + 1 : Nat) : Int) by omega)
        go_wp2_with fail
        rw [HE.out]
        refine (part_rs R4.out (n + 1) (by omega) (by omega) (by omega)).mono ?_
        rintro e w3 ⟨va, xs, q2, rfl, oa, hl, hq2, r3, hg3⟩
        have hs3 := hg3.size
        obtain ⟨ao3, ca3, rfl⟩ := own_slice' oa
        have hi3 := inB_mono (S' := w3.heap.size + 1) (inB_of_own oa) (Nat.le_refl _) (by omega)
        have HOM := Lib.hid (ownM_below (ownM_readV HO4.out (Nat.lt_succ_self g) hg3) ((Below.refl _ _).alloc (Nat.le_refl _) (.cells #[.slice ao3 xs.length ca3] 25)))
        have HOU := Lib.hid (own_alloc (own_mono (B' := g + 1) oa (by omega)) (.cells #[.slice ao3 xs.length ca3] 25))
        have HCE := Lib.hid (cell_new1 w3 (.slice ao3 xs.length ca3) 25)
        have R3 := Lib.hid r3
        have HIN : Hid (InB (.slice ao3 xs.length ca3) w4.heap.size (w3.alloc (.cells #[.slice ao3 xs.length ca3] 25)).heap.size) := Lib.hid (by simpa using hi3)
        have HSW : Hid (w4.heap.size ≤ (w3.alloc (.cells #[.slice ao3 xs.length ca3] 25)).heap.size) := Lib.hid (by simp; omega)
        clear oa r3 hg3 hi3 HO4 R4
        go_wp2_with (at_builtin; refine wpList_pushV rfl _ _ rfl (g + 1) w4.heap.size k _ xss rfl HOM.out HM.out ⟨w3.heap.size, 0, none⟩ rfl _ _ HCE.out HOU.out HIN.out (by omega) HSW.out (by omega) ?_; intro g4 cap4 w9 hown4 hgr4)
        have hrow : g + 1 ≤ g' := by
          obtain ⟨vs, hr⟩ := ownM_row0 HOM.out
          exact (World.ownsRow.lt hr g' rfl).1
        have hgw := HGW.out
        have HR9 := Lib.hid (Rds.push (g' := g') R3.out hgr4 (by omega) (by omega))
        have HO9 := Lib.hid hown4
        clear hown4 hgr4 HOM HCE HOU HIN HSW hgw R3
        go_wp2
        go_ret
        have hm := HM.out
        exact ⟨_, xss ++ [xs], q2, rfl, HO9.out, by simp; omega, few_snoc HF.out (by omega) (by omega), by omega, HR9.out⟩
      · have h01 : ((t : Int) == 0) = false := by simp; omega
        go_wp2
        go_ret
        have hm := HM.out
        exact ⟨_, xss, q + 1, rfl, HO4.out, by omega, HF.out, by omega, R4.out⟩

/-- Drawn views. -/
def ViewsDrawn (w : World) (e : Ending) (w' : World) : Prop :=
  ∃ v xss, e = .returned v ∧ RdM w' v xss ∧ (1 ≤ xss.length ∧ xss.length ≤ 6) ∧ Few xss ∧ Below w.heap.size w w'
theorem l92Some_any (a : Option Addr) (len cap : Nat) (w : World) (hby : Bytes w a len) (hlen : len ≤ 1048576) (hc : len ≤ cap) (hcm : cap ≤ maxLen) :
    Calls (cutP Try.prog) 29 #[.slice a len cap] w (ViewsDrawn w) := by
  go_enter Tryp.func29, Tryp.ntmps29
  go_wp2_with fail
  refine (open_r a len cap w hby hlen hc hcm).mono ?_
  rintro e w1 ⟨g, m, cp, rfl, r1⟩
  go_wp2_with fail
  refine (views_r r1 (by omega)).mono ?_
  rintro e w2 ⟨v, xss, q, rfl, ho, hl, hf, hq, r2⟩
  go_wp2
  go_ret
  exact ⟨_, xss, rfl, ownM_rdM ho, hl, hf, r2.below⟩
theorem drawViewCommon_any (a : Option Addr) (len cap : Nat) (w : World) (hby : Bytes w a len) (hlen : len ≤ 1048576) (hc : len ≤ cap) (hcm : cap ≤ maxLen) :
    Calls (cutP Try.prog) 9 #[.slice a len cap] w (ViewsDrawn w) := by
  go_enter Tryp.func9, Tryp.ntmps9
  go_wp2_with fail
  refine (l92Some_any a len cap w hby hlen hc hcm).mono ?_
  rintro e w1 ⟨v, xss, rfl, h1, h2, h3, h4⟩
  go_wp2
  go_ret
  exact ⟨_, xss, rfl, h1, h2, h3, h4⟩
theorem drawViewMeet_any (a : Option Addr) (len cap : Nat) (w : World) (hby : Bytes w a len) (hlen : len ≤ 1048576) (hc : len ≤ cap) (hcm : cap ≤ maxLen) :
    Calls (cutP Try.prog) 17 #[.slice a len cap] w (ViewsDrawn w) := by
  go_enter Tryp.func17, Tryp.ntmps17
  go_wp2_with fail
  refine (l92Some_any a len cap w hby hlen hc hcm).mono ?_
  rintro e w1 ⟨v, xss, rfl, h1, h2, h3, h4⟩
  go_wp2
  go_ret
  exact ⟨_, xss, rfl, h1, h2, h3, h4⟩

theorem cell_readV {w w' : World} {b o g : Nat} {v : Value} (h : w.cell? ⟨b, o, none⟩ = some v) (hg : w.grownBy w' (some g)) (hne : g < b) : w'.cell? ⟨b, o, none⟩ = some v := by
  have hlt : b < w.heap.size := World.block_lt_of_cell? w _ h
  exact (World.cell?_of_block (w := w) (hg.block b hlt (fun e => by cases e; omega))).trans h

/-- A drawn list and drawn views. -/
def CostDrawn (w : World) (e : Ending) (w' : World) : Prop :=
  ∃ u xs v xss, e = .returned (.tuple #[u, v]) ∧ RdV w' u xs ∧ RdM w' v xss ∧ (1 ≤ xss.length ∧ xss.length ≤ 6) ∧ Few xss ∧ Below w.heap.size w w'
set_option maxHeartbeats 3200000 in
theorem drawViewCost_any (a : Option Addr) (len cap : Nat) (w : World) (hby : Bytes w a len) (hlen : len ≤ 1048576) (hc : len ≤ cap) (hcm : cap ≤ maxLen) :
    Calls (cutP Try.prog) 14 #[.slice a len cap] w (CostDrawn w) := by
  go_enter Tryp.func14, Tryp.ntmps14
  go_wp2_with fail
  refine (open_r a len cap w hby hlen hc hcm).mono ?_
  rintro e w1 ⟨g, m, cp, rfl, r1⟩
  go_wp2_with fail
  refine (views_r r1 (by omega)).mono ?_
  rintro e w2 ⟨v, xss, q, rfl, ho, hl, hf, hq, r2⟩
  have HO := Lib.hid ho
  obtain ⟨us, hul, hvv, hrows, _⟩ := ownM_parts ho
  rcases hvv with ⟨_, e⟩ | ⟨g2, cap2, rfl, hgb, _, _, hnc2, hcm2, hc2, _⟩
  · rw [e] at hl; simp at hl
  have hc0 := hc2 0 (by omega)
  obtain ⟨zo, zc, hz⟩ := own_slice' (hrows 0 (by omega)).1
  rw [hz] at hc0
  have hl7 : 1 ≤ (xss.getD 0 []).length ∧ (xss.getD 0 []).length ≤ 7 := by
    have h0 : 0 < xss.length := by omega
    exact hf _ (by simp [List.getD, h0])
  obtain ⟨L, hL⟩ : ∃ L, L = (xss.getD 0 []).length := ⟨_, rfl⟩
  obtain ⟨n, hn⟩ : ∃ n, n = xss.length := ⟨_, rfl⟩
  rw [← hL] at hc0 hl7
  rw [← hn] at HO ⊢
  have z0 : (0 : Int) < (n : Int) := by omega
  have z1 : 0 < n := by omega
  have HF := Lib.hid hf
  have HL := Lib.hid hl
  have R2 := Lib.hid (Rds.step r2 (Below.drew (Below.refl _ _)))
  have HO2 : Hid (OwnM w2.drew (g + 1) w2.drew.heap.size (.slice (some ⟨g2, 0, none⟩) n cap2) xss) := Lib.hid (ownM_below HO.out (Below.drew (Below.refl _ _)))
  have hS0 : w2.drew.cell? ⟨g2, 0, none⟩ = some (.slice zo L zc) := hc0
  clear hul hrows hnc2 hcm2 hc2 hz hL hn hf hl r1 r2 ho HO hc0
  go_wp2
  go_region_held3 (fun w' => w'.cell? ⟨g2, 0, none⟩ = some (.slice zo L zc)) (first | exact hS0 | exact hS4 | exact hS5) (first | (go_at_call 42; refine (pick_r R2.out _ (by omega) (by omega) (by omega)).mono ?_; rintro e w4 ⟨t, rfl, ht, r4, hg4⟩; have hS4 := cell_readV hS0 hg4 (by omega); have R4 := Lib.hid r4; have HO4 := Lib.hid (ownM_mono (ownM_readV HO2.out (Nat.lt_succ_self g) hg4) (Nat.le_refl _) hg4.size); clear r4 hg4) | (go_at_call 41; rw [show IntKind.i64.wrap ((L : Int) + IntKind.i64.wrap ((t : Int) / 23)) = (L : Int) + (t : Int) / 23 by rw [IntWalk.i64_in ((t : Int) / 23) (by omega)]; exact IntWalk.i64_in _ (by omega)]; refine (part_r R4.out _ (by omega) (by omega) (by omega)).mono ?_; rintro e w5 ⟨va, xs, q5, rfl, oa, hl5, hx5, hq5, r5, hg5⟩; have hS5 := cell_readV hS4 hg5 (by omega); have R5 := Lib.hid r5; have HO5 := Lib.hid (ownM_mono (ownM_readV HO4.out (Nat.lt_succ_self g) hg5) (Nat.le_refl _) hg5.size); have OA := Lib.hid oa; clear r5 hg5 oa))
  all_goals
    go_wp2
    go_ret2
    exact ⟨_, xs, _, xss, rfl, own_rdv OA.out, ownM_rdM HO5.out, HL.out, HF.out, R5.out.below⟩
end Go.Proofs.Ytfiaiephbemdoaa

