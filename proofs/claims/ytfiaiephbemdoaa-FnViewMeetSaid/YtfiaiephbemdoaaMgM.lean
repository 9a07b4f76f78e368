/-
  What the laws of this claim lean on: what functions of the program and of the model answer, one after another, and plain mathematics. No condition.
-/
import Derived.Test.YtfiaiephbemdoaaMgH
import Derived.Test.YtfiaiephbemdoaaMgK
import Derived.Test.YtfiaiephbemdoaaMgL
import Derived.Deep.RegionLaw

set_option maxHeartbeats 800000
set_option linter.unusedVariables false
set_option linter.unusedSimpArgs false
set_option linter.unnecessarySimpa false
set_option maxRecDepth 100000

namespace Go.Proofs.Ytfiaiephbemdoaa

section
open Go.RowKit Go.Shelf

theorem ownsRow_ne {w : World} {B : Nat} {e : TypeId} {size k : Nat} {v : Value} {vs : List Value} (h : w.ownsRow B e size v k vs) {row : Option Nat} (hr : ∀ r, row = some r → ∃ o : Obj, w.heap[r]? = some o ∧ o.isCells = false) : v.ownBlock = none ∨ v.ownBlock ≠ row := by
  rcases h.2 with ⟨rfl, _⟩ | ⟨g, cap, cur, rfl, _, hgb, _⟩
  · exact .inl rfl
  · refine .inr fun e' => ?_
    obtain ⟨o, ho, hc⟩ := hr g (by simpa [Value.ownBlock] using e'.symm)
    rw [hgb] at ho
    cases ho
    cases hc

theorem ownsRow_ne_type {w : World} {B : Nat} {e t : TypeId} {size k : Nat} {v : Value} {vs : List Value} (h : w.ownsRow B e size v k vs) {b : Nat} {cs : Array Value} {fr : Nat × Nat} (hb : w.heap[b]? = some (.cells cs t fr)) (hne : t ≠ e) : v.ownBlock = none ∨ v.ownBlock ≠ some b := by
  rcases h.2 with ⟨rfl, _⟩ | ⟨g, cap, cur, rfl, _, hgb, _⟩
  · exact .inl rfl
  · refine .inr fun e' => ?_
    obtain rfl : g = b := by simpa [Value.ownBlock] using e'
    rw [hgb] at hb
    simp at hb
    exact hne hb.2.1.symm

theorem ownM_kept {w w' : World} {B S : Nat} {v : Value} {xss : List (List Int)} (h : OwnM w B S v xss) {row : Option Nat} (hg : w.grownBy w' row)
    (h1 : ∀ u vs k, w.ownsRow B 25 1 u k vs → u.ownBlock = none ∨ u.ownBlock ≠ row) (h2 : ∀ u vs k, w.ownsRow B 3 1 u k vs → u.ownBlock = none ∨ u.ownBlock ≠ row) : OwnM w' B S v xss := by
  obtain ⟨vs, hl, ho, hin, hr, ha⟩ := h
  exact ⟨vs, hl, ho.kept hg (h1 _ _ _ ho), hin, fun i hi => ⟨own_grown (hr i hi).1 hg (h2 _ _ _ (hr i hi).1), (hr i hi).2⟩, ha⟩

theorem ownM_putObj {w : World} {B S l : Nat} {v : Value} {xss : List (List Int)} (h : OwnM w B S v xss) {o : Obj} (o' : Obj) (hl : w.heap[l]? = some o) (hc : o.isCells = false) : OwnM (w.putObj l o') B S v xss :=
  ownM_kept h (grownBy_putObj' w l o') (fun u vs k hu => ownsRow_ne hu (fun r e => by cases e; exact ⟨o, hl, hc⟩)) (fun u vs k hu => ownsRow_ne hu (fun r e => by cases e; exact ⟨o, hl, hc⟩))

theorem ownM_setBox {w : World} {B S b : Nat} {v u : Value} {xss : List (List Int)} (h : OwnM w B S v xss) (hb : Boxed w b 23 u) (x : Value) : OwnM (w.setCell ⟨b, 0, none⟩ x) B S v xss :=
  ownM_kept h (grownBy_setCell' w b x) (fun u vs k hu => ownsRow_ne_type hu hb (by decide)) (fun u vs k hu => ownsRow_ne_type hu hb (by decide))

theorem holdsM_own {β : Type} (n₀ B : Nat) (G : β → List (List Int)) : _root_.Go.Own (fun s W => ∃ v, Boxed W B 23 v ∧ OwnM W n₀ W.heap.size v (G s)) := by
  rintro s X Y row ⟨v, hv, hr⟩ hg hrow
  refine ⟨v, hv.kept hg (fun e' => ?_), ownM_mono (ownM_kept hr hg (fun u vs k hu => ownsRow_ne hu hrow) (fun u vs k hu => ownsRow_ne hu hrow)) (Nat.le_refl _) hg.size⟩
  obtain ⟨o, ho, hc⟩ := hrow B e'.symm
  rw [show X.heap[B]? = _ from hv] at ho
  cases ho
  cases hc

theorem keepL_row {w w' : World} {B k : Nat} {v : Value} {vs : List Value} (hr : w.ownsRow B 25 1 v k vs) (hg : w.grownBy w' v.ownBlock) : KeepL w w' := fun g L r => by
  refine rowAt_block r (hg.block g (rowAt_lt r) ?_)
  intro e
  rcases ownsRow_ne_type hr (b := g) r (by decide) with h | h
  · rw [h] at e; cases e
  · exact h e.symm

theorem keepL_box {w : World} {b : Nat} {u : Value} (hb : Boxed w b 23 u) (x : Value) : KeepL w (w.setCell ⟨b, 0, none⟩ x) := fun g L r => by
  refine rowAt_block r (heap_setCell_other w ⟨b, 0, none⟩ g x ?_)
  intro e
  simp at e
  subst e
  have hb2 : w.heap[g]? = some (.cells #[u] 23 (0, 0)) := hb
  have hr2 : w.heap[g]? = some (.cells (rowC L) 65 (0, 0)) := r
  rw [hr2] at hb2
  simp at hb2

theorem run_pushV {w : World} (ty : TypeId) (B S n : Nat) (v : Value) (xss : List (List Int)) (hown : OwnM w B S v xss) (hn : n = xss.length)
    (ad : Addr) (u : Value) (ys : List Int) (hc : w.cell? ad = some u) (hu : Own w B u ys) (hui : InB u S w.heap.size) (hBS : B ≤ S) (hSw : S ≤ w.heap.size) (hl : n ≤ 1000000000) :
    ∃ g' cap' w', (Builtin.append_ #[23, 23] ty #[v, .slice (some ad) 1 1]).run (cutP Try.prog) w = .ok (.slice (some ⟨g', 0, none⟩) (n + 1) cap') w' ∧
      OwnM w' B w'.heap.size (.slice (some ⟨g', 0, none⟩) (n + 1) cap') (xss ++ [ys]) ∧ w.grownBy w' v.ownBlock := by
  obtain ⟨i0, hi, hz0, hz1, hz2⟩ := info_parts Try.infoInts
  subst hn
  obtain ⟨vs, hvl, hrow, hin, hrows, hap⟩ := hown
  have hu1 : u.oneCell' = true := by
    rcases own_view hu with ⟨rfl, _⟩ | ⟨g', cap', rfl, _⟩ <;> rfl
  have hnews : ∀ j z, ([u] : List Value)[j]? = some z → w.cell? (ad.add j) = some z := by
    intro j z hj
    match j, hj with
    | 0, hj =>
      simp at hj
      subst hj
      simpa [Addr.add] using hc
  obtain ⟨v', w', hru, ho', hg', hnil, hb'⟩ := run_append_own_at (P := (cutP Try.prog)) (w := w) B 23 ty 25 i0 (.slice none 0 0) 1 24 Tryp.underlying23 hi hz0 hz1 hz2 rfl (by decide) _ xss.length vs hrow ad 1 1 [u] rfl hnews (fun z hz => by simp at hz; subst hz; exact hu1) (by unfold maxLen; omega) (by omega) (by omega)
  rcases ho'.2 with ⟨rfl, h2⟩ | ⟨g', cap', cur, rfl, hB', hg2, rest⟩
  · omega
  · have hg2s : g' < w'.heap.size := (Array.getElem?_eq_some_iff.1 hg2).1
    refine ⟨g', cap', w', hru, ?_, hg'⟩
    have hne : ∀ z : Value, ∀ zs : List Int, Own w B z zs → z.ownBlock = none ∨ z.ownBlock ≠ v.ownBlock := by
      intro z zs hz
      rcases hrow.2 with ⟨rfl, _⟩ | ⟨g3, cap3, cur3, rfl, _, hg3, _⟩
      · cases e : z.ownBlock with
        | none => exact .inl rfl
        | some k => exact .inr (by simp [Value.ownBlock])
      · exact ownsRow_ne_type hz (b := g3) hg3 (by decide)
    refine ⟨vs ++ [u], by simp [hvl], by simpa using ho', fun k hk => by simp [Value.ownBlock] at hk; omega, ?_, ?_⟩
    · intro i hi'
      simp at hi'
      by_cases hil : i < xss.length
      · rw [getD_snocV_lt _ _ _ _ (by omega), getD_snocV_lt _ _ _ _ hil]
        exact ⟨own_grown (hrows i hil).1 hg' (hne _ _ (hrows i hil).1), inB_mono (hrows i hil).2 (Nat.le_refl _) (by have := hg'.size; omega)⟩
      · obtain rfl : i = xss.length := by omega
        rw [getD_snocV_eq]
        have : (vs ++ [u]).getD xss.length undef = u := by rw [← hvl]; exact getD_snocV_eq _ _ _
        rw [this]
        exact ⟨own_grown hu hg' (hne _ _ hu), inB_mono hui hBS hg'.size⟩
    · intro i j hij hj
      simp at hj
      by_cases hjl : j < xss.length
      · rw [getD_snocV_lt _ _ _ _ (by omega), getD_snocV_lt _ _ _ _ (by omega)]
        exact hap i j hij hjl
      · obtain rfl : j = xss.length := by omega
        have : (vs ++ [u]).getD xss.length undef = u := by rw [← hvl]; exact getD_snocV_eq _ _ _
        rw [getD_snocV_lt _ _ _ _ (by omega), this]
        have hi1 := (hrows i hij).2
        cases e1 : (vs.getD i undef).ownBlock with
        | none => exact .inl e1
        | some k =>
          refine .inr fun e => ?_
          rw [e1] at e
          have := hi1 k e1
          have := hui k e.symm
          omega

theorem ownM_row0 {w : World} {B S : Nat} {v : Value} {xss : List (List Int)} (h : OwnM w B S v xss) : ∃ vs, w.ownsRow B 25 1 v xss.length vs := by
  obtain ⟨vs, _, ho, _⟩ := h
  exact ⟨vs, ho⟩

theorem keepsFrom_below {W W' : World} (B : Nat) (h : Below W.heap.size W W') : KeepsFrom B W W' :=
  ⟨h.size, fun k o _ hk _ => by rw [h.block k (Array.getElem?_eq_some_iff.1 hk).1]; exact hk⟩

theorem boxed_below {W W' : World} {b : Nat} {t : TypeId} {v : Value} (h : Boxed W b t v) (hb : Below W.heap.size W W') : Boxed W' b t v := (hb.block b h.lt).trans h

theorem rowAt_ownFrom {β : Type} (n₀ B g : Nat) (L : List Int) : OwnFrom B (fun (_ : β) W => RowAt W g L) := fun s A C row h hg hrow => by
  refine rowAt_block h (hg.block g (rowAt_lt h) ?_)
  intro e
  obtain ⟨_, o, ho, hc⟩ := hrow g e.symm
  rw [show A.heap[g]? = _ from h] at ho
  cases ho
  cases hc

def HoldsL (c n₀ B : Nat) (w : World) (G : List Nat → List (List Int)) (pre : List Nat) (W : World) : Prop :=
  (∃ v, Boxed W B 23 v ∧ OwnM W n₀ W.heap.size v (G pre)) ∧ Below n₀ w W

theorem holdsL_own (c n₀ B m : Nat) (w : World) (G : List Nat → List (List Int)) (hn : n₀ ≤ w.heap.size) (hm : n₀ ≤ m) : OwnFrom m (HoldsL c n₀ B w G) :=
  OwnFrom.and (_root_.Go.Own.from (holdsM_own n₀ B G) _) (ownFrom_below hn hm)

theorem holdsL_below {c n₀ B : Nat} {w : World} {G : List Nat → List (List Int)} {pre : List Nat} {W W' : World} (hn : n₀ ≤ w.heap.size) (h : HoldsL c n₀ B w G pre W) (hb : Below W.heap.size W W') : HoldsL c n₀ B w G pre W' := by
  obtain ⟨⟨v, hv, ho⟩, hB⟩ := h
  exact ⟨⟨v, boxed_below hv hb, ownM_mono (ownM_below ho hb) (Nat.le_refl _) hb.size⟩, hB.trans (hb.mono (Nat.le_trans hn hB.size))⟩

attribute [local go_sem] Oper.semAt_some

section
variable {n l : Nat} {o : Oper} {a : Act} {w : World} {K : Act → World → Prop} {Q : Exit → Act → World → Prop}

theorem wpIn_loadB {F : Fence} (x : Operand) (ho : o.op = .load 23 x) (B : Nat) (v : Value) (hv : Boxed w B 23 v) (hx : a.eval x = .pointer (some ⟨B, 0, none⟩)) (h : K (a.put o.dst v) w) : o.wpIn F n (cutP Try.prog) a w K Q := by
  have hr : (Instr.loadAt 23 (.pointer (some ⟨B, 0, none⟩))).run (cutP Try.prog) w = .ok v w := by
    have hc := hv.cell
    simp [go_sem, hc]
  unfold Oper.wpIn
  refine ⟨by simp [Oper.about, ho], ?_⟩
  rw [Oper.semAt_plain F _ _ (by rw [ho]; intro c hc; cases hc)]
  simp only [execOp, ho, hx, Sem.run_bind, hr, Sem.run_pure, Result.andThen_ok]
  exact h

theorem wpIn_storeB {F : Fence} (x y : Operand) (ho : o.op = .store 23 x y) (B : Nat) (v : Value) (g m c : Nat) (hv : Boxed w B 23 v) (hx : a.eval x = .pointer (some ⟨B, 0, none⟩)) (hy : a.eval y = .slice (some ⟨g, 0, none⟩) m c) (h : K (a.put o.dst undef) (w.setCell ⟨B, 0, none⟩ (.slice (some ⟨g, 0, none⟩) m c))) : o.wpIn F n (cutP Try.prog) a w K Q := by
  have hr : (Instr.storeAt 23 (.pointer (some ⟨B, 0, none⟩)) (.slice (some ⟨g, 0, none⟩) m c)).run (cutP Try.prog) w = .ok () (w.setCell ⟨B, 0, none⟩ (.slice (some ⟨g, 0, none⟩) m c)) := by
    have hc := hv.cell
    have hf := hv.frozen
    simp [go_sem, hc, hf]
  unfold Oper.wpIn
  refine ⟨by simp [Oper.about, ho], ?_⟩
  rw [Oper.semAt_plain F _ _ (by rw [ho]; intro c hc; cases hc)]
  simp only [execOp, ho, hx, hy, Sem.run_bind, hr, Sem.run_pure, Result.andThen_ok]
  exact h

theorem wpIn_buildB {F : Fence} (x : Operand) (ho : o.op = .buildSlice 23 1 #[(0, x)]) (ao : Option Addr) (m c : Nat) (hx : a.eval x = .slice ao m c) (h : K (a.put o.dst (.slice (some ⟨w.heap.size, 0, none⟩) 1 1)) (w.alloc (.cells #[.slice ao m c] 25))) : o.wpIn F n (cutP Try.prog) a w K Q := by
  unfold Oper.wpIn
  refine ⟨by simp [Oper.about, ho], ?_⟩
  rw [Oper.semAt_plain F _ _ (by rw [ho]; intro c hc; cases hc)]
  simp only [execOp, ho, List.map_toArray, List.map_cons, List.map_nil, hx]
  simp [go_sem]
  exact h

theorem wpIn_pushV {F : Fence} (s x : Operand) (ho : o.op = .call { callee := .builtin .append, args := #[s, x], argTypes := #[23, 23] })
    (B S m : Nat) (v : Value) (xss : List (List Int)) (hown : OwnM w B S v xss) (hn : m = xss.length) (hs : a.eval s = v)
    (ad : Addr) (hx : a.eval x = .slice (some ad) 1 1) (u : Value) (ys : List Int) (hc : w.cell? ad = some u) (hu : Own w B u ys) (hui : InB u S w.heap.size) (hBS : B ≤ S) (hSw : S ≤ w.heap.size) (hl : m ≤ 1000000000)
    (h : ∀ g' cap' w', OwnM w' B w'.heap.size (.slice (some ⟨g', 0, none⟩) (m + 1) cap') (xss ++ [ys]) → w.grownBy w' v.ownBlock → K (a.put o.dst (.slice (some ⟨g', 0, none⟩) (m + 1) cap')) w') : o.wpIn F n (cutP Try.prog) a w K Q := by
  obtain ⟨g', cap', w', hru, h1, h2⟩ := run_pushV o.type B S m v xss hown hn ad u ys hc hu hui hBS hSw hl
  unfold Oper.wpIn
  refine ⟨by simp [Oper.about, ho, resolve, Target.leads, Sem.run_pure], ?_⟩
  rw [Oper.semAt_plain F _ _ (by rw [ho]; intro c hc'; cases hc')]
  simp only [execOp, ho, resolve, invoke, builtin, Sem.run_bind, Sem.run_pure, Result.andThen_ok, List.map_toArray, List.map_cons, List.map_nil, hs, hx, hru]
  exact h g' cap' w' h1 h2

theorem wpIn_call1 (f : FuncId) (x : Operand) (t : TypeId) (ho : o.op = .call { callee := .value (.func f), args := #[x], argTypes := #[t] }) (u : Value) (hx : a.eval x = u)
    (R : Ending → World → Prop) (hc : Calls (cutP Try.prog) f #[u] w R) (he : (callFunc f #[u]).run (cutP Try.prog) w = .ok (.enter f #[u]) w) (h : ∀ e w', R e w' → ∃ v, e = .returned v ∧ K (a.put o.dst v) w') : o.wpIn (Fence.wide.inRound l) n (cutP Try.prog) a w K Q := by
  unfold Oper.wpIn
  refine ⟨fun _ _ => trivial, ?_⟩
  rw [Oper.semAt_plain _ _ _ (by rw [ho]; intro c hc'; cases hc')]
  have hcall : (execOp a.eval o).run (cutP Try.prog) w = .ok (.enter f #[u]) w := by
    simp only [execOp, ho, List.map_toArray, List.map_cons, List.map_nil, hx, resolve, invoke, show a.eval (.func f) = .func (.func f) #[] #[] from rfl]
    simp [Deferred.ofValue, he]
  rw [hcall]
  refine ⟨fun hd => by simp [Fence.wide] at hd, ?_⟩
  refine CallsIn.mono (callsIn_wide.2 hc) ?_
  intro e w' hr
  obtain ⟨v, rfl, hk⟩ := h e w' hr
  exact hk
end

theorem collect_box {n₀ B : Nat} {w W w5 w7 : World} {v : Value} {xss : List (List Int)} (hn : n₀ ≤ w.heap.size) (hB : Below n₀ w W) (hv : Boxed W B 23 v) (hom : OwnM W n₀ W.heap.size v xss) (hb5 : Below W.heap.size W w5) (o : Obj) (h2 : (w5.alloc o).grownBy w7 v.ownBlock) : Boxed w7 B 23 v := by
  obtain ⟨vs, hr⟩ := ownM_row0 (ownM_below hom hb5)
  exact ((boxed_below hv hb5).alloc o).kept h2 ((boxed_below hv hb5).not_row (by decide) hr)

theorem collect_done (c m : Nat) {n₀ B g' cap' k : Nat} {w W w5 w7 : World} {v : Value} {G : List Nat → List (List Int)} {pre : List Nat} {p : Nat} {ys : List Int} (hn : n₀ ≤ w.heap.size) (hBn : n₀ ≤ B) (hB : Below n₀ w W) (hv : Boxed W B 23 v) (hom : OwnM W n₀ W.heap.size v (G pre)) (hb5 : Below W.heap.size W w5) (o : Obj)
    (h1 : OwnM w7 n₀ w7.heap.size (.slice (some ⟨g', 0, none⟩) k cap') (G pre ++ [ys])) (h2 : (w5.alloc o).grownBy w7 v.ownBlock) (hG : G (pre ++ [p]) = G pre ++ [ys]) :
    KeepsFrom m W (w7.setCell ⟨B, 0, none⟩ (.slice (some ⟨g', 0, none⟩) k cap')) ∧ KpL n₀ W (w7.setCell ⟨B, 0, none⟩ (.slice (some ⟨g', 0, none⟩) k cap')) ∧ HoldsL c n₀ B w G (pre ++ [p]) (w7.setCell ⟨B, 0, none⟩ (.slice (some ⟨g', 0, none⟩) k cap')) := by
  obtain ⟨vs, hr⟩ := ownM_row0 (ownM_below hom hb5)
  obtain ⟨vs7, hr7⟩ := ownM_row0 h1
  have hn5 : n₀ ≤ w5.heap.size := Nat.le_trans hn (Nat.le_trans hB.size hb5.size)
  obtain ⟨e1, e2, _, e4, e5⟩ := (boxed_below hv hb5).appended (by decide) hr hn5 hBn hr7 h2
  have hbW : Below n₀ W w5 := hb5.mono (Nat.le_trans hn hB.size)
  refine ⟨(keepsFrom_below m hb5).trans (e4.from m), ⟨hbW.trans e5, ?_⟩, ⟨_, e2, ?_⟩, hB.trans (hbW.trans e5)⟩
  · exact ((keepL_below hb5).trans ((keepL_below (W := w5) ((Below.refl _ _).alloc (Nat.le_refl _) o)).trans (keepL_row (hr.alloc o) h2))).trans (keepL_box e1 _)
  · rw [hG]
    exact ownM_mono (ownM_setBox h1 e1 _) (Nat.le_refl _) (Nat.le_of_eq (by simp [World.setCell]))

theorem wpList_pushV {w : World} {ops : Array Oper} {rest : List Oper} {o : Oper} {a : Act} {Q : Exit → Act → World → Prop} (hgd : o.guard = none) (s x : Operand)
    (ho : o.op = .call { callee := .builtin .append, args := #[s, x], argTypes := #[23, 23] })
    (B S m : Nat) (v : Value) (xss : List (List Int)) (hs : a.eval s = v) (hown : OwnM w B S v xss) (hn : m = xss.length)
    (ad : Addr) (hx : a.eval x = .slice (some ad) 1 1) (u : Value) (ys : List Int) (hc : w.cell? ad = some u) (hu : Own w B u ys) (hui : InB u S w.heap.size) (hBS : B ≤ S) (hSw : S ≤ w.heap.size) (hl : m ≤ 1000000000)
    (h : ∀ g' cap' w', OwnM w' B w'.heap.size (.slice (some ⟨g', 0, none⟩) (m + 1) cap') (xss ++ [ys]) → w.grownBy w' v.ownBlock → wpList (cutP Try.prog) ops Q rest (a.put o.dst (.slice (some ⟨g', 0, none⟩) (m + 1) cap')) w') :
    wpList (cutP Try.prog) ops Q (o :: rest) a w :=
  wpList_plain hgd fun _ hK => by
    obtain ⟨g', cap', w', hru, h1, h2⟩ := run_pushV o.type B S m v xss hown hn ad u ys hc hu hui hBS hSw hl
    unfold Oper.wp execOp
    simp only [ho, resolve, invoke, builtin, Sem.run_bind, Sem.run_pure, Result.andThen_ok, List.map_toArray, List.map_cons, List.map_nil, hs, hx, hru]
    exact hK _ _ (h g' cap' w' h1 h2)
end

section
open Go.RowKit

structure AtStage (n : Nat) (P : Int) (i : Nat) (pre : List Int) (q : Int) : Prop where
  le : i ≤ n
  len : pre.length = i
  ok : okFrom 0 pre = true
  q0 : 0 ≤ q
  q1 : q < opn (n - i) (sizeFrom 0 pre)
  eq : atL n P = pre ++ atFrom (n - i) (sizeFrom 0 pre) q

theorem atStage_start (n : Nat) (P : Int) (h0 : 0 ≤ P) (h1 : P < opn n 0) : AtStage n P 0 [] P := ⟨Nat.zero_le _, rfl, rfl, h0, h1, rfl⟩

theorem atStage_step {n i : Nat} {P q : Int} {pre : List Int} (h : AtStage n P i pre q) (hi : i < n) (x : Int) (hx : x = min (q / opn (n - (i + 1)) (sizeFrom 0 pre)) (sizeFrom 0 pre)) :
    AtStage n P (i + 1) (pre ++ [x]) (q - x * opn (n - (i + 1)) (sizeFrom 0 pre)) ∧ 0 ≤ x ∧ x ≤ sizeFrom 0 pre := by
  have hn : n - i = (n - (i + 1)) + 1 := by omega
  have hs := sizeFrom_nonneg pre 0
  have hq1 := h.q1
  have heq := h.eq
  rw [hn] at hq1 heq
  obtain ⟨e1, e2, e3, e4⟩ := at_head (n - (i + 1)) (sizeFrom 0 pre) q hs h.q0 hq1
  rw [atFrom] at heq
  rw [← hx] at e1 e2 e3 e4 heq
  refine ⟨⟨by omega, by rw [List.length_append, h.len]; rfl, ?_, e3, ?_, ?_⟩, e1, e2⟩
  · rw [okFrom_app]
    refine ⟨h.ok, ?_⟩
    rw [okFrom_step _ e1 e2]
    rfl
  · rw [sizeFrom_snoc]; exact e4
  · rw [sizeFrom_snoc, heq]; simp

theorem atStage_end {n : Nat} {P q : Int} {pre : List Int} (h : AtStage n P n pre q) : atL n P = pre := by
  have := h.eq
  rw [Nat.sub_self, atFrom, List.append_nil] at this
  exact this

theorem pre_small {pre : List Int} {n : Nat} (h : okFrom 0 pre = true) (hl : pre.length ≤ 8) (m : Nat) : Small (pre ++ List.replicate m 0) := fun j hj => by
  simp only [List.getD, List.getElem?_append]
  by_cases h1 : j < pre.length
  · rw [if_pos h1]
    have := okFrom_small pre 0 (by omega) h j h1
    simp only [List.getD] at this
    omega
  · rw [if_neg h1, List.getElem?_replicate]
    split <;> simp
end

section
open Go.RowKit

theorem lineList_f (xs : List Int) (w : World) (hp : partIn xs = true) : Calls (cutP Try.prog) 53 #[.agg (rowC (ln xs))] w (FreshL w xs) :=
  lineList_any xs w (partIn_small hp) (partIn_len hp).2
end

section
open Go.RowKit Go.Shelf

attribute [local go_sem] Oper.semAt_some

def listAll (n : Int) : List (List Int) × Bool := if 1 ≤ n ∧ n ≤ 7 then (allL n.toNat, true) else ([], false)
theorem isListed_is (b : Bool) (n : Int) (w : World) (h : decide (1 ≤ n ∧ n ≤ 7) = b) : Calls (cutP Try.prog) 50 #[.int .i64 n] w fun e w' => e = .returned (.bool b) ∧ w = w' := by
  subst h
  exact isListed_any n w

theorem fresh_some {w : World} {B : Nat} {u : Value} {xs : List Int} (h : Own w B u xs) (h1 : 1 ≤ xs.length) : ∃ g cap, u = .slice (some ⟨g, 0, none⟩) xs.length cap := by
  rcases own_view h with ⟨_, rfl⟩ | ⟨g, cap, rfl, _⟩
  · simp at h1
  · exact ⟨g, cap, rfl⟩

set_option maxHeartbeats 3200000 in
theorem listAll_in (n : Nat) (hn : 3 ≤ n) (c : Nat) (w : World) (hc1 : 1 ≤ c) (hc7 : c ≤ 7) :
    CallsIn Fence.wide n (cutP Try.prog) 31 #[.int .i64 c] w (FreshMB w (allL c, true)) := by
  have h1 : 1 ≤ n := by omega
  obtain ⟨i0, hi, hz0, hz1, hz2⟩ := info_parts Try.infoInts
  have HI := Lib.hid fun (w1 : World) => isListed_is true (c : Int) w1 (by simp; omega)
  have hob := opn_bd c 0 (by omega) (by omega)
  obtain ⟨T, hT⟩ : ∃ T : Nat, T = (opn c 0).toNat := ⟨_, rfl⟩
  have hTi : opn c 0 = (T : Int) := by omega
  have hT1 : 1 ≤ T := by omega
  have hT2 : T ≤ 4140 := by omega
  have he := fun (w1 : World) => endings_any c (c : Int) 0 w1 rfl (by omega) (by omega)
  rw [hTi] at he
  have HE := Lib.hid he
  clear he hTi hT hob
  refine callsIn_of_wp_marks Tryp.func31 rfl trivial ?_ rfl
  simp only [Tryp.ntmps31, List.size_toArray, List.length_cons, List.length_nil, Nat.reduceAdd, Nat.reduceSub, Array.replicate_succ, Array.replicate_zero, List.push_toArray, List.append_toArray, List.nil_append, List.cons_append]
  gi_wp2_with (first | (gi_at_make; refine wpListIn_make_own _ rfl _ _ 23 rfl w.heap.size 25 i0 (.slice none 0 0) 1 Tryp.underlying23 hi hz0 hz1 _ _ _ T rfl rfl rfl (by rw [hz2]; omega) (by unfold maxLen; omega) (Nat.le_refl _) ?_; intro w1 hown1 hgrow1) | (refine ⟨trivial, ?_⟩; gi_at_call 50; refine (callsIn_wide.2 (HI.out _)).mono ?_; rintro e w' ⟨rfl, rfl⟩) | (refine ⟨trivial, ?_⟩; gi_at_call 51; refine (callsIn_wide.2 (HE.out _)).mono ?_; rintro e w' ⟨rfl, rfl⟩))
  have hs1 : w.heap.size < w1.heap.size := by
    have := World.ownsRow.lt hown1 w.heap.size rfl
    omega
  have hb1 : Below w.heap.size w w1 := (Below.refl _ _).grown hgrow1 (Nat.le_refl _) (fun k h => by cases h)
  clear hgrow1
  gi_wp2_with (refine ⟨trivial, ?_⟩; gi_at_call 52; refine (linesOf_in _ _ _).mono ?_; rintro e w' ⟨rfl, rfl⟩)
  have bO := Boxed.new w1 23 (.slice (some ⟨w.heap.size, 0, none⟩) 0 T)
  obtain ⟨W2, hW2⟩ : ∃ W2, W2 = w1.alloc (.cells #[.slice (some ⟨w.heap.size, 0, none⟩) 0 T] 23) := ⟨_, rfl⟩
  have hsz2 : W2.heap.size = w1.heap.size + 1 := by rw [hW2]; simp
  have hB2 : Below w.heap.size w W2 := by rw [hW2]; exact hb1.alloc hb1.size _
  have hown2 : OwnM W2 w.heap.size W2.heap.size (.slice (some ⟨w.heap.size, 0, none⟩) 0 T) [] := by
    refine ⟨[], rfl, ?_, fun k hk => by simp [Value.ownBlock] at hk; omega, fun i hi => by simp at hi, fun i j _ hj => by simp at hj⟩
    rw [hW2]
    exact hown1.alloc _
  rw [← hW2] at bO ⊢
  have bN := Boxed.new W2 3 (.int .i64 c)
  rw [hsz2] at bN
  have hI0 : HoldsL c w.heap.size w1.heap.size w (fun pre => pre.map fun p => atL c (p : Nat)) [] W2 := ⟨⟨_, bO, hown2⟩, hB2⟩
  have hI1 := holdsL_below (Nat.le_refl _) hI0 ((Below.refl W2.heap.size W2).alloc (Nat.le_refl _) (.cells #[.int .i64 c] 3))
  clear hW2 hown1 hb1 hown2 bO hI0
  refine wpIn_rangeFunc_ownH rfl h1 (gf := 67) (lb := #[.pointer (some ⟨w1.heap.size + 1, 0, none⟩)]) rfl trivial (enters_of Tryp.func67 (by kernel_rfl) rfl)
    (lines_stops (n - 1) (by omega) (w1.heap.size + 1) w.heap.size c hc1 (by omega) _ (by simp; omega) bN.cell) kpL_t (kpL_b (by simp; omega)) (Below.refl _ _) (fun _ => rfl)
    (HoldsL c w.heap.size w1.heap.size w (fun pre => pre.map fun p => atL c (p : Nat)))
    (fun _ _ _ => False)
    (holdsL_own _ _ _ _ _ _ (Nat.le_refl _) (by simp; omega))
    (fun _ _ _ _ _ hs _ _ => hs)
    hI1
    (fun x a' W => ∃ g, a' = { tmps := #[.int .i64 c, undef, .slice none 0 0, .bool false, .pointer (some ⟨w1.heap.size, 0, none⟩), .pointer (some ⟨g, 0, none⟩), .int .i64 c, .bool true, .bool false, .int .i64 c, .int .i64 T, .slice (some ⟨w.heap.size, 0, none⟩) 0 T, .int .i64 c, .func (.func 67) #[] #[.pointer (some ⟨w1.heap.size + 1, 0, none⟩)], .agg (rowC (ln (atL c (x : Int)))), undef, undef, undef, undef, undef, undef], defers := [] } ∧ RowAt W g (ln (atL c (x : Int))) ∧ w.heap.size ≤ g)
    (fun x a' => fun s A C row ⟨g, e, hr, hg⟩ hgr hrow => ⟨g, e, rowAt_ownFrom (β := Unit) 0 _ g _ s A C row hr hgr hrow, hg⟩) ?assign ?body ?done ?stop
  case assign =>
    intro l pre x W K hI hK
    have hz : RowAt (W.alloc (.cells #[.int .i64 0, .int .i64 0, .int .i64 0, .int .i64 0, .int .i64 0, .int .i64 0, .int .i64 0, .int .i64 0] 65)) W.heap.size (List.replicate 8 0) := heap_alloc_new W _
    have HZ := Lib.hid hz
    have HLX := Lib.hid (ln_length (xs := atL c (x : Int)) (by rw [atL_length]; omega))
    have HB := Lib.hid ((Below.refl W.heap.size W).alloc (Nat.le_refl _) (.cells #[.int .i64 0, .int .i64 0, .int .i64 0, .int .i64 0, .int .i64 0, .int .i64 0, .int .i64 0, .int .i64 0] 65))
    have hBW := hI.2.size
    have HI := Lib.hid hI
    clear hz hI
    gi_wp2_with (first | (refine wpListIn_storeL rfl _ _ rfl W.heap.size _ rfl rfl (List.replicate 8 0) rfl HLX.out HZ.out ?_; intro w3 hg3 ht3; have HG3 := Lib.hid hg3; have HB3 := Lib.hid (HB.out.trans (touch_below ht3 (Nat.le_refl _))); clear hg3 ht3))
    exact hK _ _ (keepsFrom_below _ HB3.out) ⟨HB3.out.mono hBW, keepL_below HB3.out⟩ (holdsL_below (Nat.le_refl _) HI.out HB3.out) ⟨W.heap.size, rfl, HG3.out, hBW⟩
  case body =>
    rintro l pre x a' W hl hloop ⟨⟨v, hv, hom⟩, hB⟩ ⟨g, rfl, hr, hg⟩ hlt
    have hBW := hB.size
    have HLX := Lib.hid (ln_length (xs := atL c (x : Int)) (by rw [atL_length]; omega))
    have HL1 := Lib.hid (show 1 ≤ (atL c (x : Int)).length by rw [atL_length]; exact hc1)
    have HLL := Lib.hid fun (w5 : World) => lineList_f (atL c (x : Int)) w5 (atL_partIn_any c x hc1 (by omega))
    have HEN := Lib.hid (enters_of Tryp.func53 (by kernel_rfl) rfl)
    have HPL := Lib.hid (show (pre.map fun p => atL c (p : Nat)).length ≤ 1000000000 by
      have := opn_bd c 0 (by omega) (by omega)
      rw [List.length_map]
      omega)
    have HG := Lib.hid (show ((pre ++ [x]).map fun p => atL c (p : Nat)) = (pre.map fun p => atL c (p : Nat)) ++ [atL c (x : Nat)] by simp)
    have hv0 : Boxed W.drew w1.heap.size 23 v := hv
    have hr0 : RowAt W.drew g (ln (atL c (x : Int))) := hr
    gi_wp2
    refine wpIn_region_any (by kernel_rfl) ?_
    change wpAnyIn _ _ _ _ _ _ _ _ _ (World.drew _)
    refine wpAnyIn_ready (rs := [0, 1]) (by kernel_rfl) (by simp) (AllReadyIn.cons rfl (fun K hK => ?_) (AllReadyIn.cons rfl (fun K hK => ?_) AllReadyIn.nil))
    · rw [if_pos (by rfl)]
      refine wpIn_loadB _ rfl _ _ hv0 rfl (hK _ _ ?_)
      clear hK K
      simp only [Act.put, List.setIfInBounds_toArray, List.set_cons_zero, List.set_cons_succ, List.getElem_toArray, List.getElem_cons_zero, List.getElem_cons_succ]
      refine wpAnyIn_ready (rs := [1]) (by kernel_rfl) (by simp) (AllReadyIn.cons rfl (fun K hK => ?_) AllReadyIn.nil)
      rw [if_pos (by rfl)]
      refine wpIn_loadL _ rfl g rfl _ HLX.out hr0 (hK _ _ ?_)
      clear hK K
      simp only [Act.put, List.setIfInBounds_toArray, List.set_cons_zero, List.set_cons_succ, List.getElem_toArray, List.getElem_cons_zero, List.getElem_cons_succ]
      refine wpAnyIn_ready (rs := [2]) (by kernel_rfl) (by simp) (AllReadyIn.cons rfl (fun K hK => ?_) AllReadyIn.nil)
      rw [if_pos (by rfl)]
      refine wpIn_call1 53 _ _ rfl _ rfl _ (HLL.out W.drew) (HEN.out _ _) ?_
      rintro e w5 ⟨u, rfl, hu, hb5⟩
      refine ⟨_, rfl, hK _ _ ?_⟩
      have hb5 : Below W.heap.size W w5 := (below_drewN (Below.refl _ W) 1).trans hb5
      have hv5 := boxed_below hv hb5
      obtain ⟨gu, cu, rfl⟩ := fresh_some hu HL1.out
      clear hK K
      simp only [Act.put, List.setIfInBounds_toArray, List.set_cons_zero, List.set_cons_succ, List.getElem_toArray, List.getElem_cons_zero, List.getElem_cons_succ]
      refine wpAnyIn_ready (rs := [3]) (by kernel_rfl) (by simp) (AllReadyIn.cons rfl (fun K hK => ?_) AllReadyIn.nil)
      rw [if_pos (by rfl)]
      refine wpIn_buildB _ rfl _ _ _ rfl (hK _ _ ?_)
      have hv6 := hv5.alloc (.cells #[.slice (some ⟨gu, 0, none⟩) (atL c (x : Int)).length cu] 25)
      clear hK K
      simp only [Act.put, List.setIfInBounds_toArray, List.set_cons_zero, List.set_cons_succ, List.getElem_toArray, List.getElem_cons_zero, List.getElem_cons_succ]
      refine wpAnyIn_ready (rs := [4]) (by kernel_rfl) (by simp) (AllReadyIn.cons rfl (fun K hK => ?_) AllReadyIn.nil)
      rw [if_pos (by rfl)]
      refine wpIn_pushV _ _ rfl w.heap.size W.heap.size _ v _ (ownM_below (ownM_below hom hb5) ((Below.refl _ _).alloc (Nat.le_refl _) _)) rfl rfl ⟨w5.heap.size, 0, none⟩ rfl _ _ (cell_new1 _ _ _) (own_mono (own_alloc hu _) hBW) (inB_mono (inB_of_own hu) (Nat.le_refl _) (by simp)) hBW (by have := hb5.size; simp; omega) HPL.out ?_
      intro g7 cap7 w7 h7 hg7
      refine hK _ _ ?_
      have hv7 := collect_box (Nat.le_refl _) hB hv hom hb5 _ hg7
      clear hK K
      simp only [Act.put, List.setIfInBounds_toArray, List.set_cons_zero, List.set_cons_succ, List.getElem_toArray, List.getElem_cons_zero, List.getElem_cons_succ]
      refine wpAnyIn_ready (rs := [5]) (by kernel_rfl) (by simp) (AllReadyIn.cons rfl (fun K hK => ?_) AllReadyIn.nil)
      rw [if_pos (by rfl)]
      refine wpIn_storeB _ _ rfl _ v g7 _ cap7 hv7 rfl rfl (hK _ _ ?_)
      clear hK K
      simp only [Act.put, List.setIfInBounds_toArray, List.set_cons_zero, List.set_cons_succ, List.getElem_toArray, List.getElem_cons_zero, List.getElem_cons_succ]
      refine wpAnyIn_done (by kernel_rfl) ?_ _
      exact collect_done c _ (Nat.le_refl _) (by omega) hB hv hom hb5 _ h7 hg7 HG.out
    · rw [if_pos (by rfl)]
      refine wpIn_loadL _ rfl g rfl _ HLX.out hr0 (hK _ _ ?_)
      clear hK K
      simp only [Act.put, List.setIfInBounds_toArray, List.set_cons_zero, List.set_cons_succ, List.getElem_toArray, List.getElem_cons_zero, List.getElem_cons_succ]
      refine wpAnyIn_ready (rs := [0, 2]) (by kernel_rfl) (by simp) (AllReadyIn.cons rfl (fun K hK => ?_) (AllReadyIn.cons rfl (fun K hK => ?_) AllReadyIn.nil))
      · rw [if_pos (by rfl)]
        refine wpIn_loadB _ rfl _ _ hv0 rfl (hK _ _ ?_)
        clear hK K
        simp only [Act.put, List.setIfInBounds_toArray, List.set_cons_zero, List.set_cons_succ, List.getElem_toArray, List.getElem_cons_zero, List.getElem_cons_succ]
        refine wpAnyIn_ready (rs := [2]) (by kernel_rfl) (by simp) (AllReadyIn.cons rfl (fun K hK => ?_) AllReadyIn.nil)
        rw [if_pos (by rfl)]
        refine wpIn_call1 53 _ _ rfl _ rfl _ (HLL.out W.drew) (HEN.out _ _) ?_
        rintro e w5 ⟨u, rfl, hu, hb5⟩
        refine ⟨_, rfl, hK _ _ ?_⟩
        have hb5 : Below W.heap.size W w5 := (below_drewN (Below.refl _ W) 1).trans hb5
        have hv5 := boxed_below hv hb5
        obtain ⟨gu, cu, rfl⟩ := fresh_some hu HL1.out
        clear hK K
        simp only [Act.put, List.setIfInBounds_toArray, List.set_cons_zero, List.set_cons_succ, List.getElem_toArray, List.getElem_cons_zero, List.getElem_cons_succ]
        refine wpAnyIn_ready (rs := [3]) (by kernel_rfl) (by simp) (AllReadyIn.cons rfl (fun K hK => ?_) AllReadyIn.nil)
        rw [if_pos (by rfl)]
        refine wpIn_buildB _ rfl _ _ _ rfl (hK _ _ ?_)
        have hv6 := hv5.alloc (.cells #[.slice (some ⟨gu, 0, none⟩) (atL c (x : Int)).length cu] 25)
        clear hK K
        simp only [Act.put, List.setIfInBounds_toArray, List.set_cons_zero, List.set_cons_succ, List.getElem_toArray, List.getElem_cons_zero, List.getElem_cons_succ]
        refine wpAnyIn_ready (rs := [4]) (by kernel_rfl) (by simp) (AllReadyIn.cons rfl (fun K hK => ?_) AllReadyIn.nil)
        rw [if_pos (by rfl)]
        refine wpIn_pushV _ _ rfl w.heap.size W.heap.size _ v _ (ownM_below (ownM_below hom hb5) ((Below.refl _ _).alloc (Nat.le_refl _) _)) rfl rfl ⟨w5.heap.size, 0, none⟩ rfl _ _ (cell_new1 _ _ _) (own_mono (own_alloc hu _) hBW) (inB_mono (inB_of_own hu) (Nat.le_refl _) (by simp)) hBW (by have := hb5.size; simp; omega) HPL.out ?_
        intro g7 cap7 w7 h7 hg7
        refine hK _ _ ?_
        have hv7 := collect_box (Nat.le_refl _) hB hv hom hb5 _ hg7
        clear hK K
        simp only [Act.put, List.setIfInBounds_toArray, List.set_cons_zero, List.set_cons_succ, List.getElem_toArray, List.getElem_cons_zero, List.getElem_cons_succ]
        refine wpAnyIn_ready (rs := [5]) (by kernel_rfl) (by simp) (AllReadyIn.cons rfl (fun K hK => ?_) AllReadyIn.nil)
        rw [if_pos (by rfl)]
        refine wpIn_storeB _ _ rfl _ v g7 _ cap7 hv7 rfl rfl (hK _ _ ?_)
        clear hK K
        simp only [Act.put, List.setIfInBounds_toArray, List.set_cons_zero, List.set_cons_succ, List.getElem_toArray, List.getElem_cons_zero, List.getElem_cons_succ]
        refine wpAnyIn_done (by kernel_rfl) ?_ _
        exact collect_done c _ (Nat.le_refl _) (by omega) hB hv hom hb5 _ h7 hg7 HG.out
      · rw [if_pos (by rfl)]
        refine wpIn_call1 53 _ _ rfl _ rfl _ (HLL.out W.drew) (HEN.out _ _) ?_
        rintro e w5 ⟨u, rfl, hu, hb5⟩
        refine ⟨_, rfl, hK _ _ ?_⟩
        have hb5 : Below W.heap.size W w5 := (below_drewN (Below.refl _ W) 1).trans hb5
        have hv5 := boxed_below hv hb5
        obtain ⟨gu, cu, rfl⟩ := fresh_some hu HL1.out
        clear hK K
        simp only [Act.put, List.setIfInBounds_toArray, List.set_cons_zero, List.set_cons_succ, List.getElem_toArray, List.getElem_cons_zero, List.getElem_cons_succ]
        refine wpAnyIn_ready (rs := [0, 3]) (by kernel_rfl) (by simp) (AllReadyIn.cons rfl (fun K hK => ?_) (AllReadyIn.cons rfl (fun K hK => ?_) AllReadyIn.nil))
        · rw [if_pos (by rfl)]
          refine wpIn_loadB _ rfl _ _ hv5 rfl (hK _ _ ?_)
          clear hK K
          simp only [Act.put, List.setIfInBounds_toArray, List.set_cons_zero, List.set_cons_succ, List.getElem_toArray, List.getElem_cons_zero, List.getElem_cons_succ]
          refine wpAnyIn_ready (rs := [3]) (by kernel_rfl) (by simp) (AllReadyIn.cons rfl (fun K hK => ?_) AllReadyIn.nil)
          rw [if_pos (by rfl)]
          refine wpIn_buildB _ rfl _ _ _ rfl (hK _ _ ?_)
          have hv6 := hv5.alloc (.cells #[.slice (some ⟨gu, 0, none⟩) (atL c (x : Int)).length cu] 25)
          clear hK K
          simp only [Act.put, List.setIfInBounds_toArray, List.set_cons_zero, List.set_cons_succ, List.getElem_toArray, List.getElem_cons_zero, List.getElem_cons_succ]
          refine wpAnyIn_ready (rs := [4]) (by kernel_rfl) (by simp) (AllReadyIn.cons rfl (fun K hK => ?_) AllReadyIn.nil)
          rw [if_pos (by rfl)]
          refine wpIn_pushV _ _ rfl w.heap.size W.heap.size _ v _ (ownM_below (ownM_below hom hb5) ((Below.refl _ _).alloc (Nat.le_refl _) _)) rfl rfl ⟨w5.heap.size, 0, none⟩ rfl _ _ (cell_new1 _ _ _) (own_mono (own_alloc hu _) hBW) (inB_mono (inB_of_own hu) (Nat.le_refl _) (by simp)) hBW (by have := hb5.size; simp; omega) HPL.out ?_
          intro g7 cap7 w7 h7 hg7
          refine hK _ _ ?_
          have hv7 := collect_box (Nat.le_refl _) hB hv hom hb5 _ hg7
          clear hK K
          simp only [Act.put, List.setIfInBounds_toArray, List.set_cons_zero, List.set_cons_succ, List.getElem_toArray, List.getElem_cons_zero, List.getElem_cons_succ]
          refine wpAnyIn_ready (rs := [5]) (by kernel_rfl) (by simp) (AllReadyIn.cons rfl (fun K hK => ?_) AllReadyIn.nil)
          rw [if_pos (by rfl)]
          refine wpIn_storeB _ _ rfl _ v g7 _ cap7 hv7 rfl rfl (hK _ _ ?_)
          clear hK K
          simp only [Act.put, List.setIfInBounds_toArray, List.set_cons_zero, List.set_cons_succ, List.getElem_toArray, List.getElem_cons_zero, List.getElem_cons_succ]
          refine wpAnyIn_done (by kernel_rfl) ?_ _
          exact collect_done c _ (Nat.le_refl _) (by omega) hB hv hom hb5 _ h7 hg7 HG.out
        · rw [if_pos (by rfl)]
          refine wpIn_buildB _ rfl _ _ _ rfl (hK _ _ ?_)
          have hv6 := hv5.alloc (.cells #[.slice (some ⟨gu, 0, none⟩) (atL c (x : Int)).length cu] 25)
          clear hK K
          simp only [Act.put, List.setIfInBounds_toArray, List.set_cons_zero, List.set_cons_succ, List.getElem_toArray, List.getElem_cons_zero, List.getElem_cons_succ]
          refine wpAnyIn_ready (rs := [0]) (by kernel_rfl) (by simp) (AllReadyIn.cons rfl (fun K hK => ?_) AllReadyIn.nil)
          rw [if_pos (by rfl)]
          refine wpIn_loadB _ rfl _ _ hv6 rfl (hK _ _ ?_)
          clear hK K
          simp only [Act.put, List.setIfInBounds_toArray, List.set_cons_zero, List.set_cons_succ, List.getElem_toArray, List.getElem_cons_zero, List.getElem_cons_succ]
          refine wpAnyIn_ready (rs := [4]) (by kernel_rfl) (by simp) (AllReadyIn.cons rfl (fun K hK => ?_) AllReadyIn.nil)
          rw [if_pos (by rfl)]
          refine wpIn_pushV _ _ rfl w.heap.size W.heap.size _ v _ (ownM_below (ownM_below hom hb5) ((Below.refl _ _).alloc (Nat.le_refl _) _)) rfl rfl ⟨w5.heap.size, 0, none⟩ rfl _ _ (cell_new1 _ _ _) (own_mono (own_alloc hu _) hBW) (inB_mono (inB_of_own hu) (Nat.le_refl _) (by simp)) hBW (by have := hb5.size; simp; omega) HPL.out ?_
          intro g7 cap7 w7 h7 hg7
          refine hK _ _ ?_
          have hv7 := collect_box (Nat.le_refl _) hB hv hom hb5 _ hg7
          clear hK K
          simp only [Act.put, List.setIfInBounds_toArray, List.set_cons_zero, List.set_cons_succ, List.getElem_toArray, List.getElem_cons_zero, List.getElem_cons_succ]
          refine wpAnyIn_ready (rs := [5]) (by kernel_rfl) (by simp) (AllReadyIn.cons rfl (fun K hK => ?_) AllReadyIn.nil)
          rw [if_pos (by rfl)]
          refine wpIn_storeB _ _ rfl _ v g7 _ cap7 hv7 rfl rfl (hK _ _ ?_)
          clear hK K
          simp only [Act.put, List.setIfInBounds_toArray, List.set_cons_zero, List.set_cons_succ, List.getElem_toArray, List.getElem_cons_zero, List.getElem_cons_succ]
          refine wpAnyIn_done (by kernel_rfl) ?_ _
          exact collect_done c _ (Nat.le_refl _) (by omega) hB hv hom hb5 _ h7 hg7 HG.out
  case done =>
    rintro D ys W hD rfl ⟨⟨v, hv, hom⟩, hB⟩ hK
    have hc := hv.cell
    gi_wp2
    refine ⟨by simp, .inl ⟨_, _, rfl, run_takeDeferred hK, ?_⟩⟩
    exact ⟨_, results_tmp2 rfl _ _ _, v, rfl, ownM_mono (ownM_putObj hom _ hK rfl) (Nat.le_refl _) (by simp), hB.trans (belowK_b (w := w) (Nat.le_refl _) W D _ _ (by simp at hD; omega) hK rfl rfl)⟩
  case stop =>
    rintro D c pre W _ _ h _
    exact h.elim

theorem iListAll_v (a : Int) (w : World) (_ : (Lit.int .i64 a).wf = true) : Calls (cutP Try.prog) 31 #[.int .i64 a] w (FreshMB w (listAll a)) := by
  by_cases h : 1 ≤ a ∧ a ≤ 7
  · have hr : listAll a = (allL a.toNat, true) := by unfold listAll; rw [if_pos h]
    rw [hr]
    obtain ⟨c, rfl⟩ : ∃ c : Nat, a = c := ⟨a.toNat, by omega⟩
    rw [Int.toNat_natCast]
    exact callsIn_wide.1 (listAll_in 6 (by omega) c w (by omega) (by omega))
  · have hr : listAll a = ([], false) := by unfold listAll; rw [if_neg h]
    rw [hr]
    have HI := Lib.hid (isListed_is false a w (by simpa using h))
    clear hr h
    go_enter Tryp.func31, Tryp.ntmps31
    go_wp2_with (go_at_call 50; refine HI.out.mono ?_; rintro e w' ⟨rfl, rfl⟩)
    go_ret2
    exact ⟨_, rfl, ownM_nil _ _ _, Below.refl _ _⟩
end

def under (xs ys : List Int) (y v : Nat) : Bool := decide (ys.getD (xs.idxOf (v : Int)) 0 = (y : Int))

section
open Go.RowKit

def bellNext (last : Int) : List Int → List Int
  | [] => []
  | x :: xs => (last + x) :: bellNext (last + x) xs
def bellRow : Nat → List Int
  | 0 => [1]
  | n + 1 => (bellRow n).getD n 0 :: bellNext ((bellRow n).getD n 0) (bellRow n)

theorem bell_len : ∀ n, n < 8 → (bellRow n).length = n + 1 := by decide +kernel
theorem bell_bd : ∀ n, n < 8 → ∀ k, k < 9 → 0 ≤ (bellRow n).getD k 0 ∧ (bellRow n).getD k 0 ≤ 5000 := by decide +kernel
theorem bell_step : ∀ n, n < 7 → ∀ k, k < n + 1 → (bellRow (n + 1)).getD (k + 1) 0 = (bellRow (n + 1)).getD k 0 + (bellRow n).getD k 0 := by decide +kernel
theorem bell_head : ∀ n, n < 7 → (bellRow (n + 1)).take 1 = [(bellRow n).getD n 0] ∧ (bellRow (n + 1)).getD 0 0 = (bellRow n).getD n 0 := by decide +kernel
def bellN (n : Nat) : Int := (bellRow (n - 1)).getD (n - 1) 0

theorem own_lit1 (w : World) (B : Nat) (hB : B ≤ w.heap.size) (x : Int) : Own (w.alloc (.cells #[.int .i64 x] 3)) B (.slice (some ⟨w.heap.size, 0, none⟩) 1 1) [x] :=
  ⟨by simp, .inr ⟨w.heap.size, 1, #[.int .i64 x], rfl, hB, heap_alloc_new w _, Nat.le_refl _, by unfold maxLen; simp, rfl, by simp⟩⟩

theorem bell_take (n k : Nat) (h : n < 7) (hk : k < n + 1) : (bellRow (n + 1)).take (k + 2) = (bellRow (n + 1)).take (k + 1) ++ [(bellRow (n + 1)).getD k 0 + (bellRow n).getD k 0] := by
  rw [take_snoc _ (k + 1) (by rw [bell_len _ (by omega)]; omega), bell_step n h k hk]

set_option maxHeartbeats 1600000 in
theorem l2Bell_v (n : Int) (w : World) (h0 : 0 ≤ n) (h8 : n ≤ 8) :
    Calls (cutP Try.prog) 57 #[.int .i64 n] w (GivesI w (bellN n.toNat)) := by
  obtain ⟨c, rfl⟩ := Int.eq_ofNat_of_zero_le h0
  rw [Int.toNat_natCast]
  go_enter Tryp.func57, Tryp.ntmps57
  go_wp2
  go_loopw [3, 4] (fun u i wr => ∃ r m g cap : Nat, (r = 0 ∨ m ≤ c) ∧ r < 8 ∧ m = r + 1 ∧ i = .int .i64 m ∧ u = .slice (some ⟨g, 0, none⟩) m cap ∧ Own wr w.heap.size (.slice (some ⟨g, 0, none⟩) m cap) (bellRow r) ∧ Below w.heap.size w wr)
    (fun _ i _ => c - (intOf i).toNat)
  case atStart => exact ⟨0, 1, w.heap.size, 1, .inl rfl, by omega, rfl, rfl, rfl, own_lit1 w _ (Nat.le_refl _) 1, (Below.refl _ _).alloc (Nat.le_refl _) _⟩
  case round =>
    obtain ⟨r, m, g, cap, hr, hr8, hm, rfl, rfl, hown, hbel⟩ := hrel
    have HM := Lib.hid hm
    have hm1 : 1 ≤ m := by omega
    have hm9 : m < 9 := by omega
    have hir : (m : Int) - 1 = (r : Int) := by omega
    have hbl := bell_len r hr8
    have hlast := own_cell hown r (by rw [hbl]; omega)
    by_cases hlt : m < c
    · have hr7 : r < 7 := by omega
      obtain ⟨hh1, hh2⟩ := bell_head r hr7
      have HH1 := Lib.hid hh1
      have HH2 := Lib.hid hh2
      obtain ⟨x, hx⟩ : ∃ x, x = (bellRow r).getD r 0 := ⟨_, rfl⟩
      have hxb := bell_bd r hr8 r (by omega)
      rw [← hx] at hlast hxb
      have HX := Lib.hid hx
      have HBL := Lib.hid hbl
      have HO := Lib.hid hown
      have hB := hbel.size
      have hgl := own_lt hown g rfl
      have b1 : (m : Int) < (c : Int) := by omega
      clear hown hx hh1 hh2 hbl hm
      obtain ⟨wo, hwo⟩ : ∃ wo : World, wo = wr := ⟨_, rfl⟩
      subst hwo
      go_wp2
      go_loopw [5, 6] (fun u i wr => ∃ k g' cap' : Nat, k ≤ m ∧ i = .int .i64 k ∧ u = .slice (some ⟨g', 0, none⟩) ((k + 1 : Nat)) cap' ∧ Own wr w.heap.size (.slice (some ⟨g', 0, none⟩) (k + 1) cap') ((bellRow (r + 1)).take (k + 1)) ∧ Own wr w.heap.size (.slice (some ⟨g, 0, none⟩) m cap) (bellRow r) ∧ Below w.heap.size w wr ∧ g < g')
        (fun _ i _ => m - (intOf i).toNat)
      case atStart =>
        refine ⟨0, wo.heap.size, 1, Nat.zero_le _, rfl, rfl, ?_, own_alloc HO.out _, hbel.alloc hB _, hgl.2⟩
        rw [HH1.out, ← HX.out]
        exact own_lit1 wo _ hB x
      case round =>
        obtain ⟨k, g', cap', hk, rfl, rfl, hown', hown, hbel', hgg⟩ := hrel
        by_cases hkr : k < m
        · have hck := own_cell hown k (by rw [HBL.out, ← HM.out]; omega)
          have hcl := own_cell hown' k (by rw [List.length_take, bell_len _ (by omega)]; have := HM.out; omega)
          have hgt : ((bellRow (r + 1)).take (k + 1)).getD k 0 = (bellRow (r + 1)).getD k 0 := by simp [List.getD, List.getElem?_take]
          rw [hgt] at hcl
          have hyb := bell_bd r hr8 k (by have := HM.out; omega)
          have hlb := bell_bd (r + 1) (by omega) k (by have := HM.out; omega)
          have htk := bell_take r k hr7 (by have := HM.out; omega)
          have hst := bell_step r hr7 k (by have := HM.out; omega)
          obtain ⟨y, hy⟩ : ∃ y, y = (bellRow r).getD k 0 := ⟨_, rfl⟩
          obtain ⟨l, hl⟩ : ∃ l, l = (bellRow (r + 1)).getD k 0 := ⟨_, rfl⟩
          rw [← hy] at hck hyb htk hst
          rw [← hl] at hlb htk hst hcl
          have HTK := Lib.hid htk
          have HST := Lib.hid hst
          have HO' := Lib.hid hown'
          have HOr := Lib.hid hown
          have hB' := hbel'.size
          have hgl' := own_lt hown' g' rfl
          have htl : ((bellRow (r + 1)).take (k + 1)).length = k + 1 := by rw [List.length_take, bell_len _ (by omega)]; have := HM.out; omega
          have HTL := Lib.hid htl
          have b2 : (k : Int) < (m : Int) := by omega
          clear hy hl htk hst hown' hown htl
          have b3 : IntKind.i64.wrap (l + y) = l + y := IntWalk.i64_in _ (by omega)
          have b4 : (k : Int) < (k : Int) + 1 := by omega
          go_wp2
          go_region_law (first | (refine step_cat rfl _ _ (by rfl) w.heap.size g' (k + 1) cap' ((bellRow (r + 1)).take (k + 1)) (by rfl) (own_drew1 (own_alloc HO'.out _)) (by rw [HTL.out]) ⟨wr.heap.size, 0, none⟩ 1 1 (by rfl) [l + y] rfl (cells_one (cell_new1 _ _ _)) (by omega) (by simp; omega) (k + 1 + 1) rfl ?_; intro g3 cap3 w3 hown3 hgr3 hg3; have hbel3 : Below w.heap.size w w3 := (hbel'.alloc hB' _).drew.grown hgr3 (by simp; omega) (fun q hq => by cases hq; exact hgl'.1); have hor3 : Own w3 w.heap.size (.slice (some ⟨g, 0, none⟩) m cap) (bellRow r) := own_grown (own_drew1 (own_alloc HOr.out _)) hgr3 (.inr (by simp [Value.ownBlock]; omega)); have hg3' : g < g3 := (by have := own_lt HOr.out g rfl; first | omega | (simp at hg3; omega)); have HO3 := Lib.hid hown3; have HOr3 := Lib.hid hor3; clear hown3 hgr3 hg3 hor3))
          all_goals
            go_wp2
            go_roundw
            case rel => exact ⟨k + 1, g3, cap3, by omega, by go_num, rfl, by rw [HTK.out]; exact HO3.out, HOr3.out, hbel3, hg3'⟩
            case measure => simp [intOf]; omega
        · have hkr : k = m := by omega
          have hbl2 := bell_len (r + 1) (by omega)
          rw [hkr, List.take_of_length_le (by have := HM.out; omega)] at hown'
          have HBL2 := Lib.hid hbl2
          clear hbl2
          subst hkr
          go_wp2
          go_roundw
          case rel => exact ⟨r + 1, k + 1, g', cap', by omega, by have := HM.out; omega, by rw [HM.out], by go_num, rfl, hown', hbel'⟩
          case measure => simp [intOf]; omega
    · have hrc : r = c - 1 := by omega
      have HRC := Lib.hid hrc
      have b1 : ¬ (m : Int) < (c : Int) := by omega
      obtain ⟨x, hx⟩ : ∃ x, x = (bellRow r).getD r 0 := ⟨_, rfl⟩
      rw [← hx] at hlast
      have HX := Lib.hid hx
      clear hrc hm hbl hx
      go_wp2
      go_ret
      have he : bellN c = x := by rw [HX.out]; unfold bellN; rw [← HRC.out]
      exact ⟨ret_int he.symm, hbel⟩
end

section
open Go.RowKit

theorem at_stop {q o s : Int} (m : Nat) (ho : 1 ≤ o) (hm : (m : Int) ≤ s) (h0 : 0 ≤ q - m * o) (h1 : (m : Int) < s → q - m * o < o) : min (q / o) s = m := by
  by_cases h : (m : Int) < s
  · have hlt := h1 h
    have e : q = (q - m * o) + m * o := by omega
    have hd : q / o = m := by
      rw [e, Int.add_mul_ediv_right _ _ (by omega), Int.ediv_eq_zero_of_lt h0 hlt]
      omega
    rw [hd]
    omega
  · have he : (m : Int) = s := by omega
    have : s ≤ q / o := Int.le_ediv_of_mul_le (by omega) (by rw [← he]; omega)
    omega

set_option maxHeartbeats 1600000 in
theorem l4At_any (n : Nat) (P : Int) (w : World) (h8 : n ≤ 8) (hP0 : 0 ≤ P) (hP1 : P < opn n 0) :
    Calls (cutP Try.prog) 58 #[.int .i64 n, .int .i64 P] w (FreshL w (atL n P)) := by
  have HST := Lib.hid (atStage_start n P hP0 hP1)
  have HO0 := Lib.hid (own_empty w w.heap.size (Nat.le_refl _))
  clear hP0 hP1
  go_enter Tryp.func58, Tryp.ntmps58
  go_wp2
  go_loopw [1, 5, 6] (fun u o v wr => ∃ (i g cap : Nat) (q : Int) (pre : List Int), v = .int .i64 i ∧ u = .int .i64 q ∧ o = .slice (some ⟨g, 0, none⟩) i cap ∧ AtStage n P i pre q ∧ Own wr w.heap.size (.slice (some ⟨g, 0, none⟩) i cap) pre ∧ Below w.heap.size w wr)
    (fun _ _ v _ => n - (intOf v).toNat)
  case atStart => exact ⟨0, w.heap.size, 0, P, [], rfl, rfl, rfl, HST.out, HO0.out, (Below.refl _ _).alloc (Nat.le_refl _) _⟩
  case round =>
    obtain ⟨i, g, cap, q, pre, rfl, rfl, rfl, hst, hown, hb⟩ := hrel
    have hile := hst.le
    have HO := Lib.hid hown
    have HB := Lib.hid hb
    by_cases hlt : i < n
    · have hsm : Small pre := by
        have := pre_small (n := n) hst.ok (by rw [hst.len]; omega) 0
        simpa using this
      have hsl := size_le_len pre 0 (by omega) hst.ok
      rw [hst.len] at hsl
      have hs0 := sizeFrom_nonneg pre 0
      have hq0 := hst.q0
      have hq1 := hst.q1
      have hn1 : n - i = (n - (i + 1)) + 1 := by omega
      have hq4 := (opn_bd (n - i) (sizeFrom 0 pre) hs0 (by omega)).2
      have hstep := atStage_step hst hlt
      have hl4 := fun (k : Int) (w1 : World) (h1 : sizeFrom 0 pre ≤ k) (h2 : k ≤ sizeFrom 0 pre + 1) => l4Open_any (n - (i + 1)) ((n : Int) - 1 - (i : Int)) k w1 (by omega) (by omega) (by omega)
      have HSZ : Hid (Calls (cutP Try.prog) 61 #[.slice (some ⟨g, 0, none⟩) i cap] wr fun e w' => e = .returned (.int .i64 (sizeFrom 0 pre)) ∧ wr = w') := by
        have hr := own_rdv hown
        obtain ⟨ao, ca, e1, h1, h2, h3⟩ := hr
        unfold maxLen at h3
        have := l1Size_any ao ca pre wr h1 (by omega) hsm
        rw [← e1] at this
        exact this
      have hob := opn_bd (n - (i + 1)) (sizeFrom 0 pre) hs0 (by omega)
      have hq5 : q < sizeFrom 0 pre * opn (n - (i + 1)) (sizeFrom 0 pre) + opn (n - (i + 1)) (sizeFrom 0 pre + 1) := by
        rw [hn1] at hq1
        exact hq1
      have hlen := hst.len
      have hbs := hb.size
      obtain ⟨s, hsd⟩ : ∃ s, s = sizeFrom 0 pre := ⟨_, rfl⟩
      rw [← hsd] at hsl hs0 hq1 hq4 hstep hl4 HSZ hob hq5
      obtain ⟨o, ho⟩ : ∃ o, o = opn (n - (i + 1)) s := ⟨_, rfl⟩
      rw [← ho] at hstep hob hq5
      obtain ⟨ho1, ho2⟩ := hob
      have hq6 : q ≤ 4140 := by omega
      have HL4 := Lib.hid hl4
      have HSTEP := Lib.hid hstep
      have HOE := Lib.hid ho
      have HLEN := Lib.hid hlen
      have HQ5 := Lib.hid hq5
      have HN1 := Lib.hid hn1
      clear hl4 hstep ho hlen hq5 hq1 hq4 hsd hsm hst hown hb hn1
      go_wp2_with (go_at_call 61; refine HSZ.out.mono ?_; rintro e w' ⟨rfl, rfl⟩)
      go_loop [1, 8] (fun u v => ∃ m : Nat, (m : Int) ≤ s ∧ v = .int .i64 m ∧ u = .int .i64 (q - m * o) ∧ 0 ≤ q - m * o) (fun _ v => (s - intOf v).toNat)
      case atStart => exact ⟨0, by omega, rfl, by congr 1; simp, by simp; omega⟩
      case round =>
        obtain ⟨m, hm, rfl, rfl, hr0⟩ := hrel
        have hmo0 : 0 ≤ (m : Int) * o := Int.mul_nonneg (by omega) (by omega)
        have hcall := HL4.out (max s ((m : Int) + 1)) wr (by omega) (by omega)
        have hzb := opn_bd (n - (i + 1)) (max s ((m : Int) + 1)) (by omega) (by omega)
        obtain ⟨z, hz⟩ : ∃ z, z = opn (n - (i + 1)) (max s ((m : Int) + 1)) := ⟨_, rfl⟩
        rw [← hz] at hcall hzb
        obtain ⟨hz1, hz2⟩ := hzb
        have HCALL := Lib.hid hcall
        obtain ⟨r, hr⟩ : ∃ r, r = q - (m : Int) * o := ⟨_, rfl⟩
        have hr4 : r ≤ 4140 := by omega
        rw [← hr] at hr0
        have hzo : (m : Int) < s → z = o := fun h => by rw [hz, HOE.out, show max s ((m : Int) + 1) = s by omega]
        by_cases hstop : r < z
        · have hmin : (m : Int) = min (q / o) s := (at_stop m ho1 hm (by omega) (fun h => by rw [← hr, ← hzo h]; exact hstop)).symm
          obtain ⟨hs2, _, _⟩ := HSTEP.out (m : Int) hmin
          rw [← hr] at hs2 ⊢
          have HS2 := Lib.hid hs2
          clear hs2 hmin hr hz hzo hcall hmo0
          go_wp2_with (first | (go_at_call 76; refine HCALL.out.mono ?_; rintro e w' ⟨rfl, rfl⟩) | (at_builtin; refine wpList_push rfl _ _ rfl w.heap.size g i cap pre rfl (own_alloc HO.out _) HLEN.out.symm ⟨wr.heap.size, 0, none⟩ rfl (m : Int) (cell_new1 _ _ _) (by omega) (by simp; omega) ?_))
          intro g' cap' w3 hown3 hgr3 hg3
          have hbel3 : Below w.heap.size w w3 := (HB.out.alloc hbs _).grown hgr3 (by simp; omega) (fun q hq => by cases hq; exact (own_lt HO.out g rfl).1)
          have HO3 := Lib.hid hown3
          clear hown3 hgr3 hg3
          go_wp2
          go_roundw
          case rel => exact ⟨i + 1, g', cap', r, pre ++ [(m : Int)], by go_num, rfl, rfl, HS2.out, HO3.out, hbel3⟩
          case measure => simp [intOf]; omega
        · have hms : (m : Int) < s := by
            rcases Int.lt_or_le (m : Int) s with h | h
            · exact h
            · have he : (m : Int) = s := by omega
              have hzz : z = opn (n - (i + 1)) (s + 1) := by rw [hz, he, max_new]
              have := HQ5.out
              rw [← hzz, ← he] at this
              omega
          have hze := hzo hms
          have HEQ : Hid (q - ((m + 1 : Nat) : Int) * o = r - z) := by
            show q - ((m + 1 : Nat) : Int) * o = r - z
            rw [hze, hr, show ((m + 1 : Nat) : Int) = (m : Int) + 1 by omega, Int.add_mul, Int.one_mul]
            omega
          rw [← hr]
          have hrz : 0 ≤ r - z := by omega
          clear hr hz hzo hcall hmo0 hze
          go_wp2_with (first | (go_at_call 76; refine HCALL.out.mono ?_; rintro e w' ⟨rfl, rfl⟩))
          go_round
          case rel => exact ⟨m + 1, by omega, by go_num, by rw [HEQ.out], by rw [HEQ.out]; exact hrz⟩
          case measure => simp [intOf]; omega
    · obtain rfl : i = n := by omega
      have hend := atStage_end hst
      have HEND := Lib.hid hend
      have HLEN := Lib.hid hst.len
      clear hend hst hown hb
      go_wp2
      go_ret
      exact ⟨_, rfl, by rw [HEND.out]; exact HO.out, HB.out⟩
end

section
open Go.RowKit

theorem bell_opnN : ∀ n, n < 9 → bellN n = (opnN n 0 : Int) := by decide +kernel
theorem bell_opn (n : Nat) (h : n ≤ 8) : bellN n = opn n 0 := by
  have := opn_nat n 0
  rw [bell_opnN n (by omega), ← this]
  rfl

theorem l6In_is (b : Bool) (n lo hi : Int) (w : World) (h : decide (lo ≤ n ∧ n ≤ hi) = b) : Calls (cutP Try.prog) 56 #[.int .i64 n, .int .i64 lo, .int .i64 hi] w fun e w' => e = .returned (.bool b) ∧ w = w' := by
  subst h
  exact l6In_any n lo hi w
end

section
open Go.RowKit

theorem own_slice' {w : World} {B : Nat} {v : Value} {xs : List Int} (h : Own w B v xs) : ∃ ao cap, v = .slice ao xs.length cap := by
  obtain ⟨ao, cap, hv, _⟩ := own_rd h
  exact ⟨ao, cap, hv⟩

theorem ownM_slot {w : World} {B S g n cap : Nat} {xss : List (List Int)} (h : OwnM w B S (.slice (some ⟨g, 0, none⟩) n cap) xss) : B ≤ g ∧ g < S ∧ g < w.heap.size := by
  obtain ⟨vs, _, hv, _⟩ := ownM_parts h
  rcases hv with ⟨h, _⟩ | ⟨g', cap', h, hb, hs, hg, _⟩
  · cases h
  · simp only [Value.slice.injEq, Option.some.injEq, Addr.mk.injEq, and_true, true_and] at h
    omega

theorem wpList_row {w : World} {ops : Array Oper} {rest : List Oper} {o : Oper} {a : Act} {Q : Exit → Act → World → Prop} (hgd : o.guard = none) (s x : Operand)
    (ho : o.op = .call { callee := .builtin .append, args := #[s, x], argTypes := #[23, 23] })
    (w0 wq : World) (u : Value) (hw : w = wq.alloc (.cells #[u] 25)) (S g n cap : Nat) (xss : List (List Int)) (hs : a.eval s = .slice (some ⟨g, 0, none⟩) n cap) (hown : OwnM wq w0.heap.size S (.slice (some ⟨g, 0, none⟩) n cap) xss) (hn : n = xss.length)
    (hx : a.eval x = .slice (some ⟨wq.heap.size, 0, none⟩) 1 1) (ys : List Int) (hu : Own wq w0.heap.size u ys) (hui : InB u S wq.heap.size) (hSw : w0.heap.size ≤ S ∧ S ≤ wq.heap.size) (hl : n ≤ 1000000000) (hbel : Below w0.heap.size w0 wq)
    (h : ∀ g' cap' w', OwnM w' w0.heap.size w'.heap.size (.slice (some ⟨g', 0, none⟩) (n + 1) cap') (xss ++ [ys]) → Below w0.heap.size w0 w' → wq.heap.size < w'.heap.size → wpList (cutP Try.prog) ops Q rest (a.put o.dst (.slice (some ⟨g', 0, none⟩) (n + 1) cap')) w') :
    wpList (cutP Try.prog) ops Q (o :: rest) a w := by
  subst hw
  have hsl := ownM_slot hown
  refine wpList_pushM hgd s x ho w0.heap.size S g n cap xss hs (ownM_below hown ((Below.refl _ _).alloc (Nat.le_refl _) _)) hn ⟨wq.heap.size, 0, none⟩ hx u ys (cell_new1 _ _ _) (own_alloc hu _) (fun q hq => by have := hui q hq; simp; omega) hSw.1 (by simp; omega) hl (n + 1) rfl ?_
  intro g' cap' w' h1 h2
  refine h g' cap' w' h1 ?_ ?_
  · exact (hbel.alloc (by omega) _).grown h2 (by simp; omega) (fun q hq => by cases hq; exact hsl.1)
  · have := h2.size
    simp at this
    omega
end

section
open Go.RowKit

theorem l6In7_is (b : Bool) (n : Int) (w : World) (h : decide (1 ≤ n ∧ n ≤ 7) = b) : Calls (cutP Try.prog) 56 #[.int .i64 n, .int .i64 1, .int .i64 7] w fun e w' => e = .returned (.bool b) ∧ w = w' := l6In_is b n 1 7 w h

set_option maxHeartbeats 1600000 in
theorem sListAll_w (a : Int) (w : World) : Calls (cutP Try.prog) 36 #[.int .i64 a] w (FreshMB w (listAll a)) := by
  have HO0 := Lib.hid (ownM_empty w w.heap.size (Nat.le_refl _))
  by_cases h : 1 ≤ a ∧ a ≤ 7
  · have hr : listAll a = (allL a.toNat, true) := by unfold listAll; rw [if_pos h]
    rw [hr]
    obtain ⟨c, rfl⟩ : ∃ c : Nat, a = c := ⟨a.toNat, by omega⟩
    rw [Int.toNat_natCast]
    have hc8 : c ≤ 8 := by omega
    have hc7 : c ≤ 7 := by omega
    have hc1 : 1 ≤ c := by omega
    have HC := Lib.hid fun (w1 : World) => l6In7_is true (c : Int) w1 (by simpa using h)
    have hob := opn_bd c 0 (by omega) (by omega)
    have hbl := fun (w1 : World) => l2Bell_v (c : Int) w1 (by omega) (by omega)
    rw [Int.toNat_natCast, bell_opn c hc8] at hbl
    obtain ⟨T, hT⟩ : ∃ T : Nat, T = (opn c 0).toNat := ⟨_, rfl⟩
    have hTi : opn c 0 = (T : Int) := by omega
    have hT2 : T ≤ 4140 := by omega
    rw [hTi] at hbl
    have HB := Lib.hid hbl
    have HAL : Hid (allL c = (List.range T).map fun p => atL c (p : Nat)) := by show _ = _; unfold allL; rw [hT]
    have HL := Lib.hid fun (p : Nat) (w1 : World) (hp : p < T) => l4At_any c (p : Int) w1 hc8 (by omega) (by omega)
    clear hr h hbl hT hTi hob
    go_enter Tryp.func36, Tryp.ntmps36
    go_wp2_with fail
    refine (HC.out _).mono ?_
    rintro e w' ⟨rfl, rfl⟩
    go_wp2_with fail
    go_loopw [4, 5] (fun u v wr => ∃ p g cap : Nat, p ≤ T ∧ v = .int .i64 p ∧ u = .slice (some ⟨g, 0, none⟩) p cap ∧ OwnM wr w.heap.size wr.heap.size (.slice (some ⟨g, 0, none⟩) p cap) ((List.range p).map fun p => atL c (p : Nat)) ∧ Below w.heap.size w wr)
      (fun _ v _ => T - (intOf v).toNat)
    case atStart => exact ⟨0, w.heap.size, 0, Nat.zero_le _, rfl, rfl, ownM_mono HO0.out (Nat.le_refl _) (by simp), (Below.refl _ _).alloc (Nat.le_refl _) _⟩
    case round =>
      obtain ⟨p, g, cap, hp, rfl, rfl, hom, hb⟩ := hrel
      have HOM := Lib.hid hom
      have HBB := Lib.hid hb
      clear hom hb
      go_wp2_with fail
      refine (HB.out _).mono ?_
      rintro e w1 ⟨rfl, hb1⟩
      have HOM1 := Lib.hid (ownM_below HOM.out hb1)
      have hs1 := hb1.size
      have hbel1 := below_step HBB.out hb1
      have HB1 := Lib.hid hbel1
      clear hb1 hbel1
      by_cases hlt : p < T
      · have HLP := Lib.hid fun (w2 : World) => HL.out p w2 hlt
        have hsw := HBB.out.size
        have HRS := Lib.hid (List.range_succ (n := p))
        go_wp2_with fail
        refine (HLP.out _).mono ?_
        rintro e w5 ⟨u, rfl, ho5, hb5⟩
        obtain ⟨gu, cu, rfl⟩ := own_slice' ho5
        have hbel5 := below_step HB1.out hb5
        have hin := inB_of_own ho5
        have HO5 := Lib.hid (own_mono ho5 HB1.out.size)
        have HOM5 := Lib.hid (ownM_below HOM1.out hb5)
        have hs35 := hb5.size
        clear ho5 hb5
        go_wp2_with (at_builtin; refine wpList_row rfl _ _ rfl w w5 _ rfl w1.heap.size g p cap ((List.range p).map fun p => atL c (p : Nat)) rfl (ownM_mono HOM5.out (Nat.le_refl _) (by omega)) (by simp) rfl (atL c (p : Nat)) HO5.out hin ⟨HB1.out.size, hs35⟩ (by omega) hbel5 ?_)
        intro g6 cap6 w6 hown6 hbel6 hs6
        have HO6 := Lib.hid hown6
        clear hown6
        go_wp2
        go_roundw
        case rel => exact ⟨p + 1, g6, cap6, by omega, by go_num, rfl, by rw [HRS.out, List.map_append]; exact HO6.out, hbel6⟩
        case measure => simp [intOf]; omega
      · obtain rfl : p = T := by omega
        go_wp2
        go_ret2
        exact ⟨_, rfl, by rw [HAL.out]; exact ownM_mono HOM1.out (Nat.le_refl _) hs1, HB1.out⟩
  · have hr : listAll a = ([], false) := by unfold listAll; rw [if_neg h]
    rw [hr]
    have HC := Lib.hid fun (w1 : World) => l6In7_is false a w1 (by simpa using h)
    clear hr h
    go_enter Tryp.func36, Tryp.ntmps36
    go_wp2_with fail
    refine (HC.out _).mono ?_
    rintro e w' ⟨rfl, rfl⟩
    go_wp2
    go_ret2
    exact ⟨_, rfl, ownM_mono HO0.out (Nat.le_refl _) (by simp), (Below.refl _ _).alloc (Nat.le_refl _) _⟩
end

section
open Go.RowKit

def bst (cs : List Int) : Nat → Nat
  | 0 => 0
  | k + 1 => if cs.getD k 0 < cs.getD (bst cs k) 0 then k else bst cs k
theorem bst_lt (cs : List Int) : ∀ k, 0 < k → bst cs k < k
  | 0, h => by omega
  | 1, _ => by simp [bst]
  | k + 2, _ => by
    have := bst_lt cs (k + 1) (by omega)
    unfold bst
    split <;> omega
theorem bst_min (cs : List Int) : ∀ k, 0 < k → (∀ j, j < k → cs.getD (bst cs k) 0 ≤ cs.getD j 0) ∧ ∀ j, j < bst cs k → cs.getD (bst cs k) 0 < cs.getD j 0
  | 0, h => by omega
  | 1, _ => by
    refine ⟨fun j hj => ?_, fun j hj => ?_⟩
    · obtain rfl : j = 0 := by omega
      simp [bst]
    · simp [bst] at hj
  | k + 2, _ => by
    obtain ⟨h1, h2⟩ := bst_min cs (k + 1) (by omega)
    unfold bst
    split
    · rename_i h
      refine ⟨fun j hj => ?_, fun j hj => ?_⟩
      · by_cases e : j = k + 1
        · subst e; omega
        · have := h1 j (by omega); omega
      · have := h1 j hj; omega
    · rename_i h
      refine ⟨fun j hj => ?_, h2⟩
      by_cases e : j = k + 1
      · subst e; omega
      · exact h1 j (by omega)

def costsL (vs : List (List Int)) (L : Nat) : List Int := (allL L).map fun p => ((costOf p vs : Nat) : Int)
def viewCommon (vs : List (List Int)) : List Int × Bool :=
  if areV vs then ((allL (vs.getD 0 []).length).getD (bst (costsL vs (vs.getD 0 []).length) (costsL vs (vs.getD 0 []).length).length) [], true) else ([], false)

theorem allL_lenV {n : Nat} {x : List Int} (h : x ∈ allL n) : x.length = n := by
  unfold allL at h
  obtain ⟨p, _, rfl⟩ := List.mem_map.1 h
  exact atL_length _ _

theorem allL_many {L : Nat} (h1 : 1 ≤ L) (h5 : L ≤ 5) : 1 ≤ (allL L).length ∧ (allL L).length ≤ 52 := by
  rw [allL_length]
  obtain rfl | rfl | rfl | rfl | rfl : L = 1 ∨ L = 2 ∨ L = 3 ∨ L = 4 ∨ L = 5 := by omega
  all_goals decide +kernel
theorem listAll_few {L : Nat} (h1 : 1 ≤ L) (h5 : L ≤ 5) : listAll (L : Int) = (allL L, true) := by
  unfold listAll
  rw [if_pos ⟨by omega, by omega⟩]
  simp

theorem costsL_get {vs : List (List Int)} {L k : Nat} (h : k < (allL L).length) : (costsL vs L).getD k 0 = ((costOf ((allL L).getD k []) vs : Nat) : Int) := by
  simp [costsL, List.getD, h]
theorem costsL_len (vs : List (List Int)) (L : Nat) : (costsL vs L).length = (allL L).length := by simp [costsL]

theorem cell_rowK {w : World} {b off n ca : Nat} {vs : List (List Int)} (hv : RdM w (.slice (some ⟨b, off, none⟩) n ca) vs) {k : Nat} (hk : k < vs.length) : ∃ zo zc, w.cell? ⟨b, off + k, none⟩ = some (.slice zo (vs.getD k []).length zc) ∧ RdV w (.slice zo (vs.getD k []).length zc) (vs.getD k []) := by
  obtain ⟨b', off', ca', zo, zc, e, h1, h2⟩ := cell_row hv hk
  injection e with e
  injection e with e
  injection e with e4 e5
  subst e4 e5
  exact ⟨zo, zc, h1, h2⟩

set_option maxHeartbeats 3200000 in
theorem sViewCommon_v (v : Value) (vs : List (List Int)) (w : World) (hv : RdM w v vs) : Calls (cutP Try.prog) 11 #[v] w (FreshLB w (viewCommon vs)) := by
  have HM := Lib.hid hv
  have bel : Below w.heap.size w w := Below.refl _ _
  cases ha : areV vs
  · have hr : viewCommon vs = ([], false) := by simp [viewCommon, ha]
    rw [hr]
    have HA := Lib.hid (fun w' (h : RdM w' v vs) => (by have := l7Views_v v vs w' h; rw [ha] at this; exact this : Calls (cutP Try.prog) 35 #[v] w' (GivesB w' false)))
    clear hr ha hv
    go_enter Tryp.func11, Tryp.ntmps11
    go_wp2_with fail
    refine (HA.out _ HM.out).mono ?_
    rintro e w2 ⟨rfl, hb⟩
    have hsz := hb.size
    go_wp2
    go_ret2
    exact ⟨_, rfl, own_empty _ _ hsz, hb.alloc hsz _⟩
  · have HA := Lib.hid (fun w' (h : RdM w' v vs) => (by have := l7Views_v v vs w' h; rw [ha] at this; exact this : Calls (cutP Try.prog) 35 #[v] w' (GivesB w' true)))
    have hlen := areV_len ha
    obtain ⟨b, off, ca2, zo, zc, rfl, hc1, hrow⟩ := cell_row HM.out (k := 0) (by omega)
    obtain ⟨l0, hl0⟩ : ∃ l0, l0 = (vs.getD 0 []).length := ⟨_, rfl⟩
    obtain ⟨L, hL1, hL5, hL⟩ := areV_row ha
    have e0 : l0 = L := by rw [hl0, (hL 0 (by omega)).1]
    subst e0
    have hr : viewCommon vs = ((allL l0).getD (bst (costsL vs l0) (allL l0).length) [], true) := by
      unfold viewCommon
      rw [if_pos ha, ← hl0, costsL_len]
    rw [hr]
    obtain ⟨n, hn⟩ : ∃ n, n = vs.length := ⟨_, rfl⟩
    have z0 : (0 : Int) < (n : Int) := by rw [hn]; omega
    have z1 : 0 < n := by omega
    rw [← hl0, Nat.add_zero] at hc1
    rw [← hn] at HM HA ⊢
    have HN := Lib.hid hn
    have hn6 : n ≤ 6 := by omega
    obtain ⟨hq1, hq52⟩ := allL_many hL1 hL5
    have hlr : ∀ k, k < (allL l0).length → ((allL l0).getD k []).length = l0 := fun k hk => allL_lenV (by simp [List.getD, hk])
    have HC := Lib.hid (fun w' vx k (hk : k < (allL l0).length) (h1 : RdV w' vx ((allL l0).getD k [])) (h2 : RdM w' (.slice (some ⟨b, off, none⟩) n ca2) vs) => l7Cost_v vx (.slice (some ⟨b, off, none⟩) n ca2) ((allL l0).getD k []) vs w' h1 h2 (by rw [hlr k hk]; exact hL1) (by rw [hlr k hk]; omega) (fun j hj => by rw [(hL j hj).1, hlr k hk]) (by omega))
    have HLA : Hid (∀ w', Calls (cutP Try.prog) 36 #[.int .i64 l0] w' (FreshMB w' (allL l0, true))) := Lib.hid fun w' => by
      rw [← listAll_few hL1 hL5]
      exact sListAll_w _ _
    have HG := Lib.hid (fun k (hk : k < (allL l0).length) => costsL_get (vs := vs) hk)
    obtain ⟨A, hA⟩ : ∃ A, A = allL l0 := ⟨_, rfl⟩
    obtain ⟨C, hC⟩ : ∃ C, C = costsL vs l0 := ⟨_, rfl⟩
    rw [← hA, ← hC] at HG
    rw [← hA] at HC HLA hlr hq1 hq52
    rw [← hA, ← hC]
    obtain ⟨q, hq⟩ : ∃ q, q = A.length := ⟨_, rfl⟩
    rw [← hq] at HC HG hlr hq1 hq52 ⊢
    have HQ := Lib.hid hq
    have HLR := Lib.hid hlr
    have HL5 := Lib.hid (And.intro hL1 hL5)
    clear hr ha hv hrow hl0 hL hn hlen hA hC hq hlr hL1 hL5
    go_enter Tryp.func11, Tryp.ntmps11
    go_wp2_with fail
    refine (HA.out _ HM.out).mono ?_
    rintro e w2 ⟨rfl, hb⟩
    have hc2 := cell_belowV hc1 hb
    go_wp2_with fail
    refine (HLA.out w2).mono ?_
    rintro e w3 ⟨v_all, rfl, o, hb3⟩
    have bel3 := below_step hb hb3
    replace o : OwnM w3 w2.heap.size w3.heap.size v_all A := o
    have r_all := ownM_rdM o
    clear o hb3 hc2 hb bel
    obtain ⟨b2, o2, c2, zo0, zc0, rfl, hk0, hr0⟩ := cell_row r_all (k := 0) (by rw [← HQ.out]; omega)
    rw [HLR.out 0 (by omega), Nat.add_zero] at hk0
    rw [HLR.out 0 (by omega)] at hr0
    rw [← HQ.out] at r_all
    have hq0 : (0 : Int) < (q : Int) := by omega
    have hq0' : 0 < q := by omega
    have HRA := Lib.hid r_all
    have HR0 := Lib.hid hr0
    clear r_all hr0
    rw [← HQ.out]
    go_wp2
    go_loopw [6, 7] (fun bs i wr => ∃ (k bk : Nat) (yo : Option Addr) (yc : Nat), 1 ≤ k ∧ k ≤ q ∧ i = .int .i64 k ∧ bk < q ∧ bs = .slice yo l0 yc ∧ Below w.heap.size w wr ∧ Below w3.heap.size w3 wr ∧ RdV wr (.slice yo l0 yc) (A.getD bk []) ∧ bk = bst C k) (fun _ i _ => q - (intOf i).toNat)
    case atStart => exact ⟨1, 0, _, _, Nat.le_refl 1, hq1, rfl, by omega, rfl, bel3, Below.refl _ _, HR0.out, by simp [bst]⟩
    case round =>
      clear bel3
      obtain ⟨k, bk, yo, yc, hk1, hkq, rfl, hbk, rfl, belw, bel3, hbv, hbs⟩ := hrel
      by_cases hlt : k < q
      · obtain ⟨zo1, zc1, hck, hrk⟩ := cell_rowK HRA.out (k := k) (by rw [← HQ.out]; exact hlt)
        rw [HLR.out k hlt] at hck hrk
        replace hck := cell_belowV hck bel3
        replace hrk := rdv_below hrk bel3
        have H1 := fun w' h1 h2 => HC.out w' (.slice zo1 l0 zc1) k hlt h1 h2
        have H2 := fun w' h1 h2 => HC.out w' (.slice yo l0 yc) bk hbk h1 h2
        have g1 := HG.out k hlt
        have g2 := HG.out bk hbk
        obtain ⟨x1, hx1⟩ : ∃ x, x = costOf (A.getD k []) vs := ⟨_, rfl⟩
        obtain ⟨x2, hx2⟩ : ∃ x, x = costOf (A.getD bk []) vs := ⟨_, rfl⟩
        rw [← hx1] at H1 g1
        rw [← hx2] at H2 g2
        have HH1 := Lib.hid H1
        have HH2 := Lib.hid H2
        have HG1 := Lib.hid g1
        have HG2 := Lib.hid g2
        have HBS := Lib.hid hbs
        have HRK := Lib.hid hrk
        have HBV := Lib.hid hbv
        have hkl : (k : Int) < (q : Int) := by omega
        have hk0 : (0 : Int) ≤ (k : Int) := by omega
        clear H1 H2 g1 g2 hx1 hx2 hbs hrk hbv
        go_wp2_with fail
        refine (HH1.out _ HRK.out (rdM_below HM.out belw)).mono ?_
        rintro e w4 ⟨rfl, hb4⟩
        have belw4 := below_step belw hb4
        have bel4 := below_step bel3 hb4
        have hck4 := cell_belowV hck hb4
        have HBV4 := Lib.hid (rdv_below HBV.out hb4)
        have HRK4 := Lib.hid (rdv_below HRK.out hb4)
        go_wp2_with fail
        refine (HH2.out _ HBV4.out (rdM_below HM.out belw4)).mono ?_
        rintro e w5 ⟨rfl, hb5⟩
        have belw5 := below_step belw4 hb5
        have bel5 := below_step bel4 hb5
        have hck5 := cell_belowV hck4 hb5
        have HBV5 := Lib.hid (rdv_below HBV4.out hb5)
        have HRK5 := Lib.hid (rdv_below HRK4.out hb5)
        clear hb4 hb5 belw4 bel4 hck4 belw bel3 hck HBV HRK HBV4 HRK4
        by_cases hx : (x1 : Int) < (x2 : Int)
        · go_wp2
          go_roundw
          case rel => exact ⟨k + 1, k, _, _, by omega, by omega, by go_num, hlt, rfl, belw5, bel5, HRK5.out, by unfold bst; rw [← HBS.out, HG1.out, HG2.out, if_pos hx]⟩
          case measure => simp [intOf]; omega
        · go_wp2
          go_roundw
          case rel => exact ⟨k + 1, bk, _, _, by omega, by omega, by go_num, hbk, rfl, belw5, bel5, HBV5.out, by unfold bst; rw [← HBS.out, HG1.out, HG2.out, if_neg (by omega)]⟩
          case measure => simp [intOf]; omega
      · have hkn : k = q := by omega
        subst hkn
        have hln := HLR.out bk hbk
        have hl15 := HL5.out
        obtain ⟨ys, hys⟩ : ∃ ys, ys = A.getD bk [] := ⟨_, rfl⟩
        have hfin : A.getD (bst C k) [] = ys := by rw [← hbs, hys]
        have HF := Lib.hid hfin
        rw [← hys] at hbv hln
        obtain ⟨bb, bo, rfl, hcs⟩ : ∃ bb bo, yo = some ⟨bb, bo, none⟩ ∧ ∀ j, j < ys.length → wr.cell? ⟨bb, bo + j, none⟩ = some (.int .i64 (ys.getD j 0)) := by
          obtain ⟨_, _, e, hr, _⟩ := hbv
          injection e with e1 e2 e3
          subst e1
          rcases hr with hr | ⟨bb, bo, e, hr⟩
          · rw [hr] at hln; simp at hln; omega
          · exact ⟨bb, bo, e, hr⟩
        have HCS := Lib.hid hcs
        have HLN := Lib.hid hln.symm
        have hsz := belw.size
        clear hcs hln hbv hys hfin hbs
        go_wp2_with (at_builtin; refine wpList_cat rfl _ _ rfl w.heap.size wr.heap.size 0 0 [] rfl (own_empty wr w.heap.size hsz) rfl ⟨bb, bo, none⟩ l0 yc rfl ys HLN.out (fun j hj => by rw [Addr.add_lit]; exact cell_belowV (HCS.out j hj) (Below.alloc (Below.refl _ _) (Nat.le_refl _) _)) (by omega) (by simp; omega) l0 (by omega) ?_)
        intro g4 cap4 w6 hown4 hgr4 hg4
        have hbw := belw.alloc hsz (.cells #[] 3)
        have hbw6 := hbw.grown hgr4 (by simp; omega) (fun q hq => by cases hq; exact hsz)
        have HO4 := Lib.hid hown4
        clear hown4 hgr4 hg4
        go_wp2
        go_ret2
        refine ⟨.slice (some ⟨g4, 0, none⟩) l0 cap4, rfl, ?_, hbw6⟩
        show Own w6 w.heap.size _ (A.getD (bst C _) [])
        rw [HF.out]
        exact HO4.out
end

section
open Go.Conc Go.RowKit

theorem minTo_bst (xs : List Int) : ∀ k, 0 < k → k ≤ xs.length → minTo xs k = xs.getD (bst xs k) 0
  | 0, h, _ => by omega
  | 1, _, h => by
    rw [minTo_succ (by omega)]
    simp [bst, minTo]
  | k + 2, _, h => by
    rw [minTo_succ (by omega), minTo_bst xs (k + 1) (by omega) (by omega)]
    conv => rhs; unfold bst
    split <;> omega
theorem idxOf_first : ∀ {xs : List Int} {b : Nat}, b < xs.length → (∀ j, j < b → xs.getD j 0 ≠ xs.getD b 0) → xs.idxOf (xs.getD b 0) = b
  | [], b, h, _ => by simp at h
  | x :: xs, 0, _, _ => by simp
  | x :: xs, b + 1, h, hne => by
    have h0 := hne 0 (by omega)
    simp only [List.getD_cons_zero, List.getD_cons_succ] at h0
    rw [List.getD_cons_succ, List.idxOf_cons, show (x == xs.getD b 0) = false by simpa using h0, cond_false]
    rw [idxOf_first (by simpa using h) (fun j hj => by simpa using hne (j + 1) (by omega))]
theorem idxOf_min {xs : List Int} (h : 0 < xs.length) : minTo xs xs.length ∈ xs ∧ xs.idxOf (minTo xs xs.length) = bst xs xs.length ∧ bst xs xs.length < xs.length := by
  have hb := bst_lt xs _ h
  obtain ⟨m1, m2⟩ := bst_min xs _ h
  rw [minTo_bst xs _ h (Nat.le_refl _)]
  refine ⟨?_, idxOf_first hb fun j hj => ?_, hb⟩
  · rw [List.getD_eq_getElem?_getD, List.getElem?_eq_getElem hb]
    exact List.getElem_mem hb
  · have := m2 j hj
    omega

set_option maxRecDepth 100000 in
set_option maxHeartbeats 1600000 in
theorem iViewCommon_b {X w : World} {v0 : Value} {vs : List (List Int)} (h1 : RdM w v0 vs) :
    CallsB (duo Try.prog X) 10 #[v0] w (fun v w' => ∃ u, v = .tuple #[u, .bool (viewCommon vs).2] ∧ Own w' w.heap.size u (viewCommon vs).1 ∧ Bel w w') := by
  refine CallsB.of_body kit (fn := Try.f10) Tryp.func10 Try.func10 rfl (by kernel_rfl) (by kernel_rfl) ?_
  simp only [Try.ntmps10, List.size_toArray, List.length_cons, List.length_nil, Nat.reduceAdd, Nat.reduceSub, Array.replicate_succ, Array.replicate_zero, List.push_toArray, List.append_toArray, List.nil_append, List.cons_append]
  refine WpB.seq kit (WpB.of_wp kit (fun τ => ?_) (outs_then (outs_body _ _ _)))
  go_wp
  refine WpB.own ?_
  by_cases ha : areV vs = true
  · obtain ⟨L, hL1, hL5, hL⟩ := areV_row ha
    have hlen := areV_len ha
    obtain ⟨vb, vo, vcap, bV, oV, cV, hv1, hV⟩ := rows_at h1 hlen.1 hL1 (fun k hk => (hL k hk).1)
    obtain ⟨hc0, _, hr0⟩ := hV 0 (by omega)
    rw [Nat.add_zero] at hc0
    have z0 : (0 : Int) < (vs.length : Int) := by omega
    have z1 : 0 < vs.length := by omega
    have hl0 := (hL 0 (by omega)).1
    have hr : viewCommon vs = ((allL L).getD (bst (costsL vs L) (allL L).length) [], true) := by
      unfold viewCommon
      rw [if_pos ha, hl0, costsL_len]
    rw [hr]
    have HV := Lib.hid (fun τ => areViews_v v0 vs (ownTape w τ) h1)
    have H1 := Lib.hid h1
    obtain ⟨n, hn⟩ : ∃ n, n = vs.length := ⟨_, rfl⟩
    rw [← hn] at z0 z1 hv1
    have HL := Lib.hid hL
    have HN := Lib.hid hn
    have HE := Lib.hid hlen
    have HL1 := Lib.hid hL1
    have HL5 := Lib.hid hL5
    have HQ := Lib.hid (allL_many hL1 hL5)
    have HIM := Lib.hid (idxOf_min (xs := costsL vs L) (by rw [costsL_len]; have := (allL_many hL1 hL5).1; omega))
    have HCL := Lib.hid (costsL_len vs L)
    have HCC := Lib.hid (show costsL vs L = (allL L).map fun p => ((costOf p vs : Nat) : Int) from rfl)
    have HLA : Hid (∀ w', Calls (cutP Try.prog) 31 #[.int .i64 L] w' (FreshMB w' (allL L, true))) := Lib.hid fun w' => by
      rw [← listAll_few hL1 hL5]
      exact iListAll_v _ _ (by obtain rfl | rfl | rfl | rfl | rfl : L = 1 ∨ L = 2 ∨ L = 3 ∨ L = 4 ∨ L = 5 := (by omega) <;> rfl)
    have HPL : Hid (∀ k, k < (allL L).length → ((allL L).getD k []).length = L) := Lib.hid fun k hk => allL_lenV (by simp [List.getD, hk])
    obtain ⟨A, hA⟩ : ∃ A, A = allL L := ⟨_, rfl⟩
    obtain ⟨C, hC⟩ : ∃ C, C = costsL vs L := ⟨_, rfl⟩
    rw [← hA] at HLA HQ HPL HCL HCC
    rw [← hC] at HIM HCL HCC
    rw [← hA, ← hC]
    obtain ⟨row, hrow⟩ : ∃ r, r = A.getD (bst C A.length) [] := ⟨_, rfl⟩
    rw [← hrow]
    have HROW := Lib.hid hrow
    clear hrow
    rw [ha] at HV
    subst hv1
    clear hV hr hr0 ha hL hlen hL1 hL5 hn hl0 hA hC h1
    refine WpB.seq kit (WpB.of_wp kit (fun τ => ?_) (outs_then (outs_body _ _ _)))
    go_wp2_with fail
    refine (HV.out τ).mono ?_
    rintro e w2 ⟨rfl, rfl⟩
    go_wp2
    refine WpB.own ?_
    refine WpB.seq kit (WpB.of_wp kit (fun τ => ?_) (outs_then (outs_body _ _ _)))
    go_wp2_with fail
    refine (HLA.out _).mono ?_
    rintro e w2 ⟨v_all, rfl, o, hb⟩
    have bel : Bel w w2 := bel_of_below hb
    have o2 : OwnM w2 w.heap.size w2.heap.size v_all A := o
    clear o hb
    have HO := Lib.hid o2
    clear o2
    go_wp2
    refine WpB.seq kit (WpB.region kit ?_)
    simp only [List.size_toArray, List.length_cons, List.length_nil, Nat.reduceAdd, Nat.zero_add, List.range, List.range.loop]
    unfold OpsB
    simp only [List.getElem?_toArray, List.getElem?_cons_zero, List.getElem?_cons_succ]
    rw [if_pos (by rfl)]
    left
    intro _
    unfold Oper.wp
    go_simp
    unfold OpsB
    simp only [List.getElem?_toArray, List.getElem?_cons_zero, List.getElem?_cons_succ]
    rw [if_pos (by rfl)]
    left
    intro _
    unfold Oper.wp
    go_simp
    unfold OpsB
    simp only [List.getElem?_toArray, List.getElem?_cons_zero, List.getElem?_cons_succ]
    rw [if_pos (by rfl)]
    right
    refine ⟨32, #[v_all, .slice (some ⟨vb, vo, none⟩) n vcap], fun W => ⟨by kernel_rfl, by kernel_rfl⟩, ?_⟩
    have hc := costs_v (X := X) (ownM_rdM HO.out) (bel.rdm H1.out) HL1.out (by have := HL5.out; omega) (fun k hk => HPL.out k hk) (fun k hk => (HL.out k hk).1) HQ.out.1 (by have := HQ.out.2; omega) HE.out.1 HE.out.2
    rw [← HCC.out] at hc
    refine CallsB.own (hc.mono fun v w3 h => ?_)
    obtain ⟨ho, hb⟩ := h
    have hbb := bel.trans hb
    have HO3 := Lib.hid (ownM_bel HO.out hb)
    clear hc hb bel hc0
    have hcl : C.length = A.length := HCL.out
    rcases own_view ho with ⟨_, e⟩ | ⟨g, cap, rfl, _, _, _, _, hcC, _⟩
    · rw [e] at hcl
      have := HQ.out.1
      simp at hcl
      omega
    have HNU : Hid (Nums w3 g 0 C) := Lib.hid fun j hj => by rw [Nat.zero_add]; exact hcC j hj
    have HRV : Hid (RdV w3 (.slice (some ⟨g, 0, none⟩) C.length cap) C) := Lib.hid (own_rdv ho)
    clear hcC hcl ho
    unfold OpsB
    simp only [List.getElem?_toArray, List.getElem?_cons_zero, List.getElem?_cons_succ]
    rw [if_pos (by rfl)]
    left
    intro _
    unfold Oper.wp
    go_simp
    unfold OpsB
    refine WpB.own ?_
    refine WpB.seq kit (WpB.region kit ?_)
    simp only [List.size_toArray, List.length_cons, List.length_nil, Nat.reduceAdd, Nat.zero_add, List.range, List.range.loop]
    unfold OpsB
    simp only [List.getElem?_toArray, List.getElem?_cons_zero, List.getElem?_cons_succ]
    rw [if_pos (by rfl)]
    left
    intro _
    unfold Oper.wp
    go_simp
    unfold OpsB
    simp only [List.getElem?_toArray, List.getElem?_cons_zero, List.getElem?_cons_succ]
    rw [if_pos (by rfl)]
    left
    intro _
    unfold Oper.wp
    go_simp
    unfold OpsB
    simp only [List.getElem?_toArray, List.getElem?_cons_zero, List.getElem?_cons_succ]
    rw [if_pos (by rfl)]
    left
    intro _
    unfold Oper.wp
    go_simp
    unfold OpsB
    simp only [List.getElem?_toArray, List.getElem?_cons_zero, List.getElem?_cons_succ]
    rw [if_pos (by rfl)]
    right
    refine ⟨34, #[.slice (some ⟨g, 0, none⟩) C.length cap], fun W => ⟨by kernel_rfl, by kernel_rfl⟩, ?_⟩
    refine CallsB.own ((min_b (X := X) (by rw [HCL.out]; have := HQ.out.1; omega) (by rw [HCL.out]; have := HQ.out.2; omega) HNU.out).mono fun v w4 h => ?_)
    obtain ⟨rfl, rfl⟩ := h
    unfold OpsB
    simp only [List.getElem?_toArray, List.getElem?_cons_zero, List.getElem?_cons_succ]
    rw [if_pos (by rfl)]
    right
    obtain ⟨ci, hci⟩ : ∃ cd, Try.f33.body = some cd := ⟨_, rfl⟩
    refine ⟨33, #[.slice (some ⟨g, 0, none⟩) C.length cap, .int .i64 (minTo C C.length)], fun W => ⟨by kernel_rfl, by kernel_rfl⟩, ?_⟩
    refine ((calls_kept (X := X) (w := w4) (R := fun v w' => v = .int .i64 (C.idxOf (minTo C C.length)) ∧ Bel w4 w') (fn := Try.f33) (cd := ci) Tryp.func33 Try.func33 hci (kept_code (by kernel_rfl) hci) (by kernel_rfl) (fun τ => (slicesIndex_v _ C _ (ownTape w4 τ) HRV.out HIM.out.1).mono fun e w' h => ⟨_, h.1, rfl, by rw [← h.2]; exact ⟨rfl, rfl, Nat.le_refl _, fun _ _ => rfl⟩⟩)).mono fun v w5 h => ?_)
    obtain ⟨rfl, hb5⟩ := h
    have hb6 := hbb.trans hb5
    have HO5 := Lib.hid (ownM_bel HO3.out hb5)
    have hbl : bst C C.length < A.length := by rw [← HCL.out]; exact HIM.out.2.2
    rw [HIM.out.2.1]
    obtain ⟨us, hul, hvv, hrows, _⟩ := ownM_parts HO5.out
    rcases hvv with ⟨_, e⟩ | ⟨g2, cap2, rfl, _, _, _, hnc2, hcm2, hc2, _⟩
    · rw [e] at hbl; simp at hbl
    have hck := hc2 _ hbl
    have hown := (hrows _ hbl).1
    rw [HCL.out] at hck hown hbl ⊢
    obtain ⟨bk, hbk⟩ : ∃ bk, bk = bst C A.length := ⟨_, rfl⟩
    rw [← hbk] at hown
    have hro : row = A.getD bk [] := by rw [hbk]; exact HROW.out
    rw [← hro] at hown
    rw [← hbk] at hck hbl ⊢
    obtain ⟨q, hq⟩ : ∃ q, q = A.length := ⟨_, rfl⟩
    rw [← hq] at hbl ⊢
    obtain ⟨uv, huv⟩ : ∃ uv, uv = us.getD bk undef := ⟨_, rfl⟩
    rw [← huv] at hck hown
    have hbi : (bk : Int) < (q : Int) := by omega
    have hb0 : (0 : Int) ≤ (bk : Int) := by omega
    have HOWN := Lib.hid hown
    clear hro hc2 hrows hown huv hul hq hbk hnc2 hcm2
    unfold OpsB
    simp only [List.getElem?_toArray, List.getElem?_cons_zero, List.getElem?_cons_succ]
    rw [if_pos (by rfl)]
    left
    intro _
    unfold Oper.wp
    go_simp
    unfold OpsB
    simp only [List.getElem?_toArray, List.getElem?_cons_zero, List.getElem?_cons_succ]
    rw [if_pos (by rfl)]
    left
    intro _
    unfold Oper.wp
    go_simp
    unfold OpsB
    simp only [List.getElem?_toArray, List.getElem?_cons_zero, List.getElem?_cons_succ]
    rw [if_pos (by rfl)]
    left
    intro _
    unfold Oper.wp
    go_simp
    unfold OpsB
    simp only [List.getElem?_toArray, List.getElem?_cons_zero, List.getElem?_cons_succ]
    rw [if_pos (by rfl)]
    left
    intro _
    unfold Oper.wp
    go_simp
    unfold OpsB
    refine WpB.own (WpB.ret kit ⟨rfl, _, fun τ => results_tmp2 (t := 2) (u := 3) rfl _ _ _, _, rfl, HOWN.out, hb6⟩)
  · have hf : areV vs = false := by simpa using ha
    have hr : viewCommon vs = ([], false) := by simp [viewCommon, hf]
    rw [hr]
    have HV := Lib.hid (fun τ => areViews_v v0 vs (ownTape w τ) h1)
    rw [hf] at HV
    refine WpB.seq kit (WpB.of_wp kit (fun τ => ?_) (outs_then (outs_body _ _ _)))
    go_wp2_with fail
    refine (HV.out τ).mono ?_
    rintro e w2 ⟨rfl, rfl⟩
    go_wp2
    exact ⟨rfl, _, fun τ => results_tmp2 (t := 2) (u := 3) rfl _ _ _, _, rfl, own_nil _ _, bel_of_below (Below.refl _ _)⟩
end

section
open Go.Conc Go.RowKit

set_option maxRecDepth 100000 in
set_option maxHeartbeats 400000 in
theorem iViewCost_b {X w : World} {v0 v1 : Value} {xs : List Int} {vs : List (List Int)} (h0 : RdV w v0 xs) (h1 : RdM w v1 vs) :
    CallsB (duo Try.prog X) 13 #[v0, v1] w (fun v w' => v = .tuple #[.int .i64 (viewCost xs vs).1, .bool (viewCost xs vs).2] ∧ Bel w w') := by
  obtain ⟨ao0, n0, ca0, rfl⟩ : ∃ ao n ca, v0 = .slice ao n ca := by obtain ⟨ao, ca, e, _⟩ := h0; exact ⟨ao, _, ca, e⟩
  refine CallsB.of_body kit (fn := Try.f13) Tryp.func13 Try.func13 rfl (by kernel_rfl) (by kernel_rfl) ?_
  simp only [Try.ntmps13, List.size_toArray, List.length_cons, List.length_nil, Nat.reduceAdd, Nat.reduceSub, Array.replicate_succ, Array.replicate_zero, List.push_toArray, List.append_toArray, List.nil_append, List.cons_append]
  refine WpB.seq kit (WpB.of_wp kit (fun τ => ?_) (outs_then (outs_body _ _ _)))
  go_wp
  refine WpB.own ?_
  by_cases ha : areV vs = true
  · obtain ⟨L, hL1, hL5, hL⟩ := areV_row ha
    have hlen := areV_len ha
    obtain ⟨vb, vo, vcap, bV, oV, cV, hv1, hV⟩ := rows_at h1 hlen.1 hL1 (fun k hk => (hL k hk).1)
    obtain ⟨hc0, _, hr0⟩ := hV 0 (by omega)
    rw [Nat.add_zero] at hc0
    have z0 : (0 : Int) < (vs.length : Int) := by omega
    have z1 : 0 < vs.length := by omega
    have HV := Lib.hid (fun τ => areViews_v v1 vs (ownTape w τ) h1)
    have HA := Lib.hid (fun τ => areAlike_v _ _ xs (vs.getD 0 []) (ownTape w τ) h0 hr0)
    have H0 := Lib.hid h0
    have H1 := Lib.hid h1
    obtain ⟨n, hn⟩ : ∃ n, n = vs.length := ⟨_, rfl⟩
    rw [← hn] at z0 z1 hv1
    have HL := Lib.hid hL
    have HN := Lib.hid hn
    have HE := Lib.hid hlen
    have HL1 := Lib.hid hL1
    have HL5 := Lib.hid hL5
    have HVV := Lib.hid hV
    rw [ha] at HV
    subst hv1
    by_cases hk : alike xs (vs.getD 0 []) = true
    · have hr : viewCost xs vs = (((costOf xs vs : Nat) : Int), true) := by simp only [viewCost, ha, hk, Bool.and_self, if_true]
      rw [hr]
      rw [hk] at HA
      have HK := Lib.hid (alike_iff.1 hk)
      clear hV hr hk ha hL hlen hL1 hL5 hn
      refine WpB.seq kit (WpB.of_wp kit (fun τ => ?_) (outs_then (outs_body _ _ _)))
      go_wp2_with fail
      refine (HV.out τ).mono ?_
      rintro e w2 ⟨rfl, rfl⟩
      go_wp2_with fail
      refine (HA.out τ).mono ?_
      rintro e w2 ⟨rfl, rfl⟩
      go_wp2
      refine WpB.own ?_
      refine WpB.seq kit (WpB.region kit ?_)
      simp only [List.size_toArray, List.length_cons, List.length_nil, Nat.reduceAdd, Nat.zero_add, List.range, List.range.loop]
      unfold OpsB
      simp only [List.getElem?_toArray, List.getElem?_cons_zero, List.getElem?_cons_succ]
      rw [if_pos (by rfl)]
      left
      intro _
      unfold Oper.wp
      go_simp
      unfold OpsB
      simp only [List.getElem?_toArray, List.getElem?_cons_zero, List.getElem?_cons_succ]
      rw [if_pos (by rfl)]
      left
      intro _
      unfold Oper.wp
      go_simp
      unfold OpsB
      simp only [List.getElem?_toArray, List.getElem?_cons_zero, List.getElem?_cons_succ]
      rw [if_pos (by rfl)]
      left
      intro _
      unfold Oper.wp
      go_simp
      unfold OpsB
      simp only [List.getElem?_toArray, List.getElem?_cons_zero, List.getElem?_cons_succ]
      rw [if_pos (by rfl)]
      right
      refine ⟨32, #[.slice (some ⟨w.heap.size, 0, none⟩) 1 1, .slice (some ⟨vb, vo, none⟩) n vcap], fun W => ⟨by kernel_rfl, by kernel_rfl⟩, ?_⟩
      have hal := Bel.alloc w (.cells #[.slice ao0 n0 ca0] 25)
      have hc := costs_v (X := X) (rdm_one H0.out 25) (hal.rdm H1.out) HL1.out (by have := HL5.out; omega) (fun k hk => by
        obtain rfl : k = 0 := by simp at hk; exact hk
        exact HK.out.2.2.trans (HL.out 0 (by have := HE.out; omega)).1) (fun k hk => (HL.out k hk).1) (Nat.le_refl 1) (by simp) HE.out.1 HE.out.2
      refine CallsB.own (hc.mono fun v w3 h => ?_)
      obtain ⟨ho, hb⟩ := h
      have hbb := hal.trans hb
      clear hc hb hal
      obtain ⟨g, cap, rfl, hcl⟩ := own_first ho
      clear ho
      unfold OpsB
      simp only [List.getElem?_toArray, List.getElem?_cons_zero, List.getElem?_cons_succ]
      rw [if_pos (by rfl)]
      left
      intro _
      unfold Oper.wp
      go_simp
      unfold OpsB
      simp only [List.getElem?_toArray, List.getElem?_cons_zero, List.getElem?_cons_succ]
      rw [if_pos (by rfl)]
      left
      intro _
      unfold Oper.wp
      go_simp
      unfold OpsB
      simp only [List.getElem?_toArray, List.getElem?_cons_zero, List.getElem?_cons_succ]
      rw [if_pos (by rfl)]
      left
      intro _
      unfold Oper.wp
      go_simp
      unfold OpsB
      simp only [List.getElem?_toArray, List.getElem?_cons_zero, List.getElem?_cons_succ]
      rw [if_pos (by rfl)]
      left
      intro _
      unfold Oper.wp
      go_simp
      unfold OpsB
      refine WpB.own (WpB.ret kit ⟨rfl, _, fun τ => results_tmp2 (t := 4) (u := 5) rfl _ _ _, rfl, hbb⟩)
    · have hk' : alike xs (vs.getD 0 []) = false := by simpa using hk
      have hr : viewCost xs vs = (0, false) := by simp only [viewCost, hk', Bool.and_false]; rfl
      rw [hr]
      rw [hk'] at HA
      clear hV hr hk ha hL hlen hL1 hL5 hn hk'
      refine WpB.seq kit (WpB.of_wp kit (fun τ => ?_) (outs_then (outs_body _ _ _)))
      go_wp2_with fail
      refine (HV.out τ).mono ?_
      rintro e w2 ⟨rfl, rfl⟩
      go_wp2_with fail
      refine (HA.out τ).mono ?_
      rintro e w2 ⟨rfl, rfl⟩
      go_wp2
      exact ⟨rfl, _, fun τ => results_tmp2 (t := 4) (u := 5) rfl _ _ _, rfl, bel_of_below (Below.refl _ _)⟩
  · have hf : areV vs = false := by simpa using ha
    have hr : viewCost xs vs = (0, false) := by simp [viewCost, hf]
    rw [hr]
    have HV := Lib.hid (fun τ => areViews_v v1 vs (ownTape w τ) h1)
    rw [hf] at HV
    refine WpB.seq kit (WpB.of_wp kit (fun τ => ?_) (outs_then (outs_body _ _ _)))
    go_wp2_with fail
    refine (HV.out τ).mono ?_
    rintro e w2 ⟨rfl, rfl⟩
    go_wp2
    exact ⟨rfl, _, fun τ => results_tmp2 (t := 4) (u := 5) rfl _ _ _, rfl, bel_of_below (Below.refl _ _)⟩
end

section
open Go.RowKit

theorem grown_own {w a b : World} {g go : Nat} (h : w.grownBy a (some g)) (hab : a.grownBy b (some go)) (hge : w.heap.size ≤ go) : w.grownBy b (some g) :=
  ⟨hab.os.trans h.os, hab.tape.trans h.tape, hab.output.trans h.output, Nat.le_trans h.size hab.size, fun k hk hne => (hab.block k (Nat.lt_of_lt_of_le hk h.size) (fun e => by cases e; omega)).trans (h.block k hk hne)⟩

theorem grown_belowD {w a b : World} {g : Nat} (h : w.grownBy a (some g)) (hab : Below a.heap.size a b) : w.grownBy b (some g) :=
  ⟨hab.os.trans h.os, hab.tape.trans h.tape, hab.output.trans h.output, Nat.le_trans h.size hab.size, fun k hk hne => (hab.block k (Nat.lt_of_lt_of_le hk h.size)).trans (h.block k hk hne)⟩

theorem rdr_grown {a b : World} {g p : Nat} {bs : Value} {r : Option Nat} (h : Rdr a g bs p) (hab : a.grownBy b r) (hne : some g ≠ r) : Rdr b g bs p := by
  unfold Rdr at *
  rw [hab.block g (Array.getElem?_eq_some_iff.1 h).1 hne]
  exact h

theorem rdr_below {a b : World} {g p : Nat} {bs : Value} (h : Rdr a g bs p) (hab : Below a.heap.size a b) : Rdr b g bs p := by
  unfold Rdr at *
  rw [hab.block g (Array.getElem?_eq_some_iff.1 h).1]
  exact h

theorem bytes_grown {w w' : World} {a : Option Addr} {len g : Nat} (h : Bytes w a len) (hg : w.grownBy w' (some g)) (hne : 0 < len → ∀ x, a = some x → x.block ≠ g) : Bytes w' a len := by
  rcases h with h | ⟨b, off, ha, hc⟩
  · exact .inl h
  · refine .inr ⟨b, off, ha, fun j hj => ?_⟩
    obtain ⟨x, hx, hcx⟩ := hc j hj
    exact ⟨x, hx, hg.cell hcx (fun e => hne (by omega) _ ha (by cases e; rfl))⟩

theorem small_snoc {xs : List Int} {v : Int} (h : Small xs) (h0 : 0 ≤ v) (h1 : v ≤ 7) : Small (xs ++ [v]) := by
  intro j hj
  by_cases e : j < xs.length
  · rw [getD_snoc_lt _ _ _ e]; exact h j e
  · have : j = xs.length := by simp at hj; omega
    rw [this, getD_snoc_eq]; exact ⟨h0, h1⟩

theorem small_mem {xs : List Int} (h : Small xs) : ∀ x ∈ xs, 0 ≤ x ∧ x ≤ 9 := by
  intro x hx
  obtain ⟨j, hj, e⟩ := mem_iff_getD.1 hx
  have := h j hj
  omega

theorem pick_z (g : Nat) (a : Option Addr) (len cap p : Nat) (m : Int) (w : World) (hr : Rdr w g (.slice a len cap) p) (hby : Bytes w a len) (hne : 0 < len → ∀ x, a = some x → x.block ≠ g) (hlen : len ≤ 2000) (hp : p ≤ 1000000) (hn : 1 ≤ m) (hn2 : m ≤ 100000) :
    Calls (cutP Try.prog) 42 #[.pointer (some ⟨g, 0, none⟩), .int .i64 m] w (Picked w g (.slice a len cap) p m.toNat) := by
  have := pick_any g a len cap p m.toNat w hr hby hne hlen hp (by omega) (by omega)
  rwa [Int.toNat_of_nonneg (by omega)] at this

def DrawnN (w : World) (g : Nat) (bs : Value) (p n m : Nat) (e : Ending) (w' : World) : Prop :=
  ∃ v xs q, e = .returned v ∧ Own w' w.heap.size v xs ∧ (n ≤ xs.length ∧ xs.length ≤ m) ∧ (∀ x ∈ xs, 0 ≤ x ∧ x ≤ 9) ∧ Rdr w' g bs q ∧ q ≤ p + 40 ∧ w.grownBy w' (some g)

set_option maxHeartbeats 1000000 in
theorem l91Part_n (g : Nat) (a : Option Addr) (len cap p n : Nat) (w : World) (hr : Rdr w g (.slice a len cap) p) (hby : Bytes w a len) (hne : 0 < len → ∀ x, a = some x → x.block ≠ g) (hlen : len ≤ 2000) (hp : p ≤ 1000) (hn : 1 ≤ n) (hn2 : n ≤ 8) :
    Calls (cutP Try.prog) 41 #[.pointer (some ⟨g, 0, none⟩), .int .i64 n] w (DrawnN w g (.slice a len cap) p n (n + 1)) := by
  have hg := (rdr_facts hr).1
  have HR := Lib.hid hr
  have HB := Lib.hid hby
  clear hr hby
  obtain ⟨w0, hw0⟩ : ∃ w0 : World, w0 = w.alloc (.cells #[] 3) := ⟨_, rfl⟩
  have hb0 : Below w.heap.size w w0 := by rw [hw0]; exact (Below.refl _ _).alloc (Nat.le_refl _) _
  have ho0 : Own w0 w.heap.size (.slice (some ⟨w.heap.size, 0, none⟩) 0 0) [] := by rw [hw0]; exact own_empty w _ (Nat.le_refl _)
  go_enter Tryp.func41, Tryp.ntmps41
  go_wp2_with fail
  rw [← hw0]
  refine (pick_any g a len cap p 3 _ (rdr_below HR.out hb0) (bytes_below HB.out hb0) hne hlen (by omega) (by omega) (by omega)).mono ?_
  rintro e w1 ⟨kd, rfl, hk3, hr1, hg1, hz1⟩
  have hG1 : w.grownBy w1 (some g) := grown_trans (⟨hb0.os, hb0.tape, hb0.output, hb0.size, fun k hk _ => hb0.block k hk⟩) hg1
  have ho1 : Own w1 w.heap.size (.slice (some ⟨w.heap.size, 0, none⟩) 0 0) [] := own_grown ho0 hg1 (.inr (by simp [Value.ownBlock]; omega))
  clear hg1 hz1 ho0 hb0 hw0
  have HR1 := Lib.hid hr1
  have HG1 := Lib.hid hG1
  have HO1 := Lib.hid ho1
  clear hr1 hG1 ho1
  go_wp2
  go_loopw [5, 7] (fun u i wr => ∃ (k g' cap' q : Nat) (xs : List Int), k ≤ n ∧ i = .int .i64 k ∧ u = .slice (some ⟨g', 0, none⟩) k cap' ∧ Own wr w.heap.size (.slice (some ⟨g', 0, none⟩) k cap') xs ∧ xs.length = k ∧ Small xs ∧ pSize xs ≤ k ∧ Rdr wr g (.slice a len cap) q ∧ q ≤ p + 1 + 2 * k ∧ w.grownBy wr (some g)) (fun _ i _ => n - (intOf i).toNat)
  case atStart => exact ⟨0, w.heap.size, 0, p + 1, [], Nat.zero_le _, rfl, rfl, HO1.out, rfl, fun j hj => by simp at hj, by decide, HR1.out, by omega, HG1.out⟩
  case round =>
    obtain ⟨k, g', cap', q, xs, hk, rfl, rfl, hown, hxl, hsm, hps, hrd, hq, hgr⟩ := hrel
    have hsz := hgr.size
    have hge : w.heap.size ≤ g' := (own_lt hown g' rfl).1
    have HO := Lib.hid hown
    have HXL := Lib.hid hxl
    have HSM := Lib.hid hsm
    have HRD := Lib.hid hrd
    have HGR := Lib.hid hgr
    obtain ⟨s, hs⟩ : ∃ s : Nat, pSize xs = s := ⟨(pSize xs).toNat, by have := (pSize_bd hsm).1; omega⟩
    rw [hs] at hps
    have HPS := Lib.hid hs
    clear hown hxl hsm hrd hgr hs
    by_cases hlt : k < n
    · go_wp2_with fail
      refine (l1Size_v _ xs _ (own_rdv HO.out) HSM.out).mono ?_
      rintro e w' ⟨rfl, rfl⟩
      rw [HPS.out]
      go_wp2_with fail
      refine (pick_z g a len cap q _ _ HRD.out (bytes_grown HB.out HGR.out hne) hne hlen (by omega) (by omega) (by omega)).mono ?_
      rintro e w2 ⟨t, rfl, ht, hr2, hg2, hz2⟩
      have HR2 := Lib.hid hr2
      have HG2 := Lib.hid (grown_trans HGR.out hg2)
      have HO2 := Lib.hid (own_grown HO.out hg2 (.inr (by simp [Value.ownBlock]; omega)))
      have hsz2 : w.heap.size ≤ w2.heap.size := by omega
      clear hr2 hg2 hz2
      by_cases hkd : kd = 1
      · have hkd1 : ((kd : Int) == 1) = true := by simp; omega
        clear hkd
        go_wp2_with fail
        refine (pick_z g a len cap (q + 1) _ _ HR2.out (bytes_grown HB.out HG2.out hne) hne hlen (by omega) (by omega) (by omega)).mono ?_
        rintro e w3 ⟨t2, rfl, ht2, hr3, hg3, hz3⟩
        have HR3 := Lib.hid hr3
        have HG3 := Lib.hid (grown_trans HG2.out hg3)
        have HO3 := Lib.hid (own_grown HO2.out hg3 (.inr (by simp [Value.ownBlock]; omega)))
        clear hr3 hg3
        have hzz : w.heap.size ≤ w3.heap.size := by omega
        clear hz3
        obtain ⟨q3, hq3⟩ : ∃ q3, q3 = q + 1 + 1 := ⟨_, rfl⟩
        rw [← hq3] at HR3
        by_cases hst : (t2 : Int) < s
        · have hmin : min (s : Int) t2 = t2 := by omega
          go_wp2_with (at_builtin; refine wpList_push rfl _ _ rfl w.heap.size g' k cap' xs rfl (own_alloc HO3.out _) HXL.out.symm ⟨w3.heap.size, 0, none⟩ rfl t2 (cell_new1 _ _ _) (by omega) (by simp; omega) ?_)
          intro g2 cap2 w4 hown4 hgr4 hg4
          have hG4 : w.grownBy w4 (some g) := grown_own (grown_belowD HG3.out ((Below.refl _ _).alloc (Nat.le_refl _) _)) hgr4 hge
          have hR4 := rdr_grown (rdr_below HR3.out ((Below.refl _ _).alloc (Nat.le_refl _) _)) hgr4 (fun e => by cases e; omega)
          have HO4 := Lib.hid hown4
          have HG4 := Lib.hid hG4
          have HR4 := Lib.hid hR4
          clear hown4 hgr4 hg4 hG4 hR4
          go_wp2
          go_roundw
          case rel =>
            refine ⟨k + 1, g2, cap2, q3, xs ++ [(t2 : Int)], by omega, by go_num, rfl, HO4.out, by simp [HXL.out], small_snoc HSM.out (by omega) (by omega), ?_, HR4.out, by omega, HG4.out⟩
            have := HPS.out
            unfold pSize at this ⊢
            rw [sizeFrom_append, this]
            omega
          case measure => simp [intOf]; omega
        · have hmin : min (s : Int) t2 = s := by omega
          go_wp2_with (at_builtin; refine wpList_push rfl _ _ rfl w.heap.size g' k cap' xs rfl (own_alloc HO3.out _) HXL.out.symm ⟨w3.heap.size, 0, none⟩ rfl s (cell_new1 _ _ _) (by omega) (by simp; omega) ?_)
          intro g2 cap2 w4 hown4 hgr4 hg4
          have hG4 : w.grownBy w4 (some g) := grown_own (grown_belowD HG3.out ((Below.refl _ _).alloc (Nat.le_refl _) _)) hgr4 hge
          have hR4 := rdr_grown (rdr_below HR3.out ((Below.refl _ _).alloc (Nat.le_refl _) _)) hgr4 (fun e => by cases e; omega)
          have HO4 := Lib.hid hown4
          have HG4 := Lib.hid hG4
          have HR4 := Lib.hid hR4
          clear hown4 hgr4 hg4 hG4 hR4
          go_wp2
          go_roundw
          case rel =>
            refine ⟨k + 1, g2, cap2, q3, xs ++ [(s : Int)], by omega, by go_num, rfl, HO4.out, by simp [HXL.out], small_snoc HSM.out (by omega) (by omega), ?_, HR4.out, by omega, HG4.out⟩
            have := HPS.out
            unfold pSize at this ⊢
            rw [sizeFrom_append, this]
            omega
          case measure => simp [intOf]; omega
      · obtain ⟨w3, hw3⟩ : ∃ w3 : World, w3 = w2 := ⟨_, rfl⟩
        rw [← hw3] at HR2 HG2 HO2 hsz2 ⊢
        have HR3 := HR2
        have HG3 := HG2
        have HO3 := HO2
        have hzz : w.heap.size ≤ w3.heap.size := by omega
        clear hw3 HR2 HG2 HO2
        have hkd' : ((kd : Int) == 1) = false := by simp; omega
        have ht0 : (0 : Int) ≤ (t : Int) := by omega
        obtain ⟨q3, hq3⟩ : ∃ q3, q3 = q + 1 := ⟨_, rfl⟩
        rw [← hq3] at HR3
        go_wp2_with (at_builtin; refine wpList_push rfl _ _ rfl w.heap.size g' k cap' xs rfl (own_alloc HO3.out _) HXL.out.symm ⟨w3.heap.size, 0, none⟩ rfl t (cell_new1 _ _ _) (by omega) (by simp; omega) ?_)
        intro g2 cap2 w4 hown4 hgr4 hg4
        have hG4 : w.grownBy w4 (some g) := grown_own (grown_belowD HG3.out ((Below.refl _ _).alloc (Nat.le_refl _) _)) hgr4 hge
        have hR4 := rdr_grown (rdr_below HR3.out ((Below.refl _ _).alloc (Nat.le_refl _) _)) hgr4 (fun e => by cases e; omega)
        have HO4 := Lib.hid hown4
        have HG4 := Lib.hid hG4
        have HR4 := Lib.hid hR4
        clear hown4 hgr4 hg4 hG4 hR4
        go_wp2
        go_roundw
        case rel =>
          refine ⟨k + 1, g2, cap2, q3, xs ++ [(t : Int)], by omega, by go_num, rfl, HO4.out, by simp [HXL.out], small_snoc HSM.out ht0 (by omega), ?_, HR4.out, by omega, HG4.out⟩
          have := HPS.out
          unfold pSize at this ⊢
          rw [sizeFrom_append, this]
          omega
        case measure => simp [intOf]; omega
    · have hkn : k = n := by omega
      subst hkn
      have hB := bytes_grown HB.out HGR.out hne
      go_wp2_with fail
      refine (pick_z g a len cap q _ _ HRD.out hB hne hlen (by omega) (by omega) (by omega)).mono ?_
      rintro e w2 ⟨t, rfl, ht, hr2, hg2, hz2⟩
      have HR2 := Lib.hid hr2
      have HG2 := Lib.hid (grown_trans HGR.out hg2)
      have HO2 := Lib.hid (own_grown HO.out hg2 (.inr (by simp [Value.ownBlock]; omega)))
      have hsz2 : w.heap.size ≤ w2.heap.size := by omega
      clear hr2 hg2 hz2
      by_cases h40 : t = 0
      · subst h40
        go_wp2_with (at_builtin; refine wpList_push rfl _ _ rfl w.heap.size g' k cap' xs rfl (own_alloc HO2.out _) HXL.out.symm ⟨w2.heap.size, 0, none⟩ rfl 9 (cell_new1 _ _ _) (by omega) (by simp; omega) ?_)
        intro g2 cap2 w4 hown4 hgr4 hg4
        have hG4 : w.grownBy w4 (some g) := grown_own (grown_belowD HG2.out ((Below.refl _ _).alloc (Nat.le_refl _) _)) hgr4 hge
        have hR4 := rdr_grown (rdr_below HR2.out ((Below.refl _ _).alloc (Nat.le_refl _) _)) hgr4 (fun e => by cases e; omega)
        have HO4 := Lib.hid hown4
        have HG4 := Lib.hid hG4
        have HR4 := Lib.hid hR4
        clear hown4 hgr4 hg4 hG4 hR4
        go_wp2
        go_ret
        refine ⟨_, xs ++ [9], q + 1, rfl, HO4.out, ⟨by simp [HXL.out] <;> omega, by simp [HXL.out] <;> omega⟩, ?_, HR4.out, by omega, HG4.out⟩
        intro y hy
        rcases List.mem_append.1 hy with h | h
        · exact small_mem HSM.out y h
        · rw [List.mem_singleton.1 h]; omega
      · have ht1 : ((t : Int) == 0) = false := by simp; omega
        go_wp2
        go_ret
        exact ⟨_, xs, q + 1, rfl, HO2.out, by have := HXL.out; omega, small_mem HSM.out, HR2.out, by omega, HG2.out⟩

theorem bytes_of_row {w : World} {a : Option Addr} {len cap : Nat} {zs : List Int} (h : IsRow .u8 w a len cap zs) : Bytes w a len ∧ len ≤ cap ∧ cap ≤ maxLen := by
  rcases h with ⟨rfl, rfl, rfl, rfl⟩ | ⟨x, rfl, hl, hm, hz, hc, hw⟩
  · exact ⟨.inl rfl, Nat.le_refl _, Nat.zero_le _⟩
  · refine ⟨?_, hl, hm⟩
    by_cases h0 : len = 0
    · exact .inl h0
    · obtain ⟨b, off, spot⟩ := x
      have hc0 := hc 0 (by omega)
      have hspot : spot = none := by simpa [Addr.add] using World.cell?_spot hc0
      subst hspot
      refine .inr ⟨b, off, rfl, fun j hj => ?_⟩
      have hcj := hc j (by omega)
      rw [Addr.add_lit] at hcj
      have hmem : zs.getD j 0 ∈ zs := mem_of_getD (by omega) rfl
      have hwf := hw _ hmem
      have hb : 0 ≤ zs.getD j 0 ∧ zs.getD j 0 ≤ 255 := by
        simpa [Lit.wf, IntKind.min, IntKind.max, IntKind.bits, IntKind.signed] using hwf
      refine ⟨(zs.getD j 0).toNat, by omega, ?_⟩
      rw [hcj, Int.toNat_of_nonneg hb.1]
end

end Go.Proofs.Ytfiaiephbemdoaa
