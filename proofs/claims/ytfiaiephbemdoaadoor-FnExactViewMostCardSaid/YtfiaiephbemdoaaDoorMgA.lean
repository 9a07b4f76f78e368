/-
  What the laws of this claim lean on: what functions of the program and of the model answer, one after another, and plain mathematics. No condition.
-/
import Derived.Conc.Beside
import Derived.Conc.Events

set_option maxHeartbeats 800000
set_option linter.unusedVariables false
set_option linter.unusedSimpArgs false
set_option linter.unnecessarySimpa false
set_option maxRecDepth 100000

namespace Go.Proofs.YtfiaiephbemdoaaDoor

section
open Go.Conc

structure Two where
  pr : Program
  P : Program
  okC : FuncId → Code → Code → Prop
  X : World

def isJump : Code → Bool
  | .ret | .exit _ => true
  | _ => false

def Two.okL (T : Two) (l : Loop) : Prop := T.okC l.fn l.assign l.body ∧ ∀ c, l.pending = some c → isJump c = true

def okObj (T : Two) (o : Obj) : Prop := (∀ a u, o = Obj.view a u → a.spot.isSome = true) ∧ (∀ l, o = .loop l → T.okL l) ∧ ∀ c, o = .deferred (some c) → c = []

def isMark : Obj → Bool
  | .view .. | .coro _ => true
  | _ => false

def veil : Obj → Obj
  | .view a u => .view { a with spot := some 0 } u
  | .loop _ | .deferred _ => .coro none
  | o => o

theorem veil_same {o : Obj} (h : isMark (veil o) = false) : veil o = o := by cases o <;> first | rfl | cases h

theorem veil_cells {o : Obj} {c : Array Value} {e : TypeId} {fr : Nat × Nat} (h : veil o = .cells c e fr) : o = .cells c e fr := by
  cases o <;> simp [veil] at h ⊢ <;> exact h

structure Rel (T : Two) (H : Nat → Prop) (w W : World) : Prop where
  size : W.heap.size = w.heap.size
  os : W.os = w.os
  output : W.output = w.output
  out : ∀ b : Nat, ¬ H b → (w.heap[b]? = W.heap[b]? ∧ ∀ o, w.heap[b]? = some o → isMark o = false) ∨ (w.heap[b]? = (W.heap[b]?).map veil ∧ W.heap[b]? = T.X.heap[b]?)
  hid : ∀ b : Nat, H b → ∃ c e fr, w.heap[b]? = some (.cells #[] e fr) ∧ W.heap[b]? = some (.cells c e fr)
  ok : ∀ (b : Nat) (o : Obj), w.heap[b]? = some o → okObj T o
  low : ∀ b, H b → T.X.heap.size ≤ b
  grown : T.X.heap.size ≤ w.heap.size

theorem Rel.cells {T : Two} {H : Nat → Prop} {w W : World} (h : Rel T H w W) {b : Nat} (hb : ¬ H b) {c : Array Value} {e : TypeId} {fr : Nat × Nat} (hc : w.heap[b]? = some (.cells c e fr)) : W.heap[b]? = some (.cells c e fr) := by
  rcases h.out b hb with ⟨x, _⟩ | ⟨x, _⟩
  · rw [← x]; exact hc
  · rw [hc] at x
    cases hW : W.heap[b]? with
    | none => rw [hW] at x; cases x
    | some o => rw [hW] at x; simp at x; rw [veil_cells x.symm]

def Fine (H : Nat → Prop) (B : Nat) (e : Event) : Prop :=
  (∀ a, e.loc = .cell a → ¬ H a.block ∧ a.block < B) ∧ (∀ r, e.loc = .obj r → r < B) ∧ (∀ m, e.loc = .mark m → m = .noRoom)

theorem Fine.mono {H : Nat → Prop} {B B' : Nat} {e : Event} (h : Fine H B e) (hB : B ≤ B') : Fine H B' e :=
  ⟨fun a ha => ⟨(h.1 a ha).1, Nat.lt_of_lt_of_le (h.1 a ha).2 hB⟩, fun r hr => Nat.lt_of_lt_of_le (h.2.1 r hr) hB, h.2.2⟩

structure Like (T : Two) (H : Nat → Prop) (w W w' W' : World) (es : Array Event) : Prop where
  rel : Rel T H w' W'
  tape : w'.tape = w.tape
  tape' : W'.tape = W.tape
  drawn : w'.drawn + W.drawn = W'.drawn + w.drawn
  more : W.drawn ≤ W'.drawn
  grew : W.heap.size ≤ W'.heap.size
  fine : ∀ e ∈ es, Fine H W'.heap.size e

def _root_.Go.Result.world {α : Type} : Result α → World
  | .ok _ w | .halt _ w => w

def Lost (T : Two) (v : Value) : Prop := ∃ t x, v = .iface t x ∧ T.pr.info? t = none

def okWorld (T : Two) (w : World) : Prop := ∀ (b : Nat) (o : Obj), w.heap[b]? = some o → okObj T o

def okHalt (T : Two) : Halt → Prop
  | .panic v => Lost T v
  | .unsupported _ | .stuck _ => True
  | _ => False

def Res {α : Type} (T : Two) (φ : α → Prop) (H : Nat → Prop) (w W : World) : Result α → Result α → Array Event → Prop
  | .ok a w', r, es => ∃ W', r = .ok a W' ∧ Like T H w W w' W' es ∧ φ a
  | .halt x w', _, _ => okHalt T x ∧ okWorld T w'

def Agr (w W : World) (lim : Nat) : Prop := ∀ i q, W.drawn + i < lim → w.tape (w.drawn + i) q = W.tape (W.drawn + i) q

def SimP {α : Type} (T : Two) (φ : α → Prop) (s s' : Sem α) : Prop :=
  ∀ (H : Nat → Prop) (w W : World), Rel T H w W → Agr w W (s'.run T.P W).world.drawn → Res T φ H w W (s.run T.pr w) (s'.run T.P W) (s'.events T.P W #[])
def Sim {α : Type} (T : Two) (s s' : Sem α) : Prop := SimP T (fun _ => True) s s'

theorem Like.refl {T : Two} {H : Nat → Prop} {w W : World} (h : Rel T H w W) : Like T H w W w W #[] :=
  ⟨h, rfl, rfl, by omega, Nat.le_refl _, Nat.le_refl _, by simp⟩

theorem Like.trans {T : Two} {H : Nat → Prop} {w W w1 W1 w2 W2 : World} {es es' : Array Event} (h : Like T H w W w1 W1 es) (k : Like T H w1 W1 w2 W2 es') : Like T H w W w2 W2 (es ++ es') := by
  have h1 := h.drawn; have h2 := k.drawn
  exact ⟨k.rel, k.tape.trans h.tape, k.tape'.trans h.tape', by omega, Nat.le_trans h.more k.more, Nat.le_trans h.grew k.grew, fun e he => by
    rcases Array.mem_append.1 he with he | he
    · exact (h.fine e he).mono k.grew
    · exact k.fine e he⟩

theorem ask_drawn {α : Type} (k : Ask α) : ∀ w : World, w.drawn ≤ (w.ask k).2.drawn := by
  induction k with
  | done a => exact fun w => Nat.le_refl _
  | ask what range k ih =>
    intro w
    unfold World.ask
    dsimp only
    split
    · exact ih _ _
    · exact Nat.le_trans (Nat.le_succ _) (ih _ { w with drawn := w.drawn + 1 })

theorem sys_drawn (w : World) (c : Sys) : w.drawn ≤ (w.sys c).2.drawn := by
  have h := ask_drawn (Kernel.perform c w.os) w
  unfold World.sys
  split
  · exact Nat.le_refl _
  · rename_i e; rw [e] at h; exact h

theorem viewStore_drawn {P : Program} {w w' : World} {a k : Addr} {u : TypeId} {v : Value} {m : Bool} {l : List Addr} (h : w.viewStore P a u k v m = .ok (w', l)) : w'.drawn = w.drawn := by
  unfold World.viewStore at h
  simp only [bind, Except.bind, pure, Except.pure] at h
  repeat' (split at h <;> try (first | (cases h; done) | skip))
  all_goals first
    | (cases h; rfl)
    | (simp only [Except.ok.injEq, Prod.mk.injEq] at h; obtain ⟨rfl, _⟩ := h; rfl)
    | skip

theorem farStore_drawn {P : Program} {w w' : World} {a : Addr} {v : Value} {m : Bool} {l : List Addr} (h : w.farStore P a v m = .ok (w', l)) : w'.drawn = w.drawn := by
  unfold World.farStore at h
  split at h
  · split at h
    · rename_i e; cases h; exact viewStore_drawn e
    · cases h
  · cases h

theorem run_drawn {α : Type} (P : Program) (s : Sem α) : ∀ w : World, w.drawn ≤ (s.run P w).world.drawn := by
  induction s with
  | pure a => exact fun w => Nat.le_refl _
  | load m a k ih =>
    intro w; simp only [Sem.run]
    split
    · exact ih _ _
    · split
      · exact ih _ _
      · exact Nat.le_refl _
  | store m a v k ih =>
    intro w
    have key : w.drawn ≤ (match w.cell? a with
      | some _ => if w.frozen? a = true then Result.halt (.unsupported (.unsafePointer "a write to bytes that a string shares")) w else k.run P (w.setCell a v)
      | none => match w.farStore P a v (m == Mode.atomic) with
        | .ok (w, _) => k.run P w
        | .error h => .halt h w).world.drawn := by
      split
      · split
        · exact Nat.le_refl _
        · exact ih (w.setCell a v)
      · split
        · rename_i e; rw [← farStore_drawn e]; exact ih _
        · exact Nat.le_refl _
    cases v <;> first | exact key | exact Nat.le_refl _
  | new o k ih => exact fun w => ih _ { w with heap := w.heap.push o }
  | shape r k ih => exact fun w => ih _ _
  | freeze a n k ih =>
    intro w; simp only [Sem.run]
    have := ih (w.freeze a n)
    have e : (w.freeze a n).drawn = w.drawn := by unfold World.freeze; split <;> rfl
    rw [← e]; exact this
  | frozen a k ih => exact fun w => ih _ _
  | getObj r k ih =>
    intro w; simp only [Sem.run]
    split
    · exact Nat.le_refl _
    · exact ih _ _
    · exact Nat.le_refl _
  | setObj r o k ih =>
    intro w; simp only [Sem.run]
    split
    · exact Nat.le_refl _
    · exact ih { w with heap := w.heap.setIfInBounds r o }
    · exact Nat.le_refl _
  | choose q k ih =>
    intro w; simp only [Sem.run]
    split
    · exact ih _ _
    · exact Nat.le_trans (Nat.le_succ _) (ih _ { w with drawn := w.drawn + 1 })
  | sys c k ih => exact fun w => Nat.le_trans (sys_drawn w c) (ih _ _)
  | program k ih => exact fun w => ih _ _
  | mark m k ih => exact fun w => ih _
  | halt h => exact fun w => Nat.le_refl _

section
variable {T : Two} {α β : Type}

theorem sim_pure (a : α) : Sim T (Pure.pure a) (Pure.pure a) := fun H w W h _ => ⟨W, rfl, Like.refl h, trivial⟩

theorem sim_halt (x : Halt) (hx : okHalt T x) (s' : Sem α) : Sim T (.halt x) s' := fun H w W h _ => ⟨hx, h.ok⟩

theorem sim_stuck (why : String) (s' : Sem α) : Sim T (stuck why) s' := sim_halt _ (by trivial) _
theorem sim_unsupported (u : Unsupported) (s' : Sem α) : Sim T (unsupported u) s' := sim_halt _ (by trivial) _
theorem sim_goPanic (v : Value) (hv : Lost T v) (s' : Sem α) : Sim T (goPanic v : Sem α) s' := fun H w W h _ => ⟨hv, h.ok⟩

theorem SimP.bind {φ : α → Prop} {ψ : β → Prop} {s s' : Sem α} {f f' : α → Sem β} (h : SimP T φ s s') (k : ∀ a, φ a → SimP T ψ (f a) (f' a)) : SimP T ψ (s >>= f) (s' >>= f') := by
  intro H w W hr hA
  have e1 : (s >>= f).run T.pr w = (s.run T.pr w).andThen fun a w' => (f a).run T.pr w' := Sem.run_bind' ..
  have e2 : (s' >>= f').run T.P W = (s'.run T.P W).andThen fun a w' => (f' a).run T.P w' := Sem.run_bind' ..
  have e3 : (s' >>= f').events T.P W #[] = (s'.run T.P W).evThen (s'.events T.P W #[]) fun a w' es' => (f' a).events T.P w' es' := Sem.events_bind' ..
  have hA' : Agr w W (s'.run T.P W).world.drawn := by
    intro i q hi
    refine hA i q (Nat.lt_of_lt_of_le hi ?_)
    rw [e2]
    cases hx : s'.run T.P W with
    | ok a W1 => exact run_drawn T.P (f' a) W1
    | halt x W1 => exact Nat.le_refl _
  have h1 := h H w W hr hA'
  rw [e1, e2, e3]
  cases hx : s.run T.pr w with
  | ok a w1 =>
    rw [hx] at h1
    obtain ⟨W1, hW1, hL, hφ⟩ := h1
    rw [hW1]
    simp only [Result.andThen, Result.evThen]
    have hA2 : Agr w1 W1 ((f' a).run T.P W1).world.drawn := by
      intro i q hi
      have hd := hL.drawn
      have hm := hL.more
      rw [e2, hW1] at hA
      have := hA (W1.drawn - W.drawn + i) q (by simp only [Result.andThen]; omega)
      rw [hL.tape, hL.tape', show w1.drawn + i = w.drawn + (W1.drawn - W.drawn + i) by omega, show W1.drawn + i = W.drawn + (W1.drawn - W.drawn + i) by omega]
      exact this
    have h2 := k a hφ H w1 W1 hL.rel hA2
    rw [Sem.events_acc]
    cases hy : (f a).run T.pr w1 with
    | ok b w2 => rw [hy] at h2; obtain ⟨W2, e, L, hψ⟩ := h2; exact ⟨W2, e, hL.trans L, hψ⟩
    | halt x w2 =>
      rw [hy] at h2
      exact h2
  | halt x w1 =>
    rw [hx] at h1
    exact h1
theorem SimP.mono {φ ψ : α → Prop} {s s' : Sem α} (h : SimP T φ s s') (k : ∀ a, φ a → ψ a) : SimP T ψ s s' := by
  intro H w W hr hA
  have h1 := h H w W hr hA
  cases hx : s.run T.pr w with
  | ok a w1 => rw [hx] at h1; obtain ⟨W1, e, L, x⟩ := h1; exact ⟨W1, e, L, k a x⟩
  | halt x w1 => rw [hx] at h1; exact h1
theorem Sim.bind {s s' : Sem α} {f f' : α → Sem β} (h : Sim T s s') (k : ∀ a, Sim T (f a) (f' a)) : Sim T (s >>= f) (s' >>= f') := SimP.bind h fun a _ => k a

theorem Sim.map {s s' : Sem α} {f : α → β} (h : Sim T s s') : Sim T (f <$> s) (f <$> s') := by
  have := Sim.bind (f := fun a => (Pure.pure (f a) : Sem β)) (f' := fun a => Pure.pure (f a)) h fun a => sim_pure _
  exact this

theorem sim_ite {c : Prop} [Decidable c] {s t s' t' : Sem α} (h : c → Sim T s s') (k : ¬ c → Sim T t t') : Sim T (if c then s else t) (if c then s' else t') := by
  by_cases hc : c
  · rw [if_pos hc, if_pos hc]; exact h hc
  · rw [if_neg hc, if_neg hc]; exact k hc

theorem sim_program {k k' : Program → Sem α} (h : Sim T (k T.pr) (k' T.P)) : Sim T (program >>= k) (program >>= k') := h

theorem cell_real {H : Nat → Prop} {w W : World} (h : Rel T H w W) {a : Addr} {v : Value} (hc : w.cell? a = some v) : ¬ H a.block ∧ a.block < W.heap.size ∧ W.heap[a.block]? = w.heap[a.block]? := by
  have hn : ¬ H a.block := by
    intro hh
    obtain ⟨c, e, fr, h1, _⟩ := h.hid _ hh
    unfold World.cell? at hc
    rw [h1] at hc
    simp at hc
  unfold World.cell? at hc
  cases ho : w.heap[a.block]? with
  | none => rw [ho] at hc; cases hc
  | some o =>
    rw [ho] at hc
    cases o <;> first | (cases hc; done) | skip
    have hW := h.cells hn ho
    exact ⟨hn, (Array.getElem?_eq_some_iff.1 hW).1, hW⟩

theorem seen_spot (p : Program) (w : World) (a : Addr) (u : TypeId) (k : Addr) (m : Bool) (h : a.spot.isSome = true) : w.seen p a u k m = .error "memory seen as another type: a place without cells" := by
  have e : (k.spot.isSome || a.spot.isSome) = true := by simp [h]
  unfold World.seen
  simp only [e, if_true]
  rfl
theorem noCell_ok (w : World) (a : Addr) (s : String) : okHalt T (w.noCell a s) := by
  unfold World.noCell
  split <;> trivial
theorem noFar {H : Nat → Prop} {w W : World} (h : Rel T H w W) (p : Program) (a : Addr) (m : Bool) : ∃ x, w.farLoad p a m = .error x ∧ okHalt T x := by
  unfold World.farLoad
  split
  · rename_i x y e
    have hs := (h.ok _ _ e).1 _ _ rfl
    have e1 : w.viewLoad p x y a m = .error "memory seen as another type: a place without cells" := by
      unfold World.viewLoad
      rw [seen_spot _ _ _ _ _ _ hs]; rfl
    rw [e1]
    exact ⟨_, rfl, trivial⟩
  · exact ⟨_, rfl, noCell_ok _ _ _⟩
theorem noFarS {H : Nat → Prop} {w W : World} (h : Rel T H w W) (p : Program) (a : Addr) (v : Value) (m : Bool) : ∃ x, w.farStore p a v m = .error x ∧ okHalt T x := by
  unfold World.farStore
  split
  · rename_i x y e
    have hs := (h.ok _ _ e).1 _ _ rfl
    have e1 : ∃ z, w.viewStore p x y a v m = .error z := by
      unfold World.viewStore
      rw [seen_spot _ _ _ _ _ _ hs]
      simp only [bind, Except.bind]
      split
      · exact ⟨_, rfl⟩
      · exact ⟨_, rfl⟩
    obtain ⟨z, e1⟩ := e1
    rw [e1]
    exact ⟨_, rfl, trivial⟩
  · exact ⟨_, rfl, noCell_ok _ _ _⟩

theorem sim_load (a : Addr) (m : Mode) : Sim T (load a m) (load a m) := by
  intro H w W h _
  cases hc : w.cell? a with
  | some v =>
    obtain ⟨hn, hl, he⟩ := cell_real h hc
    have hC : W.cell? a = some v := by unfold World.cell? at hc ⊢; rw [he]; exact hc
    have e1 : (load a m).run T.pr w = .ok v w := by simp only [load, Sem.run, hc]
    have e2 : (load a m).run T.P W = .ok v W := by simp only [load, Sem.run, hC]
    have e3 : (load a m).events T.P W #[] = #[⟨.cell a, false, m == .atomic⟩] := by simp [load, Sem.events, Sem.runT, -Sem.runT_eq, hC]
    rw [e1, e2, e3]
    refine ⟨W, rfl, ⟨h, rfl, rfl, by omega, Nat.le_refl _, Nat.le_refl _, fun e he => ?_⟩, trivial⟩
    simp only [List.mem_toArray, List.mem_singleton] at he
    subst he
    exact ⟨fun b hb => by cases hb; exact ⟨hn, hl⟩, fun r hr => (by cases hr), fun m hm => (by cases hm)⟩
  | none =>
    obtain ⟨x, hx, hnp⟩ := noFar h T.pr a (m == Mode.atomic)
    have e1 : (load a m).run T.pr w = .halt x w := by
      simp only [load, Sem.run, hc]
      rw [hx]
    rw [e1]
    exact ⟨hnp, h.ok⟩

theorem setCell_heap (w : World) (a : Addr) (v : Value) (b : Nat) (hb : b ≠ a.block) : (w.setCell a v).heap[b]? = w.heap[b]? := by
  unfold World.setCell
  simp only [Array.getElem?_modify]
  rw [if_neg (by omega)]

def setIn (a : Addr) (v : Value) : Obj → Obj
  | .cells c e fr => .cells (if a.spot.isSome then c else c.setIfInBounds a.off v) e fr
  | o => o
theorem setCell_get (w : World) (a : Addr) (v : Value) (b : Nat) : (w.setCell a v).heap[b]? = if a.block = b then (w.heap[b]?).map (setIn a v) else w.heap[b]? := by
  unfold World.setCell
  simp only [Array.getElem?_modify]
  split <;> rfl
theorem setIn_veil (a : Addr) (v : Value) (o : Obj) : setIn a v (veil o) = veil (setIn a v o) := by cases o <;> rfl
theorem Rel.set {H : Nat → Prop} {w W : World} (h : Rel T H w W) {a : Addr} (hn : ¬ H a.block) (v : Value) : Rel T H (w.setCell a v) (W.setCell a v) := by
  refine ⟨by simp [World.setCell, h.size], h.os, h.output, fun b hb => ?_, fun b hb => ?_, fun b o ho => ?_, h.low, by simpa [World.setCell] using h.grown⟩
  · rw [setCell_get, setCell_get]
    split
    · rcases h.out b hb with ⟨x, y⟩ | ⟨x, y⟩
      · refine .inl ⟨by rw [x], fun o ho => ?_⟩
        obtain ⟨o', ho', rfl⟩ := Option.map_eq_some_iff.1 ho
        have := y o' ho'
        cases o' <;> first | rfl | cases this
      · cases hW : W.heap[b]? with
        | none => exact .inr ⟨by rw [x, hW]; rfl, by rw [← y, hW]; rfl⟩
        | some o =>
          rw [hW] at x y
          by_cases hc : ∃ c e fr, o = .cells c e fr
          · obtain ⟨c, e, fr, rfl⟩ := hc
            refine .inl ⟨by rw [x]; rfl, fun o ho => ?_⟩
            rw [x] at ho
            cases ho
            rfl
          · have hs : setIn a v o = o := by cases o <;> first | rfl | exact absurd ⟨_, _, _, rfl⟩ hc
            refine .inr ⟨?_, by rw [Option.map_some, hs]; exact y⟩
            rw [x]
            simp [setIn_veil]
    · exact h.out b hb
  · obtain ⟨c, e, fr, h1, h2⟩ := h.hid b hb
    have hne : b ≠ a.block := fun x => hn (x ▸ hb)
    exact ⟨c, e, fr, by rw [setCell_heap _ _ _ _ hne]; exact h1, by rw [setCell_heap _ _ _ _ hne]; exact h2⟩
  · rw [setCell_get] at ho
    split at ho
    · cases hx : w.heap[b]? with
      | none => rw [hx] at ho; cases ho
      | some o' =>
        rw [hx] at ho
        simp at ho
        have := h.ok b o' hx
        cases o' <;> simp [setIn] at ho <;> subst ho <;> first | exact this | exact ⟨by simp, by simp, by simp⟩
    · exact h.ok b o ho

theorem sim_store (a : Addr) (v : Value) (m : Mode) : Sim T (store a v m) (store a v m) := by
  intro H w W h _
  have key : (∀ x, v ≠ .agg x) → (∀ x, v ≠ .tuple x) → Res T (fun _ => True) H w W ((store a v m).run T.pr w) ((store a v m).run T.P W) ((store a v m).events T.P W #[]) := by
    intro h1 h2
    have r : ∀ (p : Program) (w : World), (store a v m).run p w = (match w.cell? a with
      | some _ => if w.frozen? a then Result.halt (.unsupported (.unsafePointer "a write to bytes that a string shares")) w else .ok () (w.setCell a v)
      | none => match w.farStore p a v (m == Mode.atomic) with
        | .ok (w, _) => .ok () w
        | .error h => .halt h w) := by
      intro p w
      unfold store
      cases v <;> first | rfl | exact absurd rfl (h1 _) | exact absurd rfl (h2 _)
    cases hc : w.cell? a with
    | some x =>
      obtain ⟨hn, hl, he⟩ := cell_real h hc
      have hC : W.cell? a = some x := by unfold World.cell? at hc ⊢; rw [he]; exact hc
      have hF : W.frozen? a = w.frozen? a := by unfold World.frozen?; rw [he]
      rw [r, r, hc, hC]
      dsimp only
      by_cases hf : w.frozen? a = true
      · rw [if_pos hf]; exact ⟨trivial, h.ok⟩
      · rw [if_neg hf, hF, if_neg hf]
        have e3 : (store a v m).events T.P W #[] = #[⟨.cell a, true, m == .atomic⟩] := by
          unfold store Sem.events
          cases v <;> first | exact absurd rfl (h1 _) | exact absurd rfl (h2 _) | simp [Sem.runT, -Sem.runT_eq, hC, hF, hf]
        rw [e3]
        refine ⟨_, rfl, ⟨h.set hn v, rfl, rfl, by show w.drawn + W.drawn = W.drawn + w.drawn; omega, Nat.le_refl _, by simp [World.setCell], fun e he => ?_⟩, trivial⟩
        simp only [List.mem_toArray, List.mem_singleton] at he
        subst he
        exact ⟨fun b hb => by cases hb; exact ⟨hn, by simpa [World.setCell] using hl⟩, fun r hr => (by cases hr), fun m hm => (by cases hm)⟩
    | none =>
      rw [r, hc]
      dsimp only
      obtain ⟨x, hx, hnp⟩ := noFarS h T.pr a v (m == Mode.atomic)
      rw [hx]
      dsimp only
      exact ⟨hnp, h.ok⟩
  cases v <;> first | exact ⟨trivial, h.ok⟩ | exact key (by simp) (by simp)

theorem Rel.push {H : Nat → Prop} {w W : World} (h : Rel T H w W) {o : Obj} (ho : okObj T o) (hm : isMark o = false) : Rel T H { w with heap := w.heap.push o } { W with heap := W.heap.push o } := by
  have hlt : ∀ b, H b → b < w.heap.size := by
    intro b hb
    obtain ⟨c, e, fr, h1, _⟩ := h.hid b hb
    exact (Array.getElem?_eq_some_iff.1 h1).1
  refine ⟨by simp [h.size], h.os, h.output, fun b hb => ?_, fun b hb => ?_, fun b x hx => ?_, h.low, by have := h.grown; simp; omega⟩
  · simp only [Array.getElem?_push, h.size]
    split
    · exact .inl ⟨rfl, fun x hx => by cases hx; exact hm⟩
    · exact h.out b hb
  · obtain ⟨c, e, fr, h1, h2⟩ := h.hid b hb
    have := hlt b hb
    exact ⟨c, e, fr, by rw [Array.getElem?_push, if_neg (by omega)]; exact h1, by rw [Array.getElem?_push, if_neg (by have := h.size; omega)]; exact h2⟩
  · simp only [Array.getElem?_push] at hx
    split at hx
    · cases hx; exact ho
    · exact h.ok b x hx

theorem sim_newObj (o : Obj) (ho : okObj T o) (hm : isMark o = false := by simp [isMark]) : Sim T (newObj o) (newObj o) := by
  intro H w W h _
  show Res T (fun _ => True) H w W (.ok w.heap.size { w with heap := w.heap.push o }) (.ok W.heap.size { W with heap := W.heap.push o }) #[]
  exact ⟨{ W with heap := W.heap.push o }, by rw [h.size], ⟨h.push ho hm, rfl, rfl, by show w.drawn + W.drawn = W.drawn + w.drawn; omega, Nat.le_refl _, by simp, by simp⟩, trivial⟩

theorem getObj_run (p : Program) (r : Nat) (w : World) : (getObj r).run p w = (match w.heap[r]? with
    | some (.cells ..) => .halt (.stuck "getObj: a row of cells") w
    | some o => .ok o w
    | none => .halt (.stuck "getObj: no such block") w) := by
  simp only [getObj, Sem.run]
  cases w.heap[r]? with
  | none => rfl
  | some o => cases o <;> rfl

theorem sim_getObj_bind {φ : α → Prop} {r : Nat} {f f' : Obj → Sem α} (h1 : ∀ o, okObj T o → SimP T φ (f o) (f' o)) (h2 : ∀ a u b, SimP T φ (f (.view a u)) (f' (.view b u)))
    (h3 : ∀ o', ((∃ l, o' = .loop l) ∨ ∃ d, o' = .deferred d) → SimP T φ (f (.coro none)) (f' o')) : SimP T φ (getObj r >>= f) (getObj r >>= f') := by
  intro H w W h hA
  have e1 : (getObj r >>= f).run T.pr w = ((getObj r).run T.pr w).andThen fun a w' => (f a).run T.pr w' := Sem.run_bind' ..
  have e2 : (getObj r >>= f').run T.P W = ((getObj r).run T.P W).andThen fun a w' => (f' a).run T.P w' := Sem.run_bind' ..
  have e3 : (getObj r >>= f').events T.P W #[] = ((getObj r).run T.P W).evThen ((getObj r).events T.P W #[]) fun a w' es' => (f' a).events T.P w' es' := Sem.events_bind' ..
  rw [e2] at hA
  rw [e1, e2, e3]
  rw [getObj_run] at hA ⊢
  rw [getObj_run]
  cases hw : w.heap[r]? with
  | none => exact ⟨trivial, h.ok⟩
  | some o =>
    by_cases hcell : ∃ c e fr, o = .cells c e fr
    · obtain ⟨c, e, fr, rfl⟩ := hcell; exact ⟨trivial, h.ok⟩
    have hn : ¬ H r := by
      intro hh
      obtain ⟨c, e, fr, x, _⟩ := h.hid r hh
      rw [hw] at x
      exact hcell ⟨_, _, _, Option.some.inj x⟩
    have key : ∀ o', W.heap[r]? = some o' → (∀ c e fr, o' ≠ .cells c e fr) → SimP T φ (f o) (f' o') → Res T φ H w W
        ((match some o with
          | some (.cells ..) => (.halt (.stuck "getObj: a row of cells") w : Result Obj)
          | some o => .ok o w
          | none => .halt (.stuck "getObj: no such block") w).andThen fun a w' => (f a).run T.pr w')
        ((match W.heap[r]? with
          | some (.cells ..) => (.halt (.stuck "getObj: a row of cells") W : Result Obj)
          | some o => .ok o W
          | none => .halt (.stuck "getObj: no such block") W).andThen fun a w' => (f' a).run T.P w')
        ((match W.heap[r]? with
          | some (.cells ..) => (.halt (.stuck "getObj: a row of cells") W : Result Obj)
          | some o => .ok o W
          | none => .halt (.stuck "getObj: no such block") W).evThen ((getObj r).events T.P W #[]) fun a w' es' => (f' a).events T.P w' es') := by
      intro o' hW hne hs
      have m1 : (match some o with
          | some (.cells ..) => (.halt (.stuck "getObj: a row of cells") w : Result Obj)
          | some o => .ok o w
          | none => .halt (.stuck "getObj: no such block") w) = .ok o w := by
        cases o <;> first | rfl | exact absurd ⟨_, _, _, rfl⟩ hcell
      have m2 : (match W.heap[r]? with
          | some (.cells ..) => (.halt (.stuck "getObj: a row of cells") W : Result Obj)
          | some o => .ok o W
          | none => .halt (.stuck "getObj: no such block") W) = .ok o' W := by
        rw [hW]
        cases o' <;> first | rfl | exact absurd rfl (hne _ _ _)
      rw [m2] at hA
      have hA' : Agr w W ((f' o').run T.P W).world.drawn := hA
      have hr := hs H w W h hA'
      rw [m1, m2]
      simp only [Result.andThen, Result.evThen]
      have ev : (getObj r).events T.P W #[] = #[⟨.obj r, false, o'.isChan⟩] := by
        simp only [getObj, Sem.events, Sem.runT, hW]
        cases o' <;> first | rfl | exact absurd rfl (hne _ _ _)
      have hL : Like T H w W w W #[⟨.obj r, false, o'.isChan⟩] := by
        refine ⟨h, rfl, rfl, by omega, Nat.le_refl _, Nat.le_refl _, fun e he => ?_⟩
        simp only [List.mem_toArray, List.mem_singleton] at he
        subst he
        exact ⟨fun b hb => (by cases hb), fun x hx => by cases hx; exact (Array.getElem?_eq_some_iff.1 hW).1, fun m hm => (by cases hm)⟩
      rw [ev, Sem.events_acc]
      cases hy : (f o).run T.pr w with
      | ok b w2 => rw [hy] at hr; obtain ⟨W2, e, L, hψ⟩ := hr; exact ⟨W2, e, hL.trans L, hψ⟩
      | halt x w2 => rw [hy] at hr; exact hr
    rcases h.out r hn with ⟨x, _⟩ | ⟨x, _⟩
    · rw [hw] at x
      refine key o x.symm (fun c e fr he => hcell ⟨c, e, fr, he⟩) (h1 o (h.ok r o hw))
    · rw [hw] at x
      cases hW : W.heap[r]? with
      | none => rw [hW] at x; cases x
      | some o' =>
        rw [hW] at x
        have x' : o = veil o' := by simpa using x
        cases o' <;> simp only [veil] at x' <;> subst x'
        case view a u => have hk := key _ hW (by simp) (h2 _ _ _); rw [hW] at hk; exact hk
        case loop l => have hk := key _ hW (by simp) (h3 _ (.inl ⟨_, rfl⟩)); rw [hW] at hk; exact hk
        case deferred d => have hk := key _ hW (by simp) (h3 _ (.inr ⟨_, rfl⟩)); rw [hW] at hk; exact hk
        case cells c e fr => exact absurd ⟨_, _, _, rfl⟩ hcell
        all_goals (have hk := key _ hW (by simp) (h1 _ (h.ok r _ hw)); rw [hW] at hk; exact hk)

theorem Sim.look {r : Nat} {f f' : Obj → Sem α} (h1 : ∀ o, okObj T o → Sim T (f o) (f' o)) (h2 : ∀ a u b, Sim T (f (.view a u)) (f' (.view b u)))
    (h3 : ∀ o', ((∃ l, o' = .loop l) ∨ ∃ d, o' = .deferred d) → Sim T (f (.coro none)) (f' o')) : Sim T (getObj r >>= f) (getObj r >>= f') := sim_getObj_bind h1 h2 h3

theorem sim_setObj (r : Nat) (o : Obj) (ho : okObj T o) (hm : isMark o = false := by simp [isMark]) : Sim T (setObj r o) (setObj r o) := by
  intro H w W h _
  have run : ∀ (p : Program) (w : World), (setObj r o).run p w = (match w.heap[r]? with
    | some (.cells ..) => .halt (.stuck "setObj: a row of cells") w
    | some _ => .ok () { w with heap := w.heap.setIfInBounds r o }
    | none => .halt (.stuck "setObj: no such block") w) := by
    intro p w
    simp only [setObj, Sem.run]
    cases w.heap[r]? with
    | none => rfl
    | some o => cases o <;> rfl
  rw [run, run]
  cases hw : w.heap[r]? with
  | none => exact ⟨trivial, h.ok⟩
  | some o1 =>
    by_cases hcell : ∃ c e fr, o1 = .cells c e fr
    · obtain ⟨c, e, fr, rfl⟩ := hcell; exact ⟨trivial, h.ok⟩
    have hn : ¬ H r := by
      intro hh
      obtain ⟨c, e, fr, x, _⟩ := h.hid r hh
      rw [hw] at x
      exact hcell ⟨_, _, _, Option.some.inj x⟩
    obtain ⟨o2, hW, hne⟩ : ∃ o2, W.heap[r]? = some o2 ∧ ∀ c e fr, o2 ≠ .cells c e fr := by
      rcases h.out r hn with ⟨x, _⟩ | ⟨x, _⟩
      · exact ⟨o1, by rw [← x]; exact hw, fun c e fr he => hcell ⟨c, e, fr, he⟩⟩
      · rw [hw] at x
        cases hW : W.heap[r]? with
        | none => rw [hW] at x; cases x
        | some o' =>
          rw [hW] at x
          have x' : o1 = veil o' := by simpa using x
          exact ⟨o', rfl, fun c e fr he => hcell ⟨c, e, fr, by rw [x', he]; rfl⟩⟩
    have m1 : (match some o1 with
        | some (.cells ..) => (.halt (.stuck "setObj: a row of cells") w : Result Unit)
        | some _ => .ok () { w with heap := w.heap.setIfInBounds r o }
        | none => .halt (.stuck "setObj: no such block") w) = .ok () { w with heap := w.heap.setIfInBounds r o } := by
      cases o1 <;> first | rfl | exact absurd ⟨_, _, _, rfl⟩ hcell
    have m2 : (match W.heap[r]? with
        | some (.cells ..) => (.halt (.stuck "setObj: a row of cells") W : Result Unit)
        | some _ => .ok () { W with heap := W.heap.setIfInBounds r o }
        | none => .halt (.stuck "setObj: no such block") W) = .ok () { W with heap := W.heap.setIfInBounds r o } := by
      rw [hW]
      cases o2 <;> first | rfl | exact absurd rfl (hne _ _ _)
    have e3 : (setObj r o).events T.P W #[] = #[⟨.obj r, true, o.isChan⟩] := by
      simp only [setObj, Sem.events, Sem.runT, hW]
      cases o2 <;> first | rfl | exact absurd rfl (hne _ _ _)
    rw [m1, m2, e3]
    have l1 := (Array.getElem?_eq_some_iff.1 hw).1
    have l2 := (Array.getElem?_eq_some_iff.1 hW).1
    refine ⟨_, rfl, ⟨⟨by simp [h.size], h.os, h.output, fun b hb => ?_, fun b hb => ?_, fun b x hx => ?_, h.low, by have := h.grown; simp; omega⟩, rfl, rfl, by show w.drawn + W.drawn = W.drawn + w.drawn; omega, Nat.le_refl _, by simp, fun e he => ?_⟩, trivial⟩
    · by_cases hbr : r = b
      · subst hbr
        refine .inl ⟨by simp [Array.getElem?_setIfInBounds_self_of_lt l1, Array.getElem?_setIfInBounds_self_of_lt l2], fun x hx => ?_⟩
        simp only [Array.getElem?_setIfInBounds_self_of_lt l1] at hx
        cases hx; exact hm
      · simp only [Array.getElem?_setIfInBounds_ne hbr]; exact h.out b hb
    · obtain ⟨c, e, fr, h1, h2⟩ := h.hid b hb
      have hne : r ≠ b := fun x => hn (x ▸ hb)
      exact ⟨c, e, fr, by simp only [Array.getElem?_setIfInBounds_ne hne]; exact h1, by simp only [Array.getElem?_setIfInBounds_ne hne]; exact h2⟩
    · by_cases hbr : r = b
      · subst hbr
        simp only [Array.getElem?_setIfInBounds_self_of_lt l1] at hx
        cases hx; exact ho
      · simp only [Array.getElem?_setIfInBounds_ne hbr] at hx; exact h.ok b x hx
    · simp only [List.mem_toArray, List.mem_singleton] at he
      subst he
      exact ⟨fun b hb => (by cases hb), fun x hx => by cases hx; simpa using l2, fun m hm => (by cases hm)⟩

theorem sim_choose (q : Question) : Sim T (choose q) (choose q) := by
  intro H w W h hA
  have e1 : ∀ (p : Program) (w : World), (choose q).run p w = if q.forced then .ok 0 w else .ok (q.cut (w.tape w.drawn q)) { w with drawn := w.drawn + 1 } := by
    intro p w
    simp only [choose, Sem.run]
  have e3 : (choose q).events T.P W #[] = #[] := by
    simp only [choose, Sem.events, Sem.runT]
    split <;> rfl
  rw [e3, e1, e1]
  rw [e1] at hA
  by_cases hq : q.forced = true
  · rw [if_pos hq, if_pos hq]; exact ⟨W, rfl, Like.refl h, trivial⟩
  · rw [if_neg hq, if_neg hq]
    rw [if_neg hq] at hA
    have := hA 0 q (by simp only [Result.world]; omega)
    simp only [Nat.add_zero] at this
    rw [this]
    exact ⟨_, rfl, ⟨⟨h.size, h.os, h.output, h.out, h.hid, h.ok, h.low, h.grown⟩, rfl, rfl, by show w.drawn + 1 + W.drawn = W.drawn + 1 + w.drawn; omega, Nat.le_succ _, Nat.le_refl _, by simp⟩, trivial⟩

theorem sim_noRoom : Sim T (mark .noRoom) (mark .noRoom) := by
  intro H w W h _
  show Res T (fun _ => True) H w W (.ok () w) (.ok () W) #[⟨.mark .noRoom, false, true⟩]
  refine ⟨W, rfl, ⟨h, rfl, rfl, by omega, Nat.le_refl _, Nat.le_refl _, fun e he => ?_⟩, trivial⟩
  simp only [List.mem_toArray, List.mem_singleton] at he
  subst he
  exact ⟨fun b hb => (by cases hb), fun r hr => (by cases hr), fun m hm => by cases hm; rfl⟩

theorem sim_askRoom (n : Nat) : Sim T (askRoom n) (askRoom n) := by
  unfold askRoom
  exact sim_ite (fun _ => sim_noRoom) (fun _ => sim_pure ())

end
end

end Go.Proofs.YtfiaiephbemdoaaDoor
