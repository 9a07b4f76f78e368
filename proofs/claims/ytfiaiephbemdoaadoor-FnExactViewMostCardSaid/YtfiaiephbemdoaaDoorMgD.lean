/-
  What the laws of this claim lean on: what functions of the program and of the model answer, one after another, and plain mathematics. No condition.
-/
import Derived.Test.YtfiaiephbemdoaaDoorMgC
import Derived.Conc.CrowdBase
import Derived.Conc.CrowdComm
import Derived.Conc.CrowdRun

set_option maxHeartbeats 800000
set_option linter.unusedVariables false
set_option linter.unusedSimpArgs false
set_option linter.unnecessarySimpa false
set_option maxRecDepth 100000

namespace Go.Proofs.YtfiaiephbemdoaaDoor

section
open Go.Conc

def _root_.Go.GStep.world : GStep → World
  | .go _ w _ | .comm _ _ _ _ w _ | .spawn _ _ w _ | .count _ w _ | .timer _ _ w _ | .alone _ _ w _ | .newcoro _ _ _ w _ | .coroswitch _ _ _ w _ | .collect _ w _ | .watch _ w _ | .ended _ w _ => w

@[simp] theorem world_after (es : Array Event) (s : GStep) : (GStep.after es s).world = s.world := by cases s <;> rfl

def okCode (P : Program) : Code → Bool
  | .region _ ops _ => ops.all fun o => okOp P o.op
  | .seq a b | .cond _ a b | .rangeFunc _ _ a b => okCode P a && okCode P b
  | .block _ c | .loop c | .scope c => okCode P c
  | .refuse _ | .goto _ => false
  | _ => true

def okItem (P : Program) : Item → Bool
  | .code c | .inLoop c | .inScope c => okCode P c
  | .inRegion ops _ => ops.all fun o => okOp P o.op
  | .call .. | .extern .. => false
  | _ => true

structure Kit (T : Two) : Prop extends Kin T where
  code : ∀ (f : Nat) (fn : Func) (c : Code), T.pr.funcs[f]? = some fn → fn.body = some c → okCode T.P c = true
  held : ∀ f a b, T.okC f a b ↔ okCode T.P a = true ∧ okCode T.P b = true ∧ T.P.inits.idxOf? f = none
  noinit : ∀ (f : Nat) (fn : Func), T.pr.funcs[f]? = some fn → fn.body.isSome = true → T.P.inits.idxOf? f = none
  idle : ∀ g, T.pr.stepOf g = none
  ahead : T.pr.follows .staticDataAhead = true

structure okFrame (T : Two) (fr : Frame) : Prop where
  todo : ∀ it ∈ fr.todo, okItem T.P it = true
  defers : ∀ d ∈ fr.defers, ∃ b, d = { target := .collected b, args := #[] }
  kind : fr.kind = .normal
  noinit : T.P.inits.idxOf? fr.fn = none
  kept : fr.roundOf = none → ∃ fn, T.pr.funcs[fr.fn]? = some fn ∧ T.P.funcs[fr.fn]? = some fn

structure okCaller (T : Two) (fr : Frame) : Prop where
  frame : okFrame T fr
  mode : fr.mode = .run

structure okGS (T : Two) (g : Goroutine) : Prop where
  running : g.status = .running
  dying : g.dying = none
  frame : okFrame T g.frame
  callers : ∀ c ∈ g.callers, okCaller T c
  mode : g.frame.mode = .run ∨ (g.frame.mode = .returning ∧ g.frame.roundOf = none)

structure Gone (T : Two) (g : Goroutine) : Prop where
  running : g.status = .running
  dying : g.dying = none
  frame : okFrame T g.frame
  callers : ∀ c ∈ g.callers, okCaller T c
  mode : ∃ v, Lost T v ∧ g.frame.mode = .panicking [{ v, recovered := false }]

def StepLike (T : Two) (H : Nat → Prop) (w W : World) : GStep → GStep → Prop
  | .go g' w' _, S => (∃ W' es', S = .go g' W' es' ∧ Like T H w W w' W' es' ∧ okGS T g') ∨ (Gone T g' ∧ okWorld T w')
  | .ended .., _ => True
  | _, _ => False

section
variable {T : Two}

theorem ok_finish {fr : Frame} (h : okFrame T fr) (v : Value) : okFrame T (fr.finish v) := by
  unfold Frame.finish
  split
  · rename_i ops i rest k e
    refine ⟨fun it hit => ?_, h.defers, h.kind, h.noinit, h.kept⟩
    rcases List.mem_cons.1 hit with rfl | hk
    · have := h.todo (.inRegion ops (i :: rest)) (by rw [e]; simp)
      simpa [okItem] using this
    · exact h.todo it (by rw [e]; simp [hk])
  · rename_i l k e
    refine ⟨fun it hit => ?_, h.defers, h.kind, h.noinit, h.kept⟩
    rcases List.mem_cons.1 hit with rfl | hk
    · rfl
    · exact h.todo it (by rw [e]; simp [hk])
  · rename_i k e
    exact ⟨fun it hit => h.todo it (by rw [e]; simp [hit]), h.defers, h.kind, h.noinit, h.kept⟩
  · rename_i d wr r s k e
    have := h.todo (.call d wr r s) (by rw [e]; simp)
    simp [okItem] at this
  · rename_i r a k e
    have := h.todo (.extern r a) (by rw [e]; simp)
    simp [okItem] at this
  · exact h

theorem finish_mode (fr : Frame) (v : Value) : (fr.finish v).mode = fr.mode := by
  unfold Frame.finish
  split <;> rfl

theorem ok_todo {fr : Frame} (h : okFrame T fr) {todo : List Item} (ht : ∀ it ∈ todo, okItem T.P it = true) : okFrame T { fr with todo } := ⟨ht, h.defers, h.kind, h.noinit, h.kept⟩

theorem seen_sub (P : Program) (fn : FuncId) (es : Array Event) : ∀ e ∈ seen P fn es, e ∈ es := by
  unfold seen
  dsimp only
  rw [← Array.foldl_toList]
  have key : ∀ (l : List Event) (x : Bool × Array Event) (S : Event → Prop), (∀ e ∈ x.2, S e) → (∀ e ∈ l, S e) →
      ∀ e ∈ (l.foldl (fun (x : Bool × Array Event) e => match e.loc with
        | .mark (.extern f) => ((P.funcs[f]?).any (·.norace), x.2)
        | _ => (x.1, if x.1 && !e.sync then x.2 else x.2.push e)) x).2, S e := by
    intro l
    induction l with
    | nil => intro x S h _; exact h
    | cons a l ih =>
      intro x S h h'
      rw [List.foldl_cons]
      refine ih _ S ?_ (fun e he => h' e (by simp [he]))
      intro e he
      split at he
      · exact h e he
      · dsimp only at he
        split at he
        · exact h e he
        · rcases Array.mem_push.1 he with x | rfl
          · exact h e x
          · exact h' _ (by simp)
  intro e he
  exact key es.toList _ (fun e => e ∈ es) (by simp) (by simp) e he

theorem enter_same (K : Kit T) {f : FuncId} {fn : Func} (h1 : T.pr.funcs[f]? = some fn) (h2 : T.P.funcs[f]? = some fn) (args : Array Value) (k : CallKind) : Frame.enter T.pr f args k = Frame.enter T.P f args k := by
  simp [Frame.enter, h1, h2]

theorem ok_enter (K : Kit T) {f : FuncId} {fn : Func} (h1 : T.pr.funcs[f]? = some fn) (h2 : T.P.funcs[f]? = some fn) (hb : fn.body.isSome = true) (args : Array Value) : okFrame T (Frame.enter T.P f args .normal) := by
  obtain ⟨c, hc⟩ := Option.isSome_iff_exists.1 hb
  refine ⟨fun it hit => ?_, by simp [Frame.enter], rfl, K.noinit f fn h1 hb, fun _ => ⟨fn, h1, h2⟩⟩
  simp only [Frame.enter, h2, Option.bind_some, hc, Option.getD_some, List.mem_singleton] at hit
  subst hit
  exact K.code f fn c h1 hc

theorem ok_round (K : Kit T) {l : Nat} {f : FuncId} {tm : Array Value} {a b : Code} (h : T.okC f a b) : okFrame T (Frame.round l f tm a b .normal) := by
  obtain ⟨ha, hb, hi⟩ := (K.held f a b).1 h
  refine ⟨fun it hit => ?_, by simp [Frame.round], rfl, hi, fun e => by cases e⟩
  simp only [Frame.round, List.mem_cons, List.not_mem_nil, or_false] at hit
  rcases hit with rfl | rfl | rfl
  · exact ha
  · rfl
  · exact hb

theorem ok_raise {fr : Frame} (h : okFrame T fr) (c : List PanicEntry) : okFrame T (fr.raise c) := by
  unfold Frame.raise
  split <;> exact ⟨h.todo, h.defers, h.kind, h.noinit, h.kept⟩

theorem raise_run {fr : Frame} (h : fr.mode = .run) (c : List PanicEntry) : (fr.raise c).mode = .panicking c := by
  unfold Frame.raise
  rw [h]

theorem not_call {fr : Frame} (h : okFrame T fr) : ∀ d wr r s k, fr.todo ≠ .call d wr r s :: k := by
  intro d wr r s k e
  have := h.todo (.call d wr r s) (by rw [e]; simp)
  simp [okItem] at this

theorem early_ended (K : Kit T) (fr : Frame) (cs : List Frame) (d : Option Dying) (g : Nat) (w : World) : ∃ o w', early T.pr fr cs d g w = .ended o w' := by
  unfold early
  simp only [K.ahead, K.idle]
  exact ⟨_, _, rfl⟩

theorem apply_step (K : Kit T) {H : Nat → Prop} {w W : World} {fr : Frame} {cs : List Frame} {s : Sem Next} (hs : SimP T (okNext T) s s) (hfr : okFrame T fr) (hm : fr.mode = .run) (hcs : ∀ c ∈ cs, okCaller T c)
    (hr : Rel T H w W) (hA : Agr w W (s.run T.P W).world.drawn) : StepLike T H w W (stepG.apply T.pr true fr cs none s w) (stepG.apply T.P true fr cs none s W) := by
  have h := hs H w W hr hA
  have he : (fr.kind == CallKind.early) = false := by rw [hfr.kind]; rfl
  unfold stepG.apply
  simp only [if_true, Sem.runT_eq, he, Bool.false_eq_true, if_false]
  cases hx : s.run T.pr w with
  | ok n w' =>
    rw [hx] at h
    obtain ⟨W', hW, hL, hn⟩ := h
    rw [hW]
    have hev : ∀ (es : Array Event), (∀ e ∈ es, e ∈ s.events T.P W #[]) → Like T H w W w' W' es := fun es hes => ⟨hL.rel, hL.tape, hL.tape', hL.drawn, hL.more, hL.grew, fun e he => hL.fine e (hes e he)⟩
    cases n <;> first | exact hn.elim | skip
    · rename_i v
      refine .inl ⟨W', _, rfl, hev _ ?_, ⟨rfl, rfl, ok_finish hfr v, hcs, .inl ((finish_mode fr v).trans hm)⟩⟩
      simpa using seen_sub T.P fr.fn (s.events T.P W #[])
    · refine .inl ⟨W', _, rfl, hev _ ?_, ⟨rfl, rfl, ok_finish hfr undef, hcs, .inl ((finish_mode fr undef).trans hm)⟩⟩
      simpa using seen_sub T.P fr.fn (s.events T.P W #[])
    · rename_i f args
      obtain ⟨fn, h1, h2, hb⟩ := hn
      have key : ∀ kd kd' : CallKind, kd = .normal → kd' = .normal → ∀ E E' : Array Event, (∀ e ∈ E', e ∈ s.events T.P W #[]) →
          StepLike T H w W (GStep.after E (.go { frame := Frame.enter T.pr f args kd, callers := fr :: cs, status := .running, dying := none } w')) (GStep.after E' (.go { frame := Frame.enter T.P f args kd', callers := fr :: cs, status := .running, dying := none } W')) := by
        rintro kd kd' rfl rfl E E' hE
        rw [enter_same K h1 h2]
        refine .inl ⟨W', _, rfl, hev _ (by simpa using hE), ⟨rfl, rfl, ok_enter K h1 h2 hb args, fun c hc => ?_, .inl rfl⟩⟩
        rcases List.mem_cons.1 hc with rfl | hc
        · exact ⟨hfr, hm⟩
        · exact hcs c hc
      refine key _ _ ?_ ?_ _ _ (seen_sub T.P fr.fn _)
      · split
        · rename_i e; exact absurd e (not_call hfr _ _ _ _ _)
        · rfl
      · split
        · rename_i e; exact absurd e (not_call hfr _ _ _ _ _)
        · rfl
    · rename_i l f tm a b
      refine .inl ⟨W', _, rfl, hev _ ?_, ⟨rfl, rfl, ok_round K hn, fun c hc => ?_, .inl rfl⟩⟩
      · simpa using seen_sub T.P fr.fn (s.events T.P W #[])
      · rcases List.mem_cons.1 hc with rfl | hc
        · exact ⟨hfr, hm⟩
        · exact hcs c hc
  | halt x w' =>
    rw [hx] at h
    cases x with
    | panic v => exact .inr ⟨⟨rfl, rfl, ok_raise hfr _, hcs, v, h.1, raise_run hm _⟩, h.2⟩
    | unsupported u =>
      cases u with
      | initOrder g =>
        obtain ⟨o, w2, e⟩ := early_ended K fr cs none g w'
        dsimp only
        rw [e]
        trivial
      | _ => trivial
    | stuck s => trivial
    | _ => exact h.1.elim

theorem early_drawn (P : Program) (fr : Frame) (cs : List Frame) (d : Option Dying) (g : Nat) (w : World) : w.drawn ≤ (early P fr cs d g w).world.drawn := by
  have nt : ∀ w' : World, w.drawn ≤ w'.drawn → w.drawn ≤ (match w'.heap[g]? with
      | some (.pending c elem) => (GStep.go { frame := fr, callers := cs, status := .running, dying := d } { w' with heap := w'.heap.setIfInBounds g (.cells c elem) })
      | _ => .ended (.stuck "early: the variable does not wait" (fr.pos P)) w').world.drawn := by
    intro w' h
    split <;> exact h
  unfold early
  dsimp only
  split
  · exact nt w (Nat.le_refl _)
  · split
    · exact Nat.le_refl _
    · split
      · exact nt w (Nat.le_refl _)
      · split
        · exact nt w (Nat.le_refl _)
        · split
          · exact Nat.le_refl _
          · exact Nat.le_refl _
          · exact Nat.le_refl _
          · exact nt w (Nat.le_refl _)
          · split
            · exact Nat.le_refl _
            · split
              · exact nt w (Nat.le_refl _)
              · have hd := run_drawn P (choose (.early g)) w
                split
                · rename_i w' e; rw [e] at hd; exact nt w' hd
                · rename_i n w' _ e; rw [e] at hd; exact hd
                · rename_i x w' e; rw [e] at hd; exact hd
theorem endFatal_drawn (P : Program) (fr : Frame) (cs : List Frame) (d : Option Dying) (m : String) (w : World) : w.drawn ≤ (endFatal P fr cs d m w).world.drawn := by
  have key : ∀ s : Sem (List (ByteArray × String) × List ByteArray), w.drawn ≤ (match s.run P w with
      | .ok (texts, tabs) w => dieOf fr (panicPieces texts ++ tabs) m true w
      | .halt (.unsupported u) w => .ended (.unsupported u "") w
      | .halt _ w => .ended (.stuck "the report of a panic" "") w : GStep).world.drawn := by
    intro s
    have hd := run_drawn P s w
    cases h : s.run P w with
    | ok a w' => rw [h] at hd; exact hd
    | halt x w' => rw [h] at hd; cases x <;> exact hd
  exact key _

theorem apply_drawn (P : Program) (fr : Frame) (cs : List Frame) (s : Sem Next) (W : World) : (s.run P W).world.drawn ≤ (stepG.apply P true fr cs none s W).world.drawn := by
  unfold stepG.apply
  simp only [if_true, Sem.runT_eq, world_after]
  cases s.run P W with
  | ok n w' =>
    cases n <;> first | exact Nat.le_refl _ | skip
    all_goals (dsimp only; (repeat' split) <;> first | exact Nat.le_refl _ | skip)
  | halt x w' =>
    cases x <;> first | exact Nat.le_refl _ | exact endFatal_drawn _ _ _ _ _ _ | skip
    rename_i u
    cases u <;> first | exact Nat.le_refl _ | exact early_drawn _ _ _ _ _ _

theorem exitTo_sub (id : Nat) : ∀ (k k' : List Item), exitTo id k = some k' → ∀ it ∈ k', it ∈ k
  | [], k', h => by simp [exitTo] at h
  | x :: k, k', h => by
    intro it hit
    have ih := exitTo_sub id k k'
    cases x <;> simp only [exitTo] at h <;> first
      | exact List.mem_cons_of_mem _ (ih h it hit)
      | (split at h
         · cases h; exact List.mem_cons_of_mem _ hit
         · exact List.mem_cons_of_mem _ (ih h it hit))

theorem go_step {H : Nat → Prop} {w W : World} (hr : Rel T H w W) {g' : Goroutine} (hg : okGS T g') : StepLike T H w W (.go g' w) (.go g' W) := .inl ⟨W, #[], rfl, Like.refl hr, hg⟩

theorem return_step (K : Kit T) {H : Nat → Prop} {w W w' W' : World} {es E E' : Array Event} {fr : Frame} {cs : List Frame} {v : Value} (hL : Like T H w W w' W' es) (hE : ∀ e ∈ E', e ∈ es) (hfr : okFrame T fr) (hcs : ∀ c ∈ cs, okCaller T c) :
    StepLike T H w W (GStep.after E (doReturn T.pr true fr cs none v w')) (GStep.after E' (doReturn T.P true fr cs none v W')) := by
  unfold doReturn
  cases cs with
  | cons c rest =>
    simp only [hfr.kind]
    have hc := hcs c (by simp)
    exact .inl ⟨W', _, rfl, ⟨hL.rel, hL.tape, hL.tape', hL.drawn, hL.more, hL.grew, fun e he => hL.fine e (hE e (by simpa using he))⟩, ⟨rfl, rfl, ok_finish hc.frame v, fun d hd => hcs d (by simp [hd]), .inl ((finish_mode c v).trans hc.mode)⟩⟩
  | nil =>
    have hi : T.pr.inits.idxOf? fr.fn = none := by
      have := hfr.noinit
      obtain ⟨P, n, fs, ok, X0, hn, rfl⟩ := K.form
      exact this
    simp only [hfr.kind, hi]
    trivial

theorem sim_results (K : Kin T) (fn : Func) (tmps : Array Value) : Sim T (results fn tmps) (results fn tmps) := by
  unfold results
  refine Sim.bind (sim_mapM K _ (fun r => ?_) _) fun vs => ?_
  · cases r with
    | tmp t => exact sim_pure _
    | cell a t => exact Sim.bind (sim_asAddr K _) fun _ => sim_loadVar K _ _
  · exact sim_pure _

theorem run_step {α : Type} {φ : α → Prop} {s : Sem α} {H : Nat → Prop} {w W : World} (hs : SimP T φ s s) (hr : Rel T H w W) (hA : Agr w W (s.run T.P W).world.drawn) :
    (∃ a w' W', s.run T.pr w = .ok a w' ∧ s.run T.P W = .ok a W' ∧ Like T H w W w' W' (s.events T.P W #[]) ∧ φ a) ∨ (∃ x w', s.run T.pr w = .halt x w' ∧ okHalt T x ∧ okWorld T w') := by
  have h := hs H w W hr hA
  cases hx : s.run T.pr w with
  | ok a w' => rw [hx] at h; obtain ⟨W', e, L, p⟩ := h; exact .inl ⟨a, w', W', rfl, e, L, p⟩
  | halt x w' => rw [hx] at h; exact .inr ⟨x, w', rfl, h⟩

theorem doReturn_world (P : Program) (fr : Frame) (cs : List Frame) (v : Value) (w : World) (hk : fr.kind = .normal) : (doReturn P true fr cs none v w).world = w := by
  unfold doReturn
  cases cs with
  | cons c rest => simp only [hk]; rfl
  | nil =>
    simp only [hk]
    split
    · rename_i h; exact absurd h (by simp)
    · split <;> rfl

def atEnd : Option Code → Bool
  | none | some .ret => true
  | _ => false

def leaveOf (P : Program) (fr : Frame) (cs : List Frame) (w : World) (jump : Option Code) : GStep :=
  match fr.roundOf with
  | none => if atEnd jump = true then .go { frame := { fr with mode := .returning }, callers := cs, status := .running, dying := none } w else .ended (.stuck "exit, goto: no such block or label" (fr.pos P)) w
  | some l => GStep.after (seen P fr.fn ((Instr.endRound l jump).events P w #[])) (match (Instr.endRound l jump).run P w with
    | .ok v w => doReturn P true fr cs none v w
    | .halt _ w => .ended (.stuck "range over a function: no such loop" (fr.pos P)) w)

theorem leave_step (K : Kit T) {H : Nat → Prop} {w W : World} {fr : Frame} {cs : List Frame} (hfr : okFrame T fr) (hm : fr.mode = .run) (hcs : ∀ c ∈ cs, okCaller T c) (hr : Rel T H w W) (j : Option Code) (hj : ∀ c, j = some c → isJump c = true)
    (hA : Agr w W (leaveOf T.P fr cs W j).world.drawn) : StepLike T H w W (leaveOf T.pr fr cs w j) (leaveOf T.P fr cs W j) := by
  unfold leaveOf at hA ⊢
  cases hro : fr.roundOf with
  | none =>
    dsimp only
    by_cases hb : atEnd j = true
    · rw [if_pos hb, if_pos hb]
      exact go_step hr ⟨rfl, rfl, ⟨hfr.todo, hfr.defers, hfr.kind, hfr.noinit, fun _ => hfr.kept hro⟩, hcs, .inr ⟨rfl, rfl⟩⟩
    · rw [if_neg hb]
      trivial
  | some l =>
    rw [hro] at hA
    dsimp only at hA ⊢
    rw [world_after] at hA
    have hA' : Agr w W ((Instr.endRound l j).run T.P W).world.drawn := by
      cases hx : (Instr.endRound l j).run T.P W with
      | ok v W' => rw [hx] at hA; rw [doReturn_world _ _ _ _ _ hfr.kind] at hA; exact hA
      | halt x W' => rw [hx] at hA; exact hA
    rcases run_step (sim_endRound l j hj) hr hA' with ⟨v, w', W', e1, e2, hL, _⟩ | ⟨x, w', e1, hx⟩
    · rw [e1, e2]
      exact return_step K hL (seen_sub T.P fr.fn _) hfr hcs
    · rw [e1]; trivial

theorem loopCall_step (K : Kit T) {H : Nat → Prop} {w W w' W' : World} {es : Array Event} {s s' : GStep} {E E' : Array Event} (hL : Like T H w W w' W' es) (hE : ∀ e ∈ E', e ∈ es) (h : StepLike T H w' W' s s') : StepLike T H w W (GStep.after E s) (GStep.after E' s') := by
  cases s <;> first | exact h | skip
  rename_i g w2 es2
  rcases h with ⟨W2, es', rfl, hL2, hg⟩ | hg
  · refine .inl ⟨W2, _, rfl, ⟨hL2.rel, hL2.tape.trans hL.tape, hL2.tape'.trans hL.tape', ?_, Nat.le_trans hL.more hL2.more, Nat.le_trans hL.grew hL2.grew, fun e he => ?_⟩, hg⟩
    · have h1 := hL.drawn; have h2 := hL2.drawn; omega
    · rcases Array.mem_append.1 he with he | he
      · exact (hL.fine e (hE e he)).mono hL2.grew
      · exact hL2.fine e he
  · exact .inr hg

theorem agr_like {H : Nat → Prop} {w W w' W' : World} {es : Array Event} {n : Nat} (hL : Like T H w W w' W' es) (hA : Agr w W n) : Agr w' W' n := by
  intro i q hi
  have hd := hL.drawn
  have hm := hL.more
  have := hA (W'.drawn - W.drawn + i) q (by omega)
  rw [hL.tape, hL.tape', show w'.drawn + i = w.drawn + (W'.drawn - W.drawn + i) by omega, show W'.drawn + i = W.drawn + (W'.drawn - W.drawn + i) by omega]
  exact this
theorem Agr.less {w W : World} {m n : Nat} (hA : Agr w W n) (h : m ≤ n) : Agr w W m := fun i q hi => hA i q (Nat.lt_of_lt_of_le hi h)

theorem sim_valueCall (K : Kit T) (fr : Frame) (c : Call) (f : Operand) (hc : c.callee = .value f) (t : TypeId) : SimP T (okNext T) (resolve fr.eval c t >>= fun d => invoke d.target d.args) (resolve fr.eval c t >>= fun d => invoke d.target d.args) := by
  refine SimP.bind (sim_resolve K.toKin fr.eval c t) fun d hd => sim_invoke K.toKin d.target d.args (fun b ts u cs e => ?_) hd.2
  have := hd.1 b ts u cs e
  rw [hc] at this
  cases this

theorem ok_cons {P : Program} {a : Item} {k : List Item} (ha : okItem P a = true) (hk : ∀ x ∈ k, okItem P x = true) : ∀ x ∈ a :: k, okItem P x = true := by
  intro x hx
  rcases List.mem_cons.1 hx with rfl | hx
  · exact ha
  · exact hk x hx

theorem exec_step (K : Kit T) {H : Nat → Prop} {w W : World} {fr : Frame} {cs : List Frame} (hfr : okFrame T fr) (hm : fr.mode = .run) (hcs : ∀ c ∈ cs, okCaller T c) (hr : Rel T H w W)
    (hA : Agr w W (stepG.exec T.P true true fr cs none W).world.drawn) : StepLike T H w W (stepG.exec T.pr true true fr cs none w) (stepG.exec T.P true true fr cs none W) := by
  obtain ⟨fn, tmps, todo, defers, mode, kind, roundOf⟩ := fr
  have hm' : mode = .run := hm
  subst hm'
  cases todo with
  | nil =>
    have e : ∀ (p : Program) (w : World), stepG.exec p true true ⟨fn, tmps, [], defers, .run, kind, roundOf⟩ cs none w = leaveOf p ⟨fn, tmps, [], defers, .run, kind, roundOf⟩ cs w none := by
      intro p w
      cases roundOf with
      | none => rfl
      | some l => simp only [stepG.exec, leaveOf, Sem.runT_eq]; rfl
    rw [e] at hA
    rw [e, e]
    exact leave_step K hfr rfl hcs hr none (by simp) hA
  | cons it k =>
    have hk : ∀ x ∈ k, okItem T.P x = true := fun x hx => hfr.todo x (by simp [hx])
    have h0 : okItem T.P it = true := hfr.todo it (by simp)
    have lv : ∀ (j : Option Code) (hj : ∀ c, j = some c → isJump c = true), Agr w W (leaveOf T.P ⟨fn, tmps, it :: k, defers, .run, kind, roundOf⟩ cs W j).world.drawn →
        StepLike T H w W (leaveOf T.pr ⟨fn, tmps, it :: k, defers, .run, kind, roundOf⟩ cs w j) (leaveOf T.P ⟨fn, tmps, it :: k, defers, .run, kind, roundOf⟩ cs W j) := fun j hj hA => leave_step K hfr rfl hcs hr j hj hA
    have to : ∀ (l : List Item), (∀ x ∈ l, okItem T.P x = true) → okGS T ⟨⟨fn, tmps, l, defers, .run, kind, roundOf⟩, cs, .running, none, none⟩ := fun l hl => ⟨rfl, rfl, ok_todo hfr hl, hcs, .inl rfl⟩
    have app : ∀ s : Sem Next, SimP T (okNext T) s s → Agr w W (stepG.apply T.P true ⟨fn, tmps, it :: k, defers, .run, kind, roundOf⟩ cs none s W).world.drawn →
        StepLike T H w W (stepG.apply T.pr true ⟨fn, tmps, it :: k, defers, .run, kind, roundOf⟩ cs none s w) (stepG.apply T.P true ⟨fn, tmps, it :: k, defers, .run, kind, roundOf⟩ cs none s W) := fun s hs hA =>
      apply_step K hs hfr rfl hcs hr (hA.less (apply_drawn _ _ _ _ _))
    cases it with
    | inBlock id => exact go_step hr (to k hk)
    | inScope body => exact go_step hr (to k hk)
    | inLoop body => exact go_step hr (to _ (ok_cons h0 (ok_cons h0 hk)))
    | call d wr r s => cases h0
    | extern r a => cases h0
    | inRangeFunc l => trivial
    | beginRound =>
      refine app (do roundOf.elim (stuck "beginRound: no round") Instr.beginRound; pure Next.skip) ?_ hA
      refine SimP.bind (φ := fun _ => True) ?_ fun _ _ => simP_pure trivial
      cases roundOf with
      | none => exact sim_stuck _ _
      | some l => exact sim_beginRound K.toKin l
    | endRangeFunc l =>
      have e : ∀ (p : Program) (w : World), stepG.exec p true true ⟨fn, tmps, .endRangeFunc l :: k, defers, .run, kind, roundOf⟩ cs none w = GStep.after (seen p fn ((Instr.endLoop l).events p w #[])) (match (Instr.endLoop l).run p w with
          | .ok jump w => .go { frame := ⟨fn, tmps, (jump.map Item.code).toList ++ k, defers, .run, kind, roundOf⟩, callers := cs, status := .running, dying := none } w
          | .halt (.panic v) w => .go { frame := (⟨fn, tmps, .endRangeFunc l :: k, defers, .run, kind, roundOf⟩ : Frame).raise [{ v, recovered := false }], callers := cs, status := .running, dying := none } w
          | .halt _ w => .ended (.stuck "range over a function: no such loop" (Frame.pos p ⟨fn, tmps, .endRangeFunc l :: k, defers, .run, kind, roundOf⟩)) w) := by
        intro p w
        simp only [stepG.exec, Sem.runT_eq]
        rfl
      rw [e] at hA
      rw [e, e]
      have hA' : Agr w W ((Instr.endLoop l).run T.P W).world.drawn := by
        rw [world_after] at hA
        refine hA.less ?_
        cases hx : (Instr.endLoop l).run T.P W with
        | ok v W' => exact Nat.le_refl _
        | halt x W' => cases x <;> exact Nat.le_refl _
      rcases run_step (sim_endLoop K.toKin l) hr hA' with ⟨j, w', W', e1, e2, hL, hj⟩ | ⟨x, w', e1, hx⟩
      · rw [e1, e2]
        refine loopCall_step K hL (seen_sub T.P fn _) (go_step hL.rel (to _ ?_))
        intro x hx
        rcases List.mem_append.1 hx with hx | hx
        · cases j with
          | none => simp at hx
          | some c =>
            simp at hx
            subst hx
            have := hj c rfl
            cases c <;> first | rfl | (simp [isJump] at this)
        · exact hk x hx
      · rw [e1]
        cases x with
        | panic v => exact .inr ⟨⟨rfl, rfl, ok_raise hfr _, hcs, v, hx.1, raise_run rfl _⟩, hx.2⟩
        | _ => trivial
    | inRegion ops l =>
      cases l with
      | nil => exact go_step hr (to k hk)
      | cons i rest =>
        have hops : ∀ o, ops[i]? = some o → okOp T.P o.op = true := by
          intro o ho
          have := h0
          simp only [okItem, Array.all_eq_true] at this
          obtain ⟨hi, rfl⟩ := Array.getElem?_eq_some_iff.1 ho
          exact this i hi
        by_cases hw : ((ops[i]?).map (Region.wanted · (yielded ops tmps))).getD false = true
        · have e : ∀ (p : Program) (w : World), stepG.exec p true true ⟨fn, tmps, .inRegion ops (i :: rest) :: k, defers, .run, kind, roundOf⟩ cs none w = stepG.oper p true ⟨fn, tmps, .inRegion ops (i :: rest) :: k, defers, .run, kind, roundOf⟩ cs none w := by
            intro p w
            simp only [stepG.exec, hw, if_true]
          rw [e] at hA
          rw [e, e]
          cases ho : ops[i]? with
          | none => rw [ho] at hw; simp at hw
          | some o =>
            have hop := hops o ho
            have e2 : ∀ (p : Program) (w : World), stepG.oper p true ⟨fn, tmps, .inRegion ops (i :: rest) :: k, defers, .run, kind, roundOf⟩ cs none w = stepG.apply p true ⟨fn, tmps, .inRegion ops (i :: rest) :: k, defers, .run, kind, roundOf⟩ cs none (execOp (Frame.eval ⟨fn, tmps, .inRegion ops (i :: rest) :: k, defers, .run, kind, roundOf⟩) o) w := by
              intro p w
              simp only [stepG.oper, Frame.oper?, ho]
              split
              · rename_i l c e1 e2; rw [e2] at hop; simp [okOp] at hop
              · rfl
            rw [e2] at hA
            rw [e2, e2]
            exact app _ (sim_execOp K.toKin _ o hop) hA
        · have hw' : ((ops[i]?).map (Region.wanted · (yielded ops tmps))).getD false = false := by simpa using hw
          have e : ∀ (p : Program) (w : World), stepG.exec p true true ⟨fn, tmps, .inRegion ops (i :: rest) :: k, defers, .run, kind, roundOf⟩ cs none w = .go { frame := (⟨fn, tmps, .inRegion ops (i :: rest) :: k, defers, .run, kind, roundOf⟩ : Frame).finish undef, callers := cs, status := .running, dying := none } w := by
            intro p w
            simp only [stepG.exec, hw', Bool.false_eq_true, if_false]
          rw [e, e]
          exact go_step hr ⟨rfl, rfl, ok_finish hfr undef, hcs, .inl (finish_mode _ _)⟩
    | code c =>
      cases c with
      | ret =>
        have e : ∀ (p : Program) (w : World), stepG.exec p true true ⟨fn, tmps, .code .ret :: k, defers, .run, kind, roundOf⟩ cs none w = leaveOf p ⟨fn, tmps, .code .ret :: k, defers, .run, kind, roundOf⟩ cs w (some .ret) := by
          intro p w
          cases roundOf with
          | none => rfl
          | some l => simp only [stepG.exec, leaveOf, Sem.runT_eq]; rfl
        rw [e] at hA
        rw [e, e]
        exact lv _ (by simp [isJump]) hA
      | skip => exact go_step hr (to k hk)
      | label l => exact go_step hr (to k hk)
      | seq a b =>
        have h1 : okCode T.P a = true ∧ okCode T.P b = true := by simpa [okItem, okCode] using h0
        exact go_step hr (to _ (ok_cons h1.1 (ok_cons h1.2 hk)))
      | cond c a b =>
        have h1 : okCode T.P a = true ∧ okCode T.P b = true := by simpa [okItem, okCode] using h0
        cases hv : Frame.eval ⟨fn, tmps, .code (.cond c a b) :: k, defers, .run, kind, roundOf⟩ c with
        | bool t =>
          have e : ∀ (p : Program) (w : World), stepG.exec p true true ⟨fn, tmps, .code (.cond c a b) :: k, defers, .run, kind, roundOf⟩ cs none w = .go { frame := ⟨fn, tmps, .code (if t then a else b) :: k, defers, .run, kind, roundOf⟩, callers := cs, status := .running, dying := none } w := by
            intro p w
            simp only [stepG.exec, hv]
          rw [e, e]
          exact go_step hr (to _ (ok_cons (by cases t; exact h1.2; exact h1.1) hk))
        | _ =>
          have e : ∀ (p : Program) (w : World), stepG.exec p true true ⟨fn, tmps, .code (.cond c a b) :: k, defers, .run, kind, roundOf⟩ cs none w = .ended (.stuck "cond: bool expected" (Frame.pos p ⟨fn, tmps, .code (.cond c a b) :: k, defers, .run, kind, roundOf⟩)) w := by
            intro p w
            simp only [stepG.exec, hv]
          rw [e]
          trivial
      | block id c =>
        have h1 : okCode T.P c = true := by simpa [okItem, okCode] using h0
        exact go_step hr (to _ (ok_cons h1 (ok_cons rfl hk)))
      | loop c =>
        have h1 : okCode T.P c = true := by simpa [okItem, okCode] using h0
        exact go_step hr (to _ (ok_cons h1 (ok_cons h1 hk)))
      | scope c =>
        have h1 : okCode T.P c = true := by simpa [okItem, okCode] using h0
        exact go_step hr (to _ (ok_cons h1 (ok_cons h1 hk)))
      | goto l => cases h0
      | refuse why => cases h0
      | exit id =>
        cases hx : exitTo id k with
        | some k' =>
          have e : ∀ (p : Program) (w : World), stepG.exec p true true ⟨fn, tmps, .code (.exit id) :: k, defers, .run, kind, roundOf⟩ cs none w = .go { frame := ⟨fn, tmps, k', defers, .run, kind, roundOf⟩, callers := cs, status := .running, dying := none } w := by
            intro p w
            simp only [stepG.exec, hx, Option.elim]
          rw [e, e]
          exact go_step hr (to _ fun x hx' => hk x (exitTo_sub id k k' hx x hx'))
        | none =>
          have e : ∀ (p : Program) (w : World), stepG.exec p true true ⟨fn, tmps, .code (.exit id) :: k, defers, .run, kind, roundOf⟩ cs none w = leaveOf p ⟨fn, tmps, .code (.exit id) :: k, defers, .run, kind, roundOf⟩ cs w (some (.exit id)) := by
            intro p w
            cases roundOf with
            | none => simp only [stepG.exec, hx, Option.elim, leaveOf]; rfl
            | some l => simp only [stepG.exec, hx, Option.elim, leaveOf, Sem.runT_eq]; rfl
          rw [e] at hA
          rw [e, e]
          exact lv _ (by simp [isJump]) hA
      | region id ops draw =>
        have h1 : ∀ l : List Nat, okItem T.P (.inRegion ops l) = true := fun l => h0
        cases draw with
        | false => exact go_step hr (to _ (ok_cons (h1 _) hk))
        | true =>
          have e : ∀ (p : Program) (w : World), stepG.exec p true true ⟨fn, tmps, .code (.region id ops true) :: k, defers, .run, kind, roundOf⟩ cs none w = .go { frame := ⟨fn, tmps, .inRegion ops (Region.schedule (p.follows .mixedOrders) ops (w.tape w.drawn (.order fn id))) :: k, defers, .run, kind, roundOf⟩, callers := cs, status := .running, dying := none } { w with drawn := w.drawn + 1 } := by
            intro p w
            simp [stepG.exec, choose, Sem.run, Question.forced, Question.cut]
          have hf : T.pr.follows .mixedOrders = T.P.follows .mixedOrders := by obtain ⟨P, n0, fs, ok, X0, hn0, rfl⟩ := K.form; rfl
          rw [e] at hA
          have ht := hA 0 (.order fn id) (by simp only [GStep.world]; omega)
          simp only [Nat.add_zero] at ht
          rw [e, e, hf, ht]
          refine .inl ⟨_, _, rfl, ⟨⟨hr.size, hr.os, hr.output, hr.out, hr.hid, hr.ok, hr.low, hr.grown⟩, rfl, rfl, by show w.drawn + 1 + W.drawn = W.drawn + 1 + w.drawn; omega, Nat.le_succ _, Nat.le_refl _, by simp⟩, to _ ?_⟩
          intro x hx
          rcases List.mem_cons.1 hx with rfl | hx
          · exact h1 _
          · exact hk x hx
      | rangeFunc f params assign body =>
        have h1 : okCode T.P assign = true ∧ okCode T.P body = true := by simpa [okItem, okCode] using h0
        have hok : T.okC fn assign body := (K.held fn assign body).2 ⟨h1.1, h1.2, hfr.noinit⟩
        have e : ∀ (p : Program) (w : World), stepG.exec p true true ⟨fn, tmps, .code (.rangeFunc f params assign body) :: k, defers, .run, kind, roundOf⟩ cs none w =
            GStep.after (seen p fn ((Instr.enterLoop fn tmps params assign body roundOf).events p w #[])) (match (Instr.enterLoop fn tmps params assign body roundOf).run p w with
              | .ok x w => stepG.apply p true ⟨fn, tmps, .inRangeFunc x.1 :: k, x.2 ++ defers, .run, kind, roundOf⟩ cs none
                  (resolve (Frame.eval ⟨fn, tmps, .inRangeFunc x.1 :: k, x.2 ++ defers, .run, kind, roundOf⟩) { callee := .value f, args := #[.const (.func (.yield x.1) #[] #[])], argTypes := #[] } 0 >>= fun d => invoke d.target d.args) w
              | .halt _ w => .ended (.stuck "range over a function: no such loop" (Frame.pos p ⟨fn, tmps, .code (.rangeFunc f params assign body) :: k, defers, .run, kind, roundOf⟩)) w) := by
          intro p w
          simp only [stepG.exec, Sem.runT_eq]
          cases (Instr.enterLoop fn tmps params assign body roundOf).run p w with
          | ok x w => obtain ⟨l, m⟩ := x; rfl
          | halt x w => rfl
        rw [e] at hA
        rw [e, e]
        rw [world_after] at hA
        have hA' : Agr w W ((Instr.enterLoop fn tmps params assign body roundOf).run T.P W).world.drawn := by
          refine hA.less ?_
          cases hx : (Instr.enterLoop fn tmps params assign body roundOf).run T.P W with
          | ok x W' => exact Nat.le_trans (run_drawn T.P _ W') (apply_drawn _ _ _ _ _)
          | halt x W' => exact Nat.le_refl _
        rcases run_step (sim_enterLoop fn tmps params assign body roundOf hok) hr hA' with ⟨x, w', W', e1, e2, hL, hmk⟩ | ⟨x, w', e1, hx⟩
        · rw [e2] at hA
          rw [e1, e2]
          have hfr' : okFrame T ⟨fn, tmps, .inRangeFunc x.1 :: k, x.2 ++ defers, .run, kind, roundOf⟩ :=
            ⟨ok_cons rfl hk, fun d hd => (List.mem_append.1 hd).elim (hmk d) (hfr.defers d), hfr.kind, hfr.noinit, hfr.kept⟩
          exact loopCall_step K hL (seen_sub T.P fn _) (apply_step K (sim_valueCall K _ _ f rfl 0) hfr' rfl hcs hL.rel (agr_like hL (hA.less (apply_drawn _ _ _ _ _))))
        · rw [e1]; trivial

theorem unwind_step (K : Kit T) {H : Nat → Prop} {w W : World} {fr : Frame} {cs : List Frame} (hfr : okFrame T fr) (hm : fr.mode = .returning) (hro : fr.roundOf = none) (hcs : ∀ c ∈ cs, okCaller T c) (hr : Rel T H w W)
    (hA : Agr w W (unwind T.P true fr cs none W).world.drawn) : StepLike T H w W (unwind T.pr true fr cs none w) (unwind T.P true fr cs none W) := by
  unfold unwind at hA ⊢
  cases hd : fr.defers with
  | cons d ds =>
    obtain ⟨b, rfl⟩ := hfr.defers d (by rw [hd]; simp)
    rw [hd] at hA
    simp only [Sem.runT_eq] at hA ⊢
    rw [world_after] at hA
    have hA' : Agr w W ((Instr.takeDeferred b).run T.P W).world.drawn := by
      refine hA.less ?_
      cases hx : (Instr.takeDeferred b).run T.P W with
      | ok v W' => exact Nat.le_refl _
      | halt x W' => exact Nat.le_refl _
    rcases run_step (sim_takeDeferred b) hr hA' with ⟨l, w', W', e1, e2, hL, hl⟩ | ⟨x, w', e1, hx⟩
    · rw [e1, e2]
      subst hl
      refine loopCall_step K hL (seen_sub T.P fr.fn _) (go_step hL.rel ⟨rfl, rfl, ⟨hfr.todo, fun d hd' => hfr.defers d (by rw [hd]; simp at hd' ⊢; exact .inr hd'), hfr.kind, hfr.noinit, hfr.kept⟩, hcs, .inr ⟨hm, hro⟩⟩)
    · rw [e1]; trivial
  | nil =>
    rw [hd] at hA
    obtain ⟨fn, h1, h2⟩ := hfr.kept hro
    simp only [hm, h2, Sem.runT_eq] at hA
    simp only [hm, h1, h2, Sem.runT_eq]
    rw [world_after] at hA
    have hA' : Agr w W ((results fn fr.tmps).run T.P W).world.drawn := by
      refine hA.less ?_
      cases hx : (results fn fr.tmps).run T.P W with
      | ok v W' => simp only [Result.world]; rw [doReturn_world _ _ _ _ _ hfr.kind]; exact Nat.le_refl _
      | halt x W' => cases x <;> exact Nat.le_refl _
    rcases run_step (sim_results K.toKin fn fr.tmps) hr hA' with ⟨v, w', W', e1, e2, hL, _⟩ | ⟨x, w', e1, hx⟩
    · rw [e1, e2]
      exact return_step K hL (seen_sub T.P fr.fn _) hfr hcs
    · rw [e1]
      cases x <;> trivial

theorem own_step (K : Kit T) {H : Nat → Prop} {w W : World} {g : Goroutine} (hg : okGS T g) (hr : Rel T H w W) (hA : Agr w W (stepG T.P true g W).world.drawn) : StepLike T H w W (stepG T.pr true g w) (stepG T.P true g W) := by
  obtain ⟨fr, cs, st, dy, off⟩ := g
  obtain ⟨h1, h2, hfr, hcs, hm⟩ := hg
  change st = .running at h1
  change dy = none at h2
  subst h1 h2
  change okFrame T fr at hfr
  rcases hm with hm | ⟨hm, hro⟩
  · have e : ∀ (p : Program) (w : World), stepG p true ⟨fr, cs, .running, none, off⟩ w = stepG.exec p true true fr cs none w := by
      intro p w
      change fr.mode = .run at hm
      simp only [stepG, hm]
    rw [e] at hA
    rw [e, e]
    exact exec_step K hfr hm hcs hr hA
  · have e : ∀ (p : Program) (w : World), stepG p true ⟨fr, cs, .running, none, off⟩ w = unwind p true fr cs none w := by
      intro p w
      change fr.mode = .returning at hm
      simp only [stepG, hm]
    rw [e] at hA
    rw [e, e]
    exact unwind_step K hfr hm hro hcs hr hA
end
end

section
open Go.Conc
open Go.ConcN (sumTo upd sumTo_upd upd_ne upd_same)

theorem move_solo {P : Program} {g : Goroutine} {w : World} (h : g.status = .running) : move P (solo g w) = .goroutine (solo g w) 0 := by
  simp [move, ask, askOn, solo, runnable_eq, due, ahead, Goroutine.canRun, List.range_succ, choose, pure, Sem.run, Question.forced, h]

theorem step_solo_go {P : Program} {g g' : Goroutine} {w w' : World} {es : Array Event} (h : g.status = .running) (hs : stepG P true g w = .go g' w' es) : step P (solo g w) = .next (solo g' w') := by
  rw [step, stepT, move_solo h]
  simp [runT, solo, Array.swapAt!, hs]
theorem step_solo_ended {P : Program} {g : Goroutine} {w w' : World} {o : Outcome} {es : Array Event} (h : g.status = .running) (hs : stepG P true g w = .ended o w' es) : step P (solo g w) = .ended o w' := by
  rw [step, stepT, move_solo h]
  simp [runT, solo, Array.swapAt!, hs]
section
variable {T : Two}

structure Dies (T : Two) (g : Goroutine) : Prop where
  running : g.status = .running
  dying : ∃ d v m rest, g.dying = some d ∧ d.calling = false ∧ d.fatal = none ∧ d.todo = (v, m) :: rest ∧ Lost T v

theorem dies_step {g : Goroutine} (h : Dies T g) (w : World) : ∃ o w', stepG T.pr true g w = .ended o w' := by
  obtain ⟨fr, cs, st, dy, off⟩ := g
  obtain ⟨h1, d, v, m, rest, h2, h3, h4, h5, t, x, rfl, hi⟩ := h
  obtain ⟨todo, texts, calling, pending, re, hand, fatal⟩ := d
  change dy = _ at h2
  subst h2
  change calling = false at h3
  change fatal = none at h4
  change todo = _ at h5
  subst h3 h4 h5
  simp only [stepG, die, panicText, hi]
  exact ⟨_, _, rfl⟩

theorem gone_step {g : Goroutine} {w : World} (hg : Gone T g) (hw : okWorld T w) : (∃ o w' es, stepG T.pr true g w = .ended o w' es) ∨ ∃ g' w' es, stepG T.pr true g w = .go g' w' es ∧ okWorld T w' ∧ (Gone T g' ∨ Dies T g') := by
  obtain ⟨fr, cs, st, dy, off⟩ := g
  obtain ⟨h1, h2, hfr, hcs, v, hv, hm⟩ := hg
  change st = .running at h1
  change dy = none at h2
  subst h1 h2
  change okFrame T fr at hfr
  change fr.mode = _ at hm
  have e : stepG T.pr true ⟨fr, cs, .running, none, off⟩ w = unwind T.pr true fr cs none w := by simp only [stepG, hm]
  rw [e]
  unfold unwind
  cases hd : fr.defers with
  | cons d ds =>
    obtain ⟨b, rfl⟩ := hfr.defers d (by rw [hd]; simp)
    simp only [Sem.runT_eq]
    have hrun : (∃ x, (Instr.takeDeferred b).run T.pr w = .halt x w) ∨ ∃ w', (Instr.takeDeferred b).run T.pr w = .ok [] w' ∧ okWorld T w' := by
      unfold Instr.takeDeferred
      have e1 : ∀ k : Obj → Sem (List Deferred), (getObj b >>= k).run T.pr w = ((getObj b).run T.pr w).andThen fun a w' => (k a).run T.pr w' := fun k => Sem.run_bind' ..
      rw [e1, getObj_run]
      cases hb : w.heap[b]? with
      | none => exact .inl ⟨_, rfl⟩
      | some o =>
        cases o <;> first | exact .inl ⟨_, rfl⟩ | skip
        rename_i c
        cases c with
        | none => exact .inl ⟨_, rfl⟩
        | some ds' =>
          have := (hw b _ hb).2.2 ds' rfl
          subst this
          refine .inr ⟨{ w with heap := w.heap.setIfInBounds b (.deferred none) }, ?_, ?_⟩
          · simp [Result.andThen, setObj, Sem.run, bind, Sem.bind, pure, hb]
          · intro b' o ho
            by_cases hbb : b = b'
            · subst hbb
              simp only [Array.getElem?_setIfInBounds_self_of_lt (Array.getElem?_eq_some_iff.1 hb).1] at ho
              cases ho
              exact ⟨by simp, by simp, by simp⟩
            · simp only [Array.getElem?_setIfInBounds_ne hbb] at ho
              exact hw b' o ho
    rcases hrun with ⟨x, e1⟩ | ⟨w', e1, hw'⟩
    · rw [e1]; exact .inl ⟨_, _, _, rfl⟩
    · rw [e1]
      exact .inr ⟨_, w', _, rfl, hw', .inl ⟨rfl, rfl, ⟨hfr.todo, fun d hd' => hfr.defers d (by rw [hd]; simp at hd' ⊢; exact .inr hd'), hfr.kind, hfr.noinit, hfr.kept⟩, hcs, v, hv, hm⟩⟩
  | nil =>
    simp only [hm]
    have hcatch : fr.catches T.pr = false := by
      unfold Frame.catches
      split
      · rename_i e2; exact absurd e2 (not_call hfr _ _ _ _ _)
      · rfl
    simp only [hcatch, Bool.false_eq_true, if_false]
    cases cs with
    | cons c rest =>
      have hc := hcs c (by simp)
      exact .inr ⟨_, w, _, rfl, hw, .inl ⟨rfl, rfl, ok_raise hc.frame _, fun d hd' => hcs d (by simp [hd']), v, hv, raise_run hc.mode _⟩⟩
    | nil =>
      have hrep : ∃ m, (reportChain [{ v, recovered := false }] false).run T.pr w = .ok [(v, m)] w := ⟨"", by simp [reportChain]⟩
      obtain ⟨m, hrep⟩ := hrep
      simp only [hrep]
      refine .inr ⟨_, w, _, rfl, hw, .inr ⟨rfl, _, v, m, [], rfl, rfl, rfl, rfl, hv⟩⟩

theorem gone_never {g : Goroutine} {w : World} (h : (Gone T g ∨ Dies T g)) (hw : okWorld T w) : ∀ (n : Nat) (g' : Goroutine) (w' : World), runN T.pr n (solo g w) = .next (solo g' w') → g'.dying = none → (g'.frame.mode = .run ∨ g'.frame.mode = .returning) → False := by
  intro n
  induction n generalizing g w with
  | zero =>
    intro g' w' e hd hm
    simp only [runN, Stepped.next.injEq] at e
    have eg : g = g' := by
      have := congrArg (fun m => m.gs[0]?) e
      simpa [solo] using this
    subst eg
    rcases h with h | h
    · obtain ⟨v, _, hv⟩ := h.mode
      rw [hv] at hm
      rcases hm with hm | hm <;> cases hm
    · obtain ⟨d, _, _, _, h1, _⟩ := h.dying
      rw [h1] at hd; cases hd
  | succ n ih =>
    intro g' w' e hd hm
    simp only [runN] at e
    have hrun : g.status = .running := h.elim (·.running) (·.running)
    rcases h with h | h
    · rcases gone_step h hw with ⟨o, w2, es2, es⟩ | ⟨g2, w2, es2, es, hw2, hg2⟩
      · rw [step_solo_ended hrun es] at e; cases e
      · rw [step_solo_go hrun es] at e
        exact ih hg2 hw2 g' w' e hd hm
    · obtain ⟨o, w2, es⟩ := dies_step h w
      rw [step_solo_ended hrun es] at e; cases e

def ShunH (H : Nat → Prop) : Loc → Prop := fun l => ∃ a, l = .cell a ∧ H a.block

theorem evL_of_fine {H : Nat → Prop} {B : Nat} {e : Event} (h : Fine H B e) : EvL (ShunH H) B e := by
  obtain ⟨loc, wr, sy⟩ := e
  obtain ⟨h1, h2, h3⟩ := h
  cases loc with
  | cell a =>
    have ha := h1 a rfl
    refine ⟨fun x hx hs => ?_, by simp, by simp, ?_⟩
    · obtain ⟨b, hb, hH⟩ := hs
      have : x.loc = .cell a := by cases wr <;> cases sy <;> simp [MemAct.ofEvent, MemAct.touch?] at hx <;> subst hx <;> rfl
      rw [this] at hb
      cases hb
      exact absurd hH ha.1
    · cases wr <;> cases sy <;> exact ha.2
  | obj r =>
    have hr := h2 r rfl
    refine ⟨fun x hx hs => ?_, by simp, by simp, ?_⟩
    · obtain ⟨b, hb, hH⟩ := hs
      have : x.loc = .obj r := by cases wr <;> cases sy <;> simp [MemAct.ofEvent, MemAct.touch?] at hx <;> subst hx <;> rfl
      rw [this] at hb; cases hb
    · cases wr <;> cases sy <;> exact hr
  | mark m =>
    have := h3 m rfl
    subst this
    exact ⟨fun x hx => by simp [MemAct.ofEvent, MemAct.touch?] at hx, by simp, by simp, trivial⟩
  | output =>
    refine ⟨fun x hx hs => ?_, by simp, by simp, trivial⟩
    obtain ⟨b, hb, hH⟩ := hs
    have : x.loc = .output := by cases wr <;> cases sy <;> simp [MemAct.ofEvent, MemAct.touch?] at hx <;> subst hx <;> rfl
    rw [this] at hb; cases hb
  | goroutines =>
    refine ⟨fun x hx hs => ?_, by simp, by simp, trivial⟩
    obtain ⟨b, hb, hH⟩ := hs
    have : x.loc = .goroutines := by cases wr <;> cases sy <;> simp [MemAct.ofEvent, MemAct.touch?] at hx <;> subst hx <;> rfl
    rw [this] at hb; cases hb

theorem runNT_go {P : Program} {m' m'' : Machine} {t' t'' : Trace} {M : Nat} : ∀ (N : Nat) {m : Machine} {t : Trace}, runNT P N m t = (.next m', t') → runNT P M m' t' = (.next m'', t'') → runNT P (N + M) m t = (.next m'', t'')
  | 0, m, t, h, k => by
    simp only [runNT, Prod.mk.injEq, Stepped.next.injEq] at h
    obtain ⟨rfl, rfl⟩ := h
    rw [Nat.zero_add]; exact k
  | N + 1, m, t, h, k => by
    rw [show N + 1 + M = (N + M) + 1 by omega]
    simp only [runNT] at h ⊢
    cases hs : stepT P m with
    | mk r ops =>
      rw [hs] at h
      cases r with
      | next m1 => exact runNT_go N h k
      | ended o w => simp at h

structure Cfg where
  gs : Array Goroutine
  g : Goroutine
  W : World
  sl : Option (Nat × Nat)
  t : Trace
  q : Nat → Nat

structure Cfg.ok (T : Two) (H : Nat → Prop) (c : Cfg) : Prop where
  at0 : c.gs[0]? = some c.g
  run : c.g.status = .running
  leave : Leavers T.P c.t c.gs c.q
  past : Past (ShunH H) c.W.heap.size c.t

def Cfg.to (T : Two) (c c' : Cfg) : Prop := ∃ N, runNT T.P N (crowd c.gs c.W c.sl) c.t = (.next (crowd c'.gs c'.W c'.sl), c'.t) ∧ c.gs.size ≤ c'.gs.size

theorem Cfg.to_refl (T : Two) (c : Cfg) : c.to T c := ⟨0, rfl, Nat.le_refl _⟩
theorem Cfg.to_trans {T : Two} {a b c : Cfg} (h : a.to T b) (k : b.to T c) : a.to T c := by
  obtain ⟨N, h1, h2⟩ := h
  obtain ⟨M, k1, k2⟩ := k
  exact ⟨N + M, runNT_go N h1 k1, Nat.le_trans h2 k2⟩

theorem turnStep {H : Nat → Prop} (M : Nat)
    (ih : ∀ m, m < M → ∀ c : Cfg, sumTo c.gs.size c.q ≤ m → c.ok T H → ∃ (c1 : Cfg) (d : Nat) (sl : Option (Nat × Nat)), c.to T c1 ∧ c1.ok T H ∧ c1.g = c.g ∧ (∃ d0, c1.W = c.W.at d0) ∧ stepT T.P (crowd c1.gs c1.W c1.sl) = runT T.P (crowd c1.gs (c1.W.at d) sl) 0)
    (c : Cfg) (hM : sumTo c.gs.size c.q ≤ M) (hc : c.ok T H) :
    ∃ (c1 : Cfg) (d : Nat) (sl : Option (Nat × Nat)), c.to T c1 ∧ c1.ok T H ∧ c1.g = c.g ∧ (∃ d0, c1.W = c.W.at d0) ∧ stepT T.P (crowd c1.gs c1.W c1.sl) = runT T.P (crowd c1.gs (c1.W.at d) sl) 0 := by
  obtain ⟨gs, a, w, sl, t, q⟩ := c
  obtain ⟨h0, hrun, hL, hP⟩ := hc
  change gs[0]? = some a at h0
  change a.status = .running at hrun
  change Leavers T.P t gs q at hL
  change Past (ShunH H) w.heap.size t at hP
  change sumTo gs.size q ≤ M at hM
  have haw : ∀ g ∈ gs, awake g := by
    intro g hg
    obtain ⟨i, hi, rfl⟩ := Array.mem_iff_getElem.1 hg
    rcases Nat.eq_zero_or_pos i with rfl | hpos
    · have : gs[0] = a := by simpa [Array.getElem?_eq_getElem hi] using h0
      rw [this]; exact awake_of (.inl hrun)
    · exact awake_of ((hL.old i _ hpos (Array.getElem?_eq_getElem hi)).status.elim .inl fun x => .inr (.inr x))
  obtain ⟨i, g, d, sl', hi, hg, hst⟩ := crowd_pick (P := T.P) (w := w) (sl := sl) haw ⟨0, a, h0, hrun⟩
  rcases Nat.eq_zero_or_pos i with rfl | hpos
  · exact ⟨⟨gs, a, w, sl, t, q⟩, d, sl', Cfg.to_refl T _, ⟨h0, hrun, hL, hP⟩, rfl, ⟨w.drawn, rfl⟩, hst⟩
  · have hq := hL.old i g hpos hi
    have hi0 : (i == 0) = false := by simp; omega
    have hlt : i < gs.size := (Array.getElem?_eq_some_iff.1 hi).1
    cases hqi : q i with
    | zero => rw [hqi] at hq; rw [hq.1] at hg; cases hg
    | succ k =>
      rw [hqi] at hq
      rcases hq with ⟨hf, _⟩ | ⟨_, g', es, hmu, hstp, hq'⟩
      · rw [hf] at hg; cases hg
      have hrunT := runT_crowd_go (P := T.P) (sl := sl') (i := i) hi (by rw [hi0]; exact hstp (w.at d))
      have hsz : ((gs.map (woken T.P g g' (w.at d))).setIfInBounds i g').size = gs.size := by simp
      have hsum : sumTo gs.size (upd q i k) + (k + 1) = sumTo gs.size q + k := by
        have := sumTo_upd q k id hlt
        simpa [hqi] using this
      have hok : Cfg.ok T H ⟨(gs.map (woken T.P g g' (w.at d))).setIfInBounds i g', a, w.at d, sl', t ++ MemOp.ofEvents i g.frame.fn g.frame.place es, upd q i k⟩ := by
        refine ⟨?_, hrun, ⟨fun j x hj hx => ?_, fun j hj => ?_⟩, hP.mute (by omega) hmu⟩
        · show ((gs.map (woken T.P g g' (w.at d))).setIfInBounds i g')[0]? = some a
          have hne : i ≠ 0 := by omega
          rw [Array.getElem?_setIfInBounds_ne hne, Array.getElem?_map, h0]
          simp [woken_run hrun]
        · change ((gs.map (woken T.P g g' (w.at d))).setIfInBounds i g')[j]? = some x at hx
          show QuitsD T.P (upd q i k j) (Deaf (t ++ MemOp.ofEvents i g.frame.fn g.frame.place es) j) x
          by_cases hji : i = j
          · subst hji
            rw [Array.getElem?_setIfInBounds_self_of_lt (by simpa using hlt)] at hx
            obtain rfl := Option.some.inj hx
            rw [upd_same, Deaf_own]
            exact hq'
          · rw [Array.getElem?_setIfInBounds_ne hji, Array.getElem?_map] at hx
            obtain ⟨y, hy, rfl⟩ := Option.map_eq_some_iff.1 hx
            have hqj := hL.old j y hj hy
            rw [woken_quitsD hqj, upd_ne q k (Ne.symm hji), Deaf_other t hji _ (fun op hop => by obtain ⟨e, _, rfl⟩ := Go.Conc.mem_ofEvents hop; rfl)]
            exact hqj
        · have hj' : gs.size ≤ j := by simpa using hj
          show Deaf (t ++ MemOp.ofEvents i g.frame.fn g.frame.place es) j = 0
          rw [Deaf_other t (g' := i) (by omega) _ (fun op hop => by obtain ⟨e, _, rfl⟩ := Go.Conc.mem_ofEvents hop; rfl)]
          exact hL.above j hj'
      obtain ⟨c1, d1, sl1, hto, hok1, hg1, ⟨d0, hw1⟩, hst1⟩ := ih (sumTo gs.size (upd q i k)) (by omega) _ (by show sumTo _ _ ≤ _; rw [hsz]; exact Nat.le_refl _) hok
      refine ⟨c1, d1, sl1, Cfg.to_trans ?_ hto, hok1, hg1, ⟨d0, hw1⟩, hst1⟩
      refine ⟨1, ?_, Nat.le_of_eq hsz.symm⟩
      simp only [runNT, hst, hrunT]

theorem turn {H : Nat → Prop} : ∀ (M : Nat) (c : Cfg), sumTo c.gs.size c.q ≤ M → c.ok T H →
    ∃ (c1 : Cfg) (d : Nat) (sl : Option (Nat × Nat)), c.to T c1 ∧ c1.ok T H ∧ c1.g = c.g ∧ (∃ d0, c1.W = c.W.at d0) ∧ stepT T.P (crowd c1.gs c1.W c1.sl) = runT T.P (crowd c1.gs (c1.W.at d) sl) 0 := by
  intro M
  induction M with
  | zero =>
    intro c hM hc
    exact turnStep 0 (fun m hm => absurd hm (by omega)) c hM hc
  | succ M ih =>
    intro c hM hc
    exact turnStep (M + 1) (fun m hm c' hc' hk => ih c' (by omega) hk) c hM hc

theorem taken {H : Nat → Prop} {c1 : Cfg} (hc : c1.ok T H) {d : Nat} {sl : Option (Nat × Nat)} (hst : stepT T.P (crowd c1.gs c1.W c1.sl) = runT T.P (crowd c1.gs (c1.W.at d) sl) 0) {g' : Goroutine} {W' : World} {es : Array Event}
    (hgo : stepG T.P true c1.g (c1.W.at d) = .go g' W' es) (hrun : g'.status = .running) (hgrew : c1.W.heap.size ≤ W'.heap.size) (hf : ∀ e ∈ es, Fine H W'.heap.size e) : ∃ c2 : Cfg, c1.to T c2 ∧ c2.ok T H ∧ c2.g = g' ∧ c2.W = W' := by
  obtain ⟨gs, a, w, sl0, t, q⟩ := c1
  obtain ⟨h0, hr, hL, hP⟩ := hc
  change gs[0]? = some a at h0
  change Leavers T.P t gs q at hL
  change Past (ShunH H) w.heap.size t at hP
  have hrunT := runT_crowd_go (P := T.P) (sl := sl) (i := 0) h0 (show stepG T.P (0 == 0) a (w.at d) = _ from hgo)
  have hsz : ((gs.map (woken T.P a g' W')).setIfInBounds 0 g').size = gs.size := by simp
  have hlt : 0 < gs.size := (Array.getElem?_eq_some_iff.1 h0).1
  refine ⟨⟨(gs.map (woken T.P a g' W')).setIfInBounds 0 g', g', W', sl, t ++ MemOp.ofEvents 0 a.frame.fn a.frame.place es, q⟩, ⟨1, ?_, Nat.le_of_eq hsz.symm⟩, ⟨by simp [hlt], hrun, ⟨fun j x hj hx => ?_, fun j hj => ?_⟩, ?_⟩, rfl, rfl⟩
  · simp only [runNT]
    rw [show stepT T.P (crowd gs w sl0) = _ from hst, hrunT]
  · have hne : 0 ≠ j := by omega
    change ((gs.map (woken T.P a g' W')).setIfInBounds 0 g')[j]? = some x at hx
    rw [Array.getElem?_setIfInBounds_ne hne, Array.getElem?_map] at hx
    obtain ⟨y, hy, rfl⟩ := Option.map_eq_some_iff.1 hx
    have hq := hL.old j y hj hy
    show QuitsD T.P (q j) (Deaf (t ++ MemOp.ofEvents 0 a.frame.fn a.frame.place es) j) _
    rw [woken_quitsD hq, Deaf_other t (by omega) _ (fun op hop => by obtain ⟨e, _, rfl⟩ := Go.Conc.mem_ofEvents hop; rfl)]
    exact hq
  · have hj' : gs.size ≤ j := by simpa using hj
    show Deaf (t ++ MemOp.ofEvents 0 a.frame.fn a.frame.place es) j = 0
    rw [Deaf_other t (g' := 0) (by omega) _ (fun op hop => by obtain ⟨e, _, rfl⟩ := Go.Conc.mem_ofEvents hop; rfl)]
    exact hL.above j hj'
  · exact (hP.mono hgrew).own (fun e he => evL_of_fine (hf e he))

def Turns (T : Two) (H : Nat → Prop) (c : Cfg) (d : Nat) : Prop :=
  ∀ (g' : Goroutine) (W' : World) (es : Array Event), stepG T.P true c.g (c.W.at d) = .go g' W' es → g'.status = .running → c.W.heap.size ≤ W'.heap.size → (∀ e ∈ es, Fine H W'.heap.size e) →
    ∃ c2 : Cfg, c.to T c2 ∧ c2.ok T H ∧ c2.g = g' ∧ c2.W = W'

theorem turns {H : Nat → Prop} (c : Cfg) (hc : c.ok T H) : ∃ d, Turns T H c d := by
  obtain ⟨c1, d, sl, hto, hok, hg, ⟨d0, hw⟩, hst⟩ := turn _ c (Nat.le_refl _) hc
  refine ⟨d, fun g' W' es hgo hrun hgrew hf => ?_⟩
  have e : c1.W.at d = c.W.at d := by rw [hw]; rfl
  obtain ⟨c2, h1, h2, h3, h4⟩ := taken hok hst (by rw [hg, e]; exact hgo) hrun (by rw [hw]; exact hgrew) hf
  exact ⟨c2, Cfg.to_trans hto h1, h2, h3, h4⟩

def Choice (T : Two) (H : Nat → Prop) (c : Cfg) (p : Nat × Cfg) : Prop :=
  c.ok T H → Turns T H c p.1 ∧ ∀ (c2 : Cfg) (es : Array Event), c.to T c2 → c2.ok T H → stepG T.P true c.g (c.W.at p.1) = .go c2.g c2.W es → c.to T p.2 ∧ p.2.ok T H ∧ p.2.g = c2.g ∧ p.2.W = c2.W

theorem choice {H : Nat → Prop} (c : Cfg) : ∃ p, Choice T H c p := by
  by_cases hc : c.ok T H
  · obtain ⟨d, hd⟩ := turns c hc
    by_cases h : ∃ c2 : Cfg, c.to T c2 ∧ c2.ok T H ∧ ∃ es, stepG T.P true c.g (c.W.at d) = .go c2.g c2.W es
    · obtain ⟨c2, h1, h2, es, h3⟩ := h
      refine ⟨(d, c2), fun _ => ⟨hd, fun c3 es' k1 k2 k3 => ?_⟩⟩
      have e := h3.symm.trans k3
      injection e with e1 e2
      exact ⟨h1, h2, e1, e2⟩
    · exact ⟨(d, c), fun _ => ⟨hd, fun c3 es' k1 k2 k3 => absurd ⟨c3, k1, k2, es', k3⟩ h⟩⟩
  · exact ⟨(0, c), fun h => absurd h hc⟩

def seqBy (F : Cfg → Nat × Cfg) (c : Cfg) : Nat → Cfg
  | 0 => c
  | j + 1 => (F (seqBy F c j)).2
def offBy (u : Nat → Nat) : Nat → Nat
  | 0 => 0
  | j + 1 => offBy u j + u j

theorem off_mono (u : Nat → Nat) : ∀ {i j : Nat}, i ≤ j → offBy u i ≤ offBy u j := by
  intro i j h
  induction h with
  | refl => exact Nat.le_refl _
  | step h ih => exact Nat.le_trans ih (Nat.le_add_right _ _)

open Classical in
theorem tape_by (u d : Nat → Nat) (τ : Nat → Question → Nat) : ∃ τ' : Nat → Question → Nat, ∀ j i q, i < u j → τ' (offBy u j + i) q = τ (d j + i) q := by
  refine ⟨fun i q => if h : ∃ j, offBy u j ≤ i ∧ i < offBy u (j + 1) then τ (d (Classical.choose h) + (i - offBy u (Classical.choose h))) q else 0, fun j i q hi => ?_⟩
  have h : ∃ k, offBy u k ≤ offBy u j + i ∧ offBy u j + i < offBy u (k + 1) := ⟨j, Nat.le_add_right _ _, Nat.add_lt_add_left hi _⟩
  dsimp only
  rw [dif_pos h]
  obtain ⟨h1, h2⟩ := Classical.choose_spec h
  generalize Classical.choose h = k at h1 h2
  have hjk : k = j := by
    rcases Nat.lt_trichotomy k j with x | x | x
    · have := off_mono u (show k + 1 ≤ j by omega)
      omega
    · exact x
    · have := off_mono u (show j + 1 ≤ k by omega)
      have e : offBy u (j + 1) = offBy u j + u j := rfl
      omega
  subst hjk
  rw [Nat.add_sub_cancel_left]

theorem liftedS (K : Kit T) {H : Nat → Prop} {c : Cfg} {w : World} (hc : c.ok T H) (hr : Rel T H w c.W) (hg : okGS T c.g) {Post : Goroutine → World → Prop}
    (hlone : ∀ τ, ∃ n g' w', runN T.pr n (solo c.g { w with tape := τ, drawn := 0 }) = .next (solo g' w') ∧ g'.dying = none ∧ (g'.frame.mode = .run ∨ g'.frame.mode = .returning) ∧ Post g' w') :
    ∃ (c' : Cfg) (w' : World), c.to T c' ∧ c'.ok T H ∧ Rel T H w' c'.W ∧ okGS T c'.g ∧ Post c'.g w' := by
  obtain ⟨F, hF⟩ := Classical.axiomOfChoice (fun c : Cfg => choice (T := T) (H := H) c)
  obtain ⟨S, hS⟩ : ∃ S : Nat → Cfg, S = seqBy F c := ⟨_, rfl⟩
  obtain ⟨u, hu⟩ : ∃ u : Nat → Nat, u = fun j => (stepG T.P true (S j).g ((S j).W.at (F (S j)).1)).world.drawn - (F (S j)).1 := ⟨_, rfl⟩
  obtain ⟨τ, hτ0⟩ := tape_by u (fun j => (F (S j)).1) c.W.tape
  obtain ⟨n, gF, wF, hrun, hdy, hmode, hpost⟩ := hlone τ
  have key : ∀ j, j ≤ n → ∃ wj, runN T.pr j (solo c.g { w with tape := τ, drawn := 0 }) = .next (solo (S j).g wj) ∧ wj.tape = τ ∧ wj.drawn = offBy u j ∧
      c.to T (S j) ∧ (S j).ok T H ∧ Rel T H wj (S j).W ∧ okGS T (S j).g ∧ (S j).W.tape = c.W.tape := by
    intro j
    induction j with
    | zero => subst hS; exact fun _ => ⟨_, rfl, rfl, rfl, Cfg.to_refl T c, hc, ⟨hr.size, hr.os, hr.output, hr.out, hr.hid, hr.ok, hr.low, hr.grown⟩, hg, rfl⟩
    | succ j ih =>
      intro hj
      obtain ⟨wj, e, ht, hd, hto, hok, hrel, hgj, hτ⟩ := ih (by omega)
      have hsplit : runN T.pr n (solo c.g { w with tape := τ, drawn := 0 }) = runN T.pr (n - j) (solo (S j).g wj) := by
        have h := runN_add T.pr j (n - j) (solo c.g { w with tape := τ, drawn := 0 })
        rw [e, show j + (n - j) = n by omega] at h
        exact h
      have hseq : S (j + 1) = (F (S j)).2 := by rw [hS]; rfl
      have huj : u j = (stepG T.P true (S j).g ((S j).W.at (F (S j)).1)).world.drawn - (F (S j)).1 := by rw [hu]
      have htape := hτ0 j
      rw [hseq]
      obtain ⟨hturn, hnext⟩ := hF (S j) hok
      generalize S j = cj at *
      generalize hdj : (F cj).1 = dj at *
      have hrel' : Rel T H wj (cj.W.at dj) := ⟨hrel.size, hrel.os, hrel.output, hrel.out, hrel.hid, hrel.ok, hrel.low, hrel.grown⟩
      have hagr : Agr wj (cj.W.at dj) (stepG T.P true cj.g (cj.W.at dj)).world.drawn := by
        intro i q hi
        change dj + i < _ at hi
        have := htape i q (by omega)
        rw [ht, hd, this]
        show _ = cj.W.tape (dj + i) q
        rw [hτ]
      have hs := own_step K hgj hrel' hagr
      rw [hrun] at hsplit
      have hn : n - j = (n - j - 1) + 1 := by omega
      rw [hn] at hsplit
      simp only [runN] at hsplit
      cases hst : stepG T.pr true cj.g wj with
      | go g' w' es =>
        rw [hst] at hs
        have hstep := step_solo_go hgj.running hst
        rcases hs with ⟨W', es', hgo, hL, hg'⟩ | hgone
        · obtain ⟨c2, h1, h2, h3, h4⟩ := hturn g' W' es' hgo hg'.running hL.grew hL.fine
          obtain ⟨k1, k2, k3, k4⟩ := hnext c2 es' h1 h2 (by rw [h3, h4]; exact hgo)
          rw [k3, k4, h3, h4]
          refine ⟨w', ?_, hL.tape.trans ht, ?_, Cfg.to_trans hto k1, k2, hL.rel, hg', ?_⟩
          · have h := runN_add T.pr j 1 (solo c.g { w with tape := τ, drawn := 0 })
            rw [e] at h
            rw [h]
            simp only [runN, hstep]
          · show w'.drawn = offBy u j + u j
            have hdr := hL.drawn
            have hmo := hL.more
            change w'.drawn + dj = W'.drawn + wj.drawn at hdr
            change dj ≤ W'.drawn at hmo
            rw [huj, hgo]
            simp only [GStep.world]
            omega
          · exact hL.tape'.trans hτ
        · exfalso
          rw [hstep] at hsplit
          exact gone_never (.inl hgone.1) hgone.2 _ _ _ hsplit.symm hdy hmode
      | ended o w' es =>
        rw [step_solo_ended hgj.running hst] at hsplit
        cases hsplit
      | _ => rw [hst] at hs; exact hs.elim
  obtain ⟨wj, e, _, _, hto, hok, hrel, hgj, _⟩ := key n (Nat.le_refl _)
  rw [hrun] at e
  have eg : gF = (S n).g ∧ wF = wj := by
    simp only [Stepped.next.injEq] at e
    have h1 := congrArg (fun m => m.gs[0]?) e
    have h2 := congrArg (fun m => m.world) e
    exact ⟨by simpa [solo] using h1, h2⟩
  exact ⟨S n, wj, hto, hok, hrel, hgj, by rw [← eg.1, ← eg.2]; exact hpost⟩
end
end

section
open Go.Conc
open Go.ConcN (fork_knows)
open Go.ConcR (stA)

def WgL (Wg : Nat) (l : Loc) : Prop := ∃ a, l = .cell a ∧ a.block = Wg
def SyL (Wg B0 : Nat) (l : Loc) : Prop := WgL Wg l ∨ ∃ r, l = .obj r ∧ B0 ≤ r
def RdL (Rd : Nat → Prop) (l : Loc) : Prop := ∃ ad, l = .cell ad ∧ Rd ad.block

structure Ok0 (H : Nat → Prop) (Wg : Nat) (Rd : Nat → Nat → Prop) (j : Nat) (act : MemAct) : Prop where
  norel : act ≠ .mark (.release (stA Wg))
  tch : ∀ x, act.touch? = some x → (WgL Wg x.loc ∧ x.kind ≠ .plain) ∨ (x.kind = .plain ∧ ¬ ShunH H x.loc ∧ ∃ ad, x.loc = .cell ad ∧ ad.block ≠ Wg ∧ (x.write = true → ∀ k, k < j → ¬ Rd k ad.block))
structure OkW (Wg B0 : Nat) (Rd : Nat → Prop) (act : MemAct) : Prop where
  norel : act ≠ .mark (.release (stA Wg))
  tch : ∀ x, act.touch? = some x → (SyL Wg B0 x.loc ∧ x.kind = .atomic) ∨ (x.write = false ∧ x.kind = .plain ∧ RdL Rd x.loc)

structure PT (H : Nat → Prop) (Wg B0 : Nat) (Rd : Nat → Nat → Prop) (m0 j : Nat) (t : Trace) : Prop where
  nr : ∀ said, ¬ Race said t
  tch : ∀ i a, touchAt t i = some a → a.loc.isMemory = true → Knows t 0 i ∨ (ShunH H a.loc ∧ a.kind = .atomic) ∨
    ∃ k, k < j ∧ t.g? i = some (m0 + k) ∧ ((SyL Wg B0 a.loc ∧ a.kind = .atomic) ∨ (a.write = false ∧ a.kind = .plain ∧ RdL (Rd k) a.loc))
  quiet : ∀ i a, touchAt t i = some a → SyL Wg B0 a.loc → a.kind ≠ .plain ∧ (a.kind = .said → Knows t 0 i)
  wr : ∀ k, k < j → ∀ i a, touchAt t i = some a → a.write = true → RdL (Rd k) a.loc → Knows t (m0 + k) i
  over : ∀ i g, t.g? i = some g → g ≠ 0 → t.counts i → (∃ p, t.g? p = some 0 ∧ HappensBefore t i p) ∨ ∃ k, k < j ∧ g = m0 + k
  norel : NoRelease (stA Wg) t

structure Lies (H : Nat → Prop) (Wg B0 : Nat) (Rd : Nat → Nat → Prop) : Prop where
  rdWg : ∀ k b, Rd k b → b ≠ Wg
  rdH : ∀ k b, Rd k b → ¬ H b
  wgB : B0 ≤ Wg
  hB : ∀ b, H b → b < B0

theorem low_touch {B : Nat} {act : MemAct} {x : Touch} (h : act.low B) (hx : act.touch? = some x) : x.loc.low B := by
  cases act with
  | access e => simp only [MemAct.touch?, Option.some.injEq] at hx; subst hx; exact h
  | mark m => cases m <;> simp [MemAct.touch?] at hx <;> (subst hx; exact h)
  | _ => simp [MemAct.touch?] at hx

theorem g?_new {t u : Trace} {i : Nat} {op : MemOp} (h : (t ++ u)[i]? = some op) : (t ++ u).g? i = some op.g := by simp [Trace.g?, h]

section
variable {H : Nat → Prop} {Wg B0 : Nat} {Rd : Nat → Nat → Prop} {m0 j : Nat} {t u : Trace}

theorem not_sy_low (L : Lies H Wg B0 Rd) {l : Loc} (h : l.low B0) : ¬ SyL Wg B0 l := by
  rintro (⟨a, rfl, ha⟩ | ⟨r, rfl, hr⟩)
  · have : a.block < B0 := h; have := L.wgB; omega
  · have : r < B0 := h; omega

theorem PT.start (L : Lies H Wg B0 Rd) (h : Past (ShunH H) B0 t) : PT H Wg B0 Rd m0 0 t := by
  refine ⟨h.clean, fun i a ha hm => (h.known i a ha hm).imp id .inl, fun i a ha hs => ?_, fun k hk => absurd hk (Nat.not_lt_zero k), fun i g hg hne hc => .inl (h.over i g hg hne hc), fun i hi => ?_⟩
  · obtain ⟨x, hx, hxa⟩ := touch_of ha
    exact absurd hs (not_sy_low L (low_touch (h.seen x (Array.mem_of_getElem? hx)) hxa))
  · obtain ⟨op, ho, hoa⟩ := Option.map_eq_some_iff.1 hi
    have := h.seen op (Array.mem_of_getElem? ho)
    rw [hoa] at this
    have hb : (stA Wg).block < B0 := this
    have := L.wgB
    simp only [stA] at hb
    omega

theorem over_app (h : PT H Wg B0 Rd m0 j t) (hu : ∀ op ∈ u, op.g = 0 ∨ (∃ k, k < j ∧ op.g = m0 + k) ∨ op.act.touch? = none) : ∀ i g, (t ++ u).g? i = some g → g ≠ 0 → (t ++ u).counts i → (∃ p, (t ++ u).g? p = some 0 ∧ HappensBefore (t ++ u) i p) ∨ ∃ k, k < j ∧ g = m0 + k := by
  intro i g hg hne hc
  obtain ⟨x, hx, hrest⟩ := id hc
  obtain ⟨op, hop, hox⟩ := touch_of hx
  rcases getElem?_append_cases hop with ⟨hi, hop'⟩ | ⟨_, hopu⟩
  · rcases h.over i g (by rw [g?_old hi] at hg; exact hg) hne ((counts_old hi).1 hc) with ⟨p, hp, hb⟩ | hk
    · have hpl : p < t.size := (Option.map_eq_some_iff.1 hp).elim fun z hz => lt_size_of_getElem? hz.1
      exact .inl ⟨p, by rw [g?_old hpl]; exact hp, hb_app u hb⟩
    · exact .inr hk
  · have eg : g = op.g := by rw [g?_new hop] at hg; exact (Option.some.inj hg).symm
    rcases hu op hopu with h0 | hk | h0
    · exact absurd (eg.trans h0) hne
    · rw [eg]; exact .inr hk
    · rw [h0] at hox; cases hox

theorem PT.app0 (L : Lies H Wg B0 Rd) (h : PT H Wg B0 Rd m0 j t) (hg : ∀ op ∈ u, op.g = 0) (hu : ∀ op ∈ u, Ok0 H Wg Rd j op.act) : PT H Wg B0 Rd m0 j (t ++ u) := by
  have own : ∀ {i : Nat} {op : MemOp}, (t ++ u)[i]? = some op → op ∈ u → Knows (t ++ u) 0 i := fun hi hop => by
    have := knows_own hi
    rwa [hg _ hop] at this
  refine ⟨fun said => noRace_append (h.nr said) hg fun i a ha op hop b hb hc => ?_, fun i a ha hm => ?_, fun i a ha hs => ?_, fun k hk i a ha hw hl => ?_, over_app h fun op hop => .inl (hg op hop), h.norel.app fun op hop => (hu op hop).norel⟩
  · rcases (hu op hop).tch b hb with ⟨hwg, hk⟩ | ⟨hk, hsh, ad, hl, hne, hw⟩
    · obtain ⟨q1, q2⟩ := h.quiet i a ha (.inl (hc.1 ▸ hwg))
      rcases hc.2.2.2 with x | x | ⟨_, x, _⟩
      · exact absurd x q1
      · exact absurd x hk
      · exact q2 x
    · rcases h.tch i a ha hc.2.1 with x | ⟨x, _⟩ | ⟨k, hkj, _, (⟨x, _⟩ | ⟨x, _, y⟩)⟩
      · exact x
      · exact absurd (hc.1 ▸ x) hsh
      · rw [hc.1, hl] at x
        rcases x with ⟨a', e, hb'⟩ | ⟨r, e, _⟩
        · cases e; exact absurd hb' hne
        · cases e
      · obtain ⟨ad', e, hr⟩ := y
        rw [hc.1, hl] at e
        cases e
        rcases hc.2.2.1 with z | z
        · rw [x] at z; cases z
        · exact absurd hr (hw z k hkj)
  · obtain ⟨x, hx, hxa⟩ := touch_of ha
    rcases getElem?_append_cases hx with ⟨hi, hx'⟩ | ⟨_, hxu⟩
    · rcases h.tch i a (by rw [touchAt_of hx']; exact hxa) hm with y | y | ⟨k, hk, hgk, y⟩
      · exact .inl (y.app u)
      · exact .inr (.inl y)
      · exact .inr (.inr ⟨k, hk, by rw [g?_old hi]; exact hgk, y⟩)
    · exact .inl (own hx hxu)
  · obtain ⟨x, hx, hxa⟩ := touch_of ha
    rcases getElem?_append_cases hx with ⟨hi, hx'⟩ | ⟨_, hxu⟩
    · obtain ⟨q1, q2⟩ := h.quiet i a (by rw [touchAt_of hx']; exact hxa) hs
      exact ⟨q1, fun e => (q2 e).app u⟩
    · refine ⟨?_, fun _ => own hx hxu⟩
      rcases (hu x hxu).tch a hxa with ⟨_, hk⟩ | ⟨_, _, ad, hl, hne, _⟩
      · exact hk
      · rw [hl] at hs
        rcases hs with ⟨a', e, hb'⟩ | ⟨r, e, _⟩
        · cases e; exact absurd hb' hne
        · cases e
  · obtain ⟨x, hx, hxa⟩ := touch_of ha
    rcases getElem?_append_cases hx with ⟨hi, hx'⟩ | ⟨_, hxu⟩
    · exact (h.wr k hk i a (by rw [touchAt_of hx']; exact hxa) hw hl).app u
    · obtain ⟨ad', e, hr⟩ := hl
      rcases (hu x hxu).tch a hxa with ⟨⟨a', e', hb'⟩, _⟩ | ⟨_, _, ad, e', _, hn⟩
      · rw [e] at e'; cases e'; exact absurd hb' (L.rdWg k _ hr)
      · rw [e] at e'; cases e'; exact absurd hr (hn hw k hk)

theorem PT.appW (L : Lies H Wg B0 Rd) (h : PT H Wg B0 Rd m0 j t) {k : Nat} (hk : k < j) (hg : ∀ op ∈ u, op.g = m0 + k) (hu : ∀ op ∈ u, OkW Wg B0 (Rd k) op.act) : PT H Wg B0 Rd m0 j (t ++ u) := by
  refine ⟨fun said => noRace_append (h.nr said) hg fun i a ha op hop b hb hc => ?_, fun i a ha hm => ?_, fun i a ha hs => ?_, fun k' hk' i a ha hw hl => ?_, over_app h fun op hop => .inr (.inl ⟨k, hk, hg op hop⟩), h.norel.app fun op hop => (hu op hop).norel⟩
  · rcases (hu op hop).tch b hb with ⟨hs, hb2⟩ | ⟨hbw, hb2, hl⟩
    · obtain ⟨q1, _⟩ := h.quiet i a ha (hc.1 ▸ hs)
      rcases hc.2.2.2 with x | x | ⟨_, _, x⟩
      · exact absurd x q1
      · rw [hb2] at x; cases x
      · rw [hb2] at x; cases x
    · refine h.wr k hk i a ha ?_ (hc.1 ▸ hl)
      rcases hc.2.2.1 with z | z
      · exact z
      · rw [hbw] at z; cases z
  · obtain ⟨x, hx, hxa⟩ := touch_of ha
    rcases getElem?_append_cases hx with ⟨hi, hx'⟩ | ⟨_, hxu⟩
    · rcases h.tch i a (by rw [touchAt_of hx']; exact hxa) hm with y | y | ⟨k', hk', hgk, y⟩
      · exact .inl (y.app u)
      · exact .inr (.inl y)
      · exact .inr (.inr ⟨k', hk', by rw [g?_old hi]; exact hgk, y⟩)
    · exact .inr (.inr ⟨k, hk, by rw [g?_new hx, hg x hxu], (hu x hxu).tch a hxa⟩)
  · obtain ⟨x, hx, hxa⟩ := touch_of ha
    rcases getElem?_append_cases hx with ⟨hi, hx'⟩ | ⟨_, hxu⟩
    · obtain ⟨q1, q2⟩ := h.quiet i a (by rw [touchAt_of hx']; exact hxa) hs
      exact ⟨q1, fun e => (q2 e).app u⟩
    · rcases (hu x hxu).tch a hxa with ⟨_, e⟩ | ⟨_, _, ad, e, hr⟩
      · rw [e]; exact ⟨by simp, by simp⟩
      · rw [e] at hs
        rcases hs with ⟨a', e, hb'⟩ | ⟨r, e, _⟩
        · cases e; exact absurd hb' (L.rdWg k _ hr)
        · cases e
  · obtain ⟨x, hx, hxa⟩ := touch_of ha
    rcases getElem?_append_cases hx with ⟨hi, hx'⟩ | ⟨_, hxu⟩
    · exact (h.wr k' hk' i a (by rw [touchAt_of hx']; exact hxa) hw hl).app u
    · obtain ⟨ad', e, hr⟩ := hl
      rcases (hu x hxu).tch a hxa with ⟨(⟨a', e', hb'⟩ | ⟨r, e', _⟩), _⟩ | ⟨hn, _⟩
      · rw [e] at e'; cases e'; exact absurd hb' (L.rdWg k' _ hr)
      · rw [e] at e'; cases e'
      · rw [hn] at hw; cases hw

theorem PT.appMute (h : PT H Wg B0 Rd m0 j t) {g : Nat} (hg : ∀ op ∈ u, op.g = g) (hn : ∀ op ∈ u, op.act.touch? = none) (hr : ∀ op ∈ u, op.act ≠ .mark (.release (stA Wg))) : PT H Wg B0 Rd m0 j (t ++ u) := by
  have old : ∀ {i : Nat} {a : Touch}, touchAt (t ++ u) i = some a → i < t.size ∧ touchAt t i = some a := fun ha => by
    obtain ⟨x, hx, hxa⟩ := touch_of ha
    rcases getElem?_append_cases hx with ⟨hi, hx'⟩ | ⟨_, hxu⟩
    · exact ⟨hi, by rw [touchAt_of hx']; exact hxa⟩
    · rw [hn x hxu] at hxa; cases hxa
  refine ⟨fun said => noRace_append (h.nr said) hg fun i a ha op hop b hb hc => by (rw [hn op hop] at hb; cases hb), fun i a ha hm => ?_, fun i a ha hs => ?_, fun k hk i a ha hw hl => (h.wr k hk i a (old ha).2 hw hl).app u, over_app h fun op hop => .inr (.inr (hn op hop)), h.norel.app hr⟩
  · obtain ⟨hi, ha'⟩ := old ha
    rcases h.tch i a ha' hm with y | y | ⟨k', hk', hgk, y⟩
    · exact .inl (y.app u)
    · exact .inr (.inl y)
    · exact .inr (.inr ⟨k', hk', by rw [g?_old hi]; exact hgk, y⟩)
  · obtain ⟨q1, q2⟩ := h.quiet i a (old ha).2 hs
    exact ⟨q1, fun e => (q2 e).app u⟩

theorem PT.fork (L : Lies H Wg B0 Rd) (h : PT H Wg B0 Rd m0 j t) {x y : MemOp} (hx : x.g = 0 ∧ x.act = .go (m0 + j)) (hy : y.g = m0 + j ∧ y.act = .start) (h0 : Deaf t 0 = 0) (hk : Deaf t (m0 + j) = 0) :
    PT H Wg B0 Rd m0 (j + 1) (t ++ #[x, y]) := by
  have e : t ++ #[x, y] = (t ++ #[x]) ++ #[y] := by apply Array.ext'; simp
  have h1 : PT H Wg B0 Rd m0 j (t ++ #[x]) := h.appMute (g := 0) (fun op hop => by simp at hop; rw [hop]; exact hx.1) (fun op hop => by simp at hop; rw [hop, hx.2]; rfl) (fun op hop => by simp at hop; rw [hop, hx.2]; simp)
  have h2 : PT H Wg B0 Rd m0 j (t ++ #[x, y]) := by
    rw [e]
    exact h1.appMute (g := m0 + j) (fun op hop => by simp at hop; rw [hop]; exact hy.1) (fun op hop => by simp at hop; rw [hop, hy.2]; rfl) (fun op hop => by simp at hop; rw [hop, hy.2]; simp)
  refine ⟨h2.nr, fun i a ha hm => ?_, h2.quiet, fun k hkj i a ha hw hl => ?_, fun i g hg hne hc => ?_, h2.norel⟩
  · rcases h2.tch i a ha hm with z | z | ⟨k', hk', r⟩
    · exact .inl z
    · exact .inr (.inl z)
    · exact .inr (.inr ⟨k', by omega, r⟩)
  · rcases Nat.lt_or_ge k j with hlt | hge
    · exact h2.wr k hlt i a ha hw hl
    · obtain rfl : k = j := by omega
      obtain ⟨z, hz, hza⟩ := touch_of ha
      have ha' : touchAt t i = some a := by
        rcases getElem?_append_cases hz with ⟨_, hz'⟩ | ⟨_, hzu⟩
        · rw [touchAt_of hz']; exact hza
        · simp only [List.mem_toArray, List.mem_cons, List.not_mem_nil, or_false] at hzu
          rcases hzu with rfl | rfl
          · rw [hx.2] at hza; cases hza
          · rw [hy.2] at hza; cases hza
      obtain ⟨ad, el, hr⟩ := hl
      have hkn : Knows t 0 i := by
        rcases h.tch i a ha' (by rw [el]; rfl) with v | ⟨⟨b, eb, hb⟩, _⟩ | ⟨k', _, _, (⟨(⟨b, eb, hb⟩ | ⟨r, er, _⟩), _⟩ | ⟨v, _⟩)⟩
        · exact v
        · rw [el] at eb; cases eb; exact absurd hb (L.rdH k _ hr)
        · rw [el] at eb; cases eb; exact absurd hb (L.rdWg k _ hr)
        · rw [el] at er; cases er
        · rw [v] at hw; cases hw
      exact fork_knows hx hy h0 hk hkn
  · rcases h2.over i g hg hne hc with z | ⟨k', hk', r⟩
    · exact .inl z
    · exact .inr ⟨k', by omega, r⟩
end

structure RelK (Wg : Nat) (t : Trace) (k r : Nat) : Prop where
  act : t.act? r = some (.mark (.releaseMerge (stA Wg)))
  g : t.g? r = some k
  heard : t.heard r
  after : ∀ i, r < i → t.g? i = some k → ¬ t.counts i ∧ ∀ a, touchAt t i = some a → WgL Wg a.loc ∧ a.kind = .atomic

section
variable {Wg : Nat} {t u : Trace} {k r g : Nat}

theorem RelK.app (h : RelK Wg t k r) (hu : ∀ i op, t.size ≤ i → (t ++ u)[i]? = some op → op.g = k → ¬ (t ++ u).counts i ∧ ∀ a, op.act.touch? = some a → WgL Wg a.loc ∧ a.kind = .atomic) : RelK Wg (t ++ u) k r := by
  have hr : r < t.size := lt_of_act? h.act
  refine ⟨by rw [act?_old hr]; exact h.act, by rw [g?_old hr]; exact h.g, (heard_old hr).2 h.heard, fun i hi hg => ?_⟩
  rcases Nat.lt_or_ge i t.size with hlt | hge
  · rw [counts_old hlt, touchAt_old hlt]
    exact h.after i hi (by rw [← g?_old (u := u) hlt]; exact hg)
  · obtain ⟨op, ho, hog⟩ := Option.map_eq_some_iff.1 hg
    obtain ⟨h1, h2⟩ := hu i op hge ho hog
    exact ⟨h1, fun a ha => h2 a (by rw [touchAt_of ho] at ha; exact ha)⟩

theorem RelK.other (h : RelK Wg t k r) (hu : ∀ op ∈ u, op.g ≠ k) : RelK Wg (t ++ u) k r :=
  h.app fun i op hi ho hg => by
    rcases getElem?_append_cases ho with ⟨hlt, _⟩ | ⟨_, hou⟩
    · omega
    · exact absurd hg (hu op hou)

theorem RelK.own (h : RelK Wg t k r) (fn : FuncId) (pos : String) (es : Array Event)
    (hes : ∀ j e, es[j]? = some e → (MemAct.ofEvent e).touch? = none ∨ ((∃ ad wr, e = ⟨.cell ad, wr, true⟩ ∧ ad.block = Wg) ∧ 0 < deafBehind (Deaf t k) (es.extract 0 j))) : RelK Wg (t ++ MemOp.ofEvents k fn pos es) k r := by
  refine h.app (fun i op hi ho hg => ?_)
  have hj : (MemOp.ofEvents k fn pos es)[i - t.size]? = some op := by
    rw [Array.getElem?_append] at ho
    simpa [Nat.not_lt.2 hi] using ho
  have ho' := ho
  rw [ofEvents_eq, Array.getElem?_map] at hj
  obtain ⟨e, he, rfl⟩ := Option.map_eq_some_iff.1 hj
  have hjs : i - t.size ≤ es.size := by
    rcases Nat.lt_or_ge (i - t.size) es.size with h' | h'
    · omega
    · rw [Array.getElem?_eq_none h'] at he; cases he
  rcases hes _ e he with h0 | ⟨⟨ad, wr, rfl, hb⟩, hd⟩
  · refine ⟨fun ⟨x, hx, _⟩ => ?_, fun a ha => ?_⟩
    · rw [act?_of ho', Option.bind_some] at hx
      rw [h0] at hx; cases hx
    · rw [h0] at ha; cases ha
  · have hk : ∀ x, (MemAct.ofEvent ⟨.cell ad, wr, true⟩).touch? = some x → x.loc = .cell ad ∧ x.kind = .atomic := by
      intro x hx
      cases wr <;> simp [MemAct.ofEvent, MemAct.touch?] at hx <;> subst hx <;> exact ⟨rfl, rfl⟩
    refine ⟨fun ⟨x, hx, _, hc⟩ => ?_, fun a ha => ?_⟩
    · rw [act?_of ho', Option.bind_some] at hx
      rcases hc with hc | ⟨g, hg', hdf⟩
      · exact hc (hk x hx).2
      · have hgk : g = k := by simp [Trace.g?, ho'] at hg'; exact hg'.symm
        subst hgk
        have := deaf_inside t g fn pos es (i - t.size) hjs
        rw [show t.size + (i - t.size) = i by omega, hdf] at this
        omega
    · exact ⟨⟨ad, (hk a ha).1, hb⟩, (hk a ha).2⟩

theorem RelK.new (hd : Deaf t k = 0) (fn : FuncId) (pos : String) : RelK Wg (t ++ MemOp.ofEvents k fn pos #[⟨.mark (.releaseMerge (stA Wg)), false, true⟩]) k t.size := by
  have e1 : MemOp.ofEvents k fn pos #[(⟨.mark (.releaseMerge (stA Wg)), false, true⟩ : Event)] = #[{ g := k, fn, pos, act := .mark (.releaseMerge (stA Wg)) }] := by rw [ofEvents_eq]; simp [MemAct.ofEvent]
  have hy : (t ++ #[({ g := k, fn, pos, act := .mark (.releaseMerge (stA Wg)) } : MemOp)])[t.size]? = some { g := k, fn, pos, act := .mark (.releaseMerge (stA Wg)) } := by simp
  rw [e1]
  refine ⟨by rw [act?_of hy], by simp [Trace.g?], ⟨k, by simp [Trace.g?], by rw [deaf_old (Nat.le_refl _)]; exact hd⟩, fun i hi hg => ?_⟩
  obtain ⟨op, ho, _⟩ := Option.map_eq_some_iff.1 hg
  have := lt_size_of_getElem? ho
  simp at this
  omega
end

def AcqK (Wg m0 j : Nat) (t : Trace) : Prop :=
  ∃ q, t.act? q = some (.mark (.acquire (stA Wg))) ∧ t.g? q = some 0 ∧ t.heard q ∧ ∀ k, k < j → ∃ r, RelK Wg t (m0 + k) r ∧ r < q

theorem AcqK.app {Wg m0 j : Nat} {t u : Trace} (h : AcqK Wg m0 j t) (hu : ∀ k r, k < j → RelK Wg t (m0 + k) r → RelK Wg (t ++ u) (m0 + k) r) : AcqK Wg m0 j (t ++ u) := by
  obtain ⟨q, h1, h2, h3, h4⟩ := h
  have hq := lt_of_act? h1
  exact ⟨q, by rw [act?_old hq]; exact h1, by rw [g?_old hq]; exact h2, (heard_old hq).2 h3, fun k hk => let ⟨r, hr, hrq⟩ := h4 k hk; ⟨r, hu k r hk hr, hrq⟩⟩

theorem PT.done {H : Nat → Prop} {Wg B0 : Nat} {Rd : Nat → Nat → Prop} {m0 j B : Nat} {t : Trace} (h : PT H Wg B0 Rd m0 j t) (ha : AcqK Wg m0 j t) (h0 : Deaf t 0 = 0) (hl : ∀ op ∈ t, op.act.low B) : Past (ShunH fun b => H b ∨ b = Wg) B t := by
  obtain ⟨q, q1, q2, q3, q4⟩ := ha
  obtain ⟨zq, hzq, hzg⟩ := Option.map_eq_some_iff.1 q2
  have edge : ∀ {k r : Nat}, RelK Wg t k r → r < q → HappensBefore t r q := fun hr hrq => .single (.inr ⟨.marked hrq (.inr hr.act) q1 (fun n _ _ => h.norel n), hr.heard, q3⟩)
  have before : ∀ {i k r : Nat}, RelK Wg t k r → r < q → t.g? i = some k → i ≤ r → HappensBefore t i q := fun {i k r} hr hrq hg hle => by
    rcases Nat.lt_or_ge i r with hlt | hge
    · exact .trans (.single (.inl ⟨hlt, k, hg, hr.g⟩)) (edge hr hrq)
    · obtain rfl : i = r := by omega
      exact edge hr hrq
  refine ⟨h.nr, fun i a hi hm => ?_, fun i g hg hne hc => ?_, h0, hl⟩
  · rcases h.tch i a hi hm with x | ⟨⟨b, e, hb⟩, x⟩ | ⟨k, hk, hg, hcase⟩
    · exact .inl x
    · exact .inr ⟨⟨b, e, .inl hb⟩, x⟩
    · obtain ⟨r, hr, hrq⟩ := q4 k hk
      rcases Nat.lt_or_ge r i with hlt | hge
      · obtain ⟨_, h2⟩ := hr.after i hlt hg
        obtain ⟨⟨b, e, hb⟩, h3⟩ := h2 a hi
        exact .inr ⟨⟨b, e, .inr hb⟩, h3⟩
      · exact .inl ⟨q, zq, hzq, hzg, .inr (before hr hrq hg hge)⟩
  · rcases h.over i g hg hne hc with x | ⟨k, hk, rfl⟩
    · exact x
    · obtain ⟨r, hr, hrq⟩ := q4 k hk
      rcases Nat.lt_or_ge r i with hlt | hge
      · exact absurd hc (hr.after i hlt hg).1
      · exact ⟨q, q2, before hr hrq hg hge⟩
end

section
open Go.Conc
open Go.ConcN (WgLive sumTo upd)
open Go.ConcR (KK WgAt stA smA rd wr mk DC0)

structure Ph where
  P : Program
  ty : TypeId
  /-- the group's block -/
  Wg : Nat
  n : Nat
  q : Nat
  /-- how many goroutines there were, how many blocks -/
  m0 : Nat
  B0 : Nat
  W0 : World
  /-- the channels' blocks -/
  ch : Nat → Nat
  lw : Nat → Nat
  ans : Nat → Nat → Value
  /-- the blocks that are hidden -/
  H : Nat → Prop
  /-- worker k may read block b; goroutine 0 may write block b while j are started -/
  Rd : Nat → Nat → Prop
  Mw : Nat → Nat → Prop
  Anch : Goroutine → World → Prop
  Fin : Goroutine → World → Prop

def PlainO : Obj → Prop
  | .cells .. | .chan .. => True
  | _ => False
def PlainW (B0 : Nat) (w : World) : Prop := ∀ b o, B0 ≤ b → w.heap[b]? = some o → PlainO o

structure RW (Φ : Ph) (k : Nat) (w w₁ : World) : Prop where
  rd : ∀ b, Φ.Rd k b → w₁.heap[b]? = w.heap[b]?
  live : WgLive Φ.ty Φ.Wg w → WgLive Φ.ty Φ.Wg w₁

structure RM (Φ : Ph) (j : Nat) (w w₁ : World) : Prop where
  os : w₁.os = w.os
  output : w₁.output = w.output
  size : w₁.heap.size = w.heap.size
  fix : ∀ b, b ≠ Φ.Wg → (∀ i, i < j → b ≠ Φ.ch i) → w₁.heap[b]? = w.heap[b]?
  live : WgLive Φ.ty Φ.Wg w → WgLive Φ.ty Φ.Wg w₁
  plain : PlainW Φ.B0 w → PlainW Φ.B0 w₁

def EvW (Φ : Ph) (k : Nat) (e : Event) : Prop := ∃ a, e = ⟨.cell a, false, false⟩ ∧ Φ.Rd k a.block
def DW (Φ : Ph) (k : Nat) (w w' : World) (es : Array Event) : Prop := (∃ d, w' = w.at d) ∧ ∀ e ∈ es, EvW Φ k e

def EvM (Φ : Ph) (j B : Nat) (e : Event) : Prop :=
  (∃ a wr, e = ⟨.cell a, wr, false⟩ ∧ a.block ≠ Φ.Wg ∧ ¬ Φ.H a.block ∧ a.block < B ∧ (wr = true → ∀ k, k < j → ¬ Φ.Rd k a.block)) ∨ e.loc = .mark .noRoom
structure DM (Φ : Ph) (j : Nat) (w w' : World) (es : Array Event) : Prop where
  os : w'.os = w.os
  output : w'.output = w.output
  size : w.heap.size ≤ w'.heap.size
  fix : ∀ b, b < w.heap.size → ¬ Φ.Mw j b → w'.heap[b]? = w.heap[b]?
  plain : PlainW Φ.B0 w → PlainW Φ.B0 w'
  ev : ∀ e ∈ es, EvM Φ j w'.heap.size e

section
variable (Φ : Ph)

section
variable (k : Nat)
def AtD4 (g : Goroutine) (w : World) : Prop :=
  g.status = .running ∧ mayWake Φ.P g = true ∧ (WgAt Φ.ty Φ.Wg w 0 0 → ∃ g', stepG Φ.P false g w = .go g' (w.setCell (smA Φ.Wg) (.int .u32 1)) (semEvents (smA Φ.Wg)) ∧ ∃ q, QuitsD Φ.P q 1 g')
def AtD3 (g : Goroutine) (w : World) : Prop :=
  g.status = .running ∧ (WgAt Φ.ty Φ.Wg w 1 0 → ∃ g', stepG Φ.P false g w = .go g' (w.setCell (stA Φ.Wg) (.int .u64 0)) #[wr (stA Φ.Wg)] ∧ ∃ m, Goes Φ.P false (RW Φ k) DC0 (AtD4 Φ) m g' (w.setCell (stA Φ.Wg) (.int .u64 0)))
def AtD2 (g : Goroutine) (w : World) : Prop :=
  g.status = .running ∧ (WgAt Φ.ty Φ.Wg w 1 0 → ∃ g', stepG Φ.P false g w = .go g' w #[rd (stA Φ.Wg)] ∧ ∃ m, Goes Φ.P false (RW Φ k) DC0 (AtD3 Φ k) m g' w)
def AtD1 (g : Goroutine) (w : World) : Prop :=
  g.status = .running ∧ ∀ v wt : Nat, wt ≤ 1 → v < 2147483647 → WgAt Φ.ty Φ.Wg w ((v + 1) * KK + wt) 0 →
    ∃ g', stepG Φ.P false g w = .go g' (w.setCell (stA Φ.Wg) (.int .u64 (v * KK + wt))) #[rd (stA Φ.Wg), wr (stA Φ.Wg)] ∧
      ((v = 0 ∧ wt = 1) → ∃ m, Goes Φ.P false (RW Φ k) DC0 (AtD2 Φ k) m g' (w.setCell (stA Φ.Wg) (.int .u64 (v * KK + wt)))) ∧ (¬ (v = 0 ∧ wt = 1) → ∃ q, QuitsD Φ.P q 1 g')
def AtK1 (g : Goroutine) (w : World) : Prop :=
  g.status = .running ∧ ∃ g', stepG Φ.P false g w = .go g' w #[mk .disable] ∧ ∃ m, Goes Φ.P false (RW Φ k) DC0 (AtD1 Φ k) m g' w
def AtR0 (g : Goroutine) (w : World) : Prop :=
  g.status = .running ∧ ∃ g', stepG Φ.P false g w = .go g' w #[mk (.releaseMerge (stA Φ.Wg))] ∧ ∃ m, Goes Φ.P false (RW Φ k) DC0 (AtK1 Φ k) m g' w
def AtCl (g : Goroutine) (w : World) : Prop :=
  g.status = .running ∧ mayWake Φ.P g = true ∧ ∀ buf s r, w.heap[Φ.ch k]? = some (.chan Φ.q buf false s r false) →
    ∃ g', stepG Φ.P false g w = .go g' (w.setChan (Φ.ch k) Φ.q buf true s r false) #[⟨.obj (Φ.ch k), false, true⟩, ⟨.obj (Φ.ch k), true, true⟩] ∧ g'.status = .running ∧ ∃ m, Goes Φ.P false (RW Φ k) DC0 (AtR0 Φ k) m g' (w.setChan (Φ.ch k) Φ.q buf true s r false)
def AtSnd (v : Value) (Next : Goroutine → World → Prop) (g : Goroutine) (w : World) : Prop :=
  g.status = .running ∧ ∃ z es, stepG Φ.P false g w = .comm (core g) #[scase (Φ.ch k) v z] true .send w es ∧ (∀ e ∈ es, EvW Φ k e) ∧ ∀ w₂, RW Φ k w w₂ → Next (Go.Conc.served (core g) undef) w₂
def Snds : Nat → Goroutine → World → Prop
  | 0, g, w => ∃ m, Goes Φ.P false (RW Φ k) (DW Φ k) (AtCl Φ k) m g w
  | l + 1, g, w => ∃ m, Goes Φ.P false (RW Φ k) (DW Φ k) (AtSnd Φ k (Φ.ans k (Φ.q - (l + 1))) (Snds l)) m g w
def AtSn : Nat → Goroutine → World → Prop
  | 0 => AtCl Φ k
  | l + 1 => AtSnd Φ k (Φ.ans k (Φ.q - (l + 1))) (Snds Φ k l)
end

def AtAcq (g : Goroutine) (w : World) : Prop :=
  g.status = .running ∧ ∃ g', stepG Φ.P true g w = .go g' w #[mk (.acquire (stA Φ.Wg))] ∧ ∃ m, Goes Φ.P true (RM Φ Φ.n) (DM Φ Φ.n) Φ.Fin m g' w
def AtKe (g : Goroutine) (w : World) : Prop :=
  g.status = .running ∧ ∃ g', stepG Φ.P true g w = .go g' w #[mk .enable] ∧ ∃ m, Goes Φ.P true (RM Φ Φ.n) DC0 (AtAcq Φ) m g' w
def AtW4 (g : Goroutine) (w : World) : Prop :=
  g.status = .running ∧ (WgAt Φ.ty Φ.Wg w 0 0 → ∃ g', stepG Φ.P true g w = .go g' w #[rd (stA Φ.Wg)] ∧ ∃ m, Goes Φ.P true (RM Φ Φ.n) DC0 (AtKe Φ) m g' w)
def AtW3 (g : Goroutine) (w : World) : Prop :=
  g.status = .running ∧ g.offers = none ∧
    ((∃ st, WgAt Φ.ty Φ.Wg w st 0) → stepG Φ.P true g w = .go { g with status := .blocked } w #[]) ∧
    (WgAt Φ.ty Φ.Wg w 0 1 → ∃ g', stepG Φ.P true g w = .go g' (w.setCell (smA Φ.Wg) (.int .u32 0)) (semEvents (smA Φ.Wg)) ∧ ∃ m, Goes Φ.P true (RM Φ Φ.n) DC0 (AtW4 Φ) m g' (w.setCell (smA Φ.Wg) (.int .u32 0)))
def AtWr (g : Goroutine) (w : World) : Prop :=
  g.status = .running ∧ ∃ g', stepG Φ.P true g w = .go g' w #[mk (.write (smA Φ.Wg))] ∧ ∃ m, Goes Φ.P true (RM Φ Φ.n) DC0 (AtW3 Φ) m g' w
def AtW2 (vs : Nat) (g : Goroutine) (w : World) : Prop :=
  g.status = .running ∧ ∀ v : Nat, v < 2147483648 → WgAt Φ.ty Φ.Wg w (v * KK) 0 →
    (v = vs → ∃ g', stepG Φ.P true g w = .go g' (w.setCell (stA Φ.Wg) (.int .u64 (v * KK + 1))) #[rd (stA Φ.Wg), wr (stA Φ.Wg)] ∧ ∃ m, Goes Φ.P true (RM Φ Φ.n) DC0 (AtWr Φ) m g' (w.setCell (stA Φ.Wg) (.int .u64 (v * KK + 1)))) ∧
    (v ≠ vs → ∃ g', stepG Φ.P true g w = .go g' w #[rd (stA Φ.Wg)] ∧ ∃ m, Goes Φ.P true (RM Φ Φ.n) DC0 Φ.Anch m g' w)
def AtW1 (g : Goroutine) (w : World) : Prop :=
  g.status = .running ∧ ∀ v : Nat, v < 2147483648 → WgAt Φ.ty Φ.Wg w (v * KK) 0 → ∃ g', stepG Φ.P true g w = .go g' w #[rd (stA Φ.Wg)] ∧
    (v = 0 → ∃ m, Goes Φ.P true (RM Φ Φ.n) DC0 (AtKe Φ) m g' w) ∧ (v ≠ 0 → ∃ m, Goes Φ.P true (RM Φ Φ.n) DC0 (AtW2 Φ v) m g' w)
def AtKd (g : Goroutine) (w : World) : Prop :=
  g.status = .running ∧ ∃ g', stepG Φ.P true g w = .go g' w #[mk .disable] ∧ ∃ m, Goes Φ.P true (RM Φ Φ.n) DC0 Φ.Anch m g' w

def AtGet (i : Nat) (v : Value) (Next : Goroutine → World → Prop) (g : Goroutine) (w : World) : Prop :=
  g.status = .running ∧ ∃ z es, stepG Φ.P true g w = .comm (core g) #[rcase (Φ.ch i) z] true (.recv true) w es ∧ (∀ e ∈ es, EvM Φ Φ.n w.heap.size e) ∧ ∀ w₂, RM Φ Φ.n w w₂ → Next (Go.Conc.served (core g) (.tuple #[v, .bool true])) w₂
def AtEnd (i : Nat) (Next : Goroutine → World → Prop) (g : Goroutine) (w : World) : Prop :=
  g.status = .running ∧ ∃ z es, stepG Φ.P true g w = .comm (core g) #[rcase (Φ.ch i) z] true (.recv true) w es ∧ (∀ e ∈ es, EvM Φ Φ.n w.heap.size e) ∧ ∀ w₂, RM Φ Φ.n w w₂ → Next (Go.Conc.served (core g) (.tuple #[z, .bool false])) w₂
def RvIn (After : Goroutine → World → Prop) (i : Nat) : Nat → Goroutine → World → Prop
  | 0, g, w => ∃ m, Goes Φ.P true (RM Φ Φ.n) (DM Φ Φ.n) (AtEnd Φ i After) m g w
  | l + 1, g, w => ∃ m, Goes Φ.P true (RM Φ Φ.n) (DM Φ Φ.n) (AtGet Φ i (Φ.ans i (Φ.q - (l + 1))) (RvIn After i l)) m g w
def AtRv (After : Goroutine → World → Prop) (i : Nat) : Nat → Goroutine → World → Prop
  | 0 => AtEnd Φ i After
  | l + 1 => AtGet Φ i (Φ.ans i (Φ.q - (l + 1))) (RvIn Φ After i l)
def RvAll : Nat → Goroutine → World → Prop
  | 0, g, w => ∃ m, Goes Φ.P true (RM Φ Φ.n) (DM Φ Φ.n) (AtKd Φ) m g w
  | c + 1, g, w => RvIn Φ (RvAll c) (Φ.n - (c + 1)) Φ.q g w

def AtGoS (j : Nat) (Next : Goroutine → World → Prop) (g : Goroutine) (w : World) : Prop :=
  g.status = .running ∧ ∃ g' child, stepG Φ.P true g w = .spawn g' child w #[] ∧ child.status = .running ∧ w.heap[Φ.ch j]? = some (.chan Φ.q #[] false 0 0 false) ∧ Φ.lw j ≤ w.heap.size ∧ Snds Φ j Φ.q child w ∧ Next g' w
def AtKeS (j : Nat) (Next : Goroutine → World → Prop) (g : Goroutine) (w : World) : Prop :=
  g.status = .running ∧ ∃ g', stepG Φ.P true g w = .go g' w #[mk .enable] ∧ ∃ m, Goes Φ.P true (RM Φ j) (DM Φ j) (AtGoS Φ j Next) m g' w
def AtRdS (j : Nat) (Next : Goroutine → World → Prop) (g : Goroutine) (w : World) : Prop :=
  g.status = .running ∧ ∃ g', stepG Φ.P true g w = .go g' w #[mk (.read (smA Φ.Wg))] ∧ ∃ m, Goes Φ.P true (RM Φ j) DC0 (AtKeS Φ j Next) m g' w
def AtA1 (j : Nat) (Next : Goroutine → World → Prop) (g : Goroutine) (w : World) : Prop :=
  g.status = .running ∧ ∀ v : Nat, v < 2147483647 → WgAt Φ.ty Φ.Wg w (v * KK) 0 →
    ∃ g', stepG Φ.P true g w = .go g' (w.setCell (stA Φ.Wg) (.int .u64 ((v + 1) * KK))) #[rd (stA Φ.Wg), wr (stA Φ.Wg)] ∧
      (v = 0 → ∃ m, Goes Φ.P true (RM Φ j) DC0 (AtRdS Φ j Next) m g' (w.setCell (stA Φ.Wg) (.int .u64 ((v + 1) * KK)))) ∧ (v ≠ 0 → ∃ m, Goes Φ.P true (RM Φ j) DC0 (AtKeS Φ j Next) m g' (w.setCell (stA Φ.Wg) (.int .u64 ((v + 1) * KK))))
def AtKdS (j : Nat) (Next : Goroutine → World → Prop) (g : Goroutine) (w : World) : Prop :=
  g.status = .running ∧ ∃ g', stepG Φ.P true g w = .go g' w #[mk .disable] ∧ ∃ m, Goes Φ.P true (RM Φ j) DC0 (AtA1 Φ j Next) m g' w
def Spawns : Nat → Goroutine → World → Prop
  | 0, g, w => RvAll Φ Φ.n g w
  | r + 1, g, w => ∃ m, Goes Φ.P true (RM Φ (Φ.n - (r + 1))) (DM Φ (Φ.n - (r + 1))) (AtKdS Φ (Φ.n - (r + 1)) (Spawns r)) m g w

inductive WSit (k : Nat) : Nat → Nat → Nat → Goroutine → World → Prop
  | snd {l m : Nat} {g : Goroutine} {w : World} : l ≤ Φ.q → Goes Φ.P false (RW Φ k) (DW Φ k) (AtSn Φ k l) m g w → WSit k (8 + l) m 0 g w
  | r0 {m : Nat} {g : Goroutine} {w : World} : Goes Φ.P false (RW Φ k) DC0 (AtR0 Φ k) m g w → WSit k 7 m 0 g w
  | k1 {m : Nat} {g : Goroutine} {w : World} : Goes Φ.P false (RW Φ k) DC0 (AtK1 Φ k) m g w → WSit k 6 m 0 g w
  | d1 {m : Nat} {g : Goroutine} {w : World} : Goes Φ.P false (RW Φ k) DC0 (AtD1 Φ k) m g w → WSit k 5 m 1 g w
  | d2 {m : Nat} {g : Goroutine} {w : World} : Goes Φ.P false (RW Φ k) DC0 (AtD2 Φ k) m g w → WSit k 4 m 1 g w
  | d3 {m : Nat} {g : Goroutine} {w : World} : Goes Φ.P false (RW Φ k) DC0 (AtD3 Φ k) m g w → WSit k 3 m 1 g w
  | d4 {m : Nat} {g : Goroutine} {w : World} : Goes Φ.P false (RW Φ k) DC0 (AtD4 Φ) m g w → WSit k 2 m 1 g w
  | quit {q d : Nat} {g : Goroutine} {w : World} : QuitsD Φ.P q d g → WSit k 1 q d g w

inductive Tag where
  | sp (r s : Nat) | rv (c l : Nat) | pk (c l : Nat) | kd | anch | w1 | w2 (vs : Nat) | wr | w3 | blk | w4 | ke | acq | fin

def phi (n q v : Nat) : Tag → Nat
  | .sp r s => 8 * n + 9 + (n + 1) * (q + 2) + (q + 32) * (r + 1) + s
  | .rv c l | .pk c l => 8 * n + 9 + c * (q + 2) + l
  | .kd => 8 * n + 8
  | .anch => 8 * v + 7
  | .w1 => 8 * v + 6
  | .w2 vs => 8 * vs + 5
  | .wr => 6
  | .w3 | .blk => 5
  | .w4 => 4
  | .ke => 3
  | .acq => 2
  | .fin => 1

inductive CSit : Tag → Nat → Nat → Nat → Goroutine → World → Prop
  | skd {r m : Nat} {g : Goroutine} {w : World} : r < Φ.n → Goes Φ.P true (RM Φ (Φ.n - (r + 1))) (DM Φ (Φ.n - (r + 1))) (AtKdS Φ (Φ.n - (r + 1)) (Spawns Φ r)) m g w → CSit (.sp r 6) (Φ.n - (r + 1)) m 0 g w
  | sa1 {r m : Nat} {g : Goroutine} {w : World} : r < Φ.n → Goes Φ.P true (RM Φ (Φ.n - (r + 1))) DC0 (AtA1 Φ (Φ.n - (r + 1)) (Spawns Φ r)) m g w → CSit (.sp r 5) (Φ.n - (r + 1)) m 1 g w
  | srd {r m : Nat} {g : Goroutine} {w : World} : r < Φ.n → Goes Φ.P true (RM Φ (Φ.n - (r + 1))) DC0 (AtRdS Φ (Φ.n - (r + 1)) (Spawns Φ r)) m g w → CSit (.sp r 4) (Φ.n - (r + 1)) m 1 g w
  | ske {r m : Nat} {g : Goroutine} {w : World} : r < Φ.n → Goes Φ.P true (RM Φ (Φ.n - (r + 1))) DC0 (AtKeS Φ (Φ.n - (r + 1)) (Spawns Φ r)) m g w → CSit (.sp r 3) (Φ.n - (r + 1)) m 1 g w
  | sgo {r m : Nat} {g : Goroutine} {w : World} : r < Φ.n → Goes Φ.P true (RM Φ (Φ.n - (r + 1))) (DM Φ (Φ.n - (r + 1))) (AtGoS Φ (Φ.n - (r + 1)) (Spawns Φ r)) m g w → CSit (.sp r 2) (Φ.n - (r + 1)) m 0 g w
  | rv {c l m : Nat} {g : Goroutine} {w : World} : c < Φ.n → l ≤ Φ.q → Goes Φ.P true (RM Φ Φ.n) (DM Φ Φ.n) (AtRv Φ (RvAll Φ c) (Φ.n - (c + 1)) l) m g w → CSit (.rv (c + 1) l) Φ.n (m + 1) 0 g w
  | pk {c l : Nat} {g : Goroutine} {z : Value} {w : World} : c < Φ.n → l ≤ Φ.q → (∀ w₁, RM Φ Φ.n w w₁ → AtRv Φ (RvAll Φ c) (Φ.n - (c + 1)) l g w₁) → CSit (.pk (c + 1) l) Φ.n 0 0 (parked (core g) #[rcase (Φ.ch (Φ.n - (c + 1))) z] (.recv true)) w
  | kd {m : Nat} {g : Goroutine} {w : World} : Goes Φ.P true (RM Φ Φ.n) (DM Φ Φ.n) (AtKd Φ) m g w → CSit .kd Φ.n m 0 g w
  | anch {m : Nat} {g : Goroutine} {w : World} : Goes Φ.P true (RM Φ Φ.n) DC0 Φ.Anch m g w → CSit .anch Φ.n m 1 g w
  | w1 {m : Nat} {g : Goroutine} {w : World} : Goes Φ.P true (RM Φ Φ.n) DC0 (AtW1 Φ) m g w → CSit .w1 Φ.n m 1 g w
  | w2 {vs m : Nat} {g : Goroutine} {w : World} : Goes Φ.P true (RM Φ Φ.n) DC0 (AtW2 Φ vs) m g w → CSit (.w2 vs) Φ.n m 1 g w
  | wr {m : Nat} {g : Goroutine} {w : World} : Goes Φ.P true (RM Φ Φ.n) DC0 (AtWr Φ) m g w → CSit .wr Φ.n m 1 g w
  | w3 {m : Nat} {g : Goroutine} {w : World} : Goes Φ.P true (RM Φ Φ.n) DC0 (AtW3 Φ) m g w → CSit .w3 Φ.n (m + 1) 1 g w
  | blk {g : Goroutine} {w : World} : (∀ w₁, RM Φ Φ.n w w₁ → AtW3 Φ g w₁) → CSit .blk Φ.n 0 1 { g with status := .blocked } w
  | w4 {m : Nat} {g : Goroutine} {w : World} : Goes Φ.P true (RM Φ Φ.n) DC0 (AtW4 Φ) m g w → CSit .w4 Φ.n m 1 g w
  | ke {m : Nat} {g : Goroutine} {w : World} : Goes Φ.P true (RM Φ Φ.n) DC0 (AtKe Φ) m g w → CSit .ke Φ.n m 1 g w
  | acq {m : Nat} {g : Goroutine} {w : World} : Goes Φ.P true (RM Φ Φ.n) DC0 (AtAcq Φ) m g w → CSit .acq Φ.n m 0 g w
  | fin {m : Nat} {g : Goroutine} {w : World} : Goes Φ.P true (RM Φ Φ.n) (DM Φ Φ.n) Φ.Fin m g w → CSit .fin Φ.n m 0 g w

structure WD where
  stage : Nat
  fuel : Nat
  deaf : Nat
def cntD (d : WD) : Nat := if 5 ≤ d.stage then 1 else 0
def Vc (j : Nat) (D : Nat → WD) : Nat := sumTo j fun i => cntD (D i)
def Ssum (j : Nat) (D : Nat → WD) : Nat := sumTo j fun i => (D i).stage
def Fsum (j : Nat) (D : Nat → WD) : Nat := sumTo j fun i => (D i).fuel
def pend : Tag → Nat
  | .sp _ s => if s ≤ 4 then 1 else 0
  | _ => 0
def isOpen : Tag → Prop
  | .sp _ _ | .rv _ _ | .pk _ _ | .kd | .anch | .w1 | .w2 _ => True
  | _ => False
def isW3 : Tag → Prop
  | .wr | .w3 | .blk => True
  | _ => False
def isUp : Tag → Prop
  | .wr | .w3 => True
  | _ => False
def isFin : Tag → Prop
  | .w4 | .ke | .acq | .fin => True
  | _ => False
def OpenSt (j : Nat) (D : Nat → WD) : Prop := ∀ i, i < j → 5 ≤ (D i).stage ∨ (D i).stage = 1
def AllQuit (j : Nat) (D : Nat → WD) : Prop := ∀ i, i < j → (D i).stage = 1

inductive Mode (j : Nat) (D : Nat → WD) : Tag → Int → Int → Prop
  | opn {tag : Tag} : isOpen tag → OpenSt j D → (∀ vs, tag = .w2 vs → Vc j D ≤ vs ∧ 1 ≤ vs) → Mode j D tag (((Vc j D + pend tag : Nat) : Int) * KK) 0
  | reg {tag : Tag} : isW3 tag → OpenSt j D → 1 ≤ Vc j D → Mode j D tag (((Vc j D : Nat) : Int) * KK + 1) 0
  | last {tag : Tag} (L : Nat) : isW3 tag → L < j → ((D L).stage = 4 ∨ (D L).stage = 3 ∨ (D L).stage = 2) → (∀ i, i < j → i ≠ L → (D i).stage = 1) → Mode j D tag (if (D L).stage = 2 then 0 else 1) 0
  | sema {tag : Tag} : isUp tag → AllQuit j D → Mode j D tag 0 1
  | fin {tag : Tag} : isFin tag → AllQuit j D → Mode j D tag 0 0

def sent (q : Nat) (d : WD) : Nat := q - (d.stage - 8)
def rcvd (n q : Nat) : Tag → Nat → Nat
  | .sp _ _, _ => 0
  | .rv c l, i | .pk c l, i => if i < n - c then q else if i = n - c then q - l else 0
  | _, _ => q
def bufOf (ans : Nat → Value) (r s : Nat) : Array Value := ((List.range' r (s - r)).map ans).toArray
structure Chans (j : Nat) (D : Nat → WD) (tag : Tag) (w : World) : Prop where
  at' : ∀ i, i < j → w.heap[Φ.ch i]? = some (.chan Φ.q (bufOf (Φ.ans i) (rcvd Φ.n Φ.q tag i) (sent Φ.q (D i))) (decide ((D i).stage ≤ 7)) (sent Φ.q (D i)) (rcvd Φ.n Φ.q tag i) false) ∧ rcvd Φ.n Φ.q tag i ≤ sent Φ.q (D i)
  pk : ∀ c l, tag = .pk c l → 8 ≤ (D (Φ.n - c)).stage ∧ sent Φ.q (D (Φ.n - c)) = Φ.q - l

structure Com (j : Nat) (gs : Array Goroutine) (w : World) (t : Trace) (D : Nat → WD) (d0 : Nat) (qs : Nat → Nat) : Prop where
  size : gs.size = Φ.m0 + j
  wk : ∀ i, i < j → ∃ g, gs[Φ.m0 + i]? = some g ∧ WSit Φ i (D i).stage (D i).fuel (D i).deaf g w
  old : ∀ i, 0 < i → i < Φ.m0 → ∃ g, gs[i]? = some g ∧ QuitsD Φ.P (qs i) (Deaf t i) g
  above : ∀ i, Φ.m0 + j ≤ i → Deaf t i = 0
  pt : PT Φ.H Φ.Wg Φ.B0 Φ.Rd Φ.m0 j t
  deaf0 : Deaf t 0 = d0
  deafW : ∀ i, i < j → Deaf t (Φ.m0 + i) = (D i).deaf
  rel : ∀ i, i < j → (D i).stage ≤ 6 → ∃ r, RelK Φ.Wg t (Φ.m0 + i) r
  low : ∀ op ∈ t, op.act.low w.heap.size
  rdl : ∀ i, i < j → Φ.lw i ≤ w.heap.size
  os : w.os = Φ.W0.os
  output : w.output = Φ.W0.output
  oldw : ∀ b, b < Φ.B0 → w.heap[b]? = Φ.W0.heap[b]?
  bsz : Φ.B0 ≤ w.heap.size
  plain : PlainW Φ.B0 w

def Inv (μ : Nat × Nat) (m : Machine) (t : Trace) : Prop :=
  ∃ (gs : Array Goroutine) (w : World) (sl : Option (Nat × Nat)) (j : Nat) (D : Nat → WD) (tag : Tag) (f0 d0 : Nat) (qs : Nat → Nat) (a : Goroutine) (st sm : Int),
    m = crowd gs w sl ∧ gs[0]? = some a ∧ CSit Φ tag j f0 d0 a w ∧ Com Φ j gs w t D d0 qs ∧ WgAt Φ.ty Φ.Wg w st sm ∧ Mode j D tag st sm ∧ Chans Φ j D tag w ∧
    (tag = .fin → AcqK Φ.Wg Φ.m0 j t) ∧ μ = (phi Φ.n Φ.q (Vc j D) tag + Ssum j D, f0 + 2 * Fsum j D + 2 * sumTo Φ.m0 qs)

structure Ph.Ok : Prop where
  lies : Lies Φ.H Φ.Wg Φ.B0 Φ.Rd
  rdCh : ∀ k b i, Φ.Rd k b → b ≠ Φ.ch i
  rdMw : ∀ k j b, k < j → Φ.Rd k b → ¬ Φ.Mw j b
  rdLow : ∀ k b, Φ.Rd k b → b < Φ.lw k
  chInj : ∀ i i', i < Φ.n → i' < Φ.n → Φ.ch i = Φ.ch i' → i = i'
  chWg : ∀ i, Φ.ch i ≠ Φ.Wg
  chB : ∀ i, Φ.B0 ≤ Φ.ch i
  chLow : ∀ i, Φ.ch i < Φ.lw i
  mwWg : ∀ j, ¬ Φ.Mw j Φ.Wg
  mwCh : ∀ i j, i < j → ¬ Φ.Mw j (Φ.ch i)
  mwB : ∀ j b, Φ.Mw j b → Φ.B0 ≤ b
  hn : Φ.n < 2147483648
  n1 : 0 < Φ.n
  m0 : 0 < Φ.m0
  anch : ∀ g w, Φ.Anch g w → g.status = .running ∧ ∃ m, Goes Φ.P true (RM Φ Φ.n) DC0 (AtW1 Φ) m g w
  fin : ∀ g w, Φ.Fin g w → g.status = .running
end
end

end Go.Proofs.YtfiaiephbemdoaaDoor
