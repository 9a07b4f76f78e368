/-
  What the laws of this claim lean on: what functions of the program and of the model answer, one after another, and plain mathematics. No condition.
-/
import Derived.Test.YtfiaiephbemdoaaDoorMgB

set_option maxHeartbeats 800000
set_option linter.unusedVariables false
set_option linter.unusedSimpArgs false
set_option linter.unnecessarySimpa false
set_option maxRecDepth 100000

namespace Go.Proofs.YtfiaiephbemdoaaDoor

section
open Go.Conc

section
variable {T : Two} {α β : Type}

theorem simP_program {φ : α → Prop} {k k' : Program → Sem α} (h : SimP T φ (k T.pr) (k' T.P)) : SimP T φ (program >>= k) (program >>= k') := h

def okNext (T : Two) : Next → Prop
  | .value _ | .skip => True
  | .enter f _ => ∃ fn, T.pr.funcs[f]? = some fn ∧ T.P.funcs[f]? = some fn ∧ fn.body.isSome = true
  | .round _ f _ a b => T.okC f a b
  | _ => False

theorem struck_dies (K : Kin T) (f : Nat) (args : Array Value) (hf : T.pr.funcs[f]? = some struckFn) (w : World) : ∃ x, (callFunc f args).run T.pr w = .halt x w ∧ okHalt T x := by
  have e1 : (struckFn.name == "runtime.NumGoroutine") = false := by kernel_rfl
  have e2 : struckFn.body = none := rfl
  have e3 : Extern.findNext struckFn = none := by kernel_rfl
  have e4 : Extern.find struckFn = none := by kernel_rfl
  have e5 : (struckFn.name.endsWith ".init" && !struckFn.name.startsWith "(" && !struckFn.name.startsWith "gosem.") = false := by kernel_rfl
  refine ⟨.unsupported (.extern struckFn.name), ?_, trivial⟩
  unfold callFunc
  simp only [program, bind, Sem.bind, Sem.run, hf, e1, e2, e3, e4, e5, Bool.false_eq_true, if_false, Option.isNone_none, if_true, mark, unsupported]

theorem sim_callFunc (K : Kin T) (f : FuncId) (args : Array Value) : SimP T (okNext T) (callFunc f args) (callFunc f args) := by
  cases hf : T.pr.funcs[f]? with
  | none =>
    intro H w W hr _
    have : (callFunc f args).run T.pr w = .halt (.stuck "call: no such function") w := by
      unfold callFunc
      simp only [program, bind, Sem.bind, Sem.run, hf, stuck]
    rw [this]; exact ⟨trivial, hr.ok⟩
  | some fn =>
    rcases K.funcs f fn hf with rfl | ⟨h1, h2, h3⟩
    · intro H w W hr _
      obtain ⟨x, e, hx⟩ := struck_dies K f args hf w
      rw [e]
      exact ⟨hx, hr.ok⟩
    · have h2' : fn.body.isNone = false := by cases hb : fn.body <;> simp_all
      have h3' : (fn.name == "runtime.NumGoroutine") = false := by simpa using h3
      have r1 : ∀ (p : Program), p.funcs[f]? = some fn → ∀ w, (callFunc f args).run p w = .ok (.enter f args) w := by
        intro p hp w
        unfold callFunc
        simp only [program, bind, Sem.bind, Sem.run, hp, h2', h3', Bool.false_eq_true, if_false, pure]
      have r2 : ∀ (p : Program), p.funcs[f]? = some fn → ∀ w, (callFunc f args).events p w #[] = #[] := by
        intro p hp w
        unfold callFunc Sem.events
        simp only [program, bind, Sem.bind, Sem.runT, hp, h2', h3', Bool.false_eq_true, if_false, pure]
      intro H w W h _
      rw [r1 _ hf, r1 _ h1, r2 _ h1]
      exact ⟨W, rfl, Like.refl h, fn, hf, h1, h2⟩

theorem sim_ssaWrapNilChk (K : Kin T) (ts : Array TypeId) (t : TypeId) (vs : Array Value) : Sim T (Builtin.ssaWrapNilChk_ ts t vs) (Builtin.ssaWrapNilChk_ ts t vs) := by
  obtain ⟨l⟩ := vs
  rcases l with _ | ⟨p, _ | ⟨a, _ | ⟨b, _ | ⟨x, r⟩⟩⟩⟩
  · exact sim_stuck _ _
  · exact sim_stuck _ _
  · cases a <;> exact sim_stuck _ _
  · cases a <;> try exact sim_stuck _ _
    cases b <;> try exact sim_stuck _ _
    cases p <;> try exact sim_stuck _ _
    rename_i q
    cases q with
    | some ad => exact sim_pure _
    | none =>
      refine Sim.bind (s := choose (.extern "ssa:wrapnilchk.dereferenced" 2)) (s' := choose (.extern "ssa:wrapnilchk.dereferenced" 2)) (sim_choose _) fun d => ?_
      repeat' (first | with_reducible exact sim_pure _ | with_reducible exact sim_stuck _ _ | with_reducible exact sim_unsupported _ _ | with_reducible exact sim_load _ _ | with_reducible exact sim_store _ _ _ | (with_reducible refine Sim.look (fun o _ => ?_) (fun a u b => ?_) (fun o hx => ?_)) | with_reducible exact sim_choose _ | with_reducible exact sim_askRoom _ | with_reducible exact sim_typeInfo K _ | with_reducible exact sim_underlying K _ | with_reducible exact sim_sizeOf K _ | with_reducible exact sim_zeroValue K _ | with_reducible exact sim_isAgg K _ | with_reducible exact sim_elemOf K _ | with_reducible exact sim_loadCells K _ _ | with_reducible exact sim_storeCells K _ _ _ | with_reducible exact sim_newRow K _ _ | with_reducible exact sim_newVar K _ _ | with_reducible exact sim_loadVar K _ _ | with_reducible exact sim_storeVar K _ _ _ | with_reducible exact sim_part K _ _ _ | with_reducible exact sim_runtimePanic K _ _ | with_reducible exact sim_boundsPanic K _ _ _ _ | with_reducible exact sim_asIntOf K _ | with_reducible exact sim_asInt K _ | with_reducible exact sim_asBool K _ | with_reducible exact sim_asString K _ | with_reducible exact sim_asAgg K _ | with_reducible exact sim_asAddr K _ | with_reducible exact sim_alloc K _ _ _ | with_reducible exact sim_sureAddr K _ | with_reducible exact sim_loadAt K _ _ | with_reducible exact sim_storeAt K _ _ _ | with_reducible exact sim_indexAt K _ _ _ | with_reducible exact sim_sliceBound K _ _ _ | with_reducible exact sim_sliceBounds K _ _ _ _ _ _ | with_reducible exact sim_slice K _ _ _ _ _ | with_reducible exact sim_sliceAt K _ _ _ _ _ | with_reducible exact sim_box K _ _ | with_reducible exact sim_buildSlice K _ _ _ | with_reducible exact sim_field K _ _ _ | with_reducible exact sim_index K _ _ _ | with_reducible exact sim_makeSlice K _ _ _ | with_reducible exact sim_makeFunc K _ _ _ | with_reducible exact sim_extract K _ _ | with_reducible exact sim_makeInterface K _ _ | with_reducible exact sim_len K _ _ _ | with_reducible exact sim_cap K _ _ _ | with_reducible exact sim_lenOf K _ | with_reducible exact sim_firstCells K _ _ _ | with_reducible exact sim_copy K _ _ _ | with_reducible exact sim_noView K _ | with_reducible exact sim_numberAt K _ | with_reducible exact sim_byteOf K _ | with_reducible exact sim_partAt K _ _ _ | with_reducible exact sim_fieldPlace K _ _ | with_reducible exact sim_fieldAt K _ _ _ | with_reducible exact sim_clear K _ _ _ | with_reducible exact sim_intArith K _ _ _ _ | with_reducible exact sim_intDiv K _ _ _ _ | with_reducible exact sim_intBits K _ _ _ _ | with_reducible exact sim_intCmp K _ _ _ | with_reducible exact sim_shift K _ _ _ _ _ | with_reducible exact sim_stringOp K _ _ _ | with_reducible exact sim_floatArith K _ _ _ _ | with_reducible exact sim_floatCmp K _ _ _ _ | with_reducible exact sim_unary K _ _ | with_reducible exact sim_min2 K _ _ | with_reducible exact sim_max2 K _ _ | with_reducible exact sim_intToInt K _ _ | with_reducible exact sim_append K _ _ _ | with_reducible refine Sim.bind ?_ (fun _ => ?_) | with_reducible refine Sim.map ?_ | (with_reducible refine sim_ite (fun _ => ?_) (fun _ => ?_)) | dsimp only | (exact sim_stuck _ _) | split)
  · cases a <;> exact sim_stuck _ _
theorem sim_get (K : Kin T) (t : TypeId) (x : Place) : Sim T (x.get t) (x.get t) := by
  cases x with
  | val v => exact sim_pure _
  | var a => exact sim_loadVar K _ _
theorem sim_follow (K : Kin T) : ∀ (l : List FieldStep) (t : TypeId) (x : Place), Sim T (Go.follow l t x) (Go.follow l t x)
  | [], t, x => sim_pure _
  | s :: rest, t, x => by
    have ih := sim_follow K rest
    unfold Go.follow
    repeat' (first | with_reducible exact sim_pure _ | with_reducible exact sim_stuck _ _ | with_reducible exact sim_unsupported _ _ | with_reducible exact sim_load _ _ | with_reducible exact sim_store _ _ _ | (with_reducible refine Sim.look (fun o _ => ?_) (fun a u b => ?_) (fun o hx => ?_)) | with_reducible exact sim_choose _ | with_reducible exact sim_askRoom _ | with_reducible exact sim_typeInfo K _ | with_reducible exact sim_underlying K _ | with_reducible exact sim_sizeOf K _ | with_reducible exact sim_zeroValue K _ | with_reducible exact sim_isAgg K _ | with_reducible exact sim_elemOf K _ | with_reducible exact sim_loadCells K _ _ | with_reducible exact sim_storeCells K _ _ _ | with_reducible exact sim_newRow K _ _ | with_reducible exact sim_newVar K _ _ | with_reducible exact sim_loadVar K _ _ | with_reducible exact sim_storeVar K _ _ _ | with_reducible exact sim_part K _ _ _ | with_reducible exact sim_runtimePanic K _ _ | with_reducible exact sim_boundsPanic K _ _ _ _ | with_reducible exact sim_asIntOf K _ | with_reducible exact sim_asInt K _ | with_reducible exact sim_asBool K _ | with_reducible exact sim_asString K _ | with_reducible exact sim_asAgg K _ | with_reducible exact sim_asAddr K _ | with_reducible exact sim_alloc K _ _ _ | with_reducible exact sim_sureAddr K _ | with_reducible exact sim_loadAt K _ _ | with_reducible exact sim_storeAt K _ _ _ | with_reducible exact sim_indexAt K _ _ _ | with_reducible exact sim_sliceBound K _ _ _ | with_reducible exact sim_sliceBounds K _ _ _ _ _ _ | with_reducible exact sim_slice K _ _ _ _ _ | with_reducible exact sim_sliceAt K _ _ _ _ _ | with_reducible exact sim_box K _ _ | with_reducible exact sim_buildSlice K _ _ _ | with_reducible exact sim_field K _ _ _ | with_reducible exact sim_index K _ _ _ | with_reducible exact sim_makeSlice K _ _ _ | with_reducible exact sim_makeFunc K _ _ _ | with_reducible exact sim_extract K _ _ | with_reducible exact sim_makeInterface K _ _ | with_reducible exact sim_len K _ _ _ | with_reducible exact sim_cap K _ _ _ | with_reducible exact sim_lenOf K _ | with_reducible exact sim_firstCells K _ _ _ | with_reducible exact sim_copy K _ _ _ | with_reducible exact sim_noView K _ | with_reducible exact sim_numberAt K _ | with_reducible exact sim_byteOf K _ | with_reducible exact sim_partAt K _ _ _ | with_reducible exact sim_fieldPlace K _ _ | with_reducible exact sim_fieldAt K _ _ _ | with_reducible exact sim_clear K _ _ _ | with_reducible exact sim_intArith K _ _ _ _ | with_reducible exact sim_intDiv K _ _ _ _ | with_reducible exact sim_intBits K _ _ _ _ | with_reducible exact sim_intCmp K _ _ _ | with_reducible exact sim_shift K _ _ _ _ _ | with_reducible exact sim_stringOp K _ _ _ | with_reducible exact sim_floatArith K _ _ _ _ | with_reducible exact sim_floatCmp K _ _ _ _ | with_reducible exact sim_unary K _ _ | with_reducible exact sim_min2 K _ _ | with_reducible exact sim_max2 K _ _ | with_reducible exact sim_intToInt K _ _ | with_reducible exact sim_append K _ _ _ | with_reducible exact sim_ssaWrapNilChk K _ _ _ | with_reducible exact sim_get K _ _ | exact ih _ _ | with_reducible refine Sim.bind ?_ (fun _ => ?_) | with_reducible refine Sim.map ?_ | (with_reducible refine sim_ite (fun _ => ?_) (fun _ => ?_)) | dsimp only | (exact sim_stuck _ _) | split)
theorem sim_receiverAt (K : Kin T) (t : TypeId) (x : Place) (b : Bool) (n : Option String) : Sim T (Go.receiverAt t x b n) (Go.receiverAt t x b n) := by
  unfold Go.receiverAt
  repeat' (first | with_reducible exact sim_pure _ | with_reducible exact sim_stuck _ _ | with_reducible exact sim_unsupported _ _ | with_reducible exact sim_load _ _ | with_reducible exact sim_store _ _ _ | (with_reducible refine Sim.look (fun o _ => ?_) (fun a u b => ?_) (fun o hx => ?_)) | with_reducible exact sim_choose _ | with_reducible exact sim_askRoom _ | with_reducible exact sim_typeInfo K _ | with_reducible exact sim_underlying K _ | with_reducible exact sim_sizeOf K _ | with_reducible exact sim_zeroValue K _ | with_reducible exact sim_isAgg K _ | with_reducible exact sim_elemOf K _ | with_reducible exact sim_loadCells K _ _ | with_reducible exact sim_storeCells K _ _ _ | with_reducible exact sim_newRow K _ _ | with_reducible exact sim_newVar K _ _ | with_reducible exact sim_loadVar K _ _ | with_reducible exact sim_storeVar K _ _ _ | with_reducible exact sim_part K _ _ _ | with_reducible exact sim_runtimePanic K _ _ | with_reducible exact sim_boundsPanic K _ _ _ _ | with_reducible exact sim_asIntOf K _ | with_reducible exact sim_asInt K _ | with_reducible exact sim_asBool K _ | with_reducible exact sim_asString K _ | with_reducible exact sim_asAgg K _ | with_reducible exact sim_asAddr K _ | with_reducible exact sim_alloc K _ _ _ | with_reducible exact sim_sureAddr K _ | with_reducible exact sim_loadAt K _ _ | with_reducible exact sim_storeAt K _ _ _ | with_reducible exact sim_indexAt K _ _ _ | with_reducible exact sim_sliceBound K _ _ _ | with_reducible exact sim_sliceBounds K _ _ _ _ _ _ | with_reducible exact sim_slice K _ _ _ _ _ | with_reducible exact sim_sliceAt K _ _ _ _ _ | with_reducible exact sim_box K _ _ | with_reducible exact sim_buildSlice K _ _ _ | with_reducible exact sim_field K _ _ _ | with_reducible exact sim_index K _ _ _ | with_reducible exact sim_makeSlice K _ _ _ | with_reducible exact sim_makeFunc K _ _ _ | with_reducible exact sim_extract K _ _ | with_reducible exact sim_makeInterface K _ _ | with_reducible exact sim_len K _ _ _ | with_reducible exact sim_cap K _ _ _ | with_reducible exact sim_lenOf K _ | with_reducible exact sim_firstCells K _ _ _ | with_reducible exact sim_copy K _ _ _ | with_reducible exact sim_noView K _ | with_reducible exact sim_numberAt K _ | with_reducible exact sim_byteOf K _ | with_reducible exact sim_partAt K _ _ _ | with_reducible exact sim_fieldPlace K _ _ | with_reducible exact sim_fieldAt K _ _ _ | with_reducible exact sim_clear K _ _ _ | with_reducible exact sim_intArith K _ _ _ _ | with_reducible exact sim_intDiv K _ _ _ _ | with_reducible exact sim_intBits K _ _ _ _ | with_reducible exact sim_intCmp K _ _ _ | with_reducible exact sim_shift K _ _ _ _ _ | with_reducible exact sim_stringOp K _ _ _ | with_reducible exact sim_floatArith K _ _ _ _ | with_reducible exact sim_floatCmp K _ _ _ _ | with_reducible exact sim_unary K _ _ | with_reducible exact sim_min2 K _ _ | with_reducible exact sim_max2 K _ _ | with_reducible exact sim_intToInt K _ _ | with_reducible exact sim_append K _ _ _ | with_reducible exact sim_ssaWrapNilChk K _ _ _ | with_reducible exact sim_get K _ _ | with_reducible exact sim_follow K _ _ _ | with_reducible refine Sim.bind ?_ (fun _ => ?_) | with_reducible refine Sim.map ?_ | (with_reducible refine sim_ite (fun _ => ?_) (fun _ => ?_)) | dsimp only | (exact sim_stuck _ _) | split)
theorem sim_receiverVia (K : Kin T) (t : TypeId) (v : Value) (p : Array FieldStep) (b : Bool) : Sim T (Go.receiverVia t v p b) (Go.receiverVia t v p b) := by
  unfold Go.receiverVia
  repeat' (first | with_reducible exact sim_pure _ | with_reducible exact sim_stuck _ _ | with_reducible exact sim_unsupported _ _ | with_reducible exact sim_load _ _ | with_reducible exact sim_store _ _ _ | (with_reducible refine Sim.look (fun o _ => ?_) (fun a u b => ?_) (fun o hx => ?_)) | with_reducible exact sim_choose _ | with_reducible exact sim_askRoom _ | with_reducible exact sim_typeInfo K _ | with_reducible exact sim_underlying K _ | with_reducible exact sim_sizeOf K _ | with_reducible exact sim_zeroValue K _ | with_reducible exact sim_isAgg K _ | with_reducible exact sim_elemOf K _ | with_reducible exact sim_loadCells K _ _ | with_reducible exact sim_storeCells K _ _ _ | with_reducible exact sim_newRow K _ _ | with_reducible exact sim_newVar K _ _ | with_reducible exact sim_loadVar K _ _ | with_reducible exact sim_storeVar K _ _ _ | with_reducible exact sim_part K _ _ _ | with_reducible exact sim_runtimePanic K _ _ | with_reducible exact sim_boundsPanic K _ _ _ _ | with_reducible exact sim_asIntOf K _ | with_reducible exact sim_asInt K _ | with_reducible exact sim_asBool K _ | with_reducible exact sim_asString K _ | with_reducible exact sim_asAgg K _ | with_reducible exact sim_asAddr K _ | with_reducible exact sim_alloc K _ _ _ | with_reducible exact sim_sureAddr K _ | with_reducible exact sim_loadAt K _ _ | with_reducible exact sim_storeAt K _ _ _ | with_reducible exact sim_indexAt K _ _ _ | with_reducible exact sim_sliceBound K _ _ _ | with_reducible exact sim_sliceBounds K _ _ _ _ _ _ | with_reducible exact sim_slice K _ _ _ _ _ | with_reducible exact sim_sliceAt K _ _ _ _ _ | with_reducible exact sim_box K _ _ | with_reducible exact sim_buildSlice K _ _ _ | with_reducible exact sim_field K _ _ _ | with_reducible exact sim_index K _ _ _ | with_reducible exact sim_makeSlice K _ _ _ | with_reducible exact sim_makeFunc K _ _ _ | with_reducible exact sim_extract K _ _ | with_reducible exact sim_makeInterface K _ _ | with_reducible exact sim_len K _ _ _ | with_reducible exact sim_cap K _ _ _ | with_reducible exact sim_lenOf K _ | with_reducible exact sim_firstCells K _ _ _ | with_reducible exact sim_copy K _ _ _ | with_reducible exact sim_noView K _ | with_reducible exact sim_numberAt K _ | with_reducible exact sim_byteOf K _ | with_reducible exact sim_partAt K _ _ _ | with_reducible exact sim_fieldPlace K _ _ | with_reducible exact sim_fieldAt K _ _ _ | with_reducible exact sim_clear K _ _ _ | with_reducible exact sim_intArith K _ _ _ _ | with_reducible exact sim_intDiv K _ _ _ _ | with_reducible exact sim_intBits K _ _ _ _ | with_reducible exact sim_intCmp K _ _ _ | with_reducible exact sim_shift K _ _ _ _ _ | with_reducible exact sim_stringOp K _ _ _ | with_reducible exact sim_floatArith K _ _ _ _ | with_reducible exact sim_floatCmp K _ _ _ _ | with_reducible exact sim_unary K _ _ | with_reducible exact sim_min2 K _ _ | with_reducible exact sim_max2 K _ _ | with_reducible exact sim_intToInt K _ _ | with_reducible exact sim_append K _ _ _ | with_reducible exact sim_ssaWrapNilChk K _ _ _ | with_reducible exact sim_get K _ _ | with_reducible exact sim_follow K _ _ _ | with_reducible exact sim_receiverAt K _ _ _ _ | with_reducible refine Sim.bind ?_ (fun _ => ?_) | with_reducible refine Sim.map ?_ | (with_reducible refine sim_ite (fun _ => ?_) (fun _ => ?_)) | dsimp only | (exact sim_stuck _ _) | split)
theorem sim_method (K : Kin T) : ∀ (n : Nat) (t : TypeId) (v : Value) (s : String), Sim T (Go.method n t v s) (Go.method n t v s)
  | 0, _, _, _ => by unfold Go.method; exact sim_unsupported _ _
  | n + 1, t, v, s => by
    have ih := sim_method K n
    unfold Go.method
    repeat' (first | with_reducible exact sim_pure _ | with_reducible exact sim_stuck _ _ | with_reducible exact sim_unsupported _ _ | with_reducible exact sim_load _ _ | with_reducible exact sim_store _ _ _ | (with_reducible refine Sim.look (fun o _ => ?_) (fun a u b => ?_) (fun o hx => ?_)) | with_reducible exact sim_choose _ | with_reducible exact sim_askRoom _ | with_reducible exact sim_typeInfo K _ | with_reducible exact sim_underlying K _ | with_reducible exact sim_sizeOf K _ | with_reducible exact sim_zeroValue K _ | with_reducible exact sim_isAgg K _ | with_reducible exact sim_elemOf K _ | with_reducible exact sim_loadCells K _ _ | with_reducible exact sim_storeCells K _ _ _ | with_reducible exact sim_newRow K _ _ | with_reducible exact sim_newVar K _ _ | with_reducible exact sim_loadVar K _ _ | with_reducible exact sim_storeVar K _ _ _ | with_reducible exact sim_part K _ _ _ | with_reducible exact sim_runtimePanic K _ _ | with_reducible exact sim_boundsPanic K _ _ _ _ | with_reducible exact sim_asIntOf K _ | with_reducible exact sim_asInt K _ | with_reducible exact sim_asBool K _ | with_reducible exact sim_asString K _ | with_reducible exact sim_asAgg K _ | with_reducible exact sim_asAddr K _ | with_reducible exact sim_alloc K _ _ _ | with_reducible exact sim_sureAddr K _ | with_reducible exact sim_loadAt K _ _ | with_reducible exact sim_storeAt K _ _ _ | with_reducible exact sim_indexAt K _ _ _ | with_reducible exact sim_sliceBound K _ _ _ | with_reducible exact sim_sliceBounds K _ _ _ _ _ _ | with_reducible exact sim_slice K _ _ _ _ _ | with_reducible exact sim_sliceAt K _ _ _ _ _ | with_reducible exact sim_box K _ _ | with_reducible exact sim_buildSlice K _ _ _ | with_reducible exact sim_field K _ _ _ | with_reducible exact sim_index K _ _ _ | with_reducible exact sim_makeSlice K _ _ _ | with_reducible exact sim_makeFunc K _ _ _ | with_reducible exact sim_extract K _ _ | with_reducible exact sim_makeInterface K _ _ | with_reducible exact sim_len K _ _ _ | with_reducible exact sim_cap K _ _ _ | with_reducible exact sim_lenOf K _ | with_reducible exact sim_firstCells K _ _ _ | with_reducible exact sim_copy K _ _ _ | with_reducible exact sim_noView K _ | with_reducible exact sim_numberAt K _ | with_reducible exact sim_byteOf K _ | with_reducible exact sim_partAt K _ _ _ | with_reducible exact sim_fieldPlace K _ _ | with_reducible exact sim_fieldAt K _ _ _ | with_reducible exact sim_clear K _ _ _ | with_reducible exact sim_intArith K _ _ _ _ | with_reducible exact sim_intDiv K _ _ _ _ | with_reducible exact sim_intBits K _ _ _ _ | with_reducible exact sim_intCmp K _ _ _ | with_reducible exact sim_shift K _ _ _ _ _ | with_reducible exact sim_stringOp K _ _ _ | with_reducible exact sim_floatArith K _ _ _ _ | with_reducible exact sim_floatCmp K _ _ _ _ | with_reducible exact sim_unary K _ _ | with_reducible exact sim_min2 K _ _ | with_reducible exact sim_max2 K _ _ | with_reducible exact sim_intToInt K _ _ | with_reducible exact sim_append K _ _ _ | with_reducible exact sim_ssaWrapNilChk K _ _ _ | with_reducible exact sim_get K _ _ | with_reducible exact sim_follow K _ _ _ | with_reducible exact sim_receiverAt K _ _ _ _ | with_reducible exact sim_receiverVia K _ _ _ _ | exact ih _ _ _ | with_reducible refine Sim.bind ?_ (fun _ => ?_) | with_reducible refine Sim.map ?_ | (with_reducible refine sim_ite (fun _ => ?_) (fun _ => ?_)) | dsimp only | (exact sim_stuck _ _) | split)
theorem sim_callMethod (K : Kin T) (r : Value) (s : String) (vs : Array Value) : SimP T (okNext T) (callMethod r s vs) (callMethod r s vs) := by
  unfold callMethod
  cases r with
  | iface t v =>
    dsimp only
    obtain ⟨P, n0, fs, ok, X0, hn0, rfl⟩ := K.form
    refine simP_program ?_
    refine SimP.bind (φ := fun _ => True) (sim_method K _ _ _ _) fun x _ => ?_
    exact sim_callFunc K _ _
  | nilIface => exact (sim_runtimePanic K _ _).never _ (by intro w a w'; simp [runtimePanic, program, Sem.run, bind, Sem.bind, goPanic])
  | _ => exact simP_halt (.stuck _) trivial _
theorem sim_behindNumber (K : Kin T) (a : Addr) : Sim T (behindNumber a) (behindNumber a) := by
  unfold behindNumber
  repeat' (first | with_reducible exact sim_pure _ | with_reducible exact sim_stuck _ _ | with_reducible exact sim_unsupported _ _ | with_reducible exact sim_load _ _ | with_reducible exact sim_store _ _ _ | (with_reducible refine Sim.look (fun o _ => ?_) (fun a u b => ?_) (fun o hx => ?_)) | with_reducible exact sim_choose _ | with_reducible exact sim_askRoom _ | with_reducible exact sim_typeInfo K _ | with_reducible exact sim_underlying K _ | with_reducible exact sim_sizeOf K _ | with_reducible exact sim_zeroValue K _ | with_reducible exact sim_isAgg K _ | with_reducible exact sim_elemOf K _ | with_reducible exact sim_loadCells K _ _ | with_reducible exact sim_storeCells K _ _ _ | with_reducible exact sim_newRow K _ _ | with_reducible exact sim_newVar K _ _ | with_reducible exact sim_loadVar K _ _ | with_reducible exact sim_storeVar K _ _ _ | with_reducible exact sim_part K _ _ _ | with_reducible exact sim_runtimePanic K _ _ | with_reducible exact sim_boundsPanic K _ _ _ _ | with_reducible exact sim_asIntOf K _ | with_reducible exact sim_asInt K _ | with_reducible exact sim_asBool K _ | with_reducible exact sim_asString K _ | with_reducible exact sim_asAgg K _ | with_reducible exact sim_asAddr K _ | with_reducible exact sim_alloc K _ _ _ | with_reducible exact sim_sureAddr K _ | with_reducible exact sim_loadAt K _ _ | with_reducible exact sim_storeAt K _ _ _ | with_reducible exact sim_indexAt K _ _ _ | with_reducible exact sim_sliceBound K _ _ _ | with_reducible exact sim_sliceBounds K _ _ _ _ _ _ | with_reducible exact sim_slice K _ _ _ _ _ | with_reducible exact sim_sliceAt K _ _ _ _ _ | with_reducible exact sim_box K _ _ | with_reducible exact sim_buildSlice K _ _ _ | with_reducible exact sim_field K _ _ _ | with_reducible exact sim_index K _ _ _ | with_reducible exact sim_makeSlice K _ _ _ | with_reducible exact sim_makeFunc K _ _ _ | with_reducible exact sim_extract K _ _ | with_reducible exact sim_makeInterface K _ _ | with_reducible exact sim_len K _ _ _ | with_reducible exact sim_cap K _ _ _ | with_reducible exact sim_lenOf K _ | with_reducible exact sim_firstCells K _ _ _ | with_reducible exact sim_copy K _ _ _ | with_reducible exact sim_noView K _ | with_reducible exact sim_numberAt K _ | with_reducible exact sim_byteOf K _ | with_reducible exact sim_partAt K _ _ _ | with_reducible exact sim_fieldPlace K _ _ | with_reducible exact sim_fieldAt K _ _ _ | with_reducible exact sim_clear K _ _ _ | with_reducible exact sim_intArith K _ _ _ _ | with_reducible exact sim_intDiv K _ _ _ _ | with_reducible exact sim_intBits K _ _ _ _ | with_reducible exact sim_intCmp K _ _ _ | with_reducible exact sim_shift K _ _ _ _ _ | with_reducible exact sim_stringOp K _ _ _ | with_reducible exact sim_floatArith K _ _ _ _ | with_reducible exact sim_floatCmp K _ _ _ _ | with_reducible exact sim_unary K _ _ | with_reducible exact sim_min2 K _ _ | with_reducible exact sim_max2 K _ _ | with_reducible exact sim_intToInt K _ _ | with_reducible exact sim_append K _ _ _ | with_reducible exact sim_ssaWrapNilChk K _ _ _ | with_reducible exact sim_get K _ _ | with_reducible exact sim_follow K _ _ _ | with_reducible exact sim_receiverAt K _ _ _ _ | with_reducible exact sim_receiverVia K _ _ _ _ | with_reducible exact sim_method K _ _ _ _ | with_reducible refine Sim.bind ?_ (fun _ => ?_) | with_reducible refine Sim.map ?_ | (with_reducible refine sim_ite (fun _ => ?_) (fun _ => ?_)) | dsimp only | (exact sim_stuck _ _) | split)
theorem sim_underlyingP (K : Kin T) (t : TypeId) : SimP T (fun d => T.P.underlying t = some d) (underlying t) (underlying t) := by
  unfold underlying
  refine simP_program ?_
  rw [K.under]
  split
  · rename_i d e; exact simP_pure e
  · exact simP_halt (.stuck _) trivial _
theorem sim_forIn_list {f f' : Nat → β → Sem (ForInStep β)} (h : ∀ i b, Sim T (f i b) (f' i b)) : ∀ (l : List Nat) (b : β), Sim T (forIn l b f) (forIn l b f')
  | [], b => by simpa using sim_pure (T := T) b
  | i :: l, b => by
    rw [List.forIn_cons, List.forIn_cons]
    refine Sim.bind (h i b) fun s => ?_
    cases s with
    | done b => exact sim_pure b
    | yield b => exact sim_forIn_list h l b
theorem sim_forIn_range {f f' : Nat → β → Sem (ForInStep β)} (h : ∀ i b, Sim T (f i b) (f' i b)) (n : Nat) (b : β) : Sim T (forIn [0:n] b f) (forIn [0:n] b f') := by
  rw [Std.Legacy.Range.forIn_eq_forIn_range', Std.Legacy.Range.forIn_eq_forIn_range']
  exact sim_forIn_list h _ b

def okScalar (P : Program) (t : TypeId) : Bool :=
  match P.underlying t with
  | some (.int _) | some .bool | some .string | some (.float _) | some (.slice _) => true
  | _ => false
def okEq (P : Program) (t : TypeId) : Bool :=
  okScalar P t || (match P.underlying t with
    | some (.array _ e) => okScalar P e && !P.eqGuardType P.depth t
    | _ => false)

set_option maxHeartbeats 2000000 in
theorem sim_equalScalar (K : Kin T) (d : Nat) (t : TypeId) (x y : Value) (h : okScalar T.P t = true) : Sim T (Op.equalIn (d + 1) t x y) (Op.equalIn (d + 1) t x y) := by
  unfold Op.equalIn
  refine SimP.bind (sim_underlyingP K t) fun u hu => ?_
  unfold okScalar at h
  rw [hu] at h
  cases u <;> first | (cases h; done) | skip
  case slice e =>
    clear h hu
    cases x with
    | slice a l c => cases a <;> cases y <;> first | exact sim_pure _ | exact sim_stuck _ _ | (cases ‹Option Addr› <;> first | exact sim_pure _ | exact sim_stuck _ _)
    | _ => exact sim_stuck _ _
  all_goals
    clear h hu
    cases x <;> (try exact sim_stuck _ _) <;> (cases y <;> (try exact sim_stuck _ _) <;> skip)
    all_goals (first | exact sim_pure _ | exact sim_ite (fun _ => sim_pure _) (fun _ => sim_stuck _ _) | exact sim_unsupported _ _ | (cases ‹Option Addr› <;> exact sim_unsupported _ _) | skip)
  case int.int.pointer k k' n a =>
    cases a with
    | none => exact sim_unsupported _ _
    | some a =>
      by_cases hn : n = 0
      · subst hn; exact sim_pure _
      · refine (show Sim T _ _ from ?_)
        split <;> first | exact sim_pure _ | exact sim_unsupported _ _ | simp_all
  case int.pointer.int k a k' n =>
    cases a with
    | none => exact sim_unsupported _ _
    | some a =>
      by_cases hn : n = 0
      · subst hn; exact sim_pure _
      · refine (show Sim T _ _ from ?_)
        split <;> first | exact sim_pure _ | exact sim_unsupported _ _ | simp_all
  case int.pointer.slice k a b l c => cases a <;> exact sim_unsupported _ _
  case int.pointer.pointer k a b =>
    cases a with
    | none => exact sim_unsupported _ _
    | some a =>
      cases b with
      | none => exact sim_unsupported _ _
      | some b =>
        refine Sim.bind (sim_behindNumber K a) fun u => Sim.bind (sim_behindNumber K b) fun v => ?_
        refine sim_program ?_
        rw [K.globals]
        repeat' (first | with_reducible exact sim_pure _ | with_reducible exact sim_stuck _ _ | with_reducible exact sim_unsupported _ _ | with_reducible exact sim_load _ _ | with_reducible exact sim_store _ _ _ | (with_reducible refine Sim.look (fun o _ => ?_) (fun a u b => ?_) (fun o hx => ?_)) | with_reducible exact sim_choose _ | with_reducible exact sim_askRoom _ | with_reducible exact sim_typeInfo K _ | with_reducible exact sim_underlying K _ | with_reducible exact sim_sizeOf K _ | with_reducible exact sim_zeroValue K _ | with_reducible exact sim_isAgg K _ | with_reducible exact sim_elemOf K _ | with_reducible exact sim_loadCells K _ _ | with_reducible exact sim_storeCells K _ _ _ | with_reducible exact sim_newRow K _ _ | with_reducible exact sim_newVar K _ _ | with_reducible exact sim_loadVar K _ _ | with_reducible exact sim_storeVar K _ _ _ | with_reducible exact sim_part K _ _ _ | with_reducible exact sim_runtimePanic K _ _ | with_reducible exact sim_boundsPanic K _ _ _ _ | with_reducible exact sim_asIntOf K _ | with_reducible exact sim_asInt K _ | with_reducible exact sim_asBool K _ | with_reducible exact sim_asString K _ | with_reducible exact sim_asAgg K _ | with_reducible exact sim_asAddr K _ | with_reducible exact sim_alloc K _ _ _ | with_reducible exact sim_sureAddr K _ | with_reducible exact sim_loadAt K _ _ | with_reducible exact sim_storeAt K _ _ _ | with_reducible exact sim_indexAt K _ _ _ | with_reducible exact sim_sliceBound K _ _ _ | with_reducible exact sim_sliceBounds K _ _ _ _ _ _ | with_reducible exact sim_slice K _ _ _ _ _ | with_reducible exact sim_sliceAt K _ _ _ _ _ | with_reducible exact sim_box K _ _ | with_reducible exact sim_buildSlice K _ _ _ | with_reducible exact sim_field K _ _ _ | with_reducible exact sim_index K _ _ _ | with_reducible exact sim_makeSlice K _ _ _ | with_reducible exact sim_makeFunc K _ _ _ | with_reducible exact sim_extract K _ _ | with_reducible exact sim_makeInterface K _ _ | with_reducible exact sim_len K _ _ _ | with_reducible exact sim_cap K _ _ _ | with_reducible exact sim_lenOf K _ | with_reducible exact sim_firstCells K _ _ _ | with_reducible exact sim_copy K _ _ _ | with_reducible exact sim_noView K _ | with_reducible exact sim_numberAt K _ | with_reducible exact sim_byteOf K _ | with_reducible exact sim_partAt K _ _ _ | with_reducible exact sim_fieldPlace K _ _ | with_reducible exact sim_fieldAt K _ _ _ | with_reducible exact sim_clear K _ _ _ | with_reducible exact sim_intArith K _ _ _ _ | with_reducible exact sim_intDiv K _ _ _ _ | with_reducible exact sim_intBits K _ _ _ _ | with_reducible exact sim_intCmp K _ _ _ | with_reducible exact sim_shift K _ _ _ _ _ | with_reducible exact sim_stringOp K _ _ _ | with_reducible exact sim_floatArith K _ _ _ _ | with_reducible exact sim_floatCmp K _ _ _ _ | with_reducible exact sim_unary K _ _ | with_reducible exact sim_min2 K _ _ | with_reducible exact sim_max2 K _ _ | with_reducible exact sim_intToInt K _ _ | with_reducible exact sim_append K _ _ _ | with_reducible exact sim_ssaWrapNilChk K _ _ _ | with_reducible exact sim_get K _ _ | with_reducible exact sim_follow K _ _ _ | with_reducible exact sim_receiverAt K _ _ _ _ | with_reducible exact sim_receiverVia K _ _ _ _ | with_reducible exact sim_method K _ _ _ _ | with_reducible exact sim_behindNumber K _ | with_reducible refine Sim.bind ?_ (fun _ => ?_) | with_reducible refine Sim.map ?_ | (with_reducible refine sim_ite (fun _ => ?_) (fun _ => ?_)) | dsimp only | (exact sim_stuck _ _) | split)

theorem sim_equalIn (K : Kin T) (d : Nat) (t : TypeId) (x y : Value) (h : okEq T.P t = true) : Sim T (Op.equalIn (d + 2) t x y) (Op.equalIn (d + 2) t x y) := by
  unfold okEq at h
  rcases Bool.or_eq_true .. ▸ h with hs | ha
  · exact sim_equalScalar K (d + 1) t x y hs
  · rw [Op.equalIn]
    refine SimP.bind (sim_underlyingP K t) fun u hu => ?_
    rw [hu] at ha
    cases u <;> first | (cases ha; done) | skip
    rename_i n e
    have he : okScalar T.P e = true := by simp at ha; exact ha.1
    cases x <;> (try exact sim_stuck _ _) <;> (cases y <;> (try exact sim_stuck _ _) <;> skip)
    refine Sim.bind (s := sizeOf e) (s' := sizeOf e) (sim_sizeOf K e) fun m => ?_
    refine Sim.bind (sim_forIn_range (fun i b => ?_) _ _) fun r => ?_
    · refine Sim.bind (sim_part K _ _ _) fun u => Sim.bind (sim_part K _ _ _) fun v => Sim.bind (sim_equalScalar K d e u v he) fun b => ?_
      split <;> exact sim_pure _
    · dsimp only
      split <;> exact sim_pure _
theorem sim_equal (K : Kin T) (t : TypeId) (x y : Value) (h : okEq T.P t = true) : Sim T (Op.equal t x y) (Op.equal t x y) := sim_equalIn K 9998 t x y h
theorem eqGuardType_kin (P : Program) (n0 : TypeId) (fs : Array Func) : ∀ (d : Nat) (t : TypeId), Program.eqGuardType (cutProg P n0 fs) d t = P.eqGuardType d t := by
  intro d
  induction d with
  | zero => intro t; rfl
  | succ d ih =>
    intro t
    have e1 := cut_under P n0 fs
    simp only [Program.eqGuardType, ih, e1]
theorem okEq_guard {P : Program} {t : TypeId} (h : okEq P t = true) : P.eqGuardType P.depth t = false := by
  unfold okEq okScalar at h
  have hd : ∃ d, P.depth = d + 1 := ⟨_, rfl⟩
  obtain ⟨d, hd⟩ := hd
  cases hu : P.underlying t with
  | none => rw [hu] at h; simp at h
  | some u =>
    rw [hu] at h
    cases u <;> first | (simp at h; done) | (rw [hd]; simp only [Program.eqGuardType, hu]; done) | skip
    simp at h
    exact h.2
theorem sim_eqGuard (K : Kin T) (op : BinOp) (t : TypeId) (x y : Operand) (a b : Value) (h : okEq T.P t = true) : Sim T (eqGuard op t x y a b) (eqGuard op t x y a b) := by
  have hg := okEq_guard h
  have key : ∀ o : BinOp, (o = .eql ∨ o = .neq) → Sim T (eqGuard o t x y a b) (eqGuard o t x y a b) := by
    intro o ho
    have e : eqGuard o t x y a b = (match a, b with
      | .nilIface, .nilIface =>
        if (x matches .const _) || (y matches .const _) then pure () else
          Op.eqGuardIn Op.maxDepth t a b >>= fun r => if r = true then unsupported (.noEntry "binop/eql: two nil values of an interface type with methods, neither of them the literal nil") else pure ()
      | .agg _, .agg _ =>
        program >>= fun p => program >>= fun q => if (!p.eqGuardType q.depth t) = true then pure () else
          Op.eqGuardIn Op.maxDepth t a b >>= fun r => if r = true then unsupported (.noEntry "binop/eql: two nil values of an interface type with methods, in a part of a struct or an array") else pure ()
      | _, _ => pure ()) := by
      rcases ho with rfl | rfl <;> rfl
    rw [e]
    split
    · refine sim_ite (fun _ => sim_pure _) (fun _ => ?_)
      · refine Sim.bind (s := Op.eqGuardIn Op.maxDepth t .nilIface .nilIface) (s' := Op.eqGuardIn Op.maxDepth t .nilIface .nilIface) ?_ (fun b => ?_)
        · show Sim T (Op.eqGuardIn (9999 + 1) t .nilIface .nilIface) (Op.eqGuardIn (9999 + 1) t .nilIface .nilIface)
          rw [Op.eqGuardIn]
          refine SimP.bind (sim_underlyingP K t) fun u hu => ?_
          cases u <;> exact sim_pure _
        · split
          · exact sim_unsupported _ _
          · exact sim_pure _
    · obtain ⟨P, n0, fs, ok, X0, hn0, rfl⟩ := K.form
      refine sim_program ?_
      refine sim_program ?_
      dsimp only
      have hg' : Program.eqGuardType (cutProg P n0 fs) (Program.depth (cutProg P n0 fs)) t = false := (eqGuardType_kin P n0 fs _ _).trans hg
      rw [hg', hg]
      exact sim_pure _
    · exact sim_pure _
  cases op <;> first | exact key _ (.inl rfl) | exact key _ (.inr rfl) | exact sim_pure _

end
end

section
open Go.Conc

section
variable {T : Two} {α β : Type}

def okBuiltin : Builtin → Bool
  | .append | .cap | .clear | .copy | .len | .max | .min => true
  | _ => false
def okInt (P : Program) (t : TypeId) : Bool :=
  match P.underlying t with
  | some (.int _) => true
  | _ => false
def okOp (P : Program) : Op → Bool
  | .move _ | .assign _ | .pick _ _ _ | .alloc _ | .box _ _ | .buildSlice _ _ _ | .load _ _ | .store _ _ _ | .makeFunc _ _ _ | .makeSlice _ _ _ | .slice _ _ _ _ _ | .fieldAddr _ _ _ | .field _ _ _
  | .indexAddr _ _ _ | .index _ _ _ | .extract _ _ | .makeInterface _ _ | .unOp _ _ _ | .nilCheck _ | .build _ _ => true
  | .binOp op t _ _ _ => okEq P t || !(op matches .eql | .neq) && okInt P t
  | .convert s d _ => okInt P s && okInt P d
  | .call c => match c.callee with
    | .builtin b => okBuiltin b
    | .value _ => true
    | .invoke _ _ => false
  | _ => false
theorem sim_value (K : Kin T) {s : Sem Value} (h : Sim T s s) : SimP T (okNext T) (s >>= fun v => pure (Next.value v)) (s >>= fun v => pure (Next.value v)) := SimP.bind h fun _ _ => simP_pure trivial
theorem sim_skip (K : Kin T) {s : Sem Unit} (h : Sim T s s) : SimP T (okNext T) (s >>= fun _ => pure Next.skip) (s >>= fun _ => pure Next.skip) := SimP.bind h fun _ _ => simP_pure trivial

theorem sim_resolve (K : Kin T) (ρ : Operand → Value) (c : Call) (t : TypeId) : SimP T (fun d => (∀ b ts u cs, d.target = .builtin b ts u cs → c.callee = .builtin b) ∧ ∀ x, d.target ≠ .coroexit x) (resolve ρ c t) (resolve ρ c t) := by
  unfold resolve
  cases hc : c.callee with
  | builtin b => exact simP_pure ⟨(by intro b' ts u cs e; cases e; rfl), by simp⟩
  | invoke r n => exact simP_pure ⟨(by intro b' ts u cs e; cases e), by simp⟩
  | value f =>
    dsimp only
    unfold Deferred.ofValue
    split
    · exact simP_pure ⟨(by intro b' ts u cs e; cases e), by simp⟩
    · exact simP_pure ⟨(by intro b' ts u cs e; cases e), by simp⟩
    · exact simP_halt (.stuck _) trivial _

theorem runtimePanic_no (p : Program) (e : RuntimeError) (h : (∃ x y s c, e = .bounds x y s c) ∨ (∃ m, e = .error m) ∨ (∃ m, e = .plain m) ∨ e = .nilDeref) (w : World) (a : α) (w' : World) : (runtimePanic e : Sem α).run p w ≠ .ok a w' := by
  rcases h with ⟨x, y, s, c, rfl⟩ | ⟨m, rfl⟩ | ⟨m, rfl⟩ | rfl <;> simp [runtimePanic, program, Sem.run, bind, Sem.bind, goPanic]

theorem sim_builtin (K : Kin T) (b : Builtin) (hb : okBuiltin b = true) (ts : Array TypeId) (t : TypeId) (cs : Array Bool) (args : Array Value) : SimP T (okNext T) (builtin b ts t cs args) (builtin b ts t cs args) := by
  unfold builtin
  cases b <;> first | (cases hb; done) | skip
  · exact sim_value K (sim_append K _ _ _)
  · exact sim_value K (sim_cap K _ _ _)
  · exact sim_value K (sim_clear K _ _ _)
  · exact sim_value K (sim_copy K _ _ _)
  · exact sim_value K (sim_len K _ _ _)
  · exact sim_value K (sim_max K _ _ _)
  · exact sim_value K (sim_min K _ _ _)

theorem sim_invoke (K : Kin T) (g : Target) (args : Array Value) (hg : ∀ b ts t cs, g = .builtin b ts t cs → okBuiltin b = true) (hc : ∀ c, g ≠ .coroexit c) : SimP T (okNext T) (invoke g args) (invoke g args) := by
  unfold invoke
  cases g with
  | nil => exact (sim_runtimePanic K _ _).never _ (fun w a w' => runtimePanic_no _ _ (.inr (.inr (.inr rfl))) w a w')
  | builtin b ts t cs => exact sim_builtin K b (hg b ts t cs rfl) ts t cs args
  | collected r => exact simP_halt (.stuck _) trivial _
  | coroexit c => exact absurd rfl (hc c)
  | fn f cap =>
    cases f with
    | func f => exact sim_callFunc K _ _
    | method name =>
      dsimp only
      split
      · exact sim_callMethod K _ _ _
      · exact simP_halt (.stuck _) trivial _
    | methodOf t name =>
      dsimp only
      split
      · refine SimP.bind (sim_underlying K t) fun u _ => ?_
        exact sim_callMethod K _ _ _
      · exact simP_halt (.stuck _) trivial _
    | via t path f pointer =>
      dsimp only
      split
      · exact SimP.bind (sim_receiverVia K _ _ _ _) fun u _ => sim_callFunc K _ _
      · exact simP_halt (.stuck _) trivial _
    | yield l => exact (sim_yield l args).mono (by rintro n ⟨l, f, tm, x, y, rfl, h⟩; exact h)
theorem sim_floatToInt (K : Kin T) (k : FloatKind) (x : Nat) (j : IntKind) : Sim T (Conv.floatToInt k x j) (Conv.floatToInt k x j) := by
  unfold Conv.floatToInt
  repeat' (first | with_reducible exact sim_pure _ | with_reducible exact sim_stuck _ _ | with_reducible exact sim_unsupported _ _ | with_reducible exact sim_load _ _ | with_reducible exact sim_store _ _ _ | (with_reducible refine Sim.look (fun o _ => ?_) (fun a u b => ?_) (fun o hx => ?_)) | with_reducible exact sim_choose _ | with_reducible exact sim_askRoom _ | with_reducible exact sim_typeInfo K _ | with_reducible exact sim_underlying K _ | with_reducible exact sim_sizeOf K _ | with_reducible exact sim_zeroValue K _ | with_reducible exact sim_isAgg K _ | with_reducible exact sim_elemOf K _ | with_reducible exact sim_loadCells K _ _ | with_reducible exact sim_storeCells K _ _ _ | with_reducible exact sim_newRow K _ _ | with_reducible exact sim_newVar K _ _ | with_reducible exact sim_loadVar K _ _ | with_reducible exact sim_storeVar K _ _ _ | with_reducible exact sim_part K _ _ _ | with_reducible exact sim_runtimePanic K _ _ | with_reducible exact sim_boundsPanic K _ _ _ _ | with_reducible exact sim_asIntOf K _ | with_reducible exact sim_asInt K _ | with_reducible exact sim_asBool K _ | with_reducible exact sim_asString K _ | with_reducible exact sim_asAgg K _ | with_reducible exact sim_asAddr K _ | with_reducible exact sim_alloc K _ _ _ | with_reducible exact sim_sureAddr K _ | with_reducible exact sim_loadAt K _ _ | with_reducible exact sim_storeAt K _ _ _ | with_reducible exact sim_indexAt K _ _ _ | with_reducible exact sim_sliceBound K _ _ _ | with_reducible exact sim_sliceBounds K _ _ _ _ _ _ | with_reducible exact sim_slice K _ _ _ _ _ | with_reducible exact sim_sliceAt K _ _ _ _ _ | with_reducible exact sim_box K _ _ | with_reducible exact sim_buildSlice K _ _ _ | with_reducible exact sim_field K _ _ _ | with_reducible exact sim_index K _ _ _ | with_reducible exact sim_makeSlice K _ _ _ | with_reducible exact sim_makeFunc K _ _ _ | with_reducible exact sim_extract K _ _ | with_reducible exact sim_makeInterface K _ _ | with_reducible exact sim_len K _ _ _ | with_reducible exact sim_cap K _ _ _ | with_reducible exact sim_lenOf K _ | with_reducible exact sim_firstCells K _ _ _ | with_reducible exact sim_copy K _ _ _ | with_reducible exact sim_noView K _ | with_reducible exact sim_numberAt K _ | with_reducible exact sim_byteOf K _ | with_reducible exact sim_partAt K _ _ _ | with_reducible exact sim_fieldPlace K _ _ | with_reducible exact sim_fieldAt K _ _ _ | with_reducible exact sim_clear K _ _ _ | with_reducible exact sim_intArith K _ _ _ _ | with_reducible exact sim_intDiv K _ _ _ _ | with_reducible exact sim_intBits K _ _ _ _ | with_reducible exact sim_intCmp K _ _ _ | with_reducible exact sim_shift K _ _ _ _ _ | with_reducible exact sim_stringOp K _ _ _ | with_reducible exact sim_floatArith K _ _ _ _ | with_reducible exact sim_floatCmp K _ _ _ _ | with_reducible exact sim_unary K _ _ | with_reducible exact sim_min2 K _ _ | with_reducible exact sim_max2 K _ _ | with_reducible exact sim_intToInt K _ _ | with_reducible exact sim_append K _ _ _ | with_reducible exact sim_ssaWrapNilChk K _ _ _ | with_reducible exact sim_get K _ _ | with_reducible exact sim_follow K _ _ _ | with_reducible exact sim_receiverAt K _ _ _ _ | with_reducible exact sim_receiverVia K _ _ _ _ | with_reducible exact sim_method K _ _ _ _ | with_reducible exact sim_behindNumber K _ | with_reducible refine Sim.bind ?_ (fun _ => ?_) | with_reducible refine Sim.map ?_ | (with_reducible refine sim_ite (fun _ => ?_) (fun _ => ?_)) | dsimp only | (exact sim_stuck _ _) | split)
theorem sim_floatToFloat (K : Kin T) (k : FloatKind) (x : Nat) (j : FloatKind) : Sim T (Conv.floatToFloat k x j) (Conv.floatToFloat k x j) := by
  unfold Conv.floatToFloat
  repeat' (first | with_reducible exact sim_pure _ | with_reducible exact sim_stuck _ _ | with_reducible exact sim_unsupported _ _ | with_reducible exact sim_load _ _ | with_reducible exact sim_store _ _ _ | (with_reducible refine Sim.look (fun o _ => ?_) (fun a u b => ?_) (fun o hx => ?_)) | with_reducible exact sim_choose _ | with_reducible exact sim_askRoom _ | with_reducible exact sim_typeInfo K _ | with_reducible exact sim_underlying K _ | with_reducible exact sim_sizeOf K _ | with_reducible exact sim_zeroValue K _ | with_reducible exact sim_isAgg K _ | with_reducible exact sim_elemOf K _ | with_reducible exact sim_loadCells K _ _ | with_reducible exact sim_storeCells K _ _ _ | with_reducible exact sim_newRow K _ _ | with_reducible exact sim_newVar K _ _ | with_reducible exact sim_loadVar K _ _ | with_reducible exact sim_storeVar K _ _ _ | with_reducible exact sim_part K _ _ _ | with_reducible exact sim_runtimePanic K _ _ | with_reducible exact sim_boundsPanic K _ _ _ _ | with_reducible exact sim_asIntOf K _ | with_reducible exact sim_asInt K _ | with_reducible exact sim_asBool K _ | with_reducible exact sim_asString K _ | with_reducible exact sim_asAgg K _ | with_reducible exact sim_asAddr K _ | with_reducible exact sim_alloc K _ _ _ | with_reducible exact sim_sureAddr K _ | with_reducible exact sim_loadAt K _ _ | with_reducible exact sim_storeAt K _ _ _ | with_reducible exact sim_indexAt K _ _ _ | with_reducible exact sim_sliceBound K _ _ _ | with_reducible exact sim_sliceBounds K _ _ _ _ _ _ | with_reducible exact sim_slice K _ _ _ _ _ | with_reducible exact sim_sliceAt K _ _ _ _ _ | with_reducible exact sim_box K _ _ | with_reducible exact sim_buildSlice K _ _ _ | with_reducible exact sim_field K _ _ _ | with_reducible exact sim_index K _ _ _ | with_reducible exact sim_makeSlice K _ _ _ | with_reducible exact sim_makeFunc K _ _ _ | with_reducible exact sim_extract K _ _ | with_reducible exact sim_makeInterface K _ _ | with_reducible exact sim_len K _ _ _ | with_reducible exact sim_cap K _ _ _ | with_reducible exact sim_lenOf K _ | with_reducible exact sim_firstCells K _ _ _ | with_reducible exact sim_copy K _ _ _ | with_reducible exact sim_noView K _ | with_reducible exact sim_numberAt K _ | with_reducible exact sim_byteOf K _ | with_reducible exact sim_partAt K _ _ _ | with_reducible exact sim_fieldPlace K _ _ | with_reducible exact sim_fieldAt K _ _ _ | with_reducible exact sim_clear K _ _ _ | with_reducible exact sim_intArith K _ _ _ _ | with_reducible exact sim_intDiv K _ _ _ _ | with_reducible exact sim_intBits K _ _ _ _ | with_reducible exact sim_intCmp K _ _ _ | with_reducible exact sim_shift K _ _ _ _ _ | with_reducible exact sim_stringOp K _ _ _ | with_reducible exact sim_floatArith K _ _ _ _ | with_reducible exact sim_floatCmp K _ _ _ _ | with_reducible exact sim_unary K _ _ | with_reducible exact sim_min2 K _ _ | with_reducible exact sim_max2 K _ _ | with_reducible exact sim_intToInt K _ _ | with_reducible exact sim_append K _ _ _ | with_reducible exact sim_ssaWrapNilChk K _ _ _ | with_reducible exact sim_get K _ _ | with_reducible exact sim_follow K _ _ _ | with_reducible exact sim_receiverAt K _ _ _ _ | with_reducible exact sim_receiverVia K _ _ _ _ | with_reducible exact sim_method K _ _ _ _ | with_reducible exact sim_behindNumber K _ | with_reducible exact sim_floatToInt K _ _ _ | with_reducible refine Sim.bind ?_ (fun _ => ?_) | with_reducible refine Sim.map ?_ | (with_reducible refine sim_ite (fun _ => ?_) (fun _ => ?_)) | dsimp only | (exact sim_stuck _ _) | split)
theorem sim_carith (K : Kin T) (op : BinOp) (k : FloatKind) (x y : Nat) : Sim T (Op.Complex.arith op k x y) (Op.Complex.arith op k x y) := by
  unfold Op.Complex.arith
  repeat' (first | with_reducible exact sim_pure _ | with_reducible exact sim_stuck _ _ | with_reducible exact sim_unsupported _ _ | with_reducible exact sim_load _ _ | with_reducible exact sim_store _ _ _ | (with_reducible refine Sim.look (fun o _ => ?_) (fun a u b => ?_) (fun o hx => ?_)) | with_reducible exact sim_choose _ | with_reducible exact sim_askRoom _ | with_reducible exact sim_typeInfo K _ | with_reducible exact sim_underlying K _ | with_reducible exact sim_sizeOf K _ | with_reducible exact sim_zeroValue K _ | with_reducible exact sim_isAgg K _ | with_reducible exact sim_elemOf K _ | with_reducible exact sim_loadCells K _ _ | with_reducible exact sim_storeCells K _ _ _ | with_reducible exact sim_newRow K _ _ | with_reducible exact sim_newVar K _ _ | with_reducible exact sim_loadVar K _ _ | with_reducible exact sim_storeVar K _ _ _ | with_reducible exact sim_part K _ _ _ | with_reducible exact sim_runtimePanic K _ _ | with_reducible exact sim_boundsPanic K _ _ _ _ | with_reducible exact sim_asIntOf K _ | with_reducible exact sim_asInt K _ | with_reducible exact sim_asBool K _ | with_reducible exact sim_asString K _ | with_reducible exact sim_asAgg K _ | with_reducible exact sim_asAddr K _ | with_reducible exact sim_alloc K _ _ _ | with_reducible exact sim_sureAddr K _ | with_reducible exact sim_loadAt K _ _ | with_reducible exact sim_storeAt K _ _ _ | with_reducible exact sim_indexAt K _ _ _ | with_reducible exact sim_sliceBound K _ _ _ | with_reducible exact sim_sliceBounds K _ _ _ _ _ _ | with_reducible exact sim_slice K _ _ _ _ _ | with_reducible exact sim_sliceAt K _ _ _ _ _ | with_reducible exact sim_box K _ _ | with_reducible exact sim_buildSlice K _ _ _ | with_reducible exact sim_field K _ _ _ | with_reducible exact sim_index K _ _ _ | with_reducible exact sim_makeSlice K _ _ _ | with_reducible exact sim_makeFunc K _ _ _ | with_reducible exact sim_extract K _ _ | with_reducible exact sim_makeInterface K _ _ | with_reducible exact sim_len K _ _ _ | with_reducible exact sim_cap K _ _ _ | with_reducible exact sim_lenOf K _ | with_reducible exact sim_firstCells K _ _ _ | with_reducible exact sim_copy K _ _ _ | with_reducible exact sim_noView K _ | with_reducible exact sim_numberAt K _ | with_reducible exact sim_byteOf K _ | with_reducible exact sim_partAt K _ _ _ | with_reducible exact sim_fieldPlace K _ _ | with_reducible exact sim_fieldAt K _ _ _ | with_reducible exact sim_clear K _ _ _ | with_reducible exact sim_intArith K _ _ _ _ | with_reducible exact sim_intDiv K _ _ _ _ | with_reducible exact sim_intBits K _ _ _ _ | with_reducible exact sim_intCmp K _ _ _ | with_reducible exact sim_shift K _ _ _ _ _ | with_reducible exact sim_stringOp K _ _ _ | with_reducible exact sim_floatArith K _ _ _ _ | with_reducible exact sim_floatCmp K _ _ _ _ | with_reducible exact sim_unary K _ _ | with_reducible exact sim_min2 K _ _ | with_reducible exact sim_max2 K _ _ | with_reducible exact sim_intToInt K _ _ | with_reducible exact sim_append K _ _ _ | with_reducible exact sim_ssaWrapNilChk K _ _ _ | with_reducible exact sim_get K _ _ | with_reducible exact sim_follow K _ _ _ | with_reducible exact sim_receiverAt K _ _ _ _ | with_reducible exact sim_receiverVia K _ _ _ _ | with_reducible exact sim_method K _ _ _ _ | with_reducible exact sim_behindNumber K _ | with_reducible exact sim_floatToInt K _ _ _ | with_reducible exact sim_floatToFloat K _ _ _ | with_reducible refine Sim.bind ?_ (fun _ => ?_) | with_reducible refine Sim.map ?_ | (with_reducible refine sim_ite (fun _ => ?_) (fun _ => ?_)) | dsimp only | (exact sim_stuck _ _) | split)
theorem sim_ccmp (K : Kin T) (op : BinOp) (k : FloatKind) (x y : Nat) : Sim T (Op.Complex.cmp op k x y) (Op.Complex.cmp op k x y) := by
  unfold Op.Complex.cmp
  repeat' (first | with_reducible exact sim_pure _ | with_reducible exact sim_stuck _ _ | with_reducible exact sim_unsupported _ _ | with_reducible exact sim_load _ _ | with_reducible exact sim_store _ _ _ | (with_reducible refine Sim.look (fun o _ => ?_) (fun a u b => ?_) (fun o hx => ?_)) | with_reducible exact sim_choose _ | with_reducible exact sim_askRoom _ | with_reducible exact sim_typeInfo K _ | with_reducible exact sim_underlying K _ | with_reducible exact sim_sizeOf K _ | with_reducible exact sim_zeroValue K _ | with_reducible exact sim_isAgg K _ | with_reducible exact sim_elemOf K _ | with_reducible exact sim_loadCells K _ _ | with_reducible exact sim_storeCells K _ _ _ | with_reducible exact sim_newRow K _ _ | with_reducible exact sim_newVar K _ _ | with_reducible exact sim_loadVar K _ _ | with_reducible exact sim_storeVar K _ _ _ | with_reducible exact sim_part K _ _ _ | with_reducible exact sim_runtimePanic K _ _ | with_reducible exact sim_boundsPanic K _ _ _ _ | with_reducible exact sim_asIntOf K _ | with_reducible exact sim_asInt K _ | with_reducible exact sim_asBool K _ | with_reducible exact sim_asString K _ | with_reducible exact sim_asAgg K _ | with_reducible exact sim_asAddr K _ | with_reducible exact sim_alloc K _ _ _ | with_reducible exact sim_sureAddr K _ | with_reducible exact sim_loadAt K _ _ | with_reducible exact sim_storeAt K _ _ _ | with_reducible exact sim_indexAt K _ _ _ | with_reducible exact sim_sliceBound K _ _ _ | with_reducible exact sim_sliceBounds K _ _ _ _ _ _ | with_reducible exact sim_slice K _ _ _ _ _ | with_reducible exact sim_sliceAt K _ _ _ _ _ | with_reducible exact sim_box K _ _ | with_reducible exact sim_buildSlice K _ _ _ | with_reducible exact sim_field K _ _ _ | with_reducible exact sim_index K _ _ _ | with_reducible exact sim_makeSlice K _ _ _ | with_reducible exact sim_makeFunc K _ _ _ | with_reducible exact sim_extract K _ _ | with_reducible exact sim_makeInterface K _ _ | with_reducible exact sim_len K _ _ _ | with_reducible exact sim_cap K _ _ _ | with_reducible exact sim_lenOf K _ | with_reducible exact sim_firstCells K _ _ _ | with_reducible exact sim_copy K _ _ _ | with_reducible exact sim_noView K _ | with_reducible exact sim_numberAt K _ | with_reducible exact sim_byteOf K _ | with_reducible exact sim_partAt K _ _ _ | with_reducible exact sim_fieldPlace K _ _ | with_reducible exact sim_fieldAt K _ _ _ | with_reducible exact sim_clear K _ _ _ | with_reducible exact sim_intArith K _ _ _ _ | with_reducible exact sim_intDiv K _ _ _ _ | with_reducible exact sim_intBits K _ _ _ _ | with_reducible exact sim_intCmp K _ _ _ | with_reducible exact sim_shift K _ _ _ _ _ | with_reducible exact sim_stringOp K _ _ _ | with_reducible exact sim_floatArith K _ _ _ _ | with_reducible exact sim_floatCmp K _ _ _ _ | with_reducible exact sim_unary K _ _ | with_reducible exact sim_min2 K _ _ | with_reducible exact sim_max2 K _ _ | with_reducible exact sim_intToInt K _ _ | with_reducible exact sim_append K _ _ _ | with_reducible exact sim_ssaWrapNilChk K _ _ _ | with_reducible exact sim_get K _ _ | with_reducible exact sim_follow K _ _ _ | with_reducible exact sim_receiverAt K _ _ _ _ | with_reducible exact sim_receiverVia K _ _ _ _ | with_reducible exact sim_method K _ _ _ _ | with_reducible exact sim_behindNumber K _ | with_reducible exact sim_floatToInt K _ _ _ | with_reducible exact sim_floatToFloat K _ _ _ | with_reducible exact sim_carith K _ _ _ _ | with_reducible refine Sim.bind ?_ (fun _ => ?_) | with_reducible refine Sim.map ?_ | (with_reducible refine sim_ite (fun _ => ?_) (fun _ => ?_)) | dsimp only | (exact sim_stuck _ _) | split)
theorem sim_cconv (K : Kin T) (k : FloatKind) (x : Nat) (j : FloatKind) : Sim T (Op.Complex.conv k x j) (Op.Complex.conv k x j) := by
  unfold Op.Complex.conv
  repeat' (first | with_reducible exact sim_pure _ | with_reducible exact sim_stuck _ _ | with_reducible exact sim_unsupported _ _ | with_reducible exact sim_load _ _ | with_reducible exact sim_store _ _ _ | (with_reducible refine Sim.look (fun o _ => ?_) (fun a u b => ?_) (fun o hx => ?_)) | with_reducible exact sim_choose _ | with_reducible exact sim_askRoom _ | with_reducible exact sim_typeInfo K _ | with_reducible exact sim_underlying K _ | with_reducible exact sim_sizeOf K _ | with_reducible exact sim_zeroValue K _ | with_reducible exact sim_isAgg K _ | with_reducible exact sim_elemOf K _ | with_reducible exact sim_loadCells K _ _ | with_reducible exact sim_storeCells K _ _ _ | with_reducible exact sim_newRow K _ _ | with_reducible exact sim_newVar K _ _ | with_reducible exact sim_loadVar K _ _ | with_reducible exact sim_storeVar K _ _ _ | with_reducible exact sim_part K _ _ _ | with_reducible exact sim_runtimePanic K _ _ | with_reducible exact sim_boundsPanic K _ _ _ _ | with_reducible exact sim_asIntOf K _ | with_reducible exact sim_asInt K _ | with_reducible exact sim_asBool K _ | with_reducible exact sim_asString K _ | with_reducible exact sim_asAgg K _ | with_reducible exact sim_asAddr K _ | with_reducible exact sim_alloc K _ _ _ | with_reducible exact sim_sureAddr K _ | with_reducible exact sim_loadAt K _ _ | with_reducible exact sim_storeAt K _ _ _ | with_reducible exact sim_indexAt K _ _ _ | with_reducible exact sim_sliceBound K _ _ _ | with_reducible exact sim_sliceBounds K _ _ _ _ _ _ | with_reducible exact sim_slice K _ _ _ _ _ | with_reducible exact sim_sliceAt K _ _ _ _ _ | with_reducible exact sim_box K _ _ | with_reducible exact sim_buildSlice K _ _ _ | with_reducible exact sim_field K _ _ _ | with_reducible exact sim_index K _ _ _ | with_reducible exact sim_makeSlice K _ _ _ | with_reducible exact sim_makeFunc K _ _ _ | with_reducible exact sim_extract K _ _ | with_reducible exact sim_makeInterface K _ _ | with_reducible exact sim_len K _ _ _ | with_reducible exact sim_cap K _ _ _ | with_reducible exact sim_lenOf K _ | with_reducible exact sim_firstCells K _ _ _ | with_reducible exact sim_copy K _ _ _ | with_reducible exact sim_noView K _ | with_reducible exact sim_numberAt K _ | with_reducible exact sim_byteOf K _ | with_reducible exact sim_partAt K _ _ _ | with_reducible exact sim_fieldPlace K _ _ | with_reducible exact sim_fieldAt K _ _ _ | with_reducible exact sim_clear K _ _ _ | with_reducible exact sim_intArith K _ _ _ _ | with_reducible exact sim_intDiv K _ _ _ _ | with_reducible exact sim_intBits K _ _ _ _ | with_reducible exact sim_intCmp K _ _ _ | with_reducible exact sim_shift K _ _ _ _ _ | with_reducible exact sim_stringOp K _ _ _ | with_reducible exact sim_floatArith K _ _ _ _ | with_reducible exact sim_floatCmp K _ _ _ _ | with_reducible exact sim_unary K _ _ | with_reducible exact sim_min2 K _ _ | with_reducible exact sim_max2 K _ _ | with_reducible exact sim_intToInt K _ _ | with_reducible exact sim_append K _ _ _ | with_reducible exact sim_ssaWrapNilChk K _ _ _ | with_reducible exact sim_get K _ _ | with_reducible exact sim_follow K _ _ _ | with_reducible exact sim_receiverAt K _ _ _ _ | with_reducible exact sim_receiverVia K _ _ _ _ | with_reducible exact sim_method K _ _ _ _ | with_reducible exact sim_behindNumber K _ | with_reducible exact sim_floatToInt K _ _ _ | with_reducible exact sim_floatToFloat K _ _ _ | with_reducible exact sim_carith K _ _ _ _ | with_reducible exact sim_ccmp K _ _ _ _ | with_reducible refine Sim.bind ?_ (fun _ => ?_) | with_reducible refine Sim.map ?_ | (with_reducible refine sim_ite (fun _ => ?_) (fun _ => ?_)) | dsimp only | (exact sim_stuck _ _) | split)
theorem sim_cadd (K : Kin T) (x y : Nat) : Sim T (Op.Complex.add x y) (Op.Complex.add x y) := sim_carith K _ _ _ _
theorem sim_csub (K : Kin T) (x y : Nat) : Sim T (Op.Complex.sub x y) (Op.Complex.sub x y) := sim_carith K _ _ _ _
theorem sim_cmul (K : Kin T) (x y : Nat) : Sim T (Op.Complex.mul x y) (Op.Complex.mul x y) := sim_carith K _ _ _ _
theorem sim_cquo (K : Kin T) (x y : Nat) : Sim T (Op.Complex.quo x y) (Op.Complex.quo x y) := sim_carith K _ _ _ _
theorem sim_cproduct (K : Kin T) (x y z u : Nat) : Sim T (Op.Complex.product x y z u) (Op.Complex.product x y z u) := by
  unfold Op.Complex.product
  repeat' (first | with_reducible exact sim_pure _ | with_reducible exact sim_stuck _ _ | with_reducible exact sim_unsupported _ _ | with_reducible exact sim_load _ _ | with_reducible exact sim_store _ _ _ | (with_reducible refine Sim.look (fun o _ => ?_) (fun a u b => ?_) (fun o hx => ?_)) | with_reducible exact sim_choose _ | with_reducible exact sim_askRoom _ | with_reducible exact sim_typeInfo K _ | with_reducible exact sim_underlying K _ | with_reducible exact sim_sizeOf K _ | with_reducible exact sim_zeroValue K _ | with_reducible exact sim_isAgg K _ | with_reducible exact sim_elemOf K _ | with_reducible exact sim_loadCells K _ _ | with_reducible exact sim_storeCells K _ _ _ | with_reducible exact sim_newRow K _ _ | with_reducible exact sim_newVar K _ _ | with_reducible exact sim_loadVar K _ _ | with_reducible exact sim_storeVar K _ _ _ | with_reducible exact sim_part K _ _ _ | with_reducible exact sim_runtimePanic K _ _ | with_reducible exact sim_boundsPanic K _ _ _ _ | with_reducible exact sim_asIntOf K _ | with_reducible exact sim_asInt K _ | with_reducible exact sim_asBool K _ | with_reducible exact sim_asString K _ | with_reducible exact sim_asAgg K _ | with_reducible exact sim_asAddr K _ | with_reducible exact sim_alloc K _ _ _ | with_reducible exact sim_sureAddr K _ | with_reducible exact sim_loadAt K _ _ | with_reducible exact sim_storeAt K _ _ _ | with_reducible exact sim_indexAt K _ _ _ | with_reducible exact sim_sliceBound K _ _ _ | with_reducible exact sim_sliceBounds K _ _ _ _ _ _ | with_reducible exact sim_slice K _ _ _ _ _ | with_reducible exact sim_sliceAt K _ _ _ _ _ | with_reducible exact sim_box K _ _ | with_reducible exact sim_buildSlice K _ _ _ | with_reducible exact sim_field K _ _ _ | with_reducible exact sim_index K _ _ _ | with_reducible exact sim_makeSlice K _ _ _ | with_reducible exact sim_makeFunc K _ _ _ | with_reducible exact sim_extract K _ _ | with_reducible exact sim_makeInterface K _ _ | with_reducible exact sim_len K _ _ _ | with_reducible exact sim_cap K _ _ _ | with_reducible exact sim_lenOf K _ | with_reducible exact sim_firstCells K _ _ _ | with_reducible exact sim_copy K _ _ _ | with_reducible exact sim_noView K _ | with_reducible exact sim_numberAt K _ | with_reducible exact sim_byteOf K _ | with_reducible exact sim_partAt K _ _ _ | with_reducible exact sim_fieldPlace K _ _ | with_reducible exact sim_fieldAt K _ _ _ | with_reducible exact sim_clear K _ _ _ | with_reducible exact sim_intArith K _ _ _ _ | with_reducible exact sim_intDiv K _ _ _ _ | with_reducible exact sim_intBits K _ _ _ _ | with_reducible exact sim_intCmp K _ _ _ | with_reducible exact sim_shift K _ _ _ _ _ | with_reducible exact sim_stringOp K _ _ _ | with_reducible exact sim_floatArith K _ _ _ _ | with_reducible exact sim_floatCmp K _ _ _ _ | with_reducible exact sim_unary K _ _ | with_reducible exact sim_min2 K _ _ | with_reducible exact sim_max2 K _ _ | with_reducible exact sim_intToInt K _ _ | with_reducible exact sim_append K _ _ _ | with_reducible exact sim_ssaWrapNilChk K _ _ _ | with_reducible exact sim_get K _ _ | with_reducible exact sim_follow K _ _ _ | with_reducible exact sim_receiverAt K _ _ _ _ | with_reducible exact sim_receiverVia K _ _ _ _ | with_reducible exact sim_method K _ _ _ _ | with_reducible exact sim_behindNumber K _ | with_reducible exact sim_floatToInt K _ _ _ | with_reducible exact sim_floatToFloat K _ _ _ | with_reducible exact sim_carith K _ _ _ _ | with_reducible exact sim_ccmp K _ _ _ _ | with_reducible exact sim_cconv K _ _ _ | with_reducible exact sim_cadd K _ _ | with_reducible exact sim_csub K _ _ | with_reducible exact sim_cmul K _ _ | with_reducible exact sim_cquo K _ _ | with_reducible refine Sim.bind ?_ (fun _ => ?_) | with_reducible refine Sim.map ?_ | (with_reducible refine sim_ite (fun _ => ?_) (fun _ => ?_)) | dsimp only | (exact sim_stuck _ _) | split)
theorem sim_ccorrected (K : Kin T) (s x y z u : Nat) : Sim T (Op.Complex.corrected s x y z u) (Op.Complex.corrected s x y z u) := by
  unfold Op.Complex.corrected
  repeat' (first | with_reducible exact sim_pure _ | with_reducible exact sim_stuck _ _ | with_reducible exact sim_unsupported _ _ | with_reducible exact sim_load _ _ | with_reducible exact sim_store _ _ _ | (with_reducible refine Sim.look (fun o _ => ?_) (fun a u b => ?_) (fun o hx => ?_)) | with_reducible exact sim_choose _ | with_reducible exact sim_askRoom _ | with_reducible exact sim_typeInfo K _ | with_reducible exact sim_underlying K _ | with_reducible exact sim_sizeOf K _ | with_reducible exact sim_zeroValue K _ | with_reducible exact sim_isAgg K _ | with_reducible exact sim_elemOf K _ | with_reducible exact sim_loadCells K _ _ | with_reducible exact sim_storeCells K _ _ _ | with_reducible exact sim_newRow K _ _ | with_reducible exact sim_newVar K _ _ | with_reducible exact sim_loadVar K _ _ | with_reducible exact sim_storeVar K _ _ _ | with_reducible exact sim_part K _ _ _ | with_reducible exact sim_runtimePanic K _ _ | with_reducible exact sim_boundsPanic K _ _ _ _ | with_reducible exact sim_asIntOf K _ | with_reducible exact sim_asInt K _ | with_reducible exact sim_asBool K _ | with_reducible exact sim_asString K _ | with_reducible exact sim_asAgg K _ | with_reducible exact sim_asAddr K _ | with_reducible exact sim_alloc K _ _ _ | with_reducible exact sim_sureAddr K _ | with_reducible exact sim_loadAt K _ _ | with_reducible exact sim_storeAt K _ _ _ | with_reducible exact sim_indexAt K _ _ _ | with_reducible exact sim_sliceBound K _ _ _ | with_reducible exact sim_sliceBounds K _ _ _ _ _ _ | with_reducible exact sim_slice K _ _ _ _ _ | with_reducible exact sim_sliceAt K _ _ _ _ _ | with_reducible exact sim_box K _ _ | with_reducible exact sim_buildSlice K _ _ _ | with_reducible exact sim_field K _ _ _ | with_reducible exact sim_index K _ _ _ | with_reducible exact sim_makeSlice K _ _ _ | with_reducible exact sim_makeFunc K _ _ _ | with_reducible exact sim_extract K _ _ | with_reducible exact sim_makeInterface K _ _ | with_reducible exact sim_len K _ _ _ | with_reducible exact sim_cap K _ _ _ | with_reducible exact sim_lenOf K _ | with_reducible exact sim_firstCells K _ _ _ | with_reducible exact sim_copy K _ _ _ | with_reducible exact sim_noView K _ | with_reducible exact sim_numberAt K _ | with_reducible exact sim_byteOf K _ | with_reducible exact sim_partAt K _ _ _ | with_reducible exact sim_fieldPlace K _ _ | with_reducible exact sim_fieldAt K _ _ _ | with_reducible exact sim_clear K _ _ _ | with_reducible exact sim_intArith K _ _ _ _ | with_reducible exact sim_intDiv K _ _ _ _ | with_reducible exact sim_intBits K _ _ _ _ | with_reducible exact sim_intCmp K _ _ _ | with_reducible exact sim_shift K _ _ _ _ _ | with_reducible exact sim_stringOp K _ _ _ | with_reducible exact sim_floatArith K _ _ _ _ | with_reducible exact sim_floatCmp K _ _ _ _ | with_reducible exact sim_unary K _ _ | with_reducible exact sim_min2 K _ _ | with_reducible exact sim_max2 K _ _ | with_reducible exact sim_intToInt K _ _ | with_reducible exact sim_append K _ _ _ | with_reducible exact sim_ssaWrapNilChk K _ _ _ | with_reducible exact sim_get K _ _ | with_reducible exact sim_follow K _ _ _ | with_reducible exact sim_receiverAt K _ _ _ _ | with_reducible exact sim_receiverVia K _ _ _ _ | with_reducible exact sim_method K _ _ _ _ | with_reducible exact sim_behindNumber K _ | with_reducible exact sim_floatToInt K _ _ _ | with_reducible exact sim_floatToFloat K _ _ _ | with_reducible exact sim_carith K _ _ _ _ | with_reducible exact sim_ccmp K _ _ _ _ | with_reducible exact sim_cconv K _ _ _ | with_reducible exact sim_cadd K _ _ | with_reducible exact sim_csub K _ _ | with_reducible exact sim_cmul K _ _ | with_reducible exact sim_cquo K _ _ | with_reducible exact sim_cproduct K _ _ _ _ | with_reducible refine Sim.bind ?_ (fun _ => ?_) | with_reducible refine Sim.map ?_ | (with_reducible refine sim_ite (fun _ => ?_) (fun _ => ?_)) | dsimp only | (exact sim_stuck _ _) | split)
theorem sim_cquotient (K : Kin T) (x y z u : Nat) : Sim T (Op.Complex.quotient x y z u) (Op.Complex.quotient x y z u) := by
  unfold Op.Complex.quotient
  repeat' (first | with_reducible exact sim_pure _ | with_reducible exact sim_stuck _ _ | with_reducible exact sim_unsupported _ _ | with_reducible exact sim_load _ _ | with_reducible exact sim_store _ _ _ | (with_reducible refine Sim.look (fun o _ => ?_) (fun a u b => ?_) (fun o hx => ?_)) | with_reducible exact sim_choose _ | with_reducible exact sim_askRoom _ | with_reducible exact sim_typeInfo K _ | with_reducible exact sim_underlying K _ | with_reducible exact sim_sizeOf K _ | with_reducible exact sim_zeroValue K _ | with_reducible exact sim_isAgg K _ | with_reducible exact sim_elemOf K _ | with_reducible exact sim_loadCells K _ _ | with_reducible exact sim_storeCells K _ _ _ | with_reducible exact sim_newRow K _ _ | with_reducible exact sim_newVar K _ _ | with_reducible exact sim_loadVar K _ _ | with_reducible exact sim_storeVar K _ _ _ | with_reducible exact sim_part K _ _ _ | with_reducible exact sim_runtimePanic K _ _ | with_reducible exact sim_boundsPanic K _ _ _ _ | with_reducible exact sim_asIntOf K _ | with_reducible exact sim_asInt K _ | with_reducible exact sim_asBool K _ | with_reducible exact sim_asString K _ | with_reducible exact sim_asAgg K _ | with_reducible exact sim_asAddr K _ | with_reducible exact sim_alloc K _ _ _ | with_reducible exact sim_sureAddr K _ | with_reducible exact sim_loadAt K _ _ | with_reducible exact sim_storeAt K _ _ _ | with_reducible exact sim_indexAt K _ _ _ | with_reducible exact sim_sliceBound K _ _ _ | with_reducible exact sim_sliceBounds K _ _ _ _ _ _ | with_reducible exact sim_slice K _ _ _ _ _ | with_reducible exact sim_sliceAt K _ _ _ _ _ | with_reducible exact sim_box K _ _ | with_reducible exact sim_buildSlice K _ _ _ | with_reducible exact sim_field K _ _ _ | with_reducible exact sim_index K _ _ _ | with_reducible exact sim_makeSlice K _ _ _ | with_reducible exact sim_makeFunc K _ _ _ | with_reducible exact sim_extract K _ _ | with_reducible exact sim_makeInterface K _ _ | with_reducible exact sim_len K _ _ _ | with_reducible exact sim_cap K _ _ _ | with_reducible exact sim_lenOf K _ | with_reducible exact sim_firstCells K _ _ _ | with_reducible exact sim_copy K _ _ _ | with_reducible exact sim_noView K _ | with_reducible exact sim_numberAt K _ | with_reducible exact sim_byteOf K _ | with_reducible exact sim_partAt K _ _ _ | with_reducible exact sim_fieldPlace K _ _ | with_reducible exact sim_fieldAt K _ _ _ | with_reducible exact sim_clear K _ _ _ | with_reducible exact sim_intArith K _ _ _ _ | with_reducible exact sim_intDiv K _ _ _ _ | with_reducible exact sim_intBits K _ _ _ _ | with_reducible exact sim_intCmp K _ _ _ | with_reducible exact sim_shift K _ _ _ _ _ | with_reducible exact sim_stringOp K _ _ _ | with_reducible exact sim_floatArith K _ _ _ _ | with_reducible exact sim_floatCmp K _ _ _ _ | with_reducible exact sim_unary K _ _ | with_reducible exact sim_min2 K _ _ | with_reducible exact sim_max2 K _ _ | with_reducible exact sim_intToInt K _ _ | with_reducible exact sim_append K _ _ _ | with_reducible exact sim_ssaWrapNilChk K _ _ _ | with_reducible exact sim_get K _ _ | with_reducible exact sim_follow K _ _ _ | with_reducible exact sim_receiverAt K _ _ _ _ | with_reducible exact sim_receiverVia K _ _ _ _ | with_reducible exact sim_method K _ _ _ _ | with_reducible exact sim_behindNumber K _ | with_reducible exact sim_floatToInt K _ _ _ | with_reducible exact sim_floatToFloat K _ _ _ | with_reducible exact sim_carith K _ _ _ _ | with_reducible exact sim_ccmp K _ _ _ _ | with_reducible exact sim_cconv K _ _ _ | with_reducible exact sim_cadd K _ _ | with_reducible exact sim_csub K _ _ | with_reducible exact sim_cmul K _ _ | with_reducible exact sim_cquo K _ _ | with_reducible exact sim_cproduct K _ _ _ _ | with_reducible exact sim_ccorrected K _ _ _ _ _ | with_reducible refine Sim.bind ?_ (fun _ => ?_) | with_reducible refine Sim.map ?_ | (with_reducible refine sim_ite (fun _ => ?_) (fun _ => ?_)) | dsimp only | (exact sim_stuck _ _) | split)
theorem sim_complexOp (K : Kin T) (op : BinOp) (k : FloatKind) (x y z u : Nat) : Sim T (Op.complexOp op k x y z u) (Op.complexOp op k x y z u) := by
  unfold Op.complexOp
  repeat' (first | with_reducible exact sim_pure _ | with_reducible exact sim_stuck _ _ | with_reducible exact sim_unsupported _ _ | with_reducible exact sim_load _ _ | with_reducible exact sim_store _ _ _ | (with_reducible refine Sim.look (fun o _ => ?_) (fun a u b => ?_) (fun o hx => ?_)) | with_reducible exact sim_choose _ | with_reducible exact sim_askRoom _ | with_reducible exact sim_typeInfo K _ | with_reducible exact sim_underlying K _ | with_reducible exact sim_sizeOf K _ | with_reducible exact sim_zeroValue K _ | with_reducible exact sim_isAgg K _ | with_reducible exact sim_elemOf K _ | with_reducible exact sim_loadCells K _ _ | with_reducible exact sim_storeCells K _ _ _ | with_reducible exact sim_newRow K _ _ | with_reducible exact sim_newVar K _ _ | with_reducible exact sim_loadVar K _ _ | with_reducible exact sim_storeVar K _ _ _ | with_reducible exact sim_part K _ _ _ | with_reducible exact sim_runtimePanic K _ _ | with_reducible exact sim_boundsPanic K _ _ _ _ | with_reducible exact sim_asIntOf K _ | with_reducible exact sim_asInt K _ | with_reducible exact sim_asBool K _ | with_reducible exact sim_asString K _ | with_reducible exact sim_asAgg K _ | with_reducible exact sim_asAddr K _ | with_reducible exact sim_alloc K _ _ _ | with_reducible exact sim_sureAddr K _ | with_reducible exact sim_loadAt K _ _ | with_reducible exact sim_storeAt K _ _ _ | with_reducible exact sim_indexAt K _ _ _ | with_reducible exact sim_sliceBound K _ _ _ | with_reducible exact sim_sliceBounds K _ _ _ _ _ _ | with_reducible exact sim_slice K _ _ _ _ _ | with_reducible exact sim_sliceAt K _ _ _ _ _ | with_reducible exact sim_box K _ _ | with_reducible exact sim_buildSlice K _ _ _ | with_reducible exact sim_field K _ _ _ | with_reducible exact sim_index K _ _ _ | with_reducible exact sim_makeSlice K _ _ _ | with_reducible exact sim_makeFunc K _ _ _ | with_reducible exact sim_extract K _ _ | with_reducible exact sim_makeInterface K _ _ | with_reducible exact sim_len K _ _ _ | with_reducible exact sim_cap K _ _ _ | with_reducible exact sim_lenOf K _ | with_reducible exact sim_firstCells K _ _ _ | with_reducible exact sim_copy K _ _ _ | with_reducible exact sim_noView K _ | with_reducible exact sim_numberAt K _ | with_reducible exact sim_byteOf K _ | with_reducible exact sim_partAt K _ _ _ | with_reducible exact sim_fieldPlace K _ _ | with_reducible exact sim_fieldAt K _ _ _ | with_reducible exact sim_clear K _ _ _ | with_reducible exact sim_intArith K _ _ _ _ | with_reducible exact sim_intDiv K _ _ _ _ | with_reducible exact sim_intBits K _ _ _ _ | with_reducible exact sim_intCmp K _ _ _ | with_reducible exact sim_shift K _ _ _ _ _ | with_reducible exact sim_stringOp K _ _ _ | with_reducible exact sim_floatArith K _ _ _ _ | with_reducible exact sim_floatCmp K _ _ _ _ | with_reducible exact sim_unary K _ _ | with_reducible exact sim_min2 K _ _ | with_reducible exact sim_max2 K _ _ | with_reducible exact sim_intToInt K _ _ | with_reducible exact sim_append K _ _ _ | with_reducible exact sim_ssaWrapNilChk K _ _ _ | with_reducible exact sim_get K _ _ | with_reducible exact sim_follow K _ _ _ | with_reducible exact sim_receiverAt K _ _ _ _ | with_reducible exact sim_receiverVia K _ _ _ _ | with_reducible exact sim_method K _ _ _ _ | with_reducible exact sim_behindNumber K _ | with_reducible exact sim_floatToInt K _ _ _ | with_reducible exact sim_floatToFloat K _ _ _ | with_reducible exact sim_carith K _ _ _ _ | with_reducible exact sim_ccmp K _ _ _ _ | with_reducible exact sim_cconv K _ _ _ | with_reducible exact sim_cadd K _ _ | with_reducible exact sim_csub K _ _ | with_reducible exact sim_cmul K _ _ | with_reducible exact sim_cquo K _ _ | with_reducible exact sim_cproduct K _ _ _ _ | with_reducible exact sim_ccorrected K _ _ _ _ _ | with_reducible exact sim_cquotient K _ _ _ _ | with_reducible refine Sim.bind ?_ (fun _ => ?_) | with_reducible refine Sim.map ?_ | (with_reducible refine sim_ite (fun _ => ?_) (fun _ => ?_)) | dsimp only | (exact sim_stuck _ _) | split)
theorem cellAt_none (p : Program) (d : Nat) (e : TypeId) (off : Nat) (n : Int) (s : Nat) : cellAtBytes p d e (0 / s) off n = none := by
  unfold cellAtBytes
  simp only [Nat.zero_div, Nat.zero_mul]
  by_cases h1 : p.cellsOf e = 0 ∨ p.bytesOf e = 0
  · simp [h1]
  · simp only [Bool.or_eq_true, decide_eq_true_eq, h1, if_false, bind, Option.bind, pure]
    cases byteOfCell p d e (off % p.cellsOf e) with
    | none => rfl
    | some b =>
      simp
      intro h1 h2
      omega
theorem cellOfByte_kin (P : Program) (n0 : TypeId) (fs : Array Func) : ∀ (d : Nat) (e : TypeId) (o : Nat), cellOfByte (cutProg P n0 fs) d e o = cellOfByte P d e o := by
  intro d
  induction d with
  | zero => intro e o; rfl
  | succ d ih =>
    intro e o
    have e1 := cut_under P n0 fs
    have e2 := cut_cells P n0 fs
    have e3 := cut_bytes P n0 fs
    simp only [cellOfByte, ih, e1, e2, e3]
theorem cellAt_kin (P : Program) (n0 : TypeId) (fs : Array Func) (d : Nat) (e : TypeId) (c o : Nat) (n : Int) : cellAtBytes (cutProg P n0 fs) d e c o n = cellAtBytes P d e c o n := by
  have e2 := cut_cells P n0 fs
  have e3 := cut_bytes P n0 fs
  simp only [cellAtBytes, cellOfByte_kin, byteOfCell_kin, e2, e3]
def addTail (a : Addr) (n : Int) (x : Option (TypeId × Nat)) : Sem Value :=
  match x with
  | some (e, cells) => program >>= fun p => match cellAtBytes p p.depth e (cells / p.cellsOf e) a.off n with
    | some off => pure (Value.pointer (some { a with off }))
    | none => unsupported (.unsafePointer "Add")
  | _ => unsupported (.unsafePointer "Add")
theorem sim_addTail (K : Kin T) (a : Addr) (n : Int) : Sim T (shape a.block >>= addTail a n) (shape a.block >>= addTail a n) := by
  refine sim_shape_bind _ (fun o => ?_) (fun e c => ?_)
  · cases o with
    | none => exact sim_unsupported _ _
    | some x =>
      obtain ⟨e, c⟩ := x
      unfold addTail
      dsimp only
      obtain ⟨P, n0, fs, ok, X0, hn0, rfl⟩ := K.form
      refine sim_program ?_
      dsimp only
      rw [cellAt_kin]
      have e2 := cut_cells P n0 fs e
      have e4 : Program.depth (cutProg P n0 fs) = P.depth := rfl
      rw [e2, e4]
      split
      · exact sim_pure _
      · exact sim_unsupported _ _
  · unfold addTail
    dsimp only
    refine sim_doomed _ (fun w => ⟨.unsupported (.unsafePointer "Add"), ?_, trivial⟩)
    simp only [program, bind, Sem.bind, Sem.run, cellAt_none]
    rfl
theorem sim_unsafeAdd (K : Kin T) (ts : Array TypeId) (t : TypeId) (p : Option Addr) (y : Value) : Sim T (Builtin.unsafeAdd_ ts t #[.pointer p, y]) (Builtin.unsafeAdd_ ts t #[.pointer p, y]) := by
  refine Sim.bind (s := asInt y) (s' := asInt y) (sim_asInt K y) fun n => ?_
  dsimp only
  refine sim_ite (fun h0 => ?_) (fun h0 => ?_)
  · cases p with
    | none => exact sim_doomed _ (fun w => ⟨_, rfl, trivial⟩)
    | some a =>
      dsimp only
      exact sim_viewAt_bind _ (sim_pure _) (fun x y => sim_doomed _ (fun w => ⟨_, rfl, trivial⟩))
  · split
    · exact sim_doomed _ (fun w => ⟨_, rfl, trivial⟩)
    · cases p with
      | none => exact sim_unsupported _ _
      | some a => exact sim_addTail K a n

theorem sim_movedNumber (K : Kin T) (t : TypeId) (x y : Value) : Sim T (movedNumber t x y) (movedNumber t x y) := by
  unfold movedNumber
  refine Sim.bind (sim_underlying K _) fun u => ?_
  have key : Sim T (match x with
      | .pointer (some n) => behindNumber n >>= fun q => match q with
        | (a, lost) => Builtin.unsafeAdd_ #[] t #[.pointer (some a), y] >>= fun r => match r with
          | .pointer (some b) => asNumber b lost
          | v => pure v
      | _ => Builtin.unsafeAdd_ #[] t #[x, y]) (match x with
      | .pointer (some n) => behindNumber n >>= fun q => match q with
        | (a, lost) => Builtin.unsafeAdd_ #[] t #[.pointer (some a), y] >>= fun r => match r with
          | .pointer (some b) => asNumber b lost
          | v => pure v
      | _ => Builtin.unsafeAdd_ #[] t #[x, y]) := by
    cases x with
    | pointer p =>
      cases p with
      | none => exact sim_unsafeAdd K _ _ _ _
      | some n =>
        refine Sim.bind (sim_behindNumber K n) fun q => ?_
        obtain ⟨a, lost⟩ := q
        refine Sim.bind (sim_unsafeAdd K _ _ _ _) fun r => ?_
        split
        · unfold asNumber
          exact Sim.bind (sim_newObj _ ⟨by simp, by simp, by simp⟩) fun _ => sim_pure _
        · exact sim_pure _
    | _ => exact sim_stuck _ _
  dsimp only
  split
  · exact sim_doomed _ (fun w => ⟨_, rfl, trivial⟩)
  · exact key
theorem sim_movedPointer (K : Kin T) (t : TypeId) (p : Option Addr) (y : Value) : Sim T (movedPointer t (.pointer p) y) (movedPointer t (.pointer p) y) := by
  unfold movedPointer
  cases p with
  | none => exact sim_unsafeAdd K _ _ _ _
  | some a =>
    dsimp only
    refine Sim.bind (sim_numberAt K _) fun u => ?_
    split
    · exact sim_doomed _ (fun w => ⟨_, rfl, trivial⟩)
    · exact sim_unsafeAdd K _ _ _ _
theorem sim_twoPlaces (K : Kin T) (a b : Addr) : Sim T (Op.twoPlaces a b) (Op.twoPlaces a b) := by
  unfold Op.twoPlaces
  refine sim_program ?_
  rw [K.globals]
  dsimp only
  split
  · exact sim_doomed _ (fun w => ⟨_, rfl, trivial⟩)
  · exact Sim.bind (sim_byteOf K _) fun _ => Sim.bind (sim_byteOf K _) fun _ => sim_pure _
theorem sim_addrSub (K : Kin T) (k : IntKind) (a b : Addr) : Sim T (Op.addrSub k a b) (Op.addrSub k a b) := by
  unfold Op.addrSub
  exact Sim.bind (sim_twoPlaces K _ _) fun _ => sim_pure _
theorem sim_addrCmp (K : Kin T) (op : BinOp) (a b : Addr) : Sim T (Op.addrCmp op a b) (Op.addrCmp op a b) := by
  unfold Op.addrCmp
  refine Sim.bind (sim_twoPlaces K _ _) fun q => ?_
  dsimp only
  split <;> first | exact sim_pure _ | exact sim_unsupported _ _
theorem sim_addrMod (K : Kin T) (k : IntKind) (a : Addr) (n : Int) : Sim T (Op.addrMod k a n) (Op.addrMod k a n) := by
  unfold Op.addrMod
  have key : ∀ e : TypeId, Sim T (typeInfo e >>= fun i => if (decide (n < 1) || decide (n.toNat > i.align) || i.align % n.toNat != 0) = true then unsupported .addressObserved else byteOf a >>= fun b => pure (Value.int k ((b % n.toNat : Nat) : Int)))
      (typeInfo e >>= fun i => if (decide (n < 1) || decide (n.toNat > i.align) || i.align % n.toNat != 0) = true then unsupported .addressObserved else byteOf a >>= fun b => pure (Value.int k ((b % n.toNat : Nat) : Int))) :=
    fun e => Sim.bind (sim_typeInfo K e) fun i => sim_ite (fun _ => sim_unsupported _ _) (fun _ => Sim.bind (sim_byteOf K _) fun _ => sim_pure _)
  refine sim_shape_bind _ (fun o => ?_) (fun e c => ?_)
  · cases o with
    | none => exact sim_unsupported _ _
    | some x => obtain ⟨e, c⟩ := x; exact key e
  · exact key e

theorem sim_binOp (K : Kin T) (op : BinOp) (t : TypeId) (x y : Value) (h : (op = .eql ∨ op = .neq) → okEq T.P t = true) : Sim T (binOp op t x y) (binOp op t x y) := by
  unfold binOp
  split
  · exact sim_shift K _ _ _ _ _
  · exact sim_shift K _ _ _ _ _
  · refine sim_ite (fun _ => sim_stuck _ _) (fun _ => ?_)
    split <;> first | exact sim_intArith K _ _ _ _ | exact sim_intDiv K _ _ _ _ | exact sim_intBits K _ _ _ _ | exact sim_intCmp K _ _ _
  · refine sim_ite (fun _ => sim_stuck _ _) (fun _ => ?_)
    split <;> first | exact sim_floatArith K _ _ _ _ | exact sim_floatCmp K _ _ _ _
  · exact sim_ite (fun _ => sim_stuck _ _) (fun _ => sim_complexOp K _ _ _ _ _ _)
  · exact sim_stringOp K _ _ _
  · exact Sim.bind (sim_equal K _ _ _ (h (.inl rfl))) fun _ => sim_pure _
  · exact Sim.bind (sim_equal K _ _ _ (h (.inr rfl))) fun _ => sim_pure _
  · refine Sim.bind (sim_underlying K _) fun u => ?_
    split
    · exact sim_movedPointer K _ _ _
    · exact sim_movedNumber K _ _ _
  · exact sim_movedNumber K _ _ _
  · exact sim_movedNumber K _ _ _
  · exact Sim.bind (sim_behindNumber K _) fun _ => Sim.bind (sim_behindNumber K _) fun _ => sim_addrSub K _ _ _
  · exact Sim.bind (sim_behindNumber K _) fun _ => Sim.bind (sim_behindNumber K _) fun _ => sim_addrCmp K _ _ _
  · exact Sim.bind (sim_behindNumber K _) fun _ => Sim.bind (sim_behindNumber K _) fun _ => sim_addrCmp K _ _ _
  · exact Sim.bind (sim_behindNumber K _) fun _ => Sim.bind (sim_behindNumber K _) fun _ => sim_addrCmp K _ _ _
  · exact Sim.bind (sim_behindNumber K _) fun _ => Sim.bind (sim_behindNumber K _) fun _ => sim_addrCmp K _ _ _
  · exact Sim.bind (sim_behindNumber K _) fun _ => sim_addrMod K _ _ _
  · exact Sim.bind (sim_behindNumber K _) fun _ => sim_addrMod K _ _ _
  · exact Sim.bind (sim_behindNumber K _) fun _ => sim_addrMod K _ _ _
  · exact sim_unsupported _ _
  · exact sim_unsupported _ _
  · exact sim_stuck _ _

theorem sim_mapM (K : Kin T) {γ δ : Type} (f : γ → Sem δ) (h : ∀ x, Sim T (f x) (f x)) (a : Array γ) : Sim T (a.mapM f) (a.mapM f) := by
  obtain ⟨l⟩ := a
  rw [Array.mapM_eq_mapM_toList]
  refine Sim.map ?_
  show Sim T (l.mapM f) (l.mapM f)
  induction l with
  | nil => exact sim_pure _
  | cons x l ih =>
    rw [List.mapM_cons]
    exact Sim.bind (h x) fun y => Sim.bind ih fun ys => sim_pure _
theorem sim_build (K : Kin T) (t : TypeId) (ps : Array (Nat × Value)) : Sim T (Instr.build t ps) (Instr.build t ps) := by
  unfold Instr.build
  refine Sim.bind (sim_zeroValue K _) fun z => Sim.bind (sim_underlying K _) fun u => ?_
  split
  · refine Sim.bind (sim_mapM K _ (fun f => Sim.bind (sim_sizeOf K _) fun _ => sim_pure _) _) fun places => ?_
    split
    · exact sim_pure _
    · exact sim_stuck _ _
  · refine Sim.bind (sim_sizeOf K _) fun n => ?_
    split
    · exact sim_pure _
    · exact sim_stuck _ _
  · exact sim_stuck _ _
theorem sim_followBlind (K : Kin T) : ∀ (l : List FieldStep) (t : TypeId) (x : Option Value), Sim T (followBlind l t x) (followBlind l t x)
  | [], t, x => sim_pure _
  | s :: rest, t, x => by
    have ih := sim_followBlind K rest
    unfold followBlind
    refine Sim.bind (sim_underlying K _) fun u => ?_
    split
    · split
      · split <;> first | exact sim_pure _ | exact ih _ _ | exact sim_stuck _ _ | exact Sim.bind (sim_part K _ _ _) fun _ => ih _ _
      · exact sim_stuck _ _
    · exact sim_stuck _ _
theorem sim_nilAhead (K : Kin T) : ∀ (n : Nat) (t : TypeId) (v : Value) (s : String), Sim T (nilAhead n t v s) (nilAhead n t v s)
  | 0, _, _, _ => sim_pure _
  | n + 1, t, v, s => by
    have ih := sim_nilAhead K n
    unfold nilAhead
    refine Sim.bind (sim_typeInfo K _) fun i => ?_
    split
    · refine Sim.bind (sim_followBlind K _ _ _) fun r => ?_
      split
      · exact sim_pure _
      · split <;> first | exact ih _ _ _ | exact sim_pure _ | exact sim_stuck _ _ | skip
        refine Sim.bind (sim_underlying K _) fun u => ?_
        split <;> exact sim_pure _
    · exact sim_stuck _ _
theorem sim_guard (K : Kin T) (op : BinOp) (t : TypeId) (x y : Operand) (a b : Value) (h : (op = .eql ∨ op = .neq) → okEq T.P t = true) : Sim T (eqGuard op t x y a b) (eqGuard op t x y a b) := by
  by_cases ho : op = .eql ∨ op = .neq
  · exact sim_eqGuard K op t x y a b (h ho)
  · cases op <;> first | exact absurd (.inl rfl) ho | exact absurd (.inr rfl) ho | exact sim_pure _
theorem sim_convertInt (K : Kin T) (s d : TypeId) (x : Value) (h : okInt T.P s = true ∧ okInt T.P d = true) : Sim T (convert s d x) (convert s d x) := by
  unfold convert
  refine SimP.bind (sim_underlyingP K s) fun u hu => SimP.bind (sim_underlyingP K d) fun v hv => ?_
  have hu' : ∃ k, u = .int k := by
    have := h.1
    unfold okInt at this
    rw [hu] at this
    cases u <;> first | (cases this; done) | exact ⟨_, rfl⟩
  have hv' : ∃ k, v = .int k := by
    have := h.2
    unfold okInt at this
    rw [hv] at this
    cases v <;> first | (cases this; done) | exact ⟨_, rfl⟩
  obtain ⟨k, rfl⟩ := hu'
  obtain ⟨j, rfl⟩ := hv'
  cases x <;> first | exact sim_intToInt K _ _ | exact sim_floatToInt K _ _ _ | exact sim_unsupported _ _ | (cases ‹Option Addr› <;> exact sim_unsupported _ _)

theorem sim_execOp (K : Kin T) (ρ : Operand → Value) (o : Oper) (h : okOp T.P o.op = true) : SimP T (okNext T) (execOp ρ o) (execOp ρ o) := by
  unfold execOp
  cases ho : o.op with
  | move x => exact simP_pure trivial
  | assign x => exact simP_pure trivial
  | pick c a b => exact SimP.bind (sim_asBool K _) fun _ _ => simP_pure trivial
  | alloc e => exact sim_value K (sim_alloc K _ _ _)
  | box e v => exact sim_value K (sim_box K _ _)
  | buildSlice t n ps => exact sim_value K (sim_buildSlice K _ _ _)
  | load t a => exact sim_value K (sim_loadAt K _ _)
  | store t a v => exact sim_skip K (sim_storeAt K _ _ _)
  | unOp u t x => exact sim_value K (sim_unary K _ _)
  | makeFunc f a b => exact sim_value K (sim_makeFunc K _ _ _)
  | makeSlice t a b => exact sim_value K (sim_makeSlice K _ _ _)
  | makeInterface t x => exact sim_value K (sim_makeInterface K _ _)
  | slice t x a b c => exact sim_value K (sim_sliceAt K _ _ _ _ _)
  | fieldAddr t x n => exact sim_value K (sim_fieldAt K _ _ _)
  | field t x n => exact sim_value K (sim_field K _ _ _)
  | indexAddr t x y => exact sim_value K (sim_indexAt K _ _ _)
  | index t x y => exact sim_value K (sim_index K _ _ _)
  | extract x n => exact sim_value K (sim_extract K _ _)
  | build t ps => exact sim_value K (sim_build K _ _)
  | nilCheck x =>
    dsimp only
    split
    · exact (sim_runtimePanic K _ _).never _ (fun w a w' => runtimePanic_no _ _ (.inr (.inr (.inr rfl))) w a w')
    · exact (sim_runtimePanic K _ _).never _ (fun w a w' => runtimePanic_no _ _ (.inr (.inr (.inr rfl))) w a w')
    · exact (sim_runtimePanic K _ _).never _ (fun w a w' => runtimePanic_no _ _ (.inr (.inr (.inr rfl))) w a w')
    · split
      · exact (sim_runtimePanic K _ _).never _ (fun w a w' => runtimePanic_no _ _ (.inr (.inr (.inr rfl))) w a w')
      · rename_i t w _
        have hs : T.pr.types.size = T.P.types.size := by obtain ⟨P, n0, fs, ok, X0, hn0, rfl⟩ := K.form; rfl
        refine simP_program ?_
        rw [hs]
        refine SimP.bind (φ := fun _ => True) (sim_nilAhead K _ _ _ _) fun r _ => ?_
        split
        · exact simP_halt (.unsupported _) trivial _
        · exact simP_pure trivial
      · exact simP_pure trivial
    · exact simP_pure trivial
  | binOp op t x y yt =>
    rw [ho] at h
    have hq : (op = .eql ∨ op = .neq) → okEq T.P t = true := by
      intro hop
      simp only [okOp] at h
      rcases hop with rfl | rfl <;> simpa using h
    exact sim_value K (Sim.bind (sim_guard K op t x y _ _ hq) fun _ => sim_binOp K op t _ _ hq)
  | convert s d x =>
    rw [ho] at h
    exact sim_value K (sim_convertInt K s d _ (by simpa [okOp] using h))
  | call c =>
    rw [ho] at h
    refine SimP.bind (sim_resolve K ρ c o.type) fun d hd => sim_invoke K d.target d.args (fun b ts t cs e => ?_) hd.2
    have := hd.1 b ts t cs e
    simp only [okOp, this] at h
    exact h
  | _ => rw [ho] at h; simp [okOp] at h

end
end

end Go.Proofs.YtfiaiephbemdoaaDoor
