/-
  What the laws of this claim lean on: what functions of the program and of the model answer, one after another, and plain mathematics. No condition.
-/
import Derived.Test.YtfiaiephbemdoaaDoorMgF
import Derived.Test.YtfiaiephbemdoaaDoorMgH
import Derived.Test.YtfiaiephbemdoaaDoorMgI
import Derived.Conc.LeavingOf
import Derived.Conc.FxBegin
import Derived.RunNT
import Derived.DuoClaim
import Derived.Deep.RegionHeld3

set_option maxHeartbeats 800000
set_option linter.unusedVariables false
set_option linter.unusedSimpArgs false
set_option linter.unnecessarySimpa false
set_option maxRecDepth 100000

namespace Go.Proofs.YtfiaiephbemdoaaDoor

section
open Go.Conc Go.RowKit Go.Conc.Lib Go.ConcR.Gen Go.ConcN.Gen
open Go.ConcN (WgLive)
open Go.ConcR (KK WgAt stA smA rd wr mk DC0)
section
variable {N n q m0 : Nat} {W0 : World} {ans : Nat → Nat → Value} {H : Nat → Prop} {Anch Fin : Goroutine → World → Prop} {avs : Nat → Nat → Int} {fr : Frame} {cs : List Frame}

theorem events_store_slice {P : Program} {w : World} {es : Array Event} {a : Addr} {m : Go.Mode} (p : Option Addr) (k c : Nat) : (store a (.slice p k c) m).events P w es = storedEv P w es a (.slice p k c) m := events_store P w es a _ m rfl

theorem madeCells_one (v : Value) (k : Nat) : madeCells #[v] k = Array.replicate k v := by
  unfold madeCells
  refine Array.ext (by simp) fun i h1 h2 => ?_
  simp [Nat.mod_one]

set_option maxRecDepth 100000 in
set_option maxHeartbeats 16000000 in
theorem spawns_m (hH : ∀ b, H b → b < N) (hans : ∀ c l, c < n → l < q → ans c l = .int .i64 (avs c l)) (hsum : ∀ c l x, c < n → l ≤ q → x < q → 0 ≤ sumC avs c l x ∧ sumC avs c l x ≤ 1000000) (hq : q < 2147483648) (hn : n < 2147483648) (h1n : 0 < n)
    (hA : ∀ T, TW N n q T → ∀ g w, AnchT (phT Tryd.prog N n q m0 W0 ans H Anch Fin) link (MF W0 N n q avs n 0) (waitFr Tryd.f31 T) (fr :: cs) g w → Anch g w)
    {vb vo vcap : Nat} {row : Nat → Value} (hvb : vb < N) (hvH : ¬ H vb) (hrow : ∀ i, i < n → W0.cell? ⟨vb, vo + i, none⟩ = some (row i)) (hsl : ∀ i, i < n → ∃ ra rl rc, row i = .slice ra rl rc) {fA : FuncId} {cap : Array Value}
    (hask : ∀ k, k < n → ∃ mA, ∀ number, number < q → ∀ w, WK (phT Tryd.prog N n q m0 W0 ans H Anch Fin) N k (row k) (.func (.func fA) #[] cap) w → CallsC Tryd.prog false (RW (phT Tryd.prog N n q m0 W0 ans H Anch Fin) k) (DW (phT Tryd.prog N n q m0 W0 ans H Anch Fin) k) fA (#[row k, .int .i64 number] ++ cap) mA w (fun v w' => WK (phT Tryd.prog N n q m0 W0 ans H Anch Fin) N k (row k) (.func (.func fA) #[] cap) w' ∧ v = ans k number)) :
    ∀ r, r ≤ n → ∃ m, ∀ (T : Array Value) (vv av : Value), TS N n (.slice (some ⟨vb, vo, none⟩) n vcap) (n - r) T → ∀ w, MS W0 N n q (.func (.func fA) #[] cap) (n - r) (n - r) 0 vv av w →
      Goes Tryd.prog true (RM (phT Tryd.prog N n q m0 W0 ans H Anch Fin) (n - r)) (DM (phT Tryd.prog N n q m0 W0 ans H Anch Fin) (n - r)) (AtSp (phT Tryd.prog N n q m0 W0 ans H Anch Fin) r) m (frM fr cs T (headS Tryd.f31)) w := by
  have hL : mainL Tryd.f31 = _ := rfl
  conv at hL => rhs; whnf
  have hAA : mainA Tryd.f31 = _ := rfl
  conv at hAA => rhs; whnf
  have hM : mainM Tryd.f31 = _ := rfl
  conv at hM => rhs; whnf
  have hB : mainB Tryd.f31 = _ := rfl
  conv at hB => rhs; whnf
  obtain ⟨i0, hi0, hz0, hz1, hz2⟩ := info_parts info_int
  intro r
  induction r with
  | zero =>
    intro _
    have TT := termsM (phT Tryd.prog N n q m0 W0 ans H Anch Fin) n n
    obtain ⟨mR, hR⟩ := recv_m (fr := fr) (cs := cs) (Anch := Anch) (Fin := Fin) (m0 := m0) hH hans hsum hq hn hA n (Nat.le_refl n)
    rw [Nat.sub_self] at hR
    rw [Nat.sub_zero]
    have hmk := fun w => run_make (P := Tryd.prog) w 26 3 i0 (.int .i64 0) Tryd.underlying26 hi0 hz0 .i64 .i64 q q (by omega) (by omega) (by rw [hz2]; omega) (by omega)
    have hme := fun w es => events_make (P := Tryd.prog) w 26 3 i0 (.int .i64 0) Tryd.underlying26 hi0 hz0 .i64 .i64 q q (by omega) (by omega) (by rw [hz2]; omega) (by omega) (by rw [hz2]; simp; omega) es
    co_apply Exists.intro
    intro T vv av hT w hF
    obtain ⟨v0, v1, v2, v3, v4, v5, v6, v7, v8, v9, v10, v11, v12, v13, v14, v15, v16, v17, v18, v19, v20, v21, v22, v23, v24, v25, v26, v27, v28, v29, v30, v31, v32, v33, v34, v35, v36, v37, v38, v39, v40, v41, v42, v43, v44, v45, v46, v47, v48, v49, v50, v51, v52, v53, v54, v55, v56, v57, v58, v59, rfl⟩ := arr60 T hT.sz
    have e4 := hT.t4
    have e5 := hT.t5
    have e7 := hT.t7
    have e8 := hT.t8
    have e20 := hT.t20
    have e21 := hT.t21
    have e22 := hT.t22
    simp only [List.getElem?_toArray, List.getElem?_cons_succ, List.getElem?_cons_zero, Option.some.injEq] at e4 e5 e7 e8 e20 e21 e22
    subst e4 e5 e7 e8 e20 e21 e22
    simp only [frM, headS, hL]
    co_apply (gs_seq TT)
    co_apply (gs_code (by decide))
    co_reg TT
    co_op MS.rely hF (co_quiet TT)
    co_apply opsC_nil TT
    refine ⟨rfl, ?_⟩
    co_apply (gs_seq TT)
    co_apply (gs_false TT (by simp [Act.eval]))
    co_apply (gs_exit TT rfl)
    simp only [hAA]
    co_apply (gs_seq TT)
    co_apply (gs_code (by decide))
    co_reg TT
    co_opw MS.rely hF (have hc := cell_in (i := 0) hF.qb rfl) (refine dm_read ?_; co_evs (exact ev_rdT hH (.inr ⟨by omega, by omega⟩) (by have := hF.size; omega)))
    clear hc
    co_opw MS.rely hF (have hsz := hF.size) (refine dm_alloc trivial ?_; co_evs (skip))
    replace hF := MF.start (avs := avs) hF (ys := madeCells #[.int .i64 0] q) (madeCells_one _ _)
    try simp only [hsz, Nat.add_zero]
    clear hsz
    co_op MF.rely hF (co_quiet TT)
    co_apply opsC_nil TT
    refine ⟨rfl, ?_⟩
    co_apply (gs_seq TT)
    co_apply (gs_seq TT)
    co_apply (gs_code (by decide))
    co_reg TT
    co_op MF.rely hF (co_quiet TT)
    co_op MF.rely hF (co_quiet TT)
    co_op MF.rely hF (co_quiet TT)
    co_apply opsC_nil TT
    refine ⟨rfl, ?_⟩
    co_apply (gs_block TT)
    co_apply (gs_loop TT)
    have hR2 := fun T hT => hR T hT _ hF
    simp only [frM, headR, hM, hB] at hR2
    exact hR2 _ ⟨by simp, by simp, by simp, by simp, by simp, by simp⟩
  | succ r ih =>
    intro hr
    obtain ⟨mS, hS⟩ := ih (by omega)
    obtain ⟨j, hj⟩ : ∃ j, n - (r + 1) = j := ⟨_, rfl⟩
    have hj1 : n - r = j + 1 := by omega
    rw [hj1] at hS
    rw [hj]
    have hjn : j < n := by omega
    have hlt : (j : Int) < n := by omega
    have zj : (0 : Int) ≤ j := by omega
    have ejr : (phT Tryd.prog N n q m0 W0 ans H Anch Fin).n - (r + 1) = j := hj
    have hess := fun (w : World) (es : Array Event) (a : Addr) (m : Go.Mode) (p : Option Addr) (k c : Nat) => events_store_slice (P := Tryd.prog) (w := w) (es := es) (a := a) (m := m) p k c
    obtain ⟨ra, rl, rc, hrj⟩ := hsl j hjn
    have hrow2 := hrow j hjn
    obtain ⟨mA, hask2⟩ := hask j hjn
    rw [hrj] at hrow2 hask2
    clear hrj
    have TT := termsM (phT Tryd.prog N n q m0 W0 ans H Anch Fin) j j
    have hmc := fun w => run_makeChan (P := Tryd.prog) (w := w) Tryd.underlying84 hi0 .i64 q (by omega) (by rw [hz2]; omega)
    have hmce := fun w es => events_makeChan (P := Tryd.prog) (w := w) Tryd.underlying84 hi0 .i64 q (by omega) (by rw [hz2]; omega) es
    simp only [AtSp, ejr]
    co_apply Exists.intro
    intro T vv av hT w hF
    obtain ⟨v0, v1, v2, v3, v4, v5, v6, v7, v8, v9, v10, v11, v12, v13, v14, v15, v16, v17, v18, v19, v20, v21, v22, v23, v24, v25, v26, v27, v28, v29, v30, v31, v32, v33, v34, v35, v36, v37, v38, v39, v40, v41, v42, v43, v44, v45, v46, v47, v48, v49, v50, v51, v52, v53, v54, v55, v56, v57, v58, v59, rfl⟩ := arr60 T hT.sz
    have e4 := hT.t4
    have e5 := hT.t5
    have e7 := hT.t7
    have e8 := hT.t8
    have e20 := hT.t20
    have e21 := hT.t21
    have e22 := hT.t22
    simp only [List.getElem?_toArray, List.getElem?_cons_succ, List.getElem?_cons_zero, Option.some.injEq] at e4 e5 e7 e8 e20 e21 e22
    subst e4 e5 e7 e8 e20 e21 e22
    simp only [frM, headS, hL]
    co_apply (gs_seq TT)
    co_apply (gs_code (by decide))
    co_reg TT
    co_op MS.rely hF (co_quiet TT)
    co_apply opsC_nil TT
    refine ⟨rfl, ?_⟩
    co_apply (gs_seq TT)
    co_apply (gs_true TT (by simp [Act.eval, hjn]))
    co_apply (gs_skip TT)
    co_apply (gs_seq TT)
    co_apply (gs_block TT)
    co_apply (gs_seq TT)
    co_apply (gs_code (by decide))
    co_reg TT
    co_op MS.rely hF (co_quiet TT)
    co_opw MS.rely hF (skip) (co_still TT)
    co_opw MS.rely hF (have hc := (cell_eq (hF.old vb hvb)).trans hrow2) (refine dm_read ?_; co_evs (exact ev_rdT hH (.inl ⟨hvb, hvH⟩) (by have := hF.size; omega)))
    clear hc
    co_opw MS.rely hF (have hsz := hF.size) (refine dm_alloc trivial ?_; co_evs (skip))
    replace hF := hF.made0 (.slice none 0 0)
    try simp only [hsz, Nat.add_zero]
    clear hsz
    co_op MS.rely hF (co_quiet TT)
    co_opw MS.rely hF (have hb := hF.vb (by omega); have hc := cell_in (i := 0) hb rfl; have hz := thaw_in (i := 0) hb) (refine dm_set (.inr (by simp only; omega)) ?_; co_evs (exact ev_wrT hH (.inr (by omega)) (by have := hF.size; omega)))
    clear hb hc hz
    replace hF := hF.set0 (.slice ra rl rc)
    co_apply opsC_nil TT
    refine ⟨rfl, ?_⟩
    co_apply (gs_seq TT)
    co_apply (gs_code (by decide))
    co_reg TT
    co_opw MS.rely hF (have hc := cell_in (i := 0) hF.qb rfl) (refine dm_read ?_; co_evs (exact ev_rdT hH (.inr ⟨by omega, by omega⟩) (by have := hF.size; omega)))
    clear hc
    co_opw MS.rely hF (have hsz := hF.size) (refine dm_alloc trivial ?_; co_evs (skip))
    replace hF := hF.made1
    have es : N + 4 + 3 * j + 1 = N + 5 + 3 * j := by omega
    try simp only [hsz, es]
    clear hsz es
    co_opw MS.rely hF (have hsz := hF.size) (refine dm_alloc trivial ?_; co_evs (skip))
    replace hF := hF.made2 (.chan none)
    have es : N + 4 + 3 * j + 2 = N + 6 + 3 * j := by omega
    try simp only [hsz, es]
    clear hsz es
    co_opw MS.rely hF (have hb := hF.ab (by omega); have hc := cell_in (i := 0) hb rfl; have hz := thaw_in (i := 0) hb) (refine dm_set (.inr (by simp only; omega)) ?_; co_evs (exact ev_wrT hH (.inr (by omega)) (by have := hF.size; omega)))
    clear hb hc hz
    replace hF := hF.set2 (.chan (some (N + 5 + 3 * j)))
    co_apply opsC_nil TT
    refine ⟨rfl, ?_⟩
    co_apply (gs_seq TT)
    co_apply (gs_code (by decide))
    co_reg TT
    co_op MS.rely hF (co_quiet TT)
    co_op MS.rely hF (co_quiet TT)
    co_opw MS.rely hF (have hb := hF.ab (by omega); have hc := cell_in (i := 0) hb rfl) (refine dm_read ?_; co_evs (exact ev_rdT hH (.inr ⟨by omega, by omega⟩) (by have := hF.size; omega)))
    clear hb hc
    co_opw MS.rely hF (skip) (co_still TT)
    co_opw MS.rely hF (obtain ⟨xs, hx1, hx2, hx3⟩ := hF.arr; have hxj : xs[j]? = some (xs[j]'(by omega)) := Array.getElem?_eq_getElem _; have hc := cell_in hx1 hxj; have hz := thaw_in (i := j) hx1) (refine dm_set (.inl rfl) ?_; co_evs (exact ev_wrT hH (.inl rfl) (by have := hF.size; omega)))
    clear hc hz hxj hx1 hx2 hx3
    replace hF := hF.setRow hjn
    co_apply opsC_nil TT
    refine ⟨rfl, ?_⟩
    co_apply (gs_seq TT)
    co_apply (gs_region TT)
    simp only [List.size_toArray, List.length_cons, List.length_nil, Nat.reduceAdd, Nat.zero_add, List.range, List.range.loop]
    co_apply Goes.step
    focus (exact rfl)
    intro w₁ h₁
    replace hF := hF.rely h₁
    clear h₁
    refine goes_call rfl rfl (by decide) rfl Tryd.func47 (nm_add link) rfl ⟨dm_nil, ?_⟩
    walk_nrmf Tryd.f47
    co_apply (goes_dc (Φ := (phT Tryd.prog N n q m0 W0 ans H Anch Fin)))
    co_apply (add_t (Φ := (phT Tryd.prog N n q m0 W0 ans H Anch Fin)) (L := link) (j := j) (F := MS W0 N n q (.func (.func fA) #[] cap) j (j + 1) 3 (.slice ra rl rc) (.chan (some (N + 5 + 3 * j)))) (b₀ := base 31) wgLib rfl (fun _ _ r h => MS.rely h r) ?hT _ ⟨hF, hF.live⟩)
    case hT =>
      intro w hF _
      walk_nrm
      co_apply (gs_region_end TT)
      co_apply (gs_region TT)
      simp only [List.size_toArray, List.length_cons, List.length_nil, Nat.reduceAdd, Nat.zero_add, List.range, List.range.loop]
      co_apply Goes.step
      focus (exact rfl)
      intro w₁ h₁
      replace hF := hF.rely h₁
      clear h₁
      refine goes_oper_k rfl rfl (by decide) (fun K hK => ?_)
      go_simp
      refine hK _ _ ⟨?_, ?_⟩
      · refine dm_read fun e he => ?_
        have hm := mem_listed he
        simp [go_sem, Instr.makeFunc] at hm
      clear hK K
      try walk_nrm
      refine Goes.stop (n := 0) fun w₂ h₂ => ?_
      replace hF := hF.rely h₂
      clear h₂
      refine ⟨rfl, ?_⟩
      rw [stepG_spawn (d := callW N j) (w' := w₂) (f := .func 48) (c := (ptrsW N j).toArray) rfl rfl (by decide) (by simp [go_sem, callW, ptrsW, Deferred.ofValue]) rfl]
      generalize hLi : listed _ _ _ _ _ = Lx
      have hLx : Lx = #[] := by
        rw [← hLi]
        simp [listed, go_sem, seen, Deferred.ofValue]
        rfl
      subst hLx
      clear hLi
      have hlw : (phT Tryd.prog N n q m0 W0 ans H Anch Fin).lw j ≤ w₂.heap.size := by have := hF.size; simp only; omega
      refine ⟨_, _, rfl, rfl, hF.cb (by omega), hlw, ?_, ?_⟩
      · refine works hq hask2 _ ⟨cell_in (i := 0) hF.qb rfl, cell_in (i := 0) hF.kb rfl, cell_in (i := 0) (hF.vb (by omega)) rfl, cell_in (i := 0) (hF.ab (by omega)) rfl, hF.live, fun b hb _ => hF.old b hb⟩
      rw [spawns_iff]
      have ejr2 : (phT Tryd.prog N n q m0 W0 ans H Anch Fin).n - r = j + 1 := hj1
      rw [ejr2]
      have TT2 := termsM (phT Tryd.prog N n q m0 W0 ans H Anch Fin) (j + 1) (j + 1)
      replace hF := hF.next
      co_apply Exists.intro
      have e1 : IntKind.i64.wrap ((j : Int) + 1) = ((j + 1 : Nat) : Int) := by rw [IntKind.wrap_i64]; omega
      walk_nrm
      co_apply (gs_region_end TT2)
      co_apply (gs_inBlock TT2)
      co_apply (gs_code (by decide))
      co_reg TT2
      co_op MS.rely hF (co_quiet TT2)
      co_op MS.rely hF (co_quiet TT2)
      co_apply opsC_nil TT2
      refine ⟨rfl, ?_⟩
      co_apply (gs_inLoop TT2)
      have hS2 := fun T hT => hS T _ _ hT _ hF
      simp only [frM, headS, hL] at hS2
      exact hS2 _ ⟨by simp, by simp, by simp, by simp, by simp, by simp, by simp, by simp⟩
end
end

section
open Go.Conc
open Go.ConcN (WgLive sumTo upd sumTo_upd upd_ne upd_same Deaf_still sumTo_congr le_sumTo sumTo_le bk_cell sumTo_upd_out)
open Go.ConcR (KK WgAt stA smA rd wr mk DC0 Bk bk_of_mute ofEvent_loc_mark ofEvent_mk)

theorem reach_of_inv {P : Program} {α : Type} {r : α → α → Prop} (wf : WellFounded r) (Inv : α → Machine → Trace → Prop) (Q : Machine → Trace → Prop)
    (h : ∀ μ m t, Inv μ m t → Q m t ∨ (∃ m' ops μ', stepT P m = (.next m', ops) ∧ r μ' μ ∧ Inv μ' m' (t ++ ops))) :
    ∀ μ m t, Inv μ m t → ∃ n m' t', runNT P n m t = (.next m', t') ∧ Q m' t' := by
  intro μ
  induction μ using wf.induction with
  | _ μ ih =>
    intro m t hI
    rcases h μ m t hI with hq | ⟨m', ops, μ', hs, hr, hI'⟩
    · exact ⟨0, m, t, rfl, hq⟩
    · obtain ⟨n, m2, t2, h1, h2⟩ := ih μ' hr m' (t ++ ops) hI'
      exact ⟨n + 1, m2, t2, by rw [runNT_succ_next hs]; exact h1, h2⟩

section
variable {Φ : Ph} {gs gs' : Array Goroutine} {w w' : World} {sl : Option (Nat × Nat)} {j : Nat} {D D' : Nat → WD} {tag tag' : Tag} {f0 f' d0 d0' : Nat} {qs : Nat → Nat} {a a' : Goroutine} {t t' : Trace} {st sm st' sm' : Int} {es : Array Event}

theorem WSit.running {k s m d : Nat} {g : Goroutine} (h : WSit Φ k s m d g w) (hs : s ≠ 1) : g.status = .running := h.status.elim id fun x => absurd x.2 hs

theorem someone_runs (O : Φ.Ok) (ha : gs[0]? = some a) (hcs : CSit Φ tag j f0 d0 a w) (hcom : Com Φ j gs w t D d0 qs) (hmode : Mode j D tag st sm) (hchs : Chans Φ j D tag w) : ∃ (i : Nat) (g : Goroutine), gs[i]? = some g ∧ g.status = .running := by
  rcases hcs.status O with ⟨hs, _⟩ | ⟨_, rfl | ⟨c, l, rfl⟩⟩
  · exact ⟨0, a, ha, hs⟩
  · cases hmode with
    | opn h1 _ _ => exact h1.elim
    | reg _ _ h3 =>
      obtain ⟨i, hi, h5⟩ := exists_counted h3
      obtain ⟨g, hg, hs⟩ := hcom.wk i hi
      exact ⟨_, g, hg, hs.running (by omega)⟩
    | last L _ h2 h3 _ =>
      obtain ⟨g, hg, hs⟩ := hcom.wk L h2
      exact ⟨_, g, hg, hs.running (by omega)⟩
    | sema h1 _ => exact h1.elim
    | fin h1 _ => exact h1.elim
  · obtain ⟨h8, _⟩ := hchs.pk c l rfl
    obtain ⟨e1, e2, e3⟩ := hcs.pk_inv
    obtain ⟨g, hg, hs⟩ := hcom.wk (Φ.n - c) (by omega)
    exact ⟨_, g, hg, hs.running (by omega)⟩

theorem all_awake (O : Φ.Ok) (ha : gs[0]? = some a) (hcs : CSit Φ tag j f0 d0 a w) (hcom : Com Φ j gs w t D d0 qs) : ∀ g ∈ gs, awake g := by
  intro g hg
  obtain ⟨i, hi⟩ := Array.mem_iff_getElem?.1 hg
  rcases Nat.eq_zero_or_pos i with rfl | hpos
  · rw [ha] at hi; cases hi
    rcases hcs.status O with ⟨hs, _⟩ | ⟨hs, _⟩
    · exact awake_of (.inl hs)
    · exact awake_of (.inr (.inl hs))
  · have hlt : i < Φ.m0 + j := by rw [← hcom.size]; exact (Array.getElem?_eq_some_iff.1 hi).1
    have hup : g.status = .running ∨ g.status = .finished := by
      rcases Nat.lt_or_ge i Φ.m0 with h | h
      · obtain ⟨z, hz, hq⟩ := hcom.old i hpos h
        rw [hi] at hz; cases hz; exact hq.status
      · obtain ⟨z, hz, hs⟩ := hcom.wk (i - Φ.m0) (by omega)
        rw [show Φ.m0 + (i - Φ.m0) = i by omega, hi] at hz; cases hz; exact hs.up
    exact awake_of (hup.elim .inl fun x => .inr (.inr x))

theorem Com.at (O : Φ.Ok) (h : Com Φ j gs w t D d0 qs) (d : Nat) : Com Φ j gs (w.at d) t D d0 qs :=
  ⟨h.size, fun i hi => let ⟨g, hg, hs⟩ := h.wk i hi; ⟨g, hg, hs.rely (RW.at w d)⟩, h.old, h.above, h.pt, h.deaf0, h.deafW, h.rel, h.low, h.rdl, h.os, h.output, h.oldw, h.bsz, h.plain⟩

def Over (Φ : Ph) (m : Machine) (t : Trace) : Prop :=
  ∃ (gs : Array Goroutine) (w : World) (sl : Option (Nat × Nat)) (D : Nat → WD) (qs : Nat → Nat) (a : Goroutine),
    m = crowd gs w sl ∧ gs[0]? = some a ∧ Φ.Fin a w ∧ Com Φ Φ.n gs w t D 0 qs ∧ AllQuit Φ.n D ∧ AcqK Φ.Wg Φ.m0 Φ.n t ∧ WgAt Φ.ty Φ.Wg w 0 0

theorem team_step (O : Φ.Ok) : ∀ μ m t, Inv Φ μ m t → Over Φ m t ∨ (∃ m' ops μ', stepT Φ.P m = (.next m', ops) ∧ Lt2 μ' μ ∧ Inv Φ μ' m' (t ++ ops)) := by
  rintro μ m t ⟨gs, w, sl, j, D, tag, f0, d0, qs, a, st, sm, rfl, ha, hcs, hcom, hwg, hmode, hchs, hacq, rfl⟩
  obtain ⟨i, g, d, sl', hg, hrun, hstep⟩ := crowd_pick (P := Φ.P) (w := w) (sl := sl) (all_awake O ha hcs hcom) (someone_runs O ha hcs hcom hmode hchs)
  have hcs' := hcs.rely (RM.at w d)
  have hcom' := hcom.at O d
  have hwg' : WgAt Φ.ty Φ.Wg (w.at d) st sm := hwg
  have hchs' : Chans Φ j D tag (w.at d) := ⟨hchs.at', hchs.pk⟩
  have one : Step1 Φ (crowd gs (w.at d) sl') t i (meas Φ j D tag f0 qs) → ∃ m' ops μ', stepT Φ.P (crowd gs w sl) = (.next m', ops) ∧ Lt2 μ' (meas Φ j D tag f0 qs) ∧ Inv Φ μ' m' (t ++ ops) := fun ⟨m₁, ops, μ', h1, h2, h3⟩ => ⟨m₁, ops, μ', hstep.trans h1, h2, h3⟩
  rcases Nat.eq_zero_or_pos i with rfl | hpos
  · rw [ha] at hg; cases hg
    rcases stepCaller (sl := sl') O ha hcs' hcom' hwg' hmode hchs' hacq hrun with h | ⟨rfl, rfl, rfl, hfin⟩
    · exact .inr (one h)
    · obtain ⟨hq, rfl, rfl⟩ := hmode.fin_inv trivial
      exact .inl ⟨gs, w, sl, D, qs, a, rfl, ha, hfin w (RM.at (w.at d) w.drawn), hcom, hq, hacq rfl, hwg⟩
  · have hlt : i < Φ.m0 + j := by rw [← hcom.size]; exact (Array.getElem?_eq_some_iff.1 hg).1
    rcases Nat.lt_or_ge i Φ.m0 with h | h
    · refine .inr (one (leaverStep O ha hcs' hcom' hwg' hmode hchs' hacq (fun c l e => ?_) hpos h hg hrun))
      subst e
      obtain ⟨e1, e2, e3⟩ := hcs'.pk_inv
      exact ⟨_, _, _, _, (hchs'.at' (Φ.n - c) (by omega)).1⟩
    · obtain ⟨k, rfl⟩ : ∃ k, i = Φ.m0 + k := ⟨i - Φ.m0, by omega⟩
      exact .inr (one (stepWorker O ha hcs' hcom' hwg' hmode hchs' hacq (by omega) hg hrun))

theorem WSit.quits {k m d : Nat} {g : Goroutine} (h : WSit Φ k 1 m d g w) : QuitsD Φ.P m d g := by
  generalize hs : 1 = s at h
  cases h with
  | quit h => exact h
  | snd _ _ => omega
  | _ => cases hs

theorem team_runs (O : Φ.Ok) {q : Nat → Nat} (h0 : gs[0]? = some a) (hm : gs.size = Φ.m0) (hL : Leavers Φ.P t gs q) (hP : Past (ShunH Φ.H) Φ.B0 t) (hw0 : ∀ b, b < Φ.B0 → w.heap[b]? = Φ.W0.heap[b]?) (hos : w.os = Φ.W0.os) (hout : w.output = Φ.W0.output)
    (hsz : Φ.B0 ≤ w.heap.size) (hpl : PlainW Φ.B0 w) (hwg : WgAt Φ.ty Φ.Wg w 0 0) (hs : Spawns Φ Φ.n a w) :
    ∃ (N : Nat) (gs' : Array Goroutine) (a' : Goroutine) (w' : World) (sl' : Option (Nat × Nat)) (t' : Trace) (q' : Nat → Nat),
      runNT Φ.P N (crowd gs w sl) t = (.next (crowd gs' w' sl'), t') ∧ gs.size ≤ gs'.size ∧ gs'[0]? = some a' ∧ Φ.Fin a' w' ∧ Leavers Φ.P t' gs' q' ∧ Past (ShunH fun b => Φ.H b ∨ b = Φ.Wg) w'.heap.size t' ∧
      (∀ b, b < Φ.B0 → w'.heap[b]? = Φ.W0.heap[b]?) ∧ w'.os = Φ.W0.os ∧ w'.output = Φ.W0.output ∧ PlainW Φ.B0 w' ∧ WgAt Φ.ty Φ.Wg w' 0 0 ∧ Φ.B0 ≤ w'.heap.size := by
  obtain ⟨r, hr⟩ : ∃ r, Φ.n = r + 1 := ⟨Φ.n - 1, by have := O.n1; omega⟩
  have hcom : Com Φ 0 gs w t (fun _ => ⟨0, 0, 0⟩) 0 q := {
    size := by omega
    wk := fun i hi => by omega
    old := fun i i0 i1 => ⟨gs[i]'(by omega), Array.getElem?_eq_getElem _, hL.old i _ i0 (Array.getElem?_eq_getElem _)⟩
    above := fun i hi => hL.above i (by omega)
    pt := PT.start O.lies hP
    deaf0 := hP.hears
    deafW := fun i hi => by omega
    rel := fun i hi => by omega
    low := fun op hop => MemAct.low_mono hsz (hP.seen op hop)
    rdl := fun i hi => by omega
    os := hos
    output := hout
    oldw := hw0
    bsz := hsz
    plain := hpl }
  have hInv : ∃ μ, Inv Φ μ (crowd gs w sl) t := by
    have hk : Spawns Φ (r + 1) a w := hr ▸ hs
    obtain ⟨m, hk⟩ := hk
    have hc := CSit.skd (Φ := Φ) (r := r) (by omega) hk
    have e0 : Φ.n - (r + 1) = 0 := by omega
    rw [e0] at hc
    refine ⟨_, gs, w, sl, 0, _, .sp r 6, m, 0, q, a, 0, 0, rfl, h0, hc, hcom, hwg, ?_, ⟨fun i hi => by omega, by simp⟩, by simp, rfl⟩
    have := Mode.opn (j := 0) (D := fun _ => (⟨0, 0, 0⟩ : WD)) (tag := .sp r 6) trivial (fun i hi => by omega) (by simp)
    simpa [Vc, sumTo, pend] using this
  obtain ⟨μ, hI⟩ := hInv
  obtain ⟨N, m', t', hrun, gs', w', sl', D, qs, a', rfl, ha', hfin, hc', hq, hacq, hwg'⟩ := reach_of_inv (P := Φ.P) (r := Lt2) (Prod.lex Nat.lt_wfRel Nat.lt_wfRel).wf (Inv Φ) (Over Φ) (team_step O) μ _ _ hI
  refine ⟨N, gs', a', w', sl', t', fun i => if i < Φ.m0 then qs i else (D (i - Φ.m0)).fuel, hrun, by rw [hm, hc'.size]; omega, ha', hfin, ⟨fun i g hi hg => ?_, fun i hi => hc'.above i (by rw [hc'.size] at hi; exact hi)⟩,
    hc'.pt.done hacq hc'.deaf0 hc'.low, hc'.oldw, hc'.os, hc'.output, hc'.plain, hwg', hc'.bsz⟩
  have hlt : i < Φ.m0 + Φ.n := by rw [← hc'.size]; exact (Array.getElem?_eq_some_iff.1 hg).1
  rcases Nat.lt_or_ge i Φ.m0 with h | h
  · obtain ⟨z, hz, hqz⟩ := hc'.old i hi h
    rw [hg] at hz; cases hz
    rw [if_pos h]; exact hqz
  · obtain ⟨z, hz, hsz⟩ := hc'.wk (i - Φ.m0) (by omega)
    rw [show Φ.m0 + (i - Φ.m0) = i by omega, hg] at hz; cases hz
    rw [if_neg (by omega)]
    have hd := hc'.deafW (i - Φ.m0) (by omega)
    rw [show Φ.m0 + (i - Φ.m0) = i by omega] at hd
    rw [hd]
    rw [hq (i - Φ.m0) (by omega)] at hsz
    exact hsz.quits
end
end

section
open Go.Conc Go.RowKit Go.Conc.Lib Go.ConcR.Gen Go.ConcN.Gen
open Go.ConcN (WgLive)
open Go.ConcR (KK WgAt stA smA rd wr mk DC0)

def Hush (w w' : World) (es : Array Event) : Prop := es = #[]
theorem termsH : Terms AtRel Hush := ⟨atRel_trans, fun w => rfl⟩
def AtX (X w : World) : Prop := ∃ d, w = X.at d
theorem AtX.rely {X w w₁ : World} (h : AtX X w) (r : AtRel w w₁) : AtX X w₁ := by
  obtain ⟨d, rfl⟩ := h
  obtain ⟨d', rfl⟩ := r
  exact ⟨d', rfl⟩
theorem AtX.size {X w : World} (h : AtX X w) : w.heap.size = X.heap.size := by obtain ⟨d, rfl⟩ := h; rfl
theorem AtX.made {X w : World} (h : AtX X w) (o : Obj) : AtX (X.alloc o) (w.alloc o) := by obtain ⟨d, rfl⟩ := h; exact ⟨d, rfl⟩

def startW (W0 : World) (n q : Nat) (ask : Value) : World :=
  (((W0.alloc (.cells #[.int .i64 q] 3)).alloc (.cells #[ask] 48)).alloc (.cells (Array.replicate n (.chan none)) 84)).alloc (Go.ConcR.wgBlock 83 0 0)

structure Starts (W0 : World) (N n q : Nat) (ask views : Value) (fr : Frame) (cs : List Frame) (fn : Func) (g : Goroutine) (w : World) : Prop where
  at' : AtX (startW W0 n q ask) w
  goes : ∃ T, g = frM fr cs T (headS fn) ∧ TS N n views 0 T

theorem info_chan : (Tryd.prog.info? 84).map (fun i => (i.zero, i.size, i.bytes)) = some (some (.chan none), 1, 8) := by kernel_rfl

set_option maxRecDepth 100000 in
set_option maxHeartbeats 8000000 in
theorem prelude_m {fr : Frame} {cs : List Frame} {n q vb vo vcap : Nat} {fA : FuncId} {cap : Array Value} (hn : n < 2147483648) (W0 : World) : ∃ m, Goes Tryd.prog true AtRel Hush (Starts W0 W0.heap.size n q (.func (.func fA) #[] cap) (.slice (some ⟨vb, vo, none⟩) n vcap) fr cs Tryd.f31) m
    (G (Frame.enter Tryd.prog 31 #[.slice (some ⟨vb, vo, none⟩) n vcap, .int .i64 q, .func (.func fA) #[] cap] .normal) (fr :: cs)) W0 := by
  have hC : codeW Tryd.f31 = _ := rfl
  conv at hC => rhs; whnf
  have hL : mainL Tryd.f31 = _ := rfl
  conv at hL => rhs; whnf
  have hAA : mainA Tryd.f31 = _ := rfl
  conv at hAA => rhs; whnf
  have hb : Tryd.f31.body = some (codeW Tryd.f31) := by kernel_rfl
  have ht : Tryd.f31.ntmps = 60 := by kernel_rfl
  rw [enter_at _ Tryd.func31 hb, hC, ht]
  simp only [List.size_toArray, List.length_cons, List.length_nil, Nat.reduceAdd, Nat.reduceSub, Nat.zero_add, Array.replicate, List.replicate, List.append_toArray, List.cons_append, List.nil_append]
  have TT := termsH
  obtain ⟨i0, hi0, hz0, hz1, hz2⟩ := info_parts info_chan
  have hmk := fun w => run_make (P := Tryd.prog) w 73 84 i0 (.chan none) Tryd.underlying73 hi0 hz0 .i64 .i64 n n (by omega) (by omega) (by rw [hz2]; omega) (by omega)
  have hme := fun w es => events_make (P := Tryd.prog) w 73 84 i0 (.chan none) Tryd.underlying73 hi0 hz0 .i64 .i64 n n (by omega) (by omega) (by rw [hz2]; omega) (by omega) (by rw [hz2]; simp; omega) es
  have hmc := madeCells_one (.chan none) n
  have hF : AtX W0 W0 := ⟨W0.drawn, rfl⟩
  co_apply Exists.intro
  co_apply (gs_seq TT)
  co_apply (gs_code (by decide))
  co_reg TT
  co_opw AtX.rely hF (have hsz := hF.size) (exact listed_nil (by simp [go_sem, *]))
  replace hF := hF.made (.cells #[.int .i64 q] 3)
  clear hsz
  co_opw AtX.rely hF (have hsz := hF.size.trans (alloc_size _ _)) (exact listed_nil (by simp [go_sem, *]))
  replace hF := hF.made (.cells #[.func (.func fA) #[] cap] 48)
  clear hsz
  co_op AtX.rely hF (exact listed_nil (by simp [go_sem]))
  co_apply opsC_nil TT
  refine ⟨rfl, ?_⟩
  co_apply (gs_seq TT)
  co_apply (gs_code (by decide))
  co_reg TT
  co_op AtX.rely hF (exact listed_nil (by simp [go_sem]))
  co_op AtX.rely hF (exact listed_nil (by simp [go_sem]))
  co_opw AtX.rely hF (have hsz := hF.size.trans (alloc_size _ _); rw [alloc_size] at hsz) (exact listed_nil (by simp [go_sem, *]))
  replace hF := hF.made (.cells (Array.replicate n (.chan none)) 84)
  clear hsz
  co_op AtX.rely hF (exact listed_nil (by simp [go_sem]))
  co_apply opsC_nil TT
  refine ⟨rfl, ?_⟩
  co_apply (gs_seq TT)
  co_apply (gs_code (by decide))
  co_reg TT
  co_opw AtX.rely hF (have hsz := hF.size.trans (alloc_size _ _); rw [alloc_size, alloc_size] at hsz) (exact listed_nil (by simp [go_sem, *]))
  replace hF := hF.made (Go.ConcR.wgBlock 83 0 0)
  clear hsz
  co_apply opsC_nil TT
  refine ⟨rfl, ?_⟩
  co_apply (gs_seq TT)
  co_apply (gs_seq TT)
  co_apply (gs_code (by decide))
  co_reg TT
  co_op AtX.rely hF (exact listed_nil (by simp [go_sem]))
  co_op AtX.rely hF (exact listed_nil (by simp [go_sem]))
  co_op AtX.rely hF (exact listed_nil (by simp [go_sem]))
  co_apply opsC_nil TT
  refine ⟨rfl, ?_⟩
  co_apply (gs_block TT)
  co_apply (gs_loop TT)
  refine Goes.stop (n := 0) fun w₁ h₁ => ?_
  replace hF := hF.rely h₁
  exact ⟨hF, _, rfl, ⟨rfl, rfl, rfl, rfl, rfl, rfl, rfl, rfl⟩⟩
section
variable {W0 w : World} {N n q : Nat} {ask vv av : Value}
theorem start_at (hN : W0.heap.size = N) : (startW W0 n q ask).heap[N]? = some (.cells #[.int .i64 q] 3) ∧ (startW W0 n q ask).heap[N + 1]? = some (.cells #[ask] 48) ∧
    (startW W0 n q ask).heap[N + 2]? = some (.cells (Array.replicate n (.chan none)) 84) ∧ (startW W0 n q ask).heap[N + 3]? = some (Go.ConcR.wgBlock 83 0 0) ∧ (startW W0 n q ask).heap.size = N + 4 ∧ ∀ b, b < N → (startW W0 n q ask).heap[b]? = W0.heap[b]? := by
  unfold startW
  refine ⟨push_lt (push_lt (push_lt (push_at hN))), push_lt (push_lt (push_at (by rw [alloc_size, hN]))), push_lt (push_at (by rw [alloc_size, alloc_size, hN])), push_at (by rw [alloc_size, alloc_size, alloc_size, hN]), by rw [alloc_size, alloc_size, alloc_size, alloc_size, hN], fun b hb => ?_⟩
  rw [push_old (by rw [alloc_size, alloc_size, alloc_size]; omega), push_old (by rw [alloc_size, alloc_size]; omega), push_old (by rw [alloc_size]; omega), push_old (by omega)]
theorem start_ms (hN : W0.heap.size = N) (h : AtX (startW W0 n q ask) w) : MS W0 N n q ask 0 0 0 vv av w := by
  obtain ⟨d, rfl⟩ := h
  obtain ⟨h1, h2, h3, h4, h5, h6⟩ := start_at (W0 := W0) (n := n) (q := q) (ask := ask) hN
  exact ⟨h5, h6, h1, h2, ⟨_, h3, by simp, fun i hi => by omega⟩, ⟨0, 0, h4⟩, fun h => by omega, fun h => by omega, fun h => by omega⟩
theorem start_plain (hN : W0.heap.size = N) (h : AtX (startW W0 n q ask) w) : PlainW N w := by
  obtain ⟨d, rfl⟩ := h
  intro b o hb ho
  obtain ⟨h1, h2, h3, h4, h5, h6⟩ := start_at (W0 := W0) (n := n) (q := q) (ask := ask) hN
  have hlt : b < N + 4 := by rw [← h5]; exact (Array.getElem?_eq_some_iff.1 ho).1
  change (startW W0 n q ask).heap[b]? = some o at ho
  obtain rfl | rfl | rfl | rfl : b = N ∨ b = N + 1 ∨ b = N + 2 ∨ b = N + 3 := by omega
  · rw [h1] at ho; cases ho; trivial
  · rw [h2] at ho; cases ho; trivial
  · rw [h3] at ho; cases ho; trivial
  · rw [h4] at ho; cases ho; trivial
theorem start_wg (hN : W0.heap.size = N) (h : AtX (startW W0 n q ask) w) : WgAt 83 (N + 3) w 0 0 := by
  obtain ⟨d, rfl⟩ := h
  exact (start_at (W0 := W0) (n := n) (q := q) (ask := ask) hN).2.2.2.1
end

def cutW (w w' : World) (N : Nat) : World :=
  { w with heap := w'.heap.mapIdx fun b o => if b < N then (w.heap[b]?).getD o else if b = N + 3 then (match o with | .cells _ e fr => .cells #[] e fr | o => o) else o }
theorem cutW_get (w w' : World) (N b : Nat) : (cutW w w' N).heap[b]? = (w'.heap[b]?).map fun o => if b < N then (w.heap[b]?).getD o else if b = N + 3 then (match o with | .cells _ e fr => .cells #[] e fr | o => o) else o := by
  simp [cutW]
theorem cutW_old {w w' : World} {N b : Nat} (h : w.heap.size = N) (hs : N ≤ w'.heap.size) (hb : b < N) : (cutW w w' N).heap[b]? = w.heap[b]? := by
  rw [cutW_get, Array.getElem?_eq_getElem (show b < w'.heap.size by omega), Option.map_some, if_pos hb, Array.getElem?_eq_getElem (show b < w.heap.size by omega)]
  rfl
theorem cutW_new {w w' : World} {N b : Nat} (hb : N ≤ b) (hn : b ≠ N + 3) : (cutW w w' N).heap[b]? = w'.heap[b]? := by
  rw [cutW_get]
  cases w'.heap[b]? with
  | none => rfl
  | some o => rw [Option.map_some, if_neg (by omega), if_neg hn]

theorem cutW_rel {T : Two} {H : Nat → Prop} {w W w' : World} {N : Nat} (hN : w.heap.size = N) (h : Rel T H w W) (hs : N + 3 < w'.heap.size) (hold : ∀ b, b < N → w'.heap[b]? = W.heap[b]?) (hos : w'.os = W.os) (hout : w'.output = W.output) (hp : PlainW N w') {ty : TypeId} (hwg : WgAt ty (N + 3) w' 0 0) :
    Rel T (fun b => H b ∨ b = N + 3) (cutW w w' N) w' where
  size := by simp [cutW]
  os := hos.trans h.os
  output := hout.trans h.output
  out := fun b hb => by
    by_cases hlt : b < N
    · rw [cutW_old hN (by omega) hlt, hold b hlt]
      exact h.out b fun x => hb (.inl x)
    · refine .inl ⟨cutW_new (by omega) fun e => hb (.inr e), fun o ho => ?_⟩
      rw [cutW_new (by omega) fun e => hb (.inr e)] at ho
      have := hp b o (by omega) ho
      cases o <;> first | rfl | exact this.elim
  hid := fun b hb => by
    by_cases hlt : b < N
    · rw [cutW_old hN (by omega) hlt, hold b hlt]
      exact h.hid b (hb.elim id fun e => by omega)
    · rcases hb with hb | rfl
      · obtain ⟨c, e, fr, h1, h2⟩ := h.hid b hb
        exact absurd (Array.getElem?_eq_some_iff.1 h1).1 (by omega)
      · refine ⟨_, _, _, ?_, hwg⟩
        rw [cutW_get, show w'.heap[N + 3]? = some (Go.ConcR.wgBlock ty 0 0) from hwg, Option.map_some, if_neg (by omega), if_pos rfl]
        rfl
  low := fun b hb => by
    have := h.grown
    rcases hb with hb | hb
    · exact h.low b hb
    · omega
  grown := by
    have := h.grown
    simp [cutW]
    omega
  ok := fun b o ho => by
    by_cases hlt : b < N
    · rw [cutW_old hN (by omega) hlt] at ho
      exact h.ok b o ho
    · have plain_ok : ∀ o, PlainO o → okObj T o := fun o h => by
        cases o with
        | cells _ _ _ => exact ⟨by simp, by simp, by simp⟩
        | chan _ _ _ _ _ _ => exact ⟨by simp, by simp, by simp⟩
        | _ => exact h.elim
      rw [cutW_get] at ho
      obtain ⟨o', h1, rfl⟩ := Option.map_eq_some_iff.1 ho
      have hpo := hp b o' (by omega) h1
      rw [if_neg hlt]
      split
      · cases o' with
        | cells _ _ _ => exact ⟨by simp, by simp, by simp⟩
        | chan _ _ _ _ _ _ => exact ⟨by simp, by simp, by simp⟩
        | _ => exact hpo.elim
      · exact plain_ok _ hpo

structure Sums (w : World) (n q : Nat) (avs : Nat → Nat → Int) (v : Value) (w' : World) : Prop where
  val : v = .slice (some ⟨w.heap.size + 4 + 3 * n, 0, none⟩) q q
  sums : ∃ ys, w'.heap[w.heap.size + 4 + 3 * n]? = some (.cells ys 3) ∧ ys.size = q ∧ ∀ x, x < q → ys[x]? = some (.int .i64 (sumC avs n 0 x))
  old : ∀ b, b < w.heap.size → w'.heap[b]? = w.heap[b]?
  os : w'.os = w.os
  output : w'.output = w.output

theorem totals_b {X w : World} {n q vb vo vcap : Nat} {row : Nat → Value} {fA : FuncId} {cap : Array Value} {avs : Nat → Nat → Int} (hn : n < 2147483648) (h1n : 0 < n) (hq : q < 2147483648)
    (hsum : ∀ c l x, c < n → l ≤ q → x < q → 0 ≤ sumC avs c l x ∧ sumC avs c l x ≤ 1000000)
    (hrow : ∀ i, i < n → w.cell? ⟨vb, vo + i, none⟩ = some (row i)) (hsl : ∀ i, i < n → ∃ ra rl rc, row i = .slice ra rl rc)
    (hask : ∀ (H : Nat → Prop) (W : World) (m0 : Nat) (Anch Fin : Goroutine → World → Prop), Rel (duo Tryd.prog X) H w W → ∀ k, k < n → ∃ mA, ∀ number, number < q → ∀ w', WK (phT Tryd.prog w.heap.size n q m0 W (fun c l => .int .i64 (avs c l)) H Anch Fin) w.heap.size k (row k) (.func (.func fA) #[] cap) w' →
      CallsC Tryd.prog false (RW (phT Tryd.prog w.heap.size n q m0 W (fun c l => .int .i64 (avs c l)) H Anch Fin) k) (DW (phT Tryd.prog w.heap.size n q m0 W (fun c l => .int .i64 (avs c l)) H Anch Fin) k) fA (#[row k, .int .i64 number] ++ cap) mA w'
        (fun v w2 => WK (phT Tryd.prog w.heap.size n q m0 W (fun c l => .int .i64 (avs c l)) H Anch Fin) w.heap.size k (row k) (.func (.func fA) #[] cap) w2 ∧ v = .int .i64 (avs k number))) :
    CallsB (duo Tryd.prog X) 31 #[.slice (some ⟨vb, vo, none⟩) n vcap, .int .i64 q, .func (.func fA) #[] cap] w (Sums w n q avs) := by
  intro c H fr cs h1 h2 h3 h4
  obtain ⟨N, hN⟩ : ∃ N, w.heap.size = N := ⟨_, rfl⟩
  have hNW : c.W.heap.size = N := h2.size.trans hN
  obtain ⟨mP, hP⟩ := prelude_m (fr := fr) (cs := cs) (n := n) (q := q) (vb := vb) (vo := vo) (vcap := vcap) (fA := fA) (cap := cap) hn c.W
  rw [← h4, hNW] at hP
  obtain ⟨N1, gs1, a1, w1, sl1, t1, q1, hrun1, hsz1, h01, hst, hL1, hP1⟩ := walk_beside (P := Tryd.prog) (Shun := ShunH H) (B := c.W.heap.size) (D := Hush) (Stop := _)
    (fun w w' es hd e he => by rw [hd] at he; simp at he) _ mP c.gs c.g c.W c.sl c.t c.q (Nat.le_refl _) h1.at0 h1.leave h1.past hP
  obtain ⟨hX, T, rfl, hTS⟩ := hst
  have hH : ∀ b, H b → b < N := fun b hb => by
    obtain ⟨_, _, _, x, _⟩ := h2.hid b hb
    rw [← hN]; exact (Array.getElem?_eq_some_iff.1 x).1
  have hvb0 := hrow 0 h1n
  have hvb : vb < N ∧ ¬ H vb := by
    obtain ⟨x1, x2, _⟩ := cell_real h2 hvb0
    exact ⟨by rw [← hNW]; exact x2, x1⟩
  have hrowW : ∀ i, i < n → c.W.cell? ⟨vb, vo + i, none⟩ = some (row i) := fun i hi => by
    obtain ⟨_, _, x3⟩ := cell_real h2 (hrow i hi)
    exact (cell_eq x3).trans (hrow i hi)
  rw [hN] at hask
  rw [hNW] at hP1
  obtain ⟨ans, hans⟩ : ∃ ans : Nat → Nat → Value, ans = fun c l => .int .i64 (avs c l) := ⟨_, rfl⟩
  obtain ⟨m0, hm0⟩ : ∃ m0, gs1.size = m0 := ⟨_, rfl⟩
  have hm : 0 < m0 := by rw [← hm0]; exact (Array.getElem?_eq_some_iff.1 h01).1
  obtain ⟨Fin, hFd⟩ : ∃ Fin : Goroutine → World → Prop, ∀ g w, Fin g w ↔ (g = G (fr.finish (.slice (some ⟨N + 4 + 3 * n, 0, none⟩) q q)) cs ∧ MF c.W N n q avs n 0 w) := ⟨_, fun _ _ => Iff.rfl⟩
  obtain ⟨Anch, hAd⟩ : ∃ Anch : Goroutine → World → Prop, ∀ g w, Anch g w ↔ ∃ T, TW N n q T ∧ AnchT (phT Tryd.prog N n q m0 c.W ans H (fun _ _ => False) (fun _ _ => False)) link (MF c.W N n q avs n 0) (waitFr Tryd.f31 T) (fr :: cs) g w := ⟨_, fun _ _ => Iff.rfl⟩
  obtain ⟨mF, hmF⟩ := fin_m (N := N) (n := n) (q := q) (m0 := m0) (W0 := c.W) (ans := ans) (H := H) (Anch := Anch) (Fin := Fin) (avs := avs) (fr := fr) (cs := cs) (fun w h => (hFd _ _).2 ⟨rfl, h⟩)
  have hmA := hask H c.W m0 Anch Fin h2
  rw [← hans] at hmA
  have hOk : (phT Tryd.prog N n q m0 c.W ans H Anch Fin).Ok := phT_ok hH hn h1n hm (fun g w ha => by
    obtain ⟨T, hT, hAn⟩ := (hAd _ _).1 ha
    refine ⟨by obtain ⟨_, rfl, _⟩ := hAn; rfl, ?_⟩
    exact round_t (Φ := phT Tryd.prog N n q m0 c.W ans H Anch Fin) (L := link) (F := MF c.W N n q avs n 0) (b₀ := base 31) (a₀ := ⟨T, []⟩) (ops₀ := opsWt Tryd.f31) (i₀ := 0) (rest₀ := []) (k₀ := [.code (mainE Tryd.f31)]) (cs := fr :: cs) (mT := mF) wgLib rfl
      (fun g w h => (hAd g w).2 ⟨T, hT, h⟩) (fun _ _ r h => MF.rely h r) (fun w hw _ => hmF T hT w hw) g w hAn) (fun g w hf => by obtain ⟨rfl, _⟩ := (hFd _ _).1 hf; rfl)
  obtain ⟨mS, hS⟩ := spawns_m (N := N) (n := n) (q := q) (m0 := m0) (W0 := c.W) (ans := ans) (H := H) (Anch := Anch) (Fin := Fin) (avs := avs) (fr := fr) (cs := cs) (vcap := vcap) (row := row) hH (fun c l _ _ => by rw [hans]) hsum hq hn h1n (fun T hT g w h => (hAd g w).2 ⟨T, hT, h⟩) hvb.1 hvb.2 hrowW hsl (fun k hk => let ⟨mA, h⟩ := hmA k hk; ⟨mA, fun number hnu w hw => (h number hnu w hw).mono fun v w' h => ⟨h.1, h.2.trans (by rw [hans])⟩⟩) n (Nat.le_refl n)
  rw [Nat.sub_self] at hS
  have hsp : Spawns (phT Tryd.prog N n q m0 c.W ans H Anch Fin) n (frM fr cs T (headS Tryd.f31)) w1 := by
    rw [spawns_iff, show (phT Tryd.prog N n q m0 c.W ans H Anch Fin).n - n = 0 from Nat.sub_self n]
    exact ⟨mS, hS T undef undef hTS w1 (start_ms hNW hX)⟩
  have hms := start_ms (vv := undef) (av := undef) hNW hX
  obtain ⟨N2, gs2, a2, w2, sl2, t2, q2, hrun2, hsz2, h02, hfin2, hL2, hP2, hold, hos2, hout2, hpl2, hwg2, hB2⟩ := team_runs (Φ := phT Tryd.prog N n q m0 c.W ans H Anch Fin) (sl := sl1) hOk h01 hm0 hL1 hP1 hms.old (by obtain ⟨d, rfl⟩ := hX; rfl) (by obtain ⟨d, rfl⟩ := hX; rfl) (by have := hms.size; simp only; omega) (start_plain hNW hX) (start_wg hNW hX) hsp
  obtain ⟨rfl, hMF⟩ := (hFd _ _).1 hfin2
  obtain ⟨ys, hy1, hy2, hy3⟩ := hMF.sums
  have hbig : N + 4 + 3 * n < w2.heap.size := (Array.getElem?_eq_some_iff.1 hy1).1
  refine ⟨_, cutW w w2 N, ⟨by rw [hN], ⟨ys, ?_, hy2, hy3⟩, fun b hb => cutW_old hN (by omega) (by omega), rfl, rfl⟩, fun b => H b ∨ b = N + 3, ⟨gs2, G (fr.finish (.slice (some ⟨N + 4 + 3 * n, 0, none⟩) q q)) cs, w2, sl2, t2, q2⟩,
    Cfg.to_trans (b := ⟨gs1, frM fr cs T (headS Tryd.f31), w1, sl1, t1, q1⟩) ⟨N1, hrun1, Nat.le_of_eq hsz1.symm⟩ ⟨N2, hrun2, hsz2⟩, ⟨h02, rfl, hL2, hP2⟩, cutW_rel hN h2 (by omega) hold hos2 hout2 hpl2 hwg2, ?_, rfl⟩
  · rw [hN, cutW_new (by omega) (by omega)]
    exact hy1
  · have hfr := h3 fr (by simp)
    exact ⟨rfl, rfl, ok_finish hfr.frame _, fun x hx => h3 x (List.mem_cons_of_mem _ hx), .inl ((finish_mode fr _).trans hfr.mode)⟩
end

section
open Go.Conc Go.RowKit
open Go.ConcN (WgLive)

section
variable {X w W w' : World} {H : Nat → Prop} {N n q m0 k : Nat} {ans : Nat → Nat → Value} {Anch Fin : Goroutine → World → Prop} {view ask : Value}

theorem wk_cell (hr : Rel (duo Tryd.prog X) H w W) (hw : WK (phT Tryd.prog w.heap.size n q m0 W ans H Anch Fin) w.heap.size k view ask w') {a : Addr} {v : Value} (h : w.cell? a = some v) :
    (phT Tryd.prog w.heap.size n q m0 W ans H Anch Fin).Rd k a.block ∧ w'.cell? a = some v := by
  obtain ⟨h1, h2, h3⟩ := cell_real hr h
  have hlt : a.block < w.heap.size := by rw [← hr.size]; exact h2
  refine ⟨.inl ⟨hlt, h1⟩, ?_⟩
  have e := (hw.old a.block hlt h1).trans h3
  unfold World.cell? at h ⊢
  rw [e]
  exact h
theorem wk_nums (hr : Rel (duo Tryd.prog X) H w W) (hw : WK (phT Tryd.prog w.heap.size n q m0 W ans H Anch Fin) w.heap.size k view ask w') {b off : Nat} {xs : List Int} (h0 : 0 < xs.length) (h : Nums w b off xs) :
    Lk (phT Tryd.prog w.heap.size n q m0 W ans H Anch Fin) k b off xs w' :=
  ⟨(wk_cell hr hw (h 0 h0)).1, fun j hj => (wk_cell hr hw (h j hj)).2⟩
end

theorem hask_costs {X w : World} {n q L bx pb po pcap : Nat} {bP oP cP bV oV cV : Nat → Nat} {P V : Nat → List Int} (h1 : 1 ≤ L) (h8 : L ≤ 8)
    (hbox : w.cell? ⟨bx, 0, none⟩ = some (.slice (some ⟨pb, po, none⟩) q pcap)) (hrow : ∀ x, x < q → w.cell? ⟨pb, po + x, none⟩ = some (.slice (some ⟨bP x, oP x, none⟩) L (cP x)))
    (hP : ∀ x, x < q → Nums w (bP x) (oP x) (P x) ∧ (P x).length = L) (hV : ∀ k, k < n → Nums w (bV k) (oV k) (V k) ∧ (V k).length = L) :
    ∀ (H : Nat → Prop) (W : World) (m0 : Nat) (Anch Fin : Goroutine → World → Prop), Rel (duo Tryd.prog X) H w W → ∀ k, k < n → ∃ mA, ∀ number, number < q → ∀ w', WK (phT Tryd.prog w.heap.size n q m0 W (fun c l => .int .i64 ((quar (P l) (V c) : Nat) : Int)) H Anch Fin) w.heap.size k (.slice (some ⟨bV k, oV k, none⟩) L (cV k)) (.func (.func 42) #[] #[.pointer (some ⟨bx, 0, none⟩)]) w' →
      CallsC Tryd.prog false (RW (phT Tryd.prog w.heap.size n q m0 W (fun c l => .int .i64 ((quar (P l) (V c) : Nat) : Int)) H Anch Fin) k) (DW (phT Tryd.prog w.heap.size n q m0 W (fun c l => .int .i64 ((quar (P l) (V c) : Nat) : Int)) H Anch Fin) k) 42 (#[.slice (some ⟨bV k, oV k, none⟩) L (cV k), .int .i64 number] ++ #[.pointer (some ⟨bx, 0, none⟩)]) mA w'
        (fun v w2 => WK (phT Tryd.prog w.heap.size n q m0 W (fun c l => .int .i64 ((quar (P l) (V c) : Nat) : Int)) H Anch Fin) w.heap.size k (.slice (some ⟨bV k, oV k, none⟩) L (cV k)) (.func (.func 42) #[] #[.pointer (some ⟨bx, 0, none⟩)]) w2 ∧ v = .int .i64 ((quar (P number) (V k) : Nat) : Int)) := by
  intro H W m0 Anch Fin hr k hk
  obtain ⟨Φ, hΦ⟩ : ∃ Φ, Φ = phT Tryd.prog w.heap.size n q m0 W (fun c l => .int .i64 ((quar (P l) (V c) : Nat) : Int)) H Anch Fin := ⟨_, rfl⟩
  obtain ⟨m, hm⟩ := askCosts (Φ := phT Tryd.prog w.heap.size n q m0 W (fun c l => .int .i64 ((quar (P l) (V c) : Nat) : Int)) H Anch Fin) (k := k)
  refine ⟨m, fun number hnu w' hw => ?_⟩
  obtain ⟨hp1, hp2⟩ := hP number hnu
  obtain ⟨hv1, hv2⟩ := hV k hk
  have hb := wk_cell hr hw hbox
  have hrw := wk_cell hr hw (hrow number hnu)
  have hl1 := wk_nums hr hw (by omega) hp1
  have hl2 := wk_nums hr hw (by omega) hv1
  have := hm (WK (phT Tryd.prog w.heap.size n q m0 W (fun c l => .int .i64 ((quar (P l) (V c) : Nat) : Int)) H Anch Fin) w.heap.size k (.slice (some ⟨bV k, oV k, none⟩) L (cV k)) (.func (.func 42) #[] #[.pointer (some ⟨bx, 0, none⟩)])) bx pb po q pcap number (bP number) (oP number) (cP number) (bV k) (oV k) (cV k) (P number) (V k) (by omega) (by omega) (by omega) hnu w'
    ⟨hb.1, hb.2, hrw.1, by rw [hp2]; exact hrw.2, hl1, hl2, hw, fun _ _ r h => h.rely r⟩
  rw [hp2] at this
  exact this

theorem hask_together {X w : World} {n L bx : Nat} {bV oV cV : Nat → Nat} {V : Nat → List Int} (h1 : 1 ≤ L) (h8 : L ≤ 7)
    (hbox : w.cell? ⟨bx, 0, none⟩ = some (.int .i64 L)) (hV : ∀ k, k < n → Nums w (bV k) (oV k) (V k) ∧ (V k).length = L) :
    ∀ (H : Nat → Prop) (W : World) (m0 : Nat) (Anch Fin : Goroutine → World → Prop), Rel (duo Tryd.prog X) H w W → ∀ k, k < n → ∃ mA, ∀ number, number < L * L → ∀ w', WK (phT Tryd.prog w.heap.size n (L * L) m0 W (fun c l => .int .i64 (if (V c).getD (l / L) 0 = (V c).getD (l % L) 0 then 1 else 0)) H Anch Fin) w.heap.size k (.slice (some ⟨bV k, oV k, none⟩) L (cV k)) (.func (.func 32) #[] #[.pointer (some ⟨bx, 0, none⟩)]) w' →
      CallsC Tryd.prog false (RW (phT Tryd.prog w.heap.size n (L * L) m0 W (fun c l => .int .i64 (if (V c).getD (l / L) 0 = (V c).getD (l % L) 0 then 1 else 0)) H Anch Fin) k) (DW (phT Tryd.prog w.heap.size n (L * L) m0 W (fun c l => .int .i64 (if (V c).getD (l / L) 0 = (V c).getD (l % L) 0 then 1 else 0)) H Anch Fin) k) 32 (#[.slice (some ⟨bV k, oV k, none⟩) L (cV k), .int .i64 number] ++ #[.pointer (some ⟨bx, 0, none⟩)]) mA w'
        (fun v w2 => WK (phT Tryd.prog w.heap.size n (L * L) m0 W (fun c l => .int .i64 (if (V c).getD (l / L) 0 = (V c).getD (l % L) 0 then 1 else 0)) H Anch Fin) w.heap.size k (.slice (some ⟨bV k, oV k, none⟩) L (cV k)) (.func (.func 32) #[] #[.pointer (some ⟨bx, 0, none⟩)]) w2 ∧ v = .int .i64 (if (V k).getD (number / L) 0 = (V k).getD (number % L) 0 then 1 else 0)) := by
  intro H W m0 Anch Fin hr k hk
  obtain ⟨m, hm⟩ := askTogether (Φ := phT Tryd.prog w.heap.size n (L * L) m0 W (fun c l => .int .i64 (if (V c).getD (l / L) 0 = (V c).getD (l % L) 0 then 1 else 0)) H Anch Fin) (k := k)
  refine ⟨m, fun number hnu w' hw => ?_⟩
  obtain ⟨hv1, hv2⟩ := hV k hk
  have hb := wk_cell hr hw hbox
  have hl2 := wk_nums hr hw (by omega) hv1
  have hx : number / L < L := Nat.div_lt_of_lt_mul hnu
  have hy : number % L < L := Nat.mod_lt _ (by omega)
  have h64 : L * L ≤ 49 := Nat.mul_le_mul h8 h8
  have := hm (WK (phT Tryd.prog w.heap.size n (L * L) m0 W (fun c l => .int .i64 (if (V c).getD (l / L) 0 = (V c).getD (l % L) 0 then 1 else 0)) H Anch Fin) w.heap.size k (.slice (some ⟨bV k, oV k, none⟩) L (cV k)) (.func (.func 32) #[] #[.pointer (some ⟨bx, 0, none⟩)])) bx (bV k) (oV k) (cV k) (V k) (number / L) (number % L) number (by omega) (by omega) (by omega) (by rw [hv2]) (by rw [hv2]) (by omega) w'
    ⟨hb.1, by rw [hv2]; exact hb.2, hl2, hw, fun _ _ r h => h.rely r⟩
  rw [hv2] at this
  exact this
end

section
open Go.Conc Go.RowKit

@[go_sem] theorem run_makeFn (P : Program) (fn : Fn) (first cap : Array Value) (w : World) : (Instr.makeFunc fn first cap).run P w = .ok (.func fn first cap) w := rfl
@[simp] theorem own_heap (w : World) (τ : Nat → Question → Nat) : (ownTape w τ).heap = w.heap := rfl
@[simp] theorem own_cellS (w : World) (τ : Nat → Question → Nat) (a : Addr) : (ownTape w τ).cell? a = w.cell? a := rfl
@[simp] theorem own_own (w : World) (τ τ' : Nat → Question → Nat) : ownTape (ownTape w τ) τ' = ownTape w τ' := rfl
@[simp] theorem own_allocS (w : World) (τ : Nat → Question → Nat) (o : Obj) : (ownTape w τ).alloc o = ownTape (w.alloc o) τ := rfl
theorem WpB.own {T : Two} {cd : Code} {Q : Exit → Act → World → Prop} {a : Act} {w : World} {τ : Nat → Question → Nat} (h : WpB T cd Q a w) : WpB T cd Q a (ownTape w τ) :=
  fun c b k cs hat => h c b k cs (hat.tape rfl rfl rfl)

theorem WpB.ret {T : Two} (K : Kit T) {Q : Exit → Act → World → Prop} {a : Act} {w : World} (h : Q .ret a w) : WpB T .ret Q a w :=
  fun c b k cs hat => ⟨.ret, a, w, h, _, hat.step K (fun _ => step_ret) (.inr rfl)⟩
theorem WpB.gen {T : Two} {cd : Code} {Q : Exit → Act → World → Prop} {a : Act} {w : World} (h : ∀ w1, w1 = w → WpB T cd Q a w1) : WpB T cd Q a w := h w rfl

def OutsS (Q : Exit → Act → World → Prop) : Prop := ∀ e a w, Q e a w → e = .normal ∨ (∃ id, e = .exit id) ∨ e = .ret
theorem outs_body (P : Program) (fn : Func) (R : Value → World → Prop) : OutsS (bodyB P fn R) := fun e a w h => by
  cases e with
  | normal => exact .inl rfl
  | ret => exact .inr (.inr rfl)
  | exit id => exact .inr (.inl ⟨id, rfl⟩)
  | goto l => exact h.elim
  | panic ch => exact h.elim
  | outgrown => exact h.elim
theorem outs_then {K : Act → World → Prop} {Q : Exit → Act → World → Prop} (h : OutsS Q) : OutsS (Exit.then K Q) := fun e a w hq => by
  cases e with
  | normal => exact .inl rfl
  | _ => exact h _ a w hq
theorem outs_block {id : Nat} {Q : Exit → Act → World → Prop} (h : OutsS Q) : OutsS (Exit.inBlock id Q) := fun e a w hq => by
  cases e with
  | exit id' => exact .inr (.inl ⟨id', rfl⟩)
  | _ => exact h _ a w hq

set_option maxRecDepth 100000 in
theorem costs_b {X w : World} {a : Option Addr} {n cap : Nat} {v : Value} {R : Value → World → Prop}
    (ht : ∀ w1, w1.heap = w.heap.push (.cells #[.slice a n cap] 23) → w1.os = w.os → w1.output = w.output → CallsB (duo Tryd.prog X) 31 #[v, .int .i64 n, .func (.func 42) #[] #[.pointer (some ⟨w.heap.size, 0, none⟩)]] w1 R) : CallsB (duo Tryd.prog X) 20 #[.slice a n cap, v] w R := by
  refine CallsB.of_body kit (fn := Tryd.f20) Trydp.func20 Tryd.func20 rfl (by kernel_rfl) (by kernel_rfl) ?_
  simp only [Tryd.ntmps20, List.size_toArray, List.length_cons, List.length_nil, Nat.reduceAdd, Nat.reduceSub, Array.replicate_succ, Array.replicate_zero, List.push_toArray, List.append_toArray, List.nil_append, List.cons_append]
  refine WpB.seq kit (WpB.of_wp kit (fun τ => ?_) ?_)
  · go_wp
    refine WpB.gen fun w1 hw1 => ?_
    have he : w1.heap = w.heap.push (.cells #[.slice a n cap] 23) ∧ w1.os = w.os ∧ w1.output = w.output := by subst hw1; exact ⟨rfl, rfl, rfl⟩
    have hc : w1.cell? ⟨w.heap.size, 0, none⟩ = some (.slice a n cap) := by
      unfold World.cell?
      rw [he.1]
      simp only [Array.getElem?_push_size]
      rfl
    clear hw1
    refine WpB.seq kit (WpB.region kit ?_)
    simp only [List.size_toArray, List.length_cons, List.length_nil, Nat.reduceAdd, Nat.zero_add, List.range, List.range.loop]
    iterate 4
      unfold OpsB
      simp only [List.getElem?_toArray, List.getElem?_cons_zero, List.getElem?_cons_succ]
      rw [if_pos (by rfl)]
      left
      intro _
      unfold Oper.wp
      go_simp
    unfold OpsB
    simp only [List.getElem?_toArray, List.getElem?_cons_zero, List.getElem?_cons_succ]
    rw [if_pos (by rfl)]
    right
    refine ⟨31, #[v, .int .i64 n, .func (.func 42) #[] #[.pointer (some ⟨w.heap.size, 0, none⟩)]], fun W => ⟨by kernel_rfl, by kernel_rfl⟩, ?_⟩
    refine (ht (ownTape w1 _) he.1 he.2.1 he.2.2).mono fun r w2 hr => ?_
    unfold OpsB
    simp only [List.getElem?_toArray, List.getElem?_cons_zero, List.getElem?_cons_succ]
    rw [if_pos (by rfl)]
    left
    intro _
    unfold Oper.wp
    go_simp
    unfold OpsB
    refine WpB.own (WpB.ret kit ⟨rfl, r, fun τ => results_tmp (fn := Tryd.f20) (t := 4) rfl _ _ _, hr⟩)
  · exact outs_then (outs_body _ _ _)
end

section
open Go.Conc

def veilW (W : World) : World := { W with heap := W.heap.map veil }
theorem veilW_get (W : World) (b : Nat) : (veilW W).heap[b]? = (W.heap[b]?).map veil := by simp [veilW]
theorem veilW_size (W : World) : (veilW W).heap.size = W.heap.size := by simp [veilW]

theorem veilW_rel {T : Two} {W : World} (hX : T.X = W) : Rel T (fun _ => False) (veilW W) W where
  size := (veilW_size W).symm
  os := rfl
  output := rfl
  out := fun b _ => .inr ⟨veilW_get W b, by rw [hX]⟩
  hid := fun b h => h.elim
  ok := fun b o ho => by
    rw [veilW_get] at ho
    obtain ⟨o', _, rfl⟩ := Option.map_eq_some_iff.1 ho
    cases o' <;> exact ⟨by simp [veil], by simp [veil], by simp [veil]⟩
  low := fun b h => h.elim
  grown := by rw [hX, veilW_size]; exact Nat.le_refl _

theorem Rel.back {T : Two} {H : Nat → Prop} {w' W' : World} (h : Rel T H w' W') {b : Nat} (hb : b < T.X.heap.size) (hs : w'.heap[b]? = (veilW T.X).heap[b]?) : W'.heap[b]? = T.X.heap[b]? := by
  have hn : ¬ H b := fun hh => by have := h.low b hh; omega
  rcases h.out b hn with ⟨x, y⟩ | ⟨_, y⟩
  · rw [← x, hs, veilW_get]
    cases hX : T.X.heap[b]? with
    | none => rfl
    | some o =>
      rw [Option.map_some, veil_same]
      refine y _ ?_
      rw [hs, veilW_get, hX]
      rfl
  · exact y

structure Bel (w w' : World) : Prop where
  os : w'.os = w.os
  output : w'.output = w.output
  size : w.heap.size ≤ w'.heap.size
  block : ∀ b, b < w.heap.size → w'.heap[b]? = w.heap[b]?

section
variable {P : Program} {W : World}

theorem past_start {Shun : Loc → Prop} {B : Nat} : Past Shun B #[] :=
  ⟨fun said => by rintro ⟨i, j, _, ⟨a, b, ha, _⟩, _⟩; simp [Trace.act?] at ha, fun i a ha => by simp [touchAt, Trace.act?] at ha, fun i g hg => by simp [Trace.g?] at hg, rfl, by simp⟩

theorem law_runs {T : Two} (K : Kit T) (hX : T.X = W) {f : FuncId} {fn : Func} {cd : Code} {t : Tmp} {args : Array Value} {R : Value → World → Prop} (hf : T.pr.funcs[f]? = some fn) (hf' : T.P.funcs[f]? = some fn) (hb : fn.body = some cd)
    (hok : okCode T.P cd = true) (hi : T.P.inits.idxOf? f = none) (hres : fn.results = #[.tmp t])
    (h : WpB T cd (bodyB T.pr fn R) { tmps := args ++ Array.replicate (fn.ntmps - args.size) undef, defers := [] } (veilW W)) :
    ∃ M last o w' t', runNT T.P (M + 1) (solo (G (Frame.enter T.P f args .normal) []) W) #[] = (.ended o w', t') ∧ runN T.P M (solo (G (Frame.enter T.P f args .normal) []) W) = .next last ∧ step T.P last = .ended o w' ∧
      Go.Conc.Good T.P (fun v W' => ∃ H w1, R v w1 ∧ Rel T H w1 W') last o w' t' := by
  obtain ⟨b, hbd⟩ : ∃ b : Frame, b = { (default : Frame) with fn := f, kind := .normal } := ⟨_, rfl⟩
  have henter : Frame.enter T.P f args .normal = b.at { tmps := args ++ Array.replicate (fn.ntmps - args.size) undef, defers := [] } [.code cd] := by
    simp [Frame.enter, Frame.at, hf', hb, hbd]
  have hkind : b.kind = .normal := by rw [hbd]
  have hfn : b.fn = f := by rw [hbd]
  rw [henter]
  obtain ⟨g, hg⟩ : ∃ g, g = G (b.at { tmps := args ++ Array.replicate (fn.ntmps - args.size) undef, defers := [] } [.code cd]) [] := ⟨_, rfl⟩
  rw [← hg]
  have hc0 : Cfg.ok T (fun _ => False) ⟨#[g], g, W, none, #[], fun _ => 0⟩ := ⟨rfl, by rw [hg]; rfl, leavers_one _ _, past_start⟩
  have hG : okGS T g := by
    rw [hg]
    refine ⟨rfl, rfl, ⟨fun it hit => ?_, fun d hd => (by cases hd), hkind, (by show T.P.inits.idxOf? b.fn = none; rw [hfn]; exact hi), fun _ => (by show ∃ fn, T.pr.funcs[b.fn]? = some fn ∧ T.P.funcs[b.fn]? = some fn; rw [hfn]; exact ⟨fn, hf, hf'⟩)⟩, fun x hx => (by cases hx), .inl rfl⟩
    obtain rfl : it = .code cd := by simpa [Frame.at, G] using hit
    exact hok
  obtain ⟨e, a', w', hq, harr⟩ := h ⟨#[g], g, W, none, #[], fun _ => 0⟩ b [] [] (At.start hc0 (veilW_rel hX) hG hg)
  have last : ∀ todo, bodyB T.pr fn R .ret a' w' → At T ⟨#[g], g, W, none, #[], fun _ => 0⟩ { b.at a' todo with mode := .returning } [] w' →
      ∃ M last o w2 t', runNT T.P (M + 1) (solo g W) #[] = (.ended o w2, t') ∧ runN T.P M (solo g W) = .next last ∧ step T.P last = .ended o w2 ∧ Go.Conc.Good T.P (fun v W' => ∃ H w1, R v w1 ∧ Rel T H w1 W') last o w2 t' := by
    intro todo ⟨hd, v, hr, hR⟩ hat
    have hv : a'.tmps.getD t undef = v := by
      have := hr (fun _ _ => 0)
      rw [results_tmp hres] at this
      injection this
    obtain ⟨H, c1, ⟨N1, hrun, _⟩, h2, h3, h4, h5⟩ := hat
    obtain ⟨N, last, o, w2, t2, e1, e2, e3, e4⟩ := beside_ends (P := T.P) (Shun := ShunH H) (B := c1.W.heap.size) (D := fun _ _ es => es = #[]) (Post := fun v W' => ∃ H w1, R v w1 ∧ Rel T H w1 W') (sl := c1.sl)
      (fun w w' es hes e he => by rw [hes] at he; simp at he) h2.at0 h2.leave h2.past (n := 0) (fun w₁ h₁ => by
        obtain ⟨d, rfl⟩ := h₁
        refine ⟨h2.run, v, #[], ?_, by simp, H, w', hR, ⟨h3.size, h3.os, h3.output, h3.out, h3.hid, h3.ok, h3.low, h3.grown⟩⟩
        have hfP : T.P.funcs[b.fn]? = some fn := by rw [hfn]; exact hf'
        rw [h5]
        have hib : T.P.inits.idxOf? b.fn = none := by rw [hfn]; exact hi
        have hr1 := results_tmp hres a'.tmps T.P (c1.W.at d)
        have hr2 := events_results_tmp (P := T.P) (w := c1.W.at d) hres a'.tmps #[]
        rw [hv] at hr1
        simp [G, stepG, unwind, doReturn, Frame.at, hkind, hd, hfP, hib, hr1, hr2, Go.seen, GStep.after])
    refine ⟨N1 + N, last, o, w2, t2, ?_, ?_, e3, e4⟩
    · rw [Nat.add_assoc, runNT_add, solo_eq_crowd]
      rw [show runNT T.P N1 (crowd #[g] W none) #[] = _ from hrun]
      exact e1
    · rw [runN_add, ← runNT_fst T.P _ _ #[], solo_eq_crowd]
      rw [show runNT T.P N1 (crowd #[g] W none) #[] = _ from hrun]
      exact e2
  cases e with
  | normal => exact last [] hq (At.step K harr (fun _ => step_end) (.inr rfl))
  | ret => obtain ⟨todo, hat⟩ := harr; exact last todo hq hat
  | exit id => exact hq.elim
  | goto l => exact hq.elim
  | panic ch => exact hq.elim
  | outgrown => exact hq.elim
end
end

section
open Go.RowKit

theorem own_nilV (w : World) (B : Nat) : Own w B (.slice none 0 0) [] := World.ownsRow_nil _ _ _ _
theorem inB_nil (B S : Nat) : InB (.slice none 0 0) B S := fun k hk => by simp [Value.ownBlock] at hk

theorem ownM_made {w1 : World} {B g n c S : Nat} (h : w1.ownsRow B 26 1 (.slice (some ⟨g, 0, none⟩) n c) n (madeCells #[Value.slice none 0 0] n).toList) (hg : B ≤ g ∧ g < S) : OwnM w1 B S (.slice (some ⟨g, 0, none⟩) n c) (List.replicate n []) := by
  rw [toList_madeCells_one] at h
  have hv : ∀ i, i < n → (List.replicate n (Value.slice none 0 0)).getD i undef = .slice none 0 0 := fun i hi => by simp [List.getD, hi]
  refine ⟨List.replicate n (.slice none 0 0), by simp, by simpa using h, fun k hk => by simp [Value.ownBlock] at hk; omega, fun i hi => ?_, fun i j hij hj => ?_⟩
  · simp at hi
    rw [hv i hi, show (List.replicate n ([] : List Int)).getD i [] = [] by simp [List.getD, hi]]
    exact ⟨own_nilV _ _, inB_nil _ _⟩
  · simp at hj
    rw [hv i (by omega)]
    exact .inl rfl

theorem ownM_stored {w : World} {B S g n cap : Nat} {xss : List (List Int)} (h : OwnM w B S (.slice (some ⟨g, 0, none⟩) n cap) xss) (hn : n = xss.length) (k : Nat) (hk : k < n) (u : Value) (ys : List Int) (hu : Own w B u ys) (hui : InB u S w.heap.size) (hBS : B ≤ S) (hSw : S ≤ w.heap.size) :
    OwnM (w.setCell ⟨g, k, none⟩ u) B w.heap.size (.slice (some ⟨g, 0, none⟩) n cap) (xss.set k ys) ∧ w.grownBy (w.setCell ⟨g, k, none⟩ u) (some g) := by
  subst hn
  obtain ⟨vs, hvl, hrow, hin, hrows, hap⟩ := h
  obtain ⟨hst, hgr⟩ := World.ownsRow.stored hrow k u
  have hgB := hin g rfl
  have hne : ∀ z : Value, ∀ zs : List Int, Own w B z zs → z.ownBlock = none ∨ z.ownBlock ≠ some g := by
    intro z zs hz
    rcases hz.2 with ⟨rfl, _⟩ | ⟨gz, capz, curz, rfl, _, hgz, _⟩
    · exact .inl rfl
    · refine .inr fun e => ?_
      simp [Value.ownBlock] at e
      subst e
      rcases hrow.2 with ⟨h3, _⟩ | ⟨g3, cap3, cur3, h3, _, hg3, _⟩
      · cases h3
      · cases h3
        rw [hgz] at hg3
        simp at hg3
  have hset : ∀ {α : Type} (l : List α) (x d : α) (i : Nat), k < l.length → (l.set k x).getD i d = if i = k then x else l.getD i d := by
    intro α l x d i hl
    rw [List.getD_eq_getElem?_getD, List.getElem?_set]
    by_cases e : k = i
    · subst e
      simp [hl]
    · rw [if_neg e, if_neg (fun e' => e e'.symm), ← List.getD_eq_getElem?_getD]
  refine ⟨⟨vs.set k u, by simp [hvl], by simpa using hst, fun q hq => by have := hin q hq; omega, fun i hi => ?_, fun i j hij hj => ?_⟩, hgr⟩
  · simp at hi
    rw [hset vs u undef i (by omega), hset xss ys [] i (by omega)]
    by_cases e : i = k
    · rw [if_pos e, if_pos e]
      exact ⟨own_grown hu hgr (hne _ _ hu), inB_mono hui hBS (Nat.le_refl _)⟩
    · rw [if_neg e, if_neg e]
      exact ⟨own_grown (hrows i hi).1 hgr (hne _ _ (hrows i hi).1), inB_mono (hrows i hi).2 (Nat.le_refl _) hSw⟩
  · simp at hj
    rw [hset vs u undef i (by omega), hset vs u undef j (by omega)]
    by_cases ei : i = k
    · rw [if_pos ei, if_neg (by omega)]
      cases e1 : u.ownBlock with
      | none => exact .inl e1
      | some q =>
        refine .inr fun e => ?_
        rw [e1] at e
        have := hui q e1
        have := (hrows j hj).2 q e.symm
        omega
    · rw [if_neg ei]
      by_cases ej : j = k
      · rw [if_pos ej]
        cases e1 : (vs.getD i undef).ownBlock with
        | none => exact .inl e1
        | some q =>
          refine .inr fun e => ?_
          rw [e1] at e
          have := (hrows i (by omega)).2 q e1
          have := hui q e.symm
          omega
      · rw [if_neg ej]
        exact hap i j hij hj

theorem stageM (xss : List (List Int)) (k : Nat) (h : k < xss.length) : (xss.take k ++ List.replicate (xss.length - k) []).set k (xss.getD k []) = xss.take (k + 1) ++ List.replicate (xss.length - (k + 1)) [] := by
  have hk : (xss.take k).length = k := by simp; omega
  rw [List.set_append_right _ _ (by omega), hk, Nat.sub_self, show xss.length - k = (xss.length - (k + 1)) + 1 by omega, List.replicate_succ, List.set_cons_zero, List.take_succ_eq_append_getElem h, List.append_assoc]
  simp [List.getD, h]

def total (xss : List (List Int)) : Nat := (xss.map List.length).sum
theorem total_cons (xs : List Int) (xss : List (List Int)) : total (xs :: xss) = xs.length + total xss := by simp [total]
theorem len_le_total (xss : List (List Int)) (i : Nat) (h : i < xss.length) : (xss.getD i []).length ≤ total xss := by
  induction xss generalizing i with
  | nil => simp at h
  | cons xs xss ih =>
    rw [total_cons]
    cases i with
    | zero => simp
    | succ i => have := ih i (by simpa using h); simp only [List.getD_cons_succ]; omega

set_option maxHeartbeats 1600000 in
theorem toIntSS_v (v : Value) (xss : List (List Int)) (w : World) (hv : RdM w v xss) (hl : xss.length ≤ 1048576) (hr : ∀ i, i < xss.length → (xss.getD i []).length ≤ 1048576) : Calls (cutP Tryd.prog) 12 #[v] w (FreshM w xss) := by
  obtain ⟨ao, ca, vs, hvl, rfl, h1, h2, h3, h4⟩ := hv
  obtain ⟨n, hn⟩ : ∃ n, n = xss.length := ⟨_, rfl⟩
  rw [← hn]
  rw [← hn] at hl
  have HN := Lib.hid hn
  have H3 := Lib.hid h3
  have H4 := Lib.hid h4
  have HR := Lib.hid hr
  clear hn h3 h4 hr hvl
  obtain ⟨i0, hi, hz0, hz1, hz2⟩ := info_parts Tryd.infoInts
  go_enter Trydp.func12, Trydp.ntmps12
  go_wp2_with (at_make; refine wpList_make_full _ rfl _ _ 23 rfl w.heap.size 26 i0 (.slice none 0 0) 1 Trydp.underlying23 hi hz0 hz1 _ _ _ _ n rfl rfl rfl rfl (by rw [hz2]; omega) (by unfold maxLen; omega) (Nat.le_refl _) ?_)
  intro w1 hown1 hgrow1
  have hb1 : Below w.heap.size w w1 := (Below.refl _ _).grown hgrow1 (Nat.le_refl _) (fun k h => by cases h)
  have hgs : w.heap.size < w1.heap.size := by
    rcases hown1.2 with ⟨h, _⟩ | ⟨g, cap, cur, h, _, hg, _⟩
    · cases h
    · cases h
      exact (Array.getElem?_eq_some_iff.1 hg).1
  have hown := ownM_made (S := w1.heap.size) hown1 ⟨Nat.le_refl _, hgs⟩
  clear hown1 hgrow1
  go_wp2
  go_loopw [4] (fun i wr => ∃ k : Nat, k ≤ n ∧ i = .int .i64 k ∧ OwnM wr w.heap.size wr.heap.size (.slice (some ⟨w.heap.size, 0, none⟩) n n) (xss.take k ++ List.replicate (n - k) []) ∧ Below w.heap.size w wr)
    (fun i _ => n - (intOf i).toNat)
  case atStart => exact ⟨0, Nat.zero_le _, rfl, by simpa using hown, hb1⟩
  case round =>
    obtain ⟨k, hk, rfl, hown, hbel⟩ := hrel
    by_cases hlt : k < n
    · rcases H3.out with hx | ⟨b, off, rfl, hc⟩
      · have := HN.out
        rw [hx] at this
        simp at this
        omega
      · have hck : wr.cell? ⟨b, off + k, none⟩ = some (vs.getD k undef) := by
          have := hc k (by have := HN.out; omega)
          rw [hbel.cell (World.block_lt_of_cell? w _ this)]
          exact this
        clear hc
        have hrk : RdV wr (vs.getD k undef) (xss.getD k []) := rdv_below (H4.out k (by have := HN.out; omega)) (by exact ⟨hbel.os, hbel.tape, hbel.output, hbel.size, hbel.block⟩)
        obtain ⟨z, hz⟩ : ∃ z, z = vs.getD k undef := ⟨_, rfl⟩
        rw [← hz] at hck hrk
        clear hz
        have hys0 := HR.out k (by have := HN.out; omega)
        have hs := stageM xss k (by have := HN.out; omega)
        rw [← HN.out] at hs
        obtain ⟨ys, hys⟩ : ∃ ys, ys = xss.getD k [] := ⟨_, rfl⟩
        rw [← hys] at hrk hys0 hs
        have HS := Lib.hid hs
        have HO := Lib.hid hown
        have HRK := Lib.hid hrk
        clear hown hrk hys hs
        go_wp2_with fail
        refine (toIntS_v _ ys _ HRK.out hys0).mono ?_
        rintro e w2 ⟨u, he, hu, hb2⟩
        obtain ⟨uo, uc, rfl, _⟩ := own_rd hu
        subst he
        have hlr : (xss.take k ++ List.replicate (n - k) []).length = n := by have := HN.out; simp; omega
        have hO2 := ownM_below HO.out hb2
        obtain ⟨hst, hgs2⟩ := ownM_stored hO2 hlr.symm k hlt _ ys (own_mono hu hbel.size) (inB_of_own hu) hbel.size hb2.size
        have hfz := ownM_frozen hO2 k
        obtain ⟨v0, hv0, _⟩ := ownM_cell hO2 k (by omega)
        have hbel2 : Below w.heap.size w w2 := below_step hbel hb2
        rw [HS.out] at hst
        have HST := Lib.hid hst
        have hsz : (w2.setCell ⟨w.heap.size, k, none⟩ (.slice uo ys.length uc)).heap.size = w2.heap.size := by simp [World.setCell]
        have HSZ := Lib.hid hsz
        clear hst hgs2 hO2 hu hsz hlr
        go_wp2
        go_roundw
        case rel => exact ⟨k + 1, by omega, by go_num, by rw [HSZ.out]; exact HST.out, hbel2.setCell (Nat.le_refl _) _⟩
        case measure => simp [intOf]; omega
    · have hkn : k = n := by omega
      subst hkn
      go_wp2
      go_ret
      rw [Nat.sub_self, List.replicate_zero, List.append_nil, HN.out, List.take_length, ← HN.out] at hown
      exact ⟨_, rfl, hown, hbel⟩

set_option maxRecDepth 100000 in
set_option maxHeartbeats 1600000 in
theorem eqIntSS_v (v u : Value) (xss : List (List Int)) (w : World) (hv : RdM w v xss) (hu : RdM w u xss) : Calls (cutP Tryd.prog) 13 #[v, u] w fun e w' => e = .returned (.bool true) ∧ Same w w' := by
  obtain ⟨ao, ca, vs, hvl, rfl, h1, h2, h3, h4⟩ := hv
  obtain ⟨bo, cb, us, hul, rfl, k1, k2, k3, k4⟩ := hu
  unfold maxLen at h2 k2
  obtain ⟨n, hn⟩ : ∃ n, n = xss.length := ⟨_, rfl⟩
  rw [← hn] at h1 k1 ⊢
  have HN := Lib.hid hn
  have H3 := Lib.hid h3
  have H4 := Lib.hid h4
  have K3 := Lib.hid k3
  have K4 := Lib.hid k4
  clear hn h3 h4 k3 k4 hvl hul
  go_enter Trydp.func13, Trydp.ntmps13
  go_wp2
  go_loopw [5] (fun i wr => ∃ k : Nat, k ≤ n ∧ i = .int .i64 k ∧ Same w wr) (fun i _ => n - (intOf i).toNat)
  case atStart => exact ⟨0, Nat.zero_le _, rfl, Same.refl w⟩
  case round =>
    obtain ⟨k, hk, rfl, hsr⟩ := hrel
    by_cases hlt : k < n
    · rcases H3.out with hx | ⟨b, off, rfl, hc⟩
      · have := HN.out
        rw [hx] at this
        simp at this
        omega
      · rcases K3.out with hy | ⟨b2, off2, rfl, hc2⟩
        · have := HN.out
          rw [hy] at this
          simp at this
          omega
        · have hck := hc k (by have := HN.out; omega)
          have hck2 := hc2 k (by have := HN.out; omega)
          rw [← (hsr _).cell (World.block_lt_of_cell? w _ hck)] at hck
          rw [← (hsr _).cell (World.block_lt_of_cell? w _ hck2)] at hck2
          have hr := rdv_below (H4.out k (by have := HN.out; omega)) (hsr _)
          have hr2 := rdv_below (K4.out k (by have := HN.out; omega)) (hsr _)
          clear hc hc2
          obtain ⟨z, hz⟩ : ∃ z, z = vs.getD k undef := ⟨_, rfl⟩
          obtain ⟨y, hy⟩ : ∃ y, y = us.getD k undef := ⟨_, rfl⟩
          rw [← hz] at hck hr
          rw [← hy] at hck2 hr2
          have HR := Lib.hid hr
          have HR2 := Lib.hid hr2
          have c1 : (k : Int) < n := by omega
          have c2 : (0 : Int) ≤ (k : Int) := by omega
          clear hz hy hr hr2
          go_wp2
          go_region_held3 (fun w' => w'.cell? ⟨b, off + k, none⟩ = some z ∧ w'.cell? ⟨b2, off2 + k, none⟩ = some y) (first | exact ⟨hck, hck2⟩ | exact ⟨by rw [(hs2 _).cell (World.block_lt_of_cell? wr _ hck)]; exact hck, by rw [(hs2 _).cell (World.block_lt_of_cell? wr _ hck2)]; exact hck2⟩) (first | (go_at_call 28; refine (eqIntS_v z y _ _ (rdv_below HR.out (Below.refl _ _).drew) (rdv_below HR2.out (Below.refl _ _).drew)).mono ?_; rintro e w2 ⟨rfl, hs1⟩; have hs2 : Same wr w2 := fun B => (Below.refl _ _).drew.trans (hs1 B)))
          go_wp2
          go_roundw
          case rel => exact ⟨k + 1, by omega, by go_num, hsr.trans hs2⟩
          case measure => simp [intOf]; omega
    · go_wp2
      go_ret
      exact ⟨rfl, hsr⟩

theorem total_take_succ (xss : List (List Int)) (k : Nat) (h : k < xss.length) : total (xss.take (k + 1)) = total (xss.take k) + (xss.getD k []).length := by
  unfold total
  rw [List.take_succ_eq_append_getElem h, List.map_append, List.sum_append]
  simp [List.getD, h]

theorem total_take_le (xss : List (List Int)) (k : Nat) : total (xss.take k) ≤ total xss := by
  induction xss generalizing k with
  | nil => simp
  | cons xs xss ih =>
    cases k with
    | zero => simp [total]
    | succ k => rw [List.take_succ_cons, total_cons, total_cons]; have := ih k; omega

theorem szIntS_any (ao : Option Addr) (n ca : Nat) (left : Int) (w : World) (h0 : 0 ≤ left) (h1 : left ≤ 1048576) (hn : n ≤ 9223372036854775807) :
    Calls (cutP Tryd.prog) 26 #[.slice ao n ca, .int .i64 left] w fun e w' => e = .returned (.int .i64 (if (n : Int) ≤ left then left - n else -1)) ∧ w = w' := by
  by_cases h : (n : Int) ≤ left
  · rw [if_pos h]
    have hlt : ¬ (left - n < 0) := by omega
    go_enter Trydp.func26, Trydp.ntmps26
    go_wp2
    go_ret
    exact ⟨rfl, rfl⟩
  · rw [if_neg h]
    have hlt : left - n < 0 := by omega
    go_enter Trydp.func26, Trydp.ntmps26
    go_wp2
    go_ret
    exact ⟨rfl, rfl⟩

def szM (xss : List (List Int)) : Int := if xss.length + total xss ≤ 1048576 then 1048576 - (xss.length : Int) - (total xss : Int) else -1

set_option maxHeartbeats 1600000 in
theorem szIntSS_v (v : Value) (xss : List (List Int)) (w : World) (hv : RdM w v xss) : Calls (cutP Tryd.prog) 11 #[v, .int .i64 1048576] w fun e w' => e = .returned (.int .i64 (szM xss)) ∧ w = w' := by
  obtain ⟨ao, ca, vs, hvl, rfl, h1, h2, h3, h4⟩ := hv
  unfold maxLen at h2
  obtain ⟨n, hn⟩ : ∃ n, n = xss.length := ⟨_, rfl⟩
  have HM : Hid (szM xss = if n + total xss ≤ 1048576 then 1048576 - (n : Int) - (total xss : Int) else -1) := by
    show szM xss = _
    rw [hn]
    rfl
  rw [← hn] at h1 ⊢
  have HN := Lib.hid hn
  have H3 := Lib.hid h3
  have H4 := Lib.hid h4
  clear hn h3 h4 hvl
  by_cases hbig : 1048576 < n
  · have hlt : (1048576 : Int) - n < 0 := by omega
    go_enter Trydp.func11, Trydp.ntmps11
    go_wp2
    go_ret
    exact ⟨ret_int (by rw [HM.out, if_neg (by omega)]), rfl⟩
  · have hlt : ¬ ((1048576 : Int) - n < 0) := by omega
    go_enter Trydp.func11, Trydp.ntmps11
    go_wp2
    go_loop [1, 5] (fun u i => ∃ (k : Nat) (l : Int), k ≤ n ∧ i = .int .i64 k ∧ u = .int .i64 l ∧ 0 ≤ l ∧ l ≤ 1048576 ∧ l = 1048576 - (n : Int) - (total (xss.take k) : Int)) (fun _ i => n - (intOf i).toNat)
    case atStart => exact ⟨0, 1048576 - n, Nat.zero_le _, rfl, rfl, by omega, by omega, by simp [total]⟩
    case round =>
      obtain ⟨k, l, hk, rfl, rfl, hl0, hl1, hl⟩ := hrel
      have HL := Lib.hid hl
      clear hl
      by_cases hkn : k < n
      · rcases H3.out with hx | ⟨b, off, rfl, hc⟩
        · have := HN.out
          rw [hx] at this
          simp at this
          omega
        · have hck := hc k (by have := HN.out; omega)
          have hrow := H4.out k (by have := HN.out; omega)
          have htt := total_take_succ xss k (by have := HN.out; omega)
          have htl := total_take_le xss (k + 1)
          obtain ⟨row, hrw⟩ : ∃ row, row = xss.getD k [] := ⟨_, rfl⟩
          obtain ⟨z, hz⟩ : ∃ z, z = vs.getD k undef := ⟨_, rfl⟩
          rw [← hz] at hck hrow
          rw [← hrw] at hrow htt
          obtain ⟨zo, zc, rfl, _, hzl, hzc⟩ := hrow
          unfold maxLen at hzc
          obtain ⟨q, hq⟩ : ∃ q, q = row.length := ⟨_, rfl⟩
          rw [← hq] at hck htt hzl
          have HTT := Lib.hid htt
          clear hc hz hrw hq htt
          by_cases hql : (q : Int) ≤ l
          · go_wp2_with fail
            refine (szIntS_any zo q zc l _ hl0 hl1 (by omega)).mono ?_
            rintro e w' ⟨rfl, rfl⟩
            rw [if_pos hql]
            have hpos : ¬ (l - q < 0) := by omega
            go_wp2
            go_round
            case rel => exact ⟨k + 1, l - q, by omega, by go_num, rfl, by omega, by omega, by have := HL.out; have := HTT.out; omega⟩
            case measure => simp [intOf]; omega
          · go_wp2_with fail
            refine (szIntS_any zo q zc l _ hl0 hl1 (by omega)).mono ?_
            rintro e w' ⟨rfl, rfl⟩
            rw [if_neg (by omega)]
            go_wp2
            go_ret
            exact ⟨ret_int (by have := HL.out; have := HTT.out; rw [HM.out, if_neg (by omega)]), rfl⟩
      · have hke : k = n := by omega
        subst hke
        go_wp2
        go_ret
        have hl := HL.out
        rw [HN.out, List.take_length, ← HN.out] at hl
        exact ⟨ret_int (by rw [HM.out, if_pos (by omega), hl]), rfl⟩

theorem rdM_of_rows {w : World} {a : Addr} {len cap : Nat} {A : Nat → Option Addr} {L C : Nat → Nat} {Z : Nat → List Int} (hlc : len ≤ cap) (hm : cap ≤ maxLen)
    (h : ∀ r, r < cap → w.cell? (a.add r) = some (.slice (A r) (L r) (C r)) ∧ L r ≤ C r ∧ C r ≤ maxLen ∧ (Z r).length = C r ∧ (∀ n ∈ Z r, (Lit.int .i64 n).wf = true) ∧ (A r = none → C r = 0) ∧
      ∀ a', A r = some a' → 0 ≤ a'.block ∧ ∀ c, c < C r → w.cell? (a'.add c) = some (.int .i64 ((Z r).getD c 0))) :
    RdM w (.slice (some a) len cap) ((List.range len).map fun r => (Z r).take (L r)) := by
  refine ⟨some a, cap, (List.range len).map fun r => Value.slice (A r) (L r) (C r), by simp, by simp, by simpa using hlc, hm, ?_, ?_⟩
  · by_cases h0 : len = 0
    · exact .inl (by simp [h0])
    · obtain ⟨b, off, spot⟩ := a
      have hc0 := (h 0 (by omega)).1
      have hspot : spot = none := by simpa [Addr.add] using World.cell?_spot hc0
      subst hspot
      refine .inr ⟨b, off, rfl, fun i hi => ?_⟩
      have hi' : i < len := by simpa using hi
      have := (h i (by omega)).1
      rw [Addr.add_lit] at this
      rw [this]
      simp [List.getD, hi']
  · intro i hi
    have hi' : i < len := by simpa using hi
    obtain ⟨_, h2, h3, h4, h5, h6, h7⟩ := h i (by omega)
    have e1 : ((List.range len).map fun r => Value.slice (A r) (L r) (C r)).getD i undef = .slice (A i) (L i) (C i) := by simp [List.getD, hi']
    have e2 : ((List.range len).map fun r => (Z r).take (L r)).getD i [] = (Z i).take (L i) := by simp [List.getD, hi']
    rw [e1, e2]
    have hrow : IsRow .i64 w (A i) (L i) (C i) (Z i) := by
      cases hA : A i with
      | none =>
        have hc := h6 hA
        exact .inl ⟨rfl, by omega, hc, List.eq_nil_of_length_eq_zero (by omega)⟩
      | some a' => exact .inr ⟨a', rfl, h2, h3, h4, fun c hc => (h7 a' hA).2 c (by omega), h5⟩
    rcases hrow with ⟨ha, hl, hc, hz⟩ | ⟨x, ha, hl, hc, hz, hcell, hw⟩
    · rw [ha, hl, hc, hz]
      exact ⟨none, 0, rfl, .inl rfl, Nat.le_refl _, Nat.zero_le _⟩
    · rw [ha]
      refine ⟨some x, C i, by congr 1; simp; omega, ?_, by simp; omega, hc⟩
      by_cases h0 : L i = 0
      · exact .inl (by simp [h0])
      · obtain ⟨b, off, spot⟩ := x
        have hc0 := hcell 0 (by omega)
        have hspot : spot = none := by simpa [Addr.add] using World.cell?_spot hc0
        subst hspot
        refine .inr ⟨b, off, rfl, fun j hj => ?_⟩
        have hj' : j < L i := by simp at hj; omega
        have := hcell j (by omega)
        rw [Addr.add_lit] at this
        rw [this]
        simp [List.getD, List.getElem?_take, hj']
end

section
open Go.RowKit

def Cells (w : World) (b off : Nat) (xs : List Int) : Prop := ∀ j, j < xs.length → w.cell? ⟨b, off + j, none⟩ = some (.int .i64 (xs.getD j 0))

def Quiet (w w' : World) : Prop := ∃ m, w' = w.drewN m
theorem Quiet.refl (w : World) : Quiet w w := ⟨0, rfl⟩
theorem Quiet.mk (w : World) (m : Nat) : Quiet w (w.drewN m) := ⟨m, rfl⟩
theorem Quiet.drewN {a w : World} (h : Quiet a w) (n : Nat) : Quiet a (w.drewN n) := by
  obtain ⟨m, rfl⟩ := h
  exact ⟨m + n, by rw [World.drewN_drewN]⟩
theorem Quiet.trans {a b c : World} (h : Quiet a b) (k : Quiet b c) : Quiet a c := by
  obtain ⟨m, rfl⟩ := k
  exact h.drewN m
theorem Quiet.cells {w w' : World} {b off : Nat} {xs : List Int} (hq : Quiet w w') (h : Cells w b off xs) : Cells w' b off xs := by
  obtain ⟨m, rfl⟩ := hq
  exact h
theorem Quiet.below {w w' : World} (h : Quiet w w') : Below w.heap.size w w' := by
  obtain ⟨m, rfl⟩ := h
  exact below_drewN (Below.refl _ _) m
theorem Quiet.same {w w' : World} (h : Quiet w w') : Same w w' := by
  obtain ⟨m, rfl⟩ := h
  exact fun B => below_drewN (Below.refl _ _) m

theorem cell_keep {w : World} {b q : Nat} {v : Value} (o : Obj) (h : w.cell? ⟨b, q, none⟩ = some v) : (w.alloc o).cell? ⟨b, q, none⟩ = some v := by
  rw [World.cell?_alloc_past _ _ _ (World.block_lt_of_cell? w _ h)]; exact h
end

section
open Go.RowKit

theorem slicesIndex_v (v : Value) (xs : List Int) (x : Int) (w : World) (hv : RdV w v xs) (hm : x ∈ xs) :
    Calls (cutP Tryd.prog) 21 #[v, .int .i64 x] w fun e w' => e = .returned (.int .i64 (xs.idxOf x)) ∧ w = w' := by
  obtain ⟨ao, ca, rfl, h, h1, h2⟩ := hv
  unfold maxLen at h2
  exact slicesIndex_any ao ca xs x w h (by omega) hm

def alike (xs ys : List Int) : Bool := partIn xs && partIn ys && decide (xs.length = ys.length)
theorem alike_iff {xs ys : List Int} : alike xs ys = true ↔ partIn xs = true ∧ partIn ys = true ∧ xs.length = ys.length := by
  simp [alike, and_assoc]

set_option maxHeartbeats 800000 in
theorem areAlike_v (v u : Value) (xs ys : List Int) (w : World) (hv : RdV w v xs) (hu : RdV w u ys) :
    Calls (cutP Tryd.prog) 23 #[v, u] w fun e w' => e = .returned (.bool (alike xs ys)) ∧ w = w' := by
  have HV := Lib.hid hv
  have HU := Lib.hid hu
  have hlv : ∃ ao ca, v = .slice ao xs.length ca := by obtain ⟨ao, ca, h, _⟩ := hv; exact ⟨ao, ca, h⟩
  have hlu : ∃ ao ca, u = .slice ao ys.length ca := by obtain ⟨ao, ca, h, _⟩ := hu; exact ⟨ao, ca, h⟩
  have hbv : xs.length ≤ 9223372036854775807 := by obtain ⟨_, _, _, _, h1, h2⟩ := hv; unfold maxLen at h2; omega
  have hbu : ys.length ≤ 9223372036854775807 := by obtain ⟨_, _, _, _, h1, h2⟩ := hu; unfold maxLen at h2; omega
  clear hv hu
  obtain ⟨ao, ca, rfl⟩ := hlv
  obtain ⟨bo, cb, rfl⟩ := hlu
  have hr : alike xs ys = (partIn xs && partIn ys && decide (xs.length = ys.length)) := rfl
  have HR := Lib.hid hr
  clear hr
  obtain ⟨n, hn⟩ : ∃ n, n = xs.length := ⟨_, rfl⟩
  obtain ⟨m, hm⟩ : ∃ m, m = ys.length := ⟨_, rfl⟩
  have HN := Lib.hid hn
  have HM := Lib.hid hm
  rw [← hn] at HV hbv ⊢
  rw [← hm] at HU hbu ⊢
  clear hn hm
  obtain ⟨p, hp⟩ : ∃ p, p = partIn xs := ⟨_, rfl⟩
  obtain ⟨q, hq⟩ : ∃ q, q = partIn ys := ⟨_, rfl⟩
  have HP := Lib.hid hp
  have HQ := Lib.hid hq
  clear hp hq
  cases p
  · go_enter Trydp.func23, Trydp.ntmps23
    go_wp2_with fail
    refine (iPartIn_w _ _ _ HV.out).mono ?_
    rintro e w' ⟨rfl, rfl⟩
    rw [← HP.out]
    go_wp2
    go_ret
    exact ⟨ret_bool (by rw [HR.out, ← HP.out]; simp), rfl⟩
  · cases q
    · go_enter Trydp.func23, Trydp.ntmps23
      go_wp2_with fail
      refine (iPartIn_w _ _ _ HV.out).mono ?_
      rintro e w' ⟨rfl, rfl⟩
      rw [← HP.out]
      go_wp2_with fail
      refine (iPartIn_w _ _ _ HU.out).mono ?_
      rintro e w' ⟨rfl, rfl⟩
      rw [← HQ.out]
      go_wp2
      go_ret
      exact ⟨ret_bool (by rw [HR.out, ← HQ.out]; simp), rfl⟩
    · by_cases hnm : n = m
      · subst hnm
        go_enter Trydp.func23, Trydp.ntmps23
        go_wp2_with fail
        refine (iPartIn_w _ _ _ HV.out).mono ?_
        rintro e w' ⟨rfl, rfl⟩
        rw [← HP.out]
        go_wp2_with fail
        refine (iPartIn_w _ _ _ HU.out).mono ?_
        rintro e w' ⟨rfl, rfl⟩
        rw [← HQ.out]
        go_wp2
        go_ret
        exact ⟨ret_bool (by rw [HR.out, ← HP.out, ← HQ.out, ← HN.out, ← HM.out]; simp), rfl⟩
      · have hb : ((n : Int) == m) = false := by simp; omega
        go_enter Trydp.func23, Trydp.ntmps23
        go_wp2_with fail
        refine (iPartIn_w _ _ _ HV.out).mono ?_
        rintro e w' ⟨rfl, rfl⟩
        rw [← HP.out]
        go_wp2_with fail
        refine (iPartIn_w _ _ _ HU.out).mono ?_
        rintro e w' ⟨rfl, rfl⟩
        rw [← HQ.out]
        go_wp2
        go_ret
        exact ⟨ret_bool (by rw [HR.out, ← HP.out, ← HQ.out, ← HN.out, ← HM.out]; simp [hnm]), rfl⟩
end

section
open Go.RowKit

def okV (vs : List (List Int)) (v : List Int) : Bool := decide (v.length ≤ 5) && alike (vs.getD 0 []) v
def areV (vs : List (List Int)) : Bool := decide (1 ≤ vs.length ∧ vs.length ≤ 6) && vs.all (okV vs)

theorem all_step (p : List Int → Bool) (vs : List (List Int)) (k : Nat) (h : k < vs.length) : (vs.take (k + 1)).all p = ((vs.take k).all p && p (vs.getD k [])) := by
  rw [List.take_succ_eq_append_getElem h, List.all_append]
  simp [List.getD, h]
theorem all_no (p : List Int → Bool) (vs : List (List Int)) (k : Nat) (h : k < vs.length) (hp : p (vs.getD k []) = false) : vs.all p = false := by
  rw [List.all_eq_false]
  exact ⟨vs.getD k [], by simp [List.getD, h], by rw [hp]; simp⟩

set_option maxHeartbeats 1600000 in
theorem areViews_v (v : Value) (vs : List (List Int)) (w : World) (hv : RdM w v vs) : Calls (cutP Tryd.prog) 15 #[v] w fun e w' => e = .returned (.bool (areV vs)) ∧ w = w' := by
  obtain ⟨ao, ca, rs, hvl, rfl, h1, h2, h3, h4⟩ := hv
  unfold maxLen at h2
  obtain ⟨r, hr⟩ : ∃ r, r = areV vs := ⟨_, rfl⟩
  rw [← hr]
  obtain ⟨n, hn⟩ : ∃ n, n = vs.length := ⟨_, rfl⟩
  have HR : Hid (r = (decide (1 ≤ n ∧ n ≤ 6) && vs.all (okV vs))) := by
    show r = _
    rw [hr, hn]
    rfl
  rw [← hn] at h1 ⊢
  have HN := Lib.hid hn
  have H3 := Lib.hid h3
  have H4 := Lib.hid h4
  clear hr hn h3 h4 hvl
  by_cases hn1 : n < 1
  · have e : r = false := by rw [HR.out, decide_eq_false (by omega)]; rfl
    subst e
    clear HR
    have hlt : (n : Int) < 1 := by omega
    go_enter Trydp.func15, Trydp.ntmps15
    go_wp2
    go_ret
    exact ⟨rfl, rfl⟩
  by_cases hn6 : 6 < n
  · have e : r = false := by rw [HR.out, decide_eq_false (by omega)]; rfl
    subst e
    clear HR
    have hlt : ¬ ((n : Int) < 1) := by omega
    have hgt : (6 : Int) < (n : Int) := by omega
    go_enter Trydp.func15, Trydp.ntmps15
    go_wp2
    go_ret
    exact ⟨rfl, rfl⟩
  have hr2 : r = vs.all (okV vs) := by rw [HR.out, decide_eq_true (by omega)]; rfl
  have HR2 := Lib.hid hr2
  clear HR hr2
  have hlt0 : ¬ ((n : Int) < 1) := by omega
  have hgt0 : ¬ ((6 : Int) < (n : Int)) := by omega
  have z0 : (0 : Int) < (n : Int) := by omega
  have z1 : 0 < n := by omega
  rcases H3.out with hx | ⟨b, off, rfl, hc⟩
  · exfalso
    have := HN.out
    rw [hx] at this
    simp at this
    omega
  have H4' := H4.out
  have hN := HN.out
  have hc0 := hc 0 (by omega)
  obtain ⟨zo, zc, hz, hz2⟩ : ∃ zo zc, rs.getD 0 undef = .slice zo (vs.getD 0 []).length zc ∧ RdV w (.slice zo (vs.getD 0 []).length zc) (vs.getD 0 []) := by
    have := H4' 0 (by omega)
    obtain ⟨zo, zc, e, x⟩ := this
    exact ⟨zo, zc, e, zo, zc, rfl, x⟩
  rw [hz, Nat.add_zero] at hc0
  have HZ2 := Lib.hid hz2
  have HC := Lib.hid hc
  obtain ⟨l0, hl0⟩ : ∃ l0, l0 = (vs.getD 0 []).length := ⟨_, rfl⟩
  rw [← hl0] at hc0 HZ2
  clear hz hz2 hc H4' hN hl0
  go_enter Trydp.func15, Trydp.ntmps15
  go_wp2
  go_loop [15] (fun i => ∃ k : Nat, k ≤ n ∧ i = .int .i64 k ∧ (vs.take k).all (okV vs) = true) (fun i => n - (intOf i).toNat)
  case atStart => exact ⟨0, Nat.zero_le _, rfl, by simp⟩
  case round =>
    obtain ⟨k, hk, rfl, hall⟩ := hrel
    have HALL := Lib.hid hall
    clear hall
    by_cases hkn : k < n
    · have hck := HC.out k (by have := HN.out; omega)
      have hrow := H4.out k (by have := HN.out; omega)
      have hst := all_step (okV vs) vs k (by have := HN.out; omega)
      have hno := all_no (okV vs) vs k (by have := HN.out; omega)
      obtain ⟨row, hrw⟩ : ∃ row, row = vs.getD k [] := ⟨_, rfl⟩
      obtain ⟨z, hz⟩ : ∃ z, z = rs.getD k undef := ⟨_, rfl⟩
      rw [← hz] at hck hrow
      rw [← hrw] at hrow hst hno
      rw [HALL.out, Bool.true_and] at hst
      rw [← HR2.out] at hno
      obtain ⟨a, ha⟩ : ∃ a, a = alike (vs.getD 0 []) row := ⟨_, rfl⟩
      have hov : okV vs row = (decide (row.length ≤ 5) && a) := by rw [ha]; rfl
      rw [hov] at hst hno
      obtain ⟨zo', zc', rfl, hz3, hzl, hzc⟩ := hrow
      have HA : ∀ w', w' = w → Calls (cutP Tryd.prog) 23 #[.slice zo l0 zc, .slice zo' row.length zc'] w' fun e w2 => e = .returned (.bool a) ∧ w' = w2 := by
        intro w' e
        subst e
        rw [ha]
        exact areAlike_v _ _ _ _ _ HZ2.out ⟨zo', zc', rfl, hz3, hzl, hzc⟩
      unfold maxLen at hzc
      obtain ⟨q, hq⟩ : ∃ q, q = row.length := ⟨_, rfl⟩
      rw [← hq] at hck hzl hst hno HA
      have HAA := Lib.hid HA
      have HST := Lib.hid hst
      have HNO := Lib.hid hno
      clear hst hno HA hz hrw ha hov hz3 hq
      by_cases hq5 : 5 < q
      · have e : r = false := HNO.out (by rw [decide_eq_false (by omega)]; rfl)
        subst e
        clear HR2 HNO HST HAA
        have h5 : (5 : Int) < (q : Int) := by omega
        go_wp2
        go_ret
        exact ⟨rfl, rfl⟩
      · have h5 : ¬ ((5 : Int) < (q : Int)) := by omega
        cases a
        · have e : r = false := HNO.out (by simp)
          subst e
          clear HR2 HNO HST
          go_wp2_with fail
          refine (HAA.out _ rfl).mono ?_
          rintro e w2 ⟨rfl, rfl⟩
          go_wp2
          go_ret
          exact ⟨rfl, rfl⟩
        · have hst := HST.out
          rw [decide_eq_true (show q ≤ 5 by omega)] at hst
          have HS2 := Lib.hid hst
          clear hst HST HNO
          go_wp2_with fail
          refine (HAA.out _ rfl).mono ?_
          rintro e w2 ⟨rfl, rfl⟩
          go_wp2
          go_round
          case rel => exact ⟨k + 1, by omega, by go_num, HS2.out⟩
          case measure => simp [intOf]; omega
    · have hkn : k = n := by omega
      subst hkn
      have e : r = true := by
        have := HALL.out
        rw [HN.out, List.take_length] at this
        rw [HR2.out, this]
      subst e
      clear HR2
      go_wp2
      go_ret
      exact ⟨rfl, rfl⟩
end

def opn : Nat → Int → Int
  | 0, _ => 1
  | n + 1, k => k * opn n k + opn n (k + 1)

def opnN : Nat → Nat → Nat
  | 0, _ => 1
  | n + 1, k => k * opnN n k + opnN n (k + 1)

theorem opn_nat : ∀ (n k : Nat), opn n (k : Int) = (opnN n k : Int) := by
  intro n
  induction n with
  | zero => intro k; rfl
  | succ n ih =>
    intro k
    have h2 := ih (k + 1)
    have e : ((k + 1 : Nat) : Int) = (k : Int) + 1 := by omega
    rw [e] at h2
    show (k : Int) * opn n (k : Int) + opn n ((k : Int) + 1) = _
    rw [ih k, h2]
    show _ = ((k * opnN n k + opnN n (k + 1) : Nat) : Int)
    simp

theorem opnN_bd : ∀ n, n < 9 → ∀ k, k < 9 → n + k ≤ 8 → 1 ≤ opnN n k ∧ opnN n k ≤ 4140 := by decide +kernel

theorem opn_pos : ∀ (n : Nat) (k : Int), 0 ≤ k → 1 ≤ opn n k := by
  intro n
  induction n with
  | zero => intro k _; exact Int.le_refl _
  | succ n ih =>
    intro k hk
    have h1 := ih k hk
    have h2 := ih (k + 1) (by omega)
    have h3 : 0 ≤ k * opn n k := Int.mul_nonneg hk (by omega)
    show 1 ≤ k * opn n k + opn n (k + 1)
    omega

theorem opn_bd (n : Nat) (k : Int) (hk : 0 ≤ k) (h : (n : Int) + k ≤ 8) : 1 ≤ opn n k ∧ opn n k ≤ 4140 := by
  obtain ⟨j, rfl⟩ : ∃ j : Nat, k = j := ⟨k.toNat, by omega⟩
  have := opnN_bd n (by omega) j (by omega) (by omega)
  rw [opn_nat]
  omega

theorem opn_mul_bd (n : Nat) (k x : Int) (hk : 0 ≤ k) (h : (n : Int) + k ≤ 8) (hx : 0 ≤ x) (hx8 : x ≤ 8) : 0 ≤ x * opn n k ∧ x * opn n k ≤ 33120 := by
  have h1 := opn_bd n k hk h
  refine ⟨Int.mul_nonneg hx (by omega), ?_⟩
  have h2 : x * opn n k ≤ 8 * opn n k := Int.mul_le_mul_of_nonneg_right hx8 (by omega)
  omega

theorem max_small {b x : Int} (h : x < b) : max b (x + 1) = b := by omega
theorem max_new (b : Int) : max b (b + 1) = b + 1 := by omega

theorem okFrom_step {b x : Int} (xs : List Int) (h0 : 0 ≤ x) (h : x ≤ b) : okFrom b (x :: xs) = okFrom (max b (x + 1)) xs := by
  by_cases e : x = b
  · subst e; rw [okFrom_new h0, max_new]
  · rw [okFrom_yes h0 (by omega), max_small (by omega)]

theorem okFrom_head {b x : Int} {xs : List Int} (h : okFrom b (x :: xs) = true) : 0 ≤ x ∧ x ≤ b ∧ okFrom (max b (x + 1)) xs = true := by
  by_cases h1 : 0 ≤ x ∧ x ≤ b
  · exact ⟨h1.1, h1.2, by rw [okFrom_step xs h1.1 h1.2] at h; exact h⟩
  · rw [okFrom_no (by omega)] at h
    cases h

def plcFrom : Int → List Int → Int
  | _, [] => 0
  | b, x :: xs => x * opn xs.length b + plcFrom (max b (x + 1)) xs

theorem plcFrom_bd : ∀ (xs : List Int) (b : Int), 0 ≤ b → okFrom b xs = true → 0 ≤ plcFrom b xs ∧ plcFrom b xs < opn xs.length b := by
  intro xs
  induction xs with
  | nil => intro b _ _; exact ⟨Int.le_refl _, by show (0 : Int) < 1; omega⟩
  | cons x xs ih =>
    intro b hb h
    obtain ⟨h0, h1, h2⟩ := okFrom_head h
    have hp := ih (max b (x + 1)) (by omega) h2
    have ho := opn_pos xs.length b hb
    have hx : 0 ≤ x * opn xs.length b := Int.mul_nonneg h0 (by omega)
    have ho2 := opn_pos xs.length (b + 1) (by omega)
    show 0 ≤ x * opn xs.length b + _ ∧ x * opn xs.length b + _ < b * opn xs.length b + opn xs.length (b + 1)
    by_cases e : x = b
    · subst e
      rw [max_new] at hp ⊢
      omega
    · rw [max_small (by omega)] at hp ⊢
      have h3 : (x + 1) * opn xs.length b ≤ b * opn xs.length b := Int.mul_le_mul_of_nonneg_right (by omega) (by omega)
      rw [Int.add_mul, Int.one_mul] at h3
      omega

def atFrom : Nat → Int → Int → List Int
  | 0, _, _ => []
  | n + 1, b, p => min (p / opn n b) b :: atFrom n (max b (min (p / opn n b) b + 1)) (p - min (p / opn n b) b * opn n b)

theorem atFrom_length : ∀ (n : Nat) (b p : Int), (atFrom n b p).length = n := by
  intro n
  induction n with
  | zero => intro b p; rfl
  | succ n ih => intro b p; simp only [atFrom, List.length_cons, ih]

theorem at_head (n : Nat) (b p : Int) (hb : 0 ≤ b) (hp : 0 ≤ p) (hq : p < opn (n + 1) b) :
    0 ≤ min (p / opn n b) b ∧ min (p / opn n b) b ≤ b ∧ 0 ≤ p - min (p / opn n b) b * opn n b ∧ p - min (p / opn n b) b * opn n b < opn n (max b (min (p / opn n b) b + 1)) := by
  have ho := opn_pos n b hb
  have hd : 0 ≤ p / opn n b := Int.ediv_nonneg hp (by omega)
  have hm := Int.mul_ediv_add_emod p (opn n b)
  have hr := Int.emod_nonneg p (show opn n b ≠ 0 by omega)
  have hr2 := Int.emod_lt_of_pos p (show 0 < opn n b by omega)
  rw [Int.mul_comm] at hm
  have hq' : p < b * opn n b + opn n (b + 1) := hq
  by_cases h : p / opn n b < b
  · rw [Int.min_eq_left (by omega), max_small h]
    omega
  · rw [Int.min_eq_right (by omega), max_new]
    have h3 : b * opn n b ≤ p / opn n b * opn n b := Int.mul_le_mul_of_nonneg_right (by omega) (by omega)
    omega

theorem at_ok : ∀ (n : Nat) (b p : Int), 0 ≤ b → 0 ≤ p → p < opn n b → okFrom b (atFrom n b p) = true ∧ plcFrom b (atFrom n b p) = p := by
  intro n
  induction n with
  | zero => intro b p _ h0 h1; exact ⟨rfl, by have : p < 1 := h1; show (0 : Int) = p; omega⟩
  | succ n ih =>
    intro b p hb h0 h1
    obtain ⟨e1, e2, e3, e4⟩ := at_head n b p hb h0 h1
    have := ih (max b (min (p / opn n b) b + 1)) (p - min (p / opn n b) b * opn n b) (by omega) e3 e4
    simp only [atFrom]
    refine ⟨by rw [okFrom_step _ e1 e2]; exact this.1, ?_⟩
    simp only [plcFrom, atFrom_length]
    rw [this.2]
    omega

theorem at_plc : ∀ (xs : List Int) (b : Int), 0 ≤ b → okFrom b xs = true → atFrom xs.length b (plcFrom b xs) = xs := by
  intro xs
  induction xs with
  | nil => intro b _ _; rfl
  | cons x xs ih =>
    intro b hb h
    obtain ⟨h0, h1, h2⟩ := okFrom_head h
    have hp := plcFrom_bd xs (max b (x + 1)) (by omega) h2
    have ho := opn_pos xs.length b hb
    have hi := ih (max b (x + 1)) (by omega) h2
    have hx : min ((x * opn xs.length b + plcFrom (max b (x + 1)) xs) / opn xs.length b) b = x := by
      rw [Int.add_comm, Int.add_mul_ediv_right _ _ (by omega)]
      by_cases e : x = b
      · have : 0 ≤ plcFrom (max b (x + 1)) xs / opn xs.length b := Int.ediv_nonneg hp.1 (by omega)
        omega
      · have : plcFrom (max b (x + 1)) xs / opn xs.length b = 0 := Int.ediv_eq_zero_of_lt hp.1 (by rw [max_small (show x < b by omega)] at hp ⊢; exact hp.2)
        omega
    simp only [plcFrom, List.length_cons, atFrom]
    rw [hx, show x * opn xs.length b + plcFrom (max b (x + 1)) xs - x * opn xs.length b = plcFrom (max b (x + 1)) xs by omega, hi]

theorem plc_inj {xs ys : List Int} {b : Int} (hb : 0 ≤ b) (hx : okFrom b xs = true) (hy : okFrom b ys = true) (hl : xs.length = ys.length) (h : plcFrom b xs = plcFrom b ys) : xs = ys := by
  rw [← at_plc xs b hb hx, ← at_plc ys b hb hy, hl, h]

theorem sizeFrom_nonneg : ∀ (xs : List Int) (b : Int), b ≤ sizeFrom b xs := by
  intro xs
  induction xs with
  | nil => intro b; exact Int.le_refl _
  | cons x xs ih => intro b; have := ih (max b (x + 1)); show b ≤ sizeFrom (max b (x + 1)) xs; omega

theorem sizeFrom_app : ∀ (u v : List Int) (b : Int), sizeFrom b (u ++ v) = sizeFrom (sizeFrom b u) v := by
  intro u
  induction u with
  | nil => intro v b; rfl
  | cons x u ih => intro v b; show sizeFrom (max b (x + 1)) (u ++ v) = _; rw [ih]; rfl

theorem okFrom_app : ∀ (u v : List Int) (b : Int), okFrom b (u ++ v) = true ↔ okFrom b u = true ∧ okFrom (sizeFrom b u) v = true := by
  intro u
  induction u with
  | nil => intro v b; simp [okFrom, sizeFrom]
  | cons x u ih =>
    intro v b
    by_cases h : 0 ≤ x ∧ x ≤ b
    · rw [List.cons_append, okFrom_step _ h.1 h.2, okFrom_step _ h.1 h.2, ih]
      rfl
    · rw [List.cons_append, okFrom_no (by omega), okFrom_no (by omega)]
      simp

theorem plc_app : ∀ (u v v' : List Int) (b : Int), v.length = v'.length → plcFrom b (u ++ v') - plcFrom b (u ++ v) = plcFrom (sizeFrom b u) v' - plcFrom (sizeFrom b u) v := by
  intro u
  induction u with
  | nil => intro v v' b _; rfl
  | cons x u ih =>
    intro v v' b h
    have := ih v v' (max b (x + 1)) h
    simp only [List.cons_append, plcFrom, sizeFrom, List.length_append, h]
    omega

theorem plc_zeros : ∀ (m : Nat) (b : Int), plcFrom b (List.replicate m 0) = 0 := by
  intro m
  induction m with
  | zero => intro b; rfl
  | succ m ih => intro b; rw [List.replicate_succ, plcFrom, ih]; simp

theorem ok_zeros : ∀ (m : Nat) (b : Int), 0 ≤ b → okFrom b (List.replicate m 0) = true := by
  intro m
  induction m with
  | zero => intro b _; rfl
  | succ m ih => intro b hb; rw [List.replicate_succ, okFrom_step _ (by omega) hb]; exact ih _ (by omega)

theorem iota_succ (k : Int) (m : Nat) : iota k (m + 1) = k :: iota (k + 1) m := by
  apply List.ext_getElem
  · simp [iota]
  · intro j h1 h2
    cases j with
    | zero => simp [iota]
    | succ j => simp [iota]; omega

theorem plc_iota : ∀ (m : Nat) (b : Int), plcFrom b (iota b m) = opn m b - 1 := by
  intro m
  induction m with
  | zero => intro b; rfl
  | succ m ih =>
    intro b
    rw [iota_succ, plcFrom, max_new, ih, iota_length]
    show _ = b * opn m b + opn m (b + 1) - 1
    omega

theorem ok_iota : ∀ (m : Nat) (b : Int), 0 ≤ b → okFrom b (iota b m) = true := by
  intro m
  induction m with
  | zero => intro b _; rfl
  | succ m ih => intro b hb; rw [iota_succ, okFrom_new hb]; exact ih _ (by omega)

theorem next_step (u : List Int) (x : Int) (m : Nat) (h0 : 0 ≤ x) (hx : x < sizeFrom 0 u) (hu : okFrom 0 u = true) :
    okFrom 0 (u ++ (x + 1) :: List.replicate m 0) = true ∧ plcFrom 0 (u ++ (x + 1) :: List.replicate m 0) = plcFrom 0 (u ++ x :: iota (sizeFrom 0 u) m) + 1 := by
  have hs := sizeFrom_nonneg u 0
  refine ⟨?_, ?_⟩
  · rw [okFrom_app]
    refine ⟨hu, ?_⟩
    rw [okFrom_step _ (by omega) (by omega)]
    exact ok_zeros _ _ (by omega)
  · have h := plc_app u (x :: iota (sizeFrom 0 u) m) ((x + 1) :: List.replicate m 0) 0 (by simp [iota_length])
    simp only [plcFrom, plc_zeros, List.length_replicate, iota_length] at h
    rw [max_small hx, plc_iota, Int.add_mul, Int.one_mul] at h
    omega

def plc (xs : List Int) : Int := plcFrom 0 xs
def atL (n : Nat) (p : Int) : List Int := atFrom n 0 p

theorem atL_length (n : Nat) (p : Int) : (atL n p).length = n := atFrom_length _ _ _

theorem atL_plc {xs : List Int} (h : okFrom 0 xs = true) : atL xs.length (plc xs) = xs := at_plc xs 0 (by omega) h
theorem plc_atL (n : Nat) (p : Int) (h0 : 0 ≤ p) (h1 : p < opn n 0) : okFrom 0 (atL n p) = true ∧ plc (atL n p) = p := at_ok n 0 p (by omega) h0 h1
theorem plc_bd {xs : List Int} (h : okFrom 0 xs = true) : 0 ≤ plc xs ∧ plc xs < opn xs.length 0 := plcFrom_bd xs 0 (by omega) h

theorem atL_partIn (n : Nat) (p : Int) (hn : 1 ≤ n) (h8 : n ≤ 8) (h0 : 0 ≤ p) (h1 : p < opn n 0) : partIn (atL n p) = true := by
  have := (plc_atL n p h0 h1).1
  simp [partIn, atL_length, this, hn, h8]

theorem plc_last (n : Nat) : plc (iota 0 n) = opn n 0 - 1 := plc_iota n 0
theorem plc_first (n : Nat) : plc (List.replicate n 0) = 0 := plc_zeros n 0

theorem is_last {xs : List Int} (h : okFrom 0 xs = true) : xs = iota 0 xs.length ↔ plc xs = opn xs.length 0 - 1 := by
  refine ⟨fun e => by rw [e, iota_length]; exact plc_last _, fun e => ?_⟩
  refine plc_inj (b := 0) (by omega) h (ok_iota _ _ (by omega)) (by rw [iota_length]) ?_
  show plc xs = plc (iota 0 xs.length)
  rw [plc_last, e]

theorem next_at {xs ys : List Int} (hl : ys.length = xs.length) (ho : okFrom 0 ys = true) (h : plc ys = plc xs + 1) : ys = atL xs.length (plc xs + 1) := by
  rw [← h, ← hl, atL_plc ho]

theorem before_at {xs ys : List Int} (hl : ys.length = xs.length) (ho : okFrom 0 ys = true) (h : plc ys + 1 = plc xs) : ys = atL xs.length (plc xs - 1) := by
  rw [show plc xs - 1 = plc ys by omega, ← hl, atL_plc ho]

theorem at_ok_any : ∀ (n : Nat) (b p : Int), 0 ≤ b → 0 ≤ p → okFrom b (atFrom n b p) = true := by
  intro n
  induction n with
  | zero => intro b p _ _; rfl
  | succ n ih =>
    intro b p hb hp
    have ho := opn_pos n b hb
    have hd : 0 ≤ p / opn n b := Int.ediv_nonneg hp (by omega)
    have h1 : 0 ≤ min (p / opn n b) b := by omega
    have h3 : min (p / opn n b) b * opn n b ≤ p / opn n b * opn n b := Int.mul_le_mul_of_nonneg_right (by omega) (by omega)
    have h4 := Int.ediv_mul_le p (show opn n b ≠ 0 by omega)
    simp only [atFrom]
    rw [okFrom_step _ h1 (by omega)]
    exact ih _ _ (by omega) (by omega)

theorem atL_partIn_any (n p : Nat) (hn : 1 ≤ n) (h8 : n ≤ 8) : partIn (atL n (p : Int)) = true := by
  have := at_ok_any n 0 (p : Int) (by omega) (by omega)
  simp only [partIn, atL_length, Bool.and_eq_true, decide_eq_true_eq]
  exact ⟨⟨hn, h8⟩, this⟩

theorem split_at (xs : List Int) (t : Nat) (h : t < xs.length) : xs = xs.take t ++ xs.getD t 0 :: xs.drop (t + 1) := by
  rw [← drop_cons xs t h, List.take_append_drop]

theorem take_snocI (xs : List Int) (t : Nat) (h : t < xs.length) : xs.take (t + 1) = xs.take t ++ [xs.getD t 0] := by
  rw [List.take_succ_eq_append_getElem h]
  simp [List.getD, h]

theorem okFrom_take {xs : List Int} {b : Int} (h : okFrom b xs = true) (t : Nat) : okFrom b (xs.take t) = true := by
  have := (okFrom_app (xs.take t) (xs.drop t) b).1 (by rw [List.take_append_drop]; exact h)
  exact this.1

theorem okFrom_at {xs : List Int} (h : okFrom 0 xs = true) (t : Nat) (ht : t < xs.length) : 0 ≤ xs.getD t 0 ∧ xs.getD t 0 ≤ sizeFrom 0 (xs.take t) := by
  have h1 : okFrom 0 (xs.take t ++ xs.getD t 0 :: xs.drop (t + 1)) = true := by rw [← split_at xs t ht]; exact h
  have := okFrom_head ((okFrom_app _ _ _).1 h1).2
  exact ⟨this.1, this.2.1⟩

theorem sizeFrom_snoc (u : List Int) (x b : Int) : sizeFrom b (u ++ [x]) = max (sizeFrom b u) (x + 1) := by
  rw [sizeFrom_app]; rfl

theorem size_le_len : ∀ (xs : List Int) (b : Int), 0 ≤ b → okFrom b xs = true → sizeFrom b xs ≤ b + xs.length := by
  intro xs
  induction xs with
  | nil => intro b _ _; show b ≤ _; simp
  | cons x xs ih =>
    intro b hb h
    obtain ⟨h0, h1, h2⟩ := okFrom_head h
    have := ih (max b (x + 1)) (by omega) h2
    show sizeFrom (max b (x + 1)) xs ≤ _
    simp only [List.length_cons]
    omega

theorem next_found {xs : List Int} (h : okFrom 0 xs = true) (t : Nat) (ht : t < xs.length) (hd : xs.drop (t + 1) = iota (sizeFrom 0 (xs.take (t + 1))) (xs.length - (t + 1))) (hne : xs.getD t 0 ≠ sizeFrom 0 (xs.take t)) :
    okFrom 0 (xs.take t ++ (xs.getD t 0 + 1) :: List.replicate (xs.length - (t + 1)) 0) = true ∧ xs.take t ++ (xs.getD t 0 + 1) :: List.replicate (xs.length - (t + 1)) 0 = atL xs.length (plc xs + 1) ∧ plc xs + 1 < opn xs.length 0 := by
  have ha := okFrom_at h t ht
  have hs := next_step (xs.take t) (xs.getD t 0) (xs.length - (t + 1)) ha.1 (by omega) (okFrom_take h t)
  have he : xs.take t ++ xs.getD t 0 :: iota (sizeFrom 0 (xs.take t)) (xs.length - (t + 1)) = xs := by
    have hz : sizeFrom 0 (xs.take (t + 1)) = sizeFrom 0 (xs.take t) := by rw [take_snocI xs t ht, sizeFrom_snoc, max_small (by omega)]
    rw [← hz, ← hd, ← split_at xs t ht]
  rw [he] at hs
  have hl : (xs.take t ++ (xs.getD t 0 + 1) :: List.replicate (xs.length - (t + 1)) 0).length = xs.length := by simp; omega
  have hb := plc_bd hs.1
  have hp : plc (xs.take t ++ (xs.getD t 0 + 1) :: List.replicate (xs.length - (t + 1)) 0) = plc xs + 1 := hs.2
  refine ⟨hs.1, next_at hl hs.1 hs.2, ?_⟩
  rw [hl, hp] at hb
  exact hb.2

theorem next_more {xs : List Int} (t : Nat) (ht : t < xs.length) (hd : xs.drop (t + 1) = iota (sizeFrom 0 (xs.take (t + 1))) (xs.length - (t + 1))) (he : xs.getD t 0 = sizeFrom 0 (xs.take t)) :
    xs.drop t = iota (sizeFrom 0 (xs.take t)) (xs.length - t) := by
  rw [drop_cons xs t ht, hd, take_snocI xs t ht, sizeFrom_snoc, he, max_new, show xs.length - t = xs.length - (t + 1) + 1 by omega, iota_succ]

end Go.Proofs.YtfiaiephbemdoaaDoor
