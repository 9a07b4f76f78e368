/-
  What the laws of this claim lean on: what functions of the program and of the model answer, one after another, and plain mathematics. No condition.
-/
import Derived.Test.YtfiaiephbemdoaaMgF
import Derived.Test.YtfiaiephbemdoaaMgH
import Derived.Test.YtfiaiephbemdoaaMgI
import Derived.Laws.MakeOwn
import Derived.Conc.AppendWalk
import Derived.Conc.SmallLaws
import Derived.Conc.LeavingOf
import Derived.Conc.FxBegin
import Derived.RunNT
import Derived.DuoClaim

set_option maxHeartbeats 800000
set_option linter.unusedVariables false
set_option linter.unusedSimpArgs false
set_option linter.unnecessarySimpa false
set_option maxRecDepth 100000

namespace Go.Proofs.Ytfiaiephbemdoaa

section
open Go.Conc Go.RowKit Go.Conc.Lib Go.ConcR.Gen Go.ConcN.Gen
open Go.ConcN (WgLive)
open Go.ConcR (KK WgAt stA smA rd wr mk DC0)

theorem list_cons_of {l : List Value} {k : Nat} (h : l.length = k + 1) : ∃ v l', l = v :: l' ∧ l'.length = k := by
  cases l with
  | nil => simp at h
  | cons v l' => exact ⟨v, l', rfl, by simpa using h⟩
theorem arr60 (T : Array Value) (h : T.size = 60) : ∃ v0 v1 v2 v3 v4 v5 v6 v7 v8 v9 v10 v11 v12 v13 v14 v15 v16 v17 v18 v19 v20 v21 v22 v23 v24 v25 v26 v27 v28 v29 v30 v31 v32 v33 v34 v35 v36 v37 v38 v39 v40 v41 v42 v43 v44 v45 v46 v47 v48 v49 v50 v51 v52 v53 v54 v55 v56 v57 v58 v59, T = #[v0, v1, v2, v3, v4, v5, v6, v7, v8, v9, v10, v11, v12, v13, v14, v15, v16, v17, v18, v19, v20, v21, v22, v23, v24, v25, v26, v27, v28, v29, v30, v31, v32, v33, v34, v35, v36, v37, v38, v39, v40, v41, v42, v43, v44, v45, v46, v47, v48, v49, v50, v51, v52, v53, v54, v55, v56, v57, v58, v59] := by
  obtain ⟨l⟩ := T
  simp only [List.size_toArray] at h
  obtain ⟨v0, l0, rfl, h0⟩ := list_cons_of h
  obtain ⟨v1, l1, rfl, h1⟩ := list_cons_of h0
  obtain ⟨v2, l2, rfl, h2⟩ := list_cons_of h1
  obtain ⟨v3, l3, rfl, h3⟩ := list_cons_of h2
  obtain ⟨v4, l4, rfl, h4⟩ := list_cons_of h3
  obtain ⟨v5, l5, rfl, h5⟩ := list_cons_of h4
  obtain ⟨v6, l6, rfl, h6⟩ := list_cons_of h5
  obtain ⟨v7, l7, rfl, h7⟩ := list_cons_of h6
  obtain ⟨v8, l8, rfl, h8⟩ := list_cons_of h7
  obtain ⟨v9, l9, rfl, h9⟩ := list_cons_of h8
  obtain ⟨v10, l10, rfl, h10⟩ := list_cons_of h9
  obtain ⟨v11, l11, rfl, h11⟩ := list_cons_of h10
  obtain ⟨v12, l12, rfl, h12⟩ := list_cons_of h11
  obtain ⟨v13, l13, rfl, h13⟩ := list_cons_of h12
  obtain ⟨v14, l14, rfl, h14⟩ := list_cons_of h13
  obtain ⟨v15, l15, rfl, h15⟩ := list_cons_of h14
  obtain ⟨v16, l16, rfl, h16⟩ := list_cons_of h15
  obtain ⟨v17, l17, rfl, h17⟩ := list_cons_of h16
  obtain ⟨v18, l18, rfl, h18⟩ := list_cons_of h17
  obtain ⟨v19, l19, rfl, h19⟩ := list_cons_of h18
  obtain ⟨v20, l20, rfl, h20⟩ := list_cons_of h19
  obtain ⟨v21, l21, rfl, h21⟩ := list_cons_of h20
  obtain ⟨v22, l22, rfl, h22⟩ := list_cons_of h21
  obtain ⟨v23, l23, rfl, h23⟩ := list_cons_of h22
  obtain ⟨v24, l24, rfl, h24⟩ := list_cons_of h23
  obtain ⟨v25, l25, rfl, h25⟩ := list_cons_of h24
  obtain ⟨v26, l26, rfl, h26⟩ := list_cons_of h25
  obtain ⟨v27, l27, rfl, h27⟩ := list_cons_of h26
  obtain ⟨v28, l28, rfl, h28⟩ := list_cons_of h27
  obtain ⟨v29, l29, rfl, h29⟩ := list_cons_of h28
  obtain ⟨v30, l30, rfl, h30⟩ := list_cons_of h29
  obtain ⟨v31, l31, rfl, h31⟩ := list_cons_of h30
  obtain ⟨v32, l32, rfl, h32⟩ := list_cons_of h31
  obtain ⟨v33, l33, rfl, h33⟩ := list_cons_of h32
  obtain ⟨v34, l34, rfl, h34⟩ := list_cons_of h33
  obtain ⟨v35, l35, rfl, h35⟩ := list_cons_of h34
  obtain ⟨v36, l36, rfl, h36⟩ := list_cons_of h35
  obtain ⟨v37, l37, rfl, h37⟩ := list_cons_of h36
  obtain ⟨v38, l38, rfl, h38⟩ := list_cons_of h37
  obtain ⟨v39, l39, rfl, h39⟩ := list_cons_of h38
  obtain ⟨v40, l40, rfl, h40⟩ := list_cons_of h39
  obtain ⟨v41, l41, rfl, h41⟩ := list_cons_of h40
  obtain ⟨v42, l42, rfl, h42⟩ := list_cons_of h41
  obtain ⟨v43, l43, rfl, h43⟩ := list_cons_of h42
  obtain ⟨v44, l44, rfl, h44⟩ := list_cons_of h43
  obtain ⟨v45, l45, rfl, h45⟩ := list_cons_of h44
  obtain ⟨v46, l46, rfl, h46⟩ := list_cons_of h45
  obtain ⟨v47, l47, rfl, h47⟩ := list_cons_of h46
  obtain ⟨v48, l48, rfl, h48⟩ := list_cons_of h47
  obtain ⟨v49, l49, rfl, h49⟩ := list_cons_of h48
  obtain ⟨v50, l50, rfl, h50⟩ := list_cons_of h49
  obtain ⟨v51, l51, rfl, h51⟩ := list_cons_of h50
  obtain ⟨v52, l52, rfl, h52⟩ := list_cons_of h51
  obtain ⟨v53, l53, rfl, h53⟩ := list_cons_of h52
  obtain ⟨v54, l54, rfl, h54⟩ := list_cons_of h53
  obtain ⟨v55, l55, rfl, h55⟩ := list_cons_of h54
  obtain ⟨v56, l56, rfl, h56⟩ := list_cons_of h55
  obtain ⟨v57, l57, rfl, h57⟩ := list_cons_of h56
  obtain ⟨v58, l58, rfl, h58⟩ := list_cons_of h57
  obtain ⟨v59, l59, rfl, h59⟩ := list_cons_of h58
  obtain rfl := List.length_eq_zero_iff.1 h59
  exact ⟨_, _, _, _, _, _, _, _, _, _, _, _, _, _, _, _, _, _, _, _, _, _, _, _, _, _, _, _, _, _, _, _, _, _, _, _, _, _, _, _, _, _, _, _, _, _, _, _, _, _, _, _, _, _, _, _, _, _, _, _, rfl⟩

def mainL (fn : Func) : Code := match codeW fn with | .seq _ (.seq _ (.seq _ (.seq (.seq _ (.block _ (.loop c))) _))) => c | _ => .skip
def mainA (fn : Func) : Code := match codeW fn with | .seq _ (.seq _ (.seq _ (.seq _ y))) => y | _ => .skip
def mainM (fn : Func) : Code := match codeW fn with | .seq _ (.seq _ (.seq _ (.seq _ (.seq _ (.seq (.seq _ (.block _ (.loop c))) _))))) => c | _ => .skip
def mainB (fn : Func) : Code := match codeW fn with | .seq _ (.seq _ (.seq _ (.seq _ (.seq _ (.seq _ y))))) => y | _ => .skip
def mainI (fn : Func) : Code := match mainM fn with | .seq _ (.seq _ (.seq (.block _ (.seq _ (.seq _ (.seq _ (.block _ (.loop c)))))) _)) => c | _ => .skip
def mainR (fn : Func) : Code := match mainM fn with | .seq _ (.seq _ (.seq _ y)) => y | _ => .skip
def opsWt (fn : Func) : Array Oper := match mainB fn with | .seq (.region _ o _) _ => o | _ => #[]
def mainE (fn : Func) : Code := match mainB fn with | .seq _ y => y | _ => .skip

def frM (fr : Frame) (cs : List Frame) (T : Array Value) (todo : List Item) : Goroutine := G ((base 54).at ⟨T, []⟩ todo) (fr :: cs)
def headS (fn : Func) : List Item := [.code (mainL fn), .inLoop (mainL fn), .inBlock 0, .code (mainA fn)]
def headR (fn : Func) : List Item := [.code (mainM fn), .inLoop (mainM fn), .inBlock 2, .code (mainB fn)]
def headI (fn : Func) : List Item := [.code (mainI fn), .inLoop (mainI fn), .inBlock 4, .inBlock 3, .code (mainR fn), .inLoop (mainM fn), .inBlock 2, .code (mainB fn)]
def waitFr (fn : Func) (T : Array Value) : Frame := (base 54).at ⟨T, []⟩ [.inRegion (opsWt fn) [0], .code (mainE fn)]

structure TS (N n : Nat) (views : Value) (j : Nat) (T : Array Value) : Prop where
  sz : T.size = 60
  t4 : T[4]? = some (.pointer (some ⟨N, 0, none⟩))
  t5 : T[5]? = some (.pointer (some ⟨N + 1, 0, none⟩))
  t7 : T[7]? = some (.slice (some ⟨N + 2, 0, none⟩) n n)
  t8 : T[8]? = some (.pointer (some ⟨N + 3, 0, none⟩))
  t20 : T[20]? = some views
  t21 : T[21]? = some (.int .i64 n)
  t22 : T[22]? = some (.int .i64 j)
structure TR (N n q c : Nat) (T : Array Value) : Prop where
  sz : T.size = 60
  t8 : T[8]? = some (.pointer (some ⟨N + 3, 0, none⟩))
  t12 : T[12]? = some (.slice (some ⟨N + 4 + 3 * n, 0, none⟩) q q)
  t38 : T[38]? = some (.slice (some ⟨N + 2, 0, none⟩) n n)
  t39 : T[39]? = some (.int .i64 n)
  t40 : T[40]? = some (.int .i64 c)
structure TI (N n q c l : Nat) (T : Array Value) : Prop where
  r : TR N n q c T
  t15 : T[15]? = some (.int .i64 l)
  t44 : T[44]? = some (.chan (some (N + 5 + 3 * c)))
structure TW (N n q : Nat) (T : Array Value) : Prop where
  sz : T.size = 60
  t8 : T[8]? = some (.pointer (some ⟨N + 3, 0, none⟩))
  t12 : T[12]? = some (.slice (some ⟨N + 4 + 3 * n, 0, none⟩) q q)

theorem info_int : (Try.prog.info? 3).map (fun i => (i.zero, i.size, i.bytes)) = some (some (.int .i64 0), 1, 8) := by kernel_rfl

def AtRvA (Φ : Ph) : Nat → Goroutine → World → Prop
  | 0 => AtKd Φ
  | c + 1 => AtRv Φ (RvAll Φ c) (Φ.n - (c + 1)) Φ.q
theorem rvIn_iff {Φ : Ph} {After : Goroutine → World → Prop} {i l : Nat} {g : Goroutine} {w : World} : RvIn Φ After i l g w ↔ ∃ m, Goes Φ.P true (RM Φ Φ.n) (DM Φ Φ.n) (AtRv Φ After i l) m g w := by cases l <;> exact Iff.rfl
theorem rvAll_iff {Φ : Ph} {c : Nat} {g : Goroutine} {w : World} : RvAll Φ c g w ↔ ∃ m, Goes Φ.P true (RM Φ Φ.n) (DM Φ Φ.n) (AtRvA Φ c) m g w := by
  cases c with
  | zero => exact Iff.rfl
  | succ c => exact rvIn_iff
def AtSp (Φ : Ph) : Nat → Goroutine → World → Prop
  | 0 => AtRvA Φ Φ.n
  | r + 1 => AtKdS Φ (Φ.n - (r + 1)) (Spawns Φ r)
theorem spawns_iff {Φ : Ph} {r : Nat} {g : Goroutine} {w : World} : Spawns Φ r g w ↔ ∃ m, Goes Φ.P true (RM Φ (Φ.n - r)) (DM Φ (Φ.n - r)) (AtSp Φ r) m g w := by
  cases r with
  | zero => rw [Nat.sub_zero]; exact rvAll_iff
  | succ r => exact Iff.rfl

theorem goes_dc {Φ : Ph} {i j : Nat} {S : Goroutine → World → Prop} : ∀ (m : Nat) {g : Goroutine} {w : World}, Goes Φ.P true (RM Φ i) DC0 S m g w → Goes Φ.P true (RM Φ i) (DM Φ j) S m g w
  | 0, g, w, h => h
  | m + 1, g, w, h => by
    rcases h with h | ⟨hr, h⟩
    · exact .inl h
    · refine .inr ⟨hr, fun w₁ h₁ => ?_⟩
      obtain ⟨g', w', es, e, ⟨rfl, rfl⟩, hn⟩ := goes_elim (h w₁ h₁)
      rw [e]
      exact ⟨dm_nil, goes_dc m hn⟩

section
variable {N n q m0 : Nat} {W0 : World} {ans : Nat → Nat → Value} {H : Nat → Prop} {Anch Fin : Goroutine → World → Prop} {avs : Nat → Nat → Int} {fr : Frame} {cs : List Frame}

set_option maxRecDepth 100000 in
set_option maxHeartbeats 4000000 in
theorem fin_m (hfin : ∀ w, MF W0 N n q avs n 0 w → Fin (G (fr.finish (.slice (some ⟨N + 4 + 3 * n, 0, none⟩) q q)) cs) w) : ∃ m, ∀ (T : Array Value), TW N n q T → ∀ w, MF W0 N n q avs n 0 w →
    Goes Try.prog true (RM (phT Try.prog N n q m0 W0 ans H Anch Fin) n) (DM (phT Try.prog N n q m0 W0 ans H Anch Fin) n) Fin m (G ((base 54).at (Act.put ⟨T, []⟩ (some 58) (.tuple #[])) (.inRegion (opsWt Try.f54) [] :: [.code (mainE Try.f54)])) (fr :: cs)) w := by
  have hE : mainE Try.f54 = _ := rfl
  conv at hE => rhs; whnf
  have TT := termsM (phT Try.prog N n q m0 W0 ans H Anch Fin) n n
  co_apply Exists.intro
  intro T hT w hF
  obtain ⟨v0, v1, v2, v3, v4, v5, v6, v7, v8, v9, v10, v11, v12, v13, v14, v15, v16, v17, v18, v19, v20, v21, v22, v23, v24, v25, v26, v27, v28, v29, v30, v31, v32, v33, v34, v35, v36, v37, v38, v39, v40, v41, v42, v43, v44, v45, v46, v47, v48, v49, v50, v51, v52, v53, v54, v55, v56, v57, v58, v59, rfl⟩ := arr60 T hT.sz
  have e8 := hT.t8
  have e12 := hT.t12
  simp only [List.getElem?_toArray, List.getElem?_cons_succ, List.getElem?_cons_zero, Option.some.injEq] at e8 e12
  subst e8 e12
  simp only [hE]
  walk_nrm
  co_apply (gs_region_end TT)
  co_apply (gs_seq TT)
  co_apply (gs_code (by decide))
  co_reg TT
  co_op MF.rely hF (co_quiet TT)
  co_op MF.rely hF (co_quiet TT)
  co_apply opsC_nil TT
  refine ⟨rfl, ?_⟩
  refine gs_step (m := 0 + 1) TT rfl (fun _ => stepG_ret') ?_
  refine gs_step TT rfl (fun w => stepG_leave (v := .slice (some ⟨N + 4 + 3 * n, 0, none⟩) q q) rfl rfl Try.func54 ?_ ?_) ?_
  · exact results_tmp (t := 6) rfl _ _ _
  · exact events_results_tmp (t := 6) rfl _ _
  · exact Goes.stop fun w₁ h₁ => hfin _ (hF.rely h₁)

theorem served_m {T : Array Value} {b : Frame} {ops : Array Oper} {i : Nat} {rest : List Nat} {o : Oper} {k : List Item} {v : Value} (h : ops[i]? = some o) : Go.Conc.served (core (G (b.at ⟨T, []⟩ (.inRegion ops (i :: rest) :: k)) cs)) v = G (b.at (Act.put ⟨T, []⟩ o.dst v) (.inRegion ops rest :: k)) cs := by
  simp only [Go.Conc.served, core, G]
  rw [Frame.finish_at, h]
  rfl

set_option maxRecDepth 100000 in
set_option maxHeartbeats 8000000 in
theorem inner_m (hH : ∀ b, H b → b < N) (hans : ∀ c l, c < n → l < q → ans c l = .int .i64 (avs c l)) (hsum : ∀ c l x, c < n → l ≤ q → x < q → 0 ≤ sumC avs c l x ∧ sumC avs c l x ≤ 1000000) (hq : q < 2147483648) (hn : n < 2147483648) {c i : Nat} (hc : c < n) (hi : n - (c + 1) = i) {mO : Nat}
    (hO : ∀ T, TR N n q (i + 1) T → ∀ w, MF W0 N n q avs (i + 1) 0 w → Goes Try.prog true (RM (phT Try.prog N n q m0 W0 ans H Anch Fin) n) (DM (phT Try.prog N n q m0 W0 ans H Anch Fin) n) (AtRvA (phT Try.prog N n q m0 W0 ans H Anch Fin) c) mO (frM fr cs T (headR Try.f54)) w) :
    ∀ l, l ≤ q → ∃ m, ∀ T, TI N n q i (q - l) T → ∀ w, MF W0 N n q avs i (q - l) w → Goes Try.prog true (RM (phT Try.prog N n q m0 W0 ans H Anch Fin) n) (DM (phT Try.prog N n q m0 W0 ans H Anch Fin) n) (AtRv (phT Try.prog N n q m0 W0 ans H Anch Fin) (RvAll (phT Try.prog N n q m0 W0 ans H Anch Fin) c) i l) m (frM fr cs T (headI Try.f54)) w := by
  have TT := termsM (phT Try.prog N n q m0 W0 ans H Anch Fin) n n
  have hI : mainI Try.f54 = _ := rfl
  conv at hI => rhs; whnf
  have hR : mainR Try.f54 = _ := rfl
  conv at hR => rhs; whnf
  intro l
  induction l with
  | zero =>
    intro _
    co_apply Exists.intro
    intro T hT w hF
    rw [Nat.sub_zero] at hT hF
    obtain ⟨v0, v1, v2, v3, v4, v5, v6, v7, v8, v9, v10, v11, v12, v13, v14, v15, v16, v17, v18, v19, v20, v21, v22, v23, v24, v25, v26, v27, v28, v29, v30, v31, v32, v33, v34, v35, v36, v37, v38, v39, v40, v41, v42, v43, v44, v45, v46, v47, v48, v49, v50, v51, v52, v53, v54, v55, v56, v57, v58, v59, rfl⟩ := arr60 T hT.r.sz
    have e15 := hT.t15
    have e44 := hT.t44
    have e8 := hT.r.t8
    have e12 := hT.r.t12
    have e38 := hT.r.t38
    have e39 := hT.r.t39
    have e40 := hT.r.t40
    simp only [List.getElem?_toArray, List.getElem?_cons_succ, List.getElem?_cons_zero, Option.some.injEq] at e15 e44 e8 e12 e38 e39 e40
    subst e15 e44 e8 e12 e38 e39 e40
    simp only [frM, headI, hI]
    co_apply (gs_seq TT)
    co_apply (gs_region TT)
    simp only [List.size_toArray, List.length_cons, List.length_nil, Nat.reduceAdd, Nat.zero_add, List.range, List.range.loop]
    refine Goes.stop (n := 0) fun w₁ h₁ => ?_
    replace hF := hF.rely h₁
    clear h₁
    refine ⟨rfl, .int .i64 0, _, stepG_comm (w' := w₁) rfl rfl (by decide) ?_, fun e he => ?_, fun w₂ h₂ => ?_⟩
    · simp [execOp, rcase, Act.eval, go_sem]
    · have hm := mem_listed he
      simp [go_sem] at hm
    replace hF := hF.rely h₂
    clear h₂
    rw [served_m (o := _) rfl]
    rw [rvAll_iff]
    co_apply Exists.intro
    walk_nrm
    co_apply (gs_ops (by decide))
    co_op MF.rely hF (co_quiet TT)
    co_apply opsC_nil TT
    refine ⟨rfl, ?_⟩
    co_apply (gs_seq TT)
    co_apply (gs_false TT rfl)
    co_apply (gs_exit TT rfl)
    co_apply (gs_inBlock TT)
    simp only [hR]
    co_apply (gs_code (by decide))
    co_reg TT
    have e1 : IntKind.i64.wrap ((i : Int) + 1) = ((i + 1 : Nat) : Int) := by rw [IntKind.wrap_i64]; omega
    co_op MF.rely hF (co_quiet TT)
    co_op MF.rely hF (co_quiet TT)
    co_apply opsC_nil TT
    refine ⟨rfl, ?_⟩
    co_apply (gs_inLoop TT)
    exact hO _ ⟨by simp, by simp, by simp, by simp, by simp, by simp⟩ _ hF.turn
  | succ l ih =>
    intro hl
    obtain ⟨m, ih⟩ := ih (by omega)
    obtain ⟨d, hd⟩ : ∃ d, q - (l + 1) = d := ⟨_, rfl⟩
    have hd1 : q - l = d + 1 := by omega
    rw [hd1] at ih
    rw [hd]
    have hdq : d < q := by omega
    have hin : i < n := by omega
    co_apply Exists.intro
    intro T hT w hF
    obtain ⟨v0, v1, v2, v3, v4, v5, v6, v7, v8, v9, v10, v11, v12, v13, v14, v15, v16, v17, v18, v19, v20, v21, v22, v23, v24, v25, v26, v27, v28, v29, v30, v31, v32, v33, v34, v35, v36, v37, v38, v39, v40, v41, v42, v43, v44, v45, v46, v47, v48, v49, v50, v51, v52, v53, v54, v55, v56, v57, v58, v59, rfl⟩ := arr60 T hT.r.sz
    have e15 := hT.t15
    have e44 := hT.t44
    have e8 := hT.r.t8
    have e12 := hT.r.t12
    have e38 := hT.r.t38
    have e39 := hT.r.t39
    have e40 := hT.r.t40
    simp only [List.getElem?_toArray, List.getElem?_cons_succ, List.getElem?_cons_zero, Option.some.injEq] at e15 e44 e8 e12 e38 e39 e40
    subst e15 e44 e8 e12 e38 e39 e40
    simp only [frM, headI, hI]
    co_apply (gs_seq TT)
    co_apply (gs_region TT)
    simp only [List.size_toArray, List.length_cons, List.length_nil, Nat.reduceAdd, Nat.zero_add, List.range, List.range.loop]
    refine Goes.stop (n := 0) fun w₁ h₁ => ?_
    replace hF := hF.rely h₁
    clear h₁
    refine ⟨rfl, .int .i64 0, _, stepG_comm (w' := w₁) rfl rfl (by decide) ?_, fun e he => ?_, fun w₂ h₂ => ?_⟩
    · simp [execOp, rcase, Act.eval, go_sem]
    · have hm := mem_listed he
      simp [go_sem] at hm
    replace hF := hF.rely h₂
    clear h₂
    have hv : (phT Try.prog N n q m0 W0 ans H Anch Fin).ans i ((phT Try.prog N n q m0 W0 ans H Anch Fin).q - (l + 1)) = .int .i64 (avs i d) := by show ans i (q - (l + 1)) = _; rw [hd]; exact hans i d hin hdq
    rw [hv]
    clear hv
    rw [served_m (o := _) rfl]
    rw [rvIn_iff]
    co_apply Exists.intro
    walk_nrm
    co_apply (gs_ops (by decide))
    co_op MF.rely hF (co_quiet TT)
    co_apply opsC_nil TT
    refine ⟨rfl, ?_⟩
    co_apply (gs_seq TT)
    co_apply (gs_true TT rfl)
    co_apply (gs_skip TT)
    co_apply (gs_block TT)
    co_apply (gs_seq TT)
    co_apply (gs_code (by decide))
    co_reg TT
    co_op MF.rely hF (co_quiet TT)
    co_op MF.rely hF (co_quiet TT)
    co_apply opsC_nil TT
    refine ⟨rfl, ?_⟩
    co_apply (gs_seq TT)
    co_apply (gs_code (by decide))
    co_reg TT
    have hs1 := hsum i d d hin (by omega) hdq
    have hs2 : 0 ≤ sumC avs i d d + avs i d ∧ sumC avs i d d + avs i d ≤ 1000000 := by
      have := hsum i (d + 1) d hin (by omega) hdq
      simpa [sumC] using this
    have ew : IntKind.i64.wrap (sumC avs i d d + avs i d) = sumC avs i d d + avs i d := by rw [IntKind.wrap_i64]; omega
    have yd : (0 : Int) ≤ d ∧ (d : Int) < q := ⟨by omega, by omega⟩
    co_op MF.rely hF (co_quiet TT)
    co_op MF.rely hF (co_quiet TT)
    co_opw MF.rely hF (skip) (co_still TT)
    co_opw MF.rely hF (obtain ⟨ys, hy1, hy2, hy3⟩ := hF.sums; have hc := cell_in hy1 (hy3 d hdq)) (refine dm_read ?_; co_evs (exact ev_rdT hH (.inr ⟨by omega, by omega⟩) (Array.getElem?_eq_some_iff.1 hy1).1))
    clear hc hy1 hy2 hy3
    co_op MF.rely hF (co_quiet TT)
    co_opw MF.rely hF (skip) (co_still TT)
    co_opw MF.rely hF (skip) (co_still TT)
    co_opw MF.rely hF (obtain ⟨ys, hy1, hy2, hy3⟩ := hF.sums; have hc := cell_in hy1 (hy3 d hdq); have hz := thaw_in (i := d) hy1) (refine dm_set (.inr (by simp only; omega)) ?_; co_evs (exact ev_wrT hH (.inr (by omega)) (Array.getElem?_eq_some_iff.1 hy1).1))
    replace hF := hF.add hdq rfl
    clear hc hz hy1 hy2 hy3
    co_apply opsC_nil TT
    refine ⟨rfl, ?_⟩
    co_apply (gs_code (by decide))
    co_reg TT
    have e1 : IntKind.i64.wrap ((d : Int) + 1) = ((d + 1 : Nat) : Int) := by rw [IntKind.wrap_i64]; omega
    co_op MF.rely hF (co_quiet TT)
    co_op MF.rely hF (co_quiet TT)
    co_op MF.rely hF (co_quiet TT)
    co_apply opsC_nil TT
    refine ⟨rfl, ?_⟩
    co_apply (gs_inBlock TT)
    co_apply (gs_inLoop TT)
    exact ih _ ⟨⟨by simp, by simp, by simp, by simp, by simp, by simp⟩, by simp, by simp⟩ _ hF

end
end

section
open Go.Conc Go.RowKit Go.Conc.Lib Go.ConcR.Gen Go.ConcN.Gen
open Go.ConcN (WgLive)
open Go.ConcR (KK WgAt stA smA rd wr mk DC0)
section
variable {N n q m0 : Nat} {W0 : World} {ans : Nat → Nat → Value} {H : Nat → Prop} {Anch Fin : Goroutine → World → Prop} {avs : Nat → Nat → Int} {fr : Frame} {cs : List Frame}

set_option maxRecDepth 100000 in
set_option maxHeartbeats 8000000 in
theorem recv_m (hH : ∀ b, H b → b < N) (hans : ∀ c l, c < n → l < q → ans c l = .int .i64 (avs c l)) (hsum : ∀ c l x, c < n → l ≤ q → x < q → 0 ≤ sumC avs c l x ∧ sumC avs c l x ≤ 1000000) (hq : q < 2147483648) (hn : n < 2147483648)
    (hA : ∀ T, TW N n q T → ∀ g w, AnchT (phT Try.prog N n q m0 W0 ans H Anch Fin) link (MF W0 N n q avs n 0) (waitFr Try.f54 T) (fr :: cs) g w → Anch g w) :
    ∀ c, c ≤ n → ∃ m, ∀ T, TR N n q (n - c) T → ∀ w, MF W0 N n q avs (n - c) 0 w → Goes Try.prog true (RM (phT Try.prog N n q m0 W0 ans H Anch Fin) n) (DM (phT Try.prog N n q m0 W0 ans H Anch Fin) n) (AtRvA (phT Try.prog N n q m0 W0 ans H Anch Fin) c) m (frM fr cs T (headR Try.f54)) w := by
  have TT := termsM (phT Try.prog N n q m0 W0 ans H Anch Fin) n n
  have hM : mainM Try.f54 = _ := rfl
  conv at hM => rhs; whnf
  have hI : mainI Try.f54 = _ := rfl
  conv at hI => rhs; whnf
  have hB : mainB Try.f54 = _ := rfl
  conv at hB => rhs; whnf
  intro c
  induction c with
  | zero =>
    intro _
    rw [Nat.sub_zero]
    co_apply Exists.intro
    intro T hT w hF
    obtain ⟨v0, v1, v2, v3, v4, v5, v6, v7, v8, v9, v10, v11, v12, v13, v14, v15, v16, v17, v18, v19, v20, v21, v22, v23, v24, v25, v26, v27, v28, v29, v30, v31, v32, v33, v34, v35, v36, v37, v38, v39, v40, v41, v42, v43, v44, v45, v46, v47, v48, v49, v50, v51, v52, v53, v54, v55, v56, v57, v58, v59, rfl⟩ := arr60 T hT.sz
    have e8 := hT.t8
    have e12 := hT.t12
    have e38 := hT.t38
    have e39 := hT.t39
    have e40 := hT.t40
    simp only [List.getElem?_toArray, List.getElem?_cons_succ, List.getElem?_cons_zero, Option.some.injEq] at e8 e12 e38 e39 e40
    subst e8 e12 e38 e39 e40
    simp only [frM, headR, hM]
    co_apply (gs_seq TT)
    co_apply (gs_code (by decide))
    co_reg TT
    co_op MF.rely hF (co_quiet TT)
    co_apply opsC_nil TT
    refine ⟨rfl, ?_⟩
    co_apply (gs_seq TT)
    co_apply (gs_false TT (by simp [Act.eval]))
    co_apply (gs_exit TT rfl)
    simp only [hB]
    co_apply (gs_seq TT)
    co_apply (gs_region TT)
    simp only [List.size_toArray, List.length_cons, List.length_nil, Nat.reduceAdd, Nat.zero_add, List.range, List.range.loop]
    co_apply Goes.step
    focus (exact rfl)
    intro w₁ h₁
    replace hF := hF.rely h₁
    clear h₁
    refine goes_call rfl rfl (by decide) rfl Try.func75 (nm_wait link) rfl ⟨dm_nil, ?_⟩
    walk_nrmf Try.f75
    co_apply (goes_dc (Φ := (phT Try.prog N n q m0 W0 ans H Anch Fin)))
    co_apply (wait_t (Φ := (phT Try.prog N n q m0 W0 ans H Anch Fin)) (L := link) (F := MF W0 N n q avs n 0) (b₀ := base 54) wgLib rfl ?hA (fun _ _ r h => MF.rely h r) _ ⟨hF, hF.live⟩)
    case hA =>
      intro g w h
      refine hA _ ?_ g w h
      exact ⟨by simp, by simp, by simp⟩
  | succ c ih =>
    intro hc
    obtain ⟨mO, hO⟩ := ih (by omega)
    obtain ⟨i, hi⟩ : ∃ i, n - (c + 1) = i := ⟨_, rfl⟩
    have hi1 : n - c = i + 1 := by omega
    rw [hi1] at hO
    rw [hi]
    have hin : i < n := by omega
    have hlt : (i : Int) < n := by omega
    have zi : (0 : Int) ≤ i := by omega
    obtain ⟨mI, hIn⟩ := inner_m (fr := fr) (cs := cs) (Anch := Anch) (Fin := Fin) (m0 := m0) hH hans hsum hq hn (by omega) hi hO q (Nat.le_refl q)
    rw [Nat.sub_self] at hIn
    co_apply Exists.intro
    intro T hT w hF
    obtain ⟨v0, v1, v2, v3, v4, v5, v6, v7, v8, v9, v10, v11, v12, v13, v14, v15, v16, v17, v18, v19, v20, v21, v22, v23, v24, v25, v26, v27, v28, v29, v30, v31, v32, v33, v34, v35, v36, v37, v38, v39, v40, v41, v42, v43, v44, v45, v46, v47, v48, v49, v50, v51, v52, v53, v54, v55, v56, v57, v58, v59, rfl⟩ := arr60 T hT.sz
    have e8 := hT.t8
    have e12 := hT.t12
    have e38 := hT.t38
    have e39 := hT.t39
    have e40 := hT.t40
    simp only [List.getElem?_toArray, List.getElem?_cons_succ, List.getElem?_cons_zero, Option.some.injEq] at e8 e12 e38 e39 e40
    subst e8 e12 e38 e39 e40
    simp only [frM, headR, hM]
    co_apply (gs_seq TT)
    co_apply (gs_code (by decide))
    co_reg TT
    co_op MF.rely hF (co_quiet TT)
    co_apply opsC_nil TT
    refine ⟨rfl, ?_⟩
    co_apply (gs_seq TT)
    co_apply (gs_true TT (by simp [Act.eval, hin]))
    co_apply (gs_skip TT)
    co_apply (gs_seq TT)
    co_apply (gs_block TT)
    co_apply (gs_seq TT)
    co_apply (gs_code (by decide))
    co_reg TT
    co_opw MF.rely hF (skip) (co_still TT)
    co_opw MF.rely hF (obtain ⟨xs, hx1, hx2, hx3⟩ := hF.arr; have hc := cell_in hx1 (hx3 i hin)) (refine dm_read ?_; co_evs (exact ev_rdT hH (.inr ⟨by omega, by omega⟩) (Array.getElem?_eq_some_iff.1 hx1).1))
    clear hc hx1 hx2 hx3
    co_op MF.rely hF (co_quiet TT)
    co_apply opsC_nil TT
    refine ⟨rfl, ?_⟩
    co_apply (gs_seq TT)
    co_apply (gs_code (by decide))
    co_reg TT
    co_op MF.rely hF (co_quiet TT)
    co_apply opsC_nil TT
    refine ⟨rfl, ?_⟩
    co_apply (gs_seq TT)
    co_apply (gs_code (by decide))
    co_reg TT
    co_op MF.rely hF (co_quiet TT)
    co_apply opsC_nil TT
    refine ⟨rfl, ?_⟩
    co_apply (gs_block TT)
    co_apply (gs_loop TT)
    have hIn2 := fun T hT => hIn T hT _ hF
    simp only [frM, headI, hI, hM] at hIn2
    have e0 : (phT Try.prog N n q m0 W0 ans H Anch Fin).n - (c + 1) = i := hi
    simp only [AtRvA, e0]
    exact hIn2 _ ⟨⟨by simp, by simp, by simp, by simp, by simp, by simp⟩, by simp, by simp⟩
end
end

section
open Go.Conc Go.RowKit Go.Conc.Lib Go.ConcR.Gen Go.ConcN.Gen
open Go.ConcN (WgLive)
open Go.ConcR (KK WgAt stA smA rd wr mk DC0)
section
variable {N n q m0 : Nat} {W0 : World} {ans : Nat → Nat → Value} {H : Nat → Prop} {Anch Fin : Goroutine → World → Prop} {avs : Nat → Nat → Int} {fr : Frame} {cs : List Frame}

theorem events_store_slice {P : Program} {w : World} {es : Array Event} {a : Addr} {m : Go.Mode} (p : Option Addr) (k c : Nat) : (store a (.slice p k c) m).events P w es = storedEv P w es a (.slice p k c) m := events_store P w es a _ m rfl

theorem madeCells_one (v : Value) (k : Nat) : madeCells #[v] k = Array.replicate k v := by
  unfold madeCells
  refine Array.ext (by simp) fun i h1 h2 => ?_
  simp [Nat.mod_one]

set_option maxRecDepth 100000 in
set_option maxHeartbeats 16000000 in
theorem spawns_m (hH : ∀ b, H b → b < N) (hans : ∀ c l, c < n → l < q → ans c l = .int .i64 (avs c l)) (hsum : ∀ c l x, c < n → l ≤ q → x < q → 0 ≤ sumC avs c l x ∧ sumC avs c l x ≤ 1000000) (hq : q < 2147483648) (hn : n < 2147483648) (h1n : 0 < n)
    (hA : ∀ T, TW N n q T → ∀ g w, AnchT (phT Try.prog N n q m0 W0 ans H Anch Fin) link (MF W0 N n q avs n 0) (waitFr Try.f54 T) (fr :: cs) g w → Anch g w)
    {vb vo vcap : Nat} {row : Nat → Value} (hvb : vb < N) (hvH : ¬ H vb) (hrow : ∀ i, i < n → W0.cell? ⟨vb, vo + i, none⟩ = some (row i)) (hsl : ∀ i, i < n → ∃ ra rl rc, row i = .slice ra rl rc) {fA : FuncId} {cap : Array Value}
    (hask : ∀ k, k < n → ∃ mA, ∀ number, number < q → ∀ w, WK (phT Try.prog N n q m0 W0 ans H Anch Fin) N k (row k) (.func (.func fA) #[] cap) w → CallsC Try.prog false (RW (phT Try.prog N n q m0 W0 ans H Anch Fin) k) (DW (phT Try.prog N n q m0 W0 ans H Anch Fin) k) fA (#[row k, .int .i64 number] ++ cap) mA w (fun v w' => WK (phT Try.prog N n q m0 W0 ans H Anch Fin) N k (row k) (.func (.func fA) #[] cap) w' ∧ v = ans k number)) :
    ∀ r, r ≤ n → ∃ m, ∀ (T : Array Value) (vv av : Value), TS N n (.slice (some ⟨vb, vo, none⟩) n vcap) (n - r) T → ∀ w, MS W0 N n q (.func (.func fA) #[] cap) (n - r) (n - r) 0 vv av w →
      Goes Try.prog true (RM (phT Try.prog N n q m0 W0 ans H Anch Fin) (n - r)) (DM (phT Try.prog N n q m0 W0 ans H Anch Fin) (n - r)) (AtSp (phT Try.prog N n q m0 W0 ans H Anch Fin) r) m (frM fr cs T (headS Try.f54)) w := by
  have hL : mainL Try.f54 = _ := rfl
  conv at hL => rhs; whnf
  have hAA : mainA Try.f54 = _ := rfl
  conv at hAA => rhs; whnf
  have hM : mainM Try.f54 = _ := rfl
  conv at hM => rhs; whnf
  have hB : mainB Try.f54 = _ := rfl
  conv at hB => rhs; whnf
  obtain ⟨i0, hi0, hz0, hz1, hz2⟩ := info_parts info_int
  intro r
  induction r with
  | zero =>
    intro _
    have TT := termsM (phT Try.prog N n q m0 W0 ans H Anch Fin) n n
    obtain ⟨mR, hR⟩ := recv_m (fr := fr) (cs := cs) (Anch := Anch) (Fin := Fin) (m0 := m0) hH hans hsum hq hn hA n (Nat.le_refl n)
    rw [Nat.sub_self] at hR
    rw [Nat.sub_zero]
    have hmk := fun w => run_make (P := Try.prog) w 25 3 i0 (.int .i64 0) Try.underlying25 hi0 hz0 .i64 .i64 q q (by omega) (by omega) (by rw [hz2]; omega) (by omega)
    have hme := fun w es => events_make (P := Try.prog) w 25 3 i0 (.int .i64 0) Try.underlying25 hi0 hz0 .i64 .i64 q q (by omega) (by omega) (by rw [hz2]; omega) (by omega) (by rw [hz2]; simp; omega) es
    co_apply Exists.intro
    intro T vv av hT w hF
    obtain ⟨v0, v1, v2, v3, v4, v5, v6, v7, v8, v9, v10, v11, v12, v13, v14, v15, v16, v17, v18, v19, v20, v21, v22, v23, v24, v25, v26, v27, v28, v29, v30, v31, v32, v33, v34, v35, v36, v37, v38, v39, v40, v41, v42, v43, v44, v45, v46, v47, v48, v49, v50, v51, v52, v53, v54, v55, v56, v57, v58, v59, rfl⟩ := arr60 T hT.sz
    have e4 := hT.t4
    have e5 := hT.t5
    have e7 := hT.t7
    have e8 := hT.t8
    have e20 := hT.t20
    have e21 := hT.t21
    have e22 := hT.t22
    simp only [List.getElem?_toArray, List.getElem?_cons_succ, List.getElem?_cons_zero, Option.some.injEq] at e4 e5 e7 e8 e20 e21 e22
    subst e4 e5 e7 e8 e20 e21 e22
    simp only [frM, headS, hL]
    co_apply (gs_seq TT)
    co_apply (gs_code (by decide))
    co_reg TT
    co_op MS.rely hF (co_quiet TT)
    co_apply opsC_nil TT
    refine ⟨rfl, ?_⟩
    co_apply (gs_seq TT)
    co_apply (gs_false TT (by simp [Act.eval]))
    co_apply (gs_exit TT rfl)
    simp only [hAA]
    co_apply (gs_seq TT)
    co_apply (gs_code (by decide))
    co_reg TT
    co_opw MS.rely hF (have hc := cell_in (i := 0) hF.qb rfl) (refine dm_read ?_; co_evs (exact ev_rdT hH (.inr ⟨by omega, by omega⟩) (by have := hF.size; omega)))
    clear hc
    co_opw MS.rely hF (have hsz := hF.size) (refine dm_alloc trivial ?_; co_evs (skip))
    replace hF := MF.start (avs := avs) hF (ys := madeCells #[.int .i64 0] q) (madeCells_one _ _)
    try simp only [hsz, Nat.add_zero]
    clear hsz
    co_op MF.rely hF (co_quiet TT)
    co_apply opsC_nil TT
    refine ⟨rfl, ?_⟩
    co_apply (gs_seq TT)
    co_apply (gs_seq TT)
    co_apply (gs_code (by decide))
    co_reg TT
    co_op MF.rely hF (co_quiet TT)
    co_op MF.rely hF (co_quiet TT)
    co_op MF.rely hF (co_quiet TT)
    co_apply opsC_nil TT
    refine ⟨rfl, ?_⟩
    co_apply (gs_block TT)
    co_apply (gs_loop TT)
    have hR2 := fun T hT => hR T hT _ hF
    simp only [frM, headR, hM, hB] at hR2
    exact hR2 _ ⟨by simp, by simp, by simp, by simp, by simp, by simp⟩
  | succ r ih =>
    intro hr
    obtain ⟨mS, hS⟩ := ih (by omega)
    obtain ⟨j, hj⟩ : ∃ j, n - (r + 1) = j := ⟨_, rfl⟩
    have hj1 : n - r = j + 1 := by omega
    rw [hj1] at hS
    rw [hj]
    have hjn : j < n := by omega
    have hlt : (j : Int) < n := by omega
    have zj : (0 : Int) ≤ j := by omega
    have ejr : (phT Try.prog N n q m0 W0 ans H Anch Fin).n - (r + 1) = j := hj
    have hess := fun (w : World) (es : Array Event) (a : Addr) (m : Go.Mode) (p : Option Addr) (k c : Nat) => events_store_slice (P := Try.prog) (w := w) (es := es) (a := a) (m := m) p k c
    obtain ⟨ra, rl, rc, hrj⟩ := hsl j hjn
    have hrow2 := hrow j hjn
    obtain ⟨mA, hask2⟩ := hask j hjn
    rw [hrj] at hrow2 hask2
    clear hrj
    have TT := termsM (phT Try.prog N n q m0 W0 ans H Anch Fin) j j
    have hmc := fun w => run_makeChan (P := Try.prog) (w := w) Try.underlying90 hi0 .i64 q (by omega) (by rw [hz2]; omega)
    have hmce := fun w es => events_makeChan (P := Try.prog) (w := w) Try.underlying90 hi0 .i64 q (by omega) (by rw [hz2]; omega) es
    simp only [AtSp, ejr]
    co_apply Exists.intro
    intro T vv av hT w hF
    obtain ⟨v0, v1, v2, v3, v4, v5, v6, v7, v8, v9, v10, v11, v12, v13, v14, v15, v16, v17, v18, v19, v20, v21, v22, v23, v24, v25, v26, v27, v28, v29, v30, v31, v32, v33, v34, v35, v36, v37, v38, v39, v40, v41, v42, v43, v44, v45, v46, v47, v48, v49, v50, v51, v52, v53, v54, v55, v56, v57, v58, v59, rfl⟩ := arr60 T hT.sz
    have e4 := hT.t4
    have e5 := hT.t5
    have e7 := hT.t7
    have e8 := hT.t8
    have e20 := hT.t20
    have e21 := hT.t21
    have e22 := hT.t22
    simp only [List.getElem?_toArray, List.getElem?_cons_succ, List.getElem?_cons_zero, Option.some.injEq] at e4 e5 e7 e8 e20 e21 e22
    subst e4 e5 e7 e8 e20 e21 e22
    simp only [frM, headS, hL]
    co_apply (gs_seq TT)
    co_apply (gs_code (by decide))
    co_reg TT
    co_op MS.rely hF (co_quiet TT)
    co_apply opsC_nil TT
    refine ⟨rfl, ?_⟩
    co_apply (gs_seq TT)
    co_apply (gs_true TT (by simp [Act.eval, hjn]))
    co_apply (gs_skip TT)
    co_apply (gs_seq TT)
    co_apply (gs_block TT)
    co_apply (gs_seq TT)
    co_apply (gs_code (by decide))
    co_reg TT
    co_op MS.rely hF (co_quiet TT)
    co_opw MS.rely hF (skip) (co_still TT)
    co_opw MS.rely hF (have hc := (cell_eq (hF.old vb hvb)).trans hrow2) (refine dm_read ?_; co_evs (exact ev_rdT hH (.inl ⟨hvb, hvH⟩) (by have := hF.size; omega)))
    clear hc
    co_opw MS.rely hF (have hsz := hF.size) (refine dm_alloc trivial ?_; co_evs (skip))
    replace hF := hF.made0 (.slice none 0 0)
    try simp only [hsz, Nat.add_zero]
    clear hsz
    co_op MS.rely hF (co_quiet TT)
    co_opw MS.rely hF (have hb := hF.vb (by omega); have hc := cell_in (i := 0) hb rfl; have hz := thaw_in (i := 0) hb) (refine dm_set (.inr (by simp only; omega)) ?_; co_evs (exact ev_wrT hH (.inr (by omega)) (by have := hF.size; omega)))
    clear hb hc hz
    replace hF := hF.set0 (.slice ra rl rc)
    co_apply opsC_nil TT
    refine ⟨rfl, ?_⟩
    co_apply (gs_seq TT)
    co_apply (gs_code (by decide))
    co_reg TT
    co_opw MS.rely hF (have hc := cell_in (i := 0) hF.qb rfl) (refine dm_read ?_; co_evs (exact ev_rdT hH (.inr ⟨by omega, by omega⟩) (by have := hF.size; omega)))
    clear hc
    co_opw MS.rely hF (have hsz := hF.size) (refine dm_alloc trivial ?_; co_evs (skip))
    replace hF := hF.made1
    have es : N + 4 + 3 * j + 1 = N + 5 + 3 * j := by omega
    try simp only [hsz, es]
    clear hsz es
    co_opw MS.rely hF (have hsz := hF.size) (refine dm_alloc trivial ?_; co_evs (skip))
    replace hF := hF.made2 (.chan none)
    have es : N + 4 + 3 * j + 2 = N + 6 + 3 * j := by omega
    try simp only [hsz, es]
    clear hsz es
    co_opw MS.rely hF (have hb := hF.ab (by omega); have hc := cell_in (i := 0) hb rfl; have hz := thaw_in (i := 0) hb) (refine dm_set (.inr (by simp only; omega)) ?_; co_evs (exact ev_wrT hH (.inr (by omega)) (by have := hF.size; omega)))
    clear hb hc hz
    replace hF := hF.set2 (.chan (some (N + 5 + 3 * j)))
    co_apply opsC_nil TT
    refine ⟨rfl, ?_⟩
    co_apply (gs_seq TT)
    co_apply (gs_code (by decide))
    co_reg TT
    co_op MS.rely hF (co_quiet TT)
    co_op MS.rely hF (co_quiet TT)
    co_opw MS.rely hF (have hb := hF.ab (by omega); have hc := cell_in (i := 0) hb rfl) (refine dm_read ?_; co_evs (exact ev_rdT hH (.inr ⟨by omega, by omega⟩) (by have := hF.size; omega)))
    clear hb hc
    co_opw MS.rely hF (skip) (co_still TT)
    co_opw MS.rely hF (obtain ⟨xs, hx1, hx2, hx3⟩ := hF.arr; have hxj : xs[j]? = some (xs[j]'(by omega)) := Array.getElem?_eq_getElem _; have hc := cell_in hx1 hxj; have hz := thaw_in (i := j) hx1) (refine dm_set (.inl rfl) ?_; co_evs (exact ev_wrT hH (.inl rfl) (by have := hF.size; omega)))
    clear hc hz hxj hx1 hx2 hx3
    replace hF := hF.setRow hjn
    co_apply opsC_nil TT
    refine ⟨rfl, ?_⟩
    co_apply (gs_seq TT)
    co_apply (gs_region TT)
    simp only [List.size_toArray, List.length_cons, List.length_nil, Nat.reduceAdd, Nat.zero_add, List.range, List.range.loop]
    co_apply Goes.step
    focus (exact rfl)
    intro w₁ h₁
    replace hF := hF.rely h₁
    clear h₁
    refine goes_call rfl rfl (by decide) rfl Try.func72 (nm_add link) rfl ⟨dm_nil, ?_⟩
    walk_nrmf Try.f72
    co_apply (goes_dc (Φ := (phT Try.prog N n q m0 W0 ans H Anch Fin)))
    co_apply (add_t (Φ := (phT Try.prog N n q m0 W0 ans H Anch Fin)) (L := link) (j := j) (F := MS W0 N n q (.func (.func fA) #[] cap) j (j + 1) 3 (.slice ra rl rc) (.chan (some (N + 5 + 3 * j)))) (b₀ := base 54) wgLib rfl (fun _ _ r h => MS.rely h r) ?hT _ ⟨hF, hF.live⟩)
    case hT =>
      intro w hF _
      walk_nrm
      co_apply (gs_region_end TT)
      co_apply (gs_region TT)
      simp only [List.size_toArray, List.length_cons, List.length_nil, Nat.reduceAdd, Nat.zero_add, List.range, List.range.loop]
      co_apply Goes.step
      focus (exact rfl)
      intro w₁ h₁
      replace hF := hF.rely h₁
      clear h₁
      refine goes_oper_k rfl rfl (by decide) (fun K hK => ?_)
      go_simp
      refine hK _ _ ⟨?_, ?_⟩
      · refine dm_read fun e he => ?_
        have hm := mem_listed he
        simp [go_sem, Instr.makeFunc] at hm
      clear hK K
      try walk_nrm
      refine Goes.stop (n := 0) fun w₂ h₂ => ?_
      replace hF := hF.rely h₂
      clear h₂
      refine ⟨rfl, ?_⟩
      rw [stepG_spawn (d := callW N j) (w' := w₂) (f := .func 73) (c := (ptrsW N j).toArray) rfl rfl (by decide) (by simp [go_sem, callW, ptrsW, Deferred.ofValue]) rfl]
      generalize hLi : listed _ _ _ _ _ = Lx
      have hLx : Lx = #[] := by
        rw [← hLi]
        simp [listed, go_sem, seen, Deferred.ofValue]
        rfl
      subst hLx
      clear hLi
      have hlw : (phT Try.prog N n q m0 W0 ans H Anch Fin).lw j ≤ w₂.heap.size := by have := hF.size; simp only; omega
      refine ⟨_, _, rfl, rfl, hF.cb (by omega), hlw, ?_, ?_⟩
      · refine works hq hask2 _ ⟨cell_in (i := 0) hF.qb rfl, cell_in (i := 0) hF.kb rfl, cell_in (i := 0) (hF.vb (by omega)) rfl, cell_in (i := 0) (hF.ab (by omega)) rfl, hF.live, fun b hb _ => hF.old b hb⟩
      rw [spawns_iff]
      have ejr2 : (phT Try.prog N n q m0 W0 ans H Anch Fin).n - r = j + 1 := hj1
      rw [ejr2]
      have TT2 := termsM (phT Try.prog N n q m0 W0 ans H Anch Fin) (j + 1) (j + 1)
      replace hF := hF.next
      co_apply Exists.intro
      have e1 : IntKind.i64.wrap ((j : Int) + 1) = ((j + 1 : Nat) : Int) := by rw [IntKind.wrap_i64]; omega
      walk_nrm
      co_apply (gs_region_end TT2)
      co_apply (gs_inBlock TT2)
      co_apply (gs_code (by decide))
      co_reg TT2
      co_op MS.rely hF (co_quiet TT2)
      co_op MS.rely hF (co_quiet TT2)
      co_apply opsC_nil TT2
      refine ⟨rfl, ?_⟩
      co_apply (gs_inLoop TT2)
      have hS2 := fun T hT => hS T _ _ hT _ hF
      simp only [frM, headS, hL] at hS2
      exact hS2 _ ⟨by simp, by simp, by simp, by simp, by simp, by simp, by simp, by simp⟩
end
end

section
open Go.Conc
open Go.ConcN (WgLive sumTo upd sumTo_upd upd_ne upd_same Deaf_still sumTo_congr le_sumTo sumTo_le bk_cell sumTo_upd_out)
open Go.ConcR (KK WgAt stA smA rd wr mk DC0 Bk bk_of_mute ofEvent_loc_mark ofEvent_mk)

theorem reach_of_inv {P : Program} {α : Type} {r : α → α → Prop} (wf : WellFounded r) (Inv : α → Machine → Trace → Prop) (Q : Machine → Trace → Prop)
    (h : ∀ μ m t, Inv μ m t → Q m t ∨ (∃ m' ops μ', stepT P m = (.next m', ops) ∧ r μ' μ ∧ Inv μ' m' (t ++ ops))) :
    ∀ μ m t, Inv μ m t → ∃ n m' t', runNT P n m t = (.next m', t') ∧ Q m' t' := by
  intro μ
  induction μ using wf.induction with
  | _ μ ih =>
    intro m t hI
    rcases h μ m t hI with hq | ⟨m', ops, μ', hs, hr, hI'⟩
    · exact ⟨0, m, t, rfl, hq⟩
    · obtain ⟨n, m2, t2, h1, h2⟩ := ih μ' hr m' (t ++ ops) hI'
      exact ⟨n + 1, m2, t2, by rw [runNT_succ_next hs]; exact h1, h2⟩

section
variable {Φ : Ph} {gs gs' : Array Goroutine} {w w' : World} {sl : Option (Nat × Nat)} {j : Nat} {D D' : Nat → WD} {tag tag' : Tag} {f0 f' d0 d0' : Nat} {qs : Nat → Nat} {a a' : Goroutine} {t t' : Trace} {st sm st' sm' : Int} {es : Array Event}

theorem WSit.running {k s m d : Nat} {g : Goroutine} (h : WSit Φ k s m d g w) (hs : s ≠ 1) : g.status = .running := h.status.elim id fun x => absurd x.2 hs

theorem someone_runs (O : Φ.Ok) (ha : gs[0]? = some a) (hcs : CSit Φ tag j f0 d0 a w) (hcom : Com Φ j gs w t D d0 qs) (hmode : Mode j D tag st sm) (hchs : Chans Φ j D tag w) : ∃ (i : Nat) (g : Goroutine), gs[i]? = some g ∧ g.status = .running := by
  rcases hcs.status O with ⟨hs, _⟩ | ⟨_, rfl | ⟨c, l, rfl⟩⟩
  · exact ⟨0, a, ha, hs⟩
  · cases hmode with
    | opn h1 _ _ => exact h1.elim
    | reg _ _ h3 =>
      obtain ⟨i, hi, h5⟩ := exists_counted h3
      obtain ⟨g, hg, hs⟩ := hcom.wk i hi
      exact ⟨_, g, hg, hs.running (by omega)⟩
    | last L _ h2 h3 _ =>
      obtain ⟨g, hg, hs⟩ := hcom.wk L h2
      exact ⟨_, g, hg, hs.running (by omega)⟩
    | sema h1 _ => exact h1.elim
    | fin h1 _ => exact h1.elim
  · obtain ⟨h8, _⟩ := hchs.pk c l rfl
    obtain ⟨e1, e2, e3⟩ := hcs.pk_inv
    obtain ⟨g, hg, hs⟩ := hcom.wk (Φ.n - c) (by omega)
    exact ⟨_, g, hg, hs.running (by omega)⟩

theorem all_awake (O : Φ.Ok) (ha : gs[0]? = some a) (hcs : CSit Φ tag j f0 d0 a w) (hcom : Com Φ j gs w t D d0 qs) : ∀ g ∈ gs, awake g := by
  intro g hg
  obtain ⟨i, hi⟩ := Array.mem_iff_getElem?.1 hg
  rcases Nat.eq_zero_or_pos i with rfl | hpos
  · rw [ha] at hi; cases hi
    rcases hcs.status O with ⟨hs, _⟩ | ⟨hs, _⟩
    · exact awake_of (.inl hs)
    · exact awake_of (.inr (.inl hs))
  · have hlt : i < Φ.m0 + j := by rw [← hcom.size]; exact (Array.getElem?_eq_some_iff.1 hi).1
    have hup : g.status = .running ∨ g.status = .finished := by
      rcases Nat.lt_or_ge i Φ.m0 with h | h
      · obtain ⟨z, hz, hq⟩ := hcom.old i hpos h
        rw [hi] at hz; cases hz; exact hq.status
      · obtain ⟨z, hz, hs⟩ := hcom.wk (i - Φ.m0) (by omega)
        rw [show Φ.m0 + (i - Φ.m0) = i by omega, hi] at hz; cases hz; exact hs.up
    exact awake_of (hup.elim .inl fun x => .inr (.inr x))

theorem Com.at (O : Φ.Ok) (h : Com Φ j gs w t D d0 qs) (d : Nat) : Com Φ j gs (w.at d) t D d0 qs :=
  ⟨h.size, fun i hi => let ⟨g, hg, hs⟩ := h.wk i hi; ⟨g, hg, hs.rely (RW.at w d)⟩, h.old, h.above, h.pt, h.deaf0, h.deafW, h.rel, h.low, h.rdl, h.os, h.output, h.oldw, h.bsz, h.plain⟩

def Over (Φ : Ph) (m : Machine) (t : Trace) : Prop :=
  ∃ (gs : Array Goroutine) (w : World) (sl : Option (Nat × Nat)) (D : Nat → WD) (qs : Nat → Nat) (a : Goroutine),
    m = crowd gs w sl ∧ gs[0]? = some a ∧ Φ.Fin a w ∧ Com Φ Φ.n gs w t D 0 qs ∧ AllQuit Φ.n D ∧ AcqK Φ.Wg Φ.m0 Φ.n t ∧ WgAt Φ.ty Φ.Wg w 0 0

theorem team_step (O : Φ.Ok) : ∀ μ m t, Inv Φ μ m t → Over Φ m t ∨ (∃ m' ops μ', stepT Φ.P m = (.next m', ops) ∧ Lt2 μ' μ ∧ Inv Φ μ' m' (t ++ ops)) := by
  rintro μ m t ⟨gs, w, sl, j, D, tag, f0, d0, qs, a, st, sm, rfl, ha, hcs, hcom, hwg, hmode, hchs, hacq, rfl⟩
  obtain ⟨i, g, d, sl', hg, hrun, hstep⟩ := crowd_pick (P := Φ.P) (w := w) (sl := sl) (all_awake O ha hcs hcom) (someone_runs O ha hcs hcom hmode hchs)
  have hcs' := hcs.rely (RM.at w d)
  have hcom' := hcom.at O d
  have hwg' : WgAt Φ.ty Φ.Wg (w.at d) st sm := hwg
  have hchs' : Chans Φ j D tag (w.at d) := ⟨hchs.at', hchs.pk⟩
  have one : Step1 Φ (crowd gs (w.at d) sl') t i (meas Φ j D tag f0 qs) → ∃ m' ops μ', stepT Φ.P (crowd gs w sl) = (.next m', ops) ∧ Lt2 μ' (meas Φ j D tag f0 qs) ∧ Inv Φ μ' m' (t ++ ops) := fun ⟨m₁, ops, μ', h1, h2, h3⟩ => ⟨m₁, ops, μ', hstep.trans h1, h2, h3⟩
  rcases Nat.eq_zero_or_pos i with rfl | hpos
  · rw [ha] at hg; cases hg
    rcases stepCaller (sl := sl') O ha hcs' hcom' hwg' hmode hchs' hacq hrun with h | ⟨rfl, rfl, rfl, hfin⟩
    · exact .inr (one h)
    · obtain ⟨hq, rfl, rfl⟩ := hmode.fin_inv trivial
      exact .inl ⟨gs, w, sl, D, qs, a, rfl, ha, hfin w (RM.at (w.at d) w.drawn), hcom, hq, hacq rfl, hwg⟩
  · have hlt : i < Φ.m0 + j := by rw [← hcom.size]; exact (Array.getElem?_eq_some_iff.1 hg).1
    rcases Nat.lt_or_ge i Φ.m0 with h | h
    · refine .inr (one (leaverStep O ha hcs' hcom' hwg' hmode hchs' hacq (fun c l e => ?_) hpos h hg hrun))
      subst e
      obtain ⟨e1, e2, e3⟩ := hcs'.pk_inv
      exact ⟨_, _, _, _, (hchs'.at' (Φ.n - c) (by omega)).1⟩
    · obtain ⟨k, rfl⟩ : ∃ k, i = Φ.m0 + k := ⟨i - Φ.m0, by omega⟩
      exact .inr (one (stepWorker O ha hcs' hcom' hwg' hmode hchs' hacq (by omega) hg hrun))

theorem WSit.quits {k m d : Nat} {g : Goroutine} (h : WSit Φ k 1 m d g w) : QuitsD Φ.P m d g := by
  generalize hs : 1 = s at h
  cases h with
  | quit h => exact h
  | snd _ _ => omega
  | _ => cases hs

theorem team_runs (O : Φ.Ok) {q : Nat → Nat} (h0 : gs[0]? = some a) (hm : gs.size = Φ.m0) (hL : Leavers Φ.P t gs q) (hP : Past (ShunH Φ.H) Φ.B0 t) (hw0 : ∀ b, b < Φ.B0 → w.heap[b]? = Φ.W0.heap[b]?) (hos : w.os = Φ.W0.os) (hout : w.output = Φ.W0.output)
    (hsz : Φ.B0 ≤ w.heap.size) (hpl : PlainW Φ.B0 w) (hwg : WgAt Φ.ty Φ.Wg w 0 0) (hs : Spawns Φ Φ.n a w) :
    ∃ (N : Nat) (gs' : Array Goroutine) (a' : Goroutine) (w' : World) (sl' : Option (Nat × Nat)) (t' : Trace) (q' : Nat → Nat),
      runNT Φ.P N (crowd gs w sl) t = (.next (crowd gs' w' sl'), t') ∧ gs.size ≤ gs'.size ∧ gs'[0]? = some a' ∧ Φ.Fin a' w' ∧ Leavers Φ.P t' gs' q' ∧ Past (ShunH fun b => Φ.H b ∨ b = Φ.Wg) w'.heap.size t' ∧
      (∀ b, b < Φ.B0 → w'.heap[b]? = Φ.W0.heap[b]?) ∧ w'.os = Φ.W0.os ∧ w'.output = Φ.W0.output ∧ PlainW Φ.B0 w' ∧ WgAt Φ.ty Φ.Wg w' 0 0 ∧ Φ.B0 ≤ w'.heap.size := by
  obtain ⟨r, hr⟩ : ∃ r, Φ.n = r + 1 := ⟨Φ.n - 1, by have := O.n1; omega⟩
  have hcom : Com Φ 0 gs w t (fun _ => ⟨0, 0, 0⟩) 0 q := {
    size := by omega
    wk := fun i hi => by omega
    old := fun i i0 i1 => ⟨gs[i]'(by omega), Array.getElem?_eq_getElem _, hL.old i _ i0 (Array.getElem?_eq_getElem _)⟩
    above := fun i hi => hL.above i (by omega)
    pt := PT.start O.lies hP
    deaf0 := hP.hears
    deafW := fun i hi => by omega
    rel := fun i hi => by omega
    low := fun op hop => MemAct.low_mono hsz (hP.seen op hop)
    rdl := fun i hi => by omega
    os := hos
    output := hout
    oldw := hw0
    bsz := hsz
    plain := hpl }
  have hInv : ∃ μ, Inv Φ μ (crowd gs w sl) t := by
    have hk : Spawns Φ (r + 1) a w := hr ▸ hs
    obtain ⟨m, hk⟩ := hk
    have hc := CSit.skd (Φ := Φ) (r := r) (by omega) hk
    have e0 : Φ.n - (r + 1) = 0 := by omega
    rw [e0] at hc
    refine ⟨_, gs, w, sl, 0, _, .sp r 6, m, 0, q, a, 0, 0, rfl, h0, hc, hcom, hwg, ?_, ⟨fun i hi => by omega, by simp⟩, by simp, rfl⟩
    have := Mode.opn (j := 0) (D := fun _ => (⟨0, 0, 0⟩ : WD)) (tag := .sp r 6) trivial (fun i hi => by omega) (by simp)
    simpa [Vc, sumTo, pend] using this
  obtain ⟨μ, hI⟩ := hInv
  obtain ⟨N, m', t', hrun, gs', w', sl', D, qs, a', rfl, ha', hfin, hc', hq, hacq, hwg'⟩ := reach_of_inv (P := Φ.P) (r := Lt2) (Prod.lex Nat.lt_wfRel Nat.lt_wfRel).wf (Inv Φ) (Over Φ) (team_step O) μ _ _ hI
  refine ⟨N, gs', a', w', sl', t', fun i => if i < Φ.m0 then qs i else (D (i - Φ.m0)).fuel, hrun, by rw [hm, hc'.size]; omega, ha', hfin, ⟨fun i g hi hg => ?_, fun i hi => hc'.above i (by rw [hc'.size] at hi; exact hi)⟩,
    hc'.pt.done hacq hc'.deaf0 hc'.low, hc'.oldw, hc'.os, hc'.output, hc'.plain, hwg', hc'.bsz⟩
  have hlt : i < Φ.m0 + Φ.n := by rw [← hc'.size]; exact (Array.getElem?_eq_some_iff.1 hg).1
  rcases Nat.lt_or_ge i Φ.m0 with h | h
  · obtain ⟨z, hz, hqz⟩ := hc'.old i hi h
    rw [hg] at hz; cases hz
    rw [if_pos h]; exact hqz
  · obtain ⟨z, hz, hsz⟩ := hc'.wk (i - Φ.m0) (by omega)
    rw [show Φ.m0 + (i - Φ.m0) = i by omega, hg] at hz; cases hz
    rw [if_neg (by omega)]
    have hd := hc'.deafW (i - Φ.m0) (by omega)
    rw [show Φ.m0 + (i - Φ.m0) = i by omega] at hd
    rw [hd]
    rw [hq (i - Φ.m0) (by omega)] at hsz
    exact hsz.quits
end
end

section
open Go.Conc Go.RowKit Go.Conc.Lib Go.ConcR.Gen Go.ConcN.Gen
open Go.ConcN (WgLive)
open Go.ConcR (KK WgAt stA smA rd wr mk DC0)

def Hush (w w' : World) (es : Array Event) : Prop := es = #[]
theorem termsH : Terms AtRel Hush := ⟨atRel_trans, fun w => rfl⟩
def AtX (X w : World) : Prop := ∃ d, w = X.at d
theorem AtX.rely {X w w₁ : World} (h : AtX X w) (r : AtRel w w₁) : AtX X w₁ := by
  obtain ⟨d, rfl⟩ := h
  obtain ⟨d', rfl⟩ := r
  exact ⟨d', rfl⟩
theorem AtX.size {X w : World} (h : AtX X w) : w.heap.size = X.heap.size := by obtain ⟨d, rfl⟩ := h; rfl
theorem AtX.made {X w : World} (h : AtX X w) (o : Obj) : AtX (X.alloc o) (w.alloc o) := by obtain ⟨d, rfl⟩ := h; exact ⟨d, rfl⟩

def startW (W0 : World) (n q : Nat) (ask : Value) : World :=
  (((W0.alloc (.cells #[.int .i64 q] 3)).alloc (.cells #[ask] 40)).alloc (.cells (Array.replicate n (.chan none)) 90)).alloc (Go.ConcR.wgBlock 89 0 0)

structure Starts (W0 : World) (N n q : Nat) (ask views : Value) (fr : Frame) (cs : List Frame) (fn : Func) (g : Goroutine) (w : World) : Prop where
  at' : AtX (startW W0 n q ask) w
  goes : ∃ T, g = frM fr cs T (headS fn) ∧ TS N n views 0 T

theorem info_chan : (Try.prog.info? 90).map (fun i => (i.zero, i.size, i.bytes)) = some (some (.chan none), 1, 8) := by kernel_rfl

set_option maxRecDepth 100000 in
set_option maxHeartbeats 8000000 in
theorem prelude_m {fr : Frame} {cs : List Frame} {n q vb vo vcap : Nat} {fA : FuncId} {cap : Array Value} (hn : n < 2147483648) (W0 : World) : ∃ m, Goes Try.prog true AtRel Hush (Starts W0 W0.heap.size n q (.func (.func fA) #[] cap) (.slice (some ⟨vb, vo, none⟩) n vcap) fr cs Try.f54) m
    (G (Frame.enter Try.prog 54 #[.slice (some ⟨vb, vo, none⟩) n vcap, .int .i64 q, .func (.func fA) #[] cap] .normal) (fr :: cs)) W0 := by
  have hC : codeW Try.f54 = _ := rfl
  conv at hC => rhs; whnf
  have hL : mainL Try.f54 = _ := rfl
  conv at hL => rhs; whnf
  have hAA : mainA Try.f54 = _ := rfl
  conv at hAA => rhs; whnf
  have hb : Try.f54.body = some (codeW Try.f54) := by kernel_rfl
  have ht : Try.f54.ntmps = 60 := by kernel_rfl
  rw [enter_at _ Try.func54 hb, hC, ht]
  simp only [List.size_toArray, List.length_cons, List.length_nil, Nat.reduceAdd, Nat.reduceSub, Nat.zero_add, Array.replicate, List.replicate, List.append_toArray, List.cons_append, List.nil_append]
  have TT := termsH
  obtain ⟨i0, hi0, hz0, hz1, hz2⟩ := info_parts info_chan
  have hmk := fun w => run_make (P := Try.prog) w 79 90 i0 (.chan none) Try.underlying79 hi0 hz0 .i64 .i64 n n (by omega) (by omega) (by rw [hz2]; omega) (by omega)
  have hme := fun w es => events_make (P := Try.prog) w 79 90 i0 (.chan none) Try.underlying79 hi0 hz0 .i64 .i64 n n (by omega) (by omega) (by rw [hz2]; omega) (by omega) (by rw [hz2]; simp; omega) es
  have hmc := madeCells_one (.chan none) n
  have hF : AtX W0 W0 := ⟨W0.drawn, rfl⟩
  co_apply Exists.intro
  co_apply (gs_seq TT)
  co_apply (gs_code (by decide))
  co_reg TT
  co_opw AtX.rely hF (have hsz := hF.size) (exact listed_nil (by simp [go_sem, *]))
  replace hF := hF.made (.cells #[.int .i64 q] 3)
  clear hsz
  co_opw AtX.rely hF (have hsz := hF.size.trans (alloc_size _ _)) (exact listed_nil (by simp [go_sem, *]))
  replace hF := hF.made (.cells #[.func (.func fA) #[] cap] 40)
  clear hsz
  co_op AtX.rely hF (exact listed_nil (by simp [go_sem]))
  co_apply opsC_nil TT
  refine ⟨rfl, ?_⟩
  co_apply (gs_seq TT)
  co_apply (gs_code (by decide))
  co_reg TT
  co_op AtX.rely hF (exact listed_nil (by simp [go_sem]))
  co_op AtX.rely hF (exact listed_nil (by simp [go_sem]))
  co_opw AtX.rely hF (have hsz := hF.size.trans (alloc_size _ _); rw [alloc_size] at hsz) (exact listed_nil (by simp [go_sem, *]))
  replace hF := hF.made (.cells (Array.replicate n (.chan none)) 90)
  clear hsz
  co_op AtX.rely hF (exact listed_nil (by simp [go_sem]))
  co_apply opsC_nil TT
  refine ⟨rfl, ?_⟩
  co_apply (gs_seq TT)
  co_apply (gs_code (by decide))
  co_reg TT
  co_opw AtX.rely hF (have hsz := hF.size.trans (alloc_size _ _); rw [alloc_size, alloc_size] at hsz) (exact listed_nil (by simp [go_sem, *]))
  replace hF := hF.made (Go.ConcR.wgBlock 89 0 0)
  clear hsz
  co_apply opsC_nil TT
  refine ⟨rfl, ?_⟩
  co_apply (gs_seq TT)
  co_apply (gs_seq TT)
  co_apply (gs_code (by decide))
  co_reg TT
  co_op AtX.rely hF (exact listed_nil (by simp [go_sem]))
  co_op AtX.rely hF (exact listed_nil (by simp [go_sem]))
  co_op AtX.rely hF (exact listed_nil (by simp [go_sem]))
  co_apply opsC_nil TT
  refine ⟨rfl, ?_⟩
  co_apply (gs_block TT)
  co_apply (gs_loop TT)
  refine Goes.stop (n := 0) fun w₁ h₁ => ?_
  replace hF := hF.rely h₁
  exact ⟨hF, _, rfl, ⟨rfl, rfl, rfl, rfl, rfl, rfl, rfl, rfl⟩⟩
section
variable {W0 w : World} {N n q : Nat} {ask vv av : Value}
theorem start_at (hN : W0.heap.size = N) : (startW W0 n q ask).heap[N]? = some (.cells #[.int .i64 q] 3) ∧ (startW W0 n q ask).heap[N + 1]? = some (.cells #[ask] 40) ∧
    (startW W0 n q ask).heap[N + 2]? = some (.cells (Array.replicate n (.chan none)) 90) ∧ (startW W0 n q ask).heap[N + 3]? = some (Go.ConcR.wgBlock 89 0 0) ∧ (startW W0 n q ask).heap.size = N + 4 ∧ ∀ b, b < N → (startW W0 n q ask).heap[b]? = W0.heap[b]? := by
  unfold startW
  refine ⟨push_lt (push_lt (push_lt (push_at hN))), push_lt (push_lt (push_at (by rw [alloc_size, hN]))), push_lt (push_at (by rw [alloc_size, alloc_size, hN])), push_at (by rw [alloc_size, alloc_size, alloc_size, hN]), by rw [alloc_size, alloc_size, alloc_size, alloc_size, hN], fun b hb => ?_⟩
  rw [push_old (by rw [alloc_size, alloc_size, alloc_size]; omega), push_old (by rw [alloc_size, alloc_size]; omega), push_old (by rw [alloc_size]; omega), push_old (by omega)]
theorem start_ms (hN : W0.heap.size = N) (h : AtX (startW W0 n q ask) w) : MS W0 N n q ask 0 0 0 vv av w := by
  obtain ⟨d, rfl⟩ := h
  obtain ⟨h1, h2, h3, h4, h5, h6⟩ := start_at (W0 := W0) (n := n) (q := q) (ask := ask) hN
  exact ⟨h5, h6, h1, h2, ⟨_, h3, by simp, fun i hi => by omega⟩, ⟨0, 0, h4⟩, fun h => by omega, fun h => by omega, fun h => by omega⟩
theorem start_plain (hN : W0.heap.size = N) (h : AtX (startW W0 n q ask) w) : PlainW N w := by
  obtain ⟨d, rfl⟩ := h
  intro b o hb ho
  obtain ⟨h1, h2, h3, h4, h5, h6⟩ := start_at (W0 := W0) (n := n) (q := q) (ask := ask) hN
  have hlt : b < N + 4 := by rw [← h5]; exact (Array.getElem?_eq_some_iff.1 ho).1
  change (startW W0 n q ask).heap[b]? = some o at ho
  obtain rfl | rfl | rfl | rfl : b = N ∨ b = N + 1 ∨ b = N + 2 ∨ b = N + 3 := by omega
  · rw [h1] at ho; cases ho; trivial
  · rw [h2] at ho; cases ho; trivial
  · rw [h3] at ho; cases ho; trivial
  · rw [h4] at ho; cases ho; trivial
theorem start_wg (hN : W0.heap.size = N) (h : AtX (startW W0 n q ask) w) : WgAt 89 (N + 3) w 0 0 := by
  obtain ⟨d, rfl⟩ := h
  exact (start_at (W0 := W0) (n := n) (q := q) (ask := ask) hN).2.2.2.1
end

def cutW (w w' : World) (N : Nat) : World :=
  { w with heap := w'.heap.mapIdx fun b o => if b < N then (w.heap[b]?).getD o else if b = N + 3 then (match o with | .cells _ e fr => .cells #[] e fr | o => o) else o }
theorem cutW_get (w w' : World) (N b : Nat) : (cutW w w' N).heap[b]? = (w'.heap[b]?).map fun o => if b < N then (w.heap[b]?).getD o else if b = N + 3 then (match o with | .cells _ e fr => .cells #[] e fr | o => o) else o := by
  simp [cutW]
theorem cutW_old {w w' : World} {N b : Nat} (h : w.heap.size = N) (hs : N ≤ w'.heap.size) (hb : b < N) : (cutW w w' N).heap[b]? = w.heap[b]? := by
  rw [cutW_get, Array.getElem?_eq_getElem (show b < w'.heap.size by omega), Option.map_some, if_pos hb, Array.getElem?_eq_getElem (show b < w.heap.size by omega)]
  rfl
theorem cutW_new {w w' : World} {N b : Nat} (hb : N ≤ b) (hn : b ≠ N + 3) : (cutW w w' N).heap[b]? = w'.heap[b]? := by
  rw [cutW_get]
  cases w'.heap[b]? with
  | none => rfl
  | some o => rw [Option.map_some, if_neg (by omega), if_neg hn]

theorem cutW_rel {T : Two} {H : Nat → Prop} {w W w' : World} {N : Nat} (hN : w.heap.size = N) (h : Rel T H w W) (hs : N + 3 < w'.heap.size) (hold : ∀ b, b < N → w'.heap[b]? = W.heap[b]?) (hos : w'.os = W.os) (hout : w'.output = W.output) (hp : PlainW N w') {ty : TypeId} (hwg : WgAt ty (N + 3) w' 0 0) :
    Rel T (fun b => H b ∨ b = N + 3) (cutW w w' N) w' where
  size := by simp [cutW]
  os := hos.trans h.os
  output := hout.trans h.output
  out := fun b hb => by
    by_cases hlt : b < N
    · rw [cutW_old hN (by omega) hlt, hold b hlt]
      exact h.out b fun x => hb (.inl x)
    · refine .inl ⟨cutW_new (by omega) fun e => hb (.inr e), fun o ho => ?_⟩
      rw [cutW_new (by omega) fun e => hb (.inr e)] at ho
      have := hp b o (by omega) ho
      cases o <;> first | rfl | exact this.elim
  hid := fun b hb => by
    by_cases hlt : b < N
    · rw [cutW_old hN (by omega) hlt, hold b hlt]
      exact h.hid b (hb.elim id fun e => by omega)
    · rcases hb with hb | rfl
      · obtain ⟨c, e, fr, h1, h2⟩ := h.hid b hb
        exact absurd (Array.getElem?_eq_some_iff.1 h1).1 (by omega)
      · refine ⟨_, _, _, ?_, hwg⟩
        rw [cutW_get, show w'.heap[N + 3]? = some (Go.ConcR.wgBlock ty 0 0) from hwg, Option.map_some, if_neg (by omega), if_pos rfl]
        rfl
  low := fun b hb => by
    have := h.grown
    rcases hb with hb | hb
    · exact h.low b hb
    · omega
  grown := by
    have := h.grown
    simp [cutW]
    omega
  ok := fun b o ho => by
    by_cases hlt : b < N
    · rw [cutW_old hN (by omega) hlt] at ho
      exact h.ok b o ho
    · have plain_ok : ∀ o, PlainO o → okObj T o := fun o h => by
        cases o with
        | cells _ _ _ => exact ⟨by simp, by simp, by simp⟩
        | chan _ _ _ _ _ _ => exact ⟨by simp, by simp, by simp⟩
        | _ => exact h.elim
      rw [cutW_get] at ho
      obtain ⟨o', h1, rfl⟩ := Option.map_eq_some_iff.1 ho
      have hpo := hp b o' (by omega) h1
      rw [if_neg hlt]
      split
      · cases o' with
        | cells _ _ _ => exact ⟨by simp, by simp, by simp⟩
        | chan _ _ _ _ _ _ => exact ⟨by simp, by simp, by simp⟩
        | _ => exact hpo.elim
      · exact plain_ok _ hpo

structure Sums (w : World) (n q : Nat) (avs : Nat → Nat → Int) (v : Value) (w' : World) : Prop where
  val : v = .slice (some ⟨w.heap.size + 4 + 3 * n, 0, none⟩) q q
  sums : ∃ ys, w'.heap[w.heap.size + 4 + 3 * n]? = some (.cells ys 3) ∧ ys.size = q ∧ ∀ x, x < q → ys[x]? = some (.int .i64 (sumC avs n 0 x))
  old : ∀ b, b < w.heap.size → w'.heap[b]? = w.heap[b]?
  os : w'.os = w.os
  output : w'.output = w.output

theorem totals_b {X w : World} {n q vb vo vcap : Nat} {row : Nat → Value} {fA : FuncId} {cap : Array Value} {avs : Nat → Nat → Int} (hn : n < 2147483648) (h1n : 0 < n) (hq : q < 2147483648)
    (hsum : ∀ c l x, c < n → l ≤ q → x < q → 0 ≤ sumC avs c l x ∧ sumC avs c l x ≤ 1000000)
    (hrow : ∀ i, i < n → w.cell? ⟨vb, vo + i, none⟩ = some (row i)) (hsl : ∀ i, i < n → ∃ ra rl rc, row i = .slice ra rl rc)
    (hask : ∀ (H : Nat → Prop) (W : World) (m0 : Nat) (Anch Fin : Goroutine → World → Prop), Rel (duo Try.prog X) H w W → ∀ k, k < n → ∃ mA, ∀ number, number < q → ∀ w', WK (phT Try.prog w.heap.size n q m0 W (fun c l => .int .i64 (avs c l)) H Anch Fin) w.heap.size k (row k) (.func (.func fA) #[] cap) w' →
      CallsC Try.prog false (RW (phT Try.prog w.heap.size n q m0 W (fun c l => .int .i64 (avs c l)) H Anch Fin) k) (DW (phT Try.prog w.heap.size n q m0 W (fun c l => .int .i64 (avs c l)) H Anch Fin) k) fA (#[row k, .int .i64 number] ++ cap) mA w'
        (fun v w2 => WK (phT Try.prog w.heap.size n q m0 W (fun c l => .int .i64 (avs c l)) H Anch Fin) w.heap.size k (row k) (.func (.func fA) #[] cap) w2 ∧ v = .int .i64 (avs k number))) :
    CallsB (duo Try.prog X) 54 #[.slice (some ⟨vb, vo, none⟩) n vcap, .int .i64 q, .func (.func fA) #[] cap] w (Sums w n q avs) := by
  intro c H fr cs h1 h2 h3 h4
  obtain ⟨N, hN⟩ : ∃ N, w.heap.size = N := ⟨_, rfl⟩
  have hNW : c.W.heap.size = N := h2.size.trans hN
  obtain ⟨mP, hP⟩ := prelude_m (fr := fr) (cs := cs) (n := n) (q := q) (vb := vb) (vo := vo) (vcap := vcap) (fA := fA) (cap := cap) hn c.W
  rw [← h4, hNW] at hP
  obtain ⟨N1, gs1, a1, w1, sl1, t1, q1, hrun1, hsz1, h01, hst, hL1, hP1⟩ := walk_beside (P := Try.prog) (Shun := ShunH H) (B := c.W.heap.size) (D := Hush) (Stop := _)
    (fun w w' es hd e he => by rw [hd] at he; simp at he) _ mP c.gs c.g c.W c.sl c.t c.q (Nat.le_refl _) h1.at0 h1.leave h1.past hP
  obtain ⟨hX, T, rfl, hTS⟩ := hst
  have hH : ∀ b, H b → b < N := fun b hb => by
    obtain ⟨_, _, _, x, _⟩ := h2.hid b hb
    rw [← hN]; exact (Array.getElem?_eq_some_iff.1 x).1
  have hvb0 := hrow 0 h1n
  have hvb : vb < N ∧ ¬ H vb := by
    obtain ⟨x1, x2, _⟩ := cell_real h2 hvb0
    exact ⟨by rw [← hNW]; exact x2, x1⟩
  have hrowW : ∀ i, i < n → c.W.cell? ⟨vb, vo + i, none⟩ = some (row i) := fun i hi => by
    obtain ⟨_, _, x3⟩ := cell_real h2 (hrow i hi)
    exact (cell_eq x3).trans (hrow i hi)
  rw [hN] at hask
  rw [hNW] at hP1
  obtain ⟨ans, hans⟩ : ∃ ans : Nat → Nat → Value, ans = fun c l => .int .i64 (avs c l) := ⟨_, rfl⟩
  obtain ⟨m0, hm0⟩ : ∃ m0, gs1.size = m0 := ⟨_, rfl⟩
  have hm : 0 < m0 := by rw [← hm0]; exact (Array.getElem?_eq_some_iff.1 h01).1
  obtain ⟨Fin, hFd⟩ : ∃ Fin : Goroutine → World → Prop, ∀ g w, Fin g w ↔ (g = G (fr.finish (.slice (some ⟨N + 4 + 3 * n, 0, none⟩) q q)) cs ∧ MF c.W N n q avs n 0 w) := ⟨_, fun _ _ => Iff.rfl⟩
  obtain ⟨Anch, hAd⟩ : ∃ Anch : Goroutine → World → Prop, ∀ g w, Anch g w ↔ ∃ T, TW N n q T ∧ AnchT (phT Try.prog N n q m0 c.W ans H (fun _ _ => False) (fun _ _ => False)) link (MF c.W N n q avs n 0) (waitFr Try.f54 T) (fr :: cs) g w := ⟨_, fun _ _ => Iff.rfl⟩
  obtain ⟨mF, hmF⟩ := fin_m (N := N) (n := n) (q := q) (m0 := m0) (W0 := c.W) (ans := ans) (H := H) (Anch := Anch) (Fin := Fin) (avs := avs) (fr := fr) (cs := cs) (fun w h => (hFd _ _).2 ⟨rfl, h⟩)
  have hmA := hask H c.W m0 Anch Fin h2
  rw [← hans] at hmA
  have hOk : (phT Try.prog N n q m0 c.W ans H Anch Fin).Ok := phT_ok hH hn h1n hm (fun g w ha => by
    obtain ⟨T, hT, hAn⟩ := (hAd _ _).1 ha
    refine ⟨by obtain ⟨_, rfl, _⟩ := hAn; rfl, ?_⟩
    exact round_t (Φ := phT Try.prog N n q m0 c.W ans H Anch Fin) (L := link) (F := MF c.W N n q avs n 0) (b₀ := base 54) (a₀ := ⟨T, []⟩) (ops₀ := opsWt Try.f54) (i₀ := 0) (rest₀ := []) (k₀ := [.code (mainE Try.f54)]) (cs := fr :: cs) (mT := mF) wgLib rfl
      (fun g w h => (hAd g w).2 ⟨T, hT, h⟩) (fun _ _ r h => MF.rely h r) (fun w hw _ => hmF T hT w hw) g w hAn) (fun g w hf => by obtain ⟨rfl, _⟩ := (hFd _ _).1 hf; rfl)
  obtain ⟨mS, hS⟩ := spawns_m (N := N) (n := n) (q := q) (m0 := m0) (W0 := c.W) (ans := ans) (H := H) (Anch := Anch) (Fin := Fin) (avs := avs) (fr := fr) (cs := cs) (vcap := vcap) (row := row) hH (fun c l _ _ => by rw [hans]) hsum hq hn h1n (fun T hT g w h => (hAd g w).2 ⟨T, hT, h⟩) hvb.1 hvb.2 hrowW hsl (fun k hk => let ⟨mA, h⟩ := hmA k hk; ⟨mA, fun number hnu w hw => (h number hnu w hw).mono fun v w' h => ⟨h.1, h.2.trans (by rw [hans])⟩⟩) n (Nat.le_refl n)
  rw [Nat.sub_self] at hS
  have hsp : Spawns (phT Try.prog N n q m0 c.W ans H Anch Fin) n (frM fr cs T (headS Try.f54)) w1 := by
    rw [spawns_iff, show (phT Try.prog N n q m0 c.W ans H Anch Fin).n - n = 0 from Nat.sub_self n]
    exact ⟨mS, hS T undef undef hTS w1 (start_ms hNW hX)⟩
  have hms := start_ms (vv := undef) (av := undef) hNW hX
  obtain ⟨N2, gs2, a2, w2, sl2, t2, q2, hrun2, hsz2, h02, hfin2, hL2, hP2, hold, hos2, hout2, hpl2, hwg2, hB2⟩ := team_runs (Φ := phT Try.prog N n q m0 c.W ans H Anch Fin) (sl := sl1) hOk h01 hm0 hL1 hP1 hms.old (by obtain ⟨d, rfl⟩ := hX; rfl) (by obtain ⟨d, rfl⟩ := hX; rfl) (by have := hms.size; simp only; omega) (start_plain hNW hX) (start_wg hNW hX) hsp
  obtain ⟨rfl, hMF⟩ := (hFd _ _).1 hfin2
  obtain ⟨ys, hy1, hy2, hy3⟩ := hMF.sums
  have hbig : N + 4 + 3 * n < w2.heap.size := (Array.getElem?_eq_some_iff.1 hy1).1
  refine ⟨_, cutW w w2 N, ⟨by rw [hN], ⟨ys, ?_, hy2, hy3⟩, fun b hb => cutW_old hN (by omega) (by omega), rfl, rfl⟩, fun b => H b ∨ b = N + 3, ⟨gs2, G (fr.finish (.slice (some ⟨N + 4 + 3 * n, 0, none⟩) q q)) cs, w2, sl2, t2, q2⟩,
    Cfg.to_trans (b := ⟨gs1, frM fr cs T (headS Try.f54), w1, sl1, t1, q1⟩) ⟨N1, hrun1, Nat.le_of_eq hsz1.symm⟩ ⟨N2, hrun2, hsz2⟩, ⟨h02, rfl, hL2, hP2⟩, cutW_rel hN h2 (by omega) hold hos2 hout2 hpl2 hwg2, ?_, rfl⟩
  · rw [hN, cutW_new (by omega) (by omega)]
    exact hy1
  · have hfr := h3 fr (by simp)
    exact ⟨rfl, rfl, ok_finish hfr.frame _, fun x hx => h3 x (List.mem_cons_of_mem _ hx), .inl ((finish_mode fr _).trans hfr.mode)⟩
end

section
open Go.Conc Go.RowKit
open Go.ConcN (WgLive)

section
variable {X w W w' : World} {H : Nat → Prop} {N n q m0 k : Nat} {ans : Nat → Nat → Value} {Anch Fin : Goroutine → World → Prop} {view ask : Value}

theorem wk_cell (hr : Rel (duo Try.prog X) H w W) (hw : WK (phT Try.prog w.heap.size n q m0 W ans H Anch Fin) w.heap.size k view ask w') {a : Addr} {v : Value} (h : w.cell? a = some v) :
    (phT Try.prog w.heap.size n q m0 W ans H Anch Fin).Rd k a.block ∧ w'.cell? a = some v := by
  obtain ⟨h1, h2, h3⟩ := cell_real hr h
  have hlt : a.block < w.heap.size := by rw [← hr.size]; exact h2
  refine ⟨.inl ⟨hlt, h1⟩, ?_⟩
  have e := (hw.old a.block hlt h1).trans h3
  unfold World.cell? at h ⊢
  rw [e]
  exact h
theorem wk_nums (hr : Rel (duo Try.prog X) H w W) (hw : WK (phT Try.prog w.heap.size n q m0 W ans H Anch Fin) w.heap.size k view ask w') {b off : Nat} {xs : List Int} (h0 : 0 < xs.length) (h : Nums w b off xs) :
    Lk (phT Try.prog w.heap.size n q m0 W ans H Anch Fin) k b off xs w' :=
  ⟨(wk_cell hr hw (h 0 h0)).1, fun j hj => (wk_cell hr hw (h j hj)).2⟩
end

theorem hask_costs {X w : World} {n q L bx pb po pcap : Nat} {bP oP cP bV oV cV : Nat → Nat} {P V : Nat → List Int} (h1 : 1 ≤ L) (h8 : L ≤ 8)
    (hbox : w.cell? ⟨bx, 0, none⟩ = some (.slice (some ⟨pb, po, none⟩) q pcap)) (hrow : ∀ x, x < q → w.cell? ⟨pb, po + x, none⟩ = some (.slice (some ⟨bP x, oP x, none⟩) L (cP x)))
    (hP : ∀ x, x < q → Nums w (bP x) (oP x) (P x) ∧ (P x).length = L) (hV : ∀ k, k < n → Nums w (bV k) (oV k) (V k) ∧ (V k).length = L) :
    ∀ (H : Nat → Prop) (W : World) (m0 : Nat) (Anch Fin : Goroutine → World → Prop), Rel (duo Try.prog X) H w W → ∀ k, k < n → ∃ mA, ∀ number, number < q → ∀ w', WK (phT Try.prog w.heap.size n q m0 W (fun c l => .int .i64 ((quar (P l) (V c) : Nat) : Int)) H Anch Fin) w.heap.size k (.slice (some ⟨bV k, oV k, none⟩) L (cV k)) (.func (.func 55) #[] #[.pointer (some ⟨bx, 0, none⟩)]) w' →
      CallsC Try.prog false (RW (phT Try.prog w.heap.size n q m0 W (fun c l => .int .i64 ((quar (P l) (V c) : Nat) : Int)) H Anch Fin) k) (DW (phT Try.prog w.heap.size n q m0 W (fun c l => .int .i64 ((quar (P l) (V c) : Nat) : Int)) H Anch Fin) k) 55 (#[.slice (some ⟨bV k, oV k, none⟩) L (cV k), .int .i64 number] ++ #[.pointer (some ⟨bx, 0, none⟩)]) mA w'
        (fun v w2 => WK (phT Try.prog w.heap.size n q m0 W (fun c l => .int .i64 ((quar (P l) (V c) : Nat) : Int)) H Anch Fin) w.heap.size k (.slice (some ⟨bV k, oV k, none⟩) L (cV k)) (.func (.func 55) #[] #[.pointer (some ⟨bx, 0, none⟩)]) w2 ∧ v = .int .i64 ((quar (P number) (V k) : Nat) : Int)) := by
  intro H W m0 Anch Fin hr k hk
  obtain ⟨Φ, hΦ⟩ : ∃ Φ, Φ = phT Try.prog w.heap.size n q m0 W (fun c l => .int .i64 ((quar (P l) (V c) : Nat) : Int)) H Anch Fin := ⟨_, rfl⟩
  obtain ⟨m, hm⟩ := askCosts (Φ := phT Try.prog w.heap.size n q m0 W (fun c l => .int .i64 ((quar (P l) (V c) : Nat) : Int)) H Anch Fin) (k := k)
  refine ⟨m, fun number hnu w' hw => ?_⟩
  obtain ⟨hp1, hp2⟩ := hP number hnu
  obtain ⟨hv1, hv2⟩ := hV k hk
  have hb := wk_cell hr hw hbox
  have hrw := wk_cell hr hw (hrow number hnu)
  have hl1 := wk_nums hr hw (by omega) hp1
  have hl2 := wk_nums hr hw (by omega) hv1
  have := hm (WK (phT Try.prog w.heap.size n q m0 W (fun c l => .int .i64 ((quar (P l) (V c) : Nat) : Int)) H Anch Fin) w.heap.size k (.slice (some ⟨bV k, oV k, none⟩) L (cV k)) (.func (.func 55) #[] #[.pointer (some ⟨bx, 0, none⟩)])) bx pb po q pcap number (bP number) (oP number) (cP number) (bV k) (oV k) (cV k) (P number) (V k) (by omega) (by omega) (by omega) hnu w'
    ⟨hb.1, hb.2, hrw.1, by rw [hp2]; exact hrw.2, hl1, hl2, hw, fun _ _ r h => h.rely r⟩
  rw [hp2] at this
  exact this

theorem hask_together {X w : World} {n L bx : Nat} {bV oV cV : Nat → Nat} {V : Nat → List Int} (h1 : 1 ≤ L) (h8 : L ≤ 7)
    (hbox : w.cell? ⟨bx, 0, none⟩ = some (.int .i64 L)) (hV : ∀ k, k < n → Nums w (bV k) (oV k) (V k) ∧ (V k).length = L) :
    ∀ (H : Nat → Prop) (W : World) (m0 : Nat) (Anch Fin : Goroutine → World → Prop), Rel (duo Try.prog X) H w W → ∀ k, k < n → ∃ mA, ∀ number, number < L * L → ∀ w', WK (phT Try.prog w.heap.size n (L * L) m0 W (fun c l => .int .i64 (if (V c).getD (l / L) 0 = (V c).getD (l % L) 0 then 1 else 0)) H Anch Fin) w.heap.size k (.slice (some ⟨bV k, oV k, none⟩) L (cV k)) (.func (.func 63) #[] #[.pointer (some ⟨bx, 0, none⟩)]) w' →
      CallsC Try.prog false (RW (phT Try.prog w.heap.size n (L * L) m0 W (fun c l => .int .i64 (if (V c).getD (l / L) 0 = (V c).getD (l % L) 0 then 1 else 0)) H Anch Fin) k) (DW (phT Try.prog w.heap.size n (L * L) m0 W (fun c l => .int .i64 (if (V c).getD (l / L) 0 = (V c).getD (l % L) 0 then 1 else 0)) H Anch Fin) k) 63 (#[.slice (some ⟨bV k, oV k, none⟩) L (cV k), .int .i64 number] ++ #[.pointer (some ⟨bx, 0, none⟩)]) mA w'
        (fun v w2 => WK (phT Try.prog w.heap.size n (L * L) m0 W (fun c l => .int .i64 (if (V c).getD (l / L) 0 = (V c).getD (l % L) 0 then 1 else 0)) H Anch Fin) w.heap.size k (.slice (some ⟨bV k, oV k, none⟩) L (cV k)) (.func (.func 63) #[] #[.pointer (some ⟨bx, 0, none⟩)]) w2 ∧ v = .int .i64 (if (V k).getD (number / L) 0 = (V k).getD (number % L) 0 then 1 else 0)) := by
  intro H W m0 Anch Fin hr k hk
  obtain ⟨m, hm⟩ := askTogether (Φ := phT Try.prog w.heap.size n (L * L) m0 W (fun c l => .int .i64 (if (V c).getD (l / L) 0 = (V c).getD (l % L) 0 then 1 else 0)) H Anch Fin) (k := k)
  refine ⟨m, fun number hnu w' hw => ?_⟩
  obtain ⟨hv1, hv2⟩ := hV k hk
  have hb := wk_cell hr hw hbox
  have hl2 := wk_nums hr hw (by omega) hv1
  have hx : number / L < L := Nat.div_lt_of_lt_mul hnu
  have hy : number % L < L := Nat.mod_lt _ (by omega)
  have h64 : L * L ≤ 49 := Nat.mul_le_mul h8 h8
  have := hm (WK (phT Try.prog w.heap.size n (L * L) m0 W (fun c l => .int .i64 (if (V c).getD (l / L) 0 = (V c).getD (l % L) 0 then 1 else 0)) H Anch Fin) w.heap.size k (.slice (some ⟨bV k, oV k, none⟩) L (cV k)) (.func (.func 63) #[] #[.pointer (some ⟨bx, 0, none⟩)])) bx (bV k) (oV k) (cV k) (V k) (number / L) (number % L) number (by omega) (by omega) (by omega) (by rw [hv2]) (by rw [hv2]) (by omega) w'
    ⟨hb.1, by rw [hv2]; exact hb.2, hl2, hw, fun _ _ r h => h.rely r⟩
  rw [hv2] at this
  exact this
end

section
open Go.Conc Go.RowKit

@[go_sem] theorem run_makeFn (P : Program) (fn : Fn) (first cap : Array Value) (w : World) : (Instr.makeFunc fn first cap).run P w = .ok (.func fn first cap) w := rfl
@[simp] theorem own_heap (w : World) (τ : Nat → Question → Nat) : (ownTape w τ).heap = w.heap := rfl
@[simp] theorem own_cellS (w : World) (τ : Nat → Question → Nat) (a : Addr) : (ownTape w τ).cell? a = w.cell? a := rfl
@[simp] theorem own_own (w : World) (τ τ' : Nat → Question → Nat) : ownTape (ownTape w τ) τ' = ownTape w τ' := rfl
@[simp] theorem own_allocS (w : World) (τ : Nat → Question → Nat) (o : Obj) : (ownTape w τ).alloc o = ownTape (w.alloc o) τ := rfl
theorem WpB.own {T : Two} {cd : Code} {Q : Exit → Act → World → Prop} {a : Act} {w : World} {τ : Nat → Question → Nat} (h : WpB T cd Q a w) : WpB T cd Q a (ownTape w τ) :=
  fun c b k cs hat => h c b k cs (hat.tape rfl rfl rfl)

theorem WpB.ret {T : Two} (K : Kit T) {Q : Exit → Act → World → Prop} {a : Act} {w : World} (h : Q .ret a w) : WpB T .ret Q a w :=
  fun c b k cs hat => ⟨.ret, a, w, h, _, hat.step K (fun _ => step_ret) (.inr rfl)⟩
theorem WpB.gen {T : Two} {cd : Code} {Q : Exit → Act → World → Prop} {a : Act} {w : World} (h : ∀ w1, w1 = w → WpB T cd Q a w1) : WpB T cd Q a w := h w rfl

def OutsS (Q : Exit → Act → World → Prop) : Prop := ∀ e a w, Q e a w → e = .normal ∨ (∃ id, e = .exit id) ∨ e = .ret
theorem outs_body (P : Program) (fn : Func) (R : Value → World → Prop) : OutsS (bodyB P fn R) := fun e a w h => by
  cases e with
  | normal => exact .inl rfl
  | ret => exact .inr (.inr rfl)
  | exit id => exact .inr (.inl ⟨id, rfl⟩)
  | goto l => exact h.elim
  | panic ch => exact h.elim
  | outgrown => exact h.elim
theorem outs_then {K : Act → World → Prop} {Q : Exit → Act → World → Prop} (h : OutsS Q) : OutsS (Exit.then K Q) := fun e a w hq => by
  cases e with
  | normal => exact .inl rfl
  | _ => exact h _ a w hq
theorem outs_block {id : Nat} {Q : Exit → Act → World → Prop} (h : OutsS Q) : OutsS (Exit.inBlock id Q) := fun e a w hq => by
  cases e with
  | exit id' => exact .inr (.inl ⟨id', rfl⟩)
  | _ => exact h _ a w hq

set_option maxRecDepth 100000 in
theorem costs_b {X w : World} {a : Option Addr} {n cap : Nat} {v : Value} {R : Value → World → Prop}
    (ht : ∀ w1, w1.heap = w.heap.push (.cells #[.slice a n cap] 23) → w1.os = w.os → w1.output = w.output → CallsB (duo Try.prog X) 54 #[v, .int .i64 n, .func (.func 55) #[] #[.pointer (some ⟨w.heap.size, 0, none⟩)]] w1 R) : CallsB (duo Try.prog X) 32 #[.slice a n cap, v] w R := by
  refine CallsB.of_body kit (fn := Try.f32) Tryp.func32 Try.func32 rfl (by kernel_rfl) (by kernel_rfl) ?_
  simp only [Try.ntmps32, List.size_toArray, List.length_cons, List.length_nil, Nat.reduceAdd, Nat.reduceSub, Array.replicate_succ, Array.replicate_zero, List.push_toArray, List.append_toArray, List.nil_append, List.cons_append]
  refine WpB.seq kit (WpB.of_wp kit (fun τ => ?_) ?_)
  · go_wp
    refine WpB.gen fun w1 hw1 => ?_
    have he : w1.heap = w.heap.push (.cells #[.slice a n cap] 23) ∧ w1.os = w.os ∧ w1.output = w.output := by subst hw1; exact ⟨rfl, rfl, rfl⟩
    have hc : w1.cell? ⟨w.heap.size, 0, none⟩ = some (.slice a n cap) := by
      unfold World.cell?
      rw [he.1]
      simp only [Array.getElem?_push_size]
      rfl
    clear hw1
    refine WpB.seq kit (WpB.region kit ?_)
    simp only [List.size_toArray, List.length_cons, List.length_nil, Nat.reduceAdd, Nat.zero_add, List.range, List.range.loop]
    iterate 4
      unfold OpsB
      simp only [List.getElem?_toArray, List.getElem?_cons_zero, List.getElem?_cons_succ]
      rw [if_pos (by rfl)]
      left
      intro _
      unfold Oper.wp
      go_simp
    unfold OpsB
    simp only [List.getElem?_toArray, List.getElem?_cons_zero, List.getElem?_cons_succ]
    rw [if_pos (by rfl)]
    right
    refine ⟨54, #[v, .int .i64 n, .func (.func 55) #[] #[.pointer (some ⟨w.heap.size, 0, none⟩)]], fun W => ⟨by kernel_rfl, by kernel_rfl⟩, ?_⟩
    refine (ht (ownTape w1 _) he.1 he.2.1 he.2.2).mono fun r w2 hr => ?_
    unfold OpsB
    simp only [List.getElem?_toArray, List.getElem?_cons_zero, List.getElem?_cons_succ]
    rw [if_pos (by rfl)]
    left
    intro _
    unfold Oper.wp
    go_simp
    unfold OpsB
    refine WpB.own (WpB.ret kit ⟨rfl, r, fun τ => results_tmp (fn := Try.f32) (t := 4) rfl _ _ _, hr⟩)
  · exact outs_then (outs_body _ _ _)
end

section
open Go.Conc

def veilW (W : World) : World := { W with heap := W.heap.map veil }
theorem veilW_get (W : World) (b : Nat) : (veilW W).heap[b]? = (W.heap[b]?).map veil := by simp [veilW]
theorem veilW_size (W : World) : (veilW W).heap.size = W.heap.size := by simp [veilW]

theorem veilW_rel {T : Two} {W : World} (hX : T.X = W) : Rel T (fun _ => False) (veilW W) W where
  size := (veilW_size W).symm
  os := rfl
  output := rfl
  out := fun b _ => .inr ⟨veilW_get W b, by rw [hX]⟩
  hid := fun b h => h.elim
  ok := fun b o ho => by
    rw [veilW_get] at ho
    obtain ⟨o', _, rfl⟩ := Option.map_eq_some_iff.1 ho
    cases o' <;> exact ⟨by simp [veil], by simp [veil], by simp [veil]⟩
  low := fun b h => h.elim
  grown := by rw [hX, veilW_size]; exact Nat.le_refl _

theorem Rel.back {T : Two} {H : Nat → Prop} {w' W' : World} (h : Rel T H w' W') {b : Nat} (hb : b < T.X.heap.size) (hs : w'.heap[b]? = (veilW T.X).heap[b]?) : W'.heap[b]? = T.X.heap[b]? := by
  have hn : ¬ H b := fun hh => by have := h.low b hh; omega
  rcases h.out b hn with ⟨x, y⟩ | ⟨_, y⟩
  · rw [← x, hs, veilW_get]
    cases hX : T.X.heap[b]? with
    | none => rfl
    | some o =>
      rw [Option.map_some, veil_same]
      refine y _ ?_
      rw [hs, veilW_get, hX]
      rfl
  · exact y

structure Bel (w w' : World) : Prop where
  os : w'.os = w.os
  output : w'.output = w.output
  size : w.heap.size ≤ w'.heap.size
  block : ∀ b, b < w.heap.size → w'.heap[b]? = w.heap[b]?

section
variable {P : Program} {W : World}

theorem past_start {Shun : Loc → Prop} {B : Nat} : Past Shun B #[] :=
  ⟨fun said => by rintro ⟨i, j, _, ⟨a, b, ha, _⟩, _⟩; simp [Trace.act?] at ha, fun i a ha => by simp [touchAt, Trace.act?] at ha, fun i g hg => by simp [Trace.g?] at hg, rfl, by simp⟩

theorem law_runs {T : Two} (K : Kit T) (hX : T.X = W) {f : FuncId} {fn : Func} {cd : Code} {t : Tmp} {args : Array Value} {R : Value → World → Prop} (hf : T.pr.funcs[f]? = some fn) (hf' : T.P.funcs[f]? = some fn) (hb : fn.body = some cd)
    (hok : okCode T.P cd = true) (hi : T.P.inits.idxOf? f = none) (hres : fn.results = #[.tmp t])
    (h : WpB T cd (bodyB T.pr fn R) { tmps := args ++ Array.replicate (fn.ntmps - args.size) undef, defers := [] } (veilW W)) :
    ∃ M last o w' t', runNT T.P (M + 1) (solo (G (Frame.enter T.P f args .normal) []) W) #[] = (.ended o w', t') ∧ runN T.P M (solo (G (Frame.enter T.P f args .normal) []) W) = .next last ∧ step T.P last = .ended o w' ∧
      Go.Conc.Good T.P (fun v W' => ∃ H w1, R v w1 ∧ Rel T H w1 W') last o w' t' := by
  obtain ⟨b, hbd⟩ : ∃ b : Frame, b = { (default : Frame) with fn := f, kind := .normal } := ⟨_, rfl⟩
  have henter : Frame.enter T.P f args .normal = b.at { tmps := args ++ Array.replicate (fn.ntmps - args.size) undef, defers := [] } [.code cd] := by
    simp [Frame.enter, Frame.at, hf', hb, hbd]
  have hkind : b.kind = .normal := by rw [hbd]
  have hfn : b.fn = f := by rw [hbd]
  rw [henter]
  obtain ⟨g, hg⟩ : ∃ g, g = G (b.at { tmps := args ++ Array.replicate (fn.ntmps - args.size) undef, defers := [] } [.code cd]) [] := ⟨_, rfl⟩
  rw [← hg]
  have hc0 : Cfg.ok T (fun _ => False) ⟨#[g], g, W, none, #[], fun _ => 0⟩ := ⟨rfl, by rw [hg]; rfl, leavers_one _ _, past_start⟩
  have hG : okGS T g := by
    rw [hg]
    refine ⟨rfl, rfl, ⟨fun it hit => ?_, fun d hd => (by cases hd), hkind, (by show T.P.inits.idxOf? b.fn = none; rw [hfn]; exact hi), fun _ => (by show ∃ fn, T.pr.funcs[b.fn]? = some fn ∧ T.P.funcs[b.fn]? = some fn; rw [hfn]; exact ⟨fn, hf, hf'⟩)⟩, fun x hx => (by cases hx), .inl rfl⟩
    obtain rfl : it = .code cd := by simpa [Frame.at, G] using hit
    exact hok
  obtain ⟨e, a', w', hq, harr⟩ := h ⟨#[g], g, W, none, #[], fun _ => 0⟩ b [] [] (At.start hc0 (veilW_rel hX) hG hg)
  have last : ∀ todo, bodyB T.pr fn R .ret a' w' → At T ⟨#[g], g, W, none, #[], fun _ => 0⟩ { b.at a' todo with mode := .returning } [] w' →
      ∃ M last o w2 t', runNT T.P (M + 1) (solo g W) #[] = (.ended o w2, t') ∧ runN T.P M (solo g W) = .next last ∧ step T.P last = .ended o w2 ∧ Go.Conc.Good T.P (fun v W' => ∃ H w1, R v w1 ∧ Rel T H w1 W') last o w2 t' := by
    intro todo ⟨hd, v, hr, hR⟩ hat
    have hv : a'.tmps.getD t undef = v := by
      have := hr (fun _ _ => 0)
      rw [results_tmp hres] at this
      injection this
    obtain ⟨H, c1, ⟨N1, hrun, _⟩, h2, h3, h4, h5⟩ := hat
    obtain ⟨N, last, o, w2, t2, e1, e2, e3, e4⟩ := beside_ends (P := T.P) (Shun := ShunH H) (B := c1.W.heap.size) (D := fun _ _ es => es = #[]) (Post := fun v W' => ∃ H w1, R v w1 ∧ Rel T H w1 W') (sl := c1.sl)
      (fun w w' es hes e he => by rw [hes] at he; simp at he) h2.at0 h2.leave h2.past (n := 0) (fun w₁ h₁ => by
        obtain ⟨d, rfl⟩ := h₁
        refine ⟨h2.run, v, #[], ?_, by simp, H, w', hR, ⟨h3.size, h3.os, h3.output, h3.out, h3.hid, h3.ok, h3.low, h3.grown⟩⟩
        have hfP : T.P.funcs[b.fn]? = some fn := by rw [hfn]; exact hf'
        rw [h5]
        have hib : T.P.inits.idxOf? b.fn = none := by rw [hfn]; exact hi
        have hr1 := results_tmp hres a'.tmps T.P (c1.W.at d)
        have hr2 := events_results_tmp (P := T.P) (w := c1.W.at d) hres a'.tmps #[]
        rw [hv] at hr1
        simp [G, stepG, unwind, doReturn, Frame.at, hkind, hd, hfP, hib, hr1, hr2, Go.seen, GStep.after])
    refine ⟨N1 + N, last, o, w2, t2, ?_, ?_, e3, e4⟩
    · rw [Nat.add_assoc, runNT_add, solo_eq_crowd]
      rw [show runNT T.P N1 (crowd #[g] W none) #[] = _ from hrun]
      exact e1
    · rw [runN_add, ← runNT_fst T.P _ _ #[], solo_eq_crowd]
      rw [show runNT T.P N1 (crowd #[g] W none) #[] = _ from hrun]
      exact e2
  cases e with
  | normal => exact last [] hq (At.step K harr (fun _ => step_end) (.inr rfl))
  | ret => obtain ⟨todo, hat⟩ := harr; exact last todo hq hat
  | exit id => exact hq.elim
  | goto l => exact hq.elim
  | panic ch => exact hq.elim
  | outgrown => exact hq.elim
end
end

end Go.Proofs.Ytfiaiephbemdoaa
