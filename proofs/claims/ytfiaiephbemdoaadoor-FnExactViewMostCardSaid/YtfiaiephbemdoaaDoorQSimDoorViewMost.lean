/-
  The exact law of ViewMost: for every input the Go text of laws.FnExactViewMost returns true, and each argument reads afterwards as before. No condition.
-/
import Derived.Test.YtfiaiephbemdoaaDoorMgK
import Derived.Test.YtfiaiephbemdoaaDoorMgL
import Derived.Test.YtfiaiephbemdoaaDoorMgM
import Derived.Test.YtfiaiephbemdoaaDoorRows
import Derived.Test.YtfiaiephbemdoaaDoorCards
import Derived.Test.YtfiaiephbemdoaaDoorTie
import Derived.Deep.Matrix
import Derived.ProofKit
import Derived.OpenShut
import Derived.ShutString
import Derived.ChangeOld
import Derived.Conc.LeavingOf
import Derived.LaidMore
import Derived.Stop.Joined
import Derived.SevenTiedAt
import Derived.Handed
namespace Go.Proofs.YtfiaiephbemdoaaDoor.fnExactViewMost
open Go.ChangeShapes Go.WideShapes Go.ChangeAt Go.RowKit Go.Conc
open Go.ChangeMaps (open_string shut_string)
set_option linter.unusedVariables false
set_option linter.unusedSimpArgs false
set_option linter.unnecessarySimpa false

theorem own : ownKnob Tryd.prog.godebug = none := by kernel_rfl
theorem laidOut : laidOutB Tryd.prog = true := by kernel_rfl

theorem tab_veil {W : World} (h : Tab W) : Tab (veilW W) := ⟨by rw [veilW_size]; exact h.1, fun j hj => cell_veil (h.2 j hj)⟩

set_option maxRecDepth 100000 in
set_option maxHeartbeats 16000000 in
theorem small {X w : World} (a0 : Option Addr) (len0 cap0 : Nat) (xs0 : List (List Int)) (hR0 : RdM w (.slice a0 len0 cap0) xs0) (hl0 : xs0.length + total xs0 ≤ 1048576) (hT : Tab w) (cd : Code) (hcd : Tryd.f4.body = some cd) :
    WpB (duo Tryd.prog X) cd (bodyB (cutP Tryd.prog) Tryd.f4 fun v w' => v = .bool true ∧ Bel w w') { tmps := #[.slice a0 len0 cap0] ++ Array.replicate (Tryd.f4.ntmps - 1) undef, defers := [] } w := by
  obtain ⟨r, hr⟩ : ∃ r, r = viewMost xs0 := ⟨_, rfl⟩
  have HI : Hid (∀ (wx : World) (v0 : Value), Tab wx → RdM wx v0 xs0 → CallsB (duo Tryd.prog X) 6 #[v0] wx (fun v w' => v = .bool r ∧ Bel wx w')) := Lib.hid fun wx v0 kt k0 => by
    rw [hr]
    exact iViewMost_b (X := X) k0 kt
  have HS : Hid (∀ (wx : World) (v0 : Value), RdM wx v0 xs0 → Calls (cutP Tryd.prog) 7 #[v0] wx (GivesB wx r)) := Lib.hid fun wx v0 k0 => by
    rw [hr]
    exact sViewMost_v v0 xs0 wx k0
  clear hr
  have bel : Bel w w := Bel.refl w
  have hm0 : 0 ≤ szM xs0 := by unfold szM; rw [if_pos hl0]; omega
  have hc : Tryd.f4.body = _ := rfl
  conv at hc => rhs; whnf
  rw [hcd] at hc
  injection hc with hc
  subst hc
  clear hcd
  simp only [Tryd.ntmps4, List.size_toArray, List.length_cons, List.length_nil, Nat.reduceAdd, Nat.reduceSub, Array.replicate_succ, Array.replicate_zero, List.push_toArray, List.append_toArray, List.nil_append, List.cons_append]
  refine WpB.seq kit (WpB.of_wp kit (fun τ => ?_) (outs_then (outs_body _ _ _)))
  replace hR0 := rdm_ownT (τ := τ) hR0
  replace bel := bel_ownT (τ := τ) bel
  generalize ownTape w τ = V1 at *
  clear τ
  go_wp2
  refine WpB.seq kit (WpB.of_wp kit (fun τ => ?_) (outs_then (outs_body _ _ _)))
  replace hR0 := rdm_ownT (τ := τ) hR0
  replace bel := bel_ownT (τ := τ) bel
  generalize ownTape V1 τ = V2 at *
  clear τ
  go_wp2
  refine WpB.seq kit (WpB.of_wp kit (fun τ => ?_) (outs_then (outs_body _ _ _)))
  replace hR0 := rdm_ownT (τ := τ) hR0
  replace bel := bel_ownT (τ := τ) bel
  generalize ownTape V2 τ = V3 at *
  clear τ
  go_wp2_with fail
  refine (szIntSS_v _ xs0 _ hR0).mono ?_
  rintro e wz ⟨rfl, rfl⟩
  go_wp2
  refine WpB.seq kit (WpB.of_wp kit (fun τ => ?_) (outs_then (outs_body _ _ _)))
  replace hR0 := rdm_ownT (τ := τ) hR0
  replace bel := bel_ownT (τ := τ) bel
  generalize ownTape V3 τ = V4 at *
  clear τ
  go_wp2
  refine WpB.seq kit (WpB.of_wp kit (fun τ => ?_) (outs_then (outs_body _ _ _)))
  replace hR0 := rdm_ownT (τ := τ) hR0
  replace bel := bel_ownT (τ := τ) bel
  generalize ownTape V4 τ = V5 at *
  clear τ
  go_wp2_with fail
  refine (toIntSS_v _ xs0 _ hR0 (by omega) (fun i hi => by have := len_le_total xs0 i hi; omega)).mono ?_
  rintro e V6 ⟨v_p0, rfl, o, hb⟩
  replace hR0 := rdM_below hR0 hb
  replace bel := bel.below hb
  clear hb
  have r_p0 := ownM_rdM o
  clear o
  go_wp2_with fail
  refine (HS.out _ _ r_p0).mono ?_
  rintro e V7 ⟨rfl, hb⟩
  replace hR0 := rdM_below hR0 hb
  replace r_p0 := rdM_below r_p0 hb
  replace bel := bel.below hb
  clear hb
  clear r_p0
  go_wp2
  refine WpB.seq kit (WpB.of_wp kit (fun τ => ?_) (outs_then (outs_body _ _ _)))
  replace hR0 := rdm_ownT (τ := τ) hR0
  replace bel := bel_ownT (τ := τ) bel
  generalize ownTape V7 τ = V8 at *
  clear τ
  go_wp2_with fail
  refine (toIntSS_v _ xs0 _ hR0 (by omega) (fun i hi => by have := len_le_total xs0 i hi; omega)).mono ?_
  rintro e V9 ⟨v_x0, rfl, o, hb⟩
  replace hR0 := rdM_below hR0 hb
  replace bel := bel.below hb
  clear hb
  have r_x0 := ownM_rdM o
  clear o
  go_wp2
  refine WpB.seq kit (WpB.region kit ?_)
  simp only [List.size_toArray, List.length_cons, List.length_nil, Nat.reduceAdd, Nat.zero_add, List.range, List.range.loop]
  unfold OpsB
  simp only [List.getElem?_toArray, List.getElem?_cons_zero, List.getElem?_cons_succ]
  rw [if_pos (by rfl)]
  left
  intro _
  unfold Oper.wp
  go_simp
  unfold OpsB
  simp only [List.getElem?_toArray, List.getElem?_cons_zero, List.getElem?_cons_succ]
  rw [if_pos (by rfl)]
  right
  refine ⟨6, #[v_x0], fun W => ⟨by kernel_rfl, by kernel_rfl⟩, ?_⟩
  refine CallsB.own ((HI.out _ _ (tab_bel hT bel) r_x0).mono fun vr V10 h => ?_)
  obtain ⟨rfl, hb⟩ := h
  replace hR0 := hb.rdm hR0
  replace r_x0 := hb.rdm r_x0
  replace bel := bel.trans hb
  clear hb
  unfold OpsB
  simp only [List.getElem?_toArray, List.getElem?_cons_zero, List.getElem?_cons_succ]
  rw [if_pos (by rfl)]
  left
  intro _
  unfold Oper.wp
  go_simp
  unfold OpsB
  refine WpB.own ?_
  refine WpB.of_wp kit (fun τ => ?_) (outs_body _ _ _)
  replace hR0 := rdm_ownT (τ := τ) hR0
  replace r_x0 := rdm_ownT (τ := τ) r_x0
  replace bel := bel_ownT (τ := τ) bel
  generalize ownTape V10 τ = V11 at *
  clear τ
  go_wp2_with fail
  refine (toIntSS_v _ xs0 _ hR0 (by omega) (fun i hi => by have := len_le_total xs0 i hi; omega)).mono ?_
  rintro e V12 ⟨v_z, rfl, o, hb⟩
  replace hR0 := rdM_below hR0 hb
  replace r_x0 := rdM_below r_x0 hb
  replace bel := bel.below hb
  clear hb
  have r_z := ownM_rdM o
  clear o
  go_wp2_with fail
  refine (eqIntSS_v _ _ xs0 _ r_x0 r_z).mono ?_
  rintro e V13 ⟨rfl, hq⟩
  have hb := hq V12.heap.size
  clear hq
  replace hR0 := rdM_below hR0 hb
  replace r_x0 := rdM_below r_x0 hb
  replace r_z := rdM_below r_z hb
  replace bel := bel.below hb
  clear hb
  go_wp2
  exact ⟨rfl, _, fun τ => results_tmp (t := 2) rfl _ _ _, rfl, bel⟩

set_option maxRecDepth 100000 in
set_option maxHeartbeats 4000000 in
theorem walk (a0 : Option Addr) (len0 cap0 : Nat) (z0 : List (List Int)) (W : World) (w0 : RdM W (.slice a0 len0 cap0) z0) (hT : Tab W) :
    ∃ M last o w' t', runNT Tryd.prog (M + 1) (solo (G (Frame.enter Tryd.prog 4 #[.slice a0 len0 cap0] .normal) []) W) #[] = (.ended o w', t') ∧ runN Tryd.prog M (solo (G (Frame.enter Tryd.prog 4 #[.slice a0 len0 cap0] .normal) []) W) = .next last ∧ step Tryd.prog last = .ended o w' ∧
      Go.Conc.Good Tryd.prog (fun v W' => v = .bool true ∧ Keeps W W') last o w' t' := by
  obtain ⟨cd, hcd⟩ : ∃ cd, Tryd.f4.body = some cd := ⟨_, rfl⟩
  refine law_true (fn := Tryd.f4) (t := 2) Trydp.func4 Tryd.func4 hcd (kept_code (by kernel_rfl) hcd) (by kernel_rfl) rfl ?_
  refine (Nat.lt_or_ge 1048576 (z0.length + total z0)).elim (fun hs0 => ?_) (fun hs0 => ?_)
  · have hm1 : szM z0 < 0 := by unfold szM; rw [if_neg (by omega)]; omega
    refine WpB.of_wp kit (fun τ => ?_) (outs_body _ _ _)
    have hc : Tryd.f4.body = _ := rfl
    conv at hc => rhs; whnf
    rw [hcd] at hc
    injection hc with hc
    subst hc
    clear hcd
    simp only [Tryd.ntmps4, List.size_toArray, List.length_cons, List.length_nil, Nat.reduceAdd, Nat.reduceSub, Array.replicate_succ, Array.replicate_zero, List.push_toArray, List.append_toArray, List.nil_append, List.cons_append]
    go_wp2_with fail
    refine (szIntSS_v _ z0 _ (rdm_ownT (rdm_veil w0))).mono ?_
    rintro e wz ⟨rfl, rfl⟩
    go_wp2
    exact ⟨rfl, _, fun τ => results_tmp (t := 2) rfl _ _ _, rfl, bel_ownT (Bel.refl _)⟩
  exact small a0 len0 cap0 z0 (rdm_veil w0) hs0 (tab_veil hT) cd hcd

theorem door_met (os : Os) (args : Array Value) : laidMetH Tryd.prog [("math/bits.deBruijn32tab", Rows.laid_math_bits_deBruijn32tab), ("math/bits.deBruijn64tab", Rows.laid_math_bits_deBruijn64tab)] ((World.doorLaid Tryd.prog 400 os).forCall (fun _ _ => 0) ⟨#[], args, []⟩).memory :=
  laidMetH_of_parts3 (fuel := 8) (laidMet_of_run' 8 (by kernel_rfl) (by kernel_rfl)) (by kernel_rfl) (by kernel_rfl)

set_option maxRecDepth 100000 in
theorem lifted (os : Os) (started : os.Started) (H : Type) (enc : TypeId × Value → H) :
    ReturnsInLeavingWide {} Tryd.checked os 4 .any (fun w args => (Rows.fnExactViewMostSpec.pre enc Tryd.prog Tryd.f4 [] false w args ∧ laidMetH Tryd.prog [("math/bits.deBruijn32tab", Rows.laid_math_bits_deBruijn32tab), ("math/bits.deBruijn64tab", Rows.laid_math_bits_deBruijn64tab)] w) ∧ sizedMet enc Tryd.prog Tryd.f4 (OpenSpec.ofChange Rows.fnExactViewMostSpec) false w args)
      (Rows.fnExactViewMostSpec.post enc Tryd.prog Tryd.f4 false true false false) := by
  refine leaving_of_change_and (C := Tryd.checked) (X := fun w _ => laidMetH Tryd.prog [("math/bits.deBruijn32tab", Rows.laid_math_bits_deBruijn32tab), ("math/bits.deBruijn64tab", Rows.laid_math_bits_deBruijn64tab)] w) (fun _ _ _ hh h => h.of_heap hh) own started Tryd.func4
    (ChangeSpec.witness_shaped (enc := enc) (C := Tryd.checked) (os := os) (X := fun w _ => laidMetH Tryd.prog [("math/bits.deBruijn32tab", Rows.laid_math_bits_deBruijn32tab), ("math/bits.deBruijn64tab", Rows.laid_math_bits_deBruijn64tab)] w) false (World.doorLaid Tryd.prog 400 os) #[.slice none 0 0] 8 rfl (World.shaped_of_RefB (by kernel_rfl) (by kernel_rfl)) (by kernel_rfl) (by kernel_rfl) (by kernel_rfl) (door_met os _)) ?_
  intro W base args ds gs before hval0 hW _ _ hL _
  have hT : Tab W := tab_of_laid hL
  have hval : ∀ (j : Nat) t v, Tryd.f4.params[j]? = some t → args[j]? = some v → Value.okWide Tryd.prog W .any base t v := hval0
  have hW' := hW
  obtain ⟨p, q, hA0, hV, rfl, hfz, hnd⟩ := hW
  have hA : DataW.TrodAll enc Tryd.prog W 0 (fun _ => true) true Tryd.f4.params.toList args.toList ds p := hA0
  rw [Tryd.params4] at hA hval
  obtain ⟨v0, vs0, d0, ds0, p0, q0, hargs, rfl, rfl, h0, r0⟩ := trodAll_cons hA
  obtain ⟨rfl, rfl, rfl⟩ := trodAll_nil r0
  obtain rfl : args = #[v0] := by cases args; simp_all
  obtain ⟨rfl, rfl⟩ := trodVars_none hV
  obtain ⟨a0, len0, cap0, rfl⟩ := okWide_slice Tryd.underlying23 (hval 0 23 v0 rfl rfl)
  have k0 := h0
  have lt0 : ∀ x ∈ p0, x.block < W.heap.size := by obtain ⟨m, hm⟩ := k0; exact DataW.trod_lt m _ _ _ hm
  obtain ⟨z0, w0⟩ : ∃ xss, RdM W (.slice a0 len0 cap0) xss := by
    obtain ⟨fuel, hf⟩ := h0
    rcases Go.Deep.open_int_rows Tryd.underlying23 Tryd.underlying26 Tryd.underlying3 (by kernel_rfl) (by kernel_rfl) hf with ⟨hcs, _⟩ | ⟨x, l, c, A, L, C, Z, hcs, _, hl, hm, _, hr⟩
    · simp [Value.cells] at hcs
      obtain ⟨rfl, rfl, rfl⟩ := hcs
      exact ⟨[], none, 0, [], rfl, rfl, Nat.le_refl _, Nat.zero_le _, .inl rfl, fun i hi => by simp at hi⟩
    · simp [Value.cells] at hcs
      obtain ⟨rfl, rfl, rfl⟩ := hcs
      exact ⟨_, rdM_of_rows hl hm hr⟩
  clear hA0 hval0
  obtain ⟨M, last, o, w', t', e1, e2, e3, e4⟩ := walk a0 len0 cap0 z0 W w0 hT
  refine ⟨M, last, o, w', t', e1, e2, e3, e4.mono fun v hF => ?_⟩
  obtain ⟨rfl, hk⟩ := hF
  exact ⟨_, _, _, [], _, [], hW', trodAll_mk1 (shut_bool Tryd.underlying4 _), (trodAll_cons_mk (Keeps.trod laidOut (by kernel_rfl) (of_decide_eq_true (by kernel_rfl)) k0 hk lt0) trodAll_mk0), rfl, hk.frame _, fun h => by cases h⟩

theorem over : Rows.fnExactViewMostRow.holds Tryd.pinned (OpenSpec.ofChange Rows.fnExactViewMostSpec) :=
  OpenClaim.holds_of_wide_leaving 4 Tryd.f4 rfl rfl rfl rfl rfl rfl rfl ⟨rfl, rfl, rfl, rfl, rfl⟩ rfl rfl rfl rfl rfl (by kernel_rfl) Tryd.func4 (by kernel_rfl)
    (of_decide_eq_true (by kernel_rfl)) (by unfold Func.isWrapper; first | (rw [if_pos (by decide +kernel)]; kernel_rfl) | (rw [if_neg (by decide +kernel)]; exact ⟨rfl, rfl⟩))
    (fun os started H enc _ => lifted os started H enc)

/-- The statement. -/
theorem proved : Rows.FnExactViewMostCardSaid :=
  tied_goes .later [.data, .data] true Rows.fnExactViewMostCard.stood.harness Rows.fnExactViewMostCard.stood.looks
    over (by kernel_rfl) fnExactViewMost_row_tie rfl ⟨rfl, rfl⟩ (by kernel_rfl) rfl
    (fun f fn hf hfn => by
      obtain rfl : f = 4 := Option.some.inj ((show Tryd.prog.funcNamed "loop.example/setparts/laws.FnExactViewMost" = some 4 by kernel_rfl).symm.trans hf) |>.symm
      obtain rfl : fn = Tryd.f4 := (Option.some.inj (Tryd.func4.symm.trans hfn)).symm
      exact ⟨by kernel_rfl, fun j t ht => by
        rw [Tryd.params4] at ht
        have hm : t ∈ [23] := by simpa using Array.mem_of_getElem? ht
        have hall : ([23].all fun u => !Tryd.prog.wantsStandIn u) = true := by kernel_rfl
        exact (show Tryd.prog.wantsStandIn t = false by simpa using List.all_eq_true.1 hall t hm)⟩)
    (by kernel_rfl)
end Go.Proofs.YtfiaiephbemdoaaDoor.fnExactViewMost
