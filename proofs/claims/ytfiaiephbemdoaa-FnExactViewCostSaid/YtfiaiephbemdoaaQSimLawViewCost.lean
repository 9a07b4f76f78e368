/-
  The exact law of ViewCost: for every input the Go text of laws.FnExactViewCost returns true, and each argument reads afterwards as before. No condition.
-/
import Derived.Test.YtfiaiephbemdoaaMgL
import Derived.Test.YtfiaiephbemdoaaRows
import Derived.Deep.Matrix
import Derived.ProofKit
import Derived.OpenShut
import Derived.ShutString
import Derived.ChangeOld
import Derived.Conc.LeavingOf
namespace Go.Proofs.Ytfiaiephbemdoaa.fnExactViewCost
open Go.ChangeShapes Go.WideShapes Go.ChangeAt Go.RowKit Go.Conc
open Go.ChangeMaps (open_string shut_string)
set_option linter.unusedVariables false
set_option linter.unusedSimpArgs false
set_option linter.unnecessarySimpa false

theorem own : ownKnob Try.prog.godebug = none := by kernel_rfl
theorem laidOut : laidOutB Try.prog = true := by kernel_rfl

set_option maxRecDepth 100000 in
set_option maxHeartbeats 8000000 in
theorem small {X w : World} (a0 : Option Addr) (len0 cap0 : Nat) (a1 : Option Addr) (len1 cap1 : Nat) (xs0 : List Int) (xs1 : List (List Int)) (hR0 : RdV w (.slice a0 len0 cap0) xs0) (hl0 : xs0.length ≤ 1048576) (hs0 : len0 ≤ 1048576) (hR1 : RdM w (.slice a1 len1 cap1) xs1) (hl1 : xs1.length + total xs1 ≤ 1048576) (cd : Code) (hcd : Try.f6.body = some cd) :
    WpB (duo Try.prog X) cd (bodyB (cutP Try.prog) Try.f6 fun v w' => v = .bool true ∧ Bel w w') { tmps := #[.slice a0 len0 cap0, .slice a1 len1 cap1] ++ Array.replicate (Try.f6.ntmps - 2) undef, defers := [] } w := by
  obtain ⟨r, b, hr⟩ : ∃ r b, (viewCost xs0 xs1) = (r, b) := ⟨_, _, rfl⟩
  have HI : Hid (∀ (wx : World) (v0 v1 : Value), RdV wx v0 xs0 → RdM wx v1 xs1 → CallsB (duo Try.prog X) 13 #[v0, v1] wx (fun v w' => v = .tuple #[.int .i64 r, .bool b] ∧ Bel wx w')) := Lib.hid fun wx v0 v1 k0 k1 => by
    have := iViewCost_b (X := X) k0 k1
    rw [hr] at this
    exact this
  have HS : Hid (∀ (wx : World) (v0 v1 : Value), RdV wx v0 xs0 → RdM wx v1 xs1 → Calls (cutP Try.prog) 15 #[v0, v1] wx (GivesIB wx (r, b))) := Lib.hid fun wx v0 v1 k0 k1 => by
    rw [← hr]
    exact sViewCost_v v0 v1 xs0 xs1 wx k0 k1
  clear hr
  have bel : Bel w w := Bel.refl w
  have hm1 : 0 ≤ szM xs1 := by unfold szM; rw [if_pos hl1]; omega
  have hc : Try.f6.body = _ := rfl
  conv at hc => rhs; whnf
  rw [hcd] at hc
  injection hc with hc
  subst hc
  clear hcd
  simp only [Try.ntmps6, List.size_toArray, List.length_cons, List.length_nil, Nat.reduceAdd, Nat.reduceSub, Array.replicate_succ, Array.replicate_zero, List.push_toArray, List.append_toArray, List.nil_append, List.cons_append]
  refine WpB.seq kit (WpB.of_wp kit (fun τ => ?_) (outs_then (outs_body _ _ _)))
  replace hR0 := rdv_ownT (τ := τ) hR0
  replace hR1 := rdm_ownT (τ := τ) hR1
  replace bel := bel_ownT (τ := τ) bel
  generalize ownTape w τ = V1 at *
  clear τ
  go_wp2
  refine WpB.seq kit (WpB.of_wp kit (fun τ => ?_) (outs_then (outs_body _ _ _)))
  replace hR0 := rdv_ownT (τ := τ) hR0
  replace hR1 := rdm_ownT (τ := τ) hR1
  replace bel := bel_ownT (τ := τ) bel
  generalize ownTape V1 τ = V2 at *
  clear τ
  go_wp2
  refine WpB.seq kit (WpB.of_wp kit (fun τ => ?_) (outs_then (outs_body _ _ _)))
  replace hR0 := rdv_ownT (τ := τ) hR0
  replace hR1 := rdm_ownT (τ := τ) hR1
  replace bel := bel_ownT (τ := τ) bel
  generalize ownTape V2 τ = V3 at *
  clear τ
  go_wp2
  refine WpB.seq kit (WpB.of_wp kit (fun τ => ?_) (outs_then (outs_body _ _ _)))
  replace hR0 := rdv_ownT (τ := τ) hR0
  replace hR1 := rdm_ownT (τ := τ) hR1
  replace bel := bel_ownT (τ := τ) bel
  generalize ownTape V3 τ = V4 at *
  clear τ
  go_wp2_with fail
  refine (szIntSS_v _ xs1 _ hR1).mono ?_
  rintro e wz ⟨rfl, rfl⟩
  go_wp2
  refine WpB.seq kit (WpB.of_wp kit (fun τ => ?_) (outs_then (outs_body _ _ _)))
  replace hR0 := rdv_ownT (τ := τ) hR0
  replace hR1 := rdm_ownT (τ := τ) hR1
  replace bel := bel_ownT (τ := τ) bel
  generalize ownTape V4 τ = V5 at *
  clear τ
  go_wp2
  refine WpB.seq kit (WpB.of_wp kit (fun τ => ?_) (outs_then (outs_body _ _ _)))
  replace hR0 := rdv_ownT (τ := τ) hR0
  replace hR1 := rdm_ownT (τ := τ) hR1
  replace bel := bel_ownT (τ := τ) bel
  generalize ownTape V5 τ = V6 at *
  clear τ
  go_wp2_with fail
  refine (toIntS_v _ xs0 _ hR0 hl0).mono ?_
  rintro e V7 ⟨v_p0, rfl, o, hb⟩
  replace hR0 := rdv_below hR0 hb
  replace hR1 := rdM_below hR1 hb
  replace bel := bel.below hb
  clear hb
  have r_p0 := own_rdv o
  clear o
  go_wp2_with fail
  refine (toIntSS_v _ xs1 _ hR1 (by omega) (fun i hi => by have := len_le_total xs1 i hi; omega)).mono ?_
  rintro e V8 ⟨v_p1, rfl, o, hb⟩
  replace hR0 := rdv_below hR0 hb
  replace hR1 := rdM_below hR1 hb
  replace r_p0 := rdv_below r_p0 hb
  replace bel := bel.below hb
  clear hb
  have r_p1 := ownM_rdM o
  clear o
  go_wp2_with fail
  refine (HS.out _ _ _ r_p0 r_p1).mono ?_
  rintro e V9 ⟨rfl, hb⟩
  replace hR0 := rdv_below hR0 hb
  replace hR1 := rdM_below hR1 hb
  replace r_p0 := rdv_below r_p0 hb
  replace r_p1 := rdM_below r_p1 hb
  replace bel := bel.below hb
  clear hb
  clear r_p0 r_p1
  go_wp2
  refine WpB.seq kit (WpB.of_wp kit (fun τ => ?_) (outs_then (outs_body _ _ _)))
  replace hR0 := rdv_ownT (τ := τ) hR0
  replace hR1 := rdm_ownT (τ := τ) hR1
  replace bel := bel_ownT (τ := τ) bel
  generalize ownTape V9 τ = V10 at *
  clear τ
  go_wp2_with fail
  refine (toIntS_v _ xs0 _ hR0 hl0).mono ?_
  rintro e V11 ⟨v_x0, rfl, o, hb⟩
  replace hR0 := rdv_below hR0 hb
  replace hR1 := rdM_below hR1 hb
  replace bel := bel.below hb
  clear hb
  have r_x0 := own_rdv o
  clear o
  go_wp2
  refine WpB.seq kit (WpB.of_wp kit (fun τ => ?_) (outs_then (outs_body _ _ _)))
  replace hR0 := rdv_ownT (τ := τ) hR0
  replace hR1 := rdm_ownT (τ := τ) hR1
  replace r_x0 := rdv_ownT (τ := τ) r_x0
  replace bel := bel_ownT (τ := τ) bel
  generalize ownTape V11 τ = V12 at *
  clear τ
  go_wp2_with fail
  refine (toIntSS_v _ xs1 _ hR1 (by omega) (fun i hi => by have := len_le_total xs1 i hi; omega)).mono ?_
  rintro e V13 ⟨v_x1, rfl, o, hb⟩
  replace hR0 := rdv_below hR0 hb
  replace hR1 := rdM_below hR1 hb
  replace r_x0 := rdv_below r_x0 hb
  replace bel := bel.below hb
  clear hb
  have r_x1 := ownM_rdM o
  clear o
  go_wp2
  refine WpB.seq kit (WpB.region kit ?_)
  simp only [List.size_toArray, List.length_cons, List.length_nil, Nat.reduceAdd, Nat.zero_add, List.range, List.range.loop]
  unfold OpsB
  simp only [List.getElem?_toArray, List.getElem?_cons_zero, List.getElem?_cons_succ]
  rw [if_pos (by rfl)]
  left
  intro _
  unfold Oper.wp
  go_simp
  unfold OpsB
  simp only [List.getElem?_toArray, List.getElem?_cons_zero, List.getElem?_cons_succ]
  rw [if_pos (by rfl)]
  left
  intro _
  unfold Oper.wp
  go_simp
  unfold OpsB
  simp only [List.getElem?_toArray, List.getElem?_cons_zero, List.getElem?_cons_succ]
  rw [if_pos (by rfl)]
  right
  refine ⟨13, #[v_x0, v_x1], fun W => ⟨by kernel_rfl, by kernel_rfl⟩, ?_⟩
  refine CallsB.own ((HI.out _ _ _ r_x0 r_x1).mono fun vr V14 h => ?_)
  obtain ⟨rfl, hb⟩ := h
  replace hR0 := hb.rdv hR0
  replace hR1 := hb.rdm hR1
  replace r_x0 := hb.rdv r_x0
  replace r_x1 := hb.rdm r_x1
  replace bel := bel.trans hb
  clear hb
  unfold OpsB
  simp only [List.getElem?_toArray, List.getElem?_cons_zero, List.getElem?_cons_succ]
  rw [if_pos (by rfl)]
  left
  intro _
  unfold Oper.wp
  go_simp
  unfold OpsB
  simp only [List.getElem?_toArray, List.getElem?_cons_zero, List.getElem?_cons_succ]
  rw [if_pos (by rfl)]
  left
  intro _
  unfold Oper.wp
  go_simp
  unfold OpsB
  simp only [List.getElem?_toArray, List.getElem?_cons_zero, List.getElem?_cons_succ]
  rw [if_pos (by rfl)]
  left
  intro _
  unfold Oper.wp
  go_simp
  unfold OpsB
  simp only [List.getElem?_toArray, List.getElem?_cons_zero, List.getElem?_cons_succ]
  rw [if_pos (by rfl)]
  left
  intro _
  unfold Oper.wp
  go_simp
  unfold OpsB
  simp only [List.getElem?_toArray, List.getElem?_cons_zero, List.getElem?_cons_succ]
  rw [if_pos (by rfl)]
  left
  intro _
  unfold Oper.wp
  go_simp
  unfold OpsB
  refine WpB.own ?_
  refine WpB.of_wp kit (fun τ => ?_) (outs_body _ _ _)
  replace hR0 := rdv_ownT (τ := τ) hR0
  replace hR1 := rdm_ownT (τ := τ) hR1
  replace r_x0 := rdv_ownT (τ := τ) r_x0
  replace r_x1 := rdm_ownT (τ := τ) r_x1
  replace bel := bel_ownT (τ := τ) bel
  generalize ownTape V14 τ = V15 at *
  clear τ
  go_wp2_with fail
  refine (toIntS_v _ xs0 _ hR0 hl0).mono ?_
  rintro e V16 ⟨v_y, rfl, o, hb⟩
  replace hR0 := rdv_below hR0 hb
  replace hR1 := rdM_below hR1 hb
  replace r_x0 := rdv_below r_x0 hb
  replace r_x1 := rdM_below r_x1 hb
  replace bel := bel.below hb
  clear hb
  have r_y := own_rdv o
  clear o
  go_wp2_with fail
  refine (eqIntS_v _ _ xs0 _ r_x0 r_y).mono ?_
  rintro e V17 ⟨rfl, hq⟩
  have hb := hq V16.heap.size
  clear hq
  replace hR0 := rdv_below hR0 hb
  replace hR1 := rdM_below hR1 hb
  replace r_x0 := rdv_below r_x0 hb
  replace r_x1 := rdM_below r_x1 hb
  replace r_y := rdv_below r_y hb
  replace bel := bel.below hb
  clear hb
  clear r_y
  go_wp2_with fail
  refine (toIntSS_v _ xs1 _ hR1 (by omega) (fun i hi => by have := len_le_total xs1 i hi; omega)).mono ?_
  rintro e V18 ⟨v_z, rfl, o, hb⟩
  replace hR0 := rdv_below hR0 hb
  replace hR1 := rdM_below hR1 hb
  replace r_x0 := rdv_below r_x0 hb
  replace r_x1 := rdM_below r_x1 hb
  replace bel := bel.below hb
  clear hb
  have r_z := ownM_rdM o
  clear o
  go_wp2_with fail
  refine (eqIntSS_v _ _ xs1 _ r_x1 r_z).mono ?_
  rintro e V19 ⟨rfl, hq⟩
  have hb := hq V18.heap.size
  clear hq
  replace hR0 := rdv_below hR0 hb
  replace hR1 := rdM_below hR1 hb
  replace r_x0 := rdv_below r_x0 hb
  replace r_x1 := rdM_below r_x1 hb
  replace r_z := rdM_below r_z hb
  replace bel := bel.below hb
  clear hb
  go_wp2
  exact ⟨rfl, _, fun τ => results_tmp (t := 4) rfl _ _ _, rfl, bel⟩

set_option maxRecDepth 100000 in
set_option maxHeartbeats 4000000 in
theorem walk (a0 : Option Addr) (len0 cap0 : Nat) (z0 : List Int) (a1 : Option Addr) (len1 cap1 : Nat) (z1 : List (List Int)) (W : World) (w0 : IsRow .i64 W a0 len0 cap0 z0) (w1 : RdM W (.slice a1 len1 cap1) z1) :
    ∃ M last o w' t', runNT Try.prog (M + 1) (solo (G (Frame.enter Try.prog 6 #[.slice a0 len0 cap0, .slice a1 len1 cap1] .normal) []) W) #[] = (.ended o w', t') ∧ runN Try.prog M (solo (G (Frame.enter Try.prog 6 #[.slice a0 len0 cap0, .slice a1 len1 cap1] .normal) []) W) = .next last ∧ step Try.prog last = .ended o w' ∧
      Go.Conc.Good Try.prog (fun v W' => v = .bool true ∧ Keeps W W') last o w' t' := by
  obtain ⟨cd, hcd⟩ : ∃ cd, Try.f6.body = some cd := ⟨_, rfl⟩
  refine law_true (fn := Try.f6) (t := 4) Tryp.func6 Try.func6 hcd (kept_code (by kernel_rfl) hcd) (by kernel_rfl) rfl ?_
  obtain ⟨xs0, hl0, hR0, _⟩ := rdv_of_row w0
  refine (Nat.lt_or_ge 1048576 len0).elim (fun hs0 => ?_) (fun hs0 => ?_)
  · clear hR0 w0
    refine WpB.of_wp kit (fun τ => ?_) (outs_body _ _ _)
    have hc : Try.f6.body = _ := rfl
    conv at hc => rhs; whnf
    rw [hcd] at hc
    injection hc with hc
    subst hc
    clear hcd
    simp only [Try.ntmps6, List.size_toArray, List.length_cons, List.length_nil, Nat.reduceAdd, Nat.reduceSub, Array.replicate_succ, Array.replicate_zero, List.push_toArray, List.append_toArray, List.nil_append, List.cons_append]
    go_wp2
    exact ⟨rfl, _, fun τ => results_tmp (t := 4) rfl _ _ _, rfl, bel_ownT (Bel.refl _)⟩
  refine (Nat.lt_or_ge 1048576 (z1.length + total z1)).elim (fun hs1 => ?_) (fun hs1 => ?_)
  · have hm1 : szM z1 < 0 := by unfold szM; rw [if_neg (by omega)]; omega
    refine WpB.of_wp kit (fun τ => ?_) (outs_body _ _ _)
    have hc : Try.f6.body = _ := rfl
    conv at hc => rhs; whnf
    rw [hcd] at hc
    injection hc with hc
    subst hc
    clear hcd
    simp only [Try.ntmps6, List.size_toArray, List.length_cons, List.length_nil, Nat.reduceAdd, Nat.reduceSub, Array.replicate_succ, Array.replicate_zero, List.push_toArray, List.append_toArray, List.nil_append, List.cons_append]
    go_wp2_with fail
    refine (szIntSS_v _ z1 _ (rdm_ownT (rdm_veil w1))).mono ?_
    rintro e wz ⟨rfl, rfl⟩
    go_wp2
    exact ⟨rfl, _, fun τ => results_tmp (t := 4) rfl _ _ _, rfl, bel_ownT (Bel.refl _)⟩
  exact small a0 len0 cap0 a1 len1 cap1 xs0 z1 (rdv_veil hR0) (by omega) hs0 (rdm_veil w1) hs1 cd hcd

set_option maxRecDepth 100000 in
theorem lifted (os : Os) (started : os.Started) (H : Type) (enc : TypeId × Value → H) :
    ReturnsInLeavingWide {} Try.checked os 6 .any (Rows.fnExactViewCostSpec.pre6 enc Try.prog Try.f6 Rows.fnExactViewCostRow.domain false) (Rows.fnExactViewCostSpec.post enc Try.prog Try.f6 false true false false) := by
  refine returnsInLeavingWide_of_change_sized (C := Try.checked) own started Try.func6
    (ChangeSpec.witness6 (enc := enc) (C := Try.checked) false ⟨#[], #[.slice none 0 0, .slice none 0 0], []⟩ 8 (by kernel_rfl) (by kernel_rfl) (by kernel_rfl) (by kernel_rfl)) ?_
  intro W base args ds gs before hval0 hW _ _ _
  have hval : ∀ (j : Nat) t v, Try.f6.params[j]? = some t → args[j]? = some v → Value.okWide Try.prog W .any base t v := hval0
  have hW' := hW
  obtain ⟨p, q, hA0, hV, rfl, hfz, hnd⟩ := hW
  have hA : DataW.TrodAll enc Try.prog W 0 (fun _ => true) true Try.f6.params.toList args.toList ds p := hA0
  rw [Try.params6] at hA hval
  obtain ⟨v0, vs0, d0, ds0, p0, q0, hargs, rfl, rfl, h0, r0⟩ := trodAll_cons hA
  obtain ⟨v1, vs1, d1, ds1, p1, q1, rfl, rfl, rfl, h1, r1⟩ := trodAll_cons r0
  obtain ⟨rfl, rfl, rfl⟩ := trodAll_nil r1
  obtain rfl : args = #[v0, v1] := by cases args; simp_all
  obtain ⟨rfl, rfl⟩ := trodVars_none hV
  obtain ⟨a0, len0, cap0, rfl⟩ := okWide_slice Try.underlying25 (hval 0 25 v0 rfl rfl)
  have k0 := h0
  have lt0 : ∀ x ∈ p0, x.block < W.heap.size := by obtain ⟨m, hm⟩ := k0; exact DataW.trod_lt m _ _ _ hm
  obtain ⟨z0, w0⟩ : ∃ zs, IsRow .i64 W a0 len0 cap0 zs := by
    obtain ⟨fuel, hf⟩ := h0
    rcases open_ints Try.underlying25 Try.underlying3 (by kernel_rfl) hf with ⟨hcs, _⟩ | ⟨x, l, c, zs, hcs, _, hl, hm, hz, _, hcell, hwz⟩
    · simp [Value.cells] at hcs
      obtain ⟨rfl, rfl, rfl⟩ := hcs
      exact ⟨[], .inl ⟨rfl, rfl, rfl, rfl⟩⟩
    · simp [Value.cells] at hcs
      obtain ⟨rfl, rfl, rfl⟩ := hcs
      exact ⟨zs, .inr ⟨_, rfl, hl, hm, by simpa using hz, hcell, hwz⟩⟩
  obtain ⟨a1, len1, cap1, rfl⟩ := okWide_slice Try.underlying23 (hval 1 23 v1 rfl rfl)
  have k1 := h1
  have lt1 : ∀ x ∈ p1, x.block < W.heap.size := by obtain ⟨m, hm⟩ := k1; exact DataW.trod_lt m _ _ _ hm
  obtain ⟨z1, w1⟩ : ∃ xss, RdM W (.slice a1 len1 cap1) xss := by
    obtain ⟨fuel, hf⟩ := h1
    rcases Go.Deep.open_int_rows Try.underlying23 Try.underlying25 Try.underlying3 (by kernel_rfl) (by kernel_rfl) hf with ⟨hcs, _⟩ | ⟨x, l, c, A, L, C, Z, hcs, _, hl, hm, _, hr⟩
    · simp [Value.cells] at hcs
      obtain ⟨rfl, rfl, rfl⟩ := hcs
      exact ⟨[], none, 0, [], rfl, rfl, Nat.le_refl _, Nat.zero_le _, .inl rfl, fun i hi => by simp at hi⟩
    · simp [Value.cells] at hcs
      obtain ⟨rfl, rfl, rfl⟩ := hcs
      exact ⟨_, rdM_of_rows hl hm hr⟩
  clear hA0 hval0
  obtain ⟨M, last, o, w', t', e1, e2, e3, e4⟩ := walk a0 len0 cap0 z0 a1 len1 cap1 z1 W w0 w1
  refine ⟨M, last, o, w', t', e1, e2, e3, e4.mono fun v hF => ?_⟩
  obtain ⟨rfl, hk⟩ := hF
  exact ⟨_, _, _, [], _, [], hW', trodAll_mk1 (shut_bool Try.underlying4 _), (trodAll_cons_mk (Keeps.trod laidOut (by kernel_rfl) (of_decide_eq_true (by kernel_rfl)) k0 hk lt0) (trodAll_cons_mk (Keeps.trod laidOut (by kernel_rfl) (of_decide_eq_true (by kernel_rfl)) k1 hk lt1) trodAll_mk0)), rfl, hk.frame _, fun h => by cases h⟩

theorem over : Rows.fnExactViewCostRow.holds Try.pinned (OpenSpec.ofChange Rows.fnExactViewCostSpec) :=
  OpenClaim.holds_of_wide_leaving 6 Try.f6 rfl rfl rfl rfl rfl rfl rfl ⟨rfl, rfl, rfl, rfl, rfl⟩ rfl rfl rfl rfl rfl (by kernel_rfl) Try.func6 (by kernel_rfl)
    (of_decide_eq_true (by kernel_rfl)) (by unfold Func.isWrapper; first | (rw [if_pos (by decide +kernel)]; kernel_rfl) | (rw [if_neg (by decide +kernel)]; exact ⟨rfl, rfl⟩))
    (fun os started H enc _ => lifted os started H enc)

/-- The statement. -/
theorem proved : Rows.FnExactViewCostSaid := over
end Go.Proofs.Ytfiaiephbemdoaa.fnExactViewCost
