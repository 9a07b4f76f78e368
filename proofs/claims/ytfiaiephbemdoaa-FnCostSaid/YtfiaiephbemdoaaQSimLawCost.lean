/-
  The exact law of ViewCost: for every input the Go text of laws.FnCost returns true, and each argument reads afterwards as before. No condition.
-/
import Derived.Test.YtfiaiephbemdoaaMgL
import Derived.Test.YtfiaiephbemdoaaMgN
import Derived.Test.YtfiaiephbemdoaaRows
import Derived.Deep.Matrix
import Derived.ProofKit
import Derived.OpenShut
import Derived.ShutString
import Derived.ChangeOld
import Derived.Conc.LeavingOf
namespace Go.Proofs.Ytfiaiephbemdoaa.fnCost
open Go.ChangeShapes Go.WideShapes Go.ChangeAt Go.RowKit Go.Conc
open Go.ChangeMaps (open_string shut_string)
set_option linter.unusedVariables false
set_option linter.unusedSimpArgs false
set_option linter.unnecessarySimpa false

theorem own : ownKnob Try.prog.godebug = none := by kernel_rfl
theorem laidOut : laidOutB Try.prog = true := by kernel_rfl

theorem viewQuarrel_yesC {xs ys : List Int} (h : alike xs ys = true) : viewQuarrel xs ys = ((quar xs ys : Int), true) := by simp [viewQuarrel, h]

set_option maxRecDepth 100000 in
set_option maxHeartbeats 16000000 in
theorem small {X w : World} (a0 : Option Addr) (len0 cap0 : Nat) (hB : Bytes w a0 len0) (hc0 : len0 ≤ cap0) (hcm0 : cap0 ≤ maxLen) (hs0 : len0 ≤ 1048576) (cd : Code) (hcd : Try.f4.body = some cd) :
    WpB (duo Try.prog X) cd (bodyB (cutP Try.prog) Try.f4 fun v w' => v = .bool true ∧ Bel w w') { tmps := #[.slice a0 len0 cap0] ++ Array.replicate (Try.f4.ntmps - 1) undef, defers := [] } w := by
  have bel : Bel w w := Bel.refl w
  have hc : Try.f4.body = _ := rfl
  conv at hc => rhs; whnf
  rw [hcd] at hc
  injection hc with hc
  subst hc
  clear hcd
  simp only [Try.ntmps4, List.size_toArray, List.length_cons, List.length_nil, Nat.reduceAdd, Nat.reduceSub, Array.replicate_succ, Array.replicate_zero, List.push_toArray, List.append_toArray, List.nil_append, List.cons_append]
  refine WpB.seq kit (WpB.of_wp kit (fun τ => ?_) (outs_then (outs_body _ _ _)))
  replace hB := bytes_ownT (τ := τ) hB
  replace bel := bel_ownT (τ := τ) bel
  generalize ownTape w τ = V1 at *
  clear τ
  go_wp2
  refine WpB.seq kit (WpB.of_wp kit (fun τ => ?_) (outs_then (outs_body _ _ _)))
  replace hB := bytes_ownT (τ := τ) hB
  replace bel := bel_ownT (τ := τ) bel
  generalize ownTape V1 τ = V2 at *
  clear τ
  go_wp2
  refine WpB.seq kit (WpB.of_wp kit (fun τ => ?_) (outs_then (outs_body _ _ _)))
  replace hB := bytes_ownT (τ := τ) hB
  replace bel := bel_ownT (τ := τ) bel
  generalize ownTape V2 τ = V3 at *
  clear τ
  go_wp2_with fail
  refine (drawViewCost_any _ _ _ _ hB hs0 hc0 hcm0).mono ?_
  rintro e V4 ⟨u_a, xs, v_v, vs, rfl, r_a, r_v, hl, hf, hb⟩
  replace bel := bel.below hb
  clear hb hB
  have HL := Lib.hid hl
  clear hl hf
  go_wp2
  cases hcv : (areV vs && alike xs (vs.getD 0 []))
  · have er : viewCost xs vs = ((0 : Int), false) := by unfold viewCost; rw [hcv]; rfl
    have HI : Hid (∀ (wx : World) (v0 v1 : Value), RdV wx v0 xs → RdM wx v1 vs → CallsB (duo Try.prog X) 13 #[v0, v1] wx (fun v w' => v = .tuple #[.int .i64 (((0 : Int), false)).1, .bool (((0 : Int), false)).2] ∧ Bel wx w')) := Lib.hid fun wx v0 v1 k0 k1 => by
      have := iViewCost_b (X := X) k0 k1
      rw [er] at this
      exact this
    have HS : Hid (∀ (wx : World) (v0 v1 : Value), RdV wx v0 xs → RdM wx v1 vs → Calls (cutP Try.prog) 15 #[v0, v1] wx (GivesIB wx ((0 : Int), false))) := Lib.hid fun wx v0 v1 k0 k1 => by
      rw [← er]
      exact sViewCost_v v0 v1 xs vs wx k0 k1
    clear er
    clear hcv
    refine WpB.seq kit (WpB.region kit ?_)
    simp only [List.size_toArray, List.length_cons, List.length_nil, Nat.reduceAdd, Nat.zero_add, List.range, List.range.loop]
    unfold OpsB
    simp only [List.getElem?_toArray, List.getElem?_cons_zero, List.getElem?_cons_succ]
    rw [if_pos (by rfl)]
    left
    intro _
    unfold Oper.wp
    go_simp
    unfold OpsB
    simp only [List.getElem?_toArray, List.getElem?_cons_zero, List.getElem?_cons_succ]
    rw [if_pos (by rfl)]
    left
    intro _
    unfold Oper.wp
    go_simp
    unfold OpsB
    simp only [List.getElem?_toArray, List.getElem?_cons_zero, List.getElem?_cons_succ]
    rw [if_pos (by rfl)]
    right
    refine ⟨13, #[u_a, v_v], fun W => ⟨by kernel_rfl, by kernel_rfl⟩, ?_⟩
    refine CallsB.own ((HI.out _ _ _ r_a r_v).mono fun vr V5 h => ?_)
    obtain ⟨rfl, hb⟩ := h
    replace r_a := hb.rdv r_a
    replace r_v := hb.rdm r_v
    replace bel := bel.trans hb
    clear hb
    unfold OpsB
    simp only [List.getElem?_toArray, List.getElem?_cons_zero, List.getElem?_cons_succ]
    rw [if_pos (by rfl)]
    left
    intro _
    unfold Oper.wp
    go_simp
    unfold OpsB
    simp only [List.getElem?_toArray, List.getElem?_cons_zero, List.getElem?_cons_succ]
    rw [if_pos (by rfl)]
    left
    intro _
    unfold Oper.wp
    go_simp
    unfold OpsB
    simp only [List.getElem?_toArray, List.getElem?_cons_zero, List.getElem?_cons_succ]
    rw [if_pos (by rfl)]
    left
    intro _
    unfold Oper.wp
    go_simp
    unfold OpsB
    simp only [List.getElem?_toArray, List.getElem?_cons_zero, List.getElem?_cons_succ]
    rw [if_pos (by rfl)]
    left
    intro _
    unfold Oper.wp
    go_simp
    unfold OpsB
    simp only [List.getElem?_toArray, List.getElem?_cons_zero, List.getElem?_cons_succ]
    rw [if_pos (by rfl)]
    left
    intro _
    unfold Oper.wp
    go_simp
    unfold OpsB
    refine WpB.own ?_
    refine WpB.of_wp kit (fun τ => ?_) (outs_body _ _ _)
    replace r_a := rdv_ownT (τ := τ) r_a
    replace r_v := rdm_ownT (τ := τ) r_v
    replace bel := bel_ownT (τ := τ) bel
    generalize ownTape V5 τ = V6 at *
    clear τ
    go_wp2_with fail
    refine (HS.out _ _ _ r_a r_v).mono ?_
    rintro e V7 ⟨rfl, hb⟩
    replace r_a := rdv_below r_a hb
    replace r_v := rdM_below r_v hb
    replace bel := bel.below hb
    clear hb
    go_wp2
    exact ⟨rfl, _, fun τ => results_tmp (t := 2) rfl _ _ _, rfl, bel⟩
  · obtain ⟨ha, hk⟩ : areV vs = true ∧ alike xs (vs.getD 0 []) = true := by simpa using hcv
    obtain ⟨L, hL1, hL5, hL⟩ := areV_row ha
    have hq64 : ∀ k, quar xs (vs.getD k []) ≤ 64 := fun k => quar_le xs _ (by rw [(alike_iff.1 hk).2.2, (hL 0 (by have := HL.out; omega)).1]; omega)
    have HQ := Lib.hid (fun k (hkn : k < vs.length) => viewQuarrel_yesC (alike_iff.2 ⟨(alike_iff.1 hk).1, (hL k hkn).2, by rw [(alike_iff.1 hk).2.2, (hL 0 (by omega)).1, (hL k hkn).1]⟩ : alike xs (vs.getD k []) = true))
    have hcl : ∀ k, costOf xs (vs.take k) ≤ 64 * 6 := fun k => by
      have := costOf_le xs (by rw [(alike_iff.1 hk).2.2, (hL 0 (by have := HL.out; omega)).1]; omega) (vs.take k)
      have h6 := HL.out
      simp only [List.length_take] at this
      omega
    have HQ64 := Lib.hid hq64
    have HCL := Lib.hid hcl
    have HRL := Lib.hid hL
    have HL1 := Lib.hid hL1
    clear hq64 hcl
    have er : viewCost xs vs = (((costOf xs vs : Nat) : Int), true) := by unfold viewCost; rw [hcv]; rfl
    have HI : Hid (∀ (wx : World) (v0 v1 : Value), RdV wx v0 xs → RdM wx v1 vs → CallsB (duo Try.prog X) 13 #[v0, v1] wx (fun v w' => v = .tuple #[.int .i64 ((((costOf xs vs : Nat) : Int), true)).1, .bool ((((costOf xs vs : Nat) : Int), true)).2] ∧ Bel wx w')) := Lib.hid fun wx v0 v1 k0 k1 => by
      have := iViewCost_b (X := X) k0 k1
      rw [er] at this
      exact this
    have HS : Hid (∀ (wx : World) (v0 v1 : Value), RdV wx v0 xs → RdM wx v1 vs → Calls (cutP Try.prog) 15 #[v0, v1] wx (GivesIB wx (((costOf xs vs : Nat) : Int), true))) := Lib.hid fun wx v0 v1 k0 k1 => by
      rw [← er]
      exact sViewCost_v v0 v1 xs vs wx k0 k1
    clear er
    clear hcv ha hk hL hL1 hL5
    refine WpB.seq kit (WpB.region kit ?_)
    simp only [List.size_toArray, List.length_cons, List.length_nil, Nat.reduceAdd, Nat.zero_add, List.range, List.range.loop]
    unfold OpsB
    simp only [List.getElem?_toArray, List.getElem?_cons_zero, List.getElem?_cons_succ]
    rw [if_pos (by rfl)]
    left
    intro _
    unfold Oper.wp
    go_simp
    unfold OpsB
    simp only [List.getElem?_toArray, List.getElem?_cons_zero, List.getElem?_cons_succ]
    rw [if_pos (by rfl)]
    left
    intro _
    unfold Oper.wp
    go_simp
    unfold OpsB
    simp only [List.getElem?_toArray, List.getElem?_cons_zero, List.getElem?_cons_succ]
    rw [if_pos (by rfl)]
    right
    refine ⟨13, #[u_a, v_v], fun W => ⟨by kernel_rfl, by kernel_rfl⟩, ?_⟩
    refine CallsB.own ((HI.out _ _ _ r_a r_v).mono fun vr V5 h => ?_)
    obtain ⟨rfl, hb⟩ := h
    replace r_a := hb.rdv r_a
    replace r_v := hb.rdm r_v
    replace bel := bel.trans hb
    clear hb
    unfold OpsB
    simp only [List.getElem?_toArray, List.getElem?_cons_zero, List.getElem?_cons_succ]
    rw [if_pos (by rfl)]
    left
    intro _
    unfold Oper.wp
    go_simp
    unfold OpsB
    simp only [List.getElem?_toArray, List.getElem?_cons_zero, List.getElem?_cons_succ]
    rw [if_pos (by rfl)]
    left
    intro _
    unfold Oper.wp
    go_simp
    unfold OpsB
    simp only [List.getElem?_toArray, List.getElem?_cons_zero, List.getElem?_cons_succ]
    rw [if_pos (by rfl)]
    left
    intro _
    unfold Oper.wp
    go_simp
    unfold OpsB
    simp only [List.getElem?_toArray, List.getElem?_cons_zero, List.getElem?_cons_succ]
    rw [if_pos (by rfl)]
    left
    intro _
    unfold Oper.wp
    go_simp
    unfold OpsB
    simp only [List.getElem?_toArray, List.getElem?_cons_zero, List.getElem?_cons_succ]
    rw [if_pos (by rfl)]
    left
    intro _
    unfold Oper.wp
    go_simp
    unfold OpsB
    refine WpB.own ?_
    refine WpB.of_wp kit (fun τ => ?_) (outs_body _ _ _)
    replace r_a := rdv_ownT (τ := τ) r_a
    replace r_v := rdm_ownT (τ := τ) r_v
    replace bel := bel_ownT (τ := τ) bel
    generalize ownTape V5 τ = V6 at *
    clear τ
    go_wp2_with fail
    refine (HS.out _ _ _ r_a r_v).mono ?_
    rintro e V7 ⟨rfl, hb⟩
    replace r_a := rdv_below r_a hb
    replace r_v := rdM_below r_v hb
    replace bel := bel.below hb
    clear hb
    obtain ⟨vb, vo, vcap, bV, oV, cV, rfl, hV⟩ := rows_at r_v HL.out.1 HL1.out (fun k hk => (HRL.out k hk).1)
    have HTK := Lib.hid (show vs.take vs.length = vs from List.take_length)
    have HST := Lib.hid (fun k (hk : k < vs.length) => costOf_step xs vs k hk)
    obtain ⟨n, hn⟩ : ∃ n, n = vs.length := ⟨_, rfl⟩
    have HN6 := Lib.hid (show n ≤ 6 by rw [hn]; exact HL.out.2)
    rw [← hn] at HQ HTK HST hV ⊢
    have HV := Lib.hid hV
    obtain ⟨tot, htot⟩ : ∃ t, t = costOf xs vs := ⟨_, rfl⟩
    have HTT : Hid (costOf xs (vs.take n) = tot) := Lib.hid (by rw [HTK.out, htot])
    rw [← htot]
    obtain ⟨C, hC⟩ : ∃ C : Nat → Nat, C = fun k => costOf xs (vs.take k) := ⟨_, rfl⟩
    have hC0 : C 0 = 0 := by rw [hC]; rfl
    have HCS : Hid (∀ k, k < n → C (k + 1) = C k + quar xs (vs.getD k [])) := Lib.hid fun k hk => by rw [hC]; exact HST.out k hk
    have HCN : Hid (C n = tot) := Lib.hid (by rw [hC]; exact HTT.out)
    have HCB : Hid (∀ k, C k ≤ 384) := Lib.hid fun k => by rw [hC]; exact HCL.out k
    clear hV hn htot hC r_v
    have RA := Lib.hid r_a
    have BEL := Lib.hid bel
    clear r_a bel
    go_wp2
    go_loopw [9, 10] (fun s i wr => ∃ k : Nat, k ≤ n ∧ i = .int .i64 k ∧ s = .int .i64 (C k) ∧ Below V7.heap.size V7 wr) (fun _ i _ => n - (intOf i).toNat)
    case atStart => exact ⟨0, Nat.zero_le _, rfl, by rw [hC0]; rfl, Below.refl _ _⟩
    case round =>
      obtain ⟨k, hk, rfl, rfl, hbw⟩ := hrel
      by_cases hlt : k < n
      · have hcell := cell_belowV (HV.out k hlt).1 hbw
        have HRK := Lib.hid (rdv_below (HV.out k hlt).2.2 hbw)
        have HRA := Lib.hid (rdv_below RA.out hbw)
        have HV1 := Lib.hid (fun (wx : World) (v0 v1 : Value) (k0 : RdV wx v0 xs) (k1 : RdV wx v1 (vs.getD k [])) => HQ.out k hlt ▸ iViewQuarrel_v v0 v1 xs (vs.getD k []) wx k0 k1)
        have hq := HQ64.out k
        have hcb := HCB.out k
        have hst := HCS.out k hlt
        obtain ⟨x, hx⟩ : ∃ x, x = quar xs (vs.getD k []) := ⟨_, rfl⟩
        obtain ⟨y, hy⟩ : ∃ y, y = C k := ⟨_, rfl⟩
        rw [← hx] at HV1 hq hst
        rw [← hy] at hcb hst ⊢
        have HX := Lib.hid hst
        have hn6 := HN6.out
        have hkl : (k : Int) < (n : Int) := by omega
        have hk0 : (0 : Int) ≤ (k : Int) := by omega
        clear hx hy hst
        go_wp2_with fail
        refine (HV1.out _ _ _ HRA.out HRK.out).mono ?_
        rintro e w5 ⟨rfl, hb5⟩
        have hbw5 := below_step hbw hb5
        clear hb5 hbw hcell
        go_wp2
        go_roundw
        case rel => exact ⟨k + 1, by omega, by go_num, by rw [HX.out]; go_num, hbw5⟩
        case measure => simp [intOf]; omega
      · have hkn : k = n := by omega
        subst hkn
        have hbel := BEL.out.below hbw
        rw [HCN.out]
        go_wp2
        exact ⟨rfl, _, fun τ => results_tmp (t := 2) rfl _ _ _, rfl, hbel⟩

set_option maxRecDepth 100000 in
set_option maxHeartbeats 4000000 in
theorem walk (a0 : Option Addr) (len0 cap0 : Nat) (z0 : List Int) (W : World) (w0 : IsRow .u8 W a0 len0 cap0 z0) :
    ∃ M last o w' t', runNT Try.prog (M + 1) (solo (G (Frame.enter Try.prog 4 #[.slice a0 len0 cap0] .normal) []) W) #[] = (.ended o w', t') ∧ runN Try.prog M (solo (G (Frame.enter Try.prog 4 #[.slice a0 len0 cap0] .normal) []) W) = .next last ∧ step Try.prog last = .ended o w' ∧
      Go.Conc.Good Try.prog (fun v W' => v = .bool true ∧ Keeps W W') last o w' t' := by
  obtain ⟨cd, hcd⟩ : ∃ cd, Try.f4.body = some cd := ⟨_, rfl⟩
  refine law_true (fn := Try.f4) (t := 2) Tryp.func4 Try.func4 hcd (kept_code (by kernel_rfl) hcd) (by kernel_rfl) rfl ?_
  obtain ⟨hB0, hc0, hcm0⟩ := bytes_of_row w0
  refine (Nat.lt_or_ge 1048576 len0).elim (fun hs0 => ?_) (fun hs0 => ?_)
  · clear hB0 w0
    refine WpB.of_wp kit (fun τ => ?_) (outs_body _ _ _)
    have hc : Try.f4.body = _ := rfl
    conv at hc => rhs; whnf
    rw [hcd] at hc
    injection hc with hc
    subst hc
    clear hcd
    simp only [Try.ntmps4, List.size_toArray, List.length_cons, List.length_nil, Nat.reduceAdd, Nat.reduceSub, Array.replicate_succ, Array.replicate_zero, List.push_toArray, List.append_toArray, List.nil_append, List.cons_append]
    go_wp2
    exact ⟨rfl, _, fun τ => results_tmp (t := 2) rfl _ _ _, rfl, bel_ownT (Bel.refl _)⟩
  exact small a0 len0 cap0 (bytes_veil hB0) hc0 hcm0 hs0 cd hcd

set_option maxRecDepth 100000 in
theorem lifted (os : Os) (started : os.Started) (H : Type) (enc : TypeId × Value → H) :
    ReturnsInLeavingWide {} Try.checked os 4 .any (Rows.fnCostSpec.pre6 enc Try.prog Try.f4 Rows.fnCostRow.domain false) (Rows.fnCostSpec.post enc Try.prog Try.f4 false true false false) := by
  refine returnsInLeavingWide_of_change_sized (C := Try.checked) own started Try.func4
    (ChangeSpec.witness6 (enc := enc) (C := Try.checked) false ⟨#[], #[.slice none 0 0], []⟩ 8 (by kernel_rfl) (by kernel_rfl) (by kernel_rfl) (by kernel_rfl)) ?_
  intro W base args ds gs before hval0 hW _ _ _
  have hval : ∀ (j : Nat) t v, Try.f4.params[j]? = some t → args[j]? = some v → Value.okWide Try.prog W .any base t v := hval0
  have hW' := hW
  obtain ⟨p, q, hA0, hV, rfl, hfz, hnd⟩ := hW
  have hA : DataW.TrodAll enc Try.prog W 0 (fun _ => true) true Try.f4.params.toList args.toList ds p := hA0
  rw [Try.params4] at hA hval
  obtain ⟨v0, vs0, d0, ds0, p0, q0, hargs, rfl, rfl, h0, r0⟩ := trodAll_cons hA
  obtain ⟨rfl, rfl, rfl⟩ := trodAll_nil r0
  obtain rfl : args = #[v0] := by cases args; simp_all
  obtain ⟨rfl, rfl⟩ := trodVars_none hV
  obtain ⟨a0, len0, cap0, rfl⟩ := okWide_slice Try.underlying22 (hval 0 22 v0 rfl rfl)
  have k0 := h0
  have lt0 : ∀ x ∈ p0, x.block < W.heap.size := by obtain ⟨m, hm⟩ := k0; exact DataW.trod_lt m _ _ _ hm
  obtain ⟨z0, w0⟩ : ∃ zs, IsRow .u8 W a0 len0 cap0 zs := by
    obtain ⟨fuel, hf⟩ := h0
    rcases open_ints Try.underlying22 Try.underlying5 (by kernel_rfl) hf with ⟨hcs, _⟩ | ⟨x, l, c, zs, hcs, _, hl, hm, hz, _, hcell, hwz⟩
    · simp [Value.cells] at hcs
      obtain ⟨rfl, rfl, rfl⟩ := hcs
      exact ⟨[], .inl ⟨rfl, rfl, rfl, rfl⟩⟩
    · simp [Value.cells] at hcs
      obtain ⟨rfl, rfl, rfl⟩ := hcs
      exact ⟨zs, .inr ⟨_, rfl, hl, hm, by simpa using hz, hcell, hwz⟩⟩
  clear hA0 hval0
  obtain ⟨M, last, o, w', t', e1, e2, e3, e4⟩ := walk a0 len0 cap0 z0 W w0
  refine ⟨M, last, o, w', t', e1, e2, e3, e4.mono fun v hF => ?_⟩
  obtain ⟨rfl, hk⟩ := hF
  exact ⟨_, _, _, [], _, [], hW', trodAll_mk1 (shut_bool Try.underlying4 _), (trodAll_cons_mk (Keeps.trod laidOut (by kernel_rfl) (of_decide_eq_true (by kernel_rfl)) k0 hk lt0) trodAll_mk0), rfl, hk.frame _, fun h => by cases h⟩

theorem over : Rows.fnCostRow.holds Try.pinned (OpenSpec.ofChange Rows.fnCostSpec) :=
  OpenClaim.holds_of_wide_leaving 4 Try.f4 rfl rfl rfl rfl rfl rfl rfl ⟨rfl, rfl, rfl, rfl, rfl⟩ rfl rfl rfl rfl rfl (by kernel_rfl) Try.func4 (by kernel_rfl)
    (of_decide_eq_true (by kernel_rfl)) (by unfold Func.isWrapper; first | (rw [if_pos (by decide +kernel)]; kernel_rfl) | (rw [if_neg (by decide +kernel)]; exact ⟨rfl, rfl⟩))
    (fun os started H enc _ => lifted os started H enc)

/-- The statement. -/
theorem proved : Rows.FnCostSaid := over
end Go.Proofs.Ytfiaiephbemdoaa.fnCost
