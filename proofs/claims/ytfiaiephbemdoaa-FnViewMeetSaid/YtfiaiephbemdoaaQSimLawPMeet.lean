/-
  The exact law of ViewMeet: for every input the Go text of laws.FnViewMeet returns true, and each argument reads afterwards as before. No condition.
-/
import Derived.Test.YtfiaiephbemdoaaMgK
import Derived.Test.YtfiaiephbemdoaaMgN
import Derived.Test.YtfiaiephbemdoaaMgL
import Derived.Test.YtfiaiephbemdoaaRows
import Derived.Deep.Matrix
import Derived.ProofKit
import Derived.OpenShut
import Derived.ShutString
import Derived.ChangeOld
import Derived.Conc.LeavingOf
namespace Go.Proofs.Ytfiaiephbemdoaa.fnViewMeet
open Go.ChangeShapes Go.WideShapes Go.ChangeAt Go.RowKit Go.Conc
open Go.ChangeMaps (open_string shut_string)
set_option linter.unusedVariables false
set_option linter.unusedSimpArgs false
set_option linter.unnecessarySimpa false

theorem own : ownKnob Try.prog.godebug = none := by kernel_rfl
theorem laidOut : laidOutB Try.prog = true := by kernel_rfl

theorem sameInts_m (v u : Value) (xs : List Int) (w : World) (hv : RdV w v xs) (hu : RdV w u xs) : Calls (cutP Try.prog) 12 #[v, u] w fun e w' => e = .returned (.bool true) ∧ Same w w' :=
  (sameInts_v v u xs xs w hv hu).mono fun e w' ⟨he, hw⟩ => ⟨by rw [he]; simp, hw⟩

set_option maxRecDepth 100000 in
set_option maxHeartbeats 16000000 in
theorem small {X w : World} (a0 : Option Addr) (len0 cap0 : Nat) (hB : Bytes w a0 len0) (hc0 : len0 ≤ cap0) (hcm0 : cap0 ≤ maxLen) (hs0 : len0 ≤ 1048576) (cd : Code) (hcd : Try.f5.body = some cd) :
    WpB (duo Try.prog X) cd (bodyB (cutP Try.prog) Try.f5 fun v w' => v = .bool true ∧ Bel w w') { tmps := #[.slice a0 len0 cap0] ++ Array.replicate (Try.f5.ntmps - 1) undef, defers := [] } w := by
  have bel : Bel w w := Bel.refl w
  have hc : Try.f5.body = _ := rfl
  conv at hc => rhs; whnf
  rw [hcd] at hc
  injection hc with hc
  subst hc
  clear hcd
  simp only [Try.ntmps5, List.size_toArray, List.length_cons, List.length_nil, Nat.reduceAdd, Nat.reduceSub, Array.replicate_succ, Array.replicate_zero, List.push_toArray, List.append_toArray, List.nil_append, List.cons_append]
  refine WpB.seq kit (WpB.of_wp kit (fun τ => ?_) (outs_then (outs_body _ _ _)))
  replace hB := bytes_ownT (τ := τ) hB
  replace bel := bel_ownT (τ := τ) bel
  generalize ownTape w τ = V1 at *
  clear τ
  go_wp2
  refine WpB.seq kit (WpB.of_wp kit (fun τ => ?_) (outs_then (outs_body _ _ _)))
  replace hB := bytes_ownT (τ := τ) hB
  replace bel := bel_ownT (τ := τ) bel
  generalize ownTape V1 τ = V2 at *
  clear τ
  go_wp2
  refine WpB.seq kit (WpB.of_wp kit (fun τ => ?_) (outs_then (outs_body _ _ _)))
  replace hB := bytes_ownT (τ := τ) hB
  replace bel := bel_ownT (τ := τ) bel
  generalize ownTape V2 τ = V3 at *
  clear τ
  go_wp2_with fail
  refine (drawViewMeet_any _ _ _ _ hB hs0 hc0 hcm0).mono ?_
  rintro e V4 ⟨v_v, vs, rfl, r_v, hl, hf, hb⟩
  replace bel := bel.below hb
  clear hb hB
  have HL := Lib.hid hl
  clear hl hf
  go_wp2
  cases ha : areV vs
  · have er : viewMeet vs = ([], false) := by unfold viewMeet; rw [ha]; rfl
    have HI : Hid (∀ (wx : World) (v0 : Value), RdM wx v0 vs → CallsB (duo Try.prog X) 18 #[v0] wx (fun v w' => ∃ u, v = .tuple #[u, .bool false] ∧ Own w' wx.heap.size u [] ∧ Bel wx w')) := Lib.hid fun wx v0 k0 => by
      have := iViewMeet_b (X := X) k0
      rw [er] at this
      exact this
    have HS : Hid (∀ (wx : World) (v0 : Value), RdM wx v0 vs → Calls (cutP Try.prog) 19 #[v0] wx (FreshLB wx ([], false))) := Lib.hid fun wx v0 k0 => by
      rw [← er]
      exact sViewMeet_v v0 vs wx k0
    clear er
    clear ha
    refine WpB.seq kit (WpB.region kit ?_)
    simp only [List.size_toArray, List.length_cons, List.length_nil, Nat.reduceAdd, Nat.zero_add, List.range, List.range.loop]
    unfold OpsB
    simp only [List.getElem?_toArray, List.getElem?_cons_zero, List.getElem?_cons_succ]
    rw [if_pos (by rfl)]
    left
    intro _
    unfold Oper.wp
    go_simp
    unfold OpsB
    simp only [List.getElem?_toArray, List.getElem?_cons_zero, List.getElem?_cons_succ]
    rw [if_pos (by rfl)]
    right
    refine ⟨18, #[v_v], fun W => ⟨by kernel_rfl, by kernel_rfl⟩, ?_⟩
    refine CallsB.own ((HI.out _ _ r_v).mono fun vr V5 h => ?_)
    obtain ⟨v_o, rfl, o, hb⟩ := h
    replace r_v := hb.rdm r_v
    replace bel := bel.trans hb
    clear hb
    unfold OpsB
    simp only [List.getElem?_toArray, List.getElem?_cons_zero, List.getElem?_cons_succ]
    rw [if_pos (by rfl)]
    left
    intro _
    unfold Oper.wp
    go_simp
    unfold OpsB
    simp only [List.getElem?_toArray, List.getElem?_cons_zero, List.getElem?_cons_succ]
    rw [if_pos (by rfl)]
    left
    intro _
    unfold Oper.wp
    go_simp
    unfold OpsB
    simp only [List.getElem?_toArray, List.getElem?_cons_zero, List.getElem?_cons_succ]
    rw [if_pos (by rfl)]
    left
    intro _
    unfold Oper.wp
    go_simp
    unfold OpsB
    simp only [List.getElem?_toArray, List.getElem?_cons_zero, List.getElem?_cons_succ]
    rw [if_pos (by rfl)]
    left
    intro _
    unfold Oper.wp
    go_simp
    unfold OpsB
    simp only [List.getElem?_toArray, List.getElem?_cons_zero, List.getElem?_cons_succ]
    rw [if_pos (by rfl)]
    left
    intro _
    unfold Oper.wp
    go_simp
    unfold OpsB
    refine WpB.own ?_
    have r_o := own_rdv o
    clear o
    refine WpB.of_wp kit (fun τ => ?_) (outs_body _ _ _)
    replace r_v := rdm_ownT (τ := τ) r_v
    replace r_o := rdv_ownT (τ := τ) r_o
    replace bel := bel_ownT (τ := τ) bel
    generalize ownTape V5 τ = V6 at *
    clear τ
    go_wp2_with fail
    refine (HS.out _ _ r_v).mono ?_
    rintro e V7 ⟨v_w, rfl, o, hb⟩
    replace r_v := rdM_below r_v hb
    replace r_o := rdv_below r_o hb
    replace bel := bel.below hb
    clear hb
    have r_w := own_rdv o
    clear o
    go_wp2_with fail
    refine (sameInts_m _ _ _ _ r_o r_w).mono ?_
    rintro e V8 ⟨rfl, hq⟩
    have hb := hq V7.heap.size
    clear hq
    replace r_v := rdM_below r_v hb
    replace r_o := rdv_below r_o hb
    replace r_w := rdv_below r_w hb
    replace bel := bel.below hb
    clear hb
    clear r_v
    go_wp2_with fail
    refine (sameInts_m _ _ _ _ r_o r_w).mono ?_
    rintro e V9 ⟨rfl, hq⟩
    have hb := hq V8.heap.size
    clear hq
    replace r_o := rdv_below r_o hb
    replace r_w := rdv_below r_w hb
    replace bel := bel.below hb
    clear hb
    go_wp2
    exact ⟨rfl, _, fun τ => results_tmp (t := 2) rfl _ _ _, rfl, bel⟩
  · obtain ⟨m, er, hk⟩ := meet_facts ha
    have hlen := areV_len ha
    obtain ⟨L, hL1, hL5, hL⟩ := areV_row ha
    have HRL := Lib.hid hL
    have HL1 := Lib.hid hL1
    have HK := Lib.hid hk
    have HI : Hid (∀ (wx : World) (v0 : Value), RdM wx v0 vs → CallsB (duo Try.prog X) 18 #[v0] wx (fun v w' => ∃ u, v = .tuple #[u, .bool true] ∧ Own w' wx.heap.size u m ∧ Bel wx w')) := Lib.hid fun wx v0 k0 => by
      have := iViewMeet_b (X := X) k0
      rw [er] at this
      exact this
    have HS : Hid (∀ (wx : World) (v0 : Value), RdM wx v0 vs → Calls (cutP Try.prog) 19 #[v0] wx (FreshLB wx (m, true))) := Lib.hid fun wx v0 k0 => by
      rw [← er]
      exact sViewMeet_v v0 vs wx k0
    clear er
    clear ha hk hL hL1 hL5 hlen
    refine WpB.seq kit (WpB.region kit ?_)
    simp only [List.size_toArray, List.length_cons, List.length_nil, Nat.reduceAdd, Nat.zero_add, List.range, List.range.loop]
    unfold OpsB
    simp only [List.getElem?_toArray, List.getElem?_cons_zero, List.getElem?_cons_succ]
    rw [if_pos (by rfl)]
    left
    intro _
    unfold Oper.wp
    go_simp
    unfold OpsB
    simp only [List.getElem?_toArray, List.getElem?_cons_zero, List.getElem?_cons_succ]
    rw [if_pos (by rfl)]
    right
    refine ⟨18, #[v_v], fun W => ⟨by kernel_rfl, by kernel_rfl⟩, ?_⟩
    refine CallsB.own ((HI.out _ _ r_v).mono fun vr V5 h => ?_)
    obtain ⟨v_o, rfl, o, hb⟩ := h
    replace r_v := hb.rdm r_v
    replace bel := bel.trans hb
    clear hb
    unfold OpsB
    simp only [List.getElem?_toArray, List.getElem?_cons_zero, List.getElem?_cons_succ]
    rw [if_pos (by rfl)]
    left
    intro _
    unfold Oper.wp
    go_simp
    unfold OpsB
    simp only [List.getElem?_toArray, List.getElem?_cons_zero, List.getElem?_cons_succ]
    rw [if_pos (by rfl)]
    left
    intro _
    unfold Oper.wp
    go_simp
    unfold OpsB
    simp only [List.getElem?_toArray, List.getElem?_cons_zero, List.getElem?_cons_succ]
    rw [if_pos (by rfl)]
    left
    intro _
    unfold Oper.wp
    go_simp
    unfold OpsB
    simp only [List.getElem?_toArray, List.getElem?_cons_zero, List.getElem?_cons_succ]
    rw [if_pos (by rfl)]
    left
    intro _
    unfold Oper.wp
    go_simp
    unfold OpsB
    simp only [List.getElem?_toArray, List.getElem?_cons_zero, List.getElem?_cons_succ]
    rw [if_pos (by rfl)]
    left
    intro _
    unfold Oper.wp
    go_simp
    unfold OpsB
    refine WpB.own ?_
    have r_o := own_rdv o
    clear o
    refine WpB.of_wp kit (fun τ => ?_) (outs_body _ _ _)
    replace r_v := rdm_ownT (τ := τ) r_v
    replace r_o := rdv_ownT (τ := τ) r_o
    replace bel := bel_ownT (τ := τ) bel
    generalize ownTape V5 τ = V6 at *
    clear τ
    go_wp2_with fail
    refine (HS.out _ _ r_v).mono ?_
    rintro e V7 ⟨v_w, rfl, o, hb⟩
    replace r_v := rdM_below r_v hb
    replace r_o := rdv_below r_o hb
    replace bel := bel.below hb
    clear hb
    have r_w := own_rdv o
    clear o
    go_wp2_with fail
    refine (sameInts_m _ _ _ _ r_o r_w).mono ?_
    rintro e V8 ⟨rfl, hq⟩
    have hb := hq V7.heap.size
    clear hq
    replace r_v := rdM_below r_v hb
    replace r_o := rdv_below r_o hb
    replace r_w := rdv_below r_w hb
    replace bel := bel.below hb
    clear hb
    clear r_w
    obtain ⟨vb, vo, vcap, bV, oV, cV, rfl, hV⟩ := rows_at r_v HL.out.1 HL1.out (fun k hk => (HRL.out k hk).1)
    obtain ⟨n, hn⟩ : ∃ n, n = vs.length := ⟨_, rfl⟩
    have HN6 := Lib.hid (show n ≤ 6 by rw [hn]; exact HL.out.2)
    rw [← hn] at HK hV ⊢
    have HV := Lib.hid hV
    have RO := Lib.hid r_o
    have BEL := Lib.hid bel
    clear hV hn r_v r_o bel
    go_wp2
    go_loopw [8] (fun i wr => ∃ k : Nat, k ≤ n ∧ i = .int .i64 k ∧ Below V8.heap.size V8 wr) (fun i _ => n - (intOf i).toNat)
    case atStart => exact ⟨0, Nat.zero_le _, rfl, Below.refl _ _⟩
    case round =>
      obtain ⟨k, hk, rfl, hbw⟩ := hrel
      by_cases hlt : k < n
      · have hcell := cell_belowV (HV.out k hlt).1 hbw
        have HRK := Lib.hid (rdv_below (HV.out k hlt).2.2 hbw)
        have HRO := Lib.hid (rdv_below RO.out hbw)
        have HV1 := Lib.hid (fun (wx : World) (v0 v1 : Value) (k0 : RdV wx v0 m) (k1 : RdV wx v1 (vs.getD k [])) => (HK.out k hlt ▸ iFinerIn_v v0 v1 m (vs.getD k []) wx k0 k1 : Calls (cutP Try.prog) 20 #[v0, v1] wx (GivesB wx true)))
        have hn6 := HN6.out
        have hkl : (k : Int) < (n : Int) := by omega
        have hk0 : (0 : Int) ≤ (k : Int) := by omega
        go_wp2_with fail
        refine (HV1.out _ _ _ HRO.out HRK.out).mono ?_
        rintro e w5 ⟨rfl, hb5⟩
        have hbw5 := below_step hbw hb5
        clear hb5 hbw hcell
        go_wp2
        go_roundw
        case rel => exact ⟨k + 1, by omega, by go_num, hbw5⟩
        case measure => simp [intOf]; omega
      · have hkn : k = n := by omega
        subst hkn
        have hbel := BEL.out.below hbw
        go_wp2
        exact ⟨rfl, _, fun τ => results_tmp (t := 2) rfl _ _ _, rfl, hbel⟩

set_option maxRecDepth 100000 in
set_option maxHeartbeats 4000000 in
theorem walk (a0 : Option Addr) (len0 cap0 : Nat) (z0 : List Int) (W : World) (w0 : IsRow .u8 W a0 len0 cap0 z0) :
    ∃ M last o w' t', runNT Try.prog (M + 1) (solo (G (Frame.enter Try.prog 5 #[.slice a0 len0 cap0] .normal) []) W) #[] = (.ended o w', t') ∧ runN Try.prog M (solo (G (Frame.enter Try.prog 5 #[.slice a0 len0 cap0] .normal) []) W) = .next last ∧ step Try.prog last = .ended o w' ∧
      Go.Conc.Good Try.prog (fun v W' => v = .bool true ∧ Keeps W W') last o w' t' := by
  obtain ⟨cd, hcd⟩ : ∃ cd, Try.f5.body = some cd := ⟨_, rfl⟩
  refine law_true (fn := Try.f5) (t := 2) Tryp.func5 Try.func5 hcd (kept_code (by kernel_rfl) hcd) (by kernel_rfl) rfl ?_
  obtain ⟨hB0, hc0, hcm0⟩ := bytes_of_row w0
  refine (Nat.lt_or_ge 1048576 len0).elim (fun hs0 => ?_) (fun hs0 => ?_)
  · clear hB0 w0
    refine WpB.of_wp kit (fun τ => ?_) (outs_body _ _ _)
    have hc : Try.f5.body = _ := rfl
    conv at hc => rhs; whnf
    rw [hcd] at hc
    injection hc with hc
    subst hc
    clear hcd
    simp only [Try.ntmps5, List.size_toArray, List.length_cons, List.length_nil, Nat.reduceAdd, Nat.reduceSub, Array.replicate_succ, Array.replicate_zero, List.push_toArray, List.append_toArray, List.nil_append, List.cons_append]
    go_wp2
    exact ⟨rfl, _, fun τ => results_tmp (t := 2) rfl _ _ _, rfl, bel_ownT (Bel.refl _)⟩
  exact small a0 len0 cap0 (bytes_veil hB0) hc0 hcm0 hs0 cd hcd

set_option maxRecDepth 100000 in
theorem lifted (os : Os) (started : os.Started) (H : Type) (enc : TypeId × Value → H) :
    ReturnsInLeavingWide {} Try.checked os 5 .any (Rows.fnViewMeetSpec.pre6 enc Try.prog Try.f5 Rows.fnViewMeetRow.domain false) (Rows.fnViewMeetSpec.post enc Try.prog Try.f5 false true false false) := by
  refine returnsInLeavingWide_of_change_sized (C := Try.checked) own started Try.func5
    (ChangeSpec.witness6 (enc := enc) (C := Try.checked) false ⟨#[], #[.slice none 0 0], []⟩ 8 (by kernel_rfl) (by kernel_rfl) (by kernel_rfl) (by kernel_rfl)) ?_
  intro W base args ds gs before hval0 hW _ _ _
  have hval : ∀ (j : Nat) t v, Try.f5.params[j]? = some t → args[j]? = some v → Value.okWide Try.prog W .any base t v := hval0
  have hW' := hW
  obtain ⟨p, q, hA0, hV, rfl, hfz, hnd⟩ := hW
  have hA : DataW.TrodAll enc Try.prog W 0 (fun _ => true) true Try.f5.params.toList args.toList ds p := hA0
  rw [Try.params5] at hA hval
  obtain ⟨v0, vs0, d0, ds0, p0, q0, hargs, rfl, rfl, h0, r0⟩ := trodAll_cons hA
  obtain ⟨rfl, rfl, rfl⟩ := trodAll_nil r0
  obtain rfl : args = #[v0] := by cases args; simp_all
  obtain ⟨rfl, rfl⟩ := trodVars_none hV
  obtain ⟨a0, len0, cap0, rfl⟩ := okWide_slice Try.underlying22 (hval 0 22 v0 rfl rfl)
  have k0 := h0
  have lt0 : ∀ x ∈ p0, x.block < W.heap.size := by obtain ⟨m, hm⟩ := k0; exact DataW.trod_lt m _ _ _ hm
  obtain ⟨z0, w0⟩ : ∃ zs, IsRow .u8 W a0 len0 cap0 zs := by
    obtain ⟨fuel, hf⟩ := h0
    rcases open_ints Try.underlying22 Try.underlying5 (by kernel_rfl) hf with ⟨hcs, _⟩ | ⟨x, l, c, zs, hcs, _, hl, hm, hz, _, hcell, hwz⟩
    · simp [Value.cells] at hcs
      obtain ⟨rfl, rfl, rfl⟩ := hcs
      exact ⟨[], .inl ⟨rfl, rfl, rfl, rfl⟩⟩
    · simp [Value.cells] at hcs
      obtain ⟨rfl, rfl, rfl⟩ := hcs
      exact ⟨zs, .inr ⟨_, rfl, hl, hm, by simpa using hz, hcell, hwz⟩⟩
  clear hA0 hval0
  obtain ⟨M, last, o, w', t', e1, e2, e3, e4⟩ := walk a0 len0 cap0 z0 W w0
  refine ⟨M, last, o, w', t', e1, e2, e3, e4.mono fun v hF => ?_⟩
  obtain ⟨rfl, hk⟩ := hF
  exact ⟨_, _, _, [], _, [], hW', trodAll_mk1 (shut_bool Try.underlying4 _), (trodAll_cons_mk (Keeps.trod laidOut (by kernel_rfl) (of_decide_eq_true (by kernel_rfl)) k0 hk lt0) trodAll_mk0), rfl, hk.frame _, fun h => by cases h⟩

theorem over : Rows.fnViewMeetRow.holds Try.pinned (OpenSpec.ofChange Rows.fnViewMeetSpec) :=
  OpenClaim.holds_of_wide_leaving 5 Try.f5 rfl rfl rfl rfl rfl rfl rfl ⟨rfl, rfl, rfl, rfl, rfl⟩ rfl rfl rfl rfl rfl (by kernel_rfl) Try.func5 (by kernel_rfl)
    (of_decide_eq_true (by kernel_rfl)) (by unfold Func.isWrapper; first | (rw [if_pos (by decide +kernel)]; kernel_rfl) | (rw [if_neg (by decide +kernel)]; exact ⟨rfl, rfl⟩))
    (fun os started H enc _ => lifted os started H enc)

/-- The statement. -/
theorem proved : Rows.FnViewMeetSaid := over
end Go.Proofs.Ytfiaiephbemdoaa.fnViewMeet
