/-
  The exact law of ViewCommon: for every input the Go text of laws.FnCommon returns true, and each argument reads afterwards as before. No condition.
-/
import Derived.Test.YtfiaiephbemdoaaMgK
import Derived.Test.YtfiaiephbemdoaaMgM
import Derived.Test.YtfiaiephbemdoaaMgL
import Derived.Test.YtfiaiephbemdoaaMgN
import Derived.Test.YtfiaiephbemdoaaRows
import Derived.Deep.Matrix
import Derived.ProofKit
import Derived.OpenShut
import Derived.ShutString
import Derived.ChangeOld
import Derived.Conc.LeavingOf
namespace Go.Proofs.Ytfiaiephbemdoaa.fnCommon
open Go.ChangeShapes Go.WideShapes Go.ChangeAt Go.RowKit Go.Conc
open Go.ChangeMaps (open_string shut_string)
set_option linter.unusedVariables false
set_option linter.unusedSimpArgs false
set_option linter.unnecessarySimpa false

theorem own : ownKnob Try.prog.godebug = none := by kernel_rfl
theorem laidOut : laidOutB Try.prog = true := by kernel_rfl

theorem sameInts_t (v u : Value) (xs : List Int) (w : World) (hv : RdV w v xs) (hu : RdV w u xs) : Calls (cutP Try.prog) 12 #[v, u] w fun e w' => e = .returned (.bool true) ∧ Same w w' :=
  (sameInts_v v u xs xs w hv hu).mono fun e w' ⟨he, hw⟩ => ⟨by rw [he]; simp, hw⟩

set_option maxRecDepth 100000 in
set_option maxHeartbeats 16000000 in
theorem small {X w : World} (a0 : Option Addr) (len0 cap0 : Nat) (hB : Bytes w a0 len0) (hc0 : len0 ≤ cap0) (hcm0 : cap0 ≤ maxLen) (hs0 : len0 ≤ 1048576) (cd : Code) (hcd : Try.f3.body = some cd) :
    WpB (duo Try.prog X) cd (bodyB (cutP Try.prog) Try.f3 fun v w' => v = .bool true ∧ Bel w w') { tmps := #[.slice a0 len0 cap0] ++ Array.replicate (Try.f3.ntmps - 1) undef, defers := [] } w := by
  have bel : Bel w w := Bel.refl w
  have hc : Try.f3.body = _ := rfl
  conv at hc => rhs; whnf
  rw [hcd] at hc
  injection hc with hc
  subst hc
  clear hcd
  simp only [Try.ntmps3, List.size_toArray, List.length_cons, List.length_nil, Nat.reduceAdd, Nat.reduceSub, Array.replicate_succ, Array.replicate_zero, List.push_toArray, List.append_toArray, List.nil_append, List.cons_append]
  refine WpB.seq kit (WpB.of_wp kit (fun τ => ?_) (outs_then (outs_body _ _ _)))
  replace hB := bytes_ownT (τ := τ) hB
  replace bel := bel_ownT (τ := τ) bel
  generalize ownTape w τ = V1 at *
  clear τ
  go_wp2
  refine WpB.seq kit (WpB.of_wp kit (fun τ => ?_) (outs_then (outs_body _ _ _)))
  replace hB := bytes_ownT (τ := τ) hB
  replace bel := bel_ownT (τ := τ) bel
  generalize ownTape V1 τ = V2 at *
  clear τ
  go_wp2
  refine WpB.seq kit (WpB.of_wp kit (fun τ => ?_) (outs_then (outs_body _ _ _)))
  replace hB := bytes_ownT (τ := τ) hB
  replace bel := bel_ownT (τ := τ) bel
  generalize ownTape V2 τ = V3 at *
  clear τ
  go_wp2_with fail
  refine (drawViewCommon_any _ _ _ _ hB hs0 hc0 hcm0).mono ?_
  rintro e V4 ⟨v_v, vs, rfl, r_v, hl, hf, hb⟩
  replace bel := bel.below hb
  clear hb hB
  have HL := Lib.hid hl
  clear hl hf
  go_wp2
  cases ha : areV vs
  · have er : viewCommon vs = ([], false) := by unfold viewCommon; rw [ha]; rfl
    have HI : Hid (∀ (wx : World) (v0 : Value), RdM wx v0 vs → CallsB (duo Try.prog X) 10 #[v0] wx (fun v w' => ∃ u, v = .tuple #[u, .bool false] ∧ Own w' wx.heap.size u [] ∧ Bel wx w')) := Lib.hid fun wx v0 k0 => by
      have := iViewCommon_b (X := X) k0
      rw [er] at this
      exact this
    have HS : Hid (∀ (wx : World) (v0 : Value), RdM wx v0 vs → Calls (cutP Try.prog) 11 #[v0] wx (FreshLB wx ([], false))) := Lib.hid fun wx v0 k0 => by
      rw [← er]
      exact sViewCommon_v v0 vs wx k0
    clear er
    clear ha
    refine WpB.seq kit (WpB.region kit ?_)
    simp only [List.size_toArray, List.length_cons, List.length_nil, Nat.reduceAdd, Nat.zero_add, List.range, List.range.loop]
    unfold OpsB
    simp only [List.getElem?_toArray, List.getElem?_cons_zero, List.getElem?_cons_succ]
    rw [if_pos (by rfl)]
    left
    intro _
    unfold Oper.wp
    go_simp
    unfold OpsB
    simp only [List.getElem?_toArray, List.getElem?_cons_zero, List.getElem?_cons_succ]
    rw [if_pos (by rfl)]
    right
    refine ⟨10, #[v_v], fun W => ⟨by kernel_rfl, by kernel_rfl⟩, ?_⟩
    refine CallsB.own ((HI.out _ _ r_v).mono fun vr V5 h => ?_)
    obtain ⟨v_o, rfl, o, hb⟩ := h
    replace r_v := hb.rdm r_v
    replace bel := bel.trans hb
    clear hb
    unfold OpsB
    simp only [List.getElem?_toArray, List.getElem?_cons_zero, List.getElem?_cons_succ]
    rw [if_pos (by rfl)]
    left
    intro _
    unfold Oper.wp
    go_simp
    unfold OpsB
    simp only [List.getElem?_toArray, List.getElem?_cons_zero, List.getElem?_cons_succ]
    rw [if_pos (by rfl)]
    left
    intro _
    unfold Oper.wp
    go_simp
    unfold OpsB
    simp only [List.getElem?_toArray, List.getElem?_cons_zero, List.getElem?_cons_succ]
    rw [if_pos (by rfl)]
    left
    intro _
    unfold Oper.wp
    go_simp
    unfold OpsB
    simp only [List.getElem?_toArray, List.getElem?_cons_zero, List.getElem?_cons_succ]
    rw [if_pos (by rfl)]
    left
    intro _
    unfold Oper.wp
    go_simp
    unfold OpsB
    simp only [List.getElem?_toArray, List.getElem?_cons_zero, List.getElem?_cons_succ]
    rw [if_pos (by rfl)]
    left
    intro _
    unfold Oper.wp
    go_simp
    unfold OpsB
    refine WpB.own ?_
    have r_o := own_rdv o
    clear o
    refine WpB.of_wp kit (fun τ => ?_) (outs_body _ _ _)
    replace r_v := rdm_ownT (τ := τ) r_v
    replace r_o := rdv_ownT (τ := τ) r_o
    replace bel := bel_ownT (τ := τ) bel
    generalize ownTape V5 τ = V6 at *
    clear τ
    go_wp2_with fail
    refine (HS.out _ _ r_v).mono ?_
    rintro e V7 ⟨v_w, rfl, o, hb⟩
    replace r_v := rdM_below r_v hb
    replace r_o := rdv_below r_o hb
    replace bel := bel.below hb
    clear hb
    have r_w := own_rdv o
    clear o
    go_wp2_with fail
    refine (sameInts_t _ _ _ _ r_o r_w).mono ?_
    rintro e V8 ⟨rfl, hq⟩
    have hb := hq V7.heap.size
    clear hq
    replace r_v := rdM_below r_v hb
    replace r_o := rdv_below r_o hb
    replace r_w := rdv_below r_w hb
    replace bel := bel.below hb
    clear hb
    clear r_v
    go_wp2_with fail
    refine (sameInts_t _ _ _ _ r_o r_w).mono ?_
    rintro e V9 ⟨rfl, hq⟩
    have hb := hq V8.heap.size
    clear hq
    replace r_o := rdv_below r_o hb
    replace r_w := rdv_below r_w hb
    replace bel := bel.below hb
    clear hb
    go_wp2
    exact ⟨rfl, _, fun τ => results_tmp (t := 2) rfl _ _ _, rfl, bel⟩
  · obtain ⟨m, c, er, ec, hk⟩ := common_facts ha
    have hlen := areV_len ha
    obtain ⟨L, hL1, hL5, hL⟩ := areV_row ha
    have HRL := Lib.hid hL
    have HL1 := Lib.hid hL1
    have HC : Hid (∀ (wx : World) (v0 v1 : Value), RdV wx v0 m → RdM wx v1 vs → CallsB (duo Try.prog X) 13 #[v0, v1] wx (fun v w' => v = .tuple #[.int .i64 c, .bool true] ∧ Bel wx w')) := Lib.hid fun wx v0 v1 k0 k1 => by
      have := iViewCost_b (X := X) k0 k1
      rw [ec] at this
      exact this
    have HD : Hid (∀ k, k < vs.length → ∃ d : Nat, c ≤ d ∧ ∀ (wx : World) (v0 v1 : Value), RdV wx v0 (vs.getD k []) → RdM wx v1 vs → CallsB (duo Try.prog X) 13 #[v0, v1] wx (fun v w' => v = .tuple #[.int .i64 d, .bool true] ∧ Bel wx w')) := Lib.hid fun k hkn => by
      obtain ⟨d, e1, e2⟩ := hk k hkn
      refine ⟨d, e2, fun wx v0 v1 k0 k1 => ?_⟩
      have := iViewCost_b (X := X) k0 k1
      rw [e1] at this
      exact this
    have HI : Hid (∀ (wx : World) (v0 : Value), RdM wx v0 vs → CallsB (duo Try.prog X) 10 #[v0] wx (fun v w' => ∃ u, v = .tuple #[u, .bool true] ∧ Own w' wx.heap.size u m ∧ Bel wx w')) := Lib.hid fun wx v0 k0 => by
      have := iViewCommon_b (X := X) k0
      rw [er] at this
      exact this
    have HS : Hid (∀ (wx : World) (v0 : Value), RdM wx v0 vs → Calls (cutP Try.prog) 11 #[v0] wx (FreshLB wx (m, true))) := Lib.hid fun wx v0 k0 => by
      rw [← er]
      exact sViewCommon_v v0 vs wx k0
    clear er
    clear ha ec hk hL hL1 hL5 hlen
    refine WpB.seq kit (WpB.region kit ?_)
    simp only [List.size_toArray, List.length_cons, List.length_nil, Nat.reduceAdd, Nat.zero_add, List.range, List.range.loop]
    unfold OpsB
    simp only [List.getElem?_toArray, List.getElem?_cons_zero, List.getElem?_cons_succ]
    rw [if_pos (by rfl)]
    left
    intro _
    unfold Oper.wp
    go_simp
    unfold OpsB
    simp only [List.getElem?_toArray, List.getElem?_cons_zero, List.getElem?_cons_succ]
    rw [if_pos (by rfl)]
    right
    refine ⟨10, #[v_v], fun W => ⟨by kernel_rfl, by kernel_rfl⟩, ?_⟩
    refine CallsB.own ((HI.out _ _ r_v).mono fun vr V5 h => ?_)
    obtain ⟨v_o, rfl, o, hb⟩ := h
    replace r_v := hb.rdm r_v
    replace bel := bel.trans hb
    clear hb
    unfold OpsB
    simp only [List.getElem?_toArray, List.getElem?_cons_zero, List.getElem?_cons_succ]
    rw [if_pos (by rfl)]
    left
    intro _
    unfold Oper.wp
    go_simp
    unfold OpsB
    simp only [List.getElem?_toArray, List.getElem?_cons_zero, List.getElem?_cons_succ]
    rw [if_pos (by rfl)]
    left
    intro _
    unfold Oper.wp
    go_simp
    unfold OpsB
    simp only [List.getElem?_toArray, List.getElem?_cons_zero, List.getElem?_cons_succ]
    rw [if_pos (by rfl)]
    left
    intro _
    unfold Oper.wp
    go_simp
    unfold OpsB
    simp only [List.getElem?_toArray, List.getElem?_cons_zero, List.getElem?_cons_succ]
    rw [if_pos (by rfl)]
    left
    intro _
    unfold Oper.wp
    go_simp
    unfold OpsB
    simp only [List.getElem?_toArray, List.getElem?_cons_zero, List.getElem?_cons_succ]
    rw [if_pos (by rfl)]
    left
    intro _
    unfold Oper.wp
    go_simp
    unfold OpsB
    refine WpB.own ?_
    have r_o := own_rdv o
    clear o
    refine WpB.seq kit (WpB.of_wp kit (fun τ => ?_) (outs_then (outs_body _ _ _)))
    replace r_v := rdm_ownT (τ := τ) r_v
    replace r_o := rdv_ownT (τ := τ) r_o
    replace bel := bel_ownT (τ := τ) bel
    generalize ownTape V5 τ = V6 at *
    clear τ
    go_wp2_with fail
    refine (HS.out _ _ r_v).mono ?_
    rintro e V7 ⟨v_w, rfl, o, hb⟩
    replace r_v := rdM_below r_v hb
    replace r_o := rdv_below r_o hb
    replace bel := bel.below hb
    clear hb
    have r_w := own_rdv o
    clear o
    go_wp2
    refine WpB.seq kit (WpB.of_wp kit (fun τ => ?_) (outs_then (outs_body _ _ _)))
    replace r_v := rdm_ownT (τ := τ) r_v
    replace r_o := rdv_ownT (τ := τ) r_o
    replace r_w := rdv_ownT (τ := τ) r_w
    replace bel := bel_ownT (τ := τ) bel
    generalize ownTape V7 τ = V8 at *
    clear τ
    go_wp2_with fail
    refine (sameInts_t _ _ _ _ r_o r_w).mono ?_
    rintro e V9 ⟨rfl, hq⟩
    have hb := hq V8.heap.size
    clear hq
    replace r_v := rdM_below r_v hb
    replace r_o := rdv_below r_o hb
    replace r_w := rdv_below r_w hb
    replace bel := bel.below hb
    clear hb
    go_wp2
    clear r_w
    refine WpB.seq kit (WpB.region kit ?_)
    simp only [List.size_toArray, List.length_cons, List.length_nil, Nat.reduceAdd, Nat.zero_add, List.range, List.range.loop]
    unfold OpsB
    simp only [List.getElem?_toArray, List.getElem?_cons_zero, List.getElem?_cons_succ]
    rw [if_pos (by rfl)]
    left
    intro _
    unfold Oper.wp
    go_simp
    unfold OpsB
    simp only [List.getElem?_toArray, List.getElem?_cons_zero, List.getElem?_cons_succ]
    rw [if_pos (by rfl)]
    left
    intro _
    unfold Oper.wp
    go_simp
    unfold OpsB
    simp only [List.getElem?_toArray, List.getElem?_cons_zero, List.getElem?_cons_succ]
    rw [if_pos (by rfl)]
    right
    refine ⟨13, #[v_o, v_v], fun W => ⟨by kernel_rfl, by kernel_rfl⟩, ?_⟩
    refine CallsB.own ((HC.out _ _ _ r_o r_v).mono fun vr V10 h => ?_)
    obtain ⟨rfl, hb⟩ := h
    replace r_v := hb.rdm r_v
    replace r_o := hb.rdv r_o
    replace bel := bel.trans hb
    clear hb
    unfold OpsB
    simp only [List.getElem?_toArray, List.getElem?_cons_zero, List.getElem?_cons_succ]
    rw [if_pos (by rfl)]
    left
    intro _
    unfold Oper.wp
    go_simp
    unfold OpsB
    simp only [List.getElem?_toArray, List.getElem?_cons_zero, List.getElem?_cons_succ]
    rw [if_pos (by rfl)]
    left
    intro _
    unfold Oper.wp
    go_simp
    unfold OpsB
    simp only [List.getElem?_toArray, List.getElem?_cons_zero, List.getElem?_cons_succ]
    rw [if_pos (by rfl)]
    left
    intro _
    unfold Oper.wp
    go_simp
    unfold OpsB
    simp only [List.getElem?_toArray, List.getElem?_cons_zero, List.getElem?_cons_succ]
    rw [if_pos (by rfl)]
    left
    intro _
    unfold Oper.wp
    go_simp
    unfold OpsB
    simp only [List.getElem?_toArray, List.getElem?_cons_zero, List.getElem?_cons_succ]
    rw [if_pos (by rfl)]
    left
    intro _
    unfold Oper.wp
    go_simp
    unfold OpsB
    refine WpB.own ?_
    clear r_o
    obtain ⟨vb, vo, vcap, bV, oV, cV, rfl, hV⟩ := rows_at r_v HL.out.1 HL1.out (fun k hk => (HRL.out k hk).1)
    obtain ⟨n, hn⟩ : ∃ n, n = vs.length := ⟨_, rfl⟩
    have HN6 := Lib.hid (show n ≤ 6 by rw [hn]; exact HL.out.2)
    rw [← hn] at HD hV r_v ⊢
    have HV := Lib.hid hV
    have RV := Lib.hid r_v
    have BEL := Lib.hid bel
    clear r_v bel hV hn
    refine WpB.seq kit ?_
    refine WpB.seq kit (WpB.of_wp kit (fun τ => ?_) (by repeat (first | exact outs_body _ _ _ | refine outs_then ?_ | refine outs_block ?_)))
    go_wp2
    refine WpB.own ?_
    refine WpB.block kit (WpB.loop kit (fun a w' => ∃ k : Nat, k ≤ n ∧ Bel V10 w' ∧ a = { tmps := #[a.tmps.getD 0 undef, a.tmps.getD 1 undef, a.tmps.getD 2 undef, .slice (some ⟨vb, vo, none⟩) n vcap, a.tmps.getD 4 undef, a.tmps.getD 5 undef, a.tmps.getD 6 undef, a.tmps.getD 7 undef, .int .i64 c, .bool true, .int .i64 k, a.tmps.getD 11 undef, a.tmps.getD 12 undef, a.tmps.getD 13 undef, a.tmps.getD 14 undef, a.tmps.getD 15 undef, a.tmps.getD 16 undef, a.tmps.getD 17 undef, a.tmps.getD 18 undef, a.tmps.getD 19 undef, a.tmps.getD 20 undef, a.tmps.getD 21 undef, a.tmps.getD 22 undef, a.tmps.getD 23 undef, a.tmps.getD 24 undef, a.tmps.getD 25 undef, a.tmps.getD 26 undef, a.tmps.getD 27 undef, a.tmps.getD 28 undef, a.tmps.getD 29 undef, a.tmps.getD 30 undef, a.tmps.getD 31 undef, a.tmps.getD 32 undef, a.tmps.getD 33 undef, a.tmps.getD 34 undef, a.tmps.getD 35 undef, a.tmps.getD 36 undef, a.tmps.getD 37 undef, a.tmps.getD 38 undef, a.tmps.getD 39 undef, a.tmps.getD 40 undef, a.tmps.getD 41 undef, a.tmps.getD 42 undef, a.tmps.getD 43 undef, a.tmps.getD 44 undef, a.tmps.getD 45 undef, a.tmps.getD 46 undef, a.tmps.getD 47 undef, a.tmps.getD 48 undef, a.tmps.getD 49 undef, a.tmps.getD 50 undef, a.tmps.getD 51 undef, a.tmps.getD 52 undef, a.tmps.getD 53 undef, a.tmps.getD 54 undef, a.tmps.getD 55 undef, a.tmps.getD 56 undef, a.tmps.getD 57 undef, a.tmps.getD 58 undef, a.tmps.getD 59 undef, a.tmps.getD 60 undef, a.tmps.getD 61 undef, a.tmps.getD 62 undef, a.tmps.getD 63 undef, a.tmps.getD 64 undef, a.tmps.getD 65 undef, a.tmps.getD 66 undef, a.tmps.getD 67 undef, a.tmps.getD 68 undef, a.tmps.getD 69 undef, a.tmps.getD 70 undef, a.tmps.getD 71 undef, a.tmps.getD 72 undef, a.tmps.getD 73 undef, a.tmps.getD 74 undef, a.tmps.getD 75 undef, a.tmps.getD 76 undef, a.tmps.getD 77 undef], defers := [] }) (fun a _ => n - (intOf (a.tmps.getD 10 undef)).toNat) ⟨0, Nat.zero_le _, Bel.refl _, rfl⟩ fun a w1 h => ?_)
    obtain ⟨k, hk, hb, ha⟩ := h
    generalize a.tmps.getD 0 undef = u0 at ha
    generalize a.tmps.getD 1 undef = u1 at ha
    generalize a.tmps.getD 2 undef = u2 at ha
    generalize a.tmps.getD 4 undef = u4 at ha
    generalize a.tmps.getD 5 undef = u5 at ha
    generalize a.tmps.getD 6 undef = u6 at ha
    generalize a.tmps.getD 7 undef = u7 at ha
    generalize a.tmps.getD 11 undef = u11 at ha
    generalize a.tmps.getD 12 undef = u12 at ha
    generalize a.tmps.getD 13 undef = u13 at ha
    generalize a.tmps.getD 14 undef = u14 at ha
    generalize a.tmps.getD 15 undef = u15 at ha
    generalize a.tmps.getD 16 undef = u16 at ha
    generalize a.tmps.getD 17 undef = u17 at ha
    generalize a.tmps.getD 18 undef = u18 at ha
    generalize a.tmps.getD 19 undef = u19 at ha
    generalize a.tmps.getD 20 undef = u20 at ha
    generalize a.tmps.getD 21 undef = u21 at ha
    generalize a.tmps.getD 22 undef = u22 at ha
    generalize a.tmps.getD 23 undef = u23 at ha
    generalize a.tmps.getD 24 undef = u24 at ha
    generalize a.tmps.getD 25 undef = u25 at ha
    generalize a.tmps.getD 26 undef = u26 at ha
    generalize a.tmps.getD 27 undef = u27 at ha
    generalize a.tmps.getD 28 undef = u28 at ha
    generalize a.tmps.getD 29 undef = u29 at ha
    generalize a.tmps.getD 30 undef = u30 at ha
    generalize a.tmps.getD 31 undef = u31 at ha
    generalize a.tmps.getD 32 undef = u32 at ha
    generalize a.tmps.getD 33 undef = u33 at ha
    generalize a.tmps.getD 34 undef = u34 at ha
    generalize a.tmps.getD 35 undef = u35 at ha
    generalize a.tmps.getD 36 undef = u36 at ha
    generalize a.tmps.getD 37 undef = u37 at ha
    generalize a.tmps.getD 38 undef = u38 at ha
    generalize a.tmps.getD 39 undef = u39 at ha
    generalize a.tmps.getD 40 undef = u40 at ha
    generalize a.tmps.getD 41 undef = u41 at ha
    generalize a.tmps.getD 42 undef = u42 at ha
    generalize a.tmps.getD 43 undef = u43 at ha
    generalize a.tmps.getD 44 undef = u44 at ha
    generalize a.tmps.getD 45 undef = u45 at ha
    generalize a.tmps.getD 46 undef = u46 at ha
    generalize a.tmps.getD 47 undef = u47 at ha
    generalize a.tmps.getD 48 undef = u48 at ha
    generalize a.tmps.getD 49 undef = u49 at ha
    generalize a.tmps.getD 50 undef = u50 at ha
    generalize a.tmps.getD 51 undef = u51 at ha
    generalize a.tmps.getD 52 undef = u52 at ha
    generalize a.tmps.getD 53 undef = u53 at ha
    generalize a.tmps.getD 54 undef = u54 at ha
    generalize a.tmps.getD 55 undef = u55 at ha
    generalize a.tmps.getD 56 undef = u56 at ha
    generalize a.tmps.getD 57 undef = u57 at ha
    generalize a.tmps.getD 58 undef = u58 at ha
    generalize a.tmps.getD 59 undef = u59 at ha
    generalize a.tmps.getD 60 undef = u60 at ha
    generalize a.tmps.getD 61 undef = u61 at ha
    generalize a.tmps.getD 62 undef = u62 at ha
    generalize a.tmps.getD 63 undef = u63 at ha
    generalize a.tmps.getD 64 undef = u64 at ha
    generalize a.tmps.getD 65 undef = u65 at ha
    generalize a.tmps.getD 66 undef = u66 at ha
    generalize a.tmps.getD 67 undef = u67 at ha
    generalize a.tmps.getD 68 undef = u68 at ha
    generalize a.tmps.getD 69 undef = u69 at ha
    generalize a.tmps.getD 70 undef = u70 at ha
    generalize a.tmps.getD 71 undef = u71 at ha
    generalize a.tmps.getD 72 undef = u72 at ha
    generalize a.tmps.getD 73 undef = u73 at ha
    generalize a.tmps.getD 74 undef = u74 at ha
    generalize a.tmps.getD 75 undef = u75 at ha
    generalize a.tmps.getD 76 undef = u76 at ha
    generalize a.tmps.getD 77 undef = u77 at ha
    subst ha
    refine WpB.seq kit (WpB.of_wp kit (fun τ => ?_) (by repeat (first | exact outs_body _ _ _ | refine outs_then ?_ | refine outs_block ?_)))
    have hn6 := HN6.out
    by_cases hlt : k < n
    · have hkl : (k : Int) < (n : Int) := by omega
      have hk0 : (0 : Int) ≤ (k : Int) := by omega
      obtain ⟨d, hcd, hd⟩ := HD.out k hlt
      have HDD := Lib.hid hd
      have hcd' : ¬ ((d : Int) < (c : Int)) := by omega
      have hcell := hb.cell (HV.out k hlt).1
      have HRK := Lib.hid (hb.rdv (HV.out k hlt).2.2)
      have HRV := Lib.hid (hb.rdm RV.out)
      have HBB := Lib.hid (BEL.out.trans hb)
      have HBW := Lib.hid hb
      clear hd hb
      go_wp2
      refine WpB.own ?_
      refine WpB.seq kit (WpB.block kit ?_)
      refine WpB.seq kit (WpB.region kit ?_)
      simp only [List.size_toArray, List.length_cons, List.length_nil, Nat.reduceAdd, Nat.zero_add, List.range, List.range.loop]
      unfold OpsB
      simp only [List.getElem?_toArray, List.getElem?_cons_zero, List.getElem?_cons_succ]
      rw [if_pos (by rfl)]
      left
      intro _
      unfold Oper.wp
      go_simp
      unfold OpsB
      simp only [List.getElem?_toArray, List.getElem?_cons_zero, List.getElem?_cons_succ]
      rw [if_pos (by rfl)]
      left
      intro _
      unfold Oper.wp
      go_simp
      unfold OpsB
      simp only [List.getElem?_toArray, List.getElem?_cons_zero, List.getElem?_cons_succ]
      rw [if_pos (by rfl)]
      left
      intro _
      unfold Oper.wp
      go_simp
      unfold OpsB
      simp only [List.getElem?_toArray, List.getElem?_cons_zero, List.getElem?_cons_succ]
      rw [if_pos (by rfl)]
      left
      intro _
      unfold Oper.wp
      go_simp
      unfold OpsB
      simp only [List.getElem?_toArray, List.getElem?_cons_zero, List.getElem?_cons_succ]
      rw [if_pos (by rfl)]
      left
      intro _
      unfold Oper.wp
      go_simp
      unfold OpsB
      simp only [List.getElem?_toArray, List.getElem?_cons_zero, List.getElem?_cons_succ]
      rw [if_pos (by rfl)]
      right
      refine ⟨13, #[.slice (some ⟨bV k, oV k, none⟩) L (cV k), .slice (some ⟨vb, vo, none⟩) n vcap], fun W => ⟨by kernel_rfl, by kernel_rfl⟩, ?_⟩
      refine CallsB.own ((HDD.out _ _ _ HRK.out HRV.out).mono fun vr w2 h => ?_)
      obtain ⟨rfl, hb2⟩ := h
      have HB2 := Lib.hid (HBW.out.trans hb2)
      clear hb2 hcell
      unfold OpsB
      simp only [List.getElem?_toArray, List.getElem?_cons_zero, List.getElem?_cons_succ]
      rw [if_pos (by rfl)]
      left
      intro _
      unfold Oper.wp
      go_simp
      unfold OpsB
      simp only [List.getElem?_toArray, List.getElem?_cons_zero, List.getElem?_cons_succ]
      rw [if_pos (by rfl)]
      left
      intro _
      unfold Oper.wp
      go_simp
      unfold OpsB
      simp only [List.getElem?_toArray, List.getElem?_cons_zero, List.getElem?_cons_succ]
      rw [if_pos (by rfl)]
      left
      intro _
      unfold Oper.wp
      go_simp
      unfold OpsB
      simp only [List.getElem?_toArray, List.getElem?_cons_zero, List.getElem?_cons_succ]
      rw [if_pos (by rfl)]
      left
      intro _
      unfold Oper.wp
      go_simp
      unfold OpsB
      simp only [List.getElem?_toArray, List.getElem?_cons_zero, List.getElem?_cons_succ]
      rw [if_pos (by rfl)]
      left
      intro _
      unfold Oper.wp
      go_simp
      unfold OpsB
      refine WpB.own ?_
      refine WpB.of_wp kit (fun τ => ?_) (by repeat (first | exact outs_body _ _ _ | refine outs_then ?_ | refine outs_block ?_))
      go_wp2
      refine WpB.own ?_
      refine WpB.of_wp kit (fun τ => ?_) (by repeat (first | exact outs_body _ _ _ | refine outs_then ?_ | refine outs_block ?_))
      go_wp2
      refine ⟨⟨k + 1, by omega, bel_ownT HB2.out, ?_⟩, ?_⟩
      · first | rfl | (simp; done) | (congr 1; done)
      · simp [intOf]; omega
    · have hkn : k = n := by omega
      subst hkn
      have hbel := BEL.out.trans hb
      go_wp2
      refine WpB.own ?_
      refine WpB.of_wp kit (fun τ => ?_) (outs_body _ _ _)
      go_wp2
      exact ⟨rfl, _, fun τ => results_tmp (t := 2) rfl _ _ _, rfl, bel_ownT hbel⟩

set_option maxRecDepth 100000 in
set_option maxHeartbeats 4000000 in
theorem walk (a0 : Option Addr) (len0 cap0 : Nat) (z0 : List Int) (W : World) (w0 : IsRow .u8 W a0 len0 cap0 z0) :
    ∃ M last o w' t', runNT Try.prog (M + 1) (solo (G (Frame.enter Try.prog 3 #[.slice a0 len0 cap0] .normal) []) W) #[] = (.ended o w', t') ∧ runN Try.prog M (solo (G (Frame.enter Try.prog 3 #[.slice a0 len0 cap0] .normal) []) W) = .next last ∧ step Try.prog last = .ended o w' ∧
      Go.Conc.Good Try.prog (fun v W' => v = .bool true ∧ Keeps W W') last o w' t' := by
  obtain ⟨cd, hcd⟩ : ∃ cd, Try.f3.body = some cd := ⟨_, rfl⟩
  refine law_true (fn := Try.f3) (t := 2) Tryp.func3 Try.func3 hcd (kept_code (by kernel_rfl) hcd) (by kernel_rfl) rfl ?_
  obtain ⟨hB0, hc0, hcm0⟩ := bytes_of_row w0
  refine (Nat.lt_or_ge 1048576 len0).elim (fun hs0 => ?_) (fun hs0 => ?_)
  · clear hB0 w0
    refine WpB.of_wp kit (fun τ => ?_) (outs_body _ _ _)
    have hc : Try.f3.body = _ := rfl
    conv at hc => rhs; whnf
    rw [hcd] at hc
    injection hc with hc
    subst hc
    clear hcd
    simp only [Try.ntmps3, List.size_toArray, List.length_cons, List.length_nil, Nat.reduceAdd, Nat.reduceSub, Array.replicate_succ, Array.replicate_zero, List.push_toArray, List.append_toArray, List.nil_append, List.cons_append]
    go_wp2
    exact ⟨rfl, _, fun τ => results_tmp (t := 2) rfl _ _ _, rfl, bel_ownT (Bel.refl _)⟩
  exact small a0 len0 cap0 (bytes_veil hB0) hc0 hcm0 hs0 cd hcd

set_option maxRecDepth 100000 in
theorem lifted (os : Os) (started : os.Started) (H : Type) (enc : TypeId × Value → H) :
    ReturnsInLeavingWide {} Try.checked os 3 .any (Rows.fnCommonSpec.pre6 enc Try.prog Try.f3 Rows.fnCommonRow.domain false) (Rows.fnCommonSpec.post enc Try.prog Try.f3 false true false false) := by
  refine returnsInLeavingWide_of_change_sized (C := Try.checked) own started Try.func3
    (ChangeSpec.witness6 (enc := enc) (C := Try.checked) false ⟨#[], #[.slice none 0 0], []⟩ 8 (by kernel_rfl) (by kernel_rfl) (by kernel_rfl) (by kernel_rfl)) ?_
  intro W base args ds gs before hval0 hW _ _ _
  have hval : ∀ (j : Nat) t v, Try.f3.params[j]? = some t → args[j]? = some v → Value.okWide Try.prog W .any base t v := hval0
  have hW' := hW
  obtain ⟨p, q, hA0, hV, rfl, hfz, hnd⟩ := hW
  have hA : DataW.TrodAll enc Try.prog W 0 (fun _ => true) true Try.f3.params.toList args.toList ds p := hA0
  rw [Try.params3] at hA hval
  obtain ⟨v0, vs0, d0, ds0, p0, q0, hargs, rfl, rfl, h0, r0⟩ := trodAll_cons hA
  obtain ⟨rfl, rfl, rfl⟩ := trodAll_nil r0
  obtain rfl : args = #[v0] := by cases args; simp_all
  obtain ⟨rfl, rfl⟩ := trodVars_none hV
  obtain ⟨a0, len0, cap0, rfl⟩ := okWide_slice Try.underlying22 (hval 0 22 v0 rfl rfl)
  have k0 := h0
  have lt0 : ∀ x ∈ p0, x.block < W.heap.size := by obtain ⟨m, hm⟩ := k0; exact DataW.trod_lt m _ _ _ hm
  obtain ⟨z0, w0⟩ : ∃ zs, IsRow .u8 W a0 len0 cap0 zs := by
    obtain ⟨fuel, hf⟩ := h0
    rcases open_ints Try.underlying22 Try.underlying5 (by kernel_rfl) hf with ⟨hcs, _⟩ | ⟨x, l, c, zs, hcs, _, hl, hm, hz, _, hcell, hwz⟩
    · simp [Value.cells] at hcs
      obtain ⟨rfl, rfl, rfl⟩ := hcs
      exact ⟨[], .inl ⟨rfl, rfl, rfl, rfl⟩⟩
    · simp [Value.cells] at hcs
      obtain ⟨rfl, rfl, rfl⟩ := hcs
      exact ⟨zs, .inr ⟨_, rfl, hl, hm, by simpa using hz, hcell, hwz⟩⟩
  clear hA0 hval0
  obtain ⟨M, last, o, w', t', e1, e2, e3, e4⟩ := walk a0 len0 cap0 z0 W w0
  refine ⟨M, last, o, w', t', e1, e2, e3, e4.mono fun v hF => ?_⟩
  obtain ⟨rfl, hk⟩ := hF
  exact ⟨_, _, _, [], _, [], hW', trodAll_mk1 (shut_bool Try.underlying4 _), (trodAll_cons_mk (Keeps.trod laidOut (by kernel_rfl) (of_decide_eq_true (by kernel_rfl)) k0 hk lt0) trodAll_mk0), rfl, hk.frame _, fun h => by cases h⟩

theorem over : Rows.fnCommonRow.holds Try.pinned (OpenSpec.ofChange Rows.fnCommonSpec) :=
  OpenClaim.holds_of_wide_leaving 3 Try.f3 rfl rfl rfl rfl rfl rfl rfl ⟨rfl, rfl, rfl, rfl, rfl⟩ rfl rfl rfl rfl rfl (by kernel_rfl) Try.func3 (by kernel_rfl)
    (of_decide_eq_true (by kernel_rfl)) (by unfold Func.isWrapper; first | (rw [if_pos (by decide +kernel)]; kernel_rfl) | (rw [if_neg (by decide +kernel)]; exact ⟨rfl, rfl⟩))
    (fun os started H enc _ => lifted os started H enc)

/-- The statement. -/
theorem proved : Rows.FnCommonSaid := over
end Go.Proofs.Ytfiaiephbemdoaa.fnCommon
