/-
  The exact law of ViewMost: for every input the Go text of laws.FnMost returns true, and each argument reads afterwards as before. No condition.
-/
import Derived.Test.YtfiaiephbemdoaaDoorMgK
import Derived.Test.YtfiaiephbemdoaaDoorMgL
import Derived.Test.YtfiaiephbemdoaaDoorMgM
import Derived.Test.YtfiaiephbemdoaaDoorMgN
import Derived.Test.YtfiaiephbemdoaaDoorMgH
import Derived.Test.YtfiaiephbemdoaaDoorRows
import Derived.Test.YtfiaiephbemdoaaDoorCards
import Derived.Test.YtfiaiephbemdoaaDoorTie
import Derived.Deep.Matrix
import Derived.ProofKit
import Derived.OpenShut
import Derived.ShutString
import Derived.ChangeOld
import Derived.Conc.LeavingOf
import Derived.LaidMore
import Derived.Stop.Joined
import Derived.SevenTiedAt
import Derived.Handed
namespace Go.Proofs.YtfiaiephbemdoaaDoor.fnMost
open Go.ChangeShapes Go.WideShapes Go.ChangeAt Go.RowKit Go.Conc
open Go.ChangeMaps (open_string shut_string)
set_option linter.unusedVariables false
set_option linter.unusedSimpArgs false
set_option linter.unnecessarySimpa false

theorem own : ownKnob Tryd.prog.godebug = none := by kernel_rfl
theorem laidOut : laidOutB Tryd.prog = true := by kernel_rfl

theorem tab_veil {W : World} (h : Tab W) : Tab (veilW W) := ⟨by rw [veilW_size]; exact h.1, fun j hj => cell_veil (h.2 j hj)⟩

theorem bel_grownL {w W W1 : World} {b : Nat} (h : Bel w W) (hg : W.grownBy W1 (some b)) (hb : w.heap.size ≤ b) : Bel w W1 := by
  obtain ⟨a, _, c, d, e⟩ := hg
  refine ⟨a.trans h.os, c.trans h.output, Nat.le_trans h.size d, fun k hk => (e k (Nat.lt_of_lt_of_le hk h.size) ?_).trans (h.block k hk)⟩
  intro x
  injection x with x
  omega
theorem bel_same {w W W1 : World} (h : Bel w W) (k : Same W W1) : Bel w W1 := h.below (k _)

set_option maxRecDepth 100000 in
set_option maxHeartbeats 16000000 in
theorem small {X w : World} (a0 : Option Addr) (len0 cap0 : Nat) (hB : Bytes w a0 len0) (hc0 : len0 ≤ cap0) (hcm0 : cap0 ≤ maxLen) (hs0 : len0 ≤ 1048576) (hT : Tab w) (cd : Code) (hcd : Tryd.f3.body = some cd) :
    WpB (duo Tryd.prog X) cd (bodyB (cutP Tryd.prog) Tryd.f3 fun v w' => v = .bool true ∧ Bel w w') { tmps := #[.slice a0 len0 cap0] ++ Array.replicate (Tryd.f3.ntmps - 1) undef, defers := [] } w := by
  have bel : Bel w w := Bel.refl w
  have hc : Tryd.f3.body = _ := rfl
  conv at hc => rhs; whnf
  rw [hcd] at hc
  injection hc with hc
  subst hc
  clear hcd
  simp only [Tryd.ntmps3, List.size_toArray, List.length_cons, List.length_nil, Nat.reduceAdd, Nat.reduceSub, Array.replicate_succ, Array.replicate_zero, List.push_toArray, List.append_toArray, List.nil_append, List.cons_append]
  refine WpB.seq kit (WpB.of_wp kit (fun τ => ?_) (outs_then (outs_body _ _ _)))
  replace hB := bytes_ownT (τ := τ) hB
  replace bel := bel_ownT (τ := τ) bel
  generalize ownTape w τ = V1 at *
  clear τ
  go_wp2
  refine WpB.seq kit (WpB.of_wp kit (fun τ => ?_) (outs_then (outs_body _ _ _)))
  replace hB := bytes_ownT (τ := τ) hB
  replace bel := bel_ownT (τ := τ) bel
  generalize ownTape V1 τ = V2 at *
  clear τ
  go_wp2
  refine WpB.seq kit (WpB.of_wp kit (fun τ => ?_) (outs_then (outs_body _ _ _)))
  replace hB := bytes_ownT (τ := τ) hB
  replace bel := bel_ownT (τ := τ) bel
  generalize ownTape V2 τ = V3 at *
  clear τ
  go_wp2_with fail
  refine (drawViewMost_any _ _ _ _ hB hs0 hc0 hcm0).mono ?_
  rintro e V4 ⟨v_v, vs, rfl, r_v, hl, hf, hb⟩
  replace bel := bel.below hb
  clear hb hB
  clear hl hf
  go_wp2
  cases hm : viewMost vs
  · have HI : Hid (∀ (wx : World) (v0 : Value), Tab wx → RdM wx v0 vs → CallsB (duo Tryd.prog X) 6 #[v0] wx (fun v w' => v = .bool false ∧ Bel wx w')) := Lib.hid fun wx v0 kt k0 => by
      have := iViewMost_b (X := X) k0 kt
      rw [hm] at this
      exact this
    have HS : Hid (∀ (wx : World) (v0 : Value), RdM wx v0 vs → Calls (cutP Tryd.prog) 7 #[v0] wx (GivesB wx false)) := Lib.hid fun wx v0 k0 => by
      rw [← hm]
      exact sViewMost_v v0 vs wx k0
    clear hm
    refine WpB.seq kit (WpB.region kit ?_)
    simp only [List.size_toArray, List.length_cons, List.length_nil, Nat.reduceAdd, Nat.zero_add, List.range, List.range.loop]
    unfold OpsB
    simp only [List.getElem?_toArray, List.getElem?_cons_zero, List.getElem?_cons_succ]
    rw [if_pos (by rfl)]
    left
    intro _
    unfold Oper.wp
    go_simp
    unfold OpsB
    simp only [List.getElem?_toArray, List.getElem?_cons_zero, List.getElem?_cons_succ]
    rw [if_pos (by rfl)]
    right
    refine ⟨6, #[v_v], fun W => ⟨by kernel_rfl, by kernel_rfl⟩, ?_⟩
    refine CallsB.own ((HI.out _ _ (tab_bel hT bel) r_v).mono fun vr V5 h => ?_)
    obtain ⟨rfl, hb⟩ := h
    replace r_v := hb.rdm r_v
    replace bel := bel.trans hb
    clear hb
    unfold OpsB
    simp only [List.getElem?_toArray, List.getElem?_cons_zero, List.getElem?_cons_succ]
    rw [if_pos (by rfl)]
    left
    intro _
    unfold Oper.wp
    go_simp
    unfold OpsB
    refine WpB.own ?_
    refine WpB.of_wp kit (fun τ => ?_) (outs_body _ _ _)
    replace r_v := rdm_ownT (τ := τ) r_v
    replace bel := bel_ownT (τ := τ) bel
    generalize ownTape V5 τ = V6 at *
    clear τ
    go_wp2_with fail
    refine (HS.out _ _ r_v).mono ?_
    rintro e V7 ⟨rfl, hb⟩
    replace r_v := rdM_below r_v hb
    replace bel := bel.below hb
    clear hb
    go_wp2
    exact ⟨rfl, _, fun τ => results_tmp (t := 2) rfl _ _ _, rfl, bel⟩
  · have HI : Hid (∀ (wx : World) (v0 : Value), Tab wx → RdM wx v0 vs → CallsB (duo Tryd.prog X) 6 #[v0] wx (fun v w' => v = .bool true ∧ Bel wx w')) := Lib.hid fun wx v0 kt k0 => by
      have := iViewMost_b (X := X) k0 kt
      rw [hm] at this
      exact this
    have HS : Hid (∀ (wx : World) (v0 : Value), RdM wx v0 vs → Calls (cutP Tryd.prog) 7 #[v0] wx (GivesB wx true)) := Lib.hid fun wx v0 k0 => by
      rw [← hm]
      exact sViewMost_v v0 vs wx k0
    obtain ⟨L, c, mm, hL1, hL5, hL, ha, ec, hcl, eq1, eq2, hlw, hrp⟩ := most_facts hm
    have hlen := areV_len ha
    have HC : Hid (∀ (wx : World) (v0 : Value), RdM wx v0 vs → CallsB (duo Tryd.prog X) 8 #[v0] wx (fun v w' => ∃ u, v = .tuple #[u, .bool true] ∧ Own w' wx.heap.size u c ∧ Bel wx w')) := Lib.hid fun wx v0 k0 => by
      have := iViewCommon_b (X := X) k0
      rw [ec] at this
      exact this
    have HQ1 : Hid (∀ (wx : World) (v0 v1 : Value), RdV wx v0 c → RdM wx v1 vs → CallsB (duo Tryd.prog X) 9 #[v0, v1] wx (fun v w' => v = .tuple #[.int .i64 mm, .bool true] ∧ Bel wx w')) := Lib.hid fun wx v0 v1 k0 k1 => by
      have := iViewCost_b (X := X) k0 k1
      rw [eq1] at this
      exact this
    have HQ2 : Hid (∀ (wx : World) (v0 v1 : Value), RdV wx v0 (kOut (fMost vs L L)) → RdM wx v1 vs → CallsB (duo Tryd.prog X) 9 #[v0, v1] wx (fun v w' => v = .tuple #[.int .i64 mm, .bool true] ∧ Bel wx w')) := Lib.hid fun wx v0 v1 k0 k1 => by
      have := iViewCost_b (X := X) k0 k1
      rw [eq2] at this
      exact this
    have HK : Hid (∀ (wx : World) (v0 : Value), RdV wx v0 (fMost vs L L) → Calls (cutP Tryd.prog) 10 #[v0] wx (FreshLB wx (kOut (fMost vs L L), true))) := Lib.hid fun wx v0 k0 => by
      have := iPartKernel_v v0 (fMost vs L L) wx k0
      rw [show partKernel (fMost vs L L) = (kOut (fMost vs L L), true) by unfold partKernel; rw [if_pos (by rw [fMost_len]; omega)]] at this
      exact this
    have HRL := Lib.hid hL
    have HL1 := Lib.hid hL1
    have HL5 := Lib.hid hL5
    have HLW := Lib.hid hlw
    have HRP := Lib.hid hrp
    have HCL := Lib.hid hcl
    have HLEN := Lib.hid hlen
    clear hm ha ec hcl eq1 eq2 hL hL1 hL5 hlen hlw hrp
    refine WpB.seq kit (WpB.region kit ?_)
    simp only [List.size_toArray, List.length_cons, List.length_nil, Nat.reduceAdd, Nat.zero_add, List.range, List.range.loop]
    unfold OpsB
    simp only [List.getElem?_toArray, List.getElem?_cons_zero, List.getElem?_cons_succ]
    rw [if_pos (by rfl)]
    left
    intro _
    unfold Oper.wp
    go_simp
    unfold OpsB
    simp only [List.getElem?_toArray, List.getElem?_cons_zero, List.getElem?_cons_succ]
    rw [if_pos (by rfl)]
    right
    refine ⟨6, #[v_v], fun W => ⟨by kernel_rfl, by kernel_rfl⟩, ?_⟩
    refine CallsB.own ((HI.out _ _ (tab_bel hT bel) r_v).mono fun vr V5 h => ?_)
    obtain ⟨rfl, hb⟩ := h
    replace r_v := hb.rdm r_v
    replace bel := bel.trans hb
    clear hb
    unfold OpsB
    simp only [List.getElem?_toArray, List.getElem?_cons_zero, List.getElem?_cons_succ]
    rw [if_pos (by rfl)]
    left
    intro _
    unfold Oper.wp
    go_simp
    unfold OpsB
    refine WpB.own ?_
    refine WpB.seq kit (WpB.of_wp kit (fun τ => ?_) (outs_then (outs_body _ _ _)))
    replace r_v := rdm_ownT (τ := τ) r_v
    replace bel := bel_ownT (τ := τ) bel
    generalize ownTape V5 τ = V6 at *
    clear τ
    go_wp2_with fail
    refine (HS.out _ _ r_v).mono ?_
    rintro e V7 ⟨rfl, hb⟩
    replace r_v := rdM_below r_v hb
    replace bel := bel.below hb
    clear hb
    go_wp2
    refine WpB.seq kit (WpB.of_wp kit (fun τ => ?_) (outs_then (outs_body _ _ _)))
    replace r_v := rdm_ownT (τ := τ) r_v
    replace bel := bel_ownT (τ := τ) bel
    generalize ownTape V7 τ = V8 at *
    clear τ
    go_wp2
    refine WpB.seq kit (WpB.region kit ?_)
    simp only [List.size_toArray, List.length_cons, List.length_nil, Nat.reduceAdd, Nat.zero_add, List.range, List.range.loop]
    unfold OpsB
    simp only [List.getElem?_toArray, List.getElem?_cons_zero, List.getElem?_cons_succ]
    rw [if_pos (by rfl)]
    left
    intro _
    unfold Oper.wp
    go_simp
    unfold OpsB
    simp only [List.getElem?_toArray, List.getElem?_cons_zero, List.getElem?_cons_succ]
    rw [if_pos (by rfl)]
    right
    refine ⟨8, #[v_v], fun W => ⟨by kernel_rfl, by kernel_rfl⟩, ?_⟩
    refine CallsB.own ((HC.out _ _ r_v).mono fun vr V9 h => ?_)
    obtain ⟨v_c, rfl, o, hb⟩ := h
    replace r_v := hb.rdm r_v
    replace bel := bel.trans hb
    clear hb
    unfold OpsB
    simp only [List.getElem?_toArray, List.getElem?_cons_zero, List.getElem?_cons_succ]
    rw [if_pos (by rfl)]
    left
    intro _
    unfold Oper.wp
    go_simp
    unfold OpsB
    simp only [List.getElem?_toArray, List.getElem?_cons_zero, List.getElem?_cons_succ]
    rw [if_pos (by rfl)]
    left
    intro _
    unfold Oper.wp
    go_simp
    unfold OpsB
    simp only [List.getElem?_toArray, List.getElem?_cons_zero, List.getElem?_cons_succ]
    rw [if_pos (by rfl)]
    left
    intro _
    unfold Oper.wp
    go_simp
    unfold OpsB
    simp only [List.getElem?_toArray, List.getElem?_cons_zero, List.getElem?_cons_succ]
    rw [if_pos (by rfl)]
    left
    intro _
    unfold Oper.wp
    go_simp
    unfold OpsB
    simp only [List.getElem?_toArray, List.getElem?_cons_zero, List.getElem?_cons_succ]
    rw [if_pos (by rfl)]
    left
    intro _
    unfold Oper.wp
    go_simp
    unfold OpsB
    refine WpB.own ?_
    have r_c := own_rdv o
    clear o
    refine WpB.seq kit (WpB.region kit ?_)
    simp only [List.size_toArray, List.length_cons, List.length_nil, Nat.reduceAdd, Nat.zero_add, List.range, List.range.loop]
    unfold OpsB
    simp only [List.getElem?_toArray, List.getElem?_cons_zero, List.getElem?_cons_succ]
    rw [if_pos (by rfl)]
    left
    intro _
    unfold Oper.wp
    go_simp
    unfold OpsB
    simp only [List.getElem?_toArray, List.getElem?_cons_zero, List.getElem?_cons_succ]
    rw [if_pos (by rfl)]
    left
    intro _
    unfold Oper.wp
    go_simp
    unfold OpsB
    simp only [List.getElem?_toArray, List.getElem?_cons_zero, List.getElem?_cons_succ]
    rw [if_pos (by rfl)]
    right
    refine ⟨9, #[v_c, v_v], fun W => ⟨by kernel_rfl, by kernel_rfl⟩, ?_⟩
    refine CallsB.own ((HQ1.out _ _ _ r_c r_v).mono fun vr V10 h => ?_)
    obtain ⟨rfl, hb⟩ := h
    replace r_v := hb.rdm r_v
    replace r_c := hb.rdv r_c
    replace bel := bel.trans hb
    clear hb
    unfold OpsB
    simp only [List.getElem?_toArray, List.getElem?_cons_zero, List.getElem?_cons_succ]
    rw [if_pos (by rfl)]
    left
    intro _
    unfold Oper.wp
    go_simp
    unfold OpsB
    simp only [List.getElem?_toArray, List.getElem?_cons_zero, List.getElem?_cons_succ]
    rw [if_pos (by rfl)]
    left
    intro _
    unfold Oper.wp
    go_simp
    unfold OpsB
    simp only [List.getElem?_toArray, List.getElem?_cons_zero, List.getElem?_cons_succ]
    rw [if_pos (by rfl)]
    left
    intro _
    unfold Oper.wp
    go_simp
    unfold OpsB
    simp only [List.getElem?_toArray, List.getElem?_cons_zero, List.getElem?_cons_succ]
    rw [if_pos (by rfl)]
    left
    intro _
    unfold Oper.wp
    go_simp
    unfold OpsB
    simp only [List.getElem?_toArray, List.getElem?_cons_zero, List.getElem?_cons_succ]
    rw [if_pos (by rfl)]
    left
    intro _
    unfold Oper.wp
    go_simp
    unfold OpsB
    refine WpB.own ?_
    obtain ⟨zo_c, zc_c, hvc⟩ : ∃ zo zc, v_c = .slice zo L zc := by obtain ⟨ao, ca, e, _⟩ := r_c; exact ⟨ao, ca, by rw [e, HCL.out]⟩
    subst hvc
    clear r_c
    refine WpB.seq kit (WpB.of_wp kit (fun τ => ?_) (outs_then (outs_body _ _ _)))
    replace r_v := rdm_ownT (τ := τ) r_v
    replace bel := bel_ownT (τ := τ) bel
    generalize ownTape V10 τ = V11 at *
    clear τ
    go_wp2
    obtain ⟨vb, vo, vcap, bV, oV, cV, rfl, hV⟩ := rows_at r_v HLEN.out.1 HL1.out (fun k hk => (HRL.out k hk).1)
    obtain ⟨n, hn⟩ : ∃ n, n = vs.length := ⟨_, rfl⟩
    have HNE := Lib.hid hn
    have HN6 := Lib.hid (show n ≤ 6 by rw [hn]; exact HLEN.out.2)
    have HTG : Hid (∀ i k, togV vs (halfV vs) i k = decide (n < 2 * votes vs i k)) := Lib.hid fun i k => by rw [tog_half, hn]
    have HVS : Hid (∀ q i k, q < n → votes (vs.take (q + 1)) i k = votes (vs.take q) i k + (if (vs.getD q []).getD i 0 = (vs.getD q []).getD k 0 then 1 else 0)) := Lib.hid fun q i k hq => votes_step vs i k q (by omega)
    have HVN : Hid (∀ i k, votes (vs.take n) i k = votes vs i k) := Lib.hid fun i k => by rw [hn, List.take_length]
    have HVL : Hid (∀ q i k, votes (vs.take q) i k ≤ 6) := Lib.hid fun q i k => by
      have a1 := votes_le (vs.take q) i k
      have a2 := HLEN.out.2
      simp only [List.length_take] at a1
      omega
    rw [← hn] at hV r_v ⊢
    have HV := Lib.hid hV
    have RV := Lib.hid r_v
    have BEL := Lib.hid bel
    clear hV r_v bel hn
    refine WpB.seq kit (WpB.of_wp kit (fun τ => ?_) (outs_then (outs_body _ _ _)))
    have hbw : Bel V11 (ownTape V11 τ) := bel_ownT (Bel.refl _)
    have hwz : (ownTape V11 τ).heap.size = V11.heap.size := rfl
    have HWZ := Lib.hid hwz
    clear hwz
    generalize ownTape V11 τ = wA at *
    go_wp2
    refine WpB.gen fun wB hwB => ?_
    have hown : Own wB V11.heap.size (.slice (some ⟨wA.heap.size, 0, none⟩) 0 0) [] := by subst hwB; exact own_empty _ _ (by rw [HWZ.out]; exact Nat.le_refl _)
    have hbB : Bel V11 wB := by subst hwB; exact hbw.trans (Bel.alloc _ _)
    clear hwB hbw
    refine WpB.seq kit (WpB.of_wp kit (fun τ => ?_) (outs_then (outs_body _ _ _)))
    replace hown := own_ownT (τ := τ) hown
    replace hbB := bel_ownT (τ := τ) hbB
    generalize ownTape wB τ = wC at *
    have hL5 := HL5.out
    go_wp2
    go_loopw [11, 12] (fun u i wr => ∃ k g cap : Nat, k ≤ L ∧ i = .int .i64 k ∧ u = .slice (some ⟨g, 0, none⟩) k cap ∧ Own wr V11.heap.size (.slice (some ⟨g, 0, none⟩) k cap) (fMost vs L k) ∧ Bel V11 wr) (fun _ i _ => L - (intOf i).toNat)
    case atStart => exact ⟨0, wA.heap.size, 0, Nat.zero_le _, rfl, rfl, hown, hbB⟩
    case round =>
      clear hown hbB
      obtain ⟨k, g, cap, hk, rfl, rfl, hown, hbel⟩ := hrel
      by_cases hlt : k < L
      · obtain ⟨wo, hwo⟩ : ∃ wo : World, wo = wr := ⟨_, rfl⟩
        subst hwo
        have HO := Lib.hid hown
        have HBE := Lib.hid hbel
        have hrk := HRP.out k hlt
        obtain ⟨rp, hrpe⟩ : ∃ rp, rp = repr (togV vs (halfV vs)) L := ⟨_, rfl⟩
        have HRPE := Lib.hid hrpe
        have hlwk := HLW.out k hlt
        rw [← hrpe] at hlwk hrk
        have HLWK := Lib.hid hlwk
        have hlwb : ∀ d, d ≤ k → lw (togV vs (halfV vs)) rp k d ≤ 5 := by
          intro d
          induction d with
          | zero => intro _; show k ≤ 5; omega
          | succ d ih =>
            intro hd
            unfold lw
            split
            · rw [hrpe]; have := HRP.out (k - d - 1) (by omega); omega
            · exact ih (by omega)
        have HLWB := Lib.hid hlwb
        have hk1 : IntKind.i64.wrap ((k : Int) - 1) = (k : Int) - 1 := IntWalk.i64_in _ (by omega)
        have hk0 : 0 ≤ (k : Int) := by omega
        clear hown hbel hrpe hlwk hlwb
        go_wp2
        go_loopw [13, 14] (fun u i wr => ∃ d : Nat, d ≤ k ∧ i = .int .i64 ((k : Int) - 1 - d) ∧ u = .int .i64 ((lw (togV vs (halfV vs)) rp k d : Nat) : Int) ∧ Same wo wr) (fun _ i _ => (intOf i + 1).toNat)
        case atStart => exact ⟨0, Nat.zero_le _, by simp, by simp [lw], Same.refl _⟩
        case round =>
          obtain ⟨d, hd, rfl, rfl, hsame⟩ := hrel
          obtain ⟨wq, hwq⟩ : ∃ wq : World, wq = wr := ⟨_, rfl⟩
          subst hwq
          have HSM := Lib.hid hsame
          have hlb := HLWB.out d hd
          obtain ⟨lv, hlv⟩ : ∃ lv, lv = lw (togV vs (halfV vs)) rp k d := ⟨_, rfl⟩
          rw [← hlv] at hlb ⊢
          have HLV := Lib.hid hlv
          clear hlv hsame
          by_cases hdk : d < k
          · obtain ⟨j, hj⟩ : ∃ j, j = k - d - 1 := ⟨_, rfl⟩
            have hji : (k : Int) - 1 - (d : Int) = (j : Int) := by omega
            have HJ := Lib.hid hj
            have hjk : j < k := by omega
            rw [hji]
            have hj0 : (0 : Int) ≤ (j : Int) := by omega
            have hjL : j < L := by omega
            clear hj hji
            go_wp2
            go_loopw [15, 16] (fun s c w6 => ∃ q x : Nat, q ≤ n ∧ c = .int .i64 q ∧ s = .int .i64 x ∧ x = votes (vs.take q) k j ∧ Same wq w6) (fun _ c _ => n - (intOf c).toNat)
            case atStart => exact ⟨0, 0, Nat.zero_le _, rfl, rfl, by simp [votes], Same.refl _⟩
            case round =>
              obtain ⟨q, x, hq, rfl, rfl, hx, hs6⟩ := hrel
              have hx6 : x ≤ 6 := by rw [hx]; exact HVL.out q k j
              have hn6 := HN6.out
              have hb6 : Bel V11 wr := bel_same (bel_same HBE.out HSM.out) hs6
              by_cases hqn : q < n
              · obtain ⟨c1, c2, _⟩ := HV.out q hqn
                replace c1 := hb6.cell c1
                have hrl := (HRL.out q (by rw [← HNE.out]; exact hqn)).1
                have ck := hb6.cell (c2 k (by rw [hrl]; exact hlt))
                have cj := hb6.cell (c2 j (by rw [hrl]; exact hjL))
                have hvs := HVS.out q k j hqn
                rw [← hx] at hvs
                obtain ⟨y, hy⟩ : ∃ y, y = (vs.getD q []).getD k 0 := ⟨_, rfl⟩
                obtain ⟨z, hz⟩ : ∃ z, z = (vs.getD q []).getD j 0 := ⟨_, rfl⟩
                rw [← hy] at ck hvs
                rw [← hz] at cj hvs
                have HS6 := Lib.hid hs6
                have y1 : (k : Int) < (L : Int) := by omega
                have y3 : (j : Int) < (L : Int) := by omega
                have y4 : (q : Int) < (n : Int) := by omega
                have y5 : (0 : Int) ≤ (q : Int) := by omega
                clear c2 hy hz hx hs6 hb6 hrl
                by_cases hyz : y = z
                · rw [if_pos hyz] at hvs
                  have HVS2 := Lib.hid hvs
                  clear hvs
                  go_wp2
                  go_quiet (fail)
                  go_wp2
                  go_roundw
                  case rel => exact ⟨q + 1, x + 1, by omega, by go_num, by go_num, HVS2.out.symm, HS6.out.drewN _⟩
                  case measure => simp [intOf]; omega
                · rw [if_neg hyz] at hvs
                  have HVS2 := Lib.hid hvs
                  clear hvs
                  go_wp2
                  go_quiet (fail)
                  go_wp2
                  go_roundw
                  case rel => exact ⟨q + 1, x, by omega, by go_num, by go_num, HVS2.out.symm, HS6.out.drewN _⟩
                  case measure => simp [intOf]; omega
              · have hqe : q = n := by omega
                have hxv : x = votes vs k j := by rw [hx, hqe, HVN.out]
                have htg := HTG.out k j
                rw [← hxv] at htg
                have hst : lw (togV vs (halfV vs)) rp k (d + 1) = if togV vs (halfV vs) k j = true then rp j else lw (togV vs (halfV vs)) rp k d := by rw [HJ.out]; rfl
                rw [htg, ← HLV.out] at hst
                have hqi : ¬ ((q : Int) < (n : Int)) := by omega
                have y6 : IntKind.i64.wrap (2 * (x : Int)) = 2 * (x : Int) := IntWalk.i64_in _ (by omega)
                have y8 : IntKind.i64.wrap ((j : Int) - 1) = (j : Int) - 1 := IntWalk.i64_in _ (by omega)
                have HS6 := Lib.hid (HSM.out.trans hs6)
                have hcf := own_cell (own_below HO.out (HS6.out _)) j (by rw [fMost_len]; exact hjk)
                rw [fMost_get _ _ _ hjk, ← HRPE.out] at hcf
                have hjd : (j : Int) - 1 = (k : Int) - 1 - ((d + 1 : Nat) : Int) := by have := HJ.out; omega
                have HJD := Lib.hid hjd
                have hjkI : (j : Int) < (k : Int) := by omega
                clear htg hx hxv hs6 hb6 hjd
                by_cases hcmp : n < 2 * x
                · have y7 : (n : Int) < 2 * (x : Int) := by omega
                  rw [decide_eq_true hcmp, if_pos rfl] at hst
                  have HST := Lib.hid hst
                  clear hst hcmp
                  go_wp2
                  go_roundw
                  case rel => exact ⟨d + 1, by omega, by rw [HJD.out], by rw [HST.out], HS6.out⟩
                  case measure => simp [intOf] <;> omega
                · have y7 : ¬ ((n : Int) < 2 * (x : Int)) := by omega
                  rw [decide_eq_false hcmp, if_neg (by simp)] at hst
                  have HST := Lib.hid hst
                  clear hst hcmp
                  go_wp2
                  go_roundw
                  case rel => exact ⟨d + 1, by omega, by rw [HJD.out], by rw [HST.out], HS6.out⟩
                  case measure => simp [intOf] <;> omega
          · have hdk' : d = k := by omega
            have hneg : (k : Int) - 1 - (d : Int) = -1 := by omega
            rw [hneg]
            have hlr : lv = rp k := by rw [HLV.out, hdk', HLWK.out]
            have HLR := Lib.hid hlr
            have hfn := fMost_next vs L k
            rw [← HRPE.out] at hfn
            have HFN := Lib.hid hfn
            have HOq := Lib.hid (own_below HO.out (HSM.out _))
            have HBq := Lib.hid (bel_same HBE.out HSM.out)
            have hszq := HBq.out.size
            have hgB := (own_lt HO.out g rfl).1
            have HGB := Lib.hid hgB
            clear hneg hlr hfn hgB
            go_wp2_with (at_builtin; refine wpList_push rfl _ _ rfl V11.heap.size g k cap (fMost vs L k) rfl (own_alloc HOq.out _) (by rw [fMost_len]) ⟨wq.heap.size, 0, none⟩ rfl (lv : Int) (cell_new1 _ _ _) (by omega) (by simp; omega) ?_)
            intro g8 cap8 w8 hown8 hgr8 hg8
            have HO8 := Lib.hid hown8
            have HB8 := Lib.hid (bel_grownL (HBq.out.trans (Bel.alloc _ (.cells #[.int .i64 lv] 3))) hgr8 HGB.out)
            clear hown8 hgr8 hg8
            go_wp2
            go_roundw
            case rel => exact ⟨k + 1, g8, cap8, by omega, by go_num, rfl, by rw [HFN.out, ← HLR.out]; exact HO8.out, HB8.out⟩
            case measure => simp [intOf]; omega
      · have hkL : k = L := by omega
        rw [hkL] at hown ⊢
        have r_f := own_rdv hown
        have r_v := hbel.rdm RV.out
        have bel := BEL.out.trans hbel
        clear hown hbel hkL hk hlt
        go_wp2
        refine WpB.seq kit (WpB.of_wp kit (fun τ => ?_) (outs_then (outs_body _ _ _)))
        replace r_v := rdm_ownT (τ := τ) r_v
        replace r_f := rdv_ownT (τ := τ) r_f
        replace bel := bel_ownT (τ := τ) bel
        generalize ownTape wr τ = V17 at *
        clear τ
        go_wp2_with fail
        refine (HK.out _ _ r_f).mono ?_
        rintro e V18 ⟨v_a, rfl, o, hb⟩
        replace r_v := rdM_below r_v hb
        replace r_f := rdv_below r_f hb
        replace bel := bel.below hb
        clear hb
        have r_a := own_rdv o
        clear o r_f
        go_wp2
        refine WpB.seq kit (WpB.region kit ?_)
        simp only [List.size_toArray, List.length_cons, List.length_nil, Nat.reduceAdd, Nat.zero_add, List.range, List.range.loop]
        unfold OpsB
        simp only [List.getElem?_toArray, List.getElem?_cons_zero, List.getElem?_cons_succ]
        rw [if_pos (by rfl)]
        left
        intro _
        unfold Oper.wp
        go_simp
        unfold OpsB
        simp only [List.getElem?_toArray, List.getElem?_cons_zero, List.getElem?_cons_succ]
        rw [if_pos (by rfl)]
        left
        intro _
        unfold Oper.wp
        go_simp
        unfold OpsB
        simp only [List.getElem?_toArray, List.getElem?_cons_zero, List.getElem?_cons_succ]
        rw [if_pos (by rfl)]
        right
        refine ⟨9, #[v_a, .slice (some ⟨vb, vo, none⟩) n vcap], fun W => ⟨by kernel_rfl, by kernel_rfl⟩, ?_⟩
        refine CallsB.own ((HQ2.out _ _ _ r_a r_v).mono fun vr V19 h => ?_)
        obtain ⟨rfl, hb⟩ := h
        replace r_v := hb.rdm r_v
        replace r_a := hb.rdv r_a
        replace bel := bel.trans hb
        clear hb
        unfold OpsB
        simp only [List.getElem?_toArray, List.getElem?_cons_zero, List.getElem?_cons_succ]
        rw [if_pos (by rfl)]
        left
        intro _
        unfold Oper.wp
        go_simp
        unfold OpsB
        simp only [List.getElem?_toArray, List.getElem?_cons_zero, List.getElem?_cons_succ]
        rw [if_pos (by rfl)]
        left
        intro _
        unfold Oper.wp
        go_simp
        unfold OpsB
        simp only [List.getElem?_toArray, List.getElem?_cons_zero, List.getElem?_cons_succ]
        rw [if_pos (by rfl)]
        left
        intro _
        unfold Oper.wp
        go_simp
        unfold OpsB
        simp only [List.getElem?_toArray, List.getElem?_cons_zero, List.getElem?_cons_succ]
        rw [if_pos (by rfl)]
        left
        intro _
        unfold Oper.wp
        go_simp
        unfold OpsB
        simp only [List.getElem?_toArray, List.getElem?_cons_zero, List.getElem?_cons_succ]
        rw [if_pos (by rfl)]
        left
        intro _
        unfold Oper.wp
        go_simp
        unfold OpsB
        refine WpB.own ?_
        refine WpB.of_wp kit (fun τ => ?_) (outs_body _ _ _)
        replace r_v := rdm_ownT (τ := τ) r_v
        replace r_a := rdv_ownT (τ := τ) r_a
        replace bel := bel_ownT (τ := τ) bel
        generalize ownTape V19 τ = V20 at *
        clear τ
        go_wp2
        exact ⟨rfl, _, fun τ => results_tmp (t := 2) rfl _ _ _, rfl, bel⟩

set_option maxRecDepth 100000 in
set_option maxHeartbeats 4000000 in
theorem walk (a0 : Option Addr) (len0 cap0 : Nat) (z0 : List Int) (W : World) (w0 : IsRow .u8 W a0 len0 cap0 z0) (hT : Tab W) :
    ∃ M last o w' t', runNT Tryd.prog (M + 1) (solo (G (Frame.enter Tryd.prog 3 #[.slice a0 len0 cap0] .normal) []) W) #[] = (.ended o w', t') ∧ runN Tryd.prog M (solo (G (Frame.enter Tryd.prog 3 #[.slice a0 len0 cap0] .normal) []) W) = .next last ∧ step Tryd.prog last = .ended o w' ∧
      Go.Conc.Good Tryd.prog (fun v W' => v = .bool true ∧ Keeps W W') last o w' t' := by
  obtain ⟨cd, hcd⟩ : ∃ cd, Tryd.f3.body = some cd := ⟨_, rfl⟩
  refine law_true (fn := Tryd.f3) (t := 2) Trydp.func3 Tryd.func3 hcd (kept_code (by kernel_rfl) hcd) (by kernel_rfl) rfl ?_
  obtain ⟨hB0, hc0, hcm0⟩ := bytes_of_row w0
  refine (Nat.lt_or_ge 1048576 len0).elim (fun hs0 => ?_) (fun hs0 => ?_)
  · clear hB0 w0
    refine WpB.of_wp kit (fun τ => ?_) (outs_body _ _ _)
    have hc : Tryd.f3.body = _ := rfl
    conv at hc => rhs; whnf
    rw [hcd] at hc
    injection hc with hc
    subst hc
    clear hcd
    simp only [Tryd.ntmps3, List.size_toArray, List.length_cons, List.length_nil, Nat.reduceAdd, Nat.reduceSub, Array.replicate_succ, Array.replicate_zero, List.push_toArray, List.append_toArray, List.nil_append, List.cons_append]
    go_wp2
    exact ⟨rfl, _, fun τ => results_tmp (t := 2) rfl _ _ _, rfl, bel_ownT (Bel.refl _)⟩
  exact small a0 len0 cap0 (bytes_veil hB0) hc0 hcm0 hs0 (tab_veil hT) cd hcd

theorem door_met (os : Os) (args : Array Value) : laidMetH Tryd.prog [("math/bits.deBruijn32tab", Rows.laid_math_bits_deBruijn32tab), ("math/bits.deBruijn64tab", Rows.laid_math_bits_deBruijn64tab)] ((World.doorLaid Tryd.prog 400 os).forCall (fun _ _ => 0) ⟨#[], args, []⟩).memory :=
  laidMetH_of_parts3 (fuel := 8) (laidMet_of_run' 8 (by kernel_rfl) (by kernel_rfl)) (by kernel_rfl) (by kernel_rfl)

set_option maxRecDepth 100000 in
theorem lifted (os : Os) (started : os.Started) (H : Type) (enc : TypeId × Value → H) :
    ReturnsInLeavingWide {} Tryd.checked os 3 .any (fun w args => (Rows.fnMostSpec.pre enc Tryd.prog Tryd.f3 [] false w args ∧ laidMetH Tryd.prog [("math/bits.deBruijn32tab", Rows.laid_math_bits_deBruijn32tab), ("math/bits.deBruijn64tab", Rows.laid_math_bits_deBruijn64tab)] w) ∧ sizedMet enc Tryd.prog Tryd.f3 (OpenSpec.ofChange Rows.fnMostSpec) false w args)
      (Rows.fnMostSpec.post enc Tryd.prog Tryd.f3 false true false false) := by
  refine leaving_of_change_and (C := Tryd.checked) (X := fun w _ => laidMetH Tryd.prog [("math/bits.deBruijn32tab", Rows.laid_math_bits_deBruijn32tab), ("math/bits.deBruijn64tab", Rows.laid_math_bits_deBruijn64tab)] w) (fun _ _ _ hh h => h.of_heap hh) own started Tryd.func3
    (ChangeSpec.witness_shaped (enc := enc) (C := Tryd.checked) (os := os) (X := fun w _ => laidMetH Tryd.prog [("math/bits.deBruijn32tab", Rows.laid_math_bits_deBruijn32tab), ("math/bits.deBruijn64tab", Rows.laid_math_bits_deBruijn64tab)] w) false (World.doorLaid Tryd.prog 400 os) #[.slice none 0 0] 8 rfl (World.shaped_of_RefB (by kernel_rfl) (by kernel_rfl)) (by kernel_rfl) (by kernel_rfl) (by kernel_rfl) (door_met os _)) ?_
  intro W base args ds gs before hval0 hW _ _ hL _
  have hT : Tab W := tab_of_laid hL
  have hval : ∀ (j : Nat) t v, Tryd.f3.params[j]? = some t → args[j]? = some v → Value.okWide Tryd.prog W .any base t v := hval0
  have hW' := hW
  obtain ⟨p, q, hA0, hV, rfl, hfz, hnd⟩ := hW
  have hA : DataW.TrodAll enc Tryd.prog W 0 (fun _ => true) true Tryd.f3.params.toList args.toList ds p := hA0
  rw [Tryd.params3] at hA hval
  obtain ⟨v0, vs0, d0, ds0, p0, q0, hargs, rfl, rfl, h0, r0⟩ := trodAll_cons hA
  obtain ⟨rfl, rfl, rfl⟩ := trodAll_nil r0
  obtain rfl : args = #[v0] := by cases args; simp_all
  obtain ⟨rfl, rfl⟩ := trodVars_none hV
  obtain ⟨a0, len0, cap0, rfl⟩ := okWide_slice Tryd.underlying22 (hval 0 22 v0 rfl rfl)
  have k0 := h0
  have lt0 : ∀ x ∈ p0, x.block < W.heap.size := by obtain ⟨m, hm⟩ := k0; exact DataW.trod_lt m _ _ _ hm
  obtain ⟨z0, w0⟩ : ∃ zs, IsRow .u8 W a0 len0 cap0 zs := by
    obtain ⟨fuel, hf⟩ := h0
    rcases open_ints Tryd.underlying22 Tryd.underlying5 (by kernel_rfl) hf with ⟨hcs, _⟩ | ⟨x, l, c, zs, hcs, _, hl, hm, hz, _, hcell, hwz⟩
    · simp [Value.cells] at hcs
      obtain ⟨rfl, rfl, rfl⟩ := hcs
      exact ⟨[], .inl ⟨rfl, rfl, rfl, rfl⟩⟩
    · simp [Value.cells] at hcs
      obtain ⟨rfl, rfl, rfl⟩ := hcs
      exact ⟨zs, .inr ⟨_, rfl, hl, hm, by simpa using hz, hcell, hwz⟩⟩
  clear hA0 hval0
  obtain ⟨M, last, o, w', t', e1, e2, e3, e4⟩ := walk a0 len0 cap0 z0 W w0 hT
  refine ⟨M, last, o, w', t', e1, e2, e3, e4.mono fun v hF => ?_⟩
  obtain ⟨rfl, hk⟩ := hF
  exact ⟨_, _, _, [], _, [], hW', trodAll_mk1 (shut_bool Tryd.underlying4 _), (trodAll_cons_mk (Keeps.trod laidOut (by kernel_rfl) (of_decide_eq_true (by kernel_rfl)) k0 hk lt0) trodAll_mk0), rfl, hk.frame _, fun h => by cases h⟩

theorem over : Rows.fnMostRow.holds Tryd.pinned (OpenSpec.ofChange Rows.fnMostSpec) :=
  OpenClaim.holds_of_wide_leaving 3 Tryd.f3 rfl rfl rfl rfl rfl rfl rfl ⟨rfl, rfl, rfl, rfl, rfl⟩ rfl rfl rfl rfl rfl (by kernel_rfl) Tryd.func3 (by kernel_rfl)
    (of_decide_eq_true (by kernel_rfl)) (by unfold Func.isWrapper; first | (rw [if_pos (by decide +kernel)]; kernel_rfl) | (rw [if_neg (by decide +kernel)]; exact ⟨rfl, rfl⟩))
    (fun os started H enc _ => lifted os started H enc)

/-- The statement. -/
theorem proved : Rows.FnMostCardSaid :=
  tied_goes .later [.data, .data] true Rows.fnMostCard.stood.harness Rows.fnMostCard.stood.looks
    over (by kernel_rfl) fnMost_row_tie rfl ⟨rfl, rfl⟩ (by kernel_rfl) rfl
    (fun f fn hf hfn => by
      obtain rfl : f = 3 := Option.some.inj ((show Tryd.prog.funcNamed "loop.example/setparts/laws.FnMost" = some 3 by kernel_rfl).symm.trans hf) |>.symm
      obtain rfl : fn = Tryd.f3 := (Option.some.inj (Tryd.func3.symm.trans hfn)).symm
      exact ⟨by kernel_rfl, fun j t ht => by
        rw [Tryd.params3] at ht
        have hm : t ∈ [22] := by simpa using Array.mem_of_getElem? ht
        have hall : ([22].all fun u => !Tryd.prog.wantsStandIn u) = true := by kernel_rfl
        exact (show Tryd.prog.wantsStandIn t = false by simpa using List.all_eq_true.1 hall t hm)⟩)
    (by kernel_rfl)
end Go.Proofs.YtfiaiephbemdoaaDoor.fnMost
