/-
  The exact law of ViewMeet: for every input the Go text of laws.FnExactViewMeet returns true, and each argument reads afterwards as before. No condition.
-/
import Derived.Test.YtfiaiephbemdoaaMgK
import Derived.Test.YtfiaiephbemdoaaMgN
import Derived.Test.YtfiaiephbemdoaaRows
import Derived.Deep.Matrix
import Derived.ProofKit
import Derived.OpenShut
import Derived.ShutString
import Derived.ChangeOld
import Derived.Conc.LeavingOf
namespace Go.Proofs.Ytfiaiephbemdoaa.fnExactViewMeet
open Go.ChangeShapes Go.WideShapes Go.ChangeAt Go.RowKit Go.Conc
open Go.ChangeMaps (open_string shut_string)
set_option linter.unusedVariables false
set_option linter.unusedSimpArgs false
set_option linter.unnecessarySimpa false

theorem own : ownKnob Try.prog.godebug = none := by kernel_rfl
theorem laidOut : laidOutB Try.prog = true := by kernel_rfl

set_option maxRecDepth 100000 in
set_option maxHeartbeats 16000000 in
theorem small {X w : World} (a0 : Option Addr) (len0 cap0 : Nat) (xs0 : List (List Int)) (hR0 : RdM w (.slice a0 len0 cap0) xs0) (hl0 : xs0.length + total xs0 ≤ 1048576) (cd : Code) (hcd : Try.f8.body = some cd) :
    WpB (duo Try.prog X) cd (bodyB (cutP Try.prog) Try.f8 fun v w' => v = .bool true ∧ Bel w w') { tmps := #[.slice a0 len0 cap0] ++ Array.replicate (Try.f8.ntmps - 1) undef, defers := [] } w := by
  obtain ⟨ys, b, hr⟩ : ∃ ys b, (viewMeet xs0) = (ys, b) := ⟨_, _, rfl⟩
  have HI : Hid (∀ (wx : World) (v0 : Value), RdM wx v0 xs0 → CallsB (duo Try.prog X) 18 #[v0] wx (fun v w' => ∃ u, v = .tuple #[u, .bool b] ∧ Own w' wx.heap.size u ys ∧ Bel wx w')) := Lib.hid fun wx v0 k0 => by
    have := iViewMeet_b (X := X) k0
    rw [hr] at this
    exact this
  have HS : Hid (∀ (wx : World) (v0 : Value), RdM wx v0 xs0 → Calls (cutP Try.prog) 19 #[v0] wx (FreshLB wx (ys, b))) := Lib.hid fun wx v0 k0 => by
    rw [← hr]
    exact sViewMeet_v v0 xs0 wx k0
  have hy : ys.length ≤ 2305843009213693952 := by
    have := viewMeet_len xs0
    rw [hr] at this
    exact this
  clear hr
  have HR0 := Lib.hid hR0
  clear hR0
  have bel : Bel w w := Bel.refl w
  have hm0 : 0 ≤ szM xs0 := by unfold szM; rw [if_pos hl0]; omega
  obtain ⟨ci, hci⟩ : ∃ cd, Try.f23.body = some cd := ⟨_, rfl⟩
  have hcik : Hid (okCode Try.prog ci = true) := Lib.hid (kept_code (by kernel_rfl) hci)
  have hcih := Lib.hid hci
  clear hci
  have hc : Try.f8.body = _ := rfl
  conv at hc => rhs; whnf
  rw [hcd] at hc
  injection hc with hc
  subst hc
  clear hcd
  simp only [Try.ntmps8, List.size_toArray, List.length_cons, List.length_nil, Nat.reduceAdd, Nat.reduceSub, Array.replicate_succ, Array.replicate_zero, List.push_toArray, List.append_toArray, List.nil_append, List.cons_append]
  refine WpB.seq kit (WpB.of_wp kit (fun τ => ?_) (outs_then (outs_body _ _ _)))
  replace bel := bel_ownT (τ := τ) bel
  generalize ownTape w τ = V1 at *
  clear τ
  go_wp2
  refine WpB.seq kit (WpB.of_wp kit (fun τ => ?_) (outs_then (outs_body _ _ _)))
  replace bel := bel_ownT (τ := τ) bel
  generalize ownTape V1 τ = V2 at *
  clear τ
  go_wp2
  refine WpB.seq kit (WpB.of_wp kit (fun τ => ?_) (outs_then (outs_body _ _ _)))
  replace bel := bel_ownT (τ := τ) bel
  generalize ownTape V2 τ = V3 at *
  clear τ
  go_wp2_with fail
  refine (szIntSS_v _ xs0 _ (bel.rdm HR0.out)).mono ?_
  rintro e wz ⟨rfl, rfl⟩
  go_wp2
  refine WpB.seq kit (WpB.of_wp kit (fun τ => ?_) (outs_then (outs_body _ _ _)))
  replace bel := bel_ownT (τ := τ) bel
  generalize ownTape V3 τ = V4 at *
  clear τ
  go_wp2
  refine WpB.seq kit (WpB.of_wp kit (fun τ => ?_) (outs_then (outs_body _ _ _)))
  replace bel := bel_ownT (τ := τ) bel
  generalize ownTape V4 τ = V5 at *
  clear τ
  go_wp2_with fail
  refine (toIntSS_v _ xs0 _ (bel.rdm HR0.out) (by omega) (fun i hi => by have := len_le_total xs0 i hi; omega)).mono ?_
  rintro e V6 ⟨v_p0, rfl, o, hb⟩
  replace bel := bel.below hb
  clear hb
  have r_p0 := ownM_rdM o
  clear o
  obtain ⟨n1, h_n1⟩ : ∃ n, n = V6.heap.size := ⟨_, rfl⟩
  have z_n1 : n1 ≤ V6.heap.size := Nat.le_of_eq h_n1
  have l_n1 : w.heap.size ≤ n1 := by rw [h_n1]; exact bel.size
  go_wp2_with fail
  refine (HS.out _ _ r_p0).mono ?_
  rintro e V7 ⟨v_w, rfl, o, hb⟩
  replace r_p0 := rdM_below r_p0 hb
  replace z_n1 := size_below z_n1 hb
  replace bel := bel.below hb
  clear hb
  obtain ⟨n2, h_n2⟩ : ∃ n, n = V7.heap.size := ⟨_, rfl⟩
  have z_n2 : n2 ≤ V7.heap.size := Nat.le_of_eq h_n2
  have l_n2 : n1 ≤ n2 := by rw [h_n2]; exact z_n1
  clear z_n1
  rw [← h_n1] at o
  have in_w := inB_of_own o
  rw [← h_n2] at in_w
  have o_w := o
  clear o h_n1 h_n2
  clear r_p0
  go_wp2
  refine WpB.seq kit (WpB.of_wp kit (fun τ => ?_) (outs_then (outs_body _ _ _)))
  replace z_n2 := size_ownT (τ := τ) z_n2
  replace o_w := own_ownT (τ := τ) o_w
  replace bel := bel_ownT (τ := τ) bel
  generalize ownTape V7 τ = V8 at *
  clear τ
  obtain ⟨n3, h_n3⟩ : ∃ n, n = V8.heap.size := ⟨_, rfl⟩
  have z_n3 : n3 ≤ V8.heap.size := Nat.le_of_eq h_n3
  have l_n3 : n2 ≤ n3 := by rw [h_n3]; exact z_n2
  clear z_n2
  go_wp2_with fail
  refine (toIntSS_v _ xs0 _ (bel.rdm HR0.out) (by omega) (fun i hi => by have := len_le_total xs0 i hi; omega)).mono ?_
  rintro e V9 ⟨v_x0, rfl, o, hb⟩
  replace o_w := own_below o_w hb
  replace z_n3 := size_below z_n3 hb
  replace bel := bel.below hb
  clear hb
  obtain ⟨n4, h_n4⟩ : ∃ n, n = V9.heap.size := ⟨_, rfl⟩
  have z_n4 : n4 ≤ V9.heap.size := Nat.le_of_eq h_n4
  have l_n4 : n3 ≤ n4 := by rw [h_n4]; exact z_n3
  clear z_n3
  rw [← h_n3, ← h_n4] at o
  have o_x0 := o
  clear o h_n3 h_n4
  go_wp2
  have r_x := ownM_rdM o_x0
  obtain ⟨n5, h_n5⟩ : ∃ n, n = V9.heap.size := ⟨_, rfl⟩
  have z_n5 : n5 ≤ V9.heap.size := Nat.le_of_eq h_n5
  have l_n5 : n4 ≤ n5 := by rw [h_n5]; exact z_n4
  clear z_n4
  refine WpB.seq kit (WpB.region kit ?_)
  simp only [List.size_toArray, List.length_cons, List.length_nil, Nat.reduceAdd, Nat.zero_add, List.range, List.range.loop]
  unfold OpsB
  simp only [List.getElem?_toArray, List.getElem?_cons_zero, List.getElem?_cons_succ]
  rw [if_pos (by rfl)]
  left
  intro _
  unfold Oper.wp
  go_simp
  unfold OpsB
  simp only [List.getElem?_toArray, List.getElem?_cons_zero, List.getElem?_cons_succ]
  rw [if_pos (by rfl)]
  right
  refine ⟨18, #[v_x0], fun W => ⟨by kernel_rfl, by kernel_rfl⟩, ?_⟩
  refine CallsB.own ((HI.out _ _ r_x).mono fun vr V10 h => ?_)
  obtain ⟨v_g, rfl, o, hb⟩ := h
  replace o_w := own_bel o_w hb
  replace o_x0 := ownM_bel o_x0 hb
  replace z_n5 := Nat.le_trans z_n5 hb.size
  replace bel := bel.trans hb
  clear hb
  unfold OpsB
  simp only [List.getElem?_toArray, List.getElem?_cons_zero, List.getElem?_cons_succ]
  rw [if_pos (by rfl)]
  left
  intro _
  unfold Oper.wp
  go_simp
  unfold OpsB
  simp only [List.getElem?_toArray, List.getElem?_cons_zero, List.getElem?_cons_succ]
  rw [if_pos (by rfl)]
  left
  intro _
  unfold Oper.wp
  go_simp
  unfold OpsB
  simp only [List.getElem?_toArray, List.getElem?_cons_zero, List.getElem?_cons_succ]
  rw [if_pos (by rfl)]
  left
  intro _
  unfold Oper.wp
  go_simp
  unfold OpsB
  simp only [List.getElem?_toArray, List.getElem?_cons_zero, List.getElem?_cons_succ]
  rw [if_pos (by rfl)]
  left
  intro _
  unfold Oper.wp
  go_simp
  unfold OpsB
  simp only [List.getElem?_toArray, List.getElem?_cons_zero, List.getElem?_cons_succ]
  rw [if_pos (by rfl)]
  left
  intro _
  unfold Oper.wp
  go_simp
  unfold OpsB
  refine WpB.own ?_
  clear r_x
  obtain ⟨n6, h_n6⟩ : ∃ n, n = V10.heap.size := ⟨_, rfl⟩
  have z_n6 : n6 ≤ V10.heap.size := Nat.le_of_eq h_n6
  have l_n6 : n5 ≤ n6 := by rw [h_n6]; exact z_n5
  clear z_n5
  rw [← h_n5] at o
  have in_g := inB_of_own o
  rw [← h_n6] at in_g
  have o_g := o
  clear o h_n5 h_n6
  refine WpB.seq kit (WpB.of_wp kit (fun τ => ?_) (outs_then (outs_body _ _ _)))
  replace o_w := own_ownT (τ := τ) o_w
  replace o_x0 := ownM_ownT (τ := τ) o_x0
  replace z_n6 := size_ownT (τ := τ) z_n6
  replace o_g := own_ownT (τ := τ) o_g
  replace bel := bel_ownT (τ := τ) bel
  generalize ownTape V10 τ = V11 at *
  clear τ
  go_wp2_with fail
  refine (eqIntS_v _ _ ys _ (own_rdv o_g) (own_rdv o_w)).mono ?_
  rintro e V12 ⟨rfl, hq⟩
  have hb := hq V11.heap.size
  clear hq
  replace o_w := own_below o_w hb
  replace o_x0 := ownM_below o_x0 hb
  replace z_n6 := size_below z_n6 hb
  replace o_g := own_below o_g hb
  replace bel := bel.below hb
  clear hb
  go_wp2
  refine WpB.seq kit (WpB.of_wp kit (fun τ => ?_) (outs_then (outs_body _ _ _)))
  replace o_w := own_ownT (τ := τ) o_w
  replace o_x0 := ownM_ownT (τ := τ) o_x0
  replace z_n6 := size_ownT (τ := τ) z_n6
  replace o_g := own_ownT (τ := τ) o_g
  replace bel := bel_ownT (τ := τ) bel
  generalize ownTape V12 τ = V13 at *
  clear τ
  go_wp2_with fail
  refine (toIntSS_v _ xs0 _ (bel.rdm HR0.out) (by omega) (fun i hi => by have := len_le_total xs0 i hi; omega)).mono ?_
  rintro e V14 ⟨v_y, rfl, o, hb⟩
  replace o_w := own_below o_w hb
  replace o_x0 := ownM_below o_x0 hb
  replace z_n6 := size_below z_n6 hb
  replace o_g := own_below o_g hb
  replace bel := bel.below hb
  clear hb
  have r_y := ownM_rdM o
  clear o
  go_wp2_with fail
  refine (eqIntSS_v _ _ xs0 _ (ownM_rdM o_x0) r_y).mono ?_
  rintro e V15 ⟨rfl, hq⟩
  have hb := hq V14.heap.size
  clear hq
  replace o_w := own_below o_w hb
  replace o_x0 := ownM_below o_x0 hb
  replace z_n6 := size_below z_n6 hb
  replace o_g := own_below o_g hb
  replace r_y := rdM_below r_y hb
  replace bel := bel.below hb
  clear hb
  clear r_y
  go_wp2
  refine WpB.seq kit (WpB.of_wp kit (fun τ => ?_) (outs_then (outs_body _ _ _)))
  replace o_w := own_ownT (τ := τ) o_w
  replace o_x0 := ownM_ownT (τ := τ) o_x0
  replace z_n6 := size_ownT (τ := τ) z_n6
  replace o_g := own_ownT (τ := τ) o_g
  replace bel := bel_ownT (τ := τ) bel
  generalize ownTape V15 τ = V16 at *
  clear τ
  go_wp2
  refine WpB.seq kit (WpB.of_wp kit (fun τ => ?_) (outs_then (outs_body _ _ _)))
  replace o_w := own_ownT (τ := τ) o_w
  replace o_x0 := ownM_ownT (τ := τ) o_x0
  replace z_n6 := size_ownT (τ := τ) z_n6
  replace o_g := own_ownT (τ := τ) o_g
  replace bel := bel_ownT (τ := τ) bel
  generalize ownTape V16 τ = V17 at *
  clear τ
  go_wp2_with fail
  refine (markIntSS_v _ n3 n4 1 xs0 _ o_x0 (by omega) (by omega) (by omega) (by omega)).mono ?_
  rintro e V18 ⟨rfl, o, ht⟩
  replace o_w := own_touch o_w ht in_w (by omega)
  replace z_n6 := size_touch z_n6 ht
  replace o_g := own_touch o_g ht in_g (by omega)
  replace bel := bel.touch ht (by omega)
  replace o_x0 := o
  clear o ht
  clear o_x0
  go_wp2
  refine WpB.seq kit (WpB.of_wp kit (fun τ => ?_) (outs_then (outs_body _ _ _)))
  replace o_w := own_ownT (τ := τ) o_w
  replace z_n6 := size_ownT (τ := τ) z_n6
  replace o_g := own_ownT (τ := τ) o_g
  replace bel := bel_ownT (τ := τ) bel
  generalize ownTape V18 τ = V19 at *
  clear τ
  go_wp2_with fail
  refine (eqIntS_v _ _ ys _ (own_rdv o_g) (own_rdv o_w)).mono ?_
  rintro e V20 ⟨rfl, hq⟩
  have hb := hq V19.heap.size
  clear hq
  replace o_w := own_below o_w hb
  replace z_n6 := size_below z_n6 hb
  replace o_g := own_below o_g hb
  replace bel := bel.below hb
  clear hb
  go_wp2
  refine WpB.seq kit (WpB.of_wp kit (fun τ => ?_) (outs_then (outs_body _ _ _)))
  replace o_w := own_ownT (τ := τ) o_w
  replace z_n6 := size_ownT (τ := τ) z_n6
  replace o_g := own_ownT (τ := τ) o_g
  replace bel := bel_ownT (τ := τ) bel
  generalize ownTape V20 τ = V21 at *
  clear τ
  go_wp2
  refine WpB.seq kit (WpB.of_wp kit (fun τ => ?_) (outs_then (outs_body _ _ _)))
  replace o_w := own_ownT (τ := τ) o_w
  replace z_n6 := size_ownT (τ := τ) z_n6
  replace o_g := own_ownT (τ := τ) o_g
  replace bel := bel_ownT (τ := τ) bel
  generalize ownTape V21 τ = V22 at *
  clear τ
  go_wp2_with fail
  refine (markIntS_v _ _ 1 ys _ o_g (by omega) (by omega) (by omega)).mono ?_
  rintro e V23 ⟨rfl, o, hg, hsz⟩
  have ht := touch_of_grown hg hsz in_g
  clear hg hsz
  replace o_w := own_touch o_w ht in_w (by omega)
  replace z_n6 := size_touch z_n6 ht
  replace bel := bel.touch ht (by omega)
  replace o_g := o
  clear o ht
  go_wp2
  refine WpB.seq kit (WpB.of_wp kit (fun τ => ?_) (outs_then (outs_body _ _ _)))
  replace o_w := own_ownT (τ := τ) o_w
  replace z_n6 := size_ownT (τ := τ) z_n6
  replace o_g := own_ownT (τ := τ) o_g
  replace bel := bel_ownT (τ := τ) bel
  generalize ownTape V23 τ = V24 at *
  clear τ
  go_wp2
  refine WpB.seq kit (WpB.of_wp kit (fun τ => ?_) (outs_then (outs_body _ _ _)))
  replace o_w := own_ownT (τ := τ) o_w
  replace z_n6 := size_ownT (τ := τ) z_n6
  replace o_g := own_ownT (τ := τ) o_g
  replace bel := bel_ownT (τ := τ) bel
  generalize ownTape V24 τ = V25 at *
  clear τ
  go_wp2_with fail
  refine (heldIntS_v _ 1 _ _ (own_rdv o_g) (by omega) (by omega) (by omega)).mono ?_
  rintro e wz ⟨rfl, rfl⟩
  go_wp2
  refine WpB.seq kit (WpB.of_wp kit (fun τ => ?_) (outs_then (outs_body _ _ _)))
  replace o_w := own_ownT (τ := τ) o_w
  replace z_n6 := size_ownT (τ := τ) z_n6
  replace o_g := own_ownT (τ := τ) o_g
  replace bel := bel_ownT (τ := τ) bel
  generalize ownTape V25 τ = V26 at *
  clear τ
  go_wp2
  refine WpB.seq kit (WpB.of_wp kit (fun τ => ?_) (outs_then (outs_body _ _ _)))
  replace o_w := own_ownT (τ := τ) o_w
  replace z_n6 := size_ownT (τ := τ) z_n6
  replace o_g := own_ownT (τ := τ) o_g
  replace bel := bel_ownT (τ := τ) bel
  generalize ownTape V26 τ = V27 at *
  clear τ
  go_wp2
  refine WpB.seq kit (WpB.region kit ?_)
  simp only [List.size_toArray, List.length_cons, List.length_nil, Nat.reduceAdd, Nat.zero_add, List.range, List.range.loop]
  unfold OpsB
  simp only [List.getElem?_toArray, List.getElem?_cons_zero, List.getElem?_cons_succ]
  rw [if_pos (by rfl)]
  left
  intro _
  unfold Oper.wp
  go_simp
  unfold OpsB
  simp only [List.getElem?_toArray, List.getElem?_cons_zero, List.getElem?_cons_succ]
  rw [if_pos (by rfl)]
  right
  refine ⟨23, #[.slice a0 len0 cap0], fun W => ⟨by kernel_rfl, by kernel_rfl⟩, ?_⟩
  refine CallsB.own ((calls_kept (X := X) (w := V27) (R := fun v w' => OwnM w' V27.heap.size w'.heap.size v xs0 ∧ Bel V27 w') (fn := Try.f23) (cd := ci) Tryp.func23 Try.func23 hcih.out hcik.out (by kernel_rfl) (fun τ => (toIntSS_v _ xs0 (ownTape V27 τ) (bel.rdm HR0.out) (by omega) (fun i hi => by have := len_le_total xs0 i hi; omega)).mono fun e w' h => by obtain ⟨v, e1, e2, e3⟩ := h; exact ⟨v, e1, e2, bel_of_below e3⟩)).mono fun vr V28 h => ?_)
  obtain ⟨o, hb⟩ := h
  replace o_w := own_bel o_w hb
  replace z_n6 := Nat.le_trans z_n6 hb.size
  replace o_g := own_bel o_g hb
  replace bel := bel.trans hb
  clear hb
  have r_z := ownM_rdM o
  clear o
  obtain ⟨n7, h_n7⟩ : ∃ n, n = V28.heap.size := ⟨_, rfl⟩
  have z_n7 : n7 ≤ V28.heap.size := Nat.le_of_eq h_n7
  have l_n7 : n6 ≤ n7 := by rw [h_n7]; exact z_n6
  clear z_n6
  unfold OpsB
  simp only [List.getElem?_toArray, List.getElem?_cons_zero, List.getElem?_cons_succ]
  rw [if_pos (by rfl)]
  right
  refine ⟨18, #[vr], fun W => ⟨by kernel_rfl, by kernel_rfl⟩, ?_⟩
  refine ((HI.out _ _ r_z).mono fun vq V29 h => ?_)
  obtain ⟨v_h, rfl, o, hb⟩ := h
  replace o_w := own_bel o_w hb
  replace o_g := own_bel o_g hb
  replace z_n7 := Nat.le_trans z_n7 hb.size
  replace bel := bel.trans hb
  clear hb r_z
  obtain ⟨n8, h_n8⟩ : ∃ n, n = V29.heap.size := ⟨_, rfl⟩
  have z_n8 : n8 ≤ V29.heap.size := Nat.le_of_eq h_n8
  have l_n8 : n7 ≤ n8 := by rw [h_n8]; exact z_n7
  clear z_n7
  rw [← h_n7] at o
  have in_h := inB_of_own o
  rw [← h_n8] at in_h
  have o_h := o
  clear o h_n7 h_n8
  unfold OpsB
  simp only [List.getElem?_toArray, List.getElem?_cons_zero, List.getElem?_cons_succ]
  rw [if_pos (by rfl)]
  left
  intro _
  unfold Oper.wp
  go_simp
  unfold OpsB
  simp only [List.getElem?_toArray, List.getElem?_cons_zero, List.getElem?_cons_succ]
  rw [if_pos (by rfl)]
  left
  intro _
  unfold Oper.wp
  go_simp
  unfold OpsB
  simp only [List.getElem?_toArray, List.getElem?_cons_zero, List.getElem?_cons_succ]
  rw [if_pos (by rfl)]
  left
  intro _
  unfold Oper.wp
  go_simp
  unfold OpsB
  simp only [List.getElem?_toArray, List.getElem?_cons_zero, List.getElem?_cons_succ]
  rw [if_pos (by rfl)]
  left
  intro _
  unfold Oper.wp
  go_simp
  unfold OpsB
  simp only [List.getElem?_toArray, List.getElem?_cons_zero, List.getElem?_cons_succ]
  rw [if_pos (by rfl)]
  left
  intro _
  unfold Oper.wp
  go_simp
  unfold OpsB
  refine WpB.own ?_
  refine WpB.of_wp kit (fun τ => ?_) (outs_body _ _ _)
  replace o_w := own_ownT (τ := τ) o_w
  replace o_g := own_ownT (τ := τ) o_g
  replace z_n8 := size_ownT (τ := τ) z_n8
  replace o_h := own_ownT (τ := τ) o_h
  replace bel := bel_ownT (τ := τ) bel
  generalize ownTape V29 τ = V30 at *
  clear τ
  go_wp2_with fail
  refine (eqIntS_v _ _ ys _ (own_rdv o_h) (own_rdv o_w)).mono ?_
  rintro e V31 ⟨rfl, hq⟩
  have hb := hq V30.heap.size
  clear hq
  replace o_w := own_below o_w hb
  replace o_g := own_below o_g hb
  replace z_n8 := size_below z_n8 hb
  replace o_h := own_below o_h hb
  replace bel := bel.below hb
  clear hb
  go_wp2_with fail
  refine (heldIntS_v _ 1 _ _ (own_rdv o_g) (by omega) (by omega) (by omega)).mono ?_
  rintro e wz ⟨rfl, rfl⟩
  go_wp2
  exact ⟨rfl, _, fun τ => results_tmp (t := 2) rfl _ _ _, rfl, bel⟩

set_option maxRecDepth 100000 in
set_option maxHeartbeats 4000000 in
theorem walk (a0 : Option Addr) (len0 cap0 : Nat) (z0 : List (List Int)) (W : World) (w0 : RdM W (.slice a0 len0 cap0) z0) :
    ∃ M last o w' t', runNT Try.prog (M + 1) (solo (G (Frame.enter Try.prog 8 #[.slice a0 len0 cap0] .normal) []) W) #[] = (.ended o w', t') ∧ runN Try.prog M (solo (G (Frame.enter Try.prog 8 #[.slice a0 len0 cap0] .normal) []) W) = .next last ∧ step Try.prog last = .ended o w' ∧
      Go.Conc.Good Try.prog (fun v W' => v = .bool true ∧ Keeps W W') last o w' t' := by
  obtain ⟨cd, hcd⟩ : ∃ cd, Try.f8.body = some cd := ⟨_, rfl⟩
  refine law_true (fn := Try.f8) (t := 2) Tryp.func8 Try.func8 hcd (kept_code (by kernel_rfl) hcd) (by kernel_rfl) rfl ?_
  refine (Nat.lt_or_ge 1048576 (z0.length + total z0)).elim (fun hs0 => ?_) (fun hs0 => ?_)
  · have hm1 : szM z0 < 0 := by unfold szM; rw [if_neg (by omega)]; omega
    refine WpB.of_wp kit (fun τ => ?_) (outs_body _ _ _)
    have hc : Try.f8.body = _ := rfl
    conv at hc => rhs; whnf
    rw [hcd] at hc
    injection hc with hc
    subst hc
    clear hcd
    simp only [Try.ntmps8, List.size_toArray, List.length_cons, List.length_nil, Nat.reduceAdd, Nat.reduceSub, Array.replicate_succ, Array.replicate_zero, List.push_toArray, List.append_toArray, List.nil_append, List.cons_append]
    go_wp2_with fail
    refine (szIntSS_v _ z0 _ (rdm_ownT (rdm_veil w0))).mono ?_
    rintro e wz ⟨rfl, rfl⟩
    go_wp2
    exact ⟨rfl, _, fun τ => results_tmp (t := 2) rfl _ _ _, rfl, bel_ownT (Bel.refl _)⟩
  exact small a0 len0 cap0 z0 (rdm_veil w0) hs0 cd hcd

set_option maxRecDepth 100000 in
theorem lifted (os : Os) (started : os.Started) (H : Type) (enc : TypeId × Value → H) :
    ReturnsInLeavingWide {} Try.checked os 8 .any (Rows.fnExactViewMeetSpec.pre6 enc Try.prog Try.f8 Rows.fnExactViewMeetRow.domain false) (Rows.fnExactViewMeetSpec.post enc Try.prog Try.f8 false true false false) := by
  refine returnsInLeavingWide_of_change_sized (C := Try.checked) own started Try.func8
    (ChangeSpec.witness6 (enc := enc) (C := Try.checked) false ⟨#[], #[.slice none 0 0], []⟩ 8 (by kernel_rfl) (by kernel_rfl) (by kernel_rfl) (by kernel_rfl)) ?_
  intro W base args ds gs before hval0 hW _ _ _
  have hval : ∀ (j : Nat) t v, Try.f8.params[j]? = some t → args[j]? = some v → Value.okWide Try.prog W .any base t v := hval0
  have hW' := hW
  obtain ⟨p, q, hA0, hV, rfl, hfz, hnd⟩ := hW
  have hA : DataW.TrodAll enc Try.prog W 0 (fun _ => true) true Try.f8.params.toList args.toList ds p := hA0
  rw [Try.params8] at hA hval
  obtain ⟨v0, vs0, d0, ds0, p0, q0, hargs, rfl, rfl, h0, r0⟩ := trodAll_cons hA
  obtain ⟨rfl, rfl, rfl⟩ := trodAll_nil r0
  obtain rfl : args = #[v0] := by cases args; simp_all
  obtain ⟨rfl, rfl⟩ := trodVars_none hV
  obtain ⟨a0, len0, cap0, rfl⟩ := okWide_slice Try.underlying23 (hval 0 23 v0 rfl rfl)
  have k0 := h0
  have lt0 : ∀ x ∈ p0, x.block < W.heap.size := by obtain ⟨m, hm⟩ := k0; exact DataW.trod_lt m _ _ _ hm
  obtain ⟨z0, w0⟩ : ∃ xss, RdM W (.slice a0 len0 cap0) xss := by
    obtain ⟨fuel, hf⟩ := h0
    rcases Go.Deep.open_int_rows Try.underlying23 Try.underlying25 Try.underlying3 (by kernel_rfl) (by kernel_rfl) hf with ⟨hcs, _⟩ | ⟨x, l, c, A, L, C, Z, hcs, _, hl, hm, _, hr⟩
    · simp [Value.cells] at hcs
      obtain ⟨rfl, rfl, rfl⟩ := hcs
      exact ⟨[], none, 0, [], rfl, rfl, Nat.le_refl _, Nat.zero_le _, .inl rfl, fun i hi => by simp at hi⟩
    · simp [Value.cells] at hcs
      obtain ⟨rfl, rfl, rfl⟩ := hcs
      exact ⟨_, rdM_of_rows hl hm hr⟩
  clear hA0 hval0
  obtain ⟨M, last, o, w', t', e1, e2, e3, e4⟩ := walk a0 len0 cap0 z0 W w0
  refine ⟨M, last, o, w', t', e1, e2, e3, e4.mono fun v hF => ?_⟩
  obtain ⟨rfl, hk⟩ := hF
  exact ⟨_, _, _, [], _, [], hW', trodAll_mk1 (shut_bool Try.underlying4 _), (trodAll_cons_mk (Keeps.trod laidOut (by kernel_rfl) (of_decide_eq_true (by kernel_rfl)) k0 hk lt0) trodAll_mk0), rfl, hk.frame _, fun h => by cases h⟩

theorem over : Rows.fnExactViewMeetRow.holds Try.pinned (OpenSpec.ofChange Rows.fnExactViewMeetSpec) :=
  OpenClaim.holds_of_wide_leaving 8 Try.f8 rfl rfl rfl rfl rfl rfl rfl ⟨rfl, rfl, rfl, rfl, rfl⟩ rfl rfl rfl rfl rfl (by kernel_rfl) Try.func8 (by kernel_rfl)
    (of_decide_eq_true (by kernel_rfl)) (by unfold Func.isWrapper; first | (rw [if_pos (by decide +kernel)]; kernel_rfl) | (rw [if_neg (by decide +kernel)]; exact ⟨rfl, rfl⟩))
    (fun os started H enc _ => lifted os started H enc)

/-- The statement. -/
theorem proved : Rows.FnExactViewMeetSaid := over
end Go.Proofs.Ytfiaiephbemdoaa.fnExactViewMeet
