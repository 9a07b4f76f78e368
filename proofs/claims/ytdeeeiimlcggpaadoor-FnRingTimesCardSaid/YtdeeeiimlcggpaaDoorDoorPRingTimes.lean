/-
  Products lead in turn, and are even as both are. For every input the Go text of laws.FnRingTimes returns true, and its argument reads afterwards as before. No condition.
-/
import Derived.Test.YtdeeeiimlcggpaaDoorDrawPart
import Derived.Test.YtdeeeiimlcggpaaDoorSame
import Derived.Test.YtdeeeiimlcggpaaDoorRows
import Derived.Test.YtdeeeiimlcggpaaDoorPure
import Derived.Test.YtdeeeiimlcggpaaDoorHelp
import Derived.Test.YtdeeeiimlcggpaaDoorNamesQ
import Derived.Test.YtdeeeiimlcggpaaDoorRingFacts
import Derived.WalkKit
import Derived.ProofKit
import Derived.OpenShut
import Derived.ShutString
import Derived.ChangeOld
import Derived.Below
import Derived.Test.YtdeeeiimlcggpaaDoorCards
import Derived.Test.YtdeeeiimlcggpaaDoorTie
import Derived.Test.YtdeeeiimlcggpaaDoorLaidErr
import Derived.LaidMore
import Derived.Stop.Joined
import Derived.SevenTiedAt
namespace Go.Proofs.YtdeeeiimlcggpaaDoor.fnRingTimes
open Go.ChangeShapes Go.WideShapes Go.ChangeAt Go.RowKit
open Go.ChangeMaps (open_string shut_string)
set_option linter.unusedVariables false
set_option linter.unusedSimpArgs false
set_option linter.unnecessarySimpa false

theorem own : ownKnob Tryd.prog.godebug = none := by kernel_rfl
theorem laidOut : laidOutB Tryd.prog = true := by kernel_rfl

theorem sameInts_t (v u : Value) (xs : List Int) (w : World) (hv : RdV w v xs) (hu : RdV w u xs) : Calls Tryd.prog 18 #[v, u] w fun e w' => e = .returned (.bool true) ∧ Same w w' :=
  (sameInts_v v u xs xs w hv hu).mono fun e w' ⟨he, hw⟩ => ⟨by rw [he]; simp, hw⟩


set_option maxRecDepth 100000 in
set_option maxHeartbeats 4000000 in
theorem small (a0 : Option Addr) (len0 cap0 : Nat) (w : World) (hB : Bytes w a0 len0) (hc : len0 ≤ cap0) (hcm : cap0 ≤ maxLen) (hs0 : len0 ≤ 1048576)
    (hE : ErrAt w) : Calls Tryd.prog 7 #[.slice a0 len0 cap0] w fun e w' => e = .returned (.bool true) ∧ Below w.heap.size w w' := by
  have bel : Below w.heap.size w w := Below.refl _ _
  go_enter Tryd.func7, Tryd.ntmps7
  go_wp2_with fail
  refine (drawRingTimes_any a0 len0 cap0 _ hB hs0 hc hcm).mono ?_
  rintro e W1 ⟨v_a, v_b, xs, ys, rfl, o, o2, hl9, hl9b, hb⟩
  have bel := below_step bel hb
  clear hb
  have o_a := o
  have o_b := o2
  clear o o2
  by_cases hp : ringIn xs = true ∧ permOk xs.length ys = true
  · obtain ⟨hr, hq⟩ := hp
    have e1 : ringTimes xs ys = (prodL xs ys, true) := by simp [ringTimes, hr, hq]
    have hs := (permOk_iff.1 hq).1
    have hyl := (permOk_iff.1 hq).2
    have hz := prod_ring hr hq
    have e2 : ringEven xs = evenL xs := by simp [ringEven, hr]
    have e3 : ringEven ys = evenL ys := by simp [ringEven, hs]
    have e4 : ringEven (prodL xs ys) = (evenL xs == evenL ys) := by simp only [ringEven, hz, even_prod hr hq, Bool.true_and]
    have HZ := Lib.hid (fun i (hi : i < xs.length) => prodL_getD xs ys i hi)
    have hzl : (prodL xs ys).length = xs.length := prodL_length _ _
    have HR := Lib.hid (ringIn_facts hr).2.2.1
    generalize prodL xs ys = zs at *
    generalize evenL xs = bp at *
    generalize evenL ys = bq at *
    have HI := Lib.hid (fun (wx : World) (v0 : Value) (v1 : Value) (kE : ErrAt wx) (k0 : RdV wx v0 xs) (k1 : RdV wx v1 ys) => e1 ▸ iRingTimes_v v0 v1 xs ys wx kE k0 k1)
    have HS := Lib.hid (fun (wx : World) (v0 : Value) (v1 : Value) (k0 : RdV wx v0 xs) (k1 : RdV wx v1 ys) => e1 ▸ sRingTimes_v v0 v1 xs ys wx k0 k1)
    have HE := Lib.hid (fun (wx : World) (v0 : Value) (kE : ErrAt wx) (k0 : RdV wx v0 xs) => e2 ▸ iRingEven_v v0 xs wx kE k0)
    have HF := Lib.hid (fun (wx : World) (v0 : Value) (kE : ErrAt wx) (k0 : RdV wx v0 ys) => e3 ▸ iRingEven_v v0 ys wx kE k0)
    have HG := Lib.hid (fun (wx : World) (v0 : Value) (kE : ErrAt wx) (k0 : RdV wx v0 zs) => e4 ▸ iRingEven_v v0 zs wx kE k0)
    clear hr hq e1 hs hz e2 e3 e4
    go_wp2_with fail
    refine (HI.out _ _ _ (errAt_below hE bel) (own_rdv o_a) (own_rdv o_b)).mono ?_
    rintro e W2 ⟨v_o, rfl, o, hb⟩
    have bel := below_step bel hb
    have o_a := own_below o_a hb
    have o_b := own_below o_b hb
    clear hb
    have o_o := o
    clear o
    go_wp2_with fail
    refine (HS.out _ _ _ (own_rdv o_a) (own_rdv o_b)).mono ?_
    rintro e W3 ⟨v_w, rfl, o, hb⟩
    have bel := below_step bel hb
    have o_a := own_below o_a hb
    have o_b := own_below o_b hb
    have o_o := own_below o_o hb
    clear hb
    have o_w := o
    clear o
    go_wp2_with fail
    refine (sameInts_t _ _ zs _ (own_rdv o_o) (own_rdv o_w)).mono ?_
    rintro e W4 ⟨rfl, hq⟩
    have hb := hq W3.heap.size
    clear hq
    have bel := below_step bel hb
    have o_a := own_below o_a hb
    have o_b := own_below o_b hb
    have o_o := own_below o_o hb
    have o_w := own_below o_w hb
    clear hb
    clear o_w
    have HA := Lib.hid (own_rdv o_a)
    have HB := Lib.hid (own_rdv o_b)
    have HO := Lib.hid (own_rdv o_o)
    obtain ⟨aa, ca, rfl, hra, _, _⟩ := own_rdv o_a
    obtain ⟨ab, cb, rfl, hrb, _, _⟩ := own_rdv o_b
    obtain ⟨ao, co, rfl, hro, _, _⟩ := own_rdv o_o
    obtain ⟨n, hn⟩ : ∃ n, n = xs.length := ⟨_, rfl⟩
    rw [← hn] at hyl hzl HA HR HZ
    rw [hyl] at HB ⊢
    rw [hzl] at HO ⊢
    rw [← hn] at hl9 ⊢
    have HN := Lib.hid hn
    have HYL := Lib.hid hyl
    have HZL := Lib.hid hzl
    have HRA := Lib.hid hra
    have HRB := Lib.hid hrb
    have HRO := Lib.hid hro
    clear hn hyl hzl hra hrb hro o_a o_b o_o HI HS hl9b
    go_wp2
    go_loopw [9] (fun i wr => ∃ k : Nat, k ≤ n ∧ i = .int .i64 k ∧ Below W4.heap.size W4 wr) (fun i _ => n - (intOf i).toNat)
    case atStart => exact ⟨0, Nat.zero_le _, rfl, Below.refl _ _⟩
    case round =>
      obtain ⟨k, hk, rfl, hbr⟩ := hrel
      have bel2 := below_step bel hbr
      by_cases hlt : k < n
      · rcases rd_below HRA.out hbr with hx | ⟨ba, oa, rfl, hca⟩
        · have := HN.out
          rw [hx] at this
          simp at this
          omega
        · rcases rd_below HRB.out hbr with hx | ⟨bb, ob, rfl, hcb⟩
          · have := HYL.out
            rw [hx] at this
            simp at this
            omega
          · rcases rd_below HRO.out hbr with hx | ⟨bo, oo, rfl, hco⟩
            · have := HZL.out
              rw [hx] at this
              simp at this
              omega
            · have hck := hca k (by have := HN.out; omega)
              obtain ⟨q, hq⟩ := Int.eq_ofNat_of_zero_le (HR.out k (by omega)).1
              have hqn : q < n := by have := (HR.out k (by omega)).2; omega
              have hcz := hco k (by have := HZL.out; omega)
              rw [HZ.out k hlt, hq, Int.toNat_natCast] at hcz
              rw [hq] at hck
              have hcy := hcb q (by have := HYL.out; omega)
              obtain ⟨y, hy⟩ : ∃ y, y = ys.getD q 0 := ⟨_, rfl⟩
              rw [← hy] at hcz hcy
              have d1 : (k : Int) < (n : Int) := by omega
              have d2 : (0 : Int) ≤ (k : Int) := by omega
              have d3 : (q : Int) < (n : Int) := by omega
              have d4 : (0 : Int) ≤ (q : Int) := by omega
              clear hca hcb hco hq hy
              go_wp2
              go_quiet (fail)
              go_wp2
              go_roundw
              case rel => exact ⟨k + 1, by omega, by go_num, by first | exact hbr | exact below_drewN hbr _⟩
              case measure => simp [intOf]; omega
      · have hkn : k = n := by omega
        subst hkn
        have HA3 := Lib.hid (rdv_below HA.out hbr)
        have HB3 := Lib.hid (rdv_below HB.out hbr)
        have HO3 := Lib.hid (rdv_below HO.out hbr)
        clear hbr
        go_wp2_with fail
        refine (HG.out _ _ (errAt_below hE bel2) HO3.out).mono ?_
        rintro e V1 ⟨rfl, hb⟩
        have bel3 := below_step bel2 hb
        have HA4 := Lib.hid (rdv_below HA3.out hb)
        have HB4 := Lib.hid (rdv_below HB3.out hb)
        clear hb
        go_wp2_with fail
        refine (HE.out _ _ (errAt_below hE bel3) HA4.out).mono ?_
        rintro e V2 ⟨rfl, hb⟩
        have bel4 := below_step bel3 hb
        have HB5 := Lib.hid (rdv_below HB4.out hb)
        clear hb
        go_wp2_with fail
        refine (HF.out _ _ (errAt_below hE bel4) HB5.out).mono ?_
        rintro e V3 ⟨rfl, hb⟩
        have bel5 := below_step bel4 hb
        clear hb
        go_wp2
        go_ret
        exact ⟨by first | rfl | simp, bel5⟩
  · have e1 : ringTimes xs ys = ([], false) := by unfold ringTimes; rw [if_neg (by simpa using hp)]
    have HI := Lib.hid (fun (wx : World) (v0 : Value) (v1 : Value) (kE : ErrAt wx) (k0 : RdV wx v0 xs) (k1 : RdV wx v1 ys) => e1 ▸ iRingTimes_v v0 v1 xs ys wx kE k0 k1)
    have HS := Lib.hid (fun (wx : World) (v0 : Value) (v1 : Value) (k0 : RdV wx v0 xs) (k1 : RdV wx v1 ys) => e1 ▸ sRingTimes_v v0 v1 xs ys wx k0 k1)
    clear hp e1
    go_wp2_with fail
    refine (HI.out _ _ _ (errAt_below hE bel) (own_rdv o_a) (own_rdv o_b)).mono ?_
    rintro e W2 ⟨v_o, rfl, o, hb⟩
    have bel := below_step bel hb
    have o_a := own_below o_a hb
    have o_b := own_below o_b hb
    clear hb
    have o_o := o
    clear o
    go_wp2_with fail
    refine (HS.out _ _ _ (own_rdv o_a) (own_rdv o_b)).mono ?_
    rintro e W3 ⟨v_w, rfl, o, hb⟩
    have bel := below_step bel hb
    have o_a := own_below o_a hb
    have o_b := own_below o_b hb
    have o_o := own_below o_o hb
    clear hb
    have o_w := o
    clear o
    go_wp2_with fail
    refine (sameInts_t _ _ [] _ (own_rdv o_o) (own_rdv o_w)).mono ?_
    rintro e W4 ⟨rfl, hq⟩
    have hb := hq W3.heap.size
    clear hq
    have bel := below_step bel hb
    have o_a := own_below o_a hb
    have o_b := own_below o_b hb
    have o_o := own_below o_o hb
    have o_w := own_below o_w hb
    clear hb
    go_wp2_with fail
    refine (sameInts_t _ _ [] _ (own_rdv o_o) (own_rdv o_w)).mono ?_
    rintro e W5 ⟨rfl, hq⟩
    have hb := hq W4.heap.size
    clear hq
    have bel := below_step bel hb
    have o_a := own_below o_a hb
    have o_b := own_below o_b hb
    have o_o := own_below o_o hb
    have o_w := own_below o_w hb
    clear hb
    go_wp2
    go_ret
    exact ⟨rfl, bel⟩

theorem walk (a0 : Option Addr) (len0 cap0 : Nat) (z0 : List Int) (w : World) (w0 : IsRow .u8 w a0 len0 cap0 z0)
    (hE : ErrAt w) : Calls Tryd.prog 7 #[.slice a0 len0 cap0] w fun e w' => e = .returned (.bool true) ∧ Below w.heap.size w w' := by
  obtain ⟨hB, hc, hcm⟩ := bytes_of_row w0
  refine (Nat.lt_or_ge 1048576 len0).elim (fun hs0 => ?_) (fun hs0 => ?_)
  · go_enter Tryd.func7, Tryd.ntmps7
    go_wp2
    go_ret
    exact ⟨rfl, Below.refl _ _⟩
  exact small a0 len0 cap0 w hB hc hcm hs0 hE

theorem door_met (os : Os) (args : Array Value) : laidMetH Tryd.prog [("errors.errorType", Rows.laid_errors_errorType)] ((World.doorLaid Tryd.prog 400 os).forCall (fun _ _ => 0) ⟨#[], args, []⟩).memory :=
  laidMetH_of_parts3 (fuel := 8) (laidMet_of_run' 8 (by kernel_rfl) (by kernel_rfl)) (by kernel_rfl) (by kernel_rfl)

set_option maxRecDepth 100000 in
theorem lifted (os : Os) (started : os.Started) (H : Type) (enc : TypeId × Value → H) :
    ReturnsInHanded {} Tryd.checked os 7 .any (fun w args => (Rows.fnRingTimesSpec.pre enc Tryd.prog Tryd.f7 [] false w args ∧ laidMetH Tryd.prog [("errors.errorType", Rows.laid_errors_errorType)] w) ∧ sizedMet enc Tryd.prog Tryd.f7 (OpenSpec.ofChange Rows.fnRingTimesSpec) false w args)
      (Rows.fnRingTimesSpec.post enc Tryd.prog Tryd.f7 false true false false) := by
  refine returnsInHanded_of_change_and (C := Tryd.checked) (X := fun w _ => laidMetH Tryd.prog [("errors.errorType", Rows.laid_errors_errorType)] w) (fun _ _ _ hh h => h.of_heap hh) own started (by kernel_rfl) Tryd.func7
    (ChangeSpec.witness_shaped (enc := enc) (C := Tryd.checked) (os := os) (X := fun w _ => laidMetH Tryd.prog [("errors.errorType", Rows.laid_errors_errorType)] w) false (World.doorLaid Tryd.prog 400 os) #[.slice none 0 0] 8 rfl (World.shaped_of_RefB (by kernel_rfl) (by kernel_rfl)) (by kernel_rfl) (by kernel_rfl) (by kernel_rfl) (door_met os _)) ?_
  intro W base args ds gs before hval0 hW _ _ hL _
  have hE : ErrAt W := errAt_of_laid hL
  have hval : ∀ (j : Nat) t v, Tryd.f7.params[j]? = some t → args[j]? = some v → Value.okWide Tryd.prog W .any base t v := hval0
  have hW' := hW
  obtain ⟨p, q, hA0, hV, rfl, hfz, hnd⟩ := hW
  have hA : DataW.TrodAll enc Tryd.prog W 0 (fun _ => true) true Tryd.f7.params.toList args.toList ds p := hA0
  rw [Tryd.params7] at hA hval
  obtain ⟨v0, vs0, d0, ds0, p0, q0, hargs, rfl, rfl, h0, r0⟩ := trodAll_cons hA
  obtain ⟨rfl, rfl, rfl⟩ := trodAll_nil r0
  obtain rfl : args = #[v0] := by cases args; simp_all
  obtain ⟨rfl, rfl⟩ := trodVars_none hV
  obtain ⟨a0, len0, cap0, rfl⟩ := okWide_slice Tryd.underlying22 (hval 0 22 v0 rfl rfl)
  have k0 := h0
  have lt0 : ∀ x ∈ p0, x.block < W.heap.size := by obtain ⟨m, hm⟩ := k0; exact DataW.trod_lt m _ _ _ hm
  obtain ⟨z0, w0⟩ : ∃ zs, IsRow .u8 W a0 len0 cap0 zs := by
    obtain ⟨fuel, hf⟩ := h0
    rcases open_ints Tryd.underlying22 Tryd.underlying5 (by kernel_rfl) hf with ⟨hcs, _⟩ | ⟨x, l, c, zs, hcs, _, hl, hm, hz, _, hcell, hwz⟩
    · simp [Value.cells] at hcs
      obtain ⟨rfl, rfl, rfl⟩ := hcs
      exact ⟨[], .inl ⟨rfl, rfl, rfl, rfl⟩⟩
    · simp [Value.cells] at hcs
      obtain ⟨rfl, rfl, rfl⟩ := hcs
      exact ⟨zs, .inr ⟨_, rfl, hl, hm, by simpa using hz, hcell, hwz⟩⟩
  clear hA0 hval0
  refine (walk a0 len0 cap0 z0 W w0 hE).mono fun e W' ⟨he, bel⟩ => ?_
  subst he
  exact ⟨_, rfl, _, _, _, [], _, [], hW', trodAll_mk1 (shut_bool Tryd.underlying4 _), (trodAll_cons_mk (Below.trod laidOut (by kernel_rfl) (of_decide_eq_true (by kernel_rfl)) k0 bel lt0) trodAll_mk0), rfl, bel.frame _, fun h => by cases h⟩

theorem over : Rows.fnRingTimesRow.holds Tryd.pinned (OpenSpec.ofChange Rows.fnRingTimesSpec) :=
  OpenClaim.holds_of_wide 7 Tryd.f7 rfl rfl rfl rfl rfl rfl rfl ⟨rfl, rfl, rfl, rfl, rfl⟩ rfl rfl rfl rfl rfl (by kernel_rfl) Tryd.func7 (by kernel_rfl)
    (of_decide_eq_true (by kernel_rfl)) (by unfold Func.isWrapper; first | (rw [if_pos (by decide +kernel)]; kernel_rfl) | (rw [if_neg (by decide +kernel)]; exact ⟨rfl, rfl⟩))
    (fun os started H enc _ => lifted os started H enc)

/-- The statement. -/
theorem proved : Rows.FnRingTimesCardSaid :=
  Claim7.holds_tied_plain_at .later [] [.handle] true Rows.fnRingTimesCard.stood.harness Rows.fnRingTimesCard.stood.looks
    over (fun _ h => by cases h) (by kernel_rfl) (fun _ h => by cases h) fnRingTimes_row_tie rfl ⟨rfl, rfl⟩ (by kernel_rfl) rfl
    (fun f fn hf hfn => by
      obtain rfl : f = 7 := Option.some.inj ((show Tryd.prog.funcNamed "loop.example/setparts/laws.FnRingTimes" = some 7 by kernel_rfl).symm.trans hf) |>.symm
      obtain rfl : fn = Tryd.f7 := (Option.some.inj (Tryd.func7.symm.trans hfn)).symm
      exact ⟨by kernel_rfl, fun j t ht => by
        rw [Tryd.params7] at ht
        have hm : t ∈ [22] := by simpa using Array.mem_of_getElem? ht
        have hall : ([22].all fun u => !Tryd.prog.wantsStandIn u) = true := by kernel_rfl
        exact (show Tryd.prog.wantsStandIn t = false by simpa using List.all_eq_true.1 hall t hm)⟩)
    (by kernel_rfl)
end Go.Proofs.YtdeeeiimlcggpaaDoor.fnRingTimes
