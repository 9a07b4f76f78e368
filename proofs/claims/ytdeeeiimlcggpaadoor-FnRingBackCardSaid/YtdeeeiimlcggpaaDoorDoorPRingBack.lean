/-
  What leads back leads back. For every input the Go text of laws.FnRingBack returns true, and its argument reads afterwards as before. No condition.
-/
import Derived.Test.YtdeeeiimlcggpaaDoorDrawPart
import Derived.Test.YtdeeeiimlcggpaaDoorSame
import Derived.Test.YtdeeeiimlcggpaaDoorRows
import Derived.Test.YtdeeeiimlcggpaaDoorPure
import Derived.Test.YtdeeeiimlcggpaaDoorHelp
import Derived.Test.YtdeeeiimlcggpaaDoorDrawRing
import Derived.Test.YtdeeeiimlcggpaaDoorRingFacts
import Derived.WalkKit
import Derived.ProofKit
import Derived.OpenShut
import Derived.ShutString
import Derived.ChangeOld
import Derived.Below
import Derived.Test.YtdeeeiimlcggpaaDoorCards
import Derived.Test.YtdeeeiimlcggpaaDoorTie
import Derived.Test.YtdeeeiimlcggpaaDoorLaidErr
import Derived.LaidMore
import Derived.Stop.Joined
import Derived.SevenTiedAt
namespace Go.Proofs.YtdeeeiimlcggpaaDoor.fnRingBack
open Go.ChangeShapes Go.WideShapes Go.ChangeAt Go.RowKit
open Go.ChangeMaps (open_string shut_string)
set_option linter.unusedVariables false
set_option linter.unusedSimpArgs false
set_option linter.unnecessarySimpa false

theorem own : ownKnob Tryd.prog.godebug = none := by kernel_rfl
theorem laidOut : laidOutB Tryd.prog = true := by kernel_rfl

theorem sameInts_t (v u : Value) (xs : List Int) (w : World) (hv : RdV w v xs) (hu : RdV w u xs) : Calls Tryd.prog 18 #[v, u] w fun e w' => e = .returned (.bool true) ∧ Same w w' :=
  (sameInts_v v u xs xs w hv hu).mono fun e w' ⟨he, hw⟩ => ⟨by rw [he]; simp, hw⟩

theorem draw_any (a : Option Addr) (len cap : Nat) (w : World) (hby : Bytes w a len) (hlen : len ≤ 1048576) (hc : len ≤ cap) (hcm : cap ≤ maxLen) :
    Calls Tryd.prog 30 #[.slice a len cap] w (PermDrawn w) := by
  go_enter Tryd.func30, Tryd.ntmps30
  go_wp2_with fail
  refine (l92Perm_any a len cap w hby hlen hc hcm).mono ?_
  rintro e w1 ⟨v, xs, rfl, h⟩
  go_wp2
  go_ret
  exact ⟨v, xs, rfl, h⟩

set_option maxRecDepth 100000 in
set_option maxHeartbeats 4000000 in
theorem small (a0 : Option Addr) (len0 cap0 : Nat) (w : World) (hB : Bytes w a0 len0) (hc : len0 ≤ cap0) (hcm : cap0 ≤ maxLen) (hs0 : len0 ≤ 1048576)
    (hE : ErrAt w) : Calls Tryd.prog 8 #[.slice a0 len0 cap0] w fun e w' => e = .returned (.bool true) ∧ Below w.heap.size w w' := by
  have bel : Below w.heap.size w w := Below.refl _ _
  go_enter Tryd.func8, Tryd.ntmps8
  go_wp2_with fail
  refine (draw_any a0 len0 cap0 _ hB hs0 hc hcm).mono ?_
  rintro e W1 ⟨v_a, xs, rfl, o, hl9, hb⟩
  have bel := below_step bel hb
  clear hb
  have o_a := o
  clear o
  by_cases hp : ringIn xs = true
  · have e1 : ringBack xs = (backTo xs xs.length, true) := by simp [ringBack, hp]
    have e2 : ringBack (backTo xs xs.length) = (xs, true) := by simp [ringBack, back_ring hp, backTo_length, back_back hp]
    have hpo : permOk xs.length (backTo xs xs.length) = true := permOk_iff.2 ⟨back_ring hp, backTo_length _ _⟩
    have e3 : ringTimes xs (backTo xs xs.length) = (prodL xs (backTo xs xs.length), true) := by simp [ringTimes, hp, hpo]
    have HY := Lib.hid (fun i (hi : i < xs.length) => prod_back hp hi)
    have hyl : (prodL xs (backTo xs xs.length)).length = xs.length := prodL_length _ _
    generalize prodL xs (backTo xs xs.length) = ys at *
    generalize backTo xs xs.length = bs at *
    have HI := Lib.hid (fun (wx : World) (v0 : Value) (kE : ErrAt wx) (k0 : RdV wx v0 xs) => e1 ▸ iRingBack_v v0 xs wx kE k0)
    have HS := Lib.hid (fun (wx : World) (v0 : Value) (k0 : RdV wx v0 xs) => e1 ▸ sRingBack_v v0 xs wx k0)
    have HX := Lib.hid (fun (wx : World) (v0 : Value) (kE : ErrAt wx) (k0 : RdV wx v0 bs) => e2 ▸ iRingBack_v v0 bs wx kE k0)
    have HT := Lib.hid (fun (wx : World) (v0 : Value) (v1 : Value) (kE : ErrAt wx) (k0 : RdV wx v0 xs) (k1 : RdV wx v1 bs) => e3 ▸ iRingTimes_v v0 v1 xs bs wx kE k0 k1)
    clear hp e1 e2 e3 hpo
    go_wp2_with fail
    refine (HI.out _ _ (errAt_below hE bel) (own_rdv o_a)).mono ?_
    rintro e W2 ⟨v_o, rfl, o, hb⟩
    have bel := below_step bel hb
    have o_a := own_below o_a hb
    clear hb
    have o_o := o
    clear o
    go_wp2_with fail
    refine (HS.out _ _ (own_rdv o_a)).mono ?_
    rintro e W3 ⟨v_w, rfl, o, hb⟩
    have bel := below_step bel hb
    have o_a := own_below o_a hb
    have o_o := own_below o_o hb
    clear hb
    have o_w := o
    clear o
    go_wp2_with fail
    refine (sameInts_t _ _ bs _ (own_rdv o_o) (own_rdv o_w)).mono ?_
    rintro e W4 ⟨rfl, hq⟩
    have hb := hq W3.heap.size
    clear hq
    have bel := below_step bel hb
    have o_a := own_below o_a hb
    have o_o := own_below o_o hb
    have o_w := own_below o_w hb
    clear hb
    clear o_w
    go_wp2_with fail
    refine (HX.out _ _ (errAt_below hE bel) (own_rdv o_o)).mono ?_
    rintro e W5 ⟨v_x, rfl, o, hb⟩
    have bel := below_step bel hb
    have o_a := own_below o_a hb
    have o_o := own_below o_o hb
    clear hb
    have o_x := o
    clear o
    go_wp2_with fail
    refine (HT.out _ _ _ (errAt_below hE bel) (own_rdv o_a) (own_rdv o_o)).mono ?_
    rintro e W6 ⟨v_y, rfl, o, hb⟩
    have bel := below_step bel hb
    have o_a := own_below o_a hb
    have o_o := own_below o_o hb
    have o_x := own_below o_x hb
    clear hb
    have o_y := o
    clear o
    have hra := own_rdv o_y
    obtain ⟨ao, ca, rfl, hrd, _, _⟩ := hra
    obtain ⟨n, hn⟩ : ∃ n, n = ys.length := ⟨_, rfl⟩
    rw [← hn] at hyl o_y ⊢
    rw [← hyl] at HY
    have hl8 : n ≤ 8 := by omega
    have HN := Lib.hid hn
    have HRD := Lib.hid hrd
    have HX2 := Lib.hid (own_rdv o_x)
    have HA2 := Lib.hid (own_rdv o_a)
    clear hn hrd hyl o_y o_x o_a o_o HI HS HX HT
    go_wp2
    go_loopw [12] (fun i wr => ∃ k : Nat, k ≤ n ∧ i = .int .i64 k ∧ Below W6.heap.size W6 wr) (fun i _ => n - (intOf i).toNat)
    case atStart => exact ⟨0, Nat.zero_le _, rfl, Below.refl _ _⟩
    case round =>
      obtain ⟨k, hk, rfl, hbr⟩ := hrel
      have bel2 := below_step bel hbr
      by_cases hlt : k < n
      · rcases rd_below HRD.out hbr with hx | ⟨bb, off, rfl, hcx⟩
        · have := HN.out
          rw [hx] at this
          simp at this
          omega
        · have hck := hcx k (by have := HN.out; omega)
          rw [HY.out k hlt] at hck
          clear hcx
          go_wp2
          go_roundw
          case rel => exact ⟨k + 1, by omega, by go_num, by first | exact hbr | exact below_drewN hbr _⟩
          case measure => simp [intOf]; omega
      · have hkn : k = n := by omega
        subst hkn
        have HX3 := Lib.hid (rdv_below HX2.out hbr)
        have HA3 := Lib.hid (rdv_below HA2.out hbr)
        clear hbr
        go_wp2_with fail
        refine (sameInts_t _ _ xs _ HX3.out HA3.out).mono ?_
        rintro e V1 ⟨rfl, hq⟩
        have bel3 := below_step bel2 (hq wr.heap.size)
        clear hq
        go_wp2
        go_ret
        exact ⟨rfl, bel3⟩
  · have e1 : ringBack xs = ([], false) := by simp [ringBack, hp]
    have HI := Lib.hid (fun (wx : World) (v0 : Value) (kE : ErrAt wx) (k0 : RdV wx v0 xs) => e1 ▸ iRingBack_v v0 xs wx kE k0)
    have HS := Lib.hid (fun (wx : World) (v0 : Value) (k0 : RdV wx v0 xs) => e1 ▸ sRingBack_v v0 xs wx k0)
    clear hp e1
    go_wp2_with fail
    refine (HI.out _ _ (errAt_below hE bel) (own_rdv o_a)).mono ?_
    rintro e W2 ⟨v_o, rfl, o, hb⟩
    have bel := below_step bel hb
    have o_a := own_below o_a hb
    clear hb
    have o_o := o
    clear o
    go_wp2_with fail
    refine (HS.out _ _ (own_rdv o_a)).mono ?_
    rintro e W3 ⟨v_w, rfl, o, hb⟩
    have bel := below_step bel hb
    have o_a := own_below o_a hb
    have o_o := own_below o_o hb
    clear hb
    have o_w := o
    clear o
    go_wp2_with fail
    refine (sameInts_t _ _ [] _ (own_rdv o_o) (own_rdv o_w)).mono ?_
    rintro e W4 ⟨rfl, hq⟩
    have hb := hq W3.heap.size
    clear hq
    have bel := below_step bel hb
    have o_a := own_below o_a hb
    have o_o := own_below o_o hb
    have o_w := own_below o_w hb
    clear hb
    go_wp2_with fail
    refine (sameInts_t _ _ [] _ (own_rdv o_o) (own_rdv o_w)).mono ?_
    rintro e W5 ⟨rfl, hq⟩
    have hb := hq W4.heap.size
    clear hq
    have bel := below_step bel hb
    have o_a := own_below o_a hb
    have o_o := own_below o_o hb
    have o_w := own_below o_w hb
    clear hb
    go_wp2
    go_ret
    exact ⟨rfl, bel⟩

theorem walk (a0 : Option Addr) (len0 cap0 : Nat) (z0 : List Int) (w : World) (w0 : IsRow .u8 w a0 len0 cap0 z0)
    (hE : ErrAt w) : Calls Tryd.prog 8 #[.slice a0 len0 cap0] w fun e w' => e = .returned (.bool true) ∧ Below w.heap.size w w' := by
  obtain ⟨hB, hc, hcm⟩ := bytes_of_row w0
  refine (Nat.lt_or_ge 1048576 len0).elim (fun hs0 => ?_) (fun hs0 => ?_)
  · go_enter Tryd.func8, Tryd.ntmps8
    go_wp2
    go_ret
    exact ⟨rfl, Below.refl _ _⟩
  exact small a0 len0 cap0 w hB hc hcm hs0 hE

theorem door_met (os : Os) (args : Array Value) : laidMetH Tryd.prog [("errors.errorType", Rows.laid_errors_errorType)] ((World.doorLaid Tryd.prog 400 os).forCall (fun _ _ => 0) ⟨#[], args, []⟩).memory :=
  laidMetH_of_parts3 (fuel := 8) (laidMet_of_run' 8 (by kernel_rfl) (by kernel_rfl)) (by kernel_rfl) (by kernel_rfl)

set_option maxRecDepth 100000 in
theorem lifted (os : Os) (started : os.Started) (H : Type) (enc : TypeId × Value → H) :
    ReturnsInHanded {} Tryd.checked os 8 .any (fun w args => (Rows.fnRingBackSpec.pre enc Tryd.prog Tryd.f8 [] false w args ∧ laidMetH Tryd.prog [("errors.errorType", Rows.laid_errors_errorType)] w) ∧ sizedMet enc Tryd.prog Tryd.f8 (OpenSpec.ofChange Rows.fnRingBackSpec) false w args)
      (Rows.fnRingBackSpec.post enc Tryd.prog Tryd.f8 false true false false) := by
  refine returnsInHanded_of_change_and (C := Tryd.checked) (X := fun w _ => laidMetH Tryd.prog [("errors.errorType", Rows.laid_errors_errorType)] w) (fun _ _ _ hh h => h.of_heap hh) own started (by kernel_rfl) Tryd.func8
    (ChangeSpec.witness_shaped (enc := enc) (C := Tryd.checked) (os := os) (X := fun w _ => laidMetH Tryd.prog [("errors.errorType", Rows.laid_errors_errorType)] w) false (World.doorLaid Tryd.prog 400 os) #[.slice none 0 0] 8 rfl (World.shaped_of_RefB (by kernel_rfl) (by kernel_rfl)) (by kernel_rfl) (by kernel_rfl) (by kernel_rfl) (door_met os _)) ?_
  intro W base args ds gs before hval0 hW _ _ hL _
  have hE : ErrAt W := errAt_of_laid hL
  have hval : ∀ (j : Nat) t v, Tryd.f8.params[j]? = some t → args[j]? = some v → Value.okWide Tryd.prog W .any base t v := hval0
  have hW' := hW
  obtain ⟨p, q, hA0, hV, rfl, hfz, hnd⟩ := hW
  have hA : DataW.TrodAll enc Tryd.prog W 0 (fun _ => true) true Tryd.f8.params.toList args.toList ds p := hA0
  rw [Tryd.params8] at hA hval
  obtain ⟨v0, vs0, d0, ds0, p0, q0, hargs, rfl, rfl, h0, r0⟩ := trodAll_cons hA
  obtain ⟨rfl, rfl, rfl⟩ := trodAll_nil r0
  obtain rfl : args = #[v0] := by cases args; simp_all
  obtain ⟨rfl, rfl⟩ := trodVars_none hV
  obtain ⟨a0, len0, cap0, rfl⟩ := okWide_slice Tryd.underlying22 (hval 0 22 v0 rfl rfl)
  have k0 := h0
  have lt0 : ∀ x ∈ p0, x.block < W.heap.size := by obtain ⟨m, hm⟩ := k0; exact DataW.trod_lt m _ _ _ hm
  obtain ⟨z0, w0⟩ : ∃ zs, IsRow .u8 W a0 len0 cap0 zs := by
    obtain ⟨fuel, hf⟩ := h0
    rcases open_ints Tryd.underlying22 Tryd.underlying5 (by kernel_rfl) hf with ⟨hcs, _⟩ | ⟨x, l, c, zs, hcs, _, hl, hm, hz, _, hcell, hwz⟩
    · simp [Value.cells] at hcs
      obtain ⟨rfl, rfl, rfl⟩ := hcs
      exact ⟨[], .inl ⟨rfl, rfl, rfl, rfl⟩⟩
    · simp [Value.cells] at hcs
      obtain ⟨rfl, rfl, rfl⟩ := hcs
      exact ⟨zs, .inr ⟨_, rfl, hl, hm, by simpa using hz, hcell, hwz⟩⟩
  clear hA0 hval0
  refine (walk a0 len0 cap0 z0 W w0 hE).mono fun e W' ⟨he, bel⟩ => ?_
  subst he
  exact ⟨_, rfl, _, _, _, [], _, [], hW', trodAll_mk1 (shut_bool Tryd.underlying4 _), (trodAll_cons_mk (Below.trod laidOut (by kernel_rfl) (of_decide_eq_true (by kernel_rfl)) k0 bel lt0) trodAll_mk0), rfl, bel.frame _, fun h => by cases h⟩

theorem over : Rows.fnRingBackRow.holds Tryd.pinned (OpenSpec.ofChange Rows.fnRingBackSpec) :=
  OpenClaim.holds_of_wide 8 Tryd.f8 rfl rfl rfl rfl rfl rfl rfl ⟨rfl, rfl, rfl, rfl, rfl⟩ rfl rfl rfl rfl rfl (by kernel_rfl) Tryd.func8 (by kernel_rfl)
    (of_decide_eq_true (by kernel_rfl)) (by unfold Func.isWrapper; first | (rw [if_pos (by decide +kernel)]; kernel_rfl) | (rw [if_neg (by decide +kernel)]; exact ⟨rfl, rfl⟩))
    (fun os started H enc _ => lifted os started H enc)

/-- The statement. -/
theorem proved : Rows.FnRingBackCardSaid :=
  Claim7.holds_tied_plain_at .later [] [.handle] true Rows.fnRingBackCard.stood.harness Rows.fnRingBackCard.stood.looks
    over (fun _ h => by cases h) (by kernel_rfl) (fun _ h => by cases h) fnRingBack_row_tie rfl ⟨rfl, rfl⟩ (by kernel_rfl) rfl
    (fun f fn hf hfn => by
      obtain rfl : f = 8 := Option.some.inj ((show Tryd.prog.funcNamed "loop.example/setparts/laws.FnRingBack" = some 8 by kernel_rfl).symm.trans hf) |>.symm
      obtain rfl : fn = Tryd.f8 := (Option.some.inj (Tryd.func8.symm.trans hfn)).symm
      exact ⟨by kernel_rfl, fun j t ht => by
        rw [Tryd.params8] at ht
        have hm : t ∈ [22] := by simpa using Array.mem_of_getElem? ht
        have hall : ([22].all fun u => !Tryd.prog.wantsStandIn u) = true := by kernel_rfl
        exact (show Tryd.prog.wantsStandIn t = false by simpa using List.all_eq_true.1 hall t hm)⟩)
    (by kernel_rfl)
end Go.Proofs.YtdeeeiimlcggpaaDoor.fnRingBack
