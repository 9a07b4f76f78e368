/-
  Exchanged numbers merge or split rings. For every input the Go text of laws.FnSwap returns true, and its argument reads afterwards as before. No condition.
-/
import Derived.Test.YtdeeeiimlcggpaaDoorDrawPart
import Derived.Test.YtdeeeiimlcggpaaDoorSame
import Derived.Test.YtdeeeiimlcggpaaDoorRows
import Derived.Test.YtdeeeiimlcggpaaDoorPure
import Derived.Test.YtdeeeiimlcggpaaDoorHelp
import Derived.Test.YtdeeeiimlcggpaaDoorDrawSwap
import Derived.Test.YtdeeeiimlcggpaaDoorRingFacts
import Derived.Test.YtdeeeiimlcggpaaDoorFinRank
import Derived.WalkKit
import Derived.ProofKit
import Derived.OpenShut
import Derived.ShutString
import Derived.ChangeOld
import Derived.Below
import Derived.Test.YtdeeeiimlcggpaaDoorCards
import Derived.Test.YtdeeeiimlcggpaaDoorTie
import Derived.Test.YtdeeeiimlcggpaaDoorLaidErr
import Derived.LaidMore
import Derived.Stop.Joined
import Derived.SevenTiedAt
namespace Go.Proofs.YtdeeeiimlcggpaaDoor.fnSwap
open Go.ChangeShapes Go.WideShapes Go.ChangeAt Go.RowKit
open Go.ChangeMaps (open_string shut_string)
set_option linter.unusedVariables false
set_option linter.unusedSimpArgs false
set_option linter.unnecessarySimpa false

theorem own : ownKnob Tryd.prog.godebug = none := by kernel_rfl
theorem laidOut : laidOutB Tryd.prog = true := by kernel_rfl

theorem sameInts_t (v u : Value) (xs : List Int) (w : World) (hv : RdV w v xs) (hu : RdV w u xs) : Calls Tryd.prog 18 #[v, u] w fun e w' => e = .returned (.bool true) ∧ Same w w' :=
  (sameInts_v v u xs xs w hv hu).mono fun e w' ⟨he, hw⟩ => ⟨by rw [he]; simp, hw⟩

theorem wf_small {i : Int} (h0 : -100000 ≤ i) (h1 : i ≤ 100000) : (Lit.int .i64 i).wf = true := by
  simp [Lit.wf, IntKind.min, IntKind.max, IntKind.bits, IntKind.signed]
  omega


set_option maxRecDepth 100000 in
set_option maxHeartbeats 4000000 in
theorem small (a0 : Option Addr) (len0 cap0 : Nat) (w : World) (hB : Bytes w a0 len0) (hc : len0 ≤ cap0) (hcm : cap0 ≤ maxLen) (hs0 : len0 ≤ 1048576)
    (hE : ErrAt w) : Calls Tryd.prog 10 #[.slice a0 len0 cap0] w fun e w' => e = .returned (.bool true) ∧ Below w.heap.size w w' := by
  have bel : Below w.heap.size w w := Below.refl _ _
  go_enter Tryd.func10, Tryd.ntmps10
  go_wp2_with fail
  refine (drawRingSwap_any a0 len0 cap0 _ hB hs0 hc hcm).mono ?_
  rintro e W1 ⟨v_a, xs, i, k, rfl, o, hl9, hi, hk, hb⟩
  have bel := below_step bel hb
  clear hb
  have o_a := o
  clear o
  have wi := wf_small (i := i) (by omega) (by omega)
  have wk := wf_small (i := k) (by omega) (by omega)
  by_cases hp : ringIn xs = true ∧ (0 ≤ i ∧ i < xs.length) ∧ (0 ≤ k ∧ k < xs.length) ∧ i ≠ k
  · obtain ⟨hr, ⟨hi0, hi1⟩, ⟨hk0, hk1⟩, hik⟩ := hp
    have hin : i.toNat < xs.length := by omega
    have hkn : k.toNat < xs.length := by omega
    have hne : i.toNat ≠ k.toNat := by omega
    have e1 : ringSwap xs i k = (swapAt xs i.toNat k.toNat, true) := by unfold ringSwap; rw [if_pos ⟨hr, ⟨hi0, hi1⟩, ⟨hk0, hk1⟩, hik⟩]
    have hs := swap_ring hr hin hkn
    have hl := swapAt_length xs i.toNat k.toNat
    have e2 : ringSwap (swapAt xs i.toNat k.toNat) i k = (xs, true) := by unfold ringSwap; rw [if_pos ⟨hs, by rw [hl]; exact ⟨hi0, hi1⟩, by rw [hl]; exact ⟨hk0, hk1⟩, hik⟩, swap_swap xs hin hkn]
    have e3 : ringPart xs = (ringsOf xs, true) := by simp [ringPart, hr]
    have e4 : ringPart (swapAt xs i.toNat k.toNat) = (ringsOf (swapAt xs i.toNat k.toNat), true) := by simp [ringPart, hs]
    have e5 : finerRank (ringsOf xs) = ((xs.length : Int) - pSize (ringsOf xs), true) := by simp [finerRank, rings_part hr, ringsOf_length]
    have e6 : finerRank (ringsOf (swapAt xs i.toNat k.toNat)) = ((xs.length : Int) - pSize (ringsOf (swapAt xs i.toNat k.toNat)), true) := by simp [finerRank, rings_part hs, ringsOf_length, hl]
    have hb1 := pSize_bd (partIn_small (rings_part hr))
    have hb2 := pSize_bd (partIn_small (rings_part hs))
    have hrk := swap_rank hr hin hkn hne
    generalize ringsOf xs = ra at *
    generalize ringsOf (swapAt xs i.toNat k.toNat) = rb at *
    generalize swapAt xs i.toNat k.toNat = ys at *
    obtain ⟨m, hm⟩ : ∃ m : Int, m = (xs.length : Int) - pSize ra := ⟨_, rfl⟩
    obtain ⟨n, hn⟩ : ∃ n : Int, n = (xs.length : Int) - pSize rb := ⟨_, rfl⟩
    rw [← hm] at e5
    rw [← hn] at e6
    have hm9 : -9 ≤ m ∧ m ≤ 9 := by omega
    have hn9 : -9 ≤ n ∧ n ≤ 9 := by omega
    have hrk : (n = m + 1 ∧ finerIn ra rb = true) ∨ (m = n + 1 ∧ finerIn rb ra = true) := by
      rcases hrk with ⟨h, h2⟩ | ⟨h, h2⟩
      · exact .inl ⟨by omega, h2⟩
      · exact .inr ⟨by omega, h2⟩
    have HI := Lib.hid (fun (wx : World) (v0 : Value) (kE : ErrAt wx) (k0 : RdV wx v0 xs) => e1 ▸ iRingSwap_v v0 xs i k wx kE k0 wi wk)
    have HS := Lib.hid (fun (wx : World) (v0 : Value) (k0 : RdV wx v0 xs) => e1 ▸ sRingSwap_v v0 xs i k wx k0 wi wk)
    have HX := Lib.hid (fun (wx : World) (v0 : Value) (kE : ErrAt wx) (k0 : RdV wx v0 ys) => e2 ▸ iRingSwap_v v0 ys i k wx kE k0 wi wk)
    have HP := Lib.hid (fun (wx : World) (v0 : Value) (kE : ErrAt wx) (k0 : RdV wx v0 xs) => e3 ▸ iRingPart_v v0 xs wx kE k0)
    have HQ := Lib.hid (fun (wx : World) (v0 : Value) (kE : ErrAt wx) (k0 : RdV wx v0 ys) => e4 ▸ iRingPart_v v0 ys wx kE k0)
    have HM := Lib.hid (fun (wx : World) (v0 : Value) (k0 : RdV wx v0 ra) => e5 ▸ iFinerRank_v v0 ra wx k0)
    have HN := Lib.hid (fun (wx : World) (v0 : Value) (k0 : RdV wx v0 rb) => e6 ▸ iFinerRank_v v0 rb wx k0)
    have HRK := Lib.hid hrk
    clear hr hi0 hi1 hk0 hk1 hik hin hkn hne e1 hs hl e2 e3 e4 e5 e6 hb1 hb2 hrk hm hn wi wk hi hk
    go_wp2_with fail
    refine (HI.out _ _ (errAt_below hE bel) (own_rdv o_a)).mono ?_
    rintro e W2 ⟨v_o, rfl, o, hb⟩
    have bel := below_step bel hb
    have o_a := own_below o_a hb
    clear hb
    have o_o := o
    clear o
    go_wp2_with fail
    refine (HS.out _ _ (own_rdv o_a)).mono ?_
    rintro e W3 ⟨v_w, rfl, o, hb⟩
    have bel := below_step bel hb
    have o_a := own_below o_a hb
    have o_o := own_below o_o hb
    clear hb
    have o_w := o
    clear o
    go_wp2_with fail
    refine (sameInts_t _ _ ys _ (own_rdv o_o) (own_rdv o_w)).mono ?_
    rintro e W4 ⟨rfl, hq⟩
    have hb := hq W3.heap.size
    clear hq
    have bel := below_step bel hb
    have o_a := own_below o_a hb
    have o_o := own_below o_o hb
    have o_w := own_below o_w hb
    clear hb
    clear o_w
    go_wp2_with fail
    refine (HX.out _ _ (errAt_below hE bel) (own_rdv o_o)).mono ?_
    rintro e W5 ⟨v_x, rfl, o, hb⟩
    have bel := below_step bel hb
    have o_a := own_below o_a hb
    have o_o := own_below o_o hb
    clear hb
    have o_x := o
    clear o
    go_wp2_with fail
    refine (HP.out _ _ (errAt_below hE bel) (own_rdv o_a)).mono ?_
    rintro e W6 ⟨v_r, rfl, o, hb⟩
    have bel := below_step bel hb
    have o_a := own_below o_a hb
    have o_o := own_below o_o hb
    have o_x := own_below o_x hb
    clear hb
    have o_r := o
    clear o
    go_wp2_with fail
    refine (HQ.out _ _ (errAt_below hE bel) (own_rdv o_o)).mono ?_
    rintro e W7 ⟨v_s, rfl, o, hb⟩
    have bel := below_step bel hb
    have o_a := own_below o_a hb
    have o_o := own_below o_o hb
    have o_x := own_below o_x hb
    have o_r := own_below o_r hb
    clear hb
    have o_s := o
    clear o
    go_wp2_with fail
    refine (HM.out _ _ (own_rdv o_r)).mono ?_
    rintro e W8 ⟨rfl, hb⟩
    have bel := below_step bel hb
    have o_a := own_below o_a hb
    have o_o := own_below o_o hb
    have o_x := own_below o_x hb
    have o_r := own_below o_r hb
    have o_s := own_below o_s hb
    clear hb
    go_wp2_with fail
    refine (HN.out _ _ (own_rdv o_s)).mono ?_
    rintro e W9 ⟨rfl, hb⟩
    have bel := below_step bel hb
    have o_a := own_below o_a hb
    have o_o := own_below o_o hb
    have o_x := own_below o_x hb
    have o_r := own_below o_r hb
    have o_s := own_below o_s hb
    clear hb
    go_wp2_with fail
    refine (sameInts_t _ _ xs _ (own_rdv o_x) (own_rdv o_a)).mono ?_
    rintro e W10 ⟨rfl, hq⟩
    have hb := hq W9.heap.size
    clear hq
    have bel := below_step bel hb
    have o_a := own_below o_a hb
    have o_o := own_below o_o hb
    have o_x := own_below o_x hb
    have o_r := own_below o_r hb
    have o_s := own_below o_s hb
    clear hb
    clear HI HS HX HP HQ HM HN
    rcases HRK.out with ⟨hnm, hf⟩ | ⟨hnm, hf⟩
    · have c1 : (m == n + 1) = false := by simp; omega
      have c2 : (n == m + 1) = true := by simp; omega
      have c3 : ¬ m = n + 1 := by omega
      have HF := Lib.hid (fun (wx : World) (v0 : Value) (v1 : Value) (k0 : RdV wx v0 ra) (k1 : RdV wx v1 rb) => hf ▸ iFinerIn_v v0 v1 ra rb wx k0 k1)
      have HNM := Lib.hid hnm
      clear hf hnm HRK
      go_wp2_with fail
      refine (HF.out _ _ _ (own_rdv o_r) (own_rdv o_s)).mono ?_
      rintro e W11 ⟨rfl, hb⟩
      have bel := below_step bel hb
      have o_a := own_below o_a hb
      have o_o := own_below o_o hb
      have o_x := own_below o_x hb
      have o_r := own_below o_r hb
      have o_s := own_below o_s hb
      clear hb
      go_wp2
      go_ret
      exact ⟨by first | rfl | simp, bel⟩
    · have c1 : (m == n + 1) = true := by simp; omega
      have HF := Lib.hid (fun (wx : World) (v0 : Value) (v1 : Value) (k0 : RdV wx v0 rb) (k1 : RdV wx v1 ra) => hf ▸ iFinerIn_v v0 v1 rb ra wx k0 k1)
      have HNM := Lib.hid hnm
      clear hf hnm HRK
      go_wp2_with fail
      refine (HF.out _ _ _ (own_rdv o_s) (own_rdv o_r)).mono ?_
      rintro e W11 ⟨rfl, hb⟩
      have bel := below_step bel hb
      have o_a := own_below o_a hb
      have o_o := own_below o_o hb
      have o_x := own_below o_x hb
      have o_r := own_below o_r hb
      have o_s := own_below o_s hb
      clear hb
      go_wp2
      go_ret
      exact ⟨by first | rfl | simp, bel⟩
  · have e1 : ringSwap xs i k = ([], false) := by unfold ringSwap; rw [if_neg hp]
    have HI := Lib.hid (fun (wx : World) (v0 : Value) (kE : ErrAt wx) (k0 : RdV wx v0 xs) => e1 ▸ iRingSwap_v v0 xs i k wx kE k0 wi wk)
    have HS := Lib.hid (fun (wx : World) (v0 : Value) (k0 : RdV wx v0 xs) => e1 ▸ sRingSwap_v v0 xs i k wx k0 wi wk)
    clear hp e1 wi wk hi hk
    go_wp2_with fail
    refine (HI.out _ _ (errAt_below hE bel) (own_rdv o_a)).mono ?_
    rintro e W2 ⟨v_o, rfl, o, hb⟩
    have bel := below_step bel hb
    have o_a := own_below o_a hb
    clear hb
    have o_o := o
    clear o
    go_wp2_with fail
    refine (HS.out _ _ (own_rdv o_a)).mono ?_
    rintro e W3 ⟨v_w, rfl, o, hb⟩
    have bel := below_step bel hb
    have o_a := own_below o_a hb
    have o_o := own_below o_o hb
    clear hb
    have o_w := o
    clear o
    go_wp2_with fail
    refine (sameInts_t _ _ [] _ (own_rdv o_o) (own_rdv o_w)).mono ?_
    rintro e W4 ⟨rfl, hq⟩
    have hb := hq W3.heap.size
    clear hq
    have bel := below_step bel hb
    have o_a := own_below o_a hb
    have o_o := own_below o_o hb
    have o_w := own_below o_w hb
    clear hb
    go_wp2_with fail
    refine (sameInts_t _ _ [] _ (own_rdv o_o) (own_rdv o_w)).mono ?_
    rintro e W5 ⟨rfl, hq⟩
    have hb := hq W4.heap.size
    clear hq
    have bel := below_step bel hb
    have o_a := own_below o_a hb
    have o_o := own_below o_o hb
    have o_w := own_below o_w hb
    clear hb
    go_wp2
    go_ret
    exact ⟨rfl, bel⟩

theorem walk (a0 : Option Addr) (len0 cap0 : Nat) (z0 : List Int) (w : World) (w0 : IsRow .u8 w a0 len0 cap0 z0)
    (hE : ErrAt w) : Calls Tryd.prog 10 #[.slice a0 len0 cap0] w fun e w' => e = .returned (.bool true) ∧ Below w.heap.size w w' := by
  obtain ⟨hB, hc, hcm⟩ := bytes_of_row w0
  refine (Nat.lt_or_ge 1048576 len0).elim (fun hs0 => ?_) (fun hs0 => ?_)
  · go_enter Tryd.func10, Tryd.ntmps10
    go_wp2
    go_ret
    exact ⟨rfl, Below.refl _ _⟩
  exact small a0 len0 cap0 w hB hc hcm hs0 hE

theorem door_met (os : Os) (args : Array Value) : laidMetH Tryd.prog [("errors.errorType", Rows.laid_errors_errorType)] ((World.doorLaid Tryd.prog 400 os).forCall (fun _ _ => 0) ⟨#[], args, []⟩).memory :=
  laidMetH_of_parts3 (fuel := 8) (laidMet_of_run' 8 (by kernel_rfl) (by kernel_rfl)) (by kernel_rfl) (by kernel_rfl)

set_option maxRecDepth 100000 in
theorem lifted (os : Os) (started : os.Started) (H : Type) (enc : TypeId × Value → H) :
    ReturnsInHanded {} Tryd.checked os 10 .any (fun w args => (Rows.fnSwapSpec.pre enc Tryd.prog Tryd.f10 [] false w args ∧ laidMetH Tryd.prog [("errors.errorType", Rows.laid_errors_errorType)] w) ∧ sizedMet enc Tryd.prog Tryd.f10 (OpenSpec.ofChange Rows.fnSwapSpec) false w args)
      (Rows.fnSwapSpec.post enc Tryd.prog Tryd.f10 false true false false) := by
  refine returnsInHanded_of_change_and (C := Tryd.checked) (X := fun w _ => laidMetH Tryd.prog [("errors.errorType", Rows.laid_errors_errorType)] w) (fun _ _ _ hh h => h.of_heap hh) own started (by kernel_rfl) Tryd.func10
    (ChangeSpec.witness_shaped (enc := enc) (C := Tryd.checked) (os := os) (X := fun w _ => laidMetH Tryd.prog [("errors.errorType", Rows.laid_errors_errorType)] w) false (World.doorLaid Tryd.prog 400 os) #[.slice none 0 0] 8 rfl (World.shaped_of_RefB (by kernel_rfl) (by kernel_rfl)) (by kernel_rfl) (by kernel_rfl) (by kernel_rfl) (door_met os _)) ?_
  intro W base args ds gs before hval0 hW _ _ hL _
  have hE : ErrAt W := errAt_of_laid hL
  have hval : ∀ (j : Nat) t v, Tryd.f10.params[j]? = some t → args[j]? = some v → Value.okWide Tryd.prog W .any base t v := hval0
  have hW' := hW
  obtain ⟨p, q, hA0, hV, rfl, hfz, hnd⟩ := hW
  have hA : DataW.TrodAll enc Tryd.prog W 0 (fun _ => true) true Tryd.f10.params.toList args.toList ds p := hA0
  rw [Tryd.params10] at hA hval
  obtain ⟨v0, vs0, d0, ds0, p0, q0, hargs, rfl, rfl, h0, r0⟩ := trodAll_cons hA
  obtain ⟨rfl, rfl, rfl⟩ := trodAll_nil r0
  obtain rfl : args = #[v0] := by cases args; simp_all
  obtain ⟨rfl, rfl⟩ := trodVars_none hV
  obtain ⟨a0, len0, cap0, rfl⟩ := okWide_slice Tryd.underlying22 (hval 0 22 v0 rfl rfl)
  have k0 := h0
  have lt0 : ∀ x ∈ p0, x.block < W.heap.size := by obtain ⟨m, hm⟩ := k0; exact DataW.trod_lt m _ _ _ hm
  obtain ⟨z0, w0⟩ : ∃ zs, IsRow .u8 W a0 len0 cap0 zs := by
    obtain ⟨fuel, hf⟩ := h0
    rcases open_ints Tryd.underlying22 Tryd.underlying5 (by kernel_rfl) hf with ⟨hcs, _⟩ | ⟨x, l, c, zs, hcs, _, hl, hm, hz, _, hcell, hwz⟩
    · simp [Value.cells] at hcs
      obtain ⟨rfl, rfl, rfl⟩ := hcs
      exact ⟨[], .inl ⟨rfl, rfl, rfl, rfl⟩⟩
    · simp [Value.cells] at hcs
      obtain ⟨rfl, rfl, rfl⟩ := hcs
      exact ⟨zs, .inr ⟨_, rfl, hl, hm, by simpa using hz, hcell, hwz⟩⟩
  clear hA0 hval0
  refine (walk a0 len0 cap0 z0 W w0 hE).mono fun e W' ⟨he, bel⟩ => ?_
  subst he
  exact ⟨_, rfl, _, _, _, [], _, [], hW', trodAll_mk1 (shut_bool Tryd.underlying4 _), (trodAll_cons_mk (Below.trod laidOut (by kernel_rfl) (of_decide_eq_true (by kernel_rfl)) k0 bel lt0) trodAll_mk0), rfl, bel.frame _, fun h => by cases h⟩

theorem over : Rows.fnSwapRow.holds Tryd.pinned (OpenSpec.ofChange Rows.fnSwapSpec) :=
  OpenClaim.holds_of_wide 10 Tryd.f10 rfl rfl rfl rfl rfl rfl rfl ⟨rfl, rfl, rfl, rfl, rfl⟩ rfl rfl rfl rfl rfl (by kernel_rfl) Tryd.func10 (by kernel_rfl)
    (of_decide_eq_true (by kernel_rfl)) (by unfold Func.isWrapper; first | (rw [if_pos (by decide +kernel)]; kernel_rfl) | (rw [if_neg (by decide +kernel)]; exact ⟨rfl, rfl⟩))
    (fun os started H enc _ => lifted os started H enc)

/-- The statement. -/
theorem proved : Rows.FnSwapCardSaid :=
  Claim7.holds_tied_plain_at .later [] [.handle] true Rows.fnSwapCard.stood.harness Rows.fnSwapCard.stood.looks
    over (fun _ h => by cases h) (by kernel_rfl) (fun _ h => by cases h) fnSwap_row_tie rfl ⟨rfl, rfl⟩ (by kernel_rfl) rfl
    (fun f fn hf hfn => by
      obtain rfl : f = 10 := Option.some.inj ((show Tryd.prog.funcNamed "loop.example/setparts/laws.FnSwap" = some 10 by kernel_rfl).symm.trans hf) |>.symm
      obtain rfl : fn = Tryd.f10 := (Option.some.inj (Tryd.func10.symm.trans hfn)).symm
      exact ⟨by kernel_rfl, fun j t ht => by
        rw [Tryd.params10] at ht
        have hm : t ∈ [22] := by simpa using Array.mem_of_getElem? ht
        have hall : ([22].all fun u => !Tryd.prog.wantsStandIn u) = true := by kernel_rfl
        exact (show Tryd.prog.wantsStandIn t = false by simpa using List.all_eq_true.1 hall t hm)⟩)
    (by kernel_rfl)
end Go.Proofs.YtdeeeiimlcggpaaDoor.fnSwap
