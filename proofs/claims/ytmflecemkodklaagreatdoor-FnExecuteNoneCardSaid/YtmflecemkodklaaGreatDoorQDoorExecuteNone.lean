/-
  An empty script has one thing. For every input the Go text of laws.FnExecuteNone returns true, and its argument reads afterwards as before. No condition.
-/
import Derived.Test.YtmflecemkodklaaGreatDoorMhH
import Derived.Test.YtmflecemkodklaaGreatDoorQFactsExecuteNone
import Derived.Test.YtmflecemkodklaaGreatDoorMhA
import Derived.Test.YtmflecemkodklaaGreatDoorMhD
import Derived.Test.YtmflecemkodklaaGreatDoorRows
import Derived.Test.YtmflecemkodklaaGreatDoorCards
import Derived.Test.YtmflecemkodklaaGreatDoorTie
import Derived.WalkKit
import Derived.ProofKit
import Derived.OpenShut
import Derived.ShutString
import Derived.ChangeOld
import Derived.Below
namespace Go.Proofs.YtmflecemkodklaaGreatDoor.fnExecuteNone
open Go.ChangeShapes Go.WideShapes Go.ChangeAt Go.RowKit
open Go.ChangeMaps (open_string shut_string)
set_option linter.unusedVariables false
set_option linter.unusedSimpArgs false
set_option linter.unnecessarySimpa false

set_option maxRecDepth 100000
theorem own : ownKnob Tryz.prog.godebug = none := by kernel_rfl
theorem laidOut : laidOutB Tryz.prog = true := seat_laidOut

set_option maxRecDepth 100000 in
set_option maxHeartbeats 4000000 in
theorem small (a0 : Option Addr) (len0 cap0 : Nat) (w : World) (hE : EnvAt w) (hB : Bytes w a0 len0) (hc : len0 ≤ cap0) (hcm : cap0 ≤ maxLen) (hs0 : len0 ≤ 1048576) :
    Calls Tryz.prog 3 #[.slice a0 len0 cap0] w fun e w' => e = .returned (.bool true) ∧ Below w.heap.size w w' := by
  have bel : Below w.heap.size w w := Below.refl _ _
  have HE := Lib.hid hE
  clear hE
  go_enter Tryz.func3, Tryz.ntmps3
  go_wp2_with fail
  refine (drawExecute_any a0 len0 cap0 _ hB hs0 hc hcm).mono ?_
  rintro e W1 ⟨t, rfl, htl, hb⟩
  have bel := yAz bel hb
  clear hb hB hs0 hc hcm
  have hcl : (completeL t).length ≤ t.length := complete_len t
  have HX := Lib.hid (fun W (h : EnvAt W) => iExecute_v t W h (by omega))
  have HS := Lib.hid (fun W => sExecute_v t W (by omega))
  have HC := Lib.hid (fun W => complete_v t W (by omega))
  have hne := exec_some lineL t
  have hnone := exec_none lineL
  have hcomp : t.length ≤ 600 → execL lineL (completeL t) = execL lineL t := fun h => exec_complete lineL h
  have hbg : 600 < t.length → execL lineL t = [116, 111, 111, 32, 108, 111, 110, 103, 10] := fun h => by unfold execL; rw [if_pos h]
  have HN := Lib.hid (fun W (h : EnvAt W) => iExecute_v [] W h (by decide))
  have hth : thingsL 1 = [116, 104, 105, 110, 103, 115, 32, 49, 10] := by
    unfold thingsL
    rw [decN_small (by decide)]
    rfl
  rw [hnone, hth] at HN
  have HY := Lib.hid (fun W (h : EnvAt W) => iExecute_v (completeL t) W h (by omega))
  obtain ⟨r, hr⟩ : ∃ r, r = execL lineL t := ⟨_, rfl⟩
  rw [← hr] at hne hcomp hbg HX HS
  obtain ⟨c, hce⟩ : ∃ c, c = completeL t := ⟨_, rfl⟩
  rw [← hce] at hcomp HY HC
  have hrs : r.isEmpty = false := by
    cases r with
    | nil => exact absurd rfl hne
    | cons c r' => rfl
  clear hr hce hcl hnone hth hne
  go_wp2_with fail
  refine (HX.out _ (env_below HE.out bel)).mono ?_
  rintro e W2 ⟨rfl, hb⟩
  have bel := yAz bel hb
  clear hb
  go_wp2_with fail
  refine (HS.out _).mono ?_
  rintro e W3 ⟨rfl, hb⟩
  have bel := yAz bel hb
  clear hb
  by_cases hbig : 600 < t.length
  · have hg : decide ((600 : Int) < (t.length : Int)) = true := by simp; omega
    have hr := hbg hbig
    subst hr
    clear hcomp hbig
    go_wp2
    go_ret
    exact ⟨by first | rfl | simp, bel⟩
  · have hg : decide ((600 : Int) < (t.length : Int)) = false := by simp; omega
    rw [hcomp (by omega)] at HY
    clear hcomp hbig hbg
    go_wp2_with fail
    refine (HN.out _ (env_below HE.out bel)).mono ?_
    rintro e W4 ⟨rfl, hb⟩
    have bel := yAz bel hb
    clear hb
    go_wp2_with fail
    refine (HC.out _).mono ?_
    rintro e W5 ⟨rfl, hb⟩
    have bel := yAz bel hb
    clear hb
    go_wp2_with fail
    refine (HY.out _ (env_below HE.out bel)).mono ?_
    rintro e W6 ⟨rfl, hb⟩
    have bel := yAz bel hb
    clear hb
    go_wp2
    go_ret
    exact ⟨by first | rfl | simp, bel⟩


theorem walk (a0 : Option Addr) (len0 cap0 : Nat) (z0 : List Int) (w : World) (hE : EnvAt w) (w0 : IsRow .u8 w a0 len0 cap0 z0) :
    Calls Tryz.prog 3 #[.slice a0 len0 cap0] w fun e w' => e = .returned (.bool true) ∧ Below w.heap.size w w' := by
  obtain ⟨hB, hc, hcm⟩ := bytes_of_row w0
  refine (Nat.lt_or_ge 1048576 len0).elim (fun hs0 => ?_) (fun hs0 => ?_)
  · clear hE
    go_enter Tryz.func3, Tryz.ntmps3
    go_wp2
    go_ret
    exact ⟨rfl, Below.refl _ _⟩
  exact small a0 len0 cap0 w hE hB hc hcm hs0

set_option maxRecDepth 100000 in
theorem lifted (os : Os) (started : os.Started) (H : Type) (enc : TypeId × Value → H) :
    ReturnsInHanded {} Tryz.checked os 3 .any (fun w args => (Rows.fnExecuteNoneSpec.pre enc Tryz.prog Tryz.f3 [] false w args ∧ laidMetH Tryz.prog [("math/bits.deBruijn32tab", Rows.laid_math_bits_deBruijn32tab), ("math/bits.deBruijn64tab", Rows.laid_math_bits_deBruijn64tab), ("internal/strconv.uint64pow10", Rows.laid_internal_strconv_uint64pow10), ("unicode/utf8.acceptRanges", Rows.laid_unicode_utf8_acceptRanges), ("errors.errorType", Rows.laid_errors_errorType), ("unicode/utf8.first", Rows.laid_unicode_utf8_first)] w) ∧ sizedMet enc Tryz.prog Tryz.f3 (OpenSpec.ofChange Rows.fnExecuteNoneSpec) false w args)
      (Rows.fnExecuteNoneSpec.post enc Tryz.prog Tryz.f3 false true false false) := by
  refine returns_shaped_and (C := Tryz.checked) (X := fun w _ => laidMetH Tryz.prog [("math/bits.deBruijn32tab", Rows.laid_math_bits_deBruijn32tab), ("math/bits.deBruijn64tab", Rows.laid_math_bits_deBruijn64tab), ("internal/strconv.uint64pow10", Rows.laid_internal_strconv_uint64pow10), ("unicode/utf8.acceptRanges", Rows.laid_unicode_utf8_acceptRanges), ("errors.errorType", Rows.laid_errors_errorType), ("unicode/utf8.first", Rows.laid_unicode_utf8_first)] w) (fun _ _ _ hh h => h.of_heap hh) own started noInit Tryz.func3
    (ChangeSpec.witness_shaped (enc := enc) (C := Tryz.checked) (os := os) (X := fun w _ => laidMetH Tryz.prog [("math/bits.deBruijn32tab", Rows.laid_math_bits_deBruijn32tab), ("math/bits.deBruijn64tab", Rows.laid_math_bits_deBruijn64tab), ("internal/strconv.uint64pow10", Rows.laid_internal_strconv_uint64pow10), ("unicode/utf8.acceptRanges", Rows.laid_unicode_utf8_acceptRanges), ("errors.errorType", Rows.laid_errors_errorType), ("unicode/utf8.first", Rows.laid_unicode_utf8_first)] w) false ((World.doorLaid Tryz.prog 400 os).layVars Tryz.prog laidFive) #[.slice none 0 0] 8 (witExe_os os) (witExe_shaped os _) (by kernel_rfl) (by kernel_rfl) (by kernel_rfl) (witExe_six os _)) ?_
  intro W base args ds gs before hval0 hW _ _ hsh hL _
  have hE : EnvAt W := env_of_laid hsh hL
  have hval : ∀ (j : Nat) t v, Tryz.f3.params[j]? = some t → args[j]? = some v → Value.okWide Tryz.prog W .any base t v := hval0
  have hW' := hW
  obtain ⟨p, q, hA0, hV, rfl, hfz, hnd⟩ := hW
  have hA : DataW.TrodAll enc Tryz.prog W 0 (fun _ => true) true Tryz.f3.params.toList args.toList ds p := hA0
  rw [Tryz.params3] at hA hval
  obtain ⟨v0, vs0, d0, ds0, p0, q0, hargs, rfl, rfl, h0, r0⟩ := trodAll_cons hA
  obtain ⟨rfl, rfl, rfl⟩ := trodAll_nil r0
  obtain rfl : args = #[v0] := by cases args; simp_all
  obtain ⟨rfl, rfl⟩ := trodVars_none hV
  obtain ⟨a0, len0, cap0, rfl⟩ := okWide_slice Tryz.underlying22 (hval 0 22 v0 rfl rfl)
  have k0 := h0
  have lt0 : ∀ x ∈ p0, x.block < W.heap.size := by obtain ⟨m, hm⟩ := k0; exact DataW.trod_lt m _ _ _ hm
  obtain ⟨z0, w0⟩ : ∃ zs, IsRow .u8 W a0 len0 cap0 zs := by
    obtain ⟨fuel, hf⟩ := h0
    rcases open_ints Tryz.underlying22 Tryz.underlying5 (by kernel_rfl) hf with ⟨hcs, _⟩ | ⟨x, l, c, zs, hcs, _, hl, hm, hz, _, hcell, hwz⟩
    · simp [Value.cells] at hcs
      obtain ⟨rfl, rfl, rfl⟩ := hcs
      exact ⟨[], .inl ⟨rfl, rfl, rfl, rfl⟩⟩
    · simp [Value.cells] at hcs
      obtain ⟨rfl, rfl, rfl⟩ := hcs
      exact ⟨zs, .inr ⟨_, rfl, hl, hm, by simpa using hz, hcell, hwz⟩⟩
  clear hA0 hval0
  refine (walk a0 len0 cap0 z0 W hE w0).mono fun e W' ⟨he, bel⟩ => ?_
  subst he
  exact ⟨_, rfl, _, _, _, [], _, [], hW', trodAll_mk1 (shut_bool Tryz.underlying4 _), (trodAll_cons_mk (Below.trod laidOut (by kernel_rfl) (of_decide_eq_true (by kernel_rfl)) k0 bel lt0) trodAll_mk0), rfl, bel.frame _, fun h => by cases h⟩

theorem over : Rows.fnExecuteNoneRow.holds Tryz.pinned (OpenSpec.ofChange Rows.fnExecuteNoneSpec) :=
  OpenClaim.holds_of_wide 3 Tryz.f3 rfl rfl rfl rfl rfl rfl rfl ⟨rfl, rfl, rfl, rfl, rfl⟩ rfl rfl rfl rfl rfl funcOf Tryz.func3 closed
    (of_decide_eq_true (by kernel_rfl)) (by unfold Func.isWrapper; first | (rw [if_pos (by decide +kernel)]; kernel_rfl) | (rw [if_neg (by decide +kernel)]; exact ⟨rfl, rfl⟩))
    (fun os started H enc _ => lifted os started H enc)

/-- The statement. -/
theorem proved : Rows.FnExecuteNoneCardSaid :=
  Claim7.holds_tied_plain_at .later [] [.data, .data, .data, .data, .handle, .pinned] true Rows.fnExecuteNoneCard.stood.harness Rows.fnExecuteNoneCard.stood.looks
    over (fun _ h => by cases h) byText (fun _ h => by cases h) fnExecuteNone_row_tie rfl ⟨rfl, rfl⟩ mainIs rfl
    (fun f fn hf hfn => by
      obtain rfl : f = 3 := Option.some.inj (funcOf.symm.trans hf) |>.symm
      obtain rfl : fn = Tryz.f3 := (Option.some.inj (Tryz.func3.symm.trans hfn)).symm
      exact ⟨looks, fun j t ht => by
        rw [Tryz.params3] at ht
        have hm : t ∈ [22] := by simpa using Array.mem_of_getElem? ht
        have hall : ([22].all fun u => !Tryz.prog.wantsStandIn u) = true := by kernel_rfl
        exact (show Tryz.prog.wantsStandIn t = false by simpa using List.all_eq_true.1 hall t hm)⟩)
    goesBy

end Go.Proofs.YtmflecemkodklaaGreatDoor.fnExecuteNone
