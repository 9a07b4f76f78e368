/-
  The law of maps. For every input the Go text of laws.FnMaps returns true, and its argument reads afterwards as before. No condition.
-/
import Derived.Test.YtfomfjbfhcajbaaDrawPart
import Derived.Test.YtfomfjbfhcajbaaRows
import Derived.Test.YtfomfjbfhcajbaaPure
import Derived.Test.YtfomfjbfhcajbaaHelp
import Derived.Test.YtfomfjbfhcajbaaDrawNum
import Derived.Test.YtfomfjbfhcajbaaNumMath
import Derived.Test.YtfomfjbfhcajbaaTriMaps
import Derived.Test.YtfomfjbfhcajbaaTriPower
import Derived.Test.YtfomfjbfhcajbaaTriAll
import Derived.Test.YtfomfjbfhcajbaaMapsLaw
import Derived.WalkKit
import Derived.ProofKit
import Derived.OpenShut
import Derived.ShutString
import Derived.ChangeOld
import Derived.Below
namespace Go.Proofs.Ytfomfjbfhcajbaa.fnMaps
open Go.ChangeShapes Go.WideShapes Go.ChangeAt Go.RowKit
open Go.ChangeMaps (open_string shut_string)
set_option linter.unusedVariables false
set_option linter.unusedSimpArgs false
set_option linter.unnecessarySimpa false

theorem own : ownKnob Try.prog.godebug = none := by kernel_rfl
theorem laidOut : laidOutB Try.prog = true := by kernel_rfl



set_option maxRecDepth 100000 in
set_option maxHeartbeats 4000000 in
theorem small (a0 : Option Addr) (len0 cap0 : Nat) (w : World) (hB : Bytes w a0 len0) (hc : len0 ≤ cap0) (hcm : cap0 ≤ maxLen) (hs0 : len0 ≤ 1048576) :
    Calls Try.prog 10 #[.slice a0 len0 cap0] w fun e w' => e = .returned (.bool true) ∧ Below w.heap.size w w' := by
  have bel : Below w.heap.size w w := Below.refl _ _
  go_enter Try.func10, Try.ntmps10
  go_wp2_with fail
  refine (DrawNumberMaps_any a0 len0 cap0 _ hB hs0 hc hcm).mono ?_
  rintro e W1 ⟨n, k, rfl, hn, hk, hb⟩
  have bel := below_step bel hb
  clear hb
  have wn : (Lit.int .i64 n).wf = true := WalkArith.wf_i64 ⟨by omega, by omega⟩
  have wk : (Lit.int .i64 k).wf = true := WalkArith.wf_i64 ⟨by omega, by omega⟩
  by_cases hin : inNum n k = true
  · have hp := inNum_parts hin
    have e1 := numBy_yes (G := ext fM) hin
    obtain ⟨n, rfl⟩ := Int.eq_ofNat_of_zero_le hp.1.1
    obtain ⟨k, rfl⟩ := Int.eq_ofNat_of_zero_le hp.2.1
    have hn12 : n < 13 := by omega
    have hk12 : k < 13 := by omega
    have HI := Lib.hid (fun (wx : World) => e1 ▸ iNumberMaps_v n k wx wn wk)
    have HS := Lib.hid (fun (wx : World) => e1 ▸ sNumberMaps_v n k wx wn wk)
    have hxb := numbers_M.bd n k (by omega)
    clear e1 hin
    generalize ext fM n k = x at *
    go_wp2_with fail
    refine (HI.out _).mono ?_
    rintro e W2 ⟨rfl, hb⟩
    have bel := below_step bel hb
    clear hb
    go_wp2_with fail
    refine (HS.out _).mono ?_
    rintro e W3 ⟨rfl, hb⟩
    have bel := below_step bel hb
    clear hb
    clear HI HS
    by_cases hn9 : 9 < (n : Int)
    · go_wp2
      go_ret
      exact ⟨by first | rfl | exact ret_bool (by simp <;> omega), bel⟩
    · by_cases hk9 : 9 < (k : Int)
      · go_wp2
        go_ret
        exact ⟨by first | rfl | exact ret_bool (by simp <;> omega), bel⟩
      · have e2 := numPower_yes (n := k) (k := n) (by omega) (by omega)
        have HP := Lib.hid (fun (wx : World) => e2 ▸ iNumberPower_v k n wx wk wn)
        have hfin := maps_fact2 n (by omega) k (by omega)
        obtain ⟨v, hv⟩ : ∃ v, v = (k : Int) ^ n := ⟨_, rfl⟩
        rw [← hv] at HP hfin
        obtain ⟨m, hm⟩ : ∃ m, m = k + 1 := ⟨_, rfl⟩
        rw [← hm] at hfin
        have HM := Lib.hid hm
        have hm10 : m ≤ 10 := by omega
        have HF := Lib.hid hfin
        clear e2 hv hm hfin
        go_wp2_with fail
        refine (HP.out _).mono ?_
        rintro e W4 ⟨rfl, hb⟩
        have bel := below_step bel hb
        clear hb HP
        go_wp2
        go_loopw [11, 12, 13] (fun s y i wr => ∃ j : Nat, j ≤ m ∧ i = .int .i64 j ∧ s = .int .i64 (psum (fun j => wayC k j * tM n j) j) ∧ y = .int .i64 (wayC k j) ∧ Below w.heap.size w wr) (fun _ _ i _ => m - (intOf i).toNat)
        case atStart => exact ⟨0, Nat.zero_le _, rfl, rfl, rfl, bel⟩
        case round =>
          obtain ⟨j, hj, rfl, rfl, rfl, hbr⟩ := hrel
          have HBR := Lib.hid hbr
          by_cases hlt : j < m
          · have hle : (j : Int) ≤ (k : Int) := by have := HM.out; omega
            have wj : (Lit.int .i64 (j : Int)).wf = true := WalkArith.wf_i64 ⟨by omega, by omega⟩
            have e2 := numBy_yes (G := ext fM) (n := n) (k := j) (inNum_mk (by omega) (by omega))
            rw [tM_is n hn12 j (by omega)] at e2
            have HC := Lib.hid (fun (wx : World) => e2 ▸ iNumberMaps_v n j wx wn wj)
            have hb0 := maps_bd n (by omega) k (by omega) j (by omega)
            have hb1 := maps_bd n (by omega) k (by omega) (j + 1) (by omega)
            have hst : psum (fun j => wayC k j * tM n j) (j + 1) = psum (fun j => wayC k j * tM n j) j + wayC k j * tM n j := rfl
            have hws : wayC k (j + 1) = wayC k j * ((k : Int) - (j : Int)) / ((j : Int) + 1) := rfl
            have hw0 := way_bd k (by omega) j (by omega)
            have hw1 := way_bd k (by omega) (j + 1) (by omega)
            have hmb := map_bd n (by omega) j (by omega)
            rw [hst] at hb1
            rw [hws] at hw1
            obtain ⟨y, hy⟩ : ∃ y, y = tM n j := ⟨_, rfl⟩
            obtain ⟨z, hz⟩ : ∃ z, z = wayC k j := ⟨_, rfl⟩
            obtain ⟨s, hs⟩ : ∃ s, s = psum (fun j => wayC k j * tM n j) j := ⟨_, rfl⟩
            rw [← hs] at hb0 hb1 hst ⊢
            rw [← hy] at HC hb1 hst hmb
            rw [← hz] at hb1 hst hws hw0 hw1 ⊢
            have hp1 := mul_bd hw0.1 hw0.2 hmb.1 hmb.2
            have hp2 := mul_bd hw0.1 hw0.2 (show 0 ≤ (k : Int) - (j : Int) by omega) (show (k : Int) - (j : Int) ≤ 9 by omega)
            have HST := Lib.hid hst
            have HWS := Lib.hid hws
            have b1 : wrap64 (z * y) = z * y := IntWalk.wrap64_in _ (by omega)
            have b2 : wrap64 (s + z * y) = s + z * y := IntWalk.wrap64_in _ (by omega)
            have b3 : wrap64 ((k : Int) - (j : Int)) = (k : Int) - (j : Int) := IntWalk.wrap64_in _ (by omega)
            have b4 : wrap64 (z * ((k : Int) - (j : Int))) = z * ((k : Int) - (j : Int)) := IntWalk.wrap64_in _ (by omega)
            have b5 : Int.tdiv (z * ((k : Int) - (j : Int))) ((j : Int) + 1) = z * ((k : Int) - (j : Int)) / ((j : Int) + 1) := Int.tdiv_eq_ediv_of_nonneg hp2.1
            have b6 : wrap64 (z * ((k : Int) - (j : Int)) / ((j : Int) + 1)) = z * ((k : Int) - (j : Int)) / ((j : Int) + 1) := IntWalk.wrap64_in _ (by omega)
            have b8 := j1_ne j
            clear hst hws hy hz hs e2 hbr
            go_wp2_with fail
            refine (HC.out _).mono ?_
            rintro e W5 ⟨rfl, hb⟩
            have HB4 := Lib.hid (below_step HBR.out hb)
            clear hb
            go_wp2
            go_roundw
            case rel => exact ⟨j + 1, by omega, by go_num, by rw [HST.out], by rw [HWS.out], HB4.out⟩
            case measure => simp [intOf]; omega
          · have hjm : j = m := by omega
            have hle : ¬ (j : Int) ≤ (k : Int) := by have := HM.out; omega
            rw [hjm, HF.out]
            generalize wayC k m = z
            clear hbr hjm HF
            go_wp2
            go_ret
            exact ⟨by first | rfl | exact ret_bool (by simp <;> omega), HBR.out⟩
  · have hin : inNum n k = false := by simpa using hin
    have e1 := numBy_no (G := ext fM) hin
    have HI := Lib.hid (fun (wx : World) => e1 ▸ iNumberMaps_v n k wx wn wk)
    have HS := Lib.hid (fun (wx : World) => e1 ▸ sNumberMaps_v n k wx wn wk)
    clear e1 hin
    go_wp2_with fail
    refine (HI.out _).mono ?_
    rintro e W2 ⟨rfl, hb⟩
    have bel := below_step bel hb
    clear hb
    go_wp2_with fail
    refine (HS.out _).mono ?_
    rintro e W3 ⟨rfl, hb⟩
    have bel := below_step bel hb
    clear hb
    go_wp2
    go_ret
    exact ⟨by first | rfl | exact ret_bool (by simp <;> omega), bel⟩

theorem walk (a0 : Option Addr) (len0 cap0 : Nat) (z0 : List Int) (w : World) (w0 : IsRow .u8 w a0 len0 cap0 z0) :
    Calls Try.prog 10 #[.slice a0 len0 cap0] w fun e w' => e = .returned (.bool true) ∧ Below w.heap.size w w' := by
  obtain ⟨hB, hc, hcm⟩ := bytes_of_row w0
  refine (Nat.lt_or_ge 1048576 len0).elim (fun hs0 => ?_) (fun hs0 => ?_)
  · go_enter Try.func10, Try.ntmps10
    go_wp2
    go_ret
    exact ⟨rfl, Below.refl _ _⟩
  exact small a0 len0 cap0 w hB hc hcm hs0

set_option maxRecDepth 100000 in
theorem lifted (os : Os) (started : os.Started) (H : Type) (enc : TypeId × Value → H) :
    ReturnsInHanded {} Try.checked os 10 .any (Rows.fnMapsSpec.pre6 enc Try.prog Try.f10 Rows.fnMapsRow.domain false) (Rows.fnMapsSpec.post enc Try.prog Try.f10 false true false false) := by
  refine returnsInHanded_of_change (C := Try.checked) own started (by kernel_rfl) Try.func10
    (ChangeSpec.witness6 (enc := enc) (C := Try.checked) false ⟨#[], #[.slice none 0 0], []⟩ 8 (by kernel_rfl) (by kernel_rfl) (by kernel_rfl) (by kernel_rfl)) ?_
  intro W base args ds gs before hval0 hW hcnd _
  have hval : ∀ (j : Nat) t v, Try.f10.params[j]? = some t → args[j]? = some v → Value.okWide Try.prog W .any base t v := hval0
  have hW' := hW
  obtain ⟨p, q, hA0, hV, rfl, hfz, hnd⟩ := hW
  have hA : DataW.TrodAll enc Try.prog W 0 (fun _ => true) true Try.f10.params.toList args.toList ds p := hA0
  rw [Try.params10] at hA hval
  obtain ⟨v0, vs0, d0, ds0, p0, q0, hargs, rfl, rfl, h0, r0⟩ := trodAll_cons hA
  obtain ⟨rfl, rfl, rfl⟩ := trodAll_nil r0
  obtain rfl : args = #[v0] := by cases args; simp_all
  obtain ⟨rfl, rfl⟩ := trodVars_none hV
  obtain ⟨a0, len0, cap0, rfl⟩ := okWide_slice Try.underlying22 (hval 0 22 v0 rfl rfl)
  have k0 := h0
  have lt0 : ∀ x ∈ p0, x.block < W.heap.size := by obtain ⟨m, hm⟩ := k0; exact DataW.trod_lt m _ _ _ hm
  obtain ⟨z0, w0⟩ : ∃ zs, IsRow .u8 W a0 len0 cap0 zs := by
    obtain ⟨fuel, hf⟩ := h0
    rcases open_ints Try.underlying22 Try.underlying5 (by kernel_rfl) hf with ⟨hcs, _⟩ | ⟨x, l, c, zs, hcs, _, hl, hm, hz, _, hcell, hwz⟩
    · simp [Value.cells] at hcs
      obtain ⟨rfl, rfl, rfl⟩ := hcs
      exact ⟨[], .inl ⟨rfl, rfl, rfl, rfl⟩⟩
    · simp [Value.cells] at hcs
      obtain ⟨rfl, rfl, rfl⟩ := hcs
      exact ⟨zs, .inr ⟨_, rfl, hl, hm, by simpa using hz, hcell, hwz⟩⟩
  clear hA0 hval0
  refine (walk a0 len0 cap0 z0 W w0).mono fun e W' ⟨he, bel⟩ => ?_
  subst he
  exact ⟨_, rfl, _, _, _, [], _, [], hW', trodAll_mk1 (shut_bool Try.underlying4 _), (trodAll_cons_mk (Below.trod laidOut (by kernel_rfl) (of_decide_eq_true (by kernel_rfl)) k0 bel lt0) trodAll_mk0), rfl, bel.frame _, fun h => by cases h⟩

theorem over : Rows.fnMapsRow.holds Try.pinned (OpenSpec.ofChange Rows.fnMapsSpec) :=
  OpenClaim.holds_of_wide 10 Try.f10 rfl rfl rfl rfl rfl rfl rfl ⟨rfl, rfl, rfl, rfl, rfl⟩ rfl rfl rfl rfl rfl (by kernel_rfl) Try.func10 (by kernel_rfl)
    (of_decide_eq_true (by kernel_rfl)) (by unfold Func.isWrapper; first | (rw [if_pos (by decide +kernel)]; kernel_rfl) | (rw [if_neg (by decide +kernel)]; exact ⟨rfl, rfl⟩))
    (fun os started H enc _ => lifted os started H enc)

/-- The statement. -/
theorem proved : Rows.FnMapsSaid := over
end Go.Proofs.Ytfomfjbfhcajbaa.fnMaps
