/-
  The law of rows. For every input the Go text of laws.FnRows returns true, and its argument reads afterwards as before. No condition.
-/
import Derived.Test.YtfomfjbfhcajbaaDrawPart
import Derived.Test.YtfomfjbfhcajbaaRows
import Derived.Test.YtfomfjbfhcajbaaPure
import Derived.Test.YtfomfjbfhcajbaaHelp
import Derived.Test.YtfomfjbfhcajbaaDrawNum
import Derived.Test.YtfomfjbfhcajbaaNumMath
import Derived.Test.YtfomfjbfhcajbaaTriMaps
import Derived.Test.YtfomfjbfhcajbaaTriPower
import Derived.Test.YtfomfjbfhcajbaaTriAll
import Derived.WalkKit
import Derived.ProofKit
import Derived.OpenShut
import Derived.ShutString
import Derived.ChangeOld
import Derived.Below
namespace Go.Proofs.Ytfomfjbfhcajbaa.fnRows
open Go.ChangeShapes Go.WideShapes Go.ChangeAt Go.RowKit
open Go.ChangeMaps (open_string shut_string)
set_option linter.unusedVariables false
set_option linter.unusedSimpArgs false
set_option linter.unnecessarySimpa false

theorem own : ownKnob Try.prog.godebug = none := by kernel_rfl
theorem laidOut : laidOutB Try.prog = true := by kernel_rfl



set_option maxRecDepth 100000 in
set_option maxHeartbeats 4000000 in
theorem small (a0 : Option Addr) (len0 cap0 : Nat) (w : World) (hB : Bytes w a0 len0) (hc : len0 ≤ cap0) (hcm : cap0 ≤ maxLen) (hs0 : len0 ≤ 1048576) :
    Calls Try.prog 8 #[.slice a0 len0 cap0] w fun e w' => e = .returned (.bool true) ∧ Below w.heap.size w w' := by
  have bel : Below w.heap.size w w := Below.refl _ _
  go_enter Try.func8, Try.ntmps8
  go_wp2_with fail
  refine (DrawNumberRows_any a0 len0 cap0 _ hB hs0 hc hcm).mono ?_
  rintro e W1 ⟨n, k, rfl, hn, hk, hb⟩
  have bel := below_step bel hb
  clear hb
  have wn : (Lit.int .i64 n).wf = true := WalkArith.wf_i64 ⟨by omega, by omega⟩
  have wk : (Lit.int .i64 k).wf = true := WalkArith.wf_i64 ⟨by omega, by omega⟩
  by_cases hin : inNum n k = true
  · have hp := inNum_parts hin
    have e1 := numBy_yes (G := ext fL) hin
    obtain ⟨n, rfl⟩ := Int.eq_ofNat_of_zero_le hp.1.1
    obtain ⟨k, rfl⟩ := Int.eq_ofNat_of_zero_le hp.2.1
    have hn12 : n < 13 := by omega
    have hk12 : k < 13 := by omega
    have HI := Lib.hid (fun (wx : World) => e1 ▸ iNumberRows_v n k wx wn wk)
    have HS := Lib.hid (fun (wx : World) => e1 ▸ sNumberRows_v n k wx wn wk)
    clear e1 hin
    obtain ⟨x, hx⟩ : ∃ x, x = ext fL n k := ⟨_, rfl⟩
    rw [← hx] at HI HS
    have HX := Lib.hid hx
    clear hx
    go_wp2_with fail
    refine (HI.out _).mono ?_
    rintro e W2 ⟨rfl, hb⟩
    have bel := below_step bel hb
    clear hb
    go_wp2_with fail
    refine (HS.out _).mono ?_
    rintro e W3 ⟨rfl, hb⟩
    have bel := below_step bel hb
    clear hb
    clear HI HS
    obtain ⟨m, hm⟩ : ∃ m, m = n + 1 - k := ⟨_, rfl⟩
    have HM := Lib.hid hm
    have hm13 : m ≤ 13 := by omega
    clear hm
    go_wp2
    go_loopw [9, 10] (fun s i wr => ∃ (c j : Nat), c ≤ m ∧ j = k + c ∧ i = .int .i64 j ∧ s = .int .i64 (psum (fun c => tR n (k + c) * tB (k + c) k) c) ∧ Below w.heap.size w wr) (fun _ i _ => n + 1 - (intOf i).toNat)
    case atStart => exact ⟨0, k, Nat.zero_le _, rfl, rfl, rfl, bel⟩
    case round =>
      obtain ⟨c, j, hc', hj, rfl, rfl, hbr⟩ := hrel
      by_cases hlt : c < m
      · have hle : (j : Int) ≤ (n : Int) := by have := HM.out; omega
        have wj : (Lit.int .i64 (j : Int)).wf = true := WalkArith.wf_i64 ⟨by omega, by omega⟩
        have e2 := numBy_yes (G := ext fR) (n := n) (k := j) (inNum_mk (by omega) (by omega))
        have e3 := numBy_yes (G := ext fB) (n := j) (k := k) (inNum_mk (by omega) (by omega))
        rw [tR_is n hn12 j (by omega)] at e2
        rw [tB_is j (by omega) k hk12] at e3
        have HC := Lib.hid (fun (wx : World) => e2 ▸ iNumberRings_v n j wx wn wj)
        have HD := Lib.hid (fun (wx : World) => e3 ▸ iNumberBlocks_v j k wx wj wk)
        have hb0 := tL_bd n hn12 k hk12 c (by omega)
        have hb1 := tL_bd n hn12 k hk12 (c + 1) (by omega)
        have hrb := tRB_bd n hn12 k hk12 j (by omega)
        have hst : psum (fun c => tR n (k + c) * tB (k + c) k) (c + 1) = psum (fun c => tR n (k + c) * tB (k + c) k) c + (fun c => tR n (k + c) * tB (k + c) k) c := rfl
        rw [hst] at hb1
        simp only [] at hst hb1
        rw [← hj] at hb1 hst
        obtain ⟨y, hy⟩ : ∃ y, y = tR n j := ⟨_, rfl⟩
        obtain ⟨z, hz⟩ : ∃ z, z = tB j k := ⟨_, rfl⟩
        obtain ⟨s, hs⟩ : ∃ s, s = psum (fun c => tR n (k + c) * tB (k + c) k) c := ⟨_, rfl⟩
        rw [← hy] at HC hb1 hst hrb
        rw [← hz] at HD hb1 hst hrb
        rw [← hs] at hb0 hb1 hst ⊢
        have HST := Lib.hid hst
        have HBR := Lib.hid hbr
        have HJ := Lib.hid hj
        have b1 : wrap64 (y * z) = y * z := IntWalk.wrap64_in _ (by omega)
        clear hst hy hs hz e2 e3 hbr hj
        have b2 : wrap64 (s + y * z) = s + y * z := IntWalk.wrap64_in _ (by omega)
        go_wp2_with fail
        refine (HC.out _).mono ?_
        rintro e W4 ⟨rfl, hb⟩
        have HB4 := Lib.hid (below_step HBR.out hb)
        clear hb
        go_wp2_with fail
        refine (HD.out _).mono ?_
        rintro e W5 ⟨rfl, hb⟩
        have HB5 := Lib.hid (below_step HB4.out hb)
        clear hb
        go_wp2
        go_roundw
        case rel => exact ⟨c + 1, j + 1, by omega, by have := HJ.out; omega, by go_num, by rw [HST.out], HB5.out⟩
        case measure => have := HJ.out; simp [intOf]; omega
      · have hcm' : c = m := by omega
        have HBR := Lib.hid hbr
        have HJ := Lib.hid hj
        have hle : ¬ (j : Int) ≤ (n : Int) := by have := HM.out; omega
        have hsum : psum (fun c => tR n (k + c) * tB (k + c) k) m = x := by
          rw [HX.out, HM.out]
          by_cases hkn : k ≤ n
          · exact tL_fact n hn12 k hk12 hkn
          · rw [show n + 1 - k = 0 from by omega, (blocks_facts n hn12 k hk12).2.2.1 (by omega)]
            rfl
        rw [hcm', hsum]
        clear hsum hbr hj hcm' HX HM HJ
        go_wp2
        go_ret
        exact ⟨ret_bool (by simp), HBR.out⟩
  · have hin : inNum n k = false := by simpa using hin
    have e1 := numBy_no (G := ext fL) hin
    have HI := Lib.hid (fun (wx : World) => e1 ▸ iNumberRows_v n k wx wn wk)
    have HS := Lib.hid (fun (wx : World) => e1 ▸ sNumberRows_v n k wx wn wk)
    clear e1 hin
    go_wp2_with fail
    refine (HI.out _).mono ?_
    rintro e W2 ⟨rfl, hb⟩
    have bel := below_step bel hb
    clear hb
    go_wp2_with fail
    refine (HS.out _).mono ?_
    rintro e W3 ⟨rfl, hb⟩
    have bel := below_step bel hb
    clear hb
    go_wp2
    go_ret
    exact ⟨by first | rfl | exact ret_bool (by simp <;> omega), bel⟩

theorem walk (a0 : Option Addr) (len0 cap0 : Nat) (z0 : List Int) (w : World) (w0 : IsRow .u8 w a0 len0 cap0 z0) :
    Calls Try.prog 8 #[.slice a0 len0 cap0] w fun e w' => e = .returned (.bool true) ∧ Below w.heap.size w w' := by
  obtain ⟨hB, hc, hcm⟩ := bytes_of_row w0
  refine (Nat.lt_or_ge 1048576 len0).elim (fun hs0 => ?_) (fun hs0 => ?_)
  · go_enter Try.func8, Try.ntmps8
    go_wp2
    go_ret
    exact ⟨rfl, Below.refl _ _⟩
  exact small a0 len0 cap0 w hB hc hcm hs0

set_option maxRecDepth 100000 in
theorem lifted (os : Os) (started : os.Started) (H : Type) (enc : TypeId × Value → H) :
    ReturnsInHanded {} Try.checked os 8 .any (Rows.fnRowsSpec.pre6 enc Try.prog Try.f8 Rows.fnRowsRow.domain false) (Rows.fnRowsSpec.post enc Try.prog Try.f8 false true false false) := by
  refine returnsInHanded_of_change (C := Try.checked) own started (by kernel_rfl) Try.func8
    (ChangeSpec.witness6 (enc := enc) (C := Try.checked) false ⟨#[], #[.slice none 0 0], []⟩ 8 (by kernel_rfl) (by kernel_rfl) (by kernel_rfl) (by kernel_rfl)) ?_
  intro W base args ds gs before hval0 hW hcnd _
  have hval : ∀ (j : Nat) t v, Try.f8.params[j]? = some t → args[j]? = some v → Value.okWide Try.prog W .any base t v := hval0
  have hW' := hW
  obtain ⟨p, q, hA0, hV, rfl, hfz, hnd⟩ := hW
  have hA : DataW.TrodAll enc Try.prog W 0 (fun _ => true) true Try.f8.params.toList args.toList ds p := hA0
  rw [Try.params8] at hA hval
  obtain ⟨v0, vs0, d0, ds0, p0, q0, hargs, rfl, rfl, h0, r0⟩ := trodAll_cons hA
  obtain ⟨rfl, rfl, rfl⟩ := trodAll_nil r0
  obtain rfl : args = #[v0] := by cases args; simp_all
  obtain ⟨rfl, rfl⟩ := trodVars_none hV
  obtain ⟨a0, len0, cap0, rfl⟩ := okWide_slice Try.underlying22 (hval 0 22 v0 rfl rfl)
  have k0 := h0
  have lt0 : ∀ x ∈ p0, x.block < W.heap.size := by obtain ⟨m, hm⟩ := k0; exact DataW.trod_lt m _ _ _ hm
  obtain ⟨z0, w0⟩ : ∃ zs, IsRow .u8 W a0 len0 cap0 zs := by
    obtain ⟨fuel, hf⟩ := h0
    rcases open_ints Try.underlying22 Try.underlying5 (by kernel_rfl) hf with ⟨hcs, _⟩ | ⟨x, l, c, zs, hcs, _, hl, hm, hz, _, hcell, hwz⟩
    · simp [Value.cells] at hcs
      obtain ⟨rfl, rfl, rfl⟩ := hcs
      exact ⟨[], .inl ⟨rfl, rfl, rfl, rfl⟩⟩
    · simp [Value.cells] at hcs
      obtain ⟨rfl, rfl, rfl⟩ := hcs
      exact ⟨zs, .inr ⟨_, rfl, hl, hm, by simpa using hz, hcell, hwz⟩⟩
  clear hA0 hval0
  refine (walk a0 len0 cap0 z0 W w0).mono fun e W' ⟨he, bel⟩ => ?_
  subst he
  exact ⟨_, rfl, _, _, _, [], _, [], hW', trodAll_mk1 (shut_bool Try.underlying4 _), (trodAll_cons_mk (Below.trod laidOut (by kernel_rfl) (of_decide_eq_true (by kernel_rfl)) k0 bel lt0) trodAll_mk0), rfl, bel.frame _, fun h => by cases h⟩

theorem over : Rows.fnRowsRow.holds Try.pinned (OpenSpec.ofChange Rows.fnRowsSpec) :=
  OpenClaim.holds_of_wide 8 Try.f8 rfl rfl rfl rfl rfl rfl rfl ⟨rfl, rfl, rfl, rfl, rfl⟩ rfl rfl rfl rfl rfl (by kernel_rfl) Try.func8 (by kernel_rfl)
    (of_decide_eq_true (by kernel_rfl)) (by unfold Func.isWrapper; first | (rw [if_pos (by decide +kernel)]; kernel_rfl) | (rw [if_neg (by decide +kernel)]; exact ⟨rfl, rfl⟩))
    (fun os started H enc _ => lifted os started H enc)

/-- The statement. -/
theorem proved : Rows.FnRowsSaid := over
end Go.Proofs.Ytfomfjbfhcajbaa.fnRows
