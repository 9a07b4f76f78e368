/-
  The law of all partitions. For every input the Go text of laws.FnNumberAll returns true, and its argument reads afterwards as before. No condition.
-/
import Derived.Test.YtfomfjbfhcajbaaDrawPart
import Derived.Test.YtfomfjbfhcajbaaRows
import Derived.Test.YtfomfjbfhcajbaaPure
import Derived.Test.YtfomfjbfhcajbaaHelp
import Derived.Test.YtfomfjbfhcajbaaDrawNum
import Derived.Test.YtfomfjbfhcajbaaNumMath
import Derived.Test.YtfomfjbfhcajbaaTriMaps
import Derived.Test.YtfomfjbfhcajbaaTriPower
import Derived.Test.YtfomfjbfhcajbaaTriAll
import Derived.WalkKit
import Derived.ProofKit
import Derived.OpenShut
import Derived.ShutString
import Derived.ChangeOld
import Derived.Below
namespace Go.Proofs.Ytfomfjbfhcajbaa.fnNumberAll
open Go.ChangeShapes Go.WideShapes Go.ChangeAt Go.RowKit
open Go.ChangeMaps (open_string shut_string)
set_option linter.unusedVariables false
set_option linter.unusedSimpArgs false
set_option linter.unnecessarySimpa false

theorem own : ownKnob Try.prog.godebug = none := by kernel_rfl
theorem laidOut : laidOutB Try.prog = true := by kernel_rfl



set_option maxRecDepth 100000 in
set_option maxHeartbeats 4000000 in
theorem small (a0 : Option Addr) (len0 cap0 : Nat) (w : World) (hB : Bytes w a0 len0) (hc : len0 ≤ cap0) (hcm : cap0 ≤ maxLen) (hs0 : len0 ≤ 1048576) :
    Calls Try.prog 4 #[.slice a0 len0 cap0] w fun e w' => e = .returned (.bool true) ∧ Below w.heap.size w w' := by
  have bel : Below w.heap.size w w := Below.refl _ _
  go_enter Try.func4, Try.ntmps4
  go_wp2_with fail
  refine (DrawNumberAll_any a0 len0 cap0 _ hB hs0 hc hcm).mono ?_
  rintro e W1 ⟨n, rfl, hn, hb⟩
  have bel := below_step bel hb
  clear hb
  have wn : (Lit.int .i64 n).wf = true := WalkArith.wf_i64 ⟨by omega, by omega⟩
  by_cases hin : 0 ≤ n ∧ n ≤ 12
  · obtain ⟨n, rfl⟩ := Int.eq_ofNat_of_zero_le hin.1
    have hn12 : n < 13 := by omega
    have e1 : numAll (n : Int) = (psum (fun j => ext fB n j) (n + 1), true) := by unfold numAll; rw [if_pos hin, Int.toNat_natCast, all_sum n hn12]
    have HI := Lib.hid (fun (wx : World) => e1 ▸ iNumberAll_v n wx wn)
    have HS := Lib.hid (fun (wx : World) => e1 ▸ sNumberAll_v n wx wn)
    obtain ⟨x, hx⟩ : ∃ x, x = psum (fun j => ext fB n j) (n + 1) := ⟨_, rfl⟩
    rw [← hx] at HI HS
    obtain ⟨m, hm⟩ : ∃ m, m = n + 1 := ⟨_, rfl⟩
    rw [← hm] at hx
    have HX := Lib.hid hx
    have HM := Lib.hid hm
    have hm13 : m ≤ 13 := by omega
    clear e1 hin hx hm
    go_wp2_with fail
    refine (HI.out _).mono ?_
    rintro e W2 ⟨rfl, hb⟩
    have bel := below_step bel hb
    clear hb
    go_wp2_with fail
    refine (HS.out _).mono ?_
    rintro e W3 ⟨rfl, hb⟩
    have bel := below_step bel hb
    clear hb
    clear HI HS
    go_wp2
    go_loopw [8, 9] (fun s i wr => ∃ j : Nat, j ≤ m ∧ i = .int .i64 j ∧ s = .int .i64 (psum (fun j => ext fB n j) j) ∧ Below w.heap.size w wr) (fun _ i _ => m - (intOf i).toNat)
    case atStart => exact ⟨0, Nat.zero_le _, rfl, rfl, bel⟩
    case round =>
      obtain ⟨j, hj, rfl, rfl, hbr⟩ := hrel
      have HBR := Lib.hid hbr
      by_cases hlt : j < m
      · have hle : (j : Int) ≤ (n : Int) := by have := HM.out; omega
        have wj : (Lit.int .i64 (j : Int)).wf = true := WalkArith.wf_i64 ⟨by omega, by omega⟩
        have e2 := numBy_yes (G := ext fB) (n := n) (k := j) (inNum_mk (by omega) (by omega))
        have HC := Lib.hid (fun (wx : World) => e2 ▸ iNumberBlocks_v n j wx wn wj)
        have hb0 := all_bd n hn12 j (by omega)
        have hb1 := all_bd n hn12 (j + 1) (by omega)
        have hst : psum (fun j => ext fB n j) (j + 1) = psum (fun j => ext fB n j) j + ext fB n j := rfl
        rw [hst] at hb1
        obtain ⟨y, hy⟩ : ∃ y, y = ext fB n j := ⟨_, rfl⟩
        obtain ⟨s, hs⟩ : ∃ s, s = psum (fun j => ext fB n j) j := ⟨_, rfl⟩
        rw [← hy] at HC hb1 hst
        rw [← hs] at hb0 hb1 hst ⊢
        have HST := Lib.hid hst
        have b1 : wrap64 (s + y) = s + y := IntWalk.wrap64_in _ (by omega)
        clear hst hy hs e2 hbr
        go_wp2_with fail
        refine (HC.out _).mono ?_
        rintro e W4 ⟨rfl, hb⟩
        have HB4 := Lib.hid (below_step HBR.out hb)
        clear hb
        go_wp2
        go_roundw
        case rel => exact ⟨j + 1, by omega, by go_num, by rw [HST.out], HB4.out⟩
        case measure => simp [intOf]; omega
      · have hjm : j = m := by omega
        have hle : ¬ (j : Int) ≤ (n : Int) := by have := HM.out; omega
        rw [hjm, ← HX.out]
        clear hbr hjm
        go_wp2
        go_ret
        exact ⟨by first | rfl | exact ret_bool (by simp <;> omega), HBR.out⟩
  · have e1 : numAll n = (0, false) := by unfold numAll; rw [if_neg hin]
    have HI := Lib.hid (fun (wx : World) => e1 ▸ iNumberAll_v n wx wn)
    have HS := Lib.hid (fun (wx : World) => e1 ▸ sNumberAll_v n wx wn)
    clear e1 hin
    go_wp2_with fail
    refine (HI.out _).mono ?_
    rintro e W2 ⟨rfl, hb⟩
    have bel := below_step bel hb
    clear hb
    go_wp2_with fail
    refine (HS.out _).mono ?_
    rintro e W3 ⟨rfl, hb⟩
    have bel := below_step bel hb
    clear hb
    go_wp2
    go_ret
    exact ⟨by first | rfl | exact ret_bool (by simp <;> omega), bel⟩

theorem walk (a0 : Option Addr) (len0 cap0 : Nat) (z0 : List Int) (w : World) (w0 : IsRow .u8 w a0 len0 cap0 z0) :
    Calls Try.prog 4 #[.slice a0 len0 cap0] w fun e w' => e = .returned (.bool true) ∧ Below w.heap.size w w' := by
  obtain ⟨hB, hc, hcm⟩ := bytes_of_row w0
  refine (Nat.lt_or_ge 1048576 len0).elim (fun hs0 => ?_) (fun hs0 => ?_)
  · go_enter Try.func4, Try.ntmps4
    go_wp2
    go_ret
    exact ⟨rfl, Below.refl _ _⟩
  exact small a0 len0 cap0 w hB hc hcm hs0

set_option maxRecDepth 100000 in
theorem lifted (os : Os) (started : os.Started) (H : Type) (enc : TypeId × Value → H) :
    ReturnsInHanded {} Try.checked os 4 .any (Rows.fnNumberAllSpec.pre6 enc Try.prog Try.f4 Rows.fnNumberAllRow.domain false) (Rows.fnNumberAllSpec.post enc Try.prog Try.f4 false true false false) := by
  refine returnsInHanded_of_change (C := Try.checked) own started (by kernel_rfl) Try.func4
    (ChangeSpec.witness6 (enc := enc) (C := Try.checked) false ⟨#[], #[.slice none 0 0], []⟩ 8 (by kernel_rfl) (by kernel_rfl) (by kernel_rfl) (by kernel_rfl)) ?_
  intro W base args ds gs before hval0 hW hcnd _
  have hval : ∀ (j : Nat) t v, Try.f4.params[j]? = some t → args[j]? = some v → Value.okWide Try.prog W .any base t v := hval0
  have hW' := hW
  obtain ⟨p, q, hA0, hV, rfl, hfz, hnd⟩ := hW
  have hA : DataW.TrodAll enc Try.prog W 0 (fun _ => true) true Try.f4.params.toList args.toList ds p := hA0
  rw [Try.params4] at hA hval
  obtain ⟨v0, vs0, d0, ds0, p0, q0, hargs, rfl, rfl, h0, r0⟩ := trodAll_cons hA
  obtain ⟨rfl, rfl, rfl⟩ := trodAll_nil r0
  obtain rfl : args = #[v0] := by cases args; simp_all
  obtain ⟨rfl, rfl⟩ := trodVars_none hV
  obtain ⟨a0, len0, cap0, rfl⟩ := okWide_slice Try.underlying22 (hval 0 22 v0 rfl rfl)
  have k0 := h0
  have lt0 : ∀ x ∈ p0, x.block < W.heap.size := by obtain ⟨m, hm⟩ := k0; exact DataW.trod_lt m _ _ _ hm
  obtain ⟨z0, w0⟩ : ∃ zs, IsRow .u8 W a0 len0 cap0 zs := by
    obtain ⟨fuel, hf⟩ := h0
    rcases open_ints Try.underlying22 Try.underlying5 (by kernel_rfl) hf with ⟨hcs, _⟩ | ⟨x, l, c, zs, hcs, _, hl, hm, hz, _, hcell, hwz⟩
    · simp [Value.cells] at hcs
      obtain ⟨rfl, rfl, rfl⟩ := hcs
      exact ⟨[], .inl ⟨rfl, rfl, rfl, rfl⟩⟩
    · simp [Value.cells] at hcs
      obtain ⟨rfl, rfl, rfl⟩ := hcs
      exact ⟨zs, .inr ⟨_, rfl, hl, hm, by simpa using hz, hcell, hwz⟩⟩
  clear hA0 hval0
  refine (walk a0 len0 cap0 z0 W w0).mono fun e W' ⟨he, bel⟩ => ?_
  subst he
  exact ⟨_, rfl, _, _, _, [], _, [], hW', trodAll_mk1 (shut_bool Try.underlying4 _), (trodAll_cons_mk (Below.trod laidOut (by kernel_rfl) (of_decide_eq_true (by kernel_rfl)) k0 bel lt0) trodAll_mk0), rfl, bel.frame _, fun h => by cases h⟩

theorem over : Rows.fnNumberAllRow.holds Try.pinned (OpenSpec.ofChange Rows.fnNumberAllSpec) :=
  OpenClaim.holds_of_wide 4 Try.f4 rfl rfl rfl rfl rfl rfl rfl ⟨rfl, rfl, rfl, rfl, rfl⟩ rfl rfl rfl rfl rfl (by kernel_rfl) Try.func4 (by kernel_rfl)
    (of_decide_eq_true (by kernel_rfl)) (by unfold Func.isWrapper; first | (rw [if_pos (by decide +kernel)]; kernel_rfl) | (rw [if_neg (by decide +kernel)]; exact ⟨rfl, rfl⟩))
    (fun os started H enc _ => lifted os started H enc)

/-- The statement. -/
theorem proved : Rows.FnNumberAllSaid := over
end Go.Proofs.Ytfomfjbfhcajbaa.fnNumberAll
