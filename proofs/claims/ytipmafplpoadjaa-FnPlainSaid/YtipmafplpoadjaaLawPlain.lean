/-
  The law of partitions without crossing. For every input the Go text of laws.FnPlain returns true, and its argument reads afterwards as before. No condition.
-/
import Derived.Test.YtipmafplpoadjaaDrawPart
import Derived.Test.YtipmafplpoadjaaSame
import Derived.Test.YtipmafplpoadjaaRows
import Derived.Test.YtipmafplpoadjaaPure
import Derived.Test.YtipmafplpoadjaaHelp
import Derived.Test.YtipmafplpoadjaaRds
import Derived.Test.YtipmafplpoadjaaArcCat
import Derived.Test.YtipmafplpoadjaaArcAll
import Derived.WalkKit
import Derived.ProofKit
import Derived.OpenShut
import Derived.ShutString
import Derived.ChangeOld
import Derived.Below
namespace Go.Proofs.Ytipmafplpoadjaa.fnPlain
open Go.ChangeShapes Go.WideShapes Go.ChangeAt Go.RowKit
open Go.ChangeMaps (open_string shut_string)
set_option linter.unusedVariables false
set_option linter.unusedSimpArgs false
set_option linter.unnecessarySimpa false

theorem own : ownKnob Try.prog.godebug = none := by kernel_rfl
theorem laidOut : laidOutB Try.prog = true := by kernel_rfl


theorem way_num (s c j : Nat) (h : s * (c + (j + 1)) ≤ 100000 * 20) : wrap64 ((wrap64 ((s : Int) * ((c : Int) + ((j : Int) + 1)))).tdiv ((j : Int) + 1)) = ((s * (c + (j + 1)) / (j + 1) : Nat) : Int) := by
  have e : (s : Int) * ((c : Int) + ((j : Int) + 1)) = ((s * (c + (j + 1)) : Nat) : Int) := by push_cast; rfl
  rw [e]
  generalize s * (c + (j + 1)) = x at *
  have h9 : (x : Int) ≤ 2000000 := by omega
  have h0 : (0 : Int) ≤ (x : Int) := by omega
  have e2 : wrap64 ((x : Nat) : Int) = (x : Nat) := IntWalk.wrap64_in _ (by omega)
  have e3 : ((x : Nat) : Int).tdiv ((j : Int) + 1) = ((x / (j + 1) : Nat) : Int) := by
    rw [show ((j : Int) + 1) = ((j + 1 : Nat) : Int) by push_cast; rfl, Int.tdiv_eq_ediv_of_nonneg h0]
    rfl
  have h4 := Nat.div_le_self x (j + 1)
  generalize x / (j + 1) = y at *
  rw [e2, e3]
  exact IntWalk.wrap64_in _ (by omega)

theorem way_eq (q s j : Nat) (h : (j + 1) * q ≤ 100000) (he : (j + 1) * q = s) : (wrap64 (((j : Int) + 1) * (q : Int)) == (s : Int)) = true := by
  have e : ((j : Int) + 1) * (q : Int) = (((j + 1) * q : Nat) : Int) := by push_cast; rfl
  rw [e]
  generalize (j + 1) * q = x at *
  rw [IntWalk.wrap64_in _ (by omega), he]
  simp

theorem draw_any (a : Option Addr) (len cap : Nat) (w : World) (hby : Bytes w a len) (hlen : len ≤ 1048576) (hc : len ≤ cap) (hcm : cap ≤ maxLen) :
    Calls Try.prog 31 #[.slice a len cap] w fun e w' => ∃ n : Int, e = .returned (.int .i64 n) ∧ (0 ≤ n ∧ n ≤ 20) ∧ Below w.heap.size w w' := by
  go_enter Try.func31, Try.ntmps31
  go_wp2_with fail
  refine (open_r a len cap w hby hlen hc hcm).mono ?_
  rintro e w1 ⟨g, m, cp, rfl, r1⟩
  go_wp2_with fail
  refine (pick_r r1 _ (by omega) (by omega) (by omega)).mono ?_
  rintro e w2 ⟨t0, rfl, ht0, r2, hg0⟩
  clear hg0
  go_wp2_with fail
  refine (pick_r r2 _ (by omega) (by omega) (by omega)).mono ?_
  rintro e w3 ⟨t1, rfl, ht1, r3, hg1⟩
  clear hg1
  have hq1 : 0 ≤ (t1 : Int) / 23 ∧ (t1 : Int) / 23 ≤ 1 := by omega
  have hb := r3.below
  go_wp2
  go_ret
  exact ⟨_, rfl, by omega, hb⟩

set_option maxRecDepth 100000 in
set_option maxHeartbeats 4000000 in
theorem small (a0 : Option Addr) (len0 cap0 : Nat) (w : World) (hB : Bytes w a0 len0) (hc : len0 ≤ cap0) (hcm : cap0 ≤ maxLen) (hs0 : len0 ≤ 1048576) :
    Calls Try.prog 8 #[.slice a0 len0 cap0] w fun e w' => e = .returned (.bool true) ∧ Below w.heap.size w w' := by
  have bel : Below w.heap.size w w := Below.refl _ _
  go_enter Try.func8, Try.ntmps8
  go_wp2_with fail
  refine (draw_any a0 len0 cap0 _ hB hs0 hc hcm).mono ?_
  rintro e W1 ⟨n, rfl, hn, hb⟩
  have bel := below_step bel hb
  clear hb
  have wn : (Lit.int .i64 n).wf = true := WalkArith.wf_i64 ⟨by omega, by omega⟩
  by_cases hin : 1 ≤ n ∧ n ≤ 7
  · obtain ⟨c, rfl⟩ : ∃ c : Nat, n = c := ⟨n.toNat, by omega⟩
    obtain ⟨h1, h7⟩ := hin
    have e1 := arcPlain_cat (n := c) (by omega) (by omega)
    have hwe := way_end c (by omega) (by omega)
    have HWB := Lib.hid fun j (hj : j < 8) => way_bd c (by omega) j hj
    have HWS := Lib.hid fun j => (show wayN c (j + 1) = wayN c j * (c + (j + 1)) / (j + 1) from rfl)
    have hw0 : wayN c 0 = 1 := rfl
    have HI := Lib.hid (fun (wx : World) => e1 ▸ iArcPlain_v (c : Int) wx wn)
    have HS := Lib.hid (fun (wx : World) => e1 ▸ sArcPlain_v (c : Int) wx wn)
    generalize tCat c = q at *
    generalize wayN c = wf at *
    have HWE := Lib.hid hwe
    have HW0 := Lib.hid hw0
    have hq : q ≤ 100000 := by
      have h1 := HWB.out c (by omega)
      rw [← hwe] at h1
      have h2 : 1 * q ≤ (c + 1) * q := Nat.mul_le_mul (by omega) (Nat.le_refl _)
      omega
    have hcq : (c + 1) * q ≤ 100000 := by rw [hwe]; exact HWB.out c (by omega)
    clear e1 wn hwe hw0 hn
    go_wp2_with fail
    refine (HI.out _).mono ?_
    rintro e W2 ⟨rfl, hb⟩
    have bel := below_step bel hb
    clear hb
    go_wp2_with fail
    refine (HS.out _).mono ?_
    rintro e W3 ⟨rfl, hb⟩
    have bel := below_step bel hb
    clear hb HI HS
    go_wp2
    go_loopw [8, 9] (fun u i wr => ∃ j s : Nat, j ≤ c ∧ i = .int .i64 ((j : Int) + 1) ∧ u = .int .i64 s ∧ s ≤ 100000 ∧ Hid (s = wf j) ∧ wr = W3)
      (fun _ i _ => c + 1 - (intOf i).toNat)
    case atStart => exact ⟨0, 1, Nat.zero_le _, rfl, rfl, by omega, Lib.hid HW0.out.symm, rfl⟩
    case round =>
      obtain ⟨j, s, hj, rfl, rfl, hs5, HSJ, rfl⟩ := hrel
      by_cases hlt : j < c
      · have hst := HWS.out j
        rw [← HSJ.out] at hst
        have hnb := HWB.out (j + 1) (by omega)
        rw [hst] at hnb
        have hpr : s * (c + (j + 1)) ≤ 100000 * 20 := Nat.mul_le_mul hs5 (by omega)
        have HST := Lib.hid hst
        have HNB := Lib.hid hnb
        clear hst hnb
        have HWN := Lib.hid (way_num s c j hpr)
        clear hpr
        go_wp2
        go_roundw
        case rel => exact ⟨j + 1, s * (c + (j + 1)) / (j + 1), by omega, by go_num, by rw [HWN.out], HNB.out, Lib.hid HST.out.symm, by trivial⟩
        case measure => simp [intOf]; omega
      · have hjc : j = c := by omega
        subst hjc
        have HEQ := Lib.hid (way_eq q s j hcq (by rw [HSJ.out]; exact HWE.out))
        go_wp2
        go_ret
        exact ⟨ret_bool HEQ.out, bel⟩
  · have e1 : arcPlain n = (0, false) := by unfold arcPlain; rw [if_neg hin]
    have HI := Lib.hid (fun (wx : World) => e1 ▸ iArcPlain_v n wx wn)
    have HS := Lib.hid (fun (wx : World) => e1 ▸ sArcPlain_v n wx wn)
    clear e1 wn hin
    go_wp2_with fail
    refine (HI.out _).mono ?_
    rintro e W2 ⟨rfl, hb⟩
    have bel := below_step bel hb
    clear hb
    go_wp2_with fail
    refine (HS.out _).mono ?_
    rintro e W3 ⟨rfl, hb⟩
    have bel := below_step bel hb
    clear hb
    go_wp2
    go_ret
    exact ⟨rfl, bel⟩

theorem walk (a0 : Option Addr) (len0 cap0 : Nat) (z0 : List Int) (w : World) (w0 : IsRow .u8 w a0 len0 cap0 z0) :
    Calls Try.prog 8 #[.slice a0 len0 cap0] w fun e w' => e = .returned (.bool true) ∧ Below w.heap.size w w' := by
  obtain ⟨hB, hc, hcm⟩ := bytes_of_row w0
  refine (Nat.lt_or_ge 1048576 len0).elim (fun hs0 => ?_) (fun hs0 => ?_)
  · go_enter Try.func8, Try.ntmps8
    go_wp2
    go_ret
    exact ⟨rfl, Below.refl _ _⟩
  exact small a0 len0 cap0 w hB hc hcm hs0

set_option maxRecDepth 100000 in
theorem lifted (os : Os) (started : os.Started) (H : Type) (enc : TypeId × Value → H) :
    ReturnsInHanded {} Try.checked os 8 .any (Rows.fnPlainSpec.pre6 enc Try.prog Try.f8 Rows.fnPlainRow.domain false) (Rows.fnPlainSpec.post enc Try.prog Try.f8 false true false false) := by
  refine returnsInHanded_of_change (C := Try.checked) own started (by kernel_rfl) Try.func8
    (ChangeSpec.witness6 (enc := enc) (C := Try.checked) false ⟨#[], #[.slice none 0 0], []⟩ 8 (by kernel_rfl) (by kernel_rfl) (by kernel_rfl) (by kernel_rfl)) ?_
  intro W base args ds gs before hval0 hW hcnd _
  have hval : ∀ (j : Nat) t v, Try.f8.params[j]? = some t → args[j]? = some v → Value.okWide Try.prog W .any base t v := hval0
  have hW' := hW
  obtain ⟨p, q, hA0, hV, rfl, hfz, hnd⟩ := hW
  have hA : DataW.TrodAll enc Try.prog W 0 (fun _ => true) true Try.f8.params.toList args.toList ds p := hA0
  rw [Try.params8] at hA hval
  obtain ⟨v0, vs0, d0, ds0, p0, q0, hargs, rfl, rfl, h0, r0⟩ := trodAll_cons hA
  obtain ⟨rfl, rfl, rfl⟩ := trodAll_nil r0
  obtain rfl : args = #[v0] := by cases args; simp_all
  obtain ⟨rfl, rfl⟩ := trodVars_none hV
  obtain ⟨a0, len0, cap0, rfl⟩ := okWide_slice Try.underlying22 (hval 0 22 v0 rfl rfl)
  have k0 := h0
  have lt0 : ∀ x ∈ p0, x.block < W.heap.size := by obtain ⟨m, hm⟩ := k0; exact DataW.trod_lt m _ _ _ hm
  obtain ⟨z0, w0⟩ : ∃ zs, IsRow .u8 W a0 len0 cap0 zs := by
    obtain ⟨fuel, hf⟩ := h0
    rcases open_ints Try.underlying22 Try.underlying5 (by kernel_rfl) hf with ⟨hcs, _⟩ | ⟨x, l, c, zs, hcs, _, hl, hm, hz, _, hcell, hwz⟩
    · simp [Value.cells] at hcs
      obtain ⟨rfl, rfl, rfl⟩ := hcs
      exact ⟨[], .inl ⟨rfl, rfl, rfl, rfl⟩⟩
    · simp [Value.cells] at hcs
      obtain ⟨rfl, rfl, rfl⟩ := hcs
      exact ⟨zs, .inr ⟨_, rfl, hl, hm, by simpa using hz, hcell, hwz⟩⟩
  clear hA0 hval0
  refine (walk a0 len0 cap0 z0 W w0).mono fun e W' ⟨he, bel⟩ => ?_
  subst he
  exact ⟨_, rfl, _, _, _, [], _, [], hW', trodAll_mk1 (shut_bool Try.underlying4 _), (trodAll_cons_mk (Below.trod laidOut (by kernel_rfl) (of_decide_eq_true (by kernel_rfl)) k0 bel lt0) trodAll_mk0), rfl, bel.frame _, fun h => by cases h⟩

theorem over : Rows.fnPlainRow.holds Try.pinned (OpenSpec.ofChange Rows.fnPlainSpec) :=
  OpenClaim.holds_of_wide 8 Try.f8 rfl rfl rfl rfl rfl rfl rfl ⟨rfl, rfl, rfl, rfl, rfl⟩ rfl rfl rfl rfl rfl (by kernel_rfl) Try.func8 (by kernel_rfl)
    (of_decide_eq_true (by kernel_rfl)) (by unfold Func.isWrapper; first | (rw [if_pos (by decide +kernel)]; kernel_rfl) | (rw [if_neg (by decide +kernel)]; exact ⟨rfl, rfl⟩))
    (fun os started H enc _ => lifted os started H enc)

/-- The statement. -/
theorem proved : Rows.FnPlainSaid := over
end Go.Proofs.Ytipmafplpoadjaa.fnPlain
