/-
  The law of numbers of partitions, rings and rows. For every input the Go text of laws.FnNumberBlocks returns true, and its argument reads afterwards as before. No condition.
-/
import Derived.Test.YtfomfjbfhcajbaaDrawPart
import Derived.Test.YtfomfjbfhcajbaaRows
import Derived.Test.YtfomfjbfhcajbaaPure
import Derived.Test.YtfomfjbfhcajbaaHelp
import Derived.Test.YtfomfjbfhcajbaaDrawNum
import Derived.Test.YtfomfjbfhcajbaaNumMath
import Derived.Test.YtfomfjbfhcajbaaTriMaps
import Derived.Test.YtfomfjbfhcajbaaTriPower
import Derived.Test.YtfomfjbfhcajbaaTriAll
import Derived.WalkKit
import Derived.ProofKit
import Derived.OpenShut
import Derived.ShutString
import Derived.ChangeOld
import Derived.Below
namespace Go.Proofs.Ytfomfjbfhcajbaa.fnNumberBlocks
open Go.ChangeShapes Go.WideShapes Go.ChangeAt Go.RowKit
open Go.ChangeMaps (open_string shut_string)
set_option linter.unusedVariables false
set_option linter.unusedSimpArgs false
set_option linter.unnecessarySimpa false

theorem own : ownKnob Try.prog.godebug = none := by kernel_rfl
theorem laidOut : laidOutB Try.prog = true := by kernel_rfl



set_option maxRecDepth 100000 in
set_option maxHeartbeats 4000000 in
theorem small (a0 : Option Addr) (len0 cap0 : Nat) (w : World) (hB : Bytes w a0 len0) (hc : len0 ≤ cap0) (hcm : cap0 ≤ maxLen) (hs0 : len0 ≤ 1048576) :
    Calls Try.prog 3 #[.slice a0 len0 cap0] w fun e w' => e = .returned (.bool true) ∧ Below w.heap.size w w' := by
  have bel : Below w.heap.size w w := Below.refl _ _
  go_enter Try.func3, Try.ntmps3
  go_wp2_with fail
  refine (DrawNumberBlocks_any a0 len0 cap0 _ hB hs0 hc hcm).mono ?_
  rintro e W1 ⟨n, k, rfl, hn, hk, hb⟩
  have bel := below_step bel hb
  clear hb
  have wn : (Lit.int .i64 n).wf = true := WalkArith.wf_i64 ⟨by omega, by omega⟩
  have wk : (Lit.int .i64 k).wf = true := WalkArith.wf_i64 ⟨by omega, by omega⟩
  by_cases hin : inNum n k = true
  · have hp := inNum_parts hin
    have e1 := numBy_yes (G := ext fB) hin
    obtain ⟨n, rfl⟩ := Int.eq_ofNat_of_zero_le hp.1.1
    obtain ⟨k, rfl⟩ := Int.eq_ofNat_of_zero_le hp.2.1
    have hn12 : n < 13 := by omega
    have hk12 : k < 13 := by omega
    have HI := Lib.hid (fun (wx : World) => e1 ▸ iNumberBlocks_v n k wx wn wk)
    have HS := Lib.hid (fun (wx : World) => e1 ▸ sNumberBlocks_v n k wx wn wk)
    have hf := blocks_facts n hn12 k hk12
    have e2 := numBy_yes (G := ext fR) hin
    have e3 := numBy_yes (G := ext fL) hin
    have HR := Lib.hid (fun (wx : World) => e2 ▸ iNumberRings_v n k wx wn wk)
    have HW := Lib.hid (fun (wx : World) => e3 ▸ iNumberRows_v n k wx wn wk)
    clear e1 e2 e3 hin
    generalize ext fB n k = x at *
    generalize ext fR n k = y at *
    generalize ext fL n k = z at *
    obtain ⟨h1, h2, h3, h4⟩ := hf
    go_wp2_with fail
    refine (HI.out _).mono ?_
    rintro e W2 ⟨rfl, hb⟩
    have bel := below_step bel hb
    clear hb
    go_wp2_with fail
    refine (HS.out _).mono ?_
    rintro e W3 ⟨rfl, hb⟩
    have bel := below_step bel hb
    clear hb
    go_wp2_with fail
    refine (HR.out _).mono ?_
    rintro e W4 ⟨rfl, hb⟩
    have bel := below_step bel hb
    clear hb
    go_wp2_with fail
    refine (HW.out _).mono ?_
    rintro e W5 ⟨rfl, hb⟩
    have bel := below_step bel hb
    clear hb
    clear HI HS HR HW
    rcases Nat.lt_trichotomy n k with h | h | h
    · have hz := h3 h
      clear h3 h4
      subst hz
      have b1 : ¬ (k : Int) ≤ (n : Int) := by omega
      have b2 : ((k : Int) == (n : Int)) = false := by simp; omega
      have b3 : ((k : Int) != (n : Int)) = true := by simp; omega
      go_wp2
      go_ret
      exact ⟨by first | rfl | exact ret_bool (by simp <;> omega), bel⟩
    · obtain ⟨hx, hz⟩ := h4 h
      clear h3 h4
      subst h
      subst hx
      subst hz
      go_wp2
      go_ret
      exact ⟨by first | rfl | exact ret_bool (by simp <;> omega), bel⟩
    · clear h3 h4
      have b1 : (k : Int) ≤ (n : Int) := by omega
      have b2 : ((k : Int) == (n : Int)) = false := by simp; omega
      have b3 : ((k : Int) != (n : Int)) = true := by simp; omega
      go_wp2
      go_ret
      exact ⟨by first | rfl | exact ret_bool (by simp <;> omega), bel⟩
  · have hin : inNum n k = false := by simpa using hin
    have e1 := numBy_no (G := ext fB) hin
    have HI := Lib.hid (fun (wx : World) => e1 ▸ iNumberBlocks_v n k wx wn wk)
    have HS := Lib.hid (fun (wx : World) => e1 ▸ sNumberBlocks_v n k wx wn wk)
    clear e1 hin
    go_wp2_with fail
    refine (HI.out _).mono ?_
    rintro e W2 ⟨rfl, hb⟩
    have bel := below_step bel hb
    clear hb
    go_wp2_with fail
    refine (HS.out _).mono ?_
    rintro e W3 ⟨rfl, hb⟩
    have bel := below_step bel hb
    clear hb
    go_wp2
    go_ret
    exact ⟨by first | rfl | exact ret_bool (by simp <;> omega), bel⟩

theorem walk (a0 : Option Addr) (len0 cap0 : Nat) (z0 : List Int) (w : World) (w0 : IsRow .u8 w a0 len0 cap0 z0) :
    Calls Try.prog 3 #[.slice a0 len0 cap0] w fun e w' => e = .returned (.bool true) ∧ Below w.heap.size w w' := by
  obtain ⟨hB, hc, hcm⟩ := bytes_of_row w0
  refine (Nat.lt_or_ge 1048576 len0).elim (fun hs0 => ?_) (fun hs0 => ?_)
  · go_enter Try.func3, Try.ntmps3
    go_wp2
    go_ret
    exact ⟨rfl, Below.refl _ _⟩
  exact small a0 len0 cap0 w hB hc hcm hs0

set_option maxRecDepth 100000 in
theorem lifted (os : Os) (started : os.Started) (H : Type) (enc : TypeId × Value → H) :
    ReturnsInHanded {} Try.checked os 3 .any (Rows.fnNumberBlocksSpec.pre6 enc Try.prog Try.f3 Rows.fnNumberBlocksRow.domain false) (Rows.fnNumberBlocksSpec.post enc Try.prog Try.f3 false true false false) := by
  refine returnsInHanded_of_change (C := Try.checked) own started (by kernel_rfl) Try.func3
    (ChangeSpec.witness6 (enc := enc) (C := Try.checked) false ⟨#[], #[.slice none 0 0], []⟩ 8 (by kernel_rfl) (by kernel_rfl) (by kernel_rfl) (by kernel_rfl)) ?_
  intro W base args ds gs before hval0 hW hcnd _
  have hval : ∀ (j : Nat) t v, Try.f3.params[j]? = some t → args[j]? = some v → Value.okWide Try.prog W .any base t v := hval0
  have hW' := hW
  obtain ⟨p, q, hA0, hV, rfl, hfz, hnd⟩ := hW
  have hA : DataW.TrodAll enc Try.prog W 0 (fun _ => true) true Try.f3.params.toList args.toList ds p := hA0
  rw [Try.params3] at hA hval
  obtain ⟨v0, vs0, d0, ds0, p0, q0, hargs, rfl, rfl, h0, r0⟩ := trodAll_cons hA
  obtain ⟨rfl, rfl, rfl⟩ := trodAll_nil r0
  obtain rfl : args = #[v0] := by cases args; simp_all
  obtain ⟨rfl, rfl⟩ := trodVars_none hV
  obtain ⟨a0, len0, cap0, rfl⟩ := okWide_slice Try.underlying22 (hval 0 22 v0 rfl rfl)
  have k0 := h0
  have lt0 : ∀ x ∈ p0, x.block < W.heap.size := by obtain ⟨m, hm⟩ := k0; exact DataW.trod_lt m _ _ _ hm
  obtain ⟨z0, w0⟩ : ∃ zs, IsRow .u8 W a0 len0 cap0 zs := by
    obtain ⟨fuel, hf⟩ := h0
    rcases open_ints Try.underlying22 Try.underlying5 (by kernel_rfl) hf with ⟨hcs, _⟩ | ⟨x, l, c, zs, hcs, _, hl, hm, hz, _, hcell, hwz⟩
    · simp [Value.cells] at hcs
      obtain ⟨rfl, rfl, rfl⟩ := hcs
      exact ⟨[], .inl ⟨rfl, rfl, rfl, rfl⟩⟩
    · simp [Value.cells] at hcs
      obtain ⟨rfl, rfl, rfl⟩ := hcs
      exact ⟨zs, .inr ⟨_, rfl, hl, hm, by simpa using hz, hcell, hwz⟩⟩
  clear hA0 hval0
  refine (walk a0 len0 cap0 z0 W w0).mono fun e W' ⟨he, bel⟩ => ?_
  subst he
  exact ⟨_, rfl, _, _, _, [], _, [], hW', trodAll_mk1 (shut_bool Try.underlying4 _), (trodAll_cons_mk (Below.trod laidOut (by kernel_rfl) (of_decide_eq_true (by kernel_rfl)) k0 bel lt0) trodAll_mk0), rfl, bel.frame _, fun h => by cases h⟩

theorem over : Rows.fnNumberBlocksRow.holds Try.pinned (OpenSpec.ofChange Rows.fnNumberBlocksSpec) :=
  OpenClaim.holds_of_wide 3 Try.f3 rfl rfl rfl rfl rfl rfl rfl ⟨rfl, rfl, rfl, rfl, rfl⟩ rfl rfl rfl rfl rfl (by kernel_rfl) Try.func3 (by kernel_rfl)
    (of_decide_eq_true (by kernel_rfl)) (by unfold Func.isWrapper; first | (rw [if_pos (by decide +kernel)]; kernel_rfl) | (rw [if_neg (by decide +kernel)]; exact ⟨rfl, rfl⟩))
    (fun os started H enc _ => lifted os started H enc)

/-- The statement. -/
theorem proved : Rows.FnNumberBlocksSaid := over
end Go.Proofs.Ytfomfjbfhcajbaa.fnNumberBlocks
