/-
  Others of others are the pairs. For every input the Go text of laws.FnOther returns true, and its argument reads afterwards as before. No condition.
-/
import Derived.Test.YtbmpchpcihnbdaaMgB
import Derived.Test.YtbmpchpcihnbdaaMgA
import Derived.Test.YtbmpchpcihnbdaaMgE
import Derived.Test.YtbmpchpcihnbdaaMgF
import Derived.Test.YtbmpchpcihnbdaaMgG
import Derived.Test.YtbmpchpcihnbdaaMgH
import Derived.Test.YtbmpchpcihnbdaaRows
import Derived.WalkKit
import Derived.ProofKit
import Derived.OpenShut
import Derived.ShutString
import Derived.ChangeOld
import Derived.Below
namespace Go.Proofs.Ytbmpchpcihnbdaa.fnOther
open Go.ChangeShapes Go.WideShapes Go.ChangeAt Go.RowKit
open Go.ChangeMaps (open_string shut_string)
set_option linter.unusedVariables false
set_option linter.unusedSimpArgs false
set_option linter.unnecessarySimpa false

theorem own : ownKnob Try.prog.godebug = none := by kernel_rfl
theorem laidOut : laidOutB Try.prog = true := by kernel_rfl



set_option maxRecDepth 100000 in
set_option maxHeartbeats 4000000 in
theorem small (a0 : Option Addr) (len0 cap0 : Nat) (w : World) (hB : Bytes w a0 len0) (hc : len0 ≤ cap0) (hcm : cap0 ≤ maxLen) (hs0 : len0 ≤ 1048576) :
    Calls Try.prog 10 #[.slice a0 len0 cap0] w fun e w' => e = .returned (.bool true) ∧ Below w.heap.size w w' := by
  have bel : Below w.heap.size w w := Below.refl _ _
  go_enter Try.func10, Try.ntmps10
  go_wp2_with fail
  refine (drawPairOther_any a0 len0 cap0 _ hB hs0 hc hcm).mono ?_
  rintro e W1 ⟨m, v_b, ps, rfl, ⟨hn1, hn5⟩, rb, hx31, hb⟩
  have bel := below_step bel hb
  clear hb
  have rb0 := rb
  obtain ⟨ab, cb, vb, _, rfl, _⟩ := rb0
  have o_b := rb
  clear rb
  have wn : (Lit.int .i64 (m : Int)).wf = true := WalkArith.wf_i64 ⟨by omega, by omega⟩
  obtain ⟨K, hK⟩ : ∃ K, K = ps.length := ⟨_, rfl⟩
  rw [← hK] at hx31 o_b ⊢
  have HK := Lib.hid hK
  clear hK
  by_cases hp : pairIn (m : Int) ps = true
  · obtain ⟨m1, L, hm1, n1, n6, hs, hps, hi, hl15, hd⟩ := pair_open hp
    have hmm : m = m1 := by omega
    subst hmm
    have hKL : K = L.length := by rw [HK.out, hps, encPs_length]
    have e2 : pairOther (m : Int) ps = (encPs (otherP m L), true) := by simp [pairOther, hp, hd]
    have hin := pairIn_of (m := m) n1 n6 (otherP_sub m L)
    have e3 : pairOther (m : Int) (encPs (otherP m L)) = (ps, true) := by unfold pairOther; rw [if_pos hin, Int.toNat_natCast, decL_enc, other_other (by omega) hs, hps]
    generalize encPs (otherP m L) = rs at *
    have HI := Lib.hid (fun (wx : World) (v0 : Value) (k0 : RdM wx v0 ps) => e2 ▸ iPairOther_v v0 (m : Int) ps wx k0 wn)
    have HS := Lib.hid (fun (wx : World) (v0 : Value) (k0 : RdM wx v0 ps) => e2 ▸ sPairOther_v v0 (m : Int) ps wx k0 wn)
    have HX := Lib.hid (fun (wx : World) (v0 : Value) (k0 : RdM wx v0 rs) => e3 ▸ iPairOther_v v0 (m : Int) rs wx k0 wn)
    clear hp hin e2 e3 hm1 hs hps hi hd hKL
    go_wp2_with fail
    refine (HI.out _ _ o_b).mono ?_
    rintro e W2 ⟨v_o, rfl, o, hb⟩
    have bel := below_step bel hb
    have o_b := rdM_below o_b hb
    clear hb
    have o_o := o
    clear o
    go_wp2_with fail
    refine (HS.out _ _ o_b).mono ?_
    rintro e W3 ⟨v_w, rfl, o, hb⟩
    have bel := below_step bel hb
    have o_b := rdM_below o_b hb
    have o_o := ownM_below o_o hb
    clear hb
    have o_w := o
    clear o
    go_wp2_with fail
    refine (sameRows_v _ _ rs _ (ownM_rdM o_o) (ownM_rdM o_w)).mono ?_
    rintro e W4 ⟨rfl, hq⟩
    have hb := hq W3.heap.size
    clear hq
    have bel := below_step bel hb
    have o_b := rdM_below o_b hb
    have o_o := ownM_below o_o hb
    have o_w := ownM_below o_w hb
    clear hb
    clear o_w
    go_wp2_with fail
    refine (HX.out _ _ (ownM_rdM o_o)).mono ?_
    rintro e W5 ⟨v_x, rfl, o, hb⟩
    have bel := below_step bel hb
    have o_b := rdM_below o_b hb
    have o_o := ownM_below o_o hb
    clear hb
    have o_x := o
    clear o
    go_wp2_with fail
    refine (sameRows_v _ _ ps _ (ownM_rdM o_x) o_b).mono ?_
    rintro e W6 ⟨rfl, hq⟩
    have hb := hq W5.heap.size
    clear hq
    have bel := below_step bel hb
    have o_b := rdM_below o_b hb
    have o_o := ownM_below o_o hb
    have o_x := ownM_below o_x hb
    clear hb
    go_wp2
    go_ret
    exact ⟨rfl, bel⟩
  · have hp : pairIn (m : Int) ps = false := by simpa using hp
    have e1 : pairOther (m : Int) ps = ([], false) := by simp [pairOther, hp]
    have HI := Lib.hid (fun (wx : World) (v0 : Value) (k0 : RdM wx v0 ps) => e1 ▸ iPairOther_v v0 (m : Int) ps wx k0 wn)
    have HS := Lib.hid (fun (wx : World) (v0 : Value) (k0 : RdM wx v0 ps) => e1 ▸ sPairOther_v v0 (m : Int) ps wx k0 wn)
    clear hp e1
    go_wp2_with fail
    refine (HI.out _ _ o_b).mono ?_
    rintro e W2 ⟨v_o, rfl, o, hb⟩
    have bel := below_step bel hb
    have o_b := rdM_below o_b hb
    clear hb
    have o_o := o
    clear o
    go_wp2_with fail
    refine (HS.out _ _ o_b).mono ?_
    rintro e W3 ⟨v_w, rfl, o, hb⟩
    have bel := below_step bel hb
    have o_b := rdM_below o_b hb
    have o_o := ownM_below o_o hb
    clear hb
    have o_w := o
    clear o
    go_wp2_with fail
    refine (sameRows_v _ _ [] _ (ownM_rdM o_o) (ownM_rdM o_w)).mono ?_
    rintro e W4 ⟨rfl, hq⟩
    have hb := hq W3.heap.size
    clear hq
    have bel := below_step bel hb
    have o_b := rdM_below o_b hb
    have o_o := ownM_below o_o hb
    have o_w := ownM_below o_w hb
    clear hb
    go_wp2_with fail
    refine (sameRows_v _ _ [] _ (ownM_rdM o_o) (ownM_rdM o_w)).mono ?_
    rintro e W5 ⟨rfl, hq⟩
    have hb := hq W4.heap.size
    clear hq
    have bel := below_step bel hb
    have o_b := rdM_below o_b hb
    have o_o := ownM_below o_o hb
    have o_w := ownM_below o_w hb
    clear hb
    go_wp2
    go_ret
    exact ⟨rfl, bel⟩

theorem walk (a0 : Option Addr) (len0 cap0 : Nat) (z0 : List Int) (w : World) (w0 : IsRow .u8 w a0 len0 cap0 z0) :
    Calls Try.prog 10 #[.slice a0 len0 cap0] w fun e w' => e = .returned (.bool true) ∧ Below w.heap.size w w' := by
  obtain ⟨hB, hc, hcm⟩ := bytes_of_row w0
  refine (Nat.lt_or_ge 1048576 len0).elim (fun hs0 => ?_) (fun hs0 => ?_)
  · go_enter Try.func10, Try.ntmps10
    go_wp2
    go_ret
    exact ⟨rfl, Below.refl _ _⟩
  exact small a0 len0 cap0 w hB hc hcm hs0

set_option maxRecDepth 100000 in
theorem lifted (os : Os) (started : os.Started) (H : Type) (enc : TypeId × Value → H) :
    ReturnsInHanded {} Try.checked os 10 .any (Rows.fnOtherSpec.pre6 enc Try.prog Try.f10 Rows.fnOtherRow.domain false) (Rows.fnOtherSpec.post enc Try.prog Try.f10 false true false false) := by
  refine returnsInHanded_of_change (C := Try.checked) own started (by kernel_rfl) Try.func10
    (ChangeSpec.witness6 (enc := enc) (C := Try.checked) false ⟨#[], #[.slice none 0 0], []⟩ 8 (by kernel_rfl) (by kernel_rfl) (by kernel_rfl) (by kernel_rfl)) ?_
  intro W base args ds gs before hval0 hW hcnd _
  have hval : ∀ (j : Nat) t v, Try.f10.params[j]? = some t → args[j]? = some v → Value.okWide Try.prog W .any base t v := hval0
  have hW' := hW
  obtain ⟨p, q, hA0, hV, rfl, hfz, hnd⟩ := hW
  have hA : DataW.TrodAll enc Try.prog W 0 (fun _ => true) true Try.f10.params.toList args.toList ds p := hA0
  rw [Try.params10] at hA hval
  obtain ⟨v0, vs0, d0, ds0, p0, q0, hargs, rfl, rfl, h0, r0⟩ := trodAll_cons hA
  obtain ⟨rfl, rfl, rfl⟩ := trodAll_nil r0
  obtain rfl : args = #[v0] := by cases args; simp_all
  obtain ⟨rfl, rfl⟩ := trodVars_none hV
  obtain ⟨a0, len0, cap0, rfl⟩ := okWide_slice Try.underlying22 (hval 0 22 v0 rfl rfl)
  have k0 := h0
  have lt0 : ∀ x ∈ p0, x.block < W.heap.size := by obtain ⟨m, hm⟩ := k0; exact DataW.trod_lt m _ _ _ hm
  obtain ⟨z0, w0⟩ : ∃ zs, IsRow .u8 W a0 len0 cap0 zs := by
    obtain ⟨fuel, hf⟩ := h0
    rcases open_ints Try.underlying22 Try.underlying5 (by kernel_rfl) hf with ⟨hcs, _⟩ | ⟨x, l, c, zs, hcs, _, hl, hm, hz, _, hcell, hwz⟩
    · simp [Value.cells] at hcs
      obtain ⟨rfl, rfl, rfl⟩ := hcs
      exact ⟨[], .inl ⟨rfl, rfl, rfl, rfl⟩⟩
    · simp [Value.cells] at hcs
      obtain ⟨rfl, rfl, rfl⟩ := hcs
      exact ⟨zs, .inr ⟨_, rfl, hl, hm, by simpa using hz, hcell, hwz⟩⟩
  clear hA0 hval0
  refine (walk a0 len0 cap0 z0 W w0).mono fun e W' ⟨he, bel⟩ => ?_
  subst he
  exact ⟨_, rfl, _, _, _, [], _, [], hW', trodAll_mk1 (shut_bool Try.underlying4 _), (trodAll_cons_mk (Below.trod laidOut (by kernel_rfl) (of_decide_eq_true (by kernel_rfl)) k0 bel lt0) trodAll_mk0), rfl, bel.frame _, fun h => by cases h⟩

theorem over : Rows.fnOtherRow.holds Try.pinned (OpenSpec.ofChange Rows.fnOtherSpec) :=
  OpenClaim.holds_of_wide 10 Try.f10 rfl rfl rfl rfl rfl rfl rfl ⟨rfl, rfl, rfl, rfl, rfl⟩ rfl rfl rfl rfl rfl (by kernel_rfl) Try.func10 (by kernel_rfl)
    (of_decide_eq_true (by kernel_rfl)) (by unfold Func.isWrapper; first | (rw [if_pos (by decide +kernel)]; kernel_rfl) | (rw [if_neg (by decide +kernel)]; exact ⟨rfl, rfl⟩))
    (fun os started H enc _ => lifted os started H enc)

/-- The statement. -/
theorem proved : Rows.FnOtherSaid := over
end Go.Proofs.Ytbmpchpcihnbdaa.fnOther
