/-
  Whole lists have no three things with just two pairs. For every input the Go text of laws.FnWhole returns true, and its argument reads afterwards as before. No condition.
-/
import Derived.Test.YtbmpchpcihnbdaaMgB
import Derived.Test.YtbmpchpcihnbdaaMgA
import Derived.Test.YtbmpchpcihnbdaaMgE
import Derived.Test.YtbmpchpcihnbdaaMgF
import Derived.Test.YtbmpchpcihnbdaaMgI
import Derived.Test.YtbmpchpcihnbdaaMgH
import Derived.Test.YtbmpchpcihnbdaaQPairFacts2
import Derived.Test.YtbmpchpcihnbdaaRows
import Derived.WalkKit
import Derived.ProofKit
import Derived.OpenShut
import Derived.ShutString
import Derived.ChangeOld
import Derived.Below
namespace Go.Proofs.Ytbmpchpcihnbdaa.fnWhole
open Go.ChangeShapes Go.WideShapes Go.ChangeAt Go.RowKit
open Go.ChangeMaps (open_string shut_string)
set_option linter.unusedVariables false
set_option linter.unusedSimpArgs false
set_option linter.unnecessarySimpa false

theorem own : ownKnob Try.prog.godebug = none := by kernel_rfl
theorem laidOut : laidOutB Try.prog = true := by kernel_rfl

theorem sameInts_t (v u : Value) (xs : List Int) (w : World) (hv : RdV w v xs) (hu : RdV w u xs) : Calls Try.prog 25 #[v, u] w fun e w' => e = .returned (.bool true) ∧ Same w w' :=
  (sameInts_v v u xs xs w hv hu).mono fun e w' ⟨he, hw⟩ => ⟨by rw [he]; simp, hw⟩


set_option maxRecDepth 100000 in
set_option maxHeartbeats 4000000 in
theorem small (a0 : Option Addr) (len0 cap0 : Nat) (w : World) (hB : Bytes w a0 len0) (hc : len0 ≤ cap0) (hcm : cap0 ≤ maxLen) (hs0 : len0 ≤ 1048576) :
    Calls Try.prog 6 #[.slice a0 len0 cap0] w fun e w' => e = .returned (.bool true) ∧ Below w.heap.size w w' := by
  have bel : Below w.heap.size w w := Below.refl _ _
  go_enter Try.func6, Try.ntmps6
  go_wp2_with fail
  refine (drawPairWhole_any a0 len0 cap0 _ hB hs0 hc hcm).mono ?_
  rintro e W1 ⟨m, v_b, ps, rfl, ⟨hn1, hn5⟩, rb, hx31, hb⟩
  have bel := below_step bel hb
  clear hb
  have rb0 := rb
  obtain ⟨ab, cb, vb, _, rfl, _⟩ := rb0
  have o_b := rb
  clear rb
  have wn : (Lit.int .i64 (m : Int)).wf = true := WalkArith.wf_i64 ⟨by omega, by omega⟩
  obtain ⟨K, hK⟩ : ∃ K, K = ps.length := ⟨_, rfl⟩
  rw [← hK] at hx31 o_b ⊢
  have HK := Lib.hid hK
  clear hK
  by_cases hp : pairIn (m : Int) ps = true
  · obtain ⟨m1, L, hm1, n1, n6, hs, hps, hi, hl15, hd⟩ := pair_open hp
    have hmm : m = m1 := by omega
    subst hmm
    have hKL : K = L.length := by rw [HK.out, hps, encPs_length]
    have e1 : pairWhole (m : Int) ps = wholeP m L := by unfold pairWhole; rw [hp, Int.toNat_natCast, hd]; rfl
    have hwi := whole_iff hn1 hn5 hs
    have hth := (pair_chk hn1 hn5 hs).1
    have e2 : pairThree (m : Int) ps = ((threeP m L : Int), true) := by simp [pairThree, hp, hd]
    have e3 : pairChanges (m : Int) ps = (costP (bestP m L) L, true) := by simp [pairChanges, hp, hd]
    have e4 : pairBest (m : Int) ps = (bestP m L, true) := by simp [pairBest, hp, hd]
    have e5 : pairPart (m : Int) ps = (partP m L, true) := by simp [pairPart, hp, hd]
    cases hw : wholeP m L
    · rw [hw] at e1
      have HI := Lib.hid (fun (wx : World) (v0 : Value) (k0 : RdM wx v0 ps) => e1 ▸ iPairWhole_v v0 (m : Int) ps wx k0 wn)
      have HS := Lib.hid (fun (wx : World) (v0 : Value) (k0 : RdM wx v0 ps) => e1 ▸ sPairWhole_v v0 (m : Int) ps wx k0 wn)
      clear hp e1 e2 e3 e4 e5 hm1 hs hps hi hd hwi hth hw hKL
      go_wp2_with fail
      refine (HI.out _ _ o_b).mono ?_
      rintro e W2 ⟨rfl, hb⟩
      have bel := below_step bel hb
      have o_b := rdM_below o_b hb
      clear hb
      go_wp2_with fail
      refine (HS.out _ _ o_b).mono ?_
      rintro e W3 ⟨rfl, hb⟩
      have bel := below_step bel hb
      have o_b := rdM_below o_b hb
      clear hb
      go_wp2
      go_ret
      exact ⟨rfl, bel⟩
    · rw [hw] at e1 hth
      have ht0 : threeP m L = 0 := by simpa using hth.symm
      rw [hwi.1.2 hw] at e3
      rw [hwi.2 hw] at e4
      rw [ht0] at e2
      generalize partP m L = ys at *
      have HI := Lib.hid (fun (wx : World) (v0 : Value) (k0 : RdM wx v0 ps) => e1 ▸ iPairWhole_v v0 (m : Int) ps wx k0 wn)
      have HS := Lib.hid (fun (wx : World) (v0 : Value) (k0 : RdM wx v0 ps) => e1 ▸ sPairWhole_v v0 (m : Int) ps wx k0 wn)
      have HA := Lib.hid (fun (wx : World) (v0 : Value) (k0 : RdM wx v0 ps) => e2 ▸ iPairThree_v v0 (m : Int) ps wx k0 wn)
      have HC := Lib.hid (fun (wx : World) (v0 : Value) (k0 : RdM wx v0 ps) => e3 ▸ iPairChanges_v v0 (m : Int) ps wx k0 wn)
      have HX := Lib.hid (fun (wx : World) (v0 : Value) (k0 : RdM wx v0 ps) => e4 ▸ iPairBest_v v0 (m : Int) ps wx k0 wn)
      have HY := Lib.hid (fun (wx : World) (v0 : Value) (k0 : RdM wx v0 ps) => e5 ▸ iPairPart_v v0 (m : Int) ps wx k0 wn)
      clear hp e1 e2 e3 e4 e5 hm1 hs hps hi hd hwi hth hw ht0 hKL
      go_wp2_with fail
      refine (HI.out _ _ o_b).mono ?_
      rintro e W2 ⟨rfl, hb⟩
      have bel := below_step bel hb
      have o_b := rdM_below o_b hb
      clear hb
      go_wp2_with fail
      refine (HS.out _ _ o_b).mono ?_
      rintro e W3 ⟨rfl, hb⟩
      have bel := below_step bel hb
      have o_b := rdM_below o_b hb
      clear hb
      go_wp2_with fail
      refine (HA.out _ _ o_b).mono ?_
      rintro e W4 ⟨rfl, hb⟩
      have bel := below_step bel hb
      have o_b := rdM_below o_b hb
      clear hb
      go_wp2_with fail
      refine (HC.out _ _ o_b).mono ?_
      rintro e W5 ⟨rfl, hb⟩
      have bel := below_step bel hb
      have o_b := rdM_below o_b hb
      clear hb
      go_wp2_with fail
      refine (HX.out _ _ o_b).mono ?_
      rintro e W6 ⟨v_x, rfl, o, hb⟩
      have bel := below_step bel hb
      have o_b := rdM_below o_b hb
      clear hb
      have o_x := o
      clear o
      go_wp2_with fail
      refine (HY.out _ _ o_b).mono ?_
      rintro e W7 ⟨v_y, rfl, o, hb⟩
      have bel := below_step bel hb
      have o_b := rdM_below o_b hb
      have o_x := own_below o_x hb
      clear hb
      have o_y := o
      clear o
      go_wp2_with fail
      refine (sameInts_t _ _ ys _ (own_rdv o_x) (own_rdv o_y)).mono ?_
      rintro e W8 ⟨rfl, hq⟩
      have hb := hq W7.heap.size
      clear hq
      have bel := below_step bel hb
      have o_b := rdM_below o_b hb
      have o_x := own_below o_x hb
      have o_y := own_below o_y hb
      clear hb
      go_wp2
      go_ret
      exact ⟨rfl, bel⟩
  · have hp : pairIn (m : Int) ps = false := by simpa using hp
    have e1 : pairWhole (m : Int) ps = false := by simp [pairWhole, hp]
    have HI := Lib.hid (fun (wx : World) (v0 : Value) (k0 : RdM wx v0 ps) => e1 ▸ iPairWhole_v v0 (m : Int) ps wx k0 wn)
    have HS := Lib.hid (fun (wx : World) (v0 : Value) (k0 : RdM wx v0 ps) => e1 ▸ sPairWhole_v v0 (m : Int) ps wx k0 wn)
    clear hp e1
    go_wp2_with fail
    refine (HI.out _ _ o_b).mono ?_
    rintro e W2 ⟨rfl, hb⟩
    have bel := below_step bel hb
    have o_b := rdM_below o_b hb
    clear hb
    go_wp2_with fail
    refine (HS.out _ _ o_b).mono ?_
    rintro e W3 ⟨rfl, hb⟩
    have bel := below_step bel hb
    have o_b := rdM_below o_b hb
    clear hb
    go_wp2
    go_ret
    exact ⟨rfl, bel⟩

theorem walk (a0 : Option Addr) (len0 cap0 : Nat) (z0 : List Int) (w : World) (w0 : IsRow .u8 w a0 len0 cap0 z0) :
    Calls Try.prog 6 #[.slice a0 len0 cap0] w fun e w' => e = .returned (.bool true) ∧ Below w.heap.size w w' := by
  obtain ⟨hB, hc, hcm⟩ := bytes_of_row w0
  refine (Nat.lt_or_ge 1048576 len0).elim (fun hs0 => ?_) (fun hs0 => ?_)
  · go_enter Try.func6, Try.ntmps6
    go_wp2
    go_ret
    exact ⟨rfl, Below.refl _ _⟩
  exact small a0 len0 cap0 w hB hc hcm hs0

set_option maxRecDepth 100000 in
theorem lifted (os : Os) (started : os.Started) (H : Type) (enc : TypeId × Value → H) :
    ReturnsInHanded {} Try.checked os 6 .any (Rows.fnWholeSpec.pre6 enc Try.prog Try.f6 Rows.fnWholeRow.domain false) (Rows.fnWholeSpec.post enc Try.prog Try.f6 false true false false) := by
  refine returnsInHanded_of_change (C := Try.checked) own started (by kernel_rfl) Try.func6
    (ChangeSpec.witness6 (enc := enc) (C := Try.checked) false ⟨#[], #[.slice none 0 0], []⟩ 8 (by kernel_rfl) (by kernel_rfl) (by kernel_rfl) (by kernel_rfl)) ?_
  intro W base args ds gs before hval0 hW hcnd _
  have hval : ∀ (j : Nat) t v, Try.f6.params[j]? = some t → args[j]? = some v → Value.okWide Try.prog W .any base t v := hval0
  have hW' := hW
  obtain ⟨p, q, hA0, hV, rfl, hfz, hnd⟩ := hW
  have hA : DataW.TrodAll enc Try.prog W 0 (fun _ => true) true Try.f6.params.toList args.toList ds p := hA0
  rw [Try.params6] at hA hval
  obtain ⟨v0, vs0, d0, ds0, p0, q0, hargs, rfl, rfl, h0, r0⟩ := trodAll_cons hA
  obtain ⟨rfl, rfl, rfl⟩ := trodAll_nil r0
  obtain rfl : args = #[v0] := by cases args; simp_all
  obtain ⟨rfl, rfl⟩ := trodVars_none hV
  obtain ⟨a0, len0, cap0, rfl⟩ := okWide_slice Try.underlying22 (hval 0 22 v0 rfl rfl)
  have k0 := h0
  have lt0 : ∀ x ∈ p0, x.block < W.heap.size := by obtain ⟨m, hm⟩ := k0; exact DataW.trod_lt m _ _ _ hm
  obtain ⟨z0, w0⟩ : ∃ zs, IsRow .u8 W a0 len0 cap0 zs := by
    obtain ⟨fuel, hf⟩ := h0
    rcases open_ints Try.underlying22 Try.underlying5 (by kernel_rfl) hf with ⟨hcs, _⟩ | ⟨x, l, c, zs, hcs, _, hl, hm, hz, _, hcell, hwz⟩
    · simp [Value.cells] at hcs
      obtain ⟨rfl, rfl, rfl⟩ := hcs
      exact ⟨[], .inl ⟨rfl, rfl, rfl, rfl⟩⟩
    · simp [Value.cells] at hcs
      obtain ⟨rfl, rfl, rfl⟩ := hcs
      exact ⟨zs, .inr ⟨_, rfl, hl, hm, by simpa using hz, hcell, hwz⟩⟩
  clear hA0 hval0
  refine (walk a0 len0 cap0 z0 W w0).mono fun e W' ⟨he, bel⟩ => ?_
  subst he
  exact ⟨_, rfl, _, _, _, [], _, [], hW', trodAll_mk1 (shut_bool Try.underlying4 _), (trodAll_cons_mk (Below.trod laidOut (by kernel_rfl) (of_decide_eq_true (by kernel_rfl)) k0 bel lt0) trodAll_mk0), rfl, bel.frame _, fun h => by cases h⟩

theorem over : Rows.fnWholeRow.holds Try.pinned (OpenSpec.ofChange Rows.fnWholeSpec) :=
  OpenClaim.holds_of_wide 6 Try.f6 rfl rfl rfl rfl rfl rfl rfl ⟨rfl, rfl, rfl, rfl, rfl⟩ rfl rfl rfl rfl rfl (by kernel_rfl) Try.func6 (by kernel_rfl)
    (of_decide_eq_true (by kernel_rfl)) (by unfold Func.isWrapper; first | (rw [if_pos (by decide +kernel)]; kernel_rfl) | (rw [if_neg (by decide +kernel)]; exact ⟨rfl, rfl⟩))
    (fun os started H enc _ => lifted os started H enc)

/-- The statement. -/
theorem proved : Rows.FnWholeSaid := over
end Go.Proofs.Ytbmpchpcihnbdaa.fnWhole
