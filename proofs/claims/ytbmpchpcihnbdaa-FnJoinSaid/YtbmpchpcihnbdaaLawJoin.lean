/-
  The law of joins. For every input the Go text of laws.FnJoin returns true, and its argument reads afterwards as before. No condition.
-/
import Derived.Test.YtbmpchpcihnbdaaDrawPart
import Derived.Test.YtbmpchpcihnbdaaSame
import Derived.Test.YtbmpchpcihnbdaaRows
import Derived.Test.YtbmpchpcihnbdaaPure
import Derived.Test.YtbmpchpcihnbdaaHelp
import Derived.Test.YtbmpchpcihnbdaaDrawTwo
import Derived.Test.YtbmpchpcihnbdaaPlainMath
import Derived.Test.YtbmpchpcihnbdaaFinJoin
import Derived.Test.YtbmpchpcihnbdaaFinJoinS
import Derived.Test.YtbmpchpcihnbdaaFinMeet
import Derived.Test.YtbmpchpcihnbdaaPlainKit
import Derived.WalkKit
import Derived.ProofKit
import Derived.OpenShut
import Derived.ShutString
import Derived.ChangeOld
import Derived.Below
namespace Go.Proofs.Ytbmpchpcihnbdaa.fnJoin
open Go.ChangeShapes Go.WideShapes Go.ChangeAt Go.RowKit
open Go.ChangeMaps (open_string shut_string)
set_option linter.unusedVariables false
set_option linter.unusedSimpArgs false
set_option linter.unnecessarySimpa false

theorem own : ownKnob Try.prog.godebug = none := by kernel_rfl
theorem laidOut : laidOutB Try.prog = true := by kernel_rfl

theorem sameInts_t (v u : Value) (xs : List Int) (w : World) (hv : RdV w v xs) (hu : RdV w u xs) : Calls Try.prog 25 #[v, u] w fun e w' => e = .returned (.bool true) ∧ Same w w' :=
  (sameInts_v v u xs xs w hv hu).mono fun e w' ⟨he, hw⟩ => ⟨by rw [he]; simp, hw⟩

theorem draw_any (a : Option Addr) (len cap : Nat) (w : World) (hby : Bytes w a len) (hlen : len ≤ 1048576) (hc : len ≤ cap) (hcm : cap ≤ maxLen) :
    Calls Try.prog 51 #[.slice a len cap] w (TwoDrawn w) := by
  go_enter Try.func51, Try.ntmps51
  go_wp2_with fail
  refine (l91Two_any a len cap w hby hlen hc hcm).mono ?_
  rintro e w1 ⟨v, u, xs, ys, rfl, h⟩
  go_wp2
  go_ret2
  exact ⟨v, u, xs, ys, rfl, h⟩

set_option maxRecDepth 100000 in
set_option maxHeartbeats 4000000 in
theorem small (a0 : Option Addr) (len0 cap0 : Nat) (w : World) (hB : Bytes w a0 len0) (hc : len0 ≤ cap0) (hcm : cap0 ≤ maxLen) (hs0 : len0 ≤ 1048576) :
    Calls Try.prog 13 #[.slice a0 len0 cap0] w fun e w' => e = .returned (.bool true) ∧ Below w.heap.size w w' := by
  have bel : Below w.heap.size w w := Below.refl _ _
  go_enter Try.func13, Try.ntmps13
  go_wp2_with fail
  refine (draw_any a0 len0 cap0 _ hB hs0 hc hcm).mono ?_
  rintro e W1 ⟨v_a, v_b, xs, ys, rfl, o, o2, hl9, hl9b, hb⟩
  have bel := below_step bel hb
  clear hb
  have o_a := o
  have o_b := o2
  clear o o2
  cases hf : alike xs ys
  · have e1 := finerJoin_no hf
    have HI := Lib.hid (fun (wx : World) (v0 : Value) (v1 : Value) (k0 : RdV wx v0 xs) (k1 : RdV wx v1 ys) => e1 ▸ iFinerJoin_v v0 v1 xs ys wx k0 k1)
    have HS := Lib.hid (fun (wx : World) (v0 : Value) (v1 : Value) (k0 : RdV wx v0 xs) (k1 : RdV wx v1 ys) => e1 ▸ sFinerJoin_v v0 v1 xs ys wx k0 k1)
    clear hf e1
    go_wp2_with fail
    refine (HI.out _ _ _ (own_rdv o_a) (own_rdv o_b)).mono ?_
    rintro e W2 ⟨v_o, rfl, o, hb⟩
    have bel := below_step bel hb
    have o_a := own_below o_a hb
    have o_b := own_below o_b hb
    clear hb
    have o_o := o
    clear o
    go_wp2_with fail
    refine (HS.out _ _ _ (own_rdv o_a) (own_rdv o_b)).mono ?_
    rintro e W3 ⟨v_w, rfl, o, hb⟩
    have bel := below_step bel hb
    have o_a := own_below o_a hb
    have o_b := own_below o_b hb
    have o_o := own_below o_o hb
    clear hb
    have o_w := o
    clear o
    go_wp2_with fail
    refine (sameInts_t _ _ [] _ (own_rdv o_o) (own_rdv o_w)).mono ?_
    rintro e W4 ⟨rfl, hq⟩
    have hb := hq W3.heap.size
    clear hq
    have bel := below_step bel hb
    have o_a := own_below o_a hb
    have o_b := own_below o_b hb
    have o_o := own_below o_o hb
    have o_w := own_below o_w hb
    clear hb
    go_wp2_with fail
    refine (sameInts_t _ _ [] _ (own_rdv o_o) (own_rdv o_w)).mono ?_
    rintro e W5 ⟨rfl, hq⟩
    have hb := hq W4.heap.size
    clear hq
    have bel := below_step bel hb
    have o_a := own_below o_a hb
    have o_b := own_below o_b hb
    have o_o := own_below o_o hb
    have o_w := own_below o_w hb
    clear hb
    go_wp2
    go_ret
    exact ⟨rfl, bel⟩
  · have e1 := finerJoin_yes hf
    have e2 := finer_meet' (join_finer hf).1
    have e3 := (join_finer hf).1
    have e4 := (join_finer hf).2
    generalize kOut (joinAll xs ys xs.length xs.length) = m at *
    clear hf
    have HI := Lib.hid (fun (wx : World) (v0 : Value) (v1 : Value) (k0 : RdV wx v0 xs) (k1 : RdV wx v1 ys) => e1 ▸ iFinerJoin_v v0 v1 xs ys wx k0 k1)
    have HS := Lib.hid (fun (wx : World) (v0 : Value) (v1 : Value) (k0 : RdV wx v0 xs) (k1 : RdV wx v1 ys) => e1 ▸ sFinerJoin_v v0 v1 xs ys wx k0 k1)
    have HX := Lib.hid (fun (wx : World) (v0 : Value) (v1 : Value) (k0 : RdV wx v0 m) (k1 : RdV wx v1 xs) => e2 ▸ iFinerMeet_v v0 v1 m xs wx k0 k1)
    have HP := Lib.hid (fun (wx : World) (v0 : Value) (v1 : Value) (k0 : RdV wx v0 xs) (k1 : RdV wx v1 m) => e3 ▸ iFinerIn_v v0 v1 xs m wx k0 k1)
    have HQ := Lib.hid (fun (wx : World) (v0 : Value) (v1 : Value) (k0 : RdV wx v0 ys) (k1 : RdV wx v1 m) => e4 ▸ iFinerIn_v v0 v1 ys m wx k0 k1)
    clear e1 e2 e3 e4
    go_wp2_with fail
    refine (HI.out _ _ _ (own_rdv o_a) (own_rdv o_b)).mono ?_
    rintro e W2 ⟨v_o, rfl, o, hb⟩
    have bel := below_step bel hb
    have o_a := own_below o_a hb
    have o_b := own_below o_b hb
    clear hb
    have o_o := o
    clear o
    go_wp2_with fail
    refine (HS.out _ _ _ (own_rdv o_a) (own_rdv o_b)).mono ?_
    rintro e W3 ⟨v_w, rfl, o, hb⟩
    have bel := below_step bel hb
    have o_a := own_below o_a hb
    have o_b := own_below o_b hb
    have o_o := own_below o_o hb
    clear hb
    have o_w := o
    clear o
    go_wp2_with fail
    refine (sameInts_t _ _ m _ (own_rdv o_o) (own_rdv o_w)).mono ?_
    rintro e W4 ⟨rfl, hq⟩
    have hb := hq W3.heap.size
    clear hq
    have bel := below_step bel hb
    have o_a := own_below o_a hb
    have o_b := own_below o_b hb
    have o_o := own_below o_o hb
    have o_w := own_below o_w hb
    clear hb
    clear o_w
    go_wp2_with fail
    refine (HX.out _ _ _ (own_rdv o_o) (own_rdv o_a)).mono ?_
    rintro e W5 ⟨v_x, rfl, o, hb⟩
    have bel := below_step bel hb
    have o_a := own_below o_a hb
    have o_b := own_below o_b hb
    have o_o := own_below o_o hb
    clear hb
    have o_x := o
    clear o
    go_wp2_with fail
    refine (sameInts_t _ _ xs _ (own_rdv o_x) (own_rdv o_a)).mono ?_
    rintro e W6 ⟨rfl, hq⟩
    have hb := hq W5.heap.size
    clear hq
    have bel := below_step bel hb
    have o_a := own_below o_a hb
    have o_b := own_below o_b hb
    have o_o := own_below o_o hb
    have o_x := own_below o_x hb
    clear hb
    go_wp2_with fail
    refine (HP.out _ _ _ (own_rdv o_a) (own_rdv o_o)).mono ?_
    rintro e W7 ⟨rfl, hb⟩
    have bel := below_step bel hb
    have o_a := own_below o_a hb
    have o_b := own_below o_b hb
    have o_o := own_below o_o hb
    have o_x := own_below o_x hb
    clear hb
    go_wp2_with fail
    refine (HQ.out _ _ _ (own_rdv o_b) (own_rdv o_o)).mono ?_
    rintro e W8 ⟨rfl, hb⟩
    have bel := below_step bel hb
    have o_a := own_below o_a hb
    have o_b := own_below o_b hb
    have o_o := own_below o_o hb
    have o_x := own_below o_x hb
    clear hb
    go_wp2
    go_ret
    exact ⟨rfl, bel⟩

theorem walk (a0 : Option Addr) (len0 cap0 : Nat) (z0 : List Int) (w : World) (w0 : IsRow .u8 w a0 len0 cap0 z0) :
    Calls Try.prog 13 #[.slice a0 len0 cap0] w fun e w' => e = .returned (.bool true) ∧ Below w.heap.size w w' := by
  obtain ⟨hB, hc, hcm⟩ := bytes_of_row w0
  refine (Nat.lt_or_ge 1048576 len0).elim (fun hs0 => ?_) (fun hs0 => ?_)
  · go_enter Try.func13, Try.ntmps13
    go_wp2
    go_ret
    exact ⟨rfl, Below.refl _ _⟩
  exact small a0 len0 cap0 w hB hc hcm hs0

set_option maxRecDepth 100000 in
theorem lifted (os : Os) (started : os.Started) (H : Type) (enc : TypeId × Value → H) :
    ReturnsInHanded {} Try.checked os 13 .any (Rows.fnJoinSpec.pre6 enc Try.prog Try.f13 Rows.fnJoinRow.domain false) (Rows.fnJoinSpec.post enc Try.prog Try.f13 false true false false) := by
  refine returnsInHanded_of_change (C := Try.checked) own started (by kernel_rfl) Try.func13
    (ChangeSpec.witness6 (enc := enc) (C := Try.checked) false ⟨#[], #[.slice none 0 0], []⟩ 8 (by kernel_rfl) (by kernel_rfl) (by kernel_rfl) (by kernel_rfl)) ?_
  intro W base args ds gs before hval0 hW hcnd _
  have hval : ∀ (j : Nat) t v, Try.f13.params[j]? = some t → args[j]? = some v → Value.okWide Try.prog W .any base t v := hval0
  have hW' := hW
  obtain ⟨p, q, hA0, hV, rfl, hfz, hnd⟩ := hW
  have hA : DataW.TrodAll enc Try.prog W 0 (fun _ => true) true Try.f13.params.toList args.toList ds p := hA0
  rw [Try.params13] at hA hval
  obtain ⟨v0, vs0, d0, ds0, p0, q0, hargs, rfl, rfl, h0, r0⟩ := trodAll_cons hA
  obtain ⟨rfl, rfl, rfl⟩ := trodAll_nil r0
  obtain rfl : args = #[v0] := by cases args; simp_all
  obtain ⟨rfl, rfl⟩ := trodVars_none hV
  obtain ⟨a0, len0, cap0, rfl⟩ := okWide_slice Try.underlying22 (hval 0 22 v0 rfl rfl)
  have k0 := h0
  have lt0 : ∀ x ∈ p0, x.block < W.heap.size := by obtain ⟨m, hm⟩ := k0; exact DataW.trod_lt m _ _ _ hm
  obtain ⟨z0, w0⟩ : ∃ zs, IsRow .u8 W a0 len0 cap0 zs := by
    obtain ⟨fuel, hf⟩ := h0
    rcases open_ints Try.underlying22 Try.underlying5 (by kernel_rfl) hf with ⟨hcs, _⟩ | ⟨x, l, c, zs, hcs, _, hl, hm, hz, _, hcell, hwz⟩
    · simp [Value.cells] at hcs
      obtain ⟨rfl, rfl, rfl⟩ := hcs
      exact ⟨[], .inl ⟨rfl, rfl, rfl, rfl⟩⟩
    · simp [Value.cells] at hcs
      obtain ⟨rfl, rfl, rfl⟩ := hcs
      exact ⟨zs, .inr ⟨_, rfl, hl, hm, by simpa using hz, hcell, hwz⟩⟩
  clear hA0 hval0
  refine (walk a0 len0 cap0 z0 W w0).mono fun e W' ⟨he, bel⟩ => ?_
  subst he
  exact ⟨_, rfl, _, _, _, [], _, [], hW', trodAll_mk1 (shut_bool Try.underlying4 _), (trodAll_cons_mk (Below.trod laidOut (by kernel_rfl) (of_decide_eq_true (by kernel_rfl)) k0 bel lt0) trodAll_mk0), rfl, bel.frame _, fun h => by cases h⟩

theorem over : Rows.fnJoinRow.holds Try.pinned (OpenSpec.ofChange Rows.fnJoinSpec) :=
  OpenClaim.holds_of_wide 13 Try.f13 rfl rfl rfl rfl rfl rfl rfl ⟨rfl, rfl, rfl, rfl, rfl⟩ rfl rfl rfl rfl rfl (by kernel_rfl) Try.func13 (by kernel_rfl)
    (of_decide_eq_true (by kernel_rfl)) (by unfold Func.isWrapper; first | (rw [if_pos (by decide +kernel)]; kernel_rfl) | (rw [if_neg (by decide +kernel)]; exact ⟨rfl, rfl⟩))
    (fun os started H enc _ => lifted os started H enc)

/-- The statement. -/
theorem proved : Rows.FnJoinSaid := over
end Go.Proofs.Ytbmpchpcihnbdaa.fnJoin
