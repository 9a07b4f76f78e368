/-
  The law of the ranks of meets and joins. For every input the Go text of laws.FnRanks returns true, and its argument reads afterwards as before. No condition.
-/
import Derived.Test.YtbmpchpcihnbdaaDrawPart
import Derived.Test.YtbmpchpcihnbdaaSame
import Derived.Test.YtbmpchpcihnbdaaRows
import Derived.Test.YtbmpchpcihnbdaaPure
import Derived.Test.YtbmpchpcihnbdaaHelp
import Derived.Test.YtbmpchpcihnbdaaDrawTwo
import Derived.Test.YtbmpchpcihnbdaaPlainMath
import Derived.Test.YtbmpchpcihnbdaaFinJoin
import Derived.Test.YtbmpchpcihnbdaaFinJoinS
import Derived.Test.YtbmpchpcihnbdaaFinMeet
import Derived.Test.YtbmpchpcihnbdaaFinRank
import Derived.Test.YtbmpchpcihnbdaaPlainKit
import Derived.Test.YtbmpchpcihnbdaaRankMath
import Derived.WalkKit
import Derived.ProofKit
import Derived.OpenShut
import Derived.ShutString
import Derived.ChangeOld
import Derived.Below
namespace Go.Proofs.Ytbmpchpcihnbdaa.fnRanks
open Go.ChangeShapes Go.WideShapes Go.ChangeAt Go.RowKit
open Go.ChangeMaps (open_string shut_string)
set_option linter.unusedVariables false
set_option linter.unusedSimpArgs false
set_option linter.unnecessarySimpa false

theorem own : ownKnob Try.prog.godebug = none := by kernel_rfl
theorem laidOut : laidOutB Try.prog = true := by kernel_rfl

theorem sameInts_t (v u : Value) (xs : List Int) (w : World) (hv : RdV w v xs) (hu : RdV w u xs) : Calls Try.prog 25 #[v, u] w fun e w' => e = .returned (.bool true) ∧ Same w w' :=
  (sameInts_v v u xs xs w hv hu).mono fun e w' ⟨he, hw⟩ => ⟨by rw [he]; simp, hw⟩

theorem draw_any (a : Option Addr) (len cap : Nat) (w : World) (hby : Bytes w a len) (hlen : len ≤ 1048576) (hc : len ≤ cap) (hcm : cap ≤ maxLen) :
    Calls Try.prog 49 #[.slice a len cap] w (TwoDrawn w) := by
  go_enter Try.func49, Try.ntmps49
  go_wp2_with fail
  refine (l91Two_any a len cap w hby hlen hc hcm).mono ?_
  rintro e w1 ⟨v, u, xs, ys, rfl, h⟩
  go_wp2
  go_ret2
  exact ⟨v, u, xs, ys, rfl, h⟩

set_option maxRecDepth 100000 in
set_option maxHeartbeats 4000000 in
theorem small (a0 : Option Addr) (len0 cap0 : Nat) (w : World) (hB : Bytes w a0 len0) (hc : len0 ≤ cap0) (hcm : cap0 ≤ maxLen) (hs0 : len0 ≤ 1048576) :
    Calls Try.prog 14 #[.slice a0 len0 cap0] w fun e w' => e = .returned (.bool true) ∧ Below w.heap.size w w' := by
  have bel : Below w.heap.size w w := Below.refl _ _
  go_enter Try.func14, Try.ntmps14
  go_wp2_with fail
  refine (draw_any a0 len0 cap0 _ hB hs0 hc hcm).mono ?_
  rintro e W1 ⟨v_a, v_b, xs, ys, rfl, o, o2, hl9, hl9b, hb⟩
  have bel := below_step bel hb
  clear hb
  have o_a := o
  have o_b := o2
  clear o o2
  cases hf : alike xs ys
  · have e1 := finerMeet_no hf
    have HI := Lib.hid (fun (wx : World) (v0 : Value) (v1 : Value) (k0 : RdV wx v0 xs) (k1 : RdV wx v1 ys) => e1 ▸ iFinerMeet_v v0 v1 xs ys wx k0 k1)
    have HS := Lib.hid (fun (wx : World) (v0 : Value) (v1 : Value) (k0 : RdV wx v0 xs) (k1 : RdV wx v1 ys) => e1 ▸ sFinerMeet_v v0 v1 xs ys wx k0 k1)
    clear hf e1
    go_wp2_with fail
    refine (HI.out _ _ _ (own_rdv o_a) (own_rdv o_b)).mono ?_
    rintro e W2 ⟨v_o, rfl, o, hb⟩
    have bel := below_step bel hb
    have o_a := own_below o_a hb
    have o_b := own_below o_b hb
    clear hb
    have o_o := o
    clear o
    go_wp2_with fail
    refine (HS.out _ _ _ (own_rdv o_a) (own_rdv o_b)).mono ?_
    rintro e W3 ⟨v_w, rfl, o, hb⟩
    have bel := below_step bel hb
    have o_a := own_below o_a hb
    have o_b := own_below o_b hb
    have o_o := own_below o_o hb
    clear hb
    have o_w := o
    clear o
    go_wp2_with fail
    refine (sameInts_t _ _ [] _ (own_rdv o_o) (own_rdv o_w)).mono ?_
    rintro e W4 ⟨rfl, hq⟩
    have hb := hq W3.heap.size
    clear hq
    have bel := below_step bel hb
    have o_a := own_below o_a hb
    have o_b := own_below o_b hb
    have o_o := own_below o_o hb
    have o_w := own_below o_w hb
    clear hb
    go_wp2_with fail
    refine (sameInts_t _ _ [] _ (own_rdv o_o) (own_rdv o_w)).mono ?_
    rintro e W5 ⟨rfl, hq⟩
    have hb := hq W4.heap.size
    clear hq
    have bel := below_step bel hb
    have o_a := own_below o_a hb
    have o_b := own_below o_b hb
    have o_o := own_below o_o hb
    have o_w := own_below o_w hb
    clear hb
    go_wp2
    go_ret
    exact ⟨rfl, bel⟩
  · have e1 := finerMeet_yes hf
    have e2 := finerJoin_yes hf
    obtain ⟨rm, rj, ra, rb, e3, e4, e5, e6, hle, bm, bj, ba, bb⟩ := ranks_facts hf
    generalize kOut (mix 8 xs ys) = m at *
    generalize kOut (joinAll xs ys xs.length xs.length) = j at *
    have HI := Lib.hid (fun (wx : World) (v0 : Value) (v1 : Value) (k0 : RdV wx v0 xs) (k1 : RdV wx v1 ys) => e1 ▸ iFinerMeet_v v0 v1 xs ys wx k0 k1)
    have HS := Lib.hid (fun (wx : World) (v0 : Value) (v1 : Value) (k0 : RdV wx v0 xs) (k1 : RdV wx v1 ys) => e1 ▸ sFinerMeet_v v0 v1 xs ys wx k0 k1)
    have HJ := Lib.hid (fun (wx : World) (v0 : Value) (v1 : Value) (k0 : RdV wx v0 xs) (k1 : RdV wx v1 ys) => e2 ▸ iFinerJoin_v v0 v1 xs ys wx k0 k1)
    have HA := Lib.hid (fun (wx : World) (v0 : Value) (k0 : RdV wx v0 m) => e3 ▸ iFinerRank_v v0 m wx k0)
    have HB := Lib.hid (fun (wx : World) (v0 : Value) (k0 : RdV wx v0 j) => e4 ▸ iFinerRank_v v0 j wx k0)
    have HC := Lib.hid (fun (wx : World) (v0 : Value) (k0 : RdV wx v0 xs) => e5 ▸ iFinerRank_v v0 xs wx k0)
    have HD := Lib.hid (fun (wx : World) (v0 : Value) (k0 : RdV wx v0 ys) => e6 ▸ iFinerRank_v v0 ys wx k0)
    have c1 : IntKind.i64.wrap (rm + rj) = rm + rj := IntWalk.i64_in _ (by omega)
    have c2 : IntKind.i64.wrap (ra + rb) = ra + rb := IntWalk.i64_in _ (by omega)
    clear e1 e2 e3 e4 e5 e6 hf bm bj ba bb
    go_wp2_with fail
    refine (HI.out _ _ _ (own_rdv o_a) (own_rdv o_b)).mono ?_
    rintro e W2 ⟨v_o, rfl, o, hb⟩
    have bel := below_step bel hb
    have o_a := own_below o_a hb
    have o_b := own_below o_b hb
    clear hb
    have o_o := o
    clear o
    go_wp2_with fail
    refine (HS.out _ _ _ (own_rdv o_a) (own_rdv o_b)).mono ?_
    rintro e W3 ⟨v_w, rfl, o, hb⟩
    have bel := below_step bel hb
    have o_a := own_below o_a hb
    have o_b := own_below o_b hb
    have o_o := own_below o_o hb
    clear hb
    have o_w := o
    clear o
    go_wp2_with fail
    refine (sameInts_t _ _ m _ (own_rdv o_o) (own_rdv o_w)).mono ?_
    rintro e W4 ⟨rfl, hq⟩
    have hb := hq W3.heap.size
    clear hq
    have bel := below_step bel hb
    have o_a := own_below o_a hb
    have o_b := own_below o_b hb
    have o_o := own_below o_o hb
    have o_w := own_below o_w hb
    clear hb
    clear o_w
    go_wp2_with fail
    refine (HJ.out _ _ _ (own_rdv o_a) (own_rdv o_b)).mono ?_
    rintro e W5 ⟨v_j, rfl, o, hb⟩
    have bel := below_step bel hb
    have o_a := own_below o_a hb
    have o_b := own_below o_b hb
    have o_o := own_below o_o hb
    clear hb
    have o_j := o
    clear o
    go_wp2_with fail
    refine (HA.out _ _ (own_rdv o_o)).mono ?_
    rintro e W6 ⟨rfl, hb⟩
    have bel := below_step bel hb
    have o_a := own_below o_a hb
    have o_b := own_below o_b hb
    have o_o := own_below o_o hb
    have o_j := own_below o_j hb
    clear hb
    go_wp2_with fail
    refine (HB.out _ _ (own_rdv o_j)).mono ?_
    rintro e W7 ⟨rfl, hb⟩
    have bel := below_step bel hb
    have o_a := own_below o_a hb
    have o_b := own_below o_b hb
    have o_o := own_below o_o hb
    have o_j := own_below o_j hb
    clear hb
    go_wp2_with fail
    refine (HC.out _ _ (own_rdv o_a)).mono ?_
    rintro e W8 ⟨rfl, hb⟩
    have bel := below_step bel hb
    have o_a := own_below o_a hb
    have o_b := own_below o_b hb
    have o_o := own_below o_o hb
    have o_j := own_below o_j hb
    clear hb
    go_wp2_with fail
    refine (HD.out _ _ (own_rdv o_b)).mono ?_
    rintro e W9 ⟨rfl, hb⟩
    have bel := below_step bel hb
    have o_a := own_below o_a hb
    have o_b := own_below o_b hb
    have o_o := own_below o_o hb
    have o_j := own_below o_j hb
    clear hb
    go_wp2
    go_ret
    exact ⟨rfl, bel⟩

theorem walk (a0 : Option Addr) (len0 cap0 : Nat) (z0 : List Int) (w : World) (w0 : IsRow .u8 w a0 len0 cap0 z0) :
    Calls Try.prog 14 #[.slice a0 len0 cap0] w fun e w' => e = .returned (.bool true) ∧ Below w.heap.size w w' := by
  obtain ⟨hB, hc, hcm⟩ := bytes_of_row w0
  refine (Nat.lt_or_ge 1048576 len0).elim (fun hs0 => ?_) (fun hs0 => ?_)
  · go_enter Try.func14, Try.ntmps14
    go_wp2
    go_ret
    exact ⟨rfl, Below.refl _ _⟩
  exact small a0 len0 cap0 w hB hc hcm hs0

set_option maxRecDepth 100000 in
theorem lifted (os : Os) (started : os.Started) (H : Type) (enc : TypeId × Value → H) :
    ReturnsInHanded {} Try.checked os 14 .any (Rows.fnRanksSpec.pre6 enc Try.prog Try.f14 Rows.fnRanksRow.domain false) (Rows.fnRanksSpec.post enc Try.prog Try.f14 false true false false) := by
  refine returnsInHanded_of_change (C := Try.checked) own started (by kernel_rfl) Try.func14
    (ChangeSpec.witness6 (enc := enc) (C := Try.checked) false ⟨#[], #[.slice none 0 0], []⟩ 8 (by kernel_rfl) (by kernel_rfl) (by kernel_rfl) (by kernel_rfl)) ?_
  intro W base args ds gs before hval0 hW hcnd _
  have hval : ∀ (j : Nat) t v, Try.f14.params[j]? = some t → args[j]? = some v → Value.okWide Try.prog W .any base t v := hval0
  have hW' := hW
  obtain ⟨p, q, hA0, hV, rfl, hfz, hnd⟩ := hW
  have hA : DataW.TrodAll enc Try.prog W 0 (fun _ => true) true Try.f14.params.toList args.toList ds p := hA0
  rw [Try.params14] at hA hval
  obtain ⟨v0, vs0, d0, ds0, p0, q0, hargs, rfl, rfl, h0, r0⟩ := trodAll_cons hA
  obtain ⟨rfl, rfl, rfl⟩ := trodAll_nil r0
  obtain rfl : args = #[v0] := by cases args; simp_all
  obtain ⟨rfl, rfl⟩ := trodVars_none hV
  obtain ⟨a0, len0, cap0, rfl⟩ := okWide_slice Try.underlying22 (hval 0 22 v0 rfl rfl)
  have k0 := h0
  have lt0 : ∀ x ∈ p0, x.block < W.heap.size := by obtain ⟨m, hm⟩ := k0; exact DataW.trod_lt m _ _ _ hm
  obtain ⟨z0, w0⟩ : ∃ zs, IsRow .u8 W a0 len0 cap0 zs := by
    obtain ⟨fuel, hf⟩ := h0
    rcases open_ints Try.underlying22 Try.underlying5 (by kernel_rfl) hf with ⟨hcs, _⟩ | ⟨x, l, c, zs, hcs, _, hl, hm, hz, _, hcell, hwz⟩
    · simp [Value.cells] at hcs
      obtain ⟨rfl, rfl, rfl⟩ := hcs
      exact ⟨[], .inl ⟨rfl, rfl, rfl, rfl⟩⟩
    · simp [Value.cells] at hcs
      obtain ⟨rfl, rfl, rfl⟩ := hcs
      exact ⟨zs, .inr ⟨_, rfl, hl, hm, by simpa using hz, hcell, hwz⟩⟩
  clear hA0 hval0
  refine (walk a0 len0 cap0 z0 W w0).mono fun e W' ⟨he, bel⟩ => ?_
  subst he
  exact ⟨_, rfl, _, _, _, [], _, [], hW', trodAll_mk1 (shut_bool Try.underlying4 _), (trodAll_cons_mk (Below.trod laidOut (by kernel_rfl) (of_decide_eq_true (by kernel_rfl)) k0 bel lt0) trodAll_mk0), rfl, bel.frame _, fun h => by cases h⟩

theorem over : Rows.fnRanksRow.holds Try.pinned (OpenSpec.ofChange Rows.fnRanksSpec) :=
  OpenClaim.holds_of_wide 14 Try.f14 rfl rfl rfl rfl rfl rfl rfl ⟨rfl, rfl, rfl, rfl, rfl⟩ rfl rfl rfl rfl rfl (by kernel_rfl) Try.func14 (by kernel_rfl)
    (of_decide_eq_true (by kernel_rfl)) (by unfold Func.isWrapper; first | (rw [if_pos (by decide +kernel)]; kernel_rfl) | (rw [if_neg (by decide +kernel)]; exact ⟨rfl, rfl⟩))
    (fun os started H enc _ => lifted os started H enc)

/-- The statement. -/
theorem proved : Rows.FnRanksSaid := over
end Go.Proofs.Ytbmpchpcihnbdaa.fnRanks
