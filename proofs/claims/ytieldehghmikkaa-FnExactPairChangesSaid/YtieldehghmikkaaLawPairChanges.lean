/-
  The exact law of PairChanges: for every input the Go text of laws.FnExactPairChanges returns true, and each argument reads afterwards as before. No condition.
-/
import Derived.Test.YtieldehghmikkaaRows
import Derived.Test.YtieldehghmikkaaPure
import Derived.Test.YtieldehghmikkaaHelp
import Derived.Test.YtieldehghmikkaaMatHelp
import Derived.Test.YtieldehghmikkaaPairChg
import Derived.Deep.Matrix
import Derived.WalkKit
import Derived.ProofKit
import Derived.OpenShut
import Derived.ShutString
import Derived.ChangeOld
import Derived.Below
namespace Go.Proofs.Ytieldehghmikkaa.fnExactPairChanges
open Go.ChangeShapes Go.WideShapes Go.ChangeAt Go.RowKit
open Go.ChangeMaps (open_string shut_string)
set_option linter.unusedVariables false
set_option linter.unusedSimpArgs false
set_option linter.unnecessarySimpa false

theorem own : ownKnob Try.prog.godebug = none := by kernel_rfl
theorem laidOut : laidOutB Try.prog = true := by kernel_rfl

set_option maxHeartbeats 4000000 in
theorem small (a0 : Int) (a1 : Option Addr) (len1 cap1 : Nat) (z1 : List (List Int)) (xs1 : List (List Int)) (w : World) (hR1 : RdM w (.slice a1 len1 cap1) xs1) (hl1 : xs1.length + total xs1 ≤ 1048576) (w0 : (Lit.int .i64 a0).wf = true)  :
    Calls Try.prog 7 #[.int .i64 a0, .slice a1 len1 cap1] w fun e w' => e = .returned (.bool true) ∧ Below w.heap.size w w' := by
  obtain ⟨r, b, hr⟩ : ∃ r b, (pairChanges a0 xs1) = (r, b) := ⟨_, _, rfl⟩
  have hi : ∀ (wx : World) (v1 : Value), RdM wx v1 xs1 → Calls Try.prog 31 #[.int .i64 a0, v1] wx (GivesIB wx (r, b)) := by
    intro wx v1 k1
    rw [← hr]
    exact iPairChanges_v v1 a0 xs1 wx k1 w0
  have hs : ∀ (wx : World) (v1 : Value), RdM wx v1 xs1 → Calls Try.prog 30 #[.int .i64 a0, v1] wx (GivesIB wx (r, b)) := by
    intro wx v1 k1
    rw [← hr]
    exact sPairChanges_v v1 a0 xs1 wx k1 w0
  clear hr
  have HI := Lib.hid hi
  have HS := Lib.hid hs
  clear hi hs
  have bel : Below w.heap.size w w := Below.refl _ _
  have hm1 : 0 ≤ szM xs1 := by unfold szM; rw [if_pos hl1]; omega
  go_enter Try.func7, Try.ntmps7
  go_wp2_with fail
  refine (szIntSS_v _ xs1 _ hR1).mono ?_
  rintro e wz ⟨rfl, rfl⟩
  go_wp2_with fail
  refine (toIntSS_v _ xs1 _ (rdM_below hR1 bel) (by omega) (fun i hi => by have := len_le_total xs1 i hi; omega)).mono ?_
  rintro e W1 ⟨v_p1, rfl, o, hb⟩
  have sz1 := hb.size
  have bel := below_step bel hb
  clear hb
  have o_p1 := o
  clear o
  go_wp2_with fail
  refine (HS.out _ _ (ownM_rdM o_p1)).mono ?_
  rintro e W2 ⟨rfl, hb⟩
  have sz2 := hb.size
  have bel := below_step bel hb
  have o_p1 := ownM_below o_p1 hb
  clear hb
  clear o_p1
  go_wp2_with fail
  refine (toIntSS_v _ xs1 _ (rdM_below hR1 bel) (by omega) (fun i hi => by have := len_le_total xs1 i hi; omega)).mono ?_
  rintro e W3 ⟨v_x1, rfl, o, hb⟩
  have sz3 := hb.size
  have bel := below_step bel hb
  clear hb
  have o_x1 := o
  clear o
  go_wp2_with fail
  refine (HI.out _ _ (ownM_rdM o_x1)).mono ?_
  rintro e W4 ⟨rfl, hb⟩
  have sz4 := hb.size
  have bel := below_step bel hb
  have o_x1 := ownM_below o_x1 hb
  clear hb
  go_wp2_with fail
  refine (toIntSS_v _ xs1 _ (rdM_below hR1 bel) (by omega) (fun i hi => by have := len_le_total xs1 i hi; omega)).mono ?_
  rintro e W5 ⟨v_y, rfl, o, hb⟩
  have sz5 := hb.size
  have bel := below_step bel hb
  have o_x1 := ownM_below o_x1 hb
  clear hb
  have o_y := o
  clear o
  go_wp2_with fail
  refine (eqIntSS_v _ _ xs1 _ (ownM_rdM o_x1) (ownM_rdM o_y)).mono ?_
  rintro e W6 ⟨rfl, hq⟩
  have hb := hq W5.heap.size
  clear hq
  have sz6 := hb.size
  have bel := below_step bel hb
  have o_x1 := ownM_below o_x1 hb
  have o_y := ownM_below o_y hb
  clear hb
  clear o_y
  go_wp2
  go_ret
  exact ⟨rfl, bel⟩

theorem walk (a0 : Int) (a1 : Option Addr) (len1 cap1 : Nat) (z1 : List (List Int)) (w : World) (w0 : (Lit.int .i64 a0).wf = true) (w1 : RdM w (.slice a1 len1 cap1) z1) :
    Calls Try.prog 7 #[.int .i64 a0, .slice a1 len1 cap1] w fun e w' => e = .returned (.bool true) ∧ Below w.heap.size w w' := by
  refine (Nat.lt_or_ge 1048576 (z1.length + total z1)).elim (fun hs1 => ?_) (fun hs1 => ?_)
  · have hm1 : szM z1 < 0 := by unfold szM; rw [if_neg (by omega)]; omega
    go_enter Try.func7, Try.ntmps7
    go_wp2_with fail
    refine (szIntSS_v _ z1 _ w1).mono ?_
    rintro e wz ⟨rfl, rfl⟩
    go_wp2
    go_ret
    exact ⟨rfl, Below.refl _ _⟩
  exact small a0 a1 len1 cap1 z1 z1 w w1 hs1 w0

set_option maxRecDepth 100000 in
theorem lifted (os : Os) (started : os.Started) (H : Type) (enc : TypeId × Value → H) :
    ReturnsInHanded {} Try.checked os 7 .any (Rows.fnExactPairChangesSpec.pre6 enc Try.prog Try.f7 Rows.fnExactPairChangesRow.domain false) (Rows.fnExactPairChangesSpec.post enc Try.prog Try.f7 false true false false) := by
  refine returnsInHanded_of_change (C := Try.checked) own started (by kernel_rfl) Try.func7
    (ChangeSpec.witness6 (enc := enc) (C := Try.checked) false ⟨#[], #[.int .i64 0, .slice none 0 0], []⟩ 8 (by kernel_rfl) (by kernel_rfl) (by kernel_rfl) (by kernel_rfl)) ?_
  intro W base args ds gs before hval0 hW hcnd _
  have hval : ∀ (j : Nat) t v, Try.f7.params[j]? = some t → args[j]? = some v → Value.okWide Try.prog W .any base t v := hval0
  have hW' := hW
  obtain ⟨p, q, hA0, hV, rfl, hfz, hnd⟩ := hW
  have hA : DataW.TrodAll enc Try.prog W 0 (fun _ => true) true Try.f7.params.toList args.toList ds p := hA0
  rw [Try.params7] at hA hval
  obtain ⟨v0, vs0, d0, ds0, p0, q0, hargs, rfl, rfl, h0, r0⟩ := trodAll_cons hA
  obtain ⟨v1, vs1, d1, ds1, p1, q1, rfl, rfl, rfl, h1, r1⟩ := trodAll_cons r0
  obtain ⟨rfl, rfl, rfl⟩ := trodAll_nil r1
  obtain rfl : args = #[v0, v1] := by cases args; simp_all
  obtain ⟨rfl, rfl⟩ := trodVars_none hV
  obtain ⟨a0, rfl, rfl, rfl, w0⟩ := open_int Try.underlying3 (hval 0 3 v0 rfl rfl) h0
  obtain ⟨a1, len1, cap1, rfl⟩ := okWide_slice Try.underlying22 (hval 1 22 v1 rfl rfl)
  have k1 := h1
  have lt1 : ∀ x ∈ p1, x.block < W.heap.size := by obtain ⟨m, hm⟩ := k1; exact DataW.trod_lt m _ _ _ hm
  obtain ⟨z1, w1⟩ : ∃ xss, RdM W (.slice a1 len1 cap1) xss := by
    obtain ⟨fuel, hf⟩ := h1
    rcases Go.Deep.open_int_rows Try.underlying22 Try.underlying27 Try.underlying3 (by kernel_rfl) (by kernel_rfl) hf with ⟨hcs, _⟩ | ⟨x, l, c, A, L, C, Z, hcs, _, hl, hm, _, hr⟩
    · simp [Value.cells] at hcs
      obtain ⟨rfl, rfl, rfl⟩ := hcs
      exact ⟨[], none, 0, [], rfl, rfl, Nat.le_refl _, Nat.zero_le _, .inl rfl, fun i hi => by simp at hi⟩
    · simp [Value.cells] at hcs
      obtain ⟨rfl, rfl, rfl⟩ := hcs
      exact ⟨_, rdM_of_rows hl hm hr⟩
  clear hA0 hval0
  refine (walk a0 a1 len1 cap1 z1 W w0 w1).mono fun e W' ⟨he, bel⟩ => ?_
  subst he
  exact ⟨_, rfl, _, _, _, [], _, [], hW', trodAll_mk1 (shut_bool Try.underlying4 _), (trodAll_cons_mk (shut_int Try.underlying3 w0) (trodAll_cons_mk (Below.trod laidOut (by kernel_rfl) (of_decide_eq_true (by kernel_rfl)) k1 bel lt1) trodAll_mk0)), rfl, bel.frame _, fun h => by cases h⟩

theorem over : Rows.fnExactPairChangesRow.holds Try.pinned (OpenSpec.ofChange Rows.fnExactPairChangesSpec) :=
  OpenClaim.holds_of_wide 7 Try.f7 rfl rfl rfl rfl rfl rfl rfl ⟨rfl, rfl, rfl, rfl, rfl⟩ rfl rfl rfl rfl rfl (by kernel_rfl) Try.func7 (by kernel_rfl)
    (of_decide_eq_true (by kernel_rfl)) (by unfold Func.isWrapper; first | (rw [if_pos (by decide +kernel)]; kernel_rfl) | (rw [if_neg (by decide +kernel)]; exact ⟨rfl, rfl⟩))
    (fun os started H enc _ => lifted os started H enc)

/-- The statement. -/
theorem proved : Rows.FnExactPairChangesSaid := over
end Go.Proofs.Ytieldehghmikkaa.fnExactPairChanges
