/-
  The exact law of ListAll: for every input the Go text of laws.FnExactListAll returns true, and each argument reads afterwards as before. No condition.
-/
import Derived.Test.YtlnbdanojhbdeaaRows
import Derived.Test.YtlnbdanojhbdeaaPure
import Derived.Test.YtlnbdanojhbdeaaHelp
import Derived.Test.YtlnbdanojhbdeaaMatHelp
import Derived.Test.YtlnbdanojhbdeaaHeldMat
import Derived.Test.YtlnbdanojhbdeaaListsU
import Derived.WalkKit
import Derived.ProofKit
import Derived.OpenShut
import Derived.ShutString
import Derived.ChangeOld
import Derived.Below
namespace Go.Proofs.Ytlnbdanojhbdeaa.fnExactListAll
open Go.ChangeShapes Go.WideShapes Go.ChangeAt Go.RowKit
open Go.ChangeMaps (open_string shut_string)
set_option linter.unusedVariables false
set_option linter.unusedSimpArgs false
set_option linter.unnecessarySimpa false

theorem own : ownKnob Try.prog.godebug = none := by kernel_rfl
theorem laidOut : laidOutB Try.prog = true := by kernel_rfl

set_option maxHeartbeats 4000000 in
theorem small (a0 : Int)  (w : World)  (w0 : (Lit.int .i64 a0).wf = true)  :
    Calls Try.prog 3 #[.int .i64 a0] w fun e w' => e = .returned (.bool true) ∧ Below w.heap.size w w' := by
  obtain ⟨ys, b, hr⟩ : ∃ ys b, (listAll a0) = (ys, b) := ⟨_, _, rfl⟩
  have hi : ∀ (wx : World) , Calls Try.prog 11 #[.int .i64 a0] wx (FreshMB wx (ys, b)) := by
    intro wx
    rw [← hr]
    exact iListAll_v a0 wx w0
  have hs : ∀ (wx : World) , Calls Try.prog 10 #[.int .i64 a0] wx (FreshMB wx (ys, b)) := by
    intro wx
    rw [← hr]
    exact sListAll_v a0 wx w0
  have hy : ys.length ≤ 1000000 ∧ total ys ≤ 1000000 := by
    have := listAll_len a0
    rw [hr] at this
    exact this
  obtain ⟨hy, hyt⟩ := hy
  clear hr
  have HI := Lib.hid hi
  have HS := Lib.hid hs
  clear hi hs
  have bel : Below w.heap.size w w := Below.refl _ _
  go_enter Try.func3, Try.ntmps3
  go_wp2_with fail
  refine (HS.out _ ).mono ?_
  rintro e W1 ⟨v_w, rfl, o, hb⟩
  have sz1 := hb.size
  have bel := below_step bel hb
  clear hb
  have o_w := o
  clear o
  go_wp2_with fail
  refine (HI.out _ ).mono ?_
  rintro e W2 ⟨v_g, rfl, o, hb⟩
  have sz2 := hb.size
  have bel := below_step bel hb
  have o_w := ownM_below o_w hb
  clear hb
  have o_g := o
  clear o
  go_wp2_with fail
  refine (eqIntSS_v _ _ ys _ (ownM_rdM o_g) (ownM_rdM o_w)).mono ?_
  rintro e W3 ⟨rfl, hq⟩
  have hb := hq W2.heap.size
  clear hq
  have sz3 := hb.size
  have bel := below_step bel hb
  have o_w := ownM_below o_w hb
  have o_g := ownM_below o_g hb
  clear hb
  go_wp2_with fail
  refine (markIntSS_v _ W1.heap.size W2.heap.size 1 ys _ o_g (by omega) (by omega) (by omega) (by omega)).mono ?_
  rintro e W4 ⟨rfl, o, ht⟩
  have bel := below_touch bel ht (by omega)
  have sz4 := Nat.le_of_eq ht.size.symm
  have o_w := ownM_touch o_w ht (by omega)
  have o_g := o
  clear o ht
  go_wp2_with fail
  refine (heldIntSS_v _ 1 ys _ (ownM_rdM o_g) (by omega) (by omega) (by omega) (by omega)).mono ?_
  rintro e wz ⟨rfl, rfl⟩
  go_wp2_with fail
  refine (HI.out _ ).mono ?_
  rintro e W5 ⟨v_h, rfl, o, hb⟩
  have sz5 := hb.size
  have bel := below_step bel hb
  have o_w := ownM_below o_w hb
  have o_g := ownM_below o_g hb
  clear hb
  have o_h := o
  clear o
  go_wp2_with fail
  refine (eqIntSS_v _ _ ys _ (ownM_rdM o_h) (ownM_rdM o_w)).mono ?_
  rintro e W6 ⟨rfl, hq⟩
  have hb := hq W5.heap.size
  clear hq
  have sz6 := hb.size
  have bel := below_step bel hb
  have o_w := ownM_below o_w hb
  have o_g := ownM_below o_g hb
  have o_h := ownM_below o_h hb
  clear hb
  go_wp2_with fail
  refine (heldIntSS_v _ 1 ys _ (ownM_rdM o_g) (by omega) (by omega) (by omega) (by omega)).mono ?_
  rintro e wz ⟨rfl, rfl⟩
  go_wp2
  go_ret
  exact ⟨rfl, bel⟩

theorem walk (a0 : Int) (w : World) (w0 : (Lit.int .i64 a0).wf = true) :
    Calls Try.prog 3 #[.int .i64 a0] w fun e w' => e = .returned (.bool true) ∧ Below w.heap.size w w' := by
  exact small a0 w w0

set_option maxRecDepth 100000 in
theorem lifted (os : Os) (started : os.Started) (H : Type) (enc : TypeId × Value → H) :
    ReturnsInHanded {} Try.checked os 3 .any (Rows.fnExactListAllSpec.pre6 enc Try.prog Try.f3 Rows.fnExactListAllRow.domain false) (Rows.fnExactListAllSpec.post enc Try.prog Try.f3 false true false false) := by
  refine returnsInHanded_of_change (C := Try.checked) own started (by kernel_rfl) Try.func3
    (ChangeSpec.witness6 (enc := enc) (C := Try.checked) false ⟨#[], #[.int .i64 0], []⟩ 8 (by kernel_rfl) (by kernel_rfl) (by kernel_rfl) (by kernel_rfl)) ?_
  intro W base args ds gs before hval0 hW hcnd _
  have hval : ∀ (j : Nat) t v, Try.f3.params[j]? = some t → args[j]? = some v → Value.okWide Try.prog W .any base t v := hval0
  have hW' := hW
  obtain ⟨p, q, hA0, hV, rfl, hfz, hnd⟩ := hW
  have hA : DataW.TrodAll enc Try.prog W 0 (fun _ => true) true Try.f3.params.toList args.toList ds p := hA0
  rw [Try.params3] at hA hval
  obtain ⟨v0, vs0, d0, ds0, p0, q0, hargs, rfl, rfl, h0, r0⟩ := trodAll_cons hA
  obtain ⟨rfl, rfl, rfl⟩ := trodAll_nil r0
  obtain rfl : args = #[v0] := by cases args; simp_all
  obtain ⟨rfl, rfl⟩ := trodVars_none hV
  obtain ⟨a0, rfl, rfl, rfl, w0⟩ := open_int Try.underlying3 (hval 0 3 v0 rfl rfl) h0
  clear hA0 hval0
  refine (walk a0 W w0).mono fun e W' ⟨he, bel⟩ => ?_
  subst he
  exact ⟨_, rfl, _, _, _, [], _, [], hW', trodAll_mk1 (shut_bool Try.underlying4 _), (trodAll_cons_mk (shut_int Try.underlying3 w0) trodAll_mk0), rfl, bel.frame _, fun h => by cases h⟩

theorem over : Rows.fnExactListAllRow.holds Try.pinned (OpenSpec.ofChange Rows.fnExactListAllSpec) :=
  OpenClaim.holds_of_wide 3 Try.f3 rfl rfl rfl rfl rfl rfl rfl ⟨rfl, rfl, rfl, rfl, rfl⟩ rfl rfl rfl rfl rfl (by kernel_rfl) Try.func3 (by kernel_rfl)
    (of_decide_eq_true (by kernel_rfl)) (by unfold Func.isWrapper; first | (rw [if_pos (by decide +kernel)]; kernel_rfl) | (rw [if_neg (by decide +kernel)]; exact ⟨rfl, rfl⟩))
    (fun os started H enc _ => lifted os started H enc)

/-- The statement. -/
theorem proved : Rows.FnExactListAllSaid := over
end Go.Proofs.Ytlnbdanojhbdeaa.fnExactListAll
