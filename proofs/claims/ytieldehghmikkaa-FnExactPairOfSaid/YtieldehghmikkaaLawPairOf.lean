/-
  The exact law of PairOf: for every input the Go text of laws.FnExactPairOf returns true, and each argument reads afterwards as before. No condition.
-/
import Derived.Test.YtieldehghmikkaaRows
import Derived.Test.YtieldehghmikkaaPure
import Derived.Test.YtieldehghmikkaaHelp
import Derived.Test.YtieldehghmikkaaMatHelp
import Derived.Test.YtieldehghmikkaaHeldMat
import Derived.Test.YtieldehghmikkaaPairOfs
import Derived.WalkKit
import Derived.ProofKit
import Derived.OpenShut
import Derived.ShutString
import Derived.ChangeOld
import Derived.Below
namespace Go.Proofs.Ytieldehghmikkaa.fnExactPairOf
open Go.ChangeShapes Go.WideShapes Go.ChangeAt Go.RowKit
open Go.ChangeMaps (open_string shut_string)
set_option linter.unusedVariables false
set_option linter.unusedSimpArgs false
set_option linter.unnecessarySimpa false

theorem own : ownKnob Try.prog.godebug = none := by kernel_rfl
theorem laidOut : laidOutB Try.prog = true := by kernel_rfl

set_option maxHeartbeats 4000000 in
theorem small (a0 : Option Addr) (len0 cap0 : Nat) (z0 : List Int) (xs0 : List Int) (w : World) (hR0 : RdV w (.slice a0 len0 cap0) xs0) (hl0 : xs0.length ≤ 1048576) (hs0 : len0 ≤ 1048576)   :
    Calls Try.prog 4 #[.slice a0 len0 cap0] w fun e w' => e = .returned (.bool true) ∧ Below w.heap.size w w' := by
  obtain ⟨ys, b, hr⟩ : ∃ ys b, (pairOf xs0) = (ys, b) := ⟨_, _, rfl⟩
  have hi : ∀ (wx : World) (v0 : Value), RdV wx v0 xs0 → Calls Try.prog 20 #[v0] wx (FreshMB wx (ys, b)) := by
    intro wx v0 k0
    rw [← hr]
    exact iPairOf_v v0 xs0 wx k0
  have hs : ∀ (wx : World) (v0 : Value), RdV wx v0 xs0 → Calls Try.prog 18 #[v0] wx (FreshMB wx (ys, b)) := by
    intro wx v0 k0
    rw [← hr]
    exact sPairOf_v v0 xs0 wx k0
  have hy : ys.length ≤ 1000000 ∧ total ys ≤ 1000000 := by
    have := pairOf_len xs0 hl0
    rw [hr] at this
    exact this
  obtain ⟨hy, hyt⟩ := hy
  clear hr
  have HI := Lib.hid hi
  have HS := Lib.hid hs
  clear hi hs
  have bel : Below w.heap.size w w := Below.refl _ _
  go_enter Try.func4, Try.ntmps4
  go_wp2_with fail
  refine (toIntS_v _ xs0 _ (rdv_below hR0 bel) hl0).mono ?_
  rintro e W1 ⟨v_p0, rfl, o, hb⟩
  have in_p0 := inB_of_own o
  have sz1 := hb.size
  have bel := below_step bel hb
  clear hb
  have o_p0 := o
  clear o
  go_wp2_with fail
  refine (HS.out _ _ (own_rdv o_p0)).mono ?_
  rintro e W2 ⟨v_w, rfl, o, hb⟩
  have sz2 := hb.size
  have bel := below_step bel hb
  have o_p0 := own_below o_p0 hb
  clear hb
  have o_w := o
  clear o
  clear o_p0 in_p0
  go_wp2_with fail
  refine (toIntS_v _ xs0 _ (rdv_below hR0 bel) hl0).mono ?_
  rintro e W3 ⟨v_x0, rfl, o, hb⟩
  have in_x0 := inB_of_own o
  have sz3 := hb.size
  have bel := below_step bel hb
  have o_w := ownM_below o_w hb
  clear hb
  have o_x0 := o
  clear o
  go_wp2_with fail
  refine (HI.out _ _ (own_rdv o_x0)).mono ?_
  rintro e W4 ⟨v_g, rfl, o, hb⟩
  have sz4 := hb.size
  have bel := below_step bel hb
  have o_w := ownM_below o_w hb
  have o_x0 := own_below o_x0 hb
  clear hb
  have o_g := o
  clear o
  go_wp2_with fail
  refine (eqIntSS_v _ _ ys _ (ownM_rdM o_g) (ownM_rdM o_w)).mono ?_
  rintro e W5 ⟨rfl, hq⟩
  have hb := hq W4.heap.size
  clear hq
  have sz5 := hb.size
  have bel := below_step bel hb
  have o_w := ownM_below o_w hb
  have o_x0 := own_below o_x0 hb
  have o_g := ownM_below o_g hb
  clear hb
  go_wp2_with fail
  refine (toIntS_v _ xs0 _ (rdv_below hR0 bel) hl0).mono ?_
  rintro e W6 ⟨v_y, rfl, o, hb⟩
  have in_y := inB_of_own o
  have sz6 := hb.size
  have bel := below_step bel hb
  have o_w := ownM_below o_w hb
  have o_x0 := own_below o_x0 hb
  have o_g := ownM_below o_g hb
  clear hb
  have o_y := o
  clear o
  go_wp2_with fail
  refine (eqIntS_v _ _ xs0 _ (own_rdv o_x0) (own_rdv o_y)).mono ?_
  rintro e W7 ⟨rfl, hq⟩
  have hb := hq W6.heap.size
  clear hq
  have sz7 := hb.size
  have bel := below_step bel hb
  have o_w := ownM_below o_w hb
  have o_x0 := own_below o_x0 hb
  have o_g := ownM_below o_g hb
  have o_y := own_below o_y hb
  clear hb
  clear o_y in_y
  go_wp2_with fail
  refine (markIntS_v _ _ 1 xs0 _ o_x0 (by omega) (by omega) (by omega)).mono ?_
  rintro e W8 ⟨rfl, o, hg, hsz⟩
  have ht := touch_of_grown hg hsz in_x0
  clear hg hsz
  have bel := below_touch bel ht (by omega)
  have sz8 := Nat.le_of_eq ht.size.symm
  have o_w := ownM_touch o_w ht (by omega)
  have o_g := ownM_touch o_g ht (by omega)
  have o_x0 := o
  clear o ht
  go_wp2_with fail
  refine (eqIntSS_v _ _ ys _ (ownM_rdM o_g) (ownM_rdM o_w)).mono ?_
  rintro e W9 ⟨rfl, hq⟩
  have hb := hq W8.heap.size
  clear hq
  have sz9 := hb.size
  have bel := below_step bel hb
  have o_w := ownM_below o_w hb
  have o_x0 := own_below o_x0 hb
  have o_g := ownM_below o_g hb
  clear hb
  go_wp2_with fail
  refine (markIntSS_v _ W3.heap.size W4.heap.size 1 ys _ o_g (by omega) (by omega) (by omega) (by omega)).mono ?_
  rintro e W10 ⟨rfl, o, ht⟩
  have bel := below_touch bel ht (by omega)
  have sz10 := Nat.le_of_eq ht.size.symm
  have o_w := ownM_touch o_w ht (by omega)
  have o_x0 := own_touch o_x0 ht in_x0 (by omega)
  have o_g := o
  clear o ht
  go_wp2_with fail
  refine (heldIntSS_v _ 1 ys _ (ownM_rdM o_g) (by omega) (by omega) (by omega) (by omega)).mono ?_
  rintro e wz ⟨rfl, rfl⟩
  go_wp2_with fail
  refine (toIntS_v _ xs0 _ (rdv_below hR0 bel) hl0).mono ?_
  rintro e W11 ⟨v_z0, rfl, o, hb⟩
  have in_z0 := inB_of_own o
  have sz11 := hb.size
  have bel := below_step bel hb
  have o_w := ownM_below o_w hb
  have o_x0 := own_below o_x0 hb
  have o_g := ownM_below o_g hb
  clear hb
  have o_z0 := o
  clear o
  go_wp2_with fail
  refine (HI.out _ _ (own_rdv o_z0)).mono ?_
  rintro e W12 ⟨v_h, rfl, o, hb⟩
  have sz12 := hb.size
  have bel := below_step bel hb
  have o_w := ownM_below o_w hb
  have o_x0 := own_below o_x0 hb
  have o_g := ownM_below o_g hb
  have o_z0 := own_below o_z0 hb
  clear hb
  have o_h := o
  clear o
  go_wp2_with fail
  refine (eqIntSS_v _ _ ys _ (ownM_rdM o_h) (ownM_rdM o_w)).mono ?_
  rintro e W13 ⟨rfl, hq⟩
  have hb := hq W12.heap.size
  clear hq
  have sz13 := hb.size
  have bel := below_step bel hb
  have o_w := ownM_below o_w hb
  have o_x0 := own_below o_x0 hb
  have o_g := ownM_below o_g hb
  have o_z0 := own_below o_z0 hb
  have o_h := ownM_below o_h hb
  clear hb
  go_wp2_with fail
  refine (heldIntSS_v _ 1 ys _ (ownM_rdM o_g) (by omega) (by omega) (by omega) (by omega)).mono ?_
  rintro e wz ⟨rfl, rfl⟩
  go_wp2
  go_ret
  exact ⟨rfl, bel⟩

theorem walk (a0 : Option Addr) (len0 cap0 : Nat) (z0 : List Int) (w : World) (w0 : IsRow .i64 w a0 len0 cap0 z0) :
    Calls Try.prog 4 #[.slice a0 len0 cap0] w fun e w' => e = .returned (.bool true) ∧ Below w.heap.size w w' := by
  obtain ⟨xs0, hl0, hR0, _⟩ := rdv_of_row w0
  refine (Nat.lt_or_ge 1048576 len0).elim (fun hs0 => ?_) (fun hs0 => ?_)
  · go_enter Try.func4, Try.ntmps4
    go_wp2
    go_ret
    exact ⟨rfl, Below.refl _ _⟩
  exact small a0 len0 cap0 z0 xs0 w hR0 (by omega) hs0

set_option maxRecDepth 100000 in
theorem lifted (os : Os) (started : os.Started) (H : Type) (enc : TypeId × Value → H) :
    ReturnsInHanded {} Try.checked os 4 .any (Rows.fnExactPairOfSpec.pre6 enc Try.prog Try.f4 Rows.fnExactPairOfRow.domain false) (Rows.fnExactPairOfSpec.post enc Try.prog Try.f4 false true false false) := by
  refine returnsInHanded_of_change (C := Try.checked) own started (by kernel_rfl) Try.func4
    (ChangeSpec.witness6 (enc := enc) (C := Try.checked) false ⟨#[], #[.slice none 0 0], []⟩ 8 (by kernel_rfl) (by kernel_rfl) (by kernel_rfl) (by kernel_rfl)) ?_
  intro W base args ds gs before hval0 hW hcnd _
  have hval : ∀ (j : Nat) t v, Try.f4.params[j]? = some t → args[j]? = some v → Value.okWide Try.prog W .any base t v := hval0
  have hW' := hW
  obtain ⟨p, q, hA0, hV, rfl, hfz, hnd⟩ := hW
  have hA : DataW.TrodAll enc Try.prog W 0 (fun _ => true) true Try.f4.params.toList args.toList ds p := hA0
  rw [Try.params4] at hA hval
  obtain ⟨v0, vs0, d0, ds0, p0, q0, hargs, rfl, rfl, h0, r0⟩ := trodAll_cons hA
  obtain ⟨rfl, rfl, rfl⟩ := trodAll_nil r0
  obtain rfl : args = #[v0] := by cases args; simp_all
  obtain ⟨rfl, rfl⟩ := trodVars_none hV
  obtain ⟨a0, len0, cap0, rfl⟩ := okWide_slice Try.underlying27 (hval 0 27 v0 rfl rfl)
  have k0 := h0
  have lt0 : ∀ x ∈ p0, x.block < W.heap.size := by obtain ⟨m, hm⟩ := k0; exact DataW.trod_lt m _ _ _ hm
  obtain ⟨z0, w0⟩ : ∃ zs, IsRow .i64 W a0 len0 cap0 zs := by
    obtain ⟨fuel, hf⟩ := h0
    rcases open_ints Try.underlying27 Try.underlying3 (by kernel_rfl) hf with ⟨hcs, _⟩ | ⟨x, l, c, zs, hcs, _, hl, hm, hz, _, hcell, hwz⟩
    · simp [Value.cells] at hcs
      obtain ⟨rfl, rfl, rfl⟩ := hcs
      exact ⟨[], .inl ⟨rfl, rfl, rfl, rfl⟩⟩
    · simp [Value.cells] at hcs
      obtain ⟨rfl, rfl, rfl⟩ := hcs
      exact ⟨zs, .inr ⟨_, rfl, hl, hm, by simpa using hz, hcell, hwz⟩⟩
  clear hA0 hval0
  refine (walk a0 len0 cap0 z0 W w0).mono fun e W' ⟨he, bel⟩ => ?_
  subst he
  exact ⟨_, rfl, _, _, _, [], _, [], hW', trodAll_mk1 (shut_bool Try.underlying4 _), (trodAll_cons_mk (Below.trod laidOut (by kernel_rfl) (of_decide_eq_true (by kernel_rfl)) k0 bel lt0) trodAll_mk0), rfl, bel.frame _, fun h => by cases h⟩

theorem over : Rows.fnExactPairOfRow.holds Try.pinned (OpenSpec.ofChange Rows.fnExactPairOfSpec) :=
  OpenClaim.holds_of_wide 4 Try.f4 rfl rfl rfl rfl rfl rfl rfl ⟨rfl, rfl, rfl, rfl, rfl⟩ rfl rfl rfl rfl rfl (by kernel_rfl) Try.func4 (by kernel_rfl)
    (of_decide_eq_true (by kernel_rfl)) (by unfold Func.isWrapper; first | (rw [if_pos (by decide +kernel)]; kernel_rfl) | (rw [if_neg (by decide +kernel)]; exact ⟨rfl, rfl⟩))
    (fun os started H enc _ => lifted os started H enc)

/-- The statement. -/
theorem proved : Rows.FnExactPairOfSaid := over
end Go.Proofs.Ytieldehghmikkaa.fnExactPairOf
