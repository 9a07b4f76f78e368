/-
  The exact law of ViewPath: for every input the Go text of laws.FnExactViewPath returns true, and each argument reads afterwards as before. No condition.
-/
import Derived.Test.YtieldehghmikkaaRows
import Derived.Test.YtieldehghmikkaaPure
import Derived.Test.YtieldehghmikkaaHelp
import Derived.Test.YtieldehghmikkaaViewPath
import Derived.WalkKit
import Derived.ProofKit
import Derived.OpenShut
import Derived.ShutString
import Derived.ChangeOld
import Derived.Below
namespace Go.Proofs.Ytieldehghmikkaa.fnExactViewPath
open Go.ChangeShapes Go.WideShapes Go.ChangeAt Go.RowKit
open Go.ChangeMaps (open_string shut_string)
set_option linter.unusedVariables false
set_option linter.unusedSimpArgs false
set_option linter.unnecessarySimpa false

theorem own : ownKnob Try.prog.godebug = none := by kernel_rfl
theorem laidOut : laidOutB Try.prog = true := by kernel_rfl

set_option maxHeartbeats 4000000 in
theorem small (a0 : Option Addr) (len0 cap0 : Nat) (z0 : List Int) (a1 : Option Addr) (len1 cap1 : Nat) (z1 : List Int) (xs0 : List Int) (xs1 : List Int) (w : World) (hR0 : RdV w (.slice a0 len0 cap0) xs0) (hl0 : xs0.length ≤ 1048576) (hs0 : len0 ≤ 1048576) (hR1 : RdV w (.slice a1 len1 cap1) xs1) (hl1 : xs1.length ≤ 1048576) (hs1 : len1 ≤ 1048576)   :
    Calls Try.prog 12 #[.slice a0 len0 cap0, .slice a1 len1 cap1] w fun e w' => e = .returned (.bool true) ∧ Below w.heap.size w w' := by
  obtain ⟨r, b, hr⟩ : ∃ r b, (viewPath xs0 xs1) = (r, b) := ⟨_, _, rfl⟩
  have hi : ∀ (wx : World) (v0 : Value) (v1 : Value), RdV wx v0 xs0 → RdV wx v1 xs1 → Calls Try.prog 41 #[v0, v1] wx (GivesIB wx (r, b)) := by
    intro wx v0 v1 k0 k1
    rw [← hr]
    exact iViewPath_v v0 v1 xs0 xs1 wx k0 k1
  have hs : ∀ (wx : World) (v0 : Value) (v1 : Value), RdV wx v0 xs0 → RdV wx v1 xs1 → Calls Try.prog 40 #[v0, v1] wx (GivesIB wx (r, b)) := by
    intro wx v0 v1 k0 k1
    rw [← hr]
    exact sViewPath_v v0 v1 xs0 xs1 wx k0 k1
  clear hr
  have HI := Lib.hid hi
  have HS := Lib.hid hs
  clear hi hs
  have bel : Below w.heap.size w w := Below.refl _ _
  go_enter Try.func12, Try.ntmps12
  go_wp2_with fail
  refine (toIntS_v _ xs0 _ (rdv_below hR0 bel) hl0).mono ?_
  rintro e W1 ⟨v_p0, rfl, o, hb⟩
  have in_p0 := inB_of_own o
  have sz1 := hb.size
  have bel := below_step bel hb
  clear hb
  have o_p0 := o
  clear o
  go_wp2_with fail
  refine (toIntS_v _ xs1 _ (rdv_below hR1 bel) hl1).mono ?_
  rintro e W2 ⟨v_p1, rfl, o, hb⟩
  have in_p1 := inB_of_own o
  have sz2 := hb.size
  have bel := below_step bel hb
  have o_p0 := own_below o_p0 hb
  clear hb
  have o_p1 := o
  clear o
  go_wp2_with fail
  refine (HS.out _ _ _ (own_rdv o_p0) (own_rdv o_p1)).mono ?_
  rintro e W3 ⟨rfl, hb⟩
  have sz3 := hb.size
  have bel := below_step bel hb
  have o_p0 := own_below o_p0 hb
  have o_p1 := own_below o_p1 hb
  clear hb
  clear o_p0 in_p0
  clear o_p1 in_p1
  go_wp2_with fail
  refine (toIntS_v _ xs0 _ (rdv_below hR0 bel) hl0).mono ?_
  rintro e W4 ⟨v_x0, rfl, o, hb⟩
  have in_x0 := inB_of_own o
  have sz4 := hb.size
  have bel := below_step bel hb
  clear hb
  have o_x0 := o
  clear o
  go_wp2_with fail
  refine (toIntS_v _ xs1 _ (rdv_below hR1 bel) hl1).mono ?_
  rintro e W5 ⟨v_x1, rfl, o, hb⟩
  have in_x1 := inB_of_own o
  have sz5 := hb.size
  have bel := below_step bel hb
  have o_x0 := own_below o_x0 hb
  clear hb
  have o_x1 := o
  clear o
  go_wp2_with fail
  refine (HI.out _ _ _ (own_rdv o_x0) (own_rdv o_x1)).mono ?_
  rintro e W6 ⟨rfl, hb⟩
  have sz6 := hb.size
  have bel := below_step bel hb
  have o_x0 := own_below o_x0 hb
  have o_x1 := own_below o_x1 hb
  clear hb
  go_wp2_with fail
  refine (toIntS_v _ xs0 _ (rdv_below hR0 bel) hl0).mono ?_
  rintro e W7 ⟨v_y, rfl, o, hb⟩
  have in_y := inB_of_own o
  have sz7 := hb.size
  have bel := below_step bel hb
  have o_x0 := own_below o_x0 hb
  have o_x1 := own_below o_x1 hb
  clear hb
  have o_y := o
  clear o
  go_wp2_with fail
  refine (eqIntS_v _ _ xs0 _ (own_rdv o_x0) (own_rdv o_y)).mono ?_
  rintro e W8 ⟨rfl, hq⟩
  have hb := hq W7.heap.size
  clear hq
  have sz8 := hb.size
  have bel := below_step bel hb
  have o_x0 := own_below o_x0 hb
  have o_x1 := own_below o_x1 hb
  have o_y := own_below o_y hb
  clear hb
  clear o_y in_y
  go_wp2_with fail
  refine (toIntS_v _ xs1 _ (rdv_below hR1 bel) hl1).mono ?_
  rintro e W9 ⟨v_y, rfl, o, hb⟩
  have in_y := inB_of_own o
  have sz9 := hb.size
  have bel := below_step bel hb
  have o_x0 := own_below o_x0 hb
  have o_x1 := own_below o_x1 hb
  clear hb
  have o_y := o
  clear o
  go_wp2_with fail
  refine (eqIntS_v _ _ xs1 _ (own_rdv o_x1) (own_rdv o_y)).mono ?_
  rintro e W10 ⟨rfl, hq⟩
  have hb := hq W9.heap.size
  clear hq
  have sz10 := hb.size
  have bel := below_step bel hb
  have o_x0 := own_below o_x0 hb
  have o_x1 := own_below o_x1 hb
  have o_y := own_below o_y hb
  clear hb
  clear o_y in_y
  go_wp2
  go_ret
  exact ⟨rfl, bel⟩

theorem walk (a0 : Option Addr) (len0 cap0 : Nat) (z0 : List Int) (a1 : Option Addr) (len1 cap1 : Nat) (z1 : List Int) (w : World) (w0 : IsRow .i64 w a0 len0 cap0 z0) (w1 : IsRow .i64 w a1 len1 cap1 z1) :
    Calls Try.prog 12 #[.slice a0 len0 cap0, .slice a1 len1 cap1] w fun e w' => e = .returned (.bool true) ∧ Below w.heap.size w w' := by
  obtain ⟨xs0, hl0, hR0, _⟩ := rdv_of_row w0
  obtain ⟨xs1, hl1, hR1, _⟩ := rdv_of_row w1
  refine (Nat.lt_or_ge 1048576 len0).elim (fun hs0 => ?_) (fun hs0 => ?_)
  · go_enter Try.func12, Try.ntmps12
    go_wp2
    go_ret
    exact ⟨rfl, Below.refl _ _⟩
  refine (Nat.lt_or_ge 1048576 len1).elim (fun hs1 => ?_) (fun hs1 => ?_)
  · go_enter Try.func12, Try.ntmps12
    go_wp2
    go_ret
    exact ⟨rfl, Below.refl _ _⟩
  exact small a0 len0 cap0 z0 a1 len1 cap1 z1 xs0 xs1 w hR0 (by omega) hs0 hR1 (by omega) hs1

set_option maxRecDepth 100000 in
theorem lifted (os : Os) (started : os.Started) (H : Type) (enc : TypeId × Value → H) :
    ReturnsInHanded {} Try.checked os 12 .any (Rows.fnExactViewPathSpec.pre6 enc Try.prog Try.f12 Rows.fnExactViewPathRow.domain false) (Rows.fnExactViewPathSpec.post enc Try.prog Try.f12 false true false false) := by
  refine returnsInHanded_of_change (C := Try.checked) own started (by kernel_rfl) Try.func12
    (ChangeSpec.witness6 (enc := enc) (C := Try.checked) false ⟨#[], #[.slice none 0 0, .slice none 0 0], []⟩ 8 (by kernel_rfl) (by kernel_rfl) (by kernel_rfl) (by kernel_rfl)) ?_
  intro W base args ds gs before hval0 hW hcnd _
  have hval : ∀ (j : Nat) t v, Try.f12.params[j]? = some t → args[j]? = some v → Value.okWide Try.prog W .any base t v := hval0
  have hW' := hW
  obtain ⟨p, q, hA0, hV, rfl, hfz, hnd⟩ := hW
  have hA : DataW.TrodAll enc Try.prog W 0 (fun _ => true) true Try.f12.params.toList args.toList ds p := hA0
  rw [Try.params12] at hA hval
  obtain ⟨v0, vs0, d0, ds0, p0, q0, hargs, rfl, rfl, h0, r0⟩ := trodAll_cons hA
  obtain ⟨v1, vs1, d1, ds1, p1, q1, rfl, rfl, rfl, h1, r1⟩ := trodAll_cons r0
  obtain ⟨rfl, rfl, rfl⟩ := trodAll_nil r1
  obtain rfl : args = #[v0, v1] := by cases args; simp_all
  obtain ⟨rfl, rfl⟩ := trodVars_none hV
  obtain ⟨a0, len0, cap0, rfl⟩ := okWide_slice Try.underlying27 (hval 0 27 v0 rfl rfl)
  have k0 := h0
  have lt0 : ∀ x ∈ p0, x.block < W.heap.size := by obtain ⟨m, hm⟩ := k0; exact DataW.trod_lt m _ _ _ hm
  obtain ⟨z0, w0⟩ : ∃ zs, IsRow .i64 W a0 len0 cap0 zs := by
    obtain ⟨fuel, hf⟩ := h0
    rcases open_ints Try.underlying27 Try.underlying3 (by kernel_rfl) hf with ⟨hcs, _⟩ | ⟨x, l, c, zs, hcs, _, hl, hm, hz, _, hcell, hwz⟩
    · simp [Value.cells] at hcs
      obtain ⟨rfl, rfl, rfl⟩ := hcs
      exact ⟨[], .inl ⟨rfl, rfl, rfl, rfl⟩⟩
    · simp [Value.cells] at hcs
      obtain ⟨rfl, rfl, rfl⟩ := hcs
      exact ⟨zs, .inr ⟨_, rfl, hl, hm, by simpa using hz, hcell, hwz⟩⟩
  obtain ⟨a1, len1, cap1, rfl⟩ := okWide_slice Try.underlying27 (hval 1 27 v1 rfl rfl)
  have k1 := h1
  have lt1 : ∀ x ∈ p1, x.block < W.heap.size := by obtain ⟨m, hm⟩ := k1; exact DataW.trod_lt m _ _ _ hm
  obtain ⟨z1, w1⟩ : ∃ zs, IsRow .i64 W a1 len1 cap1 zs := by
    obtain ⟨fuel, hf⟩ := h1
    rcases open_ints Try.underlying27 Try.underlying3 (by kernel_rfl) hf with ⟨hcs, _⟩ | ⟨x, l, c, zs, hcs, _, hl, hm, hz, _, hcell, hwz⟩
    · simp [Value.cells] at hcs
      obtain ⟨rfl, rfl, rfl⟩ := hcs
      exact ⟨[], .inl ⟨rfl, rfl, rfl, rfl⟩⟩
    · simp [Value.cells] at hcs
      obtain ⟨rfl, rfl, rfl⟩ := hcs
      exact ⟨zs, .inr ⟨_, rfl, hl, hm, by simpa using hz, hcell, hwz⟩⟩
  clear hA0 hval0
  refine (walk a0 len0 cap0 z0 a1 len1 cap1 z1 W w0 w1).mono fun e W' ⟨he, bel⟩ => ?_
  subst he
  exact ⟨_, rfl, _, _, _, [], _, [], hW', trodAll_mk1 (shut_bool Try.underlying4 _), (trodAll_cons_mk (Below.trod laidOut (by kernel_rfl) (of_decide_eq_true (by kernel_rfl)) k0 bel lt0) (trodAll_cons_mk (Below.trod laidOut (by kernel_rfl) (of_decide_eq_true (by kernel_rfl)) k1 bel lt1) trodAll_mk0)), rfl, bel.frame _, fun h => by cases h⟩

theorem over : Rows.fnExactViewPathRow.holds Try.pinned (OpenSpec.ofChange Rows.fnExactViewPathSpec) :=
  OpenClaim.holds_of_wide 12 Try.f12 rfl rfl rfl rfl rfl rfl rfl ⟨rfl, rfl, rfl, rfl, rfl⟩ rfl rfl rfl rfl rfl (by kernel_rfl) Try.func12 (by kernel_rfl)
    (of_decide_eq_true (by kernel_rfl)) (by unfold Func.isWrapper; first | (rw [if_pos (by decide +kernel)]; kernel_rfl) | (rw [if_neg (by decide +kernel)]; exact ⟨rfl, rfl⟩))
    (fun os started H enc _ => lifted os started H enc)

/-- The statement. -/
theorem proved : Rows.FnExactViewPathSaid := over
end Go.Proofs.Ytieldehghmikkaa.fnExactViewPath
