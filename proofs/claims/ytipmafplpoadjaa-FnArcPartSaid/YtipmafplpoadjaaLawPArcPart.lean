/-
  The law of parts of arcs. For every input the Go text of laws.FnArcPart returns true, and its argument reads afterwards as before. No condition.
-/
import Derived.Test.YtipmafplpoadjaaDrawPart
import Derived.Test.YtipmafplpoadjaaSame
import Derived.Test.YtipmafplpoadjaaRows
import Derived.Test.YtipmafplpoadjaaPure
import Derived.Test.YtipmafplpoadjaaHelp
import Derived.Test.YtipmafplpoadjaaDrawArc
import Derived.Test.YtipmafplpoadjaaArcList
import Derived.Test.YtipmafplpoadjaaArcBack
import Derived.Test.YtipmafplpoadjaaArcPart
import Derived.Test.YtipmafplpoadjaaArcPartS
import Derived.Test.YtipmafplpoadjaaHelp
import Derived.WalkKit
import Derived.ProofKit
import Derived.OpenShut
import Derived.ShutString
import Derived.ChangeOld
import Derived.Below
namespace Go.Proofs.Ytipmafplpoadjaa.fnArcPart
open Go.ChangeShapes Go.WideShapes Go.ChangeAt Go.RowKit
open Go.ChangeMaps (open_string shut_string)
set_option linter.unusedVariables false
set_option linter.unusedSimpArgs false
set_option linter.unnecessarySimpa false

theorem own : ownKnob Try.prog.godebug = none := by kernel_rfl
theorem laidOut : laidOutB Try.prog = true := by kernel_rfl

theorem sameInts_t (v u : Value) (xs : List Int) (w : World) (hv : RdV w v xs) (hu : RdV w u xs) : Calls Try.prog 15 #[v, u] w fun e w' => e = .returned (.bool true) ∧ Same w w' :=
  (sameInts_v v u xs xs w hv hu).mono fun e w' ⟨he, hw⟩ => ⟨by rw [he]; simp, hw⟩


set_option maxRecDepth 100000 in
set_option maxHeartbeats 4000000 in
theorem small (a0 : Option Addr) (len0 cap0 : Nat) (w : World) (hB : Bytes w a0 len0) (hc : len0 ≤ cap0) (hcm : cap0 ≤ maxLen) (hs0 : len0 ≤ 1048576) :
    Calls Try.prog 7 #[.slice a0 len0 cap0] w fun e w' => e = .returned (.bool true) ∧ Below w.heap.size w w' := by
  have bel : Below w.heap.size w w := Below.refl _ _
  go_enter Try.func7, Try.ntmps7
  go_wp2_with fail
  refine (drawArcPart_any a0 len0 cap0 _ hB hs0 hc hcm).mono ?_
  rintro e W1 ⟨n, v_b, xss, rfl, hn10, rb, hx9, hb⟩
  have bel := below_step bel hb
  clear hb
  have rb0 := rb
  obtain ⟨ab, cb, vb, _, rfl, _⟩ := rb0
  have wn : (Lit.int .i64 (n : Int)).wf = true := WalkArith.wf_i64 ⟨by omega, by omega⟩
  obtain ⟨out, ok, hp⟩ : ∃ out ok, arcPart (n : Int) xss = (out, ok) := ⟨_, _, rfl⟩
  have HI := Lib.hid (fun (wx : World) (v0 : Value) (k0 : RdM wx v0 xss) => hp ▸ iArcPart_v v0 (n : Int) xss wx k0 wn)
  have HS := Lib.hid (fun (wx : World) (v0 : Value) (k0 : RdM wx v0 xss) => hp ▸ sArcPart_v v0 (n : Int) xss wx k0 wn)
  obtain ⟨L, hL⟩ : ∃ L, L = xss.length := ⟨_, rfl⟩
  rw [← hL] at hx9 rb ⊢
  have HL := Lib.hid hL
  clear hL wn
  cases ok
  · clear hp
    go_wp2_with fail
    refine (HI.out _ _ rb).mono ?_
    rintro e W2 ⟨v_o, rfl, o_o, hb⟩
    have bel := below_step bel hb
    have rb := rdM_below rb hb
    clear hb
    go_wp2_with fail
    refine (HS.out _ _ rb).mono ?_
    rintro e W3 ⟨v_w, rfl, o_w, hb⟩
    have bel := below_step bel hb
    have o_o := own_below o_o hb
    clear hb rb
    go_wp2_with fail
    refine (sameInts_t _ _ out _ (own_rdv o_o) (own_rdv o_w)).mono ?_
    rintro e W4 ⟨rfl, hq⟩
    have hb := hq W3.heap.size
    clear hq
    have bel := below_step bel hb
    have o_o := own_below o_o hb
    have o_w := own_below o_w hb
    clear hb
    go_wp2_with fail
    refine (sameInts_t _ _ out _ (own_rdv o_o) (own_rdv o_w)).mono ?_
    rintro e W5 ⟨rfl, hq⟩
    have hb := hq W4.heap.size
    clear hq
    have bel := below_step bel hb
    clear hb
    go_wp2
    go_ret
    exact ⟨rfl, bel⟩
  · obtain ⟨f0, f1⟩ := part_arcs hp
    have e2 : arcList out = (rowsOf (arcsOf out), true) := by simp [arcList, f0]
    have hrl : (rowsOf (arcsOf out)).length = L := by rw [rowsOf_length, f1, HL.out]
    generalize rowsOf (arcsOf out) = rs at *
    have HA := Lib.hid (fun (wx : World) (v0 : Value) (k0 : RdV wx v0 out) => e2 ▸ iArcList_v v0 out wx k0)
    have HRL := Lib.hid hrl
    clear hp f0 f1 e2 hrl
    go_wp2_with fail
    refine (HI.out _ _ rb).mono ?_
    rintro e W2 ⟨v_o, rfl, o_o, hb⟩
    have bel := below_step bel hb
    have rb := rdM_below rb hb
    clear hb
    go_wp2_with fail
    refine (HS.out _ _ rb).mono ?_
    rintro e W3 ⟨v_w, rfl, o_w, hb⟩
    have bel := below_step bel hb
    have o_o := own_below o_o hb
    clear hb rb
    go_wp2_with fail
    refine (sameInts_t _ _ out _ (own_rdv o_o) (own_rdv o_w)).mono ?_
    rintro e W4 ⟨rfl, hq⟩
    have hb := hq W3.heap.size
    clear hq
    have bel := below_step bel hb
    have o_o := own_below o_o hb
    have o_w := own_below o_w hb
    clear hb
    clear o_w
    go_wp2_with fail
    refine (HA.out _ _ (own_rdv o_o)).mono ?_
    rintro e W5 ⟨v_x, rfl, o_x, hb⟩
    have bel := below_step bel hb
    obtain ⟨xo, xc, xv, _, rfl, _⟩ := ownM_rdM o_x
    rw [HRL.out]
    clear hb o_x
    go_wp2
    go_ret
    exact ⟨rfl, bel⟩

theorem walk (a0 : Option Addr) (len0 cap0 : Nat) (z0 : List Int) (w : World) (w0 : IsRow .u8 w a0 len0 cap0 z0) :
    Calls Try.prog 7 #[.slice a0 len0 cap0] w fun e w' => e = .returned (.bool true) ∧ Below w.heap.size w w' := by
  obtain ⟨hB, hc, hcm⟩ := bytes_of_row w0
  refine (Nat.lt_or_ge 1048576 len0).elim (fun hs0 => ?_) (fun hs0 => ?_)
  · go_enter Try.func7, Try.ntmps7
    go_wp2
    go_ret
    exact ⟨rfl, Below.refl _ _⟩
  exact small a0 len0 cap0 w hB hc hcm hs0

set_option maxRecDepth 100000 in
theorem lifted (os : Os) (started : os.Started) (H : Type) (enc : TypeId × Value → H) :
    ReturnsInHanded {} Try.checked os 7 .any (Rows.fnArcPartSpec.pre6 enc Try.prog Try.f7 Rows.fnArcPartRow.domain false) (Rows.fnArcPartSpec.post enc Try.prog Try.f7 false true false false) := by
  refine returnsInHanded_of_change (C := Try.checked) own started (by kernel_rfl) Try.func7
    (ChangeSpec.witness6 (enc := enc) (C := Try.checked) false ⟨#[], #[.slice none 0 0], []⟩ 8 (by kernel_rfl) (by kernel_rfl) (by kernel_rfl) (by kernel_rfl)) ?_
  intro W base args ds gs before hval0 hW hcnd _
  have hval : ∀ (j : Nat) t v, Try.f7.params[j]? = some t → args[j]? = some v → Value.okWide Try.prog W .any base t v := hval0
  have hW' := hW
  obtain ⟨p, q, hA0, hV, rfl, hfz, hnd⟩ := hW
  have hA : DataW.TrodAll enc Try.prog W 0 (fun _ => true) true Try.f7.params.toList args.toList ds p := hA0
  rw [Try.params7] at hA hval
  obtain ⟨v0, vs0, d0, ds0, p0, q0, hargs, rfl, rfl, h0, r0⟩ := trodAll_cons hA
  obtain ⟨rfl, rfl, rfl⟩ := trodAll_nil r0
  obtain rfl : args = #[v0] := by cases args; simp_all
  obtain ⟨rfl, rfl⟩ := trodVars_none hV
  obtain ⟨a0, len0, cap0, rfl⟩ := okWide_slice Try.underlying22 (hval 0 22 v0 rfl rfl)
  have k0 := h0
  have lt0 : ∀ x ∈ p0, x.block < W.heap.size := by obtain ⟨m, hm⟩ := k0; exact DataW.trod_lt m _ _ _ hm
  obtain ⟨z0, w0⟩ : ∃ zs, IsRow .u8 W a0 len0 cap0 zs := by
    obtain ⟨fuel, hf⟩ := h0
    rcases open_ints Try.underlying22 Try.underlying5 (by kernel_rfl) hf with ⟨hcs, _⟩ | ⟨x, l, c, zs, hcs, _, hl, hm, hz, _, hcell, hwz⟩
    · simp [Value.cells] at hcs
      obtain ⟨rfl, rfl, rfl⟩ := hcs
      exact ⟨[], .inl ⟨rfl, rfl, rfl, rfl⟩⟩
    · simp [Value.cells] at hcs
      obtain ⟨rfl, rfl, rfl⟩ := hcs
      exact ⟨zs, .inr ⟨_, rfl, hl, hm, by simpa using hz, hcell, hwz⟩⟩
  clear hA0 hval0
  refine (walk a0 len0 cap0 z0 W w0).mono fun e W' ⟨he, bel⟩ => ?_
  subst he
  exact ⟨_, rfl, _, _, _, [], _, [], hW', trodAll_mk1 (shut_bool Try.underlying4 _), (trodAll_cons_mk (Below.trod laidOut (by kernel_rfl) (of_decide_eq_true (by kernel_rfl)) k0 bel lt0) trodAll_mk0), rfl, bel.frame _, fun h => by cases h⟩

theorem over : Rows.fnArcPartRow.holds Try.pinned (OpenSpec.ofChange Rows.fnArcPartSpec) :=
  OpenClaim.holds_of_wide 7 Try.f7 rfl rfl rfl rfl rfl rfl rfl ⟨rfl, rfl, rfl, rfl, rfl⟩ rfl rfl rfl rfl rfl (by kernel_rfl) Try.func7 (by kernel_rfl)
    (of_decide_eq_true (by kernel_rfl)) (by unfold Func.isWrapper; first | (rw [if_pos (by decide +kernel)]; kernel_rfl) | (rw [if_neg (by decide +kernel)]; exact ⟨rfl, rfl⟩))
    (fun os started H enc _ => lifted os started H enc)

/-- The statement. -/
theorem proved : Rows.FnArcPartSaid := over
end Go.Proofs.Ytipmafplpoadjaa.fnArcPart
