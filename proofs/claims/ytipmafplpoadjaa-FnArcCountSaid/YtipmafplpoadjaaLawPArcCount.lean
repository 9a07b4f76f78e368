/-
  The law of numbers of crossings and nestings. For every input the Go text of laws.FnArcCount returns true, and its argument reads afterwards as before. No condition.
-/
import Derived.Test.YtipmafplpoadjaaDrawPart
import Derived.Test.YtipmafplpoadjaaSame
import Derived.Test.YtipmafplpoadjaaRows
import Derived.Test.YtipmafplpoadjaaPure
import Derived.Test.YtipmafplpoadjaaHelp
import Derived.Test.YtipmafplpoadjaaRds
import Derived.Test.YtipmafplpoadjaaArcCat
import Derived.Test.YtipmafplpoadjaaArcAll
import Derived.WalkKit
import Derived.ProofKit
import Derived.OpenShut
import Derived.ShutString
import Derived.ChangeOld
import Derived.Below
namespace Go.Proofs.Ytipmafplpoadjaa.fnArcCount
open Go.ChangeShapes Go.WideShapes Go.ChangeAt Go.RowKit
open Go.ChangeMaps (open_string shut_string)
set_option linter.unusedVariables false
set_option linter.unusedSimpArgs false
set_option linter.unnecessarySimpa false

theorem own : ownKnob Try.prog.godebug = none := by kernel_rfl
theorem laidOut : laidOutB Try.prog = true := by kernel_rfl


theorem draw_any (a : Option Addr) (len cap : Nat) (w : World) (hby : Bytes w a len) (hlen : len ≤ 1048576) (hc : len ≤ cap) (hcm : cap ≤ maxLen) :
    Calls Try.prog 34 #[.slice a len cap] w fun e w' => ∃ n c m : Int, e = .returned (.tuple #[.int .i64 n, .int .i64 c, .int .i64 m]) ∧ (0 ≤ n ∧ n ≤ 20) ∧ (-1 ≤ c ∧ c ≤ 20) ∧ (-1 ≤ m ∧ m ≤ 20) ∧ Below w.heap.size w w' := by
  go_enter Try.func34, Try.ntmps34
  go_wp2_with fail
  refine (open_r a len cap w hby hlen hc hcm).mono ?_
  rintro e w1 ⟨g, m, cp, rfl, r1⟩
  go_wp2_with fail
  refine (pick_r r1 _ (by omega) (by omega) (by omega)).mono ?_
  rintro e w2 ⟨t0, rfl, ht0, r2, hg0⟩
  clear hg0
  go_wp2_with fail
  refine (pick_r r2 _ (by omega) (by omega) (by omega)).mono ?_
  rintro e w3 ⟨t1, rfl, ht1, r3, hg1⟩
  clear hg1
  have hq1 : 0 ≤ (t1 : Int) / 23 ∧ (t1 : Int) / 23 ≤ 1 := by omega
  go_wp2_with fail
  refine (pick_r r3 _ (by omega) (by omega) (by omega)).mono ?_
  rintro e w4 ⟨t2, rfl, ht2, r4, hg2⟩
  clear hg2
  go_wp2_with fail
  refine (pick_r r4 _ (by omega) (by omega) (by omega)).mono ?_
  rintro e w5 ⟨t3, rfl, ht3, r5, hg3⟩
  clear hg3
  have hq3 : 0 ≤ (t3 : Int) / 23 ∧ (t3 : Int) / 23 ≤ 1 := by omega
  go_wp2_with fail
  refine (pick_r r5 _ (by omega) (by omega) (by omega)).mono ?_
  rintro e w6 ⟨t4, rfl, ht4, r6, hg4⟩
  clear hg4
  go_wp2_with fail
  refine (pick_r r6 _ (by omega) (by omega) (by omega)).mono ?_
  rintro e w7 ⟨t5, rfl, ht5, r7, hg5⟩
  clear hg5
  have hq5 : 0 ≤ (t5 : Int) / 23 ∧ (t5 : Int) / 23 ≤ 1 := by omega
  have hb := r7.below
  go_wp2
  exact bodyPost_ret (results_tmp3 rfl _ _ _) rfl ⟨_, _, _, rfl, by omega, by omega, by omega, hb⟩

set_option maxRecDepth 100000 in
set_option maxHeartbeats 4000000 in
theorem small (a0 : Option Addr) (len0 cap0 : Nat) (w : World) (hB : Bytes w a0 len0) (hc : len0 ≤ cap0) (hcm : cap0 ≤ maxLen) (hs0 : len0 ≤ 1048576) :
    Calls Try.prog 9 #[.slice a0 len0 cap0] w fun e w' => e = .returned (.bool true) ∧ Below w.heap.size w w' := by
  have bel : Below w.heap.size w w := Below.refl _ _
  go_enter Try.func9, Try.ntmps9
  go_wp2_with fail
  refine (draw_any a0 len0 cap0 _ hB hs0 hc hcm).mono ?_
  rintro e W1 ⟨n, c, m, rfl, hn, hc9, hm9, hb⟩
  have bel := below_step bel hb
  clear hb
  have wn : (Lit.int .i64 n).wf = true := WalkArith.wf_i64 ⟨by omega, by omega⟩
  have wc : (Lit.int .i64 c).wf = true := WalkArith.wf_i64 ⟨by omega, by omega⟩
  have wm : (Lit.int .i64 m).wf = true := WalkArith.wf_i64 ⟨by omega, by omega⟩
  have e2 := arcCount_swap n m c
  obtain ⟨r, b, e1⟩ : ∃ r b, arcCount n c m = (r, b) := ⟨_, _, rfl⟩
  rw [e1] at e2
  have HI := Lib.hid (fun (wx : World) => e1 ▸ iArcCount_v n c m wx wn wc wm)
  have HS := Lib.hid (fun (wx : World) => e1 ▸ sArcCount_v n c m wx wn wc wm)
  have HX := Lib.hid (fun (wx : World) => e2 ▸ iArcCount_v n m c wx wn wm wc)
  clear e1 e2 wn wc wm hn hc9 hm9
  go_wp2_with fail
  refine (HI.out _).mono ?_
  rintro e W2 ⟨rfl, hb⟩
  have bel := below_step bel hb
  clear hb
  go_wp2_with fail
  refine (HS.out _).mono ?_
  rintro e W3 ⟨rfl, hb⟩
  have bel := below_step bel hb
  clear hb
  cases b
  · go_wp2
    go_ret
    exact ⟨rfl, bel⟩
  · go_wp2_with fail
    refine (HX.out _).mono ?_
    rintro e W4 ⟨rfl, hb⟩
    have bel := below_step bel hb
    clear hb
    go_wp2
    go_ret
    exact ⟨by first | rfl | exact ret_bool (by simp), bel⟩

theorem walk (a0 : Option Addr) (len0 cap0 : Nat) (z0 : List Int) (w : World) (w0 : IsRow .u8 w a0 len0 cap0 z0) :
    Calls Try.prog 9 #[.slice a0 len0 cap0] w fun e w' => e = .returned (.bool true) ∧ Below w.heap.size w w' := by
  obtain ⟨hB, hc, hcm⟩ := bytes_of_row w0
  refine (Nat.lt_or_ge 1048576 len0).elim (fun hs0 => ?_) (fun hs0 => ?_)
  · go_enter Try.func9, Try.ntmps9
    go_wp2
    go_ret
    exact ⟨rfl, Below.refl _ _⟩
  exact small a0 len0 cap0 w hB hc hcm hs0

set_option maxRecDepth 100000 in
theorem lifted (os : Os) (started : os.Started) (H : Type) (enc : TypeId × Value → H) :
    ReturnsInHanded {} Try.checked os 9 .any (Rows.fnArcCountSpec.pre6 enc Try.prog Try.f9 Rows.fnArcCountRow.domain false) (Rows.fnArcCountSpec.post enc Try.prog Try.f9 false true false false) := by
  refine returnsInHanded_of_change (C := Try.checked) own started (by kernel_rfl) Try.func9
    (ChangeSpec.witness6 (enc := enc) (C := Try.checked) false ⟨#[], #[.slice none 0 0], []⟩ 8 (by kernel_rfl) (by kernel_rfl) (by kernel_rfl) (by kernel_rfl)) ?_
  intro W base args ds gs before hval0 hW hcnd _
  have hval : ∀ (j : Nat) t v, Try.f9.params[j]? = some t → args[j]? = some v → Value.okWide Try.prog W .any base t v := hval0
  have hW' := hW
  obtain ⟨p, q, hA0, hV, rfl, hfz, hnd⟩ := hW
  have hA : DataW.TrodAll enc Try.prog W 0 (fun _ => true) true Try.f9.params.toList args.toList ds p := hA0
  rw [Try.params9] at hA hval
  obtain ⟨v0, vs0, d0, ds0, p0, q0, hargs, rfl, rfl, h0, r0⟩ := trodAll_cons hA
  obtain ⟨rfl, rfl, rfl⟩ := trodAll_nil r0
  obtain rfl : args = #[v0] := by cases args; simp_all
  obtain ⟨rfl, rfl⟩ := trodVars_none hV
  obtain ⟨a0, len0, cap0, rfl⟩ := okWide_slice Try.underlying22 (hval 0 22 v0 rfl rfl)
  have k0 := h0
  have lt0 : ∀ x ∈ p0, x.block < W.heap.size := by obtain ⟨m, hm⟩ := k0; exact DataW.trod_lt m _ _ _ hm
  obtain ⟨z0, w0⟩ : ∃ zs, IsRow .u8 W a0 len0 cap0 zs := by
    obtain ⟨fuel, hf⟩ := h0
    rcases open_ints Try.underlying22 Try.underlying5 (by kernel_rfl) hf with ⟨hcs, _⟩ | ⟨x, l, c, zs, hcs, _, hl, hm, hz, _, hcell, hwz⟩
    · simp [Value.cells] at hcs
      obtain ⟨rfl, rfl, rfl⟩ := hcs
      exact ⟨[], .inl ⟨rfl, rfl, rfl, rfl⟩⟩
    · simp [Value.cells] at hcs
      obtain ⟨rfl, rfl, rfl⟩ := hcs
      exact ⟨zs, .inr ⟨_, rfl, hl, hm, by simpa using hz, hcell, hwz⟩⟩
  clear hA0 hval0
  refine (walk a0 len0 cap0 z0 W w0).mono fun e W' ⟨he, bel⟩ => ?_
  subst he
  exact ⟨_, rfl, _, _, _, [], _, [], hW', trodAll_mk1 (shut_bool Try.underlying4 _), (trodAll_cons_mk (Below.trod laidOut (by kernel_rfl) (of_decide_eq_true (by kernel_rfl)) k0 bel lt0) trodAll_mk0), rfl, bel.frame _, fun h => by cases h⟩

theorem over : Rows.fnArcCountRow.holds Try.pinned (OpenSpec.ofChange Rows.fnArcCountSpec) :=
  OpenClaim.holds_of_wide 9 Try.f9 rfl rfl rfl rfl rfl rfl rfl ⟨rfl, rfl, rfl, rfl, rfl⟩ rfl rfl rfl rfl rfl (by kernel_rfl) Try.func9 (by kernel_rfl)
    (of_decide_eq_true (by kernel_rfl)) (by unfold Func.isWrapper; first | (rw [if_pos (by decide +kernel)]; kernel_rfl) | (rw [if_neg (by decide +kernel)]; exact ⟨rfl, rfl⟩))
    (fun os started H enc _ => lifted os started H enc)

/-- The statement. -/
theorem proved : Rows.FnArcCountSaid := over
end Go.Proofs.Ytipmafplpoadjaa.fnArcCount
