/-
  The law of splits. For every input the Go text of laws.FnSplits returns true, and its argument reads afterwards as before. No condition.
-/
import Derived.Test.YtabgadmdjpohaabDrawPart
import Derived.Test.YtabgadmdjpohaabSame
import Derived.Test.YtabgadmdjpohaabRows
import Derived.Test.YtabgadmdjpohaabPure
import Derived.Test.YtabgadmdjpohaabHelp
import Derived.Test.YtabgadmdjpohaabPlainKit
import Derived.Test.YtabgadmdjpohaabFinSplits
import Derived.Test.YtabgadmdjpohaabSpecType
import Derived.Test.YtabgadmdjpohaabBruteKit
import Derived.Test.YtabgadmdjpohaabHeldMat
import Derived.WalkKit
import Derived.ProofKit
import Derived.OpenShut
import Derived.ShutString
import Derived.ChangeOld
import Derived.Below
namespace Go.Proofs.Ytabgadmdjpohaab.fnSplits
open Go.ChangeShapes Go.WideShapes Go.ChangeAt Go.RowKit
open Go.ChangeMaps (open_string shut_string)
set_option linter.unusedVariables false
set_option linter.unusedSimpArgs false
set_option linter.unnecessarySimpa false

theorem own : ownKnob Try.prog.godebug = none := by kernel_rfl
theorem laidOut : laidOutB Try.prog = true := by kernel_rfl

theorem sameInts_t (v u : Value) (xs : List Int) (w : World) (hv : RdV w v xs) (hu : RdV w u xs) : Calls Try.prog 23 #[v, u] w fun e w' => e = .returned (.bool true) ∧ Same w w' :=
  (sameInts_v v u xs xs w hv hu).mono fun e w' ⟨he, hw⟩ => ⟨by rw [he]; simp, hw⟩

theorem draw_any (a : Option Addr) (len cap : Nat) (w : World) (hby : Bytes w a len) (hlen : len ≤ 1048576) (hc : len ≤ cap) (hcm : cap ≤ maxLen) :
    Calls Try.prog 17 #[.slice a len cap] w fun e w' => ∃ v xs, e = .returned v ∧ Own w' w.heap.size v xs ∧ xs.length ≤ 9 ∧ (∀ x ∈ xs, 0 ≤ x ∧ x ≤ 9) ∧ Below w.heap.size w w' := by
  go_enter Try.func17, Try.ntmps17
  go_wp2_with fail
  refine (l91Some_any a len cap w hby hlen hc hcm).mono ?_
  rintro e w1 ⟨v, xs, rfl, h⟩
  go_wp2
  go_ret
  exact ⟨v, xs, rfl, h⟩

set_option maxRecDepth 100000 in
set_option maxHeartbeats 4000000 in
theorem small (a0 : Option Addr) (len0 cap0 : Nat) (w : World) (hB : Bytes w a0 len0) (hc : len0 ≤ cap0) (hcm : cap0 ≤ maxLen) (hs0 : len0 ≤ 1048576) :
    Calls Try.prog 5 #[.slice a0 len0 cap0] w fun e w' => e = .returned (.bool true) ∧ Below w.heap.size w w' := by
  have bel : Below w.heap.size w w := Below.refl _ _
  go_enter Try.func5, Try.ntmps5
  go_wp2_with fail
  refine (draw_any a0 len0 cap0 _ hB hs0 hc hcm).mono ?_
  rintro e W1 ⟨v_a, xs, rfl, o, hl9, _, hb⟩
  have bel := below_step bel hb
  clear hb
  have o_a := o
  clear o
  by_cases hp : partIn xs = true
  · have e1 := finerSplits_yes hp
    have e2 := partSize_yes hp
    have hf := split_facts hp
    have hbd := pSize_bd (partIn_small hp)
    have hpos := pSize_pos (partIn_small hp) (partIn_len hp).1
    have hle := pSize_le hp
    have hl8 := partIn_len hp
    generalize sumOf spl (sizes xs) = s at *
    generalize pSize xs = p at *
    have HI := Lib.hid (fun (wx : World) (v0 : Value) (k0 : RdV wx v0 xs) => e1 ▸ iFinerSplits_v v0 xs wx k0)
    have HS := Lib.hid (fun (wx : World) (v0 : Value) (k0 : RdV wx v0 xs) => e1 ▸ sFinerSplits_v v0 xs wx k0)
    have HP := Lib.hid (fun (wx : World) (v0 : Value) (k0 : RdV wx v0 xs) => e2 ▸ iPartSize_v v0 xs wx k0)
    have HF := Lib.hid hf
    clear e1 e2 hp hf
    go_wp2_with fail
    refine (HI.out _ _ (own_rdv o_a)).mono ?_
    rintro e W2 ⟨rfl, hb⟩
    have bel := below_step bel hb
    have o_a := own_below o_a hb
    clear hb
    go_wp2_with fail
    refine (HS.out _ _ (own_rdv o_a)).mono ?_
    rintro e W3 ⟨rfl, hb⟩
    have bel := below_step bel hb
    have o_a := own_below o_a hb
    clear hb
    go_wp2_with fail
    refine (HP.out _ _ (own_rdv o_a)).mono ?_
    rintro e W4 ⟨rfl, hb⟩
    have bel := below_step bel hb
    have o_a := own_below o_a hb
    clear hb
    obtain ⟨ao, ca, rfl⟩ := own_slice' o_a
    have hF := HF.out
    obtain ⟨n, hn⟩ : ∃ n, n = xs.length := ⟨_, rfl⟩
    rw [← hn] at hle hl8 hF ⊢
    clear o_a hn HI HS HP HF
    obtain ⟨hl1, hl8⟩ := hl8
    have hc1 : (s == 0) = (p == (n : Int)) := by rw [Bool.eq_iff_iff]; simpa using hF.1
    have hF2 := hF.2
    clear hF
    by_cases hpn : p = (n : Int)
    · have c2 : (p == (n : Int)) = true := by simpa using hpn
      have c1 : (s == 0) = true := by rw [hc1]; exact c2
      by_cases hp1 : p = 1
      · have hs := hF2 hp1
        have hn1 : n = 1 := by omega
        subst hn1
        simp at hs
        subst hs
        clear hF2 hc1 hpn c2 c1
        subst hp1
        go_wp2
        go_ret
        exact ⟨rfl, bel⟩
      · have hp2 : 1 < p := by omega
        clear hF2 hc1 hpn hp1
        go_wp2
        go_ret
        exact ⟨rfl, bel⟩
    · have c2 : (p == (n : Int)) = false := by simpa using hpn
      have c1 : (s == 0) = false := by rw [hc1]; exact c2
      by_cases hp1 : p = 1
      · have hs := hF2 hp1
        clear hF2 hc1
        subst hp1
        have hns : n = 2 ∨ n = 3 ∨ n = 4 ∨ n = 5 ∨ n = 6 ∨ n = 7 ∨ n = 8 := by omega
        clear hpn
        rcases hns with rfl | rfl | rfl | rfl | rfl | rfl | rfl
        all_goals
          simp at hs
          subst hs
          clear c1 c2
          go_wp2
          go_ret
          exact ⟨rfl, bel⟩
      · have hp2 : 1 < p := by omega
        clear hF2 hc1 hpn hp1
        go_wp2
        go_ret
        exact ⟨rfl, bel⟩
  · have e1 := finerSplits_no hp
    have HI := Lib.hid (fun (wx : World) (v0 : Value) (k0 : RdV wx v0 xs) => e1 ▸ iFinerSplits_v v0 xs wx k0)
    have HS := Lib.hid (fun (wx : World) (v0 : Value) (k0 : RdV wx v0 xs) => e1 ▸ sFinerSplits_v v0 xs wx k0)
    clear hp e1
    go_wp2_with fail
    refine (HI.out _ _ (own_rdv o_a)).mono ?_
    rintro e W2 ⟨rfl, hb⟩
    have bel := below_step bel hb
    have o_a := own_below o_a hb
    clear hb
    go_wp2_with fail
    refine (HS.out _ _ (own_rdv o_a)).mono ?_
    rintro e W3 ⟨rfl, hb⟩
    have bel := below_step bel hb
    have o_a := own_below o_a hb
    clear hb
    go_wp2
    go_ret
    exact ⟨rfl, bel⟩

theorem walk (a0 : Option Addr) (len0 cap0 : Nat) (z0 : List Int) (w : World) (w0 : IsRow .u8 w a0 len0 cap0 z0) :
    Calls Try.prog 5 #[.slice a0 len0 cap0] w fun e w' => e = .returned (.bool true) ∧ Below w.heap.size w w' := by
  obtain ⟨hB, hc, hcm⟩ := bytes_of_row w0
  refine (Nat.lt_or_ge 1048576 len0).elim (fun hs0 => ?_) (fun hs0 => ?_)
  · go_enter Try.func5, Try.ntmps5
    go_wp2
    go_ret
    exact ⟨rfl, Below.refl _ _⟩
  exact small a0 len0 cap0 w hB hc hcm hs0

set_option maxRecDepth 100000 in
theorem lifted (os : Os) (started : os.Started) (H : Type) (enc : TypeId × Value → H) :
    ReturnsInHanded {} Try.checked os 5 .any (Rows.fnSplitsSpec.pre6 enc Try.prog Try.f5 Rows.fnSplitsRow.domain false) (Rows.fnSplitsSpec.post enc Try.prog Try.f5 false true false false) := by
  refine returnsInHanded_of_change (C := Try.checked) own started (by kernel_rfl) Try.func5
    (ChangeSpec.witness6 (enc := enc) (C := Try.checked) false ⟨#[], #[.slice none 0 0], []⟩ 8 (by kernel_rfl) (by kernel_rfl) (by kernel_rfl) (by kernel_rfl)) ?_
  intro W base args ds gs before hval0 hW hcnd _
  have hval : ∀ (j : Nat) t v, Try.f5.params[j]? = some t → args[j]? = some v → Value.okWide Try.prog W .any base t v := hval0
  have hW' := hW
  obtain ⟨p, q, hA0, hV, rfl, hfz, hnd⟩ := hW
  have hA : DataW.TrodAll enc Try.prog W 0 (fun _ => true) true Try.f5.params.toList args.toList ds p := hA0
  rw [Try.params5] at hA hval
  obtain ⟨v0, vs0, d0, ds0, p0, q0, hargs, rfl, rfl, h0, r0⟩ := trodAll_cons hA
  obtain ⟨rfl, rfl, rfl⟩ := trodAll_nil r0
  obtain rfl : args = #[v0] := by cases args; simp_all
  obtain ⟨rfl, rfl⟩ := trodVars_none hV
  obtain ⟨a0, len0, cap0, rfl⟩ := okWide_slice Try.underlying22 (hval 0 22 v0 rfl rfl)
  have k0 := h0
  have lt0 : ∀ x ∈ p0, x.block < W.heap.size := by obtain ⟨m, hm⟩ := k0; exact DataW.trod_lt m _ _ _ hm
  obtain ⟨z0, w0⟩ : ∃ zs, IsRow .u8 W a0 len0 cap0 zs := by
    obtain ⟨fuel, hf⟩ := h0
    rcases open_ints Try.underlying22 Try.underlying5 (by kernel_rfl) hf with ⟨hcs, _⟩ | ⟨x, l, c, zs, hcs, _, hl, hm, hz, _, hcell, hwz⟩
    · simp [Value.cells] at hcs
      obtain ⟨rfl, rfl, rfl⟩ := hcs
      exact ⟨[], .inl ⟨rfl, rfl, rfl, rfl⟩⟩
    · simp [Value.cells] at hcs
      obtain ⟨rfl, rfl, rfl⟩ := hcs
      exact ⟨zs, .inr ⟨_, rfl, hl, hm, by simpa using hz, hcell, hwz⟩⟩
  clear hA0 hval0
  refine (walk a0 len0 cap0 z0 W w0).mono fun e W' ⟨he, bel⟩ => ?_
  subst he
  exact ⟨_, rfl, _, _, _, [], _, [], hW', trodAll_mk1 (shut_bool Try.underlying4 _), (trodAll_cons_mk (Below.trod laidOut (by kernel_rfl) (of_decide_eq_true (by kernel_rfl)) k0 bel lt0) trodAll_mk0), rfl, bel.frame _, fun h => by cases h⟩

theorem over : Rows.fnSplitsRow.holds Try.pinned (OpenSpec.ofChange Rows.fnSplitsSpec) :=
  OpenClaim.holds_of_wide 5 Try.f5 rfl rfl rfl rfl rfl rfl rfl ⟨rfl, rfl, rfl, rfl, rfl⟩ rfl rfl rfl rfl rfl (by kernel_rfl) Try.func5 (by kernel_rfl)
    (of_decide_eq_true (by kernel_rfl)) (by unfold Func.isWrapper; first | (rw [if_pos (by decide +kernel)]; kernel_rfl) | (rw [if_neg (by decide +kernel)]; exact ⟨rfl, rfl⟩))
    (fun os started H enc _ => lifted os started H enc)

/-- The statement. -/
theorem proved : Rows.FnSplitsSaid := over
end Go.Proofs.Ytabgadmdjpohaab.fnSplits
