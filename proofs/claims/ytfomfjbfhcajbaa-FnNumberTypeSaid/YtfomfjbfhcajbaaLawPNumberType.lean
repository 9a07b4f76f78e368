/-
  The law of types. For every input the Go text of laws.FnNumberType returns true, and its argument reads afterwards as before. No condition.
-/
import Derived.Test.YtfomfjbfhcajbaaDrawPart
import Derived.Test.YtfomfjbfhcajbaaRows
import Derived.Test.YtfomfjbfhcajbaaPure
import Derived.Test.YtfomfjbfhcajbaaHelp
import Derived.Test.YtfomfjbfhcajbaaTypeLaw
import Derived.Test.YtfomfjbfhcajbaaDrawType
import Derived.Test.YtfomfjbfhcajbaaTriType
import Derived.Test.YtfomfjbfhcajbaaTriAll
import Derived.WalkKit
import Derived.ProofKit
import Derived.OpenShut
import Derived.ShutString
import Derived.ChangeOld
import Derived.Below
namespace Go.Proofs.Ytfomfjbfhcajbaa.fnNumberType
open Go.ChangeShapes Go.WideShapes Go.ChangeAt Go.RowKit
open Go.ChangeMaps (open_string shut_string)
set_option linter.unusedVariables false
set_option linter.unusedSimpArgs false
set_option linter.unnecessarySimpa false

theorem own : ownKnob Try.prog.godebug = none := by kernel_rfl
theorem laidOut : laidOutB Try.prog = true := by kernel_rfl



set_option maxRecDepth 100000 in
set_option maxHeartbeats 4000000 in
theorem small (a0 : Option Addr) (len0 cap0 : Nat) (w : World) (hB : Bytes w a0 len0) (hc : len0 ≤ cap0) (hcm : cap0 ≤ maxLen) (hs0 : len0 ≤ 1048576) :
    Calls Try.prog 5 #[.slice a0 len0 cap0] w fun e w' => e = .returned (.bool true) ∧ Below w.heap.size w w' := by
  have bel : Below w.heap.size w w := Below.refl _ _
  go_enter Try.func5, Try.ntmps5
  go_wp2_with fail
  refine (DrawNumberType_any a0 len0 cap0 _ hB hs0 hc hcm).mono ?_
  rintro e W1 ⟨v_a, xs, rfl, o, hl, hb⟩
  have bel := below_step bel hb
  clear hb
  have OA := Lib.hid (own_rdv o)
  clear o
  cases ht : typeGo 12 12 xs
  · have e1 := numType_no ht
    have HI := Lib.hid (fun (wx : World) (k : RdV wx v_a xs) => e1 ▸ iNumberType_v v_a xs wx k)
    have HS := Lib.hid (fun (wx : World) (k : RdV wx v_a xs) => e1 ▸ sNumberType_v v_a xs wx k)
    clear e1 ht
    go_wp2_with fail
    refine (HI.out _ OA.out).mono ?_
    rintro e W2 ⟨rfl, hb⟩
    have OA := Lib.hid (rdv_below OA.out hb)
    have bel := below_step bel hb
    clear hb
    go_wp2_with fail
    refine (HS.out _ OA.out).mono ?_
    rintro e W3 ⟨rfl, hb⟩
    have OA := Lib.hid (rdv_below OA.out hb)
    have bel := below_step bel hb
    clear hb
    go_wp2
    go_ret
    exact ⟨by first | rfl | exact ret_bool (by simp <;> omega), bel⟩
  · have e1 := numType_yes ht
    obtain ⟨hle, heq⟩ := type_law ht
    obtain ⟨f1, f2, f3, f4, f5⟩ := typeGo_facts _ 12 12 (by omega) ht
    have HI := Lib.hid (fun (wx : World) (k : RdV wx v_a xs) => e1 ▸ iNumberType_v v_a xs wx k)
    have HS := Lib.hid (fun (wx : World) (k : RdV wx v_a xs) => e1 ▸ sNumberType_v v_a xs wx k)
    have HT := Lib.hid (fun (wx : World) (k : RdV wx v_a xs) => total0_v v_a xs wx k ht)
    have e2 := numAll_yes (n := sumL xs) ⟨f1, f2⟩
    have HA := Lib.hid (fun (wx : World) => e2 ▸ iNumberAll_v (sumL xs) wx (WalkArith.wf_i64 ⟨by omega, by omega⟩))
    clear e1 e2 ht f4 f5
    generalize typeNum xs = x at *
    generalize belN (sumL xs).toNat = y at *
    generalize sumL xs = s at *
    have HEQ := Lib.hid heq
    clear heq
    go_wp2_with fail
    refine (HI.out _ OA.out).mono ?_
    rintro e W2 ⟨rfl, hb⟩
    have OA := Lib.hid (rdv_below OA.out hb)
    have bel := below_step bel hb
    clear hb
    go_wp2_with fail
    refine (HS.out _ OA.out).mono ?_
    rintro e W3 ⟨rfl, hb⟩
    have OA := Lib.hid (rdv_below OA.out hb)
    have bel := below_step bel hb
    clear hb
    go_wp2_with fail
    refine (HT.out _ OA.out).mono ?_
    rintro e W4 ⟨rfl, rfl⟩
    go_wp2_with fail
    refine (HA.out _).mono ?_
    rintro e W5 ⟨rfl, hb⟩
    have OA := Lib.hid (rdv_below OA.out hb)
    have bel := below_step bel hb
    clear hb
    clear HI HS HT HA
    obtain ⟨ao, ca, hva, hrd, _, _⟩ := OA.out
    subst hva
    obtain ⟨n, hn⟩ : ∃ n, n = xs.length := ⟨_, rfl⟩
    rw [← hn] at f3 ⊢
    have HN := Lib.hid hn
    have HR := Lib.hid hrd
    clear hn hrd OA hl
    go_wp2
    go_loopw [10, 11] (fun u i wr => ∃ k : Nat, k ≤ n ∧ i = .int .i64 k ∧ u = .bool (onesB (xs.take k)) ∧ wr = W5) (fun _ i _ => n - (intOf i).toNat)
    case atStart => exact ⟨0, Nat.zero_le _, rfl, rfl, rfl⟩
    case round =>
      obtain ⟨k, hk, rfl, rfl, rfl⟩ := hrel
      by_cases hlt : k < n
      · rcases HR.out with hx | ⟨b, off, rfl, hcx⟩
        · have := HN.out
          rw [hx] at this
          simp at this
          omega
        · have hkl : k < xs.length := by have := HN.out; omega
          have hck := hcx k hkl
          have hst : onesB (xs.take (k + 1)) = (onesB (xs.take k) && (xs.getD k 0 == 1)) := by rw [takeSnoc xs k hkl, onesB_snoc]
          obtain ⟨z, hz⟩ : ∃ z, z = xs.getD k 0 := ⟨_, rfl⟩
          rw [← hz] at hck hst
          obtain ⟨u, hu⟩ : ∃ u, u = onesB (xs.take k) := ⟨_, rfl⟩
          rw [← hu] at hst ⊢
          have HST := Lib.hid hst
          have b1 : (k : Int) < (n : Int) := by omega
          clear hcx hst hz hu
          cases u
          · go_wp2
            go_roundw
            case rel => exact ⟨k + 1, by omega, by go_num, by rw [HST.out]; rfl, by first | rfl | trivial⟩
            case measure => simp [intOf]; omega
          · go_wp2
            go_roundw
            case rel => exact ⟨k + 1, by omega, by go_num, by rw [HST.out]; simp, by first | rfl | trivial⟩
            case measure => simp [intOf]; omega
      · have hkn : k = n := by omega
        have he : xs.take k = xs := List.take_of_length_le (by have := HN.out; omega)
        rw [he]
        have heq := HEQ.out
        rw [← HN.out] at heq
        obtain ⟨u, hu⟩ : ∃ u, u = onesB xs := ⟨_, rfl⟩
        rw [← hu] at heq ⊢
        clear he hu HEQ HR HN
        by_cases h2 : n < 2
        · have b1 : (n : Int) < 2 := by omega
          have b2 : (x == 1) = true := by rw [heq, decide_eq_true h2]; simp
          clear heq
          cases u
          · go_wp2
            go_ret
            exact ⟨by first | rfl | exact ret_bool (by simp <;> omega), bel⟩
          · go_wp2
            go_ret
            exact ⟨by first | rfl | exact ret_bool (by simp <;> omega), bel⟩
        · have b1 : ¬ (n : Int) < 2 := by omega
          have b2 : (x == 1) = u := by rw [heq, decide_eq_false h2]; simp
          clear heq
          cases u
          · go_wp2
            go_ret
            exact ⟨by first | rfl | exact ret_bool (by simp <;> omega), bel⟩
          · go_wp2
            go_ret
            exact ⟨by first | rfl | exact ret_bool (by simp <;> omega), bel⟩

theorem walk (a0 : Option Addr) (len0 cap0 : Nat) (z0 : List Int) (w : World) (w0 : IsRow .u8 w a0 len0 cap0 z0) :
    Calls Try.prog 5 #[.slice a0 len0 cap0] w fun e w' => e = .returned (.bool true) ∧ Below w.heap.size w w' := by
  obtain ⟨hB, hc, hcm⟩ := bytes_of_row w0
  refine (Nat.lt_or_ge 1048576 len0).elim (fun hs0 => ?_) (fun hs0 => ?_)
  · go_enter Try.func5, Try.ntmps5
    go_wp2
    go_ret
    exact ⟨rfl, Below.refl _ _⟩
  exact small a0 len0 cap0 w hB hc hcm hs0

set_option maxRecDepth 100000 in
theorem lifted (os : Os) (started : os.Started) (H : Type) (enc : TypeId × Value → H) :
    ReturnsInHanded {} Try.checked os 5 .any (Rows.fnNumberTypeSpec.pre6 enc Try.prog Try.f5 Rows.fnNumberTypeRow.domain false) (Rows.fnNumberTypeSpec.post enc Try.prog Try.f5 false true false false) := by
  refine returnsInHanded_of_change (C := Try.checked) own started (by kernel_rfl) Try.func5
    (ChangeSpec.witness6 (enc := enc) (C := Try.checked) false ⟨#[], #[.slice none 0 0], []⟩ 8 (by kernel_rfl) (by kernel_rfl) (by kernel_rfl) (by kernel_rfl)) ?_
  intro W base args ds gs before hval0 hW hcnd _
  have hval : ∀ (j : Nat) t v, Try.f5.params[j]? = some t → args[j]? = some v → Value.okWide Try.prog W .any base t v := hval0
  have hW' := hW
  obtain ⟨p, q, hA0, hV, rfl, hfz, hnd⟩ := hW
  have hA : DataW.TrodAll enc Try.prog W 0 (fun _ => true) true Try.f5.params.toList args.toList ds p := hA0
  rw [Try.params5] at hA hval
  obtain ⟨v0, vs0, d0, ds0, p0, q0, hargs, rfl, rfl, h0, r0⟩ := trodAll_cons hA
  obtain ⟨rfl, rfl, rfl⟩ := trodAll_nil r0
  obtain rfl : args = #[v0] := by cases args; simp_all
  obtain ⟨rfl, rfl⟩ := trodVars_none hV
  obtain ⟨a0, len0, cap0, rfl⟩ := okWide_slice Try.underlying22 (hval 0 22 v0 rfl rfl)
  have k0 := h0
  have lt0 : ∀ x ∈ p0, x.block < W.heap.size := by obtain ⟨m, hm⟩ := k0; exact DataW.trod_lt m _ _ _ hm
  obtain ⟨z0, w0⟩ : ∃ zs, IsRow .u8 W a0 len0 cap0 zs := by
    obtain ⟨fuel, hf⟩ := h0
    rcases open_ints Try.underlying22 Try.underlying5 (by kernel_rfl) hf with ⟨hcs, _⟩ | ⟨x, l, c, zs, hcs, _, hl, hm, hz, _, hcell, hwz⟩
    · simp [Value.cells] at hcs
      obtain ⟨rfl, rfl, rfl⟩ := hcs
      exact ⟨[], .inl ⟨rfl, rfl, rfl, rfl⟩⟩
    · simp [Value.cells] at hcs
      obtain ⟨rfl, rfl, rfl⟩ := hcs
      exact ⟨zs, .inr ⟨_, rfl, hl, hm, by simpa using hz, hcell, hwz⟩⟩
  clear hA0 hval0
  refine (walk a0 len0 cap0 z0 W w0).mono fun e W' ⟨he, bel⟩ => ?_
  subst he
  exact ⟨_, rfl, _, _, _, [], _, [], hW', trodAll_mk1 (shut_bool Try.underlying4 _), (trodAll_cons_mk (Below.trod laidOut (by kernel_rfl) (of_decide_eq_true (by kernel_rfl)) k0 bel lt0) trodAll_mk0), rfl, bel.frame _, fun h => by cases h⟩

theorem over : Rows.fnNumberTypeRow.holds Try.pinned (OpenSpec.ofChange Rows.fnNumberTypeSpec) :=
  OpenClaim.holds_of_wide 5 Try.f5 rfl rfl rfl rfl rfl rfl rfl ⟨rfl, rfl, rfl, rfl, rfl⟩ rfl rfl rfl rfl rfl (by kernel_rfl) Try.func5 (by kernel_rfl)
    (of_decide_eq_true (by kernel_rfl)) (by unfold Func.isWrapper; first | (rw [if_pos (by decide +kernel)]; kernel_rfl) | (rw [if_neg (by decide +kernel)]; exact ⟨rfl, rfl⟩))
    (fun os started H enc _ => lifted os started H enc)

/-- The statement. -/
theorem proved : Rows.FnNumberTypeSaid := over
end Go.Proofs.Ytfomfjbfhcajbaa.fnNumberType
