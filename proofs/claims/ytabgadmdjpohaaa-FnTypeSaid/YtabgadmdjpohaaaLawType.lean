/-
  The law of types. For every input the Go text of laws.FnType returns true, and its argument reads afterwards as before. No condition.
-/
import Derived.Test.YtabgadmdjpohaaaDrawPart
import Derived.Test.YtabgadmdjpohaaaSame
import Derived.Test.YtabgadmdjpohaaaRows
import Derived.Test.YtabgadmdjpohaaaPure
import Derived.Test.YtabgadmdjpohaaaHelp
import Derived.Test.YtabgadmdjpohaaaPlainKit
import Derived.Test.YtabgadmdjpohaaaSpecType
import Derived.Test.YtabgadmdjpohaaaSortMath
import Derived.Test.YtabgadmdjpohaaaBruteKit
import Derived.Test.YtabgadmdjpohaaaHeldMat
import Derived.Test.YtabgadmdjpohaaaTotal
import Derived.WalkKit
import Derived.ProofKit
import Derived.OpenShut
import Derived.ShutString
import Derived.ChangeOld
import Derived.Below
namespace Go.Proofs.Ytabgadmdjpohaaa.fnType
open Go.ChangeShapes Go.WideShapes Go.ChangeAt Go.RowKit
open Go.ChangeMaps (open_string shut_string)
set_option linter.unusedVariables false
set_option linter.unusedSimpArgs false
set_option linter.unnecessarySimpa false

theorem own : ownKnob Try.prog.godebug = none := by kernel_rfl
theorem laidOut : laidOutB Try.prog = true := by kernel_rfl

theorem sameInts_t (v u : Value) (xs : List Int) (w : World) (hv : RdV w v xs) (hu : RdV w u xs) : Calls Try.prog 18 #[v, u] w fun e w' => e = .returned (.bool true) ∧ Same w w' :=
  (sameInts_v v u xs xs w hv hu).mono fun e w' ⟨he, hw⟩ => ⟨by rw [he]; simp, hw⟩

theorem draw_any (a : Option Addr) (len cap : Nat) (w : World) (hby : Bytes w a len) (hlen : len ≤ 1048576) (hc : len ≤ cap) (hcm : cap ≤ maxLen) :
    Calls Try.prog 39 #[.slice a len cap] w fun e w' => ∃ v xs, e = .returned v ∧ Own w' w.heap.size v xs ∧ xs.length ≤ 9 ∧ (∀ x ∈ xs, 0 ≤ x ∧ x ≤ 9) ∧ Below w.heap.size w w' := by
  go_enter Try.func39, Try.ntmps39
  go_wp2_with fail
  refine (l91Some_any a len cap w hby hlen hc hcm).mono ?_
  rintro e w1 ⟨v, xs, rfl, h⟩
  go_wp2
  go_ret
  exact ⟨v, xs, rfl, h⟩

set_option maxRecDepth 100000 in
set_option maxHeartbeats 4000000 in
theorem small (a0 : Option Addr) (len0 cap0 : Nat) (w : World) (hB : Bytes w a0 len0) (hc : len0 ≤ cap0) (hcm : cap0 ≤ maxLen) (hs0 : len0 ≤ 1048576) :
    Calls Try.prog 10 #[.slice a0 len0 cap0] w fun e w' => e = .returned (.bool true) ∧ Below w.heap.size w w' := by
  have bel : Below w.heap.size w w := Below.refl _ _
  go_enter Try.func10, Try.ntmps10
  go_wp2_with fail
  refine (draw_any a0 len0 cap0 _ hB hs0 hc hcm).mono ?_
  rintro e W1 ⟨v_a, xs, rfl, o, hl9, _, hb⟩
  have bel := below_step bel hb
  clear hb
  have o_a := o
  clear o
  by_cases hp : partIn xs = true
  · have e1 := partType_yes hp
    have e2 := partSize_yes hp
    obtain ⟨_, hsum, htl⟩ := size_facts hp
    have hbd := pSize_bd (partIn_small hp)
    have hpl : (desc (sizes xs)).length = (pSize xs).toNat := by rw [desc_length, sizes_length]
    have hnn : ∀ c ∈ desc (sizes xs), 0 ≤ c ∧ c ≤ 100000 := fun c hc => by have := sizes_bd hp c ((desc_perm (sizes xs)).mem_iff.1 hc); omega
    have hdn := getD_of_pairwise (desc (sizes xs)) (desc_pairwise (sizes xs))
    generalize desc (sizes xs) = ts at *
    generalize pSize xs = p at *
    have HI := Lib.hid (fun (wx : World) (v0 : Value) (k0 : RdV wx v0 xs) => e1 ▸ iPartType_v v0 xs wx k0)
    have HS := Lib.hid (fun (wx : World) (v0 : Value) (k0 : RdV wx v0 xs) => e1 ▸ sPartType_v v0 xs wx k0)
    have HP := Lib.hid (fun (wx : World) (v0 : Value) (k0 : RdV wx v0 xs) => e2 ▸ iPartSize_v v0 xs wx k0)
    obtain ⟨n, hn⟩ : ∃ n, n = xs.length := ⟨_, rfl⟩
    rw [← hn] at hsum
    have HN := Lib.hid hn
    have HSUM := Lib.hid hsum
    have HNN := Lib.hid hnn
    have HDN := Lib.hid hdn
    obtain ⟨m, hm⟩ : ∃ m, m = ts.length := ⟨_, rfl⟩
    rw [← hm] at hpl htl
    have HM := Lib.hid hm
    have hpm : p = (m : Int) := by omega
    have hm8 : m ≤ 8 := by omega
    clear e1 e2 hp hn hsum hnn hdn hm hpl hbd
    subst hpm
    go_wp2_with fail
    refine (HI.out _ _ (own_rdv o_a)).mono ?_
    rintro e W2 ⟨v_o, rfl, o, hb⟩
    have bel := below_step bel hb
    have o_a := own_below o_a hb
    clear hb
    have o_o := o
    clear o
    go_wp2_with fail
    refine (HS.out _ _ (own_rdv o_a)).mono ?_
    rintro e W3 ⟨v_w, rfl, o, hb⟩
    have bel := below_step bel hb
    have o_a := own_below o_a hb
    have o_o := own_below o_o hb
    clear hb
    have o_w := o
    clear o
    go_wp2_with fail
    refine (sameInts_t _ _ ts _ (own_rdv o_o) (own_rdv o_w)).mono ?_
    rintro e W4 ⟨rfl, hq⟩
    have hb := hq W3.heap.size
    clear hq
    have bel := below_step bel hb
    have o_a := own_below o_a hb
    have o_o := own_below o_o hb
    have o_w := own_below o_w hb
    clear hb
    clear o_w
    go_wp2_with fail
    refine (HP.out _ _ (own_rdv o_a)).mono ?_
    rintro e W5 ⟨rfl, hb⟩
    have bel := below_step bel hb
    have o_a := own_below o_a hb
    have o_o := own_below o_o hb
    clear hb
    obtain ⟨g, cp, rfl, hg⟩ := own_slice o_o (by rw [← HM.out]; exact htl)
    obtain ⟨ao, ca, rfl⟩ := own_slice' o_a
    have HT := Lib.hid (fun (wx : World) (q : RdV wx (.slice (some ⟨g, 0, none⟩) ts.length cp) ts) => total_v _ ts wx q HNN.out (by rw [← HM.out]; exact htl) (by rw [← HM.out]; omega))
    have HO := Lib.hid o_o
    rw [← HM.out] at HO HT ⊢
    rw [← HN.out] at o_a ⊢
    clear o_o o_a HI HS HP hg
    go_wp2
    go_loopw [10] (fun i wr => ∃ k : Nat, 1 ≤ k ∧ (k ≤ m ∨ k = 1) ∧ i = .int .i64 k ∧ Quiet W5 wr) (fun i _ => m - (intOf i).toNat)
    case atStart => exact ⟨1, by omega, .inr rfl, rfl, Quiet.refl _⟩
    case round =>
      obtain ⟨k, hk1, hk, rfl, hq⟩ := hrel
      have bel2 := below_step bel hq.below
      by_cases hlt : k < m
      · have hO2 := own_below HO.out hq.below
        have hc1 := own_cell hO2 k (by rw [← HM.out]; exact hlt)
        have hc2 := own_cell hO2 (k - 1) (by rw [← HM.out]; omega)
        have hle := HDN.out (k - 1) k (by omega) (by rw [← HM.out]; exact hlt)
        obtain ⟨x, hx⟩ : ∃ x, x = ts.getD k 0 := ⟨_, rfl⟩
        obtain ⟨y, hy⟩ : ∃ y, y = ts.getD (k - 1) 0 := ⟨_, rfl⟩
        rw [← hx] at hc1 hle
        rw [← hy] at hc2 hle
        obtain ⟨j, hj⟩ : ∃ j, j = k - 1 := ⟨_, rfl⟩
        rw [← hj] at hc2
        have b0 : (k : Int) - 1 = (j : Int) := by omega
        have b3 : IntKind.i64.wrap ((k : Int) - 1) = (j : Int) := by rw [IntWalk.i64_in _ (by omega)]; exact b0
        have b1 : (k : Int) < (m : Int) := by omega
        have b2 : (j : Int) < (m : Int) := by omega
        have b4 : ¬ y < x := by omega
        clear hx hy hj hO2
        go_wp2
        go_quiet (fail)
        go_wp2
        go_roundw
        case rel => exact ⟨k + 1, by omega, .inl (by omega), by go_num, hq.drewN _⟩
        case measure => simp [intOf]; omega
      · have b1 : ¬ (k : Int) < (m : Int) := by omega
        have hrd := own_rdv (own_below HO.out hq.below)
        have HRD := Lib.hid hrd
        clear hrd hlt hq
        go_wp2_with fail
        refine (HT.out _ HRD.out).mono ?_
        rintro e w' ⟨rfl, rfl⟩
        rw [HSUM.out]
        go_wp2
        go_ret
        exact ⟨rfl, bel2⟩
  · have e1 := partType_no hp
    have HI := Lib.hid (fun (wx : World) (v0 : Value) (k0 : RdV wx v0 xs) => e1 ▸ iPartType_v v0 xs wx k0)
    have HS := Lib.hid (fun (wx : World) (v0 : Value) (k0 : RdV wx v0 xs) => e1 ▸ sPartType_v v0 xs wx k0)
    clear hp e1
    go_wp2_with fail
    refine (HI.out _ _ (own_rdv o_a)).mono ?_
    rintro e W2 ⟨v_o, rfl, o, hb⟩
    have bel := below_step bel hb
    have o_a := own_below o_a hb
    clear hb
    have o_o := o
    clear o
    go_wp2_with fail
    refine (HS.out _ _ (own_rdv o_a)).mono ?_
    rintro e W3 ⟨v_w, rfl, o, hb⟩
    have bel := below_step bel hb
    have o_a := own_below o_a hb
    have o_o := own_below o_o hb
    clear hb
    have o_w := o
    clear o
    go_wp2_with fail
    refine (sameInts_t _ _ [] _ (own_rdv o_o) (own_rdv o_w)).mono ?_
    rintro e W4 ⟨rfl, hq⟩
    have hb := hq W3.heap.size
    clear hq
    have bel := below_step bel hb
    have o_a := own_below o_a hb
    have o_o := own_below o_o hb
    have o_w := own_below o_w hb
    clear hb
    go_wp2_with fail
    refine (sameInts_t _ _ [] _ (own_rdv o_o) (own_rdv o_w)).mono ?_
    rintro e W5 ⟨rfl, hq⟩
    have hb := hq W4.heap.size
    clear hq
    have bel := below_step bel hb
    have o_a := own_below o_a hb
    have o_o := own_below o_o hb
    have o_w := own_below o_w hb
    clear hb
    go_wp2
    go_ret
    exact ⟨rfl, bel⟩

theorem walk (a0 : Option Addr) (len0 cap0 : Nat) (z0 : List Int) (w : World) (w0 : IsRow .u8 w a0 len0 cap0 z0) :
    Calls Try.prog 10 #[.slice a0 len0 cap0] w fun e w' => e = .returned (.bool true) ∧ Below w.heap.size w w' := by
  obtain ⟨hB, hc, hcm⟩ := bytes_of_row w0
  refine (Nat.lt_or_ge 1048576 len0).elim (fun hs0 => ?_) (fun hs0 => ?_)
  · go_enter Try.func10, Try.ntmps10
    go_wp2
    go_ret
    exact ⟨rfl, Below.refl _ _⟩
  exact small a0 len0 cap0 w hB hc hcm hs0

set_option maxRecDepth 100000 in
theorem lifted (os : Os) (started : os.Started) (H : Type) (enc : TypeId × Value → H) :
    ReturnsInHanded {} Try.checked os 10 .any (Rows.fnTypeSpec.pre6 enc Try.prog Try.f10 Rows.fnTypeRow.domain false) (Rows.fnTypeSpec.post enc Try.prog Try.f10 false true false false) := by
  refine returnsInHanded_of_change (C := Try.checked) own started (by kernel_rfl) Try.func10
    (ChangeSpec.witness6 (enc := enc) (C := Try.checked) false ⟨#[], #[.slice none 0 0], []⟩ 8 (by kernel_rfl) (by kernel_rfl) (by kernel_rfl) (by kernel_rfl)) ?_
  intro W base args ds gs before hval0 hW hcnd _
  have hval : ∀ (j : Nat) t v, Try.f10.params[j]? = some t → args[j]? = some v → Value.okWide Try.prog W .any base t v := hval0
  have hW' := hW
  obtain ⟨p, q, hA0, hV, rfl, hfz, hnd⟩ := hW
  have hA : DataW.TrodAll enc Try.prog W 0 (fun _ => true) true Try.f10.params.toList args.toList ds p := hA0
  rw [Try.params10] at hA hval
  obtain ⟨v0, vs0, d0, ds0, p0, q0, hargs, rfl, rfl, h0, r0⟩ := trodAll_cons hA
  obtain ⟨rfl, rfl, rfl⟩ := trodAll_nil r0
  obtain rfl : args = #[v0] := by cases args; simp_all
  obtain ⟨rfl, rfl⟩ := trodVars_none hV
  obtain ⟨a0, len0, cap0, rfl⟩ := okWide_slice Try.underlying22 (hval 0 22 v0 rfl rfl)
  have k0 := h0
  have lt0 : ∀ x ∈ p0, x.block < W.heap.size := by obtain ⟨m, hm⟩ := k0; exact DataW.trod_lt m _ _ _ hm
  obtain ⟨z0, w0⟩ : ∃ zs, IsRow .u8 W a0 len0 cap0 zs := by
    obtain ⟨fuel, hf⟩ := h0
    rcases open_ints Try.underlying22 Try.underlying5 (by kernel_rfl) hf with ⟨hcs, _⟩ | ⟨x, l, c, zs, hcs, _, hl, hm, hz, _, hcell, hwz⟩
    · simp [Value.cells] at hcs
      obtain ⟨rfl, rfl, rfl⟩ := hcs
      exact ⟨[], .inl ⟨rfl, rfl, rfl, rfl⟩⟩
    · simp [Value.cells] at hcs
      obtain ⟨rfl, rfl, rfl⟩ := hcs
      exact ⟨zs, .inr ⟨_, rfl, hl, hm, by simpa using hz, hcell, hwz⟩⟩
  clear hA0 hval0
  refine (walk a0 len0 cap0 z0 W w0).mono fun e W' ⟨he, bel⟩ => ?_
  subst he
  exact ⟨_, rfl, _, _, _, [], _, [], hW', trodAll_mk1 (shut_bool Try.underlying4 _), (trodAll_cons_mk (Below.trod laidOut (by kernel_rfl) (of_decide_eq_true (by kernel_rfl)) k0 bel lt0) trodAll_mk0), rfl, bel.frame _, fun h => by cases h⟩

theorem over : Rows.fnTypeRow.holds Try.pinned (OpenSpec.ofChange Rows.fnTypeSpec) :=
  OpenClaim.holds_of_wide 10 Try.f10 rfl rfl rfl rfl rfl rfl rfl ⟨rfl, rfl, rfl, rfl, rfl⟩ rfl rfl rfl rfl rfl (by kernel_rfl) Try.func10 (by kernel_rfl)
    (of_decide_eq_true (by kernel_rfl)) (by unfold Func.isWrapper; first | (rw [if_pos (by decide +kernel)]; kernel_rfl) | (rw [if_neg (by decide +kernel)]; exact ⟨rfl, rfl⟩))
    (fun os started H enc _ => lifted os started H enc)

/-- The statement. -/
theorem proved : Rows.FnTypeSaid := over
end Go.Proofs.Ytabgadmdjpohaaa.fnType
