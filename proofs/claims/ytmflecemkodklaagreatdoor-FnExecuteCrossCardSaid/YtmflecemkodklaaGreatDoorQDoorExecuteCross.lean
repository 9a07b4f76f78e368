/-
  Crossings are told by the command. For every input the Go text of laws.FnExecuteCross returns true, and its argument reads afterwards as before. No condition.
-/
import Derived.Test.YtmflecemkodklaaGreatDoorMjF
import Derived.Test.YtmflecemkodklaaGreatDoorQFactsExecuteCross
import Derived.Test.YtmflecemkodklaaGreatDoorMjA
import Derived.Test.YtmflecemkodklaaGreatDoorMjC
import Derived.Test.YtmflecemkodklaaGreatDoorRows
import Derived.Test.YtmflecemkodklaaGreatDoorCards
import Derived.Test.YtmflecemkodklaaGreatDoorTie
import Derived.WalkKit
import Derived.ProofKit
import Derived.OpenShut
import Derived.ShutString
import Derived.ChangeOld
import Derived.Below
namespace Go.Proofs.YtmflecemkodklaaGreatDoor.fnExecuteCross
open Go.ChangeShapes Go.WideShapes Go.ChangeAt Go.RowKit
open Go.ChangeMaps (open_string shut_string)
set_option linter.unusedVariables false
set_option linter.unusedSimpArgs false
set_option linter.unnecessarySimpa false

set_option maxRecDepth 100000
theorem own : ownKnob Tryz.prog.godebug = none := by kernel_rfl
theorem laidOut : laidOutB Tryz.prog = true := seat_laidOut

theorem draw_any (a : Option Addr) (len cap : Nat) (w : World) (hby : Bytes w a len) (hlen : len ≤ 1048576) (hc : len ≤ cap) (hcm : cap ≤ maxLen) :
    Calls Tryz.prog 19 #[.slice a len cap] w fun e w' => ∃ v xs, e = .returned v ∧ Own w' w.heap.size v xs ∧ xs.length ≤ 9 ∧ (∀ x ∈ xs, 0 ≤ x ∧ x ≤ 9) ∧ Below w.heap.size w w' := by
  go_enter Tryz.func19, Tryz.ntmps19
  go_wp2_with fail
  refine (l91Some_any a len cap w hby hlen hc hcm).mono ?_
  rintro e w1 ⟨v, xs, rfl, h⟩
  go_wp2
  go_ret
  exact ⟨v, xs, rfl, h⟩

set_option maxRecDepth 100000 in
set_option maxHeartbeats 4000000 in
theorem small (a0 : Option Addr) (len0 cap0 : Nat) (w : World) (hE : EnvAt w) (hB : Bytes w a0 len0) (hc : len0 ≤ cap0) (hcm : cap0 ≤ maxLen) (hs0 : len0 ≤ 1048576) :
    Calls Tryz.prog 7 #[.slice a0 len0 cap0] w fun e w' => e = .returned (.bool true) ∧ Below w.heap.size w w' := by
  have bel : Below w.heap.size w w := Below.refl _ _
  have HE := Lib.hid hE
  clear hE
  go_enter Tryz.func7, Tryz.ntmps7
  go_wp2_with fail
  refine (draw_any a0 len0 cap0 _ hB hs0 hc hcm).mono ?_
  rintro e W1 ⟨v_a, xs, rfl, o, hl9, hx9, hb⟩
  have bel := below_step bel hb
  clear hb
  have o_a := o
  clear o
  by_cases hp : partIn xs = true
  · obtain ⟨p, e1, hpb⟩ : ∃ p : Nat, arcCross xs = ((p : Int), true) ∧ p ≤ 1000000 := by
      refine ⟨crossings xs, by simp [arcCross, hp], ?_⟩
      have h := bd_pairsL crossB hp
      have e : crossings xs = pairsL crossB (arcsOf xs) := rfl
      rw [← e] at h
      have hl := partIn_len hp
      have h1 := pairsL_le crossB (arcsOf xs)
      have h2 := arcsOf_len xs
      have h3 : (arcsOf xs).length * (arcsOf xs).length ≤ 8 * 8 := Nat.mul_le_mul (by omega) (by omega)
      rw [← e] at h1
      omega
    have hex := exec_cross hp
    rw [e1] at hex
    have hsp := fun W v (h : RdV W v xs) => spaced_v v xs W h (by omega) (fun x hx => ⟨(hx9 x hx).1, by have := (hx9 x hx).2; omega⟩)
    have hsl : (spacedL xs).length ≤ 70464 := by
      rw [spacedL_join]
      have := joinL_len (xs.map fun x => decN x.toNat) 1100 fun t ht => by
        obtain ⟨x, hxm, rfl⟩ := List.mem_map.1 ht
        have := hx9 x hxm
        have := decN_len15 (n := x.toNat) (by omega)
        omega
      have h4 : (xs.map fun x => decN x.toNat).length ≤ 64 := by rw [List.length_map]; omega
      have := Nat.mul_le_mul_left (1100 + 1) h4
      omega
    obtain ⟨sa, hsa⟩ : ∃ sa, sa = spacedL xs := ⟨_, rfl⟩
    rw [← hsa] at hex hsp hsl
    obtain ⟨ao, ca, rfl⟩ := own_slice' o_a
    obtain ⟨n, hn⟩ : ∃ n, n = xs.length := ⟨_, rfl⟩
    rw [← hn] at o_a hex ⊢
    have hd1 := fun W => digits_nat p p (Nat.le_refl _) (by omega) W
    have hd2 := fun W => digits_nat n n (Nat.le_refl _) (by omega) W
    have hdl1 := decN_len15 (n := p) (by omega)
    have hdl2 := decN_len15 (n := n) (by omega)
    rw [Int.toNat_natCast] at hex
    unfold thingsL sayOk w_part at hex
    obtain ⟨dp, hdp⟩ : ∃ dp, dp = decN p := ⟨_, rfl⟩
    obtain ⟨dn, hdn⟩ : ∃ dn, dn = decN n := ⟨_, rfl⟩
    rw [← hdp] at hex hd1 hdl1
    rw [← hdn] at hex hd2 hdl2
    obtain ⟨t1, ht1⟩ : ∃ t1, t1 = [112, 97, 114, 116, 32] ++ sa := ⟨_, rfl⟩
    obtain ⟨t2, ht2⟩ : ∃ t2, t2 = t1 ++ [10, 99, 114, 111, 115, 115, 10, 116, 117, 114, 110, 101, 100, 10] := ⟨_, rfl⟩
    obtain ⟨q1, hq1⟩ : ∃ q1, q1 = [111, 107, 10] ++ dp := ⟨_, rfl⟩
    obtain ⟨q2, hq2⟩ : ∃ q2, q2 = q1 ++ [10, 111, 107, 10, 116, 104, 105, 110, 103, 115, 32] := ⟨_, rfl⟩
    obtain ⟨q3, hq3⟩ : ∃ q3, q3 = q2 ++ dn := ⟨_, rfl⟩
    obtain ⟨q, hq⟩ : ∃ q, q = q3 ++ [10] := ⟨_, rfl⟩
    have hR : execL lineL t2 = q := by
      rw [hq, hq3, hq2, hq1]
      have h2 : t2 = [112, 97, 114, 116] ++ 32 :: sa ++ 10 :: [99, 114, 111, 115, 115, 10, 116, 117, 114, 110, 101, 100, 10] := by rw [ht2, ht1]; simp
      rw [h2, hex]
      simp
    have l1 : t1.length ≤ 80000 := by rw [ht1, List.length_append]; simp; omega
    have l2 : t2.length ≤ 80100 := by rw [ht2, List.length_append]; simp; omega
    have HX := Lib.hid (fun W (h : EnvAt W) => iExecute_v t2 W h (by omega))
    rw [hR] at HX
    have hc1 : (⟨#[112, 97, 114, 116, 32]⟩ : ByteArray) ++ ⟨sa.toArray⟩ = ⟨t1.toArray⟩ := by rw [ht1]; exact ByteArray.mk_append_mk [112, 97, 114, 116, 32] sa
    have hc2 : (⟨t1.toArray⟩ : ByteArray) ++ ⟨#[10, 99, 114, 111, 115, 115, 10, 116, 117, 114, 110, 101, 100, 10]⟩ = ⟨t2.toArray⟩ := by rw [ht2]; exact ByteArray.mk_append_mk t1 [10, 99, 114, 111, 115, 115, 10, 116, 117, 114, 110, 101, 100, 10]
    have hkq1 : (⟨#[111, 107, 10]⟩ : ByteArray) ++ ⟨dp.toArray⟩ = ⟨q1.toArray⟩ := by rw [hq1]; exact ByteArray.mk_append_mk [111, 107, 10] dp
    have hmq1 : q1.length ≤ 100000 := by rw [hq1, List.length_append]; (try simp only [List.length_cons, List.length_nil]); omega
    have hkq2 : (⟨q1.toArray⟩ : ByteArray) ++ ⟨#[10, 111, 107, 10, 116, 104, 105, 110, 103, 115, 32]⟩ = ⟨q2.toArray⟩ := by rw [hq2]; exact ByteArray.mk_append_mk q1 [10, 111, 107, 10, 116, 104, 105, 110, 103, 115, 32]
    have hmq2 : q2.length ≤ 200000 := by rw [hq2, List.length_append]; (try simp only [List.length_cons, List.length_nil]); omega
    have hkq3 : (⟨q2.toArray⟩ : ByteArray) ++ ⟨dn.toArray⟩ = ⟨q3.toArray⟩ := by rw [hq3]; exact ByteArray.mk_append_mk q2 dn
    have hmq3 : q3.length ≤ 300000 := by rw [hq3, List.length_append]; (try simp only [List.length_cons, List.length_nil]); omega
    have hkq : (⟨q3.toArray⟩ : ByteArray) ++ ⟨#[10]⟩ = ⟨q.toArray⟩ := by rw [hq]; exact ByteArray.mk_append_mk q3 [10]
    have hmq : q.length ≤ 400000 := by rw [hq, List.length_append]; (try simp only [List.length_cons, List.length_nil]); omega
    have HI := Lib.hid (fun (wx : World) (v0 : Value) (k0 : RdV wx v0 xs) => e1 ▸ iArcCross_v v0 xs wx k0)
    have HS := Lib.hid (fun (wx : World) (v0 : Value) (k0 : RdV wx v0 xs) => e1 ▸ sArcCross_v v0 xs wx k0)
    have HSP := Lib.hid hsp
    have HD1 := Lib.hid hd1
    have HD2 := Lib.hid hd2
    clear e1 hex hsp hd1 hd2 hp hx9 hsa hn hdp hdn hR ht1 ht2 hq3 hq2 hq1 hq
    go_wp2_with fail
    refine (HI.out _ _ (own_rdv o_a)).mono ?_
    rintro e W2 ⟨rfl, hb⟩
    have bel := below_step bel hb
    have o_a := own_below o_a hb
    clear hb
    go_wp2_with fail
    refine (HS.out _ _ (own_rdv o_a)).mono ?_
    rintro e W3 ⟨rfl, hb⟩
    have bel := below_step bel hb
    have o_a := own_below o_a hb
    clear hb
    go_wp2_with fail
    refine (HSP.out _ _ (own_rdv o_a)).mono ?_
    rintro e W4 ⟨rfl, hb⟩
    have bel := below_step bel hb
    have o_a := own_below o_a hb
    clear hb
    go_wp2_with fail
    refine (HX.out _ (env_below HE.out bel)).mono ?_
    rintro e W5 ⟨rfl, hb⟩
    have bel := below_step bel hb
    have o_a := own_below o_a hb
    clear hb
    go_wp2_with fail
    refine (HD1.out _).mono ?_
    rintro e W6 ⟨rfl, hb⟩
    have bel := below_step bel hb
    have o_a := own_below o_a hb
    clear hb
    go_wp2_with fail
    refine (HD2.out _).mono ?_
    rintro e W7 ⟨rfl, hb⟩
    have bel := below_step bel hb
    have o_a := own_below o_a hb
    clear hb
    go_wp2
    go_ret
    exact ⟨by first | rfl | simp, bel⟩
  · have e1 : arcCross xs = (0, false) := by simp [arcCross, hp]
    have HI := Lib.hid (fun (wx : World) (v0 : Value) (k0 : RdV wx v0 xs) => e1 ▸ iArcCross_v v0 xs wx k0)
    have HS := Lib.hid (fun (wx : World) (v0 : Value) (k0 : RdV wx v0 xs) => e1 ▸ sArcCross_v v0 xs wx k0)
    clear hp e1
    go_wp2_with fail
    refine (HI.out _ _ (own_rdv o_a)).mono ?_
    rintro e W2 ⟨rfl, hb⟩
    have bel := below_step bel hb
    have o_a := own_below o_a hb
    clear hb
    go_wp2_with fail
    refine (HS.out _ _ (own_rdv o_a)).mono ?_
    rintro e W3 ⟨rfl, hb⟩
    have bel := below_step bel hb
    have o_a := own_below o_a hb
    clear hb
    go_wp2
    go_ret
    exact ⟨rfl, bel⟩

theorem walk (a0 : Option Addr) (len0 cap0 : Nat) (z0 : List Int) (w : World) (hE : EnvAt w) (w0 : IsRow .u8 w a0 len0 cap0 z0) :
    Calls Tryz.prog 7 #[.slice a0 len0 cap0] w fun e w' => e = .returned (.bool true) ∧ Below w.heap.size w w' := by
  obtain ⟨hB, hc, hcm⟩ := bytes_of_row w0
  refine (Nat.lt_or_ge 1048576 len0).elim (fun hs0 => ?_) (fun hs0 => ?_)
  · clear hE
    go_enter Tryz.func7, Tryz.ntmps7
    go_wp2
    go_ret
    exact ⟨rfl, Below.refl _ _⟩
  exact small a0 len0 cap0 w hE hB hc hcm hs0

set_option maxRecDepth 100000 in
theorem lifted (os : Os) (started : os.Started) (H : Type) (enc : TypeId × Value → H) :
    ReturnsInHanded {} Tryz.checked os 7 .any (fun w args => (Rows.fnExecuteCrossSpec.pre enc Tryz.prog Tryz.f7 [] false w args ∧ laidMetH Tryz.prog [("math/bits.deBruijn32tab", Rows.laid_math_bits_deBruijn32tab), ("math/bits.deBruijn64tab", Rows.laid_math_bits_deBruijn64tab), ("internal/strconv.uint64pow10", Rows.laid_internal_strconv_uint64pow10), ("unicode/utf8.acceptRanges", Rows.laid_unicode_utf8_acceptRanges), ("errors.errorType", Rows.laid_errors_errorType), ("unicode/utf8.first", Rows.laid_unicode_utf8_first)] w) ∧ sizedMet enc Tryz.prog Tryz.f7 (OpenSpec.ofChange Rows.fnExecuteCrossSpec) false w args)
      (Rows.fnExecuteCrossSpec.post enc Tryz.prog Tryz.f7 false true false false) := by
  refine returns_shaped_and (C := Tryz.checked) (X := fun w _ => laidMetH Tryz.prog [("math/bits.deBruijn32tab", Rows.laid_math_bits_deBruijn32tab), ("math/bits.deBruijn64tab", Rows.laid_math_bits_deBruijn64tab), ("internal/strconv.uint64pow10", Rows.laid_internal_strconv_uint64pow10), ("unicode/utf8.acceptRanges", Rows.laid_unicode_utf8_acceptRanges), ("errors.errorType", Rows.laid_errors_errorType), ("unicode/utf8.first", Rows.laid_unicode_utf8_first)] w) (fun _ _ _ hh h => h.of_heap hh) own started noInit Tryz.func7
    (ChangeSpec.witness_shaped (enc := enc) (C := Tryz.checked) (os := os) (X := fun w _ => laidMetH Tryz.prog [("math/bits.deBruijn32tab", Rows.laid_math_bits_deBruijn32tab), ("math/bits.deBruijn64tab", Rows.laid_math_bits_deBruijn64tab), ("internal/strconv.uint64pow10", Rows.laid_internal_strconv_uint64pow10), ("unicode/utf8.acceptRanges", Rows.laid_unicode_utf8_acceptRanges), ("errors.errorType", Rows.laid_errors_errorType), ("unicode/utf8.first", Rows.laid_unicode_utf8_first)] w) false ((World.doorLaid Tryz.prog 400 os).layVars Tryz.prog laidFive) #[.slice none 0 0] 8 (witExe_os os) (witExe_shaped os _) (by kernel_rfl) (by kernel_rfl) (by kernel_rfl) (witExe_six os _)) ?_
  intro W base args ds gs before hval0 hW _ _ hsh hL _
  have hE : EnvAt W := env_of_laid hsh hL
  have hval : ∀ (j : Nat) t v, Tryz.f7.params[j]? = some t → args[j]? = some v → Value.okWide Tryz.prog W .any base t v := hval0
  have hW' := hW
  obtain ⟨p, q, hA0, hV, rfl, hfz, hnd⟩ := hW
  have hA : DataW.TrodAll enc Tryz.prog W 0 (fun _ => true) true Tryz.f7.params.toList args.toList ds p := hA0
  rw [Tryz.params7] at hA hval
  obtain ⟨v0, vs0, d0, ds0, p0, q0, hargs, rfl, rfl, h0, r0⟩ := trodAll_cons hA
  obtain ⟨rfl, rfl, rfl⟩ := trodAll_nil r0
  obtain rfl : args = #[v0] := by cases args; simp_all
  obtain ⟨rfl, rfl⟩ := trodVars_none hV
  obtain ⟨a0, len0, cap0, rfl⟩ := okWide_slice Tryz.underlying22 (hval 0 22 v0 rfl rfl)
  have k0 := h0
  have lt0 : ∀ x ∈ p0, x.block < W.heap.size := by obtain ⟨m, hm⟩ := k0; exact DataW.trod_lt m _ _ _ hm
  obtain ⟨z0, w0⟩ : ∃ zs, IsRow .u8 W a0 len0 cap0 zs := by
    obtain ⟨fuel, hf⟩ := h0
    rcases open_ints Tryz.underlying22 Tryz.underlying5 (by kernel_rfl) hf with ⟨hcs, _⟩ | ⟨x, l, c, zs, hcs, _, hl, hm, hz, _, hcell, hwz⟩
    · simp [Value.cells] at hcs
      obtain ⟨rfl, rfl, rfl⟩ := hcs
      exact ⟨[], .inl ⟨rfl, rfl, rfl, rfl⟩⟩
    · simp [Value.cells] at hcs
      obtain ⟨rfl, rfl, rfl⟩ := hcs
      exact ⟨zs, .inr ⟨_, rfl, hl, hm, by simpa using hz, hcell, hwz⟩⟩
  clear hA0 hval0
  refine (walk a0 len0 cap0 z0 W hE w0).mono fun e W' ⟨he, bel⟩ => ?_
  subst he
  exact ⟨_, rfl, _, _, _, [], _, [], hW', trodAll_mk1 (shut_bool Tryz.underlying4 _), (trodAll_cons_mk (Below.trod laidOut (by kernel_rfl) (of_decide_eq_true (by kernel_rfl)) k0 bel lt0) trodAll_mk0), rfl, bel.frame _, fun h => by cases h⟩

theorem over : Rows.fnExecuteCrossRow.holds Tryz.pinned (OpenSpec.ofChange Rows.fnExecuteCrossSpec) :=
  OpenClaim.holds_of_wide 7 Tryz.f7 rfl rfl rfl rfl rfl rfl rfl ⟨rfl, rfl, rfl, rfl, rfl⟩ rfl rfl rfl rfl rfl funcOf Tryz.func7 closed
    (of_decide_eq_true (by kernel_rfl)) (by unfold Func.isWrapper; first | (rw [if_pos (by decide +kernel)]; kernel_rfl) | (rw [if_neg (by decide +kernel)]; exact ⟨rfl, rfl⟩))
    (fun os started H enc _ => lifted os started H enc)

/-- The statement. -/
theorem proved : Rows.FnExecuteCrossCardSaid :=
  Claim7.holds_tied_plain_at .later [] [.data, .data, .data, .data, .handle, .pinned] true Rows.fnExecuteCrossCard.stood.harness Rows.fnExecuteCrossCard.stood.looks
    over (fun _ h => by cases h) byText (fun _ h => by cases h) fnExecuteCross_row_tie rfl ⟨rfl, rfl⟩ mainIs rfl
    (fun f fn hf hfn => by
      obtain rfl : f = 7 := Option.some.inj (funcOf.symm.trans hf) |>.symm
      obtain rfl : fn = Tryz.f7 := (Option.some.inj (Tryz.func7.symm.trans hfn)).symm
      exact ⟨looks, fun j t ht => by
        rw [Tryz.params7] at ht
        have hm : t ∈ [22] := by simpa using Array.mem_of_getElem? ht
        have hall : ([22].all fun u => !Tryz.prog.wantsStandIn u) = true := by kernel_rfl
        exact (show Tryz.prog.wantsStandIn t = false by simpa using List.all_eq_true.1 hall t hm)⟩)
    goesBy

end Go.Proofs.YtmflecemkodklaaGreatDoor.fnExecuteCross
