/-
  Asking changes nothing. For every input the Go text of laws.FnExecuteTwice returns true, and its argument reads afterwards as before. No condition.
-/
import Derived.Test.YtmflecemkodklaaGreatDoorMhH
import Derived.Test.YtmflecemkodklaaGreatDoorQFactsExecuteTwice
import Derived.Test.YtmflecemkodklaaGreatDoorMhA
import Derived.Test.YtmflecemkodklaaGreatDoorMhD
import Derived.Test.YtmflecemkodklaaGreatDoorRows
import Derived.Test.YtmflecemkodklaaGreatDoorCards
import Derived.Test.YtmflecemkodklaaGreatDoorTie
import Derived.WalkKit
import Derived.ProofKit
import Derived.OpenShut
import Derived.ShutString
import Derived.ChangeOld
import Derived.Below
namespace Go.Proofs.YtmflecemkodklaaGreatDoor.fnExecuteTwice
open Go.ChangeShapes Go.WideShapes Go.ChangeAt Go.RowKit
open Go.ChangeMaps (open_string shut_string)
set_option linter.unusedVariables false
set_option linter.unusedSimpArgs false
set_option linter.unnecessarySimpa false

set_option maxRecDepth 100000
theorem own : ownKnob Tryz.prog.godebug = none := by kernel_rfl
theorem laidOut : laidOutB Tryz.prog = true := seat_laidOut

set_option maxRecDepth 100000 in
set_option maxHeartbeats 4000000 in
theorem small (a0 : Option Addr) (len0 cap0 : Nat) (w : World) (hE : EnvAt w) (hB : Bytes w a0 len0) (hc : len0 ≤ cap0) (hcm : cap0 ≤ maxLen) (hs0 : len0 ≤ 1048576) :
    Calls Tryz.prog 5 #[.slice a0 len0 cap0] w fun e w' => e = .returned (.bool true) ∧ Below w.heap.size w w' := by
  have bel : Below w.heap.size w w := Below.refl _ _
  have HE := Lib.hid hE
  clear hE
  go_enter Tryz.func5, Tryz.ntmps5
  go_wp2_with fail
  refine (drawExecute_any a0 len0 cap0 _ hB hs0 hc hcm).mono ?_
  rintro e W1 ⟨t, rfl, htl, hb⟩
  have bel := yAz bel hb
  clear hb hB hs0 hc hcm
  have hcl : (completeL t).length ≤ t.length := complete_len t
  have HX := Lib.hid (fun W (h : EnvAt W) => iExecute_v t W h (by omega))
  have HS := Lib.hid (fun W => sExecute_v t W (by omega))
  have HC := Lib.hid (fun W => complete_v t W (by omega))
  have hL : ∀ (A : List UInt8), (lastL A).length ≤ A.length := fun A => by unfold lastL; rw [List.length_drop]; omega
  have hends := complete_ends t
  obtain ⟨r, hr⟩ : ∃ r, r = execL lineL t := ⟨_, rfl⟩
  rw [← hr] at HX HS
  obtain ⟨c, hce⟩ : ∃ c, c = completeL t := ⟨_, rfl⟩
  rw [← hce] at HC hcl hends
  clear hr hce
  go_wp2_with fail
  refine (HX.out _ (env_below HE.out bel)).mono ?_
  rintro e W2 ⟨rfl, hb⟩
  have bel := yAz bel hb
  clear hb
  go_wp2_with fail
  refine (HS.out _).mono ?_
  rintro e W3 ⟨rfl, hb⟩
  have bel := yAz bel hb
  clear hb
  go_wp2_with fail
  refine (HC.out _).mono ?_
  rintro e W4 ⟨rfl, hb⟩
  have bel := yAz bel hb
  clear hb
  by_cases hbig : 590 < c.length
  · have hg : decide ((590 : Int) < (c.length : Int)) = true := by simp; omega
    clear hbig
    go_wp2
    go_ret
    exact ⟨by first | rfl | simp, bel⟩
  · have hg : decide ((590 : Int) < (c.length : Int)) = false := by simp; omega
    obtain ⟨one, hex1, hex2⟩ := exec_twice hends (by omega)
    have hsh := exec_short c
    have hsh1 := exec_short (c ++ [115, 104, 111, 119, 10])
    have HA := Lib.hid (fun W (h : EnvAt W) => iExecute_v c W h (by omega))
    obtain ⟨A, hA⟩ : ∃ A, A = execL lineL c := ⟨_, rfl⟩
    rw [← hA] at hex1 hex2 hsh HA
    have HLL := Lib.hid (fun W => lastLine_v A W (by omega))
    have hll := hL A
    obtain ⟨L, hLe⟩ : ∃ L, L = lastL A := ⟨_, rfl⟩
    rw [← hLe] at hex1 hex2 HLL hll
    obtain ⟨k, hk⟩ : ∃ k, k = A.length - L.length := ⟨_, rfl⟩
    rw [← hk] at hex1 hex2
    have hki : (A.length : Int) - (L.length : Int) = (k : Int) := by omega
    have hkN : k ≤ A.length := by omega
    have hw0 : IntKind.i64.wrap (k : Int) = k := IntWalk.i64_in _ (by omega)
    have hw1 : IntKind.i64.wrap ((A.length : Int) - (L.length : Int)) = k := by rw [hki]; exact hw0
    have hsz : (⟨A.toArray⟩ : ByteArray).size = A.length := rfl
    obtain ⟨s1, hs1⟩ : ∃ s1, s1 = c ++ [115, 104, 111, 119, 10] := ⟨_, rfl⟩
    obtain ⟨s2, hs2⟩ : ∃ s2, s2 = c ++ [115, 104, 111, 119, 10, 115, 104, 111, 119, 10] := ⟨_, rfl⟩
    obtain ⟨p1, hp1⟩ : ∃ p1, p1 = A.take k := ⟨_, rfl⟩
    have hp1l : p1.length = k := by rw [hp1, List.length_take]; omega
    obtain ⟨p2, hp2⟩ : ∃ p2, p2 = p1 ++ one := ⟨_, rfl⟩
    obtain ⟨p3, hp3⟩ : ∃ p3, p3 = p2 ++ one := ⟨_, rfl⟩
    obtain ⟨p4, hp4⟩ : ∃ p4, p4 = p3 ++ L := ⟨_, rfl⟩
    obtain ⟨b, hbe⟩ : ∃ b, b = p2 ++ L := ⟨_, rfl⟩
    rw [← hs1] at hsh1
    rw [← hs1, ← hp1, ← hp2, ← hbe] at hex1
    rw [← hs2, ← hp1, ← hp2, ← hp3, ← hp4] at hex2
    rw [hex1] at hsh1
    have hbl : b.length = k + one.length + L.length := by rw [hbe, hp2, List.length_append, List.length_append, hp1l]
    obtain ⟨j, hj⟩ : ∃ j, j = k + one.length := ⟨_, rfl⟩
    have hji : (b.length : Int) - (L.length : Int) = (j : Int) := by omega
    have hjN : j ≤ b.length := by omega
    have hkj : k ≤ j := by omega
    have hw2 : IntKind.i64.wrap (j : Int) = j := IntWalk.i64_in _ (by omega)
    have hw3 : IntKind.i64.wrap ((b.length : Int) - (L.length : Int)) = j := by rw [hji]; exact hw2
    have hszb : (⟨b.toArray⟩ : ByteArray).size = b.length := rfl
    have l1 : p1.length ≤ 70000000 := by omega
    have lo : one.length ≤ 70000000 := by omega
    have l2 : p2.length ≤ 140000000 := by rw [hp2, List.length_append]; omega
    have l3 : p3.length ≤ 210000000 := by rw [hp3, List.length_append]; omega
    have ls1 : s1.length ≤ 700 := by rw [hs1, List.length_append]; (try simp only [List.length_cons, List.length_nil]); omega
    have ls2 : s2.length ≤ 700 := by rw [hs2, List.length_append]; (try simp only [List.length_cons, List.length_nil]); omega
    have lL : L.length ≤ 70000000 := by omega
    have HX1 := Lib.hid (fun W (h : EnvAt W) => iExecute_v s1 W h (by omega))
    rw [hex1] at HX1
    have HX2 := Lib.hid (fun W (h : EnvAt W) => iExecute_v s2 W h (by omega))
    rw [hex2] at HX2
    have hc1 : (⟨c.toArray⟩ : ByteArray) ++ ⟨#[115, 104, 111, 119, 10]⟩ = ⟨s1.toArray⟩ := by rw [hs1]; exact ByteArray.mk_append_mk c [115, 104, 111, 119, 10]
    have hc2 : (⟨c.toArray⟩ : ByteArray) ++ ⟨#[115, 104, 111, 119, 10, 115, 104, 111, 119, 10]⟩ = ⟨s2.toArray⟩ := by rw [hs2]; exact ByteArray.mk_append_mk c [115, 104, 111, 119, 10, 115, 104, 111, 119, 10]
    have hc3 : (⟨p1.toArray⟩ : ByteArray) ++ ⟨one.toArray⟩ = ⟨p2.toArray⟩ := by rw [hp2]; exact ByteArray.mk_append_mk p1 one
    have hc4 : (⟨p2.toArray⟩ : ByteArray) ++ ⟨one.toArray⟩ = ⟨p3.toArray⟩ := by rw [hp3]; exact ByteArray.mk_append_mk p2 one
    have hc5 : (⟨p3.toArray⟩ : ByteArray) ++ ⟨L.toArray⟩ = ⟨p4.toArray⟩ := by rw [hp4]; exact ByteArray.mk_append_mk p3 L
    have hc6 : (⟨A.toArray⟩ : ByteArray).extract 0 k = ⟨p1.toArray⟩ := by rw [str_extract, hp1]; rfl
    have hc7 : (⟨b.toArray⟩ : ByteArray).extract k j = ⟨one.toArray⟩ := by
      rw [str_extract, hbe, List.take_append_of_le_length (by rw [hp2, List.length_append]; omega), List.take_of_length_le (by rw [hp2, List.length_append]; omega), hp2, ← hp1l, List.drop_left]
    have hcl2 : c.length ≤ 600 := by omega
    have hk9 : k ≤ 70000000 := by omega
    have hj9 : j ≤ 140000000 := by omega
    have hb9 : b.length ≤ 210000000 := by omega
    clear hex1 hex2 hs1 hs2 hp1 hp2 hp3 hp4 hbe hA hLe hbig hends hL hk hj HX HS HC hp1l hbl hsh1
    go_wp2_with fail
    refine (HA.out _ (env_below HE.out bel)).mono ?_
    rintro e W5 ⟨rfl, hb⟩
    have bel := yAz bel hb
    clear hb
    go_wp2_with fail
    refine (HLL.out _).mono ?_
    rintro e W6 ⟨rfl, hb⟩
    have bel := yAz bel hb
    clear hb
    go_wp2_with fail
    refine (HX1.out _ (env_below HE.out bel)).mono ?_
    rintro e W7 ⟨rfl, hb⟩
    have bel := yAz bel hb
    clear hb
    have belD : Below w.heap.size w W7.drew := bel.drew
    go_wp2
    go_region_with (go_at_call 10; (with_reducible refine (HX2.out _ (env_below HE.out belD)).mono ?_); rintro e W8 ⟨rfl, hb⟩; have bel6 := yAz belD hb; clear hb)
    all_goals go_wp2
    all_goals go_ret
    all_goals exact ⟨by first | rfl | simp, bel6⟩


theorem walk (a0 : Option Addr) (len0 cap0 : Nat) (z0 : List Int) (w : World) (hE : EnvAt w) (w0 : IsRow .u8 w a0 len0 cap0 z0) :
    Calls Tryz.prog 5 #[.slice a0 len0 cap0] w fun e w' => e = .returned (.bool true) ∧ Below w.heap.size w w' := by
  obtain ⟨hB, hc, hcm⟩ := bytes_of_row w0
  refine (Nat.lt_or_ge 1048576 len0).elim (fun hs0 => ?_) (fun hs0 => ?_)
  · clear hE
    go_enter Tryz.func5, Tryz.ntmps5
    go_wp2
    go_ret
    exact ⟨rfl, Below.refl _ _⟩
  exact small a0 len0 cap0 w hE hB hc hcm hs0

set_option maxRecDepth 100000 in
theorem lifted (os : Os) (started : os.Started) (H : Type) (enc : TypeId × Value → H) :
    ReturnsInHanded {} Tryz.checked os 5 .any (fun w args => (Rows.fnExecuteTwiceSpec.pre enc Tryz.prog Tryz.f5 [] false w args ∧ laidMetH Tryz.prog [("math/bits.deBruijn32tab", Rows.laid_math_bits_deBruijn32tab), ("math/bits.deBruijn64tab", Rows.laid_math_bits_deBruijn64tab), ("internal/strconv.uint64pow10", Rows.laid_internal_strconv_uint64pow10), ("unicode/utf8.acceptRanges", Rows.laid_unicode_utf8_acceptRanges), ("errors.errorType", Rows.laid_errors_errorType), ("unicode/utf8.first", Rows.laid_unicode_utf8_first)] w) ∧ sizedMet enc Tryz.prog Tryz.f5 (OpenSpec.ofChange Rows.fnExecuteTwiceSpec) false w args)
      (Rows.fnExecuteTwiceSpec.post enc Tryz.prog Tryz.f5 false true false false) := by
  refine returns_shaped_and (C := Tryz.checked) (X := fun w _ => laidMetH Tryz.prog [("math/bits.deBruijn32tab", Rows.laid_math_bits_deBruijn32tab), ("math/bits.deBruijn64tab", Rows.laid_math_bits_deBruijn64tab), ("internal/strconv.uint64pow10", Rows.laid_internal_strconv_uint64pow10), ("unicode/utf8.acceptRanges", Rows.laid_unicode_utf8_acceptRanges), ("errors.errorType", Rows.laid_errors_errorType), ("unicode/utf8.first", Rows.laid_unicode_utf8_first)] w) (fun _ _ _ hh h => h.of_heap hh) own started noInit Tryz.func5
    (ChangeSpec.witness_shaped (enc := enc) (C := Tryz.checked) (os := os) (X := fun w _ => laidMetH Tryz.prog [("math/bits.deBruijn32tab", Rows.laid_math_bits_deBruijn32tab), ("math/bits.deBruijn64tab", Rows.laid_math_bits_deBruijn64tab), ("internal/strconv.uint64pow10", Rows.laid_internal_strconv_uint64pow10), ("unicode/utf8.acceptRanges", Rows.laid_unicode_utf8_acceptRanges), ("errors.errorType", Rows.laid_errors_errorType), ("unicode/utf8.first", Rows.laid_unicode_utf8_first)] w) false ((World.doorLaid Tryz.prog 400 os).layVars Tryz.prog laidFive) #[.slice none 0 0] 8 (witExe_os os) (witExe_shaped os _) (by kernel_rfl) (by kernel_rfl) (by kernel_rfl) (witExe_six os _)) ?_
  intro W base args ds gs before hval0 hW _ _ hsh hL _
  have hE : EnvAt W := env_of_laid hsh hL
  have hval : ∀ (j : Nat) t v, Tryz.f5.params[j]? = some t → args[j]? = some v → Value.okWide Tryz.prog W .any base t v := hval0
  have hW' := hW
  obtain ⟨p, q, hA0, hV, rfl, hfz, hnd⟩ := hW
  have hA : DataW.TrodAll enc Tryz.prog W 0 (fun _ => true) true Tryz.f5.params.toList args.toList ds p := hA0
  rw [Tryz.params5] at hA hval
  obtain ⟨v0, vs0, d0, ds0, p0, q0, hargs, rfl, rfl, h0, r0⟩ := trodAll_cons hA
  obtain ⟨rfl, rfl, rfl⟩ := trodAll_nil r0
  obtain rfl : args = #[v0] := by cases args; simp_all
  obtain ⟨rfl, rfl⟩ := trodVars_none hV
  obtain ⟨a0, len0, cap0, rfl⟩ := okWide_slice Tryz.underlying22 (hval 0 22 v0 rfl rfl)
  have k0 := h0
  have lt0 : ∀ x ∈ p0, x.block < W.heap.size := by obtain ⟨m, hm⟩ := k0; exact DataW.trod_lt m _ _ _ hm
  obtain ⟨z0, w0⟩ : ∃ zs, IsRow .u8 W a0 len0 cap0 zs := by
    obtain ⟨fuel, hf⟩ := h0
    rcases open_ints Tryz.underlying22 Tryz.underlying5 (by kernel_rfl) hf with ⟨hcs, _⟩ | ⟨x, l, c, zs, hcs, _, hl, hm, hz, _, hcell, hwz⟩
    · simp [Value.cells] at hcs
      obtain ⟨rfl, rfl, rfl⟩ := hcs
      exact ⟨[], .inl ⟨rfl, rfl, rfl, rfl⟩⟩
    · simp [Value.cells] at hcs
      obtain ⟨rfl, rfl, rfl⟩ := hcs
      exact ⟨zs, .inr ⟨_, rfl, hl, hm, by simpa using hz, hcell, hwz⟩⟩
  clear hA0 hval0
  refine (walk a0 len0 cap0 z0 W hE w0).mono fun e W' ⟨he, bel⟩ => ?_
  subst he
  exact ⟨_, rfl, _, _, _, [], _, [], hW', trodAll_mk1 (shut_bool Tryz.underlying4 _), (trodAll_cons_mk (Below.trod laidOut (by kernel_rfl) (of_decide_eq_true (by kernel_rfl)) k0 bel lt0) trodAll_mk0), rfl, bel.frame _, fun h => by cases h⟩

theorem over : Rows.fnExecuteTwiceRow.holds Tryz.pinned (OpenSpec.ofChange Rows.fnExecuteTwiceSpec) :=
  OpenClaim.holds_of_wide 5 Tryz.f5 rfl rfl rfl rfl rfl rfl rfl ⟨rfl, rfl, rfl, rfl, rfl⟩ rfl rfl rfl rfl rfl funcOf Tryz.func5 closed
    (of_decide_eq_true (by kernel_rfl)) (by unfold Func.isWrapper; first | (rw [if_pos (by decide +kernel)]; kernel_rfl) | (rw [if_neg (by decide +kernel)]; exact ⟨rfl, rfl⟩))
    (fun os started H enc _ => lifted os started H enc)

/-- The statement. -/
theorem proved : Rows.FnExecuteTwiceCardSaid :=
  Claim7.holds_tied_plain_at .later [] [.data, .data, .data, .data, .handle, .pinned] true Rows.fnExecuteTwiceCard.stood.harness Rows.fnExecuteTwiceCard.stood.looks
    over (fun _ h => by cases h) byText (fun _ h => by cases h) fnExecuteTwice_row_tie rfl ⟨rfl, rfl⟩ mainIs rfl
    (fun f fn hf hfn => by
      obtain rfl : f = 5 := Option.some.inj (funcOf.symm.trans hf) |>.symm
      obtain rfl : fn = Tryz.f5 := (Option.some.inj (Tryz.func5.symm.trans hfn)).symm
      exact ⟨looks, fun j t ht => by
        rw [Tryz.params5] at ht
        have hm : t ∈ [22] := by simpa using Array.mem_of_getElem? ht
        have hall : ([22].all fun u => !Tryz.prog.wantsStandIn u) = true := by kernel_rfl
        exact (show Tryz.prog.wantsStandIn t = false by simpa using List.all_eq_true.1 hall t hm)⟩)
    goesBy

end Go.Proofs.YtmflecemkodklaaGreatDoor.fnExecuteTwice
