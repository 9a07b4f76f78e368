/-
  Partitions are their own kernels. For every input the Go text of laws.FnPart returns true, and its argument reads afterwards as before. No condition.
-/
import Derived.Test.YtfomfjbfhcajbaaDoorDrawPart
import Derived.Test.YtfomfjbfhcajbaaDoorSame
import Derived.Test.YtfomfjbfhcajbaaDoorRows
import Derived.Test.YtfomfjbfhcajbaaDoorPure
import Derived.Test.YtfomfjbfhcajbaaDoorHelp
import Derived.Test.YtfomfjbfhcajbaaDoorPlainMath
import Derived.Test.YtfomfjbfhcajbaaDoorPartBlocks
import Derived.Test.YtfomfjbfhcajbaaDoorPartBack
import Derived.Test.YtfomfjbfhcajbaaDoorHeldMat
import Derived.Test.YtfomfjbfhcajbaaDoorKernel
import Derived.Test.YtfomfjbfhcajbaaDoorPartOf
import Derived.WalkKit
import Derived.ProofKit
import Derived.OpenShut
import Derived.ShutString
import Derived.ChangeOld
import Derived.Below
import Derived.Test.YtfomfjbfhcajbaaDoorCards
import Derived.Test.YtfomfjbfhcajbaaDoorTie
import Derived.Test.YtfomfjbfhcajbaaDoorLaid
import Derived.LaidMore
import Derived.Stop.Joined
import Derived.SevenTiedAt
namespace Go.Proofs.YtfomfjbfhcajbaaDoor.fnPart
open Go.ChangeShapes Go.WideShapes Go.ChangeAt Go.RowKit
open Go.ChangeMaps (open_string shut_string)
set_option linter.unusedVariables false
set_option linter.unusedSimpArgs false
set_option linter.unnecessarySimpa false

theorem own : ownKnob Tryd.prog.godebug = none := by kernel_rfl
theorem laidOut : laidOutB Tryd.prog = true := by kernel_rfl

theorem sameInts_t (v u : Value) (xs : List Int) (w : World) (hv : RdV w v xs) (hu : RdV w u xs) : Calls Tryd.prog 11 #[v, u] w fun e w' => e = .returned (.bool true) ∧ Same w w' :=
  (sameInts_v v u xs xs w hv hu).mono fun e w' ⟨he, hw⟩ => ⟨by rw [he]; simp, hw⟩

theorem draw_any (a : Option Addr) (len cap : Nat) (w : World) (hby : Bytes w a len) (hlen : len ≤ 1048576) (hc : len ≤ cap) (hcm : cap ≤ maxLen) :
    Calls Tryd.prog 5 #[.slice a len cap] w fun e w' => ∃ v xs, e = .returned v ∧ Own w' w.heap.size v xs ∧ xs.length ≤ 9 ∧ (∀ x ∈ xs, 0 ≤ x ∧ x ≤ 9) ∧ Below w.heap.size w w' := by
  go_enter Tryd.func5, Tryd.ntmps5
  go_wp2_with fail
  refine (l91Some_any a len cap w hby hlen hc hcm).mono ?_
  rintro e w1 ⟨v, xs, rfl, h⟩
  go_wp2
  go_ret
  exact ⟨v, xs, rfl, h⟩

set_option maxRecDepth 100000 in
set_option maxHeartbeats 4000000 in
theorem small (a0 : Option Addr) (len0 cap0 : Nat) (w : World) (hB : Bytes w a0 len0) (hc : len0 ≤ cap0) (hcm : cap0 ≤ maxLen) (hs0 : len0 ≤ 1048576)
    (hT : Tab w) : Calls Tryd.prog 3 #[.slice a0 len0 cap0] w fun e w' => e = .returned (.bool true) ∧ Below w.heap.size w w' := by
  have bel : Below w.heap.size w w := Below.refl _ _
  go_enter Tryd.func3, Tryd.ntmps3
  go_wp2_with fail
  refine (draw_any a0 len0 cap0 _ hB hs0 hc hcm).mono ?_
  rintro e W1 ⟨v_a, xs, rfl, o, hl9, _, hb⟩
  have bel := below_step bel hb
  clear hb
  have o_a := o
  clear o
  by_cases hp : partIn xs = true
  · have e2 : partKernel xs = (xs, true) := by unfold partKernel; rw [if_pos (partIn_len hp), kOut_part hp]
    have e3 : partBlocks xs = (blocksTo xs (pSize xs).toNat, true) := by simp [partBlocks, hp]
    have e4 := part_back hp
    generalize blocksTo xs (pSize xs).toNat = bs at *
    obtain ⟨ao, ca, hva⟩ := own_slice' o_a
    subst hva
    obtain ⟨n, hn⟩ : ∃ n, n = xs.length := ⟨_, rfl⟩
    rw [← hn] at o_a e4 hl9 ⊢
    have wn : (Lit.int .i64 (n : Int)).wf = true := WalkArith.wf_i64 ⟨by omega, by omega⟩
    have HI := Lib.hid (fun (wx : World) (v0 : Value) (k0 : RdV wx v0 xs) => hp ▸ iPartIn_v v0 xs wx k0)
    have HS := Lib.hid (fun (wx : World) (v0 : Value) (k0 : RdV wx v0 xs) => hp ▸ sPartIn_v v0 xs wx k0)
    have HK := Lib.hid (fun (wx : World) (v0 : Value) (k0 : RdV wx v0 xs) => e2 ▸ iPartKernel_v v0 xs wx k0)
    have HB := Lib.hid (fun (wx : World) (v0 : Value) (kt : Tab wx) (k0 : RdV wx v0 xs) => e3 ▸ iPartBlocks_v v0 xs wx kt k0)
    have HO := Lib.hid (fun (wx : World) (v0 : Value) (k0 : RdM wx v0 bs) => e4 ▸ iPartOf_v v0 n bs wx k0 wn)
    clear hp e2 e3 e4 hn
    go_wp2_with fail
    refine (HI.out _ _ (own_rdv o_a)).mono ?_
    rintro e W2 ⟨rfl, hb⟩
    have bel := below_step bel hb
    have o_a := own_below o_a hb
    clear hb
    go_wp2_with fail
    refine (HS.out _ _ (own_rdv o_a)).mono ?_
    rintro e W3 ⟨rfl, hb⟩
    have bel := below_step bel hb
    have o_a := own_below o_a hb
    clear hb
    go_wp2_with fail
    refine (HK.out _ _ (own_rdv o_a)).mono ?_
    rintro e W4 ⟨v_k, rfl, o, hb⟩
    have bel := below_step bel hb
    have o_a := own_below o_a hb
    clear hb
    have o_k := o
    clear o
    go_wp2_with fail
    refine (HB.out _ _ (tab_below hT bel) (own_rdv o_a)).mono ?_
    rintro e W5 ⟨v_b, rfl, o, hb⟩
    have bel := below_step bel hb
    have o_a := own_below o_a hb
    have o_k := own_below o_k hb
    clear hb
    have o_b := o
    clear o
    go_wp2_with fail
    refine (HO.out _ _ (ownM_rdM o_b)).mono ?_
    rintro e W6 ⟨v_x, rfl, o, hb⟩
    have bel := below_step bel hb
    have o_a := own_below o_a hb
    have o_k := own_below o_k hb
    have o_b := ownM_below o_b hb
    clear hb
    have o_x := o
    clear o
    go_wp2_with fail
    refine (sameInts_t _ _ xs _ (own_rdv o_k) (own_rdv o_a)).mono ?_
    rintro e W7 ⟨rfl, hq⟩
    have hb := hq W6.heap.size
    clear hq
    have bel := below_step bel hb
    have o_a := own_below o_a hb
    have o_k := own_below o_k hb
    have o_b := ownM_below o_b hb
    have o_x := own_below o_x hb
    clear hb
    go_wp2_with fail
    refine (sameInts_t _ _ xs _ (own_rdv o_x) (own_rdv o_a)).mono ?_
    rintro e W8 ⟨rfl, hq⟩
    have hb := hq W7.heap.size
    clear hq
    have bel := below_step bel hb
    have o_a := own_below o_a hb
    have o_k := own_below o_k hb
    have o_b := ownM_below o_b hb
    have o_x := own_below o_x hb
    clear hb
    go_wp2
    go_ret
    exact ⟨rfl, bel⟩
  · have hp : partIn xs = false := by simpa using hp
    have HI := Lib.hid (fun (wx : World) (v0 : Value) (k0 : RdV wx v0 xs) => hp ▸ iPartIn_v v0 xs wx k0)
    have HS := Lib.hid (fun (wx : World) (v0 : Value) (k0 : RdV wx v0 xs) => hp ▸ sPartIn_v v0 xs wx k0)
    clear hp
    go_wp2_with fail
    refine (HI.out _ _ (own_rdv o_a)).mono ?_
    rintro e W2 ⟨rfl, hb⟩
    have bel := below_step bel hb
    have o_a := own_below o_a hb
    clear hb
    go_wp2_with fail
    refine (HS.out _ _ (own_rdv o_a)).mono ?_
    rintro e W3 ⟨rfl, hb⟩
    have bel := below_step bel hb
    have o_a := own_below o_a hb
    clear hb
    go_wp2
    go_ret
    exact ⟨rfl, bel⟩

theorem walk (a0 : Option Addr) (len0 cap0 : Nat) (z0 : List Int) (w : World) (w0 : IsRow .u8 w a0 len0 cap0 z0)
    (hT : Tab w) : Calls Tryd.prog 3 #[.slice a0 len0 cap0] w fun e w' => e = .returned (.bool true) ∧ Below w.heap.size w w' := by
  obtain ⟨hB, hc, hcm⟩ := bytes_of_row w0
  refine (Nat.lt_or_ge 1048576 len0).elim (fun hs0 => ?_) (fun hs0 => ?_)
  · go_enter Tryd.func3, Tryd.ntmps3
    go_wp2
    go_ret
    exact ⟨rfl, Below.refl _ _⟩
  exact small a0 len0 cap0 w hB hc hcm hs0 hT

theorem door_met (os : Os) (args : Array Value) : laidMetH Tryd.prog [("math/bits.deBruijn32tab", Rows.laid_math_bits_deBruijn32tab), ("math/bits.deBruijn64tab", Rows.laid_math_bits_deBruijn64tab)] ((World.doorLaid Tryd.prog 400 os).forCall (fun _ _ => 0) ⟨#[], args, []⟩).memory :=
  laidMetH_of_parts3 (fuel := 8) (laidMet_of_run' 8 (by kernel_rfl) (by kernel_rfl)) (by kernel_rfl) (by kernel_rfl)

set_option maxRecDepth 100000 in
theorem lifted (os : Os) (started : os.Started) (H : Type) (enc : TypeId × Value → H) :
    ReturnsInHanded {} Tryd.checked os 3 .any (fun w args => (Rows.fnPartSpec.pre enc Tryd.prog Tryd.f3 [] false w args ∧ laidMetH Tryd.prog [("math/bits.deBruijn32tab", Rows.laid_math_bits_deBruijn32tab), ("math/bits.deBruijn64tab", Rows.laid_math_bits_deBruijn64tab)] w) ∧ sizedMet enc Tryd.prog Tryd.f3 (OpenSpec.ofChange Rows.fnPartSpec) false w args)
      (Rows.fnPartSpec.post enc Tryd.prog Tryd.f3 false true false false) := by
  refine returnsInHanded_of_change_and (C := Tryd.checked) (X := fun w _ => laidMetH Tryd.prog [("math/bits.deBruijn32tab", Rows.laid_math_bits_deBruijn32tab), ("math/bits.deBruijn64tab", Rows.laid_math_bits_deBruijn64tab)] w) (fun _ _ _ hh h => h.of_heap hh) own started (by kernel_rfl) Tryd.func3
    (ChangeSpec.witness_shaped (enc := enc) (C := Tryd.checked) (os := os) (X := fun w _ => laidMetH Tryd.prog [("math/bits.deBruijn32tab", Rows.laid_math_bits_deBruijn32tab), ("math/bits.deBruijn64tab", Rows.laid_math_bits_deBruijn64tab)] w) false (World.doorLaid Tryd.prog 400 os) #[.slice none 0 0] 8 rfl (World.shaped_of_RefB (by kernel_rfl) (by kernel_rfl)) (by kernel_rfl) (by kernel_rfl) (by kernel_rfl) (door_met os _)) ?_
  intro W base args ds gs before hval0 hW _ _ hL _
  have hT : Tab W := tab_of_laid hL
  have hval : ∀ (j : Nat) t v, Tryd.f3.params[j]? = some t → args[j]? = some v → Value.okWide Tryd.prog W .any base t v := hval0
  have hW' := hW
  obtain ⟨p, q, hA0, hV, rfl, hfz, hnd⟩ := hW
  have hA : DataW.TrodAll enc Tryd.prog W 0 (fun _ => true) true Tryd.f3.params.toList args.toList ds p := hA0
  rw [Tryd.params3] at hA hval
  obtain ⟨v0, vs0, d0, ds0, p0, q0, hargs, rfl, rfl, h0, r0⟩ := trodAll_cons hA
  obtain ⟨rfl, rfl, rfl⟩ := trodAll_nil r0
  obtain rfl : args = #[v0] := by cases args; simp_all
  obtain ⟨rfl, rfl⟩ := trodVars_none hV
  obtain ⟨a0, len0, cap0, rfl⟩ := okWide_slice Tryd.underlying22 (hval 0 22 v0 rfl rfl)
  have k0 := h0
  have lt0 : ∀ x ∈ p0, x.block < W.heap.size := by obtain ⟨m, hm⟩ := k0; exact DataW.trod_lt m _ _ _ hm
  obtain ⟨z0, w0⟩ : ∃ zs, IsRow .u8 W a0 len0 cap0 zs := by
    obtain ⟨fuel, hf⟩ := h0
    rcases open_ints Tryd.underlying22 Tryd.underlying5 (by kernel_rfl) hf with ⟨hcs, _⟩ | ⟨x, l, c, zs, hcs, _, hl, hm, hz, _, hcell, hwz⟩
    · simp [Value.cells] at hcs
      obtain ⟨rfl, rfl, rfl⟩ := hcs
      exact ⟨[], .inl ⟨rfl, rfl, rfl, rfl⟩⟩
    · simp [Value.cells] at hcs
      obtain ⟨rfl, rfl, rfl⟩ := hcs
      exact ⟨zs, .inr ⟨_, rfl, hl, hm, by simpa using hz, hcell, hwz⟩⟩
  clear hA0 hval0
  refine (walk a0 len0 cap0 z0 W w0 hT).mono fun e W' ⟨he, bel⟩ => ?_
  subst he
  exact ⟨_, rfl, _, _, _, [], _, [], hW', trodAll_mk1 (shut_bool Tryd.underlying4 _), (trodAll_cons_mk (Below.trod laidOut (by kernel_rfl) (of_decide_eq_true (by kernel_rfl)) k0 bel lt0) trodAll_mk0), rfl, bel.frame _, fun h => by cases h⟩

theorem over : Rows.fnPartRow.holds Tryd.pinned (OpenSpec.ofChange Rows.fnPartSpec) :=
  OpenClaim.holds_of_wide 3 Tryd.f3 rfl rfl rfl rfl rfl rfl rfl ⟨rfl, rfl, rfl, rfl, rfl⟩ rfl rfl rfl rfl rfl (by kernel_rfl) Tryd.func3 (by kernel_rfl)
    (of_decide_eq_true (by kernel_rfl)) (by unfold Func.isWrapper; first | (rw [if_pos (by decide +kernel)]; kernel_rfl) | (rw [if_neg (by decide +kernel)]; exact ⟨rfl, rfl⟩))
    (fun os started H enc _ => lifted os started H enc)

/-- The statement. -/
theorem proved : Rows.FnPartCardSaid :=
  Claim7.holds_tied_plain_at .later [] [.data, .data] true _ false
    over (fun _ h => by cases h) (by kernel_rfl) (fun _ h => by cases h) fnPart_row_tie rfl ⟨rfl, rfl⟩ (by kernel_rfl) rfl
    (fun f fn hf hfn => by
      obtain rfl : f = 3 := Option.some.inj ((show Tryd.prog.funcNamed "loop.example/setparts/laws.FnPart" = some 3 by kernel_rfl).symm.trans hf) |>.symm
      obtain rfl : fn = Tryd.f3 := (Option.some.inj (Tryd.func3.symm.trans hfn)).symm
      exact ⟨by kernel_rfl, fun j t ht => by
        rw [Tryd.params3] at ht
        have hm : t ∈ [22] := by simpa using Array.mem_of_getElem? ht
        have hall : ([22].all fun u => !Tryd.prog.wantsStandIn u) = true := by kernel_rfl
        exact (show Tryd.prog.wantsStandIn t = false by simpa using List.all_eq_true.1 hall t hm)⟩)
    (by kernel_rfl)
end Go.Proofs.YtfomfjbfhcajbaaDoor.fnPart
