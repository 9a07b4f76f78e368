/-
  Moves are fewer than things. For every input the Go text of laws.FnMoves returns true, and its argument reads afterwards as before. No condition.
-/
import Derived.Test.YthkkolnohgibeaaDoorDrawPart
import Derived.Test.YthkkolnohgibeaaDoorSame
import Derived.Test.YthkkolnohgibeaaDoorRows
import Derived.Test.YthkkolnohgibeaaDoorPure
import Derived.Test.YthkkolnohgibeaaDoorHelp
import Derived.Test.YthkkolnohgibeaaDoorDrawTwo
import Derived.Test.YthkkolnohgibeaaDoorViewFactsM
import Derived.Test.YthkkolnohgibeaaDoorHeldMat
import Derived.WalkKit
import Derived.ProofKit
import Derived.OpenShut
import Derived.ShutString
import Derived.ChangeOld
import Derived.Below
import Derived.Test.YthkkolnohgibeaaDoorCards
import Derived.Test.YthkkolnohgibeaaDoorTie
import Derived.Test.YthkkolnohgibeaaDoorLaid
import Derived.LaidMore
import Derived.Stop.Joined
import Derived.SevenTiedAt
import Derived.Test.YthkkolnohgibeaaDoorGoes
namespace Go.Proofs.YthkkolnohgibeaaDoor.fnMoves
open Go.ChangeShapes Go.WideShapes Go.ChangeAt Go.RowKit
open Go.ChangeMaps (open_string shut_string)
set_option linter.unusedVariables false
set_option linter.unusedSimpArgs false
set_option linter.unnecessarySimpa false

theorem own : ownKnob Tryd.prog.godebug = none := by kernel_rfl
theorem laidOut : laidOutB Tryd.prog = true := by kernel_rfl

theorem sameInts_t (v u : Value) (xs : List Int) (w : World) (hv : RdV w v xs) (hu : RdV w u xs) : Calls Tryd.prog 10 #[v, u] w fun e w' => e = .returned (.bool true) ∧ Same w w' :=
  (sameInts_v v u xs xs w hv hu).mono fun e w' ⟨he, hw⟩ => ⟨by rw [he]; simp, hw⟩

theorem draw_any (a : Option Addr) (len cap : Nat) (w : World) (hby : Bytes w a len) (hlen : len ≤ 1048576) (hc : len ≤ cap) (hcm : cap ≤ maxLen) :
    Calls Tryd.prog 6 #[.slice a len cap] w (TwoDrawn w) := by
  go_enter Tryd.func6, Tryd.ntmps6
  go_wp2_with fail
  refine (l91Two_any a len cap w hby hlen hc hcm).mono ?_
  rintro e w1 ⟨v, u, xs, ys, rfl, h⟩
  go_wp2
  go_ret2
  exact ⟨v, u, xs, ys, rfl, h⟩

set_option maxRecDepth 100000 in
set_option maxHeartbeats 4000000 in
theorem small (a0 : Option Addr) (len0 cap0 : Nat) (w : World) (hB : Bytes w a0 len0) (hc : len0 ≤ cap0) (hcm : cap0 ≤ maxLen) (hs0 : len0 ≤ 1048576)
    (hT : Tab w) : Calls Tryd.prog 3 #[.slice a0 len0 cap0] w fun e w' => e = .returned (.bool true) ∧ Below w.heap.size w w' := by
  have bel : Below w.heap.size w w := Below.refl _ _
  go_enter Tryd.func3, Tryd.ntmps3
  go_wp2_with fail
  refine (draw_any a0 len0 cap0 _ hB hs0 hc hcm).mono ?_
  rintro e W1 ⟨v_a, v_b, xs, ys, rfl, o, o2, hl9, hl9b, hb⟩
  have bel := below_step bel hb
  clear hb
  have o_a := o
  have o_b := o2
  clear o o2
  cases hf : alike xs ys
  · have e1 := viewMoves_no hf
    have HI := Lib.hid (fun (wx : World) (v0 : Value) (v1 : Value) (kE : Tab wx) (k0 : RdV wx v0 xs) (k1 : RdV wx v1 ys) => e1 ▸ iViewMoves_v v0 v1 xs ys wx kE k0 k1)
    have HS := Lib.hid (fun (wx : World) (v0 : Value) (v1 : Value) (k0 : RdV wx v0 xs) (k1 : RdV wx v1 ys) => e1 ▸ sViewMoves_v v0 v1 xs ys wx k0 k1)
    clear hf e1
    go_wp2_with fail
    refine (HI.out _ _ _ (tab_below hT bel) (own_rdv o_a) (own_rdv o_b)).mono ?_
    rintro e W2 ⟨rfl, hb⟩
    have bel := below_step bel hb
    have o_a := own_below o_a hb
    have o_b := own_below o_b hb
    clear hb
    go_wp2_with fail
    refine (HS.out _ _ _ (own_rdv o_a) (own_rdv o_b)).mono ?_
    rintro e W3 ⟨rfl, hb⟩
    have bel := below_step bel hb
    have o_a := own_below o_a hb
    have o_b := own_below o_b hb
    clear hb
    go_wp2
    go_ret
    exact ⟨rfl, bel⟩
  · obtain ⟨m, e1, e2, e3, e4, e5, hm1, hmn, hz⟩ := moves_facts hf
    have hl8 := (partIn_len (alike_iff.1 hf).1).2
    generalize kOut xs.reverse = xt at *
    generalize kOut ys.reverse = yt at *
    obtain ⟨n, hn⟩ : ∃ n, n = xs.length := ⟨_, rfl⟩
    rw [← hn] at e1 e2 e3 hmn hz hl8
    obtain ⟨q, hq⟩ : ∃ q : Nat, q = n - m := ⟨_, rfl⟩
    rw [show (n : Int) - m = (q : Int) by omega] at e1 e2 e3
    have hc : ((q : Int) == 0) = decide (xs = ys) := by rw [Bool.eq_iff_iff]; simp; rw [← hz]; omega
    have hqn : (q : Int) < (n : Int) := by omega
    have hq8 : q ≤ 8 := by omega
    have HI := Lib.hid (fun (wx : World) (v0 : Value) (v1 : Value) (kE : Tab wx) (k0 : RdV wx v0 xs) (k1 : RdV wx v1 ys) => e1 ▸ iViewMoves_v v0 v1 xs ys wx kE k0 k1)
    have HS := Lib.hid (fun (wx : World) (v0 : Value) (v1 : Value) (k0 : RdV wx v0 xs) (k1 : RdV wx v1 ys) => e1 ▸ sViewMoves_v v0 v1 xs ys wx k0 k1)
    have HX := Lib.hid (fun (wx : World) (v0 : Value) (v1 : Value) (kE : Tab wx) (k0 : RdV wx v0 ys) (k1 : RdV wx v1 xs) => e2 ▸ iViewMoves_v v0 v1 ys xs wx kE k0 k1)
    have HC := Lib.hid (fun (wx : World) (v0 : Value) (k0 : RdV wx v0 xs) => e4 ▸ iPartTurned_v v0 xs wx k0)
    have HD := Lib.hid (fun (wx : World) (v0 : Value) (k0 : RdV wx v0 ys) => e5 ▸ iPartTurned_v v0 ys wx k0)
    have HY := Lib.hid (fun (wx : World) (v0 : Value) (v1 : Value) (kE : Tab wx) (k0 : RdV wx v0 xt) (k1 : RdV wx v1 yt) => e3 ▸ iViewMoves_v v0 v1 xt yt wx kE k0 k1)
    have HZ := Lib.hid hc
    have HN := Lib.hid hn
    clear hf e1 e2 e3 e4 e5 hz hc hm1 hmn hq hn
    go_wp2_with fail
    refine (HI.out _ _ _ (tab_below hT bel) (own_rdv o_a) (own_rdv o_b)).mono ?_
    rintro e W2 ⟨rfl, hb⟩
    have bel := below_step bel hb
    have o_a := own_below o_a hb
    have o_b := own_below o_b hb
    clear hb
    go_wp2_with fail
    refine (HS.out _ _ _ (own_rdv o_a) (own_rdv o_b)).mono ?_
    rintro e W3 ⟨rfl, hb⟩
    have bel := below_step bel hb
    have o_a := own_below o_a hb
    have o_b := own_below o_b hb
    clear hb
    go_wp2_with fail
    refine (HX.out _ _ _ (tab_below hT bel) (own_rdv o_b) (own_rdv o_a)).mono ?_
    rintro e W4 ⟨rfl, hb⟩
    have bel := below_step bel hb
    have o_a := own_below o_a hb
    have o_b := own_below o_b hb
    clear hb
    go_wp2_with fail
    refine (HC.out _ _ (own_rdv o_a)).mono ?_
    rintro e W5 ⟨v_c, rfl, o, hb⟩
    have bel := below_step bel hb
    have o_a := own_below o_a hb
    have o_b := own_below o_b hb
    clear hb
    have o_c := o
    clear o
    go_wp2_with fail
    refine (HD.out _ _ (own_rdv o_b)).mono ?_
    rintro e W6 ⟨v_d, rfl, o, hb⟩
    have bel := below_step bel hb
    have o_a := own_below o_a hb
    have o_b := own_below o_b hb
    have o_c := own_below o_c hb
    clear hb
    have o_d := o
    clear o
    go_wp2_with fail
    refine (HY.out _ _ _ (tab_below hT bel) (own_rdv o_c) (own_rdv o_d)).mono ?_
    rintro e W7 ⟨rfl, hb⟩
    have bel := below_step bel hb
    have o_a := own_below o_a hb
    have o_b := own_below o_b hb
    have o_c := own_below o_c hb
    have o_d := own_below o_d hb
    clear hb
    obtain ⟨ao, ca, rfl⟩ := own_slice' o_a
    rw [← HN.out] at o_a ⊢
    go_wp2_with fail
    refine (sameInts_v _ _ xs ys _ (own_rdv o_a) (own_rdv o_b)).mono ?_
    rintro e W8 ⟨rfl, hq9⟩
    have hb := hq9 W7.heap.size
    clear hq9
    have bel := below_step bel hb
    have o_a := own_below o_a hb
    have o_b := own_below o_b hb
    have o_c := own_below o_c hb
    have o_d := own_below o_d hb
    clear hb
    have hc := HZ.out
    clear o_a o_b o_c o_d HI HS HX HY HZ HC HD HN
    generalize decide (xs = ys) = t at *
    obtain ⟨u, hu⟩ : ∃ u, u = ((q : Int) == 0) := ⟨_, rfl⟩
    rw [← hu] at hc
    have c2 := hu.symm
    subst hc
    clear hu
    cases u
    all_goals
      go_wp2
      go_ret
      exact ⟨rfl, bel⟩

theorem walk (a0 : Option Addr) (len0 cap0 : Nat) (z0 : List Int) (w : World) (w0 : IsRow .u8 w a0 len0 cap0 z0)
    (hT : Tab w) : Calls Tryd.prog 3 #[.slice a0 len0 cap0] w fun e w' => e = .returned (.bool true) ∧ Below w.heap.size w w' := by
  obtain ⟨hB, hc, hcm⟩ := bytes_of_row w0
  refine (Nat.lt_or_ge 1048576 len0).elim (fun hs0 => ?_) (fun hs0 => ?_)
  · go_enter Tryd.func3, Tryd.ntmps3
    go_wp2
    go_ret
    exact ⟨rfl, Below.refl _ _⟩
  exact small a0 len0 cap0 w hB hc hcm hs0 hT

theorem door_met (os : Os) (args : Array Value) : laidMetH Tryd.prog [("math/bits.deBruijn32tab", Rows.laid_math_bits_deBruijn32tab), ("math/bits.deBruijn64tab", Rows.laid_math_bits_deBruijn64tab)] ((World.doorLaid Tryd.prog 400 os).forCall (fun _ _ => 0) ⟨#[], args, []⟩).memory :=
  laidMetH_of_parts3 (fuel := 8) (laidMet_of_run' 8 (by kernel_rfl) (by kernel_rfl)) (by kernel_rfl) (by kernel_rfl)

set_option maxRecDepth 100000 in
theorem lifted (os : Os) (started : os.Started) (H : Type) (enc : TypeId × Value → H) :
    ReturnsInHanded {} Tryd.checked os 3 .any (fun w args => (Rows.fnMovesSpec.pre enc Tryd.prog Tryd.f3 [] false w args ∧ laidMetH Tryd.prog [("math/bits.deBruijn32tab", Rows.laid_math_bits_deBruijn32tab), ("math/bits.deBruijn64tab", Rows.laid_math_bits_deBruijn64tab)] w) ∧ sizedMet enc Tryd.prog Tryd.f3 (OpenSpec.ofChange Rows.fnMovesSpec) false w args)
      (Rows.fnMovesSpec.post enc Tryd.prog Tryd.f3 false true false false) := by
  refine returnsInHanded_of_change_and (C := Tryd.checked) (X := fun w _ => laidMetH Tryd.prog [("math/bits.deBruijn32tab", Rows.laid_math_bits_deBruijn32tab), ("math/bits.deBruijn64tab", Rows.laid_math_bits_deBruijn64tab)] w) (fun _ _ _ hh h => h.of_heap hh) own started (by kernel_rfl) Tryd.func3
    (ChangeSpec.witness_shaped (enc := enc) (C := Tryd.checked) (os := os) (X := fun w _ => laidMetH Tryd.prog [("math/bits.deBruijn32tab", Rows.laid_math_bits_deBruijn32tab), ("math/bits.deBruijn64tab", Rows.laid_math_bits_deBruijn64tab)] w) false (World.doorLaid Tryd.prog 400 os) #[.slice none 0 0] 8 rfl (World.shaped_of_RefB (by kernel_rfl) (by kernel_rfl)) (by kernel_rfl) (by kernel_rfl) (by kernel_rfl) (door_met os _)) ?_
  intro W base args ds gs before hval0 hW _ _ hL _
  have hT : Tab W := tab_of_laid hL
  have hval : ∀ (j : Nat) t v, Tryd.f3.params[j]? = some t → args[j]? = some v → Value.okWide Tryd.prog W .any base t v := hval0
  have hW' := hW
  obtain ⟨p, q, hA0, hV, rfl, hfz, hnd⟩ := hW
  have hA : DataW.TrodAll enc Tryd.prog W 0 (fun _ => true) true Tryd.f3.params.toList args.toList ds p := hA0
  rw [Tryd.params3] at hA hval
  obtain ⟨v0, vs0, d0, ds0, p0, q0, hargs, rfl, rfl, h0, r0⟩ := trodAll_cons hA
  obtain ⟨rfl, rfl, rfl⟩ := trodAll_nil r0
  obtain rfl : args = #[v0] := by cases args; simp_all
  obtain ⟨rfl, rfl⟩ := trodVars_none hV
  obtain ⟨a0, len0, cap0, rfl⟩ := okWide_slice Tryd.underlying22 (hval 0 22 v0 rfl rfl)
  have k0 := h0
  have lt0 : ∀ x ∈ p0, x.block < W.heap.size := by obtain ⟨m, hm⟩ := k0; exact DataW.trod_lt m _ _ _ hm
  obtain ⟨z0, w0⟩ : ∃ zs, IsRow .u8 W a0 len0 cap0 zs := by
    obtain ⟨fuel, hf⟩ := h0
    rcases open_ints Tryd.underlying22 Tryd.underlying5 (by kernel_rfl) hf with ⟨hcs, _⟩ | ⟨x, l, c, zs, hcs, _, hl, hm, hz, _, hcell, hwz⟩
    · simp [Value.cells] at hcs
      obtain ⟨rfl, rfl, rfl⟩ := hcs
      exact ⟨[], .inl ⟨rfl, rfl, rfl, rfl⟩⟩
    · simp [Value.cells] at hcs
      obtain ⟨rfl, rfl, rfl⟩ := hcs
      exact ⟨zs, .inr ⟨_, rfl, hl, hm, by simpa using hz, hcell, hwz⟩⟩
  clear hA0 hval0
  refine (walk a0 len0 cap0 z0 W w0 hT).mono fun e W' ⟨he, bel⟩ => ?_
  subst he
  exact ⟨_, rfl, _, _, _, [], _, [], hW', trodAll_mk1 (shut_bool Tryd.underlying4 _), (trodAll_cons_mk (Below.trod laidOut (by kernel_rfl) (of_decide_eq_true (by kernel_rfl)) k0 bel lt0) trodAll_mk0), rfl, bel.frame _, fun h => by cases h⟩

theorem over : Rows.fnMovesRow.holds Tryd.pinned (OpenSpec.ofChange Rows.fnMovesSpec) :=
  OpenClaim.holds_of_wide_leaving 3 Tryd.f3 rfl rfl rfl rfl rfl rfl rfl ⟨rfl, rfl, rfl, rfl, rfl⟩ rfl rfl rfl rfl rfl (by kernel_rfl) Tryd.func3 (by kernel_rfl)
    (of_decide_eq_true (by kernel_rfl)) (by unfold Func.isWrapper; first | (rw [if_pos (by decide +kernel)]; kernel_rfl) | (rw [if_neg (by decide +kernel)]; exact ⟨rfl, rfl⟩))
    (fun os started H enc _ => leaving_of_handed (lifted os started H enc))

/-- The statement. -/
theorem proved : Rows.FnMovesCardSaid :=
  tied_goes .later [.data, .data] true Rows.fnMovesCard.stood.harness Rows.fnMovesCard.stood.looks
    over (by kernel_rfl) fnMoves_row_tie rfl ⟨rfl, rfl⟩ (by kernel_rfl) rfl
    (fun f fn hf hfn => by
      obtain rfl : f = 3 := Option.some.inj ((show Tryd.prog.funcNamed "loop.example/setparts/laws.FnMoves" = some 3 by kernel_rfl).symm.trans hf) |>.symm
      obtain rfl : fn = Tryd.f3 := (Option.some.inj (Tryd.func3.symm.trans hfn)).symm
      exact ⟨by kernel_rfl, fun j t ht => by
        rw [Tryd.params3] at ht
        have hm : t ∈ [22] := by simpa using Array.mem_of_getElem? ht
        have hall : ([22].all fun u => !Tryd.prog.wantsStandIn u) = true := by kernel_rfl
        exact (show Tryd.prog.wantsStandIn t = false by simpa using List.all_eq_true.1 hall t hm)⟩)
    (by kernel_rfl)
end Go.Proofs.YthkkolnohgibeaaDoor.fnMoves
