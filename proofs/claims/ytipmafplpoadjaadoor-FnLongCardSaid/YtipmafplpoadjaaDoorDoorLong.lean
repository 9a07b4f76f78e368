/-
  The law of long arcs. For every input the Go text of laws.FnLong returns true, and its argument reads afterwards as before. No condition.
-/
import Derived.Test.YtipmafplpoadjaaDoorDrawPart
import Derived.Test.YtipmafplpoadjaaDoorSame
import Derived.Test.YtipmafplpoadjaaDoorRows
import Derived.Test.YtipmafplpoadjaaDoorPure
import Derived.Test.YtipmafplpoadjaaDoorHelp
import Derived.Test.YtipmafplpoadjaaDoorArcNum
import Derived.Test.YtipmafplpoadjaaDoorLongMath
import Derived.Test.YtipmafplpoadjaaDoorPartBlocks
import Derived.Test.YtipmafplpoadjaaDoorRowsChk
import Derived.Test.YtipmafplpoadjaaDoorSameRows
import Derived.WalkKit
import Derived.ProofKit
import Derived.OpenShut
import Derived.ShutString
import Derived.ChangeOld
import Derived.Below
import Derived.Test.YtipmafplpoadjaaDoorCards
import Derived.Test.YtipmafplpoadjaaDoorTie
import Derived.Test.YtipmafplpoadjaaDoorLaid
import Derived.LaidMore
import Derived.Stop.Joined
import Derived.SevenTiedAt
namespace Go.Proofs.YtipmafplpoadjaaDoor.fnLong
open Go.ChangeShapes Go.WideShapes Go.ChangeAt Go.RowKit
open Go.ChangeMaps (open_string shut_string)
set_option linter.unusedVariables false
set_option linter.unusedSimpArgs false
set_option linter.unnecessarySimpa false

theorem own : ownKnob Tryd.prog.godebug = none := by kernel_rfl
theorem laidOut : laidOutB Tryd.prog = true := by kernel_rfl


theorem draw_any (a : Option Addr) (len cap : Nat) (w : World) (hby : Bytes w a len) (hlen : len ≤ 1048576) (hc : len ≤ cap) (hcm : cap ≤ maxLen) :
    Calls Tryd.prog 16 #[.slice a len cap] w fun e w' => ∃ v xs, e = .returned v ∧ Own w' w.heap.size v xs ∧ xs.length ≤ 9 ∧ (∀ x ∈ xs, 0 ≤ x ∧ x ≤ 9) ∧ Below w.heap.size w w' := by
  go_enter Tryd.func16, Tryd.ntmps16
  go_wp2_with fail
  refine (l91Some_any a len cap w hby hlen hc hcm).mono ?_
  rintro e w1 ⟨v, xs, rfl, h⟩
  go_wp2
  go_ret
  exact ⟨v, xs, rfl, h⟩

set_option maxRecDepth 100000 in
set_option maxHeartbeats 4000000 in
theorem small (a0 : Option Addr) (len0 cap0 : Nat) (w : World) (hB : Bytes w a0 len0) (hc : len0 ≤ cap0) (hcm : cap0 ≤ maxLen) (hs0 : len0 ≤ 1048576)
    (hT : Tab w) : Calls Tryd.prog 5 #[.slice a0 len0 cap0] w fun e w' => e = .returned (.bool true) ∧ Below w.heap.size w w' := by
  have bel : Below w.heap.size w w := Below.refl _ _
  go_enter Tryd.func5, Tryd.ntmps5
  go_wp2_with fail
  refine (draw_any a0 len0 cap0 _ hB hs0 hc hcm).mono ?_
  rintro e W1 ⟨v_a, xs, rfl, o, hl9, _, hb⟩
  have bel := below_step bel hb
  clear hb
  have o_a := o
  clear o
  by_cases hp : partIn xs = true
  · have hl := partIn_len hp
    have e1 : arcLong xs = (((longL (arcsOf xs) : Nat) : Int), true) := by simp [arcLong, hp]
    have hbd := pSize_bd (partIn_small hp)
    obtain ⟨p, hpe⟩ := Int.eq_ofNat_of_zero_le hbd.1
    have e3 : partBlocks xs = (blocksTo xs p, true) := by simp [partBlocks, hp, hpe]
    obtain ⟨f1, _, _⟩ := rows_facts hp
    rw [hpe, Int.toNat_natCast] at f1
    have hlt : ∀ j, j < xs.length → 0 ≤ xs.getD j 0 ∧ xs.getD j 0 < (p : Int) := fun j hj => by
      have h1 := lt_pSize xs j hj
      have h2 := partIn_small hp j hj
      omega
    have hsp := long_spans xs p hlt xs.length (Nat.le_refl _)
    rw [List.take_length] at hsp
    have hps : p ≤ 8 := by omega
    have hgd := fun k (hk : k < p) => blocksTo_getD xs p k hk
    have hbl := blocksTo_length xs p
    obtain ⟨bs, hbs⟩ : ∃ bs, bs = blocksTo xs p := ⟨_, rfl⟩
    rw [← hbs] at e3 hgd hbl
    obtain ⟨q, hq⟩ : ∃ q, q = longL (arcsOf xs) := ⟨_, rfl⟩
    rw [← hq] at e1 hsp
    obtain ⟨F, hF⟩ : ∃ F : Nat → List Int, F = fun b => blkAt xs b xs.length := ⟨_, rfl⟩
    have hFb : ∀ b, F b = blkAt xs b xs.length := fun b => by rw [hF]
    have hfa : ∀ b, b < p → 1 ≤ (F b).length ∧ ∀ i, i < (F b).length → 0 ≤ (F b).getD i 0 ∧ (F b).getD i 0 < 8 := fun b hb => by
      obtain ⟨c1, c2⟩ := f1 b hb
      rw [hFb b]
      exact ⟨c1, fun i hi => by have := (c2 i hi).1; omega⟩
    have hlenF : ∀ b, (F b).length ≤ 8 := fun b => by
      rw [hFb b]
      have h1 := blkAt_length xs b xs.length
      have h2 := cntAt_le xs b xs.length
      omega
    have hgF : ∀ k, k < p → bs.getD k [] = F k := fun k hk => by rw [hgd k hk, hFb k]
    rw [← hF] at hsp
    have HFA := Lib.hid hfa
    have HLF := Lib.hid hlenF
    have HGF := Lib.hid hgF
    have HSP := Lib.hid hsp
    have HI := Lib.hid (fun (wx : World) (v0 : Value) (k0 : RdV wx v0 xs) => e1 ▸ iArcLong_v v0 xs wx k0)
    have HS := Lib.hid (fun (wx : World) (v0 : Value) (k0 : RdV wx v0 xs) => e1 ▸ sArcLong_v v0 xs wx k0)
    have HB := Lib.hid (fun (wx : World) (v0 : Value) (kt : Tab wx) (k0 : RdV wx v0 xs) => e3 ▸ iPartBlocks_v v0 xs wx kt k0)
    clear e1 e3 hp hl hbd hpe f1 hlt hsp hgd hbs hq hF hFb hfa hlenF hgF
    go_wp2_with fail
    refine (HI.out _ _ (own_rdv o_a)).mono ?_
    rintro e W2 ⟨rfl, hb⟩
    have bel := below_step bel hb
    have o_a := own_below o_a hb
    clear hb
    go_wp2_with fail
    refine (HS.out _ _ (own_rdv o_a)).mono ?_
    rintro e W3 ⟨rfl, hb⟩
    have bel := below_step bel hb
    have o_a := own_below o_a hb
    clear hb
    go_wp2_with fail
    refine (HB.out _ _ (tab_below hT bel) (own_rdv o_a)).mono ?_
    rintro e W4 ⟨v_b, rfl, o_b, hb⟩
    have bel := below_step bel hb
    dsimp only at o_b ⊢
    clear hb o_a HI HS HB
    obtain ⟨ao, ca, rfl⟩ := ownM_slice' o_b
    rw [hbl] at o_b ⊢
    have HO := Lib.hid o_b
    have HBL := Lib.hid hbl
    clear o_b hbl
    go_wp2
    go_loopw [10, 11] (fun u i wr => ∃ (k : Nat) (s : Int), k ≤ p ∧ i = .int .i64 k ∧ u = .int .i64 s ∧ -8 * (k : Int) ≤ s ∧ s ≤ 8 * (k : Int) ∧ Hid (s = spanSum F k) ∧ Below W4.heap.size W4 wr)
      (fun _ i _ => p - (intOf i).toNat)
    case atStart => exact ⟨0, 0, Nat.zero_le _, rfl, rfl, by omega, by omega, Lib.hid rfl, Below.refl _ _⟩
    case round =>
      obtain ⟨k, s, hk, rfl, rfl, hs1, hs2, HS, hbr⟩ := hrel
      by_cases hlt : k < p
      · have hok := ownM_below HO.out hbr
        obtain ⟨g, z, rfl, hz, hrz⟩ := ownM_at hok k (by rw [HBL.out]; exact hlt)
        rw [HGF.out k hlt] at hrz
        obtain ⟨c1, c2⟩ := HFA.out k hlt
        have c3 := HLF.out k
        have hst : spanSum F (k + 1) = spanSum F k + ((F k).getD ((F k).length - 1) 0 - (F k).getD 0 0) := rfl
        rw [← HS.out] at hst
        obtain ⟨zo, zc, rfl, hrd, hzl, hzc⟩ := hrz
        generalize F k = L at *
        rcases hrd with hx | ⟨bz, oz, rfl, hcz⟩
        · rw [hx] at c1; simp at c1
        have d0 := hcz 0 (by omega)
        have d1 := hcz (L.length - 1) (by omega)
        rw [Nat.add_zero] at d0
        obtain ⟨a1, a2⟩ := c2 0 (by omega)
        obtain ⟨b1, b2⟩ := c2 (L.length - 1) (by omega)
        obtain ⟨m, hm⟩ : ∃ m, m = L.length := ⟨_, rfl⟩
        rw [← hm] at hz c1 c3 d1 hst b1 b2 hzl
        generalize L.getD 0 0 = x at *
        generalize L.getD (m - 1) 0 = y at *
        obtain ⟨j, hj⟩ : ∃ j, j = m - 1 := ⟨_, rfl⟩
        rw [← hj] at d1
        have hji : (m : Int) - 1 = (j : Int) := by omega
        have hjm : (j : Int) < (m : Int) := by omega
        have hm0 : (0 : Int) < (m : Int) := by omega
        have hkp : (k : Int) < (p : Int) := by omega
        have HST := Lib.hid hst
        have hnn : -8 * ((k : Int) + 1) ≤ s + (y - x) ∧ s + (y - x) ≤ 8 * ((k : Int) + 1) := by omega
        have HNN := Lib.hid hnn
        clear hok c2 hcz hm hj hst hnn
        go_wp2
        go_quiet (fail)
        go_wp2
        go_roundw
        case rel => exact ⟨k + 1, s + y - x, by omega, by go_num, by go_num, by have := HNN.out; omega, by have := HNN.out; omega, Lib.hid (by rw [HST.out]; omega), below_drewN hbr _⟩
        case measure => simp [intOf]; omega
      · have hkp : k = p := by omega
        subst hkp
        have hsq : s = (q : Int) := by rw [HS.out]; exact HSP.out
        have hd : (s == (q : Int)) = true := by simpa using hsq
        clear hsq
        go_wp2
        go_ret
        exact ⟨by first | rfl | exact ret_bool hd, below_step bel hbr⟩
  · have e1 : arcLong xs = (0, false) := by simp [arcLong, hp]
    have HI := Lib.hid (fun (wx : World) (v0 : Value) (k0 : RdV wx v0 xs) => e1 ▸ iArcLong_v v0 xs wx k0)
    have HS := Lib.hid (fun (wx : World) (v0 : Value) (k0 : RdV wx v0 xs) => e1 ▸ sArcLong_v v0 xs wx k0)
    clear e1 hp
    go_wp2_with fail
    refine (HI.out _ _ (own_rdv o_a)).mono ?_
    rintro e W2 ⟨rfl, hb⟩
    have bel := below_step bel hb
    have o_a := own_below o_a hb
    clear hb
    go_wp2_with fail
    refine (HS.out _ _ (own_rdv o_a)).mono ?_
    rintro e W3 ⟨rfl, hb⟩
    have bel := below_step bel hb
    clear hb
    go_wp2
    go_ret
    exact ⟨rfl, bel⟩

theorem walk (a0 : Option Addr) (len0 cap0 : Nat) (z0 : List Int) (w : World) (w0 : IsRow .u8 w a0 len0 cap0 z0)
    (hT : Tab w) : Calls Tryd.prog 5 #[.slice a0 len0 cap0] w fun e w' => e = .returned (.bool true) ∧ Below w.heap.size w w' := by
  obtain ⟨hB, hc, hcm⟩ := bytes_of_row w0
  refine (Nat.lt_or_ge 1048576 len0).elim (fun hs0 => ?_) (fun hs0 => ?_)
  · go_enter Tryd.func5, Tryd.ntmps5
    go_wp2
    go_ret
    exact ⟨rfl, Below.refl _ _⟩
  exact small a0 len0 cap0 w hB hc hcm hs0 hT

theorem door_met (os : Os) (args : Array Value) : laidMetH Tryd.prog [("math/bits.deBruijn32tab", Rows.laid_math_bits_deBruijn32tab), ("math/bits.deBruijn64tab", Rows.laid_math_bits_deBruijn64tab)] ((World.doorLaid Tryd.prog 400 os).forCall (fun _ _ => 0) ⟨#[], args, []⟩).memory :=
  laidMetH_of_parts3 (fuel := 8) (laidMet_of_run' 8 (by kernel_rfl) (by kernel_rfl)) (by kernel_rfl) (by kernel_rfl)

set_option maxRecDepth 100000 in
theorem lifted (os : Os) (started : os.Started) (H : Type) (enc : TypeId × Value → H) :
    ReturnsInHanded {} Tryd.checked os 5 .any (fun w args => (Rows.fnLongSpec.pre enc Tryd.prog Tryd.f5 [] false w args ∧ laidMetH Tryd.prog [("math/bits.deBruijn32tab", Rows.laid_math_bits_deBruijn32tab), ("math/bits.deBruijn64tab", Rows.laid_math_bits_deBruijn64tab)] w) ∧ sizedMet enc Tryd.prog Tryd.f5 (OpenSpec.ofChange Rows.fnLongSpec) false w args)
      (Rows.fnLongSpec.post enc Tryd.prog Tryd.f5 false true false false) := by
  refine returnsInHanded_of_change_and (C := Tryd.checked) (X := fun w _ => laidMetH Tryd.prog [("math/bits.deBruijn32tab", Rows.laid_math_bits_deBruijn32tab), ("math/bits.deBruijn64tab", Rows.laid_math_bits_deBruijn64tab)] w) (fun _ _ _ hh h => h.of_heap hh) own started (by kernel_rfl) Tryd.func5
    (ChangeSpec.witness_shaped (enc := enc) (C := Tryd.checked) (os := os) (X := fun w _ => laidMetH Tryd.prog [("math/bits.deBruijn32tab", Rows.laid_math_bits_deBruijn32tab), ("math/bits.deBruijn64tab", Rows.laid_math_bits_deBruijn64tab)] w) false (World.doorLaid Tryd.prog 400 os) #[.slice none 0 0] 8 rfl (World.shaped_of_RefB (by kernel_rfl) (by kernel_rfl)) (by kernel_rfl) (by kernel_rfl) (by kernel_rfl) (door_met os _)) ?_
  intro W base args ds gs before hval0 hW _ _ hL _
  have hT : Tab W := tab_of_laid hL
  have hval : ∀ (j : Nat) t v, Tryd.f5.params[j]? = some t → args[j]? = some v → Value.okWide Tryd.prog W .any base t v := hval0
  have hW' := hW
  obtain ⟨p, q, hA0, hV, rfl, hfz, hnd⟩ := hW
  have hA : DataW.TrodAll enc Tryd.prog W 0 (fun _ => true) true Tryd.f5.params.toList args.toList ds p := hA0
  rw [Tryd.params5] at hA hval
  obtain ⟨v0, vs0, d0, ds0, p0, q0, hargs, rfl, rfl, h0, r0⟩ := trodAll_cons hA
  obtain ⟨rfl, rfl, rfl⟩ := trodAll_nil r0
  obtain rfl : args = #[v0] := by cases args; simp_all
  obtain ⟨rfl, rfl⟩ := trodVars_none hV
  obtain ⟨a0, len0, cap0, rfl⟩ := okWide_slice Tryd.underlying22 (hval 0 22 v0 rfl rfl)
  have k0 := h0
  have lt0 : ∀ x ∈ p0, x.block < W.heap.size := by obtain ⟨m, hm⟩ := k0; exact DataW.trod_lt m _ _ _ hm
  obtain ⟨z0, w0⟩ : ∃ zs, IsRow .u8 W a0 len0 cap0 zs := by
    obtain ⟨fuel, hf⟩ := h0
    rcases open_ints Tryd.underlying22 Tryd.underlying5 (by kernel_rfl) hf with ⟨hcs, _⟩ | ⟨x, l, c, zs, hcs, _, hl, hm, hz, _, hcell, hwz⟩
    · simp [Value.cells] at hcs
      obtain ⟨rfl, rfl, rfl⟩ := hcs
      exact ⟨[], .inl ⟨rfl, rfl, rfl, rfl⟩⟩
    · simp [Value.cells] at hcs
      obtain ⟨rfl, rfl, rfl⟩ := hcs
      exact ⟨zs, .inr ⟨_, rfl, hl, hm, by simpa using hz, hcell, hwz⟩⟩
  clear hA0 hval0
  refine (walk a0 len0 cap0 z0 W w0 hT).mono fun e W' ⟨he, bel⟩ => ?_
  subst he
  exact ⟨_, rfl, _, _, _, [], _, [], hW', trodAll_mk1 (shut_bool Tryd.underlying4 _), (trodAll_cons_mk (Below.trod laidOut (by kernel_rfl) (of_decide_eq_true (by kernel_rfl)) k0 bel lt0) trodAll_mk0), rfl, bel.frame _, fun h => by cases h⟩

theorem over : Rows.fnLongRow.holds Tryd.pinned (OpenSpec.ofChange Rows.fnLongSpec) :=
  OpenClaim.holds_of_wide 5 Tryd.f5 rfl rfl rfl rfl rfl rfl rfl ⟨rfl, rfl, rfl, rfl, rfl⟩ rfl rfl rfl rfl rfl (by kernel_rfl) Tryd.func5 (by kernel_rfl)
    (of_decide_eq_true (by kernel_rfl)) (by unfold Func.isWrapper; first | (rw [if_pos (by decide +kernel)]; kernel_rfl) | (rw [if_neg (by decide +kernel)]; exact ⟨rfl, rfl⟩))
    (fun os started H enc _ => lifted os started H enc)

/-- The statement. -/
theorem proved : Rows.FnLongCardSaid :=
  Claim7.holds_tied_plain_at .later [] [.data, .data] true _ false
    over (fun _ h => by cases h) (by kernel_rfl) (fun _ h => by cases h) fnLong_row_tie rfl ⟨rfl, rfl⟩ (by kernel_rfl) rfl
    (fun f fn hf hfn => by
      obtain rfl : f = 5 := Option.some.inj ((show Tryd.prog.funcNamed "loop.example/setparts/laws.FnLong" = some 5 by kernel_rfl).symm.trans hf) |>.symm
      obtain rfl : fn = Tryd.f5 := (Option.some.inj (Tryd.func5.symm.trans hfn)).symm
      exact ⟨by kernel_rfl, fun j t ht => by
        rw [Tryd.params5] at ht
        have hm : t ∈ [22] := by simpa using Array.mem_of_getElem? ht
        have hall : ([22].all fun u => !Tryd.prog.wantsStandIn u) = true := by kernel_rfl
        exact (show Tryd.prog.wantsStandIn t = false by simpa using List.all_eq_true.1 hall t hm)⟩)
    (by kernel_rfl)
end Go.Proofs.YtipmafplpoadjaaDoor.fnLong
