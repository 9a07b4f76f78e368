/-
  The law of openers and closers. For every input the Go text of laws.FnOpeners returns true, and its argument reads afterwards as before. No condition.
-/
import Derived.Test.YtipmafplpoadjaaDoorDrawPart
import Derived.Test.YtipmafplpoadjaaDoorSame
import Derived.Test.YtipmafplpoadjaaDoorRows
import Derived.Test.YtipmafplpoadjaaDoorPure
import Derived.Test.YtipmafplpoadjaaDoorHelp
import Derived.Test.YtipmafplpoadjaaDoorArcOpen
import Derived.Test.YtipmafplpoadjaaDoorArcOpenS
import Derived.Test.YtipmafplpoadjaaDoorOpenMath
import Derived.Test.YtipmafplpoadjaaDoorTurned
import Derived.Test.YtipmafplpoadjaaDoorHeldMat
import Derived.WalkKit
import Derived.ProofKit
import Derived.OpenShut
import Derived.ShutString
import Derived.ChangeOld
import Derived.Below
import Derived.Test.YtipmafplpoadjaaDoorCards
import Derived.Test.YtipmafplpoadjaaDoorTie
import Derived.Test.YtipmafplpoadjaaDoorLaid
import Derived.LaidMore
import Derived.Stop.Joined
import Derived.SevenTiedAt
namespace Go.Proofs.YtipmafplpoadjaaDoor.fnOpeners
open Go.ChangeShapes Go.WideShapes Go.ChangeAt Go.RowKit
open Go.ChangeMaps (open_string shut_string)
set_option linter.unusedVariables false
set_option linter.unusedSimpArgs false
set_option linter.unnecessarySimpa false

theorem own : ownKnob Tryd.prog.godebug = none := by kernel_rfl
theorem laidOut : laidOutB Tryd.prog = true := by kernel_rfl

theorem sameInts_t (v u : Value) (xs : List Int) (w : World) (hv : RdV w v xs) (hu : RdV w u xs) : Calls Tryd.prog 14 #[v, u] w fun e w' => e = .returned (.bool true) ∧ Same w w' :=
  (sameInts_v v u xs xs w hv hu).mono fun e w' ⟨he, hw⟩ => ⟨by rw [he]; simp, hw⟩

theorem draw_any (a : Option Addr) (len cap : Nat) (w : World) (hby : Bytes w a len) (hlen : len ≤ 1048576) (hc : len ≤ cap) (hcm : cap ≤ maxLen) :
    Calls Tryd.prog 11 #[.slice a len cap] w fun e w' => ∃ v xs, e = .returned v ∧ Own w' w.heap.size v xs ∧ xs.length ≤ 9 ∧ (∀ x ∈ xs, 0 ≤ x ∧ x ≤ 9) ∧ Below w.heap.size w w' := by
  go_enter Tryd.func11, Tryd.ntmps11
  go_wp2_with fail
  refine (l91Some_any a len cap w hby hlen hc hcm).mono ?_
  rintro e w1 ⟨v, xs, rfl, h⟩
  go_wp2
  go_ret
  exact ⟨v, xs, rfl, h⟩

set_option maxRecDepth 100000 in
set_option maxHeartbeats 4000000 in
theorem small (a0 : Option Addr) (len0 cap0 : Nat) (w : World) (hB : Bytes w a0 len0) (hc : len0 ≤ cap0) (hcm : cap0 ≤ maxLen) (hs0 : len0 ≤ 1048576)
    (hT : Tab w) : Calls Tryd.prog 4 #[.slice a0 len0 cap0] w fun e w' => e = .returned (.bool true) ∧ Below w.heap.size w w' := by
  have bel : Below w.heap.size w w := Below.refl _ _
  go_enter Tryd.func4, Tryd.ntmps4
  go_wp2_with fail
  refine (draw_any a0 len0 cap0 _ hB hs0 hc hcm).mono ?_
  rintro e W1 ⟨v_a, xs, rfl, o, hl9, _, hb⟩
  have bel := below_step bel hb
  clear hb
  have o_a := o
  clear o
  by_cases hp : partIn xs = true
  · have hl := partIn_len hp
    have ht : partIn (kOut xs.reverse) = true := partIn_kOut (by simp; omega) (by simp; omega)
    have e1 : arcOpeners xs = (openTo xs xs.length, closeTo xs xs.length, true) := by simp [arcOpeners, hp, openL, closeL]
    have e2 : partTurned xs = (kOut xs.reverse, true) := by simp [partTurned, hp]
    have e3 : arcOpeners (kOut xs.reverse) = ((closeTo xs xs.length).reverse.map (fun v => (xs.length : Int) - 1 - v), (openTo xs xs.length).reverse.map (fun v => (xs.length : Int) - 1 - v), true) := by
      unfold arcOpeners openL closeL
      rw [if_pos ht, len_turned, open_turned, close_turned]
    have hoc := open_close xs
    have hol := openTo_len xs xs.length
    have hob := openTo_bd xs xs.length
    have hcb := closeTo_bd xs xs.length
    have hza := fun i (hi : i < (closeTo xs xs.length).length) => turned_at (closeTo xs xs.length) (xs.length : Int) i hi
    have hwa := fun i (hi : i < (openTo xs xs.length).length) => turned_at (openTo xs xs.length) (xs.length : Int) i hi
    have hzl : ((closeTo xs xs.length).reverse.map (fun v => (xs.length : Int) - 1 - v)).length = (closeTo xs xs.length).length := by simp
    have hwl : ((openTo xs xs.length).reverse.map (fun v => (xs.length : Int) - 1 - v)).length = (openTo xs xs.length).length := by simp
    generalize (closeTo xs xs.length).reverse.map (fun v => (xs.length : Int) - 1 - v) = Z at *
    generalize (openTo xs xs.length).reverse.map (fun v => (xs.length : Int) - 1 - v) = U at *
    generalize openTo xs xs.length = X at *
    generalize closeTo xs xs.length = Y at *
    generalize kOut xs.reverse = ts at *
    have HI := Lib.hid (fun (wx : World) (v0 : Value) (kt : Tab wx) (k0 : RdV wx v0 xs) => e1 ▸ iArcOpeners_v v0 xs wx kt k0)
    have HS := Lib.hid (fun (wx : World) (v0 : Value) (k0 : RdV wx v0 xs) => e1 ▸ sArcOpeners_v v0 xs wx k0)
    have HT := Lib.hid (fun (wx : World) (v0 : Value) (k0 : RdV wx v0 xs) => e2 ▸ iPartTurned_v v0 xs wx k0)
    have HZ := Lib.hid (fun (wx : World) (v0 : Value) (kt : Tab wx) (k0 : RdV wx v0 ts) => e3 ▸ iArcOpeners_v v0 ts wx kt k0)
    obtain ⟨ao, ca, rfl⟩ := own_slice' o_a
    obtain ⟨n, hn⟩ : ∃ n, n = xs.length := ⟨_, rfl⟩
    rw [← hn] at o_a hl hol hob hcb hza hwa ⊢
    have HOB := Lib.hid hob
    have HCB := Lib.hid hcb
    have HZA := Lib.hid hza
    have HWA := Lib.hid hwa
    clear e1 e2 e3 hp ht hn hob hcb hza hwa
    go_wp2_with fail
    refine (HI.out _ _ (tab_below hT bel) (own_rdv o_a)).mono ?_
    rintro e W2 ⟨v_x, v_x2, rfl, o, o2, hb, _⟩
    have bel := below_step bel hb
    have o_a := own_below o_a hb
    have o_x := o
    have o_x2 := o2
    clear hb o o2
    go_wp2_with fail
    refine (HS.out _ _ (own_rdv o_a)).mono ?_
    rintro e W3 ⟨v_u, v_u2, rfl, o, o2, hb⟩
    have bel := below_step bel hb
    have o_a := own_below o_a hb
    have o_x := own_below o_x hb
    have o_x2 := own_below o_x2 hb
    have o_u := o
    have o_u2 := o2
    clear hb o o2
    go_wp2_with fail
    refine (sameInts_t _ _ X _ (own_rdv o_x) (own_rdv o_u)).mono ?_
    rintro e W4 ⟨rfl, hq⟩
    have hb := hq W3.heap.size
    have bel := below_step bel hb
    have o_a := own_below o_a hb
    have o_x := own_below o_x hb
    have o_x2 := own_below o_x2 hb
    have o_u := own_below o_u hb
    have o_u2 := own_below o_u2 hb
    clear hb hq
    go_wp2_with fail
    refine (sameInts_t _ _ Y _ (own_rdv o_x2) (own_rdv o_u2)).mono ?_
    rintro e W5 ⟨rfl, hq⟩
    have hb := hq W4.heap.size
    have bel := below_step bel hb
    have o_a := own_below o_a hb
    have o_x := own_below o_x hb
    have o_x2 := own_below o_x2 hb
    have o_u := own_below o_u hb
    have o_u2 := own_below o_u2 hb
    clear hb hq
    clear o_u o_u2 HI HS
    go_wp2_with fail
    refine (HT.out _ _ (own_rdv o_a)).mono ?_
    rintro e W6 ⟨v_t, rfl, o, hb⟩
    have bel := below_step bel hb
    have o_a := own_below o_a hb
    have o_x := own_below o_x hb
    have o_x2 := own_below o_x2 hb
    have o_t := o
    clear hb o
    go_wp2_with fail
    refine (HZ.out _ _ (tab_below hT bel) (own_rdv o_t)).mono ?_
    rintro e W7 ⟨v_z, v_z2, rfl, o, o2, hb, _⟩
    have bel := below_step bel hb
    have o_a := own_below o_a hb
    have o_x := own_below o_x hb
    have o_x2 := own_below o_x2 hb
    have o_t := own_below o_t hb
    have o_z := o
    have o_z2 := o2
    clear hb o o2
    clear o_t HT HZ
    dsimp only at o_z o_z2 o_x o_x2 ⊢
    obtain ⟨m, hm⟩ : ∃ m, m = X.length := ⟨_, rfl⟩
    have hmY : Y.length = m := by omega
    have hmZ : Z.length = m := by omega
    have hmU : U.length = m := by omega
    have hm8 : m ≤ 8 := by omega
    rcases Nat.eq_zero_or_pos m with h0 | h0
    · obtain ⟨a1, c1, rfl⟩ := own_slice' o_x
      obtain ⟨a2, c2, rfl⟩ := own_slice' o_x2
      obtain ⟨a3, c3, rfl⟩ := own_slice' o_z
      obtain ⟨a4, c4, rfl⟩ := own_slice' o_z2
      rw [← hm, hmY, hmZ, hmU]
      clear hm hmY hmZ hmU o_x o_x2 o_z o_z2 hoc hol hzl hwl HOB HCB HZA HWA
      subst h0
      go_wp2
      go_loopw [16] (fun i wr => i = .int .i64 0 ∧ wr = W7) (fun _ _ => 0)
      case atStart => exact ⟨rfl, rfl⟩
      case round =>
        obtain ⟨rfl, rfl⟩ := hrel
        go_wp2
        go_ret
        exact ⟨rfl, bel⟩
    · rcases own_view o_x with ⟨_, hh⟩ | ⟨g1, c1, rfl, _, _, q1, _, _⟩
      · rw [hh] at hm; simp at hm; omega
      rcases own_view o_x2 with ⟨_, hh⟩ | ⟨g2, c2, rfl, _, _, q2, _, _⟩
      · rw [hh] at hmY; simp at hmY; omega
      rcases own_view o_z with ⟨_, hh⟩ | ⟨g3, c3, rfl, _, _, q3, _, _⟩
      · rw [hh] at hmZ; simp at hmZ; omega
      rcases own_view o_z2 with ⟨_, hh⟩ | ⟨g4, c4, rfl, _, _, q4, _, _⟩
      · rw [hh] at hmU; simp at hmU; omega
      have HX := Lib.hid fun i (hi : i < m) => own_cell o_x i (by omega)
      have HY := Lib.hid fun i (hi : i < m) => own_cell o_x2 i (by omega)
      have HZ := Lib.hid fun i (hi : i < m) => own_cell o_z i (by omega)
      have HU := Lib.hid fun i (hi : i < m) => own_cell o_z2 i (by omega)
      have HM := Lib.hid (And.intro hm hmY)
      rw [← hm] at q1
      rw [hmY] at q2
      rw [hmZ] at q3
      rw [hmU] at q4
      rw [← hm, hmY, hmZ, hmU]
      clear hm hmY hmZ hmU o_x o_x2 o_z o_z2 hoc hol hzl hwl
      go_wp2
      go_loopw [16] (fun i wr => ∃ k : Nat, k ≤ m ∧ i = .int .i64 k ∧ Below W7.heap.size W7 wr) (fun i _ => m - (intOf i).toNat)
      case atStart => exact ⟨0, Nat.zero_le _, rfl, Below.refl _ _⟩
      case round =>
        obtain ⟨k, hk, rfl, hbr⟩ := hrel
        by_cases hlt : k < m
        · obtain ⟨j, hj⟩ : ∃ j, j = m - 1 - k := ⟨_, rfl⟩
          have hjm : j < m := by omega
          have cx := HX.out j hjm
          have cy := HY.out j hjm
          have cz := HZ.out k hlt
          have cu := HU.out k hlt
          rw [← hbr.cell (World.block_lt_of_cell? W7 _ cx)] at cx
          rw [← hbr.cell (World.block_lt_of_cell? W7 _ cy)] at cy
          rw [← hbr.cell (World.block_lt_of_cell? W7 _ cz)] at cz
          rw [← hbr.cell (World.block_lt_of_cell? W7 _ cu)] at cu
          have ez := HZA.out k (by have := HM.out.2; omega)
          have eu := HWA.out k (by have := HM.out.1; omega)
          rw [HM.out.2, ← hj] at ez
          rw [← HM.out.1, ← hj] at eu
          have bx := HOB.out (X.getD j 0) (by have := HM.out.1; simp [List.getD, show j < X.length by omega])
          have by_ := HCB.out (Y.getD j 0) (by have := HM.out.2; simp [List.getD, show j < Y.length by omega])
          generalize X.getD j 0 = x at *
          generalize Y.getD j 0 = y at *
          generalize Z.getD k 0 = z at *
          generalize U.getD k 0 = u at *
          have d1 : (z != (n : Int) - 1 - y) = false := by rw [ez]; simp
          have d2 : (u != (n : Int) - 1 - x) = false := by rw [eu]; simp
          have hji : (m : Int) - 1 - (k : Int) = (j : Int) := by omega
          obtain ⟨bx0, bx1⟩ := bx
          obtain ⟨by0, by1⟩ := by_
          clear ez eu hj
          go_wp2
          go_quiet (fail)
          go_wp2
          go_roundw
          case rel => exact ⟨k + 1, by omega, by go_num, below_drewN hbr _⟩
          case measure => simp [intOf]; omega
        · have hkm : k = m := by omega
          subst hkm
          go_wp2
          go_ret
          exact ⟨rfl, below_step bel hbr⟩
  · have hp : partIn xs = false := by simpa using hp
    have e1 : arcOpeners xs = ([], [], false) := by simp [arcOpeners, hp]
    have HI := Lib.hid (fun (wx : World) (v0 : Value) (kt : Tab wx) (k0 : RdV wx v0 xs) => e1 ▸ iArcOpeners_v v0 xs wx kt k0)
    have HS := Lib.hid (fun (wx : World) (v0 : Value) (k0 : RdV wx v0 xs) => e1 ▸ sArcOpeners_v v0 xs wx k0)
    clear hp e1
    go_wp2_with fail
    refine (HI.out _ _ (tab_below hT bel) (own_rdv o_a)).mono ?_
    rintro e W2 ⟨v_x, v_x2, rfl, o, o2, hb, _⟩
    have bel := below_step bel hb
    have o_a := own_below o_a hb
    have o_x := o
    have o_x2 := o2
    clear hb o o2
    go_wp2_with fail
    refine (HS.out _ _ (own_rdv o_a)).mono ?_
    rintro e W3 ⟨v_u, v_u2, rfl, o, o2, hb⟩
    have bel := below_step bel hb
    have o_a := own_below o_a hb
    have o_x := own_below o_x hb
    have o_x2 := own_below o_x2 hb
    have o_u := o
    have o_u2 := o2
    clear hb o o2
    go_wp2_with fail
    refine (sameInts_t _ _ [] _ (own_rdv o_x) (own_rdv o_u)).mono ?_
    rintro e W4 ⟨rfl, hq⟩
    have hb := hq W3.heap.size
    have bel := below_step bel hb
    have o_x := own_below o_x hb
    have o_x2 := own_below o_x2 hb
    have o_u := own_below o_u hb
    have o_u2 := own_below o_u2 hb
    clear hb hq
    go_wp2_with fail
    refine (sameInts_t _ _ [] _ (own_rdv o_x2) (own_rdv o_u2)).mono ?_
    rintro e W5 ⟨rfl, hq⟩
    have hb := hq W4.heap.size
    have bel := below_step bel hb
    have o_x := own_below o_x hb
    have o_x2 := own_below o_x2 hb
    have o_u := own_below o_u hb
    have o_u2 := own_below o_u2 hb
    clear hb hq
    go_wp2_with fail
    refine (sameInts_t _ _ [] _ (own_rdv o_x) (own_rdv o_u)).mono ?_
    rintro e W6 ⟨rfl, hq⟩
    have hb := hq W5.heap.size
    have bel := below_step bel hb
    have o_x := own_below o_x hb
    have o_x2 := own_below o_x2 hb
    have o_u := own_below o_u hb
    have o_u2 := own_below o_u2 hb
    clear hb hq
    go_wp2_with fail
    refine (sameInts_t _ _ [] _ (own_rdv o_x2) (own_rdv o_u2)).mono ?_
    rintro e W7 ⟨rfl, hq⟩
    have hb := hq W6.heap.size
    have bel := below_step bel hb
    have o_x := own_below o_x hb
    have o_x2 := own_below o_x2 hb
    have o_u := own_below o_u hb
    have o_u2 := own_below o_u2 hb
    clear hb hq
    go_wp2
    go_ret
    exact ⟨rfl, bel⟩

theorem walk (a0 : Option Addr) (len0 cap0 : Nat) (z0 : List Int) (w : World) (w0 : IsRow .u8 w a0 len0 cap0 z0)
    (hT : Tab w) : Calls Tryd.prog 4 #[.slice a0 len0 cap0] w fun e w' => e = .returned (.bool true) ∧ Below w.heap.size w w' := by
  obtain ⟨hB, hc, hcm⟩ := bytes_of_row w0
  refine (Nat.lt_or_ge 1048576 len0).elim (fun hs0 => ?_) (fun hs0 => ?_)
  · go_enter Tryd.func4, Tryd.ntmps4
    go_wp2
    go_ret
    exact ⟨rfl, Below.refl _ _⟩
  exact small a0 len0 cap0 w hB hc hcm hs0 hT

theorem door_met (os : Os) (args : Array Value) : laidMetH Tryd.prog [("math/bits.deBruijn32tab", Rows.laid_math_bits_deBruijn32tab), ("math/bits.deBruijn64tab", Rows.laid_math_bits_deBruijn64tab)] ((World.doorLaid Tryd.prog 400 os).forCall (fun _ _ => 0) ⟨#[], args, []⟩).memory :=
  laidMetH_of_parts3 (fuel := 8) (laidMet_of_run' 8 (by kernel_rfl) (by kernel_rfl)) (by kernel_rfl) (by kernel_rfl)

set_option maxRecDepth 100000 in
theorem lifted (os : Os) (started : os.Started) (H : Type) (enc : TypeId × Value → H) :
    ReturnsInHanded {} Tryd.checked os 4 .any (fun w args => (Rows.fnOpenersSpec.pre enc Tryd.prog Tryd.f4 [] false w args ∧ laidMetH Tryd.prog [("math/bits.deBruijn32tab", Rows.laid_math_bits_deBruijn32tab), ("math/bits.deBruijn64tab", Rows.laid_math_bits_deBruijn64tab)] w) ∧ sizedMet enc Tryd.prog Tryd.f4 (OpenSpec.ofChange Rows.fnOpenersSpec) false w args)
      (Rows.fnOpenersSpec.post enc Tryd.prog Tryd.f4 false true false false) := by
  refine returnsInHanded_of_change_and (C := Tryd.checked) (X := fun w _ => laidMetH Tryd.prog [("math/bits.deBruijn32tab", Rows.laid_math_bits_deBruijn32tab), ("math/bits.deBruijn64tab", Rows.laid_math_bits_deBruijn64tab)] w) (fun _ _ _ hh h => h.of_heap hh) own started (by kernel_rfl) Tryd.func4
    (ChangeSpec.witness_shaped (enc := enc) (C := Tryd.checked) (os := os) (X := fun w _ => laidMetH Tryd.prog [("math/bits.deBruijn32tab", Rows.laid_math_bits_deBruijn32tab), ("math/bits.deBruijn64tab", Rows.laid_math_bits_deBruijn64tab)] w) false (World.doorLaid Tryd.prog 400 os) #[.slice none 0 0] 8 rfl (World.shaped_of_RefB (by kernel_rfl) (by kernel_rfl)) (by kernel_rfl) (by kernel_rfl) (by kernel_rfl) (door_met os _)) ?_
  intro W base args ds gs before hval0 hW _ _ hL _
  have hT : Tab W := tab_of_laid hL
  have hval : ∀ (j : Nat) t v, Tryd.f4.params[j]? = some t → args[j]? = some v → Value.okWide Tryd.prog W .any base t v := hval0
  have hW' := hW
  obtain ⟨p, q, hA0, hV, rfl, hfz, hnd⟩ := hW
  have hA : DataW.TrodAll enc Tryd.prog W 0 (fun _ => true) true Tryd.f4.params.toList args.toList ds p := hA0
  rw [Tryd.params4] at hA hval
  obtain ⟨v0, vs0, d0, ds0, p0, q0, hargs, rfl, rfl, h0, r0⟩ := trodAll_cons hA
  obtain ⟨rfl, rfl, rfl⟩ := trodAll_nil r0
  obtain rfl : args = #[v0] := by cases args; simp_all
  obtain ⟨rfl, rfl⟩ := trodVars_none hV
  obtain ⟨a0, len0, cap0, rfl⟩ := okWide_slice Tryd.underlying22 (hval 0 22 v0 rfl rfl)
  have k0 := h0
  have lt0 : ∀ x ∈ p0, x.block < W.heap.size := by obtain ⟨m, hm⟩ := k0; exact DataW.trod_lt m _ _ _ hm
  obtain ⟨z0, w0⟩ : ∃ zs, IsRow .u8 W a0 len0 cap0 zs := by
    obtain ⟨fuel, hf⟩ := h0
    rcases open_ints Tryd.underlying22 Tryd.underlying5 (by kernel_rfl) hf with ⟨hcs, _⟩ | ⟨x, l, c, zs, hcs, _, hl, hm, hz, _, hcell, hwz⟩
    · simp [Value.cells] at hcs
      obtain ⟨rfl, rfl, rfl⟩ := hcs
      exact ⟨[], .inl ⟨rfl, rfl, rfl, rfl⟩⟩
    · simp [Value.cells] at hcs
      obtain ⟨rfl, rfl, rfl⟩ := hcs
      exact ⟨zs, .inr ⟨_, rfl, hl, hm, by simpa using hz, hcell, hwz⟩⟩
  clear hA0 hval0
  refine (walk a0 len0 cap0 z0 W w0 hT).mono fun e W' ⟨he, bel⟩ => ?_
  subst he
  exact ⟨_, rfl, _, _, _, [], _, [], hW', trodAll_mk1 (shut_bool Tryd.underlying4 _), (trodAll_cons_mk (Below.trod laidOut (by kernel_rfl) (of_decide_eq_true (by kernel_rfl)) k0 bel lt0) trodAll_mk0), rfl, bel.frame _, fun h => by cases h⟩

theorem over : Rows.fnOpenersRow.holds Tryd.pinned (OpenSpec.ofChange Rows.fnOpenersSpec) :=
  OpenClaim.holds_of_wide 4 Tryd.f4 rfl rfl rfl rfl rfl rfl rfl ⟨rfl, rfl, rfl, rfl, rfl⟩ rfl rfl rfl rfl rfl (by kernel_rfl) Tryd.func4 (by kernel_rfl)
    (of_decide_eq_true (by kernel_rfl)) (by unfold Func.isWrapper; first | (rw [if_pos (by decide +kernel)]; kernel_rfl) | (rw [if_neg (by decide +kernel)]; exact ⟨rfl, rfl⟩))
    (fun os started H enc _ => lifted os started H enc)

/-- The statement. -/
theorem proved : Rows.FnOpenersCardSaid :=
  Claim7.holds_tied_plain_at .later [] [.data, .data] true _ false
    over (fun _ h => by cases h) (by kernel_rfl) (fun _ h => by cases h) fnOpeners_row_tie rfl ⟨rfl, rfl⟩ (by kernel_rfl) rfl
    (fun f fn hf hfn => by
      obtain rfl : f = 4 := Option.some.inj ((show Tryd.prog.funcNamed "loop.example/setparts/laws.FnOpeners" = some 4 by kernel_rfl).symm.trans hf) |>.symm
      obtain rfl : fn = Tryd.f4 := (Option.some.inj (Tryd.func4.symm.trans hfn)).symm
      exact ⟨by kernel_rfl, fun j t ht => by
        rw [Tryd.params4] at ht
        have hm : t ∈ [22] := by simpa using Array.mem_of_getElem? ht
        have hall : ([22].all fun u => !Tryd.prog.wantsStandIn u) = true := by kernel_rfl
        exact (show Tryd.prog.wantsStandIn t = false by simpa using List.all_eq_true.1 hall t hm)⟩)
    (by kernel_rfl)
end Go.Proofs.YtipmafplpoadjaaDoor.fnOpeners
