/-
  Shares add up to blocks. For every input the Go text of laws.FnShare returns true, and its argument reads afterwards as before. No condition.
-/
import Derived.Test.YthkkolnohgibeaaDoorDrawPart
import Derived.Test.YthkkolnohgibeaaDoorSame
import Derived.Test.YthkkolnohgibeaaDoorRows
import Derived.Test.YthkkolnohgibeaaDoorPure
import Derived.Test.YthkkolnohgibeaaDoorHelp
import Derived.Test.YthkkolnohgibeaaDoorDrawTwo
import Derived.Test.YthkkolnohgibeaaDoorViewFactsS
import Derived.Test.YthkkolnohgibeaaDoorSameRows
import Derived.Test.YthkkolnohgibeaaDoorTotal
import Derived.Test.YthkkolnohgibeaaDoorHeldMat
import Derived.WalkKit
import Derived.ProofKit
import Derived.OpenShut
import Derived.ShutString
import Derived.ChangeOld
import Derived.Below
import Derived.Test.YthkkolnohgibeaaDoorCards
import Derived.Test.YthkkolnohgibeaaDoorTie
import Derived.Test.YthkkolnohgibeaaDoorLaid
import Derived.LaidMore
import Derived.Stop.Joined
import Derived.SevenTiedAt
import Derived.Test.YthkkolnohgibeaaDoorGoes
namespace Go.Proofs.YthkkolnohgibeaaDoor.fnShare
open Go.ChangeShapes Go.WideShapes Go.ChangeAt Go.RowKit
open Go.ChangeMaps (open_string shut_string)
set_option linter.unusedVariables false
set_option linter.unusedSimpArgs false
set_option linter.unnecessarySimpa false

theorem own : ownKnob Tryd.prog.godebug = none := by kernel_rfl
theorem laidOut : laidOutB Tryd.prog = true := by kernel_rfl

theorem sameInts_t (v u : Value) (xs : List Int) (w : World) (hv : RdV w v xs) (hu : RdV w u xs) : Calls Tryd.prog 10 #[v, u] w fun e w' => e = .returned (.bool true) ∧ Same w w' :=
  (sameInts_v v u xs xs w hv hu).mono fun e w' ⟨he, hw⟩ => ⟨by rw [he]; simp, hw⟩

theorem draw_any (a : Option Addr) (len cap : Nat) (w : World) (hby : Bytes w a len) (hlen : len ≤ 1048576) (hc : len ≤ cap) (hcm : cap ≤ maxLen) :
    Calls Tryd.prog 11 #[.slice a len cap] w (TwoDrawn w) := by
  go_enter Tryd.func11, Tryd.ntmps11
  go_wp2_with fail
  refine (l91Two_any a len cap w hby hlen hc hcm).mono ?_
  rintro e w1 ⟨v, u, xs, ys, rfl, h⟩
  go_wp2
  go_ret2
  exact ⟨v, u, xs, ys, rfl, h⟩

set_option maxRecDepth 100000 in
set_option maxHeartbeats 4000000 in
theorem small (a0 : Option Addr) (len0 cap0 : Nat) (w : World) (hB : Bytes w a0 len0) (hc : len0 ≤ cap0) (hcm : cap0 ≤ maxLen) (hs0 : len0 ≤ 1048576)
    (hT : Tab w) : Calls Tryd.prog 4 #[.slice a0 len0 cap0] w fun e w' => e = .returned (.bool true) ∧ Below w.heap.size w w' := by
  have bel : Below w.heap.size w w := Below.refl _ _
  go_enter Tryd.func4, Tryd.ntmps4
  go_wp2_with fail
  refine (draw_any a0 len0 cap0 _ hB hs0 hc hcm).mono ?_
  rintro e W1 ⟨v_a, v_b, xs, ys, rfl, o, o2, hl9, hl9b, hb⟩
  have bel := below_step bel hb
  clear hb
  have o_a := o
  have o_b := o2
  clear o o2
  cases hf : alike xs ys
  · have e1 := viewShare_no hf
    have HI := Lib.hid (fun (wx : World) (v0 : Value) (v1 : Value) (k0 : RdV wx v0 xs) (k1 : RdV wx v1 ys) => e1 ▸ iViewShare_v v0 v1 xs ys wx k0 k1)
    have HS := Lib.hid (fun (wx : World) (v0 : Value) (v1 : Value) (k0 : RdV wx v0 xs) (k1 : RdV wx v1 ys) => e1 ▸ sViewShare_v v0 v1 xs ys wx k0 k1)
    clear hf e1
    go_wp2_with fail
    refine (HI.out _ _ _ (own_rdv o_a) (own_rdv o_b)).mono ?_
    rintro e W2 ⟨v_o, rfl, o, hb⟩
    have bel := below_step bel hb
    have o_a := own_below o_a hb
    have o_b := own_below o_b hb
    clear hb
    have o_o := o
    clear o
    go_wp2_with fail
    refine (HS.out _ _ _ (own_rdv o_a) (own_rdv o_b)).mono ?_
    rintro e W3 ⟨v_w, rfl, o, hb⟩
    have bel := below_step bel hb
    have o_a := own_below o_a hb
    have o_b := own_below o_b hb
    have o_o := ownM_below o_o hb
    clear hb
    have o_w := o
    clear o
    go_wp2_with fail
    refine (sameRows_v _ _ [] _ (ownM_rdM o_o) (ownM_rdM o_w)).mono ?_
    rintro e W4 ⟨rfl, hq⟩
    have hb := hq W3.heap.size
    clear hq
    have bel := below_step bel hb
    have o_a := own_below o_a hb
    have o_b := own_below o_b hb
    have o_o := ownM_below o_o hb
    have o_w := ownM_below o_w hb
    clear hb
    go_wp2_with fail
    refine (sameRows_v _ _ [] _ (ownM_rdM o_o) (ownM_rdM o_w)).mono ?_
    rintro e W5 ⟨rfl, hq⟩
    have hb := hq W4.heap.size
    clear hq
    have bel := below_step bel hb
    have o_a := own_below o_a hb
    have o_b := own_below o_b hb
    have o_o := ownM_below o_o hb
    have o_w := ownM_below o_w hb
    clear hb
    go_wp2
    go_ret
    exact ⟨rfl, bel⟩
  · obtain ⟨p, q, hpx, hqy, hp1, hp8, hq1, hq8, e1, e2, e3, hsum⟩ := share_facts hf
    have e0 := finerMeet_yes hf
    have hl8 := (partIn_len (alike_iff.1 hf).1).2
    generalize kOut (mix 8 xs ys) = m at *
    obtain ⟨A, hA⟩ : ∃ A, A = numAtN xs := ⟨_, rfl⟩
    obtain ⟨B, hB⟩ : ∃ B, B = numAtN ys := ⟨_, rfl⟩
    obtain ⟨n, hn⟩ : ∃ n, n = xs.length := ⟨_, rfl⟩
    rw [← hA, ← hB, ← hn] at e1 e3 hsum
    rw [← hn] at hl8
    have HB := Lib.hid (fun k (hk : k < p) => blocksTo_getD xs p k hk)
    rw [← hn] at HB
    have hbl := blocksTo_length xs p
    have htl := tabTo_len A B p q n
    have HT := Lib.hid (fun k (hk : k < p) => tabTo_getD A B p q n hk)
    obtain ⟨C, hC⟩ : ∃ C, C = cellN A B n := ⟨_, rfl⟩
    rw [← hC] at e3
    have HC8 := Lib.hid (fun x y => Nat.le_trans (cellN_le A B n x y) hl8)
    rw [← hC] at HC8
    obtain ⟨N, hN⟩ : ∃ N, N = nzTo C q p := ⟨_, rfl⟩
    rw [← hN] at e3
    obtain ⟨T, hT9⟩ : ∃ T, T = tabTo A B p q n := ⟨_, rfl⟩
    rw [← hT9] at e1 htl HT
    obtain ⟨bs, hbs⟩ : ∃ bs, bs = blocksTo xs p := ⟨_, rfl⟩
    rw [← hbs] at e2 hbl HB
    have HSUM := Lib.hid hsum
    have HTL := Lib.hid htl
    have HBL := Lib.hid hbl
    have HN := Lib.hid hN
    have HCD := Lib.hid hC
    have HI := Lib.hid (fun (wx : World) (v0 : Value) (v1 : Value) (k0 : RdV wx v0 xs) (k1 : RdV wx v1 ys) => e1 ▸ iViewShare_v v0 v1 xs ys wx k0 k1)
    have HS := Lib.hid (fun (wx : World) (v0 : Value) (v1 : Value) (k0 : RdV wx v0 xs) (k1 : RdV wx v1 ys) => e1 ▸ sViewShare_v v0 v1 xs ys wx k0 k1)
    have HK := Lib.hid (fun (wx : World) (v0 : Value) (kE : Tab wx) (k0 : RdV wx v0 xs) => e2 ▸ iPartBlocks_v v0 xs wx kE k0)
    have HM := Lib.hid (fun (wx : World) (v0 : Value) (v1 : Value) (k0 : RdV wx v0 xs) (k1 : RdV wx v1 ys) => e0 ▸ iFinerMeet_v v0 v1 xs ys wx k0 k1)
    have HP := Lib.hid (fun (wx : World) (v0 : Value) (k0 : RdV wx v0 m) => e3 ▸ iPartSize_v v0 m wx k0)
    clear hf e0 e1 e2 e3 hsum htl hbl hN hC hT9 hbs hA hB hn hpx hqy hl8
    go_wp2_with fail
    refine (HI.out _ _ _ (own_rdv o_a) (own_rdv o_b)).mono ?_
    rintro e W2 ⟨v_o, rfl, o, hb⟩
    have bel := below_step bel hb
    have o_a := own_below o_a hb
    have o_b := own_below o_b hb
    clear hb
    have o_o := o
    clear o
    go_wp2_with fail
    refine (HS.out _ _ _ (own_rdv o_a) (own_rdv o_b)).mono ?_
    rintro e W3 ⟨v_w, rfl, o, hb⟩
    have bel := below_step bel hb
    have o_a := own_below o_a hb
    have o_b := own_below o_b hb
    have o_o := ownM_below o_o hb
    clear hb
    have o_w := o
    clear o
    go_wp2_with fail
    refine (sameRows_v _ _ T _ (ownM_rdM o_o) (ownM_rdM o_w)).mono ?_
    rintro e W4 ⟨rfl, hq⟩
    have hb := hq W3.heap.size
    clear hq
    have bel := below_step bel hb
    have o_a := own_below o_a hb
    have o_b := own_below o_b hb
    have o_o := ownM_below o_o hb
    have o_w := ownM_below o_w hb
    clear hb
    clear o_w
    go_wp2_with fail
    refine (HK.out _ _ (tab_below hT bel) (own_rdv o_a)).mono ?_
    rintro e W5 ⟨v_l, rfl, o, hb⟩
    have bel := below_step bel hb
    have o_a := own_below o_a hb
    have o_b := own_below o_b hb
    have o_o := ownM_below o_o hb
    clear hb
    have o_l := o
    clear o
    go_wp2_with fail
    refine (HM.out _ _ _ (own_rdv o_a) (own_rdv o_b)).mono ?_
    rintro e W6 ⟨v_m, rfl, o, hb⟩
    have bel := below_step bel hb
    have o_a := own_below o_a hb
    have o_b := own_below o_b hb
    have o_o := ownM_below o_o hb
    have o_l := ownM_below o_l hb
    clear hb
    have o_m := o
    clear o
    go_wp2_with fail
    refine (HP.out _ _ (own_rdv o_m)).mono ?_
    rintro e W7 ⟨rfl, hb⟩
    have bel := below_step bel hb
    have o_a := own_below o_a hb
    have o_b := own_below o_b hb
    have o_o := ownM_below o_o hb
    have o_l := ownM_below o_l hb
    have o_m := own_below o_m hb
    clear hb
    clear HI HS HK HM HP
    obtain ⟨vso, _, hpo, _⟩ := ownM_parts o_o
    obtain ⟨vsl, _, hpl, _⟩ := ownM_parts o_l
    have htl : T.length = p := HTL.out
    have hbl : bs.length = p := HBL.out
    rcases hpo with ⟨_, hnil⟩ | ⟨go, co, rfl, _⟩
    · rw [hnil] at htl
      simp at htl
      omega
    rcases hpl with ⟨_, hnil⟩ | ⟨gl, cl, rfl, _⟩
    · rw [hnil] at hbl
      simp at hbl
      omega
    rw [htl] at o_o ⊢
    rw [hbl] at o_l ⊢
    have HO := Lib.hid o_o
    have HL := Lib.hid o_l
    obtain ⟨wo, hwo⟩ : ∃ wo : World, wo = W7 := ⟨_, rfl⟩
    rw [← hwo] at HO HL bel ⊢
    clear o_o o_l o_a o_b o_m htl hbl hwo
    go_wp2
    go_loopw [15, 16] (fun c i wr => ∃ k s : Nat, k ≤ p ∧ i = .int .i64 k ∧ c = .int .i64 s ∧ Hid (s = nzTo C q k) ∧ s ≤ 8 * k ∧ Quiet wo wr) (fun _ i _ => p - (intOf i).toNat)
    case atStart => exact ⟨0, 0, Nat.zero_le _, rfl, rfl, Lib.hid rfl, Nat.zero_le _, Quiet.refl _⟩
    case round =>
      obtain ⟨k, s, hk, rfl, rfl, HS, hs8, hq9⟩ := hrel
      by_cases hlt : k < p
      · obtain ⟨z, hz, hoz, _⟩ := ownM_cell (ownM_below HO.out hq9.below) k (by rw [HTL.out]; exact hlt)
        obtain ⟨y, hy, hoy, _⟩ := ownM_cell (ownM_below HL.out hq9.below) k (by rw [HBL.out]; exact hlt)
        rw [HT.out k hlt] at hoz
        have hsum := HSUM.out k hlt
        rw [HB.out k hlt] at hoy
        obtain ⟨R, hR⟩ : ∃ R, R = tabRow A B q n k := ⟨_, rfl⟩
        obtain ⟨L, hL⟩ : ∃ L, L = blkAt xs k n := ⟨_, rfl⟩
        rw [← hR] at hoz hsum
        rw [← hL] at hoy hsum
        have hRl : R.length = q := by rw [hR]; exact tabRow_len _ _ _ _ _
        have hRv : ∀ j, j < q → R.getD j 0 = (C k j : Nat) := fun j hj => by rw [hR, HCD.out]; exact tabRow_getD _ _ _ _ _ hj
        have hRb : ∀ c ∈ R, 0 ≤ c ∧ c ≤ 100000 := fun c hc => by
          obtain ⟨j, hj, e⟩ := mem_iff_getD.1 hc
          rw [hRl] at hj
          have h1 := hRv j hj
          have h2 := HC8.out k j
          omega
        rcases own_view hoz with ⟨_, h0⟩ | ⟨gz, cz, rfl, _, _, _, _, hzc, _⟩
        · rw [h0] at hRl
          simp at hRl
          omega
        obtain ⟨ly, cy, rfl⟩ := own_slice' hoy
        rw [hRl] at hz hoz hzc
        obtain ⟨m, hm⟩ : ∃ m, m = L.length := ⟨_, rfl⟩
        rw [← hm] at hy hsum
        have HTOT := Lib.hid fun (w1 : World) (h1 : RdV w1 (.slice (some ⟨gz, 0, none⟩) R.length cz) R) => total_v _ R w1 h1 hRb (by rw [hRl]; omega) (by rw [hRl]; omega)
        rw [hRl, hsum] at HTOT
        have HOZ := Lib.hid (own_rdv hoz)
        have HZC := Lib.hid hzc
        have HRV := Lib.hid hRv
        have bk : (k : Int) < p := by omega
        have hge : decide ((p : Int) ≤ k) = false := decide_eq_false (by omega)
        clear hoz hoy hR hL hRl hRv hRb hsum hm hzc
        go_wp2
        go_quiet ((go_at_call 18; exact quiet_left (HTOT.out _ (rdv_drewN HOZ.out _))))
        go_wp2
        go_loopw [15, 17] (fun c i wr => ∃ j t : Nat, j ≤ q ∧ i = .int .i64 j ∧ c = .int .i64 t ∧ Hid (t = s + cntB (fun y => decide (0 < C k y)) j) ∧ t ≤ s + j ∧ Quiet wo wr) (fun _ i _ => q - (intOf i).toNat)
        case atStart => exact ⟨0, s, Nat.zero_le _, rfl, rfl, Lib.hid rfl, by omega, hq9.drewN _⟩
        case round =>
          obtain ⟨j, t, hj, rfl, rfl, HT2, ht8, hqj⟩ := hrel
          obtain ⟨z2, hz2, hoz2, _⟩ := ownM_cell (ownM_below HO.out hqj.below) k (by rw [HTL.out]; exact hlt)
          have hz3 : wr.cell? ⟨go, k, none⟩ = some (.slice (some ⟨gz, 0, none⟩) q cz) := by
            obtain ⟨a, rfl⟩ := hqj
            obtain ⟨b, rfl⟩ := hq9
            exact hz
          clear hz2 hoz2
          by_cases hjq : j < q
          · have hcz : wr.cell? ⟨gz, j, none⟩ = some (.int .i64 (C k j : Nat)) := by
              have := HZC.out j hjq
              rw [HRV.out j hjq] at this
              obtain ⟨a, rfl⟩ := hqj
              obtain ⟨b, rfl⟩ := hq9
              exact this
            have hst : cntB (fun y => decide (0 < C k y)) (j + 1) = cntB (fun y => decide (0 < C k y)) j + if decide (0 < C k j) = true then 1 else 0 := rfl
            obtain ⟨x, hx⟩ : ∃ x, x = C k j := ⟨_, rfl⟩
            rw [← hx] at hcz hst
            have bj : (j : Int) < q := by omega
            by_cases hx0 : 0 < x
            · rw [if_pos (decide_eq_true hx0)] at hst
              have HST := Lib.hid hst
              have hx1 : (0 : Int) < (x : Int) := by omega
              clear hst hx
              go_wp2
              go_roundw
              case rel => exact ⟨j + 1, t + 1, by omega, by go_num, by go_num, Lib.hid (by rw [HST.out, HT2.out]; omega), by omega, hqj⟩
              case measure => simp [intOf]; omega
            · rw [if_neg (by simpa using hx0)] at hst
              have HST := Lib.hid hst
              have hx1 : ¬ (0 : Int) < (x : Int) := by omega
              clear hst hx
              go_wp2
              go_roundw
              case rel => exact ⟨j + 1, t, by omega, by go_num, rfl, Lib.hid (by rw [HST.out, HT2.out]; rfl), by omega, hqj⟩
              case measure => simp [intOf]; omega
          · have hjq : j = q := by omega
            subst hjq
            go_wp2
            go_roundw
            case rel => exact ⟨k + 1, t, by omega, by go_num, rfl, Lib.hid (by rw [HT2.out, HS.out]; rfl), by omega, hqj⟩
            case measure => simp [intOf]; omega
      · have hkp : k = p := by omega
        subst hkp
        have hb := below_step bel hq9.below
        have hsn : ((s : Int) == (N : Int)) = true := by have h1 := HN.out; have h2 := HS.out; simp; omega
        go_wp2
        go_ret
        exact ⟨by first | rfl | exact ret_bool hsn, hb⟩

theorem walk (a0 : Option Addr) (len0 cap0 : Nat) (z0 : List Int) (w : World) (w0 : IsRow .u8 w a0 len0 cap0 z0)
    (hT : Tab w) : Calls Tryd.prog 4 #[.slice a0 len0 cap0] w fun e w' => e = .returned (.bool true) ∧ Below w.heap.size w w' := by
  obtain ⟨hB, hc, hcm⟩ := bytes_of_row w0
  refine (Nat.lt_or_ge 1048576 len0).elim (fun hs0 => ?_) (fun hs0 => ?_)
  · go_enter Tryd.func4, Tryd.ntmps4
    go_wp2
    go_ret
    exact ⟨rfl, Below.refl _ _⟩
  exact small a0 len0 cap0 w hB hc hcm hs0 hT

theorem door_met (os : Os) (args : Array Value) : laidMetH Tryd.prog [("math/bits.deBruijn32tab", Rows.laid_math_bits_deBruijn32tab), ("math/bits.deBruijn64tab", Rows.laid_math_bits_deBruijn64tab)] ((World.doorLaid Tryd.prog 400 os).forCall (fun _ _ => 0) ⟨#[], args, []⟩).memory :=
  laidMetH_of_parts3 (fuel := 8) (laidMet_of_run' 8 (by kernel_rfl) (by kernel_rfl)) (by kernel_rfl) (by kernel_rfl)

set_option maxRecDepth 100000 in
theorem lifted (os : Os) (started : os.Started) (H : Type) (enc : TypeId × Value → H) :
    ReturnsInHanded {} Tryd.checked os 4 .any (fun w args => (Rows.fnShareSpec.pre enc Tryd.prog Tryd.f4 [] false w args ∧ laidMetH Tryd.prog [("math/bits.deBruijn32tab", Rows.laid_math_bits_deBruijn32tab), ("math/bits.deBruijn64tab", Rows.laid_math_bits_deBruijn64tab)] w) ∧ sizedMet enc Tryd.prog Tryd.f4 (OpenSpec.ofChange Rows.fnShareSpec) false w args)
      (Rows.fnShareSpec.post enc Tryd.prog Tryd.f4 false true false false) := by
  refine returnsInHanded_of_change_and (C := Tryd.checked) (X := fun w _ => laidMetH Tryd.prog [("math/bits.deBruijn32tab", Rows.laid_math_bits_deBruijn32tab), ("math/bits.deBruijn64tab", Rows.laid_math_bits_deBruijn64tab)] w) (fun _ _ _ hh h => h.of_heap hh) own started (by kernel_rfl) Tryd.func4
    (ChangeSpec.witness_shaped (enc := enc) (C := Tryd.checked) (os := os) (X := fun w _ => laidMetH Tryd.prog [("math/bits.deBruijn32tab", Rows.laid_math_bits_deBruijn32tab), ("math/bits.deBruijn64tab", Rows.laid_math_bits_deBruijn64tab)] w) false (World.doorLaid Tryd.prog 400 os) #[.slice none 0 0] 8 rfl (World.shaped_of_RefB (by kernel_rfl) (by kernel_rfl)) (by kernel_rfl) (by kernel_rfl) (by kernel_rfl) (door_met os _)) ?_
  intro W base args ds gs before hval0 hW _ _ hL _
  have hT : Tab W := tab_of_laid hL
  have hval : ∀ (j : Nat) t v, Tryd.f4.params[j]? = some t → args[j]? = some v → Value.okWide Tryd.prog W .any base t v := hval0
  have hW' := hW
  obtain ⟨p, q, hA0, hV, rfl, hfz, hnd⟩ := hW
  have hA : DataW.TrodAll enc Tryd.prog W 0 (fun _ => true) true Tryd.f4.params.toList args.toList ds p := hA0
  rw [Tryd.params4] at hA hval
  obtain ⟨v0, vs0, d0, ds0, p0, q0, hargs, rfl, rfl, h0, r0⟩ := trodAll_cons hA
  obtain ⟨rfl, rfl, rfl⟩ := trodAll_nil r0
  obtain rfl : args = #[v0] := by cases args; simp_all
  obtain ⟨rfl, rfl⟩ := trodVars_none hV
  obtain ⟨a0, len0, cap0, rfl⟩ := okWide_slice Tryd.underlying22 (hval 0 22 v0 rfl rfl)
  have k0 := h0
  have lt0 : ∀ x ∈ p0, x.block < W.heap.size := by obtain ⟨m, hm⟩ := k0; exact DataW.trod_lt m _ _ _ hm
  obtain ⟨z0, w0⟩ : ∃ zs, IsRow .u8 W a0 len0 cap0 zs := by
    obtain ⟨fuel, hf⟩ := h0
    rcases open_ints Tryd.underlying22 Tryd.underlying5 (by kernel_rfl) hf with ⟨hcs, _⟩ | ⟨x, l, c, zs, hcs, _, hl, hm, hz, _, hcell, hwz⟩
    · simp [Value.cells] at hcs
      obtain ⟨rfl, rfl, rfl⟩ := hcs
      exact ⟨[], .inl ⟨rfl, rfl, rfl, rfl⟩⟩
    · simp [Value.cells] at hcs
      obtain ⟨rfl, rfl, rfl⟩ := hcs
      exact ⟨zs, .inr ⟨_, rfl, hl, hm, by simpa using hz, hcell, hwz⟩⟩
  clear hA0 hval0
  refine (walk a0 len0 cap0 z0 W w0 hT).mono fun e W' ⟨he, bel⟩ => ?_
  subst he
  exact ⟨_, rfl, _, _, _, [], _, [], hW', trodAll_mk1 (shut_bool Tryd.underlying4 _), (trodAll_cons_mk (Below.trod laidOut (by kernel_rfl) (of_decide_eq_true (by kernel_rfl)) k0 bel lt0) trodAll_mk0), rfl, bel.frame _, fun h => by cases h⟩

theorem over : Rows.fnShareRow.holds Tryd.pinned (OpenSpec.ofChange Rows.fnShareSpec) :=
  OpenClaim.holds_of_wide_leaving 4 Tryd.f4 rfl rfl rfl rfl rfl rfl rfl ⟨rfl, rfl, rfl, rfl, rfl⟩ rfl rfl rfl rfl rfl (by kernel_rfl) Tryd.func4 (by kernel_rfl)
    (of_decide_eq_true (by kernel_rfl)) (by unfold Func.isWrapper; first | (rw [if_pos (by decide +kernel)]; kernel_rfl) | (rw [if_neg (by decide +kernel)]; exact ⟨rfl, rfl⟩))
    (fun os started H enc _ => leaving_of_handed (lifted os started H enc))

/-- The statement. -/
theorem proved : Rows.FnShareCardSaid :=
  tied_goes .later [.data, .data] true Rows.fnShareCard.stood.harness Rows.fnShareCard.stood.looks
    over (by kernel_rfl) fnShare_row_tie rfl ⟨rfl, rfl⟩ (by kernel_rfl) rfl
    (fun f fn hf hfn => by
      obtain rfl : f = 4 := Option.some.inj ((show Tryd.prog.funcNamed "loop.example/setparts/laws.FnShare" = some 4 by kernel_rfl).symm.trans hf) |>.symm
      obtain rfl : fn = Tryd.f4 := (Option.some.inj (Tryd.func4.symm.trans hfn)).symm
      exact ⟨by kernel_rfl, fun j t ht => by
        rw [Tryd.params4] at ht
        have hm : t ∈ [22] := by simpa using Array.mem_of_getElem? ht
        have hall : ([22].all fun u => !Tryd.prog.wantsStandIn u) = true := by kernel_rfl
        exact (show Tryd.prog.wantsStandIn t = false by simpa using List.all_eq_true.1 hall t hm)⟩)
    (by kernel_rfl)
end Go.Proofs.YthkkolnohgibeaaDoor.fnShare
