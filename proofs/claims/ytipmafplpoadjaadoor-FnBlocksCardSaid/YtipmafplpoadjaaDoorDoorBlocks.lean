/-
  Blocks have all things. For every input the Go text of laws.FnBlocks returns true, and its argument reads afterwards as before. No condition.
-/
import Derived.Test.YtipmafplpoadjaaDoorDrawPart
import Derived.Test.YtipmafplpoadjaaDoorSame
import Derived.Test.YtipmafplpoadjaaDoorRows
import Derived.Test.YtipmafplpoadjaaDoorPure
import Derived.Test.YtipmafplpoadjaaDoorHelp
import Derived.Test.YtipmafplpoadjaaDoorPlainMath
import Derived.Test.YtipmafplpoadjaaDoorPartBlocks
import Derived.Test.YtipmafplpoadjaaDoorRowsChk
import Derived.Test.YtipmafplpoadjaaDoorHeldMat
import Derived.Test.YtipmafplpoadjaaDoorSameRows
import Derived.Test.YtipmafplpoadjaaDoorSize
import Derived.Test.YtipmafplpoadjaaDoorWraps
import Derived.WalkKit
import Derived.ProofKit
import Derived.OpenShut
import Derived.ShutString
import Derived.ChangeOld
import Derived.Below
import Derived.Test.YtipmafplpoadjaaDoorCards
import Derived.Test.YtipmafplpoadjaaDoorTie
import Derived.Test.YtipmafplpoadjaaDoorLaid
import Derived.LaidMore
import Derived.Stop.Joined
import Derived.SevenTiedAt
namespace Go.Proofs.YtipmafplpoadjaaDoor.fnBlocks
open Go.ChangeShapes Go.WideShapes Go.ChangeAt Go.RowKit
open Go.ChangeMaps (open_string shut_string)
set_option linter.unusedVariables false
set_option linter.unusedSimpArgs false
set_option linter.unnecessarySimpa false

theorem own : ownKnob Tryd.prog.godebug = none := by kernel_rfl
theorem laidOut : laidOutB Tryd.prog = true := by kernel_rfl

theorem sameInts_t (v u : Value) (xs : List Int) (w : World) (hv : RdV w v xs) (hu : RdV w u xs) : Calls Tryd.prog 14 #[v, u] w fun e w' => e = .returned (.bool true) ∧ Same w w' :=
  (sameInts_v v u xs xs w hv hu).mono fun e w' ⟨he, hw⟩ => ⟨by rw [he]; simp, hw⟩

theorem draw_any (a : Option Addr) (len cap : Nat) (w : World) (hby : Bytes w a len) (hlen : len ≤ 1048576) (hc : len ≤ cap) (hcm : cap ≤ maxLen) :
    Calls Tryd.prog 6 #[.slice a len cap] w fun e w' => ∃ v xs, e = .returned v ∧ Own w' w.heap.size v xs ∧ xs.length ≤ 9 ∧ (∀ x ∈ xs, 0 ≤ x ∧ x ≤ 9) ∧ Below w.heap.size w w' := by
  go_enter Tryd.func6, Tryd.ntmps6
  go_wp2_with fail
  refine (l91Some_any a len cap w hby hlen hc hcm).mono ?_
  rintro e w1 ⟨v, xs, rfl, h⟩
  go_wp2
  go_ret
  exact ⟨v, xs, rfl, h⟩

set_option maxRecDepth 100000 in
set_option maxHeartbeats 4000000 in
theorem small (a0 : Option Addr) (len0 cap0 : Nat) (w : World) (hB : Bytes w a0 len0) (hc : len0 ≤ cap0) (hcm : cap0 ≤ maxLen) (hs0 : len0 ≤ 1048576)
    (hT : Tab w) : Calls Tryd.prog 3 #[.slice a0 len0 cap0] w fun e w' => e = .returned (.bool true) ∧ Below w.heap.size w w' := by
  have bel : Below w.heap.size w w := Below.refl _ _
  go_enter Tryd.func3, Tryd.ntmps3
  go_wp2_with fail
  refine (draw_any a0 len0 cap0 _ hB hs0 hc hcm).mono ?_
  rintro e W1 ⟨v_a, xs, rfl, o, hl9, _, hb⟩
  have bel := below_step bel hb
  clear hb
  have o_a := o
  clear o
  by_cases hp : partIn xs = true
  · have e1 : partBlocks xs = (blocksTo xs (pSize xs).toNat, true) := by simp [partBlocks, hp]
    have e2 : partSize xs = (pSize xs, true) := by simp [partSize, hp]
    obtain ⟨f1, f2, f3⟩ := rows_facts hp
    have hl8 := (partIn_len hp).2
    have hl1 := (partIn_len hp).1
    have hbd := pSize_bd (partIn_small hp)
    obtain ⟨p, hpe⟩ := Int.eq_ofNat_of_zero_le hbd.1
    rw [hpe, Int.toNat_natCast] at e1 f1 f2 f3
    rw [hpe] at e2 hbd
    obtain ⟨bs, hbs⟩ : ∃ bs, bs = blocksTo xs p := ⟨_, rfl⟩
    rw [← hbs] at e1
    have HBS := Lib.hid hbs
    have HF1 := Lib.hid f1
    have HF2 := Lib.hid f2
    have HF3 := Lib.hid f3
    have HI := Lib.hid (fun (wx : World) (v0 : Value) (kt : Tab wx) (k0 : RdV wx v0 xs) => e1 ▸ iPartBlocks_v v0 xs wx kt k0)
    have HS := Lib.hid (fun (wx : World) (v0 : Value) (k0 : RdV wx v0 xs) => e1 ▸ sPartBlocks_v v0 xs wx k0)
    have HP := Lib.hid (fun (wx : World) (v0 : Value) (k0 : RdV wx v0 xs) => e2 ▸ iPartSize_v v0 xs wx k0)
    clear hp e1 e2 hpe hbs f1 f2 f3
    go_wp2_with fail
    refine (HI.out _ _ (tab_below hT bel) (own_rdv o_a)).mono ?_
    rintro e W2 ⟨v_o, rfl, o, hb⟩
    have bel := below_step bel hb
    have o_a := own_below o_a hb
    clear hb
    have o_o := o
    clear o
    go_wp2_with fail
    refine (HS.out _ _ (own_rdv o_a)).mono ?_
    rintro e W3 ⟨v_w, rfl, o, hb⟩
    have bel := below_step bel hb
    have o_a := own_below o_a hb
    have o_o := ownM_below o_o hb
    clear hb
    have o_w := o
    clear o
    go_wp2_with fail
    refine (sameRows_v _ _ bs _ (ownM_rdM o_o) (ownM_rdM o_w)).mono ?_
    rintro e W4 ⟨rfl, hq⟩
    have hb := hq W3.heap.size
    clear hq
    have bel := below_step bel hb
    have o_a := own_below o_a hb
    have o_o := ownM_below o_o hb
    have o_w := ownM_below o_w hb
    clear hb
    clear o_w
    go_wp2_with fail
    refine (HP.out _ _ (own_rdv o_a)).mono ?_
    rintro e W5 ⟨rfl, hb⟩
    have bel := below_step bel hb
    have o_a := own_below o_a hb
    have o_o := ownM_below o_o hb
    clear hb
    clear HI HS HP
    obtain ⟨ao, ca, hva, hra, _, _⟩ := own_rdv o_a
    subst hva
    obtain ⟨n, hn⟩ : ∃ n, n = xs.length := ⟨_, rfl⟩
    have HN := Lib.hid hn
    rw [← hn] at hl8 ⊢
    obtain ⟨vs, hvl, hparts, _⟩ := ownM_parts o_o
    have hbl : bs.length = p := by rw [HBS.out, blocksTo_length]
    have hpos : 1 ≤ p := by
      rcases Nat.eq_zero_or_pos p with h0 | h0
      · have h3 := HF3.out
        rw [h0] at h3
        have h4 : tot xs 0 = 0 := rfl
        omega
      · exact h0
    rcases hparts with ⟨_, hnil⟩ | ⟨gb, capb, rfl, _⟩
    · have := congrArg List.length hnil
      rw [hbl] at this
      simp at this
      omega
    rw [hbl] at o_o ⊢
    have HBL := Lib.hid hbl
    have HO := Lib.hid o_o
    have HR := Lib.hid hra
    obtain ⟨wo, hwo⟩ : ∃ wo : World, wo = W5 := ⟨_, rfl⟩
    rw [← hwo] at HO HR bel ⊢
    clear hn hvl o_o o_a hra hbl hwo
    go_wp2
    go_loopw [10, 11] (fun u i wr => ∃ k : Nat, k ≤ p ∧ i = .int .i64 k ∧ u = .int .i64 (tot xs k) ∧ Quiet wo wr) (fun _ i _ => p - (intOf i).toNat)
    case atStart => exact ⟨0, Nat.zero_le _, rfl, rfl, Quiet.refl _⟩
    case round =>
      obtain ⟨k, hk, rfl, rfl, hq⟩ := hrel
      by_cases hlt : k < p
      · obtain ⟨g1, g2⟩ := HF1.out k hlt
        have hok := ownM_below HO.out hq.below
        obtain ⟨z, hz, hoz, hiz⟩ := ownM_cell hok k (by rw [HBL.out]; exact hlt)
        obtain ⟨zo, zc, rfl, hrz, _⟩ := own_rd hoz
        have hgd : bs.getD k [] = blkAt xs k xs.length := by rw [HBS.out, blocksTo_getD xs p k hlt]
        rw [hgd] at hz hrz
        have ht1 := HF2.out k (by omega)
        have ht2 := HF2.out (k + 1) (by omega)
        have hts : tot xs (k + 1) = tot xs k + (blkAt xs k xs.length).length := rfl
        rw [hts] at ht2
        obtain ⟨L, hL⟩ : ∃ L, L = blkAt xs k xs.length := ⟨_, rfl⟩
        rw [← hL] at g1 g2 hz hrz hts ht2
        obtain ⟨m, hm⟩ : ∃ m, m = L.length := ⟨_, rfl⟩
        rw [← hm] at g1 g2 hz hts ht2
        obtain ⟨s, hs⟩ : ∃ s, s = tot xs k := ⟨_, rfl⟩
        rw [← hs] at hts ht1 ht2 ⊢
        rw [← HN.out] at ht1 ht2
        have HTS := Lib.hid hts
        have HM := Lib.hid hm
        have HG2 := Lib.hid g2
        have HRZ := Lib.hid hrz
        have hzm : (m : Int) = 0 → False := by omega
        have B0 := Lib.hid (w_ne m (by omega))
        have b1 : (k : Int) < (p : Int) := by omega
        have HZ := Lib.hid hz
        obtain ⟨w9, hw9⟩ : ∃ w9 : World, w9 = wr := ⟨_, rfl⟩
        subst hw9
        clear hok hoz hiz hrz hgd hts hL hm hs g2 hzm hz
        go_wp2
        go_loopw [10, 12] (fun u i wr => ∃ j : Nat, j ≤ m ∧ i = .int .i64 j ∧ u = .int .i64 ((s + j : Nat) : Int) ∧ Quiet w9 wr) (fun _ i _ => m - (intOf i).toNat)
        case atStart => exact ⟨0, Nat.zero_le _, rfl, rfl, Quiet.refl _⟩
        case round =>
          obtain ⟨j, hj, rfl, rfl, hq2⟩ := hrel
          have hz : wr.cell? ⟨gb, k, none⟩ = some (.slice zo m zc) := by
            obtain ⟨q, rfl⟩ := hq2
            exact HZ.out
          by_cases hjm : j < m
          · obtain ⟨⟨h1, h2⟩, h3, h4⟩ := HG2.out j hjm
            rcases rd_below HRZ.out hq2.below with hx | ⟨bz, oz, rfl, hcz⟩
            · have := HM.out
              rw [hx] at this
              simp at this
              omega
            · rcases rd_below HR.out (hq.trans hq2).below with hx | ⟨bx, ox, rfl, hcx⟩
              · have := HN.out
                rw [hx] at this
                simp at this
                omega
              · have hcj := hcz j (by have := HM.out; omega)
                obtain ⟨x, hx⟩ := Int.eq_ofNat_of_zero_le h1
                rw [hx] at hcj h2 h3 h4
                rw [Int.toNat_natCast] at h3
                have hxn : x < n := by have := HN.out; omega
                have hca := hcx x (by have := HN.out; omega)
                rw [h3] at hca
                have b2 : (x : Int) < (n : Int) := by omega
                have b3 : (j : Int) < (m : Int) := by omega
                have hsj : s + j + 1 ≤ 100 := by omega
                have hj100 : j ≤ 100 := by omega
                have hs100 : s + 1 ≤ 100 := by omega
                rcases Nat.eq_zero_or_pos j with hj0 | hj0
                · subst hj0
                  rw [Nat.add_zero] at hcj
                  have hfin : 0 + 1 ≤ m := by omega
                  clear hcz hcx h1 h2 h3 h4 hx
                  have b6 := w_add0 s hs100
                  go_wp2
                  go_quiet (fail)
                  go_wp2
                  go_roundw
                  case rel => exact ⟨0 + 1, hfin, by go_num, by go_num, hq2.drewN _⟩
                  case measure => simp [intOf]; omega
                · obtain ⟨i, hi⟩ : ∃ i, j = i + 1 := ⟨j - 1, by omega⟩
                  have hci := hcz i (by have := HM.out; omega)
                  have hlt2 : L.getD i 0 < (x : Int) := by
                    rcases h4 with h4 | h4
                    · omega
                    · rwa [hi, Nat.add_sub_cancel] at h4
                  obtain ⟨y, hy⟩ : ∃ y, y = L.getD i 0 := ⟨_, rfl⟩
                  rw [← hy] at hci hlt2
                  have hir : (j : Int) - 1 = (i : Int) := by omega
                  have hj1 : (0 : Int) < (j : Int) := by omega
                  have him : (i : Int) < (m : Int) := by omega
                  have b5 : ¬ (x : Int) ≤ y := Int.not_le.2 hlt2
                  have hfin : j + 1 ≤ m := by omega
                  have b4 := w_add s j hsj
                  have hd5 : decide ((x : Int) ≤ y) = false := decide_eq_false b5
                  have hd6 : decide (0 < j) = true := decide_eq_true hj0
                  have hi0 : (0 : Int) ≤ (i : Int) := by omega
                  clear hcz hcx h1 h2 h3 h4 hx hi hy g1 ht1 ht2 hbd hl9 hl1 hl8 hk hsj hxn hpos hlt2
                  go_wp2
                  go_quiet (fail)
                  go_wp2
                  go_roundw
                  case rel => exact ⟨j + 1, hfin, by go_num, (by (try clear b4); (try clear hd5); (try clear hd6); (try clear hir); (try clear hj1); (try clear him); (try clear b5); (try clear hi0); (try clear b2); (try clear b3); (try clear hci); (try clear hcj); (try clear hca); (try clear hfin); (try clear hj0); first | (refine congrArg (Value.int IntKind.i64) ?_; rw [IntWalk.wrap64_in _ (by omega)]; omega) | (refine congrArg (Value.int IntKind.i64) ?_; rw [IntWalk.i64_in _ (by omega)]; omega) | rfl | (refine congrArg _ ?_; omega)), hq2.drewN _⟩
                  case measure => simp [intOf]; omega
          · have hjm2 : j = m := by omega
            subst hjm2
            have b0 := B0.out
            go_wp2
            go_roundw
            case rel => exact ⟨k + 1, by omega, by go_num, by rw [HTS.out], hq.trans hq2⟩
            case measure => simp [intOf]; omega
      · have hkp : k = p := by omega
        rw [hkp, HF3.out, ← HN.out]
        have b1 : ¬ (k : Int) < (p : Int) := by omega
        have hb := below_step bel hq.below
        go_wp2
        go_ret
        exact ⟨by first | rfl | exact ret_bool (by simp <;> omega), hb⟩
  · have hp : partIn xs = false := by simpa using hp
    have e1 : partBlocks xs = ([], false) := by simp [partBlocks, hp]
    have HI := Lib.hid (fun (wx : World) (v0 : Value) (kt : Tab wx) (k0 : RdV wx v0 xs) => e1 ▸ iPartBlocks_v v0 xs wx kt k0)
    have HS := Lib.hid (fun (wx : World) (v0 : Value) (k0 : RdV wx v0 xs) => e1 ▸ sPartBlocks_v v0 xs wx k0)
    clear hp e1
    go_wp2_with fail
    refine (HI.out _ _ (tab_below hT bel) (own_rdv o_a)).mono ?_
    rintro e W2 ⟨v_o, rfl, o, hb⟩
    have bel := below_step bel hb
    have o_a := own_below o_a hb
    clear hb
    have o_o := o
    clear o
    go_wp2_with fail
    refine (HS.out _ _ (own_rdv o_a)).mono ?_
    rintro e W3 ⟨v_w, rfl, o, hb⟩
    have bel := below_step bel hb
    have o_a := own_below o_a hb
    have o_o := ownM_below o_o hb
    clear hb
    have o_w := o
    clear o
    go_wp2_with fail
    refine (sameRows_v _ _ [] _ (ownM_rdM o_o) (ownM_rdM o_w)).mono ?_
    rintro e W4 ⟨rfl, hq⟩
    have hb := hq W3.heap.size
    clear hq
    have bel := below_step bel hb
    have o_a := own_below o_a hb
    have o_o := ownM_below o_o hb
    have o_w := ownM_below o_w hb
    clear hb
    go_wp2_with fail
    refine (sameRows_v _ _ [] _ (ownM_rdM o_o) (ownM_rdM o_w)).mono ?_
    rintro e W5 ⟨rfl, hq⟩
    have hb := hq W4.heap.size
    clear hq
    have bel := below_step bel hb
    have o_a := own_below o_a hb
    have o_o := ownM_below o_o hb
    have o_w := ownM_below o_w hb
    clear hb
    go_wp2
    go_ret
    exact ⟨rfl, bel⟩

theorem walk (a0 : Option Addr) (len0 cap0 : Nat) (z0 : List Int) (w : World) (w0 : IsRow .u8 w a0 len0 cap0 z0)
    (hT : Tab w) : Calls Tryd.prog 3 #[.slice a0 len0 cap0] w fun e w' => e = .returned (.bool true) ∧ Below w.heap.size w w' := by
  obtain ⟨hB, hc, hcm⟩ := bytes_of_row w0
  refine (Nat.lt_or_ge 1048576 len0).elim (fun hs0 => ?_) (fun hs0 => ?_)
  · go_enter Tryd.func3, Tryd.ntmps3
    go_wp2
    go_ret
    exact ⟨rfl, Below.refl _ _⟩
  exact small a0 len0 cap0 w hB hc hcm hs0 hT

theorem door_met (os : Os) (args : Array Value) : laidMetH Tryd.prog [("math/bits.deBruijn32tab", Rows.laid_math_bits_deBruijn32tab), ("math/bits.deBruijn64tab", Rows.laid_math_bits_deBruijn64tab)] ((World.doorLaid Tryd.prog 400 os).forCall (fun _ _ => 0) ⟨#[], args, []⟩).memory :=
  laidMetH_of_parts3 (fuel := 8) (laidMet_of_run' 8 (by kernel_rfl) (by kernel_rfl)) (by kernel_rfl) (by kernel_rfl)

set_option maxRecDepth 100000 in
theorem lifted (os : Os) (started : os.Started) (H : Type) (enc : TypeId × Value → H) :
    ReturnsInHanded {} Tryd.checked os 3 .any (fun w args => (Rows.fnBlocksSpec.pre enc Tryd.prog Tryd.f3 [] false w args ∧ laidMetH Tryd.prog [("math/bits.deBruijn32tab", Rows.laid_math_bits_deBruijn32tab), ("math/bits.deBruijn64tab", Rows.laid_math_bits_deBruijn64tab)] w) ∧ sizedMet enc Tryd.prog Tryd.f3 (OpenSpec.ofChange Rows.fnBlocksSpec) false w args)
      (Rows.fnBlocksSpec.post enc Tryd.prog Tryd.f3 false true false false) := by
  refine returnsInHanded_of_change_and (C := Tryd.checked) (X := fun w _ => laidMetH Tryd.prog [("math/bits.deBruijn32tab", Rows.laid_math_bits_deBruijn32tab), ("math/bits.deBruijn64tab", Rows.laid_math_bits_deBruijn64tab)] w) (fun _ _ _ hh h => h.of_heap hh) own started (by kernel_rfl) Tryd.func3
    (ChangeSpec.witness_shaped (enc := enc) (C := Tryd.checked) (os := os) (X := fun w _ => laidMetH Tryd.prog [("math/bits.deBruijn32tab", Rows.laid_math_bits_deBruijn32tab), ("math/bits.deBruijn64tab", Rows.laid_math_bits_deBruijn64tab)] w) false (World.doorLaid Tryd.prog 400 os) #[.slice none 0 0] 8 rfl (World.shaped_of_RefB (by kernel_rfl) (by kernel_rfl)) (by kernel_rfl) (by kernel_rfl) (by kernel_rfl) (door_met os _)) ?_
  intro W base args ds gs before hval0 hW _ _ hL _
  have hT : Tab W := tab_of_laid hL
  have hval : ∀ (j : Nat) t v, Tryd.f3.params[j]? = some t → args[j]? = some v → Value.okWide Tryd.prog W .any base t v := hval0
  have hW' := hW
  obtain ⟨p, q, hA0, hV, rfl, hfz, hnd⟩ := hW
  have hA : DataW.TrodAll enc Tryd.prog W 0 (fun _ => true) true Tryd.f3.params.toList args.toList ds p := hA0
  rw [Tryd.params3] at hA hval
  obtain ⟨v0, vs0, d0, ds0, p0, q0, hargs, rfl, rfl, h0, r0⟩ := trodAll_cons hA
  obtain ⟨rfl, rfl, rfl⟩ := trodAll_nil r0
  obtain rfl : args = #[v0] := by cases args; simp_all
  obtain ⟨rfl, rfl⟩ := trodVars_none hV
  obtain ⟨a0, len0, cap0, rfl⟩ := okWide_slice Tryd.underlying22 (hval 0 22 v0 rfl rfl)
  have k0 := h0
  have lt0 : ∀ x ∈ p0, x.block < W.heap.size := by obtain ⟨m, hm⟩ := k0; exact DataW.trod_lt m _ _ _ hm
  obtain ⟨z0, w0⟩ : ∃ zs, IsRow .u8 W a0 len0 cap0 zs := by
    obtain ⟨fuel, hf⟩ := h0
    rcases open_ints Tryd.underlying22 Tryd.underlying5 (by kernel_rfl) hf with ⟨hcs, _⟩ | ⟨x, l, c, zs, hcs, _, hl, hm, hz, _, hcell, hwz⟩
    · simp [Value.cells] at hcs
      obtain ⟨rfl, rfl, rfl⟩ := hcs
      exact ⟨[], .inl ⟨rfl, rfl, rfl, rfl⟩⟩
    · simp [Value.cells] at hcs
      obtain ⟨rfl, rfl, rfl⟩ := hcs
      exact ⟨zs, .inr ⟨_, rfl, hl, hm, by simpa using hz, hcell, hwz⟩⟩
  clear hA0 hval0
  refine (walk a0 len0 cap0 z0 W w0 hT).mono fun e W' ⟨he, bel⟩ => ?_
  subst he
  exact ⟨_, rfl, _, _, _, [], _, [], hW', trodAll_mk1 (shut_bool Tryd.underlying4 _), (trodAll_cons_mk (Below.trod laidOut (by kernel_rfl) (of_decide_eq_true (by kernel_rfl)) k0 bel lt0) trodAll_mk0), rfl, bel.frame _, fun h => by cases h⟩

theorem over : Rows.fnBlocksRow.holds Tryd.pinned (OpenSpec.ofChange Rows.fnBlocksSpec) :=
  OpenClaim.holds_of_wide 3 Tryd.f3 rfl rfl rfl rfl rfl rfl rfl ⟨rfl, rfl, rfl, rfl, rfl⟩ rfl rfl rfl rfl rfl (by kernel_rfl) Tryd.func3 (by kernel_rfl)
    (of_decide_eq_true (by kernel_rfl)) (by unfold Func.isWrapper; first | (rw [if_pos (by decide +kernel)]; kernel_rfl) | (rw [if_neg (by decide +kernel)]; exact ⟨rfl, rfl⟩))
    (fun os started H enc _ => lifted os started H enc)

/-- The statement. -/
theorem proved : Rows.FnBlocksCardSaid :=
  Claim7.holds_tied_plain_at .later [] [.data, .data] true _ false
    over (fun _ h => by cases h) (by kernel_rfl) (fun _ h => by cases h) fnBlocks_row_tie rfl ⟨rfl, rfl⟩ (by kernel_rfl) rfl
    (fun f fn hf hfn => by
      obtain rfl : f = 3 := Option.some.inj ((show Tryd.prog.funcNamed "loop.example/setparts/laws.FnBlocks" = some 3 by kernel_rfl).symm.trans hf) |>.symm
      obtain rfl : fn = Tryd.f3 := (Option.some.inj (Tryd.func3.symm.trans hfn)).symm
      exact ⟨by kernel_rfl, fun j t ht => by
        rw [Tryd.params3] at ht
        have hm : t ∈ [22] := by simpa using Array.mem_of_getElem? ht
        have hall : ([22].all fun u => !Tryd.prog.wantsStandIn u) = true := by kernel_rfl
        exact (show Tryd.prog.wantsStandIn t = false by simpa using List.all_eq_true.1 hall t hm)⟩)
    (by kernel_rfl)
end Go.Proofs.YtipmafplpoadjaaDoor.fnBlocks
