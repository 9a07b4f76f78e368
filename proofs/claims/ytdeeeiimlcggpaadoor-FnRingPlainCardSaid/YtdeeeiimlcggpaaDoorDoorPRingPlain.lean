/-
  Permutations of partitions without crossing part a great ring. For every input the Go text of laws.FnRingPlain returns true, and its argument reads afterwards as before. No condition.
-/
import Derived.Test.YtdeeeiimlcggpaaDoorDrawPart
import Derived.Test.YtdeeeiimlcggpaaDoorSame
import Derived.Test.YtdeeeiimlcggpaaDoorRows
import Derived.Test.YtdeeeiimlcggpaaDoorPure
import Derived.Test.YtdeeeiimlcggpaaDoorHelp
import Derived.Test.YtdeeeiimlcggpaaDoorPlainRing
import Derived.Test.YtdeeeiimlcggpaaDoorSize
import Derived.Test.YtdeeeiimlcggpaaDoorFinRank
import Derived.Test.YtdeeeiimlcggpaaDoorPairs
import Derived.WalkKit
import Derived.ProofKit
import Derived.OpenShut
import Derived.ShutString
import Derived.ChangeOld
import Derived.Below
import Derived.Test.YtdeeeiimlcggpaaDoorCards
import Derived.Test.YtdeeeiimlcggpaaDoorTie
import Derived.Test.YtdeeeiimlcggpaaDoorLaidBoth
import Derived.LaidMore
import Derived.Stop.Joined
import Derived.SevenTiedAt
namespace Go.Proofs.YtdeeeiimlcggpaaDoor.fnRingPlain
open Go.ChangeShapes Go.WideShapes Go.ChangeAt Go.RowKit
open Go.ChangeMaps (open_string shut_string)
set_option linter.unusedVariables false
set_option linter.unusedSimpArgs false
set_option linter.unnecessarySimpa false

theorem own : ownKnob Tryd.prog.godebug = none := by kernel_rfl
theorem laidOut : laidOutB Tryd.prog = true := by kernel_rfl

theorem sameInts_t (v u : Value) (xs : List Int) (w : World) (hv : RdV w v xs) (hu : RdV w u xs) : Calls Tryd.prog 18 #[v, u] w fun e w' => e = .returned (.bool true) ∧ Same w w' :=
  (sameInts_v v u xs xs w hv hu).mono fun e w' ⟨he, hw⟩ => ⟨by rw [he]; simp, hw⟩

def arcCross (xs : List Int) : Int × Bool := if partIn xs then (((crossings xs : Nat) : Int), true) else (0, false)

set_option maxHeartbeats 800000 in
theorem iArcCross_v (v : Value) (xs : List Int) (w : World) (hv : RdV w v xs) : Calls Tryd.prog 26 #[v] w (GivesIB w (arcCross xs)) := by
  have HV := Lib.hid hv
  clear hv
  by_cases hp : partIn xs = true
  · have hr : arcCross xs = (((crossings xs : Nat) : Int), true) := by simp [arcCross, hp]
    rw [hr]
    have hl := partIn_len hp
    have HP := Lib.hid hp
    clear hp hr
    have HA := Lib.hid (arcsOf_any v xs w HV.out (by omega))
    have hq := fun (u : Value) (w1 : World) (hu : RdA w1 u (arcsOf xs)) => pairsThat_any _ crossB cross_arc cross_fn u (arcsOf xs) w1 hu ((arcsFrom_sorted xs 0).imp fun h => h.1) (by have := arcsOf_len xs; omega)
    obtain ⟨c, hc⟩ : ∃ c, c = crossings xs := ⟨_, rfl⟩
    change ∀ u w1, RdA w1 u (arcsOf xs) → Calls _ _ _ _ (GivesI w1 ((crossings xs : Nat) : Int)) at hq
    rw [← hc] at hq ⊢
    have HQ := Lib.hid hq
    clear hc hq
    go_enter Tryd.func26, Tryd.ntmps26
    go_wp2_with fail
    refine (iPartIn_is true _ _ _ HV.out HP).mono ?_
    rintro e w' ⟨rfl, rfl⟩
    go_wp2_with fail
    refine HA.out.mono ?_
    rintro e w1 ⟨u, rfl, ho, hb1⟩
    have HO := Lib.hid (ownA_rd ho)
    clear ho
    go_wp2_with fail
    refine (HQ.out _ _ HO.out).mono ?_
    rintro e w2 ⟨rfl, hb2⟩
    go_wp2
    go_ret2
    exact ⟨rfl, below_step hb1 hb2⟩
  · have hp : partIn xs = false := by simpa using hp
    have hr : arcCross xs = (0, false) := by simp [arcCross, hp]
    rw [hr]
    have HP := Lib.hid hp
    clear hp hr
    go_enter Tryd.func26, Tryd.ntmps26
    go_wp2_with fail
    refine (iPartIn_is false _ _ _ HV.out HP).mono ?_
    rintro e w' ⟨rfl, rfl⟩
    go_wp2
    go_ret2
    exact ⟨rfl, Below.refl _ _⟩

theorem draw_any (a : Option Addr) (len cap : Nat) (w : World) (hby : Bytes w a len) (hlen : len ≤ 1048576) (hc : len ≤ cap) (hcm : cap ≤ maxLen) :
    Calls Tryd.prog 20 #[.slice a len cap] w fun e w' => ∃ v xs, e = .returned v ∧ Own w' w.heap.size v xs ∧ xs.length ≤ 9 ∧ (∀ x ∈ xs, 0 ≤ x ∧ x ≤ 9) ∧ Below w.heap.size w w' := by
  go_enter Tryd.func20, Tryd.ntmps20
  go_wp2_with fail
  refine (l91Some_any a len cap w hby hlen hc hcm).mono ?_
  rintro e w1 ⟨v, xs, rfl, h⟩
  go_wp2
  go_ret
  exact ⟨v, xs, rfl, h⟩

set_option maxRecDepth 100000 in
set_option maxHeartbeats 4000000 in
theorem small (a0 : Option Addr) (len0 cap0 : Nat) (w : World) (hB : Bytes w a0 len0) (hc : len0 ≤ cap0) (hcm : cap0 ≤ maxLen) (hs0 : len0 ≤ 1048576)
    (hT : Tab w ∧ ErrAt w) : Calls Tryd.prog 6 #[.slice a0 len0 cap0] w fun e w' => e = .returned (.bool true) ∧ Below w.heap.size w w' := by
  have bel : Below w.heap.size w w := Below.refl _ _
  go_enter Tryd.func6, Tryd.ntmps6
  go_wp2_with fail
  refine (draw_any a0 len0 cap0 _ hB hs0 hc hcm).mono ?_
  rintro e W1 ⟨v_a, xs, rfl, o, hl9, _, hb⟩
  have bel := below_step bel hb
  clear hb
  have o_a := o
  clear o
  by_cases hp : partIn xs = true
  · obtain ⟨hb1, hg1, hc1, hpl⟩ := plain_rings hp
    have h1 := (of_rings hp).1
    have hl := partIn_len hp
    have hol := ofTo_length xs (pSize xs).toNat
    have e1 : ringOf xs = (ofTo xs (pSize xs).toNat, true) := by simp [ringOf, hp]
    have e2 : ringBack (ofTo xs (pSize xs).toNat) = (backTo (ofTo xs (pSize xs).toNat) xs.length, true) := by simp [ringBack, h1, hol]
    have hbl : (backTo (ofTo xs (pSize xs).toNat) xs.length).length = xs.length := by rw [backTo_length, hol]
    have e3 : ringTimes (backTo (ofTo xs (pSize xs).toNat) xs.length) (greatL xs.length) = (prodL (backTo (ofTo xs (pSize xs).toNat) xs.length) (greatL xs.length), true) := by simp [ringTimes, hb1, hbl, hg1]
    have e4 : ringPart (prodL (backTo (ofTo xs (pSize xs).toNat) xs.length) (greatL xs.length)) = (ringsOf (prodL (backTo (ofTo xs (pSize xs).toNat) xs.length) (greatL xs.length)), true) := by simp [ringPart, hc1]
    have hpd := rings_part hc1
    have e5 : partSize (ringsOf (prodL (backTo (ofTo xs (pSize xs).toNat) xs.length) (greatL xs.length))) = (pSize (ringsOf (prodL (backTo (ofTo xs (pSize xs).toNat) xs.length) (greatL xs.length))), true) := by simp [partSize, hpd]
    have hbd := pSize_bd (partIn_small hpd)
    have hbx := pSize_bd (partIn_small hp)
    have e6 : finerRank xs = ((xs.length : Int) - pSize xs, true) := by simp [finerRank, hp]
    have e7 : arcCross xs = (((crossings xs : Nat) : Int), true) := by simp [arcCross, hp]
    generalize ringsOf (prodL (backTo (ofTo xs (pSize xs).toNat) xs.length) (greatL xs.length)) = ds at *
    generalize prodL (backTo (ofTo xs (pSize xs).toNat) xs.length) (greatL xs.length) = cs at *
    generalize backTo (ofTo xs (pSize xs).toNat) xs.length = bs at *
    generalize ofTo xs (pSize xs).toNat = os at *
    obtain ⟨r, hr⟩ : ∃ r : Int, r = (xs.length : Int) - pSize xs := ⟨_, rfl⟩
    rw [← hr] at e6 hpl
    have hr9 : -9 ≤ r ∧ r ≤ 9 := by omega
    generalize pSize ds = k at *
    generalize crossings xs = x at *
    have HI := Lib.hid (fun (wx : World) (v0 : Value) (kE : Tab wx) (k0 : RdV wx v0 xs) => e1 ▸ iRingOf_v v0 xs wx kE k0)
    have HS := Lib.hid (fun (wx : World) (v0 : Value) (k0 : RdV wx v0 xs) => e1 ▸ sRingOf_v v0 xs wx k0)
    have HB := Lib.hid (fun (wx : World) (v0 : Value) (kE : ErrAt wx) (k0 : RdV wx v0 os) => e2 ▸ iRingBack_v v0 os wx kE k0)
    have HT := Lib.hid (fun (wx : World) (v0 : Value) (v1 : Value) (kE : ErrAt wx) (k0 : RdV wx v0 bs) (k1 : RdV wx v1 (greatL xs.length)) => e3 ▸ iRingTimes_v v0 v1 bs (greatL xs.length) wx kE k0 k1)
    have HP := Lib.hid (fun (wx : World) (v0 : Value) (kE : ErrAt wx) (k0 : RdV wx v0 cs) => e4 ▸ iRingPart_v v0 cs wx kE k0)
    have HK := Lib.hid (fun (wx : World) (v0 : Value) (k0 : RdV wx v0 ds) => e5 ▸ iPartSize_v v0 ds wx k0)
    have HR := Lib.hid (fun (wx : World) (v0 : Value) (k0 : RdV wx v0 xs) => e6 ▸ iFinerRank_v v0 xs wx k0)
    have HC := Lib.hid (fun (wx : World) (v0 : Value) (k0 : RdV wx v0 xs) => e7 ▸ iArcCross_v v0 xs wx k0)
    obtain ⟨ao, ca, rfl⟩ := own_slice' o_a
    obtain ⟨n, hn⟩ : ∃ n, n = xs.length := ⟨_, rfl⟩
    rw [← hn] at hl HT o_a ⊢
    have HL := Lib.hid hl
    have HPL := Lib.hid hpl
    have HBD := Lib.hid hbd
    have HR9 := Lib.hid hr9
    clear hp e1 e2 e3 e4 e5 e6 e7 hb1 hg1 hc1 hpl h1 hl hol hbl hpd hbd hbx hr hr9 hn
    go_wp2_with fail
    refine (HI.out _ _ (tab_below hT.1 bel) (own_rdv o_a)).mono ?_
    rintro e W2 ⟨v_o, rfl, o, hb⟩
    have bel := below_step bel hb
    have o_a := own_below o_a hb
    clear hb
    have o_o := o
    clear o
    go_wp2_with fail
    refine (HS.out _ _ (own_rdv o_a)).mono ?_
    rintro e W3 ⟨v_w, rfl, o, hb⟩
    have bel := below_step bel hb
    have o_a := own_below o_a hb
    have o_o := own_below o_o hb
    clear hb
    have o_w := o
    clear o
    go_wp2_with fail
    refine (sameInts_t _ _ os _ (own_rdv o_o) (own_rdv o_w)).mono ?_
    rintro e W4 ⟨rfl, hq⟩
    have hb := hq W3.heap.size
    clear hq
    have bel := below_step bel hb
    have o_a := own_below o_a hb
    have o_o := own_below o_o hb
    have o_w := own_below o_w hb
    clear hb
    clear o_w
    obtain ⟨hl1, hl8⟩ := HL.out
    have HOO := Lib.hid o_o
    have HAA := Lib.hid o_a
    obtain ⟨w0, hw0⟩ : ∃ w0 : World, w0 = W4 := ⟨_, rfl⟩
    rw [← hw0] at HOO HAA bel ⊢
    clear o_o o_a HI HS hw0
    go_wp2
    go_loopw [9, 10] (fun u i wr => ∃ j g cap : Nat, j ≤ n ∧ i = .int .i64 j ∧ u = .slice (some ⟨g, 0, none⟩) j cap ∧ Own wr w0.heap.size (.slice (some ⟨g, 0, none⟩) j cap) ((greatL n).take j) ∧ Below w0.heap.size w0 wr) (fun _ i _ => n - (intOf i).toNat)
    case atStart => exact ⟨0, w0.heap.size, 0, Nat.zero_le _, rfl, rfl, own_empty w0 _ (Nat.le_refl _), (Below.refl _ _).alloc (Nat.le_refl _) _⟩
    case round =>
      obtain ⟨j, g, cap, hj, rfl, rfl, hown, hbr⟩ := hrel
      by_cases hlt : j < n
      · have hts := take_snoc (greatL n) j (by rw [greatL_length]; omega)
        rw [greatL_getD _ _ hlt] at hts
        obtain ⟨y, hy⟩ : ∃ y, y = (j + 1) % n := ⟨_, rfl⟩
        rw [← hy] at hts
        have hmod : ((j : Int) + 1).tmod (n : Int) = (y : Int) := by rw [hy, Int.tmod_eq_emod_of_nonneg (by omega)]; simp
        have hyn : y < n := by rw [hy]; exact Nat.mod_lt _ (by omega)
        have hn0 : ¬ (n : Int) = 0 := by omega
        have hnb : ((n : Int) == 0) = false := by simp; omega
        have HTS := Lib.hid hts
        have HO := Lib.hid hown
        have hB := hbr.size
        have hjl : j = ((greatL n).take j).length := by rw [List.length_take, greatL_length]; omega
        have HJL := Lib.hid hjl
        clear hts hown hy hjl
        go_wp2_with (at_builtin; refine wpList_push rfl _ _ rfl w0.heap.size g j cap ((greatL n).take j) rfl (own_alloc HO.out _) HJL.out ⟨wr.heap.size, 0, none⟩ rfl (y : Int) (cell_new1 _ _ _) (by omega) (by simp; omega) ?_)
        intro g' cap' w2 hown2 hgr2 hg2
        have hbel2 : Below w0.heap.size w0 w2 := (hbr.alloc hB _).grown hgr2 (by simp; omega) (fun q hq => by cases hq; exact (own_lt HO.out g rfl).1)
        have HO2 := Lib.hid hown2
        clear hown2 hgr2 hg2
        go_wp2
        go_roundw
        case rel => exact ⟨j + 1, g', cap', by omega, by go_num, rfl, by rw [HTS.out]; exact HO2.out, hbel2⟩
        case measure => simp [intOf]; omega
      · have hjn : j = n := by omega
        subst hjn
        have htk : (greatL j).take j = greatL j := List.take_of_length_le (by rw [greatL_length]; exact Nat.le_refl _)
        rw [htk] at hown
        have bel := below_step bel hbr
        have o_o := own_below HOO.out hbr
        have o_a := own_below HAA.out hbr
        have o_g := hown
        clear hown hbr htk HOO HAA
        go_wp2_with fail
        refine (HB.out _ _ (errAt_below hT.2 bel) (own_rdv o_o)).mono ?_
        rintro e W5 ⟨v_b, rfl, o, hb⟩
        have bel := below_step bel hb
        have o_o := own_below o_o hb
        have o_a := own_below o_a hb
        have o_g := own_below o_g hb
        clear hb
        have o_b := o
        clear o
        go_wp2_with fail
        refine (HT.out _ _ _ (errAt_below hT.2 bel) (own_rdv o_b) (own_rdv o_g)).mono ?_
        rintro e W6 ⟨v_c, rfl, o, hb⟩
        have bel := below_step bel hb
        have o_o := own_below o_o hb
        have o_a := own_below o_a hb
        have o_g := own_below o_g hb
        have o_b := own_below o_b hb
        clear hb
        have o_c := o
        clear o
        go_wp2_with fail
        refine (HP.out _ _ (errAt_below hT.2 bel) (own_rdv o_c)).mono ?_
        rintro e W7 ⟨v_d, rfl, o, hb⟩
        have bel := below_step bel hb
        have o_o := own_below o_o hb
        have o_a := own_below o_a hb
        have o_g := own_below o_g hb
        have o_b := own_below o_b hb
        have o_c := own_below o_c hb
        clear hb
        have o_d := o
        clear o
        go_wp2_with fail
        refine (HK.out _ _ (own_rdv o_d)).mono ?_
        rintro e W8 ⟨rfl, hb⟩
        have bel := below_step bel hb
        have o_o := own_below o_o hb
        have o_a := own_below o_a hb
        have o_g := own_below o_g hb
        have o_b := own_below o_b hb
        have o_c := own_below o_c hb
        have o_d := own_below o_d hb
        clear hb
        go_wp2_with fail
        refine (HR.out _ _ (own_rdv o_a)).mono ?_
        rintro e W9 ⟨rfl, hb⟩
        have bel := below_step bel hb
        have o_o := own_below o_o hb
        have o_a := own_below o_a hb
        have o_g := own_below o_g hb
        have o_b := own_below o_b hb
        have o_c := own_below o_c hb
        have o_d := own_below o_d hb
        clear hb
        go_wp2_with fail
        refine (HC.out _ _ (own_rdv o_a)).mono ?_
        rintro e W10 ⟨rfl, hb⟩
        have bel := below_step bel hb
        have o_o := own_below o_o hb
        have o_a := own_below o_a hb
        have o_g := own_below o_g hb
        have o_b := own_below o_b hb
        have o_c := own_below o_c hb
        have o_d := own_below o_d hb
        clear hb
        have hbd := HBD.out
        have hr9 := HR9.out
        by_cases hx0 : x = 0
        · have hk : k = r + 1 := HPL.out.2 hx0
          have c1 : (k == r + 1) = true := by simp; omega
          subst hx0
          clear HPL HB HT HP HK HR HC
          go_wp2
          go_ret
          exact ⟨by first | rfl | exact ret_bool (by simp <;> omega), bel⟩
        · have hk : ¬ k = r + 1 := fun e => hx0 (HPL.out.1 e)
          have c1 : (k == r + 1) = false := by simp; omega
          have c2 : ((x : Int) == 0) = false := by simp; omega
          clear HPL HB HT HP HK HR HC
          go_wp2
          go_ret
          exact ⟨by first | rfl | exact ret_bool (by simp <;> omega), bel⟩
  · have e1 : ringOf xs = ([], false) := by simp [ringOf, hp]
    have HI := Lib.hid (fun (wx : World) (v0 : Value) (kE : Tab wx) (k0 : RdV wx v0 xs) => e1 ▸ iRingOf_v v0 xs wx kE k0)
    have HS := Lib.hid (fun (wx : World) (v0 : Value) (k0 : RdV wx v0 xs) => e1 ▸ sRingOf_v v0 xs wx k0)
    clear hp e1
    go_wp2_with fail
    refine (HI.out _ _ (tab_below hT.1 bel) (own_rdv o_a)).mono ?_
    rintro e W2 ⟨v_o, rfl, o, hb⟩
    have bel := below_step bel hb
    have o_a := own_below o_a hb
    clear hb
    have o_o := o
    clear o
    go_wp2_with fail
    refine (HS.out _ _ (own_rdv o_a)).mono ?_
    rintro e W3 ⟨v_w, rfl, o, hb⟩
    have bel := below_step bel hb
    have o_a := own_below o_a hb
    have o_o := own_below o_o hb
    clear hb
    have o_w := o
    clear o
    go_wp2_with fail
    refine (sameInts_t _ _ [] _ (own_rdv o_o) (own_rdv o_w)).mono ?_
    rintro e W4 ⟨rfl, hq⟩
    have hb := hq W3.heap.size
    clear hq
    have bel := below_step bel hb
    have o_a := own_below o_a hb
    have o_o := own_below o_o hb
    have o_w := own_below o_w hb
    clear hb
    go_wp2_with fail
    refine (sameInts_t _ _ [] _ (own_rdv o_o) (own_rdv o_w)).mono ?_
    rintro e W5 ⟨rfl, hq⟩
    have hb := hq W4.heap.size
    clear hq
    have bel := below_step bel hb
    have o_a := own_below o_a hb
    have o_o := own_below o_o hb
    have o_w := own_below o_w hb
    clear hb
    go_wp2
    go_ret
    exact ⟨rfl, bel⟩

theorem walk (a0 : Option Addr) (len0 cap0 : Nat) (z0 : List Int) (w : World) (w0 : IsRow .u8 w a0 len0 cap0 z0)
    (hT : Tab w ∧ ErrAt w) : Calls Tryd.prog 6 #[.slice a0 len0 cap0] w fun e w' => e = .returned (.bool true) ∧ Below w.heap.size w w' := by
  obtain ⟨hB, hc, hcm⟩ := bytes_of_row w0
  refine (Nat.lt_or_ge 1048576 len0).elim (fun hs0 => ?_) (fun hs0 => ?_)
  · go_enter Tryd.func6, Tryd.ntmps6
    go_wp2
    go_ret
    exact ⟨rfl, Below.refl _ _⟩
  exact small a0 len0 cap0 w hB hc hcm hs0 hT

theorem door_met (os : Os) (args : Array Value) : laidMetH Tryd.prog [("math/bits.deBruijn32tab", Rows.laid_math_bits_deBruijn32tab), ("math/bits.deBruijn64tab", Rows.laid_math_bits_deBruijn64tab), ("errors.errorType", Rows.laid_errors_errorType)] ((World.doorLaid Tryd.prog 400 os).forCall (fun _ _ => 0) ⟨#[], args, []⟩).memory :=
  laidMetH_of_parts3 (fuel := 8) (laidMet_of_run' 8 (by kernel_rfl) (by kernel_rfl)) (by kernel_rfl) (by kernel_rfl)

set_option maxRecDepth 100000 in
theorem lifted (os : Os) (started : os.Started) (H : Type) (enc : TypeId × Value → H) :
    ReturnsInHanded {} Tryd.checked os 6 .any (fun w args => (Rows.fnRingPlainSpec.pre enc Tryd.prog Tryd.f6 [] false w args ∧ laidMetH Tryd.prog [("math/bits.deBruijn32tab", Rows.laid_math_bits_deBruijn32tab), ("math/bits.deBruijn64tab", Rows.laid_math_bits_deBruijn64tab), ("errors.errorType", Rows.laid_errors_errorType)] w) ∧ sizedMet enc Tryd.prog Tryd.f6 (OpenSpec.ofChange Rows.fnRingPlainSpec) false w args)
      (Rows.fnRingPlainSpec.post enc Tryd.prog Tryd.f6 false true false false) := by
  refine returnsInHanded_of_change_and (C := Tryd.checked) (X := fun w _ => laidMetH Tryd.prog [("math/bits.deBruijn32tab", Rows.laid_math_bits_deBruijn32tab), ("math/bits.deBruijn64tab", Rows.laid_math_bits_deBruijn64tab), ("errors.errorType", Rows.laid_errors_errorType)] w) (fun _ _ _ hh h => h.of_heap hh) own started (by kernel_rfl) Tryd.func6
    (ChangeSpec.witness_shaped (enc := enc) (C := Tryd.checked) (os := os) (X := fun w _ => laidMetH Tryd.prog [("math/bits.deBruijn32tab", Rows.laid_math_bits_deBruijn32tab), ("math/bits.deBruijn64tab", Rows.laid_math_bits_deBruijn64tab), ("errors.errorType", Rows.laid_errors_errorType)] w) false (World.doorLaid Tryd.prog 400 os) #[.slice none 0 0] 8 rfl (World.shaped_of_RefB (by kernel_rfl) (by kernel_rfl)) (by kernel_rfl) (by kernel_rfl) (by kernel_rfl) (door_met os _)) ?_
  intro W base args ds gs before hval0 hW _ _ hL _
  have hT : Tab W ∧ ErrAt W := both_of_laid hL
  have hval : ∀ (j : Nat) t v, Tryd.f6.params[j]? = some t → args[j]? = some v → Value.okWide Tryd.prog W .any base t v := hval0
  have hW' := hW
  obtain ⟨p, q, hA0, hV, rfl, hfz, hnd⟩ := hW
  have hA : DataW.TrodAll enc Tryd.prog W 0 (fun _ => true) true Tryd.f6.params.toList args.toList ds p := hA0
  rw [Tryd.params6] at hA hval
  obtain ⟨v0, vs0, d0, ds0, p0, q0, hargs, rfl, rfl, h0, r0⟩ := trodAll_cons hA
  obtain ⟨rfl, rfl, rfl⟩ := trodAll_nil r0
  obtain rfl : args = #[v0] := by cases args; simp_all
  obtain ⟨rfl, rfl⟩ := trodVars_none hV
  obtain ⟨a0, len0, cap0, rfl⟩ := okWide_slice Tryd.underlying22 (hval 0 22 v0 rfl rfl)
  have k0 := h0
  have lt0 : ∀ x ∈ p0, x.block < W.heap.size := by obtain ⟨m, hm⟩ := k0; exact DataW.trod_lt m _ _ _ hm
  obtain ⟨z0, w0⟩ : ∃ zs, IsRow .u8 W a0 len0 cap0 zs := by
    obtain ⟨fuel, hf⟩ := h0
    rcases open_ints Tryd.underlying22 Tryd.underlying5 (by kernel_rfl) hf with ⟨hcs, _⟩ | ⟨x, l, c, zs, hcs, _, hl, hm, hz, _, hcell, hwz⟩
    · simp [Value.cells] at hcs
      obtain ⟨rfl, rfl, rfl⟩ := hcs
      exact ⟨[], .inl ⟨rfl, rfl, rfl, rfl⟩⟩
    · simp [Value.cells] at hcs
      obtain ⟨rfl, rfl, rfl⟩ := hcs
      exact ⟨zs, .inr ⟨_, rfl, hl, hm, by simpa using hz, hcell, hwz⟩⟩
  clear hA0 hval0
  refine (walk a0 len0 cap0 z0 W w0 hT).mono fun e W' ⟨he, bel⟩ => ?_
  subst he
  exact ⟨_, rfl, _, _, _, [], _, [], hW', trodAll_mk1 (shut_bool Tryd.underlying4 _), (trodAll_cons_mk (Below.trod laidOut (by kernel_rfl) (of_decide_eq_true (by kernel_rfl)) k0 bel lt0) trodAll_mk0), rfl, bel.frame _, fun h => by cases h⟩

theorem over : Rows.fnRingPlainRow.holds Tryd.pinned (OpenSpec.ofChange Rows.fnRingPlainSpec) :=
  OpenClaim.holds_of_wide 6 Tryd.f6 rfl rfl rfl rfl rfl rfl rfl ⟨rfl, rfl, rfl, rfl, rfl⟩ rfl rfl rfl rfl rfl (by kernel_rfl) Tryd.func6 (by kernel_rfl)
    (of_decide_eq_true (by kernel_rfl)) (by unfold Func.isWrapper; first | (rw [if_pos (by decide +kernel)]; kernel_rfl) | (rw [if_neg (by decide +kernel)]; exact ⟨rfl, rfl⟩))
    (fun os started H enc _ => lifted os started H enc)

/-- The statement. -/
theorem proved : Rows.FnRingPlainCardSaid :=
  Claim7.holds_tied_plain_at .later [] [.data, .data, .handle] true Rows.fnRingPlainCard.stood.harness Rows.fnRingPlainCard.stood.looks
    over (fun _ h => by cases h) (by kernel_rfl) (fun _ h => by cases h) fnRingPlain_row_tie rfl ⟨rfl, rfl⟩ (by kernel_rfl) rfl
    (fun f fn hf hfn => by
      obtain rfl : f = 6 := Option.some.inj ((show Tryd.prog.funcNamed "loop.example/setparts/laws.FnRingPlain" = some 6 by kernel_rfl).symm.trans hf) |>.symm
      obtain rfl : fn = Tryd.f6 := (Option.some.inj (Tryd.func6.symm.trans hfn)).symm
      exact ⟨by kernel_rfl, fun j t ht => by
        rw [Tryd.params6] at ht
        have hm : t ∈ [22] := by simpa using Array.mem_of_getElem? ht
        have hall : ([22].all fun u => !Tryd.prog.wantsStandIn u) = true := by kernel_rfl
        exact (show Tryd.prog.wantsStandIn t = false by simpa using List.all_eq_true.1 hall t hm)⟩)
    (by kernel_rfl)
end Go.Proofs.YtdeeeiimlcggpaaDoor.fnRingPlain
