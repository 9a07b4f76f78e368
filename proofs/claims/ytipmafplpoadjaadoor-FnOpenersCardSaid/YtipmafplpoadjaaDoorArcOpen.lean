/-
  ArcOpeners: what it answers; the contracts of both sides.
-/
import Derived.Test.YtipmafplpoadjaaDoorIter
import Derived.Test.YtipmafplpoadjaaDoorArcs
import Derived.Test.YtipmafplpoadjaaDoorArcIff
import Derived.Test.YtipmafplpoadjaaDoorPairs
import Derived.Test.YtipmafplpoadjaaDoorTogether
import Derived.Test.YtipmafplpoadjaaDoorMatHelp
import Derived.Laws.BitsAllLaws
namespace Go.Proofs.YtipmafplpoadjaaDoor
set_option linter.unusedSimpArgs false
set_option linter.unusedVariables false
set_option linter.unnecessarySimpa false
open Go.RowKit
set_option maxRecDepth 100000

/-- The bits of a that b has not. -/
def lessN (a b : Nat) : Nat := a &&& (18446744073709551615 - b)

theorem lessN_bits (a b : Nat) (ha : a < 256) (hb : b < 256) : bits BinOp.andNot IntKind.u64 (a : Int) (b : Int) = ((lessN a b : Nat) : Int) := u64_andNot_nat a b (by omega) (by omega)
theorem lessN_lt (a b : Nat) (ha : a < 256) : lessN a b < 256 := Nat.lt_of_le_of_lt Nat.and_le_left ha
theorem lessN_bit (a b t : Nat) (ha : a < 256) (hb : b < 256) : (lessN a b).testBit t = (a.testBit t && !b.testBit t) := by
  unfold lessN
  rw [Nat.testBit_and]
  have h := Nat.testBit_two_pow_sub_succ (x := b) (n := 64) (by omega) t
  rw [show (2 : Nat) ^ 64 - (b + 1) = 18446744073709551615 - b by omega] at h
  rw [h]
  by_cases ht : t < 64
  · simp [ht]
  · have : a.testBit t = false := Nat.testBit_lt_two_pow (Nat.lt_of_lt_of_le ha (by
      have : 2 ^ 8 ≤ 2 ^ t := Nat.pow_le_pow_right (by omega) (by omega)
      omega))
    simp [this]

def openL (xs : List Int) : List Int := openTo xs xs.length
def closeL (xs : List Int) : List Int := closeTo xs xs.length

def arcOpeners (xs : List Int) : List Int × List Int × Bool := if partIn xs then (openL xs, closeL xs, true) else ([], [], false)

theorem arcOpeners_len (xs : List Int) (h : xs.length ≤ 1048576) : (arcOpeners xs).1.length ≤ 2305843009213693952 ∧ (arcOpeners xs).2.1.length ≤ 2305843009213693952 := by
  unfold arcOpeners
  have h1 := openTo_len xs xs.length
  have h2 := closeTo_len xs xs.length
  split
  · exact ⟨by show (openTo xs xs.length).length ≤ _; omega, by show (closeTo xs xs.length).length ≤ _; omega⟩
  · simp

theorem arcs_lt (xs : List Int) (p : Nat × Nat) (h : p ∈ arcsOf xs) : p.1 < xs.length ∧ p.2 < xs.length := by
  obtain ⟨_, h2, h3, _⟩ := arcsFrom_mem xs 0 p h
  omega

theorem bits_of (b n : Nat) (f : Nat → Bool) (hn : n ≤ 8) (hb : ∀ t, b.testBit t = f t) (hf : ∀ t, n ≤ t → f t = false) : bitsL b = ((List.range n).filter f).map fun (t : Nat) => (t : Int) := by
  unfold bitsL
  congr 1
  obtain ⟨m, hm⟩ : ∃ m, 8 = n + m := ⟨8 - n, by omega⟩
  rw [hm, List.range_add, List.filter_append]
  have h1 : (List.range n).filter (fun t => b.testBit t) = (List.range n).filter f := List.filter_congr fun t _ => hb t
  have h2 : ((List.range m).map fun x => n + x).filter (fun t => b.testBit t) = [] := by
    rw [List.filter_eq_nil_iff]
    intro t ht
    rw [List.mem_map] at ht
    obtain ⟨x, _, rfl⟩ := ht
    rw [hb, hf _ (by omega)]
    simp
  rw [h1, h2, List.append_nil]

/-- Two lists and a bool, in new memory, the second one made behind the first one. -/
def FreshLLB (w : World) (r : List Int × List Int × Bool) (e : Ending) (w' : World) : Prop :=
  ∃ v u, e = .returned (.tuple #[v, u, .bool r.2.2]) ∧ Own w' w.heap.size v r.1 ∧ Own w' w.heap.size u r.2.1 ∧ Below w.heap.size w w' ∧ ∃ d, w.heap.size ≤ d ∧ d ≤ w'.heap.size ∧ InB v w.heap.size d ∧ InB u d w'.heap.size

/-- Two lists and a bool, in new memory. -/
def FreshLLW (w : World) (r : List Int × List Int × Bool) (e : Ending) (w' : World) : Prop :=
  ∃ v u, e = .returned (.tuple #[v, u, .bool r.2.2]) ∧ Own w' w.heap.size v r.1 ∧ Own w' w.heap.size u r.2.1 ∧ Below w.heap.size w w'

theorem bit_orO (F a b : Nat) : (F ||| 2 ^ a).testBit b = (F.testBit b || decide (a = b)) := by rw [Nat.testBit_or, Nat.testBit_two_pow]

theorem fromB_snoc (L : List (Nat × Nat)) (p : Nat × Nat) (t : Nat) : fromB (L ++ [p]) t = (fromB L t || decide (p.1 = t)) := by
  rw [fromB, List.any_append]; simp [fromB, Bool.beq_eq_decide_eq]
theorem toB_snoc (L : List (Nat × Nat)) (p : Nat × Nat) (t : Nat) : toB (L ++ [p]) t = (toB L t || decide (p.2 = t)) := by
  rw [toB, List.any_append]; simp [toB, Bool.beq_eq_decide_eq]

set_option maxHeartbeats 1600000 in
theorem iArcOpeners_v (v : Value) (xs : List Int) (w : World) (hT : Tab w) (hv : RdV w v xs) : Calls Tryd.prog 12 #[v] w (FreshLLB w (arcOpeners xs)) := by
  have HV := Lib.hid hv
  clear hv
  by_cases hp : partIn xs = true
  · have hr : arcOpeners xs = (openL xs, closeL xs, true) := by simp [arcOpeners, hp]
    rw [hr]
    have hl := partIn_len hp
    have HP := Lib.hid hp
    have HA := Lib.hid (arcsOf_any v xs w HV.out (by omega))
    have hal := arcsOf_len xs
    have hlt := arcs_lt xs
    have hOP : ∀ b, (∀ t, b.testBit t = (fromB (arcsOf xs) t && !toB (arcsOf xs) t)) → bitsL b = openL xs := fun b hb => bits_of b xs.length _ hl.2 hb fun t ht => by
      have : fromB (arcsOf xs) t = false := by
        rw [fromB, List.any_eq_false]
        intro p hpm e
        simp at e
        have := (hlt p hpm).1
        omega
      simp [this]
    have hCL : ∀ b, (∀ t, b.testBit t = (toB (arcsOf xs) t && !fromB (arcsOf xs) t)) → bitsL b = closeL xs := fun b hb => bits_of b xs.length _ hl.2 hb fun t ht => by
      have : toB (arcsOf xs) t = false := by
        rw [toB, List.any_eq_false]
        intro p hpm e
        simp at e
        have := (hlt p hpm).2
        omega
      simp [this]
    have hlt8 : ∀ p ∈ arcsOf xs, p.1 < 8 ∧ p.2 < 8 := fun p h => by have := hlt p h; omega
    generalize openL xs = OX at *
    generalize closeL xs = CX at *
    obtain ⟨L, hL⟩ : ∃ L, L = arcsOf xs := ⟨_, rfl⟩
    rw [← hL] at HA hal hOP hCL hlt8
    have hL8 : L.length ≤ 8 := by omega
    have HOP := Lib.hid hOP
    have HCL := Lib.hid hCL
    have H8 := Lib.hid hlt8
    clear hp hr hL hal hl hlt hOP hCL hlt8
    go_enter Tryd.func12, Tryd.ntmps12
    go_wp2_with fail
    refine (iPartIn_is true _ _ _ HV.out HP).mono ?_
    rintro e w' ⟨rfl, rfl⟩
    go_wp2_with fail
    refine HA.out.mono ?_
    rintro e w1 ⟨va, rfl, ho, hb1⟩
    obtain ⟨ao, ca, rfl, hlc, hcm, hx⟩ := ownA_rd ho
    obtain ⟨n, hn⟩ : ∃ n, n = L.length := ⟨_, rfl⟩
    rw [← hn] at hlc hL8
    have HN := Lib.hid hn
    have HX := Lib.hid hx
    have hs1 := hb1.size
    rw [← hn]
    clear ho hn hx
    go_wp2
    go_loopw [5, 6, 15] (fun u t i wr => ∃ k S E : Nat, k ≤ n ∧ i = .int .i64 k ∧ u = .int .u64 S ∧ t = .int .u64 E ∧ S < 256 ∧ E < 256 ∧ Hid (∀ t, S.testBit t = fromB (L.take k) t) ∧ Hid (∀ t, E.testBit t = toB (L.take k) t) ∧ Below w1.heap.size w1 wr)
      (fun _ _ i _ => n - (intOf i).toNat)
    case atStart => exact ⟨0, 0, 0, Nat.zero_le _, rfl, rfl, rfl, by omega, by omega, Lib.hid (fun t => by simp [fromB]), Lib.hid (fun t => by simp [toB]), Below.refl _ _⟩
    case round =>
      obtain ⟨k, S, E, hk, rfl, rfl, rfl, hS, hE, HS, HE, hbel⟩ := hrel
      have hbs := hbel.size
      by_cases hlt : k < n
      · rcases HX.out with hx | ⟨bb, rfl, hcx⟩
        · have := HN.out
          rw [hx] at this
          simp at this
          omega
        obtain ⟨hc1, hc2⟩ := hcx k (by have := HN.out; omega)
        rw [← hbel.cell (World.block_lt_of_cell? w1 _ hc1)] at hc1
        rw [← hbel.cell (World.block_lt_of_cell? w1 _ hc2)] at hc2
        have HT := Lib.hid (take_snocA L k (by have := HN.out; omega))
        have hp8 := H8.out (L.getD k (0, 0)) (by have := HN.out; simp [List.getD, show k < L.length by omega])
        obtain ⟨⟨a, b⟩, hy⟩ : ∃ y, y = L.getD k (0, 0) := ⟨_, rfl⟩
        rw [← hy] at hc1 hc2 HT hp8
        dsimp only at hc1 hc2 hp8
        have HWS := Lib.hid fun (w5 : World) => with_any S a w5 hS hp8.1
        have HWE := Lib.hid fun (w5 : World) => with_any E b w5 hE hp8.2
        have HLS := Lib.hid (or_lt S hS a hp8.1)
        have HLE := Lib.hid (or_lt E hE b hp8.2)
        clear hy hcx hp8
        go_wp2_with fail
        refine (HWS.out _).mono ?_
        rintro e w5 ⟨rfl, rfl⟩
        go_wp2_with fail
        refine (HWE.out _).mono ?_
        rintro e w5 ⟨rfl, rfl⟩
        go_wp2
        go_roundw
        case rel =>
          refine ⟨k + 1, S ||| 2 ^ a, E ||| 2 ^ b, by omega, by go_num, rfl, rfl, HLS.out, HLE.out, Lib.hid (fun t => ?_), Lib.hid (fun t => ?_), hbel.alloc hbs _⟩
          · rw [bit_orO, HS.out t, HT.out, fromB_snoc]
          · rw [bit_orO, HE.out t, HT.out, toB_snoc]
        case measure => simp [intOf]; omega
      · have hkn : k = n := by omega
        subst hkn
        have htk : L.take k = L := by rw [HN.out, List.take_length]
        rw [htk] at HS HE
        have hsE := lessN_bits S E hS hE
        have heS := lessN_bits E S hE hS
        have hlS := lessN_lt S E hS
        have hlE := lessN_lt E S hE
        have ho := HOP.out (lessN S E) (fun t => by rw [lessN_bit S E t hS hE, HS.out, HE.out])
        have hc := HCL.out (lessN E S) (fun t => by rw [lessN_bit E S t hE hS, HS.out, HE.out])
        have hTr : Tab wr := tab_below (tab_below hT hb1) hbel
        have hL1 := list_any (lessN S E) wr hTr hlS
        rw [ho] at hL1
        have hL2 := fun (w5 : World) (h : Tab w5) => list_any (lessN E S) w5 h hlE
        rw [hc] at hL2
        have HL1 := Lib.hid hL1
        have HL2 := Lib.hid hL2
        have HTr := Lib.hid hTr
        have HBW := Lib.hid (below_step hb1 hbel)
        generalize lessN S E = A at *
        generalize lessN E S = C at *
        clear ho hc hTr hL1 hL2 htk hlS hlE
        go_wp2_with fail
        refine HL1.out.mono ?_
        rintro e w5 ⟨u5, rfl, ho5, hb5⟩
        have HO5 := Lib.hid ho5
        have HB5 := Lib.hid hb5
        have HT5 := Lib.hid (tab_below HTr.out hb5)
        clear ho5 hb5
        go_wp2_with fail
        refine (HL2.out _ HT5.out).mono ?_
        rintro e w6 ⟨u6, rfl, ho6, hb6⟩
        have HO6 := Lib.hid ho6
        have HB6 := Lib.hid hb6
        clear ho6 hb6
        go_wp2
        have z1 := HBW.out.size
        have z5 := HB5.out.size
        have z6 := HB6.out.size
        exact bodyPost_ret (results_tmp3 rfl _ _ _) rfl ⟨_, _, rfl, own_mono (own_below HO5.out HB6.out) z1, own_mono HO6.out (by omega), below_step (below_step HBW.out HB5.out) HB6.out, w5.heap.size, by omega, z6, inB_mono (inB_of_own HO5.out) z1 (Nat.le_refl _), inB_of_own HO6.out⟩
  · have hp : partIn xs = false := by simpa using hp
    have hr : arcOpeners xs = ([], [], false) := by simp [arcOpeners, hp]
    rw [hr]
    have HP := Lib.hid hp
    clear hp hr
    go_enter Tryd.func12, Tryd.ntmps12
    go_wp2_with fail
    refine (iPartIn_is false _ _ _ HV.out HP).mono ?_
    rintro e w' ⟨rfl, rfl⟩
    go_wp2
    exact bodyPost_ret (results_tmp3 rfl _ _ _) rfl ⟨_, _, rfl, own_nilV _ _, own_nilV _ _, Below.refl _ _, w.heap.size, Nat.le_refl _, Nat.le_refl _, inB_nil _ _, inB_nil _ _⟩

end Go.Proofs.YtipmafplpoadjaaDoor
