/-
  The contracts of ViewMoves (impl and spec).
-/
import Derived.Test.YthkkolnohgibeaaDoorViewSame
import Derived.Test.YthkkolnohgibeaaDoorViewBest
namespace Go.Proofs.YthkkolnohgibeaaDoor
set_option linter.unusedSimpArgs false
set_option linter.unusedVariables false
set_option linter.unnecessarySimpa false
open Go.RowKit
set_option maxRecDepth 100000

/-- The greatest size of the first k blocks on which both are alike. -/
def mostTo (xs ys : List Int) : Nat → Nat
  | 0 => 0
  | k + 1 => if mostTo xs ys k < cnt k ∧ sameOn xs ys k = true then cnt k else mostTo xs ys k

theorem cnt_bits : ∀ n, n < 9 → ∀ m, m < 2 ^ n → cnt m = cntB (fun i => m.testBit i) n := by decide +kernel
theorem cnt_le : ∀ m, m < 256 → cnt m ≤ 8 := by decide +kernel
theorem pow_wrap : ∀ n, n < 9 → IntKind.u64.wrap (2 ^ n) = ((2 ^ n : Nat) : Int) ∧ 2 ^ n ≤ 256 := by decide +kernel

theorem mask_of (S : Nat → Bool) : ∀ n, ∃ m, m < 2 ^ n ∧ ∀ i, i < n → m.testBit i = S i := by
  intro n
  induction n with
  | zero => exact ⟨0, by simp, fun i hi => by omega⟩
  | succ n ih =>
    obtain ⟨m, hm, h⟩ := ih
    cases hs : S n
    · refine ⟨m, by rw [Nat.pow_succ]; omega, fun i hi => ?_⟩
      by_cases e : i = n
      · subst e; rw [hs]; exact Nat.testBit_lt_two_pow hm
      · exact h i (by omega)
    · refine ⟨2 ^ n + m, by rw [Nat.pow_succ]; omega, fun i hi => ?_⟩
      by_cases e : i = n
      · subst e; rw [hs, Nat.testBit_two_pow_add_eq, Nat.testBit_lt_two_pow hm]; rfl
      · rw [Nat.testBit_two_pow_add_gt (by omega)]; exact h i (by omega)

theorem mostTo_ge (xs ys : List Int) : ∀ k j, j < k → sameOn xs ys j = true → cnt j ≤ mostTo xs ys k := by
  intro k
  induction k with
  | zero => intro j hj; omega
  | succ k ih =>
    intro j hj hs
    unfold mostTo
    by_cases e : j = k
    · subst e
      split
      · exact Nat.le_refl _
      · rename_i h
        by_cases h2 : mostTo xs ys j < cnt j
        · exact absurd ⟨h2, hs⟩ h
        · omega
    · have := ih j (by omega) hs
      split
      · rename_i h; omega
      · exact this
theorem mostTo_is (xs ys : List Int) : ∀ k, mostTo xs ys k = 0 ∨ ∃ j, j < k ∧ sameOn xs ys j = true ∧ cnt j = mostTo xs ys k := by
  intro k
  induction k with
  | zero => exact .inl rfl
  | succ k ih =>
    unfold mostTo
    split
    · rename_i h
      exact .inr ⟨k, by omega, h.2, rfl⟩
    · rcases ih with h | ⟨j, h1, h2, h3⟩
      · exact .inl h
      · exact .inr ⟨j, by omega, h2, h3⟩
theorem mostTo_le (xs ys : List Int) : ∀ k, k ≤ 256 → mostTo xs ys k ≤ 8 := by
  intro k
  induction k with
  | zero => intro _; exact Nat.zero_le _
  | succ k ih =>
    intro hk
    unfold mostTo
    split
    · exact cnt_le k (by omega)
    · exact ih (by omega)

theorem same_agree {xs ys : List Int} {m : Nat} (hx : partIn xs = true) (hy : partIn ys = true) (hl : ys.length = xs.length) (hm : m < 2 ^ xs.length) :
    sameOn xs ys m = true ↔ agreeS (numAtN xs) (numAtN ys) xs.length (fun i => m.testBit i) := by
  have hl8 := partIn_len hx
  have key : ∀ i k, i < xs.length → k < xs.length → (dif xs ys i k = 0 ↔ (numAtN xs i = numAtN xs k ↔ numAtN ys i = numAtN ys k)) := by
    intro i k hi hk
    have a1 := (numAtN_int hx hi).1
    have a2 := (numAtN_int hx hk).1
    have a3 := (numAtN_int hy (k := i) (by omega)).1
    have a4 := (numAtN_int hy (k := k) (by omega)).1
    rw [dif_zero, a1, a2, a3, a4]
    constructor <;> intro h <;> omega
  have mem : ∀ t : Nat, (t : Int) ∈ bitsL m ↔ t < xs.length ∧ m.testBit t = true := by
    intro t
    unfold bitsL
    constructor
    · intro h
      obtain ⟨s, hs, e⟩ := List.mem_map.1 h
      obtain ⟨h1, h2⟩ := List.mem_filter.1 hs
      have e : s = t := by omega
      subst e
      refine ⟨?_, h2⟩
      by_cases hlt : s < xs.length
      · exact hlt
      · have := Nat.testBit_lt_two_pow (Nat.lt_of_lt_of_le hm (Nat.pow_le_pow_right (by omega) (show xs.length ≤ s by omega)))
        rw [this] at h2
        cases h2
    · rintro ⟨h1, h2⟩
      exact List.mem_map.2 ⟨t, List.mem_filter.2 ⟨List.mem_range.2 (by omega), h2⟩, rfl⟩
  unfold sameOn
  rw [decide_eq_true_eq]
  constructor
  · intro h i k hi hk hs hs'
    have := h (i : Int) ((mem i).2 ⟨hi, hs⟩) (k : Int) ((mem k).2 ⟨hk, hs'⟩)
    exact (key i k hi hk).1 this
  · intro h x hx1 y hy1
    obtain ⟨i, rfl, _, hb⟩ := bit_mem hx1
    obtain ⟨k, rfl, _, hb'⟩ := bit_mem hy1
    have h1 := ((mem i).1 hx1).1
    have h2 := ((mem k).1 hy1).1
    exact (key i k h1 h2).2 (h i k h1 h2 hb hb')

theorem most_isMost {xs ys : List Int} (ha : alike xs ys = true) : isMost (numAtN xs) (numAtN ys) xs.length (mostTo xs ys (2 ^ xs.length)) := by
  obtain ⟨hx, hy, hl⟩ := alike_iff.1 ha
  have hl8 := partIn_len hx
  constructor
  · intro S hS
    obtain ⟨m, hm, hb⟩ := mask_of S xs.length
    have e : cntB S xs.length = cnt m := by
      rw [cnt_bits xs.length (by omega) m hm]
      exact cntB_congr fun i hi => (hb i hi).symm
    rw [e]
    refine mostTo_ge xs ys _ m hm ((same_agree hx hy hl.symm hm).2 fun i k hi hk h1 h2 => ?_)
    dsimp only at h1 h2
    rw [hb i hi] at h1
    rw [hb k hk] at h2
    exact hS i k hi hk h1 h2
  · rcases mostTo_is xs ys (2 ^ xs.length) with h | ⟨j, h1, h2, h3⟩
    · refine ⟨fun _ => false, fun i k _ _ h1 _ => absurd h1 (by simp), ?_⟩
      rw [h]
      exact cntB_none fun i _ => rfl
    · exact ⟨_, (same_agree hx hy hl.symm h1).1 h2, by rw [← h3, cnt_bits xs.length (by omega) j h1]⟩

def movesN (xs ys : List Int) : Nat := bestR (cellN (numAtN xs) (numAtN ys) xs.length) (pSize ys).toNat (pSize xs).toNat 0 0
/-- What ViewMoves answers. -/
def viewMoves (xs ys : List Int) : Int × Bool := if alike xs ys then ((xs.length : Int) - (movesN xs ys : Nat), true) else (0, false)

theorem moves_isMost {xs ys : List Int} (ha : alike xs ys = true) : isMost (numAtN xs) (numAtN ys) xs.length (movesN xs ys) := by
  obtain ⟨hx, hy, hl⟩ := alike_iff.1 ha
  exact best_sets (fun i hi => (numAtN_int hx hi).2) (fun i hi => (numAtN_int hy (by omega)).2)
theorem most_moves {xs ys : List Int} (ha : alike xs ys = true) : mostTo xs ys (2 ^ xs.length) = movesN xs ys := isMost_one (most_isMost ha) (moves_isMost ha)

theorem sViewMoves_v (v u : Value) (xs ys : List Int) (w : World) (hv : RdV w v xs) (hu : RdV w u ys) :
    Calls Tryd.prog 8 #[v, u] w (GivesIB w (viewMoves xs ys)) := by
  have HV := Lib.hid hv
  have HU := Lib.hid hu
  cases ha : alike xs ys
  · have HA := Lib.hid ha
    have hr : viewMoves xs ys = (0, false) := by rw [viewMoves, ha]; rfl
    rw [hr]
    clear ha hr hv hu
    go_enter Tryd.func8, Tryd.ntmps8
    go_wp2_with fail
    refine (l2Two_is false _ _ _ _ _ HV.out HU.out HA).mono ?_
    rintro e w' ⟨rfl, rfl⟩
    go_wp2
    go_ret2
    exact ⟨rfl, Below.refl _ _⟩
  · have HA := Lib.hid ha
    obtain ⟨hx, hy, hl⟩ := alike_iff.1 ha
    have hl8 := partIn_len hx
    have hr : viewMoves xs ys = ((xs.length : Int) - (movesN xs ys : Nat), true) := by rw [viewMoves, ha]; rfl
    have hle := isMost_le (moves_isMost ha)
    rw [hr]
    have b1 := pSize_bd (partIn_small hx)
    have b2 := pSize_bd (partIn_small hy)
    have HT := Lib.hid (l7Table_v v u xs ys w HV.out HU.out hx hy hl.symm)
    have HB := Lib.hid fun (vt : Value) (w1 : World) (h : RdM w1 vt (shareOf xs ys)) => l7Best_v vt (cellN (numAtN xs) (numAtN ys) xs.length) (shareOf xs ys) (pSize xs).toNat (pSize ys).toNat (by omega) (by omega) (fun x y => Nat.le_trans (cellN_le _ _ _ _ _) hl8.2) (tabTo_len _ _ _ _ _)
      (fun x hx => by unfold shareOf; rw [tabTo_getD _ _ _ _ _ hx]; exact ⟨tabRow_len _ _ _ _ _, fun y hy => tabRow_getD _ _ _ _ _ hy⟩) (pSize xs).toNat 0 0 (by omega) (by omega) w1 h
    obtain ⟨t, hte⟩ : ∃ t, t = movesN xs ys := ⟨_, rfl⟩
    have hb' : bestR (cellN (numAtN xs) (numAtN ys) xs.length) (pSize ys).toNat (pSize xs).toNat 0 0 = t := hte.symm
    rw [hb'] at HB
    rw [← hte] at hle ⊢
    obtain ⟨ao, ca, rfl, _⟩ := hv
    obtain ⟨n, hn⟩ : ∃ n, n = xs.length := ⟨_, rfl⟩
    rw [← hn] at HV HT hle hl8 ⊢
    clear ha hr hx hy hl hte hb' hn hu
    go_enter Tryd.func8, Tryd.ntmps8
    go_wp2_with fail
    refine (l2Two_is true _ _ _ _ _ HV.out HU.out HA).mono ?_
    rintro e w' ⟨rfl, rfl⟩
    go_wp2_with fail
    refine HT.out.mono ?_
    rintro e w1 ⟨vm, rfl, o, hb⟩
    have HO := Lib.hid (ownM_rdM o)
    have HBl := Lib.hid hb
    clear o hb
    go_wp2_with fail
    refine (HB.out _ _ HO.out).mono ?_
    rintro e w2 ⟨rfl, hq⟩
    have HB2 := Lib.hid (below_step HBl.out hq.below)
    clear hq
    go_wp2
    go_ret2
    exact ⟨rfl, HB2.out⟩

set_option maxHeartbeats 1600000 in
theorem iViewMoves_v (v u : Value) (xs ys : List Int) (w : World) (hT : Tab w) (hv : RdV w v xs) (hu : RdV w u ys) :
    Calls Tryd.prog 7 #[v, u] w (GivesIB w (viewMoves xs ys)) := by
  have HV := Lib.hid hv
  have HU := Lib.hid hu
  cases ha : alike xs ys
  · have HA := Lib.hid ha
    have hr : viewMoves xs ys = (0, false) := by rw [viewMoves, ha]; rfl
    rw [hr]
    clear ha hr hv hu hT
    go_enter Tryd.func7, Tryd.ntmps7
    go_wp2_with fail
    refine (areAlike_is false _ _ _ _ _ HV.out HU.out HA).mono ?_
    rintro e w' ⟨rfl, rfl⟩
    go_wp2
    go_ret2
    exact ⟨rfl, Below.refl _ _⟩
  · have HA := Lib.hid ha
    obtain ⟨hx, hy, hl⟩ := alike_iff.1 ha
    have hl8 := partIn_len hx
    have hr : viewMoves xs ys = ((xs.length : Int) - (mostTo xs ys (2 ^ xs.length) : Nat), true) := by rw [viewMoves, ha, most_moves ha]; rfl
    rw [hr]
    have HT := Lib.hid hT
    have HSM := Lib.hid fun (m : Nat) (hm : m < 2 ^ xs.length) (hm2 : m < 256) (w1 : World) (h1 : Below w.heap.size w w1) => areSameOn_any m hm2 v u xs ys w1 (tab_below HT.out h1) (rdv_below HV.out h1) (rdv_below HU.out h1) hl.symm (fun t hb _ => by
      by_cases hlt : t < xs.length
      · exact hlt
      · have := Nat.testBit_lt_two_pow (Nat.lt_of_lt_of_le hm (Nat.pow_le_pow_right (by omega) (show xs.length ≤ t by omega)))
        rw [this] at hb
        cases hb)
    obtain ⟨ao, ca, rfl, _⟩ := hv
    obtain ⟨n, hn⟩ : ∃ n, n = xs.length := ⟨_, rfl⟩
    rw [← hn] at HV hl8 HSM ⊢
    obtain ⟨hp1, hp2⟩ := pow_wrap n (by omega)
    obtain ⟨q, hq⟩ : ∃ q, q = 2 ^ n := ⟨_, rfl⟩
    rw [← hq] at hp1 hp2 HSM ⊢
    have he2 : (2 : Int) ^ n = (q : Int) := by rw [hq, Int.natCast_pow]; rfl
    have HE2 := Lib.hid he2
    clear ha hr hx hy hl hn hu hT he2 hq
    go_enter Tryd.func7, Tryd.ntmps7
    go_wp2_with fail
    refine (areAlike_is true _ _ _ _ _ HV.out HU.out HA).mono ?_
    rintro e w' ⟨rfl, rfl⟩
    go_wp2
    go_loopw [6, 15] (fun m i wr => ∃ (k s : Nat), k ≤ q ∧ i = .int .u64 k ∧ m = .int .i64 s ∧ Hid (s = mostTo xs ys k) ∧ Below w.heap.size w wr) (fun _ i _ => q - (intOf i).toNat)
    case atStart => exact ⟨0, 0, Nat.zero_le _, rfl, rfl, Lib.hid rfl, Below.refl _ _⟩
    case round =>
      obtain ⟨k, s, hk, rfl, rfl, HS, hbel⟩ := hrel
      have hs8 : s ≤ 8 := by have := HS.out; have := mostTo_le xs ys k (by omega); omega
      by_cases hlt : k < q
      · have hk256 : k < 256 := by omega
        have hst : mostTo xs ys (k + 1) = if mostTo xs ys k < cnt k ∧ sameOn xs ys k = true then cnt k else mostTo xs ys k := rfl
        have hc8 := cnt_le k hk256
        have HSZ := Lib.hid fun (w1 : World) => size_any k w1 hk256
        have HSA := Lib.hid (HSM.out k hlt hk256 wr hbel)
        obtain ⟨c, hc⟩ : ∃ c, c = cnt k := ⟨_, rfl⟩
        rw [← hc] at hst hc8 HSZ
        rw [← HS.out] at hst
        clear hc
        by_cases hg : s < c
        · cases hsm : sameOn xs ys k
          · rw [hsm] at hst HSA
            rw [if_neg (by simp)] at hst
            have HST := Lib.hid hst
            clear hst hsm
            go_wp2_with fail
            refine (HSZ.out _).mono ?_
            rintro e w' ⟨rfl, rfl⟩
            go_wp2_with fail
            refine HSA.out.mono ?_
            rintro e w2 ⟨rfl, hb2⟩
            have HB2 := Lib.hid (below_step hbel hb2)
            clear hb2
            go_wp2
            go_roundw
            case rel => exact ⟨k + 1, s, by omega, by go_num, rfl, Lib.hid HST.out.symm, HB2.out⟩
            case measure => simp [intOf]; omega
          · rw [hsm] at hst HSA
            rw [if_pos ⟨hg, rfl⟩] at hst
            have HST := Lib.hid hst
            clear hst hsm
            go_wp2_with fail
            refine (HSZ.out _).mono ?_
            rintro e w' ⟨rfl, rfl⟩
            go_wp2_with fail
            refine HSA.out.mono ?_
            rintro e w2 ⟨rfl, hb2⟩
            have HB2 := Lib.hid (below_step hbel hb2)
            clear hb2
            go_wp2_with fail
            refine (HSZ.out _).mono ?_
            rintro e w' ⟨rfl, rfl⟩
            go_wp2
            go_roundw
            case rel => exact ⟨k + 1, c, by omega, by go_num, rfl, Lib.hid HST.out.symm, HB2.out⟩
            case measure => simp [intOf]; omega
        · rw [if_neg (by omega)] at hst
          have HST := Lib.hid hst
          clear hst
          go_wp2_with fail
          refine (HSZ.out _).mono ?_
          rintro e w' ⟨rfl, rfl⟩
          go_wp2
          go_roundw
          case rel => exact ⟨k + 1, s, by omega, by go_num, rfl, Lib.hid HST.out.symm, hbel⟩
          case measure => simp [intOf]; omega
      · have hkq : k = q := by omega
        subst hkq
        go_wp2
        go_ret2
        exact ⟨ret_ib (by rw [HS.out]), hbel⟩

end Go.Proofs.YthkkolnohgibeaaDoor
