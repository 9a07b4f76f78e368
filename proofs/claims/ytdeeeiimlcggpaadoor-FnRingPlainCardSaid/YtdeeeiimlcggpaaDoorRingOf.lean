/-
  The contracts of permutationOf and RingOf (impl), and of RingOf (spec).
-/
import Derived.Test.YtdeeeiimlcggpaaDoorPartBlocks
import Derived.Deep.RegionHeld3
namespace Go.Proofs.YtdeeeiimlcggpaaDoor
set_option linter.unusedSimpArgs false
set_option linter.unusedVariables false
set_option linter.unnecessarySimpa false
set_option maxRecDepth 100000
open Go.RowKit

/-- Each of the first i things of a block led to the next one. -/
def ofIn (s L : List Int) : Nat → List Int
  | 0 => s
  | i + 1 => (ofIn s L i).set (L.getD i 0).toNat (L.getD ((i + 1) % L.length) 0)
def ofTo (xs : List Int) : Nat → List Int
  | 0 => List.replicate xs.length 0
  | b + 1 => ofIn (ofTo xs b) (blkAt xs b xs.length) (blkAt xs b xs.length).length
def ringOf (xs : List Int) : List Int × Bool := if partIn xs then (ofTo xs (pSize xs).toNat, true) else ([], false)

theorem ofIn_length (s L : List Int) (i : Nat) : (ofIn s L i).length = s.length := by
  induction i with
  | zero => rfl
  | succ i ih => rw [ofIn, List.length_set, ih]
theorem ofTo_length (xs : List Int) (b : Nat) : (ofTo xs b).length = xs.length := by
  induction b with
  | zero => simp [ofTo]
  | succ b ih => rw [ofTo, ofIn_length, ih]
theorem ringOf_len (xs : List Int) (h : xs.length ≤ 1048576) : (ringOf xs).1.length ≤ 2305843009213693952 := by
  unfold ringOf
  split
  · rw [ofTo_length]; omega
  · simp

theorem blk_rng (xs : List Int) (b : Nat) : ∀ k i, i < (blkAt xs b k).length → ∃ t : Nat, t < k ∧ (blkAt xs b k).getD i 0 = t := by
  intro k
  induction k with
  | zero => intro i hi; simp [blkAt] at hi
  | succ k ih =>
    intro i hi
    unfold blkAt at hi ⊢
    split at hi
    · rename_i h
      rw [if_pos h]
      simp at hi
      by_cases hl : i < (blkAt xs b k).length
      · rw [getD_snoc_lt _ _ _ hl]
        obtain ⟨t, h1, h2⟩ := ih i hl
        exact ⟨t, by omega, h2⟩
      · obtain rfl : i = (blkAt xs b k).length := by omega
        rw [getD_snoc_eq]
        exact ⟨k, by omega, rfl⟩
    · rename_i h
      rw [if_neg h]
      obtain ⟨t, h1, h2⟩ := ih i hi
      exact ⟨t, by omega, h2⟩

theorem ownU_grown {w w' : World} {B g n cap m : Nat} {ms : List Nat} (h : OwnU w B (.slice (some ⟨g, 0, none⟩) n cap) ms) (hg : w.grownBy w' (some m)) (hne : g ≠ m) : OwnU w' B (.slice (some ⟨g, 0, none⟩) n cap) ms :=
  World.ownsRow.kept h hg (.inr (by simpa [Value.ownBlock] using hne))

set_option maxHeartbeats 3200000 in
theorem permutationOf_v (v : Value) (xs : List Int) (w : World) (hT : Tab w) (hv : RdV w v xs) (hp : partIn xs = true) :
    Calls Tryd.prog 50 #[v] w fun e w' => ∃ g : Nat, e = .returned (.agg #[.slice (some ⟨g, 0, none⟩) xs.length xs.length]) ∧ Own w' w.heap.size (.slice (some ⟨g, 0, none⟩) xs.length xs.length) (ofTo xs (pSize xs).toNat) ∧ Below w.heap.size w w' := by
  have hv0 := hv
  obtain ⟨ao, ca, rfl, h, h1, h2⟩ := hv
  unfold maxLen at h2
  have HV := Lib.hid hv0
  have hl := partIn_len hp
  have hsm := partIn_small hp
  have hbd := pSize_bd hsm
  obtain ⟨p, hps⟩ := Int.eq_ofNat_of_zero_le hbd.1
  rw [hps, Int.toNat_natCast]
  rw [hps] at hbd
  have HPS := Lib.hid hps
  have HP := Lib.hid hp
  obtain ⟨n, hn⟩ : ∃ n, n = xs.length := ⟨_, rfl⟩
  rw [← hn] at h1 hl HV ⊢
  have HN := Lib.hid hn
  clear hv0 h hp hsm hps hn
  obtain ⟨hl1, hl8⟩ := hl
  obtain ⟨i0, hi, hz0, hz1, hz2⟩ := info_parts Tryd.infoInt
  have hb0 : Below w.heap.size w (w.alloc (.cells #[.slice none 0 0] 41)) := (Below.refl _ _).alloc (Nat.le_refl _) _
  have hg0 : (w.alloc (.cells #[.slice none 0 0] 41)).cell? ⟨w.heap.size, 0, none⟩ = some (.slice none 0 0) := by simp
  have hf0 : (w.alloc (.cells #[.slice none 0 0] 41)).frozen? ⟨w.heap.size, 0, none⟩ = false := by simp
  have hs0 : (w.alloc (.cells #[.slice none 0 0] 41)).heap.size = w.heap.size + 1 := by simp
  have HB0 := Lib.hid hb0
  have HG0 := Lib.hid hg0
  have HF0 := Lib.hid hf0
  have HS0 := Lib.hid hs0
  clear hb0 hg0 hf0 hs0
  go_enter Tryd.func50, Tryd.ntmps50
  go_wp2_with (at_make; refine wpList_make_full _ rfl _ _ 39 rfl (w.heap.size + 1) 3 i0 (.int .i64 0) 1 Tryd.underlying39 hi hz0 hz1 _ _ _ _ n rfl rfl rfl rfl (by rw [hz2]; omega) (by unfold maxLen; omega) (by rw [HS0.out]; exact Nat.le_refl _) ?_)
  intro w2 hown2 hgrow2
  obtain ⟨w1, hw1⟩ : ∃ w1, w1 = w.alloc (.cells #[.slice none 0 0] 41) := ⟨_, rfl⟩
  have hb0 := HB0.out
  have hg0 := HG0.out
  have hf0 := HF0.out
  have hs0 := HS0.out
  rw [← hw1] at hb0 hg0 hf0 hs0 hgrow2
  have hb2 : Below (w.heap.size + 1) w1 w2 := (Below.refl _ _).grown hgrow2 (by omega) (fun k h => by cases h)
  have hown := own_made hown2
  clear hown2 hgrow2 HB0 HG0 HF0 HS0 hw1
  obtain ⟨m, hm⟩ : ∃ m, m = w.heap.size + 1 := ⟨_, rfl⟩
  obtain ⟨r, hr⟩ : ∃ r, r = w.heap.size := ⟨_, rfl⟩
  rw [← hm] at hown hb2 ⊢
  have hrm : r < m := by omega
  have HM : Hid (m = w.heap.size + 1) := Lib.hid hm
  have HR : Hid (r = w.heap.size) := Lib.hid hr
  have HB0 := Lib.hid hb0
  have HG0 : Hid (w1.cell? ⟨r, 0, none⟩ = some (.slice none 0 0)) := Lib.hid (by rw [hr]; exact hg0)
  have HF0 : Hid (w1.frozen? ⟨r, 0, none⟩ = false) := Lib.hid (by rw [hr]; exact hf0)
  have hms : m < w2.heap.size := (own_lt hown m rfl).2
  have HO2 := Lib.hid hown
  have HB2 := Lib.hid hb2
  have hbw2 : Below w.heap.size w w2 := HB0.out.trans (hb2.mono (by omega))
  have HBW2 := Lib.hid hbw2
  clear hg0 hf0 hs0 hb0 hm hown hb2 hbw2
  rw [← hr]
  clear hr
  go_wp2_with fail
  refine (blocksOf_v _ xs p _ (rdv_below HV.out HBW2.out) HP.out HPS.out).mono ?_
  rintro e w3 ⟨rfl, hu3, hb3⟩
  have HU3 := Lib.hid hu3
  have HO3 := Lib.hid (own_below HO2.out hb3)
  have hb13 : Below m w1 w3 := HB2.out.trans (hb3.mono (by omega))
  have HB13 := Lib.hid hb13
  obtain ⟨q, hq⟩ : ∃ q, q = w2.heap.size := ⟨_, rfl⟩
  have HQ := Lib.hid hq
  rw [← hq] at HU3 hms ⊢
  clear hq hu3 hb3 hb13
  go_wp2
  go_loopw [15] (fun i wr => ∃ k : Nat, k ≤ p ∧ i = .int .i64 k ∧ Own wr m (.slice (some ⟨m, 0, none⟩) n n) (ofTo xs k) ∧ OwnU wr q (.slice (some ⟨q, 0, none⟩) p p) (masks xs xs.length p) ∧ Below m w1 wr)
    (fun i _ => p - (intOf i).toNat)
  case atStart => exact ⟨0, Nat.zero_le _, rfl, by have := HO3.out; rw [ofTo, ← HN.out]; exact this, HU3.out, HB13.out⟩
  case round =>
    obtain ⟨k, hk, rfl, hown, hu, hbel⟩ := hrel
    have hbelw : Below w.heap.size w wr := HB0.out.trans (hbel.mono (by have := HM.out; omega))
    by_cases hlt : k < p
    · have hml : (masks xs xs.length p).length = p := by simp [masks]
      have hcm := ownU_cell hu hml.symm k (by omega)
      have hgm : (masks xs xs.length p).getD k 0 = maskAt xs k xs.length := by simp [masks, List.getD, hlt]
      rw [hgm] at hcm
      have hm256 := maskAt_256 xs k xs.length (by rw [← HN.out]; exact hl8)
      have hbits := (bits_mask xs k xs.length (by rw [← HN.out]; exact hl8)).1
      have hrng := blk_rng xs k xs.length
      have hof : ofTo xs (k + 1) = ofIn (ofTo xs k) (blkAt xs k xs.length) (blkAt xs k xs.length).length := rfl
      have hc8 : (blkAt xs k xs.length).length ≤ 8 := by rw [blkAt_length]; have := cntAt_le xs k xs.length; have := HN.out; omega
      obtain ⟨mk, hmk⟩ : ∃ mk, mk = maskAt xs k xs.length := ⟨_, rfl⟩
      obtain ⟨L, hL⟩ : ∃ L, L = blkAt xs k xs.length := ⟨_, rfl⟩
      rw [← hmk] at hcm hm256 hbits
      rw [← hL] at hbits hrng hof hc8
      rw [← HN.out] at hrng
      have HRNG := Lib.hid hrng
      have HOF := Lib.hid hof
      have HBITS := Lib.hid hbits
      have HOW := Lib.hid hown
      have HUW := Lib.hid hu
      have hmq : m < wr.heap.size := (own_lt hown m rfl).2
      clear hml hgm hmk hL hrng hof hbits hown hu
      go_wp2_with fail
      refine (list_any mk _ (tab_below hT hbelw) hm256).mono ?_
      rw [HBITS.out]
      rintro e w4 ⟨u, rfl, ho4, hb4⟩
      obtain ⟨ao2, ca2, rfl, hrd, _, _, hbk⟩ := own_rd ho4
      have HBK : Hid (∀ a : Addr, ao2 = some a → m < a.block) := Lib.hid (fun a ha => by have := (hbk a ha).1; omega)
      obtain ⟨c, hc⟩ : ∃ c, c = L.length := ⟨_, rfl⟩
      rw [← hc] at hc8 ⊢
      have HC := Lib.hid hc
      have HRD := Lib.hid hrd
      have HB4 := Lib.hid hb4
      have HO4 := Lib.hid (own_below HOW.out hb4)
      have HU4 := Lib.hid (ownU_below HUW.out hb4)
      have hmw4 : m < w4.heap.size := (own_lt HO4.out m rfl).2
      clear hc hrd hb4 ho4 hbk
      go_wp2
      go_loopw [23] (fun i wq => ∃ j : Nat, j ≤ c ∧ i = .int .i64 j ∧ Own wq m (.slice (some ⟨m, 0, none⟩) n n) (ofIn (ofTo xs k) L j) ∧ w4.grownBy wq (some m) ∧ wq.heap.size = w4.heap.size)
        (fun i _ => c - (intOf i).toNat)
      case atStart => exact ⟨0, Nat.zero_le _, rfl, HO4.out, World.grownBy.refl _ _, rfl⟩
      case round =>
        obtain ⟨j, hj, rfl, hown, hgr, hsz⟩ := hrel
        have HGR := Lib.hid hgr
        have HSZ := Lib.hid hsz
        clear hgr hsz
        by_cases hjc : j < c
        · rcases HRD.out with hx | ⟨bb, off, rfl, hcx⟩
          · have := HC.out
            rw [hx] at this
            simp at this
            omega
          · have hbm : bb ≠ m := by
              have : m < bb := HBK.out _ rfl
              omega
            have hcw : ∀ i, i < c → wr.cell? ⟨bb, off + i, none⟩ = some (.int .i64 (L.getD i 0)) := fun i hi => by
              exact HGR.out.cell (hcx i (by have := HC.out; omega)) (by simpa using hbm)
            obtain ⟨t, ht, hte⟩ := HRNG.out j (by have := HC.out; omega)
            have hjm : (j + 1) % c < c := Nat.mod_lt _ (by omega)
            have hck := hcw j hjc
            have hcn := hcw _ hjm
            rw [hte] at hck
            obtain ⟨y, hy⟩ : ∃ y, y = L.getD ((j + 1) % c) 0 := ⟨_, rfl⟩
            obtain ⟨i2, hi2⟩ : ∃ i2, i2 = (j + 1) % c := ⟨_, rfl⟩
            rw [← hy, ← hi2] at hcn
            rw [← hi2] at hjm
            have hmod : ((j : Int) + 1).tmod (c : Int) = (i2 : Int) := by
              rw [hi2, Int.tmod_eq_emod_of_nonneg (by omega)]
              simp
            have hfz := own_frozen hown t
            have hll : n = (ofIn (ofTo xs k) L j).length := by rw [ofIn_length, ofTo_length, HN.out]
            obtain ⟨v0, hv0⟩ : ∃ v0, wr.cell? ⟨m, t, none⟩ = some v0 := ⟨_, own_cell hown t (by omega)⟩
            obtain ⟨hst, hgst⟩ := own_stored hown hll t y
            have hst' : Own (wr.setCell ⟨m, t, none⟩ (.int .i64 y)) m (.slice (some ⟨m, 0, none⟩) n n) (ofIn (ofTo xs k) L (j + 1)) := by
              rw [ofIn, hte, Int.toNat_natCast, ← HC.out, ← hy]
              exact hst
            have HST := Lib.hid hst'
            have HGS := Lib.hid hgst
            have hc0 : ¬ (c : Int) = 0 := by omega
            have hc1 : ((c : Int) == 0) = false := by simp; omega
            clear hcx hcw hte hy hi2 hst hst' hgst hown hll
            go_wp2
            go_roundw
            case rel => exact ⟨j + 1, by omega, by go_num, HST.out, grown_trans HGR.out HGS.out, by have := HSZ.out; simpa [World.setCell] using this⟩
            case measure => simp [intOf]; omega
        · have hjc : j = c := by omega
          subst hjc
          have hbel4 : Below m w1 w4 := hbel.trans (HB4.out.mono (by omega))
          have hbelq : Below m w1 wr := hbel4.grown HGR.out (by omega) (fun k hk => by cases hk; exact Nat.le_refl _)
          have HBQ := Lib.hid hbelq
          have HOWN := Lib.hid hown
          have HUQ := Lib.hid (ownU_grown HU4.out HGR.out (by omega))
          clear hown hbel4 hbelq
          go_wp2
          go_roundw
          case rel => exact ⟨k + 1, by omega, by go_num, by rw [HOF.out, ← HC.out]; exact HOWN.out, HUQ.out, HBQ.out⟩
          case measure => simp [intOf]; omega
    · have hkp : k = p := by omega
      subst hkp
      have hcr : wr.cell? ⟨r, 0, none⟩ = some (.slice none 0 0) := by rw [hbel.cell (by simpa using hrm)]; exact HG0.out
      have hfr : wr.frozen? ⟨r, 0, none⟩ = false := by rw [hbel.frozen (by simpa using hrm)]; exact HF0.out
      have hos : Own (wr.setCell ⟨r, 0, none⟩ (.slice (some ⟨m, 0, none⟩) n n)) w.heap.size (.slice (some ⟨m, 0, none⟩) n n) (ofTo xs k) := own_mono (own_grown hown (grownBy_setCell' wr r _) (.inr (by simp [Value.ownBlock]; omega))) (by have := HM.out; omega)
      have hbs : Below w.heap.size w (wr.setCell ⟨r, 0, none⟩ (.slice (some ⟨m, 0, none⟩) n n)) := Below.setCell (p := ⟨r, 0, none⟩) hbelw (by show w.heap.size ≤ r; have := HR.out; omega) _
      have hcs : (wr.setCell ⟨r, 0, none⟩ (.slice (some ⟨m, 0, none⟩) n n)).cell? ⟨r, 0, none⟩ = some (.slice (some ⟨m, 0, none⟩) n n) := World.cell?_setCell_same' wr _ _ (by rw [hcr]; rfl)
      have HOS := Lib.hid hos
      have HBS := Lib.hid hbs
      clear hown hu hbel hbelw hos hbs
      go_wp2
      refine bodyPost_ret (v := .agg #[.slice (some ⟨m, 0, none⟩) n n]) (by simp [results, Tryd.results50, go_sem, hcs, Result.andThen]) rfl ⟨_, rfl, HOS.out, HBS.out⟩

theorem fieldPerm (a : Option Addr) (l c : Nat) (w : World) : (Instr.field 41 (.agg #[.slice a l c]) 0).run Tryd.prog w = .ok (.slice a l c) w := by kernel_rfl

theorem iRingOf_v (v : Value) (xs : List Int) (w : World) (hT : Tab w) (hv : RdV w v xs) : Calls Tryd.prog 21 #[v] w (FreshLB w (ringOf xs)) := by
  have HV := Lib.hid hv
  obtain ⟨ao, ca, rfl, h, h1, h2⟩ := hv
  clear h
  by_cases hp : partIn xs = true
  · have he : ringOf xs = (ofTo xs (pSize xs).toNat, true) := by simp [ringOf, hp]
    rw [he]
    have HP := Lib.hid hp
    clear he hp
    go_enter Tryd.func21, Tryd.ntmps21
    go_wp2_with fail
    refine (iPartIn_is true _ _ _ HV.out HP).mono ?_
    rintro e w' ⟨rfl, rfl⟩
    go_wp2_with fail
    refine (permutationOf_v _ xs _ hT HV.out HP.out).mono ?_
    rintro e w2 ⟨g, rfl, ho, hb⟩
    have HO := Lib.hid ho
    clear ho
    have hfp := fieldPerm (some ⟨g, 0, none⟩) xs.length xs.length
    go_wp2
    go_ret2
    exact ⟨_, rfl, HO.out, hb⟩
  · have hp : partIn xs = false := by simpa using hp
    have he : ringOf xs = ([], false) := by simp [ringOf, hp]
    rw [he]
    have HP := Lib.hid hp
    clear he hp
    go_enter Tryd.func21, Tryd.ntmps21
    go_wp2_with fail
    refine (iPartIn_is false _ _ _ HV.out HP).mono ?_
    rintro e w' ⟨rfl, rfl⟩
    go_wp2
    go_ret2
    exact ⟨_, rfl, own_nil _ _, Below.refl _ _⟩

set_option maxHeartbeats 4000000 in
theorem sRingOf_v (v : Value) (xs : List Int) (w : World) (hv : RdV w v xs) : Calls Tryd.prog 22 #[v] w (FreshLB w (ringOf xs)) := by
  have HV := Lib.hid hv
  obtain ⟨ao, ca, rfl, h, h1, h2⟩ := hv
  unfold maxLen at h2
  clear h
  by_cases hp : partIn xs = true
  · have hl := partIn_len hp
    have hbd := pSize_bd (partIn_small hp)
    obtain ⟨p, hps⟩ := Int.eq_ofNat_of_zero_le hbd.1
    have he : ringOf xs = (ofTo xs p, true) := by simp [ringOf, hp, hps]
    rw [he]
    rw [hps] at hbd
    have HPS := Lib.hid hps
    have HP := Lib.hid hp
    obtain ⟨n, hn⟩ : ∃ n, n = xs.length := ⟨_, rfl⟩
    rw [← hn] at h1 hl HV ⊢
    have HN := Lib.hid hn
    clear he hp hps hn
    obtain ⟨hl1, hl8⟩ := hl
    obtain ⟨i0, hi, hz0, hz1, hz2⟩ := info_parts Tryd.infoInt
    go_enter Tryd.func22, Tryd.ntmps22
    go_wp2_with fail
    refine (sPartIn_is true _ _ _ HV.out HP).mono ?_
    rintro e w' ⟨rfl, rfl⟩
    go_wp2_with (at_make; refine wpList_make_full _ rfl _ _ 23 rfl w.heap.size 3 i0 (.int .i64 0) 1 Tryd.underlying23 hi hz0 hz1 _ _ _ _ n rfl rfl rfl rfl (by rw [hz2]; omega) (by unfold maxLen; omega) (Nat.le_refl _) ?_)
    intro w1 hown1 hgrow1
    have hb1 : Below w.heap.size w w1 := (Below.refl _ _).grown hgrow1 (Nat.le_refl _) (fun k h => by cases h)
    have hown := own_made hown1
    clear hown1 hgrow1
    have hms : w.heap.size < w1.heap.size := (own_lt hown _ rfl).2
    obtain ⟨m, hm⟩ : ∃ m, m = w.heap.size := ⟨_, rfl⟩
    rw [← hm] at hown hms ⊢
    have HM := Lib.hid hm
    have HO1 := Lib.hid hown
    have HB1 := Lib.hid hb1
    clear hm hown hb1
    go_wp2_with fail
    refine (l1Blocks_v _ xs p _ (rdv_below HV.out HB1.out) HP.out HPS.out).mono ?_
    rintro e w2 ⟨u, rfl, hom, hb2⟩
    obtain ⟨vs, hvl, hparts, _⟩ := ownM_parts hom
    have hbl := blocksTo_length xs p
    have hp1 : 1 ≤ p := by have := pSize_pos (partIn_small HP.out) (partIn_len HP.out).1; have := HPS.out; omega
    rcases hparts with ⟨_, hnil⟩ | ⟨g, cap, rfl, _, _, _⟩
    · have := congrArg List.length hnil
      rw [hbl] at this
      simp at this
      omega
    rw [hbl] at hom ⊢
    have HOM := Lib.hid hom
    have HB2 := Lib.hid hb2
    have hgm : m < g := by omega
    have HO2 := Lib.hid (own_below HO1.out hb2)
    have hms2 : m < w2.heap.size := by have := hb2.size; omega
    clear hom hb2 hvl hbl
    go_wp2
    go_loopw [6] (fun i wr => ∃ k : Nat, k ≤ p ∧ i = .int .i64 k ∧ Own wr m (.slice (some ⟨m, 0, none⟩) n n) (ofTo xs k) ∧ Touch w2 wr m (m + 1)) (fun i _ => p - (intOf i).toNat)
    case atStart => exact ⟨0, Nat.zero_le _, rfl, by have := HO2.out; rw [ofTo, ← HN.out]; exact this, Touch.refl _ _ _⟩
    case round =>
      obtain ⟨k, hk, rfl, hown, ht⟩ := hrel
      by_cases hlt : k < p
      · have HOW := Lib.hid hown
        have HT := Lib.hid ht
        have hrowk : ∃ ro ca2, wr.cell? ⟨g, k, none⟩ = some (.slice ro (blkAt xs k xs.length).length ca2) ∧ (∀ j, j < (blkAt xs k xs.length).length → ∃ bb off, ro = some ⟨bb, off, none⟩ ∧ bb ≠ m ∧ ∀ i, i < (blkAt xs k xs.length).length → wr.cell? ⟨bb, off + i, none⟩ = some (.int .i64 ((blkAt xs k xs.length).getD i 0))) := by
          obtain ⟨z, hz, hoz, hiz⟩ := ownM_cell HOM.out k (by rw [blocksTo_length]; exact hlt)
          rw [blocksTo_getD _ _ _ hlt] at hoz
          obtain ⟨zo, zc, rfl, hrz, _, _, hbz⟩ := own_rd hoz
          refine ⟨zo, zc, ?_, ?_⟩
          · rw [World.cell?_of_block (w := w2) (w' := wr) (a := ⟨g, k, none⟩) (ht.block g (by omega))]
            exact hz
          · intro j hj
            rcases hrz with hx | ⟨bb, off, rfl, hcz⟩
            · rw [hx] at hj
              simp at hj
            · have hbb : w1.heap.size ≤ bb := (hbz _ rfl).1
              refine ⟨bb, off, rfl, by omega, fun i hi => ?_⟩
              rw [World.cell?_of_block (w := w2) (w' := wr) (a := ⟨bb, off + i, none⟩) (ht.block bb (by omega))]
              exact hcz i hi
        obtain ⟨ro, ca2, hck, hrow⟩ := hrowk
        have hrng := blk_rng xs k xs.length
        have hof : ofTo xs (k + 1) = ofIn (ofTo xs k) (blkAt xs k xs.length) (blkAt xs k xs.length).length := rfl
        have hc8 : (blkAt xs k xs.length).length ≤ 8 := by rw [blkAt_length]; have := cntAt_le xs k xs.length; have := HN.out; omega
        obtain ⟨L, hL⟩ : ∃ L, L = blkAt xs k xs.length := ⟨_, rfl⟩
        rw [← hL] at hck hrow hrng hof hc8
        rw [← HN.out] at hrng
        obtain ⟨c, hc⟩ : ∃ c, c = L.length := ⟨_, rfl⟩
        rw [← hc] at hc8 hck
        have HC := Lib.hid hc
        have HRNG := Lib.hid hrng
        have HOF := Lib.hid hof
        have HROW := Lib.hid hrow
        have HCK := Lib.hid hck
        obtain ⟨w5, hw5⟩ : ∃ w5 : World, w5 = wr := ⟨_, rfl⟩
        rw [← hw5] at HCK HROW HOW HT
        have hb5 : m < w5.heap.size := by have := HT.out.size; omega
        have hg5 : g < w5.heap.size := by have := World.block_lt_of_cell? _ _ HCK.out; simpa using this
        clear hL hrng hof hrow hc hown ht
        go_wp2
        rw [← hw5]
        clear hw5 hck
        go_loopw [8] (fun i wq => ∃ j : Nat, j ≤ c ∧ i = .int .i64 j ∧ Own wq m (.slice (some ⟨m, 0, none⟩) n n) (ofIn (ofTo xs k) L j) ∧ Touch w5 wq m (m + 1))
          (fun i _ => c - (intOf i).toNat)
        case atStart => exact ⟨0, Nat.zero_le _, rfl, HOW.out, Touch.refl _ _ _⟩
        case round =>
          obtain ⟨j, hj, rfl, hown, ht⟩ := hrel
          have HTQ := Lib.hid ht
          by_cases hjc : j < c
          · obtain ⟨bb, off, rfl, hbm, hcw0⟩ := HROW.out j (by have := HC.out; omega)
            have hck : wr.cell? ⟨g, k, none⟩ = some (.slice (some ⟨bb, off, none⟩) c ca2) := by
              rw [World.cell?_of_block (w := w5) (w' := wr) (a := ⟨g, k, none⟩) (ht.block g (by omega))]
              exact HCK.out
            have hcw : ∀ i, i < c → wr.cell? ⟨bb, off + i, none⟩ = some (.int .i64 (L.getD i 0)) := fun i hi => by
              rw [World.cell?_of_block (w := w5) (w' := wr) (a := ⟨bb, off + i, none⟩) (ht.block bb (by omega))]
              exact hcw0 i (by have := HC.out; omega)
            obtain ⟨t, htn, hte⟩ := HRNG.out j (by have := HC.out; omega)
            have hjm : (j + 1) % c < c := Nat.mod_lt _ (by omega)
            have hc1 := hcw j hjc
            have hcn := hcw _ hjm
            rw [hte] at hc1
            obtain ⟨y, hy⟩ : ∃ y, y = L.getD ((j + 1) % c) 0 := ⟨_, rfl⟩
            obtain ⟨i2, hi2⟩ : ∃ i2, i2 = (j + 1) % c := ⟨_, rfl⟩
            rw [← hy, ← hi2] at hcn
            rw [← hi2] at hjm
            have hmod : ((j : Int) + 1).tmod (c : Int) = (i2 : Int) := by
              rw [hi2, Int.tmod_eq_emod_of_nonneg (by omega)]
              simp
            have hfz := own_frozen hown t
            have hll : n = (ofIn (ofTo xs k) L j).length := by rw [ofIn_length, ofTo_length, HN.out]
            obtain ⟨v0, hv0⟩ : ∃ v0, wr.cell? ⟨m, t, none⟩ = some v0 := ⟨_, own_cell hown t (by omega)⟩
            obtain ⟨hst, hgst⟩ := own_stored hown hll t y
            have hst' : Own (wr.setCell ⟨m, t, none⟩ (.int .i64 y)) m (.slice (some ⟨m, 0, none⟩) n n) (ofIn (ofTo xs k) L (j + 1)) := by
              rw [ofIn, hte, Int.toNat_natCast, ← HC.out, ← hy]
              exact hst
            have htt : Touch w5 (wr.setCell ⟨m, t, none⟩ (.int .i64 y)) m (m + 1) := ht.trans (touch_of_grown (v := .slice (some ⟨m, 0, none⟩) n n) hgst (by simp [World.setCell]) (fun q hq => by cases hq; exact ⟨Nat.le_refl _, Nat.lt_succ_self _⟩))
            have HST := Lib.hid hst'
            have HTT := Lib.hid htt
            have hgm2 : g ≠ m := by omega
            have hc0 : ¬ (c : Int) = 0 := by omega
            have hc2 : ((c : Int) == 0) = false := by simp; omega
            have d1 : (k : Int) < (p : Int) := by omega
            have d2 : (t : Int) < (n : Int) := by omega
            have d3 : (j : Int) < (c : Int) := by omega
            have d4 : (i2 : Int) < (c : Int) := by omega
            have d5 : (0 : Int) ≤ (k : Int) := by omega
            have d6 : (0 : Int) ≤ (t : Int) := by omega
            have d7 : (0 : Int) ≤ (j : Int) := by omega
            have d8 : (0 : Int) ≤ (i2 : Int) := by omega
            clear hcw hcw0 hte hy hi2 hst hst' hgst hown hll htt ht
            go_wp2
            go_region
            go_wp2
            go_roundw
            case rel => exact ⟨j + 1, by omega, by go_num, HST.out, ⟨HTT.out.os, HTT.out.tape, HTT.out.output, HTT.out.size, HTT.out.block⟩⟩
            case measure => simp [intOf]; omega
          · have hjc : j = c := by omega
            subst hjc
            have HOWN := Lib.hid hown
            have htf := HT.out.trans ht
            have HTF := Lib.hid htf
            clear hown htf ht
            go_wp2
            go_roundw
            case rel => exact ⟨k + 1, by omega, by go_num, by rw [HOF.out, ← HC.out]; exact HOWN.out, HTF.out⟩
            case measure => simp [intOf]; omega
      · have hkp : k = p := by omega
        subst hkp
        have hbw : Below w.heap.size w wr := HB1.out.trans (HB2.out.mono (by have := HM.out; omega)) |>.trans ⟨ht.os, ht.tape, ht.output, Nat.le_of_eq ht.size.symm, fun q hq => ht.block q (by have := HM.out; omega)⟩
        have hown2 : Own wr w.heap.size (.slice (some ⟨m, 0, none⟩) n n) (ofTo xs k) := own_mono hown (by have := HM.out; omega)
        have HOWN := Lib.hid hown2
        have HBW := Lib.hid hbw
        clear hown hown2 hbw ht
        go_wp2
        go_ret2
        exact ⟨_, rfl, HOWN.out, HBW.out⟩
  · have hp : partIn xs = false := by simpa using hp
    have he : ringOf xs = ([], false) := by simp [ringOf, hp]
    rw [he]
    have HP := Lib.hid hp
    clear he hp
    go_enter Tryd.func22, Tryd.ntmps22
    go_wp2_with fail
    refine (sPartIn_is false _ _ _ HV.out HP).mono ?_
    rintro e w' ⟨rfl, rfl⟩
    go_wp2
    go_ret2
    exact ⟨_, rfl, own_empty _ _ (Nat.le_refl _), (Below.refl _ _).alloc (Nat.le_refl _) _⟩

end Go.Proofs.YtdeeeiimlcggpaaDoor
