/-
  What the laws of this claim lean on: what functions of the program and of the model answer, one after another, and plain mathematics. No condition.
-/
import Derived.Test.YtmflecemkodklaaGreatDoorMjA
import Derived.Test.YtmflecemkodklaaGreatDoorMjB
import Derived.Test.YtmflecemkodklaaGreatDoorMjC
import Derived.Test.YtmflecemkodklaaGreatDoorMjD
import Derived.Deep.RegionHeld3
import Derived.BigRegion
import Derived.StillTailTactics
import Derived.Shelf.Strings.Builder1
import Derived.Shelf.Strings.Builder2
import Derived.Shelf.Strings.OnBuilder
import Derived.Shelf.Strings.BuilderF
import Derived.Shelf.Strings.BuilderK
import Derived.Shelf.LaysM
import Derived.Shelf.Strconv.Itoa3
import Derived.Shelf.Strings.Search3
import Derived.Shelf.Strings.Cut
import Derived.Shelf.Strings.Split
import Derived.Test.YtmflecemkodklaaGreatDoorProg
import Derived.Lib.SmallJoins
import Derived.Lib.AppendIntMem
import Derived.Maps.OwnSet
import Derived.StringKeys
import Derived.Laws.EntriesVeiled

set_option linter.unusedVariables false
set_option linter.unusedSimpArgs false
set_option linter.unnecessarySimpa false
set_option maxRecDepth 100000

namespace Go.Proofs.YtmflecemkodklaaGreatDoor

section
open Go.RowKit

def ofIn (s L : List Int) : Nat → List Int
  | 0 => s
  | i + 1 => (ofIn s L i).set (L.getD i 0).toNat (L.getD ((i + 1) % L.length) 0)
def ofTo (xs : List Int) : Nat → List Int
  | 0 => List.replicate xs.length 0
  | b + 1 => ofIn (ofTo xs b) (blkAt xs b xs.length) (blkAt xs b xs.length).length
def ringOf (xs : List Int) : List Int × Bool := if partIn xs then (ofTo xs (pSize xs).toNat, true) else ([], false)

theorem ofIn_length (s L : List Int) (i : Nat) : (ofIn s L i).length = s.length := by
  induction i with
  | zero => rfl
  | succ i ih => rw [ofIn, List.length_set, ih]
theorem ofTo_length (xs : List Int) (b : Nat) : (ofTo xs b).length = xs.length := by
  induction b with
  | zero => simp [ofTo]
  | succ b ih => rw [ofTo, ofIn_length, ih]
theorem blk_rng (xs : List Int) (b : Nat) : ∀ k i, i < (blkAt xs b k).length → ∃ t : Nat, t < k ∧ (blkAt xs b k).getD i 0 = t := by
  intro k
  induction k with
  | zero => intro i hi; simp [blkAt] at hi
  | succ k ih =>
    intro i hi
    unfold blkAt at hi ⊢
    split at hi
    · rename_i h
      rw [if_pos h]
      simp at hi
      by_cases hl : i < (blkAt xs b k).length
      · rw [getD_snoc_lt _ _ _ hl]
        obtain ⟨t, h1, h2⟩ := ih i hl
        exact ⟨t, by omega, h2⟩
      · obtain rfl : i = (blkAt xs b k).length := by omega
        rw [getD_snoc_eq]
        exact ⟨k, by omega, rfl⟩
    · rename_i h
      rw [if_neg h]
      obtain ⟨t, h1, h2⟩ := ih i hi
      exact ⟨t, by omega, h2⟩

theorem ownU_grown {w w' : World} {B g n cap m : Nat} {ms : List Nat} (h : OwnU w B (.slice (some ⟨g, 0, none⟩) n cap) ms) (hg : w.grownBy w' (some m)) (hne : g ≠ m) : OwnU w' B (.slice (some ⟨g, 0, none⟩) n cap) ms :=
  World.ownsRow.kept h hg (.inr (by simpa [Value.ownBlock] using hne))

set_option maxHeartbeats 3200000 in
theorem permutationOf_v (v : Value) (xs : List Int) (w : World) (hT : Tab w) (hv : RdV w v xs) (hp : partIn xs = true) :
    Calls Tryz.prog 269 #[v] w fun e w' => ∃ g : Nat, e = .returned (.agg #[.slice (some ⟨g, 0, none⟩) xs.length xs.length]) ∧ Own w' w.heap.size (.slice (some ⟨g, 0, none⟩) xs.length xs.length) (ofTo xs (pSize xs).toNat) ∧ Below w.heap.size w w' := by
  have hv0 := hv
  obtain ⟨ao, ca, rfl, h, h1, h2⟩ := hv
  unfold maxLen at h2
  have HV := Lib.hid hv0
  have hl := partIn_len hp
  have hsm := partIn_small hp
  have hbd := pSize_bd hsm
  obtain ⟨p, hps⟩ := Int.eq_ofNat_of_zero_le hbd.1
  rw [hps, Int.toNat_natCast]
  rw [hps] at hbd
  have HPS := Lib.hid hps
  have HP := Lib.hid hp
  obtain ⟨n, hn⟩ : ∃ n, n = xs.length := ⟨_, rfl⟩
  rw [← hn] at h1 hl HV ⊢
  have HN := Lib.hid hn
  clear hv0 h hp hsm hps hn
  obtain ⟨hl1, hl8⟩ := hl
  obtain ⟨i0, hi, hz0, hz1, hz2⟩ := info_parts Tryz.infoInt
  have hb0 : Below w.heap.size w (w.alloc (.cells #[.slice none 0 0] 168)) := (Below.refl _ _).alloc (Nat.le_refl _) _
  have hg0 : (w.alloc (.cells #[.slice none 0 0] 168)).cell? ⟨w.heap.size, 0, none⟩ = some (.slice none 0 0) := by simp
  have hf0 : (w.alloc (.cells #[.slice none 0 0] 168)).frozen? ⟨w.heap.size, 0, none⟩ = false := by simp
  have hs0 : (w.alloc (.cells #[.slice none 0 0] 168)).heap.size = w.heap.size + 1 := by simp
  have HB0 := Lib.hid hb0
  have HG0 := Lib.hid hg0
  have HF0 := Lib.hid hf0
  have HS0 := Lib.hid hs0
  clear hb0 hg0 hf0 hs0
  go_enter Tryz.func269, Tryz.ntmps269
  go_wp2_with (at_make; refine wpList_make_full _ rfl _ _ 166 rfl (w.heap.size + 1) 3 i0 (.int .i64 0) 1 Tryz.underlying166 hi hz0 hz1 _ _ _ _ n rfl rfl rfl rfl (by rw [hz2]; omega) (by unfold maxLen; omega) (by rw [HS0.out]; exact Nat.le_refl _) ?_)
  intro w2 hown2 hgrow2
  obtain ⟨w1, hw1⟩ : ∃ w1, w1 = w.alloc (.cells #[.slice none 0 0] 168) := ⟨_, rfl⟩
  have hb0 := HB0.out
  have hg0 := HG0.out
  have hf0 := HF0.out
  have hs0 := HS0.out
  rw [← hw1] at hb0 hg0 hf0 hs0 hgrow2
  have hb2 : Below (w.heap.size + 1) w1 w2 := (Below.refl _ _).grown hgrow2 (by omega) (fun k h => by cases h)
  have hown := own_made hown2
  clear hown2 hgrow2 HB0 HG0 HF0 HS0 hw1
  obtain ⟨m, hm⟩ : ∃ m, m = w.heap.size + 1 := ⟨_, rfl⟩
  obtain ⟨r, hr⟩ : ∃ r, r = w.heap.size := ⟨_, rfl⟩
  rw [← hm] at hown hb2 ⊢
  have hrm : r < m := by omega
  have HM : Hid (m = w.heap.size + 1) := Lib.hid hm
  have HR : Hid (r = w.heap.size) := Lib.hid hr
  have HB0 := Lib.hid hb0
  have HG0 : Hid (w1.cell? ⟨r, 0, none⟩ = some (.slice none 0 0)) := Lib.hid (by rw [hr]; exact hg0)
  have HF0 : Hid (w1.frozen? ⟨r, 0, none⟩ = false) := Lib.hid (by rw [hr]; exact hf0)
  have hms : m < w2.heap.size := (own_lt hown m rfl).2
  have HO2 := Lib.hid hown
  have HB2 := Lib.hid hb2
  have hbw2 : Below w.heap.size w w2 := HB0.out.trans (hb2.mono (by omega))
  have HBW2 := Lib.hid hbw2
  clear hg0 hf0 hs0 hb0 hm hown hb2 hbw2
  rw [← hr]
  clear hr
  go_wp2_with fail
  refine (blocksOf_v _ xs p _ (rdv_below HV.out HBW2.out) HP.out HPS.out).mono ?_
  rintro e w3 ⟨rfl, hu3, hb3⟩
  have HU3 := Lib.hid hu3
  have HO3 := Lib.hid (own_below HO2.out hb3)
  have hb13 : Below m w1 w3 := HB2.out.trans (hb3.mono (by omega))
  have HB13 := Lib.hid hb13
  obtain ⟨q, hq⟩ : ∃ q, q = w2.heap.size := ⟨_, rfl⟩
  have HQ := Lib.hid hq
  rw [← hq] at HU3 hms ⊢
  clear hq hu3 hb3 hb13
  go_wp2
  go_loopw [15] (fun i wr => ∃ k : Nat, k ≤ p ∧ i = .int .i64 k ∧ Own wr m (.slice (some ⟨m, 0, none⟩) n n) (ofTo xs k) ∧ OwnU wr q (.slice (some ⟨q, 0, none⟩) p p) (masks xs xs.length p) ∧ Below m w1 wr)
    (fun i _ => p - (intOf i).toNat)
  case atStart => exact ⟨0, Nat.zero_le _, rfl, by have := HO3.out; rw [ofTo, ← HN.out]; exact this, HU3.out, HB13.out⟩
  case round =>
    obtain ⟨k, hk, rfl, hown, hu, hbel⟩ := hrel
    have hbelw : Below w.heap.size w wr := HB0.out.trans (hbel.mono (by have := HM.out; omega))
    by_cases hlt : k < p
    · have hml : (masks xs xs.length p).length = p := by simp [masks]
      have hcm := ownU_cell hu hml.symm k (by omega)
      have hgm : (masks xs xs.length p).getD k 0 = maskAt xs k xs.length := by simp [masks, List.getD, hlt]
      rw [hgm] at hcm
      have hm256 := maskAt_256 xs k xs.length (by rw [← HN.out]; exact hl8)
      have hbits := (bits_mask xs k xs.length (by rw [← HN.out]; exact hl8)).1
      have hrng := blk_rng xs k xs.length
      have hof : ofTo xs (k + 1) = ofIn (ofTo xs k) (blkAt xs k xs.length) (blkAt xs k xs.length).length := rfl
      have hc8 : (blkAt xs k xs.length).length ≤ 8 := by rw [blkAt_length]; have := cntAt_le xs k xs.length; have := HN.out; omega
      obtain ⟨mk, hmk⟩ : ∃ mk, mk = maskAt xs k xs.length := ⟨_, rfl⟩
      obtain ⟨L, hL⟩ : ∃ L, L = blkAt xs k xs.length := ⟨_, rfl⟩
      rw [← hmk] at hcm hm256 hbits
      rw [← hL] at hbits hrng hof hc8
      rw [← HN.out] at hrng
      have HRNG := Lib.hid hrng
      have HOF := Lib.hid hof
      have HBITS := Lib.hid hbits
      have HOW := Lib.hid hown
      have HUW := Lib.hid hu
      have hmq : m < wr.heap.size := (own_lt hown m rfl).2
      clear hml hgm hmk hL hrng hof hbits hown hu
      go_wp2_with fail
      refine (list_any mk _ (tab_below hT hbelw) hm256).mono ?_
      rw [HBITS.out]
      rintro e w4 ⟨u, rfl, ho4, hb4⟩
      obtain ⟨ao2, ca2, rfl, hrd, _, _, hbk⟩ := own_rd ho4
      have HBK : Hid (∀ a : Addr, ao2 = some a → m < a.block) := Lib.hid (fun a ha => by have := (hbk a ha).1; omega)
      obtain ⟨c, hc⟩ : ∃ c, c = L.length := ⟨_, rfl⟩
      rw [← hc] at hc8 ⊢
      have HC := Lib.hid hc
      have HRD := Lib.hid hrd
      have HB4 := Lib.hid hb4
      have HO4 := Lib.hid (own_below HOW.out hb4)
      have HU4 := Lib.hid (ownU_below HUW.out hb4)
      have hmw4 : m < w4.heap.size := (own_lt HO4.out m rfl).2
      clear hc hrd hb4 ho4 hbk
      go_wp2
      go_loopw [23] (fun i wq => ∃ j : Nat, j ≤ c ∧ i = .int .i64 j ∧ Own wq m (.slice (some ⟨m, 0, none⟩) n n) (ofIn (ofTo xs k) L j) ∧ w4.grownBy wq (some m) ∧ wq.heap.size = w4.heap.size)
        (fun i _ => c - (intOf i).toNat)
      case atStart => exact ⟨0, Nat.zero_le _, rfl, HO4.out, World.grownBy.refl _ _, rfl⟩
      case round =>
        obtain ⟨j, hj, rfl, hown, hgr, hsz⟩ := hrel
        have HGR := Lib.hid hgr
        have HSZ := Lib.hid hsz
        clear hgr hsz
        by_cases hjc : j < c
        · rcases HRD.out with hx | ⟨bb, off, rfl, hcx⟩
          · have := HC.out
            rw [hx] at this
            simp at this
            omega
          · have hbm : bb ≠ m := by
              have : m < bb := HBK.out _ rfl
              omega
            have hcw : ∀ i, i < c → wr.cell? ⟨bb, off + i, none⟩ = some (.int .i64 (L.getD i 0)) := fun i hi => by
              exact HGR.out.cell (hcx i (by have := HC.out; omega)) (by simpa using hbm)
            obtain ⟨t, ht, hte⟩ := HRNG.out j (by have := HC.out; omega)
            have hjm : (j + 1) % c < c := Nat.mod_lt _ (by omega)
            have hck := hcw j hjc
            have hcn := hcw _ hjm
            rw [hte] at hck
            obtain ⟨y, hy⟩ : ∃ y, y = L.getD ((j + 1) % c) 0 := ⟨_, rfl⟩
            obtain ⟨i2, hi2⟩ : ∃ i2, i2 = (j + 1) % c := ⟨_, rfl⟩
            rw [← hy, ← hi2] at hcn
            rw [← hi2] at hjm
            have hmod : ((j : Int) + 1).tmod (c : Int) = (i2 : Int) := by
              rw [hi2, Int.tmod_eq_emod_of_nonneg (by omega)]
              simp
            have hfz := own_frozen hown t
            have hll : n = (ofIn (ofTo xs k) L j).length := by rw [ofIn_length, ofTo_length, HN.out]
            obtain ⟨v0, hv0⟩ : ∃ v0, wr.cell? ⟨m, t, none⟩ = some v0 := ⟨_, own_cell hown t (by omega)⟩
            obtain ⟨hst, hgst⟩ := own_stored hown hll t y
            have hst' : Own (wr.setCell ⟨m, t, none⟩ (.int .i64 y)) m (.slice (some ⟨m, 0, none⟩) n n) (ofIn (ofTo xs k) L (j + 1)) := by
              rw [ofIn, hte, Int.toNat_natCast, ← HC.out, ← hy]
              exact hst
            have HST := Lib.hid hst'
            have HGS := Lib.hid hgst
            have hc0 : ¬ (c : Int) = 0 := by omega
            have hc1 : ((c : Int) == 0) = false := by simp; omega
            clear hcx hcw hte hy hi2 hst hst' hgst hown hll
            go_wp2
            go_roundw
            case rel => exact ⟨j + 1, by omega, by go_num, HST.out, grown_trans HGR.out HGS.out, by have := HSZ.out; simpa [World.setCell] using this⟩
            case measure => simp [intOf]; omega
        · have hjc : j = c := by omega
          subst hjc
          have hbel4 : Below m w1 w4 := hbel.trans (HB4.out.mono (by omega))
          have hbelq : Below m w1 wr := hbel4.grown HGR.out (by omega) (fun k hk => by cases hk; exact Nat.le_refl _)
          have HBQ := Lib.hid hbelq
          have HOWN := Lib.hid hown
          have HUQ := Lib.hid (ownU_grown HU4.out HGR.out (by omega))
          clear hown hbel4 hbelq
          go_wp2
          go_roundw
          case rel => exact ⟨k + 1, by omega, by go_num, by rw [HOF.out, ← HC.out]; exact HOWN.out, HUQ.out, HBQ.out⟩
          case measure => simp [intOf]; omega
    · have hkp : k = p := by omega
      subst hkp
      have hcr : wr.cell? ⟨r, 0, none⟩ = some (.slice none 0 0) := by rw [hbel.cell (by simpa using hrm)]; exact HG0.out
      have hfr : wr.frozen? ⟨r, 0, none⟩ = false := by rw [hbel.frozen (by simpa using hrm)]; exact HF0.out
      have hos : Own (wr.setCell ⟨r, 0, none⟩ (.slice (some ⟨m, 0, none⟩) n n)) w.heap.size (.slice (some ⟨m, 0, none⟩) n n) (ofTo xs k) := own_mono (own_grown hown (grownBy_setCell' wr r _) (.inr (by simp [Value.ownBlock]; omega))) (by have := HM.out; omega)
      have hbs : Below w.heap.size w (wr.setCell ⟨r, 0, none⟩ (.slice (some ⟨m, 0, none⟩) n n)) := Below.setCell (p := ⟨r, 0, none⟩) hbelw (by show w.heap.size ≤ r; have := HR.out; omega) _
      have hcs : (wr.setCell ⟨r, 0, none⟩ (.slice (some ⟨m, 0, none⟩) n n)).cell? ⟨r, 0, none⟩ = some (.slice (some ⟨m, 0, none⟩) n n) := World.cell?_setCell_same' wr _ _ (by rw [hcr]; rfl)
      have HOS := Lib.hid hos
      have HBS := Lib.hid hbs
      clear hown hu hbel hbelw hos hbs
      go_wp2
      refine bodyPost_ret (v := .agg #[.slice (some ⟨m, 0, none⟩) n n]) (by simp [results, Tryz.results269, go_sem, hcs, Result.andThen]) rfl ⟨_, rfl, HOS.out, HBS.out⟩

theorem fieldPerm (a : Option Addr) (l c : Nat) (w : World) : (Instr.field 168 (.agg #[.slice a l c]) 0).run Tryz.prog w = .ok (.slice a l c) w := by kernel_rfl

theorem iRingOf_v (v : Value) (xs : List Int) (w : World) (hT : Tab w) (hv : RdV w v xs) : Calls Tryz.prog 215 #[v] w (FreshLB w (ringOf xs)) := by
  have HV := Lib.hid hv
  obtain ⟨ao, ca, rfl, h, h1, h2⟩ := hv
  clear h
  by_cases hp : partIn xs = true
  · have he : ringOf xs = (ofTo xs (pSize xs).toNat, true) := by simp [ringOf, hp]
    rw [he]
    have HP := Lib.hid hp
    clear he hp
    go_enter Tryz.func215, Tryz.ntmps215
    go_wp2_with fail
    refine (iPartIn_is true _ _ _ HV.out HP).mono ?_
    rintro e w' ⟨rfl, rfl⟩
    go_wp2_with fail
    refine (permutationOf_v _ xs _ hT HV.out HP.out).mono ?_
    rintro e w2 ⟨g, rfl, ho, hb⟩
    have HO := Lib.hid ho
    clear ho
    have hfp := fieldPerm (some ⟨g, 0, none⟩) xs.length xs.length
    go_wp2
    go_ret2
    exact ⟨_, rfl, HO.out, hb⟩
  · have hp : partIn xs = false := by simpa using hp
    have he : ringOf xs = ([], false) := by simp [ringOf, hp]
    rw [he]
    have HP := Lib.hid hp
    clear he hp
    go_enter Tryz.func215, Tryz.ntmps215
    go_wp2_with fail
    refine (iPartIn_is false _ _ _ HV.out HP).mono ?_
    rintro e w' ⟨rfl, rfl⟩
    go_wp2
    go_ret2
    exact ⟨_, rfl, own_nil _ _, Below.refl _ _⟩
end

section
open Go.RowKit

def facR : Nat → Nat
  | 0 => 1
  | k + 1 => (k + 1) * facR k

theorem facR_mono {a b : Nat} (h : a ≤ b) : facR a ≤ facR b := by
  induction b with
  | zero => obtain rfl : a = 0 := by omega
            exact Nat.le_refl _
  | succ b ih =>
    by_cases e : a = b + 1
    · rw [e]; exact Nat.le_refl _
    · exact Nat.le_trans (ih (by omega)) (Nat.le_mul_of_pos_left _ (Nat.succ_pos b))
theorem facR_mul (a b : Nat) : facR a * facR b ≤ facR (a + b) := by
  induction b with
  | zero => simp [facR]
  | succ b ih =>
    show facR a * ((b + 1) * facR b) ≤ (a + b + 1) * facR (a + b)
    rw [Nat.mul_left_comm]
    exact Nat.mul_le_mul (by omega) ih

def facP (l : List Int) : Nat := l.foldr (fun x a => facR (x - 1).toNat * a) 1
def sumN (l : List Int) : Nat := l.foldr (fun x a => x.toNat + a) 0

theorem facP_append (l m : List Int) : facP (l ++ m) = facP l * facP m := by
  induction l with
  | nil => simp [facP]
  | cons x l ih =>
    show facR (x - 1).toNat * facP (l ++ m) = facR (x - 1).toNat * facP l * facP m
    rw [ih, Nat.mul_assoc]
theorem facP_snoc (l : List Int) (x : Int) : facP (l ++ [x]) = facP l * facR (x - 1).toNat := by
  rw [facP_append]
  simp [facP]
theorem sumN_append (l m : List Int) : sumN (l ++ m) = sumN l + sumN m := by
  induction l with
  | nil => simp [sumN]
  | cons x l ih =>
    show x.toNat + sumN (l ++ m) = x.toNat + sumN l + sumN m
    rw [ih, Nat.add_assoc]
theorem facP_le (l : List Int) : facP l ≤ facR (sumN l) := by
  induction l with
  | nil => exact Nat.le_refl _
  | cons x l ih =>
    show facR (x - 1).toNat * facP l ≤ facR (x.toNat + sumN l)
    exact Nat.le_trans (Nat.mul_le_mul (Nat.le_refl _) ih) (Nat.le_trans (facR_mul _ _) (facR_mono (by omega)))
theorem sumN_take (l : List Int) (k : Nat) : sumN (l.take k) ≤ sumN l := by
  have := sumN_append (l.take k) (l.drop k)
  rw [List.take_append_drop] at this
  omega

theorem facR8 : facR 8 = 40320 := by decide

theorem facP_way (l : List Int) (k o : Nat) (hk : k < l.length) (ho : o ≤ (l.getD k 0).toNat) (hs : sumN l ≤ 8) : facP (l.take k) * facR o ≤ 40320 := by
  have h1 := take_snoc l k hk
  have h2 := sumN_take l (k + 1)
  rw [h1, sumN_append] at h2
  have h3 : sumN [l.getD k 0] = (l.getD k 0).toNat := by simp [sumN]
  rw [← facR8]
  exact Nat.le_trans (Nat.mul_le_mul (facP_le _) (Nat.le_refl _)) (Nat.le_trans (facR_mul _ _) (facR_mono (by omega)))

theorem ind_sum (x p : Nat) : ((List.range p).map fun b => if x = b then 1 else 0).sum = if x < p then 1 else 0 := by
  induction p with
  | zero => simp
  | succ p ih =>
    rw [List.range_succ, List.map_append, List.sum_append, ih]
    simp only [List.map_cons, List.map_nil, List.sum_cons, List.sum_nil]
    split <;> split <;> split <;> omega
theorem map_sum_add (l : List Nat) (f g : Nat → Nat) : (l.map fun b => f b + g b).sum = (l.map f).sum + (l.map g).sum := by
  induction l with
  | nil => rfl
  | cons a l ih => simp only [List.map_cons, List.sum_cons, ih]; omega
theorem cnt_sum (xs : List Int) (p : Nat) : ∀ k, (∀ j, j < k → 0 ≤ xs.getD j 0 ∧ xs.getD j 0 < p) → ((List.range p).map fun b => cntAt xs b k).sum = k := by
  intro k
  induction k with
  | zero =>
    intro _
    have : ∀ l : List Nat, (l.map fun b => cntAt xs b 0).sum = 0 := by
      intro l
      induction l with
      | nil => rfl
      | cons a l ih => simp only [List.map_cons, List.sum_cons, ih]; rfl
    exact this _
  | succ k ih =>
    intro h
    obtain ⟨h0, h1⟩ := h k (by omega)
    obtain ⟨x, hx⟩ := Int.eq_ofNat_of_zero_le h0
    have e : (fun b => cntAt xs b (k + 1)) = fun b => cntAt xs b k + if x = b then 1 else 0 := by
      funext b
      rw [cntAt, hx]
      by_cases hb : x = b
      · simp [hb]
      · have : ¬ (x : Int) = (b : Int) := by omega
        simp [hb, this]
    rw [e, map_sum_add, ih (fun j hj => h j (by omega)), ind_sum, if_pos (by omega)]

theorem sizes_sumN {xs : List Int} (hp : partIn xs = true) : sumN (sizes xs) = xs.length := by
  have hs := partIn_small hp
  have hbd := pSize_bd hs
  have := cnt_sum xs (pSize xs).toNat xs.length (fun j hj => ⟨(hs j hj).1, by have := lt_pSize xs j hj; omega⟩)
  rw [← this]
  unfold sizes
  generalize List.range (pSize xs).toNat = l
  induction l with
  | nil => rfl
  | cons a l ih =>
    show ((cntAt xs a xs.length : Nat) : Int).toNat + sumN _ = _
    rw [ih]
    simp

def ringCount (xs : List Int) : Int × Bool := if partIn xs then ((facP (sizes xs) : Nat), true) else (0, false)

set_option maxHeartbeats 3200000 in
theorem iRingCount_v (v : Value) (xs : List Int) (w : World) (hv : RdV w v xs) : Calls Tryz.prog 216 #[v] w (GivesIB w (ringCount xs)) := by
  have hv0 := hv
  obtain ⟨ao, ca, rfl, h, h1, h2⟩ := hv
  unfold maxLen at h2
  have HV := Lib.hid hv0
  clear hv0 h
  by_cases hp : partIn xs = true
  · have he : ringCount xs = (((facP (sizes xs) : Nat) : Int), true) := by simp [ringCount, hp]
    rw [he]
    have HP := Lib.hid hp
    have hsum := sizes_sumN hp
    have hsm := partIn_small hp
    have hbd := pSize_bd hsm
    have hl := partIn_len hp
    rw [hsum.symm] at hl
    obtain ⟨p, hps⟩ := Int.eq_ofNat_of_zero_le hbd.1
    rw [hps] at hbd
    have HPS := Lib.hid hps
    have hsl : (sizes xs).length = p := by rw [sizes_length]; omega
    have hsz : ∀ b, b < p → (sizes xs).getD b 0 = ((cntAt xs b xs.length : Nat) : Int) := by
      intro b hb
      have : b < (pSize xs).toNat := by omega
      simp [sizes, List.getD, this]
    obtain ⟨l, hle⟩ : ∃ l, l = sizes xs := ⟨_, rfl⟩
    rw [← hle] at hl hsl hsz ⊢
    have HSL := Lib.hid hsl
    have HSZ := Lib.hid hsz
    have HSUM : Hid (sumN l ≤ 8) := Lib.hid hl.2
    have HXL : Hid (xs.length ≤ 8) := Lib.hid (partIn_len hp).2
    clear he hp hsum hsm hps hsl hsz hle hl
    go_enter Tryz.func216, Tryz.ntmps216
    go_wp2_with fail
    refine (iPartIn_is true _ _ _ HV.out HP).mono ?_
    rintro e w' ⟨rfl, rfl⟩
    go_wp2_with fail
    refine (blocksOf_v _ xs p _ HV.out HP.out HPS.out).mono ?_
    rintro e w2 ⟨rfl, hu2, hb2⟩
    have HU := Lib.hid hu2
    have HB := Lib.hid hb2
    clear hu2 hb2
    go_wp2
    go_loopw [4, 14] (fun u i wr => ∃ k : Nat, k ≤ p ∧ i = .int .i64 k ∧ u = .int .i64 ((facP (l.take k) : Nat) : Int) ∧ wr = w2) (fun _ i _ => p - (intOf i).toNat)
    case atStart => exact ⟨0, Nat.zero_le _, rfl, rfl, rfl⟩
    case round =>
      obtain ⟨k, hk, rfl, rfl, rfl⟩ := hrel
      by_cases hlt : k < p
      · have hml : (masks xs xs.length p).length = p := by simp [masks]
        have hcm := ownU_cell HU.out hml.symm k (by omega)
        have hgm : (masks xs xs.length p).getD k 0 = maskAt xs k xs.length := by simp [masks, List.getD, hlt]
        rw [hgm] at hcm
        have hm256 := maskAt_256 xs k xs.length HXL.out
        have hcnt := cnt_mask xs k xs.length HXL.out
        have hz := HSZ.out k hlt
        obtain ⟨m, hm⟩ : ∃ m, m = maskAt xs k xs.length := ⟨_, rfl⟩
        obtain ⟨c, hc⟩ : ∃ c, c = cntAt xs k xs.length := ⟨_, rfl⟩
        rw [← hm] at hcm hm256 hcnt
        rw [← hc] at hcnt hz
        have hway : ∀ o, o ≤ c → facP (l.take k) * facR o ≤ 40320 := fun o ho => facP_way l k o (by rw [HSL.out]; exact hlt) (by rw [hz]; simpa using ho) HSUM.out
        have hend : facP (l.take (k + 1)) = facP (l.take k) * facR (c - 1) := by
          rw [take_snoc l k (by rw [HSL.out]; exact hlt), facP_snoc, hz]
          congr 2
          omega
        have hc8 : c ≤ 8 := by rw [← hcnt]; exact (show ∀ b, b < 256 → cnt b ≤ 8 by decide +kernel) m hm256
        obtain ⟨f, hf⟩ : ∃ f, f = facP (l.take k) := ⟨_, rfl⟩
        rw [← hf] at hway hend ⊢
        have HWAY := Lib.hid hway
        have HEND := Lib.hid hend
        have HCNT := Lib.hid hcnt
        have HF := Lib.hid hf
        clear hml hgm hz hm hc hway hend hcnt hf
        obtain ⟨w3, hw3⟩ : ∃ w3 : World, w3 = wr := ⟨_, rfl⟩
        subst hw3
        go_wp2
        go_loopw [4, 7] (fun u i wq => ∃ o : Nat, (o = 0 ∨ o + 1 ≤ c) ∧ i = .int .i64 ((o + 1 : Nat) : Int) ∧ u = .int .i64 ((f * facR o : Nat) : Int) ∧ wq = w3) (fun _ i _ => 10 - (intOf i).toNat)
        case atStart => exact ⟨0, .inl rfl, rfl, by simp [facR], rfl⟩
        case round =>
          obtain ⟨o, ho, rfl, rfl, rfl⟩ := hrel
          obtain ⟨j, hj⟩ : ∃ j, j = o + 1 := ⟨_, rfl⟩
          rw [← hj]
          have hb1 : f * facR o ≤ 40320 := HWAY.out o (by omega)
          by_cases hjc : j < c
          · have hb2 : f * facR j ≤ 40320 := HWAY.out j (by omega)
            have e2 : ((f * facR o : Nat) : Int) * (j : Int) = ((f * facR j : Nat) : Int) := by
              rw [hj, show facR (o + 1) = (o + 1) * facR o from rfl, ← Nat.mul_assoc, Nat.mul_right_comm, ← Int.natCast_mul]
            have HW : Hid (wrap64 (((f * facR o : Nat) : Int) * (j : Int)) = ((f * facR j : Nat) : Int)) := Lib.hid (by rw [e2]; exact IntWalk.wrap64_in _ (by omega))
            obtain ⟨a, ha⟩ : ∃ a, a = f * facR o := ⟨_, rfl⟩
            obtain ⟨b, hb⟩ : ∃ b, b = f * facR j := ⟨_, rfl⟩
            rw [← ha] at hb1 HW ⊢
            rw [← hb] at hb2 HW
            have HBB := Lib.hid hb
            have hj8 : j ≤ 8 := by omega
            have hjc' : (j : Int) < (c : Int) := by omega
            clear e2 ho hj ha hb
            go_wp2_with fail
            refine (size_any m _ hm256).mono ?_
            rintro e w' ⟨rfl, rfl⟩
            rw [HCNT.out]
            go_wp2
            go_roundw
            case rel => exact ⟨j, .inr (by omega), by go_num, by first | rw [HW.out, HBB.out] | rw [HBB.out, HW.out], trivial⟩
            case measure => simp [intOf]; omega
          · have hoe : facR o = facR (c - 1) := by
              rcases ho with rfl | ho
              · rcases (show c - 1 = 0 by omega) with h
                rw [h]
              · rw [show o = c - 1 by omega]
            have hend := HEND.out
            rw [← hoe] at hend
            have HEND2 := Lib.hid hend
            obtain ⟨a, ha⟩ : ∃ a, a = f * facR o := ⟨_, rfl⟩
            rw [← ha] at hb1 HEND2 ⊢
            have hjc' : ¬ (j : Int) < (c : Int) := by omega
            clear hend hoe ho hj ha
            go_wp2_with fail
            refine (size_any m _ hm256).mono ?_
            rintro e w' ⟨rfl, rfl⟩
            rw [HCNT.out]
            go_wp2
            go_roundw
            case rel => exact ⟨k + 1, by omega, by go_num, by rw [HEND2.out], trivial⟩
            case measure => simp [intOf]; omega
      · have hkp : k = p := by omega
        subst hkp
        have ht : l.take k = l := List.take_of_length_le (by rw [HSL.out]; exact Nat.le_refl _)
        rw [ht]
        go_wp2
        go_ret2
        exact ⟨rfl, HB.out⟩
  · have hp : partIn xs = false := by simpa using hp
    have he : ringCount xs = (0, false) := by simp [ringCount, hp]
    rw [he]
    have HP := Lib.hid hp
    clear he hp
    go_enter Tryz.func216, Tryz.ntmps216
    go_wp2_with fail
    refine (iPartIn_is false _ _ _ HV.out HP).mono ?_
    rintro e w' ⟨rfl, rfl⟩
    go_wp2
    go_ret2
    exact ⟨rfl, Below.refl _ _⟩
end

def ltP (p q : Nat × Nat) : Prop := p.1 < q.1 ∨ (p.1 = q.1 ∧ p.2 < q.2)
instance (p q : Nat × Nat) : Decidable (ltP p q) := by unfold ltP; exact inferInstance
def allP (n : Nat) : List (Nat × Nat) := (List.range n).flatMap fun i => ((List.range n).filter fun k => decide (i < k)).map fun k => (i, k)
theorem mem_allP {n i k : Nat} : (i, k) ∈ allP n ↔ i < k ∧ k < n := by
  unfold allP
  simp only [List.mem_flatMap, List.mem_map, List.mem_filter, List.mem_range, decide_eq_true_eq, Prod.mk.injEq]
  constructor
  · rintro ⟨a, ha, b, ⟨hb, hab⟩, rfl, rfl⟩
    exact ⟨hab, hb⟩
  · rintro ⟨h1, h2⟩
    exact ⟨i, by omega, k, ⟨h2, h1⟩, rfl, rfl⟩
def encP (p : Nat × Nat) : List Int := [(p.1 : Int), (p.2 : Int)]
def encPs (L : List (Nat × Nat)) : List (List Int) := L.map encP
theorem encPs_length (L : List (Nat × Nat)) : (encPs L).length = L.length := by simp [encPs]

def ofP (xs : List Int) : List (Nat × Nat) := (allP xs.length).filter fun p => xs.getD p.1 0 == xs.getD p.2 0

def selRow (f : Nat × Nat → Bool) (i k : Nat) : List (Nat × Nat) := ((List.range k).filter fun j => decide (i < j) && f (i, j)).map fun j => (i, j)
def selRows (f : Nat × Nat → Bool) (n i : Nat) : List (Nat × Nat) := (List.range i).flatMap fun r => selRow f r n

theorem selRow_start (f : Nat × Nat → Bool) (i k : Nat) (h : k ≤ i + 1) : selRow f i k = [] := by
  unfold selRow
  rw [List.map_eq_nil_iff, List.filter_eq_nil_iff]
  intro j hj
  rw [List.mem_range] at hj
  simp
  omega
theorem selRow_next (f : Nat × Nat → Bool) (i k : Nat) (h : i < k) : selRow f i (k + 1) = selRow f i k ++ if f (i, k) then [(i, k)] else [] := by
  unfold selRow
  rw [List.range_succ, List.filter_append, List.map_append]
  congr 1
  simp only [List.filter_cons, List.filter_nil, decide_eq_true h, Bool.true_and]
  cases f (i, k) <;> rfl
theorem selRows_next (f : Nat × Nat → Bool) (n i : Nat) : selRows f n (i + 1) = selRows f n i ++ selRow f i n := by
  unfold selRows
  rw [List.range_succ, List.flatMap_append]
  simp
theorem sel_all (f : Nat × Nat → Bool) (n : Nat) : (allP n).filter f = selRows f n n := by
  unfold allP selRows selRow
  rw [List.filter_flatMap]
  congr 1
  funext i
  rw [List.filter_map, List.filter_filter]
  congr 1
  apply List.filter_congr
  intro j _
  simp only [Function.comp]
  rw [Bool.and_comm]
theorem selRow_len (f : Nat × Nat → Bool) (i k : Nat) : (selRow f i k).length ≤ k := by
  unfold selRow
  rw [List.length_map]
  have := List.length_filter_le (fun j => decide (i < j) && f (i, j)) (List.range k)
  rw [List.length_range] at this
  exact this
theorem selRows_len (f : Nat × Nat → Bool) (n i : Nat) : (selRows f n i).length ≤ i * n := by
  induction i with
  | zero => simp [selRows]
  | succ i ih =>
    rw [selRows_next, List.length_append, Nat.succ_mul]
    have := selRow_len f i n
    omega
theorem sel_len (f : Nat × Nat → Bool) {n i k : Nat} (hn : n ≤ 100) (hi : i ≤ n) (hk : k ≤ n) : (selRows f n i ++ selRow f i k).length ≤ 10100 := by
  rw [List.length_append]
  have h1 := selRows_len f n i
  have h2 := selRow_len f i k
  have h3 := Nat.mul_le_mul (Nat.le_trans hi hn) hn
  omega
theorem ofP_sel (xs : List Int) : ofP xs = selRows (fun p => xs.getD p.1 0 == xs.getD p.2 0) xs.length xs.length := sel_all _ _
theorem encPs_append (L M : List (Nat × Nat)) : encPs (L ++ M) = encPs L ++ encPs M := by simp [encPs]

section
open Go.RowKit

theorem cells_two {w : World} {x y : Value} {t : TypeId} {n : Nat} (hn : n = w.heap.size) : (w.alloc (.cells #[x, y] t)).cell? ⟨n, 0, none⟩ = some x ∧ (w.alloc (.cells #[x, y] t)).cell? ⟨n, 1, none⟩ = some y := by
  subst hn
  have h := heap_alloc_new w (.cells #[x, y] t)
  simp only [World.cell?, h]
  exact ⟨rfl, rfl⟩
end

section
open Go.RowKit

def OwnP (w : World) (B : Nat) (v : Value) (L : List (Nat × Nat)) : Prop := w.ownsRow B 221 2 v L.length (arcC L)

theorem ownP_nil (w : World) (B : Nat) : OwnP w B (.slice none 0 0) [] := World.ownsRow_nil _ _ _ _
theorem ownP_alloc {w : World} {B : Nat} {v : Value} {L : List (Nat × Nat)} (h : OwnP w B v L) (o : Obj) : OwnP (w.alloc o) B v L := World.ownsRow.alloc h o
def CellsP (w : World) (b off : Nat) (L : List (Nat × Nat)) : Prop := ∀ j, j < L.length → w.cell? ⟨b, off + j * 2, none⟩ = some (.int .i64 (L.getD j (0, 0)).1) ∧ w.cell? ⟨b, off + j * 2 + 1, none⟩ = some (.int .i64 (L.getD j (0, 0)).2)
def RdP (w : World) (v : Value) (L : List (Nat × Nat)) : Prop :=
  ∃ ao cap, v = .slice ao L.length cap ∧ L.length ≤ cap ∧ cap ≤ maxLen ∧ (L = [] ∨ ∃ b off, ao = some ⟨b, off, none⟩ ∧ CellsP w b off L)
theorem ownP_view {w : World} {B : Nat} {v : Value} {L : List (Nat × Nat)} (h : OwnP w B v L) :
    (v = .slice none 0 0 ∧ L = []) ∨ ∃ g cap, v = .slice (some ⟨g, 0, none⟩) L.length cap ∧ B ≤ g ∧ g < w.heap.size ∧ L.length ≤ cap ∧ cap ≤ maxLen ∧ CellsP w g 0 L := by
  have h0 := h
  rcases h.2 with ⟨hv, hn⟩ | ⟨g, cap, cur, hv, hb, hg, hnc, hcm, hcs, htk⟩
  · exact .inl ⟨hv, List.eq_nil_of_length_eq_zero hn⟩
  · refine .inr ⟨g, cap, hv, hb, (Array.getElem?_eq_some_iff.1 hg).1, hnc, hcm, fun j hj => ?_⟩
    obtain ⟨h1, h2⟩ := arcC_at L j hj
    have hc := fun j u h => World.ownsRow.cells h0 (g := g) (by rw [hv]; rfl) j u h
    have e1 := hc _ _ h1
    have e2 := hc _ _ h2
    rw [Addr.add_lit] at e1 e2
    exact ⟨e1, by rw [show 0 + j * 2 + 1 = 0 + (j * 2 + 1) by omega]; exact e2⟩

theorem ownP_rd {w : World} {B : Nat} {v : Value} {L : List (Nat × Nat)} (h : OwnP w B v L) : RdP w v L := by
  rcases ownP_view h with ⟨rfl, rfl⟩ | ⟨g, cap, rfl, _, _, h1, h2, h3⟩
  · exact ⟨none, 0, rfl, Nat.le_refl _, Nat.zero_le _, .inl rfl⟩
  · exact ⟨_, cap, rfl, h1, h2, .inr ⟨g, 0, rfl, h3⟩⟩

theorem Tryz.infoPair : (Tryz.prog.info? 221).map (fun i => (i.zero, i.size, i.bytes)) = some (some (.agg #[.int .i64 0, .int .i64 0]), 2, 16) := by kernel_rfl

theorem wpList_pushP {w : World} {ops : Array Oper} {rest : List Oper} {o : Oper} {a : Act} {Q : Exit → Act → World → Prop} (hgd : o.guard = none) (s x : Operand)
    (ho : o.op = .call { callee := .builtin .append, args := #[s, x], argTypes := #[192, 192] })
    (B : Nat) (v : Value) (L : List (Nat × Nat)) (hs : a.eval s = v) (hown : OwnP w B v L)
    (g : Nat) (hx : a.eval x = .slice (some ⟨g, 0, none⟩) 1 1) (p : Nat × Nat) (hc1 : w.cell? ⟨g, 0, none⟩ = some (.int .i64 p.1)) (hc2 : w.cell? ⟨g, 1, none⟩ = some (.int .i64 p.2)) (hl : L.length ≤ 1000000000) (hB : B ≤ w.heap.size)
    (h : ∀ v' w', OwnP w' B v' (L ++ [p]) → w.grownBy w' v.ownBlock → wpList Tryz.prog ops Q rest (a.put o.dst v') w') :
    wpList Tryz.prog ops Q (o :: rest) a w := by
  obtain ⟨i0, hi, hz0, hz1, hz2⟩ := info_parts Tryz.infoPair
  refine wpList_append_own w hgd s x 192 ho B 221 i0 (.agg #[.int .i64 0, .int .i64 0]) 2 16 Tryz.underlying192 hi hz0 hz1 hz2 rfl (by decide) v L.length (arcC L) hs hown ⟨g, 0, none⟩ 1 1 [.int .i64 p.1, .int .i64 p.2] hx rfl ?_ ?_ (by unfold maxLen; omega) (by omega) hB ?_
  · intro j u hj
    match j, hj with
    | 0, hj =>
      simp at hj
      subst hj
      simpa [Addr.add] using hc1
    | 1, hj =>
      simp at hj
      subst hj
      simpa [Addr.add] using hc2
  · intro u hu
    simp at hu
    rcases hu with rfl | rfl <;> rfl
  · intro v' w' ho' hg' _
    refine h v' w' ?_ hg'
    unfold OwnP
    rw [arcC_append, List.length_append]
    exact ho'

def FreshP (w : World) (L : List (Nat × Nat)) (e : Ending) (w' : World) : Prop := ∃ v, e = .returned v ∧ OwnP w' w.heap.size v L ∧ Below w.heap.size w w'

theorem cellSt {w w' : World} {p : Addr} {v : Value} (h : w.cell? p = some v) (hb : Below w.heap.size w w') : w'.cell? p = some v := by
  rw [hb.cell (World.block_lt_of_cell? w _ h)]
  exact h
end

section
open Go.RowKit

theorem take_snocP (L : List (Nat × Nat)) (k : Nat) (h : k < L.length) : L.take (k + 1) = L.take k ++ [L.getD k (0, 0)] := by
  rw [List.take_add_one, List.getElem?_eq_getElem h]
  simp [List.getD, h]

theorem allP_le (m : Nat) (h : m ≤ 6) : (allP m).length ≤ 15 := by
  have : ∀ m, m < 7 → (allP m).length ≤ 15 := by decide +kernel
  exact this m (by omega)
end

section
open Go.RowKit

set_option maxHeartbeats 4000000 in
theorem l8Of_any (v : Value) (xs : List Int) (w : World) (hv : RdV w v xs) (hl8 : xs.length ≤ 8) : Calls Tryz.prog 167 #[v] w (FreshM w (encPs (ofP xs))) := by
  rw [ofP_sel]
  obtain ⟨ao, ca, rfl, hx, hlc, hcm⟩ := hv
  obtain ⟨n, hn⟩ : ∃ n, n = xs.length := ⟨_, rfl⟩
  obtain ⟨f, hf⟩ : ∃ f : Nat × Nat → Bool, f = fun p => xs.getD p.1 0 == xs.getD p.2 0 := ⟨_, rfl⟩
  have HF : Hid (∀ i k, f (i, k) = (xs.getD i 0 == xs.getD k 0)) := Lib.hid fun i k => by rw [hf]
  rw [← hn] at hl8 hlc ⊢
  rw [← hf]
  have HN := Lib.hid hn
  have HX := Lib.hid hx
  clear hn hx hf
  go_enter Tryz.func167, Tryz.ntmps167
  go_wp2
  go_loopw [3, 4] (fun u i wr => ∃ (k : Nat), k ≤ n ∧ i = .int .i64 k ∧ OwnM wr w.heap.size wr.heap.size u (encPs (selRows f n k)) ∧ Below w.heap.size w wr) (fun _ i _ => n - (intOf i).toNat)
  case atStart => exact ⟨0, Nat.zero_le _, rfl, by simpa [selRows, encPs] using ownM_empty w _ (Nat.le_refl _), (Below.refl _ _).alloc (Nat.le_refl _) _⟩
  case round =>
    obtain ⟨k, hk, rfl, hown, hbel⟩ := hrel
    by_cases hlt : k < n
    · have HO1 := Lib.hid hown
      have HB1 := Lib.hid hbel
      obtain ⟨wo, hwo⟩ : ∃ wo : World, wo = wr := ⟨_, rfl⟩
      have HWO := Lib.hid hwo
      clear hown hbel
      go_wp2
      go_loopw [3, 5] (fun u i wr => ∃ (t : Nat), k + 1 ≤ t ∧ t ≤ n ∧ i = .int .i64 t ∧ OwnM wr w.heap.size wr.heap.size u (encPs (selRows f n k ++ selRow f k t)) ∧ Below w.heap.size w wr) (fun _ i _ => n - (intOf i).toNat)
      case atStart => exact ⟨k + 1, Nat.le_refl _, by omega, by go_num, by rw [selRow_start f k (k + 1) (Nat.le_refl _), List.append_nil]; exact HO1.out, HB1.out⟩
      case round =>
        obtain ⟨t, ht1, ht, rfl, hown, hbel⟩ := hrel
        have HO := Lib.hid hown
        have hbs := hbel.size
        clear hown
        by_cases htn : t < n
        · rcases HX.out with hx | ⟨bb, off, rfl, hcx⟩
          · have := HN.out
            rw [hx] at this
            simp at this
            omega
          have hc1 := cellSt (hcx k (by have := HN.out; omega)) hbel
          have hc2 := cellSt (hcx t (by have := HN.out; omega)) hbel
          have hst := selRow_next f k t (by omega)
          rw [HF.out] at hst
          have hll := sel_len f (n := n) (i := k) (k := t) (by omega) hk ht
          obtain ⟨x, hx⟩ : ∃ x, x = xs.getD k 0 := ⟨_, rfl⟩
          obtain ⟨y, hy⟩ : ∃ y, y = xs.getD t 0 := ⟨_, rfl⟩
          rw [← hx] at hc1 hst
          rw [← hy] at hc2 hst
          obtain ⟨A, hA⟩ : ∃ A, A = selRows f n k ++ selRow f k t := ⟨_, rfl⟩
          have hst2 : selRows f n k ++ selRow f k (t + 1) = A ++ if x == y then [(k, t)] else [] := by rw [hA, hst, List.append_assoc]
          rw [← hA] at HO hll
          obtain ⟨m, hm⟩ : ∃ m, m = A.length := ⟨_, rfl⟩
          rw [← hm] at hll
          have HM := Lib.hid hm
          have HST := Lib.hid hst2
          have b0 : (k : Int) < n := by omega
          have b1 : (t : Int) < n := by omega
          clear hcx hst hst2 hx hy hA hm
          by_cases hxy : x = y
          · have hd : (x == y) = true := by simpa using hxy
            have HSE : Hid (selRows f n k ++ selRow f k (t + 1) = A ++ [(k, t)]) := Lib.hid (by rw [HST.out, if_pos hd])
            clear hxy
            go_wp2
            go_quiet (fail)
            have hcell := cell_new1 ((wr.drewN nq).alloc (.cells #[.int .i64 k, .int .i64 t] 3)) (.slice (some ⟨wr.heap.size, 0, none⟩) 2 2) 26
            rw [show ((wr.drewN nq).alloc (.cells #[.int .i64 k, .int .i64 t] 3)).heap.size = wr.heap.size + 1 by simp] at hcell
            have hou : Own (((wr.drewN nq).alloc (.cells #[.int .i64 k, .int .i64 t] 3)).alloc (.cells #[.slice (some ⟨wr.heap.size, 0, none⟩) 2 2] 26)) w.heap.size (.slice (some ⟨wr.heap.size, 0, none⟩) 2 2) [(k : Int), (t : Int)] := own_alloc (own_two (wr.drewN nq) w.heap.size k t (by simp; omega)) _
            have hb3 := ((below_drewN (Below.refl wr.heap.size wr) nq).alloc (by simp) (.cells #[.int .i64 k, .int .i64 t] 3)).alloc (by simp) (.cells #[.slice (some ⟨wr.heap.size, 0, none⟩) 2 2] 26)
            have HOM := Lib.hid (ownM_below HO.out hb3)
            have HBQ := Lib.hid (below_step hbel hb3)
            have HCE := Lib.hid hcell
            have HOU := Lib.hid hou
            clear hcell hou hb3
            go_wp2_with (at_builtin; refine wpList_pushV rfl _ _ rfl w.heap.size wr.heap.size m _ (encPs A) rfl HOM.out (by rw [HM.out, encPs_length]) ⟨wr.heap.size + 1, 0, none⟩ rfl _ _ HCE.out HOU.out (fun q hq => by simp [Value.ownBlock] at hq; simp; omega) hbs (by simp; omega) (by omega) ?_; intro g4 cap4 w4 hown4 hgr4)
            have hbel4 : Below w.heap.size w w4 := HBQ.out.grown hgr4 (by simp; omega) (fun q hq => by
              obtain ⟨vs, hr⟩ := ownM_row0 HOM.out
              exact (World.ownsRow.lt hr q hq).1)
            have HO4 := Lib.hid hown4
            clear hown4 hgr4
            go_wp2
            go_roundw
            case rel => exact ⟨t + 1, by omega, by omega, by go_num, by rw [HSE.out, encPs_append]; exact HO4.out, hbel4⟩
            case measure => simp [intOf]; omega
          · have hd : (x == y) = false := by simpa using hxy
            have HSE : Hid (selRows f n k ++ selRow f k (t + 1) = A) := Lib.hid (by rw [HST.out, hd]; simp)
            clear hxy
            go_wp2
            go_quiet (fail)
            go_wp2
            go_roundw
            case rel => exact ⟨t + 1, by omega, by omega, by go_num, by rw [HSE.out]; exact ownM_mono (ownM_below HO.out (below_drewN (Below.refl _ _) _)) (Nat.le_refl _) (by simp), below_drewN hbel _⟩
            case measure => simp [intOf]; omega
        · have htn' : t = n := by omega
          subst htn'
          go_wp2
          go_roundw
          case rel => exact ⟨k + 1, by omega, by go_num, by rw [selRows_next]; exact HO.out, hbel⟩
          case measure => simp [intOf]; omega
    · have hkn : k = n := by omega
      subst hkn
      go_wp2
      go_ret
      exact ⟨_, rfl, hown, hbel⟩

set_option maxHeartbeats 4000000 in
theorem pairsOf_any (v : Value) (xs : List Int) (w : World) (hv : RdV w v xs) (hl8 : xs.length ≤ 8) : Calls Tryz.prog 271 #[v] w (FreshP w (ofP xs)) := by
  rw [ofP_sel]
  obtain ⟨ao, ca, rfl, hx, hlc, hcm⟩ := hv
  obtain ⟨n, hn⟩ : ∃ n, n = xs.length := ⟨_, rfl⟩
  obtain ⟨f, hf⟩ : ∃ f : Nat × Nat → Bool, f = fun p => xs.getD p.1 0 == xs.getD p.2 0 := ⟨_, rfl⟩
  have HF : Hid (∀ i k, f (i, k) = (xs.getD i 0 == xs.getD k 0)) := Lib.hid fun i k => by rw [hf]
  rw [← hn] at hl8 hlc ⊢
  rw [← hf]
  have HN := Lib.hid hn
  have HX := Lib.hid hx
  clear hn hx hf
  go_enter Tryz.func271, Tryz.ntmps271
  go_wp2
  go_loopw [3, 9] (fun u i wr => ∃ (k : Nat), k ≤ n ∧ i = .int .i64 k ∧ OwnP wr w.heap.size u (selRows f n k) ∧ Below w.heap.size w wr) (fun _ i _ => n - (intOf i).toNat)
  case atStart => exact ⟨0, Nat.zero_le _, rfl, ownP_nil _ _, Below.refl _ _⟩
  case round =>
    obtain ⟨k, hk, rfl, hown, hbel⟩ := hrel
    by_cases hlt : k < n
    · have HO1 := Lib.hid hown
      have HB1 := Lib.hid hbel
      rcases HX.out with hx | ⟨bb, off, rfl, hcx⟩
      · have := HN.out
        rw [hx] at this
        simp at this
        omega
      have hc1 := cellSt (hcx k (by have := HN.out; omega)) hbel
      obtain ⟨x, hx⟩ : ∃ x, x = xs.getD k 0 := ⟨_, rfl⟩
      rw [← hx] at hc1
      have HXK := Lib.hid hx
      have HCX := Lib.hid hcx
      have b0 : (k : Int) < n := by omega
      clear hown hbel hx hcx
      go_wp2
      go_loopw [3, 6] (fun u i wr => ∃ (t : Nat), k + 1 ≤ t ∧ t ≤ n ∧ i = .int .i64 t ∧ OwnP wr w.heap.size u (selRows f n k ++ selRow f k t) ∧ Below w.heap.size w wr) (fun _ i _ => n - (intOf i).toNat)
      case atStart => exact ⟨k + 1, Nat.le_refl _, by omega, by go_num, by rw [selRow_start f k (k + 1) (Nat.le_refl _), List.append_nil]; exact HO1.out, HB1.out⟩
      case round =>
        obtain ⟨t, ht1, ht, rfl, hown, hbel⟩ := hrel
        have HO := Lib.hid hown
        have hbs := hbel.size
        clear hown
        by_cases htn : t < n
        · have hc2 := cellSt (HCX.out t (by have := HN.out; omega)) hbel
          have hst := selRow_next f k t (by omega)
          rw [HF.out, ← HXK.out] at hst
          have hll := sel_len f (n := n) (i := k) (k := t) (by omega) hk ht
          obtain ⟨y, hy⟩ : ∃ y, y = xs.getD t 0 := ⟨_, rfl⟩
          rw [← hy] at hc2 hst
          obtain ⟨A, hA⟩ : ∃ A, A = selRows f n k ++ selRow f k t := ⟨_, rfl⟩
          have hst2 : selRows f n k ++ selRow f k (t + 1) = A ++ if x == y then [(k, t)] else [] := by rw [hA, hst, List.append_assoc]
          rw [← hA] at HO hll
          have HLL := Lib.hid hll
          have HST := Lib.hid hst2
          have b1 : (t : Int) < n := by omega
          clear hst hst2 hy hA hll
          by_cases hxy : x = y
          · have hd : (y == x) = true := by simpa using hxy.symm
            have HSE : Hid (selRows f n k ++ selRow f k (t + 1) = A ++ [(k, t)]) := Lib.hid (by rw [HST.out, if_pos (by simpa using hxy)])
            have HBQ := Lib.hid (hbel.alloc hbs (.cells #[.int .i64 k, .int .i64 t] 221))
            clear hxy
            go_wp2_with (at_builtin; refine wpList_pushP rfl _ _ rfl w.heap.size _ A rfl (ownP_alloc HO.out _) wr.heap.size rfl (k, t) (cells_two rfl).1 (cells_two rfl).2 (by have := HLL.out; omega) (by simp; omega) ?_; intro v9 w9 ho9 hg9)
            have hbel9 : Below w.heap.size w w9 := HBQ.out.grown hg9 (by simp; omega) fun j hj => (World.ownsRow.lt HO.out j hj).1
            have HO9 := Lib.hid ho9
            clear ho9 hg9
            go_wp2
            go_roundw
            case rel => exact ⟨t + 1, by omega, by omega, by go_num, by rw [HSE.out]; exact HO9.out, hbel9⟩
            case measure => simp [intOf]; omega
          · have hd : (y == x) = false := by simpa using fun e : y = x => hxy e.symm
            have HSE : Hid (selRows f n k ++ selRow f k (t + 1) = A) := Lib.hid (by rw [HST.out, if_neg (by simpa using hxy)]; simp)
            have hne : ¬ (y = x) := fun e => hxy e.symm
            clear hxy
            go_wp2
            go_roundw
            case rel => exact ⟨t + 1, by omega, by omega, by go_num, by rw [HSE.out]; exact HO.out, hbel⟩
            case measure => simp [intOf]; omega
        · have htn' : t = n := by omega
          subst htn'
          go_wp2
          go_roundw
          case rel => exact ⟨k + 1, by omega, by go_num, by rw [selRows_next]; exact HO.out, hbel⟩
          case measure => simp [intOf]; omega
    · have hkn : k = n := by omega
      subst hkn
      go_wp2
      go_ret
      exact ⟨_, rfl, hown, hbel⟩

theorem ownM_made0 {w : World} {B S g n : Nat} (h : w.ownsRow B 26 1 (.slice (some ⟨g, 0, none⟩) 0 n) 0 []) (hg : B ≤ g ∧ g < S) : OwnM w B S (.slice (some ⟨g, 0, none⟩) 0 n) [] :=
  ⟨[], rfl, h, fun k hk => by simp [Value.ownBlock] at hk; omega, fun i hi => by simp at hi, fun i j _ hj => by simp at hj⟩
theorem encPs_take (L : List (Nat × Nat)) (k : Nat) (h : k < L.length) : encPs (L.take (k + 1)) = encPs (L.take k) ++ [encP (L.getD k (0, 0))] := by
  rw [take_snocP L k h, encPs_append]
  rfl

set_option maxHeartbeats 4000000 in
theorem pairLists_any (v : Value) (L : List (Nat × Nat)) (w : World) (hv : RdP w v L) (hl : L.length ≤ 1000) : Calls Tryz.prog 270 #[v] w (FreshM w (encPs L)) := by
  obtain ⟨ao, ca, rfl, hlc, hcm, hx⟩ := hv
  obtain ⟨n, hn⟩ : ∃ n, n = L.length := ⟨_, rfl⟩
  rw [← hn] at hlc hl ⊢
  have HN := Lib.hid hn
  have HX := Lib.hid hx
  obtain ⟨i0, hi, hz0, hz1, hz2⟩ := info_parts Tryz.infoInts
  clear hn hx
  go_enter Tryz.func270, Tryz.ntmps270
  go_wp2_with (at_make; refine wpList_make_own _ rfl _ _ 91 rfl w.heap.size 26 i0 (.slice none 0 0) 1 Tryz.underlying91 hi hz0 hz1 _ _ _ n rfl rfl rfl (by rw [hz2]; omega) (by unfold maxLen; omega) (Nat.le_refl _) ?_)
  intro w0 hown0 hgrow0
  have hb0 : Below w.heap.size w w0 := (Below.refl _ _).grown hgrow0 (Nat.le_refl _) (fun k h => by cases h)
  have hom0 : OwnM w0 w.heap.size w0.heap.size (.slice (some ⟨w.heap.size, 0, none⟩) 0 n) [] := ownM_made0 hown0 ⟨Nat.le_refl _, (World.ownsRow.lt hown0 _ rfl).2⟩
  have HM0 := Lib.hid hom0
  clear hown0 hgrow0 hom0
  go_wp2
  go_loopw [3, 11] (fun u i wr => ∃ k : Nat, k ≤ n ∧ i = .int .i64 k ∧ OwnM wr w.heap.size wr.heap.size u (encPs (L.take k)) ∧ Below w.heap.size w wr) (fun _ i _ => n - (intOf i).toNat)
  case atStart => exact ⟨0, Nat.zero_le _, rfl, by simpa [encPs] using HM0.out, hb0⟩
  case round =>
    obtain ⟨k, hk, rfl, hown, hbel⟩ := hrel
    have hbs := hbel.size
    have HO := Lib.hid hown
    clear hown
    by_cases hlt : k < n
    · rcases HX.out with hx | ⟨bb, off, rfl, hcx⟩
      · have := HN.out
        rw [hx] at this
        simp at this
        omega
      have hcx' := hcx k (by have := HN.out; omega)
      have hc1 := cellSt hcx'.1 hbel
      have hc2 := cellSt hcx'.2 hbel
      have HT := Lib.hid (encPs_take L k (by have := HN.out; omega))
      have hkl : (encPs (L.take k)).length = k := by rw [encPs_length, List.length_take]; have := HN.out; omega
      have HKL := Lib.hid hkl
      obtain ⟨⟨a, b⟩, hy⟩ : ∃ y, y = L.getD k (0, 0) := ⟨_, rfl⟩
      rw [← hy] at hc1 hc2 HT
      unfold encP at HT
      dsimp only at hc1 hc2 HT
      have b0 : (k : Int) < n := by omega
      clear hy hcx hcx' hkl
      have e1 : (wr.alloc (.cells #[.int .i64 a, .int .i64 b] 221)).heap.size = wr.heap.size + 1 := by simp
      have e2 : ((wr.alloc (.cells #[.int .i64 a, .int .i64 b] 221)).alloc (.cells #[.int .i64 a, .int .i64 b] 3)).heap.size = wr.heap.size + 1 + 1 := by simp
      have hcell := cell_new1 ((wr.alloc (.cells #[.int .i64 a, .int .i64 b] 221)).alloc (.cells #[.int .i64 a, .int .i64 b] 3)) (.slice (some ⟨wr.heap.size + 1, 0, none⟩) 2 2) 26
      rw [e2] at hcell
      have hou0 := own_two (wr.alloc (.cells #[.int .i64 a, .int .i64 b] 221)) w.heap.size a b (by rw [e1]; omega)
      rw [e1] at hou0
      have HCE := Lib.hid hcell
      have HOU := Lib.hid (own_alloc hou0 (.cells #[.slice (some ⟨wr.heap.size + 1, 0, none⟩) 2 2] 26))
      have hb3 : Below wr.heap.size wr (((wr.alloc (.cells #[.int .i64 a, .int .i64 b] 221)).alloc (.cells #[.int .i64 a, .int .i64 b] 3)).alloc (.cells #[.slice (some ⟨wr.heap.size + 1, 0, none⟩) 2 2] 26)) := (((Below.refl _ _).alloc (Nat.le_refl _) _).alloc (by rw [e1]; omega) _).alloc (by rw [e2]; omega) _
      have HOM := Lib.hid (ownM_below HO.out hb3)
      have HBQ := Lib.hid (hbel.trans (hb3.mono hbs))
      clear hcell hou0 hb3 e1 e2
      go_wp2_with (at_builtin; refine wpList_pushV rfl _ _ rfl w.heap.size wr.heap.size k _ (encPs (L.take k)) rfl HOM.out HKL.out.symm ⟨wr.heap.size + 1 + 1, 0, none⟩ rfl _ _ HCE.out HOU.out (fun q hq => by simp [Value.ownBlock] at hq; simp; omega) (by omega) (by simp; omega) (by omega) ?_; intro g4 cap4 w4 hown4 hgr4)
      have hbel4 : Below w.heap.size w w4 := HBQ.out.grown hgr4 (by simp; omega) (fun q hq => by
        obtain ⟨vs, hr⟩ := ownM_row0 HO.out
        exact (World.ownsRow.lt hr q hq).1)
      rw [← HT.out] at hown4
      have HO4 := Lib.hid hown4
      clear hown4 hgr4
      go_wp2
      go_roundw
      case rel => exact ⟨k + 1, by omega, by go_num, HO4.out, hbel4⟩
      case measure => simp [intOf]; omega
    · have hkn : k = n := by omega
      subst hkn
      have HE2 := Lib.hid (show encPs (L.take k) = encPs L by rw [HN.out, List.take_length])
      go_wp2
      go_ret
      rw [← HE2.out]
      exact ⟨_, rfl, HO.out, hbel⟩

def pairOf (xs : List Int) : List (List Int) × Bool := if partIn xs && decide (xs.length ≤ 6) then (encPs (ofP xs), true) else ([], false)
theorem ofP_len (xs : List Int) (h : xs.length ≤ 8) : (ofP xs).length ≤ 100 := by
  rw [ofP_sel]
  have := selRows_len (fun p => xs.getD p.1 0 == xs.getD p.2 0) xs.length xs.length
  have h2 := Nat.mul_le_mul h h
  omega

set_option maxHeartbeats 1600000 in
theorem sPairOf_v (v : Value) (xs : List Int) (w : World) (hv : RdV w v xs) : Calls Tryz.prog 100 #[v] w (FreshMB w (pairOf xs)) := by
  have HV := Lib.hid hv
  by_cases hp : partIn xs = true
  · have HP := Lib.hid hp
    have hl8 := partIn_len hp
    have HO := Lib.hid fun (h : xs.length ≤ 6) => l8Of_any v xs w hv (by omega)
    obtain ⟨ao, ca, rfl, hx, hlc, hcm⟩ := hv
    obtain ⟨n, hn⟩ : ∃ n, n = xs.length := ⟨_, rfl⟩
    have HN := Lib.hid hn
    by_cases h6 : n ≤ 6
    · have hr : pairOf xs = (encPs (ofP xs), true) := by unfold pairOf; rw [hp, ← hn]; simp [h6]
      rw [hr]
      rw [← hn] at HO HV ⊢
      clear hr hn hp hx hlc hl8
      go_enter Tryz.func100, Tryz.ntmps100
      go_wp2_with fail
      refine (sPartIn_is true _ _ _ HV.out HP).mono ?_
      rintro e w' ⟨rfl, rfl⟩
      go_wp2_with fail
      refine (HO.out h6).mono ?_
      rintro e w1 ⟨u, rfl, ho, hb⟩
      go_wp2
      go_ret2
      exact ⟨_, rfl, ho, hb⟩
    · have hr : pairOf xs = ([], false) := by unfold pairOf; rw [hp, ← hn]; simp [h6]
      rw [hr]
      rw [← hn] at HV ⊢
      clear hr hn hp hx hlc hl8
      go_enter Tryz.func100, Tryz.ntmps100
      go_wp2_with fail
      refine (sPartIn_is true _ _ _ HV.out HP).mono ?_
      rintro e w' ⟨rfl, rfl⟩
      go_wp2
      go_ret2
      exact ⟨_, rfl, by simpa using ownM_empty w _ (Nat.le_refl _), (Below.refl _ _).alloc (Nat.le_refl _) _⟩
  · have hp : partIn xs = false := by simpa using hp
    have hr : pairOf xs = ([], false) := by simp [pairOf, hp]
    rw [hr]
    have HP := Lib.hid hp
    clear hp hr
    go_enter Tryz.func100, Tryz.ntmps100
    go_wp2_with fail
    refine (sPartIn_is false _ _ _ HV.out HP).mono ?_
    rintro e w' ⟨rfl, rfl⟩
    go_wp2
    go_ret2
    exact ⟨_, rfl, by simpa using ownM_empty w _ (Nat.le_refl _), (Below.refl _ _).alloc (Nat.le_refl _) _⟩

set_option maxHeartbeats 1600000 in
theorem iPairOf_v (v : Value) (xs : List Int) (w : World) (hv : RdV w v xs) : Calls Tryz.prog 217 #[v] w (FreshMB w (pairOf xs)) := by
  have HV := Lib.hid hv
  by_cases hp : partIn xs = true
  · have HP := Lib.hid hp
    have hl8 := partIn_len hp
    have hll := ofP_len xs hl8.2
    have HO := Lib.hid fun (h : xs.length ≤ 6) => pairsOf_any v xs w hv (by omega)
    obtain ⟨ao, ca, rfl, hx, hlc, hcm⟩ := hv
    obtain ⟨n, hn⟩ : ∃ n, n = xs.length := ⟨_, rfl⟩
    have HN := Lib.hid hn
    by_cases h6 : n ≤ 6
    · have hr : pairOf xs = (encPs (ofP xs), true) := by unfold pairOf; rw [hp, ← hn]; simp [h6]
      rw [hr]
      rw [← hn] at HO HV ⊢
      obtain ⟨L, hL⟩ : ∃ L, L = ofP xs := ⟨_, rfl⟩
      rw [← hL] at HO hll ⊢
      have HLL := Lib.hid hll
      clear hr hn hp hx hlc hl8 hL hll
      go_enter Tryz.func217, Tryz.ntmps217
      go_wp2_with fail
      refine (iPartIn_is true _ _ _ HV.out HP).mono ?_
      rintro e w' ⟨rfl, rfl⟩
      go_wp2_with fail
      refine (HO.out h6).mono ?_
      rintro e w1 ⟨u, rfl, ho, hb⟩
      have HRD := Lib.hid (ownP_rd ho)
      clear ho
      go_wp2_with fail
      refine (pairLists_any u L _ HRD.out (by have := HLL.out; omega)).mono ?_
      rintro e w2 ⟨u2, rfl, ho2, hb2⟩
      go_wp2
      go_ret2
      exact ⟨_, rfl, ownM_mono ho2 hb.size (Nat.le_refl _), below_step hb hb2⟩
    · have hr : pairOf xs = ([], false) := by unfold pairOf; rw [hp, ← hn]; simp [h6]
      rw [hr]
      rw [← hn] at HV ⊢
      clear hr hn hp hx hlc hl8
      go_enter Tryz.func217, Tryz.ntmps217
      go_wp2_with fail
      refine (iPartIn_is true _ _ _ HV.out HP).mono ?_
      rintro e w' ⟨rfl, rfl⟩
      go_wp2
      go_ret2
      exact ⟨_, rfl, ownM_nil _ _ _, Below.refl _ _⟩
  · have hp : partIn xs = false := by simpa using hp
    have hr : pairOf xs = ([], false) := by simp [pairOf, hp]
    rw [hr]
    have HP := Lib.hid hp
    clear hp hr
    go_enter Tryz.func217, Tryz.ntmps217
    go_wp2_with fail
    refine (iPartIn_is false _ _ _ HV.out HP).mono ?_
    rintro e w' ⟨rfl, rfl⟩
    go_wp2
    go_ret2
    exact ⟨_, rfl, ownM_nil _ _ _, Below.refl _ _⟩
end

def w_show : List UInt8 := [115, 104, 111, 119]
def w_blocks : List UInt8 := [98, 108, 111, 99, 107, 115]
def w_type : List UInt8 := [116, 121, 112, 101]
def w_size : List UInt8 := [115, 105, 122, 101]
def w_rank : List UInt8 := [114, 97, 110, 107]
def w_merges : List UInt8 := [109, 101, 114, 103, 101, 115]
def w_splits : List UInt8 := [115, 112, 108, 105, 116, 115]
def w_chains : List UInt8 := [99, 104, 97, 105, 110, 115]
def w_place : List UInt8 := [112, 108, 97, 99, 101]
def w_arcs : List UInt8 := [97, 114, 99, 115]
def w_cross : List UInt8 := [99, 114, 111, 115, 115]
def w_nest : List UInt8 := [110, 101, 115, 116]
def w_far : List UInt8 := [102, 97, 114]
def w_ring : List UInt8 := [114, 105, 110, 103]
def w_count : List UInt8 := [99, 111, 117, 110, 116]
def w_pairs : List UInt8 := [112, 97, 105, 114, 115]
def w_turned : List UInt8 := [116, 117, 114, 110, 101, 100]
def w_next : List UInt8 := [110, 101, 120, 116]
def w_before : List UInt8 := [98, 101, 102, 111, 114, 101]
def w_part : List UInt8 := [112, 97, 114, 116]
def w_kernel : List UInt8 := [107, 101, 114, 110, 101, 108]
def w_at : List UInt8 := [97, 116]
def w_put : List UInt8 := [112, 117, 116]
def w_drop : List UInt8 := [100, 114, 111, 112]
def w_meet : List UInt8 := [109, 101, 101, 116]
def w_join : List UInt8 := [106, 111, 105, 110]
def w_rings : List UInt8 := [114, 105, 110, 103, 115]
def w_finer : List UInt8 := [102, 105, 110, 101, 114]
def w_sign : List UInt8 := [115, 105, 103, 110]
def w_inner : List UInt8 := [105, 110, 110, 101, 114]
def w_quarrel : List UInt8 := [113, 117, 97, 114, 114, 101, 108]
def w_path : List UInt8 := [112, 97, 116, 104]
def w_moves : List UInt8 := [109, 111, 118, 101, 115]
def w_number : List UInt8 := [110, 117, 109, 98, 101, 114]
def w_all : List UInt8 := [97, 108, 108]
def w_plain : List UInt8 := [112, 108, 97, 105, 110]
def sayOk : List UInt8 := [111, 107, 10]
def sayNo : List UInt8 := [110, 111, 10]
def sayYes : List UInt8 := [121, 101, 115, 10]
def sayNot : List UInt8 := [110, 111, 116, 10]
def sayWhat : List UInt8 := [119, 104, 97, 116, 10]

def bareL (a : List Int) (w : List UInt8) : List UInt8 :=
  if w = w_show then saidL a true else
  if w = w_blocks then listsL (partBlocks a).1 (partBlocks a).2 else
  if w = w_type then saidL (partType a).1 (partType a).2 else
  if w = w_size then oneL (partSize a).1 (partSize a).2 else
  if w = w_rank then oneL (finerRank a).1 (finerRank a).2 else
  if w = w_merges then listsL (finerMerges a).1 (finerMerges a).2 else
  if w = w_splits then oneL (finerSplits a).1 (finerSplits a).2 else
  if w = w_chains then oneL (finerChains a).1 (finerChains a).2 else
  if w = w_place then oneL (listPlace a).1 (listPlace a).2 else
  if w = w_arcs then listsL (arcList a).1 (arcList a).2 else
  if w = w_cross then oneL (arcCross a).1 (arcCross a).2 else
  if w = w_nest then oneL (arcNest a).1 (arcNest a).2 else
  if w = w_far then oneL (arcLong a).1 (arcLong a).2 else
  if w = w_ring then saidL (ringOf a).1 (ringOf a).2 else
  if w = w_count then oneL (ringCount a).1 (ringCount a).2 else
  if w = w_pairs then listsL (pairOf a).1 (pairOf a).2 else
  sayWhat
def aloneL (a : List Int) (w : List UInt8) : Option (List Int × Bool) :=
  if w = w_turned then some (partTurned a) else if w = w_next then some (listNext a) else if w = w_before then some (listBefore a) else none
def changeL (a : List Int) (w : List UInt8) (l : List Int) : Option (List Int × Bool) :=
  if w = w_part then some (l, partIn l) else
  if w = w_kernel then some (partKernel l) else
  if w = w_at then some (if l.length = 2 then listAt (l.getD 0 0) (l.getD 1 0) else (a, false)) else
  if w = w_put then some (if l.length = 1 then partPut a (l.getD 0 0) else (a, false)) else
  if w = w_drop then some (if l.length = 1 then partDrop a (l.getD 0 0) else (a, false)) else
  if w = w_meet then some (finerMeet a l) else
  if w = w_join then some (finerJoin a l) else
  if w = w_rings then some (ringPart l) else
  none
def askL (a : List Int) (w : List UInt8) (l : List Int) (ok : Bool) : List UInt8 :=
  if w = w_finer then (if ok = false then sayNo else if finerIn a l then sayYes else sayNot) else
  if w = w_sign then oneL (finerSign a l).1 (finerSign a l).2 else
  if w = w_inner then oneL (finerInterval a l).1 (finerInterval a l).2 else
  if w = w_quarrel then oneL (viewQuarrel a l).1 (viewQuarrel a l).2 else
  if w = w_path then oneL (viewPath a l).1 (viewPath a l).2 else
  if w = w_moves then oneL (viewMoves a l).1 (viewMoves a l).2 else
  if w = w_number then (if l.length = 2 then oneL (numBy (ext fB) (l.getD 0 0) (l.getD 1 0)).1 (numBy (ext fB) (l.getD 0 0) (l.getD 1 0)).2 else sayNo) else
  if w = w_all then (if l.length = 1 then oneL (numAll (l.getD 0 0)).1 (numAll (l.getD 0 0)).2 else sayNo) else
  if w = w_plain then (if l.length = 1 then oneL (arcPlain (l.getD 0 0)).1 (arcPlain (l.getD 0 0)).2 else sayNo) else
  sayWhat
def lineL (a : List Int) (line : List UInt8) : List Int × List UInt8 :=
  let w := line.takeWhile (fun c => c != 32)
  if w.length = line.length then
    match aloneL a line with
    | some (b, true) => (b, sayOk)
    | some (_, false) => (a, sayNo)
    | none => (a, bareL a line)
  else
    match changeL a w (numsL (line.drop (w.length + 1))).1 with
    | some (b, ok) => if ok && (numsL (line.drop (w.length + 1))).2 then (b, sayOk) else (a, sayNo)
    | none => (a, askL a w (numsL (line.drop (w.length + 1))).1 (numsL (line.drop (w.length + 1))).2)

theorem textsL_ends (l : List (List UInt8)) (ok : Bool) : EndsNL (textsL l ok) := by
  unfold textsL
  split
  · exact .inr ⟨[110, 111], rfl⟩
  · split
    · exact .inr ⟨[45], rfl⟩
    · exact .inr ⟨_, rfl⟩
theorem ite_ends {c : Prop} [Decidable c] {x y : List UInt8} (hx : EndsNL x) (hy : EndsNL y) : EndsNL (if c then x else y) := by
  by_cases h : c
  · rw [if_pos h]; exact hx
  · rw [if_neg h]; exact hy
theorem bareL_ends (a : List Int) (w : List UInt8) : EndsNL (bareL a w) := by
  unfold bareL
  repeat (refine ite_ends (textsL_ends _ _) ?_)
  exact .inr ⟨[119, 104, 97, 116], rfl⟩
theorem askL_ends (a : List Int) (w : List UInt8) (l : List Int) (ok : Bool) : EndsNL (askL a w l ok) := by
  unfold askL
  repeat' split
  all_goals first | exact textsL_ends _ _ | exact .inr ⟨[119, 104, 97, 116], rfl⟩ | exact .inr ⟨[110, 111], rfl⟩ | exact .inr ⟨[121, 101, 115], rfl⟩ | exact .inr ⟨[110, 111, 116], rfl⟩
theorem lineL_ends (a : List Int) (line : List UInt8) : EndsNL (lineL a line).2 := by
  unfold lineL
  dsimp only
  repeat' split
  all_goals first | exact bareL_ends _ _ | exact askL_ends _ _ _ _ | exact .inr ⟨[111, 107], rfl⟩ | exact .inr ⟨[110, 111], rfl⟩

section
open Go.RowKit

theorem rings_part {xs : List Int} (h : ringIn xs = true) : partIn (ringsOf xs) = true := by
  obtain ⟨h1, h2, _⟩ := permOk_facts (show permOk xs.length xs = true from h)
  unfold ringsOf
  exact partIn_kOut (by rw [ringLs_length]; exact h1) (by rw [ringLs_length]; exact h2)
end

def TellsP (r : List Int × Bool) : Prop := r.2 = true → partIn r.1 = true
theorem tells_no (l : List Int) : TellsP (l, false) := fun h => by cases h
theorem tells_ite {c : Prop} [Decidable c] {l : List Int} (h : c → partIn l = true) : TellsP (if c then (l, true) else ([], false)) := by
  by_cases hc : c
  · rw [if_pos hc]; exact fun _ => h hc
  · rw [if_neg hc]; exact tells_no _
theorem tells_turned (xs : List Int) : TellsP (partTurned xs) := tells_ite fun h => by
  have := partIn_len h
  exact partIn_kOut (by simp; omega) (by simp; omega)
theorem tells_next (xs : List Int) : TellsP (listNext xs) := tells_ite fun ⟨h, hp⟩ => by
  have h1 := partIn_len h
  have h2 := plc_bd (partIn_ok h)
  exact atL_partIn _ _ h1.1 h1.2 (by omega) hp
theorem tells_before (xs : List Int) : TellsP (listBefore xs) := tells_ite fun ⟨h, hp⟩ => by
  have h1 := partIn_len h
  have h2 := plc_bd (partIn_ok h)
  exact atL_partIn _ _ h1.1 h1.2 (by omega) (by omega)
theorem tells_kernel (xs : List Int) : TellsP (partKernel xs) := tells_ite fun h => partIn_kOut h.1 h.2
theorem tells_at (n p : Int) : TellsP (listAt n p) := tells_ite fun ⟨h, h0, h1⟩ => atL_partIn _ _ (by omega) (by omega) h0 h1
theorem tells_put (xs : List Int) (k : Int) : TellsP (partPut xs k) := tells_ite fun ⟨h, h1, h2, h3⟩ => put_part h h1 h2 h3
theorem tells_drop (xs : List Int) (i : Int) : TellsP (partDrop xs i) := tells_ite fun ⟨h, h1, h2, h3⟩ => by
  have hl := partIn_len h
  have hd := dropAt_length xs i.toNat (by omega)
  exact partIn_kOut (by omega) (by omega)
theorem tells_meet (xs ys : List Int) : TellsP (finerMeet xs ys) := tells_ite fun h => by
  have hl := alike_lens h
  exact partIn_kOut (by rw [mix_length]; omega) (by rw [mix_length]; omega)
theorem tells_join (xs ys : List Int) : TellsP (finerJoin xs ys) := tells_ite fun h => by
  have hl := alike_lens h
  exact partIn_kOut (by rw [joinAll_len]; omega) (by rw [joinAll_len]; omega)
theorem tells_rings (xs : List Int) : TellsP (ringPart xs) := tells_ite fun h => rings_part h

theorem aloneL_tells {a : List Int} {w : List UInt8} {r : List Int × Bool} (h : aloneL a w = some r) : TellsP r := by
  unfold aloneL at h
  by_cases h1 : w = w_turned
  · rw [if_pos h1] at h; cases h; exact tells_turned a
  · rw [if_neg h1] at h
    by_cases h2 : w = w_next
    · rw [if_pos h2] at h; cases h; exact tells_next a
    · rw [if_neg h2] at h
      by_cases h3 : w = w_before
      · rw [if_pos h3] at h; cases h; exact tells_before a
      · rw [if_neg h3] at h; cases h
theorem tells_some {c : Prop} [Decidable c] {x r : List Int × Bool} {y : Option (List Int × Bool)} (h : (if c then some x else y) = some r) (hx : TellsP x) (hy : y = some r → TellsP r) : TellsP r := by
  by_cases hc : c
  · rw [if_pos hc] at h; cases h; exact hx
  · rw [if_neg hc] at h; exact hy h
theorem tells_or {c : Prop} [Decidable c] {x y : List Int × Bool} (hx : TellsP x) (hy : TellsP y) : TellsP (if c then x else y) := by
  by_cases hc : c
  · rw [if_pos hc]; exact hx
  · rw [if_neg hc]; exact hy
theorem changeL_tells {a l : List Int} {w : List UInt8} {r : List Int × Bool} (h : changeL a w l = some r) : TellsP r := by
  unfold changeL at h
  refine tells_some h (fun h => h) fun h => ?_
  refine tells_some h (tells_kernel l) fun h => ?_
  refine tells_some h (tells_or (tells_at _ _) (tells_no _)) fun h => ?_
  refine tells_some h (tells_or (tells_put _ _) (tells_no _)) fun h => ?_
  refine tells_some h (tells_or (tells_drop _ _) (tells_no _)) fun h => ?_
  refine tells_some h (tells_meet a l) fun h => ?_
  refine tells_some h (tells_join a l) fun h => ?_
  refine tells_some h (tells_rings l) fun h => ?_
  cases h
theorem lineL_part {a : List Int} (ha : partIn a = true) (line : List UInt8) : partIn (lineL a line).1 = true := by
  unfold lineL
  dsimp only
  split
  · split
    · rename_i b hb
      exact aloneL_tells hb rfl
    · exact ha
    · exact ha
  · split
    · rename_i b ok hb
      by_cases hc : (ok && (numsL (line.drop ((line.takeWhile (fun c => c != 32)).length + 1))).2) = true
      · rw [if_pos hc]
        exact changeL_tells hb (Bool.and_eq_true_iff.1 hc).1
      · rw [if_neg hc]; exact ha
    · exact ha

def Num (n : Int) : Prop := -10000000000000 ≤ n ∧ n ≤ 10000000000000
def GoodL (l : List Int) : Prop := l.length ≤ 64 ∧ ∀ x ∈ l, Num x
def GoodM (ls : List (List Int)) : Prop := ls.length ≤ 64 ∧ ∀ l ∈ ls, GoodL l
theorem num_nat {n : Nat} (h : n ≤ 1000000) : Num (n : Int) := by unfold Num; omega
theorem num_bd {n : Int} (h0 : -1000000 ≤ n) (h1 : n ≤ 10000000000000) : Num n := by unfold Num; omega
theorem num_zero : Num 0 := by unfold Num; omega
theorem goodL_nil : GoodL [] := ⟨by simp, fun x hx => by cases hx⟩
theorem goodM_nil : GoodM [] := ⟨by simp, fun x hx => by cases hx⟩
theorem num_ite {c : Prop} [Decidable c] {x : Int} (h : c → Num x) : Num (if c then (x, true) else (0, false)).1 := by
  by_cases hc : c
  · rw [if_pos hc]; exact h hc
  · rw [if_neg hc]; exact num_zero
theorem goodL_ite {c : Prop} [Decidable c] {x : List Int} (h : c → GoodL x) : GoodL (if c then (x, true) else ([], false)).1 := by
  by_cases hc : c
  · rw [if_pos hc]; exact h hc
  · rw [if_neg hc]; exact goodL_nil
theorem goodM_ite {c : Prop} [Decidable c] {x : List (List Int)} (h : c → GoodM x) : GoodM (if c then (x, true) else ([], false)).1 := by
  by_cases hc : c
  · rw [if_pos hc]; exact h hc
  · rw [if_neg hc]; exact goodM_nil
theorem goodL_part {a : List Int} (h : partIn a = true) : GoodL a := by
  have hl := partIn_len h
  have hs := partIn_small h
  refine ⟨by omega, fun x hx => ?_⟩
  obtain ⟨k, hk, rfl⟩ := List.getElem_of_mem hx
  have := hs k hk
  simp only [List.getD, List.getElem?_eq_getElem hk, Option.getD_some] at this
  exact num_bd (by omega) (by omega)

theorem bd_size (a : List Int) : Num (partSize a).1 := num_ite fun h => by
  have := pSize_bd (partIn_small h)
  exact num_bd (by omega) (by omega)
theorem bd_rank (a : List Int) : Num (finerRank a).1 := num_ite fun h => by
  have := pSize_bd (partIn_small h)
  have := partIn_len h
  exact num_bd (by omega) (by omega)
theorem bd_splits (a : List Int) : Num (finerSplits a).1 := num_ite fun h => by
  have hb := sumOf_bd (sizes a) fun c hc => by have := sizes_bd h c hc; omega
  have := pSize_bd (partIn_small h)
  rw [sizes_length] at hb
  exact num_bd (by omega) (by omega)
theorem bd_chains (a : List Int) : Num (finerChains a).1 := num_ite fun h => by
  have := pSize_bd (partIn_small h)
  have := chD_bd (pSize a).toNat (by omega) ((pSize a).toNat - 1) (by omega)
  exact num_bd (by omega) (by omega)
theorem bd_place (a : List Int) : Num (listPlace a).1 := num_ite fun h => by
  have hl := partIn_len h
  have := plc_bd (partIn_ok h)
  have := opn_bd a.length 0 (by omega) (by omega)
  exact num_bd (by omega) (by omega)
theorem bd_pairsL (p : Nat × Nat → Nat × Nat → Bool) {a : List Int} (h : partIn a = true) : Num ((pairsL p (arcsOf a) : Nat) : Int) := by
  have hl := partIn_len h
  have h1 := pairsL_le p (arcsOf a)
  have h2 := arcsOf_len a
  have h3 : (arcsOf a).length * (arcsOf a).length ≤ 8 * 8 := Nat.mul_le_mul (by omega) (by omega)
  exact num_nat (by omega)
theorem bd_cross (a : List Int) : Num (arcCross a).1 := num_ite fun h => bd_pairsL _ h
theorem bd_nest (a : List Int) : Num (arcNest a).1 := num_ite fun h => bd_pairsL _ h
theorem longL_le (N : Nat) : ∀ l : List (Nat × Nat), (∀ p ∈ l, p.2 ≤ N) → longL l ≤ N * l.length := by
  intro l
  induction l with
  | nil => intro _; simp [longL]
  | cons p l ih =>
    intro h
    have h1 := ih fun q hq => h q (by simp [hq])
    have h2 := h p (by simp)
    rw [longL, List.length_cons, Nat.mul_succ]
    omega
theorem arcs_le {a : List Int} {p : Nat × Nat} (h : p ∈ arcsOf a) : p.1 < a.length ∧ p.2 < a.length := by
  obtain ⟨h1, h2, h3, _⟩ := arcsFrom_mem a 0 p h
  omega
theorem bd_far (a : List Int) : Num (arcLong a).1 := num_ite fun h => by
  have hl := partIn_len h
  have h1 := longL_le 8 (arcsOf a) fun p hp => by have := arcs_le hp; omega
  have h2 := arcsOf_len a
  exact num_nat (by omega)
theorem facR_le8 : ∀ n : Nat, n < 9 → facR n ≤ 40320 := by decide
theorem bd_count (a : List Int) : Num (ringCount a).1 := num_ite fun h => by
  have hl := partIn_len h
  have h1 := facP_le (sizes a)
  rw [sizes_sumN h] at h1
  have h2 := facR_le8 a.length (by omega)
  exact num_nat (by omega)
theorem inner_pos {a b : List Int} (h : finerIn a b = true) : ∀ c ∈ inner a b, 0 ≤ c := by
  intro c hc
  obtain ⟨k, hk, rfl⟩ := List.getElem_of_mem hc
  have := (inner_facts h).2 k hk
  simp only [List.getD, List.getElem?_eq_getElem hk, Option.getD_some] at this
  omega
theorem bd_sign (a b : List Int) : Num (finerSign a b).1 := num_ite fun h => by
  have h1 := prodOf_bd sgn fA rfl sgn_mul (inner a b) (inner_pos h) (inner_facts h).1
  have h2 := fA_le (inner a b).sum.toNat (by have := (inner_facts h).1; omega)
  exact num_bd (by omega) (by omega)
theorem bd_inner (a b : List Int) : Num (finerInterval a b).1 := num_ite fun h => by
  have h1 := prodOf_bd bellN (fun n => (bellN n).toNat) (by decide) bell_mul (inner a b) (inner_pos h) (inner_facts h).1
  have h2 := bell_le (inner a b).sum.toNat (by have := (inner_facts h).1; omega)
  have h3 := h1.2
  exact num_bd (by omega) (by omega)
theorem bd_quarrel (a b : List Int) : Num (viewQuarrel a b).1 := num_ite fun h => by
  have hl := partIn_len (alike_iff.1 h).1
  have h1 := quarTo_le a b a.length
  have h3 : a.length * a.length ≤ 8 * 8 := Nat.mul_le_mul (by omega) (by omega)
  have : quar a b = quarTo a b a.length := rfl
  exact num_nat (by omega)
theorem bd_path (a b : List Int) : Num (viewPath a b).1 := num_ite fun h => by
  obtain ⟨hx, hy, hl⟩ := alike_iff.1 h
  have h1 := pSize_bd (partIn_small hx)
  have h2 := pSize_bd (partIn_small hy)
  have hj := (finer_parts (join_finer h).1).2.1
  have h3 := pSize_bd (partIn_small hj)
  exact num_bd (by omega) (by omega)
theorem bd_moves (a b : List Int) : Num (viewMoves a b).1 := num_ite fun h => by
  have hl := partIn_len (alike_iff.1 h).1
  have := isMost_le (moves_isMost h)
  exact num_bd (by omega) (by omega)
theorem bd_number (n k : Int) : Num (numBy (ext fB) n k).1 := num_ite fun h => by
  obtain ⟨h1, h2⟩ := inNum_parts h
  have := numbers_B.bd n k (by omega)
  exact num_bd (by omega) (by omega)
theorem bd_all (n : Int) : Num (numAll n).1 := num_ite fun h => by
  have h1 := bell_fact n.toNat (by omega)
  have h2 := bell_small n.toNat (by omega)
  rw [Int.toNat_of_nonneg h.1] at h1
  exact num_bd (by omega) (by omega)
theorem bd_plain (n : Int) : Num (arcPlain n).1 := num_ite fun h => by
  have h1 := List.countP_le_length (p := fun xs => plainP (arcsOf xs)) (l := allL n.toNat)
  have h2 := opn_bd n.toNat 0 (by omega) (by omega)
  rw [allL_length] at h1
  exact num_nat (by omega)

theorem good_type (a : List Int) : GoodL (partType a).1 := goodL_ite fun h => by
  have hs := pSize_bd (partIn_small h)
  refine ⟨by rw [desc_length, sizes_length]; omega, fun x hx => ?_⟩
  have := sizes_bd h x ((desc_perm _).mem_iff.1 hx)
  exact num_bd (by omega) (by omega)
theorem blk_has (a : List Int) (b : Nat) : ∀ (k : Nat) (x : Int), x ∈ blkAt a b k → 0 ≤ x ∧ x < k := by
  intro k
  induction k with
  | zero => intro x hx; cases hx
  | succ k ih =>
    intro x hx
    unfold blkAt at hx
    split at hx
    · rcases List.mem_append.1 hx with h | h
      · have := ih x h; omega
      · have := List.mem_singleton.1 h; omega
    · have := ih x hx; omega
theorem cntAt_most (a : List Int) (b : Nat) : ∀ k, cntAt a b k ≤ k := by
  intro k
  induction k with
  | zero => exact Nat.le_refl _
  | succ k ih => unfold cntAt; split <;> omega
theorem good_blk {a : List Int} (h : partIn a = true) (b : Nat) : GoodL (blkAt a b a.length) := by
  have hl := partIn_len h
  have := cntAt_most a b a.length
  refine ⟨by rw [blkAt_length]; omega, fun x hx => ?_⟩
  have := blk_has a b _ x hx
  exact num_bd (by omega) (by omega)
theorem good_blocks (a : List Int) : GoodM (partBlocks a).1 := goodM_ite fun h => by
  have hs := pSize_bd (partIn_small h)
  refine ⟨by rw [blocksTo_length]; omega, fun l hl => ?_⟩
  obtain ⟨b, _, rfl⟩ := List.mem_map.1 hl
  exact good_blk h b
theorem good_merges (a : List Int) : GoodM (finerMerges a).1 := goodM_ite fun h => by
  have hs := pSize_bd (partIn_small h)
  have hl := partIn_len h
  refine ⟨?_, fun l hl' => ?_⟩
  · rw [merges_len a _ (by omega)]
    have : (pSize a).toNat * ((pSize a).toNat - 1) ≤ 8 * 7 := Nat.mul_le_mul (by omega) (by omega)
    omega
  · obtain ⟨x, y, _, _, rfl⟩ := merges_each a _ l _ hl'
    exact goodL_part (partIn_kOut (by rw [retold_length]; omega) (by rw [retold_length]; omega))
theorem good_arcs (a : List Int) : GoodM (arcList a).1 := goodM_ite fun h => by
  have hl := partIn_len h
  have h2 := arcsOf_len a
  unfold rowsOf
  refine ⟨by rw [List.length_map]; omega, fun l hl' => ?_⟩
  obtain ⟨p, hp, rfl⟩ := List.mem_map.1 hl'
  have := arcs_le hp
  refine ⟨by simp, fun x hx => ?_⟩
  simp only [List.mem_cons, List.not_mem_nil, or_false] at hx
  exact num_bd (by omega) (by omega)
theorem ofIn_good {N : Nat} (s L : List Int) (hs : ∀ x ∈ s, 0 ≤ x ∧ x ≤ N) (hL : ∀ x ∈ L, 0 ≤ x ∧ x ≤ N) : ∀ i, ∀ x ∈ ofIn s L i, 0 ≤ x ∧ x ≤ N := by
  intro i
  induction i with
  | zero => exact hs
  | succ i ih =>
    intro x hx
    rw [ofIn] at hx
    rcases List.mem_or_eq_of_mem_set hx with h | rfl
    · exact ih x h
    · simp only [List.getD]
      cases hq : L[(i + 1) % L.length]? with
      | none => simp
      | some z => exact hL z (List.mem_of_getElem? hq)
theorem good_ring (a : List Int) : GoodL (ringOf a).1 := goodL_ite fun h => by
  have hl := partIn_len h
  refine ⟨by rw [ofTo_length]; omega, ?_⟩
  have : ∀ b, ∀ x ∈ ofTo a b, 0 ≤ x ∧ x ≤ (8 : Nat) := by
    intro b
    induction b with
    | zero => intro x hx; rw [ofTo] at hx; have := List.eq_of_mem_replicate hx; omega
    | succ b ih =>
      rw [ofTo]
      exact ofIn_good _ _ ih (fun x hx => by have := blk_has a b _ x hx; omega) _
  intro x hx
  have := this _ x hx
  exact num_bd (by omega) (by omega)
theorem good_pairs (a : List Int) : GoodM (pairOf a).1 := goodM_ite fun h => by
  rw [Bool.and_eq_true, decide_eq_true_eq] at h
  have h15 := allP_le a.length h.2
  refine ⟨by rw [encPs_length]; unfold ofP; have := List.length_filter_le (fun p => a.getD p.1 0 == a.getD p.2 0) (allP a.length); omega, fun l hl => ?_⟩
  obtain ⟨p, hp, rfl⟩ := List.mem_map.1 hl
  have hp := mem_allP.1 (show (p.1, p.2) ∈ allP a.length from (List.mem_filter.1 hp).1)
  refine ⟨by simp [encP], fun x hx => ?_⟩
  simp only [encP, List.mem_cons, List.not_mem_nil, or_false] at hx
  exact num_bd (by omega) (by omega)

section
open Go.RowKit

theorem addr_zero (a : Addr) : a.add 0 = a := by simp [Addr.add]
theorem str_one (c : UInt8) (w : World) (a : Addr) (hc : w.cell? a = some (.int .u8 (c.toNat : Int))) :
    (convert 22 9 (.slice (some a) 1 1)).run Tryz.prog w = .ok (strV [c]) w := by
  have := run_convert_bytes_back (P := Tryz.prog) w 22 9 5 a 1 [c] Tryz.underlying22 Tryz.underlying5 Tryz.underlying9 (by
    intro j hj
    have : j = 0 := by simp at hj; omega
    subst this
    rw [addr_zero]
    exact hc)
  exact this
theorem digC_int {d : Nat} (h : d < 10) : ((digC d).toNat : Int) = 48 + (d : Int) := by rw [dig_of d h]; omega

theorem decN_len15 {n : Nat} (h : n < 1000000000000000) : (decN n).length ≤ 15 := decN_len 14 n (by omega)

theorem decZ_len15 {n : Int} (h : Num n) : (decZ n).length ≤ 16 := by
  unfold Num at h
  unfold decZ
  split
  · have := decN_len15 (n := n.natAbs) (by omega)
    simp; omega
  · have := decN_len15 (n := n.toNat) (by omega)
    omega
end

section
open Go.RowKit

theorem str_cat2 (o x : List UInt8) : Value.string (((⟨o.toArray⟩ : ByteArray) ++ ⟨#[32]⟩) ++ ⟨x.toArray⟩) = strV (o ++ 32 :: x) := by
  have h : (⟨o.toArray⟩ : ByteArray) ++ ⟨#[32]⟩ = ⟨(o ++ [32]).toArray⟩ := ByteArray.mk_append_mk o [32]
  rw [h, ByteArray.mk_append_mk, List.append_assoc]
  rfl
theorem str_cat1 (o x : List UInt8) : Value.string ((⟨o.toArray⟩ : ByteArray) ++ ⟨x.toArray⟩) = strV (o ++ x) := by rw [ByteArray.mk_append_mk]

theorem joinL_take (ts : List (List UInt8)) (k : Nat) (h : k < ts.length) : joinL (ts.take (k + 1)) = if k = 0 then ts.getD k [] else joinL (ts.take k) ++ 32 :: ts.getD k [] := by
  have e : ts.take (k + 1) = ts.take k ++ [ts.getD k []] := by
    rw [List.take_add_one, List.getElem?_eq_getElem h]
    simp [List.getD, h]
  rw [e]
  by_cases h0 : k = 0
  · subst h0; simp [joinL]
  · rw [if_neg h0, joinL_snoc]
    intro he
    have := congrArg List.length he
    rw [List.length_take, List.length_nil] at this
    omega
theorem joinL_len : ∀ (ts : List (List UInt8)) (N : Nat), (∀ t ∈ ts, t.length ≤ N) → (joinL ts).length ≤ (N + 1) * ts.length := by
  intro ts N
  induction ts with
  | nil => intro _; simp [joinL]
  | cons x l ih =>
    intro h
    have h1 := ih fun t ht => h t (by simp [ht])
    have h2 := h x (by simp)
    cases l with
    | nil => simp [joinL]; omega
    | cons y r =>
      show (x ++ 32 :: joinL (y :: r)).length ≤ _
      rw [List.length_append, List.length_cons, List.length_cons (a := x), Nat.mul_succ]
      omega

theorem flat_len (N : Nat) : ∀ l : List Int, (∀ x ∈ l, Num x) → (l.flatMap decZ).length ≤ 16 * l.length := by
  intro l
  induction l with
  | nil => intro _; simp
  | cons x l ih =>
    intro h
    have h1 := ih fun y hy => h y (by simp [hy])
    have h2 := decZ_len15 (h x (by simp))
    rw [List.flatMap_cons, List.length_append, List.length_cons]
    omega
def rowT (l : List Int) : List UInt8 := l.flatMap decZ
end

section
open Go.RowKit

theorem rd_one {w : World} {ao : Option Addr} {l : List Int} (h : Rd w ao l) (hl : l.length = 1) : ∃ b off, ao = some ⟨b, off, none⟩ ∧ w.cell? ⟨b, off, none⟩ = some (.int .i64 (l.getD 0 0)) := by
  obtain ⟨b, off, ha, hc⟩ := rd_cell h (k := 0) (by omega)
  exact ⟨b, off, ha, hc⟩
theorem rd_two {w : World} {ao : Option Addr} {l : List Int} (h : Rd w ao l) (hl : l.length = 2) : ∃ b off, ao = some ⟨b, off, none⟩ ∧ w.cell? ⟨b, off, none⟩ = some (.int .i64 (l.getD 0 0)) ∧ w.cell? ⟨b, off + 1, none⟩ = some (.int .i64 (l.getD 1 0)) := by
  rcases h with rfl | ⟨b, off, ha, hc⟩
  · simp at hl
  · exact ⟨b, off, ha, hc 0 (by omega), hc 1 (by omega)⟩
theorem wf_999 {l : List Int} (h : ∀ x ∈ l, 0 ≤ x ∧ x ≤ 999) (k : Nat) (hk : k < l.length) : (Lit.int .i64 (l.getD k 0)).wf = true := by
  have : l.getD k 0 ∈ l := by simp only [List.getD, List.getElem?_eq_getElem hk, Option.getD_some]; exact List.getElem_mem hk
  have := h _ this
  exact WalkArith.wf_i64 ⟨by omega, by omega⟩
end

section
open Go.RowKit

theorem valFrom_snoc (v : Int) (l : List UInt8) (c : UInt8) : valFrom v (l ++ [c]) = 10 * valFrom v l + ((c.toNat : Int) - 48) := by rw [valFrom_append]; rfl
theorem dig_iff (c : UInt8) : isDig c = true ↔ 48 ≤ c.toNat ∧ c.toNat ≤ 57 := by unfold isDig; simp
theorem valFrom_bd : ∀ (l : List UInt8), l.all isDig = true → 0 ≤ valFrom 0 l ∧ valFrom 0 l < 10 ^ l.length := by
  refine snoc_ind (fun _ => by simp [valFrom]) fun l c ih h => ?_
  rw [List.all_append, Bool.and_eq_true] at h
  have h1 := ih h.1
  have h2 := (dig_iff c).1 (by simpa using h.2)
  rw [valFrom_snoc, List.length_append, List.length_singleton, Int.pow_succ]
  omega

theorem val_99 {l : List UInt8} (h : l.all isDig = true) (hl : l.length ≤ 2) : 0 ≤ valFrom 0 l ∧ valFrom 0 l ≤ 99 := by
  have h1 := valFrom_bd l h
  have h2 : (10 : Int) ^ l.length ≤ 10 ^ 2 := by
    have : l.length = 0 ∨ l.length = 1 ∨ l.length = 2 := by omega
    rcases this with e | e | e <;> rw [e] <;> decide
  omega
theorem val_999 {l : List UInt8} (h : okNum l = true) : 0 ≤ valFrom 0 l ∧ valFrom 0 l ≤ 999 := by
  unfold okNum at h
  rw [Bool.and_eq_true, decide_eq_true_eq] at h
  have h1 := valFrom_bd l h.2
  have h2 : (10 : Int) ^ l.length ≤ 10 ^ 3 := by
    have : l.length = 1 ∨ l.length = 2 ∨ l.length = 3 := by omega
    rcases this with e | e | e <;> rw [e] <;> decide
  omega
end

section
open Go.RowKit

theorem nums_999 : ∀ (r cur : List UInt8) (out : List Int), (∀ x ∈ out, 0 ≤ x ∧ x ≤ 999) → ∀ x ∈ (numsGo out cur r).1, 0 ≤ x ∧ x ≤ 999 := by
  have step : ∀ (out : List Int) (cur : List UInt8), (∀ x ∈ out, 0 ≤ x ∧ x ≤ 999) → okNum cur = true → ∀ x ∈ out ++ [valFrom 0 cur], 0 ≤ x ∧ x ≤ 999 := by
    intro out cur h hk x hx
    rcases List.mem_append.1 hx with h1 | h1
    · exact h x h1
    · rw [List.mem_singleton.1 h1]
      exact val_999 hk
  intro r
  induction r with
  | nil =>
    intro cur out h x hx
    have hx' : x ∈ (if okNum cur then (out ++ [valFrom 0 cur], true) else ([], false) : List Int × Bool).1 := hx
    split at hx'
    · exact step out cur h ‹_› x hx'
    · cases hx'
  | cons c r ih =>
    intro cur out h x hx
    have hx' : x ∈ (if c = 32 then (if okNum cur then numsGo (out ++ [valFrom 0 cur]) [] r else ([], false)) else numsGo out (cur ++ [c]) r : List Int × Bool).1 := hx
    split at hx'
    · split at hx'
      · exact ih _ _ (step out cur h ‹_›) x hx'
      · cases hx'
    · exact ih _ _ h x hx'
end

section
open Go.RowKit

theorem texts_short (ts : List (List UInt8)) (ok : Bool) (hn : ts.length ≤ 64) (hx : ∀ t ∈ ts, t.length ≤ 1100) : (textsL ts ok).length ≤ 100000 := by
  unfold textsL
  split
  · simp
  · split
    · simp
    · have := joinL_len ts 1100 hx
      have h2 := Nat.mul_le_mul_left (1100 + 1) hn
      rw [List.length_append, List.length_singleton]
      omega
theorem said_short {xs : List Int} (ok : Bool) (h : GoodL xs) : (saidL xs ok).length ≤ 100000 :=
  texts_short _ ok (by simpa using h.1) fun t ht => by
    obtain ⟨x, hx, rfl⟩ := List.mem_map.1 ht
    have := decZ_len15 (h.2 x hx)
    omega
theorem one_short {n : Int} (ok : Bool) (h : Num n) : (oneL n ok).length ≤ 100000 := said_short ok ⟨by simp, fun x hx => by rw [List.mem_singleton.1 hx]; exact h⟩
theorem lists_short {ls : List (List Int)} (ok : Bool) (h : GoodM ls) : (listsL ls ok).length ≤ 100000 :=
  texts_short _ ok (by simpa using h.1) fun t ht => by
    obtain ⟨x, hx, rfl⟩ := List.mem_map.1 ht
    have h5 := flat_len 0 x (h.2 x hx).2
    have h6 := (h.2 x hx).1
    omega
theorem ite_short {c : Prop} [Decidable c] {x y : List UInt8} (hx : x.length ≤ 100000) (hy : y.length ≤ 100000) : (if c then x else y).length ≤ 100000 := by
  by_cases h : c
  · rw [if_pos h]; exact hx
  · rw [if_neg h]; exact hy
theorem bare_short {a : List Int} (h : partIn a = true) (w : List UInt8) : (bareL a w).length ≤ 100000 := by
  unfold bareL
  refine ite_short (said_short _ (goodL_part h)) ?_
  refine ite_short (lists_short _ (good_blocks a)) ?_
  refine ite_short (said_short _ (good_type a)) ?_
  refine ite_short (one_short _ (bd_size a)) ?_
  refine ite_short (one_short _ (bd_rank a)) ?_
  refine ite_short (lists_short _ (good_merges a)) ?_
  refine ite_short (one_short _ (bd_splits a)) ?_
  refine ite_short (one_short _ (bd_chains a)) ?_
  refine ite_short (one_short _ (bd_place a)) ?_
  refine ite_short (lists_short _ (good_arcs a)) ?_
  refine ite_short (one_short _ (bd_cross a)) ?_
  refine ite_short (one_short _ (bd_nest a)) ?_
  refine ite_short (one_short _ (bd_far a)) ?_
  refine ite_short (said_short _ (good_ring a)) ?_
  refine ite_short (one_short _ (bd_count a)) ?_
  refine ite_short (lists_short _ (good_pairs a)) ?_
  decide
theorem ask_short (a : List Int) (w : List UInt8) (l : List Int) (ok : Bool) : (askL a w l ok).length ≤ 100000 := by
  unfold askL
  refine ite_short (ite_short (by decide) (ite_short (by decide) (by decide))) ?_
  refine ite_short (one_short _ (bd_sign a l)) ?_
  refine ite_short (one_short _ (bd_inner a l)) ?_
  refine ite_short (one_short _ (bd_quarrel a l)) ?_
  refine ite_short (one_short _ (bd_path a l)) ?_
  refine ite_short (one_short _ (bd_moves a l)) ?_
  refine ite_short (ite_short (one_short _ (bd_number _ _)) (by decide)) ?_
  refine ite_short (ite_short (one_short _ (bd_all _)) (by decide)) ?_
  refine ite_short (ite_short (one_short _ (bd_plain _)) (by decide)) ?_
  decide
theorem line_short {a : List Int} (h : partIn a = true) (l : List UInt8) : (lineL a l).2.length ≤ 100000 := by
  unfold lineL
  dsimp only
  repeat' split
  all_goals first | exact bare_short h _ | exact ask_short _ _ _ _ | exact (by decide : sayOk.length ≤ 100000) | exact (by decide : sayNo.length ≤ 100000)
end

end Go.Proofs.YtmflecemkodklaaGreatDoor

namespace Go.Proofs
open Go.Shelf
def Tryz.lays169_ren : Go.Shelf.Ren := ⟨fun | 169 => 30 | n => n, fun | 70 => 43 | 9 => 9 | 0 => 0 | 72 => 45 | 37 => 22 | 127 => 78 | 3 => 3 | 5 => 5 | n => n, fun | n => n⟩
theorem Tryz.lays169 : Go.Proofs.Lays.n169 Tryz.prog Tryz.lays169_ren := {
  mixed := by kernel_rfl
  f169 := Tryz.func30.trans (congrArg some (by kernel_rfl))
  t0 := Tryz.underlying0
  a0 := Tryz.isAgg0
  z0 := Tryz.sizeOf0
  v0 := Tryz.zeroValue0
  t3 := Tryz.underlying3
  a3 := Tryz.isAgg3
  z3 := Tryz.sizeOf3
  v3 := Tryz.zeroValue3
  t9 := Tryz.underlying9
  a9 := Tryz.isAgg9
  z9 := Tryz.sizeOf9
  v9 := Tryz.zeroValue9
  t37 := Tryz.underlying22
  a37 := Tryz.isAgg22
  z37 := Tryz.sizeOf22
  v37 := Tryz.zeroValue22
  t70 := Tryz.underlying43
  a70 := Tryz.isAgg43
  z70 := Tryz.sizeOf43
  v70 := Tryz.zeroValue43
  t72 := Tryz.underlying45
  a72 := Tryz.isAgg45
  z72 := Tryz.sizeOf45
  v72 := Tryz.zeroValue45
  t127 := Tryz.underlying78
  a127 := Tryz.isAgg78
  z127 := Tryz.sizeOf78
  v127 := Tryz.zeroValue78 }
theorem Tryz.Builder_Extra_169 : Builder.Extra Tryz.prog Tryz.lays169_ren := {
  sizeBuilder := by kernel_rfl
  liesBuilder := by kernel_rfl
  t5 := Tryz.underlying5
  a5 := Tryz.isAgg5
  z5 := Tryz.sizeOf5
  v5 := Tryz.zeroValue5
  infoByte := by kernel_rfl
  cellsByte := by kernel_rfl
  sizeByte := by kernel_rfl
  neB5 := by decide }
def Tryz.lays156_ren : Go.Shelf.Ren := ⟨fun | 156 => 260 | 165 => 291 | 166 => 27 | 169 => 30 | 240 => 45 | 241 => 305 | 276 => 69 | 277 => 319 | n => n, fun | 31 => 38 | 9 => 9 | 3 => 3 | 4 => 4 | 0 => 0 | 20 => 20 | 72 => 45 | 76 => 48 | 70 => 43 | 37 => 22 | 75 => 47 | 127 => 78 | 164 => 95 | 5 => 5 | 80 => 50 | n => n, fun | n => n⟩
theorem Tryz.lays156 : Go.Proofs.Lays.n156 Tryz.prog Tryz.lays156_ren := {
  mixed := by kernel_rfl
  f156 := Tryz.func260.trans (congrArg some (by kernel_rfl))
  f165 := Tryz.func291.trans (congrArg some (by kernel_rfl))
  f166 := Tryz.func27.trans (congrArg some (by kernel_rfl))
  f169 := Tryz.func30.trans (congrArg some (by kernel_rfl))
  f240 := Tryz.func45.trans (congrArg some (by kernel_rfl))
  f241 := Tryz.func305.trans (congrArg some (by kernel_rfl))
  f276 := Tryz.func69.trans (congrArg some (by kernel_rfl))
  f277 := Tryz.func319.trans (congrArg some (by kernel_rfl))
  t0 := Tryz.underlying0
  a0 := Tryz.isAgg0
  z0 := Tryz.sizeOf0
  v0 := Tryz.zeroValue0
  t3 := Tryz.underlying3
  a3 := Tryz.isAgg3
  z3 := Tryz.sizeOf3
  v3 := Tryz.zeroValue3
  t4 := Tryz.underlying4
  a4 := Tryz.isAgg4
  z4 := Tryz.sizeOf4
  v4 := Tryz.zeroValue4
  t9 := Tryz.underlying9
  a9 := Tryz.isAgg9
  z9 := Tryz.sizeOf9
  v9 := Tryz.zeroValue9
  t20 := Tryz.underlying20
  a20 := Tryz.isAgg20
  z20 := Tryz.sizeOf20
  v20 := Tryz.zeroValue20
  t31 := Tryz.underlying38
  a31 := Tryz.isAgg38
  z31 := Tryz.sizeOf38
  v31 := Tryz.zeroValue38
  t37 := Tryz.underlying22
  a37 := Tryz.isAgg22
  z37 := Tryz.sizeOf22
  v37 := Tryz.zeroValue22
  t70 := Tryz.underlying43
  a70 := Tryz.isAgg43
  z70 := Tryz.sizeOf43
  v70 := Tryz.zeroValue43
  t72 := Tryz.underlying45
  a72 := Tryz.isAgg45
  z72 := Tryz.sizeOf45
  v72 := Tryz.zeroValue45
  t75 := Tryz.underlying47
  a75 := Tryz.isAgg47
  z75 := Tryz.sizeOf47
  v75 := Tryz.zeroValue47
  t76 := Tryz.underlying48
  a76 := Tryz.isAgg48
  z76 := Tryz.sizeOf48
  v76 := Tryz.zeroValue48
  t127 := Tryz.underlying78
  a127 := Tryz.isAgg78
  z127 := Tryz.sizeOf78
  v127 := Tryz.zeroValue78
  t164 := Tryz.underlying95
  a164 := Tryz.isAgg95
  z164 := Tryz.sizeOf95
  v164 := Tryz.zeroValue95 }
theorem Tryz.Builder_Extra_156 : Builder.Extra Tryz.prog Tryz.lays156_ren := {
  sizeBuilder := by kernel_rfl
  liesBuilder := by kernel_rfl
  t5 := Tryz.underlying5
  a5 := Tryz.isAgg5
  z5 := Tryz.sizeOf5
  v5 := Tryz.zeroValue5
  infoByte := by kernel_rfl
  cellsByte := by kernel_rfl
  sizeByte := by kernel_rfl
  neB5 := by decide }
open Go.RowKit in
theorem Tryz.strings_Join_none (a : Option Addr) (c : Nat) (sep : ByteArray) (w : World) :
    Calls Tryz.prog 260 #[.slice a 0 c, .string sep] w fun e w' => e = .returned (.string ⟨#[]⟩) ∧ w' = w := Any.strings_Join_none Tryz.lays156 Tryz.Builder_Extra_156 a c sep w
open Go.RowKit in
theorem Tryz.strings_Join (bk o c : Nat) (xs : List ByteArray) (sep : ByteArray) (w : World) (hcells : ∀ (j : Nat) x, xs[j]? = some x → w.cell? ⟨bk, o + j, none⟩ = some (.string x)) (hbk : bk < w.heap.size) (hN : xs.length ≤ 140737488355328) (hcap : xs.length ≤ c) (hlen : (Lib.join (xs.map (·.data.toList)) sep.data.toList).length ≤ 140737488355328) :
    Calls Tryz.prog 260 #[.slice (some ⟨bk, o, none⟩) xs.length c, .string sep] w fun e w' => e = .returned (.string ⟨(Lib.join (xs.map (·.data.toList)) sep.data.toList).toArray⟩) ∧ Below w.heap.size w w' := Any.strings_Join Tryz.lays156 Tryz.Builder_Extra_156 bk o c xs sep w hcells hbk hN hcap hlen
open Go.RowKit in
theorem Tryz.Builder_String_any_k (B b : Nat) (l : List UInt8) (w : World) (h : Lib.IsBuilderF 45 5 B b (Lib.byteCells l) w) (hBw : B ≤ w.heap.size) :
    Calls Tryz.prog 30 #[.pointer (some ⟨b, 0, none⟩)] w fun e w' => e = .returned (.string ⟨l.toArray⟩) ∧ (Lib.IsBuilderF 45 5 B b (Lib.byteCells l) w' ∧ Below B w w' ∧ Lib.OthersKept 5 (some b) w w') := Any.Builder_String_any_k Tryz.lays169 Tryz.Builder_Extra_169 B b l w h hBw
def Tryz.laysM171_ren : Go.Shelf.Ren := ⟨fun | 171 => 29 | 243 => 50 | 246 => 74 | 283 => 152 | 284 => 153 | 285 => 154 | 286 => 155 | 129 => 219 | 317 => 218 | 318 => 220 | 319 => 221 | 320 => 222 | 337 => 272 | 338 => 273 | n => n, fun | 3 => 3 | 9 => 9 | 2 => 2 | 4 => 4 | 171 => 129 | 0 => 0 | 53 => 130 | 37 => 22 | 5 => 5 | 173 => 133 | 212 => 147 | 51 => 148 | 20 => 20 | 213 => 149 | 46 => 144 | 232 => 222 | 233 => 223 | n => n, fun | 17 => 1 | 18 => 4 | 19 => 5 | n => n⟩
theorem Tryz.laysM171 : Go.Proofs.LaysM.n171 Tryz.prog Tryz.laysM171_ren := {
  mixed := by kernel_rfl
  f129 := Tryz.func219.trans (congrArg some (by kernel_rfl))
  f171 := Tryz.func29.trans (congrArg some (by kernel_rfl))
  f243 := Tryz.func50.trans (congrArg some (by kernel_rfl))
  f246 := Tryz.func74.trans (congrArg some (by kernel_rfl))
  f283 := Tryz.func152.trans (congrArg some (by kernel_rfl))
  f284 := Tryz.func153.trans (congrArg some (by kernel_rfl))
  f285 := Tryz.func154.trans (congrArg some (by kernel_rfl))
  f286 := Tryz.func155.trans (congrArg some (by kernel_rfl))
  f317 := Tryz.func218.trans (congrArg some (by kernel_rfl))
  f318 := Tryz.func220.trans (congrArg some (by kernel_rfl))
  f319 := Tryz.func221.trans (congrArg some (by kernel_rfl))
  f320 := Tryz.func222.trans (congrArg some (by kernel_rfl))
  f337 := Tryz.func272.trans (congrArg some (by kernel_rfl))
  f338 := Tryz.func273.trans (congrArg some (by kernel_rfl))
  t0 := Tryz.underlying0
  a0 := Tryz.isAgg0
  z0 := Tryz.sizeOf0
  v0 := Tryz.zeroValue0
  t2 := Tryz.underlying2
  a2 := Tryz.isAgg2
  z2 := Tryz.sizeOf2
  v2 := Tryz.zeroValue2
  t3 := Tryz.underlying3
  a3 := Tryz.isAgg3
  z3 := Tryz.sizeOf3
  v3 := Tryz.zeroValue3
  t4 := Tryz.underlying4
  a4 := Tryz.isAgg4
  z4 := Tryz.sizeOf4
  v4 := Tryz.zeroValue4
  t5 := Tryz.underlying5
  a5 := Tryz.isAgg5
  z5 := Tryz.sizeOf5
  v5 := Tryz.zeroValue5
  t9 := Tryz.underlying9
  a9 := Tryz.isAgg9
  z9 := Tryz.sizeOf9
  v9 := Tryz.zeroValue9
  t20 := Tryz.underlying20
  a20 := Tryz.isAgg20
  z20 := Tryz.sizeOf20
  v20 := Tryz.zeroValue20
  t37 := Tryz.underlying22
  a37 := Tryz.isAgg22
  z37 := Tryz.sizeOf22
  v37 := Tryz.zeroValue22
  t46 := Tryz.underlying144
  a46 := Tryz.isAgg144
  z46 := Tryz.sizeOf144
  v46 := Tryz.zeroValue144
  t51 := Tryz.underlying148
  a51 := Tryz.isAgg148
  z51 := Tryz.sizeOf148
  v51 := Tryz.zeroValue148
  t53 := Tryz.underlying130
  a53 := Tryz.isAgg130
  z53 := Tryz.sizeOf130
  v53 := Tryz.zeroValue130
  t171 := Tryz.underlying129
  a171 := Tryz.isAgg129
  z171 := Tryz.sizeOf129
  v171 := Tryz.zeroValue129
  t173 := Tryz.underlying133
  a173 := Tryz.isAgg133
  z173 := Tryz.sizeOf133
  v173 := Tryz.zeroValue133
  t212 := Tryz.underlying147
  a212 := Tryz.isAgg147
  z212 := Tryz.sizeOf147
  v212 := Tryz.zeroValue147
  t213 := Tryz.underlying149
  a213 := Tryz.isAgg149
  z213 := Tryz.sizeOf149
  t232 := Tryz.underlying222
  a232 := Tryz.isAgg222
  z232 := Tryz.sizeOf222
  v232 := Tryz.zeroValue222
  t233 := Tryz.underlying223
  a233 := Tryz.isAgg223
  z233 := Tryz.sizeOf223
  v233 := Tryz.zeroValue223
  g17 := by kernel_rfl
  g18 := by kernel_rfl
  g19 := by kernel_rfl
  i0 := by kernel_rfl
  i2 := by kernel_rfl
  i3 := by kernel_rfl
  i4 := by kernel_rfl
  i5 := by kernel_rfl
  i9 := by kernel_rfl
  i20 := by kernel_rfl
  i37 := by kernel_rfl
  i46 := by kernel_rfl
  i51 := by kernel_rfl
  i53 := by kernel_rfl
  i171 := by kernel_rfl
  i173 := by kernel_rfl
  i212 := by kernel_rfl
  i232 := by kernel_rfl
  i233 := by kernel_rfl
  m17 := by kernel_rfl
  m18 := by kernel_rfl
  m19 := by kernel_rfl }
open Go.RowKit Go.Sort Go.Lib in
theorem Tryz.strconv_Itoa (n : Int) (h0 : -9223372036854775808 ≤ n) (h1 : n ≤ 9223372036854775807) (w : World) (htab : Lib.TabIs Tryz.prog w "internal/strconv.uint64pow10" .u64 Lib.pow10Tab) :
    Calls Tryz.prog 29 #[.int .i64 n] w fun e w' => e = .returned (.string ⟨(Lib.itoa n).toArray⟩) ∧ ∃ k os, w' = grow (w.drewN k) os := Any.strconv_Itoa Tryz.laysM171 n h0 h1 w htab
open Go.RowKit Go.Lib in
def Tryz.lays145_ren : Go.Shelf.Ren := ⟨fun | 145 => 47 | 220 => 70 | 219 => 113 | 217 => 177 | 225 => 178 | 224 => 179 | 267 => 180 | 266 => 224 | 314 => 225 | n => n, fun | 9 => 9 | 4 => 4 | 59 => 75 | 3 => 3 | 5 => 5 | 46 => 144 | 146 => 156 | 51 => 148 | n => n, fun | 1 => 0 | n => n⟩
theorem Tryz.lays145 : Go.Proofs.Lays.n145 Tryz.prog Tryz.lays145_ren := {
  mixed := by kernel_rfl
  f145 := Tryz.func47.trans (congrArg some (by kernel_rfl))
  f217 := Tryz.func177.trans (congrArg some (by kernel_rfl))
  f219 := Tryz.func113.trans (congrArg some (by kernel_rfl))
  f220 := Tryz.func70.trans (congrArg some (by kernel_rfl))
  f224 := Tryz.func179.trans (congrArg some (by kernel_rfl))
  f225 := Tryz.func178.trans (congrArg some (by kernel_rfl))
  f266 := Tryz.func224.trans (congrArg some (by kernel_rfl))
  f267 := Tryz.func180.trans (congrArg some (by kernel_rfl))
  f314 := Tryz.func225.trans (congrArg some (by kernel_rfl))
  t3 := Tryz.underlying3
  a3 := Tryz.isAgg3
  z3 := Tryz.sizeOf3
  v3 := Tryz.zeroValue3
  t4 := Tryz.underlying4
  a4 := Tryz.isAgg4
  z4 := Tryz.sizeOf4
  v4 := Tryz.zeroValue4
  t5 := Tryz.underlying5
  a5 := Tryz.isAgg5
  z5 := Tryz.sizeOf5
  v5 := Tryz.zeroValue5
  t9 := Tryz.underlying9
  a9 := Tryz.isAgg9
  z9 := Tryz.sizeOf9
  v9 := Tryz.zeroValue9
  t46 := Tryz.underlying144
  a46 := Tryz.isAgg144
  z46 := Tryz.sizeOf144
  v46 := Tryz.zeroValue144
  t51 := Tryz.underlying148
  a51 := Tryz.isAgg148
  z51 := Tryz.sizeOf148
  v51 := Tryz.zeroValue148
  t59 := Tryz.underlying75
  a59 := Tryz.isAgg75
  z59 := Tryz.sizeOf75
  v59 := Tryz.zeroValue75
  t146 := Tryz.underlying156
  a146 := Tryz.isAgg156
  z146 := Tryz.sizeOf156
  v146 := Tryz.zeroValue156
  g1 := by kernel_rfl }
open Go.RowKit Go.Lib in
theorem Tryz.strings_Cut (s sep : ByteArray) (m : Int) (w : World) (hs : s.size < 4294967281) (hm : w.cell? ⟨0, 0, none⟩ = some (.int .i64 m)) :
    Calls Tryz.prog 47 #[.string s, .string sep] w fun e w' => e = .returned (.tuple #[.string ⟨(Lib.cut s.data.toList sep.data.toList).1.toArray⟩, .string ⟨(Lib.cut s.data.toList sep.data.toList).2.1.toArray⟩, .bool (Lib.cut s.data.toList sep.data.toList).2.2]) ∧ ∃ n, w' = w.drewN n := Any.strings_Cut Tryz.lays145 s sep m w hs hm
def Tryz.lays146_ren : Go.Shelf.Ren := ⟨fun | 146 => 26 | 221 => 44 | 268 => 66 | 138 => 67 | 143 => 68 | 195 => 110 | 197 => 111 | 218 => 112 | 219 => 113 | 260 => 176 | 217 => 177 | 225 => 178 | 224 => 179 | 267 => 180 | 266 => 224 | 314 => 225 | n => n, fun | 9 => 9 | 31 => 38 | 3 => 3 | 4 => 4 | 0 => 0 | 105 => 123 | 21 => 21 | 5 => 5 | 46 => 144 | 119 => 152 | 139 => 155 | 138 => 154 | 146 => 156 | 51 => 148 | n => n, fun | 1 => 0 | 3 => 2 | 4 => 3 | n => n⟩
theorem Tryz.lays146 : Go.Proofs.Lays.n146 Tryz.prog Tryz.lays146_ren := {
  mixed := by kernel_rfl
  f138 := Tryz.func67.trans (congrArg some (by kernel_rfl))
  f143 := Tryz.func68.trans (congrArg some (by kernel_rfl))
  f146 := Tryz.func26.trans (congrArg some (by kernel_rfl))
  f195 := Tryz.func110.trans (congrArg some (by kernel_rfl))
  f197 := Tryz.func111.trans (congrArg some (by kernel_rfl))
  f217 := Tryz.func177.trans (congrArg some (by kernel_rfl))
  f218 := Tryz.func112.trans (congrArg some (by kernel_rfl))
  f219 := Tryz.func113.trans (congrArg some (by kernel_rfl))
  f221 := Tryz.func44.trans (congrArg some (by kernel_rfl))
  f224 := Tryz.func179.trans (congrArg some (by kernel_rfl))
  f225 := Tryz.func178.trans (congrArg some (by kernel_rfl))
  f260 := Tryz.func176.trans (congrArg some (by kernel_rfl))
  f266 := Tryz.func224.trans (congrArg some (by kernel_rfl))
  f267 := Tryz.func180.trans (congrArg some (by kernel_rfl))
  f268 := Tryz.func66.trans (congrArg some (by kernel_rfl))
  f314 := Tryz.func225.trans (congrArg some (by kernel_rfl))
  t0 := Tryz.underlying0
  a0 := Tryz.isAgg0
  z0 := Tryz.sizeOf0
  v0 := Tryz.zeroValue0
  t3 := Tryz.underlying3
  a3 := Tryz.isAgg3
  z3 := Tryz.sizeOf3
  v3 := Tryz.zeroValue3
  t4 := Tryz.underlying4
  a4 := Tryz.isAgg4
  z4 := Tryz.sizeOf4
  v4 := Tryz.zeroValue4
  t5 := Tryz.underlying5
  a5 := Tryz.isAgg5
  z5 := Tryz.sizeOf5
  v5 := Tryz.zeroValue5
  t9 := Tryz.underlying9
  a9 := Tryz.isAgg9
  z9 := Tryz.sizeOf9
  v9 := Tryz.zeroValue9
  t21 := Tryz.underlying21
  a21 := Tryz.isAgg21
  z21 := Tryz.sizeOf21
  v21 := Tryz.zeroValue21
  t31 := Tryz.underlying38
  a31 := Tryz.isAgg38
  z31 := Tryz.sizeOf38
  v31 := Tryz.zeroValue38
  t46 := Tryz.underlying144
  a46 := Tryz.isAgg144
  z46 := Tryz.sizeOf144
  v46 := Tryz.zeroValue144
  t51 := Tryz.underlying148
  a51 := Tryz.isAgg148
  z51 := Tryz.sizeOf148
  v51 := Tryz.zeroValue148
  t105 := Tryz.underlying123
  a105 := Tryz.isAgg123
  z105 := Tryz.sizeOf123
  v105 := Tryz.zeroValue123
  t119 := Tryz.underlying152
  a119 := Tryz.isAgg152
  z119 := Tryz.sizeOf152
  t138 := Tryz.underlying154
  a138 := Tryz.isAgg154
  z138 := Tryz.sizeOf154
  v138 := Tryz.zeroValue154
  t139 := Tryz.underlying155
  a139 := Tryz.isAgg155
  z139 := Tryz.sizeOf155
  v139 := Tryz.zeroValue155
  t146 := Tryz.underlying156
  a146 := Tryz.isAgg156
  z146 := Tryz.sizeOf156
  v146 := Tryz.zeroValue156
  g1 := by kernel_rfl
  g3 := by kernel_rfl
  g4 := by kernel_rfl }
open Go.RowKit Go.Lib in
theorem Tryz.strings_Split (s sep : ByteArray) (m : Int) (w : World) (hs : s.size < 4294967281) (hm : w.cell? ⟨0, 0, none⟩ = some (.int .i64 m)) (h1 : 1 ≤ sep.size) :
    Calls Tryz.prog 26 #[.string s, .string sep] w fun e w' =>
      e = .returned (.slice (some ⟨w.heap.size, 0, none⟩) (Lib.countB s sep + 1) (Lib.countB s sep + 1)) ∧ w' = w.alloc (.cells ((Lib.splitB sep 0 (Lib.countB s sep) s).map Value.string).toArray 9) := Any.strings_Split Tryz.lays146 (by kernel_rfl) s sep m w hs hm h1
def Tryz.lays166_ren : Go.Shelf.Ren := ⟨fun | 166 => 27 | 240 => 45 | 276 => 69 | n => n, fun | 0 => 0 | 3 => 3 | 4 => 4 | 5 => 5 | 9 => 9 | 20 => 20 | 37 => 22 | 70 => 43 | 72 => 45 | 75 => 47 | 80 => 50 | 164 => 95 | n => n, fun | n => n⟩
theorem Tryz.lays166 : Go.Proofs.Lays.n166 Tryz.prog Tryz.lays166_ren := {
  mixed := by kernel_rfl
  f166 := Tryz.func27.trans (congrArg some (by kernel_rfl))
  f240 := Tryz.func45.trans (congrArg some (by kernel_rfl))
  f276 := Tryz.func69.trans (congrArg some (by kernel_rfl))
  t0 := Tryz.underlying0
  a0 := Tryz.isAgg0
  z0 := Tryz.sizeOf0
  v0 := Tryz.zeroValue0
  t3 := Tryz.underlying3
  a3 := Tryz.isAgg3
  z3 := Tryz.sizeOf3
  v3 := Tryz.zeroValue3
  t4 := Tryz.underlying4
  a4 := Tryz.isAgg4
  z4 := Tryz.sizeOf4
  v4 := Tryz.zeroValue4
  t9 := Tryz.underlying9
  a9 := Tryz.isAgg9
  z9 := Tryz.sizeOf9
  v9 := Tryz.zeroValue9
  t20 := Tryz.underlying20
  a20 := Tryz.isAgg20
  z20 := Tryz.sizeOf20
  v20 := Tryz.zeroValue20
  t37 := Tryz.underlying22
  a37 := Tryz.isAgg22
  z37 := Tryz.sizeOf22
  v37 := Tryz.zeroValue22
  t70 := Tryz.underlying43
  a70 := Tryz.isAgg43
  z70 := Tryz.sizeOf43
  v70 := Tryz.zeroValue43
  t72 := Tryz.underlying45
  a72 := Tryz.isAgg45
  z72 := Tryz.sizeOf45
  v72 := Tryz.zeroValue45
  t75 := Tryz.underlying47
  a75 := Tryz.isAgg47
  z75 := Tryz.sizeOf47
  v75 := Tryz.zeroValue47
  t164 := Tryz.underlying95
  a164 := Tryz.isAgg95
  z164 := Tryz.sizeOf95
  v164 := Tryz.zeroValue95 }
theorem Tryz.Builder_Extra_166 : Builder.Extra Tryz.prog Tryz.lays166_ren := {
  sizeBuilder := by kernel_rfl
  liesBuilder := by kernel_rfl
  t5 := Tryz.underlying5
  a5 := Tryz.isAgg5
  z5 := Tryz.sizeOf5
  v5 := Tryz.zeroValue5
  infoByte := by kernel_rfl
  cellsByte := by kernel_rfl
  sizeByte := by kernel_rfl
  neB5 := by decide }
open Go.RowKit in
theorem Tryz.Builder_WriteString_k (B b : Nat) (bs : List Value) (s : ByteArray) (w : World) (h : Lib.IsBuilderF 45 5 B b bs w) (hlen : bs.length + s.size ≤ 140737488355328) (hBw : B ≤ w.heap.size) :
    Calls Tryz.prog 27 #[.pointer (some ⟨b, 0, none⟩), .string s] w fun e w' => e = .returned (.tuple #[.int .i64 s.size, .nilIface]) ∧ (Lib.BuilderAtF 45 5 B b (.pointer (some ⟨b, 0, none⟩)) (bs ++ Lib.strCells s) w' ∧ Below B w w' ∧ Lib.OthersKept 5 (some b) w w') := Any.Builder_WriteString_k Tryz.lays166 Tryz.Builder_Extra_166 B b bs s w h hlen hBw
end Go.Proofs

namespace Go.Proofs.YtmflecemkodklaaGreatDoor

section
open Go.RowKit

def PowAt (w : World) : Prop := Lib.TabIs Tryz.prog w "internal/strconv.uint64pow10" .u64 Lib.pow10Tab
theorem pow_below {w w' : World} (h : PowAt w) (hb : Below w.heap.size w w') : PowAt w' := Lib.tabBelow_of_tabIs h w' hb
theorem itoa_v (n : Int) (hn : Num n) (w : World) (hp : PowAt w) : Calls Tryz.prog 29 #[.int .i64 n] w (GivesS w (decZ n)) := by
  unfold Num at hn
  refine (Tryz.strconv_Itoa n (by omega) (by omega) w hp).mono ?_
  rintro e w' ⟨rfl, k, os, rfl⟩
  rw [itoa_decZ]
  exact ⟨rfl, Lib.below_grow _ w (Nat.le_refl _) k os⟩

theorem map_data (ts : List (List UInt8)) : (ts.map fun t => (⟨t.toArray⟩ : ByteArray)).map (·.data.toList) = ts := by
  rw [List.map_map]
  conv => rhs; rw [← List.map_id ts]
  exact List.map_congr_left fun t _ => by simp
theorem strJoin_v (v : Value) (ts : List (List UInt8)) (sep : List UInt8) (w : World) (hv : RdS w v ts) (hn : ts.length ≤ 64) (hl : (Lib.join ts sep).length ≤ 1000000) :
    Calls Tryz.prog 260 #[v, strV sep] w (GivesS w (Lib.join ts sep)) := by
  obtain ⟨ao, ca, rfl, h1, h2, h3⟩ := hv
  rcases h3 with rfl | ⟨b, rfl, hb, hc⟩
  · exact (Tryz.strings_Join_none ao ca ⟨sep.toArray⟩ w).mono fun e w' ⟨he, hw⟩ => ⟨he, hw ▸ Below.refl _ _⟩
  · have := Tryz.strings_Join b 0 ca (ts.map fun t => ⟨t.toArray⟩) ⟨sep.toArray⟩ w (by
      intro j x hx
      rw [List.getElem?_map] at hx
      have hj : j < ts.length := by
        rcases Nat.lt_or_ge j ts.length with h | h
        · exact h
        · rw [List.getElem?_eq_none h] at hx; cases hx
      rw [List.getElem?_eq_getElem hj] at hx
      simp at hx
      subst hx
      rw [Nat.zero_add, hc j hj]
      simp [List.getD, hj]) hb (by simp; omega) (by simpa using h1) (by rw [map_data]; simp; omega)
    rw [map_data, List.length_map] at this
    exact this.mono fun e w' ⟨he, hw⟩ => ⟨by simpa using he, hw⟩

theorem ownS_made {w1 : World} {B g n c : Nat} (h : w1.ownsRow B 9 1 (.slice (some ⟨g, 0, none⟩) n c) n (madeCells #[Value.string ⟨#[]⟩] n).toList) : OwnS w1 B (.slice (some ⟨g, 0, none⟩) n c) (List.replicate n []) := by
  unfold OwnS
  rw [toList_madeCells_one] at h
  simpa using h
theorem ownS_stored {w : World} {B g n cap : Nat} {ts : List (List UInt8)} (h : OwnS w B (.slice (some ⟨g, 0, none⟩) n cap) ts) (hn : n = ts.length) (j : Nat) (t : List UInt8) :
    OwnS (w.setCell ⟨g, j, none⟩ (strV t)) B (.slice (some ⟨g, 0, none⟩) n cap) (ts.set j t) ∧ w.grownBy (w.setCell ⟨g, j, none⟩ (strV t)) (some g) := by
  subst hn
  have := World.ownsRow.stored h j (strV t)
  refine ⟨?_, this.2⟩
  unfold OwnS
  rw [List.length_set, List.map_set]
  exact this.1
theorem ownS_at {w : World} {B g n cap : Nat} {ts : List (List UInt8)} (h : OwnS w B (.slice (some ⟨g, 0, none⟩) n cap) ts) (j : Nat) (hj : j < ts.length) : w.cell? ⟨g, j, none⟩ = some (strV (ts.getD j [])) ∧ w.frozen? ⟨g, j, none⟩ = false := by
  have hn : n = ts.length := by
    rcases h.2 with ⟨hv, _⟩ | ⟨g', cap', cur, hv, _⟩
    · cases hv
    · injection hv
  subst hn
  have hc := World.ownsRow.cellAt h j (by omega)
  rw [getD_map_str ts j hj] at hc
  exact ⟨hc, World.ownsRow.frozenAt h j⟩
theorem setS_stage (ts : List (List UInt8)) (k : Nat) (h : k < ts.length) : (ts.take k ++ List.replicate (ts.length - k) []).set k (ts.getD k []) = ts.take (k + 1) ++ List.replicate (ts.length - (k + 1)) [] := by
  apply List.ext_getElem?
  intro j
  by_cases h1 : j < k
  · rw [List.getElem?_set_ne (by omega), List.getElem?_append_left (by simp; omega), List.getElem?_append_left (by simp; omega), List.getElem?_take, List.getElem?_take, if_pos h1, if_pos (by omega)]
  · by_cases h2 : j = k
    · subst h2
      rw [List.getElem?_set_self (by simp; omega), List.getElem?_append_left (by simp; omega)]
      simp [List.getD, h]
    · rw [List.getElem?_set_ne (by omega), List.getElem?_append_right (by simp; omega), List.getElem?_append_right (by simp; omega)]
      simp only [List.getElem?_replicate, List.length_take]
      by_cases h3 : j < ts.length
      · rw [if_pos (by omega), if_pos (by omega)]
      · rw [if_neg (by omega), if_neg (by omega)]
def FreshS (w : World) (ts : List (List UInt8)) (e : Ending) (w' : World) : Prop := ∃ v, e = .returned v ∧ OwnS w' w.heap.size v ts ∧ Below w.heap.size w w'

set_option maxHeartbeats 1600000 in
theorem numberTexts_v (v : Value) (xs : List Int) (w : World) (hv : RdV w v xs) (hg : GoodL xs) (hp : PowAt w) :
    Calls Tryz.prog 259 #[v] w (FreshS w (xs.map decZ)) := by
  obtain ⟨ao, ca, rfl, hr, h1, h2⟩ := hv
  unfold maxLen at h2
  obtain ⟨g1, g2⟩ := hg
  obtain ⟨n, hn⟩ : ∃ n, n = xs.length := ⟨_, rfl⟩
  obtain ⟨ts, hts⟩ : ∃ ts, ts = xs.map decZ := ⟨_, rfl⟩
  have HTL : Hid (ts.length = n) := Lib.hid (by rw [hts, List.length_map, hn])
  have HTG : Hid (∀ k, k < n → ts.getD k [] = decZ (xs.getD k 0)) := Lib.hid fun k hk => by
    rw [hts]
    simp only [List.getD, List.getElem?_map, List.getElem?_eq_getElem (show k < xs.length by omega), Option.map_some, Option.getD_some]
  rw [← hts]
  rw [← hn] at h1 g1 ⊢
  have HN := Lib.hid hn
  have HG := Lib.hid g2
  have HP := Lib.hid hp
  have HR := Lib.hid hr
  clear hn hts g2 hp hr
  obtain ⟨i0, hi, hz0, hz1, hz2⟩ := info_parts Tryz.infoStr
  go_enter Tryz.func259, Tryz.ntmps259
  go_wp2_with (at_make; refine wpList_make_full _ rfl _ _ 38 rfl w.heap.size 9 i0 (.string ⟨#[]⟩) 1 Tryz.underlying38 hi hz0 hz1 _ _ _ _ n rfl rfl rfl rfl (by rw [hz2]; omega) (by unfold maxLen; omega) (Nat.le_refl _) ?_)
  intro w1 hown1 hgrow1
  have hb1 : Below w.heap.size w w1 := (Below.refl _ _).grown hgrow1 (Nat.le_refl _) (fun k h => by cases h)
  have hown := ownS_made hown1
  clear hown1 hgrow1
  go_wp2
  go_loopw [11] (fun i wr => ∃ k : Nat, k ≤ n ∧ i = .int .i64 k ∧ OwnS wr w.heap.size (.slice (some ⟨w.heap.size, 0, none⟩) n n) (ts.take k ++ List.replicate (n - k) []) ∧ Below w.heap.size w wr)
    (fun i _ => n - (intOf i).toNat)
  case atStart => exact ⟨0, Nat.zero_le _, rfl, by simpa using hown, hb1⟩
  case round =>
    obtain ⟨k, hk, rfl, hownr, hbr⟩ := hrel
    have HO := Lib.hid hownr
    clear hownr
    by_cases hlt : k < n
    · obtain ⟨b, off, rfl, hc⟩ := rd_cell HR.out (k := k) (by have := HN.out; omega)
      have hcell := cell_after hc hbr
      have hnum : Num (xs.getD k 0) := by
        have hk2 : k < xs.length := by have := HN.out; omega
        simp only [List.getD, List.getElem?_eq_getElem hk2, Option.getD_some]
        exact HG.out _ (List.getElem_mem hk2)
      have htg := HTG.out k hlt
      obtain ⟨x, hx⟩ : ∃ x, x = xs.getD k 0 := ⟨_, rfl⟩
      rw [← hx] at hcell hnum htg
      have HD := Lib.hid (fun w1 (h : PowAt w1) => itoa_v x hnum w1 h)
      obtain ⟨t, ht⟩ : ∃ t, t = decZ x := ⟨_, rfl⟩
      rw [← ht] at HD htg
      have HTS : Hid ((ts.take k ++ List.replicate (n - k) []).set k t = ts.take (k + 1) ++ List.replicate (n - (k + 1)) []) := Lib.hid (by
        have h := setS_stage ts k (by have := HTL.out; omega)
        rw [HTL.out, htg] at h
        exact h)
      have hpr := pow_below HP.out hbr
      have HPR := Lib.hid hpr
      clear hx ht hnum hc htg hpr
      go_wp2_with (go_at_call 29; (with_reducible refine (HD.out _ HPR.out).mono ?_); rintro e w' ⟨rfl, hb⟩; have hbx := below_step hbr hb; have hox := ownS_below HO.out hb; have hat := ownS_at hox k (by have := HTL.out; simp; omega); have hz1 := hat.1; have hz2 := hat.2; have HST := Lib.hid (ownS_stored hox (by have := HTL.out; simp; omega) k t); clear hat hox)
      refine ⟨⟨k + 1, by omega, rfl, ?_, hbx.setCell (Nat.le_refl _) _⟩, by simp [intOf]; omega⟩
      rw [← HTS.out]
      exact HST.out.1
    · obtain rfl : k = n := by omega
      go_wp2
      go_ret
      refine ⟨_, rfl, ?_, hbr⟩
      have := HO.out
      rw [Nat.sub_self, List.replicate_zero, List.append_nil, ← HTL.out, List.take_length, HTL.out] at this
      exact this

def textT (ts : List (List UInt8)) : List UInt8 := if ts = [] then [45] else joinL ts
theorem spacedOutput_v (v : Value) (ts : List (List UInt8)) (w : World) (hv : RdS w v ts) (hn : ts.length ≤ 64) (hx : ∀ t ∈ ts, t.length ≤ 1100) :
    Calls Tryz.prog 258 #[v] w (GivesS w (textT ts)) := by
  by_cases h0 : ts = []
  · subst h0
    obtain ⟨ao, ca, rfl, h1, h2, h3⟩ := hv
    unfold textT
    rw [if_pos rfl]
    go_enter Tryz.func258, Tryz.ntmps258
    go_wp2
    go_ret
    exact ⟨rfl, Below.refl _ _⟩
  · have hJ := strJoin_v v ts [32] w hv hn (by
      rw [join_joinL]
      have := joinL_len ts 1100 hx
      have h4 := Nat.mul_le_mul_left (1100 + 1) hn
      omega)
    rw [join_joinL] at hJ
    unfold textT
    rw [if_neg h0]
    obtain ⟨ao, ca, rfl, h1, h2, h3⟩ := hv
    obtain ⟨m, hm⟩ : ∃ m, m = ts.length := ⟨_, rfl⟩
    have hm0 : ((m : Int) == 0) = false := by
      have : m ≠ 0 := fun h => h0 (List.eq_nil_of_length_eq_zero (by omega))
      simp; omega
    rw [← hm] at hJ ⊢
    have HJ := Lib.hid hJ
    obtain ⟨t, ht⟩ : ∃ t, t = joinL ts := ⟨_, rfl⟩
    rw [← ht] at HJ ⊢
    clear hJ hm ht h3 h1
    go_enter Tryz.func258, Tryz.ntmps258
    go_wp2_with (go_at_call 260; (with_reducible refine HJ.out.mono ?_); rintro e w' ⟨rfl, hb⟩)
    go_ret
    exact ⟨rfl, hb⟩

def cutNL (l : List UInt8) : List UInt8 := l.dropLast
theorem cutNL_texts (ts : List (List UInt8)) (ok : Bool) : cutNL (textsL ts ok) = if ok then textT ts else [110, 111] := by
  unfold cutNL textsL textT
  cases ok
  · rfl
  · rw [if_neg (by simp), if_pos rfl]
    by_cases h : ts = []
    · rw [if_pos h, if_pos h]; rfl
    · rw [if_neg h, if_neg h]; simp
theorem textT_one (t : List UInt8) : textT [t] = t := by unfold textT; rw [if_neg (by simp)]; rfl

theorem numberOutput_v (n : Int) (ok : Bool) (w : World) (hn : Num n) (hp : PowAt w) : Calls Tryz.prog 190 #[.int .i64 n, .bool ok] w (GivesS w (cutNL (oneL n ok))) := by
  have hr : cutNL (oneL n ok) = if ok then decZ n else [110, 111] := by
    unfold oneL saidL
    rw [cutNL_texts, List.map_singleton, textT_one]
  rw [hr]
  cases ok
  · go_enter Tryz.func190, Tryz.ntmps190
    go_wp2
    go_ret
    exact ⟨rfl, Below.refl _ _⟩
  · have HI := Lib.hid (itoa_v n hn w hp)
    rw [if_pos rfl]
    obtain ⟨t, ht⟩ : ∃ t, t = decZ n := ⟨_, rfl⟩
    rw [← ht] at HI ⊢
    clear hn hp hr ht
    go_enter Tryz.func190, Tryz.ntmps190
    go_wp2_with (go_at_call 29; (with_reducible refine HI.out.mono ?_); rintro e w' ⟨rfl, hb⟩)
    go_ret
    exact ⟨rfl, hb⟩

theorem listOutput_v (v : Value) (xs : List Int) (ok : Bool) (w : World) (hv : RdV w v xs) (hg : GoodL xs) (hp : PowAt w) : Calls Tryz.prog 203 #[v, .bool ok] w (GivesS w (cutNL (saidL xs ok))) := by
  have hr : cutNL (saidL xs ok) = if ok then textT (xs.map decZ) else [110, 111] := by unfold saidL; rw [cutNL_texts]
  rw [hr]
  cases ok
  · go_enter Tryz.func203, Tryz.ntmps203
    go_wp2
    go_ret
    exact ⟨rfl, Below.refl _ _⟩
  · have HI := Lib.hid (numberTexts_v v xs w hv hg hp)
    have HS := Lib.hid (fun v1 w1 (h : RdS w1 v1 (xs.map decZ)) => spacedOutput_v v1 (xs.map decZ) w1 h (by simpa using hg.1) (fun t ht => by
      obtain ⟨x, hx, rfl⟩ := List.mem_map.1 ht
      have := decZ_len15 (hg.2 x hx)
      omega))
    rw [if_pos rfl]
    obtain ⟨t, ht⟩ : ∃ t, t = textT (xs.map decZ) := ⟨_, rfl⟩
    rw [← ht] at HS ⊢
    clear hv hg hp hr ht
    go_enter Tryz.func203, Tryz.ntmps203
    go_wp2_with (first | (go_at_call 259; (with_reducible refine HI.out.mono ?_); rintro e w1 ⟨v1, rfl, ho1, hb1⟩; have hrd := ownS_rd ho1) | (go_at_call 258; (with_reducible refine (HS.out _ _ hrd).mono ?_); rintro e w2 ⟨rfl, hb2⟩))
    go_ret
    exact ⟨rfl, below_step hb1 hb2⟩

set_option maxHeartbeats 4000000 in
theorem listsOutput_v (v : Value) (ls : List (List Int)) (ok : Bool) (w : World) (hv : RdM w v ls) (hg : GoodM ls) (hp : PowAt w) : Calls Tryz.prog 204 #[v, .bool ok] w (GivesS w (cutNL (listsL ls ok))) := by
  have hr : cutNL (listsL ls ok) = if ok then textT (ls.map rowT) else [110, 111] := by unfold listsL; rw [cutNL_texts]; rfl
  rw [hr]
  cases ok
  · go_enter Tryz.func204, Tryz.ntmps204
    go_wp2
    go_ret
    exact ⟨rfl, Below.refl _ _⟩
  · rw [if_pos rfl]
    obtain ⟨ao, ca, vs, hvl, rfl, h1, h2, h3, h4⟩ := hv
    unfold maxLen at h2
    obtain ⟨g1, g2⟩ := hg
    have HS := Lib.hid (fun v1 w1 (h : RdS w1 v1 (ls.map rowT)) => spacedOutput_v v1 (ls.map rowT) w1 h (by simpa using g1) (fun t ht => by
      obtain ⟨l, hl, rfl⟩ := List.mem_map.1 ht
      have h5 := flat_len 0 l (g2 l hl).2
      have h6 := (g2 l hl).1
      show (l.flatMap decZ).length ≤ 1100
      omega))
    obtain ⟨n, hn⟩ : ∃ n, n = ls.length := ⟨_, rfl⟩
    obtain ⟨ts, hts⟩ : ∃ ts, ts = ls.map rowT := ⟨_, rfl⟩
    have HTL : Hid (ts.length = n) := Lib.hid (by rw [hts, List.length_map, hn])
    have HTG : Hid (∀ k, k < n → ts.getD k [] = rowT (ls.getD k [])) := Lib.hid fun k hk => by
      rw [hts]
      simp only [List.getD, List.getElem?_map, List.getElem?_eq_getElem (show k < ls.length by omega), Option.map_some, Option.getD_some]
    rw [← hts] at HS ⊢
    rw [← hn] at h1 g1 hvl ⊢
    obtain ⟨tt, htt⟩ : ∃ tt, tt = textT ts := ⟨_, rfl⟩
    rw [← htt] at HS ⊢
    have HN := Lib.hid hn
    have HG := Lib.hid g2
    have HP := Lib.hid hp
    have H3 := Lib.hid h3
    have H4 := Lib.hid h4
    clear hn hts g2 hp h3 h4 htt hr hvl
    obtain ⟨i0, hi, hz0, hz1, hz2⟩ := info_parts Tryz.infoStr
    go_enter Tryz.func204, Tryz.ntmps204
    go_wp2_with (at_make; refine wpList_make_full _ rfl _ _ 38 rfl w.heap.size 9 i0 (.string ⟨#[]⟩) 1 Tryz.underlying38 hi hz0 hz1 _ _ _ _ n rfl rfl rfl rfl (by rw [hz2]; omega) (by unfold maxLen; omega) (Nat.le_refl _) ?_)
    intro w1 hown1 hgrow1
    have hb1 : Below w.heap.size w w1 := (Below.refl _ _).grown hgrow1 (Nat.le_refl _) (fun k h => by cases h)
    have hown := ownS_made hown1
    clear hown1 hgrow1
    go_wp2
    go_loopw [15] (fun i wr => ∃ k : Nat, k ≤ n ∧ i = .int .i64 k ∧ OwnS wr w.heap.size (.slice (some ⟨w.heap.size, 0, none⟩) n n) (ts.take k ++ List.replicate (n - k) []) ∧ Below w.heap.size w wr)
      (fun i _ => n - (intOf i).toNat)
    case atStart => exact ⟨0, Nat.zero_le _, rfl, by simpa using hown, hb1⟩
    case round =>
      obtain ⟨k, hk, rfl, hownr, hbr⟩ := hrel
      have HO := Lib.hid hownr
      clear hownr
      by_cases hlt : k < n
      · rcases H3.out with h3 | ⟨bb, off, rfl, hc⟩
        · have := HN.out
          rw [h3] at this
          simp at this
          omega
        have hck := cell_after (hc k (by have := HN.out; omega)) hbr
        have hrow := rdv_below (H4.out k (by have := HN.out; omega)) hbr
        have hgood := HG.out (ls.getD k []) (by
          have hk2 : k < ls.length := by have := HN.out; omega
          simp only [List.getD, List.getElem?_eq_getElem hk2, Option.getD_some]
          exact List.getElem_mem hk2)
        have htg := HTG.out k hlt
        obtain ⟨row, hrw⟩ : ∃ row, row = ls.getD k [] := ⟨_, rfl⟩
        obtain ⟨z, hz⟩ : ∃ z, z = vs.getD k undef := ⟨_, rfl⟩
        rw [← hz] at hck hrow
        rw [← hrw] at hrow hgood htg
        have hpr := pow_below HP.out hbr
        have HI := Lib.hid (numberTexts_v z row _ hrow hgood hpr)
        have HJ := Lib.hid (fun v1 w1 (h : RdS w1 v1 (row.map decZ)) => strJoin_v v1 (row.map decZ) [] w1 h (by simpa using hgood.1) (by
          rw [join_none]
          have h5 := flat_len 0 row hgood.2
          have h6 := hgood.1
          rw [← List.flatMap_def]
          omega))
        rw [join_none, ← List.flatMap_def] at HJ
        obtain ⟨t, ht⟩ : ∃ t, t = rowT row := ⟨_, rfl⟩
        have ht2 : row.flatMap decZ = t := ht.symm
        rw [ht2] at HJ
        rw [← ht] at htg
        have HTS : Hid ((ts.take k ++ List.replicate (n - k) []).set k t = ts.take (k + 1) ++ List.replicate (n - (k + 1)) []) := Lib.hid (by
          have h := setS_stage ts k (by have := HTL.out; omega)
          rw [HTL.out, htg] at h
          exact h)
        obtain ⟨zo, zc, rfl, _, _, _⟩ := hrow
        clear hz hrw ht ht2 hgood hc htg hpr
        go_wp2_with (first | (go_at_call 259; (with_reducible refine HI.out.mono ?_); rintro e w1 ⟨v1, rfl, ho1, hb1⟩; have hrd := ownS_rd ho1) | (go_at_call 260; (with_reducible refine (HJ.out _ _ hrd).mono ?_); rintro e w2 ⟨rfl, hb2⟩; have hbx := below_step (below_step hbr hb1) hb2; have hox := ownS_below (ownS_below HO.out hb1) hb2; have hat := ownS_at hox k (by have := HTL.out; simp; omega); have hz1 := hat.1; have hz2 := hat.2; have HST := Lib.hid (ownS_stored hox (by have := HTL.out; simp; omega) k t); clear hat hox))
        refine ⟨⟨k + 1, by omega, rfl, ?_, hbx.setCell (Nat.le_refl _) _⟩, by simp [intOf]; omega⟩
        rw [← HTS.out]
        exact HST.out.1
      · obtain rfl : k = n := by omega
        have hall := HO.out
        rw [Nat.sub_self, List.replicate_zero, List.append_nil, ← HTL.out, List.take_length, HTL.out] at hall
        have hrd := ownS_rd hall
        clear hall
        go_wp2_with (go_at_call 258; (with_reducible refine (HS.out _ _ hrd).mono ?_); rintro e w2 ⟨rfl, hb2⟩)
        go_ret
        exact ⟨rfl, below_step hbr hb2⟩
end

section
open Go.RowKit

def MaxAt (w : World) : Prop := ∃ m, w.cell? ⟨0, 0, none⟩ = some (.int .i64 m)
theorem max_below {w w' : World} (h : MaxAt w) (hb : Below w.heap.size w w') : MaxAt w' := by
  obtain ⟨m, h⟩ := h
  exact ⟨m, cell_after h hb⟩
def EnvAt (w : World) : Prop := Tab w ∧ ErrAt w ∧ PowAt w ∧ MaxAt w
theorem env_below {w w' : World} (h : EnvAt w) (hb : Below w.heap.size w w') : EnvAt w' := ⟨tab_below h.1 hb, errAt_below h.2.1 hb, pow_below h.2.2.1 hb, max_below h.2.2.2 hb⟩

def BenchAt (w : World) (g : Nat) (a : List Int) : Prop := ∃ v, w.heap[g]? = some (.cells #[v] 42 (0, 0)) ∧ Own w 0 v a
theorem bench_lt {w : World} {g : Nat} {a : List Int} (h : BenchAt w g a) : g < w.heap.size := by
  obtain ⟨v, h, _⟩ := h
  exact (Array.getElem?_eq_some_iff.1 h).1
theorem bench_ne {w : World} {g : Nat} {v u : Value} {l : List Int} (hg : w.heap[g]? = some (.cells #[v] 42 (0, 0))) (ho : Own w 0 u l) : u.ownBlock ≠ some g := by
  intro he
  rcases ho.2 with ⟨hv, _⟩ | ⟨g', cap, cur, hv, _, hh, _⟩
  · rw [hv] at he; simp [Value.ownBlock] at he
  · rw [hv] at he
    have : g' = g := by simpa [Value.ownBlock] using he
    subst this
    rw [hg] at hh
    injection hh with hh
    injection hh with _ ht
    exact absurd ht (by decide)
theorem bench_below {w w' : World} {g : Nat} {a : List Int} (h : BenchAt w g a) (hb : Below w.heap.size w w') : BenchAt w' g a := by
  obtain ⟨v, h1, h2⟩ := h
  exact ⟨v, (hb.block g (Array.getElem?_eq_some_iff.1 h1).1).trans h1, own_below h2 hb⟩
theorem bench_cell {w : World} {g : Nat} {a : List Int} (h : BenchAt w g a) : ∃ v, w.cell? ⟨g, 0, none⟩ = some v ∧ w.frozen? ⟨g, 0, none⟩ = false ∧ RdV w v a := by
  obtain ⟨v, h1, h2⟩ := h
  exact ⟨v, by simp [World.cell?, h1], by simp [World.frozen?, h1], own_rdv h2⟩
theorem grown_below {w w1 w2 : World} {row : Option Nat} (h1 : Below w.heap.size w w1) (h2 : w1.grownBy w2 row) : w.grownBy w2 row :=
  ⟨h2.os.trans h1.os, h2.tape.trans h1.tape, h2.output.trans h1.output, Nat.le_trans h1.size h2.size, fun k hk hr => (h2.block k (by have := h1.size; omega) hr).trans (h1.block k hk)⟩
theorem grown_same {w w1 : World} (h1 : Below w.heap.size w w1) (row : Option Nat) : w.grownBy w1 row :=
  ⟨h1.os, h1.tape, h1.output, h1.size, fun k hk _ => h1.block k hk⟩
theorem same_drew (w : World) : Same w w.drew := fun B => (Below.refl B w).drew
def Works (w : World) (g : Nat) (p : List Int × List UInt8) (e : Ending) (w' : World) : Prop := e = .returned (strV p.2) ∧ BenchAt w' g p.1 ∧ w.grownBy w' (some g)
def chgT (a : List Int) (r : List Int × Bool) : List Int × List UInt8 := if r.2 then (r.1, [111, 107]) else (a, [110, 111])

theorem bench_set {w : World} {g : Nat} {a l : List Int} {v : Value} (hb : BenchAt w g a) (hv : Own w 0 v l) : BenchAt (w.setCell ⟨g, 0, none⟩ v) g l ∧ w.grownBy (w.setCell ⟨g, 0, none⟩ v) (some g) := by
  obtain ⟨u, h1, h2⟩ := hb
  have hgr : w.grownBy (w.setCell ⟨g, 0, none⟩ v) (some g) := ⟨rfl, rfl, rfl, by simp [World.setCell], fun k hk hr => by
    have : k ≠ g := fun e => hr (by rw [e])
    simp only [World.setCell, Array.getElem?_modify]
    rw [if_neg (by omega)]⟩
  refine ⟨⟨v, ?_, own_grown hv hgr (.inr (bench_ne h1 hv))⟩, hgr⟩
  simp [World.setCell, Array.getElem?_modify, h1]

theorem become_v (g : Nat) (v : Value) (a l : List Int) (ok : Bool) (w : World) (hb : BenchAt w g a) (hv : Own w 0 v l) :
    Calls Tryz.prog 181 #[.pointer (some ⟨g, 0, none⟩), v, .bool ok] w (Works w g (chgT a (l, ok))) := by
  have HB := Lib.hid hb
  obtain ⟨u, hc, hf, _⟩ := bench_cell hb
  have HS := Lib.hid (bench_set hb hv)
  obtain ⟨ao, cap, rfl, _, _, _, _⟩ := own_rd hv
  obtain ⟨n, hn⟩ : ∃ n, n = l.length := ⟨_, rfl⟩
  rw [← hn] at HS ⊢
  clear hn hb hv
  cases ok
  · go_enter Tryz.func181, Tryz.ntmps181
    go_wp2
    go_ret
    exact ⟨rfl, HB.out, grown_same (Below.refl _ _) _⟩
  · go_enter Tryz.func181, Tryz.ntmps181
    go_wp2
    go_ret
    exact ⟨rfl, HS.out.1, HS.out.2⟩
end

section
open Go.RowKit

theorem m_turned (g : Nat)  (a : List Int) (w : World) (hE : EnvAt w) (hb : BenchAt w g a) : Calls Tryz.prog 133 #[.pointer (some ⟨g, 0, none⟩)] w (Works w g (chgT a (partTurned a))) := by
  obtain ⟨r, b, hr⟩ : ∃ r b, (r, b) = partTurned a := ⟨_, _, rfl⟩
  have HB := Lib.hid hb
  obtain ⟨v, hc, hf, hv⟩ := bench_cell hb
  have hF := iPartTurned_v v a w  hv
  rw [← hr] at hF ⊢
  have HF := Lib.hid hF
  obtain ⟨ao, ca, rfl, _, _, _⟩ := hv
  obtain ⟨m, hm⟩ : ∃ m, m = a.length := ⟨_, rfl⟩
  (try rw [← hm] at HF)
  rw [← hm] at hc
  clear hF hr hm hb hE
  go_enter Tryz.func133, Tryz.ntmps133
  go_wp2_with (first | (go_at_call 200; (with_reducible refine HF.out.mono ?_); rintro e w1 ⟨v1, rfl, ho1, hb1⟩; have HBE : Hid (Below w.heap.size w w1) := Lib.hid hb1; have HO1 := Lib.hid (own_mono ho1 (Nat.zero_le _)); clear ho1) | (go_at_call 181; (with_reducible refine (become_v g _ a _ _ _ (bench_below HB.out HBE.out) HO1.out).mono ?_); rintro e w2 ⟨rfl, hb2, hg2⟩))
  go_ret
  exact ⟨rfl, hb2, grown_below HBE.out hg2⟩

theorem m_next (g : Nat)  (a : List Int) (w : World) (hE : EnvAt w) (hb : BenchAt w g a) : Calls Tryz.prog 134 #[.pointer (some ⟨g, 0, none⟩)] w (Works w g (chgT a (listNext a))) := by
  obtain ⟨r, b, hr⟩ : ∃ r b, (r, b) = listNext a := ⟨_, _, rfl⟩
  have HB := Lib.hid hb
  obtain ⟨v, hc, hf, hv⟩ := bench_cell hb
  have hF := iListNext_v v a w  hv
  rw [← hr] at hF ⊢
  have HF := Lib.hid hF
  obtain ⟨ao, ca, rfl, _, _, _⟩ := hv
  obtain ⟨m, hm⟩ : ∃ m, m = a.length := ⟨_, rfl⟩
  (try rw [← hm] at HF)
  rw [← hm] at hc
  clear hF hr hm hb hE
  go_enter Tryz.func134, Tryz.ntmps134
  go_wp2_with (first | (go_at_call 201; (with_reducible refine HF.out.mono ?_); rintro e w1 ⟨v1, rfl, ho1, hb1⟩; have HBE : Hid (Below w.heap.size w w1) := Lib.hid hb1; have HO1 := Lib.hid (own_mono ho1 (Nat.zero_le _)); clear ho1) | (go_at_call 181; (with_reducible refine (become_v g _ a _ _ _ (bench_below HB.out HBE.out) HO1.out).mono ?_); rintro e w2 ⟨rfl, hb2, hg2⟩))
  go_ret
  exact ⟨rfl, hb2, grown_below HBE.out hg2⟩

theorem m_before (g : Nat)  (a : List Int) (w : World) (hE : EnvAt w) (hb : BenchAt w g a) : Calls Tryz.prog 135 #[.pointer (some ⟨g, 0, none⟩)] w (Works w g (chgT a (listBefore a))) := by
  obtain ⟨r, b, hr⟩ : ∃ r b, (r, b) = listBefore a := ⟨_, _, rfl⟩
  have HB := Lib.hid hb
  obtain ⟨v, hc, hf, hv⟩ := bench_cell hb
  have hF := iListBefore_v v a w  hv
  rw [← hr] at hF ⊢
  have HF := Lib.hid hF
  obtain ⟨ao, ca, rfl, _, _, _⟩ := hv
  obtain ⟨m, hm⟩ : ∃ m, m = a.length := ⟨_, rfl⟩
  (try rw [← hm] at HF)
  rw [← hm] at hc
  clear hF hr hm hb hE
  go_enter Tryz.func135, Tryz.ntmps135
  go_wp2_with (first | (go_at_call 202; (with_reducible refine HF.out.mono ?_); rintro e w1 ⟨v1, rfl, ho1, hb1⟩; have HBE : Hid (Below w.heap.size w w1) := Lib.hid hb1; have HO1 := Lib.hid (own_mono ho1 (Nat.zero_le _)); clear ho1) | (go_at_call 181; (with_reducible refine (become_v g _ a _ _ _ (bench_below HB.out HBE.out) HO1.out).mono ?_); rintro e w2 ⟨rfl, hb2, hg2⟩))
  go_ret
  exact ⟨rfl, hb2, grown_below HBE.out hg2⟩

theorem m_part (g : Nat) (u : Value) (ns : List Int) (a : List Int) (w : World) (hE : EnvAt w) (hb : BenchAt w g a) (hu : Own w 0 u ns) : Calls Tryz.prog 114 #[.pointer (some ⟨g, 0, none⟩), u] w (Works w g (chgT a (ns, partIn ns))) := by
  obtain ⟨b, hr⟩ : ∃ b, b = partIn ns := ⟨_, rfl⟩
  have HB := Lib.hid hb
  have HU := Lib.hid hu
  have hF := iPartIn_v u ns w (own_rdv hu)
  rw [← hr] at hF ⊢
  obtain ⟨uo, uc, rfl, _, _, _⟩ := own_rdv hu
  obtain ⟨q, hq⟩ : ∃ q, q = ns.length := ⟨_, rfl⟩
  rw [← hq] at hF HU ⊢
  have HF := Lib.hid hF
  clear hF hr hq hb hE hu
  go_enter Tryz.func114, Tryz.ntmps114
  go_wp2_with (first | (go_at_call 34; (with_reducible refine HF.out.mono ?_); rintro e w1 ⟨rfl, hb1⟩; have HBE : Hid (Below w.heap.size w w1) := Lib.hid hb1; have HO1 := Lib.hid (own_below HU.out hb1)) | (go_at_call 181; (with_reducible refine (become_v g _ a _ _ _ (bench_below HB.out HBE.out) HO1.out).mono ?_); rintro e w2 ⟨rfl, hb2, hg2⟩))
  go_ret
  exact ⟨rfl, hb2, grown_below HBE.out hg2⟩

theorem m_kernel (g : Nat) (u : Value) (ns : List Int) (a : List Int) (w : World) (hE : EnvAt w) (hb : BenchAt w g a) (hu : RdV w u ns) : Calls Tryz.prog 115 #[.pointer (some ⟨g, 0, none⟩), u] w (Works w g (chgT a (partKernel ns))) := by
  obtain ⟨r, b, hr⟩ : ∃ r b, (r, b) = partKernel ns := ⟨_, _, rfl⟩
  have HB := Lib.hid hb
  obtain ⟨v, hc, hf, hv⟩ := bench_cell hb
  have hF := iPartKernel_v u ns w  hu
  obtain ⟨uo, uc, rfl, _, _, _⟩ := hu
  obtain ⟨q, hq⟩ : ∃ q, q = ns.length := ⟨_, rfl⟩
  rw [← hq] at hF ⊢
  clear hq
  rw [← hr] at hF ⊢
  have HF := Lib.hid hF
  obtain ⟨ao, ca, rfl, _, _, _⟩ := hv
  obtain ⟨m, hm⟩ : ∃ m, m = a.length := ⟨_, rfl⟩
  (try rw [← hm] at HF)
  rw [← hm] at hc
  clear hF hr hm hb hE
  go_enter Tryz.func115, Tryz.ntmps115
  go_wp2_with (first | (go_at_call 182; (with_reducible refine HF.out.mono ?_); rintro e w1 ⟨v1, rfl, ho1, hb1⟩; have HBE : Hid (Below w.heap.size w w1) := Lib.hid hb1; have HO1 := Lib.hid (own_mono ho1 (Nat.zero_le _)); clear ho1) | (go_at_call 181; (with_reducible refine (become_v g _ a _ _ _ (bench_below HB.out HBE.out) HO1.out).mono ?_); rintro e w2 ⟨rfl, hb2, hg2⟩))
  go_ret
  exact ⟨rfl, hb2, grown_below HBE.out hg2⟩

theorem m_at (g : Nat) (bb off uc : Nat) (x y : Int) (a : List Int) (w : World) (hE : EnvAt w) (hb : BenchAt w g a) (hx : w.cell? ⟨bb, off, none⟩ = some (.int .i64 x)) (hy : w.cell? ⟨bb, off + 1, none⟩ = some (.int .i64 y)) (wx : (Lit.int .i64 x).wf = true) (wy : (Lit.int .i64 y).wf = true) : Calls Tryz.prog 116 #[.pointer (some ⟨g, 0, none⟩), .slice (some ⟨bb, off, none⟩) 2 uc] w (Works w g (chgT a (listAt x y))) := by
  obtain ⟨r, b, hr⟩ : ∃ r b, (r, b) = listAt x y := ⟨_, _, rfl⟩
  have HB := Lib.hid hb
  obtain ⟨v, hc, hf, hv⟩ := bench_cell hb
  have hF := fun (w0 : World) (_ : Same w w0) => iListAt_v x y w0 wx wy
  rw [← hr] at hF ⊢
  have HF := Lib.hid hF
  obtain ⟨ao, ca, rfl, _, _, _⟩ := hv
  obtain ⟨m, hm⟩ : ∃ m, m = a.length := ⟨_, rfl⟩
  (try rw [← hm] at HF)
  rw [← hm] at hc
  clear hF hr hm hb hE
  go_enter Tryz.func116, Tryz.ntmps116
  go_wp2_with fail
  go_region_with (first | (go_at_call 183; (with_reducible refine (HF.out _ (same_drew w)).mono ?_); rintro e w1 ⟨v1, rfl, ho1, hb1⟩; have HBE : Hid (Below w.heap.size w w1) := Lib.hid (below_step (below_drewN (Below.refl _ w) 1) hb1); have HO1 := Lib.hid (own_mono ho1 (Nat.zero_le _)); clear ho1) | (go_at_call 181; (with_reducible refine (become_v g _ a _ _ _ (bench_below HB.out HBE.out) HO1.out).mono ?_); rintro e w2 ⟨rfl, hb2, hg2⟩))
  all_goals go_wp2
  all_goals go_ret
  all_goals exact ⟨rfl, hb2, grown_below HBE.out hg2⟩

theorem m_put (g : Nat) (bb off uc : Nat) (x : Int) (a : List Int) (w : World) (hE : EnvAt w) (hb : BenchAt w g a) (hx : w.cell? ⟨bb, off, none⟩ = some (.int .i64 x)) (wx : (Lit.int .i64 x).wf = true) : Calls Tryz.prog 117 #[.pointer (some ⟨g, 0, none⟩), .slice (some ⟨bb, off, none⟩) 1 uc] w (Works w g (chgT a (partPut a x))) := by
  obtain ⟨r, b, hr⟩ : ∃ r b, (r, b) = partPut a x := ⟨_, _, rfl⟩
  have HB := Lib.hid hb
  obtain ⟨v, hc, hf, hv⟩ := bench_cell hb
  have hF := fun (w0 : World) (h0 : Same w w0) => iPartPut_v v a x w0 (rdv_below hv (h0 _)) wx
  rw [← hr] at hF ⊢
  have HF := Lib.hid hF
  obtain ⟨ao, ca, rfl, _, _, _⟩ := hv
  obtain ⟨m, hm⟩ : ∃ m, m = a.length := ⟨_, rfl⟩
  (try rw [← hm] at HF)
  rw [← hm] at hc
  clear hF hr hm hb hE
  go_enter Tryz.func117, Tryz.ntmps117
  go_wp2_with fail
  go_region_with (first | (go_at_call 184; (with_reducible refine (HF.out _ (same_drew w)).mono ?_); rintro e w1 ⟨v1, rfl, ho1, hb1⟩; have HBE : Hid (Below w.heap.size w w1) := Lib.hid (below_step (below_drewN (Below.refl _ w) 1) hb1); have HO1 := Lib.hid (own_mono ho1 (Nat.zero_le _)); clear ho1) | (go_at_call 181; (with_reducible refine (become_v g _ a _ _ _ (bench_below HB.out HBE.out) HO1.out).mono ?_); rintro e w2 ⟨rfl, hb2, hg2⟩))
  all_goals go_wp2
  all_goals go_ret
  all_goals exact ⟨rfl, hb2, grown_below HBE.out hg2⟩

theorem m_drop (g : Nat) (bb off uc : Nat) (x : Int) (a : List Int) (w : World) (hE : EnvAt w) (hb : BenchAt w g a) (hx : w.cell? ⟨bb, off, none⟩ = some (.int .i64 x)) (wx : (Lit.int .i64 x).wf = true) : Calls Tryz.prog 118 #[.pointer (some ⟨g, 0, none⟩), .slice (some ⟨bb, off, none⟩) 1 uc] w (Works w g (chgT a (partDrop a x))) := by
  obtain ⟨r, b, hr⟩ : ∃ r b, (r, b) = partDrop a x := ⟨_, _, rfl⟩
  have HB := Lib.hid hb
  obtain ⟨v, hc, hf, hv⟩ := bench_cell hb
  have hF := fun (w0 : World) (h0 : Same w w0) => iPartDrop_v v a x w0 (rdv_below hv (h0 _)) wx
  rw [← hr] at hF ⊢
  have HF := Lib.hid hF
  obtain ⟨ao, ca, rfl, _, _, _⟩ := hv
  obtain ⟨m, hm⟩ : ∃ m, m = a.length := ⟨_, rfl⟩
  (try rw [← hm] at HF)
  rw [← hm] at hc
  clear hF hr hm hb hE
  go_enter Tryz.func118, Tryz.ntmps118
  go_wp2_with fail
  go_region_with (first | (go_at_call 185; (with_reducible refine (HF.out _ (same_drew w)).mono ?_); rintro e w1 ⟨v1, rfl, ho1, hb1⟩; have HBE : Hid (Below w.heap.size w w1) := Lib.hid (below_step (below_drewN (Below.refl _ w) 1) hb1); have HO1 := Lib.hid (own_mono ho1 (Nat.zero_le _)); clear ho1) | (go_at_call 181; (with_reducible refine (become_v g _ a _ _ _ (bench_below HB.out HBE.out) HO1.out).mono ?_); rintro e w2 ⟨rfl, hb2, hg2⟩))
  all_goals go_wp2
  all_goals go_ret
  all_goals exact ⟨rfl, hb2, grown_below HBE.out hg2⟩

theorem m_meet (g : Nat) (u : Value) (ns : List Int) (a : List Int) (w : World) (hE : EnvAt w) (hb : BenchAt w g a) (hu : RdV w u ns) : Calls Tryz.prog 119 #[.pointer (some ⟨g, 0, none⟩), u] w (Works w g (chgT a (finerMeet a ns))) := by
  obtain ⟨r, b, hr⟩ : ∃ r b, (r, b) = finerMeet a ns := ⟨_, _, rfl⟩
  have HB := Lib.hid hb
  obtain ⟨v, hc, hf, hv⟩ := bench_cell hb
  have hF := iFinerMeet_v v u a ns w  hv hu
  obtain ⟨uo, uc, rfl, _, _, _⟩ := hu
  obtain ⟨q, hq⟩ : ∃ q, q = ns.length := ⟨_, rfl⟩
  rw [← hq] at hF ⊢
  clear hq
  rw [← hr] at hF ⊢
  have HF := Lib.hid hF
  obtain ⟨ao, ca, rfl, _, _, _⟩ := hv
  obtain ⟨m, hm⟩ : ∃ m, m = a.length := ⟨_, rfl⟩
  (try rw [← hm] at HF)
  rw [← hm] at hc
  clear hF hr hm hb hE
  go_enter Tryz.func119, Tryz.ntmps119
  go_wp2_with (first | (go_at_call 186; (with_reducible refine HF.out.mono ?_); rintro e w1 ⟨v1, rfl, ho1, hb1⟩; have HBE : Hid (Below w.heap.size w w1) := Lib.hid hb1; have HO1 := Lib.hid (own_mono ho1 (Nat.zero_le _)); clear ho1) | (go_at_call 181; (with_reducible refine (become_v g _ a _ _ _ (bench_below HB.out HBE.out) HO1.out).mono ?_); rintro e w2 ⟨rfl, hb2, hg2⟩))
  go_ret
  exact ⟨rfl, hb2, grown_below HBE.out hg2⟩

theorem m_join (g : Nat) (u : Value) (ns : List Int) (a : List Int) (w : World) (hE : EnvAt w) (hb : BenchAt w g a) (hu : RdV w u ns) : Calls Tryz.prog 120 #[.pointer (some ⟨g, 0, none⟩), u] w (Works w g (chgT a (finerJoin a ns))) := by
  obtain ⟨r, b, hr⟩ : ∃ r b, (r, b) = finerJoin a ns := ⟨_, _, rfl⟩
  have HB := Lib.hid hb
  obtain ⟨v, hc, hf, hv⟩ := bench_cell hb
  have hF := iFinerJoin_v v u a ns w  hv hu
  obtain ⟨uo, uc, rfl, _, _, _⟩ := hu
  obtain ⟨q, hq⟩ : ∃ q, q = ns.length := ⟨_, rfl⟩
  rw [← hq] at hF ⊢
  clear hq
  rw [← hr] at hF ⊢
  have HF := Lib.hid hF
  obtain ⟨ao, ca, rfl, _, _, _⟩ := hv
  obtain ⟨m, hm⟩ : ∃ m, m = a.length := ⟨_, rfl⟩
  (try rw [← hm] at HF)
  rw [← hm] at hc
  clear hF hr hm hb hE
  go_enter Tryz.func120, Tryz.ntmps120
  go_wp2_with (first | (go_at_call 187; (with_reducible refine HF.out.mono ?_); rintro e w1 ⟨v1, rfl, ho1, hb1⟩; have HBE : Hid (Below w.heap.size w w1) := Lib.hid hb1; have HO1 := Lib.hid (own_mono ho1 (Nat.zero_le _)); clear ho1) | (go_at_call 181; (with_reducible refine (become_v g _ a _ _ _ (bench_below HB.out HBE.out) HO1.out).mono ?_); rintro e w2 ⟨rfl, hb2, hg2⟩))
  go_ret
  exact ⟨rfl, hb2, grown_below HBE.out hg2⟩

theorem m_rings (g : Nat) (u : Value) (ns : List Int) (a : List Int) (w : World) (hE : EnvAt w) (hb : BenchAt w g a) (hu : RdV w u ns) : Calls Tryz.prog 121 #[.pointer (some ⟨g, 0, none⟩), u] w (Works w g (chgT a (ringPart ns))) := by
  obtain ⟨r, b, hr⟩ : ∃ r b, (r, b) = ringPart ns := ⟨_, _, rfl⟩
  have HB := Lib.hid hb
  obtain ⟨v, hc, hf, hv⟩ := bench_cell hb
  have hF := iRingPart_v u ns w hE.2.1 hu
  obtain ⟨uo, uc, rfl, _, _, _⟩ := hu
  obtain ⟨q, hq⟩ : ∃ q, q = ns.length := ⟨_, rfl⟩
  rw [← hq] at hF ⊢
  clear hq
  rw [← hr] at hF ⊢
  have HF := Lib.hid hF
  obtain ⟨ao, ca, rfl, _, _, _⟩ := hv
  obtain ⟨m, hm⟩ : ∃ m, m = a.length := ⟨_, rfl⟩
  (try rw [← hm] at HF)
  rw [← hm] at hc
  clear hF hr hm hb hE
  go_enter Tryz.func121, Tryz.ntmps121
  go_wp2_with (first | (go_at_call 188; (with_reducible refine HF.out.mono ?_); rintro e w1 ⟨v1, rfl, ho1, hb1⟩; have HBE : Hid (Below w.heap.size w w1) := Lib.hid hb1; have HO1 := Lib.hid (own_mono ho1 (Nat.zero_le _)); clear ho1) | (go_at_call 181; (with_reducible refine (become_v g _ a _ _ _ (bench_below HB.out HBE.out) HO1.out).mono ?_); rintro e w2 ⟨rfl, hb2, hg2⟩))
  go_ret
  exact ⟨rfl, hb2, grown_below HBE.out hg2⟩

theorem m_show (g : Nat) (a : List Int) (w : World) (hE : EnvAt w) (hb : BenchAt w g a) (hp : partIn a = true) : Calls Tryz.prog 136 #[.pointer (some ⟨g, 0, none⟩)] w (Works w g (a, cutNL (saidL a true))) := by
  have HB := Lib.hid hb
  obtain ⟨v, hc, hf, hv⟩ := bench_cell hb
  have hF := listOutput_v v a true w hv (goodL_part hp) hE.2.2.1
  obtain ⟨t, ht⟩ : ∃ t, t = cutNL (saidL a true) := ⟨_, rfl⟩
  rw [← ht] at hF ⊢
  have HF := Lib.hid hF
  obtain ⟨ao, ca, rfl, _, _, _⟩ := hv
  obtain ⟨m, hm⟩ : ∃ m, m = a.length := ⟨_, rfl⟩
  (try rw [← hm] at HF)
  rw [← hm] at hc
  clear hF hm hb hE ht
  go_enter Tryz.func136, Tryz.ntmps136
  go_wp2_with (go_at_call 203; (with_reducible refine HF.out.mono ?_); rintro e w1 ⟨rfl, hb1⟩)
  go_ret
  exact ⟨rfl, bench_below HB.out hb1, grown_same hb1 _⟩

theorem m_blocks (g : Nat)  (a : List Int) (w : World) (hE : EnvAt w) (hb : BenchAt w g a) : Calls Tryz.prog 137 #[.pointer (some ⟨g, 0, none⟩)] w (Works w g (a, cutNL (listsL (partBlocks a).1 (partBlocks a).2))) := by
  obtain ⟨r, b, hr⟩ : ∃ r b, (r, b) = partBlocks a := ⟨_, _, rfl⟩
  have HB := Lib.hid hb
  obtain ⟨v, hc, hf, hv⟩ := bench_cell hb
  have hF := iPartBlocks_v v a w hE.1 hv
  have hg := good_blocks a
  rw [← hr] at hF hg ⊢
  have HF := Lib.hid hF
  have HG := Lib.hid hg
  have HP := Lib.hid hE.2.2.1
  have HO := Lib.hid (fun v1 w1 (k : RdM w1 v1 r) (h : PowAt w1) => listsOutput_v v1 r b w1 k HG.out h)
  obtain ⟨t, ht⟩ : ∃ t, t = cutNL (listsL r b) := ⟨_, rfl⟩
  rw [← ht] at HO ⊢
  obtain ⟨ao, ca, rfl, _, _, _⟩ := hv
  obtain ⟨m, hm⟩ : ∃ m, m = a.length := ⟨_, rfl⟩
  (try rw [← hm] at HF)
  rw [← hm] at hc
  clear hF hg hr hm hb hE ht
  go_enter Tryz.func137, Tryz.ntmps137
  go_wp2_with (first | (go_at_call 205; (with_reducible refine HF.out.mono ?_); rintro e w1 ⟨v1, rfl, ho1, hb1⟩; have hrd := Lib.hid (ownM_rdM ho1); clear ho1; have HBE : Hid (Below w.heap.size w w1) := Lib.hid hb1) | (go_at_call 204; (with_reducible refine (HO.out _ _ hrd.out (pow_below HP.out HBE.out)).mono ?_); rintro e w2 ⟨rfl, hb2⟩))
  go_ret
  exact ⟨rfl, bench_below HB.out (below_step HBE.out hb2), grown_same (below_step HBE.out hb2) _⟩

theorem m_sizes (g : Nat)  (a : List Int) (w : World) (hE : EnvAt w) (hb : BenchAt w g a) : Calls Tryz.prog 138 #[.pointer (some ⟨g, 0, none⟩)] w (Works w g (a, cutNL (saidL (partType a).1 (partType a).2))) := by
  obtain ⟨r, b, hr⟩ : ∃ r b, (r, b) = partType a := ⟨_, _, rfl⟩
  have HB := Lib.hid hb
  obtain ⟨v, hc, hf, hv⟩ := bench_cell hb
  have hF := iPartType_v v a w  hv
  have hg := good_type a
  rw [← hr] at hF hg ⊢
  have HF := Lib.hid hF
  have HG := Lib.hid hg
  have HP := Lib.hid hE.2.2.1
  have HO := Lib.hid (fun v1 w1 (k : RdV w1 v1 r) (h : PowAt w1) => listOutput_v v1 r b w1 k HG.out h)
  obtain ⟨t, ht⟩ : ∃ t, t = cutNL (saidL r b) := ⟨_, rfl⟩
  rw [← ht] at HO ⊢
  obtain ⟨ao, ca, rfl, _, _, _⟩ := hv
  obtain ⟨m, hm⟩ : ∃ m, m = a.length := ⟨_, rfl⟩
  (try rw [← hm] at HF)
  rw [← hm] at hc
  clear hF hg hr hm hb hE ht
  go_enter Tryz.func138, Tryz.ntmps138
  go_wp2_with (first | (go_at_call 206; (with_reducible refine HF.out.mono ?_); rintro e w1 ⟨v1, rfl, ho1, hb1⟩; have hrd := Lib.hid (own_rdv ho1); clear ho1; have HBE : Hid (Below w.heap.size w w1) := Lib.hid hb1) | (go_at_call 203; (with_reducible refine (HO.out _ _ hrd.out (pow_below HP.out HBE.out)).mono ?_); rintro e w2 ⟨rfl, hb2⟩))
  go_ret
  exact ⟨rfl, bench_below HB.out (below_step HBE.out hb2), grown_same (below_step HBE.out hb2) _⟩

theorem m_size (g : Nat)  (a : List Int) (w : World) (hE : EnvAt w) (hb : BenchAt w g a) : Calls Tryz.prog 139 #[.pointer (some ⟨g, 0, none⟩)] w (Works w g (a, cutNL (oneL (partSize a).1 (partSize a).2))) := by
  obtain ⟨r, b, hr⟩ : ∃ r b, (r, b) = partSize a := ⟨_, _, rfl⟩
  have HB := Lib.hid hb
  obtain ⟨v, hc, hf, hv⟩ := bench_cell hb
  have hF := iPartSize_v v a w  hv
  have hg := bd_size a
  rw [← hr] at hF hg ⊢
  have HF := Lib.hid hF
  have HG := Lib.hid hg
  have HP := Lib.hid hE.2.2.1
  have HO := Lib.hid (fun w1 (h : PowAt w1) => numberOutput_v r b w1 HG.out h)
  obtain ⟨t, ht⟩ : ∃ t, t = cutNL (oneL r b) := ⟨_, rfl⟩
  rw [← ht] at HO ⊢
  obtain ⟨ao, ca, rfl, _, _, _⟩ := hv
  obtain ⟨m, hm⟩ : ∃ m, m = a.length := ⟨_, rfl⟩
  (try rw [← hm] at HF)
  rw [← hm] at hc
  clear hF hg hr hm hb hE ht
  go_enter Tryz.func139, Tryz.ntmps139
  go_wp2_with (first | (go_at_call 207; (with_reducible refine HF.out.mono ?_); rintro e w1 ⟨rfl, hb1⟩; have HBE : Hid (Below w.heap.size w w1) := Lib.hid hb1) | (go_at_call 190; (with_reducible refine (HO.out _ (pow_below HP.out HBE.out)).mono ?_); rintro e w2 ⟨rfl, hb2⟩))
  go_ret
  exact ⟨rfl, bench_below HB.out (below_step HBE.out hb2), grown_same (below_step HBE.out hb2) _⟩

theorem m_rank (g : Nat)  (a : List Int) (w : World) (hE : EnvAt w) (hb : BenchAt w g a) : Calls Tryz.prog 140 #[.pointer (some ⟨g, 0, none⟩)] w (Works w g (a, cutNL (oneL (finerRank a).1 (finerRank a).2))) := by
  obtain ⟨r, b, hr⟩ : ∃ r b, (r, b) = finerRank a := ⟨_, _, rfl⟩
  have HB := Lib.hid hb
  obtain ⟨v, hc, hf, hv⟩ := bench_cell hb
  have hF := iFinerRank_v v a w  hv
  have hg := bd_rank a
  rw [← hr] at hF hg ⊢
  have HF := Lib.hid hF
  have HG := Lib.hid hg
  have HP := Lib.hid hE.2.2.1
  have HO := Lib.hid (fun w1 (h : PowAt w1) => numberOutput_v r b w1 HG.out h)
  obtain ⟨t, ht⟩ : ∃ t, t = cutNL (oneL r b) := ⟨_, rfl⟩
  rw [← ht] at HO ⊢
  obtain ⟨ao, ca, rfl, _, _, _⟩ := hv
  obtain ⟨m, hm⟩ : ∃ m, m = a.length := ⟨_, rfl⟩
  (try rw [← hm] at HF)
  rw [← hm] at hc
  clear hF hg hr hm hb hE ht
  go_enter Tryz.func140, Tryz.ntmps140
  go_wp2_with (first | (go_at_call 208; (with_reducible refine HF.out.mono ?_); rintro e w1 ⟨rfl, hb1⟩; have HBE : Hid (Below w.heap.size w w1) := Lib.hid hb1) | (go_at_call 190; (with_reducible refine (HO.out _ (pow_below HP.out HBE.out)).mono ?_); rintro e w2 ⟨rfl, hb2⟩))
  go_ret
  exact ⟨rfl, bench_below HB.out (below_step HBE.out hb2), grown_same (below_step HBE.out hb2) _⟩

theorem m_merges (g : Nat)  (a : List Int) (w : World) (hE : EnvAt w) (hb : BenchAt w g a) : Calls Tryz.prog 141 #[.pointer (some ⟨g, 0, none⟩)] w (Works w g (a, cutNL (listsL (finerMerges a).1 (finerMerges a).2))) := by
  obtain ⟨r, b, hr⟩ : ∃ r b, (r, b) = finerMerges a := ⟨_, _, rfl⟩
  have HB := Lib.hid hb
  obtain ⟨v, hc, hf, hv⟩ := bench_cell hb
  have hF := iFinerMerges_v v a w  hv
  have hg := good_merges a
  rw [← hr] at hF hg ⊢
  have HF := Lib.hid hF
  have HG := Lib.hid hg
  have HP := Lib.hid hE.2.2.1
  have HO := Lib.hid (fun v1 w1 (k : RdM w1 v1 r) (h : PowAt w1) => listsOutput_v v1 r b w1 k HG.out h)
  obtain ⟨t, ht⟩ : ∃ t, t = cutNL (listsL r b) := ⟨_, rfl⟩
  rw [← ht] at HO ⊢
  obtain ⟨ao, ca, rfl, _, _, _⟩ := hv
  obtain ⟨m, hm⟩ : ∃ m, m = a.length := ⟨_, rfl⟩
  (try rw [← hm] at HF)
  rw [← hm] at hc
  clear hF hg hr hm hb hE ht
  go_enter Tryz.func141, Tryz.ntmps141
  go_wp2_with (first | (go_at_call 209; (with_reducible refine HF.out.mono ?_); rintro e w1 ⟨v1, rfl, ho1, hb1⟩; have hrd := Lib.hid (ownM_rdM ho1); clear ho1; have HBE : Hid (Below w.heap.size w w1) := Lib.hid hb1) | (go_at_call 204; (with_reducible refine (HO.out _ _ hrd.out (pow_below HP.out HBE.out)).mono ?_); rintro e w2 ⟨rfl, hb2⟩))
  go_ret
  exact ⟨rfl, bench_below HB.out (below_step HBE.out hb2), grown_same (below_step HBE.out hb2) _⟩

theorem m_splits (g : Nat)  (a : List Int) (w : World) (hE : EnvAt w) (hb : BenchAt w g a) : Calls Tryz.prog 142 #[.pointer (some ⟨g, 0, none⟩)] w (Works w g (a, cutNL (oneL (finerSplits a).1 (finerSplits a).2))) := by
  obtain ⟨r, b, hr⟩ : ∃ r b, (r, b) = finerSplits a := ⟨_, _, rfl⟩
  have HB := Lib.hid hb
  obtain ⟨v, hc, hf, hv⟩ := bench_cell hb
  have hF := iFinerSplits_v v a w  hv
  have hg := bd_splits a
  rw [← hr] at hF hg ⊢
  have HF := Lib.hid hF
  have HG := Lib.hid hg
  have HP := Lib.hid hE.2.2.1
  have HO := Lib.hid (fun w1 (h : PowAt w1) => numberOutput_v r b w1 HG.out h)
  obtain ⟨t, ht⟩ : ∃ t, t = cutNL (oneL r b) := ⟨_, rfl⟩
  rw [← ht] at HO ⊢
  obtain ⟨ao, ca, rfl, _, _, _⟩ := hv
  obtain ⟨m, hm⟩ : ∃ m, m = a.length := ⟨_, rfl⟩
  (try rw [← hm] at HF)
  rw [← hm] at hc
  clear hF hg hr hm hb hE ht
  go_enter Tryz.func142, Tryz.ntmps142
  go_wp2_with (first | (go_at_call 210; (with_reducible refine HF.out.mono ?_); rintro e w1 ⟨rfl, hb1⟩; have HBE : Hid (Below w.heap.size w w1) := Lib.hid hb1) | (go_at_call 190; (with_reducible refine (HO.out _ (pow_below HP.out HBE.out)).mono ?_); rintro e w2 ⟨rfl, hb2⟩))
  go_ret
  exact ⟨rfl, bench_below HB.out (below_step HBE.out hb2), grown_same (below_step HBE.out hb2) _⟩

theorem m_chains (g : Nat)  (a : List Int) (w : World) (hE : EnvAt w) (hb : BenchAt w g a) : Calls Tryz.prog 143 #[.pointer (some ⟨g, 0, none⟩)] w (Works w g (a, cutNL (oneL (finerChains a).1 (finerChains a).2))) := by
  obtain ⟨r, b, hr⟩ : ∃ r b, (r, b) = finerChains a := ⟨_, _, rfl⟩
  have HB := Lib.hid hb
  obtain ⟨v, hc, hf, hv⟩ := bench_cell hb
  have hF := iFinerChains_v v a w  hv
  have hg := bd_chains a
  rw [← hr] at hF hg ⊢
  have HF := Lib.hid hF
  have HG := Lib.hid hg
  have HP := Lib.hid hE.2.2.1
  have HO := Lib.hid (fun w1 (h : PowAt w1) => numberOutput_v r b w1 HG.out h)
  obtain ⟨t, ht⟩ : ∃ t, t = cutNL (oneL r b) := ⟨_, rfl⟩
  rw [← ht] at HO ⊢
  obtain ⟨ao, ca, rfl, _, _, _⟩ := hv
  obtain ⟨m, hm⟩ : ∃ m, m = a.length := ⟨_, rfl⟩
  (try rw [← hm] at HF)
  rw [← hm] at hc
  clear hF hg hr hm hb hE ht
  go_enter Tryz.func143, Tryz.ntmps143
  go_wp2_with (first | (go_at_call 211; (with_reducible refine HF.out.mono ?_); rintro e w1 ⟨rfl, hb1⟩; have HBE : Hid (Below w.heap.size w w1) := Lib.hid hb1) | (go_at_call 190; (with_reducible refine (HO.out _ (pow_below HP.out HBE.out)).mono ?_); rintro e w2 ⟨rfl, hb2⟩))
  go_ret
  exact ⟨rfl, bench_below HB.out (below_step HBE.out hb2), grown_same (below_step HBE.out hb2) _⟩

theorem m_place (g : Nat)  (a : List Int) (w : World) (hE : EnvAt w) (hb : BenchAt w g a) : Calls Tryz.prog 144 #[.pointer (some ⟨g, 0, none⟩)] w (Works w g (a, cutNL (oneL (listPlace a).1 (listPlace a).2))) := by
  obtain ⟨r, b, hr⟩ : ∃ r b, (r, b) = listPlace a := ⟨_, _, rfl⟩
  have HB := Lib.hid hb
  obtain ⟨v, hc, hf, hv⟩ := bench_cell hb
  have hF := iListPlace_v v a w  hv
  have hg := bd_place a
  rw [← hr] at hF hg ⊢
  have HF := Lib.hid hF
  have HG := Lib.hid hg
  have HP := Lib.hid hE.2.2.1
  have HO := Lib.hid (fun w1 (h : PowAt w1) => numberOutput_v r b w1 HG.out h)
  obtain ⟨t, ht⟩ : ∃ t, t = cutNL (oneL r b) := ⟨_, rfl⟩
  rw [← ht] at HO ⊢
  obtain ⟨ao, ca, rfl, _, _, _⟩ := hv
  obtain ⟨m, hm⟩ : ∃ m, m = a.length := ⟨_, rfl⟩
  (try rw [← hm] at HF)
  rw [← hm] at hc
  clear hF hg hr hm hb hE ht
  go_enter Tryz.func144, Tryz.ntmps144
  go_wp2_with (first | (go_at_call 15; (with_reducible refine HF.out.mono ?_); rintro e w1 ⟨rfl, hb1⟩; have HBE : Hid (Below w.heap.size w w1) := Lib.hid hb1) | (go_at_call 190; (with_reducible refine (HO.out _ (pow_below HP.out HBE.out)).mono ?_); rintro e w2 ⟨rfl, hb2⟩))
  go_ret
  exact ⟨rfl, bench_below HB.out (below_step HBE.out hb2), grown_same (below_step HBE.out hb2) _⟩

theorem m_arcs (g : Nat)  (a : List Int) (w : World) (hE : EnvAt w) (hb : BenchAt w g a) : Calls Tryz.prog 145 #[.pointer (some ⟨g, 0, none⟩)] w (Works w g (a, cutNL (listsL (arcList a).1 (arcList a).2))) := by
  obtain ⟨r, b, hr⟩ : ∃ r b, (r, b) = arcList a := ⟨_, _, rfl⟩
  have HB := Lib.hid hb
  obtain ⟨v, hc, hf, hv⟩ := bench_cell hb
  have hF := iArcList_v v a w  hv
  have hg := good_arcs a
  rw [← hr] at hF hg ⊢
  have HF := Lib.hid hF
  have HG := Lib.hid hg
  have HP := Lib.hid hE.2.2.1
  have HO := Lib.hid (fun v1 w1 (k : RdM w1 v1 r) (h : PowAt w1) => listsOutput_v v1 r b w1 k HG.out h)
  obtain ⟨t, ht⟩ : ∃ t, t = cutNL (listsL r b) := ⟨_, rfl⟩
  rw [← ht] at HO ⊢
  obtain ⟨ao, ca, rfl, _, _, _⟩ := hv
  obtain ⟨m, hm⟩ : ∃ m, m = a.length := ⟨_, rfl⟩
  (try rw [← hm] at HF)
  rw [← hm] at hc
  clear hF hg hr hm hb hE ht
  go_enter Tryz.func145, Tryz.ntmps145
  go_wp2_with (first | (go_at_call 212; (with_reducible refine HF.out.mono ?_); rintro e w1 ⟨v1, rfl, ho1, hb1⟩; have hrd := Lib.hid (ownM_rdM ho1); clear ho1; have HBE : Hid (Below w.heap.size w w1) := Lib.hid hb1) | (go_at_call 204; (with_reducible refine (HO.out _ _ hrd.out (pow_below HP.out HBE.out)).mono ?_); rintro e w2 ⟨rfl, hb2⟩))
  go_ret
  exact ⟨rfl, bench_below HB.out (below_step HBE.out hb2), grown_same (below_step HBE.out hb2) _⟩

theorem m_cross (g : Nat)  (a : List Int) (w : World) (hE : EnvAt w) (hb : BenchAt w g a) : Calls Tryz.prog 146 #[.pointer (some ⟨g, 0, none⟩)] w (Works w g (a, cutNL (oneL (arcCross a).1 (arcCross a).2))) := by
  obtain ⟨r, b, hr⟩ : ∃ r b, (r, b) = arcCross a := ⟨_, _, rfl⟩
  have HB := Lib.hid hb
  obtain ⟨v, hc, hf, hv⟩ := bench_cell hb
  have hF := iArcCross_v v a w  hv
  have hg := bd_cross a
  rw [← hr] at hF hg ⊢
  have HF := Lib.hid hF
  have HG := Lib.hid hg
  have HP := Lib.hid hE.2.2.1
  have HO := Lib.hid (fun w1 (h : PowAt w1) => numberOutput_v r b w1 HG.out h)
  obtain ⟨t, ht⟩ : ∃ t, t = cutNL (oneL r b) := ⟨_, rfl⟩
  rw [← ht] at HO ⊢
  obtain ⟨ao, ca, rfl, _, _, _⟩ := hv
  obtain ⟨m, hm⟩ : ∃ m, m = a.length := ⟨_, rfl⟩
  (try rw [← hm] at HF)
  rw [← hm] at hc
  clear hF hg hr hm hb hE ht
  go_enter Tryz.func146, Tryz.ntmps146
  go_wp2_with (first | (go_at_call 20; (with_reducible refine HF.out.mono ?_); rintro e w1 ⟨rfl, hb1⟩; have HBE : Hid (Below w.heap.size w w1) := Lib.hid hb1) | (go_at_call 190; (with_reducible refine (HO.out _ (pow_below HP.out HBE.out)).mono ?_); rintro e w2 ⟨rfl, hb2⟩))
  go_ret
  exact ⟨rfl, bench_below HB.out (below_step HBE.out hb2), grown_same (below_step HBE.out hb2) _⟩

theorem m_nest (g : Nat)  (a : List Int) (w : World) (hE : EnvAt w) (hb : BenchAt w g a) : Calls Tryz.prog 147 #[.pointer (some ⟨g, 0, none⟩)] w (Works w g (a, cutNL (oneL (arcNest a).1 (arcNest a).2))) := by
  obtain ⟨r, b, hr⟩ : ∃ r b, (r, b) = arcNest a := ⟨_, _, rfl⟩
  have HB := Lib.hid hb
  obtain ⟨v, hc, hf, hv⟩ := bench_cell hb
  have hF := iArcNest_v v a w  hv
  have hg := bd_nest a
  rw [← hr] at hF hg ⊢
  have HF := Lib.hid hF
  have HG := Lib.hid hg
  have HP := Lib.hid hE.2.2.1
  have HO := Lib.hid (fun w1 (h : PowAt w1) => numberOutput_v r b w1 HG.out h)
  obtain ⟨t, ht⟩ : ∃ t, t = cutNL (oneL r b) := ⟨_, rfl⟩
  rw [← ht] at HO ⊢
  obtain ⟨ao, ca, rfl, _, _, _⟩ := hv
  obtain ⟨m, hm⟩ : ∃ m, m = a.length := ⟨_, rfl⟩
  (try rw [← hm] at HF)
  rw [← hm] at hc
  clear hF hg hr hm hb hE ht
  go_enter Tryz.func147, Tryz.ntmps147
  go_wp2_with (first | (go_at_call 213; (with_reducible refine HF.out.mono ?_); rintro e w1 ⟨rfl, hb1⟩; have HBE : Hid (Below w.heap.size w w1) := Lib.hid hb1) | (go_at_call 190; (with_reducible refine (HO.out _ (pow_below HP.out HBE.out)).mono ?_); rintro e w2 ⟨rfl, hb2⟩))
  go_ret
  exact ⟨rfl, bench_below HB.out (below_step HBE.out hb2), grown_same (below_step HBE.out hb2) _⟩

theorem m_far (g : Nat)  (a : List Int) (w : World) (hE : EnvAt w) (hb : BenchAt w g a) : Calls Tryz.prog 148 #[.pointer (some ⟨g, 0, none⟩)] w (Works w g (a, cutNL (oneL (arcLong a).1 (arcLong a).2))) := by
  obtain ⟨r, b, hr⟩ : ∃ r b, (r, b) = arcLong a := ⟨_, _, rfl⟩
  have HB := Lib.hid hb
  obtain ⟨v, hc, hf, hv⟩ := bench_cell hb
  have hF := iArcLong_v v a w  hv
  have hg := bd_far a
  rw [← hr] at hF hg ⊢
  have HF := Lib.hid hF
  have HG := Lib.hid hg
  have HP := Lib.hid hE.2.2.1
  have HO := Lib.hid (fun w1 (h : PowAt w1) => numberOutput_v r b w1 HG.out h)
  obtain ⟨t, ht⟩ : ∃ t, t = cutNL (oneL r b) := ⟨_, rfl⟩
  rw [← ht] at HO ⊢
  obtain ⟨ao, ca, rfl, _, _, _⟩ := hv
  obtain ⟨m, hm⟩ : ∃ m, m = a.length := ⟨_, rfl⟩
  (try rw [← hm] at HF)
  rw [← hm] at hc
  clear hF hg hr hm hb hE ht
  go_enter Tryz.func148, Tryz.ntmps148
  go_wp2_with (first | (go_at_call 214; (with_reducible refine HF.out.mono ?_); rintro e w1 ⟨rfl, hb1⟩; have HBE : Hid (Below w.heap.size w w1) := Lib.hid hb1) | (go_at_call 190; (with_reducible refine (HO.out _ (pow_below HP.out HBE.out)).mono ?_); rintro e w2 ⟨rfl, hb2⟩))
  go_ret
  exact ⟨rfl, bench_below HB.out (below_step HBE.out hb2), grown_same (below_step HBE.out hb2) _⟩

theorem m_ring (g : Nat)  (a : List Int) (w : World) (hE : EnvAt w) (hb : BenchAt w g a) : Calls Tryz.prog 149 #[.pointer (some ⟨g, 0, none⟩)] w (Works w g (a, cutNL (saidL (ringOf a).1 (ringOf a).2))) := by
  obtain ⟨r, b, hr⟩ : ∃ r b, (r, b) = ringOf a := ⟨_, _, rfl⟩
  have HB := Lib.hid hb
  obtain ⟨v, hc, hf, hv⟩ := bench_cell hb
  have hF := iRingOf_v v a w hE.1 hv
  have hg := good_ring a
  rw [← hr] at hF hg ⊢
  have HF := Lib.hid hF
  have HG := Lib.hid hg
  have HP := Lib.hid hE.2.2.1
  have HO := Lib.hid (fun v1 w1 (k : RdV w1 v1 r) (h : PowAt w1) => listOutput_v v1 r b w1 k HG.out h)
  obtain ⟨t, ht⟩ : ∃ t, t = cutNL (saidL r b) := ⟨_, rfl⟩
  rw [← ht] at HO ⊢
  obtain ⟨ao, ca, rfl, _, _, _⟩ := hv
  obtain ⟨m, hm⟩ : ∃ m, m = a.length := ⟨_, rfl⟩
  (try rw [← hm] at HF)
  rw [← hm] at hc
  clear hF hg hr hm hb hE ht
  go_enter Tryz.func149, Tryz.ntmps149
  go_wp2_with (first | (go_at_call 215; (with_reducible refine HF.out.mono ?_); rintro e w1 ⟨v1, rfl, ho1, hb1⟩; have hrd := Lib.hid (own_rdv ho1); clear ho1; have HBE : Hid (Below w.heap.size w w1) := Lib.hid hb1) | (go_at_call 203; (with_reducible refine (HO.out _ _ hrd.out (pow_below HP.out HBE.out)).mono ?_); rintro e w2 ⟨rfl, hb2⟩))
  go_ret
  exact ⟨rfl, bench_below HB.out (below_step HBE.out hb2), grown_same (below_step HBE.out hb2) _⟩

theorem m_count (g : Nat)  (a : List Int) (w : World) (hE : EnvAt w) (hb : BenchAt w g a) : Calls Tryz.prog 150 #[.pointer (some ⟨g, 0, none⟩)] w (Works w g (a, cutNL (oneL (ringCount a).1 (ringCount a).2))) := by
  obtain ⟨r, b, hr⟩ : ∃ r b, (r, b) = ringCount a := ⟨_, _, rfl⟩
  have HB := Lib.hid hb
  obtain ⟨v, hc, hf, hv⟩ := bench_cell hb
  have hF := iRingCount_v v a w  hv
  have hg := bd_count a
  rw [← hr] at hF hg ⊢
  have HF := Lib.hid hF
  have HG := Lib.hid hg
  have HP := Lib.hid hE.2.2.1
  have HO := Lib.hid (fun w1 (h : PowAt w1) => numberOutput_v r b w1 HG.out h)
  obtain ⟨t, ht⟩ : ∃ t, t = cutNL (oneL r b) := ⟨_, rfl⟩
  rw [← ht] at HO ⊢
  obtain ⟨ao, ca, rfl, _, _, _⟩ := hv
  obtain ⟨m, hm⟩ : ∃ m, m = a.length := ⟨_, rfl⟩
  (try rw [← hm] at HF)
  rw [← hm] at hc
  clear hF hg hr hm hb hE ht
  go_enter Tryz.func150, Tryz.ntmps150
  go_wp2_with (first | (go_at_call 216; (with_reducible refine HF.out.mono ?_); rintro e w1 ⟨rfl, hb1⟩; have HBE : Hid (Below w.heap.size w w1) := Lib.hid hb1) | (go_at_call 190; (with_reducible refine (HO.out _ (pow_below HP.out HBE.out)).mono ?_); rintro e w2 ⟨rfl, hb2⟩))
  go_ret
  exact ⟨rfl, bench_below HB.out (below_step HBE.out hb2), grown_same (below_step HBE.out hb2) _⟩

theorem m_pairs (g : Nat)  (a : List Int) (w : World) (hE : EnvAt w) (hb : BenchAt w g a) : Calls Tryz.prog 151 #[.pointer (some ⟨g, 0, none⟩)] w (Works w g (a, cutNL (listsL (pairOf a).1 (pairOf a).2))) := by
  obtain ⟨r, b, hr⟩ : ∃ r b, (r, b) = pairOf a := ⟨_, _, rfl⟩
  have HB := Lib.hid hb
  obtain ⟨v, hc, hf, hv⟩ := bench_cell hb
  have hF := iPairOf_v v a w  hv
  have hg := good_pairs a
  rw [← hr] at hF hg ⊢
  have HF := Lib.hid hF
  have HG := Lib.hid hg
  have HP := Lib.hid hE.2.2.1
  have HO := Lib.hid (fun v1 w1 (k : RdM w1 v1 r) (h : PowAt w1) => listsOutput_v v1 r b w1 k HG.out h)
  obtain ⟨t, ht⟩ : ∃ t, t = cutNL (listsL r b) := ⟨_, rfl⟩
  rw [← ht] at HO ⊢
  obtain ⟨ao, ca, rfl, _, _, _⟩ := hv
  obtain ⟨m, hm⟩ : ∃ m, m = a.length := ⟨_, rfl⟩
  (try rw [← hm] at HF)
  rw [← hm] at hc
  clear hF hg hr hm hb hE ht
  go_enter Tryz.func151, Tryz.ntmps151
  go_wp2_with (first | (go_at_call 217; (with_reducible refine HF.out.mono ?_); rintro e w1 ⟨v1, rfl, ho1, hb1⟩; have hrd := Lib.hid (ownM_rdM ho1); clear ho1; have HBE : Hid (Below w.heap.size w w1) := Lib.hid hb1) | (go_at_call 204; (with_reducible refine (HO.out _ _ hrd.out (pow_below HP.out HBE.out)).mono ?_); rintro e w2 ⟨rfl, hb2⟩))
  go_ret
  exact ⟨rfl, bench_below HB.out (below_step HBE.out hb2), grown_same (below_step HBE.out hb2) _⟩

theorem m_finer (g : Nat) (u : Value) (ns : List Int) (a : List Int) (w : World) (hE : EnvAt w) (hb : BenchAt w g a) (hu : RdV w u ns) : Calls Tryz.prog 122 #[.pointer (some ⟨g, 0, none⟩), u] w (Works w g (a, cutNL (if finerIn a ns then sayYes else sayNot))) := by
  have HB := Lib.hid hb
  obtain ⟨v, hc, hf, hv⟩ := bench_cell hb
  have hF := iFinerIn_v v u a ns w hv hu
  obtain ⟨uo, uc, rfl, _, _, _⟩ := hu
  obtain ⟨q, hq⟩ : ∃ q, q = ns.length := ⟨_, rfl⟩
  rw [← hq] at hF ⊢
  clear hq
  obtain ⟨ao, ca, rfl, _, _, _⟩ := hv
  obtain ⟨m, hm⟩ : ∃ m, m = a.length := ⟨_, rfl⟩
  rw [← hm] at hF hc
  cases hr : finerIn a ns
  all_goals
    rw [hr] at hF
    have HF := Lib.hid hF
    clear hF hr hb hE hm
    go_enter Tryz.func122, Tryz.ntmps122
    go_wp2_with (go_at_call 189; (with_reducible refine HF.out.mono ?_); rintro e w1 ⟨rfl, hb1⟩)
    go_ret
    exact ⟨rfl, bench_below HB.out hb1, grown_same hb1 _⟩

theorem m_sign (g : Nat) (u : Value) (ns : List Int) (a : List Int) (w : World) (hE : EnvAt w) (hb : BenchAt w g a) (hu : RdV w u ns) : Calls Tryz.prog 123 #[.pointer (some ⟨g, 0, none⟩), u] w (Works w g (a, cutNL (oneL (finerSign a ns).1 (finerSign a ns).2))) := by
  obtain ⟨r, b, hr⟩ : ∃ r b, (r, b) = finerSign a ns := ⟨_, _, rfl⟩
  have HB := Lib.hid hb
  obtain ⟨v, hc, hf, hv⟩ := bench_cell hb
  have hF := iFinerSign_v v u a ns w  hv hu
  obtain ⟨uo, uc, rfl, _, _, _⟩ := hu
  obtain ⟨q, hq⟩ : ∃ q, q = ns.length := ⟨_, rfl⟩
  rw [← hq] at hF ⊢
  clear hq
  have hg := bd_sign a ns
  rw [← hr] at hF hg ⊢
  have HF := Lib.hid hF
  have HG := Lib.hid hg
  have HP := Lib.hid hE.2.2.1
  have HO := Lib.hid (fun w1 (h : PowAt w1) => numberOutput_v r b w1 HG.out h)
  obtain ⟨t, ht⟩ : ∃ t, t = cutNL (oneL r b) := ⟨_, rfl⟩
  rw [← ht] at HO ⊢
  obtain ⟨ao, ca, rfl, _, _, _⟩ := hv
  obtain ⟨m, hm⟩ : ∃ m, m = a.length := ⟨_, rfl⟩
  (try rw [← hm] at HF)
  rw [← hm] at hc
  clear hF hg hr hm hb hE ht
  go_enter Tryz.func123, Tryz.ntmps123
  go_wp2_with (first | (go_at_call 191; (with_reducible refine HF.out.mono ?_); rintro e w1 ⟨rfl, hb1⟩; have HBE : Hid (Below w.heap.size w w1) := Lib.hid hb1) | (go_at_call 190; (with_reducible refine (HO.out _ (pow_below HP.out HBE.out)).mono ?_); rintro e w2 ⟨rfl, hb2⟩))
  go_ret
  exact ⟨rfl, bench_below HB.out (below_step HBE.out hb2), grown_same (below_step HBE.out hb2) _⟩

theorem m_inner (g : Nat) (u : Value) (ns : List Int) (a : List Int) (w : World) (hE : EnvAt w) (hb : BenchAt w g a) (hu : RdV w u ns) : Calls Tryz.prog 124 #[.pointer (some ⟨g, 0, none⟩), u] w (Works w g (a, cutNL (oneL (finerInterval a ns).1 (finerInterval a ns).2))) := by
  obtain ⟨r, b, hr⟩ : ∃ r b, (r, b) = finerInterval a ns := ⟨_, _, rfl⟩
  have HB := Lib.hid hb
  obtain ⟨v, hc, hf, hv⟩ := bench_cell hb
  have hF := iFinerInterval_v v u a ns w  hv hu
  obtain ⟨uo, uc, rfl, _, _, _⟩ := hu
  obtain ⟨q, hq⟩ : ∃ q, q = ns.length := ⟨_, rfl⟩
  rw [← hq] at hF ⊢
  clear hq
  have hg := bd_inner a ns
  rw [← hr] at hF hg ⊢
  have HF := Lib.hid hF
  have HG := Lib.hid hg
  have HP := Lib.hid hE.2.2.1
  have HO := Lib.hid (fun w1 (h : PowAt w1) => numberOutput_v r b w1 HG.out h)
  obtain ⟨t, ht⟩ : ∃ t, t = cutNL (oneL r b) := ⟨_, rfl⟩
  rw [← ht] at HO ⊢
  obtain ⟨ao, ca, rfl, _, _, _⟩ := hv
  obtain ⟨m, hm⟩ : ∃ m, m = a.length := ⟨_, rfl⟩
  (try rw [← hm] at HF)
  rw [← hm] at hc
  clear hF hg hr hm hb hE ht
  go_enter Tryz.func124, Tryz.ntmps124
  go_wp2_with (first | (go_at_call 192; (with_reducible refine HF.out.mono ?_); rintro e w1 ⟨rfl, hb1⟩; have HBE : Hid (Below w.heap.size w w1) := Lib.hid hb1) | (go_at_call 190; (with_reducible refine (HO.out _ (pow_below HP.out HBE.out)).mono ?_); rintro e w2 ⟨rfl, hb2⟩))
  go_ret
  exact ⟨rfl, bench_below HB.out (below_step HBE.out hb2), grown_same (below_step HBE.out hb2) _⟩

theorem m_quarrel (g : Nat) (u : Value) (ns : List Int) (a : List Int) (w : World) (hE : EnvAt w) (hb : BenchAt w g a) (hu : RdV w u ns) : Calls Tryz.prog 125 #[.pointer (some ⟨g, 0, none⟩), u] w (Works w g (a, cutNL (oneL (viewQuarrel a ns).1 (viewQuarrel a ns).2))) := by
  obtain ⟨r, b, hr⟩ : ∃ r b, (r, b) = viewQuarrel a ns := ⟨_, _, rfl⟩
  have HB := Lib.hid hb
  obtain ⟨v, hc, hf, hv⟩ := bench_cell hb
  have hF := iViewQuarrel_v v u a ns w  hv hu
  obtain ⟨uo, uc, rfl, _, _, _⟩ := hu
  obtain ⟨q, hq⟩ : ∃ q, q = ns.length := ⟨_, rfl⟩
  rw [← hq] at hF ⊢
  clear hq
  have hg := bd_quarrel a ns
  rw [← hr] at hF hg ⊢
  have HF := Lib.hid hF
  have HG := Lib.hid hg
  have HP := Lib.hid hE.2.2.1
  have HO := Lib.hid (fun w1 (h : PowAt w1) => numberOutput_v r b w1 HG.out h)
  obtain ⟨t, ht⟩ : ∃ t, t = cutNL (oneL r b) := ⟨_, rfl⟩
  rw [← ht] at HO ⊢
  obtain ⟨ao, ca, rfl, _, _, _⟩ := hv
  obtain ⟨m, hm⟩ : ∃ m, m = a.length := ⟨_, rfl⟩
  (try rw [← hm] at HF)
  rw [← hm] at hc
  clear hF hg hr hm hb hE ht
  go_enter Tryz.func125, Tryz.ntmps125
  go_wp2_with (first | (go_at_call 193; (with_reducible refine HF.out.mono ?_); rintro e w1 ⟨rfl, hb1⟩; have HBE : Hid (Below w.heap.size w w1) := Lib.hid hb1) | (go_at_call 190; (with_reducible refine (HO.out _ (pow_below HP.out HBE.out)).mono ?_); rintro e w2 ⟨rfl, hb2⟩))
  go_ret
  exact ⟨rfl, bench_below HB.out (below_step HBE.out hb2), grown_same (below_step HBE.out hb2) _⟩

theorem m_path (g : Nat) (u : Value) (ns : List Int) (a : List Int) (w : World) (hE : EnvAt w) (hb : BenchAt w g a) (hu : RdV w u ns) : Calls Tryz.prog 126 #[.pointer (some ⟨g, 0, none⟩), u] w (Works w g (a, cutNL (oneL (viewPath a ns).1 (viewPath a ns).2))) := by
  obtain ⟨r, b, hr⟩ : ∃ r b, (r, b) = viewPath a ns := ⟨_, _, rfl⟩
  have HB := Lib.hid hb
  obtain ⟨v, hc, hf, hv⟩ := bench_cell hb
  have hF := iViewPath_v v u a ns w  hv hu
  obtain ⟨uo, uc, rfl, _, _, _⟩ := hu
  obtain ⟨q, hq⟩ : ∃ q, q = ns.length := ⟨_, rfl⟩
  rw [← hq] at hF ⊢
  clear hq
  have hg := bd_path a ns
  rw [← hr] at hF hg ⊢
  have HF := Lib.hid hF
  have HG := Lib.hid hg
  have HP := Lib.hid hE.2.2.1
  have HO := Lib.hid (fun w1 (h : PowAt w1) => numberOutput_v r b w1 HG.out h)
  obtain ⟨t, ht⟩ : ∃ t, t = cutNL (oneL r b) := ⟨_, rfl⟩
  rw [← ht] at HO ⊢
  obtain ⟨ao, ca, rfl, _, _, _⟩ := hv
  obtain ⟨m, hm⟩ : ∃ m, m = a.length := ⟨_, rfl⟩
  (try rw [← hm] at HF)
  rw [← hm] at hc
  clear hF hg hr hm hb hE ht
  go_enter Tryz.func126, Tryz.ntmps126
  go_wp2_with (first | (go_at_call 194; (with_reducible refine HF.out.mono ?_); rintro e w1 ⟨rfl, hb1⟩; have HBE : Hid (Below w.heap.size w w1) := Lib.hid hb1) | (go_at_call 190; (with_reducible refine (HO.out _ (pow_below HP.out HBE.out)).mono ?_); rintro e w2 ⟨rfl, hb2⟩))
  go_ret
  exact ⟨rfl, bench_below HB.out (below_step HBE.out hb2), grown_same (below_step HBE.out hb2) _⟩

theorem m_moves (g : Nat) (u : Value) (ns : List Int) (a : List Int) (w : World) (hE : EnvAt w) (hb : BenchAt w g a) (hu : RdV w u ns) : Calls Tryz.prog 127 #[.pointer (some ⟨g, 0, none⟩), u] w (Works w g (a, cutNL (oneL (viewMoves a ns).1 (viewMoves a ns).2))) := by
  obtain ⟨r, b, hr⟩ : ∃ r b, (r, b) = viewMoves a ns := ⟨_, _, rfl⟩
  have HB := Lib.hid hb
  obtain ⟨v, hc, hf, hv⟩ := bench_cell hb
  have hF := iViewMoves_v v u a ns w hE.1 hv hu
  obtain ⟨uo, uc, rfl, _, _, _⟩ := hu
  obtain ⟨q, hq⟩ : ∃ q, q = ns.length := ⟨_, rfl⟩
  rw [← hq] at hF ⊢
  clear hq
  have hg := bd_moves a ns
  rw [← hr] at hF hg ⊢
  have HF := Lib.hid hF
  have HG := Lib.hid hg
  have HP := Lib.hid hE.2.2.1
  have HO := Lib.hid (fun w1 (h : PowAt w1) => numberOutput_v r b w1 HG.out h)
  obtain ⟨t, ht⟩ : ∃ t, t = cutNL (oneL r b) := ⟨_, rfl⟩
  rw [← ht] at HO ⊢
  obtain ⟨ao, ca, rfl, _, _, _⟩ := hv
  obtain ⟨m, hm⟩ : ∃ m, m = a.length := ⟨_, rfl⟩
  (try rw [← hm] at HF)
  rw [← hm] at hc
  clear hF hg hr hm hb hE ht
  go_enter Tryz.func127, Tryz.ntmps127
  go_wp2_with (first | (go_at_call 195; (with_reducible refine HF.out.mono ?_); rintro e w1 ⟨rfl, hb1⟩; have HBE : Hid (Below w.heap.size w w1) := Lib.hid hb1) | (go_at_call 190; (with_reducible refine (HO.out _ (pow_below HP.out HBE.out)).mono ?_); rintro e w2 ⟨rfl, hb2⟩))
  go_ret
  exact ⟨rfl, bench_below HB.out (below_step HBE.out hb2), grown_same (below_step HBE.out hb2) _⟩

theorem m_number (g : Nat) (bb off uc : Nat) (x y : Int) (a : List Int) (w : World) (hE : EnvAt w) (hb : BenchAt w g a) (hx : w.cell? ⟨bb, off, none⟩ = some (.int .i64 x)) (hy : w.cell? ⟨bb, off + 1, none⟩ = some (.int .i64 y)) (wx : (Lit.int .i64 x).wf = true) (wy : (Lit.int .i64 y).wf = true) : Calls Tryz.prog 128 #[.pointer (some ⟨g, 0, none⟩), .slice (some ⟨bb, off, none⟩) 2 uc] w (Works w g (a, cutNL (oneL (numBy (ext fB) x y).1 (numBy (ext fB) x y).2))) := by
  obtain ⟨r, b, hr⟩ : ∃ r b, (r, b) = numBy (ext fB) x y := ⟨_, _, rfl⟩
  have HB := Lib.hid hb
  obtain ⟨v, hc, hf, hv⟩ := bench_cell hb
  have hF := fun (w0 : World) (_ : Same w w0) => iNumberBlocks_v x y w0 wx wy
  have hg := bd_number x y
  rw [← hr] at hF hg ⊢
  have HF := Lib.hid hF
  have HG := Lib.hid hg
  have HP := Lib.hid hE.2.2.1
  have HO := Lib.hid (fun w1 (h : PowAt w1) => numberOutput_v r b w1 HG.out h)
  obtain ⟨t, ht⟩ : ∃ t, t = cutNL (oneL r b) := ⟨_, rfl⟩
  rw [← ht] at HO ⊢
  obtain ⟨ao, ca, rfl, _, _, _⟩ := hv
  obtain ⟨m, hm⟩ : ∃ m, m = a.length := ⟨_, rfl⟩
  (try rw [← hm] at HF)
  rw [← hm] at hc
  clear hF hg hr hm hb hE ht
  go_enter Tryz.func128, Tryz.ntmps128
  go_wp2_with fail
  go_region_with (first | (go_at_call 196; (with_reducible refine (HF.out _ (same_drew w)).mono ?_); rintro e w1 ⟨rfl, hb1⟩; have HBE : Hid (Below w.heap.size w w1) := Lib.hid (below_step (below_drewN (Below.refl _ w) 1) hb1)) | (go_at_call 190; (with_reducible refine (HO.out _ (pow_below HP.out HBE.out)).mono ?_); rintro e w2 ⟨rfl, hb2⟩))
  all_goals go_wp2
  all_goals go_ret
  all_goals exact ⟨rfl, bench_below HB.out (below_step HBE.out hb2), grown_same (below_step HBE.out hb2) _⟩

theorem m_all (g : Nat) (bb off uc : Nat) (x : Int) (a : List Int) (w : World) (hE : EnvAt w) (hb : BenchAt w g a) (hx : w.cell? ⟨bb, off, none⟩ = some (.int .i64 x)) (wx : (Lit.int .i64 x).wf = true) : Calls Tryz.prog 129 #[.pointer (some ⟨g, 0, none⟩), .slice (some ⟨bb, off, none⟩) 1 uc] w (Works w g (a, cutNL (oneL (numAll x).1 (numAll x).2))) := by
  obtain ⟨r, b, hr⟩ : ∃ r b, (r, b) = numAll x := ⟨_, _, rfl⟩
  have HB := Lib.hid hb
  obtain ⟨v, hc, hf, hv⟩ := bench_cell hb
  have hF := iNumberAll_v x w wx
  have hg := bd_all x
  rw [← hr] at hF hg ⊢
  have HF := Lib.hid hF
  have HG := Lib.hid hg
  have HP := Lib.hid hE.2.2.1
  have HO := Lib.hid (fun w1 (h : PowAt w1) => numberOutput_v r b w1 HG.out h)
  obtain ⟨t, ht⟩ : ∃ t, t = cutNL (oneL r b) := ⟨_, rfl⟩
  rw [← ht] at HO ⊢
  obtain ⟨ao, ca, rfl, _, _, _⟩ := hv
  obtain ⟨m, hm⟩ : ∃ m, m = a.length := ⟨_, rfl⟩
  (try rw [← hm] at HF)
  rw [← hm] at hc
  clear hF hg hr hm hb hE ht
  go_enter Tryz.func129, Tryz.ntmps129
  go_wp2_with (first | (go_at_call 197; (with_reducible refine HF.out.mono ?_); rintro e w1 ⟨rfl, hb1⟩; have HBE : Hid (Below w.heap.size w w1) := Lib.hid hb1) | (go_at_call 190; (with_reducible refine (HO.out _ (pow_below HP.out HBE.out)).mono ?_); rintro e w2 ⟨rfl, hb2⟩))
  go_ret
  exact ⟨rfl, bench_below HB.out (below_step HBE.out hb2), grown_same (below_step HBE.out hb2) _⟩

theorem m_plain (g : Nat) (bb off uc : Nat) (x : Int) (a : List Int) (w : World) (hE : EnvAt w) (hb : BenchAt w g a) (hx : w.cell? ⟨bb, off, none⟩ = some (.int .i64 x)) (wx : (Lit.int .i64 x).wf = true) : Calls Tryz.prog 130 #[.pointer (some ⟨g, 0, none⟩), .slice (some ⟨bb, off, none⟩) 1 uc] w (Works w g (a, cutNL (oneL (arcPlain x).1 (arcPlain x).2))) := by
  obtain ⟨r, b, hr⟩ : ∃ r b, (r, b) = arcPlain x := ⟨_, _, rfl⟩
  have HB := Lib.hid hb
  obtain ⟨v, hc, hf, hv⟩ := bench_cell hb
  have hF := iArcPlain_v x w wx
  have hg := bd_plain x
  rw [← hr] at hF hg ⊢
  have HF := Lib.hid hF
  have HG := Lib.hid hg
  have HP := Lib.hid hE.2.2.1
  have HO := Lib.hid (fun w1 (h : PowAt w1) => numberOutput_v r b w1 HG.out h)
  obtain ⟨t, ht⟩ : ∃ t, t = cutNL (oneL r b) := ⟨_, rfl⟩
  rw [← ht] at HO ⊢
  obtain ⟨ao, ca, rfl, _, _, _⟩ := hv
  obtain ⟨m, hm⟩ : ∃ m, m = a.length := ⟨_, rfl⟩
  (try rw [← hm] at HF)
  rw [← hm] at hc
  clear hF hg hr hm hb hE ht
  go_enter Tryz.func130, Tryz.ntmps130
  go_wp2_with (first | (go_at_call 198; (with_reducible refine HF.out.mono ?_); rintro e w1 ⟨rfl, hb1⟩; have HBE : Hid (Below w.heap.size w w1) := Lib.hid hb1) | (go_at_call 190; (with_reducible refine (HO.out _ (pow_below HP.out HBE.out)).mono ?_); rintro e w2 ⟨rfl, hb2⟩))
  go_ret
  exact ⟨rfl, bench_below HB.out (below_step HBE.out hb2), grown_same (below_step HBE.out hb2) _⟩
end

section
open Go.RowKit
open Go.ChangeMaps (setBlock heap_setBlock_same heap_setBlock_other)

theorem str_law : Maps.Keyed Tryz.prog 9 := Maps.string_keyed Tryz.underlying9
theorem str_key (k : List UInt8) (hk : k.length ≤ 1000) : ∃ l, keyOf Tryz.prog 9 (strV k) = some l :=
  ⟨_, Go.WideMaps.keyOf_string_mk Tryz.underlying9 (by unfold maxLen; show k.toArray.size ≤ _; simp; omega)⟩

def WordsAt (w0 w : World) (mb : Nat) (L : List (List UInt8 × Value)) : Prop := (∀ p ∈ L, p.1.length ≤ 1000) ∧ w0.heap.size ≤ mb ∧ Below w0.heap.size w0 w ∧
  ∃ es clock, w.heap[mb]? = some (.map es clock) ∧ es.toList.map (fun e => (e.key, e.val)) = L.map (fun p => (strV p.1, p.2))
theorem words_new (w : World) : WordsAt w (w.alloc (.map #[] 0)) w.heap.size [] :=
  ⟨fun p hp => (by cases hp), Nat.le_refl _, (Below.refl _ _).alloc (Nat.le_refl _) _, #[], 0, heap_alloc_new w _, rfl⟩
theorem words_mem {es : List MapEntry} {L : List (List UInt8 × Value)} (h : es.map (fun e => (e.key, e.val)) = L.map (fun p => (strV p.1, p.2))) {e : MapEntry} (he : e ∈ es) : ∃ p ∈ L, e.key = strV p.1 ∧ e.val = p.2 := by
  have : (e.key, e.val) ∈ es.map (fun e => (e.key, e.val)) := List.mem_map.2 ⟨e, he, rfl⟩
  rw [h] at this
  obtain ⟨p, hp, hq⟩ := List.mem_map.1 this
  simp only [Prod.mk.injEq] at hq
  exact ⟨p, hp, hq.1.symm, hq.2.symm⟩
theorem words_keys {es : List MapEntry} {L : List (List UInt8 × Value)} (hL : ∀ p ∈ L, p.1.length ≤ 1000) (h : es.map (fun e => (e.key, e.val)) = L.map (fun p => (strV p.1, p.2))) : ∀ x ∈ es, ∃ l, keyOf Tryz.prog 9 x.key = some l := fun x hx => by
  obtain ⟨p, hp, e, _⟩ := words_mem h hx
  rw [e]
  exact str_key p.1 (hL p hp)
theorem strV_inj {k l : List UInt8} (h : strV k = strV l) : k = l := by
  injection h with h
  exact str_inj h

theorem words_put {T E : TypeId} (hT : Tryz.prog.underlying T = some (.map 9 E)) {w0 w : World} {mb : Nat} {L : List (List UInt8 × Value)} (h : WordsAt w0 w mb L) (k : List UInt8) (hk : k.length ≤ 1000) (v : Value) (hn : ∀ p ∈ L, p.1 ≠ k) :
    ∃ w', (Instr.mapUpdate T (.map (some mb)) (strV k) v).run Tryz.prog w = .ok () w' ∧ WordsAt w0 w' mb (L ++ [(k, v)]) := by
  obtain ⟨hl, hB, hbel, es, clock, hb, hes⟩ := h
  obtain ⟨lk, hlk⟩ := str_key k hk
  have hgr : ∀ es' clock', w.grownBy (setBlock w mb (.map es' clock')) (some mb) := fun es' clock' =>
    ⟨rfl, rfl, rfl, by simp [setBlock], fun i _ hi => heap_setBlock_other hb _ (fun e => hi (by rw [e]))⟩
  rcases str_law.find w hlk es.toList (words_keys hl hes) with ⟨h1, h2⟩ | ⟨j, e0, h1, h2, h3⟩
  · refine ⟨setBlock w mb (.map (es.push ⟨strV k, v, clock⟩) (clock + 1)), by simp [Instr.mapUpdate, run_underlying hT, MapKept.run_getObj_map hb, str_law.check w false hlk, h1, MapKept.run_setObj_map _ hb, Result.andThen, setBlock], ?_, hB, hbel.grown (hgr _ _) hbel.size (fun q hq => by cases hq; exact hB), _, _, heap_setBlock_same hb _, ?_⟩
    · intro p hp
      rcases List.mem_append.1 hp with h | h
      · exact hl p h
      · rw [List.mem_singleton.1 h]; exact hk
    · rw [Array.toList_push, List.map_append, List.map_append, hes]
      rfl
  · exfalso
    obtain ⟨p, hp, e, _⟩ := words_mem hes (List.mem_of_getElem? h2)
    rw [h3] at e
    exact hn p hp (strV_inj e).symm
theorem words_look {T E : TypeId} (hT : Tryz.prog.underlying T = some (.map 9 E)) {w0 w : World} {mb : Nat} {L : List (List UInt8 × Value)} (h : WordsAt w0 w mb L) (k : List UInt8) (hk : k.length ≤ 1000) (z : Value) (hz : (zeroValue E).run Tryz.prog w = .ok z w) :
    ((∀ p ∈ L, p.1 ≠ k) ∧ (Instr.lookup T (.map (some mb)) (strV k) true).run Tryz.prog w = .ok (.tuple #[z, .bool false]) w) ∨
    ∃ v, (k, v) ∈ L ∧ (Instr.lookup T (.map (some mb)) (strV k) true).run Tryz.prog w = .ok (.tuple #[v, .bool true]) w := by
  obtain ⟨hl, hB, hbel, es, clock, hb, hes⟩ := h
  obtain ⟨lk, hlk⟩ := str_key k hk
  rcases str_law.find w hlk es.toList (words_keys hl hes) with ⟨h1, h2⟩ | ⟨j, e0, h1, h2, h3⟩
  · refine .inl ⟨fun p hp e => ?_, by simp [Instr.lookup, run_underlying hT, MapKept.run_getObj_map hb, str_law.check w _ hlk, h1, hz, Result.andThen]⟩
    have : (strV p.1, p.2) ∈ es.toList.map (fun e => (e.key, e.val)) := by rw [hes]; exact List.mem_map.2 ⟨p, hp, rfl⟩
    obtain ⟨x, hx, hq⟩ := List.mem_map.1 this
    simp only [Prod.mk.injEq] at hq
    exact h2 x hx (by rw [hq.1, e])
  · obtain ⟨p, hp, e, e2⟩ := words_mem hes (List.mem_of_getElem? h2)
    rw [h3] at e
    have hpk : p.1 = k := (strV_inj e).symm
    refine .inr ⟨p.2, by rw [← hpk]; exact hp, by simp [Instr.lookup, run_underlying hT, MapKept.run_getObj_map hb, str_law.check w _ hlk, h1, e2, Result.andThen]⟩

section
variable {w : World} {ops : Array Oper} {rest : List Oper} {o : Oper} {a : Act} {Q : Exit → Act → World → Prop}
theorem wpList_wordPut (hg : o.guard = none) (T : TypeId) (m x v : Operand) (hop : o.op = Op.insert T m x v) {E : TypeId} (hT : Tryz.prog.underlying T = some (.map 9 E)) {w0 : World} {mb : Nat} {L : List (List UInt8 × Value)} (h : WordsAt w0 w mb L) (k : List UInt8) (val : Value) (hk : k.length ≤ 1000) (hn : (L.map (·.1)).contains k = false)
    (hm : a.eval m = .map (some mb)) (hx : a.eval x = strV k) (hv : a.eval v = val) (hK : ∀ w', WordsAt w0 w' mb (L ++ [(k, val)]) → wpList Tryz.prog ops Q rest (a.put o.dst undef) w') : wpList Tryz.prog ops Q (o :: rest) a w := by
  refine wpList_plain hg fun K' hK' => ?_
  obtain ⟨w', hrun, h1⟩ := words_put hT h k hk val (fun p hp e => by
    have : (L.map (·.1)).contains k = true := List.contains_iff_mem.2 (List.mem_map.2 ⟨p, hp, e⟩)
    rw [hn] at this
    cases this)
  unfold Oper.wp
  simp [execOp, hop, hm, hx, hv, hrun, Result.andThen]
  exact hK' _ _ (hK w' h1)
end

def fnV (f : FuncId) : Value := .func (.func f) #[] #[]
def aloneTab : List (List UInt8 × Value) := [([116, 117, 114, 110, 101, 100], fnV 133), ([110, 101, 120, 116], fnV 134), ([98, 101, 102, 111, 114, 101], fnV 135), ([115, 104, 111, 119], fnV 136), ([98, 108, 111, 99, 107, 115], fnV 137), ([116, 121, 112, 101], fnV 138), ([115, 105, 122, 101], fnV 139), ([114, 97, 110, 107], fnV 140), ([109, 101, 114, 103, 101, 115], fnV 141), ([115, 112, 108, 105, 116, 115], fnV 142), ([99, 104, 97, 105, 110, 115], fnV 143), ([112, 108, 97, 99, 101], fnV 144), ([97, 114, 99, 115], fnV 145), ([99, 114, 111, 115, 115], fnV 146), ([110, 101, 115, 116], fnV 147), ([102, 97, 114], fnV 148), ([114, 105, 110, 103], fnV 149), ([99, 111, 117, 110, 116], fnV 150), ([112, 97, 105, 114, 115], fnV 151)]
def numTab : List (List UInt8 × Value) := [([112, 97, 114, 116], .agg #[.int .i64 0, fnV 114]), ([107, 101, 114, 110, 101, 108], .agg #[.int .i64 0, fnV 115]), ([97, 116], .agg #[.int .i64 2, fnV 116]), ([112, 117, 116], .agg #[.int .i64 1, fnV 117]), ([100, 114, 111, 112], .agg #[.int .i64 1, fnV 118]), ([109, 101, 101, 116], .agg #[.int .i64 0, fnV 119]), ([106, 111, 105, 110], .agg #[.int .i64 0, fnV 120]), ([114, 105, 110, 103, 115], .agg #[.int .i64 0, fnV 121]), ([102, 105, 110, 101, 114], .agg #[.int .i64 0, fnV 122]), ([115, 105, 103, 110], .agg #[.int .i64 0, fnV 123]), ([105, 110, 110, 101, 114], .agg #[.int .i64 0, fnV 124]), ([113, 117, 97, 114, 114, 101, 108], .agg #[.int .i64 0, fnV 125]), ([112, 97, 116, 104], .agg #[.int .i64 0, fnV 126]), ([109, 111, 118, 101, 115], .agg #[.int .i64 0, fnV 127]), ([110, 117, 109, 98, 101, 114], .agg #[.int .i64 2, fnV 128]), ([97, 108, 108], .agg #[.int .i64 1, fnV 129]), ([112, 108, 97, 105, 110], .agg #[.int .i64 1, fnV 130])]

set_option maxHeartbeats 4000000 in
theorem wordsAlone_v (w : World) : Calls Tryz.prog 73 #[] w fun e w' => ∃ mb, e = .returned (.map (some mb)) ∧ WordsAt w w' mb aloneTab := by
  have hmm := @run_makeMap Tryz.prog
  have hW0 := words_new w
  go_enter Tryz.func73, Tryz.ntmps73
  go_wp2_with (refine wpList_wordPut rfl _ _ _ _ rfl Tryz.underlying106 hW0 _ _ (by decide) (by rfl) rfl rfl rfl ?_; clear hW0; intro w9 hW0)
  go_ret
  exact ⟨_, rfl, hW0⟩
end

section
open Go.RowKit

set_option maxHeartbeats 4000000 in
theorem wordsWith_v (w : World) : Calls Tryz.prog 71 #[] w fun e w' => ∃ mb, e = .returned (.map (some mb)) ∧ WordsAt w w' mb numTab := by
  have hmm := @run_makeMap Tryz.prog
  have hW0 := words_new w
  go_enter Tryz.func71, Tryz.ntmps71
  go_wp2_with (refine wpList_wordPut rfl _ _ _ _ rfl Tryz.underlying101 hW0 _ _ (by decide) (by rfl) rfl rfl rfl ?_; clear hW0; intro w9 hW0)
  go_ret
  exact ⟨_, rfl, hW0⟩
end

section
open Go.RowKit

def badV (t : List UInt8) : Value := .iface 73 (.agg #[strV t])
def noT : List UInt8 := [110, 111]
def Bad (w : World) (t : List UInt8) (e : Ending) (w' : World) : Prop := e = .panicked [{ v := badV t, recovered := false }] ∧ Below w.heap.size w w'

def NumOut (w : World) (l : List UInt8) (e : Ending) (w' : World) : Prop := (okNum l = true ∧ GivesI w (valFrom 0 l) e w') ∨ (okNum l = false ∧ Bad w noT e w')
end

end Go.Proofs.YtmflecemkodklaaGreatDoor
