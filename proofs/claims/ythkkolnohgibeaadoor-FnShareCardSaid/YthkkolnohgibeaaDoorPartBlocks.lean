/-
  The contract of impl.PartBlocks, given what the table of bits.TrailingZeros holds.
-/
import Derived.Test.YthkkolnohgibeaaDoorIter
import Derived.Test.YthkkolnohgibeaaDoorRowsCat
import Derived.Test.YthkkolnohgibeaaDoorBlocksOf
namespace Go.Proofs.YthkkolnohgibeaaDoor
set_option linter.unusedSimpArgs false
set_option linter.unusedVariables false
set_option linter.unnecessarySimpa false
open Go.RowKit
set_option maxRecDepth 100000

theorem bits_or : ∀ k : Nat, k < 8 → ∀ m : Nat, m < 2 ^ k → bitsL (m ||| 2 ^ k) = bitsL m ++ [(k : Int)] ∧ m ||| 2 ^ k < 2 ^ (k + 1) := by decide +kernel
theorem bits_mask (xs : List Int) (b : Nat) : ∀ k, k ≤ 8 → bitsL (maskAt xs b k) = blkAt xs b k ∧ maskAt xs b k < 2 ^ k
  | 0, _ => ⟨by unfold maskAt blkAt; decide, by unfold maskAt; decide⟩
  | k + 1, h => by
    obtain ⟨h1, h2⟩ := bits_mask xs b k (by omega)
    have h3 := bits_or k (by omega) _ h2
    have h4 : 2 ^ k ≤ 2 ^ (k + 1) := Nat.pow_le_pow_right (by omega) (by omega)
    unfold maskAt blkAt
    split
    · rw [h3.1, h1]
      exact ⟨rfl, h3.2⟩
    · exact ⟨h1, by omega⟩

theorem partBlocks_len (xs : List Int) (h : xs.length ≤ 1048576) : (partBlocks xs).1.length ≤ 1000000 ∧ total (partBlocks xs).1 ≤ 1000000 := by
  unfold partBlocks
  split
  · rename_i hp
    have hl := partIn_len hp
    have hbd := pSize_bd (partIn_small hp)
    obtain ⟨p, hpe⟩ : ∃ p : Nat, p = (pSize xs).toNat := ⟨_, rfl⟩
    have hp8 : p ≤ 8 := by omega
    rw [← hpe]
    show (blocksTo xs p).length ≤ 1000000 ∧ total (blocksTo xs p) ≤ 1000000
    refine ⟨by rw [blocksTo_length]; omega, ?_⟩
    have : ∀ l : List (List Int), (∀ r ∈ l, r.length ≤ 8) → total l ≤ 8 * l.length := by
      intro l
      induction l with
      | nil => intro _; simp [total]
      | cons r l ih =>
        intro h
        have h1 := ih fun s hs => h s (by simp [hs])
        have h2 := h r (by simp)
        simp [total] at h1 ⊢
        omega
    have h2 := this (blocksTo xs p) (fun r hr => by
      obtain ⟨b, _, rfl⟩ := List.mem_map.1 hr
      rw [blkAt_length]
      have := cntAt_le xs b xs.length
      omega)
    rw [blocksTo_length] at h2
    omega
  · simp [total]

set_option maxHeartbeats 3200000 in
theorem iPartBlocks_v (v : Value) (xs : List Int) (w : World) (hT : Tab w) (hv : RdV w v xs) : Calls Tryd.prog 15 #[v] w (FreshMB w (partBlocks xs)) := by
  have HV := Lib.hid hv
  clear hv
  by_cases hp : partIn xs = true
  · have hr : partBlocks xs = (blocksTo xs (pSize xs).toNat, true) := by simp [partBlocks, hp]
    have hl := partIn_len hp
    have hsm := partIn_small hp
    have hbd := pSize_bd hsm
    have hpos := pSize_pos hsm hl.1
    obtain ⟨p, hps⟩ := Int.eq_ofNat_of_zero_le hbd.1
    rw [hps, Int.toNat_natCast] at hr
    rw [hr]
    rw [hps] at hbd hpos
    have HPS := Lib.hid hps
    have HSM := Lib.hid hsm
    have HP := Lib.hid hp
    clear hr hp hps hsm
    obtain ⟨i0, hi, hz0, hz1, hz2⟩ := info_parts Tryd.infoInts
    obtain ⟨hl1, hl8⟩ := hl
    have hp1 : 1 ≤ p := by omega
    go_enter Tryd.func15, Tryd.ntmps15
    go_wp2_with fail
    refine (iPartIn_is true _ _ _ HV.out HP).mono ?_
    rintro e w' ⟨rfl, rfl⟩
    go_wp2_with fail
    refine (blockCount_v _ xs _ HV.out hl1 HSM.out).mono ?_
    rintro e w' ⟨rfl, rfl⟩
    rw [HPS.out]
    go_wp2_with (at_make; refine wpList_make_own _ rfl _ _ 32 rfl w.heap.size 23 i0 (.slice none 0 0) 1 Tryd.underlying32 hi hz0 hz1 _ _ _ p rfl rfl rfl (by rw [hz2]; omega) (by unfold maxLen; omega) (Nat.le_refl _) ?_)
    intro w1 hown1 hgrow1
    have hb1 : Below w.heap.size w w1 := (Below.refl _ _).grown hgrow1 (Nat.le_refl _) (fun k h => by cases h)
    have hin1 := World.ownsRow.lt hown1
    have hs12 : w.heap.size < w1.heap.size := (hin1 _ rfl).2
    have HO1 := Lib.hid (show OwnM w1 w.heap.size w1.heap.size (.slice (some ⟨w.heap.size, 0, none⟩) 0 p) [] from ⟨[], rfl, hown1, hin1, fun i hi => by simp at hi, fun i j _ hj => by simp at hj⟩)
    clear hown1 hgrow1 hin1
    go_wp2_with fail
    refine (blocksOf_v _ xs p _ (rdv_below HV.out hb1) HP.out HPS.out).mono ?_
    rintro e w2 ⟨rfl, hu2, hb2⟩
    have hbel2 := below_step hb1 hb2
    have HO2 := Lib.hid (ownM_below HO1.out hb2)
    have HU := Lib.hid hu2
    have hs2 : w1.heap.size < w2.heap.size := (World.ownsRow.lt HU.out _ rfl).2
    have hT2 := tab_below hT hbel2
    clear hu2 hb2 hb1
    go_wp2
    go_loopw [4, 16] (fun u i wr => ∃ k g cap S : Nat, k ≤ p ∧ i = .int .i64 k ∧ u = .slice (some ⟨g, 0, none⟩) k cap ∧ OwnM wr w.heap.size S (.slice (some ⟨g, 0, none⟩) k cap) (blocksTo xs k) ∧ OwnU wr w1.heap.size (.slice (some ⟨w1.heap.size, 0, none⟩) p p) (masks xs xs.length p) ∧ g ≠ w1.heap.size ∧ w.heap.size ≤ S ∧ S ≤ wr.heap.size ∧ Below w.heap.size w wr)
      (fun _ i _ => p - (intOf i).toNat)
    case atStart => exact ⟨0, w.heap.size, p, w1.heap.size, Nat.zero_le _, rfl, rfl, HO2.out, HU.out, by omega, by omega, by omega, hbel2⟩
    case round =>
      obtain ⟨k, g, cap, S, hk, rfl, rfl, hown, hu, hg, hS1, hS2, hbel⟩ := hrel
      by_cases hlt : k < p
      · have hml : (masks xs xs.length p).length = p := by simp [masks]
        have hcm := ownU_cell hu hml.symm k (by omega)
        have hgm : (masks xs xs.length p).getD k 0 = maskAt xs k xs.length := by simp [masks, List.getD, hlt]
        rw [hgm] at hcm
        have hm256 := maskAt_256 xs k xs.length (by omega)
        have hbm := (bits_mask xs k xs.length hl8).1
        have hbs := blocksTo_succ xs k
        obtain ⟨m, hm⟩ : ∃ m, m = maskAt xs k xs.length := ⟨_, rfl⟩
        rw [← hm] at hcm hm256 hbm
        rw [← hbm] at hbs
        have HBS := Lib.hid hbs
        have HO := Lib.hid hown
        have HUr := Lib.hid hu
        have HL := Lib.hid (list_any m wr (tab_below hT hbel) hm256)
        have HML := Lib.hid hml
        clear hml hgm hbm hbs hm hown hu
        go_wp2_with fail
        refine HL.out.mono ?_
        rintro e w3 ⟨u, rfl, hou, hb3⟩
        obtain ⟨ua, uc, rfl, _⟩ := own_rd hou
        obtain ⟨ul, hul⟩ : ∃ ul, ul = (bitsL m).length := ⟨_, rfl⟩
        rw [← hul] at hou ⊢
        clear hul
        have hiu := inB_of_own hou
        have HOU := Lib.hid (own_mono hou hbel.size)
        have HO3 := Lib.hid (ownM_below HO.out hb3)
        have HU3 := Lib.hid (ownU_below HUr.out hb3)
        have hbel3 := below_step hbel hb3
        have hsz3 := hb3.size
        have hB3 := hbel3.size
        clear hou hb3
        go_wp2_with (at_builtin; refine wpList_pushM rfl _ _ rfl w.heap.size S g k cap (blocksTo xs k) rfl (ownM_below HO3.out (by exact (Below.refl _ _).alloc (Nat.le_refl _) _)) (by rw [blocksTo_length]) ⟨w3.heap.size, 0, none⟩ rfl (.slice ua ul uc) (bitsL m) (cell_new1 _ _ _) (own_alloc HOU.out _) (fun q hq => by have := hiu q hq; simp; omega) hS1 (by simp; omega) (by omega) (k + 1) rfl ?_)
        intro g' cap' w4 hown4 hgr4
        rw [← HBS.out] at hown4
        have hu4 : OwnU w4 w1.heap.size (.slice (some ⟨w1.heap.size, 0, none⟩) p p) (masks xs xs.length p) :=
          World.ownsRow.kept (World.ownsRow.alloc HU3.out _) hgr4 (.inr (by simp [Value.ownBlock]; omega))
        have hg' : g' ≠ w1.heap.size := by
          intro e
          subst e
          obtain ⟨z, hz, hoz, _⟩ := ownM_cell hown4 0 (by rw [blocksTo_length]; omega)
          obtain ⟨zo, zc, rfl, _⟩ := own_rd hoz
          have h0 := ownU_cell hu4 HML.out.symm 0 (by rw [HML.out]; omega)
          rw [hz] at h0
          cases h0
        have hgw : w.heap.size ≤ g := by
          obtain ⟨vs, _, ho, hib, _⟩ := HO3.out
          exact (hib g rfl).1
        have hbel4 : Below w.heap.size w w4 := (hbel3.alloc hB3 _).grown hgr4 (by simp; omega) (fun q hq => by cases hq; exact hgw)
        have HO4 := Lib.hid hown4
        have HU4 := Lib.hid hu4
        have hB4 := hbel4.size
        clear hown4 hgr4 hu4
        go_wp2
        go_roundw
        case rel => exact ⟨k + 1, g', cap', w4.heap.size, by omega, by go_num, rfl, HO4.out, HU4.out, hg', hB4, Nat.le_refl _, hbel4⟩
        case measure => simp [intOf]; omega
      · have hkp : k = p := by omega
        subst hkp
        have HO := Lib.hid hown
        have HB := Lib.hid hbel
        clear hown hu hbel
        go_wp2
        go_ret2
        exact ⟨_, rfl, ownM_mono HO.out (Nat.le_refl _) hS2, HB.out⟩
  · have hp : partIn xs = false := by simpa using hp
    have hr : partBlocks xs = ([], false) := by simp [partBlocks, hp]
    rw [hr]
    have HP := Lib.hid hp
    clear hp hr
    go_enter Tryd.func15, Tryd.ntmps15
    go_wp2_with fail
    refine (iPartIn_is false _ _ _ HV.out HP).mono ?_
    rintro e w' ⟨rfl, rfl⟩
    go_wp2
    go_ret2
    exact ⟨_, rfl, ⟨[], rfl, World.ownsRow_nil _ _ _ _, fun k hk => by simp [Value.ownBlock] at hk, fun i hi => by simp at hi, fun i j _ hj => by simp at hj⟩, Below.refl _ _⟩

end Go.Proofs.YthkkolnohgibeaaDoor
