/-
  The contracts of slices.Concat and PartDrop (impl and spec).
-/
import Derived.Test.YtabgadmdjpohaaaConcat
import Derived.Deep.RegionHeld3
namespace Go.Proofs.Ytabgadmdjpohaaa
set_option linter.unusedSimpArgs false
set_option linter.unusedVariables false
set_option linter.unnecessarySimpa false
open Go.RowKit

def dropAt (xs : List Int) (i : Nat) : List Int := xs.take i ++ xs.drop (i + 1)
def partDrop (xs : List Int) (i : Int) : List Int × Bool := if partIn xs ∧ xs.length ≠ 1 ∧ 0 ≤ i ∧ i < xs.length then (kOut (dropAt xs i.toNat), true) else ([], false)

theorem dropAt_length (xs : List Int) (i : Nat) (h : i < xs.length) : (dropAt xs i).length = xs.length - 1 := by simp [dropAt]; omega

theorem partDrop_len (xs : List Int) (i : Int) (h : xs.length ≤ 1048576) : (partDrop xs i).1.length ≤ 2305843009213693952 := by
  unfold partDrop
  split
  · rw [kOut_length, dropAt]; simp; omega
  · simp

theorem cells_drew {w : World} {ad : Addr} {xs : List Int} (h : ∀ j, j < xs.length → w.cell? (ad.add j) = some (.int .i64 (xs.getD j 0))) : ∀ j, j < xs.length → w.drew.cell? (ad.add j) = some (.int .i64 (xs.getD j 0)) := h

theorem cells_take {w : World} {b off : Nat} {xs : List Int} (i : Nat) (h : ∀ j, j < xs.length → w.cell? ⟨b, off + j, none⟩ = some (.int .i64 (xs.getD j 0))) : ∀ j, j < (xs.take i).length → w.cell? ⟨b, off + j, none⟩ = some (.int .i64 ((xs.take i).getD j 0)) := by
  intro j hj
  have h1 : j < i ∧ j < xs.length := by simp at hj; omega
  rw [h j h1.2]
  simp [List.getD, List.getElem?_take, h1.1]

theorem cells_drop {w w' : World} {b off i : Nat} {xs : List Int} (hb : Below w.heap.size w w') (h : ∀ j, j < xs.length → w.cell? ⟨b, off + j, none⟩ = some (.int .i64 (xs.getD j 0))) : ∀ j, j < (xs.drop i).length → w'.cell? ((⟨b, off + i, none⟩ : Addr).add j) = some (.int .i64 ((xs.drop i).getD j 0)) := by
  intro j hj
  have h1 : i + j < xs.length := by simp at hj; omega
  have := h (i + j) h1
  rw [Addr.add_lit, Nat.add_assoc, hb.cell (World.block_lt_of_cell? w _ this), this]
  simp [List.getD]

theorem drop_below {w w2 : World} {o : Obj} (h : (w.alloc o).drew.grownBy w2 (some w.heap.size)) : Below w.heap.size w w2 :=
  (((Below.refl _ w).alloc (Nat.le_refl _) o).drew).grown h (by simp [World.drew]) (fun q hq => by cases hq; exact Nat.le_refl _)

set_option maxRecDepth 100000 in
set_option maxHeartbeats 1000000 in
theorem sPartDrop_v (v : Value) (xs : List Int) (i : Int) (w : World) (hv : RdV w v xs) (_ : (Lit.int .i64 i).wf = true) : Calls Try.prog 33 #[v, .int .i64 i] w (FreshLB w (partDrop xs i)) := by
  have hv0 := hv
  obtain ⟨ao, ca, rfl, h, h1, h2⟩ := hv
  unfold maxLen at h2
  have HV := Lib.hid hv0
  clear hv0
  by_cases hp : partIn xs = true
  · have hl := partIn_len hp
    have HP := Lib.hid hp
    have HX := Lib.hid h
    clear h
    obtain ⟨hl1, hl8⟩ := hl
    by_cases h8 : xs.length = 1
    · have hr : partDrop xs i = ([], false) := by simp [partDrop, h8]
      rw [hr]
      have hb : ((xs.length : Int) == 1) = true := by simp [h8]
      clear hp hr h8
      go_enter Try.func33, Try.ntmps33
      go_wp2_with fail
      refine (sPartIn_is true _ _ _ HV.out HP).mono ?_
      rintro e w' ⟨rfl, rfl⟩
      go_wp2
      go_ret2
      exact ⟨_, rfl, own_empty _ _ (Nat.le_refl _), (Below.refl _ _).alloc (Nat.le_refl _) _⟩
    · have hb : ((xs.length : Int) == 1) = false := by simp; omega
      by_cases hk : 0 ≤ i ∧ i < xs.length
      · have hr : partDrop xs i = (kOut (dropAt xs i.toNat), true) := by simp [partDrop, h8, hp, hk]
        rw [hr]
        obtain ⟨i, rfl⟩ := Int.eq_ofNat_of_zero_le hk.1
        rw [Int.toNat_natCast]
        rcases HX.out with hx | ⟨bb, off, rfl, hcx⟩
        · rw [hx] at hl1
          simp at hl1
        have HC := Lib.hid hcx
        clear hp hr h8 hcx
        have hin : i < xs.length := by omega
        have b1 : (0 : Int) ≤ (i : Int) := by omega
        have b2 : (i : Int) ≤ (ca : Int) := by omega
        have b3 : (i : Int) + 1 ≤ (xs.length : Int) := by omega
        have b4 : (0 : Int) ≤ (i : Int) + 1 := by omega
        have b5 : (xs.length : Int) ≤ (ca : Int) := by omega
        have b6 : IntKind.i64.wrap ((i : Int) + 1) = (i : Int) + 1 := IntWalk.i64_in _ (by omega)
        have b7 : ((i : Int) + 1).toNat = i + 1 := by omega
        by_cases hcap : ca = i + 1
        · have hlen : xs.length = i + 1 := by omega
          have HLEN := Lib.hid hlen
          clear hlen
          subst hcap
          have b2' : (i : Int) ≤ (i : Int) + 1 := by omega
          have b5' : (xs.length : Int) ≤ (i : Int) + 1 := by omega
          go_enter Try.func33, Try.ntmps33
          go_wp2_with fail
          refine (sPartIn_is true _ _ _ HV.out HP).mono ?_
          rintro e w' ⟨rfl, rfl⟩
          go_wp2_with fail
          refine (l6In_yes _ _ _ _ (by omega) (by omega)).mono ?_
          rintro e w' ⟨rfl, rfl⟩
          go_wp2_with fail
          go_region_held3 (fun w' => True) (trivial) (first | (go_at_call 63; refine (l1Kernel_v _ _ _ HO3.out (by rw [← dropAt, dropAt_length _ _ hin]; omega)).mono ?_; rintro e w4 ⟨u, rfl, ho4, hb4⟩) | (refine step_cat rfl _ _ (by rfl) w.heap.size w.heap.size 0 0 [] (by rfl) (own_empty w _ (Nat.le_refl _)) rfl ⟨bb, off, none⟩ i _ (by rfl) (xs.take i) (by simp; omega) (cells_drew (cells_alloc _ (cells_take _ HC.out))) (by omega) (by simp) i (by omega) ?_; intro g' cap' w2 hown2 hgr2 hg2; have hbel2 := drop_below hgr2; rw [List.nil_append] at hown2; have HO2 := Lib.hid hown2; clear hown2 hgr2 hg2) | (refine step_cat rfl _ _ (by rfl) w.heap.size g' i cap' (xs.take i) (by rfl) HO2.out (by simp; omega) ⟨bb, off, none⟩ 0 _ (by rfl) (xs.drop (i + 1)) (by have := HLEN.out; simp; omega) (fun j hj => by have := HLEN.out; simp at hj; omega) (by omega) hbel2.size (xs.length - 1) (by have := HLEN.out; omega) ?_; intro g3 cap3 w3 hown3 hgr3 hg3; have hbel3 := hbel2.grown hgr3 hbel2.size (fun q hq => by cases hq; exact (own_lt HO2.out g' rfl).1); have HO3 := Lib.hid (own_rdv hown3); clear hown3 hgr3 hg3))
          go_wp2
          go_ret2
          exact ⟨_, rfl, own_mono ho4 hbel3.size, below_step hbel3 hb4⟩
        · go_enter Try.func33, Try.ntmps33
          go_wp2_with fail
          refine (sPartIn_is true _ _ _ HV.out HP).mono ?_
          rintro e w' ⟨rfl, rfl⟩
          go_wp2_with fail
          refine (l6In_yes _ _ _ _ (by omega) (by omega)).mono ?_
          rintro e w' ⟨rfl, rfl⟩
          go_wp2_with fail
          go_region_held3 (fun w' => True) (trivial) (first | (go_at_call 63; refine (l1Kernel_v _ _ _ HO3.out (by rw [← dropAt, dropAt_length _ _ hin]; omega)).mono ?_; rintro e w4 ⟨u, rfl, ho4, hb4⟩) | (refine step_cat rfl _ _ (by rfl) w.heap.size w.heap.size 0 0 [] (by rfl) (own_empty w _ (Nat.le_refl _)) rfl ⟨bb, off, none⟩ i _ (by rfl) (xs.take i) (by simp; omega) (cells_drew (cells_alloc _ (cells_take _ HC.out))) (by omega) (by simp) i (by omega) ?_; intro g' cap' w2 hown2 hgr2 hg2; have hbel2 := drop_below hgr2; rw [List.nil_append] at hown2; have HO2 := Lib.hid hown2; clear hown2 hgr2 hg2) | (refine step_cat rfl _ _ (by rfl) w.heap.size g' i cap' (xs.take i) (by rfl) HO2.out (by simp; omega) ⟨bb, off + (i + 1), none⟩ (xs.length - (i + 1)) _ (by rfl) (xs.drop (i + 1)) (by simp) (cells_drop hbel2 HC.out) (by omega) hbel2.size (xs.length - 1) (by omega) ?_; intro g3 cap3 w3 hown3 hgr3 hg3; have hbel3 := hbel2.grown hgr3 hbel2.size (fun q hq => by cases hq; exact (own_lt HO2.out g' rfl).1); have HO3 := Lib.hid (own_rdv hown3); clear hown3 hgr3 hg3))
          go_wp2
          go_ret2
          exact ⟨_, rfl, own_mono ho4 hbel3.size, below_step hbel3 hb4⟩
      · have hr : partDrop xs i = ([], false) := by simp only [partDrop]; rw [if_neg (by omega)]
        rw [hr]
        clear hp hr h8
        go_enter Try.func33, Try.ntmps33
        go_wp2_with fail
        refine (sPartIn_is true _ _ _ HV.out HP).mono ?_
        rintro e w' ⟨rfl, rfl⟩
        go_wp2_with fail
        refine (l6In_no _ _ _ _ (by omega)).mono ?_
        rintro e w' ⟨rfl, rfl⟩
        go_wp2
        go_ret2
        exact ⟨_, rfl, own_empty _ _ (Nat.le_refl _), (Below.refl _ _).alloc (Nat.le_refl _) _⟩
  · have hp : partIn xs = false := by simpa using hp
    have hr : partDrop xs i = ([], false) := by simp [partDrop, hp]
    rw [hr]
    have HP := Lib.hid hp
    clear hp hr h
    go_enter Try.func33, Try.ntmps33
    go_wp2_with fail
    refine (sPartIn_is false _ _ _ HV.out HP).mono ?_
    rintro e w' ⟨rfl, rfl⟩
    go_wp2
    go_ret2
    exact ⟨_, rfl, own_empty _ _ (Nat.le_refl _), (Below.refl _ _).alloc (Nat.le_refl _) _⟩

theorem cell_two0 (w : World) (x y : Value) (t : TypeId) : (w.alloc (.cells #[x, y] t)).drew.cell? ⟨w.heap.size, 0, none⟩ = some x := by simp
theorem cell_two1 (w : World) (x y : Value) (t : TypeId) : (w.alloc (.cells #[x, y] t)).drew.cell? ⟨w.heap.size, 1, none⟩ = some y := by simp

theorem cells_drop_lit {w : World} {b off i : Nat} {xs : List Int} (h : ∀ j, j < xs.length → w.cell? ⟨b, off + j, none⟩ = some (.int .i64 (xs.getD j 0))) : ∀ j, j < (xs.drop i).length → w.cell? ⟨b, off + i + j, none⟩ = some (.int .i64 ((xs.drop i).getD j 0)) := by
  intro j hj
  have := cells_drop (i := i) (Below.refl _ _) h j hj
  rwa [Addr.add_lit] at this

set_option maxRecDepth 100000 in
set_option maxHeartbeats 1000000 in
theorem iPartDrop_v (v : Value) (xs : List Int) (i : Int) (w : World) (hv : RdV w v xs) (_ : (Lit.int .i64 i).wf = true) : Calls Try.prog 32 #[v, .int .i64 i] w (FreshLB w (partDrop xs i)) := by
  have hv0 := hv
  obtain ⟨ao, ca, rfl, h, h1, h2⟩ := hv
  unfold maxLen at h2
  have HV := Lib.hid hv0
  clear hv0
  by_cases hp : partIn xs = true
  · have hl := partIn_len hp
    have HP := Lib.hid hp
    have HX := Lib.hid h
    clear h
    obtain ⟨hl1, hl8⟩ := hl
    by_cases hk : 0 ≤ i ∧ i < xs.length
    · by_cases h8 : xs.length = 1
      · have hr : partDrop xs i = ([], false) := by simp [partDrop, h8]
        rw [hr]
        have hb : ((xs.length : Int) == 1) = true := by simp [h8]
        clear hp hr h8
        go_enter Try.func32, Try.ntmps32
        go_wp2_with fail
        refine (iPartIn_is true _ _ _ HV.out HP).mono ?_
        rintro e w' ⟨rfl, rfl⟩
        go_wp2_with fail
        refine (isThing_yes _ _ _ hk.1 hk.2).mono ?_
        rintro e w' ⟨rfl, rfl⟩
        go_wp2
        go_ret2
        exact ⟨_, rfl, own_nil _ _, Below.refl _ _⟩
      · have hb : ((xs.length : Int) == 1) = false := by simp; omega
        have hr : partDrop xs i = (kOut (dropAt xs i.toNat), true) := by simp [partDrop, h8, hp, hk]
        rw [hr]
        obtain ⟨i, rfl⟩ := Int.eq_ofNat_of_zero_le hk.1
        rw [Int.toNat_natCast]
        rcases HX.out with hx | ⟨bb, off, rfl, hcx⟩
        · rw [hx] at hl1
          simp at hl1
        have HC := Lib.hid hcx
        clear hp hr h8 hcx
        have hin : i < xs.length := by omega
        have h2l : 2 ≤ xs.length := by have := hb; simp at this; omega
        have b1 : (0 : Int) ≤ (i : Int) := by omega
        have b2 : (i : Int) ≤ (ca : Int) := by omega
        have b3 : (i : Int) + 1 ≤ (xs.length : Int) := by omega
        have b4 : (0 : Int) ≤ (i : Int) + 1 := by omega
        have b5 : (xs.length : Int) ≤ (ca : Int) := by omega
        have b6 : IntKind.i64.wrap ((i : Int) + 1) = (i : Int) + 1 := IntWalk.i64_in _ (by omega)
        have b7 : ((i : Int) + 1).toNat = i + 1 := by omega
        by_cases hcap : ca = i + 1
        · have hlen : xs.length = i + 1 := by omega
          have HLEN := Lib.hid hlen
          clear hlen
          subst hcap
          have b2' : (i : Int) ≤ (i : Int) + 1 := by omega
          have b5' : (xs.length : Int) ≤ (i : Int) + 1 := by omega
          go_enter Try.func32, Try.ntmps32
          go_wp2_with fail
          refine (iPartIn_is true _ _ _ HV.out HP).mono ?_
          rintro e w' ⟨rfl, rfl⟩
          go_wp2_with fail
          refine (isThing_yes _ _ _ hk.1 hk.2).mono ?_
          rintro e w' ⟨rfl, rfl⟩
          go_wp2_with fail
          go_region_held3 (fun w' => True) (trivial) (first | (go_at_call 76; refine (slicesConcat_any _ ⟨bb, off, none⟩ ⟨bb, off, none⟩ _ _ i 0 (xs.take i) (xs.drop (i + 1)) _ (by simp; omega) (by have := HLEN.out; simp; omega) (by have := HLEN.out; omega) (by omega) (cell_two0 _ _ _ _) (cell_two1 _ _ _ _) (cells_drew (cells_alloc _ (cells_take _ HC.out))) (fun j hj => by have := HLEN.out; simp at hj; omega)).mono ?_; rintro e w1 ⟨u, rfl, ho, hb1⟩))
          have hbel : Below w.heap.size w w1 := below_step (((Below.refl _ w).alloc (Nat.le_refl _) _).drew) hb1
          have HRD := Lib.hid (own_rdv ho)
          clear ho hb1
          go_wp2_with fail
          refine (kernel_v _ _ _ HRD.out (by rw [← dropAt, dropAt_length _ _ hin]; omega)).mono ?_
          rintro e w4 ⟨u4, rfl, ho4, hb4⟩
          go_wp2
          go_ret2
          exact ⟨_, rfl, own_mono ho4 hbel.size, below_step hbel hb4⟩
        · go_enter Try.func32, Try.ntmps32
          go_wp2_with fail
          refine (iPartIn_is true _ _ _ HV.out HP).mono ?_
          rintro e w' ⟨rfl, rfl⟩
          go_wp2_with fail
          refine (isThing_yes _ _ _ hk.1 hk.2).mono ?_
          rintro e w' ⟨rfl, rfl⟩
          go_wp2_with fail
          go_region_held3 (fun w' => True) (trivial) (first | (go_at_call 76; refine (slicesConcat_any _ ⟨bb, off, none⟩ ⟨bb, off + (i + 1), none⟩ _ _ i (xs.length - (i + 1)) (xs.take i) (xs.drop (i + 1)) _ (by simp; omega) (by simp) (by omega) (by omega) (cell_two0 _ _ _ _) (cell_two1 _ _ _ _) (cells_drew (cells_alloc _ (cells_take _ HC.out))) (cells_drew (cells_alloc _ (cells_drop_lit HC.out)))).mono ?_; rintro e w1 ⟨u, rfl, ho, hb1⟩))
          have hbel : Below w.heap.size w w1 := below_step (((Below.refl _ w).alloc (Nat.le_refl _) _).drew) hb1
          have HRD := Lib.hid (own_rdv ho)
          clear ho hb1
          go_wp2_with fail
          refine (kernel_v _ _ _ HRD.out (by rw [← dropAt, dropAt_length _ _ hin]; omega)).mono ?_
          rintro e w4 ⟨u4, rfl, ho4, hb4⟩
          go_wp2
          go_ret2
          exact ⟨_, rfl, own_mono ho4 hbel.size, below_step hbel hb4⟩
    · have hr : partDrop xs i = ([], false) := by simp only [partDrop]; rw [if_neg (by omega)]
      rw [hr]
      clear hp hr
      go_enter Try.func32, Try.ntmps32
      go_wp2_with fail
      refine (iPartIn_is true _ _ _ HV.out HP).mono ?_
      rintro e w' ⟨rfl, rfl⟩
      go_wp2_with fail
      refine (isThing_no _ _ _ (by omega)).mono ?_
      rintro e w' ⟨rfl, rfl⟩
      go_wp2
      go_ret2
      exact ⟨_, rfl, own_nil _ _, Below.refl _ _⟩
  · have hp : partIn xs = false := by simpa using hp
    have hr : partDrop xs i = ([], false) := by simp [partDrop, hp]
    rw [hr]
    have HP := Lib.hid hp
    clear hp hr h
    go_enter Try.func32, Try.ntmps32
    go_wp2_with fail
    refine (iPartIn_is false _ _ _ HV.out HP).mono ?_
    rintro e w' ⟨rfl, rfl⟩
    go_wp2
    go_ret2
    exact ⟨_, rfl, own_nil _ _, Below.refl _ _⟩

end Go.Proofs.Ytabgadmdjpohaaa
