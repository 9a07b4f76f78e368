/-
  The contracts of RingTimes (spec) and RingSwap (impl and spec).
-/
import Derived.Test.YtdeeeiimlcggpaaDoorRing2
namespace Go.Proofs.YtdeeeiimlcggpaaDoor
set_option linter.unusedSimpArgs false
set_option linter.unusedVariables false
set_option linter.unnecessarySimpa false
set_option maxRecDepth 100000
open Go.RowKit

set_option maxHeartbeats 3200000 in
theorem sRingTimes_v (v u : Value) (xs ys : List Int) (w : World) (hv : RdV w v xs) (hu : RdV w u ys) : Calls Tryd.prog 28 #[v, u] w (FreshLB w (ringTimes xs ys)) := by
  have hv0 := hv
  obtain ⟨ao, ca, rfl, h, h1, h2⟩ := hv
  unfold maxLen at h2
  have HV := Lib.hid hv0
  clear hv0
  have hu0 := hu
  obtain ⟨bo, cb, rfl, hy, hy1, hy2⟩ := hu
  unfold maxLen at hy2
  have HU := Lib.hid hu0
  clear hu0
  by_cases hr : ringIn xs = true
  · have HR := Lib.hid hr
    obtain ⟨hl1, hl8, _, _, hrng⟩ := permOk_facts (show permOk xs.length xs = true from hr)
    by_cases hs : ringIn ys = true
    · have HS := Lib.hid hs
      by_cases hl : ys.length = xs.length
      · have hp : permOk xs.length ys = true := permOk_iff.2 ⟨hs, hl⟩
        have he : ringTimes xs ys = (prodL xs ys, true) := by simp [ringTimes, hr, hp]
        rw [he]
        rcases h with hx | ⟨bb, off, rfl, hcx⟩
        · rw [hx] at hl1
          simp at hl1
        rcases hy with hx | ⟨bc, off2, rfl, hcy⟩
        · rw [hx] at hl
          simp at hl
          omega
        have HRNG := Lib.hid hrng
        obtain ⟨n, hn⟩ : ∃ n, n = xs.length := ⟨_, rfl⟩
        rw [← hn] at hl h1 hl1 hl8 HV ⊢
        rw [hl] at HU hy1 ⊢
        have HN := Lib.hid hn
        have HYN := Lib.hid hl
        have HC := Lib.hid hcx
        have HCY := Lib.hid hcy
        clear hr he hn hcx hrng hp hcy hl hs
        go_enter Tryd.func28, Tryd.ntmps28
        go_wp2_with fail
        refine (sRingIn_is true _ xs _ HV.out HR).mono ?_
        rintro e w1 ⟨rfl, rfl⟩
        go_wp2_with fail
        refine (sRingIn_is true _ ys _ HU.out HS).mono ?_
        rintro e w1 ⟨rfl, rfl⟩
        go_wp2
        go_loopw [6, 7] (fun u i wr => ∃ k g cap : Nat, k ≤ n ∧ i = .int .i64 k ∧ u = .slice (some ⟨g, 0, none⟩) k cap ∧ Own wr w.heap.size (.slice (some ⟨g, 0, none⟩) k cap) ((prodL xs ys).take k) ∧ Below w.heap.size w wr)
          (fun _ i _ => n - (intOf i).toNat)
        case atStart => exact ⟨0, w.heap.size, 0, Nat.zero_le _, rfl, rfl, own_empty w _ (Nat.le_refl _), (Below.refl _ _).alloc (Nat.le_refl _) _⟩
        case round =>
          obtain ⟨k, g, cap, hk, rfl, rfl, hown, hbel⟩ := hrel
          by_cases hlt : k < n
          · have hck : wr.cell? ⟨bb, off + k, none⟩ = some (.int .i64 (xs.getD k 0)) := by
              have := HC.out k (by have := HN.out; omega)
              rw [hbel.cell (World.block_lt_of_cell? w _ this)]
              exact this
            obtain ⟨q, hq⟩ := Int.eq_ofNat_of_zero_le (HRNG.out k (by have := HN.out; omega)).1
            have hqn : q < n := by have h9 := HN.out; have := (HRNG.out k (by omega)).2; omega
            rw [hq] at hck
            have hcq : wr.cell? ⟨bc, off2 + q, none⟩ = some (.int .i64 (ys.getD q 0)) := by
              have := HCY.out q (by have := HYN.out; omega)
              rw [hbel.cell (World.block_lt_of_cell? w _ this)]
              exact this
            obtain ⟨y, hy⟩ : ∃ y, y = ys.getD q 0 := ⟨_, rfl⟩
            rw [← hy] at hcq
            have hts := take_snoc (prodL xs ys) k (by rw [prodL_length]; have := HN.out; omega)
            rw [prodL_getD _ _ _ (by have := HN.out; omega), hq, Int.toNat_natCast, ← hy] at hts
            have HTS := Lib.hid hts
            have HO := Lib.hid hown
            have hB := hbel.size
            have hkl : k = ((prodL xs ys).take k).length := by rw [List.length_take, prodL_length]; have := HN.out; omega
            have HKL := Lib.hid hkl
            clear hts hown hq hy hkl
            go_wp2_with (at_builtin; refine wpList_push rfl _ _ rfl w.heap.size g k cap ((prodL xs ys).take k) rfl (own_alloc HO.out _) HKL.out ⟨wr.heap.size, 0, none⟩ rfl y (cell_new1 _ _ _) (by omega) (by simp; omega) ?_)
            intro g' cap' w2 hown2 hgr2 hg2
            have hbel2 : Below w.heap.size w w2 := (hbel.alloc hB _).grown hgr2 (by simp; omega) (fun q hq => by cases hq; exact (own_lt HO.out g rfl).1)
            have HO2 := Lib.hid hown2
            clear hown2 hgr2 hg2
            go_wp2
            go_roundw
            case rel => exact ⟨k + 1, g', cap', by omega, by go_num, rfl, by rw [HTS.out]; exact HO2.out, hbel2⟩
            case measure => simp [intOf]; omega
          · have hkn : k = n := by omega
            subst hkn
            have hpl : k = (prodL xs ys).length := by rw [prodL_length, HN.out]
            rw [show (prodL xs ys).take k = prodL xs ys by rw [hpl]; simp] at hown
            have HO := Lib.hid hown
            clear hown hpl
            go_wp2
            go_ret2
            exact ⟨_, rfl, HO.out, hbel⟩
      · have hp : permOk xs.length ys = false := by
          cases hq : permOk xs.length ys
          · rfl
          · exact absurd (permOk_iff.1 hq).2 hl
        have he : ringTimes xs ys = ([], false) := by simp [ringTimes, hp]
        rw [he]
        have hb0 : ((xs.length : Int) == (ys.length : Int)) = false := by simp; omega
        have hb1 : ((xs.length : Int) != (ys.length : Int)) = true := by simp; omega
        clear hr hs hp he h hy hrng
        go_enter Tryd.func28, Tryd.ntmps28
        go_wp2_with fail
        refine (sRingIn_is true _ xs _ HV.out HR).mono ?_
        rintro e w1 ⟨rfl, rfl⟩
        go_wp2_with fail
        refine (sRingIn_is true _ ys _ HU.out HS).mono ?_
        rintro e w1 ⟨rfl, rfl⟩
        go_wp2
        go_ret2
        exact ⟨_, rfl, own_empty _ _ (Nat.le_refl _), (Below.refl _ _).alloc (Nat.le_refl _) _⟩
    · have hs : ringIn ys = false := by simpa using hs
      have HS := Lib.hid hs
      have hp : permOk xs.length ys = false := by
        cases hq : permOk xs.length ys
        · rfl
        · rw [(permOk_iff.1 hq).1] at hs; cases hs
      have he : ringTimes xs ys = ([], false) := by simp [ringTimes, hp]
      rw [he]
      clear hr hs hp he h hy hrng
      go_enter Tryd.func28, Tryd.ntmps28
      go_wp2_with fail
      refine (sRingIn_is true _ xs _ HV.out HR).mono ?_
      rintro e w1 ⟨rfl, rfl⟩
      go_wp2_with fail
      refine (sRingIn_is false _ ys _ HU.out HS).mono ?_
      rintro e w1 ⟨rfl, rfl⟩
      go_wp2
      go_ret2
      exact ⟨_, rfl, own_empty _ _ (Nat.le_refl _), (Below.refl _ _).alloc (Nat.le_refl _) _⟩
  · have hr : ringIn xs = false := by simpa using hr
    have HR := Lib.hid hr
    have he : ringTimes xs ys = ([], false) := by simp [ringTimes, hr]
    rw [he]
    clear hr he h hy
    go_enter Tryd.func28, Tryd.ntmps28
    go_wp2_with fail
    refine (sRingIn_is false _ xs _ HV.out HR).mono ?_
    rintro e w1 ⟨rfl, rfl⟩
    go_wp2
    go_ret2
    exact ⟨_, rfl, own_empty _ _ (Nat.le_refl _), (Below.refl _ _).alloc (Nat.le_refl _) _⟩

def ringSwap (xs : List Int) (i k : Int) : List Int × Bool :=
  if ringIn xs = true ∧ (0 ≤ i ∧ i < xs.length) ∧ (0 ≤ k ∧ k < xs.length) ∧ i ≠ k then (swapAt xs i.toNat k.toNat, true) else ([], false)

theorem ringSwap_len (xs : List Int) (i k : Int) (h : xs.length ≤ 1048576) : (ringSwap xs i k).1.length ≤ 2305843009213693952 := by
  unfold ringSwap
  split
  · rw [swapAt_length]; omega
  · simp

set_option maxHeartbeats 3200000 in
theorem iRingSwap_v (v : Value) (xs : List Int) (i k : Int) (w : World) (hE : ErrAt w) (hv : RdV w v xs) (_ : (Lit.int .i64 i).wf = true) (_ : (Lit.int .i64 k).wf = true) : Calls Tryd.prog 34 #[v, .int .i64 i, .int .i64 k] w (FreshLB w (ringSwap xs i k)) := by
  have hv0 := hv
  obtain ⟨ao, ca, rfl, h, h1, h2⟩ := hv
  unfold maxLen at h2
  have HV := Lib.hid hv0
  clear hv0
  by_cases hr : ringIn xs = true
  · have HR := Lib.hid (show permOk xs.length xs = true from hr)
    obtain ⟨hl1, hl8, _, _, hrng⟩ := permOk_facts HR.out
    rcases h with hx | ⟨bb, off, rfl, hcx⟩
    · rw [hx] at hl1
      simp at hl1
    have HC := Lib.hid hcx
    clear hcx hrng
    have hes : ∀ n, n = xs.length → ((0 ≤ i ∧ i < (n : Int)) ∧ (0 ≤ k ∧ k < (n : Int)) ∧ i ≠ k → ringSwap xs i k = (swapAt xs i.toNat k.toNat, true)) ∧ (¬ ((0 ≤ i ∧ i < (n : Int)) ∧ (0 ≤ k ∧ k < (n : Int)) ∧ i ≠ k) → ringSwap xs i k = ([], false)) := by
      rintro n rfl
      constructor
      · intro hc; unfold ringSwap; rw [if_pos ⟨hr, hc⟩]
      · intro hc; unfold ringSwap; rw [if_neg (fun hh => hc hh.2)]
    obtain ⟨n, hn⟩ : ∃ n, n = xs.length := ⟨_, rfl⟩
    obtain ⟨e1, e2⟩ := hes n hn
    have E1 := Lib.hid e1
    have E2 := Lib.hid e2
    rw [← hn] at h1 hl1 hl8 HV HR ⊢
    have HN := Lib.hid hn
    clear hr hn hes e1 e2
    by_cases hi : 0 ≤ i ∧ i < n
    · by_cases hk : 0 ≤ k ∧ k < n
      · by_cases hik : i = k
        · have he := E2.out (fun h => h.2.2 hik)
          rw [he]
          have hb0 : (i == k) = true := by simpa using hik
          clear he E1 E2 hik
          go_enter Tryd.func34, Tryd.ntmps34
          go_wp2_with fail
          refine (toPerm_yes _ _ _ _ xs _ HV.out HR).mono ?_
          rintro e w1 ⟨rfl, hb⟩
          have hb2 := hb.alloc hb.size (.cells #[.slice (some ⟨bb, off, none⟩) n ca] 41)
          have hg1 : (w1.alloc (.cells #[.slice (some ⟨bb, off, none⟩) n ca] 41)).cell? ⟨w1.heap.size, 0, none⟩ = some (.slice (some ⟨bb, off, none⟩) n ca) := by simp
          have hs1 : w.heap.size ≤ w1.heap.size := hb.size
          go_wp2_with fail
          refine (isNone_nil _).mono ?_
          rintro e w2 ⟨rfl, hb3⟩
          have hb4 := below_step hb2 hb3
          have hg2 : w2.cell? ⟨w1.heap.size, 0, none⟩ = some (.slice (some ⟨bb, off, none⟩) n ca) := by
            rw [hb3.cell (World.block_lt_of_cell? _ _ hg1)]; exact hg1
          have hs2 : w1.heap.size < w2.heap.size := by
            have := World.block_lt_of_cell? _ _ hg2
            simpa using this
          clear hb hb2 hb3 hg1
          obtain ⟨q1, hq1⟩ : ∃ q1, q1 = w1.heap.size := ⟨_, rfl⟩
          rw [← hq1] at hg2 hs1 hs2 ⊢
          clear hq1
          have HG2 := Lib.hid hg2
          go_wp2_with (first | (go_at_call 47; refine (things_w _ _ _ _ (by omega)).mono ?_; rintro e w' ⟨rfl, rfl⟩) | fail)
          refine (isThing_yes _ _ _ hi.1 hi.2).mono ?_
          rintro e w' ⟨rfl, rfl⟩
          go_wp2_with (first | (go_at_call 47; refine (things_w _ _ _ _ (by omega)).mono ?_; rintro e w' ⟨rfl, rfl⟩) | fail)
          refine (isThing_yes _ _ _ hk.1 hk.2).mono ?_
          rintro e w' ⟨rfl, rfl⟩
          go_wp2
          go_ret2
          exact ⟨_, rfl, own_nil _ _, hb4⟩
        · have he := E1.out ⟨hi, hk, hik⟩
          rw [he]
          obtain ⟨p, rfl⟩ := Int.eq_ofNat_of_zero_le hi.1
          obtain ⟨q, rfl⟩ := Int.eq_ofNat_of_zero_le hk.1
          rw [Int.toNat_natCast, Int.toNat_natCast]
          have hb0 : ((p : Int) == (q : Int)) = false := by simpa using hik
          have hpq : ¬ p = q := by omega
          have hqp : ¬ q = p := by omega
          obtain ⟨hi1, hi2⟩ := hi
          obtain ⟨hk1, hk2⟩ := hk
          clear he E1 E2 hik
          go_enter Tryd.func34, Tryd.ntmps34
          go_wp2_with fail
          refine (toPerm_yes _ _ _ _ xs _ HV.out HR).mono ?_
          rintro e w1 ⟨rfl, hb⟩
          have hb2 := hb.alloc hb.size (.cells #[.slice (some ⟨bb, off, none⟩) n ca] 41)
          have hg1 : (w1.alloc (.cells #[.slice (some ⟨bb, off, none⟩) n ca] 41)).cell? ⟨w1.heap.size, 0, none⟩ = some (.slice (some ⟨bb, off, none⟩) n ca) := by simp
          have hs1 : w.heap.size ≤ w1.heap.size := hb.size
          go_wp2_with fail
          refine (isNone_nil _).mono ?_
          rintro e w2 ⟨rfl, hb3⟩
          have hb4 := below_step hb2 hb3
          have hg2 : w2.cell? ⟨w1.heap.size, 0, none⟩ = some (.slice (some ⟨bb, off, none⟩) n ca) := by
            rw [hb3.cell (World.block_lt_of_cell? _ _ hg1)]; exact hg1
          have hs2 : w1.heap.size < w2.heap.size := by
            have := World.block_lt_of_cell? _ _ hg2
            simpa using this
          clear hb hb2 hb3 hg1
          obtain ⟨q1, hq1⟩ : ∃ q1, q1 = w1.heap.size := ⟨_, rfl⟩
          rw [← hq1] at hg2 hs1 hs2 ⊢
          clear hq1
          have HG2 := Lib.hid hg2
          go_wp2_with (first | (go_at_call 47; refine (things_w _ _ _ _ (by omega)).mono ?_; rintro e w' ⟨rfl, rfl⟩) | fail)
          refine (isThing_yes _ _ _ hi1 hi2).mono ?_
          rintro e w' ⟨rfl, rfl⟩
          go_wp2_with (first | (go_at_call 47; refine (things_w _ _ _ _ (by omega)).mono ?_; rintro e w' ⟨rfl, rfl⟩) | fail)
          refine (isThing_yes _ _ _ hk1 hk2).mono ?_
          rintro e w' ⟨rfl, rfl⟩
          have hcw : ∀ j, j < xs.length → w2.cell? ⟨bb, off + j, none⟩ = some (.int .i64 (xs.getD j 0)) := fun j hj => by
            have := HC.out j hj
            rw [hb4.cell (World.block_lt_of_cell? w _ this)]; exact this
          have HCW := Lib.hid hcw
          clear hcw
          go_wp2_with fail
          rw [HN.out]
          refine (slicesClone_any bb off ca xs _ (by have := HN.out; omega) HCW.out).mono ?_
          rintro e w3 ⟨g, cap, rfl, ho, hb5⟩
          rw [← HN.out] at ho ⊢
          have hb6 := below_step hb4 hb5
          have hc1 : w3.cell? ⟨bb, off + p, none⟩ = some (.int .i64 (xs.getD p 0)) := by
            have := HCW.out p (by have := HN.out; omega)
            rw [hb5.cell (World.block_lt_of_cell? w2 _ this)]; exact this
          have hc2 : w3.cell? ⟨bb, off + q, none⟩ = some (.int .i64 (xs.getD q 0)) := by
            have := HCW.out q (by have := HN.out; omega)
            rw [hb5.cell (World.block_lt_of_cell? w2 _ this)]; exact this
          obtain ⟨x, hx⟩ : ∃ x, x = xs.getD p 0 := ⟨_, rfl⟩
          obtain ⟨y, hy⟩ : ∃ y, y = xs.getD q 0 := ⟨_, rfl⟩
          rw [← hx] at hc1
          rw [← hy] at hc2
          have HSW := Lib.hid (own_swapped ho HN.out p q y x hy hx)
          have ho2 : g ≥ w2.heap.size := (own_lt ho g rfl).1
          have ho3 := (own_lt ho g rfl).2
          have hf1 := own_frozen ho p
          have hf2 := own_frozen ho q
          obtain ⟨z1, hz1⟩ : ∃ v0, w3.cell? ⟨g, p, none⟩ = some v0 := ⟨_, own_cell ho p (by have := HN.out; omega)⟩
          obtain ⟨z2, hz2⟩ : ∃ v0, w3.cell? ⟨g, q, none⟩ = some v0 := ⟨_, own_cell ho q (by have := HN.out; omega)⟩
          have hs6 := hb4.size
          have hblt : bb < w.heap.size := by
            have := World.block_lt_of_cell? w _ (HC.out p (by have := HN.out; omega))
            simpa using this
          have hne : bb ≠ g := by omega
          have HO := Lib.hid ho
          have HGW : Hid (w.heap.size ≤ g) := Lib.hid (by omega)
          clear hx hy ho hs1 hs2 hg2 hblt hs6 ho2
          go_wp2
          go_region
          go_wp2
          go_ret2
          exact ⟨_, rfl, own_mono (own_drew1 HSW.out.1) hb4.size, Below.drew (Below.setCell (Below.setCell hb6 HGW.out _) HGW.out _)⟩
      · have he := E2.out (fun h => hk h.2.1)
        rw [he]
        clear he E1 E2
        go_enter Tryd.func34, Tryd.ntmps34
        go_wp2_with fail
        refine (toPerm_yes _ _ _ _ xs _ HV.out HR).mono ?_
        rintro e w1 ⟨rfl, hb⟩
        have hb2 := hb.alloc hb.size (.cells #[.slice (some ⟨bb, off, none⟩) n ca] 41)
        have hg1 : (w1.alloc (.cells #[.slice (some ⟨bb, off, none⟩) n ca] 41)).cell? ⟨w1.heap.size, 0, none⟩ = some (.slice (some ⟨bb, off, none⟩) n ca) := by simp
        have hs1 : w.heap.size ≤ w1.heap.size := hb.size
        go_wp2_with fail
        refine (isNone_nil _).mono ?_
        rintro e w2 ⟨rfl, hb3⟩
        have hb4 := below_step hb2 hb3
        have hg2 : w2.cell? ⟨w1.heap.size, 0, none⟩ = some (.slice (some ⟨bb, off, none⟩) n ca) := by
          rw [hb3.cell (World.block_lt_of_cell? _ _ hg1)]; exact hg1
        have hs2 : w1.heap.size < w2.heap.size := by
          have := World.block_lt_of_cell? _ _ hg2
          simpa using this
        clear hb hb2 hb3 hg1
        obtain ⟨q1, hq1⟩ : ∃ q1, q1 = w1.heap.size := ⟨_, rfl⟩
        rw [← hq1] at hg2 hs1 hs2 ⊢
        clear hq1
        have HG2 := Lib.hid hg2
        go_wp2_with (first | (go_at_call 47; refine (things_w _ _ _ _ (by omega)).mono ?_; rintro e w' ⟨rfl, rfl⟩) | fail)
        refine (isThing_yes _ _ _ hi.1 hi.2).mono ?_
        rintro e w' ⟨rfl, rfl⟩
        go_wp2_with (first | (go_at_call 47; refine (things_w _ _ _ _ (by omega)).mono ?_; rintro e w' ⟨rfl, rfl⟩) | fail)
        refine (isThing_no _ _ _ (by omega)).mono ?_
        rintro e w' ⟨rfl, rfl⟩
        go_wp2
        go_ret2
        exact ⟨_, rfl, own_nil _ _, hb4⟩
    · have he := E2.out (fun h => hi h.1)
      rw [he]
      clear he E1 E2
      go_enter Tryd.func34, Tryd.ntmps34
      go_wp2_with fail
      refine (toPerm_yes _ _ _ _ xs _ HV.out HR).mono ?_
      rintro e w1 ⟨rfl, hb⟩
      have hb2 := hb.alloc hb.size (.cells #[.slice (some ⟨bb, off, none⟩) n ca] 41)
      have hg1 : (w1.alloc (.cells #[.slice (some ⟨bb, off, none⟩) n ca] 41)).cell? ⟨w1.heap.size, 0, none⟩ = some (.slice (some ⟨bb, off, none⟩) n ca) := by simp
      have hs1 : w.heap.size ≤ w1.heap.size := hb.size
      go_wp2_with fail
      refine (isNone_nil _).mono ?_
      rintro e w2 ⟨rfl, hb3⟩
      have hb4 := below_step hb2 hb3
      have hg2 : w2.cell? ⟨w1.heap.size, 0, none⟩ = some (.slice (some ⟨bb, off, none⟩) n ca) := by
        rw [hb3.cell (World.block_lt_of_cell? _ _ hg1)]; exact hg1
      have hs2 : w1.heap.size < w2.heap.size := by
        have := World.block_lt_of_cell? _ _ hg2
        simpa using this
      clear hb hb2 hb3 hg1
      obtain ⟨q1, hq1⟩ : ∃ q1, q1 = w1.heap.size := ⟨_, rfl⟩
      rw [← hq1] at hg2 hs1 hs2 ⊢
      clear hq1
      have HG2 := Lib.hid hg2
      go_wp2_with (first | (go_at_call 47; refine (things_w _ _ _ _ (by omega)).mono ?_; rintro e w' ⟨rfl, rfl⟩) | fail)
      refine (isThing_no _ _ _ (by omega)).mono ?_
      rintro e w' ⟨rfl, rfl⟩
      go_wp2
      go_ret2
      exact ⟨_, rfl, own_nil _ _, hb4⟩
  · have hr : ringIn xs = false := by simpa using hr
    have he : ringSwap xs i k = ([], false) := by simp [ringSwap, hr]
    rw [he]
    have HR := Lib.hid (show permOk xs.length xs = false from hr)
    clear hr he h
    go_enter Tryd.func34, Tryd.ntmps34
    go_wp2_with fail
    refine (toPerm_no _ _ _ _ xs _ (by omega) HV.out HR).mono ?_
    rintro e w1 ⟨rfl, hb⟩
    have hb2 := hb.alloc hb.size (.cells #[.slice none 0 0] 41)
    go_wp2_with fail
    refine (isNone_hit _ _ (errAt_below hE hb2)).mono ?_
    rintro e w2 ⟨rfl, hb3⟩
    have hb4 := below_step hb2 hb3
    go_wp2
    go_ret2
    exact ⟨_, rfl, own_nil _ _, hb4⟩

set_option maxHeartbeats 3200000 in
theorem sRingSwap_v (v : Value) (xs : List Int) (i k : Int) (w : World) (hv : RdV w v xs) (_ : (Lit.int .i64 i).wf = true) (_ : (Lit.int .i64 k).wf = true) : Calls Tryd.prog 36 #[v, .int .i64 i, .int .i64 k] w (FreshLB w (ringSwap xs i k)) := by
  have hv0 := hv
  obtain ⟨ao, ca, rfl, h, h1, h2⟩ := hv
  unfold maxLen at h2
  have HV := Lib.hid hv0
  clear hv0
  by_cases hr : ringIn xs = true
  · have HR := Lib.hid hr
    obtain ⟨hl1, hl8, _, _, hrng⟩ := permOk_facts (show permOk xs.length xs = true from hr)
    rcases h with hx | ⟨bb, off, rfl, hcx⟩
    · rw [hx] at hl1
      simp at hl1
    have HC := Lib.hid hcx
    clear hcx hrng
    have hes : ∀ n, n = xs.length → ((0 ≤ i ∧ i < (n : Int)) ∧ (0 ≤ k ∧ k < (n : Int)) ∧ i ≠ k → ringSwap xs i k = (swapAt xs i.toNat k.toNat, true)) ∧ (¬ ((0 ≤ i ∧ i < (n : Int)) ∧ (0 ≤ k ∧ k < (n : Int)) ∧ i ≠ k) → ringSwap xs i k = ([], false)) := by
      rintro n rfl
      constructor
      · intro hc; unfold ringSwap; rw [if_pos ⟨hr, hc⟩]
      · intro hc; unfold ringSwap; rw [if_neg (fun hh => hc hh.2)]
    obtain ⟨n, hn⟩ : ∃ n, n = xs.length := ⟨_, rfl⟩
    obtain ⟨e1, e2⟩ := hes n hn
    have E1 := Lib.hid e1
    have E2 := Lib.hid e2
    rw [← hn] at h1 hl1 hl8 HV ⊢
    have HN := Lib.hid hn
    clear hr hn hes e1 e2
    by_cases hi : 0 ≤ i ∧ i < n
    · by_cases hk : 0 ≤ k ∧ k < n
      · by_cases hik : i = k
        · have he := E2.out (fun h => h.2.2 hik)
          rw [he]
          have hb0 : (i == k) = true := by simpa using hik
          clear he E1 E2 hik
          go_enter Tryd.func36, Tryd.ntmps36
          go_wp2_with fail
          refine (sRingIn_is true _ xs _ HV.out HR).mono ?_
          rintro e w1 ⟨rfl, rfl⟩
          go_wp2_with fail
          refine (l6In_yes _ _ _ _ hi.1 (by omega)).mono ?_
          rintro e w' ⟨rfl, rfl⟩
          go_wp2_with fail
          refine (l6In_yes _ _ _ _ hk.1 (by omega)).mono ?_
          rintro e w' ⟨rfl, rfl⟩
          go_wp2
          go_ret2
          exact ⟨_, rfl, own_empty _ _ (Nat.le_refl _), (Below.refl _ _).alloc (Nat.le_refl _) _⟩
        · have he := E1.out ⟨hi, hk, hik⟩
          rw [he]
          obtain ⟨p, rfl⟩ := Int.eq_ofNat_of_zero_le hi.1
          obtain ⟨q, rfl⟩ := Int.eq_ofNat_of_zero_le hk.1
          rw [Int.toNat_natCast, Int.toNat_natCast]
          have hb0 : ((p : Int) == (q : Int)) = false := by simpa using hik
          have hpq : ¬ p = q := by omega
          have hqp : ¬ q = p := by omega
          obtain ⟨hi1, hi2⟩ := hi
          obtain ⟨hk1, hk2⟩ := hk
          clear he E1 E2 hik
          go_enter Tryd.func36, Tryd.ntmps36
          go_wp2_with fail
          refine (sRingIn_is true _ xs _ HV.out HR).mono ?_
          rintro e w1 ⟨rfl, rfl⟩
          go_wp2_with fail
          refine (l6In_yes _ _ _ _ hi1 (by omega)).mono ?_
          rintro e w' ⟨rfl, rfl⟩
          go_wp2_with fail
          refine (l6In_yes _ _ _ _ hk1 (by omega)).mono ?_
          rintro e w' ⟨rfl, rfl⟩
          go_wp2_with (at_builtin; refine wpList_cat rfl _ _ rfl w.heap.size w.heap.size 0 0 [] rfl (own_empty w _ (Nat.le_refl _)) rfl ⟨bb, off, none⟩ _ _ rfl xs HN.out (cells_alloc _ HC.out) (by omega) (by simp) n (by omega) ?_)
          intro g cap w3 ho hgr2 hg2
          have hb6 : Below w.heap.size w w3 := ((Below.refl _ _).alloc (Nat.le_refl _) _).grown hgr2 (by simp) (fun q hq => by cases hq; exact Nat.le_refl _)
          have ho : Own w3 w.heap.size (.slice (some ⟨g, 0, none⟩) n cap) xs := by simpa using ho
          clear hgr2 hg2
          have hc1 : w3.cell? ⟨bb, off + p, none⟩ = some (.int .i64 (xs.getD p 0)) := by
            have := HC.out p (by have := HN.out; omega)
            rw [hb6.cell (World.block_lt_of_cell? w _ this)]; exact this
          have hc2 : w3.cell? ⟨bb, off + q, none⟩ = some (.int .i64 (xs.getD q 0)) := by
            have := HC.out q (by have := HN.out; omega)
            rw [hb6.cell (World.block_lt_of_cell? w _ this)]; exact this
          obtain ⟨x, hx⟩ : ∃ x, x = xs.getD p 0 := ⟨_, rfl⟩
          obtain ⟨y, hy⟩ : ∃ y, y = xs.getD q 0 := ⟨_, rfl⟩
          rw [← hx] at hc1
          rw [← hy] at hc2
          have HSW := Lib.hid (own_swapped ho HN.out p q y x hy hx)
          have ho2 : g ≥ w.heap.size := (own_lt ho g rfl).1
          have hf1 := own_frozen ho p
          have hf2 := own_frozen ho q
          obtain ⟨z1, hz1⟩ : ∃ v0, w3.cell? ⟨g, p, none⟩ = some v0 := ⟨_, own_cell ho p (by have := HN.out; omega)⟩
          obtain ⟨z2, hz2⟩ : ∃ v0, w3.cell? ⟨g, q, none⟩ = some v0 := ⟨_, own_cell ho q (by have := HN.out; omega)⟩
          have hblt : bb < w.heap.size := by
            have := World.block_lt_of_cell? w _ (HC.out p (by have := HN.out; omega))
            simpa using this
          have hne : bb ≠ g := by omega
          have HGW : Hid (w.heap.size ≤ g) := Lib.hid (by omega)
          clear hx hy ho hblt ho2
          go_wp2
          go_ret2
          exact ⟨_, rfl, HSW.out.1, Below.setCell (Below.setCell hb6 HGW.out _) HGW.out _⟩
      · have he := E2.out (fun h => hk h.2.1)
        rw [he]
        clear he E1 E2
        go_enter Tryd.func36, Tryd.ntmps36
        go_wp2_with fail
        refine (sRingIn_is true _ xs _ HV.out HR).mono ?_
        rintro e w1 ⟨rfl, rfl⟩
        go_wp2_with fail
        refine (l6In_yes _ _ _ _ hi.1 (by omega)).mono ?_
        rintro e w' ⟨rfl, rfl⟩
        go_wp2_with fail
        refine (l6In_no _ _ _ _ (by omega)).mono ?_
        rintro e w' ⟨rfl, rfl⟩
        go_wp2
        go_ret2
        exact ⟨_, rfl, own_empty _ _ (Nat.le_refl _), (Below.refl _ _).alloc (Nat.le_refl _) _⟩
    · have he := E2.out (fun h => hi h.1)
      rw [he]
      clear he E1 E2
      go_enter Tryd.func36, Tryd.ntmps36
      go_wp2_with fail
      refine (sRingIn_is true _ xs _ HV.out HR).mono ?_
      rintro e w1 ⟨rfl, rfl⟩
      go_wp2_with fail
      refine (l6In_no _ _ _ _ (by omega)).mono ?_
      rintro e w' ⟨rfl, rfl⟩
      go_wp2
      go_ret2
      exact ⟨_, rfl, own_empty _ _ (Nat.le_refl _), (Below.refl _ _).alloc (Nat.le_refl _) _⟩
  · have hr : ringIn xs = false := by simpa using hr
    have HR := Lib.hid hr
    have he : ringSwap xs i k = ([], false) := by simp [ringSwap, hr]
    rw [he]
    clear hr he h
    go_enter Tryd.func36, Tryd.ntmps36
    go_wp2_with fail
    refine (sRingIn_is false _ xs _ HV.out HR).mono ?_
    rintro e w1 ⟨rfl, rfl⟩
    go_wp2
    go_ret2
    exact ⟨_, rfl, own_empty _ _ (Nat.le_refl _), (Below.refl _ _).alloc (Nat.le_refl _) _⟩


end Go.Proofs.YtdeeeiimlcggpaaDoor
