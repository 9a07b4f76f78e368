/-
  The contracts of RingTimes and RingSwap (impl and spec).
-/
import Derived.Test.YtdeeeiimlcggpaaDoorRing
import Derived.Test.YtdeeeiimlcggpaaDoorSort
import Derived.Test.YtdeeeiimlcggpaaDoorSortMath
import Derived.Deep.RegionWith
namespace Go.Proofs.YtdeeeiimlcggpaaDoor
set_option linter.unusedSimpArgs false
set_option linter.unusedVariables false
set_option linter.unnecessarySimpa false
set_option maxRecDepth 100000
open Go.RowKit

/-- First as xs leads, then as ys does. -/
def prodL (xs ys : List Int) : List Int := xs.map fun x => ys.getD x.toNat 0
def ringTimes (xs ys : List Int) : List Int × Bool := if ringIn xs && permOk xs.length ys then (prodL xs ys, true) else ([], false)

theorem prodL_length (xs ys : List Int) : (prodL xs ys).length = xs.length := by simp [prodL]
theorem prodL_getD (xs ys : List Int) (k : Nat) (hk : k < xs.length) : (prodL xs ys).getD k 0 = ys.getD (xs.getD k 0).toNat 0 := by simp [prodL, List.getD, hk]

theorem ringTimes_len (xs ys : List Int) (h : xs.length ≤ 1048576) (_ : ys.length ≤ 1048576) : (ringTimes xs ys).1.length ≤ 2305843009213693952 := by
  unfold ringTimes
  split
  · rw [prodL_length]; omega
  · simp

theorem permOk_iff {n : Nat} {ys : List Int} : permOk n ys = true ↔ ringIn ys = true ∧ ys.length = n := by
  constructor
  · intro h
    have h4 := (permOk_facts h).2.2.2.1
    exact ⟨by unfold ringIn; rw [h4]; exact h, h4⟩
  · rintro ⟨h, rfl⟩
    exact h

set_option maxHeartbeats 3200000 in
theorem iRingTimes_v (v u : Value) (xs ys : List Int) (w : World) (hE : ErrAt w) (hv : RdV w v xs) (hu : RdV w u ys) : Calls Tryd.prog 23 #[v, u] w (FreshLB w (ringTimes xs ys)) := by
  have hv0 := hv
  obtain ⟨ao, ca, rfl, h, h1, h2⟩ := hv
  unfold maxLen at h2
  have HV := Lib.hid hv0
  clear hv0
  by_cases hr : ringIn xs = true
  · have HR := Lib.hid (show permOk xs.length xs = true from hr)
    obtain ⟨hl1, hl8, _, _, hrng⟩ := permOk_facts HR.out
    rcases h with hx | ⟨bb, off, rfl, hcx⟩
    · rw [hx] at hl1
      simp at hl1
    have HRNG := Lib.hid hrng
    by_cases hp : permOk xs.length ys = true
    · have he : ringTimes xs ys = (prodL xs ys, true) := by simp [ringTimes, hr, hp]
      rw [he]
      obtain ⟨_, _, _, hyl, hyr⟩ := permOk_facts hp
      have hu0 := hu
      obtain ⟨bo, cb, rfl, hy, _, _⟩ := hu
      rcases hy with hx | ⟨bc, off2, rfl, hcy⟩
      · rw [hx] at hyl
        simp at hyl
        omega
      obtain ⟨n, hn⟩ : ∃ n, n = xs.length := ⟨_, rfl⟩
      have hyn : ys.length = n := by rw [hyl, hn]
      rw [hyn] at hu0 ⊢
      rw [← hn] at h1 hl1 hl8 HV HR hp ⊢
      have HN := Lib.hid hn
      have HYN := Lib.hid hyn
      have HC := Lib.hid hcx
      have HCY := Lib.hid hcy
      have HU := Lib.hid hu0
      have HP := Lib.hid hp
      clear hr he hn hcx hrng hp hcy hu0 hyl hyn hyr
      obtain ⟨i0, hi, hz0, hz1, hz2⟩ := info_parts Tryd.infoInt
      go_enter Tryd.func23, Tryd.ntmps23
      go_wp2_with fail
      refine (toPerm_yes _ _ _ _ xs _ HV.out HR).mono ?_
      rintro e w1 ⟨rfl, hb⟩
      have hb2 := hb.alloc hb.size (.cells #[.slice (some ⟨bb, off, none⟩) n ca] 41)
      have hg1 : (w1.alloc (.cells #[.slice (some ⟨bb, off, none⟩) n ca] 41)).cell? ⟨w1.heap.size, 0, none⟩ = some (.slice (some ⟨bb, off, none⟩) n ca) := by simp
      have hs1 : w.heap.size ≤ w1.heap.size := hb.size
      go_wp2_with fail
      refine (isNone_nil _).mono ?_
      rintro e w2 ⟨rfl, hb3⟩
      have hb4 := below_step hb2 hb3
      have hg2 : w2.cell? ⟨w1.heap.size, 0, none⟩ = some (.slice (some ⟨bb, off, none⟩) n ca) := by
        rw [hb3.cell (World.block_lt_of_cell? _ _ hg1)]; exact hg1
      have hs2 : w1.heap.size < w2.heap.size := by
        have := World.block_lt_of_cell? _ _ hg2
        simpa using this
      clear hb hb2 hb3 hg1
      obtain ⟨q1, hq1⟩ : ∃ q1, q1 = w1.heap.size := ⟨_, rfl⟩
      rw [← hq1] at hg2 hs1 hs2 ⊢
      clear hq1
      have HG2 := Lib.hid hg2
      go_wp2_with (go_at_call 47; refine (things_w _ _ _ _ (by omega)).mono ?_; rintro e w' ⟨rfl, rfl⟩)
      refine (toPerm_yes _ _ _ _ ys _ (rdv_below HU.out hb4) HP).mono ?_
      rintro e w3 ⟨rfl, hb5⟩
      have hb6 := hb5.alloc hb5.size (.cells #[.slice (some ⟨bc, off2, none⟩) n cb] 41)
      have hg3 : (w3.alloc (.cells #[.slice (some ⟨bc, off2, none⟩) n cb] 41)).cell? ⟨w3.heap.size, 0, none⟩ = some (.slice (some ⟨bc, off2, none⟩) n cb) := by simp
      have hs3 : w2.heap.size ≤ w3.heap.size := hb5.size
      go_wp2_with fail
      refine (isNone_nil _).mono ?_
      rintro e w4 ⟨rfl, hb7⟩
      have hb8 := below_step hb6 hb7
      have hg4 : w4.cell? ⟨w3.heap.size, 0, none⟩ = some (.slice (some ⟨bc, off2, none⟩) n cb) := by
        rw [hb7.cell (World.block_lt_of_cell? _ _ hg3)]; exact hg3
      have hs4 : w3.heap.size < w4.heap.size := by
        have := World.block_lt_of_cell? _ _ hg4
        simpa using this
      have hg5 : w4.cell? ⟨q1, 0, none⟩ = some (.slice (some ⟨bb, off, none⟩) n ca) := by
        rw [hb8.cell (by simpa using hs2)]; exact HG2.out
      have hs5 : q1 < w4.heap.size := by omega
      have hb9 := below_step hb4 hb8
      clear hb5 hb6 hb7 hb8 hg3
      obtain ⟨q2, hq2⟩ : ∃ q2, q2 = w3.heap.size := ⟨_, rfl⟩
      rw [← hq2] at hg4 hs3 hs4 ⊢
      clear hq2 hg2 HG2
      have HG4 := Lib.hid hg4
      have HG5 := Lib.hid hg5
      go_wp2_with (first | (go_at_call 47; refine (things_w _ _ _ _ (by omega)).mono ?_; rintro e w' ⟨rfl, rfl⟩) | (at_make; refine wpList_make_full _ rfl _ _ 23 rfl w4.heap.size 3 i0 (.int .i64 0) 1 Tryd.underlying23 hi hz0 hz1 _ _ _ _ n rfl rfl rfl rfl (by rw [hz2]; omega) (by unfold maxLen; omega) (Nat.le_refl _) ?_))
      intro w5 hown5 hgrow5
      have hb5 : Below w4.heap.size w4 w5 := (Below.refl _ _).grown hgrow5 (Nat.le_refl _) (fun k h => by cases h)
      have hown := own_made hown5
      clear hown5 hgrow5
      obtain ⟨m, hm⟩ : ∃ m, m = w4.heap.size := ⟨_, rfl⟩
      rw [← hm] at hown hs4 hs5 hb5 ⊢
      have HM := Lib.hid hm
      clear hm
      go_wp2
      go_loopw [36] (fun i wr => ∃ k : Nat, k ≤ n ∧ i = .int .i64 k ∧ Own wr m (.slice (some ⟨m, 0, none⟩) n n) ((prodL xs ys).take k ++ List.replicate (n - k) 0) ∧ Below m w4 wr)
        (fun i _ => n - (intOf i).toNat)
      case atStart => exact ⟨0, Nat.zero_le _, rfl, by simpa using hown, hb5⟩
      case round =>
        obtain ⟨k, hk, rfl, hown, hbel⟩ := hrel
        have hbelw : Below w.heap.size w wr := hb9.trans (hbel.mono (by have := HM.out; have := hb9.size; omega))
        by_cases hlt : k < n
        · have hck : wr.cell? ⟨bb, off + k, none⟩ = some (.int .i64 (xs.getD k 0)) := by
            have := HC.out k (by have := HN.out; omega)
            rw [hbelw.cell (World.block_lt_of_cell? w _ this)]
            exact this
          have hgr : wr.cell? ⟨q1, 0, none⟩ = some (.slice (some ⟨bb, off, none⟩) n ca) := by
            rw [hbel.cell (by simpa using hs5)]; exact HG5.out
          have hgs : wr.cell? ⟨q2, 0, none⟩ = some (.slice (some ⟨bc, off2, none⟩) n cb) := by
            rw [hbel.cell (by simpa using hs4)]; exact HG4.out
          obtain ⟨q, hq⟩ := Int.eq_ofNat_of_zero_le (HRNG.out k (by have := HN.out; omega)).1
          have hqn : q < n := by have h9 := HN.out; have := (HRNG.out k (by omega)).2; omega
          rw [hq] at hck
          have hcq : wr.cell? ⟨bc, off2 + q, none⟩ = some (.int .i64 (ys.getD q 0)) := by
            have := HCY.out q (by have := HYN.out; omega)
            rw [hbelw.cell (World.block_lt_of_cell? w _ this)]
            exact this
          obtain ⟨y, hy⟩ : ∃ y, y = ys.getD q 0 := ⟨_, rfl⟩
          rw [← hy] at hcq
          have hpl : n = (prodL xs ys).length := by rw [prodL_length, HN.out]
          have hll : n = ((prodL xs ys).take k ++ List.replicate (n - k) 0).length := by simp; omega
          have hfz := own_frozen hown k
          obtain ⟨v0, hv0⟩ : ∃ v0, wr.cell? ⟨m, k, none⟩ = some v0 := ⟨_, own_cell hown k (by omega)⟩
          obtain ⟨hst, hgst⟩ := own_stored hown hll k y
          have hst' : Own (wr.setCell ⟨m, k, none⟩ (.int .i64 y)) m (.slice (some ⟨m, 0, none⟩) n n) ((prodL xs ys).take (k + 1) ++ List.replicate (n - (k + 1)) 0) := by
            have hse := set_stage (prodL xs ys) k (by omega) y (by rw [prodL_getD _ _ _ (by have := HN.out; omega), hq, Int.toNat_natCast, hy])
            rw [← hpl] at hse
            rw [← hse]
            exact hst
          have HST := Lib.hid hst'
          have hk0 : (0 : Int) ≤ (k : Int) := by omega
          have hkn : (k : Int) < (n : Int) := by omega
          have HCK := Lib.hid hck
          have HCQ := Lib.hid hcq
          clear hst hgst hst' hq hown hpl hll hy hck hcq
          go_wp2
          go_region_with (first | (go_at_call 48; refine (next_w bb off n ca k q wr.drew HCK.out hlt (by omega)).mono ?_; rintro e w' ⟨rfl, rfl⟩) | (go_at_call 48; refine (next_w bc off2 n cb q y wr.drew HCQ.out hqn (by omega)).mono ?_; rintro e w' ⟨rfl, rfl⟩))
          all_goals (try go_wp2)
          all_goals go_roundw
          all_goals first | exact ⟨k + 1, by omega, by go_num, own_drew HST.out, (hbel.setCell (Nat.le_refl _) _).drew⟩ | (simp [intOf]; omega)
        · have hkn : k = n := by omega
          subst hkn
          have hpl : k = (prodL xs ys).length := by rw [prodL_length, HN.out]
          rw [show (prodL xs ys).take k ++ List.replicate (k - k) 0 = prodL xs ys by rw [hpl]; simp] at hown
          rw [hpl] at hown
          have HO := Lib.hid hown
          have HPL := Lib.hid hpl
          clear hown hpl
          go_wp2
          go_ret2
          have ho := HO.out
          rw [← HPL.out] at ho
          exact ⟨_, rfl, own_mono ho (by have := HM.out; have := hb9.size; omega), hbelw⟩
    · have hp : permOk xs.length ys = false := by simpa using hp
      have he : ringTimes xs ys = ([], false) := by simp [ringTimes, hp]
      rw [he]
      have hu0 := hu
      obtain ⟨bo, cb, rfl, _, _, _⟩ := hu
      have HU := Lib.hid hu0
      have HP := Lib.hid hp
      obtain ⟨n, hn⟩ : ∃ n, n = xs.length := ⟨_, rfl⟩
      rw [← hn] at h1 hl1 hl8 HV HR HP ⊢
      clear hr he hp hcx hrng hu0 hn HRNG
      go_enter Tryd.func23, Tryd.ntmps23
      go_wp2_with fail
      refine (toPerm_yes _ _ _ _ xs _ HV.out HR).mono ?_
      rintro e w1 ⟨rfl, hb⟩
      have hb2 := hb.alloc hb.size (.cells #[.slice (some ⟨bb, off, none⟩) n ca] 41)
      have hg1 : (w1.alloc (.cells #[.slice (some ⟨bb, off, none⟩) n ca] 41)).cell? ⟨w1.heap.size, 0, none⟩ = some (.slice (some ⟨bb, off, none⟩) n ca) := by simp
      have hs1 : w.heap.size ≤ w1.heap.size := hb.size
      go_wp2_with fail
      refine (isNone_nil _).mono ?_
      rintro e w2 ⟨rfl, hb3⟩
      have hb4 := below_step hb2 hb3
      have hg2 : w2.cell? ⟨w1.heap.size, 0, none⟩ = some (.slice (some ⟨bb, off, none⟩) n ca) := by
        rw [hb3.cell (World.block_lt_of_cell? _ _ hg1)]; exact hg1
      have hs2 : w1.heap.size < w2.heap.size := by
        have := World.block_lt_of_cell? _ _ hg2
        simpa using this
      clear hb hb2 hb3 hg1
      obtain ⟨q1, hq1⟩ : ∃ q1, q1 = w1.heap.size := ⟨_, rfl⟩
      rw [← hq1] at hg2 hs1 hs2 ⊢
      clear hq1
      have HG2 := Lib.hid hg2
      go_wp2_with (go_at_call 47; refine (things_w _ _ _ _ (by omega)).mono ?_; rintro e w' ⟨rfl, rfl⟩)
      refine (toPerm_no _ _ _ _ ys _ (by omega) (rdv_below HU.out hb4) HP).mono ?_
      rintro e w3 ⟨rfl, hb5⟩
      have hb6 := hb5.alloc hb5.size (.cells #[.slice none 0 0] 41)
      go_wp2_with fail
      refine (isNone_hit _ _ (errAt_below (errAt_below hE hb4) hb6)).mono ?_
      rintro e w4 ⟨rfl, hb7⟩
      have hb8 := below_step hb6 hb7
      have hb9 := below_step hb4 hb8
      go_wp2
      go_ret2
      exact ⟨_, rfl, own_nil _ _, hb9⟩
  · have hr : ringIn xs = false := by simpa using hr
    have he : ringTimes xs ys = ([], false) := by simp [ringTimes, hr]
    rw [he]
    obtain ⟨bo, cb, rfl, _, _, _⟩ := hu
    have HR := Lib.hid (show permOk xs.length xs = false from hr)
    clear hr he h
    go_enter Tryd.func23, Tryd.ntmps23
    go_wp2_with fail
    refine (toPerm_no _ _ _ _ xs _ (by omega) HV.out HR).mono ?_
    rintro e w1 ⟨rfl, hb⟩
    have hb2 := hb.alloc hb.size (.cells #[.slice none 0 0] 41)
    go_wp2_with fail
    refine (isNone_hit _ _ (errAt_below hE hb2)).mono ?_
    rintro e w2 ⟨rfl, hb3⟩
    have hb4 := below_step hb2 hb3
    go_wp2
    go_ret2
    exact ⟨_, rfl, own_nil _ _, hb4⟩


end Go.Proofs.YtdeeeiimlcggpaaDoor
