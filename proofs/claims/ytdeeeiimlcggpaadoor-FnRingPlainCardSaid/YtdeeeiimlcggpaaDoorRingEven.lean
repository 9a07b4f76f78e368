/-
  The contracts of permutation.isEven and RingEven (impl and spec).
-/
import Derived.Test.YtdeeeiimlcggpaaDoorRingPart
import Derived.Test.YtdeeeiimlcggpaaDoorPut
import Derived.Test.YtdeeeiimlcggpaaDoorSpecType
namespace Go.Proofs.YtdeeeiimlcggpaaDoor
set_option linter.unusedSimpArgs false
set_option linter.unusedVariables false
set_option linter.unnecessarySimpa false
set_option maxRecDepth 100000
open Go.RowKit

/-- The number of things less that of rings is even. -/
def evenL (xs : List Int) : Bool := decide (((xs.length : Int) - pSize (ringsOf xs)).tmod 2 = 0)
def ringEven (xs : List Int) : Bool := ringIn xs && evenL xs

theorem rings_part {xs : List Int} (h : ringIn xs = true) : partIn (ringsOf xs) = true := by
  obtain ⟨h1, h2, _⟩ := permOk_facts (show permOk xs.length xs = true from h)
  unfold ringsOf
  exact partIn_kOut (by rw [ringLs_length]; exact h1) (by rw [ringLs_length]; exact h2)

set_option maxHeartbeats 3200000 in
theorem isEven_w (bb off n ca : Nat) (xs : List Int) (w : World) (hr : ringIn xs = true) (hl : xs.length = n) (hc : ∀ j, j < n → w.cell? ⟨bb, off + j, none⟩ = some (.int .i64 (xs.getD j 0))) :
    Calls Tryd.prog 60 #[.agg #[.slice (some ⟨bb, off, none⟩) n ca]] w fun e w' => e = .returned (.bool (evenL xs)) ∧ Below w.heap.size w w' := by
  obtain ⟨h1, h8, hN, _, _⟩ := permOk_facts (show permOk xs.length xs = true from hr)
  rw [hl] at h1 h8 hN
  have hp := rings_part hr
  have hpl := partIn_len hp
  have hps := partIn_small hp
  have hbd := pSize_bd hps
  obtain ⟨k, hk⟩ : ∃ k, k = pSize (ringsOf xs) := ⟨_, rfl⟩
  have hev : evenL xs = decide (((n : Int) - k).tmod 2 = 0) := by rw [evenL, hl, hk]
  rw [hev]
  rw [← hk] at hbd
  have HK := Lib.hid hk
  have HN := Lib.hid hN
  have HPL := Lib.hid hpl.1
  have HPS := Lib.hid hps
  clear hr hl hp hpl hps hk hev hN
  obtain ⟨w1, hw1⟩ : ∃ w1, w1 = w.alloc (.cells #[.slice (some ⟨bb, off, none⟩) n ca] 41) := ⟨_, rfl⟩
  have hbw : Below w.heap.size w w1 := by rw [hw1]; exact (Below.refl _ _).alloc (Nat.le_refl _) _
  have hg : w1.cell? ⟨w.heap.size, 0, none⟩ = some (.slice (some ⟨bb, off, none⟩) n ca) := by rw [hw1]; simp
  have hcb : ∀ j, j < n → w1.cell? ⟨bb, off + j, none⟩ = some (.int .i64 (xs.getD j 0)) := by
    intro j hj
    have := hc j hj
    rw [hbw.cell (World.block_lt_of_cell? w _ this)]
    exact this
  have HC := Lib.hid hcb
  have HB := Lib.hid hbw
  have HS : Hid (w1.heap.size = w.heap.size + 1) := Lib.hid (by rw [hw1]; simp)
  clear hc hcb hbw
  go_enter Tryd.func60, Tryd.ntmps60
  go_wp2
  rw [← hw1]
  clear hw1
  have hgd : w1.drew.cell? ⟨w.heap.size, 0, none⟩ = some (.slice (some ⟨bb, off, none⟩) n ca) := hg
  have hblk : w.heap.size < w1.drew.heap.size := World.block_lt_of_cell? _ _ hgd
  have HGD := Lib.hid hgd
  have HBLK := Lib.hid hblk
  clear hblk
  have HW := Lib.hid (show IntKind.i64.wrap ((n : Int) - k) = (n : Int) - k from IntWalk.i64_in _ (by omega))
  go_region_with (first
    | (go_at_call 47; refine (things_w _ _ _ _ (by omega)).mono ?_; rintro e w' ⟨rfl, rfl⟩)
    | (go_at_call 43; refine (rings_w bb off n ca xs w1.drew h1 h8 HN.out (fun j hj => HC.out j hj)).mono ?_; rintro e w2 ⟨u, rfl, ho, hb5⟩; have HRU := Lib.hid (own_rdv ho); have HB5 := Lib.hid hb5; clear ho hb5)
    | (go_at_call 53; refine (blockCount_v _ _ _ HRU.out HPL.out HPS.out).mono ?_; rintro e w' ⟨rfl, rfl⟩; rw [← HK.out]))
  all_goals (try go_wp2)
  all_goals (go_ret; refine ⟨?_, below_step (below_drewN HB.out 1) HB5.out⟩; simp only [Act.put]; simp; rw [HW.out]; first | rfl | simp)

set_option maxHeartbeats 1600000 in
theorem iRingEven_v (v : Value) (xs : List Int) (w : World) (hE : ErrAt w) (hv : RdV w v xs) : Calls Tryd.prog 29 #[v] w (GivesB w (ringEven xs)) := by
  have hv0 := hv
  obtain ⟨ao, ca, rfl, h, h1, h2⟩ := hv
  unfold maxLen at h2
  have HV := Lib.hid hv0
  clear hv0
  by_cases hr : ringIn xs = true
  · have he : ringEven xs = evenL xs := by simp [ringEven, hr]
    rw [he]
    have HRI := Lib.hid hr
    have HR := Lib.hid (show permOk xs.length xs = true from hr)
    obtain ⟨hl1, hl8, hN, _, _⟩ := permOk_facts HR.out
    rcases h with hx | ⟨bb, off, rfl, hcx⟩
    · rw [hx] at hl1
      simp at hl1
    obtain ⟨n, hn⟩ : ∃ n, n = xs.length := ⟨_, rfl⟩
    rw [← hn] at h1 hl1 hl8 HV HR hN ⊢
    have HN := Lib.hid hn
    have HC := Lib.hid hcx
    clear hr he hn hcx hN
    go_enter Tryd.func29, Tryd.ntmps29
    go_wp2_with fail
    refine (toPerm_yes _ _ _ _ xs _ HV.out HR).mono ?_
    rintro e w1 ⟨rfl, hb⟩
    have hb2 := hb.alloc hb.size (.cells #[.slice (some ⟨bb, off, none⟩) n ca] 41)
    have hg1 : (w1.alloc (.cells #[.slice (some ⟨bb, off, none⟩) n ca] 41)).cell? ⟨w1.heap.size, 0, none⟩ = some (.slice (some ⟨bb, off, none⟩) n ca) := by simp
    have hs1 : w.heap.size ≤ w1.heap.size := hb.size
    go_wp2_with fail
    refine (isNone_nil _).mono ?_
    rintro e w2 ⟨rfl, hb3⟩
    have hb4 := below_step hb2 hb3
    have hg2 : w2.cell? ⟨w1.heap.size, 0, none⟩ = some (.slice (some ⟨bb, off, none⟩) n ca) := by
      rw [hb3.cell (World.block_lt_of_cell? _ _ hg1)]; exact hg1
    have hs2 : w1.heap.size < w2.heap.size := by
      have := World.block_lt_of_cell? _ _ hg2
      simpa using this
    clear hb hb2 hb3 hg1
    obtain ⟨q1, hq1⟩ : ∃ q1, q1 = w1.heap.size := ⟨_, rfl⟩
    rw [← hq1] at hg2 hs1 hs2 ⊢
    clear hq1
    have HG2 := Lib.hid hg2
    go_wp2_with fail
    refine (isEven_w bb off n ca xs _ HRI.out HN.out.symm (fun j hj => by
      have := HC.out j (by have := HN.out; omega)
      rw [hb4.cell (World.block_lt_of_cell? w _ this)]; exact this)).mono ?_
    rintro e w3 ⟨rfl, hb5⟩
    have hb6 := below_step hb4 hb5
    go_wp2
    go_ret
    exact ⟨rfl, hb6⟩
  · have hr : ringIn xs = false := by simpa using hr
    have he : ringEven xs = false := by simp [ringEven, hr]
    rw [he]
    have HR := Lib.hid (show permOk xs.length xs = false from hr)
    clear hr he h
    go_enter Tryd.func29, Tryd.ntmps29
    go_wp2_with fail
    refine (toPerm_no _ _ _ _ xs _ (by omega) HV.out HR).mono ?_
    rintro e w1 ⟨rfl, hb⟩
    have hb2 := hb.alloc hb.size (.cells #[.slice none 0 0] 41)
    go_wp2_with fail
    refine (isNone_hit _ _ (errAt_below hE hb2)).mono ?_
    rintro e w2 ⟨rfl, hb3⟩
    have hb4 := below_step hb2 hb3
    go_wp2
    go_ret
    exact ⟨rfl, hb4⟩

set_option maxHeartbeats 1600000 in
theorem sRingEven_v (v : Value) (xs : List Int) (w : World) (hv : RdV w v xs) : Calls Tryd.prog 33 #[v] w (GivesB w (ringEven xs)) := by
  have hv0 := hv
  obtain ⟨ao, ca, rfl, h, h1, h2⟩ := hv
  unfold maxLen at h2
  have HV := Lib.hid hv0
  clear hv0
  by_cases hr : ringIn xs = true
  · have HR := Lib.hid hr
    have he : ringEven xs = evenL xs := by simp [ringEven, hr]
    rw [he]
    obtain ⟨hl1, hl8, hN, _, _⟩ := permOk_facts (show permOk xs.length xs = true from hr)
    have hps := partIn_small (rings_part hr)
    have hbd := pSize_bd hps
    rcases h with hx | ⟨bb, off, rfl, hcx⟩
    · rw [hx] at hl1
      simp at hl1
    obtain ⟨n, hn⟩ : ∃ n, n = xs.length := ⟨_, rfl⟩
    obtain ⟨k, hk⟩ : ∃ k, k = pSize (ringsOf xs) := ⟨_, rfl⟩
    have hev : evenL xs = decide (((n : Int) - k).tmod 2 = 0) := by rw [evenL, hn, hk]
    rw [hev]
    rw [← hk] at hbd
    rw [← hn] at h1 hl1 hl8 HV hN ⊢
    have HK := Lib.hid hk
    have HPS := Lib.hid hps
    have HNN := Lib.hid hN
    have HN := Lib.hid hn
    have HC := Lib.hid hcx
    clear hr he hn hcx hN hk hps hev
    go_enter Tryd.func33, Tryd.ntmps33
    go_wp2_with fail
    refine (sRingIn_is true _ xs _ HV.out HR).mono ?_
    rintro e w1 ⟨rfl, rfl⟩
    go_wp2_with fail
    refine (l6rPart_w bb off n ca xs _ hl1 hl8 HNN.out (fun j hj => HC.out j (by have := HN.out; omega))).mono ?_
    rintro e w3 ⟨u, rfl, ho, hb5⟩
    have hru := own_rdv ho
    have HRU := Lib.hid hru
    clear ho hru
    go_wp2_with fail
    refine (l1Size_v _ _ _ HRU.out HPS.out).mono ?_
    rintro e w' ⟨rfl, rfl⟩
    rw [← HK.out]
    go_wp2
    go_ret
    exact ⟨rfl, hb5⟩
  · have hr : ringIn xs = false := by simpa using hr
    have he : ringEven xs = false := by simp [ringEven, hr]
    rw [he]
    have HR := Lib.hid hr
    clear hr he h
    go_enter Tryd.func33, Tryd.ntmps33
    go_wp2_with fail
    refine (sRingIn_is false _ xs _ HV.out HR).mono ?_
    rintro e w1 ⟨rfl, rfl⟩
    go_wp2
    go_ret
    exact ⟨rfl, Below.refl _ _⟩

end Go.Proofs.YtdeeeiimlcggpaaDoor
