/-
  The contracts of permutation.ring, permutation.rings and RingPart (impl), of spec.l6rPart and RingPart (spec).
-/
import Derived.Test.YtdeeeiimlcggpaaDoorRing
import Derived.Test.YtdeeeiimlcggpaaDoorRingMath
import Derived.Deep.RegionWith
namespace Go.Proofs.YtdeeeiimlcggpaaDoor
set_option linter.unusedSimpArgs false
set_option linter.unusedVariables false
set_option linter.unnecessarySimpa false
set_option maxRecDepth 100000
open Go.RowKit

theorem or_gt : ∀ b, b < 256 → ∀ t, t < 8 → b.testBit t = false → b < b ||| 2 ^ t := by decide +kernel

set_option maxHeartbeats 1600000 in
theorem ring_w (bb off n ca t : Nat) (xs : List Int) (w : World) (hn8 : n ≤ 8) (hN : namesOk n xs = true) (hc : ∀ j, j < n → w.cell? ⟨bb, off + j, none⟩ = some (.int .i64 (xs.getD j 0))) (ht : t < n) :
    Calls Tryd.prog 68 #[.agg #[.slice (some ⟨bb, off, none⟩) n ca], .int .i64 t] w fun e w' => e = .returned (.int .u64 (ringM (nx xs) t : Nat)) ∧ Below w.heap.size w w' := by
  have hL := led_of_names hN
  obtain ⟨f, hf⟩ : ∃ f, f = nx xs := ⟨_, rfl⟩
  have hcf : ∀ j, j < n → w.cell? ⟨bb, off + j, none⟩ = some (.int .i64 ((f j : Nat) : Int)) := by
    intro j hj
    have h1 := (namesOk_facts hN).2 j hj
    rw [hc j hj, hf]
    unfold nx
    rw [Int.toNat_of_nonneg h1.1]
  rw [← hf] at hL ⊢
  have HL := Lib.hid hL
  have HC := Lib.hid hcf
  clear hc hN hf hL hcf
  have hbw : Below w.heap.size w (w.alloc (.cells #[.slice (some ⟨bb, off, none⟩) n ca] 41)) := (Below.refl _ _).alloc (Nat.le_refl _) _
  have hg : (w.alloc (.cells #[.slice (some ⟨bb, off, none⟩) n ca] 41)).cell? ⟨w.heap.size, 0, none⟩ = some (.slice (some ⟨bb, off, none⟩) n ca) := by simp
  have hcb : ∀ j, j < n → (w.alloc (.cells #[.slice (some ⟨bb, off, none⟩) n ca] 41)).cell? ⟨bb, off + j, none⟩ = some (.int .i64 ((f j : Nat) : Int)) := by
    intro j hj
    have := HC.out j hj
    rw [hbw.cell (World.block_lt_of_cell? w _ this)]
    exact this
  have HCB := Lib.hid hcb
  have HB := Lib.hid hbw
  clear hcb hbw
  go_enter Tryd.func68, Tryd.ntmps68
  go_wp2
  go_loop [1, 5] (fun u m => ∃ k : Nat, k ≤ n ∧ u = .int .i64 ((itf f k t : Nat) : Int) ∧ m = .int .u64 ((metTo f t k : Nat) : Int)) (fun _ m => 256 - (intOf m).toNat)
  case atStart => exact ⟨0, Nat.zero_le _, rfl, rfl⟩
  case round =>
    obtain ⟨k, hk, rfl, rfl⟩ := hrel
    have hx := itf_lt HL.out ht k
    have hm := metTo_lt HL.out hn8 ht k
    cases hb : (metTo f t k).testBit (itf f k t)
    · have hroom := metTo_room HL.out ht hk hb
      have hgt := or_gt _ hm _ (by omega) hb
      have hnew := metTo_lt HL.out hn8 ht (k + 1)
      have e1 : metTo f t (k + 1) = metTo f t k ||| 2 ^ itf f k t := rfl
      have e2 : itf f (k + 1) t = f (itf f k t) := rfl
      have hcx := HCB.out (itf f k t) hx
      rw [← e2] at hcx
      rw [← e1] at hgt
      obtain ⟨x, hxe⟩ : ∃ x, x = itf f k t := ⟨_, rfl⟩
      obtain ⟨m, hme⟩ : ∃ m, m = metTo f t k := ⟨_, rfl⟩
      obtain ⟨y, hye⟩ : ∃ y, y = itf f (k + 1) t := ⟨_, rfl⟩
      obtain ⟨z, hze⟩ : ∃ z, z = metTo f t (k + 1) := ⟨_, rfl⟩
      rw [← hxe] at hx hb hcx e1
      rw [← hme] at hm hb hgt e1
      rw [← hye] at hcx
      rw [← hze] at hgt hnew e1
      rw [← hxe, ← hme]
      have HBB := Lib.hid hb
      have HE1 := Lib.hid e1
      have HYE := Lib.hid hye
      have HZE := Lib.hid hze
      clear hb e1 e2 hxe hme hye hze
      go_wp2_with fail
      refine (has_any m x _ hm (by omega)).mono ?_
      rintro e w' ⟨rfl, rfl⟩
      rw [HBB.out]
      go_wp2_with fail
      refine (with_any m x _ hm (by omega)).mono ?_
      rintro e w' ⟨rfl, rfl⟩
      go_wp2_with fail
      refine (next_w bb off n ca x y _ hcx hx (by omega)).mono ?_
      rintro e w' ⟨rfl, rfl⟩
      go_wp2
      go_round
      case rel => exact ⟨k + 1, by omega, by rw [HYE.out], by rw [← HE1.out, HZE.out]⟩
      case measure =>
        rw [← HE1.out]
        simp [intOf]
        omega
    · have hdone := metTo_done HL.out hn8 ht hb
      obtain ⟨x, hxe⟩ : ∃ x, x = itf f k t := ⟨_, rfl⟩
      obtain ⟨m, hme⟩ : ∃ m, m = metTo f t k := ⟨_, rfl⟩
      rw [← hxe] at hx hb
      rw [← hme] at hm hb hdone ⊢
      rw [← hxe]
      have HBB := Lib.hid hb
      have HD := Lib.hid hdone
      clear hb hdone hxe hme
      go_wp2_with fail
      refine (has_any m x _ hm (by omega)).mono ?_
      rintro e w' ⟨rfl, rfl⟩
      rw [HBB.out]
      go_wp2
      go_ret
      exact ⟨by rw [HD.out]; rfl, HB.out⟩

set_option maxHeartbeats 1600000 in
theorem rings_w (bb off n ca : Nat) (xs : List Int) (w : World) (hn1 : 1 ≤ n) (hn8 : n ≤ 8) (hN : namesOk n xs = true) (hc : ∀ j, j < n → w.cell? ⟨bb, off + j, none⟩ = some (.int .i64 (xs.getD j 0))) :
    Calls Tryd.prog 43 #[.agg #[.slice (some ⟨bb, off, none⟩) n ca]] w (FreshL w (ringsOf xs)) := by
  have hlen := (namesOk_facts hN).1
  have hL := led_of_names hN
  have he : ringsOf xs = kOut (ringMs (nx xs) n) := by rw [ringsOf, hlen, rings_same hL hn8]
  rw [he]
  have HC := Lib.hid hc
  have HN := Lib.hid hN
  have HL := Lib.hid hL
  clear he hlen hN hL hc
  have hbw : Below w.heap.size w (w.alloc (.cells #[.slice (some ⟨bb, off, none⟩) n ca] 41)) := (Below.refl _ _).alloc (Nat.le_refl _) _
  have hg : (w.alloc (.cells #[.slice (some ⟨bb, off, none⟩) n ca] 41)).cell? ⟨w.heap.size, 0, none⟩ = some (.slice (some ⟨bb, off, none⟩) n ca) := by simp
  have hsz : (w.alloc (.cells #[.slice (some ⟨bb, off, none⟩) n ca] 41)).heap.size = w.heap.size + 1 := by simp
  have HB := Lib.hid hbw
  have HG := Lib.hid hg
  have HSZ := Lib.hid hsz
  clear hbw hg hsz
  obtain ⟨i0, hi, hz0, hz1, hz2⟩ := info_parts Tryd.infoInt
  go_enter Tryd.func43, Tryd.ntmps43
  go_wp2_with (first | (go_at_call 47; refine (things_w _ _ _ _ (by omega)).mono ?_; rintro e w' ⟨rfl, rfl⟩) | (at_make; refine wpList_make_full _ rfl _ _ 23 rfl (w.heap.size + 1) 3 i0 (.int .i64 0) 1 Tryd.underlying23 hi hz0 hz1 _ _ _ _ n rfl rfl rfl rfl (by rw [hz2]; omega) (by unfold maxLen; omega) (by rw [HSZ.out]; exact Nat.le_refl _) ?_))
  intro w3 hown3 hgrow3
  obtain ⟨w1, hw1⟩ : ∃ w1, w1 = w.alloc (.cells #[.slice (some ⟨bb, off, none⟩) n ca] 41) := ⟨_, rfl⟩
  have hb0 := HB.out
  have hg0 := HG.out
  have hs0 := HSZ.out
  rw [← hw1] at hb0 hg0 hs0 hgrow3
  have hb5 : Below (w.heap.size + 1) w1 w3 := (Below.refl _ _).grown hgrow3 (by omega) (fun k h => by cases h)
  have hown := own_made hown3
  clear hown3 hgrow3 HB HG HSZ hs0 hw1
  have HB0 := Lib.hid hb0
  have HG0 := Lib.hid hg0
  clear hb0 hg0
  obtain ⟨m, hm⟩ : ∃ m, m = w.heap.size + 1 := ⟨_, rfl⟩
  obtain ⟨q1, hq1⟩ : ∃ q1, q1 = w.heap.size := ⟨_, rfl⟩
  rw [← hm] at hown hb5 ⊢
  have hqm : q1 < m := by omega
  have HM : Hid (m = w.heap.size + 1) := Lib.hid hm
  have HQ : Hid (q1 = w.heap.size) := Lib.hid hq1
  have HG1 : Hid (w1.cell? ⟨q1, 0, none⟩ = some (.slice (some ⟨bb, off, none⟩) n ca)) := Lib.hid (by rw [hq1]; exact HG0.out)
  clear HG0 hm
  rw [← hq1]
  clear hq1
  go_wp2
  go_loopw [11] (fun i wr => ∃ k : Nat, k ≤ n ∧ i = .int .i64 k ∧ Own wr m (.slice (some ⟨m, 0, none⟩) n n) ((ringMs (nx xs) n).take k ++ List.replicate (n - k) 0) ∧ Below m w1 wr)
    (fun i _ => n - (intOf i).toNat)
  case atStart => exact ⟨0, Nat.zero_le _, rfl, by simpa using hown, hb5⟩
  case round =>
    obtain ⟨k, hk, rfl, hown, hbel⟩ := hrel
    have hbelw : Below w.heap.size w wr := HB0.out.trans (hbel.mono (by have := HM.out; omega))
    by_cases hlt : k < n
    · have hcw : ∀ j, j < n → wr.cell? ⟨bb, off + j, none⟩ = some (.int .i64 (xs.getD j 0)) := fun j hj => by
        have := HC.out j hj
        rw [hbelw.cell (World.block_lt_of_cell? w _ this)]
        exact this
      have hgr : wr.cell? ⟨q1, 0, none⟩ = some (.slice (some ⟨bb, off, none⟩) n ca) := by
        rw [hbel.cell (by simpa using hqm)]; exact HG1.out
      have HCW := Lib.hid hcw
      have HO := Lib.hid hown
      have hmw : m ≤ wr.heap.size := by have := (own_lt hown m rfl).2; omega
      clear hcw hown
      go_wp2_with fail
      refine (ring_w bb off n ca k xs _ hn8 HN.out HCW.out hlt).mono ?_
      rintro e w4 ⟨rfl, hb⟩
      have hr8 : ringM (nx xs) k < 256 := metTo_lt HL.out hn8 hlt 8
      have hown4 := own_below HO.out hb
      have hbel4 : Below m w1 w4 := hbel.trans (hb.mono hmw)
      obtain ⟨x, hx⟩ : ∃ x, x = ringM (nx xs) k := ⟨_, rfl⟩
      rw [← hx] at hr8 ⊢
      have hll : n = ((ringMs (nx xs) n).take k ++ List.replicate (n - k) 0).length := by simp [ringMs_length]; omega
      have hfz := own_frozen hown4 k
      obtain ⟨v0, hv0⟩ : ∃ v0, w4.cell? ⟨m, k, none⟩ = some v0 := ⟨_, own_cell hown4 k (by omega)⟩
      obtain ⟨hst, hgst⟩ := own_stored hown4 hll k x
      have hst' : Own (w4.setCell ⟨m, k, none⟩ (.int .i64 x)) m (.slice (some ⟨m, 0, none⟩) n n) ((ringMs (nx xs) n).take (k + 1) ++ List.replicate (n - (k + 1)) 0) := by
        have hse := set_stage (ringMs (nx xs) n) k (by rw [ringMs_length]; omega) (x : Int) (by rw [ringMs_getD _ _ _ hlt, hx])
        rw [ringMs_length] at hse
        rw [← hse]
        exact hst
      have HST := Lib.hid hst'
      clear hst hgst hst' hx hown4 hll hgr
      go_wp2
      go_roundw
      case rel => exact ⟨k + 1, by omega, by go_num, HST.out, hbel4.setCell (Nat.le_refl _) _⟩
      case measure => simp [intOf]; omega
    · have hkn : k = n := by omega
      subst hkn
      rw [show (ringMs (nx xs) k).take k ++ List.replicate (k - k) 0 = ringMs (nx xs) k by
        rw [Nat.sub_self, List.replicate_zero, List.append_nil]
        exact List.take_of_length_le (by rw [ringMs_length]; exact Nat.le_refl _)] at hown
      have hrd := own_rdv hown
      have HRD := Lib.hid hrd
      have hmw : w.heap.size ≤ m := by have := HM.out; omega
      clear hown hrd
      go_wp2_with fail
      refine (kernel_v _ _ _ HRD.out (by rw [ringMs_length]; omega)).mono ?_
      rintro e w5 ⟨u, rfl, ho, hb2⟩
      go_wp2
      go_ret
      exact ⟨_, rfl, own_mono ho hbelw.size, below_step hbelw hb2⟩

def ringPart (xs : List Int) : List Int × Bool := if ringIn xs then (ringsOf xs, true) else ([], false)

theorem ringPart_len (xs : List Int) (h : xs.length ≤ 1048576) : (ringPart xs).1.length ≤ 2305843009213693952 := by
  unfold ringPart
  split
  · rw [ringsOf_length]; omega
  · simp

set_option maxHeartbeats 1600000 in
theorem iRingPart_v (v : Value) (xs : List Int) (w : World) (hE : ErrAt w) (hv : RdV w v xs) : Calls Tryd.prog 14 #[v] w (FreshLB w (ringPart xs)) := by
  have hv0 := hv
  obtain ⟨ao, ca, rfl, h, h1, h2⟩ := hv
  unfold maxLen at h2
  have HV := Lib.hid hv0
  clear hv0
  by_cases hr : ringIn xs = true
  · have he : ringPart xs = (ringsOf xs, true) := by simp [ringPart, hr]
    rw [he]
    have HR := Lib.hid (show permOk xs.length xs = true from hr)
    obtain ⟨hl1, hl8, hN, _, _⟩ := permOk_facts HR.out
    rcases h with hx | ⟨bb, off, rfl, hcx⟩
    · rw [hx] at hl1
      simp at hl1
    obtain ⟨n, hn⟩ : ∃ n, n = xs.length := ⟨_, rfl⟩
    rw [← hn] at h1 hl1 hl8 HV HR hN ⊢
    have HNN := Lib.hid hN
    have HN := Lib.hid hn
    have HC := Lib.hid hcx
    clear hr he hn hcx hN
    go_enter Tryd.func14, Tryd.ntmps14
    go_wp2_with fail
    refine (toPerm_yes _ _ _ _ xs _ HV.out HR).mono ?_
    rintro e w1 ⟨rfl, hb⟩
    have hb2 := hb.alloc hb.size (.cells #[.slice (some ⟨bb, off, none⟩) n ca] 41)
    have hg1 : (w1.alloc (.cells #[.slice (some ⟨bb, off, none⟩) n ca] 41)).cell? ⟨w1.heap.size, 0, none⟩ = some (.slice (some ⟨bb, off, none⟩) n ca) := by simp
    have hs1 : w.heap.size ≤ w1.heap.size := hb.size
    go_wp2_with fail
    refine (isNone_nil _).mono ?_
    rintro e w2 ⟨rfl, hb3⟩
    have hb4 := below_step hb2 hb3
    have hg2 : w2.cell? ⟨w1.heap.size, 0, none⟩ = some (.slice (some ⟨bb, off, none⟩) n ca) := by
      rw [hb3.cell (World.block_lt_of_cell? _ _ hg1)]; exact hg1
    have hs2 : w1.heap.size < w2.heap.size := by
      have := World.block_lt_of_cell? _ _ hg2
      simpa using this
    clear hb hb2 hb3 hg1
    obtain ⟨q1, hq1⟩ : ∃ q1, q1 = w1.heap.size := ⟨_, rfl⟩
    rw [← hq1] at hg2 hs1 hs2 ⊢
    clear hq1
    have HG2 := Lib.hid hg2
    go_wp2_with fail
    refine (rings_w bb off n ca xs _ hl1 hl8 HNN.out (fun j hj => by
      have := HC.out j (by have := HN.out; omega)
      rw [hb4.cell (World.block_lt_of_cell? w _ this)]; exact this)).mono ?_
    rintro e w3 ⟨u, rfl, ho, hb5⟩
    go_wp2
    go_ret2
    exact ⟨_, rfl, own_mono ho hb4.size, below_step hb4 hb5⟩
  · have hr : ringIn xs = false := by simpa using hr
    have he : ringPart xs = ([], false) := by simp [ringPart, hr]
    rw [he]
    have HR := Lib.hid (show permOk xs.length xs = false from hr)
    clear hr he h
    go_enter Tryd.func14, Tryd.ntmps14
    go_wp2_with fail
    refine (toPerm_no _ _ _ _ xs _ (by omega) HV.out HR).mono ?_
    rintro e w1 ⟨rfl, hb⟩
    have hb2 := hb.alloc hb.size (.cells #[.slice none 0 0] 41)
    go_wp2_with fail
    refine (isNone_hit _ _ (errAt_below hE hb2)).mono ?_
    rintro e w2 ⟨rfl, hb3⟩
    have hb4 := below_step hb2 hb3
    go_wp2
    go_ret2
    exact ⟨_, rfl, own_nil _ _, hb4⟩

/-- How many steps are left from x to i. -/
def left (f : Nat → Nat) (i : Nat) : Nat → Nat → Nat
  | 0, _ => 0
  | N + 1, x => if x = i then 0 else 1 + left f i N (f x)

theorem left_stable (f : Nat → Nat) (i : Nat) : ∀ N x m, m ≤ N → itf f m x = i → left f i (N + 1) x = left f i N x := by
  intro N
  induction N with
  | zero =>
    intro x m hm e
    obtain rfl : m = 0 := by omega
    have : x = i := e
    simp [left, this]
  | succ N ih =>
    intro x m hm e
    by_cases hx : x = i
    · simp [left, hx]
    · cases m with
      | zero => exact absurd e hx
      | succ m =>
        have e' : itf f m (f x) = i := by
          have := itf_add f m 1 x
          rw [e] at this
          exact this.symm
        have := ih (f x) m (by omega) e'
        rw [left, if_neg hx, this]
        conv => rhs; rw [left, if_neg hx]

theorem left_less {f : Nat → Nat} {i x m : Nat} (hm : m ≤ 8) (e : itf f m x = i) (hx : x ≠ i) : left f i 9 (f x) < left f i 9 x := by
  cases m with
  | zero => exact absurd e hx
  | succ m =>
    have e' : itf f m (f x) = i := by
      have := itf_add f m 1 x
      rw [e] at this
      exact this.symm
    have h1 : left f i 9 (f x) = left f i 8 (f x) := left_stable f i 8 (f x) m (by omega) e'
    have h2 : left f i 9 x = 1 + left f i 8 (f x) := by rw [left, if_neg hx]
    omega

set_option maxHeartbeats 3200000 in
theorem l6rPart_w (bb off n ca : Nat) (xs : List Int) (w : World) (hn1 : 1 ≤ n) (hn8 : n ≤ 8) (hN : namesOk n xs = true) (hc : ∀ j, j < n → w.cell? ⟨bb, off + j, none⟩ = some (.int .i64 (xs.getD j 0))) :
    Calls Tryd.prog 46 #[.slice (some ⟨bb, off, none⟩) n ca] w (FreshL w (ringsOf xs)) := by
  have hlen := (namesOk_facts hN).1
  have hL := led_of_names hN
  have he : ringsOf xs = kOut (ringLs (nx xs) n) := by rw [ringsOf, hlen]
  rw [he]
  obtain ⟨f, hf⟩ : ∃ f, f = nx xs := ⟨_, rfl⟩
  have hcf : ∀ j, j < n → w.cell? ⟨bb, off + j, none⟩ = some (.int .i64 ((f j : Nat) : Int)) := by
    intro j hj
    have h1 := (namesOk_facts hN).2 j hj
    rw [hc j hj, hf]
    unfold nx
    rw [Int.toNat_of_nonneg h1.1]
  rw [← hf] at hL ⊢
  have HL := Lib.hid hL
  have HC := Lib.hid hcf
  clear hc hN hf hL hcf he hlen
  go_enter Tryd.func46, Tryd.ntmps46
  go_wp2
  go_loopw [3, 4] (fun u i wr => ∃ k g cap : Nat, k ≤ n ∧ i = .int .i64 k ∧ u = .slice (some ⟨g, 0, none⟩) k cap ∧ Own wr w.heap.size (.slice (some ⟨g, 0, none⟩) k cap) ((ringLs f n).take k) ∧ Below w.heap.size w wr)
    (fun _ i _ => n - (intOf i).toNat)
  case atStart => exact ⟨0, w.heap.size, 0, Nat.zero_le _, rfl, rfl, own_empty w _ (Nat.le_refl _), (Below.refl _ _).alloc (Nat.le_refl _) _⟩
  case round =>
    obtain ⟨k, g, cap, hk, rfl, rfl, hown, hbel⟩ := hrel
    by_cases hlt : k < n
    · obtain ⟨w0, hw0⟩ : ∃ w0 : World, w0 = wr := ⟨_, rfl⟩
      subst hw0
      have hcw : ∀ j, j < n → w0.cell? ⟨bb, off + j, none⟩ = some (.int .i64 ((f j : Nat) : Int)) := fun j hj => by
        have := HC.out j hj
        rw [hbel.cell (World.block_lt_of_cell? w _ this)]
        exact this
      have HCW := Lib.hid hcw
      have hck := hcw k hlt
      have HO := Lib.hid hown
      have hB := hbel.size
      have hkl : k = ((ringLs f n).take k).length := by rw [List.length_take, ringLs_length]; omega
      have HKL := Lib.hid hkl
      have hts := take_snoc (ringLs f n) k (by rw [ringLs_length]; omega)
      rw [ringLs_getD _ _ _ hlt] at hts
      have HTS := Lib.hid hts
      clear hcw hown hkl hts
      go_wp2
      go_loopw [5, 6] (fun l x wr => ∃ j : Nat, l = .int .i64 ((leastTo f k j : Nat) : Int) ∧ x = .int .i64 ((itf f (j + 1) k : Nat) : Int) ∧ (∀ a, 1 ≤ a → a ≤ j → itf f a k ≠ k) ∧ wr = w0)
        (fun _ x _ => left f k 9 (intOf x).toNat)
      case atStart => exact ⟨0, rfl, rfl, fun a h1 h2 => by omega, rfl⟩
      case round =>
        obtain ⟨j, rfl, rfl, hno, rfl⟩ := hrel
        have HNO := Lib.hid hno
        have hroom := leastTo_room HL.out hlt hno
        clear hno
        have hx := itf_lt HL.out hlt (j + 1)
        have hl := leastTo_lt HL.out hlt j
        have hmin : leastTo f k (j + 1) = min (leastTo f k j) (itf f (j + 1) k) := rfl
        have hnx : itf f (j + 1 + 1) k = f (itf f (j + 1) k) := rfl
        have hcx := HCW.out _ hx
        rw [← hnx] at hcx
        by_cases hret : itf f (j + 1) k = k
        · have hd := leastTo_done HL.out hn8 hlt hret
          rw [hret, hd]
          have HRL : ringL f k < n := leastTo_lt HL.out hlt 8
          obtain ⟨y, hy⟩ : ∃ y, y = ringL f k := ⟨_, rfl⟩
          rw [← hy]
          have HY := Lib.hid hy
          clear hd hy hret hcx hmin hnx hx hl hroom HRL
          go_wp2_with (at_builtin; refine wpList_push rfl _ _ rfl w.heap.size g k cap ((ringLs f n).take k) rfl (own_alloc HO.out _) HKL.out ⟨wr.heap.size, 0, none⟩ rfl (y : Int) (cell_new1 _ _ _) (by omega) (by simp; omega) ?_)
          intro g' cap' w2 hown2 hgr2 hg2
          have hbel2 : Below w.heap.size w w2 := (hbel.alloc hB _).grown hgr2 (by simp; omega) (fun q hq => by cases hq; exact (own_lt HO.out g rfl).1)
          have HO2 := Lib.hid hown2
          clear hown2 hgr2 hg2
          go_wp2
          go_roundw
          case rel => exact ⟨k + 1, g', cap', by omega, by go_num, rfl, by rw [HTS.out, ← HY.out]; exact HO2.out, hbel2⟩
          case measure => simp [intOf]; omega
        · obtain ⟨m, h1, h2, h3⟩ := itf_back HL.out hlt
          have hjm : j + 1 < m := by
            refine Nat.lt_of_not_le fun hle => ?_
            rcases Nat.lt_or_ge j m with hjm | hjm
            · obtain rfl : m = j + 1 := by omega
              exact hret h3
            · exact HNO.out m h1 hjm h3
          have hless := left_less (f := f) (i := k) (x := itf f (j + 1) k) (m := m - (j + 1)) (by omega) (by rw [← itf_add, Nat.sub_add_cancel (by omega)]; exact h3) hret
          rw [← hnx] at hless
          have hno2 : ∀ a, 1 ≤ a → a ≤ j + 1 → itf f a k ≠ k := by
            intro a ha1 ha2
            by_cases ha : a = j + 1
            · rw [ha]; exact hret
            · exact HNO.out a ha1 (by omega)
          have HNO2 := Lib.hid hno2
          obtain ⟨x, hxe⟩ : ∃ x, x = itf f (j + 1) k := ⟨_, rfl⟩
          obtain ⟨y, hye⟩ : ∃ y, y = itf f (j + 1 + 1) k := ⟨_, rfl⟩
          obtain ⟨l, hle⟩ : ∃ l, l = leastTo f k j := ⟨_, rfl⟩
          obtain ⟨p, hpe⟩ : ∃ p, p = leastTo f k (j + 1) := ⟨_, rfl⟩
          rw [← hxe] at hx hcx hret hmin hless ⊢
          rw [← hye] at hcx hless
          rw [← hle] at hl hmin ⊢
          rw [← hpe] at hmin
          have HLESS := Lib.hid hless
          have HYE := Lib.hid hye
          have HPE := Lib.hid hpe
          have HMIN : Hid ((p : Int) = min (l : Int) (x : Int)) := Lib.hid (by omega)
          have hb0 : ((x : Int) != (k : Int)) = true := by simp; omega
          have hb1 : ((x : Int) == (k : Int)) = false := by simp; omega
          clear hno2 hnx hxe hye hle hpe hmin hret hless hjm h1 h2 h3
          go_wp2
          go_roundw
          case rel => exact ⟨j + 1, by rw [← HPE.out, HMIN.out]; first | rfl | (congr 1; split <;> omega), by rw [HYE.out], HNO2.out, by first | rfl | trivial⟩
          case measure => simpa [intOf] using HLESS.out
    · have hkn : k = n := by omega
      subst hkn
      rw [show (ringLs f k).take k = ringLs f k from List.take_of_length_le (by rw [ringLs_length]; exact Nat.le_refl _)] at hown
      have hrd := own_rdv hown
      have HRD := Lib.hid hrd
      clear hown hrd
      go_wp2_with fail
      refine (l1Kernel_v _ _ _ HRD.out (by rw [ringLs_length]; omega)).mono ?_
      rintro e w5 ⟨u, rfl, ho, hb2⟩
      go_wp2
      go_ret
      exact ⟨_, rfl, own_mono ho hbel.size, below_step hbel hb2⟩

theorem sRingPart_v (v : Value) (xs : List Int) (w : World) (hv : RdV w v xs) : Calls Tryd.prog 17 #[v] w (FreshLB w (ringPart xs)) := by
  have hv0 := hv
  obtain ⟨ao, ca, rfl, h, h1, h2⟩ := hv
  unfold maxLen at h2
  have HV := Lib.hid hv0
  clear hv0
  by_cases hr : ringIn xs = true
  · have he : ringPart xs = (ringsOf xs, true) := by simp [ringPart, hr]
    rw [he]
    have HR := Lib.hid hr
    obtain ⟨hl1, hl8, hN, _, _⟩ := permOk_facts (show permOk xs.length xs = true from hr)
    rcases h with hx | ⟨bb, off, rfl, hcx⟩
    · rw [hx] at hl1
      simp at hl1
    obtain ⟨n, hn⟩ : ∃ n, n = xs.length := ⟨_, rfl⟩
    rw [← hn] at h1 hl1 hl8 HV hN ⊢
    have HNN := Lib.hid hN
    have HN := Lib.hid hn
    have HC := Lib.hid hcx
    clear hr he hn hcx hN
    go_enter Tryd.func17, Tryd.ntmps17
    go_wp2_with fail
    refine (sRingIn_is true _ xs _ HV.out HR).mono ?_
    rintro e w1 ⟨rfl, rfl⟩
    go_wp2_with fail
    refine (l6rPart_w bb off n ca xs _ hl1 hl8 HNN.out (fun j hj => HC.out j (by have := HN.out; omega))).mono ?_
    rintro e w3 ⟨u, rfl, ho, hb5⟩
    go_wp2
    go_ret2
    exact ⟨_, rfl, ho, hb5⟩
  · have hr : ringIn xs = false := by simpa using hr
    have he : ringPart xs = ([], false) := by simp [ringPart, hr]
    rw [he]
    have HR := Lib.hid hr
    clear hr he h
    go_enter Tryd.func17, Tryd.ntmps17
    go_wp2_with fail
    refine (sRingIn_is false _ xs _ HV.out HR).mono ?_
    rintro e w1 ⟨rfl, rfl⟩
    go_wp2
    go_ret2
    exact ⟨_, rfl, own_empty _ _ (Nat.le_refl _), (Below.refl _ _).alloc (Nat.le_refl _) _⟩

end Go.Proofs.YtdeeeiimlcggpaaDoor
