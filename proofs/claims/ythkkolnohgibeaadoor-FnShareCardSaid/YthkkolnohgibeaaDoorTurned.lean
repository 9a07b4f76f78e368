/-
  The contracts of impl.renamed and PartTurned (impl and spec).
-/
import Derived.Test.YthkkolnohgibeaaDoorKernel
namespace Go.Proofs.YthkkolnohgibeaaDoor
set_option linter.unusedSimpArgs false
set_option linter.unusedVariables false
set_option linter.unnecessarySimpa false
open Go.RowKit

/-- The numbers xs put to the places ps, the first k of them. -/
def putTo (xs ps : List Int) : Nat → List Int
  | 0 => List.replicate xs.length 0
  | k + 1 => (putTo xs ps k).set (ps.getD k 0).toNat (xs.getD k 0)

theorem putTo_length (xs ps : List Int) (k : Nat) : (putTo xs ps k).length = xs.length := by
  induction k with
  | zero => simp [putTo]
  | succ k ih => simp [putTo, ih]

set_option maxHeartbeats 1600000 in
theorem renamed_any (ao bo : Option Addr) (ca cb : Nat) (xs ps : List Int) (w : World) (hx : Rd w ao xs) (hp : Rd w bo ps) (hlen : ps.length = xs.length) (hl : xs.length ≤ 1000000) (hps : ∀ j, j < xs.length → 0 ≤ ps.getD j 0 ∧ ps.getD j 0 < xs.length) :
    Calls Tryd.prog 33 #[.slice ao xs.length ca, .slice bo ps.length cb] w (FreshL w (kOut (putTo xs ps xs.length))) := by
  obtain ⟨n, hn⟩ : ∃ n, n = xs.length := ⟨_, rfl⟩
  rw [hlen, ← hn]
  rw [← hn] at hl
  have HN := Lib.hid hn
  have HLEN := Lib.hid hlen
  have HPS := Lib.hid hps
  clear hn hlen hps
  obtain ⟨i0, hi, hz0, hz1, hz2⟩ := info_parts Tryd.infoInt
  have HX := Lib.hid hx
  have HP := Lib.hid hp
  clear hx hp
  go_enter Tryd.func33, Tryd.ntmps33
  go_wp2_with (at_make; refine wpList_make_full _ rfl _ _ 23 rfl w.heap.size 3 i0 (.int .i64 0) 1 Tryd.underlying23 hi hz0 hz1 _ _ _ _ n rfl rfl rfl rfl (by rw [hz2]; omega) (by unfold maxLen; omega) (Nat.le_refl _) ?_)
  intro w1 hown1 hgrow1
  have hb1 : Below w.heap.size w w1 := (Below.refl _ _).grown hgrow1 (Nat.le_refl _) (fun k h => by cases h)
  have hown := own_made hown1
  clear hown1 hgrow1
  go_wp2
  go_loopw [13] (fun i wr => ∃ k : Nat, k ≤ n ∧ i = .int .i64 k ∧ Own wr w.heap.size (.slice (some ⟨w.heap.size, 0, none⟩) n n) (putTo xs ps k) ∧ Below w.heap.size w wr)
    (fun i _ => n - (intOf i).toNat)
  case atStart => exact ⟨0, Nat.zero_le _, rfl, by rw [putTo, ← HN.out]; exact hown, hb1⟩
  case round =>
    obtain ⟨k, hk, rfl, hown, hbel⟩ := hrel
    by_cases hlt : k < n
    · rcases HX.out with hx | ⟨bb, off, rfl, hcx⟩
      · have := HN.out
        rw [hx] at this
        simp at this
        omega
      · rcases HP.out with hp | ⟨bc, off2, rfl, hcp⟩
        · have := HLEN.out
          rw [hp, ← HN.out] at this
          simp at this
          omega
        · have hck : wr.cell? ⟨bb, off + k, none⟩ = some (.int .i64 (xs.getD k 0)) := by
            have := hcx k (by have := HN.out; omega)
            rw [hbel.cell (World.block_lt_of_cell? w _ this)]
            exact this
          have hcq : wr.cell? ⟨bc, off2 + k, none⟩ = some (.int .i64 (ps.getD k 0)) := by
            have := hcp k (by have := HN.out; have := HLEN.out; omega)
            rw [hbel.cell (World.block_lt_of_cell? w _ this)]
            exact this
          clear hcx hcp
          have hb := HPS.out k (by have := HN.out; omega)
          rw [← HN.out] at hb
          obtain ⟨q, hq⟩ := Int.eq_ofNat_of_zero_le hb.1
          rw [hq] at hcq hb
          have hqn : q < n := by omega
          obtain ⟨x, hx⟩ : ∃ x, x = xs.getD k 0 := ⟨_, rfl⟩
          rw [← hx] at hck
          have hfz := own_frozen hown q
          obtain ⟨v0, hv0⟩ : ∃ v0, wr.cell? ⟨w.heap.size, q, none⟩ = some v0 := ⟨_, own_cell hown q (by rw [putTo_length, ← HN.out]; omega)⟩
          obtain ⟨hst, hgs⟩ := own_stored hown (by rw [putTo_length, ← HN.out]) q x
          have hst' : Own (wr.setCell ⟨w.heap.size, q, none⟩ (.int .i64 x)) w.heap.size (.slice (some ⟨w.heap.size, 0, none⟩) n n) (putTo xs ps (k + 1)) := by
            rw [putTo, hq, ← hx]
            exact hst
          have HST := Lib.hid hst'
          clear hst hgs hst' hx hq hown hb
          go_wp2
          go_roundw
          case rel => exact ⟨k + 1, by omega, by go_num, HST.out, hbel.setCell (Nat.le_refl _) _⟩
          case measure => simp [intOf]; omega
    · have hkn : k = n := by omega
      subst hkn
      have hrd := own_rdv hown
      have HRD := Lib.hid hrd
      go_wp2_with fail
      refine (kernel_v _ _ _ HRD.out (by rw [putTo_length, ← HN.out]; omega)).mono ?_
      rintro e w2 ⟨u, rfl, ho, hb2⟩
      go_wp2
      go_ret
      exact ⟨_, rfl, own_mono ho hbel.size, below_step hbel hb2⟩

theorem renamed_v (v u : Value) (xs ps : List Int) (w : World) (hx : RdV w v xs) (hp : RdV w u ps) (hlen : ps.length = xs.length) (hl : xs.length ≤ 1000000) (hps : ∀ j, j < xs.length → 0 ≤ ps.getD j 0 ∧ ps.getD j 0 < xs.length) :
    Calls Tryd.prog 33 #[v, u] w (FreshL w (kOut (putTo xs ps xs.length))) := by
  obtain ⟨ao, ca, rfl, h, _, _⟩ := hx
  obtain ⟨bo, cb, rfl, k, _, _⟩ := hp
  exact renamed_any ao bo ca cb xs ps w h k hlen hl hps

/-- The names n - 1, n - 2, .. -/
def backNames (n : Nat) : List Int := (List.range n).map (fun (j : Nat) => (n : Int) - 1 - (j : Int))
theorem backNames_length (n : Nat) : (backNames n).length = n := by simp [backNames]
theorem backNames_getD (n j : Nat) (h : j < n) : (backNames n).getD j 0 = (n : Int) - 1 - j := by simp [backNames, List.getD, h]

theorem putTo_back_at (xs : List Int) (k : Nat) (hk : k ≤ xs.length) (j : Nat) (hj : j < xs.length) : (putTo xs (backNames xs.length) k).getD j 0 = if xs.length - 1 - j < k then xs.getD (xs.length - 1 - j) 0 else 0 := by
  induction k with
  | zero => simp [putTo, List.getD, hj]
  | succ k ih =>
    have e : (((xs.length : Int) - 1 - (k : Int))).toNat = xs.length - 1 - k := by omega
    rw [putTo, backNames_getD _ _ (by omega), e, List.getD_eq_getElem?_getD, List.getElem?_set]
    by_cases h : xs.length - 1 - k = j
    · rw [if_pos h, if_pos (by rw [putTo_length]; omega), if_pos (by omega)]
      have : xs.length - 1 - j = k := by omega
      rw [this]
      rfl
    · rw [if_neg h, ← List.getD_eq_getElem?_getD, ih (by omega)]
      by_cases h2 : xs.length - 1 - j < k
      · rw [if_pos h2, if_pos (by omega)]
      · rw [if_neg h2, if_neg (by omega)]

theorem ext_getD {xs ys : List Int} (hl : xs.length = ys.length) (h : ∀ j, j < xs.length → xs.getD j 0 = ys.getD j 0) : xs = ys := by
  apply List.ext_getElem hl
  intro j h1 h2
  have := h j h1
  simpa [List.getD, h1, h2] using this

theorem putTo_back (xs : List Int) : putTo xs (backNames xs.length) xs.length = xs.reverse := by
  refine ext_getD (by rw [putTo_length]; simp) fun j hj => ?_
  rw [putTo_length] at hj
  rw [putTo_back_at xs _ (Nat.le_refl _) j hj, if_pos (by omega)]
  simp [List.getD, hj, show xs.length - 1 - j < xs.length by omega]

def partTurned (xs : List Int) : List Int × Bool := if partIn xs then (kOut xs.reverse, true) else ([], false)

theorem partTurned_len (xs : List Int) (h : xs.length ≤ 1048576) : (partTurned xs).1.length ≤ 2305843009213693952 := by
  unfold partTurned
  split
  · rw [kOut_length]; simp; omega
  · simp

theorem back_stage (n k : Nat) (h : k < n) : ((backNames n).take k ++ List.replicate (n - k) 0).set k ((n : Int) - 1 - k) = (backNames n).take (k + 1) ++ List.replicate (n - (k + 1)) 0 := by
  have := set_stage (backNames n) k (by rw [backNames_length]; omega) ((n : Int) - 1 - k) (backNames_getD n k h).symm
  rwa [backNames_length] at this

set_option maxHeartbeats 1600000 in
theorem iPartTurned_v (v : Value) (xs : List Int) (w : World) (hv : RdV w v xs) : Calls Tryd.prog 9 #[v] w (FreshLB w (partTurned xs)) := by
  have hv0 := hv
  obtain ⟨ao, ca, rfl, h, h1, h2⟩ := hv
  unfold maxLen at h2
  have HV := Lib.hid hv0
  clear hv0
  by_cases hp : partIn xs = true
  · have hr : partTurned xs = (kOut xs.reverse, true) := by simp [partTurned, hp]
    rw [hr]
    have hl := partIn_len hp
    have HP := Lib.hid hp
    clear hp hr h
    obtain ⟨i0, hi, hz0, hz1, hz2⟩ := info_parts Tryd.infoInt
    have HV2 := HV
    obtain ⟨n, hn⟩ : ∃ n, n = xs.length := ⟨_, rfl⟩
    rw [← hn] at hl h1 HV ⊢
    have HN := Lib.hid hn
    clear hn
    obtain ⟨hl1, hl8⟩ := hl
    go_enter Tryd.func9, Tryd.ntmps9
    go_wp2_with fail
    refine (iPartIn_is true _ _ _ HV.out HP).mono ?_
    rintro e w' ⟨rfl, rfl⟩
    go_wp2_with (at_make; refine wpList_make_full _ rfl _ _ 23 rfl w.heap.size 3 i0 (.int .i64 0) 1 Tryd.underlying23 hi hz0 hz1 _ _ _ _ n rfl rfl rfl rfl (by rw [hz2]; omega) (by unfold maxLen; omega) (Nat.le_refl _) ?_)
    intro w1 hown1 hgrow1
    have hb1 : Below w.heap.size w w1 := (Below.refl _ _).grown hgrow1 (Nat.le_refl _) (fun k h => by cases h)
    have hown := own_made hown1
    clear hown1 hgrow1
    go_wp2
    go_loopw [14] (fun i wr => ∃ k : Nat, k ≤ n ∧ i = .int .i64 k ∧ Own wr w.heap.size (.slice (some ⟨w.heap.size, 0, none⟩) n n) ((backNames n).take k ++ List.replicate (n - k) 0) ∧ Below w.heap.size w wr)
      (fun i _ => n - (intOf i).toNat)
    case atStart => exact ⟨0, Nat.zero_le _, rfl, by simpa using hown, hb1⟩
    case round =>
      obtain ⟨k, hk, rfl, hown, hbel⟩ := hrel
      by_cases hlt : k < n
      · have hfz := own_frozen hown k
        have hlr : ((backNames n).take k ++ List.replicate (n - k) 0).length = n := by simp [backNames_length]; omega
        obtain ⟨v0, hv0⟩ : ∃ v0, wr.cell? ⟨w.heap.size, k, none⟩ = some v0 := ⟨_, own_cell hown k (by rw [hlr]; omega)⟩
        obtain ⟨hst, hgs⟩ := own_stored hown hlr.symm k ((n : Int) - 1 - k)
        rw [back_stage n k hlt] at hst
        have HST := Lib.hid hst
        clear hst hgs hlr hown
        go_wp2
        go_roundw
        case rel => exact ⟨k + 1, by omega, by go_num, HST.out, hbel.setCell (Nat.le_refl _) _⟩
        case measure => simp [intOf]; omega
      · have hkn : k = n := by omega
        subst hkn
        rw [Nat.sub_self, List.replicate_zero, List.append_nil, List.take_of_length_le (by rw [backNames_length]; omega)] at hown
        have hrd := own_rdv hown
        have HRD := Lib.hid hrd
        go_wp2_with fail
        refine (renamed_v _ _ xs (backNames k) _ (rdv_below HV.out hbel) HRD.out (by rw [backNames_length, HN.out]) (by rw [← HN.out]; omega) (fun j hj => by rw [← HN.out] at hj ⊢; rw [backNames_getD _ _ hj]; omega)).mono ?_
        rintro e w2 ⟨u, rfl, ho, hb2⟩
        rw [HN.out, putTo_back] at ho
        go_wp2
        go_ret2
        exact ⟨_, rfl, own_mono ho hbel.size, below_step hbel hb2⟩
  · have hp : partIn xs = false := by simpa using hp
    have hr : partTurned xs = ([], false) := by simp [partTurned, hp]
    rw [hr]
    have HP := Lib.hid hp
    clear hp hr h
    go_enter Tryd.func9, Tryd.ntmps9
    go_wp2_with fail
    refine (iPartIn_is false _ _ _ HV.out HP).mono ?_
    rintro e w' ⟨rfl, rfl⟩
    go_wp2
    go_ret2
    exact ⟨_, rfl, own_nil _ _, Below.refl _ _⟩

theorem reverse_take_snoc (xs : List Int) (k : Nat) (h : k < xs.length) : xs.reverse.take (k + 1) = xs.reverse.take k ++ [xs.getD (xs.length - 1 - k) 0] := by
  rw [take_snoc _ _ (by simpa using h)]
  congr 1
  simp [List.getD, h, show xs.length - 1 - k < xs.length by omega]

end Go.Proofs.YthkkolnohgibeaaDoor
