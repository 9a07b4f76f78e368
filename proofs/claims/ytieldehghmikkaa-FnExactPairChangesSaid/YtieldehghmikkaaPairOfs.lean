/-
  The contracts of l8Of, pairsOf, pairLists and of PairOf of both sides.
-/
import Derived.Test.YtieldehghmikkaaPairSel
import Derived.Test.YtieldehghmikkaaPairTold
import Derived.Test.YtieldehghmikkaaMatIn
import Derived.Test.YtieldehghmikkaaMatHelp
import Derived.Test.YtieldehghmikkaaPartIn
import Derived.Test.YtieldehghmikkaaCells
namespace Go.Proofs.Ytieldehghmikkaa
set_option linter.unusedSimpArgs false
set_option linter.unusedVariables false
set_option linter.unnecessarySimpa false
open Go.RowKit
set_option maxRecDepth 100000

set_option maxHeartbeats 4000000 in
theorem l8Of_any (v : Value) (xs : List Int) (w : World) (hv : RdV w v xs) (hl8 : xs.length ≤ 8) : Calls Try.prog 46 #[v] w (FreshM w (encPs (ofP xs))) := by
  rw [ofP_sel]
  obtain ⟨ao, ca, rfl, hx, hlc, hcm⟩ := hv
  obtain ⟨n, hn⟩ : ∃ n, n = xs.length := ⟨_, rfl⟩
  obtain ⟨f, hf⟩ : ∃ f : Nat × Nat → Bool, f = fun p => xs.getD p.1 0 == xs.getD p.2 0 := ⟨_, rfl⟩
  have HF : Hid (∀ i k, f (i, k) = (xs.getD i 0 == xs.getD k 0)) := Lib.hid fun i k => by rw [hf]
  rw [← hn] at hl8 hlc ⊢
  rw [← hf]
  have HN := Lib.hid hn
  have HX := Lib.hid hx
  clear hn hx hf
  go_enter Try.func46, Try.ntmps46
  go_wp2
  go_loopw [3, 4] (fun u i wr => ∃ (k : Nat), k ≤ n ∧ i = .int .i64 k ∧ OwnM wr w.heap.size wr.heap.size u (encPs (selRows f n k)) ∧ Below w.heap.size w wr) (fun _ i _ => n - (intOf i).toNat)
  case atStart => exact ⟨0, Nat.zero_le _, rfl, by simpa [selRows, encPs] using ownM_empty w _ (Nat.le_refl _), (Below.refl _ _).alloc (Nat.le_refl _) _⟩
  case round =>
    obtain ⟨k, hk, rfl, hown, hbel⟩ := hrel
    by_cases hlt : k < n
    · have HO1 := Lib.hid hown
      have HB1 := Lib.hid hbel
      obtain ⟨wo, hwo⟩ : ∃ wo : World, wo = wr := ⟨_, rfl⟩
      have HWO := Lib.hid hwo
      clear hown hbel
      go_wp2
      go_loopw [3, 5] (fun u i wr => ∃ (t : Nat), k + 1 ≤ t ∧ t ≤ n ∧ i = .int .i64 t ∧ OwnM wr w.heap.size wr.heap.size u (encPs (selRows f n k ++ selRow f k t)) ∧ Below w.heap.size w wr) (fun _ i _ => n - (intOf i).toNat)
      case atStart => exact ⟨k + 1, Nat.le_refl _, by omega, by go_num, by rw [selRow_start f k (k + 1) (Nat.le_refl _), List.append_nil]; exact HO1.out, HB1.out⟩
      case round =>
        obtain ⟨t, ht1, ht, rfl, hown, hbel⟩ := hrel
        have HO := Lib.hid hown
        have hbs := hbel.size
        clear hown
        by_cases htn : t < n
        · rcases HX.out with hx | ⟨bb, off, rfl, hcx⟩
          · have := HN.out
            rw [hx] at this
            simp at this
            omega
          have hc1 := cellSt (hcx k (by have := HN.out; omega)) hbel
          have hc2 := cellSt (hcx t (by have := HN.out; omega)) hbel
          have hst := selRow_next f k t (by omega)
          rw [HF.out] at hst
          have hll := sel_len f (n := n) (i := k) (k := t) (by omega) hk ht
          obtain ⟨x, hx⟩ : ∃ x, x = xs.getD k 0 := ⟨_, rfl⟩
          obtain ⟨y, hy⟩ : ∃ y, y = xs.getD t 0 := ⟨_, rfl⟩
          rw [← hx] at hc1 hst
          rw [← hy] at hc2 hst
          obtain ⟨A, hA⟩ : ∃ A, A = selRows f n k ++ selRow f k t := ⟨_, rfl⟩
          have hst2 : selRows f n k ++ selRow f k (t + 1) = A ++ if x == y then [(k, t)] else [] := by rw [hA, hst, List.append_assoc]
          rw [← hA] at HO hll
          obtain ⟨m, hm⟩ : ∃ m, m = A.length := ⟨_, rfl⟩
          rw [← hm] at hll
          have HM := Lib.hid hm
          have HST := Lib.hid hst2
          have b0 : (k : Int) < n := by omega
          have b1 : (t : Int) < n := by omega
          clear hcx hst hst2 hx hy hA hm
          by_cases hxy : x = y
          · have hd : (x == y) = true := by simpa using hxy
            have HSE : Hid (selRows f n k ++ selRow f k (t + 1) = A ++ [(k, t)]) := Lib.hid (by rw [HST.out, if_pos hd])
            clear hxy
            go_wp2
            go_quiet (fail)
            have hcell := cell_new1 ((wr.drewN nq).alloc (.cells #[.int .i64 k, .int .i64 t] 3)) (.slice (some ⟨wr.heap.size, 0, none⟩) 2 2) 27
            rw [show ((wr.drewN nq).alloc (.cells #[.int .i64 k, .int .i64 t] 3)).heap.size = wr.heap.size + 1 by simp] at hcell
            have hou : Own (((wr.drewN nq).alloc (.cells #[.int .i64 k, .int .i64 t] 3)).alloc (.cells #[.slice (some ⟨wr.heap.size, 0, none⟩) 2 2] 27)) w.heap.size (.slice (some ⟨wr.heap.size, 0, none⟩) 2 2) [(k : Int), (t : Int)] := own_alloc (own_two (wr.drewN nq) w.heap.size k t (by simp; omega)) _
            have hb3 := ((below_drewN (Below.refl wr.heap.size wr) nq).alloc (by simp) (.cells #[.int .i64 k, .int .i64 t] 3)).alloc (by simp) (.cells #[.slice (some ⟨wr.heap.size, 0, none⟩) 2 2] 27)
            have HOM := Lib.hid (ownM_below HO.out hb3)
            have HBQ := Lib.hid (below_step hbel hb3)
            have HCE := Lib.hid hcell
            have HOU := Lib.hid hou
            clear hcell hou hb3
            go_wp2_with (at_builtin; refine wpList_pushV rfl _ _ rfl w.heap.size wr.heap.size m _ (encPs A) rfl HOM.out (by rw [HM.out, encPs_length]) ⟨wr.heap.size + 1, 0, none⟩ rfl _ _ HCE.out HOU.out (fun q hq => by simp [Value.ownBlock] at hq; simp; omega) hbs (by simp; omega) (by omega) ?_; intro g4 cap4 w4 hown4 hgr4)
            have hbel4 : Below w.heap.size w w4 := HBQ.out.grown hgr4 (by simp; omega) (fun q hq => by
              obtain ⟨vs, hr⟩ := ownM_row0 HOM.out
              exact (World.ownsRow.lt hr q hq).1)
            have HO4 := Lib.hid hown4
            clear hown4 hgr4
            go_wp2
            go_roundw
            case rel => exact ⟨t + 1, by omega, by omega, by go_num, by rw [HSE.out, encPs_append]; exact HO4.out, hbel4⟩
            case measure => simp [intOf]; omega
          · have hd : (x == y) = false := by simpa using hxy
            have HSE : Hid (selRows f n k ++ selRow f k (t + 1) = A) := Lib.hid (by rw [HST.out, hd]; simp)
            clear hxy
            go_wp2
            go_quiet (fail)
            go_wp2
            go_roundw
            case rel => exact ⟨t + 1, by omega, by omega, by go_num, by rw [HSE.out]; exact ownM_mono (ownM_below HO.out (below_drewN (Below.refl _ _) _)) (Nat.le_refl _) (by simp), below_drewN hbel _⟩
            case measure => simp [intOf]; omega
        · have htn' : t = n := by omega
          subst htn'
          go_wp2
          go_roundw
          case rel => exact ⟨k + 1, by omega, by go_num, by rw [selRows_next]; exact HO.out, hbel⟩
          case measure => simp [intOf]; omega
    · have hkn : k = n := by omega
      subst hkn
      go_wp2
      go_ret
      exact ⟨_, rfl, hown, hbel⟩

set_option maxHeartbeats 4000000 in
theorem pairsOf_any (v : Value) (xs : List Int) (w : World) (hv : RdV w v xs) (hl8 : xs.length ≤ 8) : Calls Try.prog 49 #[v] w (FreshP w (ofP xs)) := by
  rw [ofP_sel]
  obtain ⟨ao, ca, rfl, hx, hlc, hcm⟩ := hv
  obtain ⟨n, hn⟩ : ∃ n, n = xs.length := ⟨_, rfl⟩
  obtain ⟨f, hf⟩ : ∃ f : Nat × Nat → Bool, f = fun p => xs.getD p.1 0 == xs.getD p.2 0 := ⟨_, rfl⟩
  have HF : Hid (∀ i k, f (i, k) = (xs.getD i 0 == xs.getD k 0)) := Lib.hid fun i k => by rw [hf]
  rw [← hn] at hl8 hlc ⊢
  rw [← hf]
  have HN := Lib.hid hn
  have HX := Lib.hid hx
  clear hn hx hf
  go_enter Try.func49, Try.ntmps49
  go_wp2
  go_loopw [3, 9] (fun u i wr => ∃ (k : Nat), k ≤ n ∧ i = .int .i64 k ∧ OwnP wr w.heap.size u (selRows f n k) ∧ Below w.heap.size w wr) (fun _ i _ => n - (intOf i).toNat)
  case atStart => exact ⟨0, Nat.zero_le _, rfl, ownP_nil _ _, Below.refl _ _⟩
  case round =>
    obtain ⟨k, hk, rfl, hown, hbel⟩ := hrel
    by_cases hlt : k < n
    · have HO1 := Lib.hid hown
      have HB1 := Lib.hid hbel
      rcases HX.out with hx | ⟨bb, off, rfl, hcx⟩
      · have := HN.out
        rw [hx] at this
        simp at this
        omega
      have hc1 := cellSt (hcx k (by have := HN.out; omega)) hbel
      obtain ⟨x, hx⟩ : ∃ x, x = xs.getD k 0 := ⟨_, rfl⟩
      rw [← hx] at hc1
      have HXK := Lib.hid hx
      have HCX := Lib.hid hcx
      have b0 : (k : Int) < n := by omega
      clear hown hbel hx hcx
      go_wp2
      go_loopw [3, 6] (fun u i wr => ∃ (t : Nat), k + 1 ≤ t ∧ t ≤ n ∧ i = .int .i64 t ∧ OwnP wr w.heap.size u (selRows f n k ++ selRow f k t) ∧ Below w.heap.size w wr) (fun _ i _ => n - (intOf i).toNat)
      case atStart => exact ⟨k + 1, Nat.le_refl _, by omega, by go_num, by rw [selRow_start f k (k + 1) (Nat.le_refl _), List.append_nil]; exact HO1.out, HB1.out⟩
      case round =>
        obtain ⟨t, ht1, ht, rfl, hown, hbel⟩ := hrel
        have HO := Lib.hid hown
        have hbs := hbel.size
        clear hown
        by_cases htn : t < n
        · have hc2 := cellSt (HCX.out t (by have := HN.out; omega)) hbel
          have hst := selRow_next f k t (by omega)
          rw [HF.out, ← HXK.out] at hst
          have hll := sel_len f (n := n) (i := k) (k := t) (by omega) hk ht
          obtain ⟨y, hy⟩ : ∃ y, y = xs.getD t 0 := ⟨_, rfl⟩
          rw [← hy] at hc2 hst
          obtain ⟨A, hA⟩ : ∃ A, A = selRows f n k ++ selRow f k t := ⟨_, rfl⟩
          have hst2 : selRows f n k ++ selRow f k (t + 1) = A ++ if x == y then [(k, t)] else [] := by rw [hA, hst, List.append_assoc]
          rw [← hA] at HO hll
          have HLL := Lib.hid hll
          have HST := Lib.hid hst2
          have b1 : (t : Int) < n := by omega
          clear hst hst2 hy hA hll
          by_cases hxy : x = y
          · have hd : (y == x) = true := by simpa using hxy.symm
            have HSE : Hid (selRows f n k ++ selRow f k (t + 1) = A ++ [(k, t)]) := Lib.hid (by rw [HST.out, if_pos (by simpa using hxy)])
            have HBQ := Lib.hid (hbel.alloc hbs (.cells #[.int .i64 k, .int .i64 t] 53))
            clear hxy
            go_wp2_with (at_builtin; refine wpList_pushP rfl _ _ rfl w.heap.size _ A rfl (ownP_alloc HO.out _) wr.heap.size rfl (k, t) (cells_two rfl).1 (cells_two rfl).2 (by have := HLL.out; omega) (by simp; omega) ?_; intro v9 w9 ho9 hg9)
            have hbel9 : Below w.heap.size w w9 := HBQ.out.grown hg9 (by simp; omega) fun j hj => (World.ownsRow.lt HO.out j hj).1
            have HO9 := Lib.hid ho9
            clear ho9 hg9
            go_wp2
            go_roundw
            case rel => exact ⟨t + 1, by omega, by omega, by go_num, by rw [HSE.out]; exact HO9.out, hbel9⟩
            case measure => simp [intOf]; omega
          · have hd : (y == x) = false := by simpa using fun e : y = x => hxy e.symm
            have HSE : Hid (selRows f n k ++ selRow f k (t + 1) = A) := Lib.hid (by rw [HST.out, if_neg (by simpa using hxy)]; simp)
            have hne : ¬ (y = x) := fun e => hxy e.symm
            clear hxy
            go_wp2
            go_roundw
            case rel => exact ⟨t + 1, by omega, by omega, by go_num, by rw [HSE.out]; exact HO.out, hbel⟩
            case measure => simp [intOf]; omega
        · have htn' : t = n := by omega
          subst htn'
          go_wp2
          go_roundw
          case rel => exact ⟨k + 1, by omega, by go_num, by rw [selRows_next]; exact HO.out, hbel⟩
          case measure => simp [intOf]; omega
    · have hkn : k = n := by omega
      subst hkn
      go_wp2
      go_ret
      exact ⟨_, rfl, hown, hbel⟩

theorem ownM_made0 {w : World} {B S g n : Nat} (h : w.ownsRow B 27 1 (.slice (some ⟨g, 0, none⟩) 0 n) 0 []) (hg : B ≤ g ∧ g < S) : OwnM w B S (.slice (some ⟨g, 0, none⟩) 0 n) [] :=
  ⟨[], rfl, h, fun k hk => by simp [Value.ownBlock] at hk; omega, fun i hi => by simp at hi, fun i j _ hj => by simp at hj⟩
theorem encPs_take (L : List (Nat × Nat)) (k : Nat) (h : k < L.length) : encPs (L.take (k + 1)) = encPs (L.take k) ++ [encP (L.getD k (0, 0))] := by
  rw [take_snocP L k h, encPs_append]
  rfl

set_option maxHeartbeats 4000000 in
theorem pairLists_any (v : Value) (L : List (Nat × Nat)) (w : World) (hv : RdP w v L) (hl : L.length ≤ 1000) : Calls Try.prog 48 #[v] w (FreshM w (encPs L)) := by
  obtain ⟨ao, ca, rfl, hlc, hcm, hx⟩ := hv
  obtain ⟨n, hn⟩ : ∃ n, n = L.length := ⟨_, rfl⟩
  rw [← hn] at hlc hl ⊢
  have HN := Lib.hid hn
  have HX := Lib.hid hx
  obtain ⟨i0, hi, hz0, hz1, hz2⟩ := info_parts Try.infoInts
  clear hn hx
  go_enter Try.func48, Try.ntmps48
  go_wp2_with (at_make; refine wpList_make_own _ rfl _ _ 22 rfl w.heap.size 27 i0 (.slice none 0 0) 1 Try.underlying22 hi hz0 hz1 _ _ _ n rfl rfl rfl (by rw [hz2]; omega) (by unfold maxLen; omega) (Nat.le_refl _) ?_)
  intro w0 hown0 hgrow0
  have hb0 : Below w.heap.size w w0 := (Below.refl _ _).grown hgrow0 (Nat.le_refl _) (fun k h => by cases h)
  have hom0 : OwnM w0 w.heap.size w0.heap.size (.slice (some ⟨w.heap.size, 0, none⟩) 0 n) [] := ownM_made0 hown0 ⟨Nat.le_refl _, (World.ownsRow.lt hown0 _ rfl).2⟩
  have HM0 := Lib.hid hom0
  clear hown0 hgrow0 hom0
  go_wp2
  go_loopw [3, 11] (fun u i wr => ∃ k : Nat, k ≤ n ∧ i = .int .i64 k ∧ OwnM wr w.heap.size wr.heap.size u (encPs (L.take k)) ∧ Below w.heap.size w wr) (fun _ i _ => n - (intOf i).toNat)
  case atStart => exact ⟨0, Nat.zero_le _, rfl, by simpa [encPs] using HM0.out, hb0⟩
  case round =>
    obtain ⟨k, hk, rfl, hown, hbel⟩ := hrel
    have hbs := hbel.size
    have HO := Lib.hid hown
    clear hown
    by_cases hlt : k < n
    · rcases HX.out with hx | ⟨bb, off, rfl, hcx⟩
      · have := HN.out
        rw [hx] at this
        simp at this
        omega
      have hcx' := hcx k (by have := HN.out; omega)
      have hc1 := cellSt hcx'.1 hbel
      have hc2 := cellSt hcx'.2 hbel
      have HT := Lib.hid (encPs_take L k (by have := HN.out; omega))
      have hkl : (encPs (L.take k)).length = k := by rw [encPs_length, List.length_take]; have := HN.out; omega
      have HKL := Lib.hid hkl
      obtain ⟨⟨a, b⟩, hy⟩ : ∃ y, y = L.getD k (0, 0) := ⟨_, rfl⟩
      rw [← hy] at hc1 hc2 HT
      unfold encP at HT
      dsimp only at hc1 hc2 HT
      have b0 : (k : Int) < n := by omega
      clear hy hcx hcx' hkl
      have e1 : (wr.alloc (.cells #[.int .i64 a, .int .i64 b] 53)).heap.size = wr.heap.size + 1 := by simp
      have e2 : ((wr.alloc (.cells #[.int .i64 a, .int .i64 b] 53)).alloc (.cells #[.int .i64 a, .int .i64 b] 3)).heap.size = wr.heap.size + 1 + 1 := by simp
      have hcell := cell_new1 ((wr.alloc (.cells #[.int .i64 a, .int .i64 b] 53)).alloc (.cells #[.int .i64 a, .int .i64 b] 3)) (.slice (some ⟨wr.heap.size + 1, 0, none⟩) 2 2) 27
      rw [e2] at hcell
      have hou0 := own_two (wr.alloc (.cells #[.int .i64 a, .int .i64 b] 53)) w.heap.size a b (by rw [e1]; omega)
      rw [e1] at hou0
      have HCE := Lib.hid hcell
      have HOU := Lib.hid (own_alloc hou0 (.cells #[.slice (some ⟨wr.heap.size + 1, 0, none⟩) 2 2] 27))
      have hb3 : Below wr.heap.size wr (((wr.alloc (.cells #[.int .i64 a, .int .i64 b] 53)).alloc (.cells #[.int .i64 a, .int .i64 b] 3)).alloc (.cells #[.slice (some ⟨wr.heap.size + 1, 0, none⟩) 2 2] 27)) := (((Below.refl _ _).alloc (Nat.le_refl _) _).alloc (by rw [e1]; omega) _).alloc (by rw [e2]; omega) _
      have HOM := Lib.hid (ownM_below HO.out hb3)
      have HBQ := Lib.hid (hbel.trans (hb3.mono hbs))
      clear hcell hou0 hb3 e1 e2
      go_wp2_with (at_builtin; refine wpList_pushV rfl _ _ rfl w.heap.size wr.heap.size k _ (encPs (L.take k)) rfl HOM.out HKL.out.symm ⟨wr.heap.size + 1 + 1, 0, none⟩ rfl _ _ HCE.out HOU.out (fun q hq => by simp [Value.ownBlock] at hq; simp; omega) (by omega) (by simp; omega) (by omega) ?_; intro g4 cap4 w4 hown4 hgr4)
      have hbel4 : Below w.heap.size w w4 := HBQ.out.grown hgr4 (by simp; omega) (fun q hq => by
        obtain ⟨vs, hr⟩ := ownM_row0 HO.out
        exact (World.ownsRow.lt hr q hq).1)
      rw [← HT.out] at hown4
      have HO4 := Lib.hid hown4
      clear hown4 hgr4
      go_wp2
      go_roundw
      case rel => exact ⟨k + 1, by omega, by go_num, HO4.out, hbel4⟩
      case measure => simp [intOf]; omega
    · have hkn : k = n := by omega
      subst hkn
      have HE2 := Lib.hid (show encPs (L.take k) = encPs L by rw [HN.out, List.take_length])
      go_wp2
      go_ret
      rw [← HE2.out]
      exact ⟨_, rfl, HO.out, hbel⟩

/-- What PairOf answers. -/
def pairOf (xs : List Int) : List (List Int) × Bool := if partIn xs && decide (xs.length ≤ 6) then (encPs (ofP xs), true) else ([], false)
theorem ofP_len (xs : List Int) (h : xs.length ≤ 8) : (ofP xs).length ≤ 100 := by
  rw [ofP_sel]
  have := selRows_len (fun p => xs.getD p.1 0 == xs.getD p.2 0) xs.length xs.length
  have h2 := Nat.mul_le_mul h h
  omega

theorem total_encPs (L : List (Nat × Nat)) : total (encPs L) = 2 * L.length := by
  induction L with
  | nil => rfl
  | cons p L ih =>
    show total ([(p.1 : Int), (p.2 : Int)] :: encPs L) = _
    rw [total_cons, ih]
    simp
    omega
theorem pairOf_len (xs : List Int) (_ : xs.length ≤ 1048576) : (pairOf xs).1.length ≤ 1000000 ∧ total (pairOf xs).1 ≤ 1000000 := by
  unfold pairOf
  split
  · rename_i h
    simp only [Bool.and_eq_true, decide_eq_true_eq] at h
    have := ofP_len xs (by omega)
    simp only [total_encPs, encPs_length]
    omega
  · simp [total]

set_option maxHeartbeats 1600000 in
theorem sPairOf_v (v : Value) (xs : List Int) (w : World) (hv : RdV w v xs) : Calls Try.prog 18 #[v] w (FreshMB w (pairOf xs)) := by
  have HV := Lib.hid hv
  by_cases hp : partIn xs = true
  · have HP := Lib.hid hp
    have hl8 := partIn_len hp
    have HO := Lib.hid fun (h : xs.length ≤ 6) => l8Of_any v xs w hv (by omega)
    obtain ⟨ao, ca, rfl, hx, hlc, hcm⟩ := hv
    obtain ⟨n, hn⟩ : ∃ n, n = xs.length := ⟨_, rfl⟩
    have HN := Lib.hid hn
    by_cases h6 : n ≤ 6
    · have hr : pairOf xs = (encPs (ofP xs), true) := by unfold pairOf; rw [hp, ← hn]; simp [h6]
      rw [hr]
      rw [← hn] at HO HV ⊢
      clear hr hn hp hx hlc hl8
      go_enter Try.func18, Try.ntmps18
      go_wp2_with fail
      refine (sPartIn_is true _ _ _ HV.out HP).mono ?_
      rintro e w' ⟨rfl, rfl⟩
      go_wp2_with fail
      refine (HO.out h6).mono ?_
      rintro e w1 ⟨u, rfl, ho, hb⟩
      go_wp2
      go_ret2
      exact ⟨_, rfl, ho, hb⟩
    · have hr : pairOf xs = ([], false) := by unfold pairOf; rw [hp, ← hn]; simp [h6]
      rw [hr]
      rw [← hn] at HV ⊢
      clear hr hn hp hx hlc hl8
      go_enter Try.func18, Try.ntmps18
      go_wp2_with fail
      refine (sPartIn_is true _ _ _ HV.out HP).mono ?_
      rintro e w' ⟨rfl, rfl⟩
      go_wp2
      go_ret2
      exact ⟨_, rfl, by simpa using ownM_empty w _ (Nat.le_refl _), (Below.refl _ _).alloc (Nat.le_refl _) _⟩
  · have hp : partIn xs = false := by simpa using hp
    have hr : pairOf xs = ([], false) := by simp [pairOf, hp]
    rw [hr]
    have HP := Lib.hid hp
    clear hp hr
    go_enter Try.func18, Try.ntmps18
    go_wp2_with fail
    refine (sPartIn_is false _ _ _ HV.out HP).mono ?_
    rintro e w' ⟨rfl, rfl⟩
    go_wp2
    go_ret2
    exact ⟨_, rfl, by simpa using ownM_empty w _ (Nat.le_refl _), (Below.refl _ _).alloc (Nat.le_refl _) _⟩

set_option maxHeartbeats 1600000 in
theorem iPairOf_v (v : Value) (xs : List Int) (w : World) (hv : RdV w v xs) : Calls Try.prog 20 #[v] w (FreshMB w (pairOf xs)) := by
  have HV := Lib.hid hv
  by_cases hp : partIn xs = true
  · have HP := Lib.hid hp
    have hl8 := partIn_len hp
    have hll := ofP_len xs hl8.2
    have HO := Lib.hid fun (h : xs.length ≤ 6) => pairsOf_any v xs w hv (by omega)
    obtain ⟨ao, ca, rfl, hx, hlc, hcm⟩ := hv
    obtain ⟨n, hn⟩ : ∃ n, n = xs.length := ⟨_, rfl⟩
    have HN := Lib.hid hn
    by_cases h6 : n ≤ 6
    · have hr : pairOf xs = (encPs (ofP xs), true) := by unfold pairOf; rw [hp, ← hn]; simp [h6]
      rw [hr]
      rw [← hn] at HO HV ⊢
      obtain ⟨L, hL⟩ : ∃ L, L = ofP xs := ⟨_, rfl⟩
      rw [← hL] at HO hll ⊢
      have HLL := Lib.hid hll
      clear hr hn hp hx hlc hl8 hL hll
      go_enter Try.func20, Try.ntmps20
      go_wp2_with fail
      refine (iPartIn_is true _ _ _ HV.out HP).mono ?_
      rintro e w' ⟨rfl, rfl⟩
      go_wp2_with fail
      refine (HO.out h6).mono ?_
      rintro e w1 ⟨u, rfl, ho, hb⟩
      have HRD := Lib.hid (ownP_rd ho)
      clear ho
      go_wp2_with fail
      refine (pairLists_any u L _ HRD.out (by have := HLL.out; omega)).mono ?_
      rintro e w2 ⟨u2, rfl, ho2, hb2⟩
      go_wp2
      go_ret2
      exact ⟨_, rfl, ownM_mono ho2 hb.size (Nat.le_refl _), below_step hb hb2⟩
    · have hr : pairOf xs = ([], false) := by unfold pairOf; rw [hp, ← hn]; simp [h6]
      rw [hr]
      rw [← hn] at HV ⊢
      clear hr hn hp hx hlc hl8
      go_enter Try.func20, Try.ntmps20
      go_wp2_with fail
      refine (iPartIn_is true _ _ _ HV.out HP).mono ?_
      rintro e w' ⟨rfl, rfl⟩
      go_wp2
      go_ret2
      exact ⟨_, rfl, ownM_nil _ _ _, Below.refl _ _⟩
  · have hp : partIn xs = false := by simpa using hp
    have hr : pairOf xs = ([], false) := by simp [pairOf, hp]
    rw [hr]
    have HP := Lib.hid hp
    clear hp hr
    go_enter Try.func20, Try.ntmps20
    go_wp2_with fail
    refine (iPartIn_is false _ _ _ HV.out HP).mono ?_
    rintro e w' ⟨rfl, rfl⟩
    go_wp2
    go_ret2
    exact ⟨_, rfl, ownM_nil _ _ _, Below.refl _ _⟩

end Go.Proofs.Ytieldehghmikkaa
