/-
  The contracts of othersOf, l8Has and of PairOther of both sides.
-/
import Derived.Test.YtieldehghmikkaaPairOpen
import Derived.Test.YtieldehghmikkaaPairOfs
import Derived.Test.YtieldehghmikkaaPairOps
import Derived.Test.YtieldehghmikkaaPairFacts
import Derived.Test.YtieldehghmikkaaPairWithout
import Derived.Test.YtieldehghmikkaaLine3
namespace Go.Proofs.Ytieldehghmikkaa
set_option linter.unusedSimpArgs false
set_option linter.unusedVariables false
set_option linter.unnecessarySimpa false
open Go.RowKit
set_option maxRecDepth 100000

theorem cmpP_self (p : Nat × Nat) : ¬ cmpP p p < 0 := by rw [cmpP_lt]; exact ltP_irrefl p

/-- What is taken away at its place is taken away. -/
theorem erase_ahead (p : Nat × Nat) : ∀ l : List (Nat × Nat), l.Pairwise ltP → p ∈ l → aheadN p l < l.length ∧ l.eraseIdx (aheadN p l) = l.filter fun q => q != p := by
  intro l
  induction l with
  | nil => intro _ h; cases h
  | cons q l ih =>
    intro hs hm
    obtain ⟨h1, h2⟩ := List.pairwise_cons.1 hs
    by_cases e : p = q
    · subst e
      have ha : aheadN p (p :: l) = 0 := by unfold aheadN; rw [if_neg (cmpP_self p)]
      rw [ha]
      refine ⟨by simp, ?_⟩
      rw [List.eraseIdx_zero, List.filter_cons]
      simp only [bne_self_eq_false, Bool.false_eq_true, if_false, List.tail_cons]
      symm
      rw [List.filter_eq_self]
      intro x hx
      have := h1 x hx
      simp only [bne_iff_ne, ne_eq]
      intro e2
      rw [e2] at this
      exact ltP_irrefl _ this
    · have hm2 : p ∈ l := (List.mem_cons.1 hm).resolve_left e
      obtain ⟨i1, i2⟩ := ih h2 hm2
      have hlt : cmpP q p < 0 := by rw [cmpP_lt]; exact h1 p hm2
      have ha : aheadN p (q :: l) = aheadN p l + 1 := by rw [aheadN, if_pos hlt]
      rw [ha]
      refine ⟨by simp; omega, ?_⟩
      rw [List.eraseIdx_cons_succ, i2, List.filter_cons]
      have hne : (q != p) = true := by simp only [bne_iff_ne, ne_eq]; exact fun e2 => e e2.symm
      rw [hne]
      rfl

/-- All pairs less the first k of a list. -/
def othersTo (n : Nat) (L : List (Nat × Nat)) (k : Nat) : List (Nat × Nat) := (allP n).filter fun p => !(L.take k).contains p
theorem othersTo_zero (n : Nat) (L : List (Nat × Nat)) : othersTo n L 0 = allP n := by
  unfold othersTo
  rw [List.filter_eq_self]
  intro p _
  simp
theorem othersTo_next {n : Nat} {L : List (Nat × Nat)} (hn : n < 7) (hs : L.Sublist (allP n)) {k : Nat} (hk : k < L.length) :
    aheadN (L.getD k (0, 0)) (othersTo n L k) < (othersTo n L k).length ∧ (othersTo n L k).eraseIdx (aheadN (L.getD k (0, 0)) (othersTo n L k)) = othersTo n L (k + 1) := by
  have hso : (othersTo n L k).Pairwise ltP := (allP_sorted n hn).sublist List.filter_sublist
  have hd := sorted_nodup ((allP_sorted n hn).sublist hs)
  have hg : L.getD k (0, 0) = L[k] := by simp [List.getD, hk]
  have hnt : L[k] ∉ L.take k := fun hm => by
    obtain ⟨j, hj, e⟩ := List.getElem_of_mem hm
    rw [List.getElem_take] at e
    rw [List.length_take] at hj
    exact (List.pairwise_iff_getElem.1 hd) j k (by omega) hk (by omega) e
  have hm : L.getD k (0, 0) ∈ othersTo n L k := by
    unfold othersTo
    rw [hg, List.mem_filter]
    exact ⟨hs.subset (List.getElem_mem hk), by simpa using hnt⟩
  obtain ⟨h1, h2⟩ := erase_ahead _ _ hso hm
  refine ⟨h1, h2.trans ?_⟩
  unfold othersTo
  rw [List.filter_filter]
  apply List.filter_congr
  intro q _
  rw [take_snocP L k hk]
  simp only [List.contains_append, Bool.not_or, List.contains_cons, List.contains_nil, Bool.or_false, Bool.and_comm]
  rfl
theorem othersTo_end (n : Nat) (L : List (Nat × Nat)) : othersTo n L L.length = otherP n L := by
  unfold othersTo otherP
  rw [List.take_length]
theorem othersTo_len {n : Nat} (hn : n ≤ 6) (L : List (Nat × Nat)) (k : Nat) : (othersTo n L k).length ≤ 15 := by
  have h1 := List.length_filter_le (fun p => !(L.take k).contains p) (allP n)
  have h2 := allP_le n hn
  unfold othersTo
  omega
theorem ofP_zeros (n : Nat) : ofP (List.replicate n 0) = allP n := by
  unfold ofP
  rw [List.length_replicate, List.filter_eq_self]
  rintro ⟨i, k⟩ hp
  have := mem_allP.1 hp
  simp [List.getD, List.getElem?_replicate, show i < n by omega, show k < n by omega]

set_option maxHeartbeats 4000000 in
theorem othersOf_any (n : Nat) (v : Value) (L : List (Nat × Nat)) (w : World) (hv : RdP w v L) (hs : L.Sublist (allP n)) (h1 : 1 ≤ n) (h6 : n ≤ 6) :
    Calls Try.prog 58 #[.int .i64 n, v] w fun e w' => ∃ v', e = .returned v' ∧ RdP w' v' (otherP n L) ∧ Below w.heap.size w w' := by
  obtain ⟨ao, ca, rfl, hlc, hcm, hx⟩ := hv
  unfold maxLen at hcm
  have HE := Lib.hid (othersTo_end n L)
  have HNX := Lib.hid fun (k : Nat) (hk : k < L.length) => othersTo_next (n := n) (by omega) hs hk
  obtain ⟨m, hm⟩ : ∃ m, m = L.length := ⟨_, rfl⟩
  rw [← hm] at hlc HE HNX ⊢
  have HM := Lib.hid hm
  have HX := Lib.hid hx
  have HFL := Lib.hid (firstLine_any n w h1 (by omega))
  have HLL := Lib.hid fun (w1 : World) => lineList_any (List.replicate n 0) w1 (fun j hj => by simp at hj; simp [List.getD, List.getElem?_replicate, hj]) (by simp; omega)
  have HPO := Lib.hid fun (w1 : World) (u : Value) (hu : RdV w1 u (List.replicate n 0)) => ofP_zeros n ▸ pairsOf_any u (List.replicate n 0) w1 hu (by simp; omega)
  clear hm hx hs
  go_enter Try.func58, Try.ntmps58
  go_wp2_with fail
  refine HFL.out.mono ?_
  rintro e w1 ⟨rfl, hb1⟩
  go_wp2_with fail
  refine (HLL.out _).mono ?_
  rintro e w2 ⟨u2, rfl, ho2, hb2⟩
  have HO2 := Lib.hid (own_rdv ho2)
  have HB2 := Lib.hid (below_step hb1 hb2)
  clear ho2 hb2
  go_wp2_with fail
  refine (HPO.out _ _ HO2.out).mono ?_
  rintro e w3 ⟨u3, rfl, ho3, hb3⟩
  have HO3 : Hid (RdP w3 u3 (othersTo n L 0)) := Lib.hid (by rw [othersTo_zero]; exact ownP_rd ho3)
  have HB3 := Lib.hid (below_step HB2.out hb3)
  clear ho3 hb3
  go_wp2
  go_loopw [5, 14] (fun u i wr => ∃ k : Nat, k ≤ m ∧ i = .int .i64 k ∧ RdP wr u (othersTo n L k) ∧ Below w.heap.size w wr) (fun _ i _ => m - (intOf i).toNat)
  case atStart => exact ⟨0, Nat.zero_le _, rfl, HO3.out, HB3.out⟩
  case round =>
    obtain ⟨k, hk, rfl, hrd, hbel⟩ := hrel
    have HRD := Lib.hid hrd
    have hbs := hbel.size
    clear hrd
    by_cases hlt : k < m
    · rcases HX.out with hx | ⟨bb, off, rfl, hcx⟩
      · have := HM.out
        rw [hx] at this
        simp at this
        omega
      have hcx' := hcx k (by have := HM.out; omega)
      have hc1 := cellSt hcx'.1 hbel
      have hc2 := cellSt hcx'.2 hbel
      obtain ⟨hn1, hn2⟩ := HNX.out k hlt
      have hll := othersTo_len h6 L k
      obtain ⟨⟨a, b⟩, hy⟩ : ∃ y, y = L.getD k (0, 0) := ⟨_, rfl⟩
      rw [← hy] at hc1 hc2 hn1 hn2
      dsimp only at hc1 hc2
      obtain ⟨X, hX⟩ : ∃ X, X = othersTo n L k := ⟨_, rfl⟩
      rw [← hX] at HRD hn1 hn2 hll
      have HA := Lib.hid fun (w4 : World) (hb : Below wr.heap.size wr w4) => ahead_any u5 X (a, b) w4 (rdP_below HRD.out hb) (by omega)
      obtain ⟨q, hq⟩ : ∃ q, q = aheadN (a, b) X := ⟨_, rfl⟩
      rw [← hq] at HA hn1 hn2
      have HW := Lib.hid fun (w4 : World) (hb : Below wr.heap.size wr w4) => hn2 ▸ without_any u5 X q w4 (rdP_below HRD.out hb) hn1 (by omega)
      have b0 : (k : Int) < m := by omega
      have HB4 := Lib.hid ((Below.refl wr.heap.size wr).alloc (Nat.le_refl _) (.cells #[.int .i64 a, .int .i64 b] 53))
      clear hy hcx hcx' hX hq hn1 hn2 hll
      unfold arcV at HA
      have HLT := Lib.hid hlt
      go_wp2_with fail
      refine (HA.out _ HB4.out).mono ?_
      rintro e w5 ⟨rfl, hb5⟩
      have HB5 := Lib.hid (below_step HB4.out hb5)
      clear hb5
      go_wp2_with fail
      refine (HW.out _ HB5.out).mono ?_
      rintro e w6 ⟨u6, rfl, hr6, hb6⟩
      have HB6 := Lib.hid (below_step hbel (below_step HB5.out hb6))
      have HR6 := Lib.hid hr6
      clear hr6 hb6
      go_wp2
      go_roundw
      case rel => exact ⟨k + 1, HLT.out, by go_num, HR6.out, HB6.out⟩
      case measure => have := HLT.out; simp [intOf]; omega
    · have hkm : k = m := by omega
      subst hkm
      rw [HE.out] at HRD
      go_wp2
      go_ret
      exact ⟨_, rfl, HRD.out, hbel⟩

/-- What PairOther answers. -/
def pairOther (n : Int) (ps : List (List Int)) : List (List Int) × Bool := if pairIn n ps then (encPs (otherP n.toNat (decL ps)), true) else ([], false)
theorem otherP_len {n : Nat} (hn : n ≤ 6) (L : List (Nat × Nat)) : (otherP n L).length ≤ 15 := by
  rw [← othersTo_end]
  exact othersTo_len hn L _
theorem pairOther_len (n : Int) (ps : List (List Int)) : (pairOther n ps).1.length ≤ 1000000 ∧ total (pairOther n ps).1 ≤ 1000000 := by
  unfold pairOther
  split
  · rename_i h
    obtain ⟨m, L, rfl, h1, h6, hs, rfl⟩ := pairIn_sub h
    have := otherP_len h6 (decL (encPs L))
    simp only [total_encPs, encPs_length, Int.toNat_natCast]
    omega
  · simp [total]

set_option maxHeartbeats 1600000 in
theorem iPairOther_v (v : Value) (n : Int) (ps : List (List Int)) (w : World) (hv : RdM w v ps) (_ : (Lit.int .i64 n).wf = true) :
    Calls Try.prog 37 #[.int .i64 n, v] w (FreshMB w (pairOther n ps)) := by
  cases h : pairIn n ps with
  | true =>
    have hr : pairOther n ps = (encPs (otherP n.toNat (decL ps)), true) := by simp [pairOther, h]
    obtain ⟨m, L, rfl, h1, h6, hs, he, hin, hl, hd⟩ := pair_open h
    rw [hr, hd, Int.toNat_natCast]
    have HT := Lib.hid (told_yes hv h hd)
    have hol := otherP_len h6 L
    have HC := Lib.hid fun (w1 : World) (u : Value) (hu : RdP w1 u L) => othersOf_any m u L w1 hu hs h1 h6
    obtain ⟨X, hX⟩ : ∃ X, X = otherP m L := ⟨_, rfl⟩
    rw [← hX] at HC hol ⊢
    have HOL := Lib.hid hol
    clear hr h he hin hl hd hs hv hX hol
    go_enter Try.func37, Try.ntmps37
    go_wp2_with fail
    refine HT.out.mono ?_
    rintro e w1 ⟨u, rfl, ho, hb⟩
    have HRD := Lib.hid (ownP_rd ho)
    clear ho
    go_wp2_with fail
    refine (HC.out _ _ HRD.out).mono ?_
    rintro e w2 ⟨u2, rfl, hr2, hb2⟩
    have HR2 := Lib.hid hr2
    have HB2 := Lib.hid (below_step hb hb2)
    clear hr2 hb2
    go_wp2_with fail
    refine (pairLists_any u2 X _ HR2.out (by have := HOL.out; omega)).mono ?_
    rintro e w3 ⟨u3, rfl, ho3, hb3⟩
    go_wp2
    go_ret2
    exact ⟨_, rfl, ownM_mono ho3 HB2.out.size (Nat.le_refl _), below_step HB2.out hb3⟩
  | false =>
    have hr : pairOther n ps = ([], false) := by simp [pairOther, h]
    rw [hr]
    have HT := Lib.hid (told_no hv h)
    clear hr h hv
    go_enter Try.func37, Try.ntmps37
    go_wp2_with fail
    refine HT.out.mono ?_
    rintro e w1 ⟨u, rfl, ho, hb⟩
    go_wp2
    go_ret2
    exact ⟨_, rfl, ownM_nil _ _ _, hb⟩

theorem contains_take_succ (L : List (Nat × Nat)) (k : Nat) (h : k < L.length) (p : Nat × Nat) : (L.take (k + 1)).contains p = ((L.take k).contains p || (L.getD k (0, 0) == p)) := by
  rw [take_snocP L k h, Bool.eq_iff_iff]
  simp only [List.contains_append, Bool.or_eq_true, List.contains_cons, List.contains_nil, Bool.or_false, beq_iff_eq]
  constructor
  · rintro (h | h)
    · exact .inl h
    · exact .inr h.symm
  · rintro (h | h)
    · exact .inl h
    · exact .inr h.symm

set_option maxHeartbeats 4000000 in
theorem l8Has_any (v : Value) (L : List (Nat × Nat)) (i k : Nat) (w : World) (hv : RdM w v (encPs L)) :
    Calls Try.prog 56 #[v, .int .i64 i, .int .i64 k] w (GivesB w (L.contains (i, k))) := by
  obtain ⟨ao, ca, vs, rfl, h1, h2, hx⟩ := encPs_at hv
  unfold maxLen at h2
  obtain ⟨R, hR⟩ : ∃ R, R = L.contains (i, k) := ⟨_, rfl⟩
  have HCS := Lib.hid fun (x : Nat) (h : x < L.length) => contains_take_succ L x h (i, k)
  have HMEM : Hid (∀ x, x < L.length → L.getD x (0, 0) = (i, k) → R = true) := Lib.hid fun x hx e => by
    rw [hR, ← e]
    simp [List.getD, hx]
  have HEND : Hid ((L.take L.length).contains (i, k) = R) := Lib.hid (by rw [List.take_length, hR])
  obtain ⟨m, hm⟩ : ∃ m, m = L.length := ⟨_, rfl⟩
  rw [← hR]
  rw [← hm] at h1 HCS HMEM HEND ⊢
  have HM := Lib.hid hm
  have HX := Lib.hid hx
  clear hm hx hR hv
  go_enter Try.func56, Try.ntmps56
  go_wp2
  go_loopw [7] (fun u wr => ∃ x : Nat, x ≤ m ∧ u = .int .i64 x ∧ Hid ((L.take x).contains (i, k) = false) ∧ w = wr) (fun u _ => m - (intOf u).toNat)
  case atStart => exact ⟨0, Nat.zero_le _, rfl, Lib.hid (by simp), rfl⟩
  case round =>
    obtain ⟨x, hxm, rfl, HC, rfl⟩ := hrel
    by_cases hlt : x < m
    · rcases HX.out with hx | ⟨bb, off, rfl, hcx⟩
      · have := HM.out
        rw [hx] at this
        simp at this
        omega
      obtain ⟨zb, zo, zc, d0, z1, z2, d1, d2⟩ := hcx x (by have := HM.out; omega)
      have HST := Lib.hid (HCS.out x hlt)
      have HME := Lib.hid (HMEM.out x hlt)
      obtain ⟨⟨a, b⟩, hy⟩ : ∃ y, y = L.getD x (0, 0) := ⟨_, rfl⟩
      rw [← hy] at d1 d2 HST HME
      dsimp only at d1 d2
      have b0 : (x : Int) < m := by omega
      clear hcx hy
      by_cases e1 : a = i
      · by_cases e2 : b = k
        · have HR1 := Lib.hid (HME.out (by rw [e1, e2]))
          subst e1 e2
          clear HME HST
          go_wp2
          go_ret
          rw [HR1.out]
          exact ⟨rfl, Below.refl _ _⟩
        · have HS : Hid ((L.take (x + 1)).contains (i, k) = false) := Lib.hid (by rw [HST.out, HC.out]; simp [e2])
          have e3 : ¬ ((b : Int) = (k : Int)) := by omega
          subst e1
          clear HME HST e2
          go_wp2
          go_roundw
          case rel => exact ⟨x + 1, by omega, by go_num, HS, by first | trivial | rfl⟩
          case measure => simp [intOf]; omega
      · have HS : Hid ((L.take (x + 1)).contains (i, k) = false) := Lib.hid (by rw [HST.out, HC.out]; simp [e1])
        have e3 : ¬ ((a : Int) = (i : Int)) := by omega
        clear HME HST e1
        go_wp2
        go_roundw
        case rel => exact ⟨x + 1, by omega, by go_num, HS, by first | trivial | rfl⟩
        case measure => simp [intOf]; omega
    · have hxm' : x = m := by omega
      subst hxm'
      have HR0 := Lib.hid (HEND.out.symm.trans HC.out)
      go_wp2
      go_ret
      rw [HR0.out]
      exact ⟨rfl, Below.refl _ _⟩

set_option maxHeartbeats 4000000 in
theorem sPairOther_v (v : Value) (n : Int) (ps : List (List Int)) (w : World) (hv : RdM w v ps) (hw : (Lit.int .i64 n).wf = true) :
    Calls Try.prog 36 #[.int .i64 n, v] w (FreshMB w (pairOther n ps)) := by
  have hb0 : Below w.heap.size w (w.alloc (.cells #[] 27)) := (Below.refl _ _).alloc (Nat.le_refl _) _
  have hv0 := rdM_below hv hb0
  have HOE := Lib.hid (ownM_empty w w.heap.size (Nat.le_refl _))
  have HB0 := Lib.hid hb0
  cases h : pairIn n ps with
  | true =>
    have hr : pairOther n ps = (encPs (otherP n.toNat (decL ps)), true) := by simp [pairOther, h]
    have HT := Lib.hid (sIn_is true hv0 h hw)
    obtain ⟨m, L, rfl, h1, h6, hs, he, hin, hl, hd⟩ := pair_open h
    rw [hr, hd, Int.toNat_natCast, otherP_sel]
    obtain ⟨f, hf⟩ : ∃ f : Nat × Nat → Bool, f = fun p => !L.contains p := ⟨_, rfl⟩
    have HF : Hid (∀ i k, f (i, k) = !L.contains (i, k)) := Lib.hid fun i k => by rw [hf]
    rw [← hf]
    have HH := Lib.hid fun (i k : Nat) (w1 : World) (hb : Below w.heap.size w w1) => l8Has_any v L i k w1 (by rw [← he]; exact rdM_below hv hb)
    clear hr h he hin hl hd hs hv hf hb0 hv0
    go_enter Try.func36, Try.ntmps36
    go_wp2_with fail
    refine HT.out.mono ?_
    rintro e w1 ⟨rfl, hb⟩
    have HO1 := Lib.hid (ownM_mono (ownM_below HOE.out hb) (Nat.le_refl w.heap.size) (by have := hb.size; simpa using this))
    have HB1 := Lib.hid (HB0.out.trans (hb.mono (by simp)))
    clear hb
    go_wp2
    go_loopw [6, 7] (fun u i wr => ∃ (k : Nat), k ≤ m ∧ i = .int .i64 k ∧ OwnM wr w.heap.size wr.heap.size u (encPs (selRows f m k)) ∧ Below w.heap.size w wr) (fun _ i _ => m - (intOf i).toNat)
    case atStart => exact ⟨0, Nat.zero_le _, rfl, by simpa [selRows, encPs] using HO1.out, HB1.out⟩
    case round =>
      obtain ⟨k, hk, rfl, hown, hbel⟩ := hrel
      by_cases hlt : k < m
      · have HO1 := Lib.hid hown
        have HB1 := Lib.hid hbel
        clear hown hbel
        go_wp2
        go_loopw [6, 8] (fun u i wr => ∃ (t : Nat), k + 1 ≤ t ∧ t ≤ m ∧ i = .int .i64 t ∧ OwnM wr w.heap.size wr.heap.size u (encPs (selRows f m k ++ selRow f k t)) ∧ Below w.heap.size w wr) (fun _ i _ => m - (intOf i).toNat)
        case atStart => exact ⟨k + 1, Nat.le_refl _, by omega, by go_num, by rw [selRow_start f k (k + 1) (Nat.le_refl _), List.append_nil]; exact HO1.out, HB1.out⟩
        case round =>
          obtain ⟨t, ht1, ht, rfl, hown, hbel⟩ := hrel
          have HO := Lib.hid hown
          have hbs := hbel.size
          clear hown
          by_cases htn : t < m
          · have hst := selRow_next f k t (by omega)
            rw [HF.out] at hst
            have hll := sel_len f (n := m) (i := k) (k := t) (by omega) hk ht
            obtain ⟨A, hA⟩ : ∃ A, A = selRows f m k ++ selRow f k t := ⟨_, rfl⟩
            have hst2 : selRows f m k ++ selRow f k (t + 1) = A ++ if (!L.contains (k, t)) then [(k, t)] else [] := by rw [hA, hst, List.append_assoc]
            rw [← hA] at HO hll
            obtain ⟨z, hz⟩ : ∃ z, z = A.length := ⟨_, rfl⟩
            rw [← hz] at hll
            have HZ := Lib.hid hz
            have HH2 := Lib.hid (HH.out k t wr hbel)
            cases hc : L.contains (k, t) with
            | false =>
              rw [hc] at HH2
              have HSE : Hid (selRows f m k ++ selRow f k (t + 1) = A ++ [(k, t)]) := Lib.hid (by rw [hst2, hc]; rfl)
              clear hst hst2 hA hz hc
              go_wp2_with fail
              refine HH2.out.mono ?_
              rintro e w2 ⟨rfl, hb2⟩
              have hbs2 := hb2.size
              have HO2 := Lib.hid (ownM_mono (ownM_below HO.out hb2) (Nat.le_refl w.heap.size) hbs2)
              have hbel2 := below_step hbel hb2
              have hbw2 := hbel2.size
              clear hb2
              have hcell := cell_new1 (w2.alloc (.cells #[.int .i64 k, .int .i64 t] 3)) (.slice (some ⟨w2.heap.size, 0, none⟩) 2 2) 27
              rw [show (w2.alloc (.cells #[.int .i64 k, .int .i64 t] 3)).heap.size = w2.heap.size + 1 by simp] at hcell
              have hou : Own ((w2.alloc (.cells #[.int .i64 k, .int .i64 t] 3)).alloc (.cells #[.slice (some ⟨w2.heap.size, 0, none⟩) 2 2] 27)) w.heap.size (.slice (some ⟨w2.heap.size, 0, none⟩) 2 2) [(k : Int), (t : Int)] := own_alloc (own_two w2 w.heap.size k t hbw2) _
              have hb3 := ((Below.refl w2.heap.size w2).alloc (Nat.le_refl _) (.cells #[.int .i64 k, .int .i64 t] 3)).alloc (by simp) (.cells #[.slice (some ⟨w2.heap.size, 0, none⟩) 2 2] 27)
              have HOM := Lib.hid (ownM_below HO2.out hb3)
              have HBQ := Lib.hid (below_step hbel2 hb3)
              have HCE := Lib.hid hcell
              have HOU := Lib.hid hou
              clear hcell hou hb3
              go_wp2_with (at_builtin; refine wpList_pushV rfl _ _ rfl w.heap.size w2.heap.size z _ (encPs A) rfl HOM.out (by rw [HZ.out, encPs_length]) ⟨w2.heap.size + 1, 0, none⟩ rfl _ _ HCE.out HOU.out (fun q hq => by simp [Value.ownBlock] at hq; simp; omega) hbw2 (by simp; omega) (by omega) ?_; intro g4 cap4 w4 hown4 hgr4)
              have hbel4 : Below w.heap.size w w4 := HBQ.out.grown hgr4 (by simp; omega) (fun q hq => by
                obtain ⟨vs, hr⟩ := ownM_row0 HOM.out
                exact (World.ownsRow.lt hr q hq).1)
              have HO4 := Lib.hid hown4
              clear hown4 hgr4
              go_wp2
              go_roundw
              case rel => exact ⟨t + 1, by omega, by omega, by go_num, by rw [HSE.out, encPs_append]; exact HO4.out, hbel4⟩
              case measure => simp [intOf]; omega
            | true =>
              rw [hc] at HH2
              have HSE : Hid (selRows f m k ++ selRow f k (t + 1) = A) := Lib.hid (by rw [hst2, hc]; simp)
              clear hst hst2 hA hz hc
              go_wp2_with fail
              refine HH2.out.mono ?_
              rintro e w2 ⟨rfl, hb2⟩
              have HO2 := Lib.hid (ownM_mono (ownM_below HO.out hb2) (Nat.le_refl w.heap.size) hb2.size)
              have HB2 := Lib.hid (below_step hbel hb2)
              clear hb2
              go_wp2
              go_roundw
              case rel => exact ⟨t + 1, by omega, by omega, by go_num, by rw [HSE.out]; exact HO2.out, HB2.out⟩
              case measure => simp [intOf]; omega
          · have htn' : t = m := by omega
            subst htn'
            go_wp2
            go_roundw
            case rel => exact ⟨k + 1, by omega, by go_num, by rw [selRows_next]; exact HO.out, hbel⟩
            case measure => simp [intOf]; omega
      · have hkn : k = m := by omega
        subst hkn
        go_wp2
        go_ret2
        exact ⟨_, rfl, hown, hbel⟩
  | false =>
    have hr : pairOther n ps = ([], false) := by simp [pairOther, h]
    rw [hr]
    have HT := Lib.hid (sIn_is false hv0 h hw)
    clear hr h hv hb0 hv0
    go_enter Try.func36, Try.ntmps36
    go_wp2_with fail
    refine HT.out.mono ?_
    rintro e w1 ⟨rfl, hb⟩
    go_wp2
    go_ret2
    exact ⟨_, rfl, ownM_mono (ownM_below HOE.out hb) (Nat.le_refl _) (by have := hb.size; simpa using this), HB0.out.trans (hb.mono (by simp))⟩

end Go.Proofs.Ytieldehghmikkaa
