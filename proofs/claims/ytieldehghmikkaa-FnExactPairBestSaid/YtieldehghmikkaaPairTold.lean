/-
  The contracts of pairsTold and of PairIn.
-/
import Derived.Test.YtieldehghmikkaaPairWith
import Derived.Test.YtieldehghmikkaaArcTold
namespace Go.Proofs.Ytieldehghmikkaa
set_option linter.unusedSimpArgs false
set_option linter.unusedVariables false
set_option linter.unnecessarySimpa false
open Go.RowKit
set_option maxRecDepth 100000

theorem cmpI_lt (a b : Nat) : cmpI a b < 0 ↔ a < b := by unfold cmpI; split <;> (try split) <;> omega
theorem cmpI_zero (a b : Nat) : cmpI a b = 0 ↔ a = b := by unfold cmpI; split <;> (try split) <;> omega
theorem cmpP_lt (p q : Nat × Nat) : cmpP p q < 0 ↔ ltP p q := by
  unfold cmpP ltP
  have h1 := cmpI_lt p.1 q.1
  have h2 := cmpI_zero p.1 q.1
  have h3 := cmpI_lt p.2 q.2
  by_cases h : cmpI p.1 q.1 = 0
  · rw [if_neg (by simp [h])]
    omega
  · rw [if_pos h]
    omega

theorem okPair_told {n : Int} {e : List Int} : okPair n e = toldOk n e := by
  unfold okPair toldOk
  rw [Bool.eq_iff_iff, decide_eq_true_eq, decide_eq_true_eq]
  omega

/-- The pairs that a list tells. -/
def decP (e : List Int) : Nat × Nat := ((e.getD 0 0).toNat, (e.getD 1 0).toNat)
def decL (ps : List (List Int)) : List (Nat × Nat) := ps.map decP
theorem decL_length (ps : List (List Int)) : (decL ps).length = ps.length := by simp [decL]
theorem decL_getD (ps : List (List Int)) {k : Nat} (h : k < ps.length) : (decL ps).getD k (0, 0) = decP (ps.getD k []) := by simp [decL, List.getD, h]
theorem decP_enc (p : Nat × Nat) : decP (encP p) = p := rfl
theorem decL_enc (L : List (Nat × Nat)) : decL (encPs L) = L := by
  unfold decL encPs
  rw [List.map_map]
  exact List.map_id' _
theorem take_snocP (L : List (Nat × Nat)) (k : Nat) (h : k < L.length) : L.take (k + 1) = L.take k ++ [L.getD k (0, 0)] := by
  rw [List.take_add_one, List.getElem?_eq_getElem h]
  simp [List.getD, h]

theorem pairTo_le {n : Int} {ps : List (List Int)} {k m : Nat} (h : k ≤ m) (hf : pairTo n ps k = false) : pairTo n ps m = false := by
  rw [Bool.eq_false_iff] at hf ⊢
  intro ht
  exact hf ((pairTo_iff k).2 fun x hx => (pairTo_iff m).1 ht x (by omega))

theorem less_dec {n : Int} {e f : List Int} (he : okPair n e = true) (hf : okPair n f = true) : lessI e f = decide (ltP (decP e) (decP f)) := by
  unfold lessI
  rw [Bool.eq_iff_iff, decide_eq_true_eq, decide_eq_true_eq]
  unfold okPair at he hf
  simp only [decide_eq_true_eq] at he hf
  unfold ltP decP
  omega

/-- One more pair is told. -/
theorem pairTo_next {n : Int} {ps : List (List Int)} {k : Nat} (hk : k < ps.length) (ht : pairTo n ps k = true) (hok : okPair n (ps.getD k []) = true) :
    pairTo n ps (k + 1) = true ↔ ((decL ps).take k = [] ∨ cmpP (((decL ps).take k).getD (((decL ps).take k).length - 1) (0, 0)) (decP (ps.getD k [])) < 0) := by
  have hl : ((decL ps).take k).length = k := by rw [List.length_take, decL_length]; omega
  have hs : pairTo n ps (k + 1) = (pairTo n ps k && okPair n (ps.getD k []) && (decide (k = 0) || lessI (ps.getD (k - 1) []) (ps.getD k []))) := rfl
  rw [hs, ht, hok, Bool.true_and, Bool.true_and, Bool.or_eq_true, decide_eq_true_eq, hl]
  by_cases h0 : k = 0
  · subst h0
    simp
  · have hne : ¬ (decL ps).take k = [] := fun e => h0 (by rw [← hl, e]; rfl)
    have hg : ((decL ps).take k).getD (k - 1) (0, 0) = decP (ps.getD (k - 1) []) := by
      rw [← decL_getD ps (show k - 1 < ps.length by omega)]
      simp only [List.getD, List.getElem?_take, if_pos (show k - 1 < k by omega)]
    have hok2 := ((pairTo_iff k).1 ht (k - 1) (by omega)).1
    rw [hg, cmpP_lt, less_dec hok2 hok, decide_eq_true_eq]
    constructor
    · rintro (h | h)
      · exact absurd h h0
      · exact .inr h
    · rintro (h | h)
      · exact absurd h hne
      · exact .inr h

theorem allP_le (m : Nat) (h : m ≤ 6) : (allP m).length ≤ 15 := by
  have : ∀ m, m < 7 → (allP m).length ≤ 15 := by decide +kernel
  exact this m (by omega)

/-- No pair list is long. -/
theorem pairTo_len {n : Int} {ps : List (List Int)} {k : Nat} (n1 : 1 ≤ n) (n6 : n ≤ 6) (hk : k ≤ ps.length) (ht : pairTo n ps k = true) : k ≤ 15 := by
  have hl : (ps.take k).length = k := by rw [List.length_take]; omega
  have hg : ∀ x, x < k → (ps.take k).getD x [] = ps.getD x [] := fun x hx => by simp only [List.getD, List.getElem?_take, if_pos hx]
  have h : pairIn n (ps.take k) = true := by
    simp only [pairIn, Bool.and_eq_true, decide_eq_true_eq]
    refine ⟨⟨n1, n6⟩, (pairTo_iff _).2 fun x hx => ?_⟩
    rw [hl] at hx
    rw [hg x hx, hg (x - 1) (by omega)]
    exact (pairTo_iff k).1 ht x hx
  obtain ⟨m, L, e, h1, h6, hs, he⟩ := pairIn_sub h
  have := hs.length_le
  have h15 := allP_le m h6
  have h2 := congrArg List.length he
  rw [hl, encPs_length] at h2
  omega

/-- What pairsTold leaves. -/
def ToldP (w : World) (n : Int) (ps : List (List Int)) (e : Ending) (w' : World) : Prop :=
  ∃ v', e = .returned (.tuple #[v', .bool (pairIn n ps)]) ∧ OwnP w' w.heap.size v' (if pairIn n ps then decL ps else []) ∧ Below w.heap.size w w'

set_option maxHeartbeats 4000000 in
theorem pairsTold_any (n : Int) (v : Value) (ps : List (List Int)) (w : World) (hv : RdM w v ps) :
    Calls Try.prog 44 #[.int .i64 n, v] w (ToldP w n ps) := by
  obtain ⟨ao, ca, vs, hvl, rfl, h1, h2, h3, h4⟩ := hv
  unfold maxLen at h2
  by_cases hn : 1 ≤ n ∧ n ≤ 6
  · obtain ⟨n1, n6⟩ := hn
    have hpi : pairIn n ps = pairTo n ps ps.length := by simp [pairIn, n1, n6]
    unfold ToldP
    rw [hpi]
    obtain ⟨m, hm⟩ : ∃ m, m = ps.length := ⟨_, rfl⟩
    rw [← hm] at h1 hvl ⊢
    have HM := Lib.hid hm
    obtain ⟨R, hR⟩ : ∃ R, R = pairTo n ps m := ⟨_, rfl⟩
    obtain ⟨LR, hLR⟩ : ∃ LR, LR = if R then decL ps else [] := ⟨_, rfl⟩
    rw [← hR, ← hLR]
    have RNO : Hid (pairTo n ps m = false → R = false ∧ LR = []) := Lib.hid fun h => by rw [hLR, hR, h]; exact ⟨rfl, rfl⟩
    have RYES : Hid (pairTo n ps m = true → R = true ∧ LR = decL ps) := Lib.hid fun h => by rw [hLR, hR, h]; exact ⟨rfl, rfl⟩
    have H3 := Lib.hid h3
    have H4 := Lib.hid h4
    clear hm h3 h4 hpi hvl hR hLR
    go_enter Try.func44, Try.ntmps44
    go_wp2
    go_loopw [6, 19] (fun u i wr => ∃ k : Nat, k ≤ m ∧ i = .int .i64 k ∧ pairTo n ps k = true ∧ OwnP wr w.heap.size u ((decL ps).take k) ∧ Below w.heap.size w wr) (fun _ i _ => m - (intOf i).toNat)
    case atStart => exact ⟨0, Nat.zero_le _, rfl, rfl, ownP_nil _ _, Below.refl _ _⟩
    case round =>
      obtain ⟨k, hk, rfl, ht, hown, hbel⟩ := hrel
      have HT := Lib.hid ht
      have HO := Lib.hid hown
      clear ht hown
      by_cases hlt : k < m
      · rcases H3.out with h3 | ⟨bb, off, rfl, hc⟩
        · have := HM.out
          rw [h3] at this
          simp at this
          omega
        have hck := cellSt (hc k (by have := HM.out; omega)) hbel
        have hrow := rdv_below (H4.out k (by have := HM.out; omega)) hbel
        obtain ⟨row, hrw⟩ : ∃ row, row = ps.getD k [] := ⟨_, rfl⟩
        obtain ⟨z, hz⟩ : ∃ z, z = vs.getD k undef := ⟨_, rfl⟩
        rw [← hz] at hck hrow
        rw [← hrw] at hrow
        have HROW := Lib.hid hrow
        have HRW := Lib.hid hrw
        obtain ⟨zo, zc, rfl, _⟩ := hrow
        have hBr := hbel.size
        clear hc hz hrw
        cases hok : toldOk n row with
        | false =>
          have HTOLD := Lib.hid (arcTold_no n _ row wr HROW.out hok)
          have HF : Hid (pairTo n ps m = false) := Lib.hid (pairTo_le (k := k + 1) (by omega) (by
            have hs : pairTo n ps (k + 1) = (pairTo n ps k && okPair n (ps.getD k []) && (decide (k = 0) || lessI (ps.getD (k - 1) []) (ps.getD k []))) := rfl
            rw [hs, ← HRW.out, okPair_told, hok]
            simp))
          clear hok
          go_wp2_with fail
          refine HTOLD.out.mono ?_
          rintro e w5 ⟨rfl, hb5⟩
          have HB5 := Lib.hid (below_step hbel hb5)
          clear hb5
          go_wp2
          go_ret2
          obtain ⟨e1, e2⟩ := RNO.out HF.out
          rw [e1, e2]
          exact ⟨_, rfl, ownP_nil _ _, HB5.out.alloc HB5.out.size _⟩
        | true =>
          have HTOLD := Lib.hid (arcTold_yes n _ row wr HROW.out hok)
          have hnx := pairTo_next (n := n) (ps := ps) (k := k) (by have := HM.out; omega) HT.out (by rw [← HRW.out, okPair_told]; exact hok)
          rw [← HRW.out] at hnx
          simp only [toldOk, decide_eq_true_eq] at hok
          obtain ⟨hl2, ⟨h00, h0n⟩, h01, h1n⟩ := hok
          have hdp : decP row = ((row.getD 0 0).toNat, (row.getD 1 0).toNat) := rfl
          obtain ⟨x, hx⟩ := Int.eq_ofNat_of_zero_le h00
          obtain ⟨y, hy⟩ := Int.eq_ofNat_of_zero_le (show 0 ≤ row.getD 1 0 by omega)
          rw [hx, hy] at HTOLD
          rw [hx, hy, Int.toNat_natCast, Int.toNat_natCast] at hdp
          rw [hdp] at hnx
          have HDP : Hid ((decL ps).take (k + 1) = (decL ps).take k ++ [(x, y)]) := Lib.hid (by
            rw [take_snocP _ _ (by rw [decL_length]; have := HM.out; omega), decL_getD ps (by have := HM.out; omega), ← HRW.out, hdp])
          have hlk : ((decL ps).take k).length ≤ 15 := by have := pairTo_len n1 n6 (by have := HM.out; omega) HT.out; rw [List.length_take]; omega
          obtain ⟨LK, hLK⟩ : ∃ LK, LK = (decL ps).take k := ⟨_, rfl⟩
          rw [← hLK] at hnx HO HDP hlk
          have HNX := Lib.hid hnx
          clear hnx hdp hx hy hl2 h00 h0n h01 h1n hLK
          go_wp2_with fail
          refine HTOLD.out.mono ?_
          rintro e w5 ⟨rfl, hb5⟩
          have hb6 : Below wr.heap.size wr (w5.alloc (.cells #[.int .i64 x, .int .i64 y] 71)) := hb5.alloc hb5.size _
          have HO5 := Lib.hid (ownP_below HO.out hb6)
          have HB5 := Lib.hid (below_step hbel hb6)
          clear hb5 hb6
          have f1 : (w5.alloc (.cells #[.int .i64 x, .int .i64 y] 71)).cell? ⟨w5.heap.size, 0, none⟩ = some (.int .i64 x) := (cells_two rfl).1
          have f2 : (w5.alloc (.cells #[.int .i64 x, .int .i64 y] 71)).cell? ⟨w5.heap.size, 1, none⟩ = some (.int .i64 y) := (cells_two rfl).2
          by_cases hc : LK = [] ∨ cmpP (LK.getD (LK.length - 1) (0, 0)) (x, y) < 0
          · have HW := Lib.hid (with_yes u6 w.heap.size LK (x, y) _ HO5.out HB5.out.size (by omega) hc)
            have HT2 := Lib.hid (HNX.out.2 hc)
            clear hc
            go_wp2_with fail
            refine HW.out.mono ?_
            rintro e w7 ⟨v', rfl, ho7, hb7⟩
            have HO7 := Lib.hid ho7
            have HB7 := Lib.hid (HB5.out.trans (hb7.mono (Nat.le_refl _)))
            clear ho7 hb7
            go_wp2
            go_roundw
            case rel => exact ⟨k + 1, by omega, by go_num, HT2.out, by rw [HDP.out]; exact HO7.out, HB7.out⟩
            case measure => simp [intOf]; omega
          · have HW := Lib.hid (with_no u6 w.heap.size LK (x, y) _ HO5.out HB5.out.size (by omega) (fun e => hc (.inl e)) (fun e => hc (.inr e)))
            have HF : Hid (pairTo n ps m = false) := Lib.hid (pairTo_le (k := k + 1) (by omega) (by rw [Bool.eq_false_iff]; exact fun e => hc (HNX.out.1 e)))
            clear hc
            go_wp2_with fail
            refine HW.out.mono ?_
            rintro e w7 ⟨rfl, hb7⟩
            have HB7 := Lib.hid (HB5.out.trans (hb7.mono (Nat.le_refl _)))
            clear hb7
            go_wp2
            go_ret2
            obtain ⟨e1, e2⟩ := RNO.out HF.out
            rw [e1, e2]
            exact ⟨_, rfl, ownP_nil _ _, HB7.out⟩
      · have hkm : k = m := by omega
        subst hkm
        go_wp2
        go_ret2
        obtain ⟨e1, e2⟩ := RYES.out HT.out
        rw [e1, e2]
        have ho := HO.out
        rw [List.take_of_length_le (by rw [decL_length]; have := HM.out; omega)] at ho
        exact ⟨_, rfl, ho, hbel⟩
  · have hpi : pairIn n ps = false := by
      rw [Bool.eq_false_iff]
      intro h
      simp only [pairIn, Bool.and_eq_true, decide_eq_true_eq] at h
      exact hn h.1
    unfold ToldP
    rw [hpi]
    by_cases h1' : n < 1
    · go_enter Try.func44, Try.ntmps44
      go_wp2
      go_ret2
      exact ⟨_, rfl, ownP_nil _ _, Below.refl _ _⟩
    · have h6' : n > 6 := by omega
      go_enter Try.func44, Try.ntmps44
      go_wp2
      go_ret2
      exact ⟨_, rfl, ownP_nil _ _, Below.refl _ _⟩

theorem iPairIn_v (v : Value) (n : Int) (ps : List (List Int)) (w : World) (hv : RdM w v ps) (_ : (Lit.int .i64 n).wf = true) :
    Calls Try.prog 16 #[.int .i64 n, v] w (GivesB w (pairIn n ps)) := by
  have HP := Lib.hid (pairsTold_any n v ps w hv)
  clear hv
  go_enter Try.func16, Try.ntmps16
  go_wp2_with fail
  refine HP.out.mono ?_
  rintro e w1 ⟨u, rfl, ho, hb⟩
  go_wp2
  go_ret
  exact ⟨rfl, hb⟩

end Go.Proofs.Ytieldehghmikkaa
