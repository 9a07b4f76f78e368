/-
  The contracts of PairPart and PairWhole of both sides.
-/
import Derived.Test.YtieldehghmikkaaPairConn
import Derived.Test.YtieldehghmikkaaPairFacts
namespace Go.Proofs.Ytieldehghmikkaa
set_option linter.unusedSimpArgs false
set_option linter.unusedVariables false
set_option linter.unnecessarySimpa false
open Go.RowKit
set_option maxRecDepth 100000

theorem partP_len (n : Nat) (L : List (Nat × Nat)) : (partP n L).length = n := by
  unfold partP
  rw [kOut_length, labTo_len]
theorem partP_eq {n : Nat} {L : List (Nat × Nat)} (hL : InN n L) {p : Nat × Nat} (hp : p ∈ L) : (partP n L).getD p.1 0 = (partP n L).getD p.2 0 := by
  have hq := hL p hp
  have hl := labTo_len n L n
  unfold partP
  exact ((kOut_inv (labTo n L n)).2 p.1 p.2 (by omega) (by omega)).1 (lab_eq n L hL hp)
theorem sub_of_part {n : Nat} {L : List (Nat × Nat)} (hn : n < 7) (h : L.Sublist (allP n)) : L.Sublist (ofP (partP n L)) := by
  have hl := partP_len n L
  refine sorted_sublist _ _ ((allP_sorted n hn).sublist (by have := ofP_sub (partP n L); rw [hl] at this; exact this)) ((allP_sorted n hn).sublist h) fun p hp => ?_
  unfold ofP
  rw [hl]
  exact List.mem_filter.2 ⟨h.subset hp, by rw [partP_eq (inN_of_sub h) hp]; simp⟩
theorem whole_dec {n : Nat} {L : List (Nat × Nat)} (hn : n < 7) (h : L.Sublist (allP n)) : wholeP n L = decide (ofP (partP n L) = L) := by
  unfold wholeP
  rw [Bool.eq_iff_iff, beq_iff_eq, decide_eq_true_eq]
  constructor
  · intro e
    exact ((sub_of_part hn h).eq_of_length e.symm).symm
  · intro e
    rw [e]

/-- What PairPart, PairWhole answer. -/
def pairPart (n : Int) (ps : List (List Int)) : List Int × Bool := if pairIn n ps then (partP n.toNat (decL ps), true) else ([], false)
def pairWhole (n : Int) (ps : List (List Int)) : Bool := pairIn n ps && wholeP n.toNat (decL ps)

theorem pairPart_len (n : Int) (ps : List (List Int)) : (pairPart n ps).1.length ≤ 2305843009213693952 := by
  unfold pairPart
  split
  · rename_i h
    obtain ⟨m, L, rfl, h1, h6, hs, rfl⟩ := pairIn_sub h
    rw [partP_len]
    omega
  · simp

/-- A pair list, opened. -/
theorem pair_open {n : Int} {ps : List (List Int)} (h : pairIn n ps = true) : ∃ (m : Nat) (L : List (Nat × Nat)), n = (m : Int) ∧ 1 ≤ m ∧ m ≤ 6 ∧ L.Sublist (allP m) ∧ ps = encPs L ∧ InN m L ∧ L.length ≤ 15 ∧ decL ps = L := by
  obtain ⟨m, L, e, h1, h6, hs, he⟩ := pairIn_sub h
  have := hs.length_le
  have h15 := allP_le m h6
  exact ⟨m, L, e, h1, h6, hs, he, inN_of_sub hs, by omega, by rw [he, decL_enc]⟩

theorem told_yes {n : Int} {v : Value} {ps : List (List Int)} {w : World} {L : List (Nat × Nat)} (hv : RdM w v ps) (h : pairIn n ps = true) (hd : decL ps = L) :
    Calls Try.prog 44 #[.int .i64 n, v] w fun e w' => ∃ v', e = .returned (.tuple #[v', .bool true]) ∧ OwnP w' w.heap.size v' L ∧ Below w.heap.size w w' :=
  (pairsTold_any n v ps w hv).mono fun e w' ⟨v', he, ho, hb⟩ => ⟨v', by rw [he, h], by rw [h, if_pos rfl, hd] at ho; exact ho, hb⟩
theorem told_no {n : Int} {v : Value} {ps : List (List Int)} {w : World} (hv : RdM w v ps) (h : pairIn n ps = false) :
    Calls Try.prog 44 #[.int .i64 n, v] w fun e w' => ∃ v', e = .returned (.tuple #[v', .bool false]) ∧ OwnP w' w.heap.size v' [] ∧ Below w.heap.size w w' :=
  (pairsTold_any n v ps w hv).mono fun e w' ⟨v', he, ho, hb⟩ => ⟨v', by rw [he, h], by rw [h] at ho; exact ho, hb⟩
theorem sIn_is (b : Bool) {n : Int} {v : Value} {ps : List (List Int)} {w : World} (hv : RdM w v ps) (h : pairIn n ps = b) (hw : (Lit.int .i64 n).wf = true) :
    Calls Try.prog 14 #[.int .i64 n, v] w fun e w' => e = .returned (.bool b) ∧ Below w.heap.size w w' := by
  subst h
  exact sPairIn_v v n ps w hv hw

set_option maxHeartbeats 1600000 in
theorem iPairPart_v (v : Value) (n : Int) (ps : List (List Int)) (w : World) (hv : RdM w v ps) (_ : (Lit.int .i64 n).wf = true) :
    Calls Try.prog 26 #[.int .i64 n, v] w (FreshLB w (pairPart n ps)) := by
  cases h : pairIn n ps with
  | true =>
    have hr : pairPart n ps = (partP n.toNat (decL ps), true) := by simp [pairPart, h]
    obtain ⟨m, L, rfl, h1, h6, hs, he, hin, hl, hd⟩ := pair_open h
    rw [hr, hd, Int.toNat_natCast]
    have HT := Lib.hid (told_yes hv h hd)
    have HC := Lib.hid fun (w1 : World) (u : Value) (hu : RdP w1 u L) => connected_any m u L w1 hu hin h1 (by omega) (by omega)
    clear hr h he hin hl hd hs hv
    go_enter Try.func26, Try.ntmps26
    go_wp2_with fail
    refine HT.out.mono ?_
    rintro e w1 ⟨u, rfl, ho, hb⟩
    have HRD := Lib.hid (ownP_rd ho)
    clear ho
    go_wp2_with fail
    refine (HC.out _ _ HRD.out).mono ?_
    rintro e w2 ⟨u2, rfl, ho2, hb2⟩
    go_wp2
    go_ret2
    exact ⟨_, rfl, own_mono ho2 hb.size, below_step hb hb2⟩
  | false =>
    have hr : pairPart n ps = ([], false) := by simp [pairPart, h]
    rw [hr]
    have HT := Lib.hid (told_no hv h)
    clear hr h hv
    go_enter Try.func26, Try.ntmps26
    go_wp2_with fail
    refine HT.out.mono ?_
    rintro e w1 ⟨u, rfl, ho, hb⟩
    go_wp2
    go_ret2
    exact ⟨_, rfl, own_nil _ _, hb⟩

set_option maxHeartbeats 1600000 in
theorem sPairPart_v (v : Value) (n : Int) (ps : List (List Int)) (w : World) (hv : RdM w v ps) (hw : (Lit.int .i64 n).wf = true) :
    Calls Try.prog 25 #[.int .i64 n, v] w (FreshLB w (pairPart n ps)) := by
  cases h : pairIn n ps with
  | true =>
    have hr : pairPart n ps = (partP n.toNat (decL ps), true) := by simp [pairPart, h]
    have HT := Lib.hid (sIn_is true hv h hw)
    obtain ⟨m, L, rfl, h1, h6, hs, he, hin, hl, hd⟩ := pair_open h
    rw [hr, hd, Int.toNat_natCast]
    have HC := Lib.hid fun (w1 : World) (hb : Below w.heap.size w w1) => l8Part_any m v L w1 (by rw [← he]; exact rdM_below hv hb) hin (by omega)
    clear hr h he hin hl hd hs hv
    go_enter Try.func25, Try.ntmps25
    go_wp2_with fail
    refine HT.out.mono ?_
    rintro e w1 ⟨rfl, hb⟩
    go_wp2_with fail
    refine (HC.out _ hb).mono ?_
    rintro e w2 ⟨u2, rfl, ho2, hb2⟩
    go_wp2
    go_ret2
    exact ⟨_, rfl, own_mono ho2 hb.size, below_step hb hb2⟩
  | false =>
    have hr : pairPart n ps = ([], false) := by simp [pairPart, h]
    rw [hr]
    have HT := Lib.hid (sIn_is false hv h hw)
    clear hr h hv
    go_enter Try.func25, Try.ntmps25
    go_wp2_with fail
    refine HT.out.mono ?_
    rintro e w1 ⟨rfl, hb⟩
    go_wp2
    go_ret2
    exact ⟨_, rfl, own_mono (own_empty w1 w1.heap.size (Nat.le_refl _)) hb.size, hb.alloc hb.size _⟩

set_option maxHeartbeats 1600000 in
theorem iPairWhole_v (v : Value) (n : Int) (ps : List (List Int)) (w : World) (hv : RdM w v ps) (_ : (Lit.int .i64 n).wf = true) :
    Calls Try.prog 29 #[.int .i64 n, v] w (GivesB w (pairWhole n ps)) := by
  cases h : pairIn n ps with
  | true =>
    have hr : pairWhole n ps = wholeP n.toNat (decL ps) := by simp [pairWhole, h]
    obtain ⟨m, L, rfl, h1, h6, hs, he, hin, hl, hd⟩ := pair_open h
    rw [hr, hd, Int.toNat_natCast, whole_dec (by omega) hs]
    have HT := Lib.hid (told_yes hv h hd)
    have HC := Lib.hid fun (w1 : World) (u : Value) (hu : RdP w1 u L) => connected_any m u L w1 hu hin h1 (by omega) (by omega)
    have HPL := partP_len m L
    have HO := Lib.hid fun (w1 : World) (u : Value) (hu : RdV w1 u (partP m L)) => pairsOf_any u (partP m L) w1 hu (by omega)
    have hol := ofP_len (partP m L) (by omega)
    obtain ⟨X, hX⟩ : ∃ X, X = ofP (partP m L) := ⟨_, rfl⟩
    obtain ⟨Y, hY⟩ : ∃ Y, Y = partP m L := ⟨_, rfl⟩
    rw [← hX] at HO hol ⊢
    rw [← hY] at HC HO
    have HE := Lib.hid fun (w1 : World) (u u2 : Value) (hu : RdP w1 u X) (hu2 : RdP w1 u2 L) => equal_any u u2 X L w1 hu hu2 (by omega) (by omega)
    clear hr h he hin hl hd hs hv HPL hol hX hY
    obtain ⟨R, hR⟩ : ∃ R, R = decide (X = L) := ⟨_, rfl⟩
    rw [← hR] at HE ⊢
    clear hR
    go_enter Try.func29, Try.ntmps29
    go_wp2_with fail
    refine HT.out.mono ?_
    rintro e w1 ⟨u, rfl, ho, hb⟩
    have HRD := Lib.hid (ownP_rd ho)
    clear ho
    go_wp2_with fail
    refine (HC.out _ _ HRD.out).mono ?_
    rintro e w2 ⟨u2, rfl, ho2, hb2⟩
    have HB2 := Lib.hid (below_step hb hb2)
    have HRD2 := Lib.hid (rdP_below HRD.out hb2)
    have HO2 := Lib.hid (own_rdv ho2)
    clear ho2 hb2
    go_wp2_with fail
    refine (HO.out _ _ HO2.out).mono ?_
    rintro e w3 ⟨u3, rfl, ho3, hb3⟩
    have HB3 := Lib.hid (below_step HB2.out hb3)
    have HRD3 := Lib.hid (rdP_below HRD2.out hb3)
    have HO3 := Lib.hid (ownP_rd ho3)
    clear ho3 hb3
    go_wp2_with fail
    refine (HE.out _ _ _ HO3.out HRD3.out).mono ?_
    rintro e w4 ⟨rfl, hb4⟩
    have HB4 := Lib.hid (below_step HB3.out hb4)
    clear hb4
    go_wp2
    go_ret
    exact ⟨rfl, HB4.out⟩
  | false =>
    have hr : pairWhole n ps = false := by simp [pairWhole, h]
    rw [hr]
    have HT := Lib.hid (told_no hv h)
    clear hr h hv
    go_enter Try.func29, Try.ntmps29
    go_wp2_with fail
    refine HT.out.mono ?_
    rintro e w1 ⟨u, rfl, ho, hb⟩
    go_wp2
    go_ret
    exact ⟨rfl, hb⟩

set_option maxHeartbeats 1600000 in
theorem sPairWhole_v (v : Value) (n : Int) (ps : List (List Int)) (w : World) (hv : RdM w v ps) (hw : (Lit.int .i64 n).wf = true) :
    Calls Try.prog 28 #[.int .i64 n, v] w (GivesB w (pairWhole n ps)) := by
  cases h : pairIn n ps with
  | true =>
    have hr : pairWhole n ps = wholeP n.toNat (decL ps) := by simp [pairWhole, h]
    have HT := Lib.hid (sIn_is true hv h hw)
    obtain ⟨m, L, rfl, h1, h6, hs, he, hin, hl, hd⟩ := pair_open h
    rw [hr, hd, Int.toNat_natCast]
    have HC := Lib.hid fun (w1 : World) (hb : Below w.heap.size w w1) => l8Part_any m v L w1 (by rw [← he]; exact rdM_below hv hb) hin (by omega)
    have HPL := partP_len m L
    have HO := Lib.hid fun (w1 : World) (u : Value) (hu : RdV w1 u (partP m L)) => l8Of_any u (partP m L) w1 hu (by omega)
    have hwh : wholeP m L = ((ofP (partP m L)).length == L.length) := rfl
    obtain ⟨X, hX⟩ : ∃ X, X = ofP (partP m L) := ⟨_, rfl⟩
    obtain ⟨Y, hY⟩ : ∃ Y, Y = partP m L := ⟨_, rfl⟩
    rw [← hX] at HO hwh
    rw [← hY] at HC HO
    obtain ⟨ao, ca, vs, rfl, k1, k2, _⟩ := encPs_at (by rw [← he]; exact hv)
    obtain ⟨x, hx⟩ : ∃ x, x = X.length := ⟨_, rfl⟩
    obtain ⟨l, hle⟩ : ∃ l, l = L.length := ⟨_, rfl⟩
    rw [← hx, ← hle] at hwh
    rw [← hle] at HT HC k1 hl ⊢
    rw [hwh]
    have HXL := Lib.hid hx
    clear hr h he hin hd hs hv HPL hX hY hx hle hwh
    by_cases hxl : x = l
    · have hd1 : ((x : Int) == (l : Int)) = true := by simp [hxl]
      have hd2 : (x == l) = true := by simp [hxl]
      rw [hd2]
      clear hxl hd2
      go_enter Try.func28, Try.ntmps28
      go_wp2_with fail
      refine HT.out.mono ?_
      rintro e w1 ⟨rfl, hb⟩
      go_wp2_with fail
      refine (HC.out _ hb).mono ?_
      rintro e w2 ⟨u2, rfl, ho2, hb2⟩
      have HB2 := Lib.hid (below_step hb hb2)
      have HO2 := Lib.hid (own_rdv ho2)
      clear ho2 hb2
      go_wp2_with fail
      refine (HO.out _ _ HO2.out).mono ?_
      rintro e w3 ⟨u3, rfl, ho3, hb3⟩
      obtain ⟨go, gc, rfl⟩ : ∃ go gc, u3 = .slice go x gc := by
        obtain ⟨q1, q2, _, _, e, _⟩ := ownM_rdM ho3
        rw [encPs_length, ← HXL.out] at e
        exact ⟨_, _, e⟩
      have HB3 := Lib.hid (below_step HB2.out hb3)
      clear ho3 hb3
      go_wp2
      go_ret
      exact ⟨rfl, HB3.out⟩
    · have hd1 : ((x : Int) == (l : Int)) = false := by simp; omega
      have hd2 : (x == l) = false := by simp [hxl]
      have hd3 : ¬ ((x : Int) = (l : Int)) := by omega
      rw [hd2]
      clear hxl hd2
      go_enter Try.func28, Try.ntmps28
      go_wp2_with fail
      refine HT.out.mono ?_
      rintro e w1 ⟨rfl, hb⟩
      go_wp2_with fail
      refine (HC.out _ hb).mono ?_
      rintro e w2 ⟨u2, rfl, ho2, hb2⟩
      have HB2 := Lib.hid (below_step hb hb2)
      have HO2 := Lib.hid (own_rdv ho2)
      clear ho2 hb2
      go_wp2_with fail
      refine (HO.out _ _ HO2.out).mono ?_
      rintro e w3 ⟨u3, rfl, ho3, hb3⟩
      obtain ⟨go, gc, rfl⟩ : ∃ go gc, u3 = .slice go x gc := by
        obtain ⟨q1, q2, _, _, e, _⟩ := ownM_rdM ho3
        rw [encPs_length, ← HXL.out] at e
        exact ⟨_, _, e⟩
      have HB3 := Lib.hid (below_step HB2.out hb3)
      clear ho3 hb3
      go_wp2
      go_ret
      exact ⟨rfl, HB3.out⟩
  | false =>
    have hr : pairWhole n ps = false := by simp [pairWhole, h]
    rw [hr]
    have HT := Lib.hid (sIn_is false hv h hw)
    obtain ⟨ao, ca, vs, hvl, rfl, _⟩ := hv
    clear hr h
    go_enter Try.func28, Try.ntmps28
    go_wp2_with fail
    refine HT.out.mono ?_
    rintro e w1 ⟨rfl, hb⟩
    go_wp2
    go_ret
    exact ⟨rfl, hb⟩

end Go.Proofs.Ytieldehghmikkaa
