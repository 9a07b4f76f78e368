/-
  What the laws of this claim lean on: what functions of the program and of the model answer, one after another, and plain mathematics. No condition.
-/
import Derived.Test.YtbmpchpcihnbdaaMgA
import Derived.Test.YtbmpchpcihnbdaaMgB
import Derived.Test.YtbmpchpcihnbdaaMgC
import Derived.Test.YtbmpchpcihnbdaaMgD
import Derived.Test.YtbmpchpcihnbdaaMgF
import Derived.Test.YtbmpchpcihnbdaaMgG
import Derived.Laws.BitsAllLaws
import Derived.StillTailTactics

/-
  The contracts of PairPart and PairWhole of both sides.
-/
namespace Go.Proofs.Ytbmpchpcihnbdaa
set_option linter.unusedSimpArgs false
set_option linter.unusedVariables false
set_option linter.unnecessarySimpa false
open Go.RowKit
set_option maxRecDepth 100000

theorem partP_len (n : Nat) (L : List (Nat × Nat)) : (partP n L).length = n := by
  unfold partP
  rw [kOut_length, labTo_len]
theorem partP_eq {n : Nat} {L : List (Nat × Nat)} (hL : InN n L) {p : Nat × Nat} (hp : p ∈ L) : (partP n L).getD p.1 0 = (partP n L).getD p.2 0 := by
  have hq := hL p hp
  have hl := labTo_len n L n
  unfold partP
  exact ((kOut_inv (labTo n L n)).2 p.1 p.2 (by omega) (by omega)).1 (lab_eq n L hL hp)
theorem sub_of_part {n : Nat} {L : List (Nat × Nat)} (hn : n < 7) (h : L.Sublist (allP n)) : L.Sublist (ofP (partP n L)) := by
  have hl := partP_len n L
  refine sorted_sublist _ _ ((allP_sorted n hn).sublist (by have := ofP_sub (partP n L); rw [hl] at this; exact this)) ((allP_sorted n hn).sublist h) fun p hp => ?_
  unfold ofP
  rw [hl]
  exact List.mem_filter.2 ⟨h.subset hp, by rw [partP_eq (inN_of_sub h) hp]; simp⟩
theorem whole_dec {n : Nat} {L : List (Nat × Nat)} (hn : n < 7) (h : L.Sublist (allP n)) : wholeP n L = decide (ofP (partP n L) = L) := by
  unfold wholeP
  rw [Bool.eq_iff_iff, beq_iff_eq, decide_eq_true_eq]
  constructor
  · intro e
    exact ((sub_of_part hn h).eq_of_length e.symm).symm
  · intro e
    rw [e]

/-- What PairPart, PairWhole answer. -/
def pairPart (n : Int) (ps : List (List Int)) : List Int × Bool := if pairIn n ps then (partP n.toNat (decL ps), true) else ([], false)
def pairWhole (n : Int) (ps : List (List Int)) : Bool := pairIn n ps && wholeP n.toNat (decL ps)

theorem pairPart_len (n : Int) (ps : List (List Int)) : (pairPart n ps).1.length ≤ 2305843009213693952 := by
  unfold pairPart
  split
  · rename_i h
    obtain ⟨m, L, rfl, h1, h6, hs, rfl⟩ := pairIn_sub h
    rw [partP_len]
    omega
  · simp

set_option maxHeartbeats 1600000 in
theorem iPairPart_v (v : Value) (n : Int) (ps : List (List Int)) (w : World) (hv : RdM w v ps) (_ : (Lit.int .i64 n).wf = true) :
    Calls Try.prog 24 #[.int .i64 n, v] w (FreshLB w (pairPart n ps)) := by
  cases h : pairIn n ps with
  | true =>
    have hr : pairPart n ps = (partP n.toNat (decL ps), true) := by simp [pairPart, h]
    obtain ⟨m, L, rfl, h1, h6, hs, he, hin, hl, hd⟩ := pair_open h
    rw [hr, hd, Int.toNat_natCast]
    have HT := Lib.hid (told_yes hv h hd)
    have HC := Lib.hid fun (w1 : World) (u : Value) (hu : RdP w1 u L) => connected_any m u L w1 hu hin h1 (by omega) (by omega)
    clear hr h he hin hl hd hs hv
    go_enter Try.func24, Try.ntmps24
    go_wp2_with fail
    refine HT.out.mono ?_
    rintro e w1 ⟨u, rfl, ho, hb⟩
    have HRD := Lib.hid (ownP_rd ho)
    clear ho
    go_wp2_with fail
    refine (HC.out _ _ HRD.out).mono ?_
    rintro e w2 ⟨u2, rfl, ho2, hb2⟩
    go_wp2
    go_ret2
    exact ⟨_, rfl, own_mono ho2 hb.size, below_step hb hb2⟩
  | false =>
    have hr : pairPart n ps = ([], false) := by simp [pairPart, h]
    rw [hr]
    have HT := Lib.hid (told_no hv h)
    clear hr h hv
    go_enter Try.func24, Try.ntmps24
    go_wp2_with fail
    refine HT.out.mono ?_
    rintro e w1 ⟨u, rfl, ho, hb⟩
    go_wp2
    go_ret2
    exact ⟨_, rfl, own_nil _ _, hb⟩

set_option maxHeartbeats 1600000 in
theorem sPairPart_v (v : Value) (n : Int) (ps : List (List Int)) (w : World) (hv : RdM w v ps) (hw : (Lit.int .i64 n).wf = true) :
    Calls Try.prog 28 #[.int .i64 n, v] w (FreshLB w (pairPart n ps)) := by
  cases h : pairIn n ps with
  | true =>
    have hr : pairPart n ps = (partP n.toNat (decL ps), true) := by simp [pairPart, h]
    have HT := Lib.hid (sIn_is true hv h hw)
    obtain ⟨m, L, rfl, h1, h6, hs, he, hin, hl, hd⟩ := pair_open h
    rw [hr, hd, Int.toNat_natCast]
    have HC := Lib.hid fun (w1 : World) (hb : Below w.heap.size w w1) => l8Part_any m v L w1 (by rw [← he]; exact rdM_below hv hb) hin (by omega)
    clear hr h he hin hl hd hs hv
    go_enter Try.func28, Try.ntmps28
    go_wp2_with fail
    refine HT.out.mono ?_
    rintro e w1 ⟨rfl, hb⟩
    go_wp2_with fail
    refine (HC.out _ hb).mono ?_
    rintro e w2 ⟨u2, rfl, ho2, hb2⟩
    go_wp2
    go_ret2
    exact ⟨_, rfl, own_mono ho2 hb.size, below_step hb hb2⟩
  | false =>
    have hr : pairPart n ps = ([], false) := by simp [pairPart, h]
    rw [hr]
    have HT := Lib.hid (sIn_is false hv h hw)
    clear hr h hv
    go_enter Try.func28, Try.ntmps28
    go_wp2_with fail
    refine HT.out.mono ?_
    rintro e w1 ⟨rfl, hb⟩
    go_wp2
    go_ret2
    exact ⟨_, rfl, own_mono (own_empty w1 w1.heap.size (Nat.le_refl _)) hb.size, hb.alloc hb.size _⟩

set_option maxHeartbeats 1600000 in
theorem iPairWhole_v (v : Value) (n : Int) (ps : List (List Int)) (w : World) (hv : RdM w v ps) (_ : (Lit.int .i64 n).wf = true) :
    Calls Try.prog 26 #[.int .i64 n, v] w (GivesB w (pairWhole n ps)) := by
  cases h : pairIn n ps with
  | true =>
    have hr : pairWhole n ps = wholeP n.toNat (decL ps) := by simp [pairWhole, h]
    obtain ⟨m, L, rfl, h1, h6, hs, he, hin, hl, hd⟩ := pair_open h
    rw [hr, hd, Int.toNat_natCast, whole_dec (by omega) hs]
    have HT := Lib.hid (told_yes hv h hd)
    have HC := Lib.hid fun (w1 : World) (u : Value) (hu : RdP w1 u L) => connected_any m u L w1 hu hin h1 (by omega) (by omega)
    have HPL := partP_len m L
    have HO := Lib.hid fun (w1 : World) (u : Value) (hu : RdV w1 u (partP m L)) => pairsOf_any u (partP m L) w1 hu (by omega)
    have hol := ofP_len (partP m L) (by omega)
    obtain ⟨X, hX⟩ : ∃ X, X = ofP (partP m L) := ⟨_, rfl⟩
    obtain ⟨Y, hY⟩ : ∃ Y, Y = partP m L := ⟨_, rfl⟩
    rw [← hX] at HO hol ⊢
    rw [← hY] at HC HO
    have HE := Lib.hid fun (w1 : World) (u u2 : Value) (hu : RdP w1 u X) (hu2 : RdP w1 u2 L) => equal_any u u2 X L w1 hu hu2 (by omega) (by omega)
    clear hr h he hin hl hd hs hv HPL hol hX hY
    obtain ⟨R, hR⟩ : ∃ R, R = decide (X = L) := ⟨_, rfl⟩
    rw [← hR] at HE ⊢
    clear hR
    go_enter Try.func26, Try.ntmps26
    go_wp2_with fail
    refine HT.out.mono ?_
    rintro e w1 ⟨u, rfl, ho, hb⟩
    have HRD := Lib.hid (ownP_rd ho)
    clear ho
    go_wp2_with fail
    refine (HC.out _ _ HRD.out).mono ?_
    rintro e w2 ⟨u2, rfl, ho2, hb2⟩
    have HB2 := Lib.hid (below_step hb hb2)
    have HRD2 := Lib.hid (rdP_below HRD.out hb2)
    have HO2 := Lib.hid (own_rdv ho2)
    clear ho2 hb2
    go_wp2_with fail
    refine (HO.out _ _ HO2.out).mono ?_
    rintro e w3 ⟨u3, rfl, ho3, hb3⟩
    have HB3 := Lib.hid (below_step HB2.out hb3)
    have HRD3 := Lib.hid (rdP_below HRD2.out hb3)
    have HO3 := Lib.hid (ownP_rd ho3)
    clear ho3 hb3
    go_wp2_with fail
    refine (HE.out _ _ _ HO3.out HRD3.out).mono ?_
    rintro e w4 ⟨rfl, hb4⟩
    have HB4 := Lib.hid (below_step HB3.out hb4)
    clear hb4
    go_wp2
    go_ret
    exact ⟨rfl, HB4.out⟩
  | false =>
    have hr : pairWhole n ps = false := by simp [pairWhole, h]
    rw [hr]
    have HT := Lib.hid (told_no hv h)
    clear hr h hv
    go_enter Try.func26, Try.ntmps26
    go_wp2_with fail
    refine HT.out.mono ?_
    rintro e w1 ⟨u, rfl, ho, hb⟩
    go_wp2
    go_ret
    exact ⟨rfl, hb⟩

set_option maxHeartbeats 1600000 in
theorem sPairWhole_v (v : Value) (n : Int) (ps : List (List Int)) (w : World) (hv : RdM w v ps) (hw : (Lit.int .i64 n).wf = true) :
    Calls Try.prog 32 #[.int .i64 n, v] w (GivesB w (pairWhole n ps)) := by
  cases h : pairIn n ps with
  | true =>
    have hr : pairWhole n ps = wholeP n.toNat (decL ps) := by simp [pairWhole, h]
    have HT := Lib.hid (sIn_is true hv h hw)
    obtain ⟨m, L, rfl, h1, h6, hs, he, hin, hl, hd⟩ := pair_open h
    rw [hr, hd, Int.toNat_natCast]
    have HC := Lib.hid fun (w1 : World) (hb : Below w.heap.size w w1) => l8Part_any m v L w1 (by rw [← he]; exact rdM_below hv hb) hin (by omega)
    have HPL := partP_len m L
    have HO := Lib.hid fun (w1 : World) (u : Value) (hu : RdV w1 u (partP m L)) => l8Of_any u (partP m L) w1 hu (by omega)
    have hwh : wholeP m L = ((ofP (partP m L)).length == L.length) := rfl
    obtain ⟨X, hX⟩ : ∃ X, X = ofP (partP m L) := ⟨_, rfl⟩
    obtain ⟨Y, hY⟩ : ∃ Y, Y = partP m L := ⟨_, rfl⟩
    rw [← hX] at HO hwh
    rw [← hY] at HC HO
    obtain ⟨ao, ca, vs, rfl, k1, k2, _⟩ := encPs_at (by rw [← he]; exact hv)
    obtain ⟨x, hx⟩ : ∃ x, x = X.length := ⟨_, rfl⟩
    obtain ⟨l, hle⟩ : ∃ l, l = L.length := ⟨_, rfl⟩
    rw [← hx, ← hle] at hwh
    rw [← hle] at HT HC k1 hl ⊢
    rw [hwh]
    have HXL := Lib.hid hx
    clear hr h he hin hd hs hv HPL hX hY hx hle hwh
    by_cases hxl : x = l
    · have hd1 : ((x : Int) == (l : Int)) = true := by simp [hxl]
      have hd2 : (x == l) = true := by simp [hxl]
      rw [hd2]
      clear hxl hd2
      go_enter Try.func32, Try.ntmps32
      go_wp2_with fail
      refine HT.out.mono ?_
      rintro e w1 ⟨rfl, hb⟩
      go_wp2_with fail
      refine (HC.out _ hb).mono ?_
      rintro e w2 ⟨u2, rfl, ho2, hb2⟩
      have HB2 := Lib.hid (below_step hb hb2)
      have HO2 := Lib.hid (own_rdv ho2)
      clear ho2 hb2
      go_wp2_with fail
      refine (HO.out _ _ HO2.out).mono ?_
      rintro e w3 ⟨u3, rfl, ho3, hb3⟩
      obtain ⟨go, gc, rfl⟩ : ∃ go gc, u3 = .slice go x gc := by
        obtain ⟨q1, q2, _, _, e, _⟩ := ownM_rdM ho3
        rw [encPs_length, ← HXL.out] at e
        exact ⟨_, _, e⟩
      have HB3 := Lib.hid (below_step HB2.out hb3)
      clear ho3 hb3
      go_wp2
      go_ret
      exact ⟨rfl, HB3.out⟩
    · have hd1 : ((x : Int) == (l : Int)) = false := by simp; omega
      have hd2 : (x == l) = false := by simp [hxl]
      have hd3 : ¬ ((x : Int) = (l : Int)) := by omega
      rw [hd2]
      clear hxl hd2
      go_enter Try.func32, Try.ntmps32
      go_wp2_with fail
      refine HT.out.mono ?_
      rintro e w1 ⟨rfl, hb⟩
      go_wp2_with fail
      refine (HC.out _ hb).mono ?_
      rintro e w2 ⟨u2, rfl, ho2, hb2⟩
      have HB2 := Lib.hid (below_step hb hb2)
      have HO2 := Lib.hid (own_rdv ho2)
      clear ho2 hb2
      go_wp2_with fail
      refine (HO.out _ _ HO2.out).mono ?_
      rintro e w3 ⟨u3, rfl, ho3, hb3⟩
      obtain ⟨go, gc, rfl⟩ : ∃ go gc, u3 = .slice go x gc := by
        obtain ⟨q1, q2, _, _, e, _⟩ := ownM_rdM ho3
        rw [encPs_length, ← HXL.out] at e
        exact ⟨_, _, e⟩
      have HB3 := Lib.hid (below_step HB2.out hb3)
      clear ho3 hb3
      go_wp2
      go_ret
      exact ⟨rfl, HB3.out⟩
  | false =>
    have hr : pairWhole n ps = false := by simp [pairWhole, h]
    rw [hr]
    have HT := Lib.hid (sIn_is false hv h hw)
    obtain ⟨ao, ca, vs, hvl, rfl, _⟩ := hv
    clear hr h
    go_enter Try.func32, Try.ntmps32
    go_wp2_with fail
    refine HT.out.mono ?_
    rintro e w1 ⟨rfl, hb⟩
    go_wp2
    go_ret
    exact ⟨rfl, hb⟩

end Go.Proofs.Ytbmpchpcihnbdaa

/-
  The best partition of a pair list, and how it is found by going along lists. No walk stands here.
-/
namespace Go.Proofs.Ytbmpchpcihnbdaa
set_option linter.unusedSimpArgs false
set_option linter.unusedVariables false
set_option maxRecDepth 100000

/-- The first best partition. -/
def bestP (n : Nat) (L : List (Nat × Nat)) : List Int := bestIn L ((allL n).getD 0 []) (allL n).tail

theorem all_cons {n : Nat} (h1 : 1 ≤ n) (h6 : n ≤ 6) : (allL n).getD 0 [] :: (allL n).tail = allL n := by
  have hl : ∀ m, m < 7 → 1 ≤ m → 0 < (allL m).length := by decide +kernel
  have := hl n (by omega) h1
  match h : allL n, this with
  | a :: l, _ => simp [h]

theorem unlike_both : ∀ A M : List (Nat × Nat), A.Pairwise ltP → M.Pairwise ltP → unlikeN A M + 2 * M.countP (fun p => A.contains p) = A.length + M.length := by
  intro A M
  induction A, M using unlikeN.induct with
  | case1 M =>
    intro _ _
    rw [unlikeN_nil]
    have : M.countP (fun p => ([] : List (Nat × Nat)).contains p) = 0 := by rw [List.countP_eq_zero]; intro a _; simp
    rw [this]
    simp
  | case2 p L =>
    intro _ _
    rw [unlikeN_nil2]
    simp
  | case3 p L q M hlt ih =>
    intro hA hM
    obtain ⟨a1, a2⟩ := List.pairwise_cons.1 hA
    obtain ⟨m1, m2⟩ := List.pairwise_cons.1 hM
    rw [unlikeN_cons, if_pos hlt]
    have h := ih a2 hM
    have hpq := (cmpP_lt p q).1 hlt
    have e : (q :: M).countP (fun x => (p :: L).contains x) = (q :: M).countP (fun x => L.contains x) := by
      apply List.countP_congr
      intro x hx
      have hne : (x == p) = false := by
        rw [Bool.eq_false_iff]
        intro hc
        have := eq_of_beq hc
        subst this
        rcases List.mem_cons.1 hx with e | hx
        · rw [e] at hpq; exact ltP_irrefl _ hpq
        · exact ltP_irrefl _ (ltP_trans hpq (m1 _ hx))
      simp only [List.contains_cons, hne, Bool.false_or]
    rw [e]
    simp only [List.length_cons] at h ⊢
    omega
  | case4 p L q M hnl hgt ih =>
    intro hA hM
    obtain ⟨a1, a2⟩ := List.pairwise_cons.1 hA
    obtain ⟨m1, m2⟩ := List.pairwise_cons.1 hM
    rw [unlikeN_cons, if_neg hnl, if_pos hgt]
    have h := ih hA m2
    have hqp : ltP q p := by
      unfold cmpP at hgt hnl
      unfold ltP
      have h1 := cmpI_lt p.1 q.1
      have h2 := cmpI_zero p.1 q.1
      have h3 := cmpI_lt p.2 q.2
      have h4 := cmpI_zero p.2 q.2
      by_cases hz : cmpI p.1 q.1 = 0
      · rw [if_neg (by simp [hz])] at hgt hnl
        omega
      · rw [if_pos hz] at hgt hnl
        omega
    have hq : (p :: L).contains q = false := by
      rw [Bool.eq_false_iff]
      intro hc
      have hm : q ∈ p :: L := by simpa using hc
      rcases List.mem_cons.1 hm with e | hm
      · rw [e] at hqp; exact ltP_irrefl _ hqp
      · exact ltP_irrefl _ (ltP_trans hqp (a1 _ hm))
    rw [List.countP_cons, hq]
    simp only [List.length_cons, Bool.false_eq_true, if_false] at h ⊢
    omega
  | case5 p L q M hnl hng ih =>
    intro hA hM
    obtain ⟨a1, a2⟩ := List.pairwise_cons.1 hA
    obtain ⟨m1, m2⟩ := List.pairwise_cons.1 hM
    rw [unlikeN_cons, if_neg hnl, if_neg hng]
    have h := ih a2 m2
    have hpq : p = q := by
      unfold cmpP at hng hnl
      have h1 := cmpI_lt p.1 q.1
      have h2 := cmpI_zero p.1 q.1
      have h3 := cmpI_lt p.2 q.2
      have h4 := cmpI_zero p.2 q.2
      by_cases hz : cmpI p.1 q.1 = 0
      · rw [if_neg (by simp [hz])] at hng hnl
        exact Prod.ext (by omega) (by omega)
      · rw [if_pos hz] at hng hnl
        omega
    subst hpq
    have e : M.countP (fun x => (p :: L).contains x) = M.countP (fun x => L.contains x) := by
      apply List.countP_congr
      intro x hx
      have hne : (x == p) = false := by
        rw [Bool.eq_false_iff]
        intro hc
        have := eq_of_beq hc
        subst this
        exact ltP_irrefl _ (m1 _ hx)
      simp only [List.contains_cons, hne, Bool.false_or]
    rw [List.countP_cons, e]
    simp only [List.length_cons, List.contains_cons, BEq.rfl, Bool.true_or, if_true]
    omega

theorem unlike_cost {n : Nat} {L : List (Nat × Nat)} {xs : List Int} (hn : n < 7) (h : L.Sublist (allP n)) (hx : xs.length = n) : costP xs L = (unlikeN (ofP xs) L : Nat) := by
  have h1 := unlike_both (ofP xs) L ((allP_sorted n hn).sublist (by have := ofP_sub xs; rw [hx] at this; exact this)) ((allP_sorted n hn).sublist h)
  rw [cost_both hn h hx]
  omega

/-- One more partition is asked. -/
def bstStep (L : List (Nat × Nat)) (s : List Int × Int) (x : List Int) : List Int × Int := if ((unlikeN (ofP x) L : Nat) : Int) < s.2 then (x, ((unlikeN (ofP x) L : Nat) : Int)) else s
def bstTo (c : Nat) (L : List (Nat × Nat)) (F : Int) (pre : List Nat) : List Int × Int := (pre.map fun q => atL c (q : Nat)).foldl (bstStep L) ([], F)
theorem bstTo_snoc (c : Nat) (L : List (Nat × Nat)) (F : Int) (pre : List Nat) (x : Nat) : bstTo c L F (pre ++ [x]) = bstStep L (bstTo c L F pre) (atL c (x : Nat)) := by
  simp [bstTo, List.foldl_append]

theorem bst_fold {n : Nat} {L : List (Nat × Nat)} (hn : n < 7) (h : L.Sublist (allP n)) : ∀ (l : List (List Int)) (b : List Int), b.length = n → (∀ x ∈ l, x.length = n) →
    l.foldl (bstStep L) (b, costP b L) = (bestIn L b l, costP (bestIn L b l) L) := by
  intro l
  induction l with
  | nil => intro b _ _; rfl
  | cons x l ih =>
    intro b hb hl
    have hx := hl x (by simp)
    have e : bstStep L (b, costP b L) x = if costP x L < costP b L then (x, costP x L) else (b, costP b L) := by
      unfold bstStep
      rw [unlike_cost hn h hx]
    rw [List.foldl_cons, e]
    unfold bestIn
    split
    · exact ih x hx fun y hy => hl y (by simp [hy])
    · exact ih b hb fun y hy => hl y (by simp [hy])

theorem allL_len {n : Nat} {x : List Int} (h : x ∈ allL n) : x.length = n := by
  unfold allL at h
  obtain ⟨p, _, rfl⟩ := List.mem_map.1 h
  exact atL_length _ _

theorem bst_all {n : Nat} {L : List (Nat × Nat)} (h1 : 1 ≤ n) (h6 : n ≤ 6) (h : L.Sublist (allP n)) : bstTo n L (((n * (n - 1) / 2 : Nat) : Int) + 1) (List.range (opn n 0).toNat) = (bestP n L, costP (bestP n L) L) := by
  have hr : (List.range (opn n 0).toNat).map (fun q => atL n (q : Nat)) = allL n := rfl
  unfold bstTo
  rw [hr, ← all_cons h1 h6, List.foldl_cons]
  have ha : ((allL n).getD 0 []).length = n := allL_len (by rw [← all_cons h1 h6]; simp)
  have hc : costP ((allL n).getD 0 []) L ≤ ((n * (n - 1) / 2 : Nat) : Int) := by
    rw [cost_count (by omega) h ha]
    have := List.countP_le_length (p := outP ((allL n).getD 0 []) L) (l := allP n)
    rw [allP_length n (by omega)] at this
    omega
  have e : bstStep L ([], ((n * (n - 1) / 2 : Nat) : Int) + 1) ((allL n).getD 0 []) = ((allL n).getD 0 [], costP ((allL n).getD 0 []) L) := by
    unfold bstStep
    rw [← unlike_cost (by omega) h ha, if_pos (by dsimp only; omega)]
  rw [e]
  unfold bestP
  exact bst_fold (by omega) h _ _ ha fun x hx => allL_len (by rw [← all_cons h1 h6]; simp [hx])

end Go.Proofs.Ytbmpchpcihnbdaa

/-
  The contract of laws.sameRows; values of owned lists of lists.
-/
namespace Go.Proofs.Ytbmpchpcihnbdaa
set_option linter.unusedSimpArgs false
set_option linter.unusedVariables false
set_option linter.unnecessarySimpa false
open Go.RowKit
set_option maxRecDepth 100000

theorem sameInts_e (v u : Value) (xs : List Int) (w : World) (hv : RdV w v xs) (hu : RdV w u xs) : Calls Try.prog 25 #[v, u] w fun e w' => e = .returned (.bool true) ∧ Same w w' :=
  (sameInts_v v u xs xs w hv hu).mono fun e w' ⟨he, hw⟩ => ⟨by rw [he]; simp, hw⟩

theorem ownM_slice' {w : World} {B S : Nat} {v : Value} {xss : List (List Int)} (h : OwnM w B S v xss) : ∃ ao cap, v = .slice ao xss.length cap := by
  obtain ⟨ao, cap, vs, _, hv, _⟩ := ownM_rdM h
  exact ⟨ao, cap, hv⟩

set_option maxRecDepth 100000 in
set_option maxHeartbeats 1600000 in
theorem sameRows_v (v u : Value) (xss : List (List Int)) (w : World) (hv : RdM w v xss) (hu : RdM w u xss) : Calls Try.prog 23 #[v, u] w fun e w' => e = .returned (.bool true) ∧ Same w w' := by
  obtain ⟨ao, ca, vs, hvl, rfl, h1, h2, h3, h4⟩ := hv
  obtain ⟨bo, cb, us, hul, rfl, k1, k2, k3, k4⟩ := hu
  unfold maxLen at h2 k2
  obtain ⟨n, hn⟩ : ∃ n, n = xss.length := ⟨_, rfl⟩
  rw [← hn] at h1 k1 ⊢
  have HN := Lib.hid hn
  have H3 := Lib.hid h3
  have H4 := Lib.hid h4
  have K3 := Lib.hid k3
  have K4 := Lib.hid k4
  clear hn h3 h4 k3 k4 hvl hul
  go_enter Try.func23, Try.ntmps23
  go_wp2
  go_loopw [5] (fun i wr => ∃ k : Nat, k ≤ n ∧ i = .int .i64 k ∧ Same w wr) (fun i _ => n - (intOf i).toNat)
  case atStart => exact ⟨0, Nat.zero_le _, rfl, Same.refl w⟩
  case round =>
    obtain ⟨k, hk, rfl, hsr⟩ := hrel
    by_cases hlt : k < n
    · rcases H3.out with hx | ⟨b, off, rfl, hc⟩
      · have := HN.out
        rw [hx] at this
        simp at this
        omega
      · rcases K3.out with hy | ⟨b2, off2, rfl, hc2⟩
        · have := HN.out
          rw [hy] at this
          simp at this
          omega
        · have hck := hc k (by have := HN.out; omega)
          have hck2 := hc2 k (by have := HN.out; omega)
          rw [← (hsr _).cell (World.block_lt_of_cell? w _ hck)] at hck
          rw [← (hsr _).cell (World.block_lt_of_cell? w _ hck2)] at hck2
          have hr := rdv_below (H4.out k (by have := HN.out; omega)) (hsr _)
          have hr2 := rdv_below (K4.out k (by have := HN.out; omega)) (hsr _)
          clear hc hc2
          obtain ⟨z, hz⟩ : ∃ z, z = vs.getD k undef := ⟨_, rfl⟩
          obtain ⟨y, hy⟩ : ∃ y, y = us.getD k undef := ⟨_, rfl⟩
          rw [← hz] at hck hr
          rw [← hy] at hck2 hr2
          have HR := Lib.hid hr
          have HR2 := Lib.hid hr2
          have c1 : (k : Int) < n := by omega
          have c2 : (0 : Int) ≤ (k : Int) := by omega
          clear hz hy hr hr2
          go_wp2
          go_region_held3 (fun w' => w'.cell? ⟨b, off + k, none⟩ = some z ∧ w'.cell? ⟨b2, off2 + k, none⟩ = some y) (first | exact ⟨hck, hck2⟩ | exact ⟨by rw [(hs2 _).cell (World.block_lt_of_cell? wr _ hck)]; exact hck, by rw [(hs2 _).cell (World.block_lt_of_cell? wr _ hck2)]; exact hck2⟩) (first | (go_at_call 25; refine (sameInts_e z y _ _ (rdv_below HR.out (Below.refl _ _).drew) (rdv_below HR2.out (Below.refl _ _).drew)).mono ?_; rintro e w2 ⟨rfl, hs1⟩; have hs2 : Same wr w2 := fun B => (Below.refl _ _).drew.trans (hs1 B)))
          go_wp2
          go_roundw
          case rel => exact ⟨k + 1, by omega, by go_num, hsr.trans hs2⟩
          case measure => simp [intOf]; omega
    · go_wp2
      go_ret
      exact ⟨rfl, hsr⟩

/-- A row of an owned list of lists, by its place. -/
theorem ownM_at {w : World} {B S n cap : Nat} {ao : Option Addr} {xss : List (List Int)} (h : OwnM w B S (.slice ao n cap) xss) (k : Nat) (hk : k < xss.length) :
    ∃ g u, ao = some ⟨g, 0, none⟩ ∧ w.cell? ⟨g, k, none⟩ = some u ∧ RdV w u (xss.getD k []) := by
  obtain ⟨vs, hvl, hv, hr, _⟩ := ownM_parts h
  rcases hv with ⟨_, h2⟩ | ⟨g, cap', h1, _, _, _, _, _, hc, _⟩
  · rw [h2] at hk; simp at hk
  · simp only [Value.slice.injEq] at h1
    exact ⟨g, _, h1.1, hc k hk, own_rdv (hr k hk).1⟩

end Go.Proofs.Ytbmpchpcihnbdaa

/-
  Sets of three things, one by one; how many have just two pairs, told in two ways. No program is named here.
-/
namespace Go.Proofs.Ytbmpchpcihnbdaa
set_option linter.unusedSimpArgs false
set_option linter.unusedVariables false
set_option maxRecDepth 100000

def tripsC (a b c : Nat) : List (Nat × Nat × Nat) := ((List.range c).filter fun j => decide (b < j)).map fun j => (a, b, j)
def tripsB (n a b : Nat) : List (Nat × Nat × Nat) := ((List.range b).filter fun j => decide (a < j)).flatMap fun j => tripsC a j n
def tripsA (n a : Nat) : List (Nat × Nat × Nat) := (List.range a).flatMap fun i => tripsB n i n

theorem tripsC_start (a b c : Nat) (h : c ≤ b + 1) : tripsC a b c = [] := by
  unfold tripsC
  rw [List.map_eq_nil_iff, List.filter_eq_nil_iff]
  intro j hj
  rw [List.mem_range] at hj
  simp
  omega
theorem tripsC_next (a b c : Nat) (h : b < c) : tripsC a b (c + 1) = tripsC a b c ++ [(a, b, c)] := by
  unfold tripsC
  rw [List.range_succ, List.filter_append, List.map_append]
  congr 1
  simp [h]
theorem tripsB_start (n a b : Nat) (h : b ≤ a + 1) : tripsB n a b = [] := by
  unfold tripsB
  have : (List.range b).filter (fun j => decide (a < j)) = [] := by
    rw [List.filter_eq_nil_iff]
    intro j hj
    rw [List.mem_range] at hj
    simp
    omega
  rw [this]
  rfl
theorem tripsB_next (n a b : Nat) (h : a < b) : tripsB n a (b + 1) = tripsB n a b ++ tripsC a b n := by
  unfold tripsB
  rw [List.range_succ, List.filter_append, List.flatMap_append]
  congr 1
  simp [h]
theorem tripsA_next (n a : Nat) : tripsA n (a + 1) = tripsA n a ++ tripsB n a n := by
  unfold tripsA
  rw [List.range_succ, List.flatMap_append]
  simp
theorem tripP_eq (n : Nat) : tripP n = tripsA n n := by
  unfold tripP tripsA tripsB tripsC allP
  rw [List.flatMap_assoc]
  congr 1
  funext i
  rw [List.flatMap_map]
theorem tripsC_len (a b c : Nat) : (tripsC a b c).length ≤ c := by
  unfold tripsC
  rw [List.length_map]
  have := List.length_filter_le (fun j => decide (b < j)) (List.range c)
  rw [List.length_range] at this
  exact this
theorem tripsB_len (n a : Nat) : ∀ b, (tripsB n a b).length ≤ b * n := by
  intro b
  induction b with
  | zero => simp [tripsB]
  | succ b ih =>
    by_cases h : a < b
    · rw [tripsB_next n a b h, List.length_append, Nat.succ_mul]
      have := tripsC_len a b n
      omega
    · rw [tripsB_start n a (b + 1) (by omega)]
      simp
theorem tripsA_len (n : Nat) : ∀ a, (tripsA n a).length ≤ a * (n * n) := by
  intro a
  induction a with
  | zero => simp [tripsA]
  | succ a ih =>
    rw [tripsA_next, List.length_append, Nat.succ_mul]
    have := tripsB_len n a n
    omega

/-- How many of some sets of three have just two pairs. -/
def c3 (L : List (Nat × Nat)) (T : List (Nat × Nat × Nat)) : Nat := T.countP (twoP L)
theorem c3_append (L : List (Nat × Nat)) (T U : List (Nat × Nat × Nat)) : c3 L (T ++ U) = c3 L T + c3 L U := List.countP_append
theorem c3_nil (L : List (Nat × Nat)) : c3 L [] = 0 := rfl
theorem c3_one (L : List (Nat × Nat)) (t : Nat × Nat × Nat) : c3 L [t] = if twoP L t then 1 else 0 := by simp [c3, List.countP_cons]
theorem c3_le (L : List (Nat × Nat)) (T : List (Nat × Nat × Nat)) : c3 L T ≤ T.length := List.countP_le_length
theorem c3_all (n : Nat) (L : List (Nat × Nat)) : c3 L (tripsA n n) = threeP n L := by unfold c3 threeP; rw [tripP_eq]
theorem c3_bd {n a b c : Nat} (hn : n ≤ 8) (ha : a ≤ n) (hb : b ≤ n) (hc : c ≤ n) (L : List (Nat × Nat)) : c3 L (tripsA n a) + c3 L (tripsB n a b) + c3 L (tripsC a b c) ≤ 1000 := by
  have h1 := Nat.le_trans (c3_le L _) (tripsA_len n a)
  have h2 := Nat.le_trans (c3_le L _) (tripsB_len n a b)
  have h3 := Nat.le_trans (c3_le L _) (tripsC_len a b c)
  have k1 : n * n ≤ 64 := Nat.le_trans (Nat.mul_le_mul hn hn) (by decide)
  have k2 : a * (n * n) ≤ 512 := Nat.le_trans (Nat.mul_le_mul (Nat.le_trans ha hn) k1) (by decide)
  have k3 : b * n ≤ 64 := Nat.le_trans (Nat.mul_le_mul (Nat.le_trans hb hn) hn) (by decide)
  omega

/-- A pair is told, one thing or the other first. -/
def adjP (L : List (Nat × Nat)) (i x : Nat) : Bool := L.contains (i, x) || L.contains (x, i)
/-- A pair that is not told, and a third thing that has pairs with both. -/
def missP (L : List (Nat × Nat)) (t : Nat × Nat × Nat) : Nat := if !L.contains (t.1, t.2.1) && (adjP L t.1 t.2.2 && adjP L t.2.1 t.2.2) then 1 else 0
def idxL (n : Nat) : List (Nat × Nat × Nat) := (allP n).flatMap fun p => ((List.range n).filter fun x => x != p.1 && x != p.2).map fun x => (p.1, p.2, x)
def idxR (n : Nat) : List (Nat × Nat × Nat) := (tripP n).flatMap fun t => [(t.1, t.2.1, t.2.2), (t.1, t.2.2, t.2.1), (t.2.1, t.2.2, t.1)]
theorem idx_perm : ∀ n, n < 7 → (idxL n).isPerm (idxR n) = true := by decide +kernel

theorem not_back {n : Nat} {L : List (Nat × Nat)} (h : L.Sublist (allP n)) {i k : Nat} (hik : i ≤ k) : L.contains (k, i) = false := by
  rw [Bool.eq_false_iff]
  intro hc
  have := mem_allP.1 (h.subset (by simpa using hc : (k, i) ∈ L))
  omega

theorem trip_sum {n : Nat} {L : List (Nat × Nat)} (h : L.Sublist (allP n)) : ∀ T : List (Nat × Nat × Nat), (∀ t ∈ T, t.1 < t.2.1 ∧ t.2.1 < t.2.2) →
    ((T.flatMap fun t => [(t.1, t.2.1, t.2.2), (t.1, t.2.2, t.2.1), (t.2.1, t.2.2, t.1)]).map (missP L)).sum = c3 L T := by
  intro T
  induction T with
  | nil => intro _; rfl
  | cons t T ih =>
    intro ht
    obtain ⟨a, b, c⟩ := t
    have h1 := ih fun x hx => ht x (by simp [hx])
    obtain ⟨hab, hbc⟩ := ht (a, b, c) (by simp)
    dsimp only at hab hbc
    have e : c3 L ((a, b, c) :: T) = c3 L [(a, b, c)] + c3 L T := c3_append L [(a, b, c)] T
    rw [e, c3_one, List.flatMap_cons, List.map_append, List.sum_append, h1]
    congr 1
    simp only [List.map_cons, List.map_nil, List.sum_cons, List.sum_nil, missP, adjP, twoP, not_back h (Nat.le_of_lt hab), not_back h (Nat.le_of_lt hbc), not_back h (show a ≤ c by omega), Bool.or_false, Bool.false_or]
    rcases Bool.eq_false_or_eq_true (L.contains (a, b)) with h2 | h2 <;> rcases Bool.eq_false_or_eq_true (L.contains (a, c)) with h3 | h3 <;> rcases Bool.eq_false_or_eq_true (L.contains (b, c)) with h4 | h4 <;> simp only [h2, h3, h4] <;> decide

theorem mem_tripP {n : Nat} {t : Nat × Nat × Nat} (h : t ∈ tripP n) : t.1 < t.2.1 ∧ t.2.1 < t.2.2 ∧ t.2.2 < n := by
  unfold tripP at h
  obtain ⟨⟨i, k⟩, hp, hm⟩ := List.mem_flatMap.1 h
  obtain ⟨c, hc, rfl⟩ := List.mem_map.1 hm
  have := mem_allP.1 hp
  obtain ⟨hc1, hc2⟩ := List.mem_filter.1 hc
  simp at hc1 hc2
  exact ⟨this.1, hc2, hc1⟩

theorem miss_count (L : List (Nat × Nat)) (n i k : Nat) (hi : adjP L i i = false) (hk : adjP L k k = false) :
    (((List.range n).filter fun x => x != i && x != k).map fun x => missP L (i, k, x)).sum = if L.contains (i, k) then 0 else (List.range n).countP fun x => adjP L i x && adjP L k x := by
  generalize List.range n = R
  cases hc : L.contains (i, k)
  · rw [if_neg (by simp)]
    induction R with
    | nil => rfl
    | cons x R ih =>
      rw [List.filter_cons, List.countP_cons, ← ih]
      by_cases e : x = i
      · subst e
        simp [hi]
      · by_cases e2 : x = k
        · subst e2
          simp [hk]
        · have hb : (x != i && x != k) = true := by simp [e, e2]
          rw [if_pos hb, List.map_cons, List.sum_cons]
          simp only [missP, hc, Bool.not_false, Bool.true_and]
          cases adjP L i x <;> cases adjP L k x <;> simp <;> omega
  · rw [if_pos rfl]
    induction R with
    | nil => rfl
    | cons x R ih =>
      rw [List.filter_cons]
      split
      · rw [List.map_cons, List.sum_cons, ih]
        simp only [missP, hc, Bool.not_true, Bool.false_and]
        rfl
      · exact ih

theorem sum_flatMap_map {α β : Type} (f : α → List β) (g : β → Nat) : ∀ l : List α, ((l.flatMap f).map g).sum = (l.map fun a => ((f a).map g).sum).sum := by
  intro l
  induction l with
  | nil => rfl
  | cons a l ih => rw [List.flatMap_cons, List.map_append, List.sum_append, List.map_cons, List.sum_cons, ih]

theorem sum_filter_if {α : Type} (f : α → Bool) (g : α → Nat) : ∀ l : List α, (l.map fun a => if f a then 0 else g a).sum = ((l.filter fun a => !f a).map g).sum := by
  intro l
  induction l with
  | nil => rfl
  | cons a l ih =>
    rw [List.filter_cons, List.map_cons, List.sum_cons, ih]
    cases f a <;> simp

/-- Told by pairs that miss: each set of three is met once. -/
theorem three_by_others {n : Nat} {L : List (Nat × Nat)} (hn : n < 7) (h : L.Sublist (allP n)) :
    ((otherP n L).map fun p => (List.range n).countP fun x => adjP L p.1 x && adjP L p.2 x).sum = threeP n L := by
  have hp := List.isPerm_iff.1 (idx_perm n hn)
  have h1 := (hp.map (missP L)).sum_nat
  unfold idxR at h1
  rw [trip_sum h (tripP n) fun t ht => ⟨(mem_tripP ht).1, (mem_tripP ht).2.1⟩] at h1
  have h2 : c3 L (tripP n) = threeP n L := rfl
  rw [← h2, ← h1]
  unfold idxL
  rw [sum_flatMap_map]
  have hz : ∀ i, adjP L i i = false := fun i => by unfold adjP; rw [not_back h (Nat.le_refl i)]; rfl
  have h3 : ∀ p : Nat × Nat, ((((List.range n).filter fun x => x != p.1 && x != p.2).map fun x => (p.1, p.2, x)).map (missP L)).sum = if L.contains p then 0 else (List.range n).countP fun x => adjP L p.1 x && adjP L p.2 x := fun p => by
    rw [List.map_map]
    exact miss_count L n p.1 p.2 (hz _) (hz _)
  simp only [h3]
  rw [sum_filter_if]
  rfl

end Go.Proofs.Ytbmpchpcihnbdaa

/-
  What is near what, as sets of bits. No program is named here.
-/
namespace Go.Proofs.Ytbmpchpcihnbdaa
set_option linter.unusedSimpArgs false
set_option linter.unusedVariables false
set_option maxRecDepth 100000

def nearStep (ns : List Nat) (p : Nat × Nat) : List Nat := (ns.set p.1 (ns.getD p.1 0 ||| 2 ^ p.2)).set p.2 (ns.getD p.2 0 ||| 2 ^ p.1)
def nearTo (n : Nat) (L : List (Nat × Nat)) (k : Nat) : List Nat := (L.take k).foldl nearStep (List.replicate n 0)

theorem getD_setN (l : List Nat) (k x q : Nat) (hk : k < l.length) : (l.set k x).getD q 0 = if q = k then x else l.getD q 0 := by
  rw [List.getD_eq_getElem?_getD, List.getElem?_set]
  by_cases e : k = q
  · subst e
    simp [hk]
  · rw [if_neg e, if_neg (fun e' => e e'.symm), ← List.getD_eq_getElem?_getD]

theorem nearStep_len (ns : List Nat) (p : Nat × Nat) : (nearStep ns p).length = ns.length := by simp [nearStep]
theorem nearStep_at (ns : List Nat) (p : Nat × Nat) (h1 : p.1 < ns.length) (h2 : p.2 < ns.length) (hlt : p.1 < p.2) (i : Nat) :
    (nearStep ns p).getD i 0 = if i = p.2 then ns.getD p.2 0 ||| 2 ^ p.1 else if i = p.1 then ns.getD p.1 0 ||| 2 ^ p.2 else ns.getD i 0 := by
  unfold nearStep
  rw [getD_setN _ _ _ _ (by rw [List.length_set]; exact h2), getD_setN _ _ _ _ h1]

theorem near_ind (P : List Nat → Prop) : ∀ (L : List (Nat × Nat)), (∀ f p, p ∈ L → P f → P (nearStep f p)) → ∀ f, P f → P (L.foldl nearStep f) := by
  intro L
  induction L with
  | nil => intro _ f h; exact h
  | cons a L ih =>
    intro hP f h
    exact ih (fun f p hp => hP f p (by simp [hp])) _ (hP f a (by simp) h)

theorem nearTo_len (n : Nat) (L : List (Nat × Nat)) (k : Nat) : (nearTo n L k).length = n :=
  near_ind (fun f => f.length = n) (L.take k) (fun f p _ h => by rw [nearStep_len]; exact h) _ (by simp)

theorem near_bits : ∀ (L : List (Nat × Nat)) (ns : List Nat), (∀ p ∈ L, p.1 < p.2 ∧ p.2 < ns.length) → ∀ i x, ((L.foldl nearStep ns).getD i 0).testBit x = ((ns.getD i 0).testBit x || adjP L i x) := by
  intro L
  induction L with
  | nil => intro ns _ i x; simp [adjP]
  | cons p L ih =>
    intro ns h i x
    obtain ⟨h1, h2⟩ := h p (by simp)
    show ((L.foldl nearStep (nearStep ns p)).getD i 0).testBit x = _
    rw [ih (nearStep ns p) (fun q hq => by rw [nearStep_len]; exact h q (by simp [hq])) i x, nearStep_at ns p (by omega) h2 h1]
    obtain ⟨a, b⟩ := p
    dsimp only at h1 h2 ⊢
    have e : adjP ((a, b) :: L) i x = (((i, x) == (a, b)) || ((x, i) == (a, b)) || adjP L i x) := by
      unfold adjP
      simp only [List.contains_cons]
      cases ((i, x) == (a, b)) <;> cases ((x, i) == (a, b)) <;> cases L.contains (i, x) <;> cases L.contains (x, i) <;> rfl
    rw [e]
    have e1 : ((i, x) == (a, b)) = (decide (i = a) && decide (x = b)) := by rw [Bool.eq_iff_iff]; simp
    have e2 : ((x, i) == (a, b)) = (decide (x = a) && decide (i = b)) := by rw [Bool.eq_iff_iff]; simp
    rw [e1, e2]
    by_cases c1 : i = b
    · subst c1
      rw [if_pos rfl, Nat.testBit_or, Nat.testBit_two_pow]
      have : decide (i = a) = false := decide_eq_false (by omega)
      rw [this]
      by_cases c2 : a = x
      · subst c2; simp
      · have : decide (x = a) = false := decide_eq_false (by omega)
        rw [this]
        simp [c2]
    · rw [if_neg c1]
      by_cases c2 : i = a
      · subst c2
        rw [if_pos rfl, Nat.testBit_or, Nat.testBit_two_pow]
        have : decide (i = b) = false := decide_eq_false c1
        rw [this]
        by_cases c3 : b = x
        · subst c3; simp
        · have : decide (x = b) = false := decide_eq_false (by omega)
          rw [this]
          simp [c3]
      · rw [if_neg c2]
        simp [c1, c2]

theorem near_lt (n : Nat) (hn : n ≤ 8) (L : List (Nat × Nat)) (hL : ∀ p ∈ L, p.1 < p.2 ∧ p.2 < n) (k : Nat) : ∀ i, (nearTo n L k).getD i 0 < 256 := by
  refine (near_ind (fun f => f.length = n ∧ ∀ i, f.getD i 0 < 256) (L.take k) (fun f p hp h => ⟨by rw [nearStep_len]; exact h.1, fun i => ?_⟩) _ ⟨by simp, fun i => ?_⟩).2
  · have hq := hL p (List.mem_of_mem_take hp)
    rw [nearStep_at f p (by omega) (by omega) hq.1]
    have o1 := Nat.or_lt_two_pow (n := 8) (h.2 p.2) (show 2 ^ p.1 < 2 ^ 8 from Nat.pow_lt_pow_right (by decide) (by omega))
    have o2 := Nat.or_lt_two_pow (n := 8) (h.2 p.1) (show 2 ^ p.2 < 2 ^ 8 from Nat.pow_lt_pow_right (by decide) (by omega))
    split
    · exact o1
    · split
      · exact o2
      · exact h.2 i
  · by_cases h : i < n
    · simp [List.getD, List.getElem?_replicate, h]
    · simp [List.getD, List.getElem?_replicate, h]

theorem nearTo_next (n : Nat) (L : List (Nat × Nat)) (k : Nat) (h : k < L.length) : nearTo n L (k + 1) = nearStep (nearTo n L k) (L.getD k (0, 0)) := by
  unfold nearTo
  rw [List.take_add_one, List.getElem?_eq_getElem h, List.foldl_append]
  simp [List.getD, h]

/-- How many things are near both. -/
def both (n : Nat) (L : List (Nat × Nat)) (p : Nat × Nat) : Nat := cnt ((nearTo n L L.length).getD p.1 0 &&& (nearTo n L L.length).getD p.2 0)

theorem both_count {n : Nat} {L : List (Nat × Nat)} (hn : n ≤ 8) (hL : ∀ p ∈ L, p.1 < p.2 ∧ p.2 < n) (p : Nat × Nat) : both n L p = (List.range n).countP fun x => adjP L p.1 x && adjP L p.2 x := by
  have hb : ∀ i x, ((nearTo n L L.length).getD i 0).testBit x = adjP L i x := fun i x => by
    unfold nearTo
    rw [List.take_length, near_bits L _ (by simpa using hL)]
    have : (List.replicate n 0).getD i 0 = 0 := by
      by_cases h : i < n <;> simp [List.getD, List.getElem?_replicate, h]
    rw [this]
    simp
  have hz : ∀ i x, n ≤ x → adjP L i x = false := fun i x hx => by
    unfold adjP
    rw [Bool.or_eq_false_iff]
    constructor
    · rw [Bool.eq_false_iff]
      intro hc
      have := hL (i, x) (by simpa using hc)
      dsimp only at this
      omega
    · rw [Bool.eq_false_iff]
      intro hc
      have := hL (x, i) (by simpa using hc)
      dsimp only at this
      omega
  unfold both cnt
  rw [← List.countP_eq_length_filter]
  have h8 : List.range 8 = List.range n ++ (List.range (8 - n)).map (n + ·) := by
    have := List.range_add (n := n) (m := 8 - n)
    rw [show n + (8 - n) = 8 by omega] at this
    exact this
  rw [h8, List.countP_append]
  have h0 : ((List.range (8 - n)).map (n + ·)).countP (fun t => ((nearTo n L L.length).getD p.1 0 &&& (nearTo n L L.length).getD p.2 0).testBit t) = 0 := by
    rw [List.countP_eq_zero]
    intro t ht
    obtain ⟨x, _, rfl⟩ := List.mem_map.1 ht
    rw [Nat.testBit_and, hb, hz _ _ (by omega)]
    simp
  rw [h0, Nat.add_zero]
  apply List.countP_congr
  intro x _
  rw [Nat.testBit_and, hb, hb]

/-- Told by what is near both things of a pair that misses. -/
theorem three_near {n : Nat} {L : List (Nat × Nat)} (hn : n < 7) (h : L.Sublist (allP n)) : ((otherP n L).map (both n L)).sum = threeP n L := by
  rw [← three_by_others hn h]
  congr 1
  apply List.map_congr_left
  intro p _
  exact both_count (by omega) (fun q hq => mem_allP.1 (show (q.1, q.2) ∈ allP n from h.subset hq)) p

end Go.Proofs.Ytbmpchpcihnbdaa

/-
  The contracts of PairThree of both sides.
-/
namespace Go.Proofs.Ytbmpchpcihnbdaa
set_option linter.unusedSimpArgs false
set_option linter.unusedVariables false
set_option linter.unnecessarySimpa false
open Go.RowKit
set_option maxRecDepth 100000

/-- What PairThree answers. -/
def pairThree (n : Int) (ps : List (List Int)) : Int × Bool := if pairIn n ps then ((threeP n.toNat (decL ps) : Int), true) else (0, false)

theorem c3_step (L : List (Nat × Nat)) (a b c : Nat) (x1 x2 x3 : Bool) (h1 : x1 = L.contains (a, b)) (h2 : x2 = L.contains (a, c)) (h3 : x3 = L.contains (b, c)) (h : b < c) :
    c3 L (tripsC a b (c + 1)) = c3 L (tripsC a b c) + if ((if x1 then 1 else 0) + (if x2 then 1 else 0) + (if x3 then 1 else 0) == (2 : Nat)) then 1 else 0 := by
  subst h1 h2 h3
  rw [tripsC_next a b c h, c3_append, c3_one]
  rfl

set_option maxHeartbeats 8000000 in
theorem sPairThree_v (v : Value) (n : Int) (ps : List (List Int)) (w : World) (hv : RdM w v ps) (hw : (Lit.int .i64 n).wf = true) :
    Calls Try.prog 41 #[.int .i64 n, v] w (GivesIB w (pairThree n ps)) := by
  cases h : pairIn n ps with
  | true =>
    have hr : pairThree n ps = ((threeP n.toNat (decL ps) : Int), true) := by simp [pairThree, h]
    have HT := Lib.hid (sIn_is true hv h hw)
    obtain ⟨m, L, rfl, h1, h6, hs, he, hin, hl, hd⟩ := pair_open h
    rw [hr, hd, Int.toNat_natCast, ← c3_all]
    have HH := Lib.hid fun (i k : Nat) (w1 : World) (hb : Below w.heap.size w w1) => l8Has_any v L i k w1 (by rw [← he]; exact rdM_below hv hb)
    have HBD := Lib.hid fun (a b c : Nat) (ha : a ≤ m) (hb : b ≤ m) (hc : c ≤ m) => c3_bd (n := m) (by omega) ha hb hc L
    clear hr h he hin hl hd hs hv
    go_enter Try.func41, Try.ntmps41
    go_wp2_with fail
    refine HT.out.mono ?_
    rintro e w1 ⟨rfl, hb⟩
    go_wp2
    go_loopw [6, 7] (fun u i wr => ∃ (a : Nat), a ≤ m ∧ i = .int .i64 a ∧ u = .int .i64 ((c3 L (tripsA m a) : Nat) : Int) ∧ Below w.heap.size w wr) (fun _ i _ => m - (intOf i).toNat)
    case atStart => exact ⟨0, Nat.zero_le _, rfl, rfl, hb⟩
    case round =>
      obtain ⟨a, ha, rfl, rfl, hbel⟩ := hrel
      by_cases hlt : a < m
      · have HB1 := Lib.hid hbel
        obtain ⟨A0, hA0⟩ : ∃ A0, A0 = c3 L (tripsA m a) := ⟨_, rfl⟩
        have HA0 := Lib.hid hA0
        rw [← hA0]
        clear hbel hA0
        go_wp2
        go_loopw [6, 8] (fun u i wr => ∃ (b : Nat), a + 1 ≤ b ∧ b ≤ m ∧ i = .int .i64 b ∧ u = .int .i64 ((A0 + c3 L (tripsB m a b) : Nat) : Int) ∧ Below w.heap.size w wr) (fun _ i _ => m - (intOf i).toNat)
        case atStart => exact ⟨a + 1, Nat.le_refl _, by omega, by go_num, by rw [tripsB_start m a (a + 1) (Nat.le_refl _)]; rfl, HB1.out⟩
        case round =>
          obtain ⟨b, hb1, hb, rfl, rfl, hbel⟩ := hrel
          by_cases hbm : b < m
          · have HB2 := Lib.hid hbel
            obtain ⟨B0, hB0⟩ : ∃ B0, B0 = A0 + c3 L (tripsB m a b) := ⟨_, rfl⟩
            have HB0 := Lib.hid hB0
            rw [← hB0]
            clear hbel hB0
            go_wp2
            go_loopw [6, 9] (fun u i wr => ∃ (c : Nat), b + 1 ≤ c ∧ c ≤ m ∧ i = .int .i64 c ∧ u = .int .i64 ((B0 + c3 L (tripsC a b c) : Nat) : Int) ∧ Below w.heap.size w wr) (fun _ i _ => m - (intOf i).toNat)
            case atStart => exact ⟨b + 1, Nat.le_refl _, by omega, by go_num, by rw [tripsC_start a b (b + 1) (Nat.le_refl _)]; rfl, HB2.out⟩
            case round =>
              obtain ⟨c, hc1, hc, rfl, rfl, hbel⟩ := hrel
              by_cases hcm : c < m
              · have hbd := HBD.out a b c ha hb hc
                rw [← HA0.out, ← HB0.out] at hbd
                obtain ⟨x1, hx1⟩ : ∃ x1, x1 = L.contains (a, b) := ⟨_, rfl⟩
                obtain ⟨x2, hx2⟩ : ∃ x2, x2 = L.contains (a, c) := ⟨_, rfl⟩
                obtain ⟨x3, hx3⟩ : ∃ x3, x3 = L.contains (b, c) := ⟨_, rfl⟩
                have HST := Lib.hid (c3_step L a b c x1 x2 x3 hx1 hx2 hx3 (by omega))
                have H1 := Lib.hid fun (w1 : World) (hb : Below w.heap.size w w1) => hx1 ▸ HH.out a b w1 hb
                have H2 := Lib.hid fun (w1 : World) (hb : Below w.heap.size w w1) => hx2 ▸ HH.out a c w1 hb
                have H3 := Lib.hid fun (w1 : World) (hb : Below w.heap.size w w1) => hx3 ▸ HH.out b c w1 hb
                obtain ⟨q, hq⟩ : ∃ q, q = c3 L (tripsC a b c) := ⟨_, rfl⟩
                rw [← hq] at HST hbd ⊢
                obtain ⟨s, hs⟩ : ∃ s, s = B0 + q := ⟨_, rfl⟩
                rw [← hs] at hbd ⊢
                have HS := Lib.hid hs
                have hs0 : (0 : Int) ≤ (s : Int) := by omega
                have hs1 : (s : Int) ≤ 1000 := by omega
                clear hx1 hx2 hx3 hq hs hbd
                cases x1 <;> cases x2 <;> cases x3
                all_goals
                  go_wp2_with fail
                  refine (H1.out _ hbel).mono ?_
                  rintro e w2 ⟨rfl, hb2⟩
                  have HB3 := Lib.hid (below_step hbel hb2)
                  clear hb2
                  go_wp2_with fail
                  refine (H2.out _ HB3.out).mono ?_
                  rintro e w3 ⟨rfl, hb3⟩
                  have HB4 := Lib.hid (below_step HB3.out hb3)
                  clear hb3
                  go_wp2_with fail
                  refine (H3.out _ HB4.out).mono ?_
                  rintro e w4 ⟨rfl, hb4⟩
                  have HB5 := Lib.hid (below_step HB4.out hb4)
                  clear hb4
                  go_wp2
                  go_roundw
                  case rel => exact ⟨c + 1, by omega, by omega, by go_num, by rw [HST.out, HS.out]; simp <;> omega, HB5.out⟩
                  case measure => simp [intOf]; omega
              · have hcm' : c = m := by omega
                subst hcm'
                have hnx : c3 L (tripsB c a (b + 1)) = c3 L (tripsB c a b) + c3 L (tripsC a b c) := by rw [tripsB_next c a b (by omega), c3_append]
                have HNX := Lib.hid hnx
                have HB6 := Lib.hid hbel
                clear hnx hbel
                go_wp2
                go_roundw
                case rel => exact ⟨b + 1, by omega, by omega, by go_num, by rw [HNX.out, HB0.out, Nat.add_assoc], HB6.out⟩
                case measure => simp [intOf]; omega
          · have hbm' : b = m := by omega
            subst hbm'
            have hnx : c3 L (tripsA b (a + 1)) = c3 L (tripsA b a) + c3 L (tripsB b a b) := by rw [tripsA_next, c3_append]
            have HNX := Lib.hid hnx
            have HB6 := Lib.hid hbel
            clear hnx hbel
            go_wp2
            go_roundw
            case rel => exact ⟨a + 1, by omega, by go_num, by rw [HNX.out, HA0.out], HB6.out⟩
            case measure => simp [intOf]; omega
      · have ham : a = m := by omega
        subst ham
        go_wp2
        go_ret2
        exact ⟨rfl, hbel⟩
  | false =>
    have hr : pairThree n ps = (0, false) := by simp [pairThree, h]
    rw [hr]
    have HT := Lib.hid (sIn_is false hv h hw)
    clear hr h hv
    go_enter Try.func41, Try.ntmps41
    go_wp2_with fail
    refine HT.out.mono ?_
    rintro e w1 ⟨rfl, hb⟩
    go_wp2
    go_ret2
    exact ⟨rfl, hb⟩

/-- The slice value v, made since the heap had B blocks, holds sets of bits. -/
def OwnB (w : World) (B : Nat) (v : Value) (ns : List Nat) : Prop := w.ownsRow B 68 1 v ns.length (ns.map fun b => Value.int .u64 (b : Nat))
theorem ownB_cell {w : World} {B g n cap : Nat} {ns : List Nat} (h : OwnB w B (.slice (some ⟨g, 0, none⟩) n cap) ns) (j : Nat) (hj : j < ns.length) : w.cell? ⟨g, j, none⟩ = some (.int .u64 ((ns.getD j 0 : Nat) : Int)) := by
  have h0 := h
  unfold OwnB at h0
  rcases h.2 with ⟨h1, _⟩ | ⟨g', cap', cur, hv, _⟩
  · cases h1
  · simp only [Value.slice.injEq, Option.some.injEq, Addr.mk.injEq, and_true, true_and] at hv
    obtain ⟨rfl, rfl, rfl⟩ := hv
    have := World.ownsRow.cellAt h0 j (by omega)
    rw [this]
    simp [List.getD, hj]
theorem ownB_stored {w : World} {B g n cap : Nat} {ns : List Nat} (h : OwnB w B (.slice (some ⟨g, 0, none⟩) n cap) ns) (hn : n = ns.length) (j x : Nat) :
    OwnB (w.setCell ⟨g, j, none⟩ (.int .u64 (x : Int))) B (.slice (some ⟨g, 0, none⟩) n cap) (ns.set j x) := by
  subst hn
  have := (World.ownsRow.stored h j (.int .u64 (x : Int))).1
  unfold OwnB
  rw [List.length_set, List.map_set]
  exact this
theorem ownB_frozen {w : World} {B g n cap : Nat} {ns : List Nat} (h : OwnB w B (.slice (some ⟨g, 0, none⟩) n cap) ns) (hn : n = ns.length) (j : Nat) : w.frozen? ⟨g, j, none⟩ = false := by
  subst hn
  exact World.ownsRow.frozenAt h j
theorem ownB_below {w w' : World} {B : Nat} {v : Value} {ns : List Nat} (h : OwnB w B v ns) (hb : Below w.heap.size w w') : OwnB w' B v ns :=
  World.ownsRow.kept h (grown_of_below hb) (by cases hv : v.ownBlock <;> simp)
theorem ownB_made {w1 : World} {B g n : Nat} (h : w1.ownsRow B 68 1 (.slice (some ⟨g, 0, none⟩) n n) n (madeCells #[Value.int .u64 0] n).toList) : OwnB w1 B (.slice (some ⟨g, 0, none⟩) n n) (List.replicate n 0) := by
  unfold OwnB
  rw [toList_madeCells_one] at h
  simpa using h

theorem cellSetO {w : World} {p q : Addr} {v : Value} (h : p ≠ q) : (w.setCell p v).cell? q = w.cell? q := by
  first | exact World.cell?_setCell_other h | exact World.cell?_setCell_other _ h | exact World.cell?_setCell_other _ _ h | exact World.cell?_setCell_other _ _ _ h | exact World.cell?_setCell_other _ _ _ _ h

theorem with_still (b t : Nat) (w : World) (hb : b < 256) (ht : t < 8) : Calls Try.prog 75 #[.int .u64 b, .int .i64 t] w fun e w' => e = .returned (.int .u64 ((b ||| 2 ^ t : Nat) : Int)) ∧ w' = w :=
  (with_any b t w hb ht).mono fun e w' ⟨h1, h2⟩ => ⟨h1, h2.symm⟩

set_option maxHeartbeats 8000000 in
theorem iPairThree_v (v : Value) (n : Int) (ps : List (List Int)) (w : World) (hv : RdM w v ps) (hwf : (Lit.int .i64 n).wf = true) :
    Calls Try.prog 33 #[.int .i64 n, v] w (GivesIB w (pairThree n ps)) := by
  cases h : pairIn n ps with
  | true =>
    have hr : pairThree n ps = ((threeP n.toNat (decL ps) : Int), true) := by simp [pairThree, h]
    obtain ⟨m, L, rfl, h1, h6, hs, he, hin, hl, hd⟩ := pair_open h
    have hord : ∀ p ∈ L, p.1 < p.2 ∧ p.2 < m := fun q hq => mem_allP.1 (show (q.1, q.2) ∈ allP m from hs.subset hq)
    have hN := Lib.hid (near_lt m (by omega) L hord)
    rw [hr, hd, Int.toNat_natCast, ← three_near (by omega) hs]
    have HT := Lib.hid (told_yes hv h hd)
    have HOT := Lib.hid fun (w1 : World) (u : Value) (hu : RdP w1 u L) => othersOf_any m u L w1 hu hs h1 h6
    have HORD := Lib.hid hord
    have hlt15 := hl
    have HOL := Lib.hid (otherP_len h6 L)
    have HOIN := Lib.hid (inN_of_sub (otherP_sub m L))
    obtain ⟨i0, hi, hz0, hz1, hz2⟩ := info_parts Try.infoBlock
    clear hr h he hin hd hs hv hord hl
    go_enter Try.func33, Try.ntmps33
    go_wp2_with fail
    refine HT.out.mono ?_
    rintro e w1 ⟨u, rfl, ho, hb⟩
    obtain ⟨ao, ca, rfl, hlc, hcm, hx⟩ := ownP_rd ho
    unfold maxLen at hcm
    obtain ⟨l, hle⟩ : ∃ l, l = L.length := ⟨_, rfl⟩
    rw [← hle] at hlc hlt15 ⊢
    have HLE := Lib.hid hle
    have HX := Lib.hid hx
    have HRD : Hid (RdP w1 (.slice ao l ca) L) := Lib.hid (by rw [hle]; exact ownP_rd ho)
    clear ho hle hx
    go_wp2_with (at_make; refine wpList_make_full _ rfl _ _ 66 rfl w1.heap.size 68 i0 (.int .u64 0) 1 Try.underlying66 hi hz0 hz1 _ _ _ _ m rfl rfl rfl rfl (by rw [hz2]; omega) (by unfold maxLen; omega) (Nat.le_refl _) ?_)
    intro w2 hown2 hgrow2
    have hb2 : Below w1.heap.size w1 w2 := (Below.refl _ _).grown hgrow2 (Nat.le_refl _) (fun k h => by cases h)
    have HO2 := Lib.hid (ownB_made hown2)
    have hg2 := (World.ownsRow.lt hown2 _ rfl).2
    clear hown2 hgrow2
    go_wp2
    go_loopw [26] (fun i wr => ∃ k : Nat, k ≤ l ∧ i = .int .i64 k ∧ OwnB wr w1.heap.size (.slice (some ⟨w1.heap.size, 0, none⟩) m m) (nearTo m L k) ∧ Below w1.heap.size w1 wr) (fun i _ => l - (intOf i).toNat)
    case atStart => exact ⟨0, Nat.zero_le _, rfl, by simpa [nearTo] using HO2.out, hb2⟩
    case round =>
      obtain ⟨k, hk, rfl, hown, hbel⟩ := hrel
      have HO := Lib.hid hown
      have hbs := hbel.size
      by_cases hlt : k < l
      · rcases HX.out with hx | ⟨bb, off, rfl, hcx⟩
        · have := HLE.out
          rw [hx] at this
          simp at this
          omega
        have hcx' := hcx k (by have := HLE.out; omega)
        have hc1 := cellSt hcx'.1 hbel
        have hc2 := cellSt hcx'.2 hbel
        have hpn := HORD.out (L.getD k (0, 0)) (by have h : k < L.length := (by have := HLE.out; omega); rw [show L.getD k (0, 0) = L[k] by simp [List.getD, h]]; exact List.getElem_mem h)
        have hnx := nearTo_next m L k (by have := HLE.out; omega)
        have hnl := nearTo_len m L k
        have hn256 := hN.out k
        obtain ⟨⟨a, b⟩, hy⟩ : ∃ y, y = L.getD k (0, 0) := ⟨_, rfl⟩
        rw [← hy] at hc1 hc2 hpn hnx
        dsimp only at hc1 hc2 hpn
        obtain ⟨hab, hbm⟩ := hpn
        obtain ⟨ns, hns⟩ : ∃ ns, ns = nearTo m L k := ⟨_, rfl⟩
        rw [← hns] at hnx hnl hn256 HO
        have hst : nearStep ns (a, b) = (ns.set a (ns.getD a 0 ||| 2 ^ b)).set b (ns.getD b 0 ||| 2 ^ a) := rfl
        rw [hst] at hnx
        have hna := hn256 a
        have hnb := hn256 b
        obtain ⟨p, hp⟩ : ∃ p, p = ns.getD a 0 := ⟨_, rfl⟩
        obtain ⟨q, hq⟩ : ∃ q, q = ns.getD b 0 := ⟨_, rfl⟩
        rw [← hp] at hnx hna
        rw [← hq] at hnx hnb
        have HNX := Lib.hid hnx
        have HNL := Lib.hid hnl
        have b0 : (k : Int) < l := by omega
        have b1 : (a : Int) < m := by omega
        have b2 : (b : Int) < m := by omega
        have b3 : (0 : Int) ≤ (a : Int) := by omega
        have b4 : (0 : Int) ≤ (b : Int) := by omega
        have e1 := ownB_cell HO.out a (by rw [HNL.out]; omega)
        have e2 := ownB_cell HO.out b (by rw [HNL.out]; omega)
        rw [← hp] at e1
        rw [← hq] at e2
        have hbk : bb < w1.heap.size := World.block_lt_of_cell? w1 _ hcx'.1
        clear hcx hcx' hy hns hst hnx hnl hn256 hp hq
        go_wp2
        obtain ⟨W, hW⟩ : ∃ W, W = wr.alloc (.cells #[.int .i64 a, .int .i64 b] 62) := ⟨_, rfl⟩
        have f1 : W.cell? ⟨wr.heap.size, 0, none⟩ = some (.int .i64 a) := by rw [hW]; exact (cells_two rfl).1
        have f2 : W.cell? ⟨wr.heap.size, 1, none⟩ = some (.int .i64 b) := by rw [hW]; exact (cells_two rfl).2
        have f3 : W.cell? ⟨w1.heap.size, a, none⟩ = some (.int .u64 (p : Int)) := by rw [hW]; exact cellAl e1 _
        have f4 : W.cell? ⟨w1.heap.size, b, none⟩ = some (.int .u64 (q : Int)) := by rw [hW]; exact cellAl e2 _
        have hbW : Below w1.heap.size w1 W := by rw [hW]; exact hbel.alloc hbs _
        have HOW : Hid (OwnB W w1.heap.size (.slice (some ⟨w1.heap.size, 0, none⟩) m m) ns) := Lib.hid (by rw [hW]; exact ownB_below HO.out ((Below.refl _ _).alloc (Nat.le_refl _) _))
        rw [← hW]
        have hgw : w1.heap.size < wr.heap.size := by
          have := World.block_lt_of_cell? wr _ e1
          exact this
        clear hW e1 e2 hc1 hc2 hown
        refine wp_region_still_tail 12 (by kernel_rfl) (by kernel_rfl) ?_
        simp only [List.take_succ_cons, List.take_zero, List.drop_succ_cons, List.drop_zero]
        repeat still_step
        still_call (with_still p b _ hna (by omega))
        repeat still_step
        refine wpStill_nil ?_
        change wpList _ _ _ _ _ W.drew
        obtain ⟨r, hr⟩ : ∃ r, r = p ||| 2 ^ b := ⟨_, rfl⟩
        obtain ⟨r2, hr2⟩ : ∃ r2, r2 = q ||| 2 ^ a := ⟨_, rfl⟩
        rw [← hr]
        rw [← hr, ← hr2] at HNX
        obtain ⟨W5, hW5⟩ : ∃ W5, W5 = W.drew := ⟨_, rfl⟩
        have g1 : W5.cell? ⟨wr.heap.size, 0, none⟩ = some (.int .i64 a) := by rw [hW5]; exact f1
        have g2 : W5.cell? ⟨wr.heap.size, 1, none⟩ = some (.int .i64 b) := by rw [hW5]; exact f2
        have g3 : W5.cell? ⟨w1.heap.size, a, none⟩ = some (.int .u64 (p : Int)) := by rw [hW5]; exact f3
        have g4 : W5.cell? ⟨w1.heap.size, b, none⟩ = some (.int .u64 (q : Int)) := by rw [hW5]; exact f4
        have hb5 : Below w1.heap.size w1 W5 := by rw [hW5]; exact hbW.drew
        have ho5 : OwnB W5 w1.heap.size (.slice (some ⟨w1.heap.size, 0, none⟩) m m) ns := by rw [hW5]; exact ownB_below HOW.out (Below.refl _ _).drew
        have hf5 := ownB_frozen ho5 HNL.out.symm a
        rw [← hW5]
        obtain ⟨W6, hW6⟩ : ∃ W6, W6 = W5.setCell ⟨w1.heap.size, a, none⟩ (.int .u64 (r : Int)) := ⟨_, rfl⟩
        have j1 : W6.cell? ⟨wr.heap.size, 0, none⟩ = some (.int .i64 a) := by rw [hW6, cellSetO (by intro e; simp at e <;> omega)]; exact g1
        have j2 : W6.cell? ⟨wr.heap.size, 1, none⟩ = some (.int .i64 b) := by rw [hW6, cellSetO (by intro e; simp at e <;> omega)]; exact g2
        have j4 : W6.cell? ⟨w1.heap.size, b, none⟩ = some (.int .u64 (q : Int)) := by rw [hW6, cellSetO (by intro e; simp at e <;> omega)]; exact g4
        have ho6 : OwnB W6 w1.heap.size (.slice (some ⟨w1.heap.size, 0, none⟩) m m) (ns.set a r) := by rw [hW6]; exact ownB_stored ho5 HNL.out.symm a r
        have hb6 : Below w1.heap.size w1 W6 := by rw [hW6]; exact hb5.setCell (Nat.le_refl _) _
        have HO6 := Lib.hid ho6
        have HB6 := Lib.hid hb6
        have HR2 := Lib.hid hr2
        clear hW5 f1 f2 f3 f4 hbW hb5 ho5 g1 g2 g4 ho6 hb6 hr hr2
        go_wp2
        rw [← hW6]
        clear hW6 g3 hf5
        have hbk : w1.heap.size < W6.heap.size := World.block_lt_of_cell? W6 _ j4
        refine wp_region_still_tail 12 (by kernel_rfl) (by kernel_rfl) ?_
        simp only [List.take_succ_cons, List.take_zero, List.drop_succ_cons, List.drop_zero]
        repeat still_step
        still_call (with_still q a _ hnb (by omega))
        repeat still_step
        refine wpStill_nil ?_
        change wpList _ _ _ _ _ W6.drew
        rw [← HR2.out]
        obtain ⟨W7, hW7⟩ : ∃ W7, W7 = W6.drew := ⟨_, rfl⟩
        have g4 : W7.cell? ⟨w1.heap.size, b, none⟩ = some (.int .u64 (q : Int)) := by rw [hW7]; exact j4
        have ho7 : OwnB W7 w1.heap.size (.slice (some ⟨w1.heap.size, 0, none⟩) m m) (ns.set a r) := by rw [hW7]; exact ownB_below HO6.out (Below.refl _ _).drew
        have hf7 := ownB_frozen ho7 (by rw [List.length_set, HNL.out]) b
        have HB7 : Hid (Below w1.heap.size w1 W7) := Lib.hid (by rw [hW7]; exact HB6.out.drew)
        have HO8 := Lib.hid (ownB_stored ho7 (by rw [List.length_set, HNL.out]) b r2)
        rw [← hW7]
        clear hW7 j1 j2 j4 ho7
        go_wp2
        go_roundw
        case rel => exact ⟨k + 1, by omega, by go_num, by rw [HNX.out]; exact HO8.out, HB7.out.setCell (Nat.le_refl _) _⟩
        case measure => simp [intOf]; omega
      · have hkl : k = l := by omega
        have hbw := below_step hb hbel
        have HRD2 := Lib.hid (rdP_below HRD.out hbel)
        subst hkl
        obtain ⟨ns, hns⟩ : ∃ ns, ns = nearTo m L k := ⟨_, rfl⟩
        have hnl : ns.length = m := by rw [hns]; exact nearTo_len m L k
        have hn256 : ∀ i, ns.getD i 0 < 256 := by rw [hns]; exact hN.out k
        rw [← hns] at HO
        have HBO : Hid (∀ p : Nat × Nat, both m L p = cnt (ns.getD p.1 0 &&& ns.getD p.2 0)) := Lib.hid fun p => by rw [hns, HLE.out]; rfl
        have HNL := Lib.hid hnl
        have HN2 := Lib.hid hn256
        clear hns hown hnl hn256
        go_wp2_with fail
        refine (HOT.out _ _ HRD2.out).mono ?_
        rintro e w3 ⟨u3, rfl, hr3, hb3⟩
        obtain ⟨X, hX⟩ : ∃ X, X = otherP m L := ⟨_, rfl⟩
        rw [← hX] at hr3 HOL HOIN ⊢
        obtain ⟨xo, xc, rfl, hxc, hxm, hxx⟩ := hr3
        unfold maxLen at hxm
        obtain ⟨t, htl⟩ : ∃ t, t = X.length := ⟨_, rfl⟩
        have htb := HOL.out
        rw [← htl] at hxc htb ⊢
        have HTL := Lib.hid htl
        have HXX := Lib.hid hxx
        have HB3 := Lib.hid (below_step hbw hb3)
        have HO3 := Lib.hid (ownB_below HO.out hb3)
        obtain ⟨F, hF⟩ : ∃ F, F = both m L := ⟨_, rfl⟩
        rw [← hF] at HBO ⊢
        have HEND : Hid (((X.take t).map F).sum = (X.map F).sum) := Lib.hid (by rw [htl, List.take_length])
        have HXE := Lib.hid hX
        have HFE := Lib.hid hF
        clear hX hxx hb3 htl hF
        go_wp2
        go_loopw [11, 59] (fun u i wr => ∃ j : Nat, j ≤ t ∧ i = .int .i64 j ∧ u = .int .i64 ((((X.take j).map F).sum : Nat) : Int) ∧ ((X.take j).map F).sum ≤ j * 8 ∧ OwnB wr w1.heap.size (.slice (some ⟨w1.heap.size, 0, none⟩) m m) ns ∧ Below w3.heap.size w3 wr) (fun _ i _ => t - (intOf i).toNat)
        case atStart => exact ⟨0, Nat.zero_le _, rfl, rfl, by simp, HO3.out, Below.refl _ _⟩
        case round =>
          obtain ⟨j, hj, rfl, rfl, hsum, hown, hbel⟩ := hrel
          by_cases hjt : j < t
          · rcases HXX.out with hx | ⟨bb, off, rfl, hcx⟩
            · have := HTL.out
              rw [hx] at this
              simp at this
              omega
            have hcx' := hcx j (by have := HTL.out; omega)
            have hc1 := cellSt hcx'.1 hbel
            have hc2 := cellSt hcx'.2 hbel
            have hlj : j < X.length := by have := HTL.out; omega
            have hpn := HOIN.out (X.getD j (0, 0)) (by rw [show X.getD j (0, 0) = X[j] by simp [List.getD, hlj]]; exact List.getElem_mem hlj)
            have hts : ((X.take (j + 1)).map F).sum = ((X.take j).map F).sum + F (X.getD j (0, 0)) := by
              rw [take_snocP X j hlj, List.map_append, List.sum_append]
              simp
            obtain ⟨⟨a, b⟩, hy⟩ : ∃ y, y = X.getD j (0, 0) := ⟨_, rfl⟩
            rw [← hy] at hc1 hc2 hpn hts
            dsimp only at hc1 hc2 hpn
            obtain ⟨ha, hb'⟩ := hpn
            have e1 := ownB_cell hown a (by rw [HNL.out]; omega)
            have e2 := ownB_cell hown b (by rw [HNL.out]; omega)
            have hna := HN2.out a
            have hnb := HN2.out b
            have hbo := HBO.out (a, b)
            dsimp only at hbo
            obtain ⟨p, hp⟩ : ∃ p, p = ns.getD a 0 := ⟨_, rfl⟩
            obtain ⟨q, hq⟩ : ∃ q, q = ns.getD b 0 := ⟨_, rfl⟩
            rw [← hp] at e1 hna hbo
            rw [← hq] at e2 hnb hbo
            have hand := u64_and_nat p q (by omega) (by omega)
            have hpq : p &&& q < 256 := Nat.lt_of_le_of_lt Nat.and_le_left hna
            obtain ⟨s, hs⟩ : ∃ s, s = ((X.take j).map F).sum := ⟨_, rfl⟩
            rw [← hs] at hts hsum ⊢
            obtain ⟨d, hd⟩ : ∃ d, d = p &&& q := ⟨_, rfl⟩
            rw [← hd] at hand hpq hbo
            have hcd : cnt d ≤ 8 := by
              unfold cnt
              have := List.length_filter_le (fun t => d.testBit t) (List.range 8)
              simpa using this
            have HSZ := Lib.hid fun (w5 : World) => size_any d w5 hpq
            obtain ⟨z, hz⟩ : ∃ z, z = cnt d := ⟨_, rfl⟩
            rw [← hz] at HSZ hbo hcd
            rw [hbo] at hts
            have HTS := Lib.hid hts
            have HOW := Lib.hid hown
            have b0 : (j : Int) < t := by omega
            have b1 : (a : Int) < m := by omega
            have b2 : (b : Int) < m := by omega
            have b3 : (0 : Int) ≤ (a : Int) := by omega
            have b4 : (0 : Int) ≤ (b : Int) := by omega
            have hbs3 := hbel.size
            have s0 : (0 : Int) ≤ (s : Int) := by omega
            have s1 : (s : Int) ≤ 1000 := by omega
            have z1 : (z : Int) ≤ 8 := by omega
            have z0 : (0 : Int) ≤ (z : Int) := by omega
            clear hcx hcx' hy hlj hts hbo hp hq hs hd hz hown
            go_wp2
            obtain ⟨W, hW⟩ : ∃ W, W = wr.alloc (.cells #[.int .i64 a, .int .i64 b] 62) := ⟨_, rfl⟩
            have f1 : W.cell? ⟨wr.heap.size, 0, none⟩ = some (.int .i64 a) := by rw [hW]; exact (cells_two rfl).1
            have f2 : W.cell? ⟨wr.heap.size, 1, none⟩ = some (.int .i64 b) := by rw [hW]; exact (cells_two rfl).2
            have f3 : W.cell? ⟨w1.heap.size, a, none⟩ = some (.int .u64 (p : Int)) := by rw [hW]; exact cellAl e1 _
            have f4 : W.cell? ⟨w1.heap.size, b, none⟩ = some (.int .u64 (q : Int)) := by rw [hW]; exact cellAl e2 _
            have hbW : Below w3.heap.size w3 W := by rw [hW]; exact hbel.alloc hbs3 _
            have HOW2 : Hid (OwnB W w1.heap.size (.slice (some ⟨w1.heap.size, 0, none⟩) m m) ns) := Lib.hid (by rw [hW]; exact ownB_below HOW.out ((Below.refl _ _).alloc (Nat.le_refl _) _))
            rw [← hW]
            clear hW e1 e2 hc1 hc2
            go_quiet ((go_at_call 76; exact quiet_left (HSZ.out _)))
            have hbq := below_drewN hbW nq
            have HBQ := Lib.hid hbq
            have HOQ := Lib.hid (ownB_below HOW2.out (below_drewN (Below.refl _ W) nq))
            clear hbq hbW
            go_wp2
            go_roundw
            case rel => exact ⟨j + 1, by omega, by go_num, by rw [HTS.out]; go_num, by rw [HTS.out]; omega, HOQ.out, HBQ.out⟩
            case measure => simp [intOf]; omega
          · have hjt' : j = t := by omega
            subst hjt'
            rw [HEND.out]
            go_wp2
            go_ret2
            rw [HXE.out, HFE.out]
            exact ⟨rfl, below_step HB3.out hbel⟩
  | false =>
    have hr : pairThree n ps = (0, false) := by simp [pairThree, h]
    rw [hr]
    have HT := Lib.hid (told_no hv h)
    clear hr h hv
    go_enter Try.func33, Try.ntmps33
    go_wp2_with fail
    refine HT.out.mono ?_
    rintro e w1 ⟨u, rfl, ho, hb⟩
    go_wp2
    go_ret2
    exact ⟨rfl, hb⟩

end Go.Proofs.Ytbmpchpcihnbdaa

/-
  The contracts of (line).place and impl.lineAt. (Made by wip/gen/mkline5.py.)
-/
namespace Go.Proofs.Ytbmpchpcihnbdaa
set_option linter.unusedSimpArgs false
set_option linter.unusedVariables false
set_option linter.unnecessarySimpa false
open Go.RowKit

/-- One number of the place of a list. -/
theorem plc_drop {xs : List Int} (k : Nat) (hk : k < xs.length) (s : Int) : plcFrom s (xs.drop k) = xs.getD k 0 * opn (xs.length - (k + 1)) s + plcFrom (max s (xs.getD k 0 + 1)) (xs.drop (k + 1)) := by
  rw [drop_cons xs k hk, plcFrom, List.length_drop]

theorem size_succ {xs : List Int} (k : Nat) (hk : k < xs.length) : sizeFrom 0 (xs.take (k + 1)) = max (sizeFrom 0 (xs.take k)) (xs.getD k 0 + 1) := by
  rw [take_snocI xs k hk, sizeFrom_snoc]

theorem okFrom_drop {xs : List Int} (h : okFrom 0 xs = true) (k : Nat) : okFrom (sizeFrom 0 (xs.take k)) (xs.drop k) = true := by
  have := (okFrom_app (xs.take k) (xs.drop k) 0).1 (by rw [List.take_append_drop]; exact h)
  exact this.2

/-- The lists that lineAt has, one place after the other. -/
structure AtStage (n : Nat) (P : Int) (i : Nat) (pre : List Int) (q : Int) : Prop where
  le : i ≤ n
  len : pre.length = i
  ok : okFrom 0 pre = true
  q0 : 0 ≤ q
  q1 : q < opn (n - i) (sizeFrom 0 pre)
  eq : atL n P = pre ++ atFrom (n - i) (sizeFrom 0 pre) q

theorem atStage_start (n : Nat) (P : Int) (h0 : 0 ≤ P) (h1 : P < opn n 0) : AtStage n P 0 [] P := ⟨Nat.zero_le _, rfl, rfl, h0, h1, rfl⟩

theorem atStage_step {n i : Nat} {P q : Int} {pre : List Int} (h : AtStage n P i pre q) (hi : i < n) (x : Int) (hx : x = min (q / opn (n - (i + 1)) (sizeFrom 0 pre)) (sizeFrom 0 pre)) :
    AtStage n P (i + 1) (pre ++ [x]) (q - x * opn (n - (i + 1)) (sizeFrom 0 pre)) ∧ 0 ≤ x ∧ x ≤ sizeFrom 0 pre := by
  have hn : n - i = (n - (i + 1)) + 1 := by omega
  have hs := sizeFrom_nonneg pre 0
  have hq1 := h.q1
  have heq := h.eq
  rw [hn] at hq1 heq
  obtain ⟨e1, e2, e3, e4⟩ := at_head (n - (i + 1)) (sizeFrom 0 pre) q hs h.q0 hq1
  rw [atFrom] at heq
  rw [← hx] at e1 e2 e3 e4 heq
  refine ⟨⟨by omega, by rw [List.length_append, h.len]; rfl, ?_, e3, ?_, ?_⟩, e1, e2⟩
  · rw [okFrom_app]
    refine ⟨h.ok, ?_⟩
    rw [okFrom_step _ e1 e2]
    rfl
  · rw [sizeFrom_snoc]; exact e4
  · rw [sizeFrom_snoc, heq]; simp

theorem atStage_end {n : Nat} {P q : Int} {pre : List Int} (h : AtStage n P n pre q) : atL n P = pre := by
  have := h.eq
  rw [Nat.sub_self, atFrom, List.append_nil] at this
  exact this

theorem pre_set (pre : List Int) (n i : Nat) (h : pre.length = i) (hi : i < n) (x : Int) : (pre ++ List.replicate (n - i) 0).set i x = (pre ++ [x]) ++ List.replicate (n - (i + 1)) 0 := by
  rw [List.set_append_right _ _ (by omega), h, Nat.sub_self, show n - i = (n - (i + 1)) + 1 by omega, List.replicate_succ, List.set_cons_zero]
  simp

theorem pre_take (pre : List Int) (n i : Nat) (h : pre.length = i) : (pre ++ List.replicate (n - i) 0).take i = pre := by
  rw [List.take_append_of_le_length (by omega), List.take_of_length_le (by omega)]

theorem pre_small {pre : List Int} {n : Nat} (h : okFrom 0 pre = true) (hl : pre.length ≤ 8) (m : Nat) : Small (pre ++ List.replicate m 0) := fun j hj => by
  simp only [List.getD, List.getElem?_append]
  by_cases h1 : j < pre.length
  · rw [if_pos h1]
    have := okFrom_small pre 0 (by omega) h j h1
    simp only [List.getD] at this
    omega
  · rw [if_neg h1, List.getElem?_replicate]
    split <;> simp

end Go.Proofs.Ytbmpchpcihnbdaa

/-
  The program's contracts: impl.ListPlace, ListAt, ListNext, ListBefore, ListOpen.
-/
namespace Go.Proofs.Ytbmpchpcihnbdaa
set_option linter.unusedSimpArgs false
set_option linter.unusedVariables false
set_option linter.unnecessarySimpa false
open Go.RowKit

def listPlace (xs : List Int) : Int × Bool := if partIn xs then (plc xs, true) else (0, false)
def listAt (n p : Int) : List Int × Bool := if (1 ≤ n ∧ n ≤ 8) ∧ 0 ≤ p ∧ p < opn n.toNat 0 then (atL n.toNat p, true) else ([], false)
def listNext (xs : List Int) : List Int × Bool := if partIn xs = true ∧ plc xs + 1 < opn xs.length 0 then (atL xs.length (plc xs + 1), true) else ([], false)
def listBefore (xs : List Int) : List Int × Bool := if partIn xs = true ∧ 0 < plc xs then (atL xs.length (plc xs - 1), true) else ([], false)
def listOpen (n : Int) (xs : List Int) : Int × Bool := if partIn xs = true ∧ (xs.length : Int) ≤ n ∧ n ≤ 8 then (opn (n.toNat - xs.length) (pSize xs), true) else (0, false)

theorem listAt_len (n p : Int) : (listAt n p).1.length ≤ 2305843009213693952 := by
  unfold listAt
  split
  · simp only [atL_length]; omega
  · simp
theorem listNext_len (xs : List Int) (h : xs.length ≤ 1048576) : (listNext xs).1.length ≤ 2305843009213693952 := by
  unfold listNext
  split
  · simp only [atL_length]; omega
  · simp
theorem listBefore_len (xs : List Int) (h : xs.length ≤ 1048576) : (listBefore xs).1.length ≤ 2305843009213693952 := by
  unfold listBefore
  split
  · simp only [atL_length]; omega
  · simp

theorem rdv_len {w : World} {v : Value} {xs : List Int} (h : RdV w v xs) : ∃ ao cap, v = .slice ao xs.length cap ∧ xs.length ≤ 9223372036854775807 := by
  obtain ⟨ao, cap, h1, _, h3, h4⟩ := h
  unfold maxLen at h4
  exact ⟨ao, cap, h1, by omega⟩

theorem countFits_is (b : Bool) (n : Int) (w : World) (h : decide (1 ≤ n ∧ n ≤ 8) = b) : Calls Try.prog 100 #[.int .i64 n] w fun e w' => e = .returned (.bool b) ∧ w = w' := by
  subst h
  exact countFits_any n w

theorem lineList_f (xs : List Int) (w : World) (hp : partIn xs = true) : Calls Try.prog 97 #[.agg (rowC (ln xs))] w (FreshL w xs) :=
  lineList_any xs w (partIn_small hp) (partIn_len hp).2

end Go.Proofs.Ytbmpchpcihnbdaa

