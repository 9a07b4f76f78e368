/-
  The best partition of a pair list, and how it is found by going along lists. No walk stands here.
-/
import Derived.Test.YtieldehghmikkaaPairFacts
import Derived.Test.YtieldehghmikkaaPairOps
import Derived.Test.YtieldehghmikkaaPairTold
import Derived.Test.YtieldehghmikkaaLineIn
namespace Go.Proofs.Ytieldehghmikkaa
set_option linter.unusedSimpArgs false
set_option linter.unusedVariables false
set_option maxRecDepth 100000

/-- The first best partition. -/
def bestP (n : Nat) (L : List (Nat × Nat)) : List Int := bestIn L ((allL n).getD 0 []) (allL n).tail

theorem all_cons {n : Nat} (h1 : 1 ≤ n) (h6 : n ≤ 6) : (allL n).getD 0 [] :: (allL n).tail = allL n := by
  have hl : ∀ m, m < 7 → 1 ≤ m → 0 < (allL m).length := by decide +kernel
  have := hl n (by omega) h1
  match h : allL n, this with
  | a :: l, _ => simp [h]

theorem unlike_both : ∀ A M : List (Nat × Nat), A.Pairwise ltP → M.Pairwise ltP → unlikeN A M + 2 * M.countP (fun p => A.contains p) = A.length + M.length := by
  intro A M
  induction A, M using unlikeN.induct with
  | case1 M =>
    intro _ _
    rw [unlikeN_nil]
    have : M.countP (fun p => ([] : List (Nat × Nat)).contains p) = 0 := by rw [List.countP_eq_zero]; intro a _; simp
    rw [this]
    simp
  | case2 p L =>
    intro _ _
    rw [unlikeN_nil2]
    simp
  | case3 p L q M hlt ih =>
    intro hA hM
    obtain ⟨a1, a2⟩ := List.pairwise_cons.1 hA
    obtain ⟨m1, m2⟩ := List.pairwise_cons.1 hM
    rw [unlikeN_cons, if_pos hlt]
    have h := ih a2 hM
    have hpq := (cmpP_lt p q).1 hlt
    have e : (q :: M).countP (fun x => (p :: L).contains x) = (q :: M).countP (fun x => L.contains x) := by
      apply List.countP_congr
      intro x hx
      have hne : (x == p) = false := by
        rw [Bool.eq_false_iff]
        intro hc
        have := eq_of_beq hc
        subst this
        rcases List.mem_cons.1 hx with e | hx
        · rw [e] at hpq; exact ltP_irrefl _ hpq
        · exact ltP_irrefl _ (ltP_trans hpq (m1 _ hx))
      simp only [List.contains_cons, hne, Bool.false_or]
    rw [e]
    simp only [List.length_cons] at h ⊢
    omega
  | case4 p L q M hnl hgt ih =>
    intro hA hM
    obtain ⟨a1, a2⟩ := List.pairwise_cons.1 hA
    obtain ⟨m1, m2⟩ := List.pairwise_cons.1 hM
    rw [unlikeN_cons, if_neg hnl, if_pos hgt]
    have h := ih hA m2
    have hqp : ltP q p := by
      unfold cmpP at hgt hnl
      unfold ltP
      have h1 := cmpI_lt p.1 q.1
      have h2 := cmpI_zero p.1 q.1
      have h3 := cmpI_lt p.2 q.2
      have h4 := cmpI_zero p.2 q.2
      by_cases hz : cmpI p.1 q.1 = 0
      · rw [if_neg (by simp [hz])] at hgt hnl
        omega
      · rw [if_pos hz] at hgt hnl
        omega
    have hq : (p :: L).contains q = false := by
      rw [Bool.eq_false_iff]
      intro hc
      have hm : q ∈ p :: L := by simpa using hc
      rcases List.mem_cons.1 hm with e | hm
      · rw [e] at hqp; exact ltP_irrefl _ hqp
      · exact ltP_irrefl _ (ltP_trans hqp (a1 _ hm))
    rw [List.countP_cons, hq]
    simp only [List.length_cons, Bool.false_eq_true, if_false] at h ⊢
    omega
  | case5 p L q M hnl hng ih =>
    intro hA hM
    obtain ⟨a1, a2⟩ := List.pairwise_cons.1 hA
    obtain ⟨m1, m2⟩ := List.pairwise_cons.1 hM
    rw [unlikeN_cons, if_neg hnl, if_neg hng]
    have h := ih a2 m2
    have hpq : p = q := by
      unfold cmpP at hng hnl
      have h1 := cmpI_lt p.1 q.1
      have h2 := cmpI_zero p.1 q.1
      have h3 := cmpI_lt p.2 q.2
      have h4 := cmpI_zero p.2 q.2
      by_cases hz : cmpI p.1 q.1 = 0
      · rw [if_neg (by simp [hz])] at hng hnl
        exact Prod.ext (by omega) (by omega)
      · rw [if_pos hz] at hng hnl
        omega
    subst hpq
    have e : M.countP (fun x => (p :: L).contains x) = M.countP (fun x => L.contains x) := by
      apply List.countP_congr
      intro x hx
      have hne : (x == p) = false := by
        rw [Bool.eq_false_iff]
        intro hc
        have := eq_of_beq hc
        subst this
        exact ltP_irrefl _ (m1 _ hx)
      simp only [List.contains_cons, hne, Bool.false_or]
    rw [List.countP_cons, e]
    simp only [List.length_cons, List.contains_cons, BEq.rfl, Bool.true_or, if_true]
    omega

theorem unlike_cost {n : Nat} {L : List (Nat × Nat)} {xs : List Int} (hn : n < 7) (h : L.Sublist (allP n)) (hx : xs.length = n) : costP xs L = (unlikeN (ofP xs) L : Nat) := by
  have h1 := unlike_both (ofP xs) L ((allP_sorted n hn).sublist (by have := ofP_sub xs; rw [hx] at this; exact this)) ((allP_sorted n hn).sublist h)
  rw [cost_both hn h hx]
  omega

/-- One more partition is asked. -/
def bstStep (L : List (Nat × Nat)) (s : List Int × Int) (x : List Int) : List Int × Int := if ((unlikeN (ofP x) L : Nat) : Int) < s.2 then (x, ((unlikeN (ofP x) L : Nat) : Int)) else s
def bstTo (c : Nat) (L : List (Nat × Nat)) (F : Int) (pre : List Nat) : List Int × Int := (pre.map fun q => atL c (q : Nat)).foldl (bstStep L) ([], F)
theorem bstTo_snoc (c : Nat) (L : List (Nat × Nat)) (F : Int) (pre : List Nat) (x : Nat) : bstTo c L F (pre ++ [x]) = bstStep L (bstTo c L F pre) (atL c (x : Nat)) := by
  simp [bstTo, List.foldl_append]

theorem bst_fold {n : Nat} {L : List (Nat × Nat)} (hn : n < 7) (h : L.Sublist (allP n)) : ∀ (l : List (List Int)) (b : List Int), b.length = n → (∀ x ∈ l, x.length = n) →
    l.foldl (bstStep L) (b, costP b L) = (bestIn L b l, costP (bestIn L b l) L) := by
  intro l
  induction l with
  | nil => intro b _ _; rfl
  | cons x l ih =>
    intro b hb hl
    have hx := hl x (by simp)
    have e : bstStep L (b, costP b L) x = if costP x L < costP b L then (x, costP x L) else (b, costP b L) := by
      unfold bstStep
      rw [unlike_cost hn h hx]
    rw [List.foldl_cons, e]
    unfold bestIn
    split
    · exact ih x hx fun y hy => hl y (by simp [hy])
    · exact ih b hb fun y hy => hl y (by simp [hy])

theorem allL_len {n : Nat} {x : List Int} (h : x ∈ allL n) : x.length = n := by
  unfold allL at h
  obtain ⟨p, _, rfl⟩ := List.mem_map.1 h
  exact atL_length _ _

theorem bst_all {n : Nat} {L : List (Nat × Nat)} (h1 : 1 ≤ n) (h6 : n ≤ 6) (h : L.Sublist (allP n)) : bstTo n L (((n * (n - 1) / 2 : Nat) : Int) + 1) (List.range (opn n 0).toNat) = (bestP n L, costP (bestP n L) L) := by
  have hr : (List.range (opn n 0).toNat).map (fun q => atL n (q : Nat)) = allL n := rfl
  unfold bstTo
  rw [hr, ← all_cons h1 h6, List.foldl_cons]
  have ha : ((allL n).getD 0 []).length = n := allL_len (by rw [← all_cons h1 h6]; simp)
  have hc : costP ((allL n).getD 0 []) L ≤ ((n * (n - 1) / 2 : Nat) : Int) := by
    rw [cost_count (by omega) h ha]
    have := List.countP_le_length (p := outP ((allL n).getD 0 []) L) (l := allP n)
    rw [allP_length n (by omega)] at this
    omega
  have e : bstStep L ([], ((n * (n - 1) / 2 : Nat) : Int) + 1) ((allL n).getD 0 []) = ((allL n).getD 0 [], costP ((allL n).getD 0 []) L) := by
    unfold bstStep
    rw [← unlike_cost (by omega) h ha, if_pos (by dsimp only; omega)]
  rw [e]
  unfold bestP
  exact bst_fold (by omega) h _ _ ha fun x hx => allL_len (by rw [← all_cons h1 h6]; simp [hx])

end Go.Proofs.Ytieldehghmikkaa
