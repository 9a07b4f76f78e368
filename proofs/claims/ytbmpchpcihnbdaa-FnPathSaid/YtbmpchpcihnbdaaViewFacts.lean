/-
  Facts on quarrels and paths, for the plain laws of chapter 7.
-/
import Derived.Test.YtbmpchpcihnbdaaViewQ
import Derived.Test.YtbmpchpcihnbdaaViewPath
import Derived.Test.YtbmpchpcihnbdaaPathMath
namespace Go.Proofs.Ytbmpchpcihnbdaa
set_option linter.unusedSimpArgs false
set_option linter.unusedVariables false

theorem viewQuarrel_yes {xs ys : List Int} (h : alike xs ys = true) : viewQuarrel xs ys = ((quar xs ys : Int), true) := by simp [viewQuarrel, h]
theorem viewQuarrel_no {xs ys : List Int} (h : alike xs ys = false) : viewQuarrel xs ys = (0, false) := by simp [viewQuarrel, h]
theorem viewPath_yes {xs ys : List Int} (h : alike xs ys = true) : viewPath xs ys = (pSize xs + pSize ys - 2 * pSize (kOut (joinAll xs ys xs.length xs.length)), true) := by simp [viewPath, h]
theorem viewPath_no {xs ys : List Int} (h : alike xs ys = false) : viewPath xs ys = (0, false) := by simp [viewPath, h]

theorem quarrel_facts {xs ys : List Int} (ha : alike xs ys = true) : ∃ q x y : Nat, viewQuarrel xs ys = ((q : Int), true) ∧ viewQuarrel xs (kOut (mix 8 xs ys)) = ((x : Int), true) ∧ viewQuarrel (kOut (mix 8 xs ys)) ys = ((y : Int), true) ∧ viewQuarrel ys xs = ((q : Int), true) ∧
    x + y = q ∧ q ≤ 64 ∧ (q = 0 ↔ xs = ys) := by
  obtain ⟨hx, hy, hl⟩ := alike_iff.1 ha
  have hm := (finer_parts (meet_finer ha).1).1
  have hml : (kOut (mix 8 xs ys)).length = xs.length := by rw [kOut_length, mix_length]
  have hl8 := partIn_len hx
  refine ⟨_, _, _, viewQuarrel_yes ha, viewQuarrel_yes (alike_iff.2 ⟨hx, hm, hml.symm⟩), viewQuarrel_yes (alike_iff.2 ⟨hm, hy, by omega⟩), ?_, ?_, ?_, quar_zero hx hy hl.symm⟩
  · rw [viewQuarrel_yes (alike_symm ha), quar_comm hl]
  · refine quar_meet (fun i k hi hk => ?_) hml
    rw [← (kOut_inv (mix 8 xs ys)).2 i k (by rw [mix_length]; exact hi) (by rw [mix_length]; exact hk)]
    exact mix_eq_iff hx hy hl hi hk
  · have h1 := quarTo_le xs ys xs.length
    have h2 := Nat.mul_le_mul hl8.2 hl8.2
    exact Nat.le_trans h1 h2

theorem joinAll_comm (xs ys : List Int) (n t : Nat) : joinAll ys xs n t = joinAll xs ys n t := by
  have htog : ∀ i k, tog ys xs i k = tog xs ys i k := fun i k => by
    rw [Bool.eq_iff_iff, tog_iff, tog_iff]
    exact Or.comm
  have hrow : ∀ f i k, joinRow ys xs f i k = joinRow xs ys f i k := by
    intro f i k
    induction k with
    | zero => rfl
    | succ k ih =>
      show joinK ys xs (joinRow ys xs f i k) i k = joinK xs ys (joinRow xs ys f i k) i k
      rw [ih]
      unfold joinK
      rw [htog]
  have hpass : ∀ f i, joinPass ys xs f n i = joinPass xs ys f n i := by
    intro f i
    induction i with
    | zero => rfl
    | succ i ih =>
      show joinRow ys xs (joinPass ys xs f n i) i n = joinRow xs ys (joinPass xs ys f n i) i n
      rw [ih, hrow]
  induction t with
  | zero => rfl
  | succ t ih =>
    show joinPass ys xs (joinAll ys xs n t) n n = joinPass xs ys (joinAll xs ys n t) n n
    rw [ih, hpass]

theorem path_facts {xs ys : List Int} (ha : alike xs ys = true) : ∃ (p w x y : Int) (d : Nat), viewPath xs ys = (p, true) ∧ viewPath ys xs = (p, true) ∧ finerRank (kOut (joinAll xs ys xs.length xs.length)) = (w, true) ∧ finerRank xs = (x, true) ∧ finerRank ys = (y, true) ∧ viewQuarrel xs ys = ((d : Int), true) ∧
    p = 2 * w - x - y ∧ p ≤ d ∧ d ≤ 64 ∧ (0 ≤ w ∧ w ≤ 8) ∧ (0 ≤ x ∧ x ≤ 8) ∧ (0 ≤ y ∧ y ≤ 8) := by
  obtain ⟨hx, hy, hl⟩ := alike_iff.1 ha
  have hj := (finer_parts (join_finer ha).1).2.1
  have hjl : (kOut (joinAll xs ys xs.length xs.length)).length = xs.length := by rw [kOut_length, joinAll_len]
  have hl8 := partIn_len hx
  have q1 := pSize_bd (partIn_small hj)
  have q2 := pSize_bd (partIn_small hx)
  have q3 := pSize_bd (partIn_small hy)
  have p1 := pSize_le' hj
  have p2 := pSize_le' hx
  have p3 := pSize_le' hy
  have hq := path_quar (a := xs) (b := ys) (J := joinAll xs ys xs.length xs.length) hl.symm (joinAll_len _ _ _ _) (fun r hr hg i j hi hj e => join_coarse (fun i k hi hk ht => hg i k hi hk (tog_iff.1 ht)) hi hj e)
  refine ⟨_, _, _, _, quar xs ys, viewPath_yes ha, ?_, finerRank_yes hj, finerRank_yes hx, finerRank_yes hy, viewQuarrel_yes ha, ?_, ?_, ?_, ?_, ?_, ?_⟩
  · rw [viewPath_yes (alike_symm ha), ← hl, joinAll_comm]
    congr 1
    omega
  · rw [hjl]; omega
  · have e := pSize_kOut (joinAll xs ys xs.length xs.length)
    have e1 := kNext_part hx
    have e2 := kNext_part hy
    omega
  · have h1 := quarTo_le xs ys xs.length
    have h2 := Nat.mul_le_mul hl8.2 hl8.2
    exact Nat.le_trans h1 h2
  all_goals omega

end Go.Proofs.Ytbmpchpcihnbdaa
