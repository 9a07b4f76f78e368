/-
  The model's contracts: spec.l4Place, l4At, ListPlace, ListAt, ListNext, ListBefore, ListOpen.
-/
import Derived.Test.YtieldehghmikkaaLists
import Derived.Test.YtieldehghmikkaaFinCount
namespace Go.Proofs.Ytieldehghmikkaa
set_option linter.unusedSimpArgs false
set_option linter.unusedVariables false
set_option linter.unnecessarySimpa false
open Go.RowKit

theorem at_stop {q o s : Int} (m : Nat) (ho : 1 ≤ o) (hm : (m : Int) ≤ s) (h0 : 0 ≤ q - m * o) (h1 : (m : Int) < s → q - m * o < o) : min (q / o) s = m := by
  by_cases h : (m : Int) < s
  · have hlt := h1 h
    have e : q = (q - m * o) + m * o := by omega
    have hd : q / o = m := by
      rw [e, Int.add_mul_ediv_right _ _ (by omega), Int.ediv_eq_zero_of_lt h0 hlt]
      omega
    rw [hd]
    omega
  · have he : (m : Int) = s := by omega
    have : s ≤ q / o := Int.le_ediv_of_mul_le (by omega) (by rw [← he]; omega)
    omega

set_option maxHeartbeats 1600000 in
theorem l4At_any (n : Nat) (P : Int) (w : World) (h8 : n ≤ 8) (hP0 : 0 ≤ P) (hP1 : P < opn n 0) :
    Calls Try.prog 87 #[.int .i64 n, .int .i64 P] w (FreshL w (atL n P)) := by
  have HST := Lib.hid (atStage_start n P hP0 hP1)
  have HO0 := Lib.hid (own_empty w w.heap.size (Nat.le_refl _))
  clear hP0 hP1
  go_enter Try.func87, Try.ntmps87
  go_wp2
  go_loopw [1, 5, 6] (fun u o v wr => ∃ (i g cap : Nat) (q : Int) (pre : List Int), v = .int .i64 i ∧ u = .int .i64 q ∧ o = .slice (some ⟨g, 0, none⟩) i cap ∧ AtStage n P i pre q ∧ Own wr w.heap.size (.slice (some ⟨g, 0, none⟩) i cap) pre ∧ Below w.heap.size w wr)
    (fun _ _ v _ => n - (intOf v).toNat)
  case atStart => exact ⟨0, w.heap.size, 0, P, [], rfl, rfl, rfl, HST.out, HO0.out, (Below.refl _ _).alloc (Nat.le_refl _) _⟩
  case round =>
    obtain ⟨i, g, cap, q, pre, rfl, rfl, rfl, hst, hown, hb⟩ := hrel
    have hile := hst.le
    have HO := Lib.hid hown
    have HB := Lib.hid hb
    by_cases hlt : i < n
    · have hsm : Small pre := by
        have := pre_small (n := n) hst.ok (by rw [hst.len]; omega) 0
        simpa using this
      have hsl := size_le_len pre 0 (by omega) hst.ok
      rw [hst.len] at hsl
      have hs0 := sizeFrom_nonneg pre 0
      have hq0 := hst.q0
      have hq1 := hst.q1
      have hn1 : n - i = (n - (i + 1)) + 1 := by omega
      have hq4 := (opn_bd (n - i) (sizeFrom 0 pre) hs0 (by omega)).2
      have hstep := atStage_step hst hlt
      have hl4 := fun (k : Int) (w1 : World) (h1 : sizeFrom 0 pre ≤ k) (h2 : k ≤ sizeFrom 0 pre + 1) => l4Open_any (n - (i + 1)) ((n : Int) - 1 - (i : Int)) k w1 (by omega) (by omega) (by omega)
      have HSZ : Hid (Calls Try.prog 68 #[.slice (some ⟨g, 0, none⟩) i cap] wr fun e w' => e = .returned (.int .i64 (sizeFrom 0 pre)) ∧ wr = w') := by
        have hr := own_rdv hown
        obtain ⟨ao, ca, e1, h1, h2, h3⟩ := hr
        unfold maxLen at h3
        have := l1Size_any ao ca pre wr h1 (by omega) hsm
        rw [← e1] at this
        exact this
      have hob := opn_bd (n - (i + 1)) (sizeFrom 0 pre) hs0 (by omega)
      have hq5 : q < sizeFrom 0 pre * opn (n - (i + 1)) (sizeFrom 0 pre) + opn (n - (i + 1)) (sizeFrom 0 pre + 1) := by
        rw [hn1] at hq1
        exact hq1
      have hlen := hst.len
      have hbs := hb.size
      obtain ⟨s, hsd⟩ : ∃ s, s = sizeFrom 0 pre := ⟨_, rfl⟩
      rw [← hsd] at hsl hs0 hq1 hq4 hstep hl4 HSZ hob hq5
      obtain ⟨o, ho⟩ : ∃ o, o = opn (n - (i + 1)) s := ⟨_, rfl⟩
      rw [← ho] at hstep hob hq5
      obtain ⟨ho1, ho2⟩ := hob
      have hq6 : q ≤ 4140 := by omega
      have HL4 := Lib.hid hl4
      have HSTEP := Lib.hid hstep
      have HOE := Lib.hid ho
      have HLEN := Lib.hid hlen
      have HQ5 := Lib.hid hq5
      have HN1 := Lib.hid hn1
      clear hl4 hstep ho hlen hq5 hq1 hq4 hsd hsm hst hown hb hn1
      go_wp2_with (go_at_call 68; refine HSZ.out.mono ?_; rintro e w' ⟨rfl, rfl⟩)
      go_loop [1, 8] (fun u v => ∃ m : Nat, (m : Int) ≤ s ∧ v = .int .i64 m ∧ u = .int .i64 (q - m * o) ∧ 0 ≤ q - m * o) (fun _ v => (s - intOf v).toNat)
      case atStart => exact ⟨0, by omega, rfl, by congr 1; simp, by simp; omega⟩
      case round =>
        obtain ⟨m, hm, rfl, rfl, hr0⟩ := hrel
        have hmo0 : 0 ≤ (m : Int) * o := Int.mul_nonneg (by omega) (by omega)
        have hcall := HL4.out (max s ((m : Int) + 1)) wr (by omega) (by omega)
        have hzb := opn_bd (n - (i + 1)) (max s ((m : Int) + 1)) (by omega) (by omega)
        obtain ⟨z, hz⟩ : ∃ z, z = opn (n - (i + 1)) (max s ((m : Int) + 1)) := ⟨_, rfl⟩
        rw [← hz] at hcall hzb
        obtain ⟨hz1, hz2⟩ := hzb
        have HCALL := Lib.hid hcall
        obtain ⟨r, hr⟩ : ∃ r, r = q - (m : Int) * o := ⟨_, rfl⟩
        have hr4 : r ≤ 4140 := by omega
        rw [← hr] at hr0
        have hzo : (m : Int) < s → z = o := fun h => by rw [hz, HOE.out, show max s ((m : Int) + 1) = s by omega]
        by_cases hstop : r < z
        · have hmin : (m : Int) = min (q / o) s := (at_stop m ho1 hm (by omega) (fun h => by rw [← hr, ← hzo h]; exact hstop)).symm
          obtain ⟨hs2, _, _⟩ := HSTEP.out (m : Int) hmin
          rw [← hr] at hs2 ⊢
          have HS2 := Lib.hid hs2
          clear hs2 hmin hr hz hzo hcall hmo0
          go_wp2_with (first | (go_at_call 95; refine HCALL.out.mono ?_; rintro e w' ⟨rfl, rfl⟩) | (at_builtin; refine wpList_push rfl _ _ rfl w.heap.size g i cap pre rfl (own_alloc HO.out _) HLEN.out.symm ⟨wr.heap.size, 0, none⟩ rfl (m : Int) (cell_new1 _ _ _) (by omega) (by simp; omega) ?_))
          intro g' cap' w3 hown3 hgr3 hg3
          have hbel3 : Below w.heap.size w w3 := (HB.out.alloc hbs _).grown hgr3 (by simp; omega) (fun q hq => by cases hq; exact (own_lt HO.out g rfl).1)
          have HO3 := Lib.hid hown3
          clear hown3 hgr3 hg3
          go_wp2
          go_roundw
          case rel => exact ⟨i + 1, g', cap', r, pre ++ [(m : Int)], by go_num, rfl, rfl, HS2.out, HO3.out, hbel3⟩
          case measure => simp [intOf]; omega
        · have hms : (m : Int) < s := by
            rcases Int.lt_or_le (m : Int) s with h | h
            · exact h
            · have he : (m : Int) = s := by omega
              have hzz : z = opn (n - (i + 1)) (s + 1) := by rw [hz, he, max_new]
              have := HQ5.out
              rw [← hzz, ← he] at this
              omega
          have hze := hzo hms
          have HEQ : Hid (q - ((m + 1 : Nat) : Int) * o = r - z) := by
            show q - ((m + 1 : Nat) : Int) * o = r - z
            rw [hze, hr, show ((m + 1 : Nat) : Int) = (m : Int) + 1 by omega, Int.add_mul, Int.one_mul]
            omega
          rw [← hr]
          have hrz : 0 ≤ r - z := by omega
          clear hr hz hzo hcall hmo0 hze
          go_wp2_with (first | (go_at_call 95; refine HCALL.out.mono ?_; rintro e w' ⟨rfl, rfl⟩))
          go_round
          case rel => exact ⟨m + 1, by omega, by go_num, by rw [HEQ.out], by rw [HEQ.out]; exact hrz⟩
          case measure => simp [intOf]; omega
    · obtain rfl : i = n := by omega
      have hend := atStage_end hst
      have HEND := Lib.hid hend
      have HLEN := Lib.hid hst.len
      clear hend hst hown hb
      go_wp2
      go_ret
      exact ⟨_, rfl, by rw [HEND.out]; exact HO.out, HB.out⟩

end Go.Proofs.Ytieldehghmikkaa
