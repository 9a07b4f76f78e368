/-
  What the laws of this claim lean on: what functions of the program and of the model answer, one after another, and plain mathematics. No condition.
-/
import Derived.Test.YtmflecemkodklaaGreatDoorMgA
import Derived.Test.YtmflecemkodklaaGreatDoorMgB
import Derived.Test.YtmflecemkodklaaGreatDoorMgC
import Derived.Test.YtmflecemkodklaaGreatDoorMgD
import Derived.Test.YtmflecemkodklaaGreatDoorMgE
import Derived.Laws.EntriesVeiled
import Derived.Deep.RegionHeld3
import Derived.BigRegion
import Derived.StillTailTactics

set_option linter.unusedVariables false
set_option linter.unusedSimpArgs false
set_option linter.unnecessarySimpa false
set_option maxRecDepth 100000

namespace Go.Proofs.YtmflecemkodklaaGreatDoor

section
open Go.RowKit

set_option maxHeartbeats 1600000 in
theorem l4Place_w (v : Value) (xs : List Int) (w : World) (hv : RdV w v xs) (hp : partIn xs = true) :
    Calls Tryz.prog 38 #[v] w fun e w' => e = .returned (.int .i64 (plc xs)) ∧ w = w' := by
  have hs := partIn_small hp
  have hlen := partIn_len hp
  have hok := partIn_ok hp
  have hpb := plc_bd hok
  have hob := opn_bd xs.length 0 (by omega) (by omega)
  have hpl : plc xs ≤ 4140 := by omega
  obtain ⟨ao, cap, rfl, hrd, hcl, hcm⟩ := hv
  unfold maxLen at hcm
  rcases hrd with hx | ⟨b, off, rfl, hc⟩
  · rw [hx] at hlen
    simp at hlen
  have HSZ : Hid (∀ i, i ≤ xs.length → Calls Tryz.prog 62 #[.slice (some ⟨b, off, none⟩) i cap] w fun e w' => e = .returned (.int .i64 (sizeFrom 0 (xs.take i))) ∧ w = w') := fun i hi => by
    have hl : (xs.take i).length = i := by simp; omega
    have := l1Size_any (some ⟨b, off, none⟩) cap (xs.take i) w (.inr ⟨b, off, rfl, fun j hj => by
      rw [hl] at hj
      rw [hc j (by omega)]
      simp [List.getD, List.getElem?_take, hj]⟩) (by omega) (small_take hs i)
    rw [hl] at this
    exact this
  have HC := Lib.hid hc
  have HOK := Lib.hid hok
  have HS := Lib.hid hs
  obtain ⟨P, hP⟩ : ∃ P, P = plc xs := ⟨_, rfl⟩
  rw [← hP] at hpl ⊢
  have HPE := Lib.hid hP
  obtain ⟨n, hn⟩ : ∃ n, n = xs.length := ⟨_, rfl⟩
  rw [← hn] at HSZ hlen hcl ⊢
  obtain ⟨hn1, hn8⟩ := hlen
  have HN := Lib.hid hn
  clear hp hs hok hpb hob hc hP hn
  go_enter Tryz.func38, Tryz.ntmps38
  go_wp2
  go_loop [3, 4] (fun u v => ∃ (k : Nat) (p : Int), k ≤ n ∧ v = .int .i64 k ∧ u = .int .i64 p ∧ 0 ≤ p ∧ P = p + plcFrom (sizeFrom 0 (xs.take k)) (xs.drop k))
    (fun _ v => n - (intOf v).toNat)
  case atStart => exact ⟨0, 0, Nat.zero_le _, rfl, rfl, by omega, by rw [HPE.out]; simp [plc, sizeFrom]⟩
  case round =>
    obtain ⟨k, p, hk, rfl, rfl, hp0, hpe⟩ := hrel
    by_cases hlt : k < n
    · have hkl : k < xs.length := HN.out ▸ hlt
      have hat := okFrom_at HOK.out k hkl
      have hx7 := HS.out k hkl
      have hst := size_le_len (xs.take k) 0 (by omega) (okFrom_take HOK.out k)
      rw [List.length_take] at hst
      have hpd := plc_drop k hkl (sizeFrom 0 (xs.take k))
      rw [← size_succ k hkl] at hpd
      have hrest := plcFrom_bd (xs.drop (k + 1)) (sizeFrom 0 (xs.take (k + 1))) (sizeFrom_nonneg _ _) (okFrom_drop HOK.out (k + 1))
      rw [hpd] at hpe
      have hcx := HC.out k hkl
      have HSK := Lib.hid (HSZ.out k (Nat.le_of_lt hlt))
      obtain ⟨x, hx⟩ : ∃ x, x = xs.getD k 0 := ⟨_, rfl⟩
      obtain ⟨s, hsd⟩ : ∃ s, s = sizeFrom 0 (xs.take k) := ⟨_, rfl⟩
      rw [← hx] at hcx hat hx7 hpe
      rw [← hsd] at hat HSK hpe hst
      rw [← HN.out] at hpe hst
      obtain ⟨hx0, hx7⟩ := hx7
      obtain ⟨_, hxs⟩ := hat
      have hs0 : 0 ≤ s := by omega
      have hsk : s ≤ k := by omega
      have HE := Lib.hid (l4Open_any (n - (k + 1)) ((n : Int) - 1 - (k : Int)) s w (by omega) hs0 (by omega))
      have hmb := opn_bd (n - (k + 1)) s hs0 (by omega)
      obtain ⟨o, ho⟩ : ∃ o, o = opn (n - (k + 1)) s := ⟨_, rfl⟩
      rw [← ho] at HE hmb hpe
      obtain ⟨hmb0, hmb1⟩ := hmb
      have hpx : p + x * o ≤ 4140 := by omega
      have HPEK := Lib.hid hpe
      clear hpd hrest hpe hx hsd ho hkl hst
      go_wp2_with (go_at_call 62; refine HSK.out.mono ?_; rintro e w' ⟨rfl, rfl⟩)
      go_loop [3, 6] (fun u v => ∃ m : Nat, (m : Int) ≤ x ∧ v = .int .i64 m ∧ u = .int .i64 (p + m * o)) (fun _ v => (x - intOf v).toNat)
      case atStart => exact ⟨0, by omega, rfl, by congr 1; simp⟩
      case round =>
        obtain ⟨m, hm, rfl, rfl⟩ := hrel
        have hmo0 : 0 ≤ (m : Int) * o := Int.mul_nonneg (by omega) (by omega)
        by_cases hmx : (m : Int) < x
        · have hmo : ((m : Int) + 1) * o ≤ x * o := Int.mul_le_mul_of_nonneg_right (by omega) (by omega)
          rw [Int.add_mul, Int.one_mul] at hmo
          have hmax : max s ((m : Int) + 1) = s := by omega
          have HMX := Lib.hid hmax
          clear hmax
          have HEQ : Hid (p + ((m + 1 : Nat) : Int) * o = p + (m : Int) * o + o) := by
            show p + ((m + 1 : Nat) : Int) * o = p + (m : Int) * o + o
            rw [show ((m + 1 : Nat) : Int) = (m : Int) + 1 by omega, Int.add_mul, Int.one_mul]
            omega
          go_wp2_with (go_at_call 63; rw [HMX.out]; refine HE.out.mono ?_; rintro e w' ⟨rfl, rfl⟩)
          go_round
          case rel => exact ⟨m + 1, by omega, by go_num, by rw [HEQ.out]⟩
          case measure => simp [intOf]; omega
        · have hmx2 : (m : Int) = x := by omega
          have HEQ : Hid (p + (m : Int) * o = p + x * o) := by
            show p + (m : Int) * o = p + x * o
            rw [hmx2]
          have hx9 : ¬ (m : Int) < x := hmx
          clear hmx2
          go_wp2
          go_round
          case rel => exact ⟨k + 1, p + x * o, by omega, by go_num, by rw [HEQ.out], by rw [← HEQ.out]; omega, by rw [HPEK.out]; omega⟩
          case measure => simp [intOf]; omega
    · obtain rfl : k = n := by omega
      rw [List.drop_of_length_le (by rw [← HN.out]; exact Nat.le_refl _), plcFrom, Int.add_zero] at hpe
      have HPEK := Lib.hid hpe
      clear hpe
      go_wp2
      go_ret
      exact ⟨ret_int HPEK.out.symm, rfl⟩

theorem at_stop {q o s : Int} (m : Nat) (ho : 1 ≤ o) (hm : (m : Int) ≤ s) (h0 : 0 ≤ q - m * o) (h1 : (m : Int) < s → q - m * o < o) : min (q / o) s = m := by
  by_cases h : (m : Int) < s
  · have hlt := h1 h
    have e : q = (q - m * o) + m * o := by omega
    have hd : q / o = m := by
      rw [e, Int.add_mul_ediv_right _ _ (by omega), Int.ediv_eq_zero_of_lt h0 hlt]
      omega
    rw [hd]
    omega
  · have he : (m : Int) = s := by omega
    have : s ≤ q / o := Int.le_ediv_of_mul_le (by omega) (by rw [← he]; omega)
    omega

set_option maxHeartbeats 1600000 in
theorem l4At_any (n : Nat) (P : Int) (w : World) (h8 : n ≤ 8) (hP0 : 0 ≤ P) (hP1 : P < opn n 0) :
    Calls Tryz.prog 158 #[.int .i64 n, .int .i64 P] w (FreshL w (atL n P)) := by
  have HST := Lib.hid (atStage_start n P hP0 hP1)
  have HO0 := Lib.hid (own_empty w w.heap.size (Nat.le_refl _))
  clear hP0 hP1
  go_enter Tryz.func158, Tryz.ntmps158
  go_wp2
  go_loopw [1, 5, 6] (fun u o v wr => ∃ (i g cap : Nat) (q : Int) (pre : List Int), v = .int .i64 i ∧ u = .int .i64 q ∧ o = .slice (some ⟨g, 0, none⟩) i cap ∧ AtStage n P i pre q ∧ Own wr w.heap.size (.slice (some ⟨g, 0, none⟩) i cap) pre ∧ Below w.heap.size w wr)
    (fun _ _ v _ => n - (intOf v).toNat)
  case atStart => exact ⟨0, w.heap.size, 0, P, [], rfl, rfl, rfl, HST.out, HO0.out, (Below.refl _ _).alloc (Nat.le_refl _) _⟩
  case round =>
    obtain ⟨i, g, cap, q, pre, rfl, rfl, rfl, hst, hown, hb⟩ := hrel
    have hile := hst.le
    have HO := Lib.hid hown
    have HB := Lib.hid hb
    by_cases hlt : i < n
    · have hsm : Small pre := by
        have := pre_small (n := n) hst.ok (by rw [hst.len]; omega) 0
        simpa using this
      have hsl := size_le_len pre 0 (by omega) hst.ok
      rw [hst.len] at hsl
      have hs0 := sizeFrom_nonneg pre 0
      have hq0 := hst.q0
      have hq1 := hst.q1
      have hn1 : n - i = (n - (i + 1)) + 1 := by omega
      have hq4 := (opn_bd (n - i) (sizeFrom 0 pre) hs0 (by omega)).2
      have hstep := atStage_step hst hlt
      have hl4 := fun (k : Int) (w1 : World) (h1 : sizeFrom 0 pre ≤ k) (h2 : k ≤ sizeFrom 0 pre + 1) => l4Open_any (n - (i + 1)) ((n : Int) - 1 - (i : Int)) k w1 (by omega) (by omega) (by omega)
      have HSZ : Hid (Calls Tryz.prog 62 #[.slice (some ⟨g, 0, none⟩) i cap] wr fun e w' => e = .returned (.int .i64 (sizeFrom 0 pre)) ∧ wr = w') := by
        have hr := own_rdv hown
        obtain ⟨ao, ca, e1, h1, h2, h3⟩ := hr
        unfold maxLen at h3
        have := l1Size_any ao ca pre wr h1 (by omega) hsm
        rw [← e1] at this
        exact this
      have hob := opn_bd (n - (i + 1)) (sizeFrom 0 pre) hs0 (by omega)
      have hq5 : q < sizeFrom 0 pre * opn (n - (i + 1)) (sizeFrom 0 pre) + opn (n - (i + 1)) (sizeFrom 0 pre + 1) := by
        rw [hn1] at hq1
        exact hq1
      have hlen := hst.len
      have hbs := hb.size
      obtain ⟨s, hsd⟩ : ∃ s, s = sizeFrom 0 pre := ⟨_, rfl⟩
      rw [← hsd] at hsl hs0 hq1 hq4 hstep hl4 HSZ hob hq5
      obtain ⟨o, ho⟩ : ∃ o, o = opn (n - (i + 1)) s := ⟨_, rfl⟩
      rw [← ho] at hstep hob hq5
      obtain ⟨ho1, ho2⟩ := hob
      have hq6 : q ≤ 4140 := by omega
      have HL4 := Lib.hid hl4
      have HSTEP := Lib.hid hstep
      have HOE := Lib.hid ho
      have HLEN := Lib.hid hlen
      have HQ5 := Lib.hid hq5
      have HN1 := Lib.hid hn1
      clear hl4 hstep ho hlen hq5 hq1 hq4 hsd hsm hst hown hb hn1
      go_wp2_with (go_at_call 62; refine HSZ.out.mono ?_; rintro e w' ⟨rfl, rfl⟩)
      go_loop [1, 8] (fun u v => ∃ m : Nat, (m : Int) ≤ s ∧ v = .int .i64 m ∧ u = .int .i64 (q - m * o) ∧ 0 ≤ q - m * o) (fun _ v => (s - intOf v).toNat)
      case atStart => exact ⟨0, by omega, rfl, by congr 1; simp, by simp; omega⟩
      case round =>
        obtain ⟨m, hm, rfl, rfl, hr0⟩ := hrel
        have hmo0 : 0 ≤ (m : Int) * o := Int.mul_nonneg (by omega) (by omega)
        have hcall := HL4.out (max s ((m : Int) + 1)) wr (by omega) (by omega)
        have hzb := opn_bd (n - (i + 1)) (max s ((m : Int) + 1)) (by omega) (by omega)
        obtain ⟨z, hz⟩ : ∃ z, z = opn (n - (i + 1)) (max s ((m : Int) + 1)) := ⟨_, rfl⟩
        rw [← hz] at hcall hzb
        obtain ⟨hz1, hz2⟩ := hzb
        have HCALL := Lib.hid hcall
        obtain ⟨r, hr⟩ : ∃ r, r = q - (m : Int) * o := ⟨_, rfl⟩
        have hr4 : r ≤ 4140 := by omega
        rw [← hr] at hr0
        have hzo : (m : Int) < s → z = o := fun h => by rw [hz, HOE.out, show max s ((m : Int) + 1) = s by omega]
        by_cases hstop : r < z
        · have hmin : (m : Int) = min (q / o) s := (at_stop m ho1 hm (by omega) (fun h => by rw [← hr, ← hzo h]; exact hstop)).symm
          obtain ⟨hs2, _, _⟩ := HSTEP.out (m : Int) hmin
          rw [← hr] at hs2 ⊢
          have HS2 := Lib.hid hs2
          clear hs2 hmin hr hz hzo hcall hmo0
          go_wp2_with (first | (go_at_call 63; refine HCALL.out.mono ?_; rintro e w' ⟨rfl, rfl⟩) | (at_builtin; refine wpList_push rfl _ _ rfl w.heap.size g i cap pre rfl (own_alloc HO.out _) HLEN.out.symm ⟨wr.heap.size, 0, none⟩ rfl (m : Int) (cell_new1 _ _ _) (by omega) (by simp; omega) ?_))
          intro g' cap' w3 hown3 hgr3 hg3
          have hbel3 : Below w.heap.size w w3 := (HB.out.alloc hbs _).grown hgr3 (by simp; omega) (fun q hq => by cases hq; exact (own_lt HO.out g rfl).1)
          have HO3 := Lib.hid hown3
          clear hown3 hgr3 hg3
          go_wp2
          go_roundw
          case rel => exact ⟨i + 1, g', cap', r, pre ++ [(m : Int)], by go_num, rfl, rfl, HS2.out, HO3.out, hbel3⟩
          case measure => simp [intOf]; omega
        · have hms : (m : Int) < s := by
            rcases Int.lt_or_le (m : Int) s with h | h
            · exact h
            · have he : (m : Int) = s := by omega
              have hzz : z = opn (n - (i + 1)) (s + 1) := by rw [hz, he, max_new]
              have := HQ5.out
              rw [← hzz, ← he] at this
              omega
          have hze := hzo hms
          have HEQ : Hid (q - ((m + 1 : Nat) : Int) * o = r - z) := by
            show q - ((m + 1 : Nat) : Int) * o = r - z
            rw [hze, hr, show ((m + 1 : Nat) : Int) = (m : Int) + 1 by omega, Int.add_mul, Int.one_mul]
            omega
          rw [← hr]
          have hrz : 0 ≤ r - z := by omega
          clear hr hz hzo hcall hmo0 hze
          go_wp2_with (first | (go_at_call 63; refine HCALL.out.mono ?_; rintro e w' ⟨rfl, rfl⟩))
          go_round
          case rel => exact ⟨m + 1, by omega, by go_num, by rw [HEQ.out], by rw [HEQ.out]; exact hrz⟩
          case measure => simp [intOf]; omega
    · obtain rfl : i = n := by omega
      have hend := atStage_end hst
      have HEND := Lib.hid hend
      have HLEN := Lib.hid hst.len
      clear hend hst hown hb
      go_wp2
      go_ret
      exact ⟨_, rfl, by rw [HEND.out]; exact HO.out, HB.out⟩
end

section
open Go.RowKit

theorem bell_opnN : ∀ n, n < 9 → bellN n = (opnN n 0 : Int) := by decide +kernel
theorem bell_opn (n : Nat) (h : n ≤ 8) : bellN n = opn n 0 := by
  have := opn_nat n 0
  rw [bell_opnN n (by omega), ← this]
  rfl

theorem l6In_is (b : Bool) (n lo hi : Int) (w : World) (h : decide (lo ≤ n ∧ n ≤ hi) = b) : Calls Tryz.prog 61 #[.int .i64 n, .int .i64 lo, .int .i64 hi] w fun e w' => e = .returned (.bool b) ∧ w = w' := by
  subst h
  exact l6In_any n lo hi w

theorem sListPlace_v (v : Value) (xs : List Int) (w : World) (hv : RdV w v xs) : Calls Tryz.prog 16 #[v] w (GivesIB w (listPlace xs)) := by
  have HV := Lib.hid hv
  clear hv
  by_cases hp : partIn xs = true
  · have hr : listPlace xs = (plc xs, true) := by simp [listPlace, hp]
    rw [hr]
    have HPL := Lib.hid (l4Place_w v xs w HV.out hp)
    have HP := Lib.hid hp
    clear hp hr
    go_enter Tryz.func16, Tryz.ntmps16
    go_wp2_with fail
    refine (sPartIn_is true _ _ _ HV.out HP).mono ?_
    rintro e w' ⟨rfl, rfl⟩
    go_wp2_with fail
    refine HPL.out.mono ?_
    rintro e w' ⟨rfl, rfl⟩
    go_wp2
    go_ret2
    exact ⟨rfl, Below.refl _ _⟩
  · have hp : partIn xs = false := by simpa using hp
    have hr : listPlace xs = (0, false) := by simp [listPlace, hp]
    rw [hr]
    have HP := Lib.hid hp
    clear hp hr
    go_enter Tryz.func16, Tryz.ntmps16
    go_wp2_with fail
    refine (sPartIn_is false _ _ _ HV.out HP).mono ?_
    rintro e w' ⟨rfl, rfl⟩
    go_wp2
    go_ret2
    exact ⟨rfl, Below.refl _ _⟩

set_option maxHeartbeats 800000 in
theorem sListAt_w (n p : Int) (w : World) : Calls Tryz.prog 79 #[.int .i64 n, .int .i64 p] w (FreshLB w (listAt n p)) := by
  have HO0 := Lib.hid fun (w1 : World) => own_empty w1 w1.heap.size (Nat.le_refl _)
  by_cases h1 : 1 ≤ n ∧ n ≤ 8
  · have HC := Lib.hid fun (w1 : World) => l6In_is true n 1 8 w1 (by simpa using h1)
    obtain ⟨c, rfl⟩ : ∃ c : Nat, n = c := ⟨n.toNat, by omega⟩
    have hc8 : c ≤ 8 := by omega
    have hob := opn_bd c 0 (by omega) (by omega)
    have hbl := fun (w1 : World) => l2Bell_v (c : Int) w1 (by omega) (by omega)
    rw [Int.toNat_natCast, bell_opn c hc8] at hbl
    have HB := Lib.hid hbl
    by_cases h2 : 0 ≤ p ∧ p < opn c 0
    · have hr : listAt c p = (atL c p, true) := by
        unfold listAt
        rw [if_pos ⟨h1, h2.1, by simpa using h2.2⟩]
        simp
      rw [hr]
      have HL := Lib.hid fun (w1 : World) => l4At_any c p w1 hc8 h2.1 h2.2
      have hc2 := fun (w1 : World) => l6In_is true p 0 (opn c 0 - 1) w1 (by simp; omega)
      obtain ⟨o, ho⟩ : ∃ o, o = opn c 0 := ⟨_, rfl⟩
      rw [← ho] at HB hob hc2
      have HC2 := Lib.hid hc2
      obtain ⟨hob1, hob2⟩ := hob
      clear hr ho h1 hbl hc2 h2
      go_enter Tryz.func79, Tryz.ntmps79
      go_wp2_with fail
      refine (HC.out _).mono ?_
      rintro e w' ⟨rfl, rfl⟩
      go_wp2_with fail
      refine (HB.out _).mono ?_
      rintro e w1 ⟨rfl, hb1⟩
      go_wp2_with fail
      refine (HC2.out _).mono ?_
      rintro e w' ⟨rfl, rfl⟩
      go_wp2_with fail
      refine (HL.out _).mono ?_
      rintro e w2 ⟨v, rfl, ho, hb2⟩
      go_wp2
      go_ret2
      exact ⟨_, rfl, own_mono ho hb1.size, below_step hb1 hb2⟩
    · have hr : listAt c p = ([], false) := by
        unfold listAt
        rw [if_neg (fun h => h2 (by simpa using h.2))]
      rw [hr]
      have hc2 := fun (w1 : World) => l6In_is false p 0 (opn c 0 - 1) w1 (by simp; omega)
      obtain ⟨o, ho⟩ : ∃ o, o = opn c 0 := ⟨_, rfl⟩
      rw [← ho] at HB hob hc2
      have HC2 := Lib.hid hc2
      obtain ⟨hob1, hob2⟩ := hob
      clear hr ho h1 hbl hc2 h2
      go_enter Tryz.func79, Tryz.ntmps79
      go_wp2_with fail
      refine (HC.out _).mono ?_
      rintro e w' ⟨rfl, rfl⟩
      go_wp2_with fail
      refine (HB.out _).mono ?_
      rintro e w1 ⟨rfl, hb1⟩
      go_wp2_with fail
      refine (HC2.out _).mono ?_
      rintro e w' ⟨rfl, rfl⟩
      go_wp2
      go_ret2
      exact ⟨_, rfl, own_mono (HO0.out w1) hb1.size, hb1.alloc hb1.size _⟩
  · have HC := Lib.hid (l6In_is false n 1 8 w (by simpa using h1))
    have hr : listAt n p = ([], false) := by
      unfold listAt
      rw [if_neg (fun h => h1 h.1)]
    rw [hr]
    clear hr h1
    go_enter Tryz.func79, Tryz.ntmps79
    go_wp2_with fail
    refine HC.out.mono ?_
    rintro e w' ⟨rfl, rfl⟩
    go_wp2
    go_ret2
    exact ⟨_, rfl, HO0.out w, (Below.refl _ _).alloc (Nat.le_refl _) _⟩

theorem sListAt_v (n p : Int) (w : World) (_ : (Lit.int .i64 n).wf = true) (_ : (Lit.int .i64 p).wf = true) : Calls Tryz.prog 79 #[.int .i64 n, .int .i64 p] w (FreshLB w (listAt n p)) := sListAt_w n p w

theorem next_is_at {xs : List Int} (hp : partIn xs = true) : listNext xs = listAt xs.length (plc xs + 1) := by
  have hl := partIn_len hp
  have hb := plc_bd (partIn_ok hp)
  unfold listNext listAt
  by_cases h : plc xs + 1 < opn xs.length 0
  · rw [if_pos ⟨hp, h⟩, if_pos ⟨by omega, by omega, by simpa using h⟩]
    simp
  · rw [if_neg (fun k => h k.2), if_neg (fun k => h (by simpa using k.2.2))]

theorem before_is_at {xs : List Int} (hp : partIn xs = true) : listBefore xs = listAt xs.length (plc xs - 1) := by
  have hl := partIn_len hp
  have hb := plc_bd (partIn_ok hp)
  unfold listBefore listAt
  by_cases h : 0 < plc xs
  · rw [if_pos ⟨hp, h⟩, if_pos ⟨by omega, by omega, by simp; omega⟩]
    simp
  · rw [if_neg (fun k => h k.2), if_neg (fun k => h (by omega))]

set_option maxHeartbeats 800000 in
theorem sListNext_v (v : Value) (xs : List Int) (w : World) (hv : RdV w v xs) : Calls Tryz.prog 76 #[v] w (FreshLB w (listNext xs)) := by
  have HV := Lib.hid hv
  obtain ⟨ao, cap, rfl, hlen⟩ := rdv_len hv
  clear hv
  by_cases hp : partIn xs = true
  · have HP := Lib.hid hp
    have hpb := plc_bd (partIn_ok hp)
    have hob := opn_bd xs.length 0 (by omega) (by have := partIn_len hp; omega)
    have HPL := Lib.hid (l4Place_w _ xs w HV.out hp)
    rw [next_is_at hp]
    obtain ⟨q, hq⟩ : ∃ q, q = plc xs := ⟨_, rfl⟩
    rw [← hq] at HPL hpb ⊢
    obtain ⟨hq0, hq1⟩ := hpb
    have hq4 : q ≤ 4140 := by omega
    have HA := Lib.hid fun (w1 : World) => sListAt_w xs.length (q + 1) w1
    obtain ⟨⟨ys, b⟩, hr⟩ : ∃ r, r = listAt xs.length (q + 1) := ⟨_, rfl⟩
    rw [← hr] at HA ⊢
    obtain ⟨m, hm⟩ : ∃ m, m = xs.length := ⟨_, rfl⟩
    rw [← hm] at HA HPL HV hlen ⊢
    clear hp hq hr hq1 hob hm
    go_enter Tryz.func76, Tryz.ntmps76
    go_wp2_with fail
    refine (sPartIn_is true _ _ _ HV.out HP).mono ?_
    rintro e w' ⟨rfl, rfl⟩
    go_wp2_with fail
    refine HPL.out.mono ?_
    rintro e w' ⟨rfl, rfl⟩
    go_wp2_with fail
    refine (HA.out _).mono ?_
    rintro e w1 ⟨u, rfl, ho, hb1⟩
    go_wp2
    go_ret2
    exact ⟨_, rfl, ho, hb1⟩
  · have hp : partIn xs = false := by simpa using hp
    have hre : listNext xs = ([], false) := by simp [listNext, hp]
    rw [hre]
    have HP := Lib.hid hp
    have HO0 := Lib.hid (own_empty w w.heap.size (Nat.le_refl _))
    clear hp hre
    go_enter Tryz.func76, Tryz.ntmps76
    go_wp2_with fail
    refine (sPartIn_is false _ _ _ HV.out HP).mono ?_
    rintro e w' ⟨rfl, rfl⟩
    go_wp2
    go_ret2
    exact ⟨_, rfl, HO0.out, (Below.refl _ _).alloc (Nat.le_refl _) _⟩

set_option maxHeartbeats 800000 in
theorem sListBefore_v (v : Value) (xs : List Int) (w : World) (hv : RdV w v xs) : Calls Tryz.prog 77 #[v] w (FreshLB w (listBefore xs)) := by
  have HV := Lib.hid hv
  obtain ⟨ao, cap, rfl, hlen⟩ := rdv_len hv
  clear hv
  by_cases hp : partIn xs = true
  · have HP := Lib.hid hp
    have hpb := plc_bd (partIn_ok hp)
    have hob := opn_bd xs.length 0 (by omega) (by have := partIn_len hp; omega)
    have HPL := Lib.hid (l4Place_w _ xs w HV.out hp)
    rw [before_is_at hp]
    obtain ⟨q, hq⟩ : ∃ q, q = plc xs := ⟨_, rfl⟩
    rw [← hq] at HPL hpb ⊢
    obtain ⟨hq0, hq1⟩ := hpb
    have hq4 : q ≤ 4140 := by omega
    have HA := Lib.hid fun (w1 : World) => sListAt_w xs.length (q - 1) w1
    obtain ⟨⟨ys, b⟩, hr⟩ : ∃ r, r = listAt xs.length (q - 1) := ⟨_, rfl⟩
    rw [← hr] at HA ⊢
    obtain ⟨m, hm⟩ : ∃ m, m = xs.length := ⟨_, rfl⟩
    rw [← hm] at HA HPL HV hlen ⊢
    clear hp hq hr hq1 hob hm
    go_enter Tryz.func77, Tryz.ntmps77
    go_wp2_with fail
    refine (sPartIn_is true _ _ _ HV.out HP).mono ?_
    rintro e w' ⟨rfl, rfl⟩
    go_wp2_with fail
    refine HPL.out.mono ?_
    rintro e w' ⟨rfl, rfl⟩
    go_wp2_with fail
    refine (HA.out _).mono ?_
    rintro e w1 ⟨u, rfl, ho, hb1⟩
    go_wp2
    go_ret2
    exact ⟨_, rfl, ho, hb1⟩
  · have hp : partIn xs = false := by simpa using hp
    have hre : listBefore xs = ([], false) := by simp [listBefore, hp]
    rw [hre]
    have HP := Lib.hid hp
    have HO0 := Lib.hid (own_empty w w.heap.size (Nat.le_refl _))
    clear hp hre
    go_enter Tryz.func77, Tryz.ntmps77
    go_wp2_with fail
    refine (sPartIn_is false _ _ _ HV.out HP).mono ?_
    rintro e w' ⟨rfl, rfl⟩
    go_wp2
    go_ret2
    exact ⟨_, rfl, HO0.out, (Below.refl _ _).alloc (Nat.le_refl _) _⟩
end

section
open Go.RowKit

def partBlocks (xs : List Int) : List (List Int) × Bool := if partIn xs then (blocksTo xs (pSize xs).toNat, true) else ([], false)

theorem sPartBlocks_v (v : Value) (xs : List Int) (w : World) (hv : RdV w v xs) : Calls Tryz.prog 87 #[v] w (FreshMB w (partBlocks xs)) := by
  have HV := Lib.hid hv
  by_cases hp : partIn xs = true
  · have hr : partBlocks xs = (blocksTo xs (pSize xs).toNat, true) := by simp [partBlocks, hp]
    have hps := (pSize_bd (partIn_small hp)).1
    obtain ⟨p, hpe⟩ : ∃ p : Nat, p = (pSize xs).toNat := ⟨_, rfl⟩
    rw [hr, ← hpe]
    have HE := Lib.hid (show pSize xs = (p : Int) by omega)
    have HP := Lib.hid hp
    clear hr hp hpe hps
    go_enter Tryz.func87, Tryz.ntmps87
    go_wp2_with fail
    refine (sPartIn_is true _ _ _ HV.out HP).mono ?_
    rintro e w' ⟨rfl, rfl⟩
    go_wp2_with fail
    refine (l1Blocks_v _ xs p _ HV.out HP.out HE.out).mono ?_
    rintro e w1 ⟨u, rfl, ho, hb⟩
    go_wp2
    go_ret2
    exact ⟨_, rfl, ho, hb⟩
  · have hp : partIn xs = false := by simpa using hp
    have hr : partBlocks xs = ([], false) := by simp [partBlocks, hp]
    rw [hr]
    have HP := Lib.hid hp
    clear hp hr
    go_enter Tryz.func87, Tryz.ntmps87
    go_wp2_with fail
    refine (sPartIn_is false _ _ _ HV.out HP).mono ?_
    rintro e w' ⟨rfl, rfl⟩
    go_wp2
    go_ret2
    exact ⟨_, rfl, ownM_mono (ownM_empty _ _ (Nat.le_refl _)) (Nat.le_refl _) (by simp), (Below.refl _ _).alloc (Nat.le_refl _) _⟩
end

section
open Go.RowKit

theorem l6In7_is (b : Bool) (n : Int) (w : World) (h : decide (1 ≤ n ∧ n ≤ 7) = b) : Calls Tryz.prog 61 #[.int .i64 n, .int .i64 1, .int .i64 7] w fun e w' => e = .returned (.bool b) ∧ w = w' := l6In_is b n 1 7 w h

set_option maxHeartbeats 1600000 in
theorem sListAll_w (a : Int) (w : World) : Calls Tryz.prog 175 #[.int .i64 a] w (FreshMB w (listAll a)) := by
  have HO0 := Lib.hid (ownM_empty w w.heap.size (Nat.le_refl _))
  by_cases h : 1 ≤ a ∧ a ≤ 7
  · have hr : listAll a = (allL a.toNat, true) := by unfold listAll; rw [if_pos h]
    rw [hr]
    obtain ⟨c, rfl⟩ : ∃ c : Nat, a = c := ⟨a.toNat, by omega⟩
    rw [Int.toNat_natCast]
    have hc8 : c ≤ 8 := by omega
    have hc7 : c ≤ 7 := by omega
    have hc1 : 1 ≤ c := by omega
    have HC := Lib.hid fun (w1 : World) => l6In7_is true (c : Int) w1 (by simpa using h)
    have hob := opn_bd c 0 (by omega) (by omega)
    have hbl := fun (w1 : World) => l2Bell_v (c : Int) w1 (by omega) (by omega)
    rw [Int.toNat_natCast, bell_opn c hc8] at hbl
    obtain ⟨T, hT⟩ : ∃ T : Nat, T = (opn c 0).toNat := ⟨_, rfl⟩
    have hTi : opn c 0 = (T : Int) := by omega
    have hT2 : T ≤ 4140 := by omega
    rw [hTi] at hbl
    have HB := Lib.hid hbl
    have HAL : Hid (allL c = (List.range T).map fun p => atL c (p : Nat)) := by show _ = _; unfold allL; rw [hT]
    have HL := Lib.hid fun (p : Nat) (w1 : World) (hp : p < T) => l4At_any c (p : Int) w1 hc8 (by omega) (by omega)
    clear hr h hbl hT hTi hob
    go_enter Tryz.func175, Tryz.ntmps175
    go_wp2_with fail
    refine (HC.out _).mono ?_
    rintro e w' ⟨rfl, rfl⟩
    go_wp2_with fail
    go_loopw [4, 5] (fun u v wr => ∃ p g cap : Nat, p ≤ T ∧ v = .int .i64 p ∧ u = .slice (some ⟨g, 0, none⟩) p cap ∧ OwnM wr w.heap.size wr.heap.size (.slice (some ⟨g, 0, none⟩) p cap) ((List.range p).map fun p => atL c (p : Nat)) ∧ Below w.heap.size w wr)
      (fun _ v _ => T - (intOf v).toNat)
    case atStart => exact ⟨0, w.heap.size, 0, Nat.zero_le _, rfl, rfl, ownM_mono HO0.out (Nat.le_refl _) (by simp), (Below.refl _ _).alloc (Nat.le_refl _) _⟩
    case round =>
      obtain ⟨p, g, cap, hp, rfl, rfl, hom, hb⟩ := hrel
      have HOM := Lib.hid hom
      have HBB := Lib.hid hb
      clear hom hb
      go_wp2_with fail
      refine (HB.out _).mono ?_
      rintro e w1 ⟨rfl, hb1⟩
      have HOM1 := Lib.hid (ownM_below HOM.out hb1)
      have hs1 := hb1.size
      have hbel1 := below_step HBB.out hb1
      have HB1 := Lib.hid hbel1
      clear hb1 hbel1
      by_cases hlt : p < T
      · have HLP := Lib.hid fun (w2 : World) => HL.out p w2 hlt
        have hsw := HBB.out.size
        have HRS := Lib.hid (List.range_succ (n := p))
        go_wp2_with fail
        refine (HLP.out _).mono ?_
        rintro e w5 ⟨u, rfl, ho5, hb5⟩
        obtain ⟨gu, cu, rfl⟩ := own_slice' ho5
        have hbel5 := below_step HB1.out hb5
        have hin := inB_of_own ho5
        have HO5 := Lib.hid (own_mono ho5 HB1.out.size)
        have HOM5 := Lib.hid (ownM_below HOM1.out hb5)
        have hs35 := hb5.size
        clear ho5 hb5
        go_wp2_with (at_builtin; refine wpList_row rfl _ _ rfl w w5 _ rfl w1.heap.size g p cap ((List.range p).map fun p => atL c (p : Nat)) rfl (ownM_mono HOM5.out (Nat.le_refl _) (by omega)) (by simp) rfl (atL c (p : Nat)) HO5.out hin ⟨HB1.out.size, hs35⟩ (by omega) hbel5 ?_)
        intro g6 cap6 w6 hown6 hbel6 hs6
        have HO6 := Lib.hid hown6
        clear hown6
        go_wp2
        go_roundw
        case rel => exact ⟨p + 1, g6, cap6, by omega, by go_num, rfl, by rw [HRS.out, List.map_append]; exact HO6.out, hbel6⟩
        case measure => simp [intOf]; omega
      · obtain rfl : p = T := by omega
        go_wp2
        go_ret2
        exact ⟨_, rfl, by rw [HAL.out]; exact ownM_mono HOM1.out (Nat.le_refl _) hs1, HB1.out⟩
  · have hr : listAll a = ([], false) := by unfold listAll; rw [if_neg h]
    rw [hr]
    have HC := Lib.hid fun (w1 : World) => l6In7_is false a w1 (by simpa using h)
    clear hr h
    go_enter Tryz.func175, Tryz.ntmps175
    go_wp2_with fail
    refine (HC.out _).mono ?_
    rintro e w' ⟨rfl, rfl⟩
    go_wp2
    go_ret2
    exact ⟨_, rfl, ownM_mono HO0.out (Nat.le_refl _) (by simp), (Below.refl _ _).alloc (Nat.le_refl _) _⟩
end

section
open Go.RowKit

def plainP (L : List (Nat × Nat)) : Bool := (pairsL crossB L : Int) == 0
theorem pairs_arcs (g : Nat × Nat → Nat × Nat → Bool) (f : FuncId) (hf : ArcFn f g) (hi : IsFn f) (xs : List Int) (hp : partIn xs = true) (u : Value) (W : World) (hu : RdA W u (arcsOf xs)) :
    Calls Tryz.prog 39 #[.func (.func f) #[] #[], u] W (GivesI W (pairsL g (arcsOf xs) : Nat)) :=
  pairsThat_any f g hf hi u (arcsOf xs) W hu ((arcsFrom_sorted xs 0).imp fun h => h.1) (by have := arcsOf_len xs; have := partIn_len hp; omega)

theorem plain_fn : IsFn 252 := fun args w => by kernel_rfl
theorem plain_fit (w0 : World) : FitFn 252 #[] w0 plainP := by
  intro xs W u hp hb hu
  have HQ := Lib.hid (pairs_arcs crossB _ cross_arc cross_fn xs hp u W hu)
  unfold plainP
  obtain ⟨c, hc⟩ : ∃ c, c = pairsL crossB (arcsOf xs) := ⟨_, rfl⟩
  rw [← hc] at HQ ⊢
  clear hp hu hc hb
  show Calls _ _ #[u] _ _
  go_enter Tryz.func252, Tryz.ntmps252
  go_wp2_with fail
  refine HQ.out.mono ?_
  rintro e w1 ⟨rfl, hb1⟩
  go_wp2
  go_ret
  exact ⟨rfl, hb1⟩

theorem linesThat_any (c : Nat) (f : FuncId) (caps : Array Value) (p : List (Nat × Nat) → Bool) (w : World) (hc1 : 1 ≤ c) (hc7 : c ≤ 7) (hfit : FitFn f caps w p) (hfe : IsFn f) :
    Calls Tryz.prog 253 #[.func (.func f) #[] caps, .int .i64 c] w (GivesI w ((allL c).countP (fun xs => p (arcsOf xs)) : Nat)) :=
  callsIn_wide.1 (linesThat_in 6 (by omega) c f caps p w hc1 hc7 hfit hfe)

def arcPlain (n : Int) : Int × Bool := if 1 ≤ n ∧ n ≤ 7 then (((allL n.toNat).countP (fun xs => plainP (arcsOf xs)) : Nat), true) else (0, false)
theorem iArcPlain_v (n : Int) (w : World) (_ : (Lit.int .i64 n).wf = true) : Calls Tryz.prog 198 #[.int .i64 n] w (GivesIB w (arcPlain n)) := by
  by_cases h : 1 ≤ n ∧ n ≤ 7
  · have hr : arcPlain n = ((((allL n.toNat).countP (fun xs => plainP (arcsOf xs)) : Nat) : Int), true) := by simp [arcPlain, h]
    rw [hr]
    obtain ⟨c, rfl⟩ : ∃ c : Nat, n = c := ⟨n.toNat, by omega⟩
    rw [Int.toNat_natCast]
    have HL := Lib.hid fun (w1 : World) => linesThat_any c _ #[] plainP w1 (by omega) (by omega) (plain_fit w1) plain_fn
    obtain ⟨q, hq⟩ : ∃ q, q = (allL c).countP (fun xs => plainP (arcsOf xs)) := ⟨_, rfl⟩
    rw [← hq] at HL ⊢
    clear hr hq
    obtain ⟨h1, h2⟩ := h
    go_enter Tryz.func198, Tryz.ntmps198
    go_wp2_with fail
    refine (HL.out _).mono ?_
    rintro e w1 ⟨rfl, hb1⟩
    go_wp2
    go_ret2
    exact ⟨rfl, hb1⟩
  · have hr : arcPlain n = (0, false) := by simp [arcPlain, h]
    rw [hr]
    clear hr
    by_cases h1 : n < 1
    · go_enter Tryz.func198, Tryz.ntmps198
      go_wp2
      go_ret2
      exact ⟨rfl, Below.refl _ _⟩
    · have h2 : n > 7 := by omega
      go_enter Tryz.func198, Tryz.ntmps198
      go_wp2
      go_ret2
      exact ⟨rfl, Below.refl _ _⟩

set_option maxHeartbeats 1600000 in
theorem sArcPlain_v (n : Int) (w : World) (_ : (Lit.int .i64 n).wf = true) : Calls Tryz.prog 109 #[.int .i64 n] w (GivesIB w (arcPlain n)) := by
  have HA := Lib.hid (sListAll_w n w)
  by_cases h : 1 ≤ n ∧ n ≤ 7
  · have hr : arcPlain n = ((((allL n.toNat).countP (fun xs => plainP (arcsOf xs)) : Nat) : Int), true) := by simp [arcPlain, h]
    rw [hr]
    have hra : listAll n = (allL n.toNat, true) := by unfold listAll; rw [if_pos h]
    rw [hra] at HA
    obtain ⟨c, rfl⟩ : ∃ c : Nat, n = c := ⟨n.toNat, by omega⟩
    rw [Int.toNat_natCast] at HA ⊢
    have hc7 : c ≤ 7 := by omega
    have hal : (allL c).length ≤ 4140 := by
      have h1 := opn_bd c 0 (by omega) (by omega)
      have h2 := allL_length c
      omega
    obtain ⟨q, hq⟩ : ∃ q, q = (allL c).countP (fun xs => plainP (arcsOf xs)) := ⟨_, rfl⟩
    rw [← hq]
    have HQ := Lib.hid hq
    clear hr hq hra h
    go_enter Tryz.func109, Tryz.ntmps109
    go_wp2_with fail
    refine HA.out.mono ?_
    rintro e w1 ⟨va, rfl, ho, hb1⟩
    obtain ⟨ao, ca, vs, hvl, rfl, hlc, hcm, hx, hrows⟩ := ownM_rdM ho
    obtain ⟨n, hn⟩ : ∃ n, n = (allL c).length := ⟨_, rfl⟩
    rw [← hn] at hal
    have HN := Lib.hid hn
    have HX := Lib.hid hx
    have HR := Lib.hid hrows
    have hs1 := hb1.size
    rw [← hn] at hlc
    have HVL := Lib.hid hvl
    clear ho hx hrows hvl
    rw [← hn]
    clear hn
    go_wp2
    go_loopw [6, 7] (fun u i wr => ∃ k s : Nat, k ≤ n ∧ i = .int .i64 k ∧ u = .int .i64 s ∧ s ≤ k ∧ Hid (q = s + ((allL c).drop k).countP (fun xs => plainP (arcsOf xs))) ∧ Below w1.heap.size w1 wr)
      (fun _ i _ => n - (intOf i).toNat)
    case atStart => exact ⟨0, 0, Nat.zero_le _, rfl, rfl, by omega, Lib.hid (by simpa using HQ.out), Below.refl _ _⟩
    case round =>
      obtain ⟨k, s, hk, rfl, rfl, hsk, HS, hbel⟩ := hrel
      have hbs := hbel.size
      by_cases hlt : k < n
      · rcases HX.out with hx | ⟨bb, off, rfl, hcx⟩
        · have := HN.out
          rw [hx] at this
          simp at this
          omega
        have hck := hcx k (by have := HN.out; omega)
        rw [← hbel.cell (World.block_lt_of_cell? w1 _ hck)] at hck
        have hrk := rdv_below (HR.out k (by have := HN.out; omega)) hbel
        have hd : (allL c).drop k = (allL c).getD k [] :: (allL c).drop (k + 1) := by
          rw [List.drop_eq_getElem_cons (by have := HN.out; omega)]
          simp [List.getD, show k < (allL c).length by have := HN.out; omega]
        have hrl := allL_rows c ((allL c).getD k []) (by simp [List.getD, show k < (allL c).length by have := HN.out; omega])
        rw [hd, List.countP_cons] at HS
        obtain ⟨row, hrow⟩ : ∃ row, row = (allL c).getD k [] := ⟨_, rfl⟩
        rw [← hrow] at HS hrk hrl
        obtain ⟨vk, hvk⟩ : ∃ vk, vk = vs.getD k undef := ⟨_, rfl⟩
        rw [← hvk] at hck hrk
        have HP := Lib.hid (l5Pairs_any vk row wr hrk (by omega))
        obtain ⟨ak, mk, rfl, _⟩ := rdv_len hrk
        obtain ⟨x, hxx⟩ : ∃ x, x = crossings row := ⟨_, rfl⟩
        obtain ⟨y, hyy⟩ : ∃ y, y = nestings row := ⟨_, rfl⟩
        rw [← hxx, ← hyy] at HP
        have HXX := Lib.hid hxx
        have HYY := Lib.hid hyy
        clear hd hrow hvk hcx hrk hxx hyy hrl
        by_cases hx0 : x = 0
        · have hd0 : ((x : Int) == 0) = true := by simp [hx0]
          have HPP := Lib.hid (show plainP (arcsOf row) = true by show ((pairsL crossB (arcsOf row) : Int) == 0) = _; rw [show pairsL crossB (arcsOf row) = x from HXX.out.symm]; simp [*])
          go_wp2_with fail
          refine HP.out.mono ?_
          rintro e w5 ⟨rfl, hb5⟩
          have HB5 := Lib.hid (below_step hbel hb5)
          clear hb5
          go_wp2
          go_roundw
          case rel =>
            have e1 := HS.out
            rw [HPP.out] at e1
            simp at e1
            exact ⟨k + 1, s + 1, by omega, by go_num, by go_num, by omega, Lib.hid (by omega), HB5.out⟩
          case measure => simp [intOf]; omega
        · have hd0 : ((x : Int) == 0) = false := by simp [hx0]
          have HPP := Lib.hid (show plainP (arcsOf row) = false by show ((pairsL crossB (arcsOf row) : Int) == 0) = _; rw [show pairsL crossB (arcsOf row) = x from HXX.out.symm]; simp [*])
          go_wp2_with fail
          refine HP.out.mono ?_
          rintro e w5 ⟨rfl, hb5⟩
          have HB5 := Lib.hid (below_step hbel hb5)
          clear hb5
          go_wp2
          go_roundw
          case rel =>
            have e1 := HS.out
            rw [HPP.out] at e1
            simp at e1
            exact ⟨k + 1, s + 0, by omega, by go_num, rfl, by omega, Lib.hid (by omega), HB5.out⟩
          case measure => simp [intOf]; omega
      · have hkn : k = n := by omega
        subst hkn
        have hdn : (allL c).drop k = [] := by rw [HN.out, List.drop_length]
        rw [hdn, List.countP_nil] at HS
        go_wp2
        go_ret2
        rw [HS.out]
        exact ⟨rfl, hb1.trans (hbel.mono hs1)⟩
  · have hr : arcPlain n = (0, false) := by simp [arcPlain, h]
    rw [hr]
    have hra : listAll n = ([], false) := by unfold listAll; rw [if_neg h]
    rw [hra] at HA
    clear hr hra h
    go_enter Tryz.func109, Tryz.ntmps109
    go_wp2_with fail
    refine HA.out.mono ?_
    rintro e w1 ⟨va, rfl, ho, hb1⟩
    obtain ⟨ao, ca, vs, hvl, rfl, hlc, hcm, hx, hrows⟩ := ownM_rdM ho
    clear ho hx hrows hvl
    simp only [List.length_nil] at *
    go_wp2
    go_loopw [6, 7] (fun u i wr => u = .int .i64 0 ∧ i = .int .i64 0 ∧ wr = w1) (fun _ _ _ => 0)
    case atStart => exact ⟨rfl, rfl, rfl⟩
    case round =>
      obtain ⟨rfl, rfl, rfl⟩ := hrel
      go_wp2
      go_ret2
      exact ⟨rfl, hb1⟩
end

section
open Go.RowKit

theorem bits_or : ∀ k : Nat, k < 8 → ∀ m : Nat, m < 2 ^ k → bitsL (m ||| 2 ^ k) = bitsL m ++ [(k : Int)] ∧ m ||| 2 ^ k < 2 ^ (k + 1) := by decide +kernel
theorem bits_mask (xs : List Int) (b : Nat) : ∀ k, k ≤ 8 → bitsL (maskAt xs b k) = blkAt xs b k ∧ maskAt xs b k < 2 ^ k
  | 0, _ => ⟨by unfold maskAt blkAt; decide, by unfold maskAt; decide⟩
  | k + 1, h => by
    obtain ⟨h1, h2⟩ := bits_mask xs b k (by omega)
    have h3 := bits_or k (by omega) _ h2
    have h4 : 2 ^ k ≤ 2 ^ (k + 1) := Nat.pow_le_pow_right (by omega) (by omega)
    unfold maskAt blkAt
    split
    · rw [h3.1, h1]
      exact ⟨rfl, h3.2⟩
    · exact ⟨h1, by omega⟩

set_option maxHeartbeats 3200000 in
theorem iPartBlocks_v (v : Value) (xs : List Int) (w : World) (hT : Tab w) (hv : RdV w v xs) : Calls Tryz.prog 205 #[v] w (FreshMB w (partBlocks xs)) := by
  have HV := Lib.hid hv
  clear hv
  by_cases hp : partIn xs = true
  · have hr : partBlocks xs = (blocksTo xs (pSize xs).toNat, true) := by simp [partBlocks, hp]
    have hl := partIn_len hp
    have hsm := partIn_small hp
    have hbd := pSize_bd hsm
    have hpos := pSize_pos hsm hl.1
    obtain ⟨p, hps⟩ := Int.eq_ofNat_of_zero_le hbd.1
    rw [hps, Int.toNat_natCast] at hr
    rw [hr]
    rw [hps] at hbd hpos
    have HPS := Lib.hid hps
    have HSM := Lib.hid hsm
    have HP := Lib.hid hp
    clear hr hp hps hsm
    obtain ⟨i0, hi, hz0, hz1, hz2⟩ := info_parts Tryz.infoInts
    obtain ⟨hl1, hl8⟩ := hl
    have hp1 : 1 ≤ p := by omega
    go_enter Tryz.func205, Tryz.ntmps205
    go_wp2_with fail
    refine (iPartIn_is true _ _ _ HV.out HP).mono ?_
    rintro e w' ⟨rfl, rfl⟩
    go_wp2_with fail
    refine (blockCount_v _ xs _ HV.out hl1 HSM.out).mono ?_
    rintro e w' ⟨rfl, rfl⟩
    rw [HPS.out]
    go_wp2_with (at_make; refine wpList_make_own _ rfl _ _ 91 rfl w.heap.size 26 i0 (.slice none 0 0) 1 Tryz.underlying91 hi hz0 hz1 _ _ _ p rfl rfl rfl (by rw [hz2]; omega) (by unfold maxLen; omega) (Nat.le_refl _) ?_)
    intro w1 hown1 hgrow1
    have hb1 : Below w.heap.size w w1 := (Below.refl _ _).grown hgrow1 (Nat.le_refl _) (fun k h => by cases h)
    have hin1 := World.ownsRow.lt hown1
    have hs12 : w.heap.size < w1.heap.size := (hin1 _ rfl).2
    have HO1 := Lib.hid (show OwnM w1 w.heap.size w1.heap.size (.slice (some ⟨w.heap.size, 0, none⟩) 0 p) [] from ⟨[], rfl, hown1, hin1, fun i hi => by simp at hi, fun i j _ hj => by simp at hj⟩)
    clear hown1 hgrow1 hin1
    go_wp2_with fail
    refine (blocksOf_v _ xs p _ (rdv_below HV.out hb1) HP.out HPS.out).mono ?_
    rintro e w2 ⟨rfl, hu2, hb2⟩
    have hbel2 := below_step hb1 hb2
    have HO2 := Lib.hid (ownM_below HO1.out hb2)
    have HU := Lib.hid hu2
    have hs2 : w1.heap.size < w2.heap.size := (World.ownsRow.lt HU.out _ rfl).2
    have hT2 := tab_below hT hbel2
    clear hu2 hb2 hb1
    go_wp2
    go_loopw [4, 16] (fun u i wr => ∃ k g cap S : Nat, k ≤ p ∧ i = .int .i64 k ∧ u = .slice (some ⟨g, 0, none⟩) k cap ∧ OwnM wr w.heap.size S (.slice (some ⟨g, 0, none⟩) k cap) (blocksTo xs k) ∧ OwnU wr w1.heap.size (.slice (some ⟨w1.heap.size, 0, none⟩) p p) (masks xs xs.length p) ∧ g ≠ w1.heap.size ∧ w.heap.size ≤ S ∧ S ≤ wr.heap.size ∧ Below w.heap.size w wr)
      (fun _ i _ => p - (intOf i).toNat)
    case atStart => exact ⟨0, w.heap.size, p, w1.heap.size, Nat.zero_le _, rfl, rfl, HO2.out, HU.out, by omega, by omega, by omega, hbel2⟩
    case round =>
      obtain ⟨k, g, cap, S, hk, rfl, rfl, hown, hu, hg, hS1, hS2, hbel⟩ := hrel
      by_cases hlt : k < p
      · have hml : (masks xs xs.length p).length = p := by simp [masks]
        have hcm := ownU_cell hu hml.symm k (by omega)
        have hgm : (masks xs xs.length p).getD k 0 = maskAt xs k xs.length := by simp [masks, List.getD, hlt]
        rw [hgm] at hcm
        have hm256 := maskAt_256 xs k xs.length (by omega)
        have hbm := (bits_mask xs k xs.length hl8).1
        have hbs := blocksTo_succ xs k
        obtain ⟨m, hm⟩ : ∃ m, m = maskAt xs k xs.length := ⟨_, rfl⟩
        rw [← hm] at hcm hm256 hbm
        rw [← hbm] at hbs
        have HBS := Lib.hid hbs
        have HO := Lib.hid hown
        have HUr := Lib.hid hu
        have HL := Lib.hid (list_any m wr (tab_below hT hbel) hm256)
        have HML := Lib.hid hml
        clear hml hgm hbm hbs hm hown hu
        go_wp2_with fail
        refine HL.out.mono ?_
        rintro e w3 ⟨u, rfl, hou, hb3⟩
        obtain ⟨ua, uc, rfl, _⟩ := own_rd hou
        obtain ⟨ul, hul⟩ : ∃ ul, ul = (bitsL m).length := ⟨_, rfl⟩
        rw [← hul] at hou ⊢
        clear hul
        have hiu := inB_of_own hou
        have HOU := Lib.hid (own_mono hou hbel.size)
        have HO3 := Lib.hid (ownM_below HO.out hb3)
        have HU3 := Lib.hid (ownU_below HUr.out hb3)
        have hbel3 := below_step hbel hb3
        have hsz3 := hb3.size
        have hB3 := hbel3.size
        clear hou hb3
        go_wp2_with (at_builtin; refine wpList_pushM rfl _ _ rfl w.heap.size S g k cap (blocksTo xs k) rfl (ownM_below HO3.out (by exact (Below.refl _ _).alloc (Nat.le_refl _) _)) (by rw [blocksTo_length]) ⟨w3.heap.size, 0, none⟩ rfl (.slice ua ul uc) (bitsL m) (cell_new1 _ _ _) (own_alloc HOU.out _) (fun q hq => by have := hiu q hq; simp; omega) hS1 (by simp; omega) (by omega) (k + 1) rfl ?_)
        intro g' cap' w4 hown4 hgr4
        rw [← HBS.out] at hown4
        have hu4 : OwnU w4 w1.heap.size (.slice (some ⟨w1.heap.size, 0, none⟩) p p) (masks xs xs.length p) :=
          World.ownsRow.kept (World.ownsRow.alloc HU3.out _) hgr4 (.inr (by simp [Value.ownBlock]; omega))
        have hg' : g' ≠ w1.heap.size := by
          intro e
          subst e
          obtain ⟨z, hz, hoz, _⟩ := ownM_cell hown4 0 (by rw [blocksTo_length]; omega)
          obtain ⟨zo, zc, rfl, _⟩ := own_rd hoz
          have h0 := ownU_cell hu4 HML.out.symm 0 (by rw [HML.out]; omega)
          rw [hz] at h0
          cases h0
        have hgw : w.heap.size ≤ g := by
          obtain ⟨vs, _, ho, hib, _⟩ := HO3.out
          exact (hib g rfl).1
        have hbel4 : Below w.heap.size w w4 := (hbel3.alloc hB3 _).grown hgr4 (by simp; omega) (fun q hq => by cases hq; exact hgw)
        have HO4 := Lib.hid hown4
        have HU4 := Lib.hid hu4
        have hB4 := hbel4.size
        clear hown4 hgr4 hu4
        go_wp2
        go_roundw
        case rel => exact ⟨k + 1, g', cap', w4.heap.size, by omega, by go_num, rfl, HO4.out, HU4.out, hg', hB4, Nat.le_refl _, hbel4⟩
        case measure => simp [intOf]; omega
      · have hkp : k = p := by omega
        subst hkp
        have HO := Lib.hid hown
        have HB := Lib.hid hbel
        clear hown hu hbel
        go_wp2
        go_ret2
        exact ⟨_, rfl, ownM_mono HO.out (Nat.le_refl _) hS2, HB.out⟩
  · have hp : partIn xs = false := by simpa using hp
    have hr : partBlocks xs = ([], false) := by simp [partBlocks, hp]
    rw [hr]
    have HP := Lib.hid hp
    clear hp hr
    go_enter Tryz.func205, Tryz.ntmps205
    go_wp2_with fail
    refine (iPartIn_is false _ _ _ HV.out HP).mono ?_
    rintro e w' ⟨rfl, rfl⟩
    go_wp2
    go_ret2
    exact ⟨_, rfl, ⟨[], rfl, World.ownsRow_nil _ _ _ _, fun k hk => by simp [Value.ownBlock] at hk, fun i hi => by simp at hi, fun i j _ hj => by simp at hj⟩, Below.refl _ _⟩
end

section
open Go.RowKit

def ofIn (s L : List Int) : Nat → List Int
  | 0 => s
  | i + 1 => (ofIn s L i).set (L.getD i 0).toNat (L.getD ((i + 1) % L.length) 0)
def ofTo (xs : List Int) : Nat → List Int
  | 0 => List.replicate xs.length 0
  | b + 1 => ofIn (ofTo xs b) (blkAt xs b xs.length) (blkAt xs b xs.length).length
def ringOf (xs : List Int) : List Int × Bool := if partIn xs then (ofTo xs (pSize xs).toNat, true) else ([], false)

theorem ofIn_length (s L : List Int) (i : Nat) : (ofIn s L i).length = s.length := by
  induction i with
  | zero => rfl
  | succ i ih => rw [ofIn, List.length_set, ih]
theorem ofTo_length (xs : List Int) (b : Nat) : (ofTo xs b).length = xs.length := by
  induction b with
  | zero => simp [ofTo]
  | succ b ih => rw [ofTo, ofIn_length, ih]
theorem blk_rng (xs : List Int) (b : Nat) : ∀ k i, i < (blkAt xs b k).length → ∃ t : Nat, t < k ∧ (blkAt xs b k).getD i 0 = t := by
  intro k
  induction k with
  | zero => intro i hi; simp [blkAt] at hi
  | succ k ih =>
    intro i hi
    unfold blkAt at hi ⊢
    split at hi
    · rename_i h
      rw [if_pos h]
      simp at hi
      by_cases hl : i < (blkAt xs b k).length
      · rw [getD_snoc_lt _ _ _ hl]
        obtain ⟨t, h1, h2⟩ := ih i hl
        exact ⟨t, by omega, h2⟩
      · obtain rfl : i = (blkAt xs b k).length := by omega
        rw [getD_snoc_eq]
        exact ⟨k, by omega, rfl⟩
    · rename_i h
      rw [if_neg h]
      obtain ⟨t, h1, h2⟩ := ih i hi
      exact ⟨t, by omega, h2⟩

theorem ownU_grown {w w' : World} {B g n cap m : Nat} {ms : List Nat} (h : OwnU w B (.slice (some ⟨g, 0, none⟩) n cap) ms) (hg : w.grownBy w' (some m)) (hne : g ≠ m) : OwnU w' B (.slice (some ⟨g, 0, none⟩) n cap) ms :=
  World.ownsRow.kept h hg (.inr (by simpa [Value.ownBlock] using hne))

set_option maxHeartbeats 3200000 in
theorem permutationOf_v (v : Value) (xs : List Int) (w : World) (hT : Tab w) (hv : RdV w v xs) (hp : partIn xs = true) :
    Calls Tryz.prog 269 #[v] w fun e w' => ∃ g : Nat, e = .returned (.agg #[.slice (some ⟨g, 0, none⟩) xs.length xs.length]) ∧ Own w' w.heap.size (.slice (some ⟨g, 0, none⟩) xs.length xs.length) (ofTo xs (pSize xs).toNat) ∧ Below w.heap.size w w' := by
  have hv0 := hv
  obtain ⟨ao, ca, rfl, h, h1, h2⟩ := hv
  unfold maxLen at h2
  have HV := Lib.hid hv0
  have hl := partIn_len hp
  have hsm := partIn_small hp
  have hbd := pSize_bd hsm
  obtain ⟨p, hps⟩ := Int.eq_ofNat_of_zero_le hbd.1
  rw [hps, Int.toNat_natCast]
  rw [hps] at hbd
  have HPS := Lib.hid hps
  have HP := Lib.hid hp
  obtain ⟨n, hn⟩ : ∃ n, n = xs.length := ⟨_, rfl⟩
  rw [← hn] at h1 hl HV ⊢
  have HN := Lib.hid hn
  clear hv0 h hp hsm hps hn
  obtain ⟨hl1, hl8⟩ := hl
  obtain ⟨i0, hi, hz0, hz1, hz2⟩ := info_parts Tryz.infoInt
  have hb0 : Below w.heap.size w (w.alloc (.cells #[.slice none 0 0] 168)) := (Below.refl _ _).alloc (Nat.le_refl _) _
  have hg0 : (w.alloc (.cells #[.slice none 0 0] 168)).cell? ⟨w.heap.size, 0, none⟩ = some (.slice none 0 0) := by simp
  have hf0 : (w.alloc (.cells #[.slice none 0 0] 168)).frozen? ⟨w.heap.size, 0, none⟩ = false := by simp
  have hs0 : (w.alloc (.cells #[.slice none 0 0] 168)).heap.size = w.heap.size + 1 := by simp
  have HB0 := Lib.hid hb0
  have HG0 := Lib.hid hg0
  have HF0 := Lib.hid hf0
  have HS0 := Lib.hid hs0
  clear hb0 hg0 hf0 hs0
  go_enter Tryz.func269, Tryz.ntmps269
  go_wp2_with (at_make; refine wpList_make_full _ rfl _ _ 166 rfl (w.heap.size + 1) 3 i0 (.int .i64 0) 1 Tryz.underlying166 hi hz0 hz1 _ _ _ _ n rfl rfl rfl rfl (by rw [hz2]; omega) (by unfold maxLen; omega) (by rw [HS0.out]; exact Nat.le_refl _) ?_)
  intro w2 hown2 hgrow2
  obtain ⟨w1, hw1⟩ : ∃ w1, w1 = w.alloc (.cells #[.slice none 0 0] 168) := ⟨_, rfl⟩
  have hb0 := HB0.out
  have hg0 := HG0.out
  have hf0 := HF0.out
  have hs0 := HS0.out
  rw [← hw1] at hb0 hg0 hf0 hs0 hgrow2
  have hb2 : Below (w.heap.size + 1) w1 w2 := (Below.refl _ _).grown hgrow2 (by omega) (fun k h => by cases h)
  have hown := own_made hown2
  clear hown2 hgrow2 HB0 HG0 HF0 HS0 hw1
  obtain ⟨m, hm⟩ : ∃ m, m = w.heap.size + 1 := ⟨_, rfl⟩
  obtain ⟨r, hr⟩ : ∃ r, r = w.heap.size := ⟨_, rfl⟩
  rw [← hm] at hown hb2 ⊢
  have hrm : r < m := by omega
  have HM : Hid (m = w.heap.size + 1) := Lib.hid hm
  have HR : Hid (r = w.heap.size) := Lib.hid hr
  have HB0 := Lib.hid hb0
  have HG0 : Hid (w1.cell? ⟨r, 0, none⟩ = some (.slice none 0 0)) := Lib.hid (by rw [hr]; exact hg0)
  have HF0 : Hid (w1.frozen? ⟨r, 0, none⟩ = false) := Lib.hid (by rw [hr]; exact hf0)
  have hms : m < w2.heap.size := (own_lt hown m rfl).2
  have HO2 := Lib.hid hown
  have HB2 := Lib.hid hb2
  have hbw2 : Below w.heap.size w w2 := HB0.out.trans (hb2.mono (by omega))
  have HBW2 := Lib.hid hbw2
  clear hg0 hf0 hs0 hb0 hm hown hb2 hbw2
  rw [← hr]
  clear hr
  go_wp2_with fail
  refine (blocksOf_v _ xs p _ (rdv_below HV.out HBW2.out) HP.out HPS.out).mono ?_
  rintro e w3 ⟨rfl, hu3, hb3⟩
  have HU3 := Lib.hid hu3
  have HO3 := Lib.hid (own_below HO2.out hb3)
  have hb13 : Below m w1 w3 := HB2.out.trans (hb3.mono (by omega))
  have HB13 := Lib.hid hb13
  obtain ⟨q, hq⟩ : ∃ q, q = w2.heap.size := ⟨_, rfl⟩
  have HQ := Lib.hid hq
  rw [← hq] at HU3 hms ⊢
  clear hq hu3 hb3 hb13
  go_wp2
  go_loopw [15] (fun i wr => ∃ k : Nat, k ≤ p ∧ i = .int .i64 k ∧ Own wr m (.slice (some ⟨m, 0, none⟩) n n) (ofTo xs k) ∧ OwnU wr q (.slice (some ⟨q, 0, none⟩) p p) (masks xs xs.length p) ∧ Below m w1 wr)
    (fun i _ => p - (intOf i).toNat)
  case atStart => exact ⟨0, Nat.zero_le _, rfl, by have := HO3.out; rw [ofTo, ← HN.out]; exact this, HU3.out, HB13.out⟩
  case round =>
    obtain ⟨k, hk, rfl, hown, hu, hbel⟩ := hrel
    have hbelw : Below w.heap.size w wr := HB0.out.trans (hbel.mono (by have := HM.out; omega))
    by_cases hlt : k < p
    · have hml : (masks xs xs.length p).length = p := by simp [masks]
      have hcm := ownU_cell hu hml.symm k (by omega)
      have hgm : (masks xs xs.length p).getD k 0 = maskAt xs k xs.length := by simp [masks, List.getD, hlt]
      rw [hgm] at hcm
      have hm256 := maskAt_256 xs k xs.length (by rw [← HN.out]; exact hl8)
      have hbits := (bits_mask xs k xs.length (by rw [← HN.out]; exact hl8)).1
      have hrng := blk_rng xs k xs.length
      have hof : ofTo xs (k + 1) = ofIn (ofTo xs k) (blkAt xs k xs.length) (blkAt xs k xs.length).length := rfl
      have hc8 : (blkAt xs k xs.length).length ≤ 8 := by rw [blkAt_length]; have := cntAt_le xs k xs.length; have := HN.out; omega
      obtain ⟨mk, hmk⟩ : ∃ mk, mk = maskAt xs k xs.length := ⟨_, rfl⟩
      obtain ⟨L, hL⟩ : ∃ L, L = blkAt xs k xs.length := ⟨_, rfl⟩
      rw [← hmk] at hcm hm256 hbits
      rw [← hL] at hbits hrng hof hc8
      rw [← HN.out] at hrng
      have HRNG := Lib.hid hrng
      have HOF := Lib.hid hof
      have HBITS := Lib.hid hbits
      have HOW := Lib.hid hown
      have HUW := Lib.hid hu
      have hmq : m < wr.heap.size := (own_lt hown m rfl).2
      clear hml hgm hmk hL hrng hof hbits hown hu
      go_wp2_with fail
      refine (list_any mk _ (tab_below hT hbelw) hm256).mono ?_
      rw [HBITS.out]
      rintro e w4 ⟨u, rfl, ho4, hb4⟩
      obtain ⟨ao2, ca2, rfl, hrd, _, _, hbk⟩ := own_rd ho4
      have HBK : Hid (∀ a : Addr, ao2 = some a → m < a.block) := Lib.hid (fun a ha => by have := (hbk a ha).1; omega)
      obtain ⟨c, hc⟩ : ∃ c, c = L.length := ⟨_, rfl⟩
      rw [← hc] at hc8 ⊢
      have HC := Lib.hid hc
      have HRD := Lib.hid hrd
      have HB4 := Lib.hid hb4
      have HO4 := Lib.hid (own_below HOW.out hb4)
      have HU4 := Lib.hid (ownU_below HUW.out hb4)
      have hmw4 : m < w4.heap.size := (own_lt HO4.out m rfl).2
      clear hc hrd hb4 ho4 hbk
      go_wp2
      go_loopw [23] (fun i wq => ∃ j : Nat, j ≤ c ∧ i = .int .i64 j ∧ Own wq m (.slice (some ⟨m, 0, none⟩) n n) (ofIn (ofTo xs k) L j) ∧ w4.grownBy wq (some m) ∧ wq.heap.size = w4.heap.size)
        (fun i _ => c - (intOf i).toNat)
      case atStart => exact ⟨0, Nat.zero_le _, rfl, HO4.out, World.grownBy.refl _ _, rfl⟩
      case round =>
        obtain ⟨j, hj, rfl, hown, hgr, hsz⟩ := hrel
        have HGR := Lib.hid hgr
        have HSZ := Lib.hid hsz
        clear hgr hsz
        by_cases hjc : j < c
        · rcases HRD.out with hx | ⟨bb, off, rfl, hcx⟩
          · have := HC.out
            rw [hx] at this
            simp at this
            omega
          · have hbm : bb ≠ m := by
              have : m < bb := HBK.out _ rfl
              omega
            have hcw : ∀ i, i < c → wr.cell? ⟨bb, off + i, none⟩ = some (.int .i64 (L.getD i 0)) := fun i hi => by
              exact HGR.out.cell (hcx i (by have := HC.out; omega)) (by simpa using hbm)
            obtain ⟨t, ht, hte⟩ := HRNG.out j (by have := HC.out; omega)
            have hjm : (j + 1) % c < c := Nat.mod_lt _ (by omega)
            have hck := hcw j hjc
            have hcn := hcw _ hjm
            rw [hte] at hck
            obtain ⟨y, hy⟩ : ∃ y, y = L.getD ((j + 1) % c) 0 := ⟨_, rfl⟩
            obtain ⟨i2, hi2⟩ : ∃ i2, i2 = (j + 1) % c := ⟨_, rfl⟩
            rw [← hy, ← hi2] at hcn
            rw [← hi2] at hjm
            have hmod : ((j : Int) + 1).tmod (c : Int) = (i2 : Int) := by
              rw [hi2, Int.tmod_eq_emod_of_nonneg (by omega)]
              simp
            have hfz := own_frozen hown t
            have hll : n = (ofIn (ofTo xs k) L j).length := by rw [ofIn_length, ofTo_length, HN.out]
            obtain ⟨v0, hv0⟩ : ∃ v0, wr.cell? ⟨m, t, none⟩ = some v0 := ⟨_, own_cell hown t (by omega)⟩
            obtain ⟨hst, hgst⟩ := own_stored hown hll t y
            have hst' : Own (wr.setCell ⟨m, t, none⟩ (.int .i64 y)) m (.slice (some ⟨m, 0, none⟩) n n) (ofIn (ofTo xs k) L (j + 1)) := by
              rw [ofIn, hte, Int.toNat_natCast, ← HC.out, ← hy]
              exact hst
            have HST := Lib.hid hst'
            have HGS := Lib.hid hgst
            have hc0 : ¬ (c : Int) = 0 := by omega
            have hc1 : ((c : Int) == 0) = false := by simp; omega
            clear hcx hcw hte hy hi2 hst hst' hgst hown hll
            go_wp2
            go_roundw
            case rel => exact ⟨j + 1, by omega, by go_num, HST.out, grown_trans HGR.out HGS.out, by have := HSZ.out; simpa [World.setCell] using this⟩
            case measure => simp [intOf]; omega
        · have hjc : j = c := by omega
          subst hjc
          have hbel4 : Below m w1 w4 := hbel.trans (HB4.out.mono (by omega))
          have hbelq : Below m w1 wr := hbel4.grown HGR.out (by omega) (fun k hk => by cases hk; exact Nat.le_refl _)
          have HBQ := Lib.hid hbelq
          have HOWN := Lib.hid hown
          have HUQ := Lib.hid (ownU_grown HU4.out HGR.out (by omega))
          clear hown hbel4 hbelq
          go_wp2
          go_roundw
          case rel => exact ⟨k + 1, by omega, by go_num, by rw [HOF.out, ← HC.out]; exact HOWN.out, HUQ.out, HBQ.out⟩
          case measure => simp [intOf]; omega
    · have hkp : k = p := by omega
      subst hkp
      have hcr : wr.cell? ⟨r, 0, none⟩ = some (.slice none 0 0) := by rw [hbel.cell (by simpa using hrm)]; exact HG0.out
      have hfr : wr.frozen? ⟨r, 0, none⟩ = false := by rw [hbel.frozen (by simpa using hrm)]; exact HF0.out
      have hos : Own (wr.setCell ⟨r, 0, none⟩ (.slice (some ⟨m, 0, none⟩) n n)) w.heap.size (.slice (some ⟨m, 0, none⟩) n n) (ofTo xs k) := own_mono (own_grown hown (grownBy_setCell' wr r _) (.inr (by simp [Value.ownBlock]; omega))) (by have := HM.out; omega)
      have hbs : Below w.heap.size w (wr.setCell ⟨r, 0, none⟩ (.slice (some ⟨m, 0, none⟩) n n)) := Below.setCell (p := ⟨r, 0, none⟩) hbelw (by show w.heap.size ≤ r; have := HR.out; omega) _
      have hcs : (wr.setCell ⟨r, 0, none⟩ (.slice (some ⟨m, 0, none⟩) n n)).cell? ⟨r, 0, none⟩ = some (.slice (some ⟨m, 0, none⟩) n n) := World.cell?_setCell_same' wr _ _ (by rw [hcr]; rfl)
      have HOS := Lib.hid hos
      have HBS := Lib.hid hbs
      clear hown hu hbel hbelw hos hbs
      go_wp2
      refine bodyPost_ret (v := .agg #[.slice (some ⟨m, 0, none⟩) n n]) (by simp [results, Tryz.results269, go_sem, hcs, Result.andThen]) rfl ⟨_, rfl, HOS.out, HBS.out⟩

theorem fieldPerm (a : Option Addr) (l c : Nat) (w : World) : (Instr.field 168 (.agg #[.slice a l c]) 0).run Tryz.prog w = .ok (.slice a l c) w := by kernel_rfl

theorem iRingOf_v (v : Value) (xs : List Int) (w : World) (hT : Tab w) (hv : RdV w v xs) : Calls Tryz.prog 215 #[v] w (FreshLB w (ringOf xs)) := by
  have HV := Lib.hid hv
  obtain ⟨ao, ca, rfl, h, h1, h2⟩ := hv
  clear h
  by_cases hp : partIn xs = true
  · have he : ringOf xs = (ofTo xs (pSize xs).toNat, true) := by simp [ringOf, hp]
    rw [he]
    have HP := Lib.hid hp
    clear he hp
    go_enter Tryz.func215, Tryz.ntmps215
    go_wp2_with fail
    refine (iPartIn_is true _ _ _ HV.out HP).mono ?_
    rintro e w' ⟨rfl, rfl⟩
    go_wp2_with fail
    refine (permutationOf_v _ xs _ hT HV.out HP.out).mono ?_
    rintro e w2 ⟨g, rfl, ho, hb⟩
    have HO := Lib.hid ho
    clear ho
    have hfp := fieldPerm (some ⟨g, 0, none⟩) xs.length xs.length
    go_wp2
    go_ret2
    exact ⟨_, rfl, HO.out, hb⟩
  · have hp : partIn xs = false := by simpa using hp
    have he : ringOf xs = ([], false) := by simp [ringOf, hp]
    rw [he]
    have HP := Lib.hid hp
    clear he hp
    go_enter Tryz.func215, Tryz.ntmps215
    go_wp2_with fail
    refine (iPartIn_is false _ _ _ HV.out HP).mono ?_
    rintro e w' ⟨rfl, rfl⟩
    go_wp2
    go_ret2
    exact ⟨_, rfl, own_nil _ _, Below.refl _ _⟩

set_option maxHeartbeats 4000000 in
theorem sRingOf_v (v : Value) (xs : List Int) (w : World) (hv : RdV w v xs) : Calls Tryz.prog 98 #[v] w (FreshLB w (ringOf xs)) := by
  have HV := Lib.hid hv
  obtain ⟨ao, ca, rfl, h, h1, h2⟩ := hv
  unfold maxLen at h2
  clear h
  by_cases hp : partIn xs = true
  · have hl := partIn_len hp
    have hbd := pSize_bd (partIn_small hp)
    obtain ⟨p, hps⟩ := Int.eq_ofNat_of_zero_le hbd.1
    have he : ringOf xs = (ofTo xs p, true) := by simp [ringOf, hp, hps]
    rw [he]
    rw [hps] at hbd
    have HPS := Lib.hid hps
    have HP := Lib.hid hp
    obtain ⟨n, hn⟩ : ∃ n, n = xs.length := ⟨_, rfl⟩
    rw [← hn] at h1 hl HV ⊢
    have HN := Lib.hid hn
    clear he hp hps hn
    obtain ⟨hl1, hl8⟩ := hl
    obtain ⟨i0, hi, hz0, hz1, hz2⟩ := info_parts Tryz.infoInt
    go_enter Tryz.func98, Tryz.ntmps98
    go_wp2_with fail
    refine (sPartIn_is true _ _ _ HV.out HP).mono ?_
    rintro e w' ⟨rfl, rfl⟩
    go_wp2_with (at_make; refine wpList_make_full _ rfl _ _ 26 rfl w.heap.size 3 i0 (.int .i64 0) 1 Tryz.underlying26 hi hz0 hz1 _ _ _ _ n rfl rfl rfl rfl (by rw [hz2]; omega) (by unfold maxLen; omega) (Nat.le_refl _) ?_)
    intro w1 hown1 hgrow1
    have hb1 : Below w.heap.size w w1 := (Below.refl _ _).grown hgrow1 (Nat.le_refl _) (fun k h => by cases h)
    have hown := own_made hown1
    clear hown1 hgrow1
    have hms : w.heap.size < w1.heap.size := (own_lt hown _ rfl).2
    obtain ⟨m, hm⟩ : ∃ m, m = w.heap.size := ⟨_, rfl⟩
    rw [← hm] at hown hms ⊢
    have HM := Lib.hid hm
    have HO1 := Lib.hid hown
    have HB1 := Lib.hid hb1
    clear hm hown hb1
    go_wp2_with fail
    refine (l1Blocks_v _ xs p _ (rdv_below HV.out HB1.out) HP.out HPS.out).mono ?_
    rintro e w2 ⟨u, rfl, hom, hb2⟩
    obtain ⟨vs, hvl, hparts, _⟩ := ownM_parts hom
    have hbl := blocksTo_length xs p
    have hp1 : 1 ≤ p := by have := pSize_pos (partIn_small HP.out) (partIn_len HP.out).1; have := HPS.out; omega
    rcases hparts with ⟨_, hnil⟩ | ⟨g, cap, rfl, _, _, _⟩
    · have := congrArg List.length hnil
      rw [hbl] at this
      simp at this
      omega
    rw [hbl] at hom ⊢
    have HOM := Lib.hid hom
    have HB2 := Lib.hid hb2
    have hgm : m < g := by omega
    have HO2 := Lib.hid (own_below HO1.out hb2)
    have hms2 : m < w2.heap.size := by have := hb2.size; omega
    clear hom hb2 hvl hbl
    go_wp2
    go_loopw [6] (fun i wr => ∃ k : Nat, k ≤ p ∧ i = .int .i64 k ∧ Own wr m (.slice (some ⟨m, 0, none⟩) n n) (ofTo xs k) ∧ Touch w2 wr m (m + 1)) (fun i _ => p - (intOf i).toNat)
    case atStart => exact ⟨0, Nat.zero_le _, rfl, by have := HO2.out; rw [ofTo, ← HN.out]; exact this, Touch.refl _ _ _⟩
    case round =>
      obtain ⟨k, hk, rfl, hown, ht⟩ := hrel
      by_cases hlt : k < p
      · have HOW := Lib.hid hown
        have HT := Lib.hid ht
        have hrowk : ∃ ro ca2, wr.cell? ⟨g, k, none⟩ = some (.slice ro (blkAt xs k xs.length).length ca2) ∧ (∀ j, j < (blkAt xs k xs.length).length → ∃ bb off, ro = some ⟨bb, off, none⟩ ∧ bb ≠ m ∧ ∀ i, i < (blkAt xs k xs.length).length → wr.cell? ⟨bb, off + i, none⟩ = some (.int .i64 ((blkAt xs k xs.length).getD i 0))) := by
          obtain ⟨z, hz, hoz, hiz⟩ := ownM_cell HOM.out k (by rw [blocksTo_length]; exact hlt)
          rw [blocksTo_getD _ _ _ hlt] at hoz
          obtain ⟨zo, zc, rfl, hrz, _, _, hbz⟩ := own_rd hoz
          refine ⟨zo, zc, ?_, ?_⟩
          · rw [World.cell?_of_block (w := w2) (w' := wr) (a := ⟨g, k, none⟩) (ht.block g (by omega))]
            exact hz
          · intro j hj
            rcases hrz with hx | ⟨bb, off, rfl, hcz⟩
            · rw [hx] at hj
              simp at hj
            · have hbb : w1.heap.size ≤ bb := (hbz _ rfl).1
              refine ⟨bb, off, rfl, by omega, fun i hi => ?_⟩
              rw [World.cell?_of_block (w := w2) (w' := wr) (a := ⟨bb, off + i, none⟩) (ht.block bb (by omega))]
              exact hcz i hi
        obtain ⟨ro, ca2, hck, hrow⟩ := hrowk
        have hrng := blk_rng xs k xs.length
        have hof : ofTo xs (k + 1) = ofIn (ofTo xs k) (blkAt xs k xs.length) (blkAt xs k xs.length).length := rfl
        have hc8 : (blkAt xs k xs.length).length ≤ 8 := by rw [blkAt_length]; have := cntAt_le xs k xs.length; have := HN.out; omega
        obtain ⟨L, hL⟩ : ∃ L, L = blkAt xs k xs.length := ⟨_, rfl⟩
        rw [← hL] at hck hrow hrng hof hc8
        rw [← HN.out] at hrng
        obtain ⟨c, hc⟩ : ∃ c, c = L.length := ⟨_, rfl⟩
        rw [← hc] at hc8 hck
        have HC := Lib.hid hc
        have HRNG := Lib.hid hrng
        have HOF := Lib.hid hof
        have HROW := Lib.hid hrow
        have HCK := Lib.hid hck
        obtain ⟨w5, hw5⟩ : ∃ w5 : World, w5 = wr := ⟨_, rfl⟩
        rw [← hw5] at HCK HROW HOW HT
        have hb5 : m < w5.heap.size := by have := HT.out.size; omega
        have hg5 : g < w5.heap.size := by have := World.block_lt_of_cell? _ _ HCK.out; simpa using this
        clear hL hrng hof hrow hc hown ht
        go_wp2
        rw [← hw5]
        clear hw5 hck
        go_loopw [8] (fun i wq => ∃ j : Nat, j ≤ c ∧ i = .int .i64 j ∧ Own wq m (.slice (some ⟨m, 0, none⟩) n n) (ofIn (ofTo xs k) L j) ∧ Touch w5 wq m (m + 1))
          (fun i _ => c - (intOf i).toNat)
        case atStart => exact ⟨0, Nat.zero_le _, rfl, HOW.out, Touch.refl _ _ _⟩
        case round =>
          obtain ⟨j, hj, rfl, hown, ht⟩ := hrel
          have HTQ := Lib.hid ht
          by_cases hjc : j < c
          · obtain ⟨bb, off, rfl, hbm, hcw0⟩ := HROW.out j (by have := HC.out; omega)
            have hck : wr.cell? ⟨g, k, none⟩ = some (.slice (some ⟨bb, off, none⟩) c ca2) := by
              rw [World.cell?_of_block (w := w5) (w' := wr) (a := ⟨g, k, none⟩) (ht.block g (by omega))]
              exact HCK.out
            have hcw : ∀ i, i < c → wr.cell? ⟨bb, off + i, none⟩ = some (.int .i64 (L.getD i 0)) := fun i hi => by
              rw [World.cell?_of_block (w := w5) (w' := wr) (a := ⟨bb, off + i, none⟩) (ht.block bb (by omega))]
              exact hcw0 i (by have := HC.out; omega)
            obtain ⟨t, htn, hte⟩ := HRNG.out j (by have := HC.out; omega)
            have hjm : (j + 1) % c < c := Nat.mod_lt _ (by omega)
            have hc1 := hcw j hjc
            have hcn := hcw _ hjm
            rw [hte] at hc1
            obtain ⟨y, hy⟩ : ∃ y, y = L.getD ((j + 1) % c) 0 := ⟨_, rfl⟩
            obtain ⟨i2, hi2⟩ : ∃ i2, i2 = (j + 1) % c := ⟨_, rfl⟩
            rw [← hy, ← hi2] at hcn
            rw [← hi2] at hjm
            have hmod : ((j : Int) + 1).tmod (c : Int) = (i2 : Int) := by
              rw [hi2, Int.tmod_eq_emod_of_nonneg (by omega)]
              simp
            have hfz := own_frozen hown t
            have hll : n = (ofIn (ofTo xs k) L j).length := by rw [ofIn_length, ofTo_length, HN.out]
            obtain ⟨v0, hv0⟩ : ∃ v0, wr.cell? ⟨m, t, none⟩ = some v0 := ⟨_, own_cell hown t (by omega)⟩
            obtain ⟨hst, hgst⟩ := own_stored hown hll t y
            have hst' : Own (wr.setCell ⟨m, t, none⟩ (.int .i64 y)) m (.slice (some ⟨m, 0, none⟩) n n) (ofIn (ofTo xs k) L (j + 1)) := by
              rw [ofIn, hte, Int.toNat_natCast, ← HC.out, ← hy]
              exact hst
            have htt : Touch w5 (wr.setCell ⟨m, t, none⟩ (.int .i64 y)) m (m + 1) := ht.trans (touch_of_grown (v := .slice (some ⟨m, 0, none⟩) n n) hgst (by simp [World.setCell]) (fun q hq => by cases hq; exact ⟨Nat.le_refl _, Nat.lt_succ_self _⟩))
            have HST := Lib.hid hst'
            have HTT := Lib.hid htt
            have hgm2 : g ≠ m := by omega
            have hc0 : ¬ (c : Int) = 0 := by omega
            have hc2 : ((c : Int) == 0) = false := by simp; omega
            have d1 : (k : Int) < (p : Int) := by omega
            have d2 : (t : Int) < (n : Int) := by omega
            have d3 : (j : Int) < (c : Int) := by omega
            have d4 : (i2 : Int) < (c : Int) := by omega
            have d5 : (0 : Int) ≤ (k : Int) := by omega
            have d6 : (0 : Int) ≤ (t : Int) := by omega
            have d7 : (0 : Int) ≤ (j : Int) := by omega
            have d8 : (0 : Int) ≤ (i2 : Int) := by omega
            clear hcw hcw0 hte hy hi2 hst hst' hgst hown hll htt ht
            go_wp2
            go_region
            go_wp2
            go_roundw
            case rel => exact ⟨j + 1, by omega, by go_num, HST.out, ⟨HTT.out.os, HTT.out.tape, HTT.out.output, HTT.out.size, HTT.out.block⟩⟩
            case measure => simp [intOf]; omega
          · have hjc : j = c := by omega
            subst hjc
            have HOWN := Lib.hid hown
            have htf := HT.out.trans ht
            have HTF := Lib.hid htf
            clear hown htf ht
            go_wp2
            go_roundw
            case rel => exact ⟨k + 1, by omega, by go_num, by rw [HOF.out, ← HC.out]; exact HOWN.out, HTF.out⟩
            case measure => simp [intOf]; omega
      · have hkp : k = p := by omega
        subst hkp
        have hbw : Below w.heap.size w wr := HB1.out.trans (HB2.out.mono (by have := HM.out; omega)) |>.trans ⟨ht.os, ht.tape, ht.output, Nat.le_of_eq ht.size.symm, fun q hq => ht.block q (by have := HM.out; omega)⟩
        have hown2 : Own wr w.heap.size (.slice (some ⟨m, 0, none⟩) n n) (ofTo xs k) := own_mono hown (by have := HM.out; omega)
        have HOWN := Lib.hid hown2
        have HBW := Lib.hid hbw
        clear hown hown2 hbw ht
        go_wp2
        go_ret2
        exact ⟨_, rfl, HOWN.out, HBW.out⟩
  · have hp : partIn xs = false := by simpa using hp
    have he : ringOf xs = ([], false) := by simp [ringOf, hp]
    rw [he]
    have HP := Lib.hid hp
    clear he hp
    go_enter Tryz.func98, Tryz.ntmps98
    go_wp2_with fail
    refine (sPartIn_is false _ _ _ HV.out HP).mono ?_
    rintro e w' ⟨rfl, rfl⟩
    go_wp2
    go_ret2
    exact ⟨_, rfl, own_empty _ _ (Nat.le_refl _), (Below.refl _ _).alloc (Nat.le_refl _) _⟩
end

section
open Go.RowKit

def facR : Nat → Nat
  | 0 => 1
  | k + 1 => (k + 1) * facR k

theorem facR_mono {a b : Nat} (h : a ≤ b) : facR a ≤ facR b := by
  induction b with
  | zero => obtain rfl : a = 0 := by omega
            exact Nat.le_refl _
  | succ b ih =>
    by_cases e : a = b + 1
    · rw [e]; exact Nat.le_refl _
    · exact Nat.le_trans (ih (by omega)) (Nat.le_mul_of_pos_left _ (Nat.succ_pos b))
theorem facR_mul (a b : Nat) : facR a * facR b ≤ facR (a + b) := by
  induction b with
  | zero => simp [facR]
  | succ b ih =>
    show facR a * ((b + 1) * facR b) ≤ (a + b + 1) * facR (a + b)
    rw [Nat.mul_left_comm]
    exact Nat.mul_le_mul (by omega) ih

def facP (l : List Int) : Nat := l.foldr (fun x a => facR (x - 1).toNat * a) 1
def sumN (l : List Int) : Nat := l.foldr (fun x a => x.toNat + a) 0

theorem facP_append (l m : List Int) : facP (l ++ m) = facP l * facP m := by
  induction l with
  | nil => simp [facP]
  | cons x l ih =>
    show facR (x - 1).toNat * facP (l ++ m) = facR (x - 1).toNat * facP l * facP m
    rw [ih, Nat.mul_assoc]
theorem facP_snoc (l : List Int) (x : Int) : facP (l ++ [x]) = facP l * facR (x - 1).toNat := by
  rw [facP_append]
  simp [facP]
theorem facP_perm {l m : List Int} (h : l.Perm m) : facP l = facP m := by
  induction h with
  | nil => rfl
  | cons x _ ih => show _ * facP _ = _ * facP _; rw [ih]
  | swap x y l => show _ * (_ * facP l) = _ * (_ * facP l); rw [Nat.mul_left_comm]
  | trans _ _ a b => exact a.trans b
theorem sumN_append (l m : List Int) : sumN (l ++ m) = sumN l + sumN m := by
  induction l with
  | nil => simp [sumN]
  | cons x l ih =>
    show x.toNat + sumN (l ++ m) = x.toNat + sumN l + sumN m
    rw [ih, Nat.add_assoc]
theorem sumN_perm {l m : List Int} (h : l.Perm m) : sumN l = sumN m := by
  induction h with
  | nil => rfl
  | cons x _ ih => show _ + sumN _ = _ + sumN _; rw [ih]
  | swap x y l => show _ + (_ + sumN l) = _ + (_ + sumN l); omega
  | trans _ _ a b => exact a.trans b
theorem facP_le (l : List Int) : facP l ≤ facR (sumN l) := by
  induction l with
  | nil => exact Nat.le_refl _
  | cons x l ih =>
    show facR (x - 1).toNat * facP l ≤ facR (x.toNat + sumN l)
    exact Nat.le_trans (Nat.mul_le_mul (Nat.le_refl _) ih) (Nat.le_trans (facR_mul _ _) (facR_mono (by omega)))
theorem sumN_take (l : List Int) (k : Nat) : sumN (l.take k) ≤ sumN l := by
  have := sumN_append (l.take k) (l.drop k)
  rw [List.take_append_drop] at this
  omega

theorem facR8 : facR 8 = 40320 := by decide

theorem facP_way (l : List Int) (k o : Nat) (hk : k < l.length) (ho : o ≤ (l.getD k 0).toNat) (hs : sumN l ≤ 8) : facP (l.take k) * facR o ≤ 40320 := by
  have h1 := take_snoc l k hk
  have h2 := sumN_take l (k + 1)
  rw [h1, sumN_append] at h2
  have h3 : sumN [l.getD k 0] = (l.getD k 0).toNat := by simp [sumN]
  rw [← facR8]
  exact Nat.le_trans (Nat.mul_le_mul (facP_le _) (Nat.le_refl _)) (Nat.le_trans (facR_mul _ _) (facR_mono (by omega)))

theorem ind_sum (x p : Nat) : ((List.range p).map fun b => if x = b then 1 else 0).sum = if x < p then 1 else 0 := by
  induction p with
  | zero => simp
  | succ p ih =>
    rw [List.range_succ, List.map_append, List.sum_append, ih]
    simp only [List.map_cons, List.map_nil, List.sum_cons, List.sum_nil]
    split <;> split <;> split <;> omega
theorem map_sum_add (l : List Nat) (f g : Nat → Nat) : (l.map fun b => f b + g b).sum = (l.map f).sum + (l.map g).sum := by
  induction l with
  | nil => rfl
  | cons a l ih => simp only [List.map_cons, List.sum_cons, ih]; omega
theorem cnt_sum (xs : List Int) (p : Nat) : ∀ k, (∀ j, j < k → 0 ≤ xs.getD j 0 ∧ xs.getD j 0 < p) → ((List.range p).map fun b => cntAt xs b k).sum = k := by
  intro k
  induction k with
  | zero =>
    intro _
    have : ∀ l : List Nat, (l.map fun b => cntAt xs b 0).sum = 0 := by
      intro l
      induction l with
      | nil => rfl
      | cons a l ih => simp only [List.map_cons, List.sum_cons, ih]; rfl
    exact this _
  | succ k ih =>
    intro h
    obtain ⟨h0, h1⟩ := h k (by omega)
    obtain ⟨x, hx⟩ := Int.eq_ofNat_of_zero_le h0
    have e : (fun b => cntAt xs b (k + 1)) = fun b => cntAt xs b k + if x = b then 1 else 0 := by
      funext b
      rw [cntAt, hx]
      by_cases hb : x = b
      · simp [hb]
      · have : ¬ (x : Int) = (b : Int) := by omega
        simp [hb, this]
    rw [e, map_sum_add, ih (fun j hj => h j (by omega)), ind_sum, if_pos (by omega)]

theorem sizes_sumN {xs : List Int} (hp : partIn xs = true) : sumN (sizes xs) = xs.length := by
  have hs := partIn_small hp
  have hbd := pSize_bd hs
  have := cnt_sum xs (pSize xs).toNat xs.length (fun j hj => ⟨(hs j hj).1, by have := lt_pSize xs j hj; omega⟩)
  rw [← this]
  unfold sizes
  generalize List.range (pSize xs).toNat = l
  induction l with
  | nil => rfl
  | cons a l ih =>
    show ((cntAt xs a xs.length : Nat) : Int).toNat + sumN _ = _
    rw [ih]
    simp

def ringCount (xs : List Int) : Int × Bool := if partIn xs then ((facP (sizes xs) : Nat), true) else (0, false)

set_option maxHeartbeats 800000 in
theorem l2FactR_v (c : Int) (w : World) (h0 : -1 ≤ c) (h8 : c ≤ 7) : Calls Tryz.prog 166 #[.int .i64 c] w fun e w' => e = .returned (.int .i64 (facR c.toNat : Nat)) ∧ w = w' := by
  go_enter Tryz.func166, Tryz.ntmps166
  go_wp2
  go_loop [3, 4] (fun u i => ∃ k : Nat, (k = 1 ∨ (k : Int) ≤ c) ∧ 1 ≤ k ∧ k ≤ 7 ∧ i = .int .i64 ((k + 1 : Nat) : Int) ∧ u = .int .i64 ((facR k : Nat) : Int)) (fun _ i => 9 - (intOf i).toNat)
  case atStart => exact ⟨1, .inl rfl, Nat.le_refl _, by omega, rfl, rfl⟩
  case round =>
    obtain ⟨k, hk, hk1, hk7, rfl, rfl⟩ := hrel
    have hf : facR k ≤ 5040 := facR_mono (b := 7) hk7
    have e1 : facR (k + 1) = (k + 1) * facR k := rfl
    have hle : (k + 1) * facR k ≤ 8 * 5040 := Nat.mul_le_mul (by omega) hf
    have e2 : ((facR k : Nat) : Int) * ((k + 1 : Nat) : Int) = ((facR (k + 1) : Nat) : Int) := by rw [e1, Nat.mul_comm]; simp
    have hn : facR (k + 1) ≤ 40320 := by rw [e1]; exact hle
    have E2 := Lib.hid e2
    have EV : Hid (¬ ((k + 1 : Nat) : Int) ≤ c → facR k = facR c.toNat) := Lib.hid (fun h => by
      rcases hk with rfl | hk
      · rcases (show c.toNat = 0 ∨ c.toNat = 1 by omega) with h | h <;> rw [h] <;> rfl
      · rw [show c.toNat = k by omega])
    obtain ⟨f, hfe⟩ : ∃ f, f = facR k := ⟨_, rfl⟩
    obtain ⟨g, hge⟩ : ∃ g, g = facR (k + 1) := ⟨_, rfl⟩
    obtain ⟨j, hj⟩ : ∃ j, j = k + 1 := ⟨_, rfl⟩
    rw [← hfe] at hf E2 EV ⊢
    rw [← hge] at hn E2
    rw [← hj] at E2 EV ⊢
    have HG := Lib.hid hge
    have HJ := Lib.hid hj
    clear e1 e2 hle hfe hge
    by_cases hlt : (j : Int) ≤ c
    · have hm := E2.out
      have hj7 : j ≤ 7 := by omega
      clear hk hj E2
      have HW : Hid (wrap64 ((f : Int) * (j : Int)) = (g : Int)) := Lib.hid (by rw [hm]; exact IntWalk.wrap64_in _ (by omega))
      clear hm
      go_wp2
      go_round
      case rel => exact ⟨j, .inr hlt, by have := HJ.out; omega, hj7, by go_num, by rw [HW.out, HG.out, ← HJ.out]⟩
      case measure => simp [intOf]; omega
    · have := EV.out hlt
      have HV := Lib.hid this
      clear this hk hj
      go_wp2
      go_ret
      exact ⟨by rw [HV.out]; rfl, rfl⟩

set_option maxHeartbeats 3200000 in
theorem iRingCount_v (v : Value) (xs : List Int) (w : World) (hv : RdV w v xs) : Calls Tryz.prog 216 #[v] w (GivesIB w (ringCount xs)) := by
  have hv0 := hv
  obtain ⟨ao, ca, rfl, h, h1, h2⟩ := hv
  unfold maxLen at h2
  have HV := Lib.hid hv0
  clear hv0 h
  by_cases hp : partIn xs = true
  · have he : ringCount xs = (((facP (sizes xs) : Nat) : Int), true) := by simp [ringCount, hp]
    rw [he]
    have HP := Lib.hid hp
    have hsum := sizes_sumN hp
    have hsm := partIn_small hp
    have hbd := pSize_bd hsm
    have hl := partIn_len hp
    rw [hsum.symm] at hl
    obtain ⟨p, hps⟩ := Int.eq_ofNat_of_zero_le hbd.1
    rw [hps] at hbd
    have HPS := Lib.hid hps
    have hsl : (sizes xs).length = p := by rw [sizes_length]; omega
    have hsz : ∀ b, b < p → (sizes xs).getD b 0 = ((cntAt xs b xs.length : Nat) : Int) := by
      intro b hb
      have : b < (pSize xs).toNat := by omega
      simp [sizes, List.getD, this]
    obtain ⟨l, hle⟩ : ∃ l, l = sizes xs := ⟨_, rfl⟩
    rw [← hle] at hl hsl hsz ⊢
    have HSL := Lib.hid hsl
    have HSZ := Lib.hid hsz
    have HSUM : Hid (sumN l ≤ 8) := Lib.hid hl.2
    have HXL : Hid (xs.length ≤ 8) := Lib.hid (partIn_len hp).2
    clear he hp hsum hsm hps hsl hsz hle hl
    go_enter Tryz.func216, Tryz.ntmps216
    go_wp2_with fail
    refine (iPartIn_is true _ _ _ HV.out HP).mono ?_
    rintro e w' ⟨rfl, rfl⟩
    go_wp2_with fail
    refine (blocksOf_v _ xs p _ HV.out HP.out HPS.out).mono ?_
    rintro e w2 ⟨rfl, hu2, hb2⟩
    have HU := Lib.hid hu2
    have HB := Lib.hid hb2
    clear hu2 hb2
    go_wp2
    go_loopw [4, 14] (fun u i wr => ∃ k : Nat, k ≤ p ∧ i = .int .i64 k ∧ u = .int .i64 ((facP (l.take k) : Nat) : Int) ∧ wr = w2) (fun _ i _ => p - (intOf i).toNat)
    case atStart => exact ⟨0, Nat.zero_le _, rfl, rfl, rfl⟩
    case round =>
      obtain ⟨k, hk, rfl, rfl, rfl⟩ := hrel
      by_cases hlt : k < p
      · have hml : (masks xs xs.length p).length = p := by simp [masks]
        have hcm := ownU_cell HU.out hml.symm k (by omega)
        have hgm : (masks xs xs.length p).getD k 0 = maskAt xs k xs.length := by simp [masks, List.getD, hlt]
        rw [hgm] at hcm
        have hm256 := maskAt_256 xs k xs.length HXL.out
        have hcnt := cnt_mask xs k xs.length HXL.out
        have hz := HSZ.out k hlt
        obtain ⟨m, hm⟩ : ∃ m, m = maskAt xs k xs.length := ⟨_, rfl⟩
        obtain ⟨c, hc⟩ : ∃ c, c = cntAt xs k xs.length := ⟨_, rfl⟩
        rw [← hm] at hcm hm256 hcnt
        rw [← hc] at hcnt hz
        have hway : ∀ o, o ≤ c → facP (l.take k) * facR o ≤ 40320 := fun o ho => facP_way l k o (by rw [HSL.out]; exact hlt) (by rw [hz]; simpa using ho) HSUM.out
        have hend : facP (l.take (k + 1)) = facP (l.take k) * facR (c - 1) := by
          rw [take_snoc l k (by rw [HSL.out]; exact hlt), facP_snoc, hz]
          congr 2
          omega
        have hc8 : c ≤ 8 := by rw [← hcnt]; exact (show ∀ b, b < 256 → cnt b ≤ 8 by decide +kernel) m hm256
        obtain ⟨f, hf⟩ : ∃ f, f = facP (l.take k) := ⟨_, rfl⟩
        rw [← hf] at hway hend ⊢
        have HWAY := Lib.hid hway
        have HEND := Lib.hid hend
        have HCNT := Lib.hid hcnt
        have HF := Lib.hid hf
        clear hml hgm hz hm hc hway hend hcnt hf
        obtain ⟨w3, hw3⟩ : ∃ w3 : World, w3 = wr := ⟨_, rfl⟩
        subst hw3
        go_wp2
        go_loopw [4, 7] (fun u i wq => ∃ o : Nat, (o = 0 ∨ o + 1 ≤ c) ∧ i = .int .i64 ((o + 1 : Nat) : Int) ∧ u = .int .i64 ((f * facR o : Nat) : Int) ∧ wq = w3) (fun _ i _ => 10 - (intOf i).toNat)
        case atStart => exact ⟨0, .inl rfl, rfl, by simp [facR], rfl⟩
        case round =>
          obtain ⟨o, ho, rfl, rfl, rfl⟩ := hrel
          obtain ⟨j, hj⟩ : ∃ j, j = o + 1 := ⟨_, rfl⟩
          rw [← hj]
          have hb1 : f * facR o ≤ 40320 := HWAY.out o (by omega)
          by_cases hjc : j < c
          · have hb2 : f * facR j ≤ 40320 := HWAY.out j (by omega)
            have e2 : ((f * facR o : Nat) : Int) * (j : Int) = ((f * facR j : Nat) : Int) := by
              rw [hj, show facR (o + 1) = (o + 1) * facR o from rfl, ← Nat.mul_assoc, Nat.mul_right_comm, ← Int.natCast_mul]
            have HW : Hid (wrap64 (((f * facR o : Nat) : Int) * (j : Int)) = ((f * facR j : Nat) : Int)) := Lib.hid (by rw [e2]; exact IntWalk.wrap64_in _ (by omega))
            obtain ⟨a, ha⟩ : ∃ a, a = f * facR o := ⟨_, rfl⟩
            obtain ⟨b, hb⟩ : ∃ b, b = f * facR j := ⟨_, rfl⟩
            rw [← ha] at hb1 HW ⊢
            rw [← hb] at hb2 HW
            have HBB := Lib.hid hb
            have hj8 : j ≤ 8 := by omega
            have hjc' : (j : Int) < (c : Int) := by omega
            clear e2 ho hj ha hb
            go_wp2_with fail
            refine (size_any m _ hm256).mono ?_
            rintro e w' ⟨rfl, rfl⟩
            rw [HCNT.out]
            go_wp2
            go_roundw
            case rel => exact ⟨j, .inr (by omega), by go_num, by first | rw [HW.out, HBB.out] | rw [HBB.out, HW.out], trivial⟩
            case measure => simp [intOf]; omega
          · have hoe : facR o = facR (c - 1) := by
              rcases ho with rfl | ho
              · rcases (show c - 1 = 0 by omega) with h
                rw [h]
              · rw [show o = c - 1 by omega]
            have hend := HEND.out
            rw [← hoe] at hend
            have HEND2 := Lib.hid hend
            obtain ⟨a, ha⟩ : ∃ a, a = f * facR o := ⟨_, rfl⟩
            rw [← ha] at hb1 HEND2 ⊢
            have hjc' : ¬ (j : Int) < (c : Int) := by omega
            clear hend hoe ho hj ha
            go_wp2_with fail
            refine (size_any m _ hm256).mono ?_
            rintro e w' ⟨rfl, rfl⟩
            rw [HCNT.out]
            go_wp2
            go_roundw
            case rel => exact ⟨k + 1, by omega, by go_num, by rw [HEND2.out], trivial⟩
            case measure => simp [intOf]; omega
      · have hkp : k = p := by omega
        subst hkp
        have ht : l.take k = l := List.take_of_length_le (by rw [HSL.out]; exact Nat.le_refl _)
        rw [ht]
        go_wp2
        go_ret2
        exact ⟨rfl, HB.out⟩
  · have hp : partIn xs = false := by simpa using hp
    have he : ringCount xs = (0, false) := by simp [ringCount, hp]
    rw [he]
    have HP := Lib.hid hp
    clear he hp
    go_enter Tryz.func216, Tryz.ntmps216
    go_wp2_with fail
    refine (iPartIn_is false _ _ _ HV.out HP).mono ?_
    rintro e w' ⟨rfl, rfl⟩
    go_wp2
    go_ret2
    exact ⟨rfl, Below.refl _ _⟩

set_option maxHeartbeats 3200000 in
theorem sRingCount_v (v : Value) (xs : List Int) (w : World) (hv : RdV w v xs) : Calls Tryz.prog 99 #[v] w (GivesIB w (ringCount xs)) := by
  have hv0 := hv
  obtain ⟨ao, ca, rfl, h, h1, h2⟩ := hv
  unfold maxLen at h2
  have HV := Lib.hid hv0
  clear hv0 h
  by_cases hp : partIn xs = true
  · have he : ringCount xs = (((facP (desc (sizes xs)) : Nat) : Int), true) := by simp [ringCount, hp, facP_perm (desc_perm (sizes xs))]
    rw [he]
    have HP := Lib.hid hp
    have hsum := sizes_sumN hp
    rw [← sumN_perm (desc_perm (sizes xs))] at hsum
    have hl := (partIn_len hp).2
    rw [← hsum] at hl
    have hnn : ∀ k, k < (desc (sizes xs)).length → 0 ≤ (desc (sizes xs)).getD k 0 ∧ (desc (sizes xs)).getD k 0 ≤ 8 := by
      intro k hk
      have hm : (desc (sizes xs)).getD k 0 ∈ sizes xs := (desc_perm (sizes xs)).mem_iff.1 (by
        simp [List.getD, hk])
      obtain ⟨b, _, hb⟩ := List.mem_map.1 hm
      have := cntAt_le xs b xs.length
      have := (partIn_len hp).2
      omega
    have hlen : (desc (sizes xs)).length ≤ 8 := by
      have := pSize_bd (partIn_small hp)
      rw [desc_length, sizes_length]; omega
    obtain ⟨l, hle⟩ : ∃ l, l = desc (sizes xs) := ⟨_, rfl⟩
    have HLE := Lib.hid hle
    rw [← hle] at hl hnn hlen ⊢
    obtain ⟨p, hpl⟩ : ∃ p, p = l.length := ⟨_, rfl⟩
    rw [← hpl] at hnn hlen
    have HNN := Lib.hid hnn
    have HPL := Lib.hid hpl
    have HSUM : Hid (sumN l ≤ 8) := Lib.hid hl
    clear he hp hsum hnn hle hl hpl
    go_enter Tryz.func99, Tryz.ntmps99
    go_wp2_with fail
    refine (sPartIn_is true _ _ _ HV.out HP).mono ?_
    rintro e w' ⟨rfl, rfl⟩
    go_wp2_with fail
    refine (l1Type_v _ xs _ HV.out HP.out).mono ?_
    rw [← HLE.out]
    rintro e w2 ⟨u, rfl, ho, hb⟩
    obtain ⟨ao2, ca2, rfl, hrd, _, _⟩ := own_rd ho
    rw [← HPL.out]
    have HRD := Lib.hid hrd
    have HB := Lib.hid hb
    clear ho hrd hb
    go_wp2
    go_loopw [4, 6] (fun u i wr => ∃ k : Nat, k ≤ p ∧ i = .int .i64 k ∧ u = .int .i64 ((facP (l.take k) : Nat) : Int) ∧ wr = w2) (fun _ i _ => p - (intOf i).toNat)
    case atStart => exact ⟨0, Nat.zero_le _, rfl, rfl, rfl⟩
    case round =>
      obtain ⟨k, hk, rfl, rfl, rfl⟩ := hrel
      by_cases hlt : k < p
      · rcases HRD.out with hx | ⟨bb, off, rfl, hcx⟩
        · have := HPL.out
          rw [hx] at this
          simp at this
          omega
        · have hck := hcx k (by have := HPL.out; omega)
          clear hcx
          obtain ⟨hn0, hn8⟩ := HNN.out k hlt
          have hway := facP_way l k ((l.getD k 0 - 1).toNat) (by have := HPL.out; omega) (by omega) HSUM.out
          have hw0 := facP_way l k 0 (by have := HPL.out; omega) (by omega) HSUM.out
          rw [show facR 0 = 1 from rfl, Nat.mul_one] at hw0
          have hts := take_snoc l k (by have := HPL.out; omega)
          have hend : facP (l.take (k + 1)) = facP (l.take k) * facR (l.getD k 0 - 1).toNat := by rw [hts, facP_snoc]
          obtain ⟨x, hx⟩ : ∃ x, x = l.getD k 0 := ⟨_, rfl⟩
          obtain ⟨f, hf⟩ : ∃ f, f = facP (l.take k) := ⟨_, rfl⟩
          obtain ⟨g, hg⟩ : ∃ g, g = facR (x - 1).toNat := ⟨_, rfl⟩
          rw [← hx] at hck hn0 hn8 hway hend
          rw [← hf] at hway hw0 hend ⊢
          rw [← hg] at hway hend
          have HEND := Lib.hid hend
          have HG := Lib.hid hg
          have HW : Hid (wrap64 ((f : Int) * (g : Int)) = ((f * g : Nat) : Int)) := Lib.hid (by rw [← Int.natCast_mul]; exact IntWalk.wrap64_in _ (by omega))
          have hg7 : g ≤ 5040 := by rw [hg]; exact facR_mono (b := 7) (by omega)
          clear hts hend hx hf hg hway
          go_wp2_with fail
          refine (l2FactR_v (x - 1) _ (by omega) (by omega)).mono ?_
          rintro e w' ⟨rfl, rfl⟩
          rw [← HG.out]
          go_wp2
          go_roundw
          case rel => exact ⟨k + 1, by omega, by go_num, by first | rw [HW.out, HEND.out] | rw [HEND.out, HW.out], trivial⟩
          case measure => simp [intOf]; omega
      · have hkp : k = p := by omega
        have ht : l.take k = l := List.take_of_length_le (by have := HPL.out; omega)
        rw [ht]
        subst hkp
        go_wp2
        go_ret2
        exact ⟨rfl, HB.out⟩
  · have hp : partIn xs = false := by simpa using hp
    have he : ringCount xs = (0, false) := by simp [ringCount, hp]
    rw [he]
    have HP := Lib.hid hp
    clear he hp
    go_enter Tryz.func99, Tryz.ntmps99
    go_wp2_with fail
    refine (sPartIn_is false _ _ _ HV.out HP).mono ?_
    rintro e w' ⟨rfl, rfl⟩
    go_wp2
    go_ret2
    exact ⟨rfl, Below.refl _ _⟩
end

def ltP (p q : Nat × Nat) : Prop := p.1 < q.1 ∨ (p.1 = q.1 ∧ p.2 < q.2)
instance (p q : Nat × Nat) : Decidable (ltP p q) := by unfold ltP; exact inferInstance
def allP (n : Nat) : List (Nat × Nat) := (List.range n).flatMap fun i => ((List.range n).filter fun k => decide (i < k)).map fun k => (i, k)
theorem mem_allP {n i k : Nat} : (i, k) ∈ allP n ↔ i < k ∧ k < n := by
  unfold allP
  simp only [List.mem_flatMap, List.mem_map, List.mem_filter, List.mem_range, decide_eq_true_eq, Prod.mk.injEq]
  constructor
  · rintro ⟨a, ha, b, ⟨hb, hab⟩, rfl, rfl⟩
    exact ⟨hab, hb⟩
  · rintro ⟨h1, h2⟩
    exact ⟨i, by omega, k, ⟨h2, h1⟩, rfl, rfl⟩
def encP (p : Nat × Nat) : List Int := [(p.1 : Int), (p.2 : Int)]
def encPs (L : List (Nat × Nat)) : List (List Int) := L.map encP
theorem encPs_length (L : List (Nat × Nat)) : (encPs L).length = L.length := by simp [encPs]

def ofP (xs : List Int) : List (Nat × Nat) := (allP xs.length).filter fun p => xs.getD p.1 0 == xs.getD p.2 0

def selRow (f : Nat × Nat → Bool) (i k : Nat) : List (Nat × Nat) := ((List.range k).filter fun j => decide (i < j) && f (i, j)).map fun j => (i, j)
def selRows (f : Nat × Nat → Bool) (n i : Nat) : List (Nat × Nat) := (List.range i).flatMap fun r => selRow f r n

theorem selRow_start (f : Nat × Nat → Bool) (i k : Nat) (h : k ≤ i + 1) : selRow f i k = [] := by
  unfold selRow
  rw [List.map_eq_nil_iff, List.filter_eq_nil_iff]
  intro j hj
  rw [List.mem_range] at hj
  simp
  omega
theorem selRow_next (f : Nat × Nat → Bool) (i k : Nat) (h : i < k) : selRow f i (k + 1) = selRow f i k ++ if f (i, k) then [(i, k)] else [] := by
  unfold selRow
  rw [List.range_succ, List.filter_append, List.map_append]
  congr 1
  simp only [List.filter_cons, List.filter_nil, decide_eq_true h, Bool.true_and]
  cases f (i, k) <;> rfl
theorem selRows_next (f : Nat × Nat → Bool) (n i : Nat) : selRows f n (i + 1) = selRows f n i ++ selRow f i n := by
  unfold selRows
  rw [List.range_succ, List.flatMap_append]
  simp
theorem sel_all (f : Nat × Nat → Bool) (n : Nat) : (allP n).filter f = selRows f n n := by
  unfold allP selRows selRow
  rw [List.filter_flatMap]
  congr 1
  funext i
  rw [List.filter_map, List.filter_filter]
  congr 1
  apply List.filter_congr
  intro j _
  simp only [Function.comp]
  rw [Bool.and_comm]
theorem selRow_len (f : Nat × Nat → Bool) (i k : Nat) : (selRow f i k).length ≤ k := by
  unfold selRow
  rw [List.length_map]
  have := List.length_filter_le (fun j => decide (i < j) && f (i, j)) (List.range k)
  rw [List.length_range] at this
  exact this
theorem selRows_len (f : Nat × Nat → Bool) (n i : Nat) : (selRows f n i).length ≤ i * n := by
  induction i with
  | zero => simp [selRows]
  | succ i ih =>
    rw [selRows_next, List.length_append, Nat.succ_mul]
    have := selRow_len f i n
    omega
theorem sel_len (f : Nat × Nat → Bool) {n i k : Nat} (hn : n ≤ 100) (hi : i ≤ n) (hk : k ≤ n) : (selRows f n i ++ selRow f i k).length ≤ 10100 := by
  rw [List.length_append]
  have h1 := selRows_len f n i
  have h2 := selRow_len f i k
  have h3 := Nat.mul_le_mul (Nat.le_trans hi hn) hn
  omega
theorem ofP_sel (xs : List Int) : ofP xs = selRows (fun p => xs.getD p.1 0 == xs.getD p.2 0) xs.length xs.length := sel_all _ _
theorem encPs_append (L M : List (Nat × Nat)) : encPs (L ++ M) = encPs L ++ encPs M := by simp [encPs]

section
open Go.RowKit

theorem cells_two {w : World} {x y : Value} {t : TypeId} {n : Nat} (hn : n = w.heap.size) : (w.alloc (.cells #[x, y] t)).cell? ⟨n, 0, none⟩ = some x ∧ (w.alloc (.cells #[x, y] t)).cell? ⟨n, 1, none⟩ = some y := by
  subst hn
  have h := heap_alloc_new w (.cells #[x, y] t)
  simp only [World.cell?, h]
  exact ⟨rfl, rfl⟩
end

section
open Go.RowKit

def OwnP (w : World) (B : Nat) (v : Value) (L : List (Nat × Nat)) : Prop := w.ownsRow B 221 2 v L.length (arcC L)

theorem ownP_nil (w : World) (B : Nat) : OwnP w B (.slice none 0 0) [] := World.ownsRow_nil _ _ _ _
theorem ownP_alloc {w : World} {B : Nat} {v : Value} {L : List (Nat × Nat)} (h : OwnP w B v L) (o : Obj) : OwnP (w.alloc o) B v L := World.ownsRow.alloc h o
def CellsP (w : World) (b off : Nat) (L : List (Nat × Nat)) : Prop := ∀ j, j < L.length → w.cell? ⟨b, off + j * 2, none⟩ = some (.int .i64 (L.getD j (0, 0)).1) ∧ w.cell? ⟨b, off + j * 2 + 1, none⟩ = some (.int .i64 (L.getD j (0, 0)).2)
def RdP (w : World) (v : Value) (L : List (Nat × Nat)) : Prop :=
  ∃ ao cap, v = .slice ao L.length cap ∧ L.length ≤ cap ∧ cap ≤ maxLen ∧ (L = [] ∨ ∃ b off, ao = some ⟨b, off, none⟩ ∧ CellsP w b off L)
theorem ownP_view {w : World} {B : Nat} {v : Value} {L : List (Nat × Nat)} (h : OwnP w B v L) :
    (v = .slice none 0 0 ∧ L = []) ∨ ∃ g cap, v = .slice (some ⟨g, 0, none⟩) L.length cap ∧ B ≤ g ∧ g < w.heap.size ∧ L.length ≤ cap ∧ cap ≤ maxLen ∧ CellsP w g 0 L := by
  have h0 := h
  rcases h.2 with ⟨hv, hn⟩ | ⟨g, cap, cur, hv, hb, hg, hnc, hcm, hcs, htk⟩
  · exact .inl ⟨hv, List.eq_nil_of_length_eq_zero hn⟩
  · refine .inr ⟨g, cap, hv, hb, (Array.getElem?_eq_some_iff.1 hg).1, hnc, hcm, fun j hj => ?_⟩
    obtain ⟨h1, h2⟩ := arcC_at L j hj
    have hc := fun j u h => World.ownsRow.cells h0 (g := g) (by rw [hv]; rfl) j u h
    have e1 := hc _ _ h1
    have e2 := hc _ _ h2
    rw [Addr.add_lit] at e1 e2
    exact ⟨e1, by rw [show 0 + j * 2 + 1 = 0 + (j * 2 + 1) by omega]; exact e2⟩

theorem ownP_rd {w : World} {B : Nat} {v : Value} {L : List (Nat × Nat)} (h : OwnP w B v L) : RdP w v L := by
  rcases ownP_view h with ⟨rfl, rfl⟩ | ⟨g, cap, rfl, _, _, h1, h2, h3⟩
  · exact ⟨none, 0, rfl, Nat.le_refl _, Nat.zero_le _, .inl rfl⟩
  · exact ⟨_, cap, rfl, h1, h2, .inr ⟨g, 0, rfl, h3⟩⟩

theorem Tryz.infoPair : (Tryz.prog.info? 221).map (fun i => (i.zero, i.size, i.bytes)) = some (some (.agg #[.int .i64 0, .int .i64 0]), 2, 16) := by kernel_rfl

theorem wpList_pushP {w : World} {ops : Array Oper} {rest : List Oper} {o : Oper} {a : Act} {Q : Exit → Act → World → Prop} (hgd : o.guard = none) (s x : Operand)
    (ho : o.op = .call { callee := .builtin .append, args := #[s, x], argTypes := #[192, 192] })
    (B : Nat) (v : Value) (L : List (Nat × Nat)) (hs : a.eval s = v) (hown : OwnP w B v L)
    (g : Nat) (hx : a.eval x = .slice (some ⟨g, 0, none⟩) 1 1) (p : Nat × Nat) (hc1 : w.cell? ⟨g, 0, none⟩ = some (.int .i64 p.1)) (hc2 : w.cell? ⟨g, 1, none⟩ = some (.int .i64 p.2)) (hl : L.length ≤ 1000000000) (hB : B ≤ w.heap.size)
    (h : ∀ v' w', OwnP w' B v' (L ++ [p]) → w.grownBy w' v.ownBlock → wpList Tryz.prog ops Q rest (a.put o.dst v') w') :
    wpList Tryz.prog ops Q (o :: rest) a w := by
  obtain ⟨i0, hi, hz0, hz1, hz2⟩ := info_parts Tryz.infoPair
  refine wpList_append_own w hgd s x 192 ho B 221 i0 (.agg #[.int .i64 0, .int .i64 0]) 2 16 Tryz.underlying192 hi hz0 hz1 hz2 rfl (by decide) v L.length (arcC L) hs hown ⟨g, 0, none⟩ 1 1 [.int .i64 p.1, .int .i64 p.2] hx rfl ?_ ?_ (by unfold maxLen; omega) (by omega) hB ?_
  · intro j u hj
    match j, hj with
    | 0, hj =>
      simp at hj
      subst hj
      simpa [Addr.add] using hc1
    | 1, hj =>
      simp at hj
      subst hj
      simpa [Addr.add] using hc2
  · intro u hu
    simp at hu
    rcases hu with rfl | rfl <;> rfl
  · intro v' w' ho' hg' _
    refine h v' w' ?_ hg'
    unfold OwnP
    rw [arcC_append, List.length_append]
    exact ho'

def FreshP (w : World) (L : List (Nat × Nat)) (e : Ending) (w' : World) : Prop := ∃ v, e = .returned v ∧ OwnP w' w.heap.size v L ∧ Below w.heap.size w w'

theorem cellSt {w w' : World} {p : Addr} {v : Value} (h : w.cell? p = some v) (hb : Below w.heap.size w w') : w'.cell? p = some v := by
  rw [hb.cell (World.block_lt_of_cell? w _ h)]
  exact h
end

section
open Go.RowKit

theorem take_snocP (L : List (Nat × Nat)) (k : Nat) (h : k < L.length) : L.take (k + 1) = L.take k ++ [L.getD k (0, 0)] := by
  rw [List.take_add_one, List.getElem?_eq_getElem h]
  simp [List.getD, h]

theorem allP_le (m : Nat) (h : m ≤ 6) : (allP m).length ≤ 15 := by
  have : ∀ m, m < 7 → (allP m).length ≤ 15 := by decide +kernel
  exact this m (by omega)
end

section
open Go.RowKit

set_option maxHeartbeats 4000000 in
theorem l8Of_any (v : Value) (xs : List Int) (w : World) (hv : RdV w v xs) (hl8 : xs.length ≤ 8) : Calls Tryz.prog 167 #[v] w (FreshM w (encPs (ofP xs))) := by
  rw [ofP_sel]
  obtain ⟨ao, ca, rfl, hx, hlc, hcm⟩ := hv
  obtain ⟨n, hn⟩ : ∃ n, n = xs.length := ⟨_, rfl⟩
  obtain ⟨f, hf⟩ : ∃ f : Nat × Nat → Bool, f = fun p => xs.getD p.1 0 == xs.getD p.2 0 := ⟨_, rfl⟩
  have HF : Hid (∀ i k, f (i, k) = (xs.getD i 0 == xs.getD k 0)) := Lib.hid fun i k => by rw [hf]
  rw [← hn] at hl8 hlc ⊢
  rw [← hf]
  have HN := Lib.hid hn
  have HX := Lib.hid hx
  clear hn hx hf
  go_enter Tryz.func167, Tryz.ntmps167
  go_wp2
  go_loopw [3, 4] (fun u i wr => ∃ (k : Nat), k ≤ n ∧ i = .int .i64 k ∧ OwnM wr w.heap.size wr.heap.size u (encPs (selRows f n k)) ∧ Below w.heap.size w wr) (fun _ i _ => n - (intOf i).toNat)
  case atStart => exact ⟨0, Nat.zero_le _, rfl, by simpa [selRows, encPs] using ownM_empty w _ (Nat.le_refl _), (Below.refl _ _).alloc (Nat.le_refl _) _⟩
  case round =>
    obtain ⟨k, hk, rfl, hown, hbel⟩ := hrel
    by_cases hlt : k < n
    · have HO1 := Lib.hid hown
      have HB1 := Lib.hid hbel
      obtain ⟨wo, hwo⟩ : ∃ wo : World, wo = wr := ⟨_, rfl⟩
      have HWO := Lib.hid hwo
      clear hown hbel
      go_wp2
      go_loopw [3, 5] (fun u i wr => ∃ (t : Nat), k + 1 ≤ t ∧ t ≤ n ∧ i = .int .i64 t ∧ OwnM wr w.heap.size wr.heap.size u (encPs (selRows f n k ++ selRow f k t)) ∧ Below w.heap.size w wr) (fun _ i _ => n - (intOf i).toNat)
      case atStart => exact ⟨k + 1, Nat.le_refl _, by omega, by go_num, by rw [selRow_start f k (k + 1) (Nat.le_refl _), List.append_nil]; exact HO1.out, HB1.out⟩
      case round =>
        obtain ⟨t, ht1, ht, rfl, hown, hbel⟩ := hrel
        have HO := Lib.hid hown
        have hbs := hbel.size
        clear hown
        by_cases htn : t < n
        · rcases HX.out with hx | ⟨bb, off, rfl, hcx⟩
          · have := HN.out
            rw [hx] at this
            simp at this
            omega
          have hc1 := cellSt (hcx k (by have := HN.out; omega)) hbel
          have hc2 := cellSt (hcx t (by have := HN.out; omega)) hbel
          have hst := selRow_next f k t (by omega)
          rw [HF.out] at hst
          have hll := sel_len f (n := n) (i := k) (k := t) (by omega) hk ht
          obtain ⟨x, hx⟩ : ∃ x, x = xs.getD k 0 := ⟨_, rfl⟩
          obtain ⟨y, hy⟩ : ∃ y, y = xs.getD t 0 := ⟨_, rfl⟩
          rw [← hx] at hc1 hst
          rw [← hy] at hc2 hst
          obtain ⟨A, hA⟩ : ∃ A, A = selRows f n k ++ selRow f k t := ⟨_, rfl⟩
          have hst2 : selRows f n k ++ selRow f k (t + 1) = A ++ if x == y then [(k, t)] else [] := by rw [hA, hst, List.append_assoc]
          rw [← hA] at HO hll
          obtain ⟨m, hm⟩ : ∃ m, m = A.length := ⟨_, rfl⟩
          rw [← hm] at hll
          have HM := Lib.hid hm
          have HST := Lib.hid hst2
          have b0 : (k : Int) < n := by omega
          have b1 : (t : Int) < n := by omega
          clear hcx hst hst2 hx hy hA hm
          by_cases hxy : x = y
          · have hd : (x == y) = true := by simpa using hxy
            have HSE : Hid (selRows f n k ++ selRow f k (t + 1) = A ++ [(k, t)]) := Lib.hid (by rw [HST.out, if_pos hd])
            clear hxy
            go_wp2
            go_quiet (fail)
            have hcell := cell_new1 ((wr.drewN nq).alloc (.cells #[.int .i64 k, .int .i64 t] 3)) (.slice (some ⟨wr.heap.size, 0, none⟩) 2 2) 26
            rw [show ((wr.drewN nq).alloc (.cells #[.int .i64 k, .int .i64 t] 3)).heap.size = wr.heap.size + 1 by simp] at hcell
            have hou : Own (((wr.drewN nq).alloc (.cells #[.int .i64 k, .int .i64 t] 3)).alloc (.cells #[.slice (some ⟨wr.heap.size, 0, none⟩) 2 2] 26)) w.heap.size (.slice (some ⟨wr.heap.size, 0, none⟩) 2 2) [(k : Int), (t : Int)] := own_alloc (own_two (wr.drewN nq) w.heap.size k t (by simp; omega)) _
            have hb3 := ((below_drewN (Below.refl wr.heap.size wr) nq).alloc (by simp) (.cells #[.int .i64 k, .int .i64 t] 3)).alloc (by simp) (.cells #[.slice (some ⟨wr.heap.size, 0, none⟩) 2 2] 26)
            have HOM := Lib.hid (ownM_below HO.out hb3)
            have HBQ := Lib.hid (below_step hbel hb3)
            have HCE := Lib.hid hcell
            have HOU := Lib.hid hou
            clear hcell hou hb3
            go_wp2_with (at_builtin; refine wpList_pushV rfl _ _ rfl w.heap.size wr.heap.size m _ (encPs A) rfl HOM.out (by rw [HM.out, encPs_length]) ⟨wr.heap.size + 1, 0, none⟩ rfl _ _ HCE.out HOU.out (fun q hq => by simp [Value.ownBlock] at hq; simp; omega) hbs (by simp; omega) (by omega) ?_; intro g4 cap4 w4 hown4 hgr4)
            have hbel4 : Below w.heap.size w w4 := HBQ.out.grown hgr4 (by simp; omega) (fun q hq => by
              obtain ⟨vs, hr⟩ := ownM_row0 HOM.out
              exact (World.ownsRow.lt hr q hq).1)
            have HO4 := Lib.hid hown4
            clear hown4 hgr4
            go_wp2
            go_roundw
            case rel => exact ⟨t + 1, by omega, by omega, by go_num, by rw [HSE.out, encPs_append]; exact HO4.out, hbel4⟩
            case measure => simp [intOf]; omega
          · have hd : (x == y) = false := by simpa using hxy
            have HSE : Hid (selRows f n k ++ selRow f k (t + 1) = A) := Lib.hid (by rw [HST.out, hd]; simp)
            clear hxy
            go_wp2
            go_quiet (fail)
            go_wp2
            go_roundw
            case rel => exact ⟨t + 1, by omega, by omega, by go_num, by rw [HSE.out]; exact ownM_mono (ownM_below HO.out (below_drewN (Below.refl _ _) _)) (Nat.le_refl _) (by simp), below_drewN hbel _⟩
            case measure => simp [intOf]; omega
        · have htn' : t = n := by omega
          subst htn'
          go_wp2
          go_roundw
          case rel => exact ⟨k + 1, by omega, by go_num, by rw [selRows_next]; exact HO.out, hbel⟩
          case measure => simp [intOf]; omega
    · have hkn : k = n := by omega
      subst hkn
      go_wp2
      go_ret
      exact ⟨_, rfl, hown, hbel⟩

set_option maxHeartbeats 4000000 in
theorem pairsOf_any (v : Value) (xs : List Int) (w : World) (hv : RdV w v xs) (hl8 : xs.length ≤ 8) : Calls Tryz.prog 271 #[v] w (FreshP w (ofP xs)) := by
  rw [ofP_sel]
  obtain ⟨ao, ca, rfl, hx, hlc, hcm⟩ := hv
  obtain ⟨n, hn⟩ : ∃ n, n = xs.length := ⟨_, rfl⟩
  obtain ⟨f, hf⟩ : ∃ f : Nat × Nat → Bool, f = fun p => xs.getD p.1 0 == xs.getD p.2 0 := ⟨_, rfl⟩
  have HF : Hid (∀ i k, f (i, k) = (xs.getD i 0 == xs.getD k 0)) := Lib.hid fun i k => by rw [hf]
  rw [← hn] at hl8 hlc ⊢
  rw [← hf]
  have HN := Lib.hid hn
  have HX := Lib.hid hx
  clear hn hx hf
  go_enter Tryz.func271, Tryz.ntmps271
  go_wp2
  go_loopw [3, 9] (fun u i wr => ∃ (k : Nat), k ≤ n ∧ i = .int .i64 k ∧ OwnP wr w.heap.size u (selRows f n k) ∧ Below w.heap.size w wr) (fun _ i _ => n - (intOf i).toNat)
  case atStart => exact ⟨0, Nat.zero_le _, rfl, ownP_nil _ _, Below.refl _ _⟩
  case round =>
    obtain ⟨k, hk, rfl, hown, hbel⟩ := hrel
    by_cases hlt : k < n
    · have HO1 := Lib.hid hown
      have HB1 := Lib.hid hbel
      rcases HX.out with hx | ⟨bb, off, rfl, hcx⟩
      · have := HN.out
        rw [hx] at this
        simp at this
        omega
      have hc1 := cellSt (hcx k (by have := HN.out; omega)) hbel
      obtain ⟨x, hx⟩ : ∃ x, x = xs.getD k 0 := ⟨_, rfl⟩
      rw [← hx] at hc1
      have HXK := Lib.hid hx
      have HCX := Lib.hid hcx
      have b0 : (k : Int) < n := by omega
      clear hown hbel hx hcx
      go_wp2
      go_loopw [3, 6] (fun u i wr => ∃ (t : Nat), k + 1 ≤ t ∧ t ≤ n ∧ i = .int .i64 t ∧ OwnP wr w.heap.size u (selRows f n k ++ selRow f k t) ∧ Below w.heap.size w wr) (fun _ i _ => n - (intOf i).toNat)
      case atStart => exact ⟨k + 1, Nat.le_refl _, by omega, by go_num, by rw [selRow_start f k (k + 1) (Nat.le_refl _), List.append_nil]; exact HO1.out, HB1.out⟩
      case round =>
        obtain ⟨t, ht1, ht, rfl, hown, hbel⟩ := hrel
        have HO := Lib.hid hown
        have hbs := hbel.size
        clear hown
        by_cases htn : t < n
        · have hc2 := cellSt (HCX.out t (by have := HN.out; omega)) hbel
          have hst := selRow_next f k t (by omega)
          rw [HF.out, ← HXK.out] at hst
          have hll := sel_len f (n := n) (i := k) (k := t) (by omega) hk ht
          obtain ⟨y, hy⟩ : ∃ y, y = xs.getD t 0 := ⟨_, rfl⟩
          rw [← hy] at hc2 hst
          obtain ⟨A, hA⟩ : ∃ A, A = selRows f n k ++ selRow f k t := ⟨_, rfl⟩
          have hst2 : selRows f n k ++ selRow f k (t + 1) = A ++ if x == y then [(k, t)] else [] := by rw [hA, hst, List.append_assoc]
          rw [← hA] at HO hll
          have HLL := Lib.hid hll
          have HST := Lib.hid hst2
          have b1 : (t : Int) < n := by omega
          clear hst hst2 hy hA hll
          by_cases hxy : x = y
          · have hd : (y == x) = true := by simpa using hxy.symm
            have HSE : Hid (selRows f n k ++ selRow f k (t + 1) = A ++ [(k, t)]) := Lib.hid (by rw [HST.out, if_pos (by simpa using hxy)])
            have HBQ := Lib.hid (hbel.alloc hbs (.cells #[.int .i64 k, .int .i64 t] 221))
            clear hxy
            go_wp2_with (at_builtin; refine wpList_pushP rfl _ _ rfl w.heap.size _ A rfl (ownP_alloc HO.out _) wr.heap.size rfl (k, t) (cells_two rfl).1 (cells_two rfl).2 (by have := HLL.out; omega) (by simp; omega) ?_; intro v9 w9 ho9 hg9)
            have hbel9 : Below w.heap.size w w9 := HBQ.out.grown hg9 (by simp; omega) fun j hj => (World.ownsRow.lt HO.out j hj).1
            have HO9 := Lib.hid ho9
            clear ho9 hg9
            go_wp2
            go_roundw
            case rel => exact ⟨t + 1, by omega, by omega, by go_num, by rw [HSE.out]; exact HO9.out, hbel9⟩
            case measure => simp [intOf]; omega
          · have hd : (y == x) = false := by simpa using fun e : y = x => hxy e.symm
            have HSE : Hid (selRows f n k ++ selRow f k (t + 1) = A) := Lib.hid (by rw [HST.out, if_neg (by simpa using hxy)]; simp)
            have hne : ¬ (y = x) := fun e => hxy e.symm
            clear hxy
            go_wp2
            go_roundw
            case rel => exact ⟨t + 1, by omega, by omega, by go_num, by rw [HSE.out]; exact HO.out, hbel⟩
            case measure => simp [intOf]; omega
        · have htn' : t = n := by omega
          subst htn'
          go_wp2
          go_roundw
          case rel => exact ⟨k + 1, by omega, by go_num, by rw [selRows_next]; exact HO.out, hbel⟩
          case measure => simp [intOf]; omega
    · have hkn : k = n := by omega
      subst hkn
      go_wp2
      go_ret
      exact ⟨_, rfl, hown, hbel⟩

theorem ownM_made0 {w : World} {B S g n : Nat} (h : w.ownsRow B 26 1 (.slice (some ⟨g, 0, none⟩) 0 n) 0 []) (hg : B ≤ g ∧ g < S) : OwnM w B S (.slice (some ⟨g, 0, none⟩) 0 n) [] :=
  ⟨[], rfl, h, fun k hk => by simp [Value.ownBlock] at hk; omega, fun i hi => by simp at hi, fun i j _ hj => by simp at hj⟩
theorem encPs_take (L : List (Nat × Nat)) (k : Nat) (h : k < L.length) : encPs (L.take (k + 1)) = encPs (L.take k) ++ [encP (L.getD k (0, 0))] := by
  rw [take_snocP L k h, encPs_append]
  rfl

set_option maxHeartbeats 4000000 in
theorem pairLists_any (v : Value) (L : List (Nat × Nat)) (w : World) (hv : RdP w v L) (hl : L.length ≤ 1000) : Calls Tryz.prog 270 #[v] w (FreshM w (encPs L)) := by
  obtain ⟨ao, ca, rfl, hlc, hcm, hx⟩ := hv
  obtain ⟨n, hn⟩ : ∃ n, n = L.length := ⟨_, rfl⟩
  rw [← hn] at hlc hl ⊢
  have HN := Lib.hid hn
  have HX := Lib.hid hx
  obtain ⟨i0, hi, hz0, hz1, hz2⟩ := info_parts Tryz.infoInts
  clear hn hx
  go_enter Tryz.func270, Tryz.ntmps270
  go_wp2_with (at_make; refine wpList_make_own _ rfl _ _ 91 rfl w.heap.size 26 i0 (.slice none 0 0) 1 Tryz.underlying91 hi hz0 hz1 _ _ _ n rfl rfl rfl (by rw [hz2]; omega) (by unfold maxLen; omega) (Nat.le_refl _) ?_)
  intro w0 hown0 hgrow0
  have hb0 : Below w.heap.size w w0 := (Below.refl _ _).grown hgrow0 (Nat.le_refl _) (fun k h => by cases h)
  have hom0 : OwnM w0 w.heap.size w0.heap.size (.slice (some ⟨w.heap.size, 0, none⟩) 0 n) [] := ownM_made0 hown0 ⟨Nat.le_refl _, (World.ownsRow.lt hown0 _ rfl).2⟩
  have HM0 := Lib.hid hom0
  clear hown0 hgrow0 hom0
  go_wp2
  go_loopw [3, 11] (fun u i wr => ∃ k : Nat, k ≤ n ∧ i = .int .i64 k ∧ OwnM wr w.heap.size wr.heap.size u (encPs (L.take k)) ∧ Below w.heap.size w wr) (fun _ i _ => n - (intOf i).toNat)
  case atStart => exact ⟨0, Nat.zero_le _, rfl, by simpa [encPs] using HM0.out, hb0⟩
  case round =>
    obtain ⟨k, hk, rfl, hown, hbel⟩ := hrel
    have hbs := hbel.size
    have HO := Lib.hid hown
    clear hown
    by_cases hlt : k < n
    · rcases HX.out with hx | ⟨bb, off, rfl, hcx⟩
      · have := HN.out
        rw [hx] at this
        simp at this
        omega
      have hcx' := hcx k (by have := HN.out; omega)
      have hc1 := cellSt hcx'.1 hbel
      have hc2 := cellSt hcx'.2 hbel
      have HT := Lib.hid (encPs_take L k (by have := HN.out; omega))
      have hkl : (encPs (L.take k)).length = k := by rw [encPs_length, List.length_take]; have := HN.out; omega
      have HKL := Lib.hid hkl
      obtain ⟨⟨a, b⟩, hy⟩ : ∃ y, y = L.getD k (0, 0) := ⟨_, rfl⟩
      rw [← hy] at hc1 hc2 HT
      unfold encP at HT
      dsimp only at hc1 hc2 HT
      have b0 : (k : Int) < n := by omega
      clear hy hcx hcx' hkl
      have e1 : (wr.alloc (.cells #[.int .i64 a, .int .i64 b] 221)).heap.size = wr.heap.size + 1 := by simp
      have e2 : ((wr.alloc (.cells #[.int .i64 a, .int .i64 b] 221)).alloc (.cells #[.int .i64 a, .int .i64 b] 3)).heap.size = wr.heap.size + 1 + 1 := by simp
      have hcell := cell_new1 ((wr.alloc (.cells #[.int .i64 a, .int .i64 b] 221)).alloc (.cells #[.int .i64 a, .int .i64 b] 3)) (.slice (some ⟨wr.heap.size + 1, 0, none⟩) 2 2) 26
      rw [e2] at hcell
      have hou0 := own_two (wr.alloc (.cells #[.int .i64 a, .int .i64 b] 221)) w.heap.size a b (by rw [e1]; omega)
      rw [e1] at hou0
      have HCE := Lib.hid hcell
      have HOU := Lib.hid (own_alloc hou0 (.cells #[.slice (some ⟨wr.heap.size + 1, 0, none⟩) 2 2] 26))
      have hb3 : Below wr.heap.size wr (((wr.alloc (.cells #[.int .i64 a, .int .i64 b] 221)).alloc (.cells #[.int .i64 a, .int .i64 b] 3)).alloc (.cells #[.slice (some ⟨wr.heap.size + 1, 0, none⟩) 2 2] 26)) := (((Below.refl _ _).alloc (Nat.le_refl _) _).alloc (by rw [e1]; omega) _).alloc (by rw [e2]; omega) _
      have HOM := Lib.hid (ownM_below HO.out hb3)
      have HBQ := Lib.hid (hbel.trans (hb3.mono hbs))
      clear hcell hou0 hb3 e1 e2
      go_wp2_with (at_builtin; refine wpList_pushV rfl _ _ rfl w.heap.size wr.heap.size k _ (encPs (L.take k)) rfl HOM.out HKL.out.symm ⟨wr.heap.size + 1 + 1, 0, none⟩ rfl _ _ HCE.out HOU.out (fun q hq => by simp [Value.ownBlock] at hq; simp; omega) (by omega) (by simp; omega) (by omega) ?_; intro g4 cap4 w4 hown4 hgr4)
      have hbel4 : Below w.heap.size w w4 := HBQ.out.grown hgr4 (by simp; omega) (fun q hq => by
        obtain ⟨vs, hr⟩ := ownM_row0 HO.out
        exact (World.ownsRow.lt hr q hq).1)
      rw [← HT.out] at hown4
      have HO4 := Lib.hid hown4
      clear hown4 hgr4
      go_wp2
      go_roundw
      case rel => exact ⟨k + 1, by omega, by go_num, HO4.out, hbel4⟩
      case measure => simp [intOf]; omega
    · have hkn : k = n := by omega
      subst hkn
      have HE2 := Lib.hid (show encPs (L.take k) = encPs L by rw [HN.out, List.take_length])
      go_wp2
      go_ret
      rw [← HE2.out]
      exact ⟨_, rfl, HO.out, hbel⟩

def pairOf (xs : List Int) : List (List Int) × Bool := if partIn xs && decide (xs.length ≤ 6) then (encPs (ofP xs), true) else ([], false)
theorem ofP_len (xs : List Int) (h : xs.length ≤ 8) : (ofP xs).length ≤ 100 := by
  rw [ofP_sel]
  have := selRows_len (fun p => xs.getD p.1 0 == xs.getD p.2 0) xs.length xs.length
  have h2 := Nat.mul_le_mul h h
  omega

set_option maxHeartbeats 1600000 in
theorem sPairOf_v (v : Value) (xs : List Int) (w : World) (hv : RdV w v xs) : Calls Tryz.prog 100 #[v] w (FreshMB w (pairOf xs)) := by
  have HV := Lib.hid hv
  by_cases hp : partIn xs = true
  · have HP := Lib.hid hp
    have hl8 := partIn_len hp
    have HO := Lib.hid fun (h : xs.length ≤ 6) => l8Of_any v xs w hv (by omega)
    obtain ⟨ao, ca, rfl, hx, hlc, hcm⟩ := hv
    obtain ⟨n, hn⟩ : ∃ n, n = xs.length := ⟨_, rfl⟩
    have HN := Lib.hid hn
    by_cases h6 : n ≤ 6
    · have hr : pairOf xs = (encPs (ofP xs), true) := by unfold pairOf; rw [hp, ← hn]; simp [h6]
      rw [hr]
      rw [← hn] at HO HV ⊢
      clear hr hn hp hx hlc hl8
      go_enter Tryz.func100, Tryz.ntmps100
      go_wp2_with fail
      refine (sPartIn_is true _ _ _ HV.out HP).mono ?_
      rintro e w' ⟨rfl, rfl⟩
      go_wp2_with fail
      refine (HO.out h6).mono ?_
      rintro e w1 ⟨u, rfl, ho, hb⟩
      go_wp2
      go_ret2
      exact ⟨_, rfl, ho, hb⟩
    · have hr : pairOf xs = ([], false) := by unfold pairOf; rw [hp, ← hn]; simp [h6]
      rw [hr]
      rw [← hn] at HV ⊢
      clear hr hn hp hx hlc hl8
      go_enter Tryz.func100, Tryz.ntmps100
      go_wp2_with fail
      refine (sPartIn_is true _ _ _ HV.out HP).mono ?_
      rintro e w' ⟨rfl, rfl⟩
      go_wp2
      go_ret2
      exact ⟨_, rfl, by simpa using ownM_empty w _ (Nat.le_refl _), (Below.refl _ _).alloc (Nat.le_refl _) _⟩
  · have hp : partIn xs = false := by simpa using hp
    have hr : pairOf xs = ([], false) := by simp [pairOf, hp]
    rw [hr]
    have HP := Lib.hid hp
    clear hp hr
    go_enter Tryz.func100, Tryz.ntmps100
    go_wp2_with fail
    refine (sPartIn_is false _ _ _ HV.out HP).mono ?_
    rintro e w' ⟨rfl, rfl⟩
    go_wp2
    go_ret2
    exact ⟨_, rfl, by simpa using ownM_empty w _ (Nat.le_refl _), (Below.refl _ _).alloc (Nat.le_refl _) _⟩

set_option maxHeartbeats 1600000 in
theorem iPairOf_v (v : Value) (xs : List Int) (w : World) (hv : RdV w v xs) : Calls Tryz.prog 217 #[v] w (FreshMB w (pairOf xs)) := by
  have HV := Lib.hid hv
  by_cases hp : partIn xs = true
  · have HP := Lib.hid hp
    have hl8 := partIn_len hp
    have hll := ofP_len xs hl8.2
    have HO := Lib.hid fun (h : xs.length ≤ 6) => pairsOf_any v xs w hv (by omega)
    obtain ⟨ao, ca, rfl, hx, hlc, hcm⟩ := hv
    obtain ⟨n, hn⟩ : ∃ n, n = xs.length := ⟨_, rfl⟩
    have HN := Lib.hid hn
    by_cases h6 : n ≤ 6
    · have hr : pairOf xs = (encPs (ofP xs), true) := by unfold pairOf; rw [hp, ← hn]; simp [h6]
      rw [hr]
      rw [← hn] at HO HV ⊢
      obtain ⟨L, hL⟩ : ∃ L, L = ofP xs := ⟨_, rfl⟩
      rw [← hL] at HO hll ⊢
      have HLL := Lib.hid hll
      clear hr hn hp hx hlc hl8 hL hll
      go_enter Tryz.func217, Tryz.ntmps217
      go_wp2_with fail
      refine (iPartIn_is true _ _ _ HV.out HP).mono ?_
      rintro e w' ⟨rfl, rfl⟩
      go_wp2_with fail
      refine (HO.out h6).mono ?_
      rintro e w1 ⟨u, rfl, ho, hb⟩
      have HRD := Lib.hid (ownP_rd ho)
      clear ho
      go_wp2_with fail
      refine (pairLists_any u L _ HRD.out (by have := HLL.out; omega)).mono ?_
      rintro e w2 ⟨u2, rfl, ho2, hb2⟩
      go_wp2
      go_ret2
      exact ⟨_, rfl, ownM_mono ho2 hb.size (Nat.le_refl _), below_step hb hb2⟩
    · have hr : pairOf xs = ([], false) := by unfold pairOf; rw [hp, ← hn]; simp [h6]
      rw [hr]
      rw [← hn] at HV ⊢
      clear hr hn hp hx hlc hl8
      go_enter Tryz.func217, Tryz.ntmps217
      go_wp2_with fail
      refine (iPartIn_is true _ _ _ HV.out HP).mono ?_
      rintro e w' ⟨rfl, rfl⟩
      go_wp2
      go_ret2
      exact ⟨_, rfl, ownM_nil _ _ _, Below.refl _ _⟩
  · have hp : partIn xs = false := by simpa using hp
    have hr : pairOf xs = ([], false) := by simp [pairOf, hp]
    rw [hr]
    have HP := Lib.hid hp
    clear hp hr
    go_enter Tryz.func217, Tryz.ntmps217
    go_wp2_with fail
    refine (iPartIn_is false _ _ _ HV.out HP).mono ?_
    rintro e w' ⟨rfl, rfl⟩
    go_wp2
    go_ret2
    exact ⟨_, rfl, ownM_nil _ _ _, Below.refl _ _⟩
end

def w_show : List UInt8 := [115, 104, 111, 119]
def w_blocks : List UInt8 := [98, 108, 111, 99, 107, 115]
def w_type : List UInt8 := [116, 121, 112, 101]
def w_size : List UInt8 := [115, 105, 122, 101]
def w_rank : List UInt8 := [114, 97, 110, 107]
def w_merges : List UInt8 := [109, 101, 114, 103, 101, 115]
def w_splits : List UInt8 := [115, 112, 108, 105, 116, 115]
def w_chains : List UInt8 := [99, 104, 97, 105, 110, 115]
def w_place : List UInt8 := [112, 108, 97, 99, 101]
def w_arcs : List UInt8 := [97, 114, 99, 115]
def w_cross : List UInt8 := [99, 114, 111, 115, 115]
def w_nest : List UInt8 := [110, 101, 115, 116]
def w_far : List UInt8 := [102, 97, 114]
def w_ring : List UInt8 := [114, 105, 110, 103]
def w_count : List UInt8 := [99, 111, 117, 110, 116]
def w_pairs : List UInt8 := [112, 97, 105, 114, 115]
def w_turned : List UInt8 := [116, 117, 114, 110, 101, 100]
def w_next : List UInt8 := [110, 101, 120, 116]
def w_before : List UInt8 := [98, 101, 102, 111, 114, 101]
def w_part : List UInt8 := [112, 97, 114, 116]
def w_kernel : List UInt8 := [107, 101, 114, 110, 101, 108]
def w_at : List UInt8 := [97, 116]
def w_put : List UInt8 := [112, 117, 116]
def w_drop : List UInt8 := [100, 114, 111, 112]
def w_meet : List UInt8 := [109, 101, 101, 116]
def w_join : List UInt8 := [106, 111, 105, 110]
def w_rings : List UInt8 := [114, 105, 110, 103, 115]
def w_finer : List UInt8 := [102, 105, 110, 101, 114]
def w_sign : List UInt8 := [115, 105, 103, 110]
def w_inner : List UInt8 := [105, 110, 110, 101, 114]
def w_quarrel : List UInt8 := [113, 117, 97, 114, 114, 101, 108]
def w_path : List UInt8 := [112, 97, 116, 104]
def w_moves : List UInt8 := [109, 111, 118, 101, 115]
def w_number : List UInt8 := [110, 117, 109, 98, 101, 114]
def w_all : List UInt8 := [97, 108, 108]
def w_plain : List UInt8 := [112, 108, 97, 105, 110]
def sayOk : List UInt8 := [111, 107, 10]
def sayNo : List UInt8 := [110, 111, 10]
def sayYes : List UInt8 := [121, 101, 115, 10]
def sayNot : List UInt8 := [110, 111, 116, 10]
def sayWhat : List UInt8 := [119, 104, 97, 116, 10]

def bareL (a : List Int) (w : List UInt8) : List UInt8 :=
  if w = w_show then saidL a true else
  if w = w_blocks then listsL (partBlocks a).1 (partBlocks a).2 else
  if w = w_type then saidL (partType a).1 (partType a).2 else
  if w = w_size then oneL (partSize a).1 (partSize a).2 else
  if w = w_rank then oneL (finerRank a).1 (finerRank a).2 else
  if w = w_merges then listsL (finerMerges a).1 (finerMerges a).2 else
  if w = w_splits then oneL (finerSplits a).1 (finerSplits a).2 else
  if w = w_chains then oneL (finerChains a).1 (finerChains a).2 else
  if w = w_place then oneL (listPlace a).1 (listPlace a).2 else
  if w = w_arcs then listsL (arcList a).1 (arcList a).2 else
  if w = w_cross then oneL (arcCross a).1 (arcCross a).2 else
  if w = w_nest then oneL (arcNest a).1 (arcNest a).2 else
  if w = w_far then oneL (arcLong a).1 (arcLong a).2 else
  if w = w_ring then saidL (ringOf a).1 (ringOf a).2 else
  if w = w_count then oneL (ringCount a).1 (ringCount a).2 else
  if w = w_pairs then listsL (pairOf a).1 (pairOf a).2 else
  sayWhat
def aloneL (a : List Int) (w : List UInt8) : Option (List Int × Bool) :=
  if w = w_turned then some (partTurned a) else if w = w_next then some (listNext a) else if w = w_before then some (listBefore a) else none
def changeL (a : List Int) (w : List UInt8) (l : List Int) : Option (List Int × Bool) :=
  if w = w_part then some (l, partIn l) else
  if w = w_kernel then some (partKernel l) else
  if w = w_at then some (if l.length = 2 then listAt (l.getD 0 0) (l.getD 1 0) else (a, false)) else
  if w = w_put then some (if l.length = 1 then partPut a (l.getD 0 0) else (a, false)) else
  if w = w_drop then some (if l.length = 1 then partDrop a (l.getD 0 0) else (a, false)) else
  if w = w_meet then some (finerMeet a l) else
  if w = w_join then some (finerJoin a l) else
  if w = w_rings then some (ringPart l) else
  none
def askL (a : List Int) (w : List UInt8) (l : List Int) (ok : Bool) : List UInt8 :=
  if w = w_finer then (if ok = false then sayNo else if finerIn a l then sayYes else sayNot) else
  if w = w_sign then oneL (finerSign a l).1 (finerSign a l).2 else
  if w = w_inner then oneL (finerInterval a l).1 (finerInterval a l).2 else
  if w = w_quarrel then oneL (viewQuarrel a l).1 (viewQuarrel a l).2 else
  if w = w_path then oneL (viewPath a l).1 (viewPath a l).2 else
  if w = w_moves then oneL (viewMoves a l).1 (viewMoves a l).2 else
  if w = w_number then (if l.length = 2 then oneL (numBy (ext fB) (l.getD 0 0) (l.getD 1 0)).1 (numBy (ext fB) (l.getD 0 0) (l.getD 1 0)).2 else sayNo) else
  if w = w_all then (if l.length = 1 then oneL (numAll (l.getD 0 0)).1 (numAll (l.getD 0 0)).2 else sayNo) else
  if w = w_plain then (if l.length = 1 then oneL (arcPlain (l.getD 0 0)).1 (arcPlain (l.getD 0 0)).2 else sayNo) else
  sayWhat
def lineL (a : List Int) (line : List UInt8) : List Int × List UInt8 :=
  let w := line.takeWhile (fun c => c != 32)
  if w.length = line.length then
    match aloneL a line with
    | some (b, true) => (b, sayOk)
    | some (_, false) => (a, sayNo)
    | none => (a, bareL a line)
  else
    match changeL a w (numsL (line.drop (w.length + 1))).1 with
    | some (b, ok) => if ok && (numsL (line.drop (w.length + 1))).2 then (b, sayOk) else (a, sayNo)
    | none => (a, askL a w (numsL (line.drop (w.length + 1))).1 (numsL (line.drop (w.length + 1))).2)

theorem textsL_ends (l : List (List UInt8)) (ok : Bool) : EndsNL (textsL l ok) := by
  unfold textsL
  split
  · exact .inr ⟨[110, 111], rfl⟩
  · split
    · exact .inr ⟨[45], rfl⟩
    · exact .inr ⟨_, rfl⟩
theorem ite_ends {c : Prop} [Decidable c] {x y : List UInt8} (hx : EndsNL x) (hy : EndsNL y) : EndsNL (if c then x else y) := by
  by_cases h : c
  · rw [if_pos h]; exact hx
  · rw [if_neg h]; exact hy
theorem bareL_ends (a : List Int) (w : List UInt8) : EndsNL (bareL a w) := by
  unfold bareL
  repeat (refine ite_ends (textsL_ends _ _) ?_)
  exact .inr ⟨[119, 104, 97, 116], rfl⟩
theorem askL_ends (a : List Int) (w : List UInt8) (l : List Int) (ok : Bool) : EndsNL (askL a w l ok) := by
  unfold askL
  repeat' split
  all_goals first | exact textsL_ends _ _ | exact .inr ⟨[119, 104, 97, 116], rfl⟩ | exact .inr ⟨[110, 111], rfl⟩ | exact .inr ⟨[121, 101, 115], rfl⟩ | exact .inr ⟨[110, 111, 116], rfl⟩
theorem lineL_ends (a : List Int) (line : List UInt8) : EndsNL (lineL a line).2 := by
  unfold lineL
  dsimp only
  repeat' split
  all_goals first | exact bareL_ends _ _ | exact askL_ends _ _ _ _ | exact .inr ⟨[111, 107], rfl⟩ | exact .inr ⟨[110, 111], rfl⟩

section
open Go.RowKit

theorem rings_part {xs : List Int} (h : ringIn xs = true) : partIn (ringsOf xs) = true := by
  obtain ⟨h1, h2, _⟩ := permOk_facts (show permOk xs.length xs = true from h)
  unfold ringsOf
  exact partIn_kOut (by rw [ringLs_length]; exact h1) (by rw [ringLs_length]; exact h2)
end

def TellsP (r : List Int × Bool) : Prop := r.2 = true → partIn r.1 = true
theorem tells_no (l : List Int) : TellsP (l, false) := fun h => by cases h
theorem tells_ite {c : Prop} [Decidable c] {l : List Int} (h : c → partIn l = true) : TellsP (if c then (l, true) else ([], false)) := by
  by_cases hc : c
  · rw [if_pos hc]; exact fun _ => h hc
  · rw [if_neg hc]; exact tells_no _
theorem tells_turned (xs : List Int) : TellsP (partTurned xs) := tells_ite fun h => by
  have := partIn_len h
  exact partIn_kOut (by simp; omega) (by simp; omega)
theorem tells_next (xs : List Int) : TellsP (listNext xs) := tells_ite fun ⟨h, hp⟩ => by
  have h1 := partIn_len h
  have h2 := plc_bd (partIn_ok h)
  exact atL_partIn _ _ h1.1 h1.2 (by omega) hp
theorem tells_before (xs : List Int) : TellsP (listBefore xs) := tells_ite fun ⟨h, hp⟩ => by
  have h1 := partIn_len h
  have h2 := plc_bd (partIn_ok h)
  exact atL_partIn _ _ h1.1 h1.2 (by omega) (by omega)
theorem tells_kernel (xs : List Int) : TellsP (partKernel xs) := tells_ite fun h => partIn_kOut h.1 h.2
theorem tells_at (n p : Int) : TellsP (listAt n p) := tells_ite fun ⟨h, h0, h1⟩ => atL_partIn _ _ (by omega) (by omega) h0 h1
theorem tells_put (xs : List Int) (k : Int) : TellsP (partPut xs k) := tells_ite fun ⟨h, h1, h2, h3⟩ => put_part h h1 h2 h3
theorem tells_drop (xs : List Int) (i : Int) : TellsP (partDrop xs i) := tells_ite fun ⟨h, h1, h2, h3⟩ => by
  have hl := partIn_len h
  have hd := dropAt_length xs i.toNat (by omega)
  exact partIn_kOut (by omega) (by omega)
theorem tells_meet (xs ys : List Int) : TellsP (finerMeet xs ys) := tells_ite fun h => by
  have hl := alike_lens h
  exact partIn_kOut (by rw [mix_length]; omega) (by rw [mix_length]; omega)
theorem tells_join (xs ys : List Int) : TellsP (finerJoin xs ys) := tells_ite fun h => by
  have hl := alike_lens h
  exact partIn_kOut (by rw [joinAll_len]; omega) (by rw [joinAll_len]; omega)
theorem tells_rings (xs : List Int) : TellsP (ringPart xs) := tells_ite fun h => rings_part h

theorem aloneL_tells {a : List Int} {w : List UInt8} {r : List Int × Bool} (h : aloneL a w = some r) : TellsP r := by
  unfold aloneL at h
  by_cases h1 : w = w_turned
  · rw [if_pos h1] at h; cases h; exact tells_turned a
  · rw [if_neg h1] at h
    by_cases h2 : w = w_next
    · rw [if_pos h2] at h; cases h; exact tells_next a
    · rw [if_neg h2] at h
      by_cases h3 : w = w_before
      · rw [if_pos h3] at h; cases h; exact tells_before a
      · rw [if_neg h3] at h; cases h
theorem tells_some {c : Prop} [Decidable c] {x r : List Int × Bool} {y : Option (List Int × Bool)} (h : (if c then some x else y) = some r) (hx : TellsP x) (hy : y = some r → TellsP r) : TellsP r := by
  by_cases hc : c
  · rw [if_pos hc] at h; cases h; exact hx
  · rw [if_neg hc] at h; exact hy h
theorem tells_or {c : Prop} [Decidable c] {x y : List Int × Bool} (hx : TellsP x) (hy : TellsP y) : TellsP (if c then x else y) := by
  by_cases hc : c
  · rw [if_pos hc]; exact hx
  · rw [if_neg hc]; exact hy
theorem changeL_tells {a l : List Int} {w : List UInt8} {r : List Int × Bool} (h : changeL a w l = some r) : TellsP r := by
  unfold changeL at h
  refine tells_some h (fun h => h) fun h => ?_
  refine tells_some h (tells_kernel l) fun h => ?_
  refine tells_some h (tells_or (tells_at _ _) (tells_no _)) fun h => ?_
  refine tells_some h (tells_or (tells_put _ _) (tells_no _)) fun h => ?_
  refine tells_some h (tells_or (tells_drop _ _) (tells_no _)) fun h => ?_
  refine tells_some h (tells_meet a l) fun h => ?_
  refine tells_some h (tells_join a l) fun h => ?_
  refine tells_some h (tells_rings l) fun h => ?_
  cases h
theorem lineL_part {a : List Int} (ha : partIn a = true) (line : List UInt8) : partIn (lineL a line).1 = true := by
  unfold lineL
  dsimp only
  split
  · split
    · rename_i b hb
      exact aloneL_tells hb rfl
    · exact ha
    · exact ha
  · split
    · rename_i b ok hb
      by_cases hc : (ok && (numsL (line.drop ((line.takeWhile (fun c => c != 32)).length + 1))).2) = true
      · rw [if_pos hc]
        exact changeL_tells hb (Bool.and_eq_true_iff.1 hc).1
      · rw [if_neg hc]; exact ha
    · exact ha

def Num (n : Int) : Prop := -10000000000000 ≤ n ∧ n ≤ 10000000000000
def GoodL (l : List Int) : Prop := l.length ≤ 64 ∧ ∀ x ∈ l, Num x
def GoodM (ls : List (List Int)) : Prop := ls.length ≤ 64 ∧ ∀ l ∈ ls, GoodL l
theorem num_nat {n : Nat} (h : n ≤ 1000000) : Num (n : Int) := by unfold Num; omega
theorem num_bd {n : Int} (h0 : -1000000 ≤ n) (h1 : n ≤ 10000000000000) : Num n := by unfold Num; omega
theorem num_zero : Num 0 := by unfold Num; omega
theorem goodL_nil : GoodL [] := ⟨by simp, fun x hx => by cases hx⟩
theorem goodM_nil : GoodM [] := ⟨by simp, fun x hx => by cases hx⟩
theorem num_ite {c : Prop} [Decidable c] {x : Int} (h : c → Num x) : Num (if c then (x, true) else (0, false)).1 := by
  by_cases hc : c
  · rw [if_pos hc]; exact h hc
  · rw [if_neg hc]; exact num_zero
theorem goodL_ite {c : Prop} [Decidable c] {x : List Int} (h : c → GoodL x) : GoodL (if c then (x, true) else ([], false)).1 := by
  by_cases hc : c
  · rw [if_pos hc]; exact h hc
  · rw [if_neg hc]; exact goodL_nil
theorem goodM_ite {c : Prop} [Decidable c] {x : List (List Int)} (h : c → GoodM x) : GoodM (if c then (x, true) else ([], false)).1 := by
  by_cases hc : c
  · rw [if_pos hc]; exact h hc
  · rw [if_neg hc]; exact goodM_nil
theorem goodL_part {a : List Int} (h : partIn a = true) : GoodL a := by
  have hl := partIn_len h
  have hs := partIn_small h
  refine ⟨by omega, fun x hx => ?_⟩
  obtain ⟨k, hk, rfl⟩ := List.getElem_of_mem hx
  have := hs k hk
  simp only [List.getD, List.getElem?_eq_getElem hk, Option.getD_some] at this
  exact num_bd (by omega) (by omega)

theorem bd_size (a : List Int) : Num (partSize a).1 := num_ite fun h => by
  have := pSize_bd (partIn_small h)
  exact num_bd (by omega) (by omega)
theorem bd_rank (a : List Int) : Num (finerRank a).1 := num_ite fun h => by
  have := pSize_bd (partIn_small h)
  have := partIn_len h
  exact num_bd (by omega) (by omega)
theorem bd_splits (a : List Int) : Num (finerSplits a).1 := num_ite fun h => by
  have hb := sumOf_bd (sizes a) fun c hc => by have := sizes_bd h c hc; omega
  have := pSize_bd (partIn_small h)
  rw [sizes_length] at hb
  exact num_bd (by omega) (by omega)
theorem bd_chains (a : List Int) : Num (finerChains a).1 := num_ite fun h => by
  have := pSize_bd (partIn_small h)
  have := chD_bd (pSize a).toNat (by omega) ((pSize a).toNat - 1) (by omega)
  exact num_bd (by omega) (by omega)
theorem bd_place (a : List Int) : Num (listPlace a).1 := num_ite fun h => by
  have hl := partIn_len h
  have := plc_bd (partIn_ok h)
  have := opn_bd a.length 0 (by omega) (by omega)
  exact num_bd (by omega) (by omega)
theorem bd_pairsL (p : Nat × Nat → Nat × Nat → Bool) {a : List Int} (h : partIn a = true) : Num ((pairsL p (arcsOf a) : Nat) : Int) := by
  have hl := partIn_len h
  have h1 := pairsL_le p (arcsOf a)
  have h2 := arcsOf_len a
  have h3 : (arcsOf a).length * (arcsOf a).length ≤ 8 * 8 := Nat.mul_le_mul (by omega) (by omega)
  exact num_nat (by omega)
theorem bd_cross (a : List Int) : Num (arcCross a).1 := num_ite fun h => bd_pairsL _ h
theorem bd_nest (a : List Int) : Num (arcNest a).1 := num_ite fun h => bd_pairsL _ h
theorem longL_le (N : Nat) : ∀ l : List (Nat × Nat), (∀ p ∈ l, p.2 ≤ N) → longL l ≤ N * l.length := by
  intro l
  induction l with
  | nil => intro _; simp [longL]
  | cons p l ih =>
    intro h
    have h1 := ih fun q hq => h q (by simp [hq])
    have h2 := h p (by simp)
    rw [longL, List.length_cons, Nat.mul_succ]
    omega
theorem arcs_le {a : List Int} {p : Nat × Nat} (h : p ∈ arcsOf a) : p.1 < a.length ∧ p.2 < a.length := by
  obtain ⟨h1, h2, h3, _⟩ := arcsFrom_mem a 0 p h
  omega
theorem bd_far (a : List Int) : Num (arcLong a).1 := num_ite fun h => by
  have hl := partIn_len h
  have h1 := longL_le 8 (arcsOf a) fun p hp => by have := arcs_le hp; omega
  have h2 := arcsOf_len a
  exact num_nat (by omega)
theorem facR_le8 : ∀ n : Nat, n < 9 → facR n ≤ 40320 := by decide
theorem bd_count (a : List Int) : Num (ringCount a).1 := num_ite fun h => by
  have hl := partIn_len h
  have h1 := facP_le (sizes a)
  rw [sizes_sumN h] at h1
  have h2 := facR_le8 a.length (by omega)
  exact num_nat (by omega)
theorem inner_pos {a b : List Int} (h : finerIn a b = true) : ∀ c ∈ inner a b, 0 ≤ c := by
  intro c hc
  obtain ⟨k, hk, rfl⟩ := List.getElem_of_mem hc
  have := (inner_facts h).2 k hk
  simp only [List.getD, List.getElem?_eq_getElem hk, Option.getD_some] at this
  omega
theorem bd_sign (a b : List Int) : Num (finerSign a b).1 := num_ite fun h => by
  have h1 := prodOf_bd sgn fA rfl sgn_mul (inner a b) (inner_pos h) (inner_facts h).1
  have h2 := fA_le (inner a b).sum.toNat (by have := (inner_facts h).1; omega)
  exact num_bd (by omega) (by omega)
theorem bd_inner (a b : List Int) : Num (finerInterval a b).1 := num_ite fun h => by
  have h1 := prodOf_bd bellN (fun n => (bellN n).toNat) (by decide) bell_mul (inner a b) (inner_pos h) (inner_facts h).1
  have h2 := bell_le (inner a b).sum.toNat (by have := (inner_facts h).1; omega)
  have h3 := h1.2
  exact num_bd (by omega) (by omega)
theorem bd_quarrel (a b : List Int) : Num (viewQuarrel a b).1 := num_ite fun h => by
  have hl := partIn_len (alike_iff.1 h).1
  have h1 := quarTo_le a b a.length
  have h3 : a.length * a.length ≤ 8 * 8 := Nat.mul_le_mul (by omega) (by omega)
  have : quar a b = quarTo a b a.length := rfl
  exact num_nat (by omega)
theorem bd_path (a b : List Int) : Num (viewPath a b).1 := num_ite fun h => by
  obtain ⟨hx, hy, hl⟩ := alike_iff.1 h
  have h1 := pSize_bd (partIn_small hx)
  have h2 := pSize_bd (partIn_small hy)
  have hj := (finer_parts (join_finer h).1).2.1
  have h3 := pSize_bd (partIn_small hj)
  exact num_bd (by omega) (by omega)
theorem bd_moves (a b : List Int) : Num (viewMoves a b).1 := num_ite fun h => by
  have hl := partIn_len (alike_iff.1 h).1
  have := isMost_le (moves_isMost h)
  exact num_bd (by omega) (by omega)
theorem bd_number (n k : Int) : Num (numBy (ext fB) n k).1 := num_ite fun h => by
  obtain ⟨h1, h2⟩ := inNum_parts h
  have := numbers_B.bd n k (by omega)
  exact num_bd (by omega) (by omega)
theorem bd_all (n : Int) : Num (numAll n).1 := num_ite fun h => by
  have h1 := bell_fact n.toNat (by omega)
  have h2 := bell_small n.toNat (by omega)
  rw [Int.toNat_of_nonneg h.1] at h1
  exact num_bd (by omega) (by omega)
theorem bd_plain (n : Int) : Num (arcPlain n).1 := num_ite fun h => by
  have h1 := List.countP_le_length (p := fun xs => plainP (arcsOf xs)) (l := allL n.toNat)
  have h2 := opn_bd n.toNat 0 (by omega) (by omega)
  rw [allL_length] at h1
  exact num_nat (by omega)

theorem good_type (a : List Int) : GoodL (partType a).1 := goodL_ite fun h => by
  have hs := pSize_bd (partIn_small h)
  refine ⟨by rw [desc_length, sizes_length]; omega, fun x hx => ?_⟩
  have := sizes_bd h x ((desc_perm _).mem_iff.1 hx)
  exact num_bd (by omega) (by omega)
theorem blk_has (a : List Int) (b : Nat) : ∀ (k : Nat) (x : Int), x ∈ blkAt a b k → 0 ≤ x ∧ x < k := by
  intro k
  induction k with
  | zero => intro x hx; cases hx
  | succ k ih =>
    intro x hx
    unfold blkAt at hx
    split at hx
    · rcases List.mem_append.1 hx with h | h
      · have := ih x h; omega
      · have := List.mem_singleton.1 h; omega
    · have := ih x hx; omega
theorem cntAt_most (a : List Int) (b : Nat) : ∀ k, cntAt a b k ≤ k := by
  intro k
  induction k with
  | zero => exact Nat.le_refl _
  | succ k ih => unfold cntAt; split <;> omega
theorem good_blk {a : List Int} (h : partIn a = true) (b : Nat) : GoodL (blkAt a b a.length) := by
  have hl := partIn_len h
  have := cntAt_most a b a.length
  refine ⟨by rw [blkAt_length]; omega, fun x hx => ?_⟩
  have := blk_has a b _ x hx
  exact num_bd (by omega) (by omega)
theorem good_blocks (a : List Int) : GoodM (partBlocks a).1 := goodM_ite fun h => by
  have hs := pSize_bd (partIn_small h)
  refine ⟨by rw [blocksTo_length]; omega, fun l hl => ?_⟩
  obtain ⟨b, _, rfl⟩ := List.mem_map.1 hl
  exact good_blk h b
theorem good_merges (a : List Int) : GoodM (finerMerges a).1 := goodM_ite fun h => by
  have hs := pSize_bd (partIn_small h)
  have hl := partIn_len h
  refine ⟨?_, fun l hl' => ?_⟩
  · rw [merges_len a _ (by omega)]
    have : (pSize a).toNat * ((pSize a).toNat - 1) ≤ 8 * 7 := Nat.mul_le_mul (by omega) (by omega)
    omega
  · obtain ⟨x, y, _, _, rfl⟩ := merges_each a _ l _ hl'
    exact goodL_part (partIn_kOut (by rw [retold_length]; omega) (by rw [retold_length]; omega))
theorem good_arcs (a : List Int) : GoodM (arcList a).1 := goodM_ite fun h => by
  have hl := partIn_len h
  have h2 := arcsOf_len a
  unfold rowsOf
  refine ⟨by rw [List.length_map]; omega, fun l hl' => ?_⟩
  obtain ⟨p, hp, rfl⟩ := List.mem_map.1 hl'
  have := arcs_le hp
  refine ⟨by simp, fun x hx => ?_⟩
  simp only [List.mem_cons, List.not_mem_nil, or_false] at hx
  exact num_bd (by omega) (by omega)
theorem ofIn_good {N : Nat} (s L : List Int) (hs : ∀ x ∈ s, 0 ≤ x ∧ x ≤ N) (hL : ∀ x ∈ L, 0 ≤ x ∧ x ≤ N) : ∀ i, ∀ x ∈ ofIn s L i, 0 ≤ x ∧ x ≤ N := by
  intro i
  induction i with
  | zero => exact hs
  | succ i ih =>
    intro x hx
    rw [ofIn] at hx
    rcases List.mem_or_eq_of_mem_set hx with h | rfl
    · exact ih x h
    · simp only [List.getD]
      cases hq : L[(i + 1) % L.length]? with
      | none => simp
      | some z => exact hL z (List.mem_of_getElem? hq)
theorem good_ring (a : List Int) : GoodL (ringOf a).1 := goodL_ite fun h => by
  have hl := partIn_len h
  refine ⟨by rw [ofTo_length]; omega, ?_⟩
  have : ∀ b, ∀ x ∈ ofTo a b, 0 ≤ x ∧ x ≤ (8 : Nat) := by
    intro b
    induction b with
    | zero => intro x hx; rw [ofTo] at hx; have := List.eq_of_mem_replicate hx; omega
    | succ b ih =>
      rw [ofTo]
      exact ofIn_good _ _ ih (fun x hx => by have := blk_has a b _ x hx; omega) _
  intro x hx
  have := this _ x hx
  exact num_bd (by omega) (by omega)
theorem good_pairs (a : List Int) : GoodM (pairOf a).1 := goodM_ite fun h => by
  rw [Bool.and_eq_true, decide_eq_true_eq] at h
  have h15 := allP_le a.length h.2
  refine ⟨by rw [encPs_length]; unfold ofP; have := List.length_filter_le (fun p => a.getD p.1 0 == a.getD p.2 0) (allP a.length); omega, fun l hl => ?_⟩
  obtain ⟨p, hp, rfl⟩ := List.mem_map.1 hl
  have hp := mem_allP.1 (show (p.1, p.2) ∈ allP a.length from (List.mem_filter.1 hp).1)
  refine ⟨by simp [encP], fun x hx => ?_⟩
  simp only [encP, List.mem_cons, List.not_mem_nil, or_false] at hx
  exact num_bd (by omega) (by omega)

section
open Go.RowKit

theorem addr_zero (a : Addr) : a.add 0 = a := by simp [Addr.add]
theorem str_one (c : UInt8) (w : World) (a : Addr) (hc : w.cell? a = some (.int .u8 (c.toNat : Int))) :
    (convert 22 9 (.slice (some a) 1 1)).run Tryz.prog w = .ok (strV [c]) w := by
  have := run_convert_bytes_back (P := Tryz.prog) w 22 9 5 a 1 [c] Tryz.underlying22 Tryz.underlying5 Tryz.underlying9 (by
    intro j hj
    have : j = 0 := by simp at hj; omega
    subst this
    rw [addr_zero]
    exact hc)
  exact this
theorem digC_int {d : Nat} (h : d < 10) : ((digC d).toNat : Int) = 48 + (d : Int) := by rw [dig_of d h]; omega

theorem l6Dec_small (d : Nat) (hd : d < 10) (w : World) : Calls Tryz.prog 32 #[.int .i64 (d : Int)] w (GivesS w (decN d)) := by
  rw [decN_small hd]
  have HC : ∀ (w : World) (a : Addr), w.cell? a = some (.int .u8 (48 + (d : Int))) → (convert 22 9 (.slice (some a) 1 1)).run Tryz.prog w = .ok (strV [digC d]) w := fun w a h => str_one _ w a (by rw [digC_int hd]; exact h)
  go_enter Tryz.func32, Tryz.ntmps32
  go_wp2
  go_ret
  exact ⟨rfl, (Below.refl _ _).alloc (Nat.le_refl _) _⟩

theorem decN_len15 {n : Nat} (h : n < 1000000000000000) : (decN n).length ≤ 15 := decN_len 14 n (by omega)

set_option maxHeartbeats 4000000 in
theorem l6Dec_nat : ∀ (k n : Nat), n ≤ k → n < 1000000000000000 → ∀ w : World, Calls Tryz.prog 32 #[.int .i64 (n : Int)] w (GivesS w (decN n)) := by
  intro k
  induction k with
  | zero =>
    intro n hk _ w
    exact l6Dec_small n (by omega) w
  | succ k ih =>
    intro n hk hn w
    by_cases h10 : n < 10
    · exact l6Dec_small n h10 w
    · have hq : ((n : Int)).tdiv 10 = ((n / 10 : Nat) : Int) := by
        rw [Int.tdiv_eq_ediv_of_nonneg (by omega)]; omega
      have hr : ((n : Int)).tmod 10 = ((n % 10 : Nat) : Int) := by
        rw [Int.tmod_eq_emod_of_nonneg (by omega)]; omega
      have hqb : n / 10 ≤ 1000000000000000 := by omega
      obtain ⟨q, hqe⟩ : ∃ q, q = n / 10 := ⟨_, rfl⟩
      rw [← hqe] at hqb
      obtain ⟨d, hde⟩ : ∃ d, d = n % 10 := ⟨_, rfl⟩
      have hd : d < 10 := by omega
      have IH := Lib.hid (ih q (by omega) (by omega))
      have HL := decN_len15 (n := q) (by omega)
      obtain ⟨t, ht⟩ : ∃ t, t = decN q := ⟨_, rfl⟩
      have hr0 : decN n = t ++ [digC d] := by rw [decN_big h10, ht, hqe, hde]
      rw [hr0]
      rw [← hqe] at hq
      rw [← hde] at hr
      rw [← ht] at IH HL
      have HC : ∀ (w : World) (a : Addr), w.cell? a = some (.int .u8 (48 + (d : Int))) → (convert 22 9 (.slice (some a) 1 1)).run Tryz.prog w = .ok (strV [digC d]) w := fun w a h => str_one _ w a (by rw [digC_int hd]; exact h)
      have hs1 : decide ((n : Int) < -9223372036854775807) = false := by simp <;> omega
      have hs2 : decide ((n : Int) < 0) = false := by simp
      have hs3 : decide ((n : Int) < 10) = false := by simp; omega
      clear ht hqe hde hr0 ih hk
      go_enter Tryz.func32, Tryz.ntmps32
      go_wp2_with fail
      have hw0 : IntKind.i64.wrap ((q : Nat) : Int) = q := IntWalk.i64_in _ (by omega)
      have hw1 : IntKind.i64.wrap (48 + (d : Int)) = 48 + (d : Int) := IntWalk.i64_in _ (by omega)
      have hw2 : IntKind.u8.wrap (48 + (d : Int)) = 48 + (d : Int) := by
        have : ∀ d : Nat, d < 10 → IntKind.u8.wrap (48 + (d : Int)) = 48 + (d : Int) := by decide
        exact this d hd
      go_region_with (first | (go_at_call 32; (with_reducible refine (IH.out _).mono ?_); rintro e w' ⟨rfl, hb⟩; have hx : w'.cell? ⟨w.heap.size, 0, none⟩ = some (.int .u8 (48 + (d : Int))) := cell_after (w := (w.alloc (.cells #[.int .u8 (48 + (d : Int))] 5)).drew) (by simp) hb) | (go_at_call 32; (with_reducible refine (IH.out _).mono ?_); rintro e w' ⟨rfl, hb⟩))
      all_goals go_wp2
      all_goals go_ret
      all_goals refine ⟨ret_cat t [digC d], ?_⟩
      all_goals first
        | exact (below_step (below_drewN (Below.refl _ w) 1) hb).alloc (below_step (below_drewN (Below.refl _ w) 1) hb).size _
        | exact below_step (((Below.refl _ w).alloc (Nat.le_refl _) _).drew) hb
        | exact below_step ((Below.refl _ w).drew.alloc (Nat.le_refl _) _) hb

theorem decZ_len15 {n : Int} (h : Num n) : (decZ n).length ≤ 16 := by
  unfold Num at h
  unfold decZ
  split
  · have := decN_len15 (n := n.natAbs) (by omega)
    simp; omega
  · have := decN_len15 (n := n.toNat) (by omega)
    omega

theorem l6Dec_any (n : Int) (hn : Num n) (w : World) : Calls Tryz.prog 32 #[.int .i64 n] w (GivesS w (decZ n)) := by
  unfold Num at hn
  by_cases h0 : n < 0
  · obtain ⟨m, hm⟩ : ∃ m : Nat, m = n.natAbs := ⟨_, rfl⟩
    have hneg : -n = (m : Int) := by omega
    have hr : decZ n = [45] ++ decN m := by unfold decZ; rw [if_pos h0, hm]; rfl
    rw [hr]
    have IH := Lib.hid (l6Dec_nat m m (Nat.le_refl _) (by omega))
    have HL := decN_len15 (n := m) (by omega)
    obtain ⟨t, ht⟩ : ∃ t, t = decN m := ⟨_, rfl⟩
    rw [← ht] at IH HL ⊢
    have hs1 : decide (n < -9223372036854775807) = false := by simp; omega
    have hs2 : decide (n < 0) = true := by simp; omega
    have hw0 : IntKind.i64.wrap (-n) = (m : Int) := by rw [hneg]; exact IntWalk.i64_in _ (by omega)
    clear ht hr hm
    go_enter Tryz.func32, Tryz.ntmps32
    go_wp2_with (go_at_call 32; (with_reducible refine (IH.out _).mono ?_); rintro e w' ⟨rfl, hb⟩)
    all_goals go_wp2
    all_goals go_ret
    all_goals exact ⟨ret_cat [45] t, hb⟩
  · obtain ⟨m, rfl⟩ := Int.eq_ofNat_of_zero_le (show 0 ≤ n by omega)
    have hr : decZ (m : Int) = decN m := by unfold decZ; rw [if_neg h0]; simp
    rw [hr]
    exact l6Dec_nat m m (Nat.le_refl _) (by omega) w
end

section
open Go.RowKit

theorem str_cat2 (o x : List UInt8) : Value.string (((⟨o.toArray⟩ : ByteArray) ++ ⟨#[32]⟩) ++ ⟨x.toArray⟩) = strV (o ++ 32 :: x) := by
  have h : (⟨o.toArray⟩ : ByteArray) ++ ⟨#[32]⟩ = ⟨(o ++ [32]).toArray⟩ := ByteArray.mk_append_mk o [32]
  rw [h, ByteArray.mk_append_mk, List.append_assoc]
  rfl
theorem str_cat1 (o x : List UInt8) : Value.string ((⟨o.toArray⟩ : ByteArray) ++ ⟨x.toArray⟩) = strV (o ++ x) := by rw [ByteArray.mk_append_mk]

theorem joinL_take (ts : List (List UInt8)) (k : Nat) (h : k < ts.length) : joinL (ts.take (k + 1)) = if k = 0 then ts.getD k [] else joinL (ts.take k) ++ 32 :: ts.getD k [] := by
  have e : ts.take (k + 1) = ts.take k ++ [ts.getD k []] := by
    rw [List.take_add_one, List.getElem?_eq_getElem h]
    simp [List.getD, h]
  rw [e]
  by_cases h0 : k = 0
  · subst h0; simp [joinL]
  · rw [if_neg h0, joinL_snoc]
    intro he
    have := congrArg List.length he
    rw [List.length_take, List.length_nil] at this
    omega
theorem joinL_len : ∀ (ts : List (List UInt8)) (N : Nat), (∀ t ∈ ts, t.length ≤ N) → (joinL ts).length ≤ (N + 1) * ts.length := by
  intro ts N
  induction ts with
  | nil => intro _; simp [joinL]
  | cons x l ih =>
    intro h
    have h1 := ih fun t ht => h t (by simp [ht])
    have h2 := h x (by simp)
    cases l with
    | nil => simp [joinL]; omega
    | cons y r =>
      show (x ++ 32 :: joinL (y :: r)).length ≤ _
      rw [List.length_append, List.length_cons, List.length_cons (a := x), Nat.mul_succ]
      omega

set_option maxHeartbeats 1600000 in
theorem l9Texts_v (v : Value) (ts : List (List UInt8)) (ok : Bool) (w : World) (hv : RdS w v ts) (hn : ts.length ≤ 64) (hx : ∀ t ∈ ts, t.length ≤ 1100) :
    Calls Tryz.prog 162 #[v, .bool ok] w fun e w' => e = .returned (strV (textsL ts ok)) ∧ w = w' := by
  obtain ⟨ao, ca, rfl, h1, h2, h3⟩ := hv
  unfold maxLen at h2
  cases ok
  · go_enter Tryz.func162, Tryz.ntmps162
    go_wp2
    go_ret
    exact ⟨rfl, rfl⟩
  · by_cases h0 : ts = []
    · subst h0
      go_enter Tryz.func162, Tryz.ntmps162
      go_wp2
      go_ret
      exact ⟨rfl, rfl⟩
    · have hr : textsL ts true = joinL ts ++ [10] := by unfold textsL; rw [if_neg (by simp), if_neg h0]
      rw [hr]
      obtain ⟨b, rfl, hb, hc⟩ := h3.resolve_left h0
      obtain ⟨m, hm⟩ : ∃ m, m = ts.length := ⟨_, rfl⟩
      have hm1 : 1 ≤ m := by
        rcases Nat.eq_zero_or_pos m with h | h
        · rw [hm] at h; exact absurd (List.eq_nil_of_length_eq_zero h) h0
        · exact h
      rw [← hm] at h1 hn ⊢
      have HM := Lib.hid hm
      have HC := Lib.hid hc
      have HX := Lib.hid hx
      have HJ : Hid (∀ k, k ≤ m → (joinL (ts.take k)).length ≤ 70464) := Lib.hid fun k hk => by
        have := joinL_len (ts.take k) 1100 fun t ht => hx t (List.mem_of_mem_take ht)
        have h4 : (ts.take k).length ≤ 64 := by rw [List.length_take]; omega
        have := Nat.mul_le_mul_left (1100 + 1) h4
        omega
      have hz : ((m : Int) == 0) = false := by simp; omega
      have HE : Hid (joinL (ts.take m) = joinL ts) := Lib.hid (by rw [hm, List.take_length])
      clear hm hc hx hr h0 h3
      go_enter Tryz.func162, Tryz.ntmps162
      go_wp2
      go_loop [5, 6] (fun u i => ∃ k : Nat, k ≤ m ∧ i = .int .i64 k ∧ u = strV (joinL (ts.take k))) (fun _ i => m - (intOf i).toNat)
      case atStart => exact ⟨0, Nat.zero_le _, rfl, rfl⟩
      case round =>
        obtain ⟨k, hk, rfl, rfl⟩ := hrel
        have hJ := HJ.out k hk
        obtain ⟨o, ho⟩ : ∃ o, o = joinL (ts.take k) := ⟨_, rfl⟩
        by_cases hlt : k < m
        · have hjt := joinL_take ts k (by have := HM.out; omega)
          have hck := HC.out k (by have := HM.out; omega)
          have hxl : (ts.getD k []).length ≤ 1100 := by
            have hk2 : k < ts.length := by have := HM.out; omega
            simp only [List.getD, List.getElem?_eq_getElem hk2, Option.getD_some]
            exact HX.out _ (List.getElem_mem hk2)
          obtain ⟨x, hxe⟩ : ∃ x, x = ts.getD k [] := ⟨_, rfl⟩
          rw [← hxe] at hjt hck hxl
          rw [← ho] at hjt hJ ⊢
          have HT := Lib.hid hjt
          have HO0 : Hid (o = joinL (ts.take k)) := Lib.hid ho
          clear hjt ho hxe
          by_cases hk0 : k = 0
          · subst hk0
            have HO : Hid (joinL (ts.take (0 + 1)) = o ++ x) := Lib.hid (by rw [HT.out, if_pos rfl, HO0.out]; simp [joinL])
            go_wp2
            all_goals
              go_round
              case rel => exact ⟨0 + 1, by omega, by go_num, by rw [HO.out]; exact str_cat1 o x⟩
              case measure => simp [intOf]; omega
          · have hg : decide ((0 : Int) < (k : Int)) = true := by simp; omega
            have HT2 : Hid (joinL (ts.take (k + 1)) = o ++ 32 :: x) := Lib.hid (by rw [HT.out, if_neg hk0])
            go_wp2
            all_goals
              go_round
              case rel => exact ⟨k + 1, by omega, by go_num, by rw [HT2.out]; exact str_cat2 o x⟩
              case measure => simp [intOf]; omega
        · obtain rfl : k = m := by omega
          rw [← ho] at hJ ⊢
          rw [HE.out] at ho
          have HO := Lib.hid ho
          clear ho HE
          go_wp2
          go_ret
          exact ⟨by rw [← HO.out]; exact ret_cat o [10], rfl⟩

theorem strs_pre (xs : List Int) (k : Nat) (h : k < xs.length) : (xs.map decZ).take (k + 1) = (xs.map decZ).take k ++ [decZ (xs.getD k 0)] := by
  rw [List.take_add_one, List.getElem?_map, List.getElem?_eq_getElem h]
  simp [List.getD, h]

set_option maxHeartbeats 1600000 in
theorem l9Said_v (v : Value) (xs : List Int) (ok : Bool) (w : World) (hv : RdV w v xs) (hg : GoodL xs) :
    Calls Tryz.prog 85 #[v, .bool ok] w (GivesS w (saidL xs ok)) := by
  obtain ⟨ao, ca, rfl, h, h1, h2⟩ := hv
  unfold maxLen at h2
  obtain ⟨g1, g2⟩ := hg
  obtain ⟨m, hm⟩ : ∃ m, m = xs.length := ⟨_, rfl⟩
  rw [← hm] at h1 g1 ⊢
  have HM := Lib.hid hm
  have HG := Lib.hid g2
  have HS : Hid (saidL xs ok = textsL ((xs.map decZ).take m) ok) := Lib.hid (by unfold saidL; rw [hm, ← List.length_map decZ, List.take_length])
  have HT := Lib.hid fun (v : Value) (w1 : World) (hv : RdS w1 v ((xs.map decZ).take m)) => l9Texts_v v ((xs.map decZ).take m) ok w1 hv (by simp; omega) (fun t ht => by
    obtain ⟨n, hn, rfl⟩ := List.mem_map.1 (List.mem_of_mem_take ht)
    have := decZ_len15 (HG.out n hn)
    omega)
  rw [HS.out]
  clear hm g2
  have HR := Lib.hid h
  clear h
  go_enter Tryz.func85, Tryz.ntmps85
  go_wp2
  go_loopw [5, 6] (fun u i wr => ∃ k : Nat, k ≤ m ∧ i = .int .i64 k ∧ OwnS wr w.heap.size u ((xs.map decZ).take k) ∧ Below w.heap.size w wr) (fun _ i _ => m - (intOf i).toNat)
  case atStart => exact ⟨0, Nat.zero_le _, rfl, ownS_empty w _ (Nat.le_refl _), (Below.refl _ w).alloc (Nat.le_refl _) _⟩
  case round =>
    obtain ⟨k, hk, rfl, hown, hbel⟩ := hrel
    have HO := Lib.hid hown
    by_cases hlt : k < m
    · have hck := rd_cell HR.out (k := k) (by have := HM.out; omega)
      obtain ⟨b, off, hao, hc⟩ := hck
      subst hao
      have hcw := cell_after hc hbel
      have hnum : Num (xs.getD k 0) := by
        have hk2 : k < xs.length := by have := HM.out; omega
        simp only [List.getD, List.getElem?_eq_getElem hk2, Option.getD_some]
        exact HG.out _ (List.getElem_mem hk2)
      have HSP : Hid ((xs.map decZ).take (k + 1) = (xs.map decZ).take k ++ [decZ (xs.getD k 0)]) := Lib.hid (strs_pre xs k (by have := HM.out; omega))
      obtain ⟨x, hx⟩ : ∃ x, x = xs.getD k 0 := ⟨_, rfl⟩
      rw [← hx] at hcw hnum HSP
      obtain ⟨t, ht⟩ : ∃ t, t = decZ x := ⟨_, rfl⟩
      have HD := Lib.hid (l6Dec_any x hnum)
      rw [← ht] at HSP HD
      clear hx ht hnum hc hown
      have hvs := ownS_lt HO.out
      go_wp2_with (first | (go_at_call 32; (with_reducible refine (HD.out _).mono ?_); rintro e w' ⟨rfl, hb⟩; have hbx := below_step hbel hb; have hox := ownS_below HO.out hb) | (at_builtin; refine wpList_pushS rfl _ _ rfl w.heap.size _ _ rfl (ownS_alloc hox _) _ rfl t (by simp) (by simp; omega) (by have := hbx.size; simp; omega) ?_; intro v' w9 ho9 hg9 hb9))
      refine ⟨⟨k + 1, by omega, rfl, by rw [HSP.out]; exact ho9, ?_⟩, by simp [intOf]; omega⟩
      exact (hbx.alloc hbx.size _).grown hg9 (by have := hbx.size; simp; omega) (fun q hq => (hvs q hq).1)
    · obtain rfl : k = m := by omega
      go_wp2_with (go_at_call 162; (with_reducible refine (HT.out _ _ (ownS_rd HO.out)).mono ?_); rintro e w' ⟨rfl, rfl⟩)
      go_ret
      exact ⟨rfl, hbel⟩

theorem own_one_int (w : World) (n : Int) : RdV (w.alloc (.cells #[.int .i64 n] 3)) (.slice (some ⟨w.heap.size, 0, none⟩) 1 1) [n] :=
  own_rdv (B := w.heap.size) (own_lit1 w w.heap.size (Nat.le_refl _) n)

theorem l9One_v (n : Int) (ok : Bool) (w : World) (hn : Num n) : Calls Tryz.prog 89 #[.int .i64 n, .bool ok] w (GivesS w (oneL n ok)) := by
  have HS := Lib.hid (fun w1 v hv => l9Said_v v [n] ok w1 hv ⟨by simp, fun x hx => by rw [List.mem_singleton.1 hx]; exact hn⟩)
  unfold oneL
  obtain ⟨t, ht⟩ : ∃ t, t = saidL [n] ok := ⟨_, rfl⟩
  rw [← ht] at HS ⊢
  clear ht
  go_enter Tryz.func89, Tryz.ntmps89
  go_wp2_with (go_at_call 85; (with_reducible refine (HS.out _ _ (own_one_int w n)).mono ?_); rintro e w' ⟨rfl, hb⟩)
  go_ret
  exact ⟨rfl, below_step ((Below.refl _ w).alloc (Nat.le_refl _) _) hb⟩

theorem flat_len (N : Nat) : ∀ l : List Int, (∀ x ∈ l, Num x) → (l.flatMap decZ).length ≤ 16 * l.length := by
  intro l
  induction l with
  | nil => intro _; simp
  | cons x l ih =>
    intro h
    have h1 := ih fun y hy => h y (by simp [hy])
    have h2 := decZ_len15 (h x (by simp))
    rw [List.flatMap_cons, List.length_append, List.length_cons]
    omega
theorem flat_pre (xs : List Int) (k : Nat) (h : k < xs.length) : (xs.take (k + 1)).flatMap decZ = (xs.take k).flatMap decZ ++ decZ (xs.getD k 0) := by
  rw [List.take_add_one, List.getElem?_eq_getElem h, List.flatMap_append]
  simp [List.getD, h]
def rowT (l : List Int) : List UInt8 := l.flatMap decZ
theorem rows_pre (ls : List (List Int)) (k : Nat) (h : k < ls.length) : (ls.map rowT).take (k + 1) = (ls.map rowT).take k ++ [rowT (ls.getD k [])] := by
  rw [List.take_add_one, List.getElem?_map, List.getElem?_eq_getElem h]
  simp [List.getD, h]

set_option maxHeartbeats 4000000 in
theorem l9Lists_v (v : Value) (ls : List (List Int)) (ok : Bool) (w : World) (hv : RdM w v ls) (hg : GoodM ls) :
    Calls Tryz.prog 86 #[v, .bool ok] w (GivesS w (listsL ls ok)) := by
  obtain ⟨ao, ca, vs, hvl, rfl, h1, h2, h3, h4⟩ := hv
  unfold maxLen at h2
  obtain ⟨g1, g2⟩ := hg
  obtain ⟨m, hm⟩ : ∃ m, m = ls.length := ⟨_, rfl⟩
  rw [← hm] at h1 g1 hvl ⊢
  have HM := Lib.hid hm
  have HG := Lib.hid g2
  have H3 := Lib.hid h3
  have H4 := Lib.hid h4
  have HS : Hid (listsL ls ok = textsL ((ls.map rowT).take m) ok) := Lib.hid (by unfold listsL; rw [hm, ← List.length_map rowT, List.take_length]; rfl)
  have HT := Lib.hid fun (v : Value) (w1 : World) (hv : RdS w1 v ((ls.map rowT).take m)) => l9Texts_v v ((ls.map rowT).take m) ok w1 hv (by simp; omega) (fun t ht => by
    obtain ⟨l, hl, rfl⟩ := List.mem_map.1 (List.mem_of_mem_take ht)
    have h5 := flat_len 0 l (HG.out l hl).2
    have h6 := (HG.out l hl).1
    show (l.flatMap decZ).length ≤ 1100
    omega)
  rw [HS.out]
  clear hm g2 h3 h4 hvl
  go_enter Tryz.func86, Tryz.ntmps86
  go_wp2
  go_loopw [5, 6] (fun u i wr => ∃ k : Nat, k ≤ m ∧ i = .int .i64 k ∧ OwnS wr w.heap.size u ((ls.map rowT).take k) ∧ Below w.heap.size w wr) (fun _ i _ => m - (intOf i).toNat)
  case atStart => exact ⟨0, Nat.zero_le _, rfl, ownS_empty w _ (Nat.le_refl _), (Below.refl _ w).alloc (Nat.le_refl _) _⟩
  case round =>
    obtain ⟨k, hk, rfl, hown, hbel⟩ := hrel
    have HO := Lib.hid hown
    by_cases hlt : k < m
    · rcases H3.out with h3 | ⟨bb, off, rfl, hc⟩
      · have := HM.out
        rw [h3] at this
        simp at this
        omega
      have hck := cell_after (hc k (by have := HM.out; omega)) hbel
      have hrow := rdv_below (H4.out k (by have := HM.out; omega)) hbel
      have hgood := HG.out (ls.getD k []) (by
        have hk2 : k < ls.length := by have := HM.out; omega
        simp only [List.getD, List.getElem?_eq_getElem hk2, Option.getD_some]
        exact List.getElem_mem hk2)
      have HSP : Hid ((ls.map rowT).take (k + 1) = (ls.map rowT).take k ++ [rowT (ls.getD k [])]) := Lib.hid (rows_pre ls k (by have := HM.out; omega))
      obtain ⟨row, hrw⟩ : ∃ row, row = ls.getD k [] := ⟨_, rfl⟩
      obtain ⟨z, hz⟩ : ∃ z, z = vs.getD k undef := ⟨_, rfl⟩
      rw [← hz] at hck hrow
      rw [← hrw] at hrow hgood HSP
      clear hz hrw hc hown
      obtain ⟨zo, zc, rfl, hzr, z1, z2⟩ := hrow
      unfold maxLen at z2
      obtain ⟨n, hn⟩ : ∃ n, n = row.length := ⟨_, rfl⟩
      have hgl := hgood.1
      rw [← hn] at hck z1 hgl
      have HN := Lib.hid hn
      have HZ := Lib.hid hzr
      have HGR := Lib.hid hgood.2
      have HFL : Hid (∀ j, ((row.take j).flatMap decZ).length ≤ 1024) := Lib.hid fun j => by
        have := flat_len 0 (row.take j) fun x hx => HGR.out x (List.mem_of_mem_take hx)
        have h8 : (row.take j).length ≤ 64 := by rw [List.length_take]; have := HN.out; omega
        omega
      have HRT : Hid (rowT row = (row.take n).flatMap decZ) := Lib.hid (by rw [HN.out, List.take_length]; rfl)
      clear hn hzr hgood
      go_wp2
      go_loopw [7, 8] (fun u i w2 => ∃ j : Nat, j ≤ n ∧ i = .int .i64 j ∧ u = strV ((row.take j).flatMap decZ) ∧ Below wr.heap.size wr w2) (fun _ i _ => n - (intOf i).toNat)
      case atStart => exact ⟨0, Nat.zero_le _, rfl, rfl, Below.refl _ _⟩
      case round =>
        obtain ⟨j, hj, rfl, rfl, hb2⟩ := hrel
        have hck2 := cell_after hck hb2
        by_cases hjl : j < n
        · obtain ⟨b, o, rfl, hcj⟩ := rd_cell HZ.out (k := j) (by have := HN.out; omega)
          have hcw := cell_after hcj hb2
          have hnum : Num (row.getD j 0) := by
            have hk2 : j < row.length := by have := HN.out; omega
            simp only [List.getD, List.getElem?_eq_getElem hk2, Option.getD_some]
            exact HGR.out _ (List.getElem_mem hk2)
          have HFP : Hid ((row.take (j + 1)).flatMap decZ = (row.take j).flatMap decZ ++ decZ (row.getD j 0)) := Lib.hid (flat_pre row j (by have := HN.out; omega))
          have hol := HFL.out j
          have htl := decZ_len15 hnum
          obtain ⟨o9, ho9⟩ : ∃ o9, o9 = (row.take j).flatMap decZ := ⟨_, rfl⟩
          obtain ⟨x, hx⟩ : ∃ x, x = row.getD j 0 := ⟨_, rfl⟩
          rw [← hx] at hcw hnum HFP htl
          rw [← ho9] at HFP hol ⊢
          have HD := Lib.hid (l6Dec_any x hnum)
          obtain ⟨t, ht⟩ : ∃ t, t = decZ x := ⟨_, rfl⟩
          rw [← ht] at HFP HD htl
          clear hx ht hnum hcj ho9 hck
          go_wp2_with (go_at_call 32; (with_reducible refine (HD.out _).mono ?_); rintro e w' ⟨rfl, hb⟩)
          all_goals go_wp2
          all_goals exact ⟨⟨j + 1, by omega, rfl, by rw [HFP.out]; exact str_cat1 o9 t, below_step hb2 hb⟩, by simp [intOf]; omega⟩
        · obtain rfl : j = n := by omega
          have hox := ownS_below HO.out hb2
          have hvs := ownS_lt hox
          have hbx := below_step hbel hb2
          have HRS : Hid ((ls.map rowT).take (k + 1) = (ls.map rowT).take k ++ [(row.take j).flatMap decZ]) := Lib.hid (by rw [HSP.out, HRT.out])
          obtain ⟨t, ht⟩ : ∃ t, t = (row.take j).flatMap decZ := ⟨_, rfl⟩
          rw [← ht] at HRS ⊢
          clear ht
          go_wp2_with (at_builtin; refine wpList_pushS rfl _ _ rfl w.heap.size _ _ rfl (ownS_alloc hox _) _ rfl t (by simp) (by simp; omega) (by have := hbx.size; simp; omega) ?_; intro v' w9 ho9 hg9 hb9)
          refine ⟨⟨k + 1, by omega, rfl, by rw [HRS.out]; exact ho9, ?_⟩, by simp [intOf]; omega⟩
          exact (hbx.alloc hbx.size _).grown hg9 (by have := hbx.size; simp; omega) (fun q hq => (hvs q hq).1)
    · obtain rfl : k = m := by omega
      go_wp2_with (go_at_call 162; (with_reducible refine (HT.out _ _ (ownS_rd HO.out)).mono ?_); rintro e w' ⟨rfl, rfl⟩)
      go_ret
      exact ⟨rfl, hbel⟩
end

section
open Go.RowKit

theorem bare_show (v : Value) (a : List Int) (w : World) (hv : RdV w v a) (hp : partIn a = true) : Calls Tryz.prog 54 #[v, strV [115, 104, 111, 119]] w (GivesS w (saidL a true)) := by
  have HO := Lib.hid (l9Said_v v a true w hv (goodL_part hp))
  obtain ⟨t, ht⟩ : ∃ t, t = saidL a true := ⟨_, rfl⟩
  rw [← ht] at HO ⊢
  clear ht hv hp
  go_enter Tryz.func54, Tryz.ntmps54
  go_wp2_with (go_at_call 85; (with_reducible refine HO.out.mono ?_); rintro e w2 ⟨rfl, hb2⟩)
  go_ret
  exact ⟨rfl, hb2⟩

theorem bare_blocks (v : Value) (a : List Int) (w : World) (hv : RdV w v a) : Calls Tryz.prog 54 #[v, strV [98, 108, 111, 99, 107, 115]] w (GivesS w (listsL (partBlocks a).1 (partBlocks a).2)) := by
  obtain ⟨r, b, hr⟩ : ∃ r b, (r, b) = partBlocks a := ⟨_, _, rfl⟩
  have hF := sPartBlocks_v v a w hv
  have hg := good_blocks a
  rw [← hr] at hF hg ⊢
  have HF := Lib.hid hF
  have HG := Lib.hid hg
  have HO := Lib.hid (fun v1 w1 (h : RdM w1 v1 r) => l9Lists_v v1 r b w1 h HG.out)
  obtain ⟨t, ht⟩ : ∃ t, t = listsL r b := ⟨_, rfl⟩
  rw [← ht] at HO ⊢
  clear ht hF hg hr hv
  go_enter Tryz.func54, Tryz.ntmps54
  go_wp2_with (first | (go_at_call 87; (with_reducible refine HF.out.mono ?_); rintro e w1 ⟨v1, rfl, ho1, hb1⟩; have hrd := ownM_rdM ho1) | (go_at_call 86; (with_reducible refine (HO.out _ _ hrd).mono ?_); rintro e w2 ⟨rfl, hb2⟩))
  go_ret
  exact ⟨rfl, below_step hb1 hb2⟩

theorem bare_type (v : Value) (a : List Int) (w : World) (hv : RdV w v a) : Calls Tryz.prog 54 #[v, strV [116, 121, 112, 101]] w (GivesS w (saidL (partType a).1 (partType a).2)) := by
  obtain ⟨r, b, hr⟩ : ∃ r b, (r, b) = partType a := ⟨_, _, rfl⟩
  have hF := sPartType_v v a w hv
  have hg := good_type a
  rw [← hr] at hF hg ⊢
  have HF := Lib.hid hF
  have HG := Lib.hid hg
  have HO := Lib.hid (fun v1 w1 (h : RdV w1 v1 r) => l9Said_v v1 r b w1 h HG.out)
  obtain ⟨t, ht⟩ : ∃ t, t = saidL r b := ⟨_, rfl⟩
  rw [← ht] at HO ⊢
  clear ht hF hg hr hv
  go_enter Tryz.func54, Tryz.ntmps54
  go_wp2_with (first | (go_at_call 88; (with_reducible refine HF.out.mono ?_); rintro e w1 ⟨v1, rfl, ho1, hb1⟩; have hrd := own_rdv ho1) | (go_at_call 85; (with_reducible refine (HO.out _ _ hrd).mono ?_); rintro e w2 ⟨rfl, hb2⟩))
  go_ret
  exact ⟨rfl, below_step hb1 hb2⟩

theorem bare_size (v : Value) (a : List Int) (w : World) (hv : RdV w v a) : Calls Tryz.prog 54 #[v, strV [115, 105, 122, 101]] w (GivesS w (oneL (partSize a).1 (partSize a).2)) := by
  obtain ⟨r, b, hr⟩ : ∃ r b, (r, b) = partSize a := ⟨_, _, rfl⟩
  have hF := sPartSize_v v a w hv
  have hg := bd_size a
  rw [← hr] at hF hg ⊢
  have HF := Lib.hid hF
  have HG := Lib.hid hg
  have HO := Lib.hid (fun w1 (h : Num r) => l9One_v r b w1 h)
  obtain ⟨t, ht⟩ : ∃ t, t = oneL r b := ⟨_, rfl⟩
  rw [← ht] at HO ⊢
  clear ht hF hg hr hv
  go_enter Tryz.func54, Tryz.ntmps54
  go_wp2_with (first | (go_at_call 90; (with_reducible refine HF.out.mono ?_); rintro e w1 ⟨rfl, hb1⟩) | (go_at_call 89; (with_reducible refine (HO.out _ HG.out).mono ?_); rintro e w2 ⟨rfl, hb2⟩))
  go_ret
  exact ⟨rfl, below_step hb1 hb2⟩

theorem bare_rank (v : Value) (a : List Int) (w : World) (hv : RdV w v a) : Calls Tryz.prog 54 #[v, strV [114, 97, 110, 107]] w (GivesS w (oneL (finerRank a).1 (finerRank a).2)) := by
  obtain ⟨r, b, hr⟩ : ∃ r b, (r, b) = finerRank a := ⟨_, _, rfl⟩
  have hF := sFinerRank_v v a w hv
  have hg := bd_rank a
  rw [← hr] at hF hg ⊢
  have HF := Lib.hid hF
  have HG := Lib.hid hg
  have HO := Lib.hid (fun w1 (h : Num r) => l9One_v r b w1 h)
  obtain ⟨t, ht⟩ : ∃ t, t = oneL r b := ⟨_, rfl⟩
  rw [← ht] at HO ⊢
  clear ht hF hg hr hv
  go_enter Tryz.func54, Tryz.ntmps54
  go_wp2_with (first | (go_at_call 91; (with_reducible refine HF.out.mono ?_); rintro e w1 ⟨rfl, hb1⟩) | (go_at_call 89; (with_reducible refine (HO.out _ HG.out).mono ?_); rintro e w2 ⟨rfl, hb2⟩))
  go_ret
  exact ⟨rfl, below_step hb1 hb2⟩

theorem bare_merges (v : Value) (a : List Int) (w : World) (hv : RdV w v a) : Calls Tryz.prog 54 #[v, strV [109, 101, 114, 103, 101, 115]] w (GivesS w (listsL (finerMerges a).1 (finerMerges a).2)) := by
  obtain ⟨r, b, hr⟩ : ∃ r b, (r, b) = finerMerges a := ⟨_, _, rfl⟩
  have hF := sFinerMerges_v v a w hv
  have hg := good_merges a
  rw [← hr] at hF hg ⊢
  have HF := Lib.hid hF
  have HG := Lib.hid hg
  have HO := Lib.hid (fun v1 w1 (h : RdM w1 v1 r) => l9Lists_v v1 r b w1 h HG.out)
  obtain ⟨t, ht⟩ : ∃ t, t = listsL r b := ⟨_, rfl⟩
  rw [← ht] at HO ⊢
  clear ht hF hg hr hv
  go_enter Tryz.func54, Tryz.ntmps54
  go_wp2_with (first | (go_at_call 92; (with_reducible refine HF.out.mono ?_); rintro e w1 ⟨v1, rfl, ho1, hb1⟩; have hrd := ownM_rdM ho1) | (go_at_call 86; (with_reducible refine (HO.out _ _ hrd).mono ?_); rintro e w2 ⟨rfl, hb2⟩))
  go_ret
  exact ⟨rfl, below_step hb1 hb2⟩

theorem bare_splits (v : Value) (a : List Int) (w : World) (hv : RdV w v a) : Calls Tryz.prog 54 #[v, strV [115, 112, 108, 105, 116, 115]] w (GivesS w (oneL (finerSplits a).1 (finerSplits a).2)) := by
  obtain ⟨r, b, hr⟩ : ∃ r b, (r, b) = finerSplits a := ⟨_, _, rfl⟩
  have hF := sFinerSplits_v v a w hv
  have hg := bd_splits a
  rw [← hr] at hF hg ⊢
  have HF := Lib.hid hF
  have HG := Lib.hid hg
  have HO := Lib.hid (fun w1 (h : Num r) => l9One_v r b w1 h)
  obtain ⟨t, ht⟩ : ∃ t, t = oneL r b := ⟨_, rfl⟩
  rw [← ht] at HO ⊢
  clear ht hF hg hr hv
  go_enter Tryz.func54, Tryz.ntmps54
  go_wp2_with (first | (go_at_call 93; (with_reducible refine HF.out.mono ?_); rintro e w1 ⟨rfl, hb1⟩) | (go_at_call 89; (with_reducible refine (HO.out _ HG.out).mono ?_); rintro e w2 ⟨rfl, hb2⟩))
  go_ret
  exact ⟨rfl, below_step hb1 hb2⟩

theorem bare_chains (v : Value) (a : List Int) (w : World) (hv : RdV w v a) : Calls Tryz.prog 54 #[v, strV [99, 104, 97, 105, 110, 115]] w (GivesS w (oneL (finerChains a).1 (finerChains a).2)) := by
  obtain ⟨r, b, hr⟩ : ∃ r b, (r, b) = finerChains a := ⟨_, _, rfl⟩
  have hF := sFinerChains_v v a w hv
  have hg := bd_chains a
  rw [← hr] at hF hg ⊢
  have HF := Lib.hid hF
  have HG := Lib.hid hg
  have HO := Lib.hid (fun w1 (h : Num r) => l9One_v r b w1 h)
  obtain ⟨t, ht⟩ : ∃ t, t = oneL r b := ⟨_, rfl⟩
  rw [← ht] at HO ⊢
  clear ht hF hg hr hv
  go_enter Tryz.func54, Tryz.ntmps54
  go_wp2_with (first | (go_at_call 94; (with_reducible refine HF.out.mono ?_); rintro e w1 ⟨rfl, hb1⟩) | (go_at_call 89; (with_reducible refine (HO.out _ HG.out).mono ?_); rintro e w2 ⟨rfl, hb2⟩))
  go_ret
  exact ⟨rfl, below_step hb1 hb2⟩

theorem bare_place (v : Value) (a : List Int) (w : World) (hv : RdV w v a) : Calls Tryz.prog 54 #[v, strV [112, 108, 97, 99, 101]] w (GivesS w (oneL (listPlace a).1 (listPlace a).2)) := by
  obtain ⟨r, b, hr⟩ : ∃ r b, (r, b) = listPlace a := ⟨_, _, rfl⟩
  have hF := sListPlace_v v a w hv
  have hg := bd_place a
  rw [← hr] at hF hg ⊢
  have HF := Lib.hid hF
  have HG := Lib.hid hg
  have HO := Lib.hid (fun w1 (h : Num r) => l9One_v r b w1 h)
  obtain ⟨t, ht⟩ : ∃ t, t = oneL r b := ⟨_, rfl⟩
  rw [← ht] at HO ⊢
  clear ht hF hg hr hv
  go_enter Tryz.func54, Tryz.ntmps54
  go_wp2_with (first | (go_at_call 16; (with_reducible refine HF.out.mono ?_); rintro e w1 ⟨rfl, hb1⟩) | (go_at_call 89; (with_reducible refine (HO.out _ HG.out).mono ?_); rintro e w2 ⟨rfl, hb2⟩))
  go_ret
  exact ⟨rfl, below_step hb1 hb2⟩

theorem bare_arcs (v : Value) (a : List Int) (w : World) (hv : RdV w v a) : Calls Tryz.prog 54 #[v, strV [97, 114, 99, 115]] w (GivesS w (listsL (arcList a).1 (arcList a).2)) := by
  obtain ⟨r, b, hr⟩ : ∃ r b, (r, b) = arcList a := ⟨_, _, rfl⟩
  have hF := sArcList_v v a w hv
  have hg := good_arcs a
  rw [← hr] at hF hg ⊢
  have HF := Lib.hid hF
  have HG := Lib.hid hg
  have HO := Lib.hid (fun v1 w1 (h : RdM w1 v1 r) => l9Lists_v v1 r b w1 h HG.out)
  obtain ⟨t, ht⟩ : ∃ t, t = listsL r b := ⟨_, rfl⟩
  rw [← ht] at HO ⊢
  clear ht hF hg hr hv
  go_enter Tryz.func54, Tryz.ntmps54
  go_wp2_with (first | (go_at_call 95; (with_reducible refine HF.out.mono ?_); rintro e w1 ⟨v1, rfl, ho1, hb1⟩; have hrd := ownM_rdM ho1) | (go_at_call 86; (with_reducible refine (HO.out _ _ hrd).mono ?_); rintro e w2 ⟨rfl, hb2⟩))
  go_ret
  exact ⟨rfl, below_step hb1 hb2⟩

theorem bare_cross (v : Value) (a : List Int) (w : World) (hv : RdV w v a) : Calls Tryz.prog 54 #[v, strV [99, 114, 111, 115, 115]] w (GivesS w (oneL (arcCross a).1 (arcCross a).2)) := by
  obtain ⟨r, b, hr⟩ : ∃ r b, (r, b) = arcCross a := ⟨_, _, rfl⟩
  have hF := sArcCross_v v a w hv
  have hg := bd_cross a
  rw [← hr] at hF hg ⊢
  have HF := Lib.hid hF
  have HG := Lib.hid hg
  have HO := Lib.hid (fun w1 (h : Num r) => l9One_v r b w1 h)
  obtain ⟨t, ht⟩ : ∃ t, t = oneL r b := ⟨_, rfl⟩
  rw [← ht] at HO ⊢
  clear ht hF hg hr hv
  go_enter Tryz.func54, Tryz.ntmps54
  go_wp2_with (first | (go_at_call 21; (with_reducible refine HF.out.mono ?_); rintro e w1 ⟨rfl, hb1⟩) | (go_at_call 89; (with_reducible refine (HO.out _ HG.out).mono ?_); rintro e w2 ⟨rfl, hb2⟩))
  go_ret
  exact ⟨rfl, below_step hb1 hb2⟩

theorem bare_nest (v : Value) (a : List Int) (w : World) (hv : RdV w v a) : Calls Tryz.prog 54 #[v, strV [110, 101, 115, 116]] w (GivesS w (oneL (arcNest a).1 (arcNest a).2)) := by
  obtain ⟨r, b, hr⟩ : ∃ r b, (r, b) = arcNest a := ⟨_, _, rfl⟩
  have hF := sArcNest_v v a w hv
  have hg := bd_nest a
  rw [← hr] at hF hg ⊢
  have HF := Lib.hid hF
  have HG := Lib.hid hg
  have HO := Lib.hid (fun w1 (h : Num r) => l9One_v r b w1 h)
  obtain ⟨t, ht⟩ : ∃ t, t = oneL r b := ⟨_, rfl⟩
  rw [← ht] at HO ⊢
  clear ht hF hg hr hv
  go_enter Tryz.func54, Tryz.ntmps54
  go_wp2_with (first | (go_at_call 96; (with_reducible refine HF.out.mono ?_); rintro e w1 ⟨rfl, hb1⟩) | (go_at_call 89; (with_reducible refine (HO.out _ HG.out).mono ?_); rintro e w2 ⟨rfl, hb2⟩))
  go_ret
  exact ⟨rfl, below_step hb1 hb2⟩

theorem bare_far (v : Value) (a : List Int) (w : World) (hv : RdV w v a) : Calls Tryz.prog 54 #[v, strV [102, 97, 114]] w (GivesS w (oneL (arcLong a).1 (arcLong a).2)) := by
  obtain ⟨r, b, hr⟩ : ∃ r b, (r, b) = arcLong a := ⟨_, _, rfl⟩
  have hF := sArcLong_v v a w hv
  have hg := bd_far a
  rw [← hr] at hF hg ⊢
  have HF := Lib.hid hF
  have HG := Lib.hid hg
  have HO := Lib.hid (fun w1 (h : Num r) => l9One_v r b w1 h)
  obtain ⟨t, ht⟩ : ∃ t, t = oneL r b := ⟨_, rfl⟩
  rw [← ht] at HO ⊢
  clear ht hF hg hr hv
  go_enter Tryz.func54, Tryz.ntmps54
  go_wp2_with (first | (go_at_call 97; (with_reducible refine HF.out.mono ?_); rintro e w1 ⟨rfl, hb1⟩) | (go_at_call 89; (with_reducible refine (HO.out _ HG.out).mono ?_); rintro e w2 ⟨rfl, hb2⟩))
  go_ret
  exact ⟨rfl, below_step hb1 hb2⟩

theorem bare_ring (v : Value) (a : List Int) (w : World) (hv : RdV w v a) : Calls Tryz.prog 54 #[v, strV [114, 105, 110, 103]] w (GivesS w (saidL (ringOf a).1 (ringOf a).2)) := by
  obtain ⟨r, b, hr⟩ : ∃ r b, (r, b) = ringOf a := ⟨_, _, rfl⟩
  have hF := sRingOf_v v a w hv
  have hg := good_ring a
  rw [← hr] at hF hg ⊢
  have HF := Lib.hid hF
  have HG := Lib.hid hg
  have HO := Lib.hid (fun v1 w1 (h : RdV w1 v1 r) => l9Said_v v1 r b w1 h HG.out)
  obtain ⟨t, ht⟩ : ∃ t, t = saidL r b := ⟨_, rfl⟩
  rw [← ht] at HO ⊢
  clear ht hF hg hr hv
  go_enter Tryz.func54, Tryz.ntmps54
  go_wp2_with (first | (go_at_call 98; (with_reducible refine HF.out.mono ?_); rintro e w1 ⟨v1, rfl, ho1, hb1⟩; have hrd := own_rdv ho1) | (go_at_call 85; (with_reducible refine (HO.out _ _ hrd).mono ?_); rintro e w2 ⟨rfl, hb2⟩))
  go_ret
  exact ⟨rfl, below_step hb1 hb2⟩

theorem bare_count (v : Value) (a : List Int) (w : World) (hv : RdV w v a) : Calls Tryz.prog 54 #[v, strV [99, 111, 117, 110, 116]] w (GivesS w (oneL (ringCount a).1 (ringCount a).2)) := by
  obtain ⟨r, b, hr⟩ : ∃ r b, (r, b) = ringCount a := ⟨_, _, rfl⟩
  have hF := sRingCount_v v a w hv
  have hg := bd_count a
  rw [← hr] at hF hg ⊢
  have HF := Lib.hid hF
  have HG := Lib.hid hg
  have HO := Lib.hid (fun w1 (h : Num r) => l9One_v r b w1 h)
  obtain ⟨t, ht⟩ : ∃ t, t = oneL r b := ⟨_, rfl⟩
  rw [← ht] at HO ⊢
  clear ht hF hg hr hv
  go_enter Tryz.func54, Tryz.ntmps54
  go_wp2_with (first | (go_at_call 99; (with_reducible refine HF.out.mono ?_); rintro e w1 ⟨rfl, hb1⟩) | (go_at_call 89; (with_reducible refine (HO.out _ HG.out).mono ?_); rintro e w2 ⟨rfl, hb2⟩))
  go_ret
  exact ⟨rfl, below_step hb1 hb2⟩

theorem bare_pairs (v : Value) (a : List Int) (w : World) (hv : RdV w v a) : Calls Tryz.prog 54 #[v, strV [112, 97, 105, 114, 115]] w (GivesS w (listsL (pairOf a).1 (pairOf a).2)) := by
  obtain ⟨r, b, hr⟩ : ∃ r b, (r, b) = pairOf a := ⟨_, _, rfl⟩
  have hF := sPairOf_v v a w hv
  have hg := good_pairs a
  rw [← hr] at hF hg ⊢
  have HF := Lib.hid hF
  have HG := Lib.hid hg
  have HO := Lib.hid (fun v1 w1 (h : RdM w1 v1 r) => l9Lists_v v1 r b w1 h HG.out)
  obtain ⟨t, ht⟩ : ∃ t, t = listsL r b := ⟨_, rfl⟩
  rw [← ht] at HO ⊢
  clear ht hF hg hr hv
  go_enter Tryz.func54, Tryz.ntmps54
  go_wp2_with (first | (go_at_call 100; (with_reducible refine HF.out.mono ?_); rintro e w1 ⟨v1, rfl, ho1, hb1⟩; have hrd := ownM_rdM ho1) | (go_at_call 86; (with_reducible refine (HO.out _ _ hrd).mono ?_); rintro e w2 ⟨rfl, hb2⟩))
  go_ret
  exact ⟨rfl, below_step hb1 hb2⟩

theorem bare_none (v : Value) (a : List Int) (l : List UInt8) (w : World) (h0 : (l == [115, 104, 111, 119]) = false) (h1 : (l == [98, 108, 111, 99, 107, 115]) = false) (h2 : (l == [116, 121, 112, 101]) = false) (h3 : (l == [115, 105, 122, 101]) = false) (h4 : (l == [114, 97, 110, 107]) = false) (h5 : (l == [109, 101, 114, 103, 101, 115]) = false) (h6 : (l == [115, 112, 108, 105, 116, 115]) = false) (h7 : (l == [99, 104, 97, 105, 110, 115]) = false) (h8 : (l == [112, 108, 97, 99, 101]) = false) (h9 : (l == [97, 114, 99, 115]) = false) (h10 : (l == [99, 114, 111, 115, 115]) = false) (h11 : (l == [110, 101, 115, 116]) = false) (h12 : (l == [102, 97, 114]) = false) (h13 : (l == [114, 105, 110, 103]) = false) (h14 : (l == [99, 111, 117, 110, 116]) = false) (h15 : (l == [112, 97, 105, 114, 115]) = false) : Calls Tryz.prog 54 #[v, strV l] w (GivesS w sayWhat) := by
  unfold sayWhat
  go_enter Tryz.func54, Tryz.ntmps54
  go_wp2
  go_ret
  exact ⟨rfl, Below.refl _ _⟩

theorem l9Bare_v (v : Value) (a : List Int) (l : List UInt8) (w : World) (hv : RdV w v a) (hp : partIn a = true) : Calls Tryz.prog 54 #[v, strV l] w (GivesS w (bareL a l)) := by
  unfold bareL
  by_cases h0 : l = w_show
  · rw [if_pos h0, h0]
    exact bare_show v a w hv hp
  rw [if_neg h0]
  by_cases h1 : l = w_blocks
  · rw [if_pos h1, h1]
    exact bare_blocks v a w hv
  rw [if_neg h1]
  by_cases h2 : l = w_type
  · rw [if_pos h2, h2]
    exact bare_type v a w hv
  rw [if_neg h2]
  by_cases h3 : l = w_size
  · rw [if_pos h3, h3]
    exact bare_size v a w hv
  rw [if_neg h3]
  by_cases h4 : l = w_rank
  · rw [if_pos h4, h4]
    exact bare_rank v a w hv
  rw [if_neg h4]
  by_cases h5 : l = w_merges
  · rw [if_pos h5, h5]
    exact bare_merges v a w hv
  rw [if_neg h5]
  by_cases h6 : l = w_splits
  · rw [if_pos h6, h6]
    exact bare_splits v a w hv
  rw [if_neg h6]
  by_cases h7 : l = w_chains
  · rw [if_pos h7, h7]
    exact bare_chains v a w hv
  rw [if_neg h7]
  by_cases h8 : l = w_place
  · rw [if_pos h8, h8]
    exact bare_place v a w hv
  rw [if_neg h8]
  by_cases h9 : l = w_arcs
  · rw [if_pos h9, h9]
    exact bare_arcs v a w hv
  rw [if_neg h9]
  by_cases h10 : l = w_cross
  · rw [if_pos h10, h10]
    exact bare_cross v a w hv
  rw [if_neg h10]
  by_cases h11 : l = w_nest
  · rw [if_pos h11, h11]
    exact bare_nest v a w hv
  rw [if_neg h11]
  by_cases h12 : l = w_far
  · rw [if_pos h12, h12]
    exact bare_far v a w hv
  rw [if_neg h12]
  by_cases h13 : l = w_ring
  · rw [if_pos h13, h13]
    exact bare_ring v a w hv
  rw [if_neg h13]
  by_cases h14 : l = w_count
  · rw [if_pos h14, h14]
    exact bare_count v a w hv
  rw [if_neg h14]
  by_cases h15 : l = w_pairs
  · rw [if_pos h15, h15]
    exact bare_pairs v a w hv
  rw [if_neg h15]
  exact bare_none v a l w (beq_eq_false_iff_ne.2 h0) (beq_eq_false_iff_ne.2 h1) (beq_eq_false_iff_ne.2 h2) (beq_eq_false_iff_ne.2 h3) (beq_eq_false_iff_ne.2 h4) (beq_eq_false_iff_ne.2 h5) (beq_eq_false_iff_ne.2 h6) (beq_eq_false_iff_ne.2 h7) (beq_eq_false_iff_ne.2 h8) (beq_eq_false_iff_ne.2 h9) (beq_eq_false_iff_ne.2 h10) (beq_eq_false_iff_ne.2 h11) (beq_eq_false_iff_ne.2 h12) (beq_eq_false_iff_ne.2 h13) (beq_eq_false_iff_ne.2 h14) (beq_eq_false_iff_ne.2 h15)
end

end Go.Proofs.YtmflecemkodklaaGreatDoor
