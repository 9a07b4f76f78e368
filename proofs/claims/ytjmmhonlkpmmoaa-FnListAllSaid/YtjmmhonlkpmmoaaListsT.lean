/-
  The model's contracts: spec.ListPlace, ListAt, ListNext, ListBefore, ListOpen.
-/
import Derived.Test.YtjmmhonlkpmmoaaListsS
namespace Go.Proofs.Ytjmmhonlkpmmoaa
set_option linter.unusedSimpArgs false
set_option linter.unusedVariables false
set_option linter.unnecessarySimpa false
open Go.RowKit

theorem bell_opnN : ∀ n, n < 9 → bellN n = (opnN n 0 : Int) := by decide +kernel
theorem bell_opn (n : Nat) (h : n ≤ 8) : bellN n = opn n 0 := by
  have := opn_nat n 0
  rw [bell_opnN n (by omega), ← this]
  rfl

theorem l6In_is (b : Bool) (n lo hi : Int) (w : World) (h : decide (lo ≤ n ∧ n ≤ hi) = b) : Calls Try.prog 55 #[.int .i64 n, .int .i64 lo, .int .i64 hi] w fun e w' => e = .returned (.bool b) ∧ w = w' := by
  subst h
  exact l6In_any n lo hi w

theorem sListPlace_v (v : Value) (xs : List Int) (w : World) (hv : RdV w v xs) : Calls Try.prog 23 #[v] w (GivesIB w (listPlace xs)) := by
  have HV := Lib.hid hv
  clear hv
  by_cases hp : partIn xs = true
  · have hr : listPlace xs = (plc xs, true) := by simp [listPlace, hp]
    rw [hr]
    have HPL := Lib.hid (l4Place_w v xs w HV.out hp)
    have HP := Lib.hid hp
    clear hp hr
    go_enter Try.func23, Try.ntmps23
    go_wp2_with fail
    refine (sPartIn_is true _ _ _ HV.out HP).mono ?_
    rintro e w' ⟨rfl, rfl⟩
    go_wp2_with fail
    refine HPL.out.mono ?_
    rintro e w' ⟨rfl, rfl⟩
    go_wp2
    go_ret2
    exact ⟨rfl, Below.refl _ _⟩
  · have hp : partIn xs = false := by simpa using hp
    have hr : listPlace xs = (0, false) := by simp [listPlace, hp]
    rw [hr]
    have HP := Lib.hid hp
    clear hp hr
    go_enter Try.func23, Try.ntmps23
    go_wp2_with fail
    refine (sPartIn_is false _ _ _ HV.out HP).mono ?_
    rintro e w' ⟨rfl, rfl⟩
    go_wp2
    go_ret2
    exact ⟨rfl, Below.refl _ _⟩

set_option maxHeartbeats 800000 in
theorem sListAt_w (n p : Int) (w : World) : Calls Try.prog 26 #[.int .i64 n, .int .i64 p] w (FreshLB w (listAt n p)) := by
  have HO0 := Lib.hid fun (w1 : World) => own_empty w1 w1.heap.size (Nat.le_refl _)
  by_cases h1 : 1 ≤ n ∧ n ≤ 8
  · have HC := Lib.hid fun (w1 : World) => l6In_is true n 1 8 w1 (by simpa using h1)
    obtain ⟨c, rfl⟩ : ∃ c : Nat, n = c := ⟨n.toNat, by omega⟩
    have hc8 : c ≤ 8 := by omega
    have hob := opn_bd c 0 (by omega) (by omega)
    have hbl := fun (w1 : World) => l2Bell_v (c : Int) w1 (by omega) (by omega)
    rw [Int.toNat_natCast, bell_opn c hc8] at hbl
    have HB := Lib.hid hbl
    by_cases h2 : 0 ≤ p ∧ p < opn c 0
    · have hr : listAt c p = (atL c p, true) := by
        unfold listAt
        rw [if_pos ⟨h1, h2.1, by simpa using h2.2⟩]
        simp
      rw [hr]
      have HL := Lib.hid fun (w1 : World) => l4At_any c p w1 hc8 h2.1 h2.2
      have hc2 := fun (w1 : World) => l6In_is true p 0 (opn c 0 - 1) w1 (by simp; omega)
      obtain ⟨o, ho⟩ : ∃ o, o = opn c 0 := ⟨_, rfl⟩
      rw [← ho] at HB hob hc2
      have HC2 := Lib.hid hc2
      obtain ⟨hob1, hob2⟩ := hob
      clear hr ho h1 hbl hc2 h2
      go_enter Try.func26, Try.ntmps26
      go_wp2_with fail
      refine (HC.out _).mono ?_
      rintro e w' ⟨rfl, rfl⟩
      go_wp2_with fail
      refine (HB.out _).mono ?_
      rintro e w1 ⟨rfl, hb1⟩
      go_wp2_with fail
      refine (HC2.out _).mono ?_
      rintro e w' ⟨rfl, rfl⟩
      go_wp2_with fail
      refine (HL.out _).mono ?_
      rintro e w2 ⟨v, rfl, ho, hb2⟩
      go_wp2
      go_ret2
      exact ⟨_, rfl, own_mono ho hb1.size, below_step hb1 hb2⟩
    · have hr : listAt c p = ([], false) := by
        unfold listAt
        rw [if_neg (fun h => h2 (by simpa using h.2))]
      rw [hr]
      have hc2 := fun (w1 : World) => l6In_is false p 0 (opn c 0 - 1) w1 (by simp; omega)
      obtain ⟨o, ho⟩ : ∃ o, o = opn c 0 := ⟨_, rfl⟩
      rw [← ho] at HB hob hc2
      have HC2 := Lib.hid hc2
      obtain ⟨hob1, hob2⟩ := hob
      clear hr ho h1 hbl hc2 h2
      go_enter Try.func26, Try.ntmps26
      go_wp2_with fail
      refine (HC.out _).mono ?_
      rintro e w' ⟨rfl, rfl⟩
      go_wp2_with fail
      refine (HB.out _).mono ?_
      rintro e w1 ⟨rfl, hb1⟩
      go_wp2_with fail
      refine (HC2.out _).mono ?_
      rintro e w' ⟨rfl, rfl⟩
      go_wp2
      go_ret2
      exact ⟨_, rfl, own_mono (HO0.out w1) hb1.size, hb1.alloc hb1.size _⟩
  · have HC := Lib.hid (l6In_is false n 1 8 w (by simpa using h1))
    have hr : listAt n p = ([], false) := by
      unfold listAt
      rw [if_neg (fun h => h1 h.1)]
    rw [hr]
    clear hr h1
    go_enter Try.func26, Try.ntmps26
    go_wp2_with fail
    refine HC.out.mono ?_
    rintro e w' ⟨rfl, rfl⟩
    go_wp2
    go_ret2
    exact ⟨_, rfl, HO0.out w, (Below.refl _ _).alloc (Nat.le_refl _) _⟩

theorem sListAt_v (n p : Int) (w : World) (_ : (Lit.int .i64 n).wf = true) (_ : (Lit.int .i64 p).wf = true) : Calls Try.prog 26 #[.int .i64 n, .int .i64 p] w (FreshLB w (listAt n p)) := sListAt_w n p w

theorem next_is_at {xs : List Int} (hp : partIn xs = true) : listNext xs = listAt xs.length (plc xs + 1) := by
  have hl := partIn_len hp
  have hb := plc_bd (partIn_ok hp)
  unfold listNext listAt
  by_cases h : plc xs + 1 < opn xs.length 0
  · rw [if_pos ⟨hp, h⟩, if_pos ⟨by omega, by omega, by simpa using h⟩]
    simp
  · rw [if_neg (fun k => h k.2), if_neg (fun k => h (by simpa using k.2.2))]

theorem before_is_at {xs : List Int} (hp : partIn xs = true) : listBefore xs = listAt xs.length (plc xs - 1) := by
  have hl := partIn_len hp
  have hb := plc_bd (partIn_ok hp)
  unfold listBefore listAt
  by_cases h : 0 < plc xs
  · rw [if_pos ⟨hp, h⟩, if_pos ⟨by omega, by omega, by simp; omega⟩]
    simp
  · rw [if_neg (fun k => h k.2), if_neg (fun k => h (by omega))]

set_option maxHeartbeats 800000 in
theorem sListNext_v (v : Value) (xs : List Int) (w : World) (hv : RdV w v xs) : Calls Try.prog 29 #[v] w (FreshLB w (listNext xs)) := by
  have HV := Lib.hid hv
  obtain ⟨ao, cap, rfl, hlen⟩ := rdv_len hv
  clear hv
  by_cases hp : partIn xs = true
  · have HP := Lib.hid hp
    have hpb := plc_bd (partIn_ok hp)
    have hob := opn_bd xs.length 0 (by omega) (by have := partIn_len hp; omega)
    have HPL := Lib.hid (l4Place_w _ xs w HV.out hp)
    rw [next_is_at hp]
    obtain ⟨q, hq⟩ : ∃ q, q = plc xs := ⟨_, rfl⟩
    rw [← hq] at HPL hpb ⊢
    obtain ⟨hq0, hq1⟩ := hpb
    have hq4 : q ≤ 4140 := by omega
    have HA := Lib.hid fun (w1 : World) => sListAt_w xs.length (q + 1) w1
    obtain ⟨⟨ys, b⟩, hr⟩ : ∃ r, r = listAt xs.length (q + 1) := ⟨_, rfl⟩
    rw [← hr] at HA ⊢
    obtain ⟨m, hm⟩ : ∃ m, m = xs.length := ⟨_, rfl⟩
    rw [← hm] at HA HPL HV hlen ⊢
    clear hp hq hr hq1 hob hm
    go_enter Try.func29, Try.ntmps29
    go_wp2_with fail
    refine (sPartIn_is true _ _ _ HV.out HP).mono ?_
    rintro e w' ⟨rfl, rfl⟩
    go_wp2_with fail
    refine HPL.out.mono ?_
    rintro e w' ⟨rfl, rfl⟩
    go_wp2_with fail
    refine (HA.out _).mono ?_
    rintro e w1 ⟨u, rfl, ho, hb1⟩
    go_wp2
    go_ret2
    exact ⟨_, rfl, ho, hb1⟩
  · have hp : partIn xs = false := by simpa using hp
    have hre : listNext xs = ([], false) := by simp [listNext, hp]
    rw [hre]
    have HP := Lib.hid hp
    have HO0 := Lib.hid (own_empty w w.heap.size (Nat.le_refl _))
    clear hp hre
    go_enter Try.func29, Try.ntmps29
    go_wp2_with fail
    refine (sPartIn_is false _ _ _ HV.out HP).mono ?_
    rintro e w' ⟨rfl, rfl⟩
    go_wp2
    go_ret2
    exact ⟨_, rfl, HO0.out, (Below.refl _ _).alloc (Nat.le_refl _) _⟩

set_option maxHeartbeats 800000 in
theorem sListBefore_v (v : Value) (xs : List Int) (w : World) (hv : RdV w v xs) : Calls Try.prog 32 #[v] w (FreshLB w (listBefore xs)) := by
  have HV := Lib.hid hv
  obtain ⟨ao, cap, rfl, hlen⟩ := rdv_len hv
  clear hv
  by_cases hp : partIn xs = true
  · have HP := Lib.hid hp
    have hpb := plc_bd (partIn_ok hp)
    have hob := opn_bd xs.length 0 (by omega) (by have := partIn_len hp; omega)
    have HPL := Lib.hid (l4Place_w _ xs w HV.out hp)
    rw [before_is_at hp]
    obtain ⟨q, hq⟩ : ∃ q, q = plc xs := ⟨_, rfl⟩
    rw [← hq] at HPL hpb ⊢
    obtain ⟨hq0, hq1⟩ := hpb
    have hq4 : q ≤ 4140 := by omega
    have HA := Lib.hid fun (w1 : World) => sListAt_w xs.length (q - 1) w1
    obtain ⟨⟨ys, b⟩, hr⟩ : ∃ r, r = listAt xs.length (q - 1) := ⟨_, rfl⟩
    rw [← hr] at HA ⊢
    obtain ⟨m, hm⟩ : ∃ m, m = xs.length := ⟨_, rfl⟩
    rw [← hm] at HA HPL HV hlen ⊢
    clear hp hq hr hq1 hob hm
    go_enter Try.func32, Try.ntmps32
    go_wp2_with fail
    refine (sPartIn_is true _ _ _ HV.out HP).mono ?_
    rintro e w' ⟨rfl, rfl⟩
    go_wp2_with fail
    refine HPL.out.mono ?_
    rintro e w' ⟨rfl, rfl⟩
    go_wp2_with fail
    refine (HA.out _).mono ?_
    rintro e w1 ⟨u, rfl, ho, hb1⟩
    go_wp2
    go_ret2
    exact ⟨_, rfl, ho, hb1⟩
  · have hp : partIn xs = false := by simpa using hp
    have hre : listBefore xs = ([], false) := by simp [listBefore, hp]
    rw [hre]
    have HP := Lib.hid hp
    have HO0 := Lib.hid (own_empty w w.heap.size (Nat.le_refl _))
    clear hp hre
    go_enter Try.func32, Try.ntmps32
    go_wp2_with fail
    refine (sPartIn_is false _ _ _ HV.out HP).mono ?_
    rintro e w' ⟨rfl, rfl⟩
    go_wp2
    go_ret2
    exact ⟨_, rfl, HO0.out, (Below.refl _ _).alloc (Nat.le_refl _) _⟩


set_option maxHeartbeats 800000 in
theorem sListOpen_v (v : Value) (n : Int) (xs : List Int) (w : World) (hv : RdV w v xs) (hwf : (Lit.int .i64 n).wf = true) : Calls Try.prog 40 #[.int .i64 n, v] w (GivesIB w (listOpen n xs)) := by
  have HV := Lib.hid hv
  obtain ⟨ao, cap, rfl, hrd, hcl, hcm⟩ := hv
  unfold maxLen at hcm
  by_cases hp : partIn xs = true
  · have HP := Lib.hid hp
    have hpl := partIn_len hp
    by_cases h3 : (xs.length : Int) ≤ n ∧ n ≤ 8
    · have hr : listOpen n xs = (opn (n.toNat - xs.length) (pSize xs), true) := by
        unfold listOpen
        rw [if_pos ⟨hp, h3⟩]
      rw [hr]
      obtain ⟨c, rfl⟩ : ∃ c : Nat, n = c := ⟨n.toNat, by omega⟩
      have hc8 : c ≤ 8 := by omega
      have HC := Lib.hid (l6In_is true (c : Int) xs.length 8 w (by simpa using h3))
      have hsb := size_le_len xs 0 (by omega) (partIn_ok hp)
      have hs1 : 0 ≤ pSize xs := sizeFrom_nonneg xs 0
      have hs2 : pSize xs ≤ xs.length := by show sizeFrom 0 xs ≤ _; omega
      have HB := Lib.hid (l1Size_any ao cap xs w hrd (by omega) (partIn_small hp))
      have HE := Lib.hid (l4Open_any (c - xs.length) ((c : Int) - (xs.length : Int)) (pSize xs) w (by omega) hs1 (by omega))
      rw [Int.toNat_natCast]
      obtain ⟨o, ho⟩ : ∃ o, o = opn (c - xs.length) (pSize xs) := ⟨_, rfl⟩
      rw [← ho] at HE ⊢
      obtain ⟨m, hm⟩ : ∃ m, m = xs.length := ⟨_, rfl⟩
      rw [← hm] at HE HB HV HC h3 hcl ⊢
      clear ho hr hsb hs2 hs1 hp hpl hm hrd
      go_enter Try.func40, Try.ntmps40
      go_wp2_with (first | (go_at_call 55; refine HC.out.mono ?_; rintro e w' ⟨rfl, rfl⟩) | (go_at_call 67; refine (sPartIn_is true _ _ _ HV.out HP).mono ?_; rintro e w' ⟨rfl, rfl⟩) | (go_at_call 75; refine HB.out.mono ?_; rintro e w' ⟨rfl, rfl⟩) | (go_at_call 78; refine HE.out.mono ?_; rintro e w' ⟨rfl, rfl⟩))
      go_ret2
      exact ⟨rfl, Below.refl _ _⟩
    · have hr : listOpen n xs = (0, false) := by
        unfold listOpen
        rw [if_neg (fun h => h3 h.2)]
      rw [hr]
      have HC := Lib.hid (l6In_is false n xs.length 8 w (by simpa using h3))
      obtain ⟨m, hm⟩ : ∃ m, m = xs.length := ⟨_, rfl⟩
      rw [← hm] at HV HC hcl ⊢
      clear hr hp hpl hm hrd h3
      go_enter Try.func40, Try.ntmps40
      go_wp2_with (first | (go_at_call 55; refine HC.out.mono ?_; rintro e w' ⟨rfl, rfl⟩) | (go_at_call 67; refine (sPartIn_is true _ _ _ HV.out HP).mono ?_; rintro e w' ⟨rfl, rfl⟩))
      go_ret2
      exact ⟨rfl, Below.refl _ _⟩
  · have hp : partIn xs = false := by simpa using hp
    have hr : listOpen n xs = (0, false) := by simp [listOpen, hp]
    rw [hr]
    have HP := Lib.hid hp
    clear hr hp hrd
    go_enter Try.func40, Try.ntmps40
    go_wp2_with (first | (go_at_call 67; refine (sPartIn_is false _ _ _ HV.out HP).mono ?_; rintro e w' ⟨rfl, rfl⟩))
    go_ret2
    exact ⟨rfl, Below.refl _ _⟩

end Go.Proofs.Ytjmmhonlkpmmoaa
