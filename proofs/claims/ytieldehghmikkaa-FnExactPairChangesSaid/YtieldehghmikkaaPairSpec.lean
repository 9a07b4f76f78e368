/-
  The contract of the model's PairIn.
-/
import Derived.Test.YtieldehghmikkaaPairTold
import Derived.Test.YtieldehghmikkaaTogether
import Derived.Test.YtieldehghmikkaaCells
namespace Go.Proofs.Ytieldehghmikkaa
set_option linter.unusedSimpArgs false
set_option linter.unusedVariables false
set_option linter.unnecessarySimpa false
open Go.RowKit
set_option maxRecDepth 100000

theorem pairTo_succ (n : Int) (ps : List (List Int)) (k : Nat) : pairTo n ps (k + 1) = (pairTo n ps k && okPair n (ps.getD k []) && (decide (k = 0) || lessI (ps.getD (k - 1) []) (ps.getD k []))) := rfl

/-- A row of two numbers, by its cells. -/
theorem rdv_two {w : World} {v : Value} {row : List Int} (h : RdV w v row) (hl : row.length = 2) : ∃ b o c, v = .slice (some ⟨b, o, none⟩) 2 c ∧ 2 ≤ c ∧ c ≤ maxLen ∧ w.cell? ⟨b, o, none⟩ = some (.int .i64 (row.getD 0 0)) ∧ w.cell? ⟨b, o + 1, none⟩ = some (.int .i64 (row.getD 1 0)) := by
  obtain ⟨b, o, c, rfl, hc, _, h1, h2⟩ := rdv_cells h (by omega)
  have c0 := hc 0 (by omega)
  have c1 := hc 1 (by omega)
  rw [Nat.add_zero] at c0
  rw [hl] at h1 ⊢
  exact ⟨b, o, c, rfl, h1, h2, c0, c1⟩

set_option maxHeartbeats 4000000 in
theorem sPairIn_v (v : Value) (n : Int) (ps : List (List Int)) (w : World) (hv : RdM w v ps) (_ : (Lit.int .i64 n).wf = true) :
    Calls Try.prog 14 #[.int .i64 n, v] w (GivesB w (pairIn n ps)) := by
  obtain ⟨ao, ca, vs, hvl, rfl, h1, h2, h3, h4⟩ := hv
  unfold maxLen at h2
  by_cases hn : 1 ≤ n ∧ n ≤ 6
  · obtain ⟨n1, n6⟩ := hn
    have hpi : pairIn n ps = pairTo n ps ps.length := by simp [pairIn, n1, n6]
    rw [hpi]
    obtain ⟨m, hm⟩ : ∃ m, m = ps.length := ⟨_, rfl⟩
    rw [← hm] at h1 hvl ⊢
    have HM := Lib.hid hm
    obtain ⟨R, hR⟩ : ∃ R, R = pairTo n ps m := ⟨_, rfl⟩
    rw [← hR]
    have HR := Lib.hid hR
    have H3 := Lib.hid h3
    have H4 := Lib.hid h4
    have N1 := Lib.hid n1
    have N6 := Lib.hid n6
    clear hm h3 h4 hpi hvl hR
    go_enter Try.func14, Try.ntmps14
    go_wp2_with fail
    refine (l6In_yes n 1 6 _ N1.out N6.out).mono ?_
    rintro e w' ⟨rfl, rfl⟩
    go_wp2
    go_loopw [5] (fun i wr => ∃ k : Nat, k ≤ m ∧ i = .int .i64 k ∧ Hid (pairTo n ps k = true) ∧ Below w.heap.size w wr) (fun i _ => m - (intOf i).toNat)
    case atStart => exact ⟨0, Nat.zero_le _, rfl, Lib.hid rfl, Below.refl _ _⟩
    case round =>
      obtain ⟨k, hk, rfl, HT, hbel⟩ := hrel
      by_cases hlt : k < m
      · have HB := Lib.hid hbel
        rcases H3.out with h3 | ⟨bb, off, rfl, hc⟩
        · have := HM.out
          rw [h3] at this
          simp at this
          omega
        have hck := cellSt (hc k (by have := HM.out; omega)) hbel
        have hrow := rdv_below (H4.out k (by have := HM.out; omega)) hbel
        have hstep := pairTo_succ n ps k
        rw [HT.out, Bool.true_and] at hstep
        obtain ⟨row, hrw⟩ : ∃ row, row = ps.getD k [] := ⟨_, rfl⟩
        obtain ⟨z, hz⟩ : ∃ z, z = vs.getD k undef := ⟨_, rfl⟩
        rw [← hz] at hck hrow
        rw [← hrw] at hrow hstep
        have HFAIL : Hid (pairTo n ps (k + 1) = false → R = false) := Lib.hid fun h => by rw [HR.out]; exact pairTo_le (by omega) h
        have HSTEP := Lib.hid hstep
        have HRW := Lib.hid hrw
        have hBr := hbel.size
        have hnw : IntKind.i64.wrap (n - 1) = n - 1 := IntWalk.i64_in _ (by have := N1.out; have := N6.out; omega)
        clear hstep hz hrw
        by_cases hl2 : row.length = 2
        · obtain ⟨zb, zo, zc, rfl, hz1, hz2, c0, c1⟩ := rdv_two hrow hl2
          have htold : okPair n row = decide ((0 ≤ row.getD 0 0 ∧ row.getD 0 0 ≤ n - 1) ∧ (row.getD 0 0 + 1 ≤ row.getD 1 0 ∧ row.getD 1 0 ≤ n - 1)) := by unfold okPair; simp [hl2]
          have hxg : Hid (row.getD 0 0 = row.getD 0 0) := rfl
          obtain ⟨x, hx⟩ : ∃ x, x = row.getD 0 0 := ⟨_, rfl⟩
          obtain ⟨y, hy⟩ : ∃ y, y = row.getD 1 0 := ⟨_, rfl⟩
          rw [← hx] at c0 htold
          rw [← hy] at c1 htold
          have HX := Lib.hid hx
          have HY := Lib.hid hy
          have HOK := Lib.hid htold
          clear htold hl2 hrow hxg hx hy
          by_cases hxr : 0 ≤ x ∧ x ≤ n - 1
          · by_cases hyr : x + 1 ≤ y ∧ y ≤ n - 1
            · have hok : Hid (okPair n row = true) := Lib.hid (by rw [HOK.out]; simp [hxr, hyr])
              obtain ⟨hx0, hxn⟩ := hxr
              obtain ⟨hy0, hyn⟩ := hyr
              have X0 := Lib.hid hx0
              have XN := Lib.hid hxn
              have Y0 := Lib.hid hy0
              have YN := Lib.hid hyn
              have hxw : IntKind.i64.wrap (x + 1) = x + 1 := IntWalk.i64_in _ (by have := N6.out; omega)
              cases k with
              | zero =>
                have HT1 : Hid (pairTo n ps 1 = true) := Lib.hid (by have := HSTEP.out; rw [hok.out] at this; simpa using this)
                simp only [Nat.add_zero] at hck
                clear hx0 hxn hy0 hyn
                go_wp2_with fail
                go_quiet (first | (go_at_call_of 43 (Value.int IntKind.i64 x); exact quiet_left (l6In_yes x 0 (n - 1) _ X0.out XN.out)) | (go_at_call_of 43 (Value.int IntKind.i64 y); exact quiet_left (l6In_yes y (x + 1) (n - 1) _ Y0.out YN.out)))
                go_wp2_with fail
                go_quiet (fail)
                go_wp2
                go_roundw
                case rel => exact ⟨1, by omega, by go_num, HT1, by first | exact below_drewN HB.out _ | exact below_drewN (below_drewN HB.out _) _⟩
                case measure => simp [intOf]; omega
              | succ j =>
                have hokj := ((pairTo_iff (j + 1)).1 HT.out j (by omega)).1
                have hl2j : (ps.getD j []).length = 2 := by unfold okPair at hokj; simp only [decide_eq_true_eq] at hokj; exact hokj.1
                have hcj := cellSt (hc j (by have := HM.out; omega)) hbel
                have hrowj := rdv_below (H4.out j (by have := HM.out; omega)) hbel
                have hless : lessI (ps.getD j []) row = decide ((ps.getD j []).getD 0 0 < row.getD 0 0 ∨ ((ps.getD j []).getD 0 0 = row.getD 0 0 ∧ (ps.getD j []).getD 1 0 < row.getD 1 0)) := rfl
                rw [← HX.out, ← HY.out] at hless
                have hst : pairTo n ps (j + 1 + 1) = lessI (ps.getD j []) row := by have := HSTEP.out; rw [hok.out] at this; simpa using this
                rw [hless] at hst
                obtain ⟨pb, po, pc, hpv, hp1, hp2, d0, d1⟩ := rdv_two hrowj hl2j
                rw [hpv] at hcj
                obtain ⟨p0, hp0⟩ : ∃ p0, p0 = (ps.getD j []).getD 0 0 := ⟨_, rfl⟩
                obtain ⟨p1, hp1'⟩ : ∃ p1, p1 = (ps.getD j []).getD 1 0 := ⟨_, rfl⟩
                rw [← hp0] at d0 hst
                rw [← hp1'] at d1 hst
                have HST := Lib.hid hst
                have hjw : IntKind.i64.wrap ((j : Int) + 1 - 1) = (j : Int) := by rw [IntWalk.i64_in _ (by omega)]; omega
                have hj0 : (0 : Int) ≤ (j : Int) := by omega
                have hjm : (j : Int) < (m : Int) := by omega
                have hjm1 : (j : Int) + 1 < (m : Int) := by omega
                have hj01 : (0 : Int) ≤ (j : Int) + 1 := by omega
                have hgt : (0 : Int) < (j : Int) + 1 := by omega
                clear hokj hl2j hrowj hless hst hpv hp0 hp1' hc hx0 hxn hy0 hyn
                by_cases hA : x < p0
                · have HF : Hid (R = false) := Lib.hid (HFAIL.out (by rw [HST.out]; exact decide_eq_false (by omega)))
                  go_wp2_with fail
                  go_quiet (first | (go_at_call_of 43 (Value.int IntKind.i64 x); exact quiet_left (l6In_yes x 0 (n - 1) _ X0.out XN.out)) | (go_at_call_of 43 (Value.int IntKind.i64 y); exact quiet_left (l6In_yes y (x + 1) (n - 1) _ Y0.out YN.out)))
                  go_wp2_with fail
                  go_quiet (fail)
                  go_wp2
                  go_ret
                  rw [HF.out]
                  exact ⟨rfl, by first | exact below_drewN HB.out _ | exact below_drewN (below_drewN HB.out _) _⟩
                · by_cases hB : x = p0
                  · subst hB
                    have he : (x == x) = true := by simp
                    by_cases hC : y ≤ p1
                    · have HF : Hid (R = false) := Lib.hid (HFAIL.out (by rw [HST.out]; exact decide_eq_false (by omega)))
                      go_wp2_with fail
                      go_quiet (first | (go_at_call_of 43 (Value.int IntKind.i64 x); exact quiet_left (l6In_yes x 0 (n - 1) _ X0.out XN.out)) | (go_at_call_of 43 (Value.int IntKind.i64 y); exact quiet_left (l6In_yes y (x + 1) (n - 1) _ Y0.out YN.out)))
                      go_wp2_with fail
                      go_quiet (fail)
                      go_wp2
                      go_ret
                      rw [HF.out]
                      exact ⟨rfl, by first | exact below_drewN HB.out _ | exact below_drewN (below_drewN HB.out _) _⟩
                    · have HT1 : Hid (pairTo n ps (j + 1 + 1) = true) := Lib.hid (by rw [HST.out]; exact decide_eq_true (by omega))
                      go_wp2_with fail
                      go_quiet (first | (go_at_call_of 43 (Value.int IntKind.i64 x); exact quiet_left (l6In_yes x 0 (n - 1) _ X0.out XN.out)) | (go_at_call_of 43 (Value.int IntKind.i64 y); exact quiet_left (l6In_yes y (x + 1) (n - 1) _ Y0.out YN.out)))
                      go_wp2_with fail
                      go_quiet (fail)
                      go_wp2
                      go_roundw
                      case rel => exact ⟨j + 1 + 1, by omega, by go_num, HT1, by first | exact below_drewN HB.out _ | exact below_drewN (below_drewN HB.out _) _⟩
                      case measure => simp [intOf]; omega
                  · have HT1 : Hid (pairTo n ps (j + 1 + 1) = true) := Lib.hid (by rw [HST.out]; exact decide_eq_true (by omega))
                    have he : (x == p0) = false := by simp; omega
                    have hA2 : decide (x < p0) = false := decide_eq_false hA
                    have he2 : ¬ x = p0 := hB
                    clear hA hB
                    go_wp2_with fail
                    go_quiet (first | (go_at_call_of 43 (Value.int IntKind.i64 x); exact quiet_left (l6In_yes x 0 (n - 1) _ X0.out XN.out)) | (go_at_call_of 43 (Value.int IntKind.i64 y); exact quiet_left (l6In_yes y (x + 1) (n - 1) _ Y0.out YN.out)))
                    go_wp2_with fail
                    go_quiet (fail)
                    go_wp2
                    go_roundw
                    case rel => exact ⟨j + 1 + 1, by omega, by go_num, HT1, by first | exact below_drewN HB.out _ | exact below_drewN (below_drewN HB.out _) _⟩
                    case measure => simp [intOf]; omega
            · have HF : Hid (R = false) := Lib.hid (HFAIL.out (by rw [HSTEP.out, HOK.out]; simp [hyr]))
              obtain ⟨hx0, hxn⟩ := hxr
              have X0 := Lib.hid hx0
              have XN := Lib.hid hxn
              have HY2 := Lib.hid (show y < x + 1 ∨ n - 1 < y by omega)
              have hxw : IntKind.i64.wrap (x + 1) = x + 1 := IntWalk.i64_in _ (by have := N6.out; omega)
              clear hx0 hxn hyr hc
              go_wp2_with fail
              go_quiet (first | (go_at_call_of 43 (Value.int IntKind.i64 x); exact quiet_left (l6In_yes x 0 (n - 1) _ X0.out XN.out)) | (go_at_call_of 43 (Value.int IntKind.i64 y); exact quiet_left (l6In_no y (x + 1) (n - 1) _ HY2.out)))
              go_wp2
              go_ret
              rw [HF.out]
              exact ⟨rfl, below_drewN HB.out _⟩
          · have HF : Hid (R = false) := Lib.hid (HFAIL.out (by rw [HSTEP.out, HOK.out]; simp [hxr]))
            have HX2 := Lib.hid (show x < 0 ∨ n - 1 < x by omega)
            clear hxr hc
            go_wp2_with fail
            go_quiet ((go_at_call_of 43 (Value.int IntKind.i64 x); exact quiet_left (l6In_no x 0 (n - 1) _ HX2.out)))
            go_wp2
            go_ret
            rw [HF.out]
            exact ⟨rfl, below_drewN HB.out _⟩
        · have HF : Hid (R = false) := Lib.hid (HFAIL.out (by rw [HSTEP.out]; simp [okPair, hl2]))
          obtain ⟨zo, zc, rfl, _⟩ := hrow
          obtain ⟨q, hq⟩ : ∃ q, q = row.length := ⟨_, rfl⟩
          rw [← hq] at hck hl2
          have hd : ((q : Int) != 2) = true := by simp; omega
          clear hq hl2 hc
          go_wp2_with fail
          go_quiet (fail)
          go_wp2
          go_ret
          rw [HF.out]
          exact ⟨rfl, below_drewN HB.out _⟩
      · have hkm : k = m := by omega
        subst hkm
        go_wp2
        go_ret
        rw [HR.out, HT.out]
        exact ⟨rfl, hbel⟩
  · have hpi : pairIn n ps = false := by
      rw [Bool.eq_false_iff]
      intro h
      simp only [pairIn, Bool.and_eq_true, decide_eq_true_eq] at h
      exact hn h.1
    rw [hpi]
    go_enter Try.func14, Try.ntmps14
    go_wp2_with fail
    refine (l6In_no n 1 6 _ (by omega)).mono ?_
    rintro e w' ⟨rfl, rfl⟩
    go_wp2
    go_ret
    exact ⟨rfl, Below.refl _ _⟩

end Go.Proofs.Ytieldehghmikkaa
