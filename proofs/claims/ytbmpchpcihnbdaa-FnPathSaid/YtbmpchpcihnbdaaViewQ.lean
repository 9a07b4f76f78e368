/-
  The contracts of agree, quarrel, l7Quarrel, ViewQuarrel (impl and spec).
-/
import Derived.Test.YtbmpchpcihnbdaaFinIn
import Derived.Test.YtbmpchpcihnbdaaViewMath
namespace Go.Proofs.Ytbmpchpcihnbdaa
set_option linter.unusedSimpArgs false
set_option linter.unusedVariables false
set_option linter.unnecessarySimpa false
open Go.RowKit
set_option maxRecDepth 100000

theorem dif_sym (a b : List Int) (i k : Nat) : dif a b i k = dif a b k i := by
  unfold dif
  have e1 : decide (a.getD i 0 = a.getD k 0) = decide (a.getD k 0 = a.getD i 0) := decide_eq_decide.2 ⟨Eq.symm, Eq.symm⟩
  have e2 : decide (b.getD i 0 = b.getD k 0) = decide (b.getD k 0 = b.getD i 0) := decide_eq_decide.2 ⟨Eq.symm, Eq.symm⟩
  rw [e1, e2]

theorem agree_v (v u : Value) (xs ys : List Int) (i k : Nat) (w : World) (hv : RdV w v xs) (hu : RdV w u ys) (hl : ys.length = xs.length) (hi : i < xs.length) (hk : k < xs.length) :
    Calls Try.prog 108 #[v, u, .int .i64 i, .int .i64 k] w (QB w (decide (dif xs ys i k = 0))) := by
  obtain ⟨bx, ox, cx, rfl, hcx, hbx, hcx1, hcx2⟩ := rdv_cells hv (by omega)
  obtain ⟨by', oy, cy, rfl, hcy, hby, hcy1, hcy2⟩ := rdv_cells hu (by omega)
  clear hv hu hcx1 hcx2 hcy1 hcy2
  have hc1 := cells_at hcx i hi
  have hc2 := cells_at hcx k hk
  have hc3 := cells_at hcy i (by omega)
  have hc4 := cells_at hcy k (by omega)
  obtain ⟨n, hn⟩ : ∃ n, n = xs.length := ⟨_, rfl⟩
  rw [hl, ← hn]
  rw [← hn] at hi hk
  have b1 : (i : Int) < n := by omega
  have b2 : (k : Int) < n := by omega
  have hr : decide (dif xs ys i k = 0) = ((xs.getD i 0 == xs.getD k 0) == (ys.getD i 0 == ys.getD k 0)) := by
    have e1 : (xs.getD i 0 == xs.getD k 0) = decide (xs.getD i 0 = xs.getD k 0) := rfl
    have e2 : (ys.getD i 0 == ys.getD k 0) = decide (ys.getD i 0 = ys.getD k 0) := rfl
    rw [e1, e2]
    unfold dif
    cases decide (xs.getD i 0 = xs.getD k 0) <;> cases decide (ys.getD i 0 = ys.getD k 0) <;> rfl
  rw [hr]
  clear hr hl hn
  obtain ⟨x, hx⟩ : ∃ x, x = xs.getD i 0 := ⟨_, rfl⟩
  obtain ⟨y, hy⟩ : ∃ y, y = xs.getD k 0 := ⟨_, rfl⟩
  obtain ⟨s, hs⟩ : ∃ s, s = ys.getD i 0 := ⟨_, rfl⟩
  obtain ⟨z, hz⟩ : ∃ z, z = ys.getD k 0 := ⟨_, rfl⟩
  rw [← hx] at hc1 ⊢
  rw [← hy] at hc2 ⊢
  rw [← hs] at hc3 ⊢
  rw [← hz] at hc4 ⊢
  clear hx hy hs hz hcx hcy
  go_enter Try.func108, Try.ntmps108
  go_wp2
  go_quiet (fail)
  go_wp2
  go_ret
  exact ⟨rfl, (Quiet.refl w).drewN _⟩

set_option maxHeartbeats 1600000 in
theorem quarrel_v (v u : Value) (xs ys : List Int) (w : World) (hv : RdV w v xs) (hu : RdV w u ys) (h1 : 1 ≤ xs.length) (h8 : xs.length ≤ 8) (hlen : ys.length = xs.length) :
    Calls Try.prog 93 #[v, u] w (QI w (quar xs ys)) := by
  have HV := Lib.hid hv
  have HU := Lib.hid hu
  have hlv : ∃ ao ca, v = .slice ao xs.length ca := by obtain ⟨ao, ca, h, _⟩ := hv; exact ⟨ao, ca, h⟩
  obtain ⟨ao, ca, rfl⟩ := hlv
  clear hv hu
  obtain ⟨n, hn⟩ : ∃ n, n = xs.length := ⟨_, rfl⟩
  have HN := Lib.hid hn
  have HLY := Lib.hid hlen
  rw [← hn] at HV h1 h8 ⊢
  clear hn hlen
  go_enter Try.func93, Try.ntmps93
  go_wp2
  go_loopw [5, 10] (fun c i wr => ∃ (k s : Nat), k ≤ n ∧ i = .int .i64 k ∧ c = .int .i64 s ∧ Hid (s = quarTo xs ys k) ∧ Quiet w wr) (fun _ i _ => n - (intOf i).toNat)
  case atStart => exact ⟨0, 0, Nat.zero_le _, rfl, rfl, Lib.hid rfl, Quiet.refl _⟩
  case round =>
    obtain ⟨k, s, hk, rfl, rfl, HS, hq⟩ := hrel
    by_cases hlt : k < n
    · go_wp2
      go_loopw [5, 14] (fun c i wr => ∃ (j s2 : Nat), j ≤ k ∧ i = .int .i64 j ∧ c = .int .i64 s2 ∧ Hid (s2 = s + qRow xs ys k j) ∧ Quiet w wr) (fun _ i _ => k - (intOf i).toNat)
      case atStart => exact ⟨0, s, Nat.zero_le _, rfl, rfl, Lib.hid rfl, hq⟩
      case round =>
        obtain ⟨j, s2, hj, rfl, rfl, HS2, hq2⟩ := hrel
        have hs2 : s2 ≤ 1000 := by
          have e1 := HS2.out
          have e2 := HS.out
          have e3 := qRow_le xs ys k j
          have e4 := quarTo_le xs ys k
          have e5 := Nat.mul_le_mul (show k ≤ 8 by omega) (show k ≤ 8 by omega)
          omega
        by_cases hjk : j < k
        · have HC := Lib.hid (agree_v (.slice ao n ca) u xs ys j k wr (rdv_quiet HV.out hq2) (rdv_quiet HU.out hq2) HLY.out (by have := HN.out; omega) (by have := HN.out; omega))
          rw [dif_sym] at HC
          by_cases hd : dif xs ys k j = 0
          · rw [decide_eq_true hd] at HC
            have HD := Lib.hid hd
            clear hd
            go_wp2_with fail
            refine HC.out.mono ?_
            rintro e w5 ⟨rfl, hq5⟩
            have HQ := Lib.hid (hq2.trans hq5)
            clear HC hq5
            go_wp2
            go_roundw
            case rel => exact ⟨j + 1, s2, by omega, by go_num, rfl, Lib.hid (by rw [HS2.out]; show _ = s + (qRow xs ys k j + dif xs ys k j); rw [HD.out]; rfl), HQ.out⟩
            case measure => simp [intOf]; omega
          · rw [decide_eq_false hd] at HC
            have HD := Lib.hid hd
            clear hd
            go_wp2_with fail
            refine HC.out.mono ?_
            rintro e w5 ⟨rfl, hq5⟩
            have HQ := Lib.hid (hq2.trans hq5)
            clear HC hq5
            go_wp2
            go_roundw
            case rel => exact ⟨j + 1, s2 + 1, by omega, by go_num, by go_num, Lib.hid (by have e1 := dif_le xs ys k j; have e2 := HD.out; rw [HS2.out]; show _ = s + (qRow xs ys k j + dif xs ys k j); omega), HQ.out⟩
            case measure => simp [intOf]; omega
        · have hjk : j = k := by omega
          subst hjk
          go_wp2
          go_roundw
          case rel => exact ⟨j + 1, s2, by omega, by go_num, rfl, Lib.hid (by rw [HS2.out, HS.out]; rfl), hq2⟩
          case measure => simp [intOf]; omega
    · have hkn : k = n := by omega
      subst hkn
      go_wp2
      go_ret
      exact ⟨ret_int (by rw [HS.out, HN.out]; rfl), hq⟩

/-- What ViewQuarrel answers. -/
def viewQuarrel (xs ys : List Int) : Int × Bool := if alike xs ys then ((quar xs ys : Int), true) else (0, false)

theorem iViewQuarrel_q (v u : Value) (xs ys : List Int) (w : World) (hv : RdV w v xs) (hu : RdV w u ys) :
    Calls Try.prog 57 #[v, u] w (QIB w (viewQuarrel xs ys)) := by
  have HV := Lib.hid hv
  have HU := Lib.hid hu
  clear hv hu
  cases ha : alike xs ys
  · have HA := Lib.hid ha
    have hr : viewQuarrel xs ys = (0, false) := by rw [viewQuarrel, ha]; rfl
    rw [hr]
    clear ha hr
    go_enter Try.func57, Try.ntmps57
    go_wp2_with fail
    refine (areAlike_is false _ _ _ _ _ HV.out HU.out HA).mono ?_
    rintro e w' ⟨rfl, rfl⟩
    go_wp2
    go_ret2
    exact ⟨rfl, Quiet.refl _⟩
  · have HA := Lib.hid ha
    obtain ⟨h1, h8, hl⟩ := alike_lens ha
    have HL := Lib.hid hl
    have hr : viewQuarrel xs ys = ((quar xs ys : Int), true) := by rw [viewQuarrel, ha]; rfl
    rw [hr]
    clear ha hr hl
    go_enter Try.func57, Try.ntmps57
    go_wp2_with fail
    refine (areAlike_is true _ _ _ _ _ HV.out HU.out HA).mono ?_
    rintro e w' ⟨rfl, rfl⟩
    go_wp2_with fail
    refine (quarrel_v _ _ _ _ _ HV.out HU.out h1 h8 HL.out).mono ?_
    rintro e w' ⟨rfl, hq⟩
    go_wp2
    go_ret2
    exact ⟨rfl, hq⟩

theorem iViewQuarrel_v (v u : Value) (xs ys : List Int) (w : World) (hv : RdV w v xs) (hu : RdV w u ys) :
    Calls Try.prog 57 #[v, u] w (GivesIB w (viewQuarrel xs ys)) := (iViewQuarrel_q v u xs ys w hv hu).mono fun _ _ h => h.gives
end Go.Proofs.Ytbmpchpcihnbdaa
