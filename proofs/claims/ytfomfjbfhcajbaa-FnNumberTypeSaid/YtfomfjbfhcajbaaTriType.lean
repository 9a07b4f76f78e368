/-
  The contracts of isType and of NumberType (impl and spec).
-/
import Derived.Test.YtfomfjbfhcajbaaTypeMath
import Derived.Test.YtfomfjbfhcajbaaTriUse
import Derived.Test.YtfomfjbfhcajbaaCells
import Derived.Deep.QuietTactic
import Derived.BigQuiet
namespace Go.Proofs.Ytfomfjbfhcajbaa
set_option linter.unusedSimpArgs false
set_option linter.unusedVariables false
set_option linter.unnecessarySimpa false
open Go.RowKit
set_option maxRecDepth 100000

theorem mem_getD {xs : List Int} {k : Nat} (h : k < xs.length) : xs.getD k 0 ∈ xs := by
  rw [List.getD_eq_getElem?_getD, List.getElem?_eq_getElem h]
  simp

/-- One number more of a list that may be a type. -/
theorem type_step (xs : List Int) (k : Nat) (h : k < xs.length) (ht : typeGo 12 12 (xs.take k) = true) :
    typeGo 12 12 (xs.take (k + 1)) = decide (1 ≤ xs.getD k 0 ∧ xs.getD k 0 ≤ lastOr 12 (xs.take k) ∧ xs.getD k 0 ≤ 12 - sumL (xs.take k)) := by
  rw [takeSnoc xs k h, typeGo_snoc, ht, Bool.true_and]

theorem type_no {xs : List Int} {k : Nat} (h : typeGo 12 12 (xs.take k) = false) : typeGo 12 12 xs = false := by
  cases e : typeGo 12 12 xs
  · rfl
  · rw [typeGo_take e k] at h
    cases h

set_option maxHeartbeats 1600000 in
theorem isType_v (v : Value) (xs : List Int) (w : World) (hv : RdV w v xs) :
    Calls Try.prog 55 #[v] w fun e w' => e = .returned (.bool (typeGo 12 12 xs)) ∧ w = w' := by
  obtain ⟨ao, ca, rfl, hr, hc1, hc2⟩ := hv
  obtain ⟨n, hn⟩ : ∃ n, n = xs.length := ⟨_, rfl⟩
  rw [← hn] at hc1 ⊢
  have hn63 : n ≤ 9223372036854775807 := by unfold maxLen at hc2; omega
  have HN := Lib.hid hn
  have HR := Lib.hid hr
  clear hn hr hc1 hc2
  go_enter Try.func55, Try.ntmps55
  go_wp2
  go_loop [3, 4, 9] (fun r a i => ∃ k : Nat, k ≤ n ∧ i = .int .i64 k ∧ r = .int .i64 (12 - sumL (xs.take k)) ∧ a = .int .i64 (lastOr 12 (xs.take k)) ∧ typeGo 12 12 (xs.take k) = true) (fun _ _ i => n - (intOf i).toNat)
  case atStart => exact ⟨0, Nat.zero_le _, rfl, rfl, rfl, rfl⟩
  case round =>
    obtain ⟨k, hk, rfl, rfl, rfl, ht⟩ := hrel
    obtain ⟨f1, f2, f3, f4, f5⟩ := typeGo_facts _ 12 12 (by omega) ht
    by_cases hlt : k < n
    · rcases HR.out with hx | ⟨b, off, rfl, hcx⟩
      · have := HN.out
        rw [hx] at this
        simp at this
        omega
      · have hkl : k < xs.length := by have := HN.out; omega
        have hck := hcx k hkl
        have hst := type_step xs k hkl ht
        have hts : sumL (xs.take (k + 1)) = sumL (xs.take k) + xs.getD k 0 := by rw [takeSnoc xs k hkl, sumL_snoc]
        have hla : lastOr 12 (xs.take (k + 1)) = xs.getD k 0 := by rw [takeSnoc xs k hkl, lastOr_snoc]
        obtain ⟨x, hx⟩ : ∃ x, x = xs.getD k 0 := ⟨_, rfl⟩
        obtain ⟨s, hs0⟩ : ∃ s, s = sumL (xs.take k) := ⟨_, rfl⟩
        obtain ⟨a, ha⟩ : ∃ a, a = lastOr 12 (xs.take k) := ⟨_, rfl⟩
        rw [← hx] at hck hst hts hla
        rw [← hs0] at f1 f2 f3 hst hts ⊢
        rw [← ha] at f5 hst ⊢
        have HST := Lib.hid hst
        have HTS := Lib.hid hts
        have HLA := Lib.hid hla
        clear hcx hst hts hla hx hs0 ha f3 f4
        by_cases h1 : x < 1
        · have hno : typeGo 12 12 xs = false := type_no (k := k + 1) (by rw [HST.out]; exact decide_eq_false (by omega))
          have HNO := Lib.hid hno
          clear hno ht
          go_wp2
          go_ret
          exact ⟨ret_bool HNO.out.symm, rfl⟩
        · by_cases h2 : a < x
          · have hno : typeGo 12 12 xs = false := type_no (k := k + 1) (by rw [HST.out]; exact decide_eq_false (by omega))
            have HNO := Lib.hid hno
            clear hno ht
            go_wp2
            go_ret
            exact ⟨ret_bool HNO.out.symm, rfl⟩
          · by_cases h3 : 12 - s < x
            · have hno : typeGo 12 12 xs = false := type_no (k := k + 1) (by rw [HST.out]; exact decide_eq_false (by omega))
              have HNO := Lib.hid hno
              clear hno ht
              go_wp2
              go_ret
              exact ⟨ret_bool HNO.out.symm, rfl⟩
            · have hyes : typeGo 12 12 (xs.take (k + 1)) = true := by rw [HST.out]; exact decide_eq_true (by omega)
              have HY := Lib.hid hyes
              have hx12 : x ≤ 12 := by omega
              have b1 : wrap64 (12 - s - x) = 12 - s - x := IntWalk.wrap64_in _ (by omega)
              clear hyes ht
              go_wp2
              go_round
              case rel => exact ⟨k + 1, by omega, by go_num, by rw [HTS.out]; congr 1; omega, by rw [HLA.out], HY.out⟩
              case measure => simp [intOf]; omega
    · have hkn : k = n := by omega
      have he : xs.take k = xs := List.take_of_length_le (by have := HN.out; omega)
      rw [he] at ht
      have HT := Lib.hid ht
      clear ht he
      go_wp2
      go_ret
      exact ⟨ret_bool HT.out.symm, rfl⟩

/-- What one block more makes of the ways. -/
theorem ways_step (S : Int) (xs : List Int) (k : Nat) (h : k < xs.length) (r' : Int) (hr : r' = if xs.getD k 0 = (wstate S (xs.take k)).2.2.2 then (wstate S (xs.take k)).2.2.1 + 1 else 1) :
    (wstate S (xs.take (k + 1))).2.1 = (wstate S (xs.take k)).2.1 * cN (wstate S (xs.take k)).1 (xs.getD k 0) / r' ∧ (wstate S (xs.take (k + 1))).2.2.1 = r' := by
  rw [takeSnoc xs k h, wstate_snoc, hr]
  exact ⟨rfl, rfl⟩

set_option maxHeartbeats 3200000 in
theorem iNumberType_v (v : Value) (xs : List Int) (w : World) (hv : RdV w v xs) : Calls Try.prog 21 #[v] w (GivesIB w (numType xs)) := by
  have HI := Lib.hid (isType_v v xs w hv)
  cases ht : typeGo 12 12 xs
  · have hr : numType xs = (0, false) := by simp [numType, ht]
    rw [hr]
    rw [ht] at HI
    clear hr ht
    go_enter Try.func21, Try.ntmps21
    go_wp2_with fail
    refine HI.out.mono ?_
    rintro e w' ⟨rfl, rfl⟩
    go_wp2
    go_ret2
    exact ⟨rfl, Below.refl _ _⟩
  · have hr : numType xs = (typeNum xs, true) := by simp [numType, ht]
    rw [hr]
    rw [ht] at HI
    have HT := Lib.hid ht
    obtain ⟨f1, f2, f3, f4, f5⟩ := typeGo_facts _ 12 12 (by omega) ht
    obtain ⟨c1, c2, c3, c4, c5, c6⟩ := type_all ht
    have HV := Lib.hid hv
    have HS := Lib.hid (sumOf_v v xs)
    have HF4 := Lib.hid f4
    have HC4 := Lib.hid c4
    have HC6 := Lib.hid c6
    obtain ⟨S, hS⟩ : ∃ S, S = sumL xs := ⟨_, rfl⟩
    rw [← hS] at f1 f2 f3 HS HC4 HC6
    have HSS := Lib.hid hS
    obtain ⟨ao, ca, rfl, hrd, hc1, hc2⟩ := hv
    obtain ⟨n, hn⟩ : ∃ n, n = xs.length := ⟨_, rfl⟩
    rw [← hn] at hc1 f3 HI HV HS ⊢
    have HN := Lib.hid hn
    have HR := Lib.hid hrd
    clear hr ht f4 f5 c1 c2 c3 c4 c6 hS hrd hn hc1 hc2
    go_enter Try.func21, Try.ntmps21
    go_wp2_with fail
    refine HI.out.mono ?_
    rintro e w' ⟨rfl, rfl⟩
    go_wp2_with fail
    refine (newTriangle_any 56 (ext fC) w).mono ?_
    rintro e w1 ⟨tb, mb, rfl, htb, hmb, hT, hAt, hb1⟩
    have HT1 := Lib.hid hT
    have HB1 := Lib.hid hb1
    clear hT hAt hb1
    go_wp2_with fail
    refine (HS.out w1 (rdv_below HV.out HB1.out) (fun c hc => by have := HF4.out c hc; omega) (by have := HN.out; omega)).mono ?_
    rintro e w' ⟨rfl, rfl⟩
    go_wp2
    go_loopw [5, 6, 7, 18] (fun r y a i wr => ∃ k : Nat, k ≤ n ∧ i = .int .i64 k ∧ r = .int .i64 (S - sumL (xs.take k)) ∧ y = .int .i64 (wstate S (xs.take k)).2.1 ∧ a = .int .i64 (wstate S (xs.take k)).2.2.1 ∧ TriOk wr tb mb 56 (ext fC) (k * 1594323) ∧ Below w.heap.size w wr) (fun _ _ _ i _ => n - (intOf i).toNat)
    case atStart => exact ⟨0, Nat.zero_le _, rfl, by simp [sumL], rfl, rfl, by simpa using HT1.out, HB1.out⟩
    case round =>
      obtain ⟨k, hk, rfl, rfl, rfl, rfl, hTr, hbr⟩ := hrel
      by_cases hlt : k < n
      · have hkl : k < xs.length := by have := HN.out; omega
        have htk := typeGo_take HT.out k
        obtain ⟨g1, g2, g3, g4, g5⟩ := typeGo_facts _ 12 12 (by omega) htk
        have htk1 := typeGo_take HT.out (k + 1)
        obtain ⟨e1, e2, _⟩ := typeGo_facts _ 12 12 (by omega) htk1
        obtain ⟨_, c2, _, _, _, _⟩ := type_all htk
        obtain ⟨w1b, w2b, w3b⟩ := HC6.out k (by omega)
        obtain ⟨y1b, y2b, y3b⟩ := HC6.out (k + 1) (by omega)
        have hlast := type_last htk
        have hxb := HF4.out _ (mem_getD hkl)
        have hts : sumL (xs.take (k + 1)) = sumL (xs.take k) + xs.getD k 0 := by rw [takeSnoc xs k hkl, sumL_snoc]
        have hws := ways_step S xs k hkl _ rfl
        have hrdr := rd_below HR.out hbr
        rcases hrdr with hx | ⟨b, off, rfl, hcx⟩
        · have := HN.out
          rw [hx] at this
          simp at this
          omega
        · have hck := hcx k hkl
          have hle := triMore_le (n := S - sumL (xs.take k)) (by omega)
          have hcb := cN_small (n := S - sumL (xs.take k)) (k := xs.getD k 0) (by omega) (by omega)
          have hsucc : (k + 1) * 1594323 = k * 1594323 + 1594323 := Nat.succ_mul k _
          have hC := all_choose.2 (S - sumL (xs.take k)) (by omega) (by omega) tb mb (k * 1594323) (xs.getD k 0) wr (by omega) (by omega) hTr (by unfold maxLen; omega)
          rw [cN_is (by omega) (by omega)] at hC
          have hC2 := hC.mono (R' := TriLeft wr tb mb 56 (ext fC) ((k + 1) * 1594323) (cN (S - sumL (xs.take k)) (xs.getD k 0))) fun e w' ⟨h1, h2, h3⟩ => ⟨h1, triOk_mono h2 (by omega), h3⟩
          have hprev : (wstate S (xs.take k)).2.2.2 = lastOr 0 (xs.take k) := by rw [w3b]; exact hlast
          have hal : (wstate S (xs.take k)).2.2.1 = (tstate (xs.take k)).2.2.1 := by rw [w3b]
          rw [← hal] at c2
          rw [hprev] at hws
          rw [w2b] at hws
          obtain ⟨hy1, ha1⟩ := hws
          obtain ⟨x, hx⟩ : ∃ x, x = xs.getD k 0 := ⟨_, rfl⟩
          obtain ⟨s, hs⟩ : ∃ s, s = sumL (xs.take k) := ⟨_, rfl⟩
          obtain ⟨y, hy⟩ : ∃ y, y = (wstate S (xs.take k)).2.1 := ⟨_, rfl⟩
          obtain ⟨a, ha⟩ : ∃ a, a = (wstate S (xs.take k)).2.2.1 := ⟨_, rfl⟩
          rw [← hs, ← hx] at hcb hC2
          rw [← hx] at hck hxb hy1 ha1 hts
          rw [← hs] at hts hy1 g1 g2 ⊢
          rw [← hy] at hy1 w1b ⊢
          rw [← ha] at hy1 ha1 c2 ⊢
          obtain ⟨c, hc⟩ : ∃ c, c = cN (S - s) x := ⟨_, rfl⟩
          rw [← hc] at hcb hC2 hy1
          have hmm := mul_bd w1b.1 w1b.2.1 hcb.1 hcb.2
          have HTS := Lib.hid hts
          have HC := Lib.hid hC2
          have HBR := Lib.hid hbr
          have HXK := Lib.hid hx
          have b1 : wrap64 (y * c) = y * c := IntWalk.wrap64_in _ (by omega)
          have b2 : wrap64 (S - s - x) = S - s - x := IntWalk.wrap64_in _ (by omega)
          rcases Nat.eq_zero_or_pos k with hk0 | hk0
          · subst hk0
            rw [Nat.add_zero] at hck
            have hx0 : ¬ x = lastOr 0 (xs.take 0) := by simp [lastOr]; omega
            rw [if_neg hx0] at hy1 ha1
            have hdv : Int.tdiv (y * c) 1 = y * c / 1 := Int.tdiv_eq_ediv_of_nonneg hmm.1
            rw [hy1] at y1b
            have b3 : wrap64 (y * c / 1) = y * c / 1 := IntWalk.wrap64_in _ (by omega)
            have HY1 := Lib.hid hy1
            have HA1 := Lib.hid ha1
            clear hcx hC hC2 hTr hbr hts hx hs hy ha hc hy1 ha1 hprev hal hx0 hlast w2b w3b y2b y3b htk htk1 g3 g4 g5
            go_wp2_with fail
            refine HC.out.mono ?_
            rintro e w4 ⟨rfl, hT4, hg4⟩
            have HT4 := Lib.hid hT4
            have HB4 := Lib.hid (HBR.out.grown hg4 HBR.out.size (fun j hj => by cases hj; exact hmb))
            clear hT4 hg4
            go_wp2
            go_roundw
            case rel => exact ⟨0 + 1, by omega, by go_num, by rw [HTS.out]; congr 1; omega, by first | (rw [HY1.out]; done) | (rw [HY1.out]; simp), by first | (rw [HA1.out]; done) | (rw [HA1.out]; simp), HT4.out, HB4.out⟩
            case measure => simp [intOf]; omega
          · obtain ⟨j, hj⟩ : ∃ j, k = j + 1 := ⟨k - 1, by omega⟩
            have hcj := hcx j (by omega)
            have hpj : lastOr 0 (xs.take k) = xs.getD j 0 := by rw [hj, takeSnoc xs j (by omega), lastOr_snoc]
            rw [hpj] at hy1 ha1
            obtain ⟨z, hz⟩ : ∃ z, z = xs.getD j 0 := ⟨_, rfl⟩
            rw [← hz] at hcj hy1 ha1
            have hir : (k : Int) - 1 = (j : Int) := by omega
            have hk1 : (0 : Int) < (k : Int) := by omega
            have hjn : (j : Int) < (n : Int) := by omega
            by_cases hxz : x = z
            · subst hxz
              rw [if_pos rfl] at hy1 ha1
              have hdv : Int.tdiv (y * c) (a + 1) = y * c / (a + 1) := Int.tdiv_eq_ediv_of_nonneg hmm.1
              rw [hy1] at y1b
              have b3 : wrap64 (y * c / (a + 1)) = y * c / (a + 1) := IntWalk.wrap64_in _ (by omega)
              have b4 : ((a + 1) == 0) = false := by simp; omega
              have b5 : ¬ (a + 1) = 0 := by omega
              have HY1 := Lib.hid hy1
              have HA1 := Lib.hid ha1
              clear hcx hC hC2 hTr hbr hts hx hs hy ha hc hy1 ha1 hprev hal hlast w2b w3b y2b y3b htk htk1 g3 g4 g5 hpj hz hj
              go_wp2_with fail
              refine HC.out.mono ?_
              rintro e w4 ⟨rfl, hT4, hg4⟩
              have HT4 := Lib.hid hT4
              have HB4 := Lib.hid (HBR.out.grown hg4 HBR.out.size (fun j hj => by cases hj; exact hmb))
              clear hT4 hg4
              go_wp2
              go_roundw
              case rel => exact ⟨k + 1, by omega, by go_num, by rw [HTS.out]; congr 1; omega, by first | (rw [HY1.out]; done) | (rw [HY1.out]; simp), by first | (rw [HA1.out]; done) | (rw [HA1.out]; simp), HT4.out, HB4.out⟩
              case measure => simp [intOf]; omega
            · rw [if_neg hxz] at hy1 ha1
              have hdv : Int.tdiv (y * c) 1 = y * c / 1 := Int.tdiv_eq_ediv_of_nonneg hmm.1
              rw [hy1] at y1b
              have b3 : wrap64 (y * c / 1) = y * c / 1 := IntWalk.wrap64_in _ (by omega)
              have hzx : (z == x) = false := by simpa using fun e => hxz e.symm
              have HY1 := Lib.hid hy1
              have HA1 := Lib.hid ha1
              clear hcx hC hC2 hTr hbr hts hx hs hy ha hc hy1 ha1 hprev hal hlast w2b w3b y2b y3b htk htk1 g3 g4 g5 hpj hz hj hxz
              go_wp2_with fail
              refine HC.out.mono ?_
              rintro e w4 ⟨rfl, hT4, hg4⟩
              have HT4 := Lib.hid hT4
              have HB4 := Lib.hid (HBR.out.grown hg4 HBR.out.size (fun j hj => by cases hj; exact hmb))
              clear hT4 hg4
              go_wp2
              go_roundw
              case rel => exact ⟨k + 1, by omega, by go_num, by rw [HTS.out]; congr 1; omega, by first | (rw [HY1.out]; done) | (rw [HY1.out]; simp), by first | (rw [HA1.out]; done) | (rw [HA1.out]; simp), HT4.out, HB4.out⟩
              case measure => simp [intOf]; omega
      · have hkn : k = n := by omega
        have he : xs.take k = xs := List.take_of_length_le (by have := HN.out; omega)
        have HBR := Lib.hid hbr
        rw [he, HC4.out]
        clear he hTr hbr
        go_wp2
        go_ret2
        exact ⟨rfl, HBR.out⟩

theorem div_step (xs : List Int) (k : Nat) (h : k < xs.length) (r' : Int) (hr : r' = if xs.getD k 0 = (tstate (xs.take k)).2.2.2 then (tstate (xs.take k)).2.2.1 + 1 else 1) :
    (tstate (xs.take (k + 1))).2.1 = (tstate (xs.take k)).2.1 * (fac (xs.getD k 0).toNat : Int) * r' ∧ (tstate (xs.take (k + 1))).2.2.1 = r' := by
  rw [takeSnoc xs k h, tstate_snoc, hr]
  exact ⟨rfl, rfl⟩

set_option maxHeartbeats 6400000 in
theorem sNumberType_v (v : Value) (xs : List Int) (w : World) (hv : RdV w v xs) : Calls Try.prog 22 #[v] w (GivesIB w (numType xs)) := by
  obtain ⟨ao, ca, rfl, hr, hc1, hc2⟩ := hv
  obtain ⟨n, hn⟩ : ∃ n, n = xs.length := ⟨_, rfl⟩
  rw [← hn] at hc1 ⊢
  have hn63 : n ≤ 9223372036854775807 := by unfold maxLen at hc2; omega
  have HN := Lib.hid hn
  have HR := Lib.hid hr
  clear hn hr hc1 hc2
  go_enter Try.func22, Try.ntmps22
  go_wp2
  go_loopw [4, 5, 6, 7] (fun s d r i wr => ∃ k : Nat, k ≤ n ∧ i = .int .i64 k ∧ s = .int .i64 (sumL (xs.take k)) ∧ d = .int .i64 (tstate (xs.take k)).2.1 ∧ r = .int .i64 (tstate (xs.take k)).2.2.1 ∧ typeGo 12 12 (xs.take k) = true ∧ Quiet w wr) (fun _ _ _ i _ => n - (intOf i).toNat)
  case atStart => exact ⟨0, Nat.zero_le _, rfl, rfl, rfl, rfl, rfl, Quiet.refl _⟩
  case round =>
    obtain ⟨k, hk, rfl, rfl, rfl, rfl, ht, hqr⟩ := hrel
    obtain ⟨f1, f2, f3, f4, f5⟩ := typeGo_facts _ 12 12 (by omega) ht
    obtain ⟨c1, c2, _, _, _, _⟩ := type_all ht
    by_cases hlt : k < n
    · rcases rd_below HR.out hqr.below with hx | ⟨b, off, rfl, hcx⟩
      · have := HN.out
        rw [hx] at this
        simp at this
        omega
      · have hkl : k < xs.length := by have := HN.out; omega
        have hck := hcx k hkl
        have hst := type_step xs k hkl ht
        have hts : sumL (xs.take (k + 1)) = sumL (xs.take k) + xs.getD k 0 := by rw [takeSnoc xs k hkl, sumL_snoc]
        have hlast := type_last ht
        obtain ⟨hd1, hr1⟩ := div_step xs k hkl _ rfl
        rw [hlast] at hd1 hr1
        have HIN := Lib.hid (fun q => (sIn_any (xs.getD k 0) 1 12 (wr.drewN q)).mono (R' := fun e w' => e = .returned (.bool (decide (1 ≤ xs.getD k 0 ∧ xs.getD k 0 ≤ 12))) ∧ w' = wr.drewN q) fun _ _ ⟨a, b⟩ => ⟨a, b.symm⟩)
        obtain ⟨s, hs⟩ : ∃ s, s = sumL (xs.take k) := ⟨_, rfl⟩
        obtain ⟨d, hd⟩ : ∃ d, d = (tstate (xs.take k)).2.1 := ⟨_, rfl⟩
        obtain ⟨r, hr⟩ : ∃ r, r = (tstate (xs.take k)).2.2.1 := ⟨_, rfl⟩
        rw [← hs] at f1 f2 f3 hst hts ⊢
        rw [← hd] at c1 hd1 ⊢
        rw [← hr] at c2 hd1 hr1 ⊢
        by_cases hx12 : 1 ≤ xs.getD k 0 ∧ xs.getD k 0 ≤ 12
        · rw [decide_eq_true hx12] at HIN
          obtain ⟨x, hx⟩ : ∃ x : Nat, xs.getD k 0 = (x : Int) := Int.eq_ofNat_of_zero_le (by omega)
          rw [hx] at hck hst hts hd1 hr1 HIN hx12
          rw [Int.toNat_natCast] at hd1
          have HK := Lib.hid (fun w0 => l2Fact12_v x w0 (by omega))
          have hfb := fac_bd x (by omega)
          obtain ⟨f, hf⟩ : ∃ f, f = fac x := ⟨_, rfl⟩
          rw [← hf] at HK hfb hd1
          have hdf := mul_bd (show 0 ≤ d by omega) c1.2 (show 0 ≤ (f : Int) by omega) hfb
          have b3 : wrap64 (d * (f : Int)) = d * (f : Int) := IntWalk.wrap64_in _ (by omega)
          have b4 : wrap64 (s + (x : Int)) = s + (x : Int) := IntWalk.wrap64_in _ (by omega)
          have HST := Lib.hid hst
          have HTS := Lib.hid hts
          rcases Nat.eq_zero_or_pos k with hk0 | hk0
          · have hla : lastOr 12 (xs.take k) = 12 := by rw [hk0]; rfl
            have hlz : lastOr 0 (xs.take k) = 0 := by rw [hk0]; rfl
            rw [hla] at HST
            rw [hlz, if_neg (by omega)] at hd1 hr1
            have HD1 := Lib.hid hd1
            have HR1 := Lib.hid hr1
            subst hk0
            rw [Nat.add_zero] at hck
            clear hcx hst hts hd1 hr1 hs hd hr hx hf ht hlast hla hlz f3 f4
            by_cases hsum : 12 < s + (x : Int)
            · have hno : typeGo 12 12 xs = false := type_no (k := 0 + 1) (by rw [HST.out]; exact decide_eq_false (by omega))
              have hr0 : numType xs = (0, false) := by simp [numType, hno]
              have HR0 := Lib.hid hr0
              clear hno hr0
              go_wp2
              go_quiet ((go_at_call 58; exact Calls.quiet_of_same (HIN.out _)))
              go_wp2
              go_quiet (fail)
              go_wp2
              go_ret2
              rw [HR0.out]
              exact ⟨rfl, (hqr.drewN _).below⟩
            · have hyes : typeGo 12 12 (xs.take (0 + 1)) = true := by rw [HST.out]; exact decide_eq_true (by omega)
              obtain ⟨n1, n2, _⟩ := type_all hyes
              have HY := Lib.hid hyes
              rw [HD1.out] at n1
              have b5 : wrap64 (d * (f : Int) * 1) = d * (f : Int) * 1 := IntWalk.wrap64_in _ (by omega)
              clear hyes n2
              go_wp2
              go_quiet ((go_at_call 58; exact Calls.quiet_of_same (HIN.out _)))
              go_wp2
              go_quiet (fail)
              go_wp2_with fail
              refine (HK.out _).mono ?_
              rintro e w' ⟨rfl, rfl⟩
              go_wp2
              go_roundw
              case rel => exact ⟨0 + 1, by omega, by go_num, by rw [HTS.out], by first | (rw [HD1.out]; done) | (rw [HD1.out]; simp), by first | (rw [HR1.out]; done) | (rw [HR1.out]; simp), HY.out, hqr.drewN _⟩
              case measure => simp [intOf]; omega
          · obtain ⟨j, hj⟩ : ∃ j, k = j + 1 := ⟨k - 1, by omega⟩
            have hcj := hcx j (by omega)
            have hpj : lastOr 0 (xs.take k) = xs.getD j 0 := by rw [hj, takeSnoc xs j (by omega), lastOr_snoc]
            have hpk : lastOr 12 (xs.take k) = xs.getD j 0 := by rw [hj, takeSnoc xs j (by omega), lastOr_snoc]
            rw [hpj] at hd1 hr1
            rw [hpk] at HST
            obtain ⟨z, hz⟩ : ∃ z, z = xs.getD j 0 := ⟨_, rfl⟩
            rw [← hz] at hcj hd1 hr1 HST
            have hir : (k : Int) - 1 = (j : Int) := by omega
            have hk1 : (0 : Int) < (k : Int) := by omega
            have hjn : (j : Int) < (n : Int) := by omega
            have hkn : (k : Int) < (n : Int) := by omega
            by_cases hzx : z < (x : Int)
            · have hno : typeGo 12 12 xs = false := type_no (k := k + 1) (by rw [HST.out]; exact decide_eq_false (by omega))
              have hr0 : numType xs = (0, false) := by simp [numType, hno]
              have HR0 := Lib.hid hr0
              clear hcx hst hts hd1 hr1 hs hd hr hx hf ht hlast f3 f4 hpj hpk hz hj hno hr0
              go_wp2
              go_quiet ((go_at_call 58; exact Calls.quiet_of_same (HIN.out _)))
              go_wp2
              go_ret2
              rw [HR0.out]
              exact ⟨rfl, (hqr.drewN _).below⟩
            · by_cases hxz : (x : Int) = z
              · rw [if_pos hxz] at hd1 hr1
                subst hxz
                have HD1 := Lib.hid hd1
                have HR1 := Lib.hid hr1
                have b6 : wrap64 (r + 1) = r + 1 := IntWalk.wrap64_in _ (by omega)
                clear hcx hst hts hd1 hr1 hs hd hr hx hf ht hlast f3 f4 hpj hpk hz hj
                by_cases hsum : 12 < s + (x : Int)
                · have hno : typeGo 12 12 xs = false := type_no (k := k + 1) (by rw [HST.out]; exact decide_eq_false (by omega))
                  have hr0 : numType xs = (0, false) := by simp [numType, hno]
                  have HR0 := Lib.hid hr0
                  clear hno hr0
                  go_wp2
                  go_quiet ((go_at_call 58; exact Calls.quiet_of_same (HIN.out _)))
                  go_wp2
                  go_quiet (fail)
                  go_wp2
                  go_ret2
                  rw [HR0.out]
                  exact ⟨rfl, (hqr.drewN _).below⟩
                · have hyes : typeGo 12 12 (xs.take (k + 1)) = true := by rw [HST.out]; exact decide_eq_true (by omega)
                  obtain ⟨n1, n2, _⟩ := type_all hyes
                  have HY := Lib.hid hyes
                  rw [HD1.out] at n1
                  have b5 : wrap64 (d * (f : Int) * (r + 1)) = d * (f : Int) * (r + 1) := IntWalk.wrap64_in _ (by omega)
                  clear hyes n2
                  go_wp2
                  go_quiet ((go_at_call 58; exact Calls.quiet_of_same (HIN.out _)))
                  go_wp2
                  go_quiet (fail)
                  go_wp2_with fail
                  refine (HK.out _).mono ?_
                  rintro e w' ⟨rfl, rfl⟩
                  go_wp2
                  go_roundw
                  case rel => exact ⟨k + 1, by omega, by go_num, by rw [HTS.out], by first | (rw [HD1.out]; done) | (rw [HD1.out]; simp), by first | (rw [HR1.out]; done) | (rw [HR1.out]; simp), HY.out, hqr.drewN _⟩
                  case measure => simp [intOf]; omega
              · rw [if_neg hxz] at hd1 hr1
                have HD1 := Lib.hid hd1
                have HR1 := Lib.hid hr1
                have hxz2 : ((x : Int) == z) = false := by simpa using hxz
                clear hcx hst hts hd1 hr1 hs hd hr hx hf ht hlast f3 f4 hpj hpk hz hj
                by_cases hsum : 12 < s + (x : Int)
                · have hno : typeGo 12 12 xs = false := type_no (k := k + 1) (by rw [HST.out]; exact decide_eq_false (by omega))
                  have hr0 : numType xs = (0, false) := by simp [numType, hno]
                  have HR0 := Lib.hid hr0
                  clear hno hr0
                  go_wp2
                  go_quiet ((go_at_call 58; exact Calls.quiet_of_same (HIN.out _)))
                  go_wp2
                  go_quiet (fail)
                  go_wp2
                  go_ret2
                  rw [HR0.out]
                  exact ⟨rfl, (hqr.drewN _).below⟩
                · have hyes : typeGo 12 12 (xs.take (k + 1)) = true := by rw [HST.out]; exact decide_eq_true (by omega)
                  obtain ⟨n1, n2, _⟩ := type_all hyes
                  have HY := Lib.hid hyes
                  rw [HD1.out] at n1
                  have b5 : wrap64 (d * (f : Int) * 1) = d * (f : Int) * 1 := IntWalk.wrap64_in _ (by omega)
                  clear hyes n2
                  go_wp2
                  go_quiet ((go_at_call 58; exact Calls.quiet_of_same (HIN.out _)))
                  go_wp2
                  go_quiet (fail)
                  go_wp2_with fail
                  refine (HK.out _).mono ?_
                  rintro e w' ⟨rfl, rfl⟩
                  go_wp2
                  go_roundw
                  case rel => exact ⟨k + 1, by omega, by go_num, by rw [HTS.out], by first | (rw [HD1.out]; done) | (rw [HD1.out]; simp), by first | (rw [HR1.out]; done) | (rw [HR1.out]; simp), HY.out, hqr.drewN _⟩
                  case measure => simp [intOf]; omega
        · rw [decide_eq_false hx12] at HIN
          have hno : typeGo 12 12 xs = false := type_no (k := k + 1) (by rw [hst]; exact decide_eq_false (by omega))
          have hr0 : numType xs = (0, false) := by simp [numType, hno]
          have HR0 := Lib.hid hr0
          obtain ⟨x, hx⟩ : ∃ x, x = xs.getD k 0 := ⟨_, rfl⟩
          rw [← hx] at hck HIN
          clear hcx hst hts hd1 hr1 hs hd hr hx ht hlast f3 f4 hno hr0 hx12
          go_wp2
          go_quiet ((go_at_call 58; exact Calls.quiet_of_same (HIN.out _)))
          go_wp2
          go_ret2
          rw [HR0.out]
          exact ⟨rfl, (hqr.drewN _).below⟩
    · have hkn : k = n := by omega
      have he : xs.take k = xs := List.take_of_length_le (by have := HN.out; omega)
      rw [he] at ht f1 f2 c1 c2 ⊢
      have hr0 : numType xs = (typeNum xs, true) := by simp [numType, ht]
      obtain ⟨m, hm⟩ := Int.eq_ofNat_of_zero_le f1
      obtain ⟨d, hd⟩ := Int.eq_ofNat_of_zero_le (show 0 ≤ (tstate xs).2.1 by omega)
      have hres : typeNum xs = ((fac m / d : Nat) : Int) := by unfold typeNum; rw [hm, hd, Int.toNat_natCast, Int.toNat_natCast]
      rw [hm] at f2
      rw [hd] at c1
      rw [hres] at hr0
      rw [hm, hd]
      have HK := Lib.hid (fun w0 => l2Fact12_v m w0 (by omega))
      have hfb := fac_bd m (by omega)
      obtain ⟨f, hf⟩ : ∃ f, f = fac m := ⟨_, rfl⟩
      rw [← hf] at HK hfb hr0
      have hdv : Int.tdiv (f : Int) (d : Int) = ((f / d : Nat) : Int) := by rw [Int.tdiv_eq_ediv_of_nonneg (by omega)]; rfl
      have hle : f / d ≤ f := Nat.div_le_self _ _
      have hd0 : ((d : Int) == 0) = false := by simp; omega
      have hd1 : ¬ (d : Int) = 0 := by omega
      obtain ⟨g, hg⟩ : ∃ g, g = f / d := ⟨_, rfl⟩
      rw [← hg] at hdv hle hr0
      have HR0 := Lib.hid hr0
      have hkn2 : ¬ (k : Int) < (n : Int) := by omega
      clear hf hm hd hres hr0 ht he f3 f4 hg
      go_wp2_with fail
      refine (HK.out _).mono ?_
      rintro e w' ⟨rfl, rfl⟩
      go_wp2
      go_ret2
      rw [HR0.out]
      exact ⟨rfl, hqr.below⟩

end Go.Proofs.Ytfomfjbfhcajbaa
