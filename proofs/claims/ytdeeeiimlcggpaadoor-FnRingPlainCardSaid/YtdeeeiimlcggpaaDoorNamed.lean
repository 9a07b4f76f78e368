/-
  The contracts of impl.isNaming, spec.l1Names and PartNamed (impl and spec).
-/
import Derived.Test.YtdeeeiimlcggpaaDoorBits
import Derived.Test.YtdeeeiimlcggpaaDoorPut
import Derived.Deep.RegionHeld3
namespace Go.Proofs.YtdeeeiimlcggpaaDoor
set_option linter.unusedSimpArgs false
set_option linter.unusedVariables false
set_option linter.unnecessarySimpa false
open Go.RowKit

theorem own_drew {w : World} {B : Nat} {v : Value} {xs : List Int} (h : Own w B v xs) : Own w.drew B v xs := h

theorem nameFrom_cons (n s : Nat) (x : Int) (xs : List Int) : nameFrom n s (x :: xs) = (decide (0 ≤ x ∧ x < n) && !s.testBit x.toNat && nameFrom n (s ||| 2 ^ x.toNat) xs) := rfl

set_option maxHeartbeats 1600000 in
theorem isNaming_any (n : Nat) (ao : Option Addr) (ca : Nat) (ps : List Int) (w : World) (hn8 : n ≤ 8) (hx : Rd w ao ps) (hl : ps.length ≤ 9223372036854775807) :
    Calls Tryd.prog 66 #[.int .i64 n, .slice ao ps.length ca] w fun e w' => e = .returned (.bool (namesOk n ps)) ∧ w = w' := by
  by_cases hlen : ps.length = n
  · have HN := Lib.hid hlen
    have HOK : Hid (namesOk n ps = nameFrom n 0 ps) := by
      show namesOk n ps = _
      simp [namesOk, hlen]
    rw [hlen]
    clear hlen hl
    have HX := Lib.hid hx
    clear hx
    go_enter Tryd.func66, Tryd.ntmps66
    go_wp2
    go_loop [5, 14] (fun u i => ∃ k s : Nat, k ≤ n ∧ i = .int .i64 k ∧ u = .int .u64 s ∧ s < 256 ∧ nameFrom n 0 ps = nameFrom n s (ps.drop k)) (fun _ i => n - (intOf i).toNat)
    case atStart => exact ⟨0, 0, Nat.zero_le _, rfl, rfl, by omega, rfl⟩
    case round =>
      obtain ⟨k, s, hk, rfl, rfl, hs, hok⟩ := hrel
      have HK := Lib.hid hok
      clear hok
      by_cases hlt : k < n
      · rcases HX.out with hx | ⟨bb, off, rfl, hcx⟩
        · have := HN.out
          rw [hx] at this
          simp at this
          omega
        · have hc1 := hcx k (by have := HN.out; omega)
          clear hcx
          have hdr := drop_cons ps k (by have := HN.out; omega)
          obtain ⟨x, hx⟩ : ∃ x, x = ps.getD k 0 := ⟨_, rfl⟩
          rw [← hx] at hc1 hdr
          have hok := HK.out
          rw [hdr, nameFrom_cons] at hok
          have HK2 := Lib.hid hok
          clear hok HK hdr hx
          by_cases hr : 0 ≤ x ∧ x < n
          · obtain ⟨t, rfl⟩ := Int.eq_ofNat_of_zero_le hr.1
            have ht : t < 8 := by omega
            cases hb : s.testBit t
            · have HB := Lib.hid hb
              clear hb
              go_wp2_with fail
              refine (isThing_yes _ _ _ hr.1 hr.2).mono ?_
              rintro e w' ⟨rfl, rfl⟩
              go_wp2_with fail
              refine (has_any s t _ hs ht).mono ?_
              rintro e w' ⟨rfl, rfl⟩
              rw [HB.out]
              go_wp2_with fail
              refine (with_any s t _ hs ht).mono ?_
              rintro e w' ⟨rfl, rfl⟩
              go_wp2
              go_round
              case rel =>
                refine ⟨k + 1, s ||| 2 ^ t, by omega, by go_num, rfl, or_lt s hs t ht, ?_⟩
                rw [HK2.out, Int.toNat_natCast, HB.out, decide_eq_true hr]
                rfl
              case measure => simp [intOf]; omega
            · have HB := Lib.hid hb
              clear hb
              go_wp2_with fail
              refine (isThing_yes _ _ _ hr.1 hr.2).mono ?_
              rintro e w' ⟨rfl, rfl⟩
              go_wp2_with fail
              refine (has_any s t _ hs ht).mono ?_
              rintro e w' ⟨rfl, rfl⟩
              rw [HB.out]
              go_wp2
              go_ret
              exact ⟨ret_bool (by rw [HOK.out, HK2.out, Int.toNat_natCast, HB.out]; simp), rfl⟩
          · go_wp2_with fail
            refine (isThing_no _ _ _ (by omega)).mono ?_
            rintro e w' ⟨rfl, rfl⟩
            go_wp2
            go_ret
            exact ⟨ret_bool (by rw [HOK.out, HK2.out, decide_eq_false hr]; simp), rfl⟩
      · have hkn : k = n := by omega
        subst hkn
        go_wp2
        go_ret
        refine ⟨ret_bool ?_, rfl⟩
        rw [HOK.out, HK.out, List.drop_of_length_le (by have := HN.out; omega)]
        rfl
  · have hok : namesOk n ps = false := by simp [namesOk, hlen]
    rw [hok]
    clear hok
    go_enter Tryd.func66, Tryd.ntmps66
    go_wp2
    go_ret
    exact ⟨rfl, rfl⟩

theorem or64_fact : ∀ b, b < 256 → ∀ t, t < 8 → bits BinOp.or IntKind.i64 ((b : Nat) : Int) (wrap64 (2 ^ (t : Nat))) = ((b ||| 2 ^ t : Nat) : Int) := by decide +kernel
theorem pow64_fact : ∀ t, t < 9 → wrap64 (wrap64 (2 ^ (t : Nat)) - 1) = ((2 ^ t - 1 : Nat) : Int) := by decide +kernel
theorem maskFrom_snoc : ∀ (xs : List Int) (s : Nat) (x : Int), maskFrom s (xs ++ [x]) = maskFrom s xs ||| 2 ^ x.toNat := by
  intro xs
  induction xs with
  | nil => intro s x; rfl
  | cons y ys ih => intro s x; exact ih _ x

theorem inRange_snoc {n : Nat} {xs : List Int} {x : Int} (h : inRange n xs) (hx : 0 ≤ x ∧ x < n) : inRange n (xs ++ [x]) := by
  intro j hj
  simp at hj
  by_cases hl : j < xs.length
  · rw [getD_snoc_lt _ _ _ hl]; exact h j hl
  · obtain rfl : j = xs.length := by omega
    rw [getD_snoc_eq]; exact hx

set_option maxHeartbeats 1600000 in
theorem l1Names_any (n : Nat) (ao : Option Addr) (ca : Nat) (ps : List Int) (w : World) (hn8 : n ≤ 8) (hx : Rd w ao ps) (hl : ps.length ≤ 9223372036854775807) :
    Calls Tryd.prog 42 #[.slice ao ps.length ca, .int .i64 n] w fun e w' => e = .returned (.bool (namesOk n ps)) ∧ w = w' := by
  obtain ⟨m, hm⟩ : ∃ m, m = ps.length := ⟨_, rfl⟩
  rw [← hm] at hl ⊢
  have HM := Lib.hid hm
  clear hm
  have HX := Lib.hid hx
  clear hx
  go_enter Tryd.func42, Tryd.ntmps42
  go_wp2
  go_loop [5, 6] (fun u i => ∃ k s : Nat, k ≤ m ∧ i = .int .i64 k ∧ u = .int .i64 s ∧ s < 256 ∧ s = maskFrom 0 (ps.take k) ∧ inRange n (ps.take k)) (fun _ i => m - (intOf i).toNat)
  case atStart => exact ⟨0, 0, Nat.zero_le _, rfl, rfl, by omega, rfl, fun j hj => by simp at hj⟩
  case round =>
    obtain ⟨k, s, hk, rfl, rfl, hs, hmask, hr⟩ := hrel
    have HK := Lib.hid hmask
    have HR := Lib.hid hr
    clear hmask hr
    by_cases hlt : k < m
    · rcases HX.out with hx | ⟨bb, off, rfl, hcx⟩
      · have := HM.out
        rw [hx] at this
        simp at this
        omega
      · have hc1 := hcx k (by have := HM.out; omega)
        clear hcx
        have hts := take_snoc ps k (by have := HM.out; omega)
        obtain ⟨x, hx⟩ : ∃ x, x = ps.getD k 0 := ⟨_, rfl⟩
        rw [← hx] at hc1 hts
        have HTS := Lib.hid hts
        have HXK := Lib.hid hx
        clear hts hx
        by_cases hr : 0 ≤ x ∧ x < n
        · obtain ⟨t, rfl⟩ := Int.eq_ofNat_of_zero_le hr.1
          have ht : t < 8 := by omega
          have HF := Lib.hid (or64_fact s hs t ht)
          go_wp2_with fail
          refine (l6In_yes _ _ _ _ (by omega) (by omega)).mono ?_
          rintro e w' ⟨rfl, rfl⟩
          go_wp2
          go_round
          case rel => exact ⟨k + 1, s ||| 2 ^ t, by omega, by go_num, by rw [HF.out], or_lt s hs t ht, by rw [HTS.out, maskFrom_snoc, ← HK.out, Int.toNat_natCast], by rw [HTS.out]; exact inRange_snoc HR.out hr⟩
          case measure => simp [intOf]; omega
        · go_wp2_with fail
          refine (l6In_no _ _ _ _ (by omega)).mono ?_
          rintro e w' ⟨rfl, rfl⟩
          go_wp2
          go_ret
          refine ⟨ret_bool ?_, rfl⟩
          cases hb : namesOk n ps
          · rfl
          · simp only [namesOk, Bool.and_eq_true, decide_eq_true_eq] at hb
            have := nameFrom_range n ps 0 hb.2 k (by have := HM.out; omega)
            rw [← HXK.out] at this
            exact absurd this hr
    · have hkm : k = m := by omega
      subst hkm
      have hmask := HK.out
      have hr := HR.out
      rw [HM.out, List.take_length] at hmask hr
      by_cases hmn : k = n
      · subst hmn
        have HP := Lib.hid (pow64_fact k (by omega))
        have hfull := names_full k hn8 ps HM.out.symm hr
        rw [← hmask] at hfull
        have HFULL := Lib.hid hfull
        clear hfull hmask hr
        go_wp2
        go_ret
        refine ⟨ret_bool ?_, rfl⟩
        rw [HP.out]
        have hf := HFULL.out
        simp only [namesOk, ← HM.out, decide_true, Bool.true_and]
        cases hb : nameFrom k 0 ps
        · rw [hb] at hf
          simp at hf
          simp
          omega
        · rw [hb] at hf
          simp at hf
          simp
          omega
      · go_wp2
        go_ret
        exact ⟨ret_bool (by simp [namesOk, ← HM.out, hmn]), rfl⟩

theorem isNaming_is (b : Bool) (n : Nat) (v : Value) (ps : List Int) (w : World) (hv : RdV w v ps) (hn8 : n ≤ 8) (hb : Hid (namesOk n ps = b)) :
    Calls Tryd.prog 66 #[.int .i64 n, v] w fun e w' => e = .returned (.bool b) ∧ w = w' := by
  obtain ⟨ao, ca, rfl, h, h1, h2⟩ := hv
  unfold maxLen at h2
  exact (isNaming_any n ao ca ps w hn8 h (by omega)).mono fun _ _ ⟨he, hw⟩ => ⟨by rw [he, hb.out], hw⟩

theorem l1Names_is (b : Bool) (n : Nat) (v : Value) (ps : List Int) (w : World) (hv : RdV w v ps) (hn8 : n ≤ 8) (hb : Hid (namesOk n ps = b)) :
    Calls Tryd.prog 42 #[v, .int .i64 n] w fun e w' => e = .returned (.bool b) ∧ w = w' := by
  obtain ⟨ao, ca, rfl, h, h1, h2⟩ := hv
  unfold maxLen at h2
  exact (l1Names_any n ao ca ps w hn8 h (by omega)).mono fun _ _ ⟨he, hw⟩ => ⟨by rw [he, hb.out], hw⟩

def partNamed (xs ps : List Int) : List Int × Bool := if partIn xs ∧ namesOk xs.length ps then (kOut (putTo xs ps xs.length), true) else ([], false)

theorem partNamed_len (xs ps : List Int) (h : xs.length ≤ 1048576) (_ : ps.length ≤ 1048576) : (partNamed xs ps).1.length ≤ 2305843009213693952 := by
  unfold partNamed
  split
  · rw [kOut_length, putTo_length]; omega
  · simp

theorem namesOk_facts {n : Nat} {ps : List Int} (h : namesOk n ps = true) : ps.length = n ∧ ∀ j, j < n → 0 ≤ ps.getD j 0 ∧ ps.getD j 0 < n := by
  simp only [namesOk, Bool.and_eq_true, decide_eq_true_eq] at h
  exact ⟨h.1, fun j hj => nameFrom_range n ps 0 h.2 j (by omega)⟩

end Go.Proofs.YtdeeeiimlcggpaaDoor
