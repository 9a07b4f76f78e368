/-
  The contracts of impl.isNaming, spec.l1Names and PartNamed (impl and spec).
-/
import Derived.Test.YtabgadmdjpohaaaBits
import Derived.Test.YtabgadmdjpohaaaPut
import Derived.Deep.RegionHeld3
namespace Go.Proofs.Ytabgadmdjpohaaa
set_option linter.unusedSimpArgs false
set_option linter.unusedVariables false
set_option linter.unnecessarySimpa false
open Go.RowKit

theorem own_drew {w : World} {B : Nat} {v : Value} {xs : List Int} (h : Own w B v xs) : Own w.drew B v xs := h

theorem nameFrom_cons (n s : Nat) (x : Int) (xs : List Int) : nameFrom n s (x :: xs) = (decide (0 ≤ x ∧ x < n) && !s.testBit x.toNat && nameFrom n (s ||| 2 ^ x.toNat) xs) := rfl

set_option maxHeartbeats 1600000 in
theorem isNaming_any (n : Nat) (ao : Option Addr) (ca : Nat) (ps : List Int) (w : World) (hn8 : n ≤ 8) (hx : Rd w ao ps) (hl : ps.length ≤ 9223372036854775807) :
    Calls Try.prog 72 #[.int .i64 n, .slice ao ps.length ca] w fun e w' => e = .returned (.bool (namesOk n ps)) ∧ w = w' := by
  by_cases hlen : ps.length = n
  · have HN := Lib.hid hlen
    have HOK : Hid (namesOk n ps = nameFrom n 0 ps) := by
      show namesOk n ps = _
      simp [namesOk, hlen]
    rw [hlen]
    clear hlen hl
    have HX := Lib.hid hx
    clear hx
    go_enter Try.func72, Try.ntmps72
    go_wp2
    go_loop [5, 14] (fun u i => ∃ k s : Nat, k ≤ n ∧ i = .int .i64 k ∧ u = .int .u64 s ∧ s < 256 ∧ nameFrom n 0 ps = nameFrom n s (ps.drop k)) (fun _ i => n - (intOf i).toNat)
    case atStart => exact ⟨0, 0, Nat.zero_le _, rfl, rfl, by omega, rfl⟩
    case round =>
      obtain ⟨k, s, hk, rfl, rfl, hs, hok⟩ := hrel
      have HK := Lib.hid hok
      clear hok
      by_cases hlt : k < n
      · rcases HX.out with hx | ⟨bb, off, rfl, hcx⟩
        · have := HN.out
          rw [hx] at this
          simp at this
          omega
        · have hc1 := hcx k (by have := HN.out; omega)
          clear hcx
          have hdr := drop_cons ps k (by have := HN.out; omega)
          obtain ⟨x, hx⟩ : ∃ x, x = ps.getD k 0 := ⟨_, rfl⟩
          rw [← hx] at hc1 hdr
          have hok := HK.out
          rw [hdr, nameFrom_cons] at hok
          have HK2 := Lib.hid hok
          clear hok HK hdr hx
          by_cases hr : 0 ≤ x ∧ x < n
          · obtain ⟨t, rfl⟩ := Int.eq_ofNat_of_zero_le hr.1
            have ht : t < 8 := by omega
            cases hb : s.testBit t
            · have HB := Lib.hid hb
              clear hb
              go_wp2_with fail
              refine (isThing_yes _ _ _ hr.1 hr.2).mono ?_
              rintro e w' ⟨rfl, rfl⟩
              go_wp2_with fail
              refine (has_any s t _ hs ht).mono ?_
              rintro e w' ⟨rfl, rfl⟩
              rw [HB.out]
              go_wp2_with fail
              refine (with_any s t _ hs ht).mono ?_
              rintro e w' ⟨rfl, rfl⟩
              go_wp2
              go_round
              case rel =>
                refine ⟨k + 1, s ||| 2 ^ t, by omega, by go_num, rfl, or_lt s hs t ht, ?_⟩
                rw [HK2.out, Int.toNat_natCast, HB.out, decide_eq_true hr]
                rfl
              case measure => simp [intOf]; omega
            · have HB := Lib.hid hb
              clear hb
              go_wp2_with fail
              refine (isThing_yes _ _ _ hr.1 hr.2).mono ?_
              rintro e w' ⟨rfl, rfl⟩
              go_wp2_with fail
              refine (has_any s t _ hs ht).mono ?_
              rintro e w' ⟨rfl, rfl⟩
              rw [HB.out]
              go_wp2
              go_ret
              exact ⟨ret_bool (by rw [HOK.out, HK2.out, Int.toNat_natCast, HB.out]; simp), rfl⟩
          · go_wp2_with fail
            refine (isThing_no _ _ _ (by omega)).mono ?_
            rintro e w' ⟨rfl, rfl⟩
            go_wp2
            go_ret
            exact ⟨ret_bool (by rw [HOK.out, HK2.out, decide_eq_false hr]; simp), rfl⟩
      · have hkn : k = n := by omega
        subst hkn
        go_wp2
        go_ret
        refine ⟨ret_bool ?_, rfl⟩
        rw [HOK.out, HK.out, List.drop_of_length_le (by have := HN.out; omega)]
        rfl
  · have hok : namesOk n ps = false := by simp [namesOk, hlen]
    rw [hok]
    clear hok
    go_enter Try.func72, Try.ntmps72
    go_wp2
    go_ret
    exact ⟨rfl, rfl⟩

theorem or64_fact : ∀ b, b < 256 → ∀ t, t < 8 → bits BinOp.or IntKind.i64 ((b : Nat) : Int) (wrap64 (2 ^ (t : Nat))) = ((b ||| 2 ^ t : Nat) : Int) := by decide +kernel
theorem pow64_fact : ∀ t, t < 9 → wrap64 (wrap64 (2 ^ (t : Nat)) - 1) = ((2 ^ t - 1 : Nat) : Int) := by decide +kernel
theorem maskFrom_snoc : ∀ (xs : List Int) (s : Nat) (x : Int), maskFrom s (xs ++ [x]) = maskFrom s xs ||| 2 ^ x.toNat := by
  intro xs
  induction xs with
  | nil => intro s x; rfl
  | cons y ys ih => intro s x; exact ih _ x

theorem inRange_snoc {n : Nat} {xs : List Int} {x : Int} (h : inRange n xs) (hx : 0 ≤ x ∧ x < n) : inRange n (xs ++ [x]) := by
  intro j hj
  simp at hj
  by_cases hl : j < xs.length
  · rw [getD_snoc_lt _ _ _ hl]; exact h j hl
  · obtain rfl : j = xs.length := by omega
    rw [getD_snoc_eq]; exact hx

set_option maxHeartbeats 1600000 in
theorem l1Names_any (n : Nat) (ao : Option Addr) (ca : Nat) (ps : List Int) (w : World) (hn8 : n ≤ 8) (hx : Rd w ao ps) (hl : ps.length ≤ 9223372036854775807) :
    Calls Try.prog 74 #[.slice ao ps.length ca, .int .i64 n] w fun e w' => e = .returned (.bool (namesOk n ps)) ∧ w = w' := by
  obtain ⟨m, hm⟩ : ∃ m, m = ps.length := ⟨_, rfl⟩
  rw [← hm] at hl ⊢
  have HM := Lib.hid hm
  clear hm
  have HX := Lib.hid hx
  clear hx
  go_enter Try.func74, Try.ntmps74
  go_wp2
  go_loop [5, 6] (fun u i => ∃ k s : Nat, k ≤ m ∧ i = .int .i64 k ∧ u = .int .i64 s ∧ s < 256 ∧ s = maskFrom 0 (ps.take k) ∧ inRange n (ps.take k)) (fun _ i => m - (intOf i).toNat)
  case atStart => exact ⟨0, 0, Nat.zero_le _, rfl, rfl, by omega, rfl, fun j hj => by simp at hj⟩
  case round =>
    obtain ⟨k, s, hk, rfl, rfl, hs, hmask, hr⟩ := hrel
    have HK := Lib.hid hmask
    have HR := Lib.hid hr
    clear hmask hr
    by_cases hlt : k < m
    · rcases HX.out with hx | ⟨bb, off, rfl, hcx⟩
      · have := HM.out
        rw [hx] at this
        simp at this
        omega
      · have hc1 := hcx k (by have := HM.out; omega)
        clear hcx
        have hts := take_snoc ps k (by have := HM.out; omega)
        obtain ⟨x, hx⟩ : ∃ x, x = ps.getD k 0 := ⟨_, rfl⟩
        rw [← hx] at hc1 hts
        have HTS := Lib.hid hts
        have HXK := Lib.hid hx
        clear hts hx
        by_cases hr : 0 ≤ x ∧ x < n
        · obtain ⟨t, rfl⟩ := Int.eq_ofNat_of_zero_le hr.1
          have ht : t < 8 := by omega
          have HF := Lib.hid (or64_fact s hs t ht)
          go_wp2_with fail
          refine (l6In_yes _ _ _ _ (by omega) (by omega)).mono ?_
          rintro e w' ⟨rfl, rfl⟩
          go_wp2
          go_round
          case rel => exact ⟨k + 1, s ||| 2 ^ t, by omega, by go_num, by rw [HF.out], or_lt s hs t ht, by rw [HTS.out, maskFrom_snoc, ← HK.out, Int.toNat_natCast], by rw [HTS.out]; exact inRange_snoc HR.out hr⟩
          case measure => simp [intOf]; omega
        · go_wp2_with fail
          refine (l6In_no _ _ _ _ (by omega)).mono ?_
          rintro e w' ⟨rfl, rfl⟩
          go_wp2
          go_ret
          refine ⟨ret_bool ?_, rfl⟩
          cases hb : namesOk n ps
          · rfl
          · simp only [namesOk, Bool.and_eq_true, decide_eq_true_eq] at hb
            have := nameFrom_range n ps 0 hb.2 k (by have := HM.out; omega)
            rw [← HXK.out] at this
            exact absurd this hr
    · have hkm : k = m := by omega
      subst hkm
      have hmask := HK.out
      have hr := HR.out
      rw [HM.out, List.take_length] at hmask hr
      by_cases hmn : k = n
      · subst hmn
        have HP := Lib.hid (pow64_fact k (by omega))
        have hfull := names_full k hn8 ps HM.out.symm hr
        rw [← hmask] at hfull
        have HFULL := Lib.hid hfull
        clear hfull hmask hr
        go_wp2
        go_ret
        refine ⟨ret_bool ?_, rfl⟩
        rw [HP.out]
        have hf := HFULL.out
        simp only [namesOk, ← HM.out, decide_true, Bool.true_and]
        cases hb : nameFrom k 0 ps
        · rw [hb] at hf
          simp at hf
          simp
          omega
        · rw [hb] at hf
          simp at hf
          simp
          omega
      · go_wp2
        go_ret
        exact ⟨ret_bool (by simp [namesOk, ← HM.out, hmn]), rfl⟩

theorem isNaming_is (b : Bool) (n : Nat) (v : Value) (ps : List Int) (w : World) (hv : RdV w v ps) (hn8 : n ≤ 8) (hb : Hid (namesOk n ps = b)) :
    Calls Try.prog 72 #[.int .i64 n, v] w fun e w' => e = .returned (.bool b) ∧ w = w' := by
  obtain ⟨ao, ca, rfl, h, h1, h2⟩ := hv
  unfold maxLen at h2
  exact (isNaming_any n ao ca ps w hn8 h (by omega)).mono fun _ _ ⟨he, hw⟩ => ⟨by rw [he, hb.out], hw⟩

theorem l1Names_is (b : Bool) (n : Nat) (v : Value) (ps : List Int) (w : World) (hv : RdV w v ps) (hn8 : n ≤ 8) (hb : Hid (namesOk n ps = b)) :
    Calls Try.prog 74 #[v, .int .i64 n] w fun e w' => e = .returned (.bool b) ∧ w = w' := by
  obtain ⟨ao, ca, rfl, h, h1, h2⟩ := hv
  unfold maxLen at h2
  exact (l1Names_any n ao ca ps w hn8 h (by omega)).mono fun _ _ ⟨he, hw⟩ => ⟨by rw [he, hb.out], hw⟩

def partNamed (xs ps : List Int) : List Int × Bool := if partIn xs ∧ namesOk xs.length ps then (kOut (putTo xs ps xs.length), true) else ([], false)

theorem partNamed_len (xs ps : List Int) (h : xs.length ≤ 1048576) (_ : ps.length ≤ 1048576) : (partNamed xs ps).1.length ≤ 2305843009213693952 := by
  unfold partNamed
  split
  · rw [kOut_length, putTo_length]; omega
  · simp

theorem namesOk_facts {n : Nat} {ps : List Int} (h : namesOk n ps = true) : ps.length = n ∧ ∀ j, j < n → 0 ≤ ps.getD j 0 ∧ ps.getD j 0 < n := by
  simp only [namesOk, Bool.and_eq_true, decide_eq_true_eq] at h
  exact ⟨h.1, fun j hj => nameFrom_range n ps 0 h.2 j (by omega)⟩

theorem iPartNamed_v (v u : Value) (xs ps : List Int) (w : World) (hv : RdV w v xs) (hu : RdV w u ps) : Calls Try.prog 29 #[v, u] w (FreshLB w (partNamed xs ps)) := by
  have HU := Lib.hid hu
  have hv0 := hv
  obtain ⟨ao, ca, rfl, h, h1, h2⟩ := hv
  unfold maxLen at h2
  have HV := Lib.hid hv0
  clear hv0 hu h
  by_cases hp : partIn xs = true
  · have hl := partIn_len hp
    have HP := Lib.hid hp
    by_cases hn : namesOk xs.length ps = true
    · have hr : partNamed xs ps = (kOut (putTo xs ps xs.length), true) := by simp [partNamed, hp, hn]
      rw [hr]
      obtain ⟨hf1, hf2⟩ := namesOk_facts hn
      have HF1 := Lib.hid hf1
      have HF2 := Lib.hid hf2
      have HN := Lib.hid hn
      clear hp hr hn hf1 hf2
      go_enter Try.func29, Try.ntmps29
      go_wp2_with fail
      refine (iPartIn_is true _ _ _ HV.out HP).mono ?_
      rintro e w' ⟨rfl, rfl⟩
      go_wp2_with fail
      refine (isNaming_is true _ _ ps _ HU.out hl.2 HN).mono ?_
      rintro e w' ⟨rfl, rfl⟩
      go_wp2_with fail
      refine (renamed_v _ _ xs ps _ HV.out HU.out HF1.out (by omega) HF2.out).mono ?_
      rintro e w2 ⟨u, rfl, ho, hb2⟩
      go_wp2
      go_ret2
      exact ⟨_, rfl, ho, hb2⟩
    · have hn : namesOk xs.length ps = false := by simpa using hn
      have hr : partNamed xs ps = ([], false) := by simp [partNamed, hn]
      rw [hr]
      have HN := Lib.hid hn
      clear hp hr hn
      go_enter Try.func29, Try.ntmps29
      go_wp2_with fail
      refine (iPartIn_is true _ _ _ HV.out HP).mono ?_
      rintro e w' ⟨rfl, rfl⟩
      go_wp2_with fail
      refine (isNaming_is false _ _ ps _ HU.out hl.2 HN).mono ?_
      rintro e w' ⟨rfl, rfl⟩
      go_wp2
      go_ret2
      exact ⟨_, rfl, own_nil _ _, Below.refl _ _⟩
  · have hp : partIn xs = false := by simpa using hp
    have hr : partNamed xs ps = ([], false) := by simp [partNamed, hp]
    rw [hr]
    have HP := Lib.hid hp
    clear hp hr
    go_enter Try.func29, Try.ntmps29
    go_wp2_with fail
    refine (iPartIn_is false _ _ _ HV.out HP).mono ?_
    rintro e w' ⟨rfl, rfl⟩
    go_wp2
    go_ret2
    exact ⟨_, rfl, own_nil _ _, Below.refl _ _⟩

set_option maxRecDepth 100000 in
set_option maxHeartbeats 1600000 in
theorem sPartNamed_v (v u : Value) (xs ps : List Int) (w : World) (hv : RdV w v xs) (hu : RdV w u ps) : Calls Try.prog 30 #[v, u] w (FreshLB w (partNamed xs ps)) := by
  have HU := Lib.hid hu
  have hv0 := hv
  obtain ⟨ao, ca, rfl, h, h1, h2⟩ := hv
  unfold maxLen at h2
  have HV := Lib.hid hv0
  have HX := Lib.hid h
  clear hv0 h
  by_cases hp : partIn xs = true
  · have hl := partIn_len hp
    have HP := Lib.hid hp
    by_cases hn : namesOk xs.length ps = true
    · have hr : partNamed xs ps = (kOut (putTo xs ps xs.length), true) := by simp [partNamed, hp, hn]
      rw [hr]
      obtain ⟨hf1, hf2⟩ := namesOk_facts hn
      have HF1 := Lib.hid hf1
      have HF2 := Lib.hid hf2
      have HN := Lib.hid hn
      clear hp hr hn hf1 hf2
      obtain ⟨bo, cb, rfl, hpr, _, _⟩ := hu
      have HPR := Lib.hid hpr
      clear hpr
      obtain ⟨n, hnn⟩ : ∃ n, n = xs.length := ⟨_, rfl⟩
      rw [HF1.out] at HU ⊢
      rw [← hnn] at hl h1 HV HU HN ⊢
      have HNN := Lib.hid hnn
      clear hnn
      obtain ⟨hl1, hl8⟩ := hl
      obtain ⟨i0, hi, hz0, hz1, hz2⟩ := info_parts Try.infoInt
      go_enter Try.func30, Try.ntmps30
      go_wp2_with fail
      refine (sPartIn_is true _ _ _ HV.out HP).mono ?_
      rintro e w' ⟨rfl, rfl⟩
      go_wp2_with fail
      refine (l1Names_is true _ _ ps _ HU.out hl8 HN).mono ?_
      rintro e w' ⟨rfl, rfl⟩
      go_wp2_with (at_make; refine wpList_make_full _ rfl _ _ 26 rfl w.heap.size 3 i0 (.int .i64 0) 1 Try.underlying26 hi hz0 hz1 _ _ _ _ n rfl rfl rfl rfl (by rw [hz2]; omega) (by unfold maxLen; omega) (Nat.le_refl _) ?_)
      intro w1 hown1 hgrow1
      have hb1 : Below w.heap.size w w1 := (Below.refl _ _).grown hgrow1 (Nat.le_refl _) (fun k h => by cases h)
      have hown := own_made hown1
      clear hown1 hgrow1
      go_wp2
      go_loopw [7] (fun i wr => ∃ k : Nat, k ≤ n ∧ i = .int .i64 k ∧ Own wr w.heap.size (.slice (some ⟨w.heap.size, 0, none⟩) n n) (putTo xs ps k) ∧ Below w.heap.size w wr)
        (fun i _ => n - (intOf i).toNat)
      case atStart => exact ⟨0, Nat.zero_le _, rfl, by rw [putTo, ← HNN.out]; exact hown, hb1⟩
      case round =>
        obtain ⟨k, hk, rfl, hown, hbel⟩ := hrel
        by_cases hlt : k < n
        · rcases HX.out with hx | ⟨bb, off, rfl, hcx⟩
          · have := HNN.out
            rw [hx] at this
            simp at this
            omega
          · rcases HPR.out with hp | ⟨bc, off2, rfl, hcp⟩
            · have := HF1.out
              rw [hp, ← HNN.out] at this
              simp at this
              omega
            · have hck : wr.cell? ⟨bb, off + k, none⟩ = some (.int .i64 (xs.getD k 0)) := by
                have := hcx k (by have := HNN.out; omega)
                rw [hbel.cell (World.block_lt_of_cell? w _ this)]
                exact this
              have hcq : wr.cell? ⟨bc, off2 + k, none⟩ = some (.int .i64 (ps.getD k 0)) := by
                have := hcp k (by have := HNN.out; have := HF1.out; omega)
                rw [hbel.cell (World.block_lt_of_cell? w _ this)]
                exact this
              clear hcx hcp
              have hb := HF2.out k (by have := HNN.out; omega)
              rw [← HNN.out] at hb
              obtain ⟨q, hq⟩ := Int.eq_ofNat_of_zero_le hb.1
              rw [hq] at hcq hb
              have hqn : q < n := by omega
              obtain ⟨x, hx⟩ : ∃ x, x = xs.getD k 0 := ⟨_, rfl⟩
              rw [← hx] at hck
              have hfz := own_frozen hown q
              obtain ⟨v0, hv0⟩ : ∃ v0, wr.cell? ⟨w.heap.size, q, none⟩ = some v0 := ⟨_, own_cell hown q (by rw [putTo_length, ← HNN.out]; omega)⟩
              obtain ⟨hst, hgs⟩ := own_stored hown (by rw [putTo_length, ← HNN.out]) q x
              have hst' : Own (wr.setCell ⟨w.heap.size, q, none⟩ (.int .i64 x)) w.heap.size (.slice (some ⟨w.heap.size, 0, none⟩) n n) (putTo xs ps (k + 1)) := by
                rw [putTo, hq, ← hx]
                exact hst
              have HST := Lib.hid hst'
              clear hst hgs hst' hx hq hown hb
              have c1 : (k : Int) < n := by omega
              have c2 : (q : Int) < n := by omega
              have c3 : (0 : Int) ≤ (k : Int) := by omega
              have c4 : (0 : Int) ≤ (q : Int) := by omega
              go_wp2
              go_region
              go_wp2
              go_roundw
              case rel => exact ⟨k + 1, by omega, by go_num, own_drew HST.out, (hbel.setCell (Nat.le_refl _) _).drew⟩
              case measure => simp [intOf]; omega
        · have hkn : k = n := by omega
          subst hkn
          have hrd := own_rdv hown
          have HRD := Lib.hid hrd
          go_wp2_with fail
          refine (l1Kernel_v _ _ _ HRD.out (by rw [putTo_length, ← HNN.out]; omega)).mono ?_
          rintro e w2 ⟨u, rfl, ho, hb2⟩
          go_wp2
          go_ret2
          exact ⟨_, rfl, own_mono ho hbel.size, below_step hbel hb2⟩
    · have hn : namesOk xs.length ps = false := by simpa using hn
      have hr : partNamed xs ps = ([], false) := by simp [partNamed, hn]
      rw [hr]
      have HN := Lib.hid hn
      clear hp hr hn
      go_enter Try.func30, Try.ntmps30
      go_wp2_with fail
      refine (sPartIn_is true _ _ _ HV.out HP).mono ?_
      rintro e w' ⟨rfl, rfl⟩
      go_wp2_with fail
      refine (l1Names_is false _ _ ps _ HU.out hl.2 HN).mono ?_
      rintro e w' ⟨rfl, rfl⟩
      go_wp2
      go_ret2
      exact ⟨_, rfl, own_empty _ _ (Nat.le_refl _), (Below.refl _ _).alloc (Nat.le_refl _) _⟩
  · have hp : partIn xs = false := by simpa using hp
    have hr : partNamed xs ps = ([], false) := by simp [partNamed, hp]
    rw [hr]
    have HP := Lib.hid hp
    clear hp hr
    go_enter Try.func30, Try.ntmps30
    go_wp2_with fail
    refine (sPartIn_is false _ _ _ HV.out HP).mono ?_
    rintro e w' ⟨rfl, rfl⟩
    go_wp2
    go_ret2
    exact ⟨_, rfl, own_empty _ _ (Nat.le_refl _), (Below.refl _ _).alloc (Nat.le_refl _) _⟩

end Go.Proofs.Ytabgadmdjpohaaa
