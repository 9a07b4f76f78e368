/-
  The contracts of toPermutation, steps.things, steps.next, RingIn and RingBack (impl and spec).
-/
import Derived.Test.YtdeeeiimlcggpaaDoorErrAs
import Derived.Test.YtdeeeiimlcggpaaDoorNamed
namespace Go.Proofs.YtdeeeiimlcggpaaDoor
set_option linter.unusedSimpArgs false
set_option linter.unusedVariables false
set_option linter.unnecessarySimpa false
set_option maxRecDepth 100000
open Go.RowKit

/-- A list is a permutation of n things. -/
def permOk (n : Nat) (xs : List Int) : Bool := decide (1 ≤ n ∧ n ≤ 8) && namesOk n xs
def ringIn (xs : List Int) : Bool := permOk xs.length xs

theorem permOk_facts {n : Nat} {xs : List Int} (h : permOk n xs = true) : 1 ≤ n ∧ n ≤ 8 ∧ namesOk n xs = true ∧ xs.length = n ∧ ∀ j, j < n → 0 ≤ xs.getD j 0 ∧ xs.getD j 0 < n := by
  simp only [permOk, Bool.and_eq_true, decide_eq_true_eq] at h
  obtain ⟨h1, h2⟩ := namesOk_facts h.2
  exact ⟨h.1.1, h.1.2, h.2, h1, h2⟩

/-- What toPermutation hands back. -/
def PermV (n : Nat) (xs : List Int) (v : Value) : Value :=
  if permOk n xs then .tuple #[.agg #[v], .nilIface] else .tuple #[.agg #[.slice none 0 0], .iface 72 (.agg #[.int .i64 n])]

theorem toPerm_yes (n : Nat) (ao : Option Addr) (len ca : Nat) (xs : List Int) (w : World) (hv : RdV w (.slice ao len ca) xs) (h : Hid (permOk n xs = true)) :
    Calls Tryd.prog 39 #[.int .i64 n, .slice ao len ca] w fun e w' => e = .returned (.tuple #[.agg #[.slice ao len ca], .nilIface]) ∧ Below w.heap.size w w' := by
  obtain ⟨h1, h2, h3, _, _⟩ := permOk_facts h.out
  have HN := Lib.hid h3
  have HV := Lib.hid hv
  clear h3 hv h
  go_enter Tryd.func39, Tryd.ntmps39
  go_wp2_with fail
  refine (countFits_yes _ _ (by omega) (by omega)).mono ?_
  rintro e w' ⟨rfl, rfl⟩
  go_wp2_with fail
  refine (isNaming_is true _ _ xs _ (rdv_below HV.out ((Below.refl _ _).alloc (Nat.le_refl _) _)) h2 HN).mono ?_
  rintro e w' ⟨rfl, rfl⟩
  go_wp2
  refine bodyPost_ret (v := .tuple #[.agg #[.slice ao len ca], .nilIface]) (by simp [results, Tryd.results39, go_sem]) rfl ⟨rfl, (Below.refl _ _).alloc (Nat.le_refl _) _⟩

theorem toPerm_no (n : Nat) (ao : Option Addr) (len ca : Nat) (xs : List Int) (w : World) (hn : n ≤ 9223372036854775807) (hv : RdV w (.slice ao len ca) xs) (h : Hid (permOk n xs = false)) :
    Calls Tryd.prog 39 #[.int .i64 n, .slice ao len ca] w fun e w' => e = .returned (.tuple #[.agg #[.slice none 0 0], .iface 72 (.agg #[.int .i64 n])]) ∧ Below w.heap.size w w' := by
  have HV := Lib.hid hv
  clear hv
  by_cases hr : 1 ≤ n ∧ n ≤ 8
  · have h3 : namesOk n xs = false := by
      have := h.out
      simpa [permOk, hr] using this
    have HN := Lib.hid h3
    obtain ⟨h1, h2⟩ := hr
    clear h3 h
    go_enter Tryd.func39, Tryd.ntmps39
    go_wp2_with fail
    refine (countFits_yes _ _ (by omega) (by omega)).mono ?_
    rintro e w' ⟨rfl, rfl⟩
    go_wp2_with fail
    refine (isNaming_is false _ _ xs _ (rdv_below HV.out ((Below.refl _ _).alloc (Nat.le_refl _) _)) h2 HN).mono ?_
    rintro e w' ⟨rfl, rfl⟩
    go_wp2
    refine bodyPost_ret (v := .tuple #[.agg #[.slice none 0 0], .iface 72 (.agg #[.int .i64 n])]) (by simp [results, Tryd.results39, go_sem]) rfl ⟨rfl, (Below.refl _ _).alloc (Nat.le_refl _) _⟩
  · clear h
    go_enter Tryd.func39, Tryd.ntmps39
    go_wp2_with fail
    refine (countFits_no _ _ (by omega)).mono ?_
    rintro e w' ⟨rfl, rfl⟩
    go_wp2
    refine bodyPost_ret (v := .tuple #[.agg #[.slice none 0 0], .iface 72 (.agg #[.int .i64 n])]) (by simp [results, Tryd.results39, go_sem]) rfl ⟨rfl, (Below.refl _ _).alloc (Nat.le_refl _) _⟩

theorem things_w (ao : Option Addr) (n ca : Nat) (w : World) (hn : n ≤ 9223372036854775807) :
    Calls Tryd.prog 47 #[.slice ao n ca] w fun e w' => e = .returned (.int .i64 n) ∧ w = w' := by
  go_enter Tryd.func47, Tryd.ntmps47
  go_wp2
  go_ret
  exact ⟨rfl, rfl⟩

theorem next_w (b off n ca k : Nat) (x : Int) (w : World) (hc : w.cell? ⟨b, off + k, none⟩ = some (.int .i64 x)) (hk : k < n) (hn : n ≤ 1000000) :
    Calls Tryd.prog 48 #[.slice (some ⟨b, off, none⟩) n ca, .int .i64 k] w fun e w' => e = .returned (.int .i64 x) ∧ w = w' := by
  go_enter Tryd.func48, Tryd.ntmps48
  go_wp2
  go_ret
  exact ⟨rfl, rfl⟩

theorem iRingIn_v (v : Value) (xs : List Int) (w : World) (hE : ErrAt w) (hv : RdV w v xs) : Calls Tryd.prog 12 #[v] w (GivesB w (ringIn xs)) := by
  have hv0 := hv
  obtain ⟨ao, ca, rfl, h, h1, h2⟩ := hv
  unfold maxLen at h2
  have HV := Lib.hid hv0
  clear hv0 h
  cases hr : ringIn xs
  · have HR := Lib.hid (show permOk xs.length xs = false from hr)
    clear hr
    go_enter Tryd.func12, Tryd.ntmps12
    go_wp2_with fail
    refine (toPerm_no _ _ _ _ xs _ (by omega) HV.out HR).mono ?_
    rintro e w1 ⟨rfl, hb⟩
    have hb2 := hb.alloc hb.size (.cells #[.slice none 0 0] 41)
    go_wp2_with fail
    refine (isNone_hit _ _ (errAt_below hE hb2)).mono ?_
    rintro e w2 ⟨rfl, hb3⟩
    have hb4 := below_step hb2 hb3
    go_wp2
    go_ret
    exact ⟨rfl, hb4⟩
  · have HR := Lib.hid (show permOk xs.length xs = true from hr)
    clear hr
    go_enter Tryd.func12, Tryd.ntmps12
    go_wp2_with fail
    refine (toPerm_yes _ _ _ _ xs _ HV.out HR).mono ?_
    rintro e w1 ⟨rfl, hb⟩
    have hb2 := hb.alloc hb.size (.cells #[.slice ao xs.length ca] 41)
    go_wp2_with fail
    refine (isNone_nil _).mono ?_
    rintro e w2 ⟨rfl, hb3⟩
    have hb4 := below_step hb2 hb3
    go_wp2
    go_ret
    exact ⟨rfl, hb4⟩

theorem sRingIn_w (v : Value) (xs : List Int) (w : World) (hv : RdV w v xs) : Calls Tryd.prog 13 #[v] w fun e w' => e = .returned (.bool (ringIn xs)) ∧ w = w' := by
  have hv0 := hv
  obtain ⟨ao, ca, rfl, h, h1, h2⟩ := hv
  unfold maxLen at h2
  have HV := Lib.hid hv0
  clear hv0 h
  by_cases hr : 1 ≤ xs.length ∧ xs.length ≤ 8
  · have he : ringIn xs = namesOk xs.length xs := by simp [ringIn, permOk, hr]
    obtain ⟨b, hb⟩ : ∃ b, b = namesOk xs.length xs := ⟨_, rfl⟩
    rw [he, ← hb]
    have HN := Lib.hid hb.symm
    clear he hb
    obtain ⟨h1, h2⟩ := hr
    go_enter Tryd.func13, Tryd.ntmps13
    go_wp2_with fail
    refine (l6In_yes _ _ _ _ (by omega) (by omega)).mono ?_
    rintro e w' ⟨rfl, rfl⟩
    go_wp2_with fail
    refine (l1Names_is b _ _ xs _ HV.out h2 HN).mono ?_
    rintro e w' ⟨rfl, rfl⟩
    go_wp2
    go_ret
    exact ⟨rfl, rfl⟩
  · have he : ringIn xs = false := by simp [ringIn, permOk, hr]
    rw [he]
    clear he
    go_enter Tryd.func13, Tryd.ntmps13
    go_wp2_with fail
    refine (l6In_no _ _ _ _ (by omega)).mono ?_
    rintro e w' ⟨rfl, rfl⟩
    go_wp2
    go_ret
    exact ⟨rfl, rfl⟩

theorem sRingIn_is (b : Bool) (v : Value) (xs : List Int) (w : World) (hv : RdV w v xs) (hb : Hid (ringIn xs = b)) : Calls Tryd.prog 13 #[v] w fun e w' => e = .returned (.bool b) ∧ w = w' :=
  (sRingIn_w v xs w hv).mono fun _ _ ⟨he, hw⟩ => ⟨by rw [he, hb.out], hw⟩

theorem sRingIn_v (v : Value) (xs : List Int) (w : World) (hv : RdV w v xs) : Calls Tryd.prog 13 #[v] w (GivesB w (ringIn xs)) :=
  (sRingIn_w v xs w hv).mono fun _ _ ⟨he, hw⟩ => ⟨he, hw ▸ Below.refl _ _⟩

/-- What leads back. -/
def backTo (xs : List Int) : Nat → List Int := putTo (iota 0 xs.length) xs
def ringBack (xs : List Int) : List Int × Bool := if ringIn xs then (backTo xs xs.length, true) else ([], false)

theorem backTo_length (xs : List Int) (k : Nat) : (backTo xs k).length = xs.length := by rw [backTo, putTo_length, iota_length]
theorem backTo_zero (xs : List Int) : backTo xs 0 = List.replicate xs.length 0 := by rw [backTo, putTo, iota_length]
theorem backTo_succ (xs : List Int) (k : Nat) (hk : k < xs.length) : backTo xs (k + 1) = (backTo xs k).set (xs.getD k 0).toNat k := by
  rw [backTo, putTo, iota_getD _ _ _ hk, Int.zero_add]

theorem ringBack_len (xs : List Int) (h : xs.length ≤ 1048576) : (ringBack xs).1.length ≤ 2305843009213693952 := by
  unfold ringBack
  split
  · rw [backTo_length]; omega
  · simp

set_option maxHeartbeats 1600000 in
theorem iRingBack_v (v : Value) (xs : List Int) (w : World) (hE : ErrAt w) (hv : RdV w v xs) : Calls Tryd.prog 19 #[v] w (FreshLB w (ringBack xs)) := by
  have hv0 := hv
  obtain ⟨ao, ca, rfl, h, h1, h2⟩ := hv
  unfold maxLen at h2
  have HV := Lib.hid hv0
  clear hv0
  by_cases hr : ringIn xs = true
  · have he : ringBack xs = (backTo xs xs.length, true) := by simp [ringBack, hr]
    rw [he]
    have HR := Lib.hid (show permOk xs.length xs = true from hr)
    obtain ⟨hl1, hl8, _, _, hrng⟩ := permOk_facts HR.out
    rcases h with hx | ⟨bb, off, rfl, hcx⟩
    · rw [hx] at hl1
      simp at hl1
    have HRNG := Lib.hid hrng
    obtain ⟨n, hn⟩ : ∃ n, n = xs.length := ⟨_, rfl⟩
    rw [← hn] at h1 hl1 hl8 HV HR ⊢
    have HN := Lib.hid hn
    have HC := Lib.hid hcx
    clear hr he hn hcx hrng
    obtain ⟨i0, hi, hz0, hz1, hz2⟩ := info_parts Tryd.infoInt
    go_enter Tryd.func19, Tryd.ntmps19
    go_wp2_with fail
    refine (toPerm_yes _ _ _ _ xs _ HV.out HR).mono ?_
    rintro e w1 ⟨rfl, hb⟩
    have hb2 := hb.alloc hb.size (.cells #[.slice (some ⟨bb, off, none⟩) n ca] 41)
    have hg1 : (w1.alloc (.cells #[.slice (some ⟨bb, off, none⟩) n ca] 41)).cell? ⟨w1.heap.size, 0, none⟩ = some (.slice (some ⟨bb, off, none⟩) n ca) := by simp
    have hs1 : w.heap.size ≤ w1.heap.size := hb.size
    go_wp2_with fail
    refine (isNone_nil _).mono ?_
    rintro e w2 ⟨rfl, hb3⟩
    have hb4 := below_step hb2 hb3
    have hg2 : w2.cell? ⟨w1.heap.size, 0, none⟩ = some (.slice (some ⟨bb, off, none⟩) n ca) := by
      rw [hb3.cell (World.block_lt_of_cell? _ _ hg1)]; exact hg1
    have hs2 : w1.heap.size < w2.heap.size := by
      have := World.block_lt_of_cell? _ _ hg2
      simpa using this
    clear hb hb2 hb3 hg1
    obtain ⟨q1, hq1⟩ : ∃ q1, q1 = w1.heap.size := ⟨_, rfl⟩
    rw [← hq1] at hg2 hs1 hs2 ⊢
    clear hq1
    have HG2 := Lib.hid hg2
    go_wp2_with (first | (go_at_call 47; refine (things_w _ _ _ _ (by omega)).mono ?_; rintro e w' ⟨rfl, rfl⟩) | (at_make; refine wpList_make_full _ rfl _ _ 23 rfl w2.heap.size 3 i0 (.int .i64 0) 1 Tryd.underlying23 hi hz0 hz1 _ _ _ _ n rfl rfl rfl rfl (by rw [hz2]; omega) (by unfold maxLen; omega) (Nat.le_refl _) ?_))
    intro w3 hown3 hgrow3
    have hb5 : Below w2.heap.size w2 w3 := (Below.refl _ _).grown hgrow3 (Nat.le_refl _) (fun k h => by cases h)
    have hown := own_made hown3
    clear hown3 hgrow3
    have hbw := below_step hb4 hb5
    obtain ⟨m, hm⟩ : ∃ m, m = w2.heap.size := ⟨_, rfl⟩
    rw [← hm] at hown hs2 hb5 ⊢
    have HM := Lib.hid hm
    clear hm
    go_wp2
    go_loopw [23] (fun i wr => ∃ k : Nat, k ≤ n ∧ i = .int .i64 k ∧ Own wr m (.slice (some ⟨m, 0, none⟩) n n) (backTo xs k) ∧ Below m w2 wr)
      (fun i _ => n - (intOf i).toNat)
    case atStart => exact ⟨0, Nat.zero_le _, rfl, by rw [backTo_zero, ← HN.out]; exact hown, hb5⟩
    case round =>
      obtain ⟨k, hk, rfl, hown, hbel⟩ := hrel
      have hbelw : Below w.heap.size w wr := hb4.trans (hbel.mono (by have := HM.out; have := hb4.size; omega))
      by_cases hlt : k < n
      · have hck : wr.cell? ⟨bb, off + k, none⟩ = some (.int .i64 (xs.getD k 0)) := by
          have := HC.out k (by have := HN.out; omega)
          rw [hbelw.cell (World.block_lt_of_cell? w _ this)]
          exact this
        have hgr : wr.cell? ⟨q1, 0, none⟩ = some (.slice (some ⟨bb, off, none⟩) n ca) := by
          rw [hbel.cell (by simpa using hs2)]; exact HG2.out
        obtain ⟨q, hq⟩ := Int.eq_ofNat_of_zero_le (HRNG.out k (by have := HN.out; omega)).1
        have hqn : q < n := by have h9 := HN.out; have := (HRNG.out k (by omega)).2; omega
        rw [hq] at hck
        have hfz := own_frozen hown q
        obtain ⟨v0, hv0⟩ : ∃ v0, wr.cell? ⟨m, q, none⟩ = some v0 := ⟨_, own_cell hown q (by rw [backTo_length, ← HN.out]; omega)⟩
        obtain ⟨hst, hgs⟩ := own_stored hown (by rw [backTo_length, ← HN.out]) q k
        have hst' : Own (wr.setCell ⟨m, q, none⟩ (.int .i64 k)) m (.slice (some ⟨m, 0, none⟩) n n) (backTo xs (k + 1)) := by
          rw [backTo_succ xs k (by have := HN.out; omega), hq]
          exact hst
        have HST := Lib.hid hst'
        clear hst hgs hst' hq hown
        go_wp2_with (go_at_call 48; refine (next_w _ _ _ _ _ _ _ hck hlt (by omega)).mono ?_; rintro e w' ⟨rfl, rfl⟩)
        go_roundw
        case rel => exact ⟨k + 1, by omega, by go_num, HST.out, hbel.setCell (Nat.le_refl _) _⟩
        case measure => simp [intOf]; omega
      · have hkn : k = n := by omega
        subst hkn
        go_wp2
        go_ret2
        exact ⟨_, rfl, by rw [HN.out, ← HN.out]; exact own_mono hown (by have := HM.out; have := hb4.size; omega), hbelw⟩
  · have hr : ringIn xs = false := by simpa using hr
    have he : ringBack xs = ([], false) := by simp [ringBack, hr]
    rw [he]
    have HR := Lib.hid (show permOk xs.length xs = false from hr)
    clear hr he h
    go_enter Tryd.func19, Tryd.ntmps19
    go_wp2_with fail
    refine (toPerm_no _ _ _ _ xs _ (by omega) HV.out HR).mono ?_
    rintro e w1 ⟨rfl, hb⟩
    have hb2 := hb.alloc hb.size (.cells #[.slice none 0 0] 41)
    go_wp2_with fail
    refine (isNone_hit _ _ (errAt_below hE hb2)).mono ?_
    rintro e w2 ⟨rfl, hb3⟩
    have hb4 := below_step hb2 hb3
    go_wp2
    go_ret2
    exact ⟨_, rfl, own_nil _ _, hb4⟩

set_option maxHeartbeats 1600000 in
theorem sRingBack_v (v : Value) (xs : List Int) (w : World) (hv : RdV w v xs) : Calls Tryd.prog 31 #[v] w (FreshLB w (ringBack xs)) := by
  have hv0 := hv
  obtain ⟨ao, ca, rfl, h, h1, h2⟩ := hv
  unfold maxLen at h2
  have HV := Lib.hid hv0
  clear hv0
  by_cases hr : ringIn xs = true
  · have he : ringBack xs = (backTo xs xs.length, true) := by simp [ringBack, hr]
    rw [he]
    have HR := Lib.hid hr
    obtain ⟨hl1, hl8, _, _, hrng⟩ := permOk_facts (show permOk xs.length xs = true from hr)
    rcases h with hx | ⟨bb, off, rfl, hcx⟩
    · rw [hx] at hl1
      simp at hl1
    have HRNG := Lib.hid hrng
    obtain ⟨n, hn⟩ : ∃ n, n = xs.length := ⟨_, rfl⟩
    rw [← hn] at h1 hl1 hl8 HV ⊢
    have HN := Lib.hid hn
    have HC := Lib.hid hcx
    clear hr he hn hcx hrng
    obtain ⟨i0, hi, hz0, hz1, hz2⟩ := info_parts Tryd.infoInt
    go_enter Tryd.func31, Tryd.ntmps31
    go_wp2_with fail
    refine (sRingIn_is true _ xs _ HV.out HR).mono ?_
    rintro e w1 ⟨rfl, rfl⟩
    go_wp2_with (at_make; refine wpList_make_full _ rfl _ _ 23 rfl w.heap.size 3 i0 (.int .i64 0) 1 Tryd.underlying23 hi hz0 hz1 _ _ _ _ n rfl rfl rfl rfl (by rw [hz2]; omega) (by unfold maxLen; omega) (Nat.le_refl _) ?_)
    intro w3 hown3 hgrow3
    have hb5 : Below w.heap.size w w3 := (Below.refl _ _).grown hgrow3 (Nat.le_refl _) (fun k h => by cases h)
    have hown := own_made hown3
    clear hown3 hgrow3
    go_wp2
    go_loopw [5] (fun i wr => ∃ k : Nat, k ≤ n ∧ i = .int .i64 k ∧ Own wr w.heap.size (.slice (some ⟨w.heap.size, 0, none⟩) n n) (backTo xs k) ∧ Below w.heap.size w wr)
      (fun i _ => n - (intOf i).toNat)
    case atStart => exact ⟨0, Nat.zero_le _, rfl, by rw [backTo_zero, ← HN.out]; exact hown, hb5⟩
    case round =>
      obtain ⟨k, hk, rfl, hown, hbel⟩ := hrel
      by_cases hlt : k < n
      · have hck : wr.cell? ⟨bb, off + k, none⟩ = some (.int .i64 (xs.getD k 0)) := by
          have := HC.out k (by have := HN.out; omega)
          rw [hbel.cell (World.block_lt_of_cell? w _ this)]
          exact this
        obtain ⟨q, hq⟩ := Int.eq_ofNat_of_zero_le (HRNG.out k (by have := HN.out; omega)).1
        have hqn : q < n := by have h9 := HN.out; have := (HRNG.out k (by omega)).2; omega
        rw [hq] at hck
        have hfz := own_frozen hown q
        obtain ⟨v0, hv0⟩ : ∃ v0, wr.cell? ⟨w.heap.size, q, none⟩ = some v0 := ⟨_, own_cell hown q (by rw [backTo_length, ← HN.out]; omega)⟩
        obtain ⟨hst, hgs⟩ := own_stored hown (by rw [backTo_length, ← HN.out]) q k
        have hst' : Own (wr.setCell ⟨w.heap.size, q, none⟩ (.int .i64 k)) w.heap.size (.slice (some ⟨w.heap.size, 0, none⟩) n n) (backTo xs (k + 1)) := by
          rw [backTo_succ xs k (by have := HN.out; omega), hq]
          exact hst
        have HST := Lib.hid hst'
        clear hst hgs hst' hq hown
        go_wp2
        go_roundw
        case rel => exact ⟨k + 1, by omega, by go_num, HST.out, hbel.setCell (Nat.le_refl _) _⟩
        case measure => simp [intOf]; omega
      · have hkn : k = n := by omega
        subst hkn
        go_wp2
        go_ret2
        exact ⟨_, rfl, by rw [HN.out, ← HN.out]; exact hown, hbel⟩
  · have hr : ringIn xs = false := by simpa using hr
    have he : ringBack xs = ([], false) := by simp [ringBack, hr]
    rw [he]
    have HR := Lib.hid hr
    clear hr he h
    go_enter Tryd.func31, Tryd.ntmps31
    go_wp2_with fail
    refine (sRingIn_is false _ xs _ HV.out HR).mono ?_
    rintro e w1 ⟨rfl, rfl⟩
    go_wp2
    go_ret2
    exact ⟨_, rfl, own_empty _ _ (Nat.le_refl _), (Below.refl _ _).alloc (Nat.le_refl _) _⟩

end Go.Proofs.YtdeeeiimlcggpaaDoor
