/-
  The contracts of PartOf (impl and spec) and of the laws' szIntSS.
-/
import Derived.Test.YtfomfjbfhcajbaaDoorMatHelp
import Derived.Test.YtfomfjbfhcajbaaDoorNamed
namespace Go.Proofs.YtfomfjbfhcajbaaDoor
set_option linter.unusedSimpArgs false
set_option linter.unusedVariables false
set_option linter.unnecessarySimpa false
open Go.RowKit

def fillRow (n : Nat) (b : Int) : List Int → Nat → List Int → Option (List Int × Nat)
  | f, s, [] => some (f, s)
  | f, s, x :: r => if (0 ≤ x ∧ x < n) ∧ s.testBit x.toNat = false then fillRow n b (f.set x.toNat b) (s ||| 2 ^ x.toNat) r else none

def fillAll (n : Nat) : Int → List Int → Nat → List (List Int) → Option (List Int × Nat)
  | _, f, s, [] => some (f, s)
  | b, f, s, row :: rows => if row = [] then none else match fillRow n b f s row with
    | none => none
    | some (f', s') => fillAll n (b + 1) f' s' rows

def closeOf (n : Nat) : Option (List Int × Nat) → List Int × Bool
  | none => ([], false)
  | some (f, s) => if s = 2 ^ n - 1 then (kOut f, true) else ([], false)

def partOf (n : Int) (xss : List (List Int)) : List Int × Bool := if 1 ≤ n ∧ n ≤ 8 then closeOf n.toNat (fillAll n.toNat 0 (List.replicate n.toNat 0) 0 xss) else ([], false)

theorem fillRow_length (n : Nat) (b : Int) : ∀ (r f : List Int) (s : Nat) (f' : List Int) (s' : Nat), fillRow n b f s r = some (f', s') → f'.length = f.length := by
  intro r
  induction r with
  | nil => intro f s f' s' h; simp [fillRow] at h; rw [h.1]
  | cons x r ih =>
    intro f s f' s' h
    unfold fillRow at h
    split at h
    · rw [ih _ _ _ _ h, List.length_set]
    · cases h

theorem fillAll_length (n : Nat) : ∀ (rows : List (List Int)) (b : Int) (f : List Int) (s : Nat) (f' : List Int) (s' : Nat), fillAll n b f s rows = some (f', s') → f'.length = f.length := by
  intro rows
  induction rows with
  | nil => intro b f s f' s' h; simp [fillAll] at h; rw [h.1]
  | cons row rows ih =>
    intro b f s f' s' h
    unfold fillAll at h
    split at h
    · cases h
    · split at h
      · cases h
      · rename_i f1 s1 h1
        rw [ih _ _ _ _ _ h, fillRow_length n b _ _ _ _ _ h1]

theorem partOf_len (n : Int) (xss : List (List Int)) : (partOf n xss).1.length ≤ 2305843009213693952 := by
  unfold partOf
  split
  · cases h : fillAll n.toNat 0 (List.replicate n.toNat 0) 0 xss with
    | none => simp [closeOf]
    | some r =>
      obtain ⟨f, s⟩ := r
      have := fillAll_length _ _ _ _ _ _ _ h
      unfold closeOf
      dsimp only
      split
      · rw [kOut_length, this]; simp; omega
      · simp
  · simp

theorem pow_256 : ∀ k, k < 9 → 2 ^ k ≤ 256 := by decide

theorem drop_consM (xss : List (List Int)) (k : Nat) (h : k < xss.length) : xss.drop k = xss.getD k [] :: xss.drop (k + 1) := by
  rw [List.drop_eq_getElem_cons h]
  simp [List.getD, h]

theorem shr_fact : ∀ t, t < 256 → ∀ y, y < 8 → (bits BinOp.and IntKind.i64 (((t : Nat) : Int) / 2 ^ (y : Nat)) 1 == 1) = t.testBit y := by decide +kernel

set_option maxHeartbeats 4000000 in
theorem iPartOf_v (v : Value) (n : Int) (xss : List (List Int)) (w : World) (hv : RdM w v xss) (_ : (Lit.int .i64 n).wf = true) : Calls Tryd.prog 10 #[.int .i64 n, v] w (FreshLB w (partOf n xss)) := by
  obtain ⟨ao, ca, vs, hvl, rfl, h1, h2, h3, h4⟩ := hv
  unfold maxLen at h2
  by_cases hn : 1 ≤ n ∧ n ≤ 8
  · obtain ⟨n, rfl⟩ := Int.eq_ofNat_of_zero_le (show 0 ≤ n by omega)
    have hr : partOf (n : Int) xss = closeOf n (fillAll n 0 (List.replicate n 0) 0 xss) := by unfold partOf; rw [if_pos hn, Int.toNat_natCast]
    rw [hr]
    clear hr
    obtain ⟨hn1, hn8⟩ := hn
    obtain ⟨m, hm⟩ : ∃ m, m = xss.length := ⟨_, rfl⟩
    rw [← hm] at h1 ⊢
    have HM := Lib.hid hm
    have H3 := Lib.hid h3
    have H4 := Lib.hid h4
    clear hm h3 h4 hvl
    have h256 := pow_256 n (by omega)
    obtain ⟨i0, hi, hz0, hz1, hz2⟩ := info_parts Tryd.infoInt
    go_enter Tryd.func10, Tryd.ntmps10
    go_wp2_with fail
    refine (countFits_yes _ _ hn1 hn8).mono ?_
    rintro e w' ⟨rfl, rfl⟩
    go_wp2_with (at_make; refine wpList_make_full _ rfl _ _ 23 rfl w.heap.size 3 i0 (.int .i64 0) 1 Tryd.underlying23 hi hz0 hz1 _ _ _ _ n rfl rfl rfl rfl (by rw [hz2]; omega) (by unfold maxLen; omega) (Nat.le_refl _) ?_)
    intro w1 hown1 hgrow1
    have hb1 : Below w.heap.size w w1 := (Below.refl _ _).grown hgrow1 (Nat.le_refl _) (fun k h => by cases h)
    have hown := own_made hown1
    clear hown1 hgrow1
    go_wp2
    go_loopw [7, 19] (fun u i wr => ∃ (b s : Nat) (f : List Int), b ≤ m ∧ i = .int .i64 b ∧ u = .int .u64 s ∧ s < 2 ^ n ∧ f.length = n ∧ fillAll n 0 (List.replicate n 0) 0 xss = fillAll n b f s (xss.drop b) ∧ Own wr w.heap.size (.slice (some ⟨w.heap.size, 0, none⟩) n n) f ∧ Below w.heap.size w wr)
      (fun _ i _ => m - (intOf i).toNat)
    case atStart => exact ⟨0, 0, _, Nat.zero_le _, rfl, rfl, Nat.pos_of_ne_zero (by simp), by simp, rfl, hown, hb1⟩
    case round =>
      obtain ⟨b, s, f, hb, rfl, rfl, hs, hf, hfill, hown, hbel⟩ := hrel
      have HFILL := Lib.hid hfill
      have HF := Lib.hid hf
      have HO := Lib.hid hown
      clear hfill hf hown
      by_cases hlt : b < m
      · rcases H3.out with hx | ⟨bb, off, rfl, hc⟩
        · have := HM.out
          rw [hx] at this
          simp at this
          omega
        · have hcb := hc b (by have := HM.out; omega)
          rw [← hbel.cell (World.block_lt_of_cell? w _ hcb)] at hcb
          have hrow := H4.out b (by have := HM.out; omega)
          have hdr := drop_consM xss b (by have := HM.out; omega)
          obtain ⟨row, hrw⟩ : ∃ row, row = xss.getD b [] := ⟨_, rfl⟩
          obtain ⟨z, hz⟩ : ∃ z, z = vs.getD b undef := ⟨_, rfl⟩
          rw [← hz] at hcb hrow
          rw [← hrw] at hrow hdr
          obtain ⟨zo, zc, rfl, hzr, hzl, hzc⟩ := hrow
          unfold maxLen at hzc
          have HDR := Lib.hid hdr
          have HZR := Lib.hid hzr
          clear hc hdr hz hrw hzr
          by_cases hre : row = []
          · have HRE := Lib.hid hre
            have hrl : row.length = 0 := by rw [hre]; rfl
            have HRL := Lib.hid hrl
            rw [hrl] at hcb hzl
            clear hre hrl
            go_wp2
            go_ret2
            have : closeOf n (fillAll n 0 (List.replicate n 0) 0 xss) = ([], false) := by
              rw [HFILL.out, HDR.out, fillAll, if_pos HRE.out]
              rfl
            rw [this]
            exact ⟨_, rfl, own_nil _ _, hbel⟩
          · obtain ⟨q, hq⟩ : ∃ q, q = row.length := ⟨_, rfl⟩
            have hq0 : 0 < q := by rw [hq]; exact List.length_pos_iff.2 hre
            have hbq : ((q : Int) == 0) = false := by simp; omega
            rw [← hq] at hcb hzl
            have HRE := Lib.hid hre
            have HQ := Lib.hid hq
            clear hre hq
            obtain ⟨wo, hwo⟩ : ∃ wo : World, wo = wr := ⟨_, rfl⟩
            subst hwo
            have hzo : Rd wo zo row := rd_below HZR.out (by exact ⟨hbel.os, hbel.tape, hbel.output, hbel.size, hbel.block⟩)
            rcases hzo with hzo | ⟨bz, oz, rfl, hcz⟩
            · exact absurd hzo HRE.out
            have HCZ := Lib.hid hcz
            have hbz : bz < w.heap.size := by
              rcases HZR.out with h | ⟨b', o', h, hc'⟩
              · exact absurd h HRE.out
              · cases h
                exact World.block_lt_of_cell? w _ (hc' 0 (by have := HQ.out; omega))
            clear hcz
            go_wp2
            go_loopw [7, 29] (fun u i wi => ∃ (j t : Nat) (g : List Int), j ≤ q ∧ i = .int .i64 j ∧ u = .int .u64 t ∧ t < 2 ^ n ∧ g.length = n ∧ fillRow n b f s row = fillRow n b g t (row.drop j) ∧ Own wi w.heap.size (.slice (some ⟨w.heap.size, 0, none⟩) n n) g ∧ Below w.heap.size w wi)
              (fun _ i _ => q - (intOf i).toNat)
            case atStart => exact ⟨0, s, f, Nat.zero_le _, rfl, rfl, hs, HF.out, rfl, HO.out, hbel⟩
            case round =>
              obtain ⟨j, t, g, hj, rfl, rfl, ht, hg, hrowfill, hog, hbi⟩ := hrel
              have HRF := Lib.hid hrowfill
              have HG := Lib.hid hg
              have ht256 : t < 256 := by omega
              clear hrowfill hg
              by_cases hjq : j < q
              · have hcj := HCZ.out j (by have := HQ.out; omega)
                have hcj' : wr.cell? ⟨bz, oz + j, none⟩ = some (.int .i64 (row.getD j 0)) := by
                  have e1 : wr.cell? ⟨bz, oz + j, none⟩ = w.cell? ⟨bz, oz + j, none⟩ := hbi.cell hbz
                  have e2 : wo.cell? ⟨bz, oz + j, none⟩ = w.cell? ⟨bz, oz + j, none⟩ := hbel.cell hbz
                  rw [e1, ← e2]
                  exact hcj
                have hrd := drop_cons row j (by have := HQ.out; omega)
                obtain ⟨x, hx⟩ : ∃ x, x = row.getD j 0 := ⟨_, rfl⟩
                rw [← hx] at hcj' hrd
                have hrf := HRF.out
                rw [hrd, fillRow] at hrf
                have HRF2 := Lib.hid hrf
                clear hrf hrd hx hcj
                by_cases hxr : 0 ≤ x ∧ x < n
                · obtain ⟨y, rfl⟩ := Int.eq_ofNat_of_zero_le hxr.1
                  have hy : y < 8 := by omega
                  cases hbit : t.testBit y
                  · have HB := Lib.hid hbit
                    have hfz := own_frozen hog y
                    obtain ⟨v0, hv0⟩ : ∃ v0, wr.cell? ⟨w.heap.size, y, none⟩ = some v0 := ⟨_, own_cell hog y (by rw [HG.out]; omega)⟩
                    obtain ⟨hst, hgs⟩ := own_stored hog (by rw [HG.out]) y (b : Int)
                    have HST := Lib.hid hst
                    clear hst hgs hog hbit
                    go_wp2_with fail
                    refine (isThing_yes _ _ _ hxr.1 hxr.2).mono ?_
                    rintro e w' ⟨rfl, rfl⟩
                    go_wp2_with fail
                    refine (has_any t y _ ht256 hy).mono ?_
                    rintro e w' ⟨rfl, rfl⟩
                    rw [HB.out]
                    go_wp2_with fail
                    refine (with_any t y _ ht256 hy).mono ?_
                    rintro e w' ⟨rfl, rfl⟩
                    go_wp2
                    go_roundw
                    case rel => exact ⟨j + 1, t ||| 2 ^ y, g.set y b, by omega, by go_num, rfl, or_lt_pow n (by omega) t ht y (by omega), by rw [List.length_set, HG.out], by rw [HRF2.out, Int.toNat_natCast, if_pos ⟨hxr, HB.out⟩], HST.out, hbi.setCell (Nat.le_refl _) _⟩
                    case measure => simp [intOf]; omega
                  · have HB := Lib.hid hbit
                    clear hbit
                    go_wp2_with fail
                    refine (isThing_yes _ _ _ hxr.1 hxr.2).mono ?_
                    rintro e w' ⟨rfl, rfl⟩
                    go_wp2_with fail
                    refine (has_any t y _ ht256 hy).mono ?_
                    rintro e w' ⟨rfl, rfl⟩
                    rw [HB.out]
                    go_wp2
                    go_ret2
                    have : closeOf n (fillAll n 0 (List.replicate n 0) 0 xss) = ([], false) := by
                      rw [HFILL.out, HDR.out, fillAll, if_neg HRE.out, HRF2.out, Int.toNat_natCast, HB.out, if_neg (by simp)]
                      rfl
                    rw [this]
                    exact ⟨_, rfl, own_nil _ _, hbi⟩
                · go_wp2_with fail
                  refine (isThing_no _ _ _ (by omega)).mono ?_
                  rintro e w' ⟨rfl, rfl⟩
                  go_wp2
                  go_ret2
                  have : closeOf n (fillAll n 0 (List.replicate n 0) 0 xss) = ([], false) := by
                    rw [HFILL.out, HDR.out, fillAll, if_neg HRE.out, HRF2.out, if_neg (fun h => hxr h.1)]
                    rfl
                  rw [this]
                  exact ⟨_, rfl, own_nil _ _, hbi⟩
              · have hjq : j = q := by omega
                subst hjq
                go_wp2
                go_roundw
                case rel =>
                  refine ⟨b + 1, t, g, by omega, by go_num, rfl, ht, HG.out, ?_, hog, hbi⟩
                  rw [HFILL.out, HDR.out, fillAll, if_neg HRE.out, HRF.out, List.drop_of_length_le (by rw [HQ.out]; omega), fillRow]
                  simp
                case measure => simp [intOf]; omega
      · have hbm : b = m := by omega
        subst hbm
        have hfin : fillAll n 0 (List.replicate n 0) 0 xss = some (f, s) := by
          rw [HFILL.out, List.drop_of_length_le (by rw [← HM.out]; omega)]
          rfl
        have HFIN := Lib.hid hfin
        have hcf := cnt_full n (by omega) s hs
        by_cases hfull : s = 2 ^ n - 1
        · have hc : cnt s = n := hcf.2 hfull
          have HC := Lib.hid hc
          have HFU := Lib.hid hfull
          have HRD := Lib.hid (own_rdv HO.out)
          clear hcf hfull hc hfin
          go_wp2_with fail
          refine (size_any s _ (by omega)).mono ?_
          rintro e w' ⟨rfl, rfl⟩
          rw [HC.out]
          go_wp2_with fail
          refine (kernel_v _ _ _ HRD.out (by rw [HF.out]; omega)).mono ?_
          rintro e w2 ⟨u, rfl, ho2, hb2⟩
          go_wp2
          go_ret2
          have : closeOf n (fillAll n 0 (List.replicate n 0) 0 xss) = (kOut f, true) := by rw [HFIN.out, closeOf, if_pos HFU.out]
          rw [this]
          exact ⟨_, rfl, own_mono ho2 hbel.size, below_step hbel hb2⟩
        · have hc : cnt s ≠ n := fun h => hfull (hcf.1 h)
          have hne : ((cnt s : Int) != (n : Int)) = true := by simp; omega
          have HFU := Lib.hid hfull
          obtain ⟨c, hcc⟩ : ∃ c : Int, c = (cnt s : Int) := ⟨_, rfl⟩
          rw [← hcc] at hne
          have HCC := Lib.hid hcc
          clear hcf hfull hc hfin hcc
          go_wp2_with fail
          refine (size_any s _ (by omega)).mono ?_
          rintro e w' ⟨rfl, rfl⟩
          rw [← HCC.out]
          go_wp2
          go_ret2
          have : closeOf n (fillAll n 0 (List.replicate n 0) 0 xss) = ([], false) := by rw [HFIN.out, closeOf, if_neg HFU.out]
          rw [this]
          exact ⟨_, rfl, own_nil _ _, hbel⟩
  · have hr : partOf n xss = ([], false) := by unfold partOf; rw [if_neg hn]
    rw [hr]
    clear hr
    go_enter Tryd.func10, Tryd.ntmps10
    go_wp2_with fail
    refine (countFits_no _ _ (by omega)).mono ?_
    rintro e w' ⟨rfl, rfl⟩
    go_wp2
    go_ret2
    exact ⟨_, rfl, own_nil _ _, Below.refl _ _⟩

end Go.Proofs.YtfomfjbfhcajbaaDoor
