/-
  What the laws of this claim lean on: what functions of the program and of the model answer, one after another, and plain mathematics. No condition.
-/
import Derived.Test.YtbmpchpcihnbdaaMgA
import Derived.Test.YtbmpchpcihnbdaaMgB
import Derived.Test.YtbmpchpcihnbdaaMgC
import Derived.Test.YtbmpchpcihnbdaaMgD
import Derived.Deep.RegionLaw
import Derived.Laws.EntriesVeiled
import Derived.Deep.RegionHeld3

/-
  The contracts of spec.l92Pairs, which draws a small number and lists of two, and of spec.DrawPairOf.
-/
namespace Go.Proofs.Ytbmpchpcihnbdaa
set_option linter.unusedSimpArgs false
set_option linter.unusedVariables false
set_option linter.unnecessarySimpa false
open Go.RowKit
set_option maxRecDepth 100000

/-- A small number and drawn lists. -/
def PairsDrawn (w : World) (e : Ending) (w' : World) : Prop :=
  ∃ (n : Nat) (v : Value) (ps : List (List Int)), e = .returned (.tuple #[.int .i64 n, v]) ∧ (1 ≤ n ∧ n ≤ 5) ∧ RdM w' v ps ∧ ps.length ≤ 31 ∧ Below w.heap.size w w'

theorem own_apartM {w : World} {B B' S : Nat} {v u : Value} {xs : List Int} {ps : List (List Int)} (h : Own w B v xs) (hm : OwnM w B' S u ps) : v.ownBlock = none ∨ v.ownBlock ≠ u.ownBlock := by
  obtain ⟨vs, hr⟩ := ownM_row0 hm
  rcases hr.2 with ⟨rfl, _⟩ | ⟨g, cap, cur, rfl, _, hgb, _⟩
  · cases hv : v.ownBlock with
    | none => exact .inl rfl
    | some k => exact .inr (by simp [Value.ownBlock])
  · exact ownsRow_ne_type h hgb (by decide)

theorem ownM_reader {w w' : World} {B g : Nat} {v : Value} {ps : List (List Int)} (h : OwnM w B w.heap.size v ps) (hB : g < B) (hg : w.grownBy w' (some g)) : OwnM w' B w'.heap.size v ps :=
  ownM_mono (ownM_kept h hg
    (fun u vs k hu => by
      cases hv : u.ownBlock with
      | none => exact .inl rfl
      | some q => exact .inr fun e => by have := (World.ownsRow.lt hu q hv).1; cases e; omega)
    (fun u vs k hu => by
      cases hv : u.ownBlock with
      | none => exact .inl rfl
      | some q => exact .inr fun e => by have := (World.ownsRow.lt hu q hv).1; cases e; omega)) (Nat.le_refl _) hg.size

theorem own_cellR {w : World} {B bb off cap n : Nat} {xs : List Int} (h : Own w B (.slice (some ⟨bb, off, none⟩) n cap) xs) {j : Nat} (hj : j < xs.length) : w.cell? ⟨bb, off + j, none⟩ = some (.int .i64 (xs.getD j 0)) := by
  obtain ⟨ao, ca, e, hx, _⟩ := own_rdv h
  rcases hx with hx | ⟨b, o, h1, hc⟩
  · rw [hx] at hj; simp at hj
  · cases e
    cases h1
    exact hc j hj

set_option maxHeartbeats 8000000 in
theorem l92Pairs_any (a : Option Addr) (len cap : Nat) (w : World) (hby : Bytes w a len) (hlen : len ≤ 1048576) (hc : len ≤ cap) (hcm : cap ≤ maxLen) :
    Calls Try.prog 58 #[.slice a len cap] w (PairsDrawn w) := by
  go_enter Try.func58, Try.ntmps58
  go_wp2_with fail
  refine (open_r a len cap w hby hlen hc hcm).mono ?_
  rintro e w1 ⟨g, m, cp, rfl, r1⟩
  go_wp2_with fail
  refine (pick_r r1 _ (by omega) (by omega) (by omega)).mono ?_
  rintro e w2 ⟨n0, rfl, hn0, r2, hg2⟩
  clear hg2
  obtain ⟨n, hn⟩ : ∃ n : Nat, n = n0 + 1 := ⟨_, rfl⟩
  have hni : (1 : Int) + (n0 : Int) = n := by omega
  have hn1 : 1 ≤ n := by omega
  have hn5 : n ≤ 5 := by omega
  have hgw : g = w.heap.size := r1.hg
  have hlt2 := r2.lt
  have HOM0 : Hid (OwnM (w2.alloc (.cells #[] 30)) (g + 1) (w2.alloc (.cells #[] 30)).heap.size (.slice (some ⟨w2.heap.size, 0, none⟩) 0 0) []) := Lib.hid (ownM_mono (ownM_empty w2 (g + 1) (by omega)) (Nat.le_refl _) (by simp))
  have R2 := Lib.hid (Rds.step r2 ((Below.refl _ _).alloc (Nat.le_refl _) (.cells #[] 30)))
  have HNI := Lib.hid hni
  have HGW := Lib.hid hgw
  clear r1 r2 hn hni hgw
  go_wp2_with fail
  rw [HNI.out]
  refine (part_rn R2.out n (by omega) (by omega) (by omega)).mono ?_
  rintro e w3 ⟨va, xs, q, rfl, oa, hl, hx, hq, r3, hg3⟩
  have HOM3 := Lib.hid (ownM_reader HOM0.out (Nat.lt_succ_self g) hg3)
  have oa := own_mono (B' := g + 1) oa (by simp; omega)
  clear hg3 hx HOM0 R2 hn0
  obtain ⟨ao, ca, rfl⟩ := own_slice' oa
  have OA := Lib.hid oa
  obtain ⟨ln, hln⟩ : ∃ ln, ln = xs.length := ⟨_, rfl⟩
  rw [← hln] at hl OA ⊢
  have HLN := Lib.hid hln
  have R3 := Lib.hid r3
  clear oa hln r3
  go_wp2_with fail
  refine (pick_r R3.out _ (by omega) (by omega) (by omega)).mono ?_
  rintro e w4 ⟨kd, rfl, hkd, r4, hg4⟩
  have OA4 := Lib.hid (Rds.keep OA.out (Nat.lt_succ_self g) hg4)
  have HOM4 := Lib.hid (ownM_reader HOM3.out (Nat.lt_succ_self g) hg4)
  have R4 := Lib.hid r4
  have hw2 : g < w2.heap.size := hlt2
  clear r4 hg4 R3 OA HOM3
  go_wp2
  go_loopw [6, 9] (fun u i wr => ∃ (k g' cap' m' q : Nat) (ps : List (List Int)), k ≤ n ∧ i = .int .i64 k ∧ u = .slice (some ⟨g', 0, none⟩) m' cap' ∧ OwnM wr (g + 1) wr.heap.size (.slice (some ⟨g', 0, none⟩) m' cap') ps ∧ m' = ps.length ∧ m' ≤ 6 * k ∧ q ≤ 60 + 6 * k ∧ Own wr (g + 1) (.slice ao ln ca) xs ∧ Rds w wr g a m cp q) (fun _ i _ => n - (intOf i).toNat)
  case atStart => exact ⟨0, w2.heap.size, 0, 0, q + 1, [], Nat.zero_le _, rfl, rfl, HOM4.out, rfl, by omega, by omega, OA4.out, R4.out⟩
  case round =>
    obtain ⟨k, g', cap', m', q, ps, hk, rfl, rfl, hown, hm', hml, hq, hoa, hr⟩ := hrel
    have HO1 := Lib.hid hown
    have HM1 := Lib.hid hm'
    have OA1 := Lib.hid hoa
    have R1 := Lib.hid hr
    clear hown hm' hoa hr
    by_cases hlt : k < n
    · go_wp2
      go_loopw [6, 10] (fun u i wr => ∃ (t g' cap' m' q : Nat) (ps : List (List Int)), k + 1 ≤ t ∧ t ≤ n ∧ i = .int .i64 t ∧ u = .slice (some ⟨g', 0, none⟩) m' cap' ∧ OwnM wr (g + 1) wr.heap.size (.slice (some ⟨g', 0, none⟩) m' cap') ps ∧ m' = ps.length ∧ m' ≤ 6 * k + t ∧ q ≤ 60 + 6 * k + t ∧ Own wr (g + 1) (.slice ao ln ca) xs ∧ Rds w wr g a m cp q) (fun _ i _ => n - (intOf i).toNat)
      case atStart => exact ⟨k + 1, g', cap', m', q, ps, Nat.le_refl _, by omega, by go_num, rfl, HO1.out, HM1.out, by omega, by omega, OA1.out, R1.out⟩
      case round =>
        clear HO1 HM1 OA1 R1 hml hq
        obtain ⟨t, g', cap', m', q, ps, ht1, ht, rfl, rfl, hown, hm', hml, hq, hoa, hr⟩ := hrel
        by_cases htn : t < n
        · obtain ⟨bb, off, rfl⟩ : ∃ bb off, ao = some ⟨bb, off, none⟩ := by
            obtain ⟨ao', ca', e, hx, _⟩ := own_rdv hoa
            cases e
            rcases hx with hx | ⟨b, o, h1, _⟩
            · have h5 := hl.1
              rw [hx] at h5
              simp at h5
              omega
            · exact ⟨b, o, h1⟩
          have hc1 := own_cellR hoa (j := k) (by have := HLN.out; omega)
          have hc2 := own_cellR hoa (j := t) (by have := HLN.out; omega)
          obtain ⟨x, hx⟩ : ∃ x, x = xs.getD k 0 := ⟨_, rfl⟩
          obtain ⟨y, hy⟩ : ∃ y, y = xs.getD t 0 := ⟨_, rfl⟩
          rw [← hx] at hc1
          rw [← hy] at hc2
          have HO := Lib.hid hown
          have HM := Lib.hid hm'
          have OAR := Lib.hid hoa
          have R := Lib.hid hr
          have b0 : (k : Int) < ln := by omega
          have b1 : (t : Int) < ln := by omega
          clear hx hy hown hm' hoa hr
          by_cases hxy : x = y
          · have hd : (x == y) = true := by simpa using hxy
            clear hxy
            by_cases hk1 : kd = 1
            · have ek1 : ((kd : Int) == 1) = true := by simp; omega
              have ek2 : ((kd : Int) == 2) = false := by simp; omega
              clear hk1
              go_wp2
              go_quiet (fail)
              have R4 := Lib.hid (Rds.step R.out (below_drewN (Below.refl _ _) nq))
              have OA4 := Lib.hid (own_below OAR.out (below_drewN (Below.refl _ _) nq))
              have HO4 : Hid (OwnM (wr.drewN nq) (g + 1) (wr.drewN nq).heap.size (.slice (some ⟨g', 0, none⟩) m' cap') ps) := Lib.hid (ownM_mono (ownM_below HO.out (below_drewN (Below.refl _ _) nq)) (Nat.le_refl _) (by simp))
              obtain ⟨wq, hwq⟩ : ∃ wq, wq = wr.drewN nq := ⟨_, rfl⟩
              rw [← hwq] at R4 OA4 HO4 ⊢
              clear hwq HO OAR R hc1 hc2
              go_wp2_with fail
              refine (pick_r R4.out _ (by omega) (by omega) (by omega)).mono ?_
              rintro e w5 ⟨t6, rfl, ht6, r5, hg5⟩
              have OA5 := Lib.hid (Rds.keep OA4.out (Nat.lt_succ_self g) hg5)
              have HO5 := Lib.hid (ownM_reader HO4.out (Nat.lt_succ_self g) hg5)
              have R5 := Lib.hid r5
              clear r5 hg5 R4 OA4 HO4
              by_cases h6 : t6 = 0
              · subst h6
                go_wp2
                go_roundw
                case rel => exact ⟨t + 1, g', cap', m', (q + 1), ps, by omega, by omega, by go_num, rfl, HO5.out, HM.out, by omega, by omega, OA5.out, R5.out⟩
                case measure => simp [intOf]; omega
              · have d6 : ((t6 : Int) == 0) = false := by simp; omega
                obtain ⟨wb, hwb⟩ : ∃ wb : World, wb = w5 := ⟨_, rfl⟩
                have HOB := HO5
                have OAB := OA5
                have RB := R5
                rw [← hwb] at HOB OAB RB
                have hcell := cell_new1 (w5.alloc (.cells #[.int .i64 k, .int .i64 t] 3)) (.slice (some ⟨w5.heap.size, 0, none⟩) 2 2) 30
                rw [← hwb] at hcell
                rw [show (wb.alloc (.cells #[.int .i64 k, .int .i64 t] 3)).heap.size = wb.heap.size + 1 by simp] at hcell
                have hou : Own ((wb.alloc (.cells #[.int .i64 k, .int .i64 t] 3)).alloc (.cells #[.slice (some ⟨wb.heap.size, 0, none⟩) 2 2] 30)) (g + 1) (.slice (some ⟨wb.heap.size, 0, none⟩) 2 2) [(k : Int), (t : Int)] := own_alloc (own_two wb (g + 1) k t RB.out.lt) _
                have hb3 := ((Below.refl wb.heap.size wb).alloc (Nat.le_refl _) (.cells #[.int .i64 k, .int .i64 t] 3)).alloc (by simp) (.cells #[.slice (some ⟨wb.heap.size, 0, none⟩) 2 2] 30)
                have HOM := Lib.hid (ownM_below HOB.out hb3)
                have HOA := Lib.hid (own_below OAB.out hb3)
                have HRB := Lib.hid (Rds.step RB.out ((Below.refl wb.heap.size wb).alloc (Nat.le_refl _) (.cells #[.int .i64 k, .int .i64 t] 3)))
                have hgl := RB.out.lt
                have HCE := Lib.hid hcell
                have HOU := Lib.hid hou
                have hsw : wb.heap.size ≤ ((wb.alloc (.cells #[.int .i64 k, .int .i64 t] 3)).alloc (.cells #[.slice (some ⟨wb.heap.size, 0, none⟩) 2 2] 30)).heap.size := hb3.size
                clear hcell hou hb3 HOB OAB
                rw [hwb] at HOM HOA HRB hgl HCE HOU hsw RB
                clear hwb
                go_wp2_with (at_builtin; refine wpList_pushV rfl _ _ rfl (g + 1) w5.heap.size m' _ ps rfl HOM.out HM.out ⟨w5.heap.size + 1, 0, none⟩ rfl _ _ HCE.out HOU.out (fun q hq => by simp [Value.ownBlock] at hq; simp; omega) hgl hsw (by omega) ?_; intro g4 cap4 w9 hown4 hgr4)
                have hrow : g + 1 ≤ g' := by
                  obtain ⟨vs, hr⟩ := ownM_row0 HOM.out
                  exact (World.ownsRow.lt hr g' rfl).1
                have hgw := HGW.out
                have HR9 := Lib.hid (Rds.push (g' := g') HRB.out hgr4 (by omega) (by omega))
                have OA9 := Lib.hid (own_grown HOA.out hgr4 (own_apartM HOA.out HOM.out))
                have HO9 := Lib.hid hown4
                clear hown4 hgr4 HOA HOM HRB HCE HOU hsw hgl hgw
                go_wp2
                go_roundw
                case rel => exact ⟨t + 1, g4, cap4, m' + 1, (q + 1), ps ++ [[(k : Int), (t : Int)]], by omega, by omega, by go_num, rfl, HO9.out, by simp [HM.out], by omega, by omega, OA9.out, HR9.out⟩
                case measure => simp [intOf]; omega
            · have dk1 : ((kd : Int) == 1) = false := by simp; omega
              by_cases hk2 : kd = 2
              · have ek2 : ((kd : Int) == 2) = true := by simp; omega
                clear hk2 hk1
                go_wp2
                go_quiet (fail)
                have R4 := Lib.hid (Rds.step R.out (below_drewN (Below.refl _ _) nq))
                have OA4 := Lib.hid (own_below OAR.out (below_drewN (Below.refl _ _) nq))
                have HO4 : Hid (OwnM (wr.drewN nq) (g + 1) (wr.drewN nq).heap.size (.slice (some ⟨g', 0, none⟩) m' cap') ps) := Lib.hid (ownM_mono (ownM_below HO.out (below_drewN (Below.refl _ _) nq)) (Nat.le_refl _) (by simp))
                obtain ⟨wq, hwq⟩ : ∃ wq, wq = wr.drewN nq := ⟨_, rfl⟩
                rw [← hwq] at R4 OA4 HO4 ⊢
                clear hwq HO OAR R hc1 hc2
                go_wp2_with fail
                refine (pick_r R4.out _ (by omega) (by omega) (by omega)).mono ?_
                rintro e w5 ⟨t6, rfl, ht6, r5, hg5⟩
                have OA5 := Lib.hid (Rds.keep OA4.out (Nat.lt_succ_self g) hg5)
                have HO5 := Lib.hid (ownM_reader HO4.out (Nat.lt_succ_self g) hg5)
                have R5 := Lib.hid r5
                clear r5 hg5 R4 OA4 HO4
                by_cases h6 : t6 = 0
                · subst h6
                  obtain ⟨wb, hwb⟩ : ∃ wb : World, wb = w5 := ⟨_, rfl⟩
                  have HOB := HO5
                  have OAB := OA5
                  have RB := R5
                  rw [← hwb] at HOB OAB RB
                  have hcell := cell_new1 (w5.alloc (.cells #[.int .i64 k, .int .i64 t] 3)) (.slice (some ⟨w5.heap.size, 0, none⟩) 2 2) 30
                  rw [← hwb] at hcell
                  rw [show (wb.alloc (.cells #[.int .i64 k, .int .i64 t] 3)).heap.size = wb.heap.size + 1 by simp] at hcell
                  have hou : Own ((wb.alloc (.cells #[.int .i64 k, .int .i64 t] 3)).alloc (.cells #[.slice (some ⟨wb.heap.size, 0, none⟩) 2 2] 30)) (g + 1) (.slice (some ⟨wb.heap.size, 0, none⟩) 2 2) [(k : Int), (t : Int)] := own_alloc (own_two wb (g + 1) k t RB.out.lt) _
                  have hb3 := ((Below.refl wb.heap.size wb).alloc (Nat.le_refl _) (.cells #[.int .i64 k, .int .i64 t] 3)).alloc (by simp) (.cells #[.slice (some ⟨wb.heap.size, 0, none⟩) 2 2] 30)
                  have HOM := Lib.hid (ownM_below HOB.out hb3)
                  have HOA := Lib.hid (own_below OAB.out hb3)
                  have HRB := Lib.hid (Rds.step RB.out ((Below.refl wb.heap.size wb).alloc (Nat.le_refl _) (.cells #[.int .i64 k, .int .i64 t] 3)))
                  have hgl := RB.out.lt
                  have HCE := Lib.hid hcell
                  have HOU := Lib.hid hou
                  have hsw : wb.heap.size ≤ ((wb.alloc (.cells #[.int .i64 k, .int .i64 t] 3)).alloc (.cells #[.slice (some ⟨wb.heap.size, 0, none⟩) 2 2] 30)).heap.size := hb3.size
                  clear hcell hou hb3 HOB OAB
                  rw [hwb] at HOM HOA HRB hgl HCE HOU hsw RB
                  clear hwb
                  go_wp2_with (at_builtin; refine wpList_pushV rfl _ _ rfl (g + 1) w5.heap.size m' _ ps rfl HOM.out HM.out ⟨w5.heap.size + 1, 0, none⟩ rfl _ _ HCE.out HOU.out (fun q hq => by simp [Value.ownBlock] at hq; simp; omega) hgl hsw (by omega) ?_; intro g4 cap4 w9 hown4 hgr4)
                  have hrow : g + 1 ≤ g' := by
                    obtain ⟨vs, hr⟩ := ownM_row0 HOM.out
                    exact (World.ownsRow.lt hr g' rfl).1
                  have hgw := HGW.out
                  have HR9 := Lib.hid (Rds.push (g' := g') HRB.out hgr4 (by omega) (by omega))
                  have OA9 := Lib.hid (own_grown HOA.out hgr4 (own_apartM HOA.out HOM.out))
                  have HO9 := Lib.hid hown4
                  clear hown4 hgr4 HOA HOM HRB HCE HOU hsw hgl hgw
                  go_wp2
                  go_roundw
                  case rel => exact ⟨t + 1, g4, cap4, m' + 1, (q + 1), ps ++ [[(k : Int), (t : Int)]], by omega, by omega, by go_num, rfl, HO9.out, by simp [HM.out], by omega, by omega, OA9.out, HR9.out⟩
                  case measure => simp [intOf]; omega
                · have d6 : ((t6 : Int) == 0) = false := by simp; omega
                  go_wp2
                  go_roundw
                  case rel => exact ⟨t + 1, g', cap', m', (q + 1), ps, by omega, by omega, by go_num, rfl, HO5.out, HM.out, by omega, by omega, OA5.out, R5.out⟩
                  case measure => simp [intOf]; omega
              · have dk2 : ((kd : Int) == 2) = false := by simp; omega
                go_wp2
                go_quiet (fail)
                have R4 := Lib.hid (Rds.step R.out (below_drewN (Below.refl _ _) nq))
                have OA4 := Lib.hid (own_below OAR.out (below_drewN (Below.refl _ _) nq))
                have HO4 : Hid (OwnM (wr.drewN nq) (g + 1) (wr.drewN nq).heap.size (.slice (some ⟨g', 0, none⟩) m' cap') ps) := Lib.hid (ownM_mono (ownM_below HO.out (below_drewN (Below.refl _ _) nq)) (Nat.le_refl _) (by simp))
                obtain ⟨wq, hwq⟩ : ∃ wq, wq = wr.drewN nq := ⟨_, rfl⟩
                rw [← hwq] at R4 OA4 HO4 ⊢
                clear hwq HO OAR R hc1 hc2
                obtain ⟨wb, hwb⟩ : ∃ wb : World, wb = wq := ⟨_, rfl⟩
                have HOB := HO4
                have OAB := OA4
                have RB := R4
                rw [← hwb] at HOB OAB RB
                have hcell := cell_new1 (wq.alloc (.cells #[.int .i64 k, .int .i64 t] 3)) (.slice (some ⟨wq.heap.size, 0, none⟩) 2 2) 30
                rw [← hwb] at hcell
                rw [show (wb.alloc (.cells #[.int .i64 k, .int .i64 t] 3)).heap.size = wb.heap.size + 1 by simp] at hcell
                have hou : Own ((wb.alloc (.cells #[.int .i64 k, .int .i64 t] 3)).alloc (.cells #[.slice (some ⟨wb.heap.size, 0, none⟩) 2 2] 30)) (g + 1) (.slice (some ⟨wb.heap.size, 0, none⟩) 2 2) [(k : Int), (t : Int)] := own_alloc (own_two wb (g + 1) k t RB.out.lt) _
                have hb3 := ((Below.refl wb.heap.size wb).alloc (Nat.le_refl _) (.cells #[.int .i64 k, .int .i64 t] 3)).alloc (by simp) (.cells #[.slice (some ⟨wb.heap.size, 0, none⟩) 2 2] 30)
                have HOM := Lib.hid (ownM_below HOB.out hb3)
                have HOA := Lib.hid (own_below OAB.out hb3)
                have HRB := Lib.hid (Rds.step RB.out ((Below.refl wb.heap.size wb).alloc (Nat.le_refl _) (.cells #[.int .i64 k, .int .i64 t] 3)))
                have hgl := RB.out.lt
                have HCE := Lib.hid hcell
                have HOU := Lib.hid hou
                have hsw : wb.heap.size ≤ ((wb.alloc (.cells #[.int .i64 k, .int .i64 t] 3)).alloc (.cells #[.slice (some ⟨wb.heap.size, 0, none⟩) 2 2] 30)).heap.size := hb3.size
                clear hcell hou hb3 HOB OAB
                rw [hwb] at HOM HOA HRB hgl HCE HOU hsw RB
                clear hwb
                go_wp2_with (at_builtin; refine wpList_pushV rfl _ _ rfl (g + 1) wq.heap.size m' _ ps rfl HOM.out HM.out ⟨wq.heap.size + 1, 0, none⟩ rfl _ _ HCE.out HOU.out (fun q hq => by simp [Value.ownBlock] at hq; simp; omega) hgl hsw (by omega) ?_; intro g4 cap4 w9 hown4 hgr4)
                have hrow : g + 1 ≤ g' := by
                  obtain ⟨vs, hr⟩ := ownM_row0 HOM.out
                  exact (World.ownsRow.lt hr g' rfl).1
                have hgw := HGW.out
                have HR9 := Lib.hid (Rds.push (g' := g') HRB.out hgr4 (by omega) (by omega))
                have OA9 := Lib.hid (own_grown HOA.out hgr4 (own_apartM HOA.out HOM.out))
                have HO9 := Lib.hid hown4
                clear hown4 hgr4 HOA HOM HRB HCE HOU hsw hgl hgw
                go_wp2
                go_roundw
                case rel => exact ⟨t + 1, g4, cap4, m' + 1, q, ps ++ [[(k : Int), (t : Int)]], by omega, by omega, by go_num, rfl, HO9.out, by simp [HM.out], by omega, by omega, OA9.out, HR9.out⟩
                case measure => simp [intOf]; omega
          · have hd : (x == y) = false := by simpa using hxy
            clear hxy
            by_cases hk1 : kd = 1
            · have ek1 : ((kd : Int) == 1) = true := by simp; omega
              have ek2 : ((kd : Int) == 2) = false := by simp; omega
              clear hk1
              go_wp2
              go_quiet (fail)
              have R4 := Lib.hid (Rds.step R.out (below_drewN (Below.refl _ _) nq))
              have OA4 := Lib.hid (own_below OAR.out (below_drewN (Below.refl _ _) nq))
              have HO4 : Hid (OwnM (wr.drewN nq) (g + 1) (wr.drewN nq).heap.size (.slice (some ⟨g', 0, none⟩) m' cap') ps) := Lib.hid (ownM_mono (ownM_below HO.out (below_drewN (Below.refl _ _) nq)) (Nat.le_refl _) (by simp))
              obtain ⟨wq, hwq⟩ : ∃ wq, wq = wr.drewN nq := ⟨_, rfl⟩
              rw [← hwq] at R4 OA4 HO4 ⊢
              clear hwq HO OAR R hc1 hc2
              go_wp2_with fail
              refine (pick_r R4.out _ (by omega) (by omega) (by omega)).mono ?_
              rintro e w5 ⟨t6, rfl, ht6, r5, hg5⟩
              have OA5 := Lib.hid (Rds.keep OA4.out (Nat.lt_succ_self g) hg5)
              have HO5 := Lib.hid (ownM_reader HO4.out (Nat.lt_succ_self g) hg5)
              have R5 := Lib.hid r5
              clear r5 hg5 R4 OA4 HO4
              by_cases h6 : t6 = 0
              · subst h6
                obtain ⟨wb, hwb⟩ : ∃ wb : World, wb = w5 := ⟨_, rfl⟩
                have HOB := HO5
                have OAB := OA5
                have RB := R5
                rw [← hwb] at HOB OAB RB
                have hcell := cell_new1 (w5.alloc (.cells #[.int .i64 k, .int .i64 t] 3)) (.slice (some ⟨w5.heap.size, 0, none⟩) 2 2) 30
                rw [← hwb] at hcell
                rw [show (wb.alloc (.cells #[.int .i64 k, .int .i64 t] 3)).heap.size = wb.heap.size + 1 by simp] at hcell
                have hou : Own ((wb.alloc (.cells #[.int .i64 k, .int .i64 t] 3)).alloc (.cells #[.slice (some ⟨wb.heap.size, 0, none⟩) 2 2] 30)) (g + 1) (.slice (some ⟨wb.heap.size, 0, none⟩) 2 2) [(k : Int), (t : Int)] := own_alloc (own_two wb (g + 1) k t RB.out.lt) _
                have hb3 := ((Below.refl wb.heap.size wb).alloc (Nat.le_refl _) (.cells #[.int .i64 k, .int .i64 t] 3)).alloc (by simp) (.cells #[.slice (some ⟨wb.heap.size, 0, none⟩) 2 2] 30)
                have HOM := Lib.hid (ownM_below HOB.out hb3)
                have HOA := Lib.hid (own_below OAB.out hb3)
                have HRB := Lib.hid (Rds.step RB.out ((Below.refl wb.heap.size wb).alloc (Nat.le_refl _) (.cells #[.int .i64 k, .int .i64 t] 3)))
                have hgl := RB.out.lt
                have HCE := Lib.hid hcell
                have HOU := Lib.hid hou
                have hsw : wb.heap.size ≤ ((wb.alloc (.cells #[.int .i64 k, .int .i64 t] 3)).alloc (.cells #[.slice (some ⟨wb.heap.size, 0, none⟩) 2 2] 30)).heap.size := hb3.size
                clear hcell hou hb3 HOB OAB
                rw [hwb] at HOM HOA HRB hgl HCE HOU hsw RB
                clear hwb
                go_wp2_with (at_builtin; refine wpList_pushV rfl _ _ rfl (g + 1) w5.heap.size m' _ ps rfl HOM.out HM.out ⟨w5.heap.size + 1, 0, none⟩ rfl _ _ HCE.out HOU.out (fun q hq => by simp [Value.ownBlock] at hq; simp; omega) hgl hsw (by omega) ?_; intro g4 cap4 w9 hown4 hgr4)
                have hrow : g + 1 ≤ g' := by
                  obtain ⟨vs, hr⟩ := ownM_row0 HOM.out
                  exact (World.ownsRow.lt hr g' rfl).1
                have hgw := HGW.out
                have HR9 := Lib.hid (Rds.push (g' := g') HRB.out hgr4 (by omega) (by omega))
                have OA9 := Lib.hid (own_grown HOA.out hgr4 (own_apartM HOA.out HOM.out))
                have HO9 := Lib.hid hown4
                clear hown4 hgr4 HOA HOM HRB HCE HOU hsw hgl hgw
                go_wp2
                go_roundw
                case rel => exact ⟨t + 1, g4, cap4, m' + 1, (q + 1), ps ++ [[(k : Int), (t : Int)]], by omega, by omega, by go_num, rfl, HO9.out, by simp [HM.out], by omega, by omega, OA9.out, HR9.out⟩
                case measure => simp [intOf]; omega
              · have d6 : ((t6 : Int) == 0) = false := by simp; omega
                go_wp2
                go_roundw
                case rel => exact ⟨t + 1, g', cap', m', (q + 1), ps, by omega, by omega, by go_num, rfl, HO5.out, HM.out, by omega, by omega, OA5.out, R5.out⟩
                case measure => simp [intOf]; omega
            · have dk1 : ((kd : Int) == 1) = false := by simp; omega
              by_cases hk2 : kd = 2
              · have ek2 : ((kd : Int) == 2) = true := by simp; omega
                clear hk2 hk1
                go_wp2
                go_quiet (fail)
                have R4 := Lib.hid (Rds.step R.out (below_drewN (Below.refl _ _) nq))
                have OA4 := Lib.hid (own_below OAR.out (below_drewN (Below.refl _ _) nq))
                have HO4 : Hid (OwnM (wr.drewN nq) (g + 1) (wr.drewN nq).heap.size (.slice (some ⟨g', 0, none⟩) m' cap') ps) := Lib.hid (ownM_mono (ownM_below HO.out (below_drewN (Below.refl _ _) nq)) (Nat.le_refl _) (by simp))
                obtain ⟨wq, hwq⟩ : ∃ wq, wq = wr.drewN nq := ⟨_, rfl⟩
                rw [← hwq] at R4 OA4 HO4 ⊢
                clear hwq HO OAR R hc1 hc2
                go_wp2_with fail
                refine (pick_r R4.out _ (by omega) (by omega) (by omega)).mono ?_
                rintro e w5 ⟨t6, rfl, ht6, r5, hg5⟩
                have OA5 := Lib.hid (Rds.keep OA4.out (Nat.lt_succ_self g) hg5)
                have HO5 := Lib.hid (ownM_reader HO4.out (Nat.lt_succ_self g) hg5)
                have R5 := Lib.hid r5
                clear r5 hg5 R4 OA4 HO4
                by_cases h6 : t6 = 0
                · subst h6
                  obtain ⟨wb, hwb⟩ : ∃ wb : World, wb = w5 := ⟨_, rfl⟩
                  have HOB := HO5
                  have OAB := OA5
                  have RB := R5
                  rw [← hwb] at HOB OAB RB
                  have hcell := cell_new1 (w5.alloc (.cells #[.int .i64 k, .int .i64 t] 3)) (.slice (some ⟨w5.heap.size, 0, none⟩) 2 2) 30
                  rw [← hwb] at hcell
                  rw [show (wb.alloc (.cells #[.int .i64 k, .int .i64 t] 3)).heap.size = wb.heap.size + 1 by simp] at hcell
                  have hou : Own ((wb.alloc (.cells #[.int .i64 k, .int .i64 t] 3)).alloc (.cells #[.slice (some ⟨wb.heap.size, 0, none⟩) 2 2] 30)) (g + 1) (.slice (some ⟨wb.heap.size, 0, none⟩) 2 2) [(k : Int), (t : Int)] := own_alloc (own_two wb (g + 1) k t RB.out.lt) _
                  have hb3 := ((Below.refl wb.heap.size wb).alloc (Nat.le_refl _) (.cells #[.int .i64 k, .int .i64 t] 3)).alloc (by simp) (.cells #[.slice (some ⟨wb.heap.size, 0, none⟩) 2 2] 30)
                  have HOM := Lib.hid (ownM_below HOB.out hb3)
                  have HOA := Lib.hid (own_below OAB.out hb3)
                  have HRB := Lib.hid (Rds.step RB.out ((Below.refl wb.heap.size wb).alloc (Nat.le_refl _) (.cells #[.int .i64 k, .int .i64 t] 3)))
                  have hgl := RB.out.lt
                  have HCE := Lib.hid hcell
                  have HOU := Lib.hid hou
                  have hsw : wb.heap.size ≤ ((wb.alloc (.cells #[.int .i64 k, .int .i64 t] 3)).alloc (.cells #[.slice (some ⟨wb.heap.size, 0, none⟩) 2 2] 30)).heap.size := hb3.size
                  clear hcell hou hb3 HOB OAB
                  rw [hwb] at HOM HOA HRB hgl HCE HOU hsw RB
                  clear hwb
                  go_wp2_with (at_builtin; refine wpList_pushV rfl _ _ rfl (g + 1) w5.heap.size m' _ ps rfl HOM.out HM.out ⟨w5.heap.size + 1, 0, none⟩ rfl _ _ HCE.out HOU.out (fun q hq => by simp [Value.ownBlock] at hq; simp; omega) hgl hsw (by omega) ?_; intro g4 cap4 w9 hown4 hgr4)
                  have hrow : g + 1 ≤ g' := by
                    obtain ⟨vs, hr⟩ := ownM_row0 HOM.out
                    exact (World.ownsRow.lt hr g' rfl).1
                  have hgw := HGW.out
                  have HR9 := Lib.hid (Rds.push (g' := g') HRB.out hgr4 (by omega) (by omega))
                  have OA9 := Lib.hid (own_grown HOA.out hgr4 (own_apartM HOA.out HOM.out))
                  have HO9 := Lib.hid hown4
                  clear hown4 hgr4 HOA HOM HRB HCE HOU hsw hgl hgw
                  go_wp2
                  go_roundw
                  case rel => exact ⟨t + 1, g4, cap4, m' + 1, (q + 1), ps ++ [[(k : Int), (t : Int)]], by omega, by omega, by go_num, rfl, HO9.out, by simp [HM.out], by omega, by omega, OA9.out, HR9.out⟩
                  case measure => simp [intOf]; omega
                · have d6 : ((t6 : Int) == 0) = false := by simp; omega
                  go_wp2
                  go_roundw
                  case rel => exact ⟨t + 1, g', cap', m', (q + 1), ps, by omega, by omega, by go_num, rfl, HO5.out, HM.out, by omega, by omega, OA5.out, R5.out⟩
                  case measure => simp [intOf]; omega
              · have dk2 : ((kd : Int) == 2) = false := by simp; omega
                go_wp2
                go_quiet (fail)
                have R4 := Lib.hid (Rds.step R.out (below_drewN (Below.refl _ _) nq))
                have OA4 := Lib.hid (own_below OAR.out (below_drewN (Below.refl _ _) nq))
                have HO4 : Hid (OwnM (wr.drewN nq) (g + 1) (wr.drewN nq).heap.size (.slice (some ⟨g', 0, none⟩) m' cap') ps) := Lib.hid (ownM_mono (ownM_below HO.out (below_drewN (Below.refl _ _) nq)) (Nat.le_refl _) (by simp))
                obtain ⟨wq, hwq⟩ : ∃ wq, wq = wr.drewN nq := ⟨_, rfl⟩
                rw [← hwq] at R4 OA4 HO4 ⊢
                clear hwq HO OAR R hc1 hc2
                go_wp2
                go_roundw
                case rel => exact ⟨t + 1, g', cap', m', q, ps, by omega, by omega, by go_num, rfl, HO4.out, HM.out, by omega, by omega, OA4.out, R4.out⟩
                case measure => simp [intOf]; omega
        · have htn' : t = n := by omega
          subst htn'
          have HO := Lib.hid hown
          have HM := Lib.hid hm'
          have OAR := Lib.hid hoa
          have R := Lib.hid hr
          clear hown hm' hoa hr
          go_wp2
          go_roundw
          case rel => exact ⟨k + 1, g', cap', m', q, ps, by omega, by go_num, rfl, HO.out, HM.out, by omega, by omega, OAR.out, R.out⟩
          case measure => simp [intOf]; omega
    · have hkn : k = n := by omega
      subst hkn
      go_wp2_with fail
      refine (pick_r R1.out _ (by omega) (by omega) (by omega)).mono ?_
      rintro e w5 ⟨t6, rfl, ht6, r5, hg5⟩
      have HO5 := Lib.hid (ownM_reader HO1.out (Nat.lt_succ_self g) hg5)
      have R5 := Lib.hid r5
      clear r5 hg5
      by_cases h6 : t6 = 0
      · subst h6
        have hcell := cell_new1 (w5.alloc (.cells #[.int .i64 0, .int .i64 0] 3)) (.slice (some ⟨w5.heap.size, 0, none⟩) 2 2) 30
        rw [show (w5.alloc (.cells #[.int .i64 0, .int .i64 0] 3)).heap.size = w5.heap.size + 1 by simp] at hcell
        have hou : Own ((w5.alloc (.cells #[.int .i64 0, .int .i64 0] 3)).alloc (.cells #[.slice (some ⟨w5.heap.size, 0, none⟩) 2 2] 30)) (g + 1) (.slice (some ⟨w5.heap.size, 0, none⟩) 2 2) [(0 : Int), (0 : Int)] := own_alloc (own_two w5 (g + 1) 0 0 R5.out.lt) _
        have hb3 := ((Below.refl w5.heap.size w5).alloc (Nat.le_refl _) (.cells #[.int .i64 0, .int .i64 0] 3)).alloc (by simp) (.cells #[.slice (some ⟨w5.heap.size, 0, none⟩) 2 2] 30)
        have HOM := Lib.hid (ownM_below HO5.out hb3)
        have hb5 := below_step R5.out.below hb3
        have HB5 := Lib.hid hb5
        have hgl := R5.out.lt
        have HCE := Lib.hid hcell
        have HOU := Lib.hid hou
        have hsw := hb3.size
        clear hcell hou hb3 hb5
        go_wp2_with (at_builtin; refine wpList_pushV rfl _ _ rfl (g + 1) w5.heap.size m' _ ps rfl HOM.out HM1.out ⟨w5.heap.size + 1, 0, none⟩ rfl _ _ HCE.out HOU.out (fun q hq => by simp [Value.ownBlock] at hq; simp; omega) hgl hsw (by omega) ?_; intro g4 cap4 w9 hown4 hgr4)
        have hrow : g + 1 ≤ g' := by
          obtain ⟨vs, hr⟩ := ownM_row0 HOM.out
          exact (World.ownsRow.lt hr g' rfl).1
        have hb9 : Below w.heap.size w w9 := HB5.out.grown hgr4 HB5.out.size (fun q hq => by cases hq; show w.heap.size ≤ g'; have := HGW.out; omega)
        have HO9 := Lib.hid hown4
        clear hown4 hgr4
        go_wp2
        go_ret2
        exact ⟨k, _, ps ++ [[0, 0]], rfl, ⟨hn1, hn5⟩, ownM_rdM (by simpa [HM1.out] using HO9.out), by have := HM1.out; simp; omega, hb9⟩
      · have d6 : ((t6 : Int) == 0) = false := by simp; omega
        have hb9 := R5.out.below
        go_wp2
        go_ret2
        exact ⟨k, _, ps, rfl, ⟨hn1, hn5⟩, by simpa [HM1.out] using ownM_rdM HO5.out, by have := HM1.out; omega, hb9⟩

theorem drawPairIn_any (a : Option Addr) (len cap : Nat) (w : World) (hby : Bytes w a len) (hlen : len ≤ 1048576) (hc : len ≤ cap) (hcm : cap ≤ maxLen) :
    Calls Try.prog 16 #[.slice a len cap] w (PairsDrawn w) := by
  go_enter Try.func16, Try.ntmps16
  go_wp2_with fail
  refine (l92Pairs_any a len cap w hby hlen hc hcm).mono ?_
  rintro e w1 ⟨n, v, ps, rfl, h⟩
  go_wp2
  go_ret2
  exact ⟨n, v, ps, rfl, h⟩

theorem drawPairPart_any (a : Option Addr) (len cap : Nat) (w : World) (hby : Bytes w a len) (hlen : len ≤ 1048576) (hc : len ≤ cap) (hcm : cap ≤ maxLen) :
    Calls Try.prog 27 #[.slice a len cap] w (PairsDrawn w) := by
  go_enter Try.func27, Try.ntmps27
  go_wp2_with fail
  refine (l92Pairs_any a len cap w hby hlen hc hcm).mono ?_
  rintro e w1 ⟨n, v, ps, rfl, h⟩
  go_wp2
  go_ret2
  exact ⟨n, v, ps, rfl, h⟩

theorem drawPairWhole_any (a : Option Addr) (len cap : Nat) (w : World) (hby : Bytes w a len) (hlen : len ≤ 1048576) (hc : len ≤ cap) (hcm : cap ≤ maxLen) :
    Calls Try.prog 31 #[.slice a len cap] w (PairsDrawn w) := by
  go_enter Try.func31, Try.ntmps31
  go_wp2_with fail
  refine (l92Pairs_any a len cap w hby hlen hc hcm).mono ?_
  rintro e w1 ⟨n, v, ps, rfl, h⟩
  go_wp2
  go_ret2
  exact ⟨n, v, ps, rfl, h⟩

theorem drawPairChanges_any (a : Option Addr) (len cap : Nat) (w : World) (hby : Bytes w a len) (hlen : len ≤ 1048576) (hc : len ≤ cap) (hcm : cap ≤ maxLen) :
    Calls Try.prog 36 #[.slice a len cap] w (PairsDrawn w) := by
  go_enter Try.func36, Try.ntmps36
  go_wp2_with fail
  refine (l92Pairs_any a len cap w hby hlen hc hcm).mono ?_
  rintro e w1 ⟨n, v, ps, rfl, h⟩
  go_wp2
  go_ret2
  exact ⟨n, v, ps, rfl, h⟩

theorem drawPairBest_any (a : Option Addr) (len cap : Nat) (w : World) (hby : Bytes w a len) (hlen : len ≤ 1048576) (hc : len ≤ cap) (hcm : cap ≤ maxLen) :
    Calls Try.prog 38 #[.slice a len cap] w (PairsDrawn w) := by
  go_enter Try.func38, Try.ntmps38
  go_wp2_with fail
  refine (l92Pairs_any a len cap w hby hlen hc hcm).mono ?_
  rintro e w1 ⟨n, v, ps, rfl, h⟩
  go_wp2
  go_ret2
  exact ⟨n, v, ps, rfl, h⟩

theorem drawPairThree_any (a : Option Addr) (len cap : Nat) (w : World) (hby : Bytes w a len) (hlen : len ≤ 1048576) (hc : len ≤ cap) (hcm : cap ≤ maxLen) :
    Calls Try.prog 40 #[.slice a len cap] w (PairsDrawn w) := by
  go_enter Try.func40, Try.ntmps40
  go_wp2_with fail
  refine (l92Pairs_any a len cap w hby hlen hc hcm).mono ?_
  rintro e w1 ⟨n, v, ps, rfl, h⟩
  go_wp2
  go_ret2
  exact ⟨n, v, ps, rfl, h⟩

theorem drawPairOther_any (a : Option Addr) (len cap : Nat) (w : World) (hby : Bytes w a len) (hlen : len ≤ 1048576) (hc : len ≤ cap) (hcm : cap ≤ maxLen) :
    Calls Try.prog 42 #[.slice a len cap] w (PairsDrawn w) := by
  go_enter Try.func42, Try.ntmps42
  go_wp2_with fail
  refine (l92Pairs_any a len cap w hby hlen hc hcm).mono ?_
  rintro e w1 ⟨n, v, ps, rfl, h⟩
  go_wp2
  go_ret2
  exact ⟨n, v, ps, rfl, h⟩

set_option maxHeartbeats 1600000 in
theorem drawPairOf_any (a : Option Addr) (len cap : Nat) (w : World) (hby : Bytes w a len) (hlen : len ≤ 1048576) (hc : len ≤ cap) (hcm : cap ≤ maxLen) :
    Calls Try.prog 20 #[.slice a len cap] w (ListDrawn w) := by
  go_enter Try.func20, Try.ntmps20
  go_wp2_with fail
  refine (open_r a len cap w hby hlen hc hcm).mono ?_
  rintro e w1 ⟨g, m, cp, rfl, r1⟩
  go_wp2_with fail
  refine (pick_r r1 _ (by omega) (by omega) (by omega)).mono ?_
  rintro e w2 ⟨t, rfl, ht, r2, hg2⟩
  clear hg2
  go_wp2_with fail
  refine (pick_r r2 _ (by omega) (by omega) (by omega)).mono ?_
  rintro e w3 ⟨t2, rfl, ht2, r3, hg3⟩
  clear hg3 r1 r2
  have ht24 : t2 < 24 := by omega
  have hd0 : 0 ≤ (t2 : Int) / 23 := by omega
  have hd1 : (t2 : Int) / 23 ≤ 1 := by omega
  obtain ⟨d, hdd⟩ : ∃ d, d = (t2 : Int) / 23 := ⟨_, rfl⟩
  have HDD := Lib.hid hdd
  rw [← hdd] at hd0 hd1
  clear hdd
  go_wp2_with fail
  rw [← HDD.out]
  refine (part_r r3 _ (by omega) (by omega) (by omega)).mono ?_
  rintro e w4 ⟨v, xs, q, rfl, oa, hl, hx, hq, r4, hg4⟩
  have hb := r4.below
  have hs := r3.below.size
  have OA := Lib.hid (own_mono oa hs)
  clear oa hg4 hx
  go_wp2
  go_ret
  exact ⟨_, xs, rfl, OA.out, hl, hb⟩

end Go.Proofs.Ytbmpchpcihnbdaa

/-
  Plain lists: what is asked of each partition of at most eight things, one by one. No program is named here.
-/
namespace Go.Proofs.Ytbmpchpcihnbdaa
set_option linter.unusedSimpArgs false
set_option linter.unusedVariables false
set_option linter.unnecessarySimpa false

/-- p holds of each list that goes on from pre, by at most d numbers, b being the next new block. -/
def forParts (p : List Int → Bool) : Nat → Nat → List Int → Bool
  | 0, _, _ => true
  | d + 1, b, pre => (List.range (b + 1)).all fun v => p (pre ++ [(v : Int)]) && forParts p d (if v = b then b + 1 else b) (pre ++ [(v : Int)])

theorem forParts_at (p : List Int → Bool) : ∀ (d b : Nat) (pre rest : List Int), forParts p d b pre = true → rest ≠ [] → rest.length ≤ d → okFrom (b : Int) rest = true → p (pre ++ rest) = true := by
  intro d
  induction d with
  | zero =>
    intro b pre rest _ hne hl
    cases rest with
    | nil => exact absurd rfl hne
    | cons x r => simp at hl
  | succ d ih =>
    intro b pre rest h hne hl hok
    cases rest with
    | nil => exact absurd rfl hne
    | cons x r =>
      simp only [okFrom, Bool.and_eq_true, decide_eq_true_eq] at hok
      obtain ⟨⟨h0, h1⟩, h2⟩ := hok
      obtain ⟨v, rfl⟩ := Int.eq_ofNat_of_zero_le h0
      have hv := (List.all_eq_true.1 h) v (by simp; omega)
      simp only [Bool.and_eq_true] at hv
      by_cases hr : r = []
      · subst hr; exact hv.1
      · have e : pre ++ (v : Int) :: r = (pre ++ [(v : Int)]) ++ r := by simp
        rw [e]
        refine ih _ _ r hv.2 hr (by simp at hl; omega) ?_
        split at h2
        · rw [if_pos (by omega)]; simpa using h2
        · rw [if_neg (by omega)]; exact h2

/-- What holds of each partition, one by one, holds of whatever partition there is. -/
theorem parts_all (p : List Int → Bool) (h : forParts p 8 0 [] = true) {xs : List Int} (hx : partIn xs = true) : p xs = true := by
  have hl := partIn_len hx
  have := forParts_at p 8 0 [] xs h (by intro e; rw [e] at hl; simp at hl) hl.2 (partIn_ok hx)
  simpa using this

end Go.Proofs.Ytbmpchpcihnbdaa

/-
  Plain lists: the join of two partitions, by passes that hand least numbers on, and by trees of things; both tell the same. No program is named here.
-/
namespace Go.Proofs.Ytbmpchpcihnbdaa
set_option linter.unusedSimpArgs false
set_option linter.unusedVariables false
set_option linter.unnecessarySimpa false

/-- Together in one of both. -/
def tog (xs ys : List Int) (i k : Nat) : Bool := decide (xs.getD i 0 = xs.getD k 0) || decide (ys.getD i 0 = ys.getD k 0)

theorem tog_iff {xs ys : List Int} {i k : Nat} : tog xs ys i k = true ↔ xs.getD i 0 = xs.getD k 0 ∨ ys.getD i 0 = ys.getD k 0 := by
  simp only [tog, Bool.or_eq_true, decide_eq_true_eq]

theorem tog_symm {xs ys : List Int} {i k : Nat} (h : tog xs ys i k = true) : tog xs ys k i = true := by
  rw [tog_iff] at h ⊢
  rcases h with h | h
  · exact .inl h.symm
  · exact .inr h.symm

def joinK (xs ys f : List Int) (i k : Nat) : List Int := if tog xs ys i k then f.set i (min (f.getD i 0) (f.getD k 0)) else f
def joinRow (xs ys f : List Int) (i : Nat) : Nat → List Int
  | 0 => f
  | k + 1 => joinK xs ys (joinRow xs ys f i k) i k
def joinPass (xs ys f : List Int) (n : Nat) : Nat → List Int
  | 0 => f
  | i + 1 => joinRow xs ys (joinPass xs ys f n i) i n
def joinAll (xs ys : List Int) (n : Nat) : Nat → List Int
  | 0 => iota 0 n
  | t + 1 => joinPass xs ys (joinAll xs ys n t) n n

theorem getD_setI (l : List Int) (k : Nat) (x : Int) (q : Nat) (hk : k < l.length) : (l.set k x).getD q 0 = if q = k then x else l.getD q 0 := by
  rw [List.getD_eq_getElem?_getD, List.getElem?_set]
  by_cases e : k = q
  · subst e
    simp [hk]
  · rw [if_neg e, if_neg (fun e' => e e'.symm), ← List.getD_eq_getElem?_getD]

section
variable (xs ys : List Int) (n : Nat)

/-- What holds of a list and of each change of it holds in the end. -/
theorem row_ind (P : List Int → Prop) (hP : ∀ f i k, i < n → k < n → tog xs ys i k = true → P f → P (f.set i (min (f.getD i 0) (f.getD k 0)))) (f : List Int) (i : Nat) (hi : i < n) (h : P f) : ∀ k, k ≤ n → P (joinRow xs ys f i k) := by
  intro k
  induction k with
  | zero => intro _; exact h
  | succ k ih =>
    intro hk
    unfold joinRow joinK
    split
    · rename_i ht
      exact hP _ i k hi (by omega) ht (ih (by omega))
    · exact ih (by omega)

theorem pass_ind (P : List Int → Prop) (hP : ∀ f i k, i < n → k < n → tog xs ys i k = true → P f → P (f.set i (min (f.getD i 0) (f.getD k 0)))) (f : List Int) (h : P f) : ∀ i, i ≤ n → P (joinPass xs ys f n i) := by
  intro i
  induction i with
  | zero => intro _; exact h
  | succ i ih =>
    intro hi
    exact row_ind xs ys n P hP _ i (by omega) (ih (by omega)) n (Nat.le_refl _)

theorem all_ind (P : List Int → Prop) (hP : ∀ f i k, i < n → k < n → tog xs ys i k = true → P f → P (f.set i (min (f.getD i 0) (f.getD k 0)))) (h : P (iota 0 n)) : ∀ t, P (joinAll xs ys n t) := by
  intro t
  induction t with
  | zero => exact h
  | succ t ih => exact pass_ind xs ys n P hP _ ih n (Nat.le_refl _)

/-- As long as told, and nowhere greater. -/
def LeOf (f h : List Int) : Prop := h.length = n ∧ ∀ j, j < n → h.getD j 0 ≤ f.getD j 0

theorem le_step (f : List Int) (h : List Int) (i k : Nat) (hi : i < n) (hk : k < n) (hh : LeOf n f h) : LeOf n f (h.set i (min (h.getD i 0) (h.getD k 0))) := by
  refine ⟨by rw [List.length_set]; exact hh.1, fun j hj => ?_⟩
  rw [getD_setI _ _ _ _ (by rw [hh.1]; exact hi)]
  have h1 := hh.2 j hj
  split
  · rename_i e
    subst e
    omega
  · exact h1

theorem row_le (f : List Int) (hf : f.length = n) (i : Nat) (hi : i < n) (k : Nat) (hk : k ≤ n) : LeOf n f (joinRow xs ys f i k) :=
  row_ind xs ys n (LeOf n f) (fun h i k hi hk _ hh => le_step n f h i k hi hk hh) f i hi ⟨hf, fun _ _ => Int.le_refl _⟩ k hk

theorem pass_le (f : List Int) (hf : f.length = n) (i : Nat) (hi : i ≤ n) : LeOf n f (joinPass xs ys f n i) :=
  pass_ind xs ys n (LeOf n f) (fun h i k hi hk _ hh => le_step n f h i k hi hk hh) f ⟨hf, fun _ _ => Int.le_refl _⟩ i hi

theorem row_hit (f : List Int) (hf : f.length = n) (i : Nat) (hi : i < n) : ∀ k, k ≤ n → ∀ q, q < k → tog xs ys i q = true → (joinRow xs ys f i k).getD i 0 ≤ f.getD q 0 := by
  intro k
  induction k with
  | zero => intro _ q hq; omega
  | succ k ih =>
    intro hk q hq ht
    have hl := row_le xs ys n f hf i hi k (by omega)
    unfold joinRow joinK
    by_cases e : q = k
    · subst e
      rw [if_pos ht, getD_setI _ _ _ _ (by rw [hl.1]; exact hi), if_pos rfl]
      have := hl.2 q (by omega)
      omega
    · have h1 := ih (by omega) q (by omega) ht
      split
      · rw [getD_setI _ _ _ _ (by rw [hl.1]; exact hi), if_pos rfl]
        omega
      · exact h1

theorem pass_hit (f : List Int) (hf : f.length = n) : ∀ i, i ≤ n → ∀ j, j < i → ∀ q, q < n → tog xs ys j q = true → (joinPass xs ys f n i).getD j 0 ≤ f.getD q 0 := by
  intro i
  induction i with
  | zero => intro _ j hj; omega
  | succ i ih =>
    intro hi j hj q hq ht
    have hl := pass_le xs ys n f hf i (by omega)
    show (joinRow xs ys (joinPass xs ys f n i) i n).getD j 0 ≤ _
    by_cases e : j = i
    · subst e
      have h1 := row_hit xs ys n _ hl.1 j (by omega) n (Nat.le_refl _) q hq ht
      have := hl.2 q hq
      omega
    · have h1 := ih (by omega) j (by omega) q hq ht
      have := (row_le xs ys n _ hl.1 i (by omega) n (Nat.le_refl _)).2 j (by omega)
      omega

/-- Whatever is together has a number up to m, if one of it has. -/
def Shut (m : Int) (f : List Int) : Prop := ∀ i k, i < n → k < n → tog xs ys i k = true → f.getD k 0 ≤ m → f.getD i 0 ≤ m

theorem pass_shut (m : Int) (f : List Int) (hf : f.length = n) (hs : Shut xs ys n m f) : ∀ j, j < n → (joinPass xs ys f n n).getD j 0 ≤ m → f.getD j 0 ≤ m := by
  refine (pass_ind xs ys n (fun h => h.length = n ∧ ∀ j, j < n → h.getD j 0 ≤ m → f.getD j 0 ≤ m) ?_ f ⟨hf, fun _ _ h => h⟩ n (Nat.le_refl _)).2
  intro h i k hi hk ht ⟨hl, hh⟩
  refine ⟨by rw [List.length_set]; exact hl, fun j hj e => ?_⟩
  rw [getD_setI _ _ _ _ (by rw [hl]; exact hi)] at e
  split at e
  · rename_i e2
    subst e2
    rcases Int.le_total (h.getD j 0) (h.getD k 0) with h1 | h1
    · exact hh j hj (by omega)
    · exact hs j k hj hk ht (hh k hk (by omega))
  · exact hh j hj e

def upTo (m : Int) (f : List Int) : Nat := ((List.range n).filter fun j => decide (f.getD j 0 ≤ m)).length

theorem filter_len_le (p q : Nat → Bool) (l : List Nat) (h : ∀ x ∈ l, p x = true → q x = true) : (l.filter p).length ≤ (l.filter q).length := by
  induction l with
  | nil => exact Nat.le_refl _
  | cons x l ih =>
    have h1 := ih fun y hy => h y (by simp [hy])
    have h2 := h x (by simp)
    simp only [List.filter_cons]
    cases hp : p x
    · cases hq : q x <;> simp <;> omega
    · rw [h2 hp]; simp; omega

theorem filter_len_lt (p q : Nat → Bool) (l : List Nat) (h : ∀ x ∈ l, p x = true → q x = true) (y : Nat) (hy : y ∈ l) (h1 : p y = false) (h2 : q y = true) : (l.filter p).length < (l.filter q).length := by
  induction l with
  | nil => cases hy
  | cons x l ih =>
    have hle := filter_len_le p q l fun z hz => h z (by simp [hz])
    simp only [List.filter_cons]
    rcases List.mem_cons.1 hy with e | hm
    · subst e
      rw [h1, h2]
      simp
      omega
    · have h3 := ih (fun z hz => h z (by simp [hz])) hm
      have h4 := h x (by simp)
      cases hp : p x
      · cases hq : q x <;> simp <;> omega
      · rw [h4 hp]; simp; omega

theorem joinAll_len (t : Nat) : (joinAll xs ys n t).length = n :=
  all_ind xs ys n (fun f => f.length = n) (fun f i k _ _ _ h => by rw [List.length_set]; exact h) (iota_length 0 n) t

theorem shut_or (m : Nat) (hm : m < n) : ∀ t, Shut xs ys n m (joinAll xs ys n t) ∨ t + 1 ≤ upTo n m (joinAll xs ys n t) := by
  intro t
  induction t with
  | zero =>
    refine .inr ?_
    have : m ∈ (List.range n).filter fun j => decide ((iota 0 n).getD j 0 ≤ (m : Int)) := by
      rw [List.mem_filter]
      refine ⟨by simpa using hm, ?_⟩
      rw [iota_getD _ _ _ hm]
      simp
    exact List.length_pos_of_mem this
  | succ t ih =>
    have hl := joinAll_len xs ys n t
    have hle := (pass_le xs ys n _ hl n (Nat.le_refl _)).2
    by_cases hs : Shut xs ys n m (joinAll xs ys n t)
    · refine .inl fun i k hi hk ht e => ?_
      have h1 := pass_shut xs ys n m _ hl hs k hk e
      have h2 := hs i k hi hk ht h1
      have h3 := hle i hi
      show (joinPass xs ys (joinAll xs ys n t) n n).getD i 0 ≤ _
      omega
    · rcases ih with h | h
      · exact absurd h hs
      · refine .inr ?_
        have hex : ∃ i k, i < n ∧ k < n ∧ tog xs ys i k = true ∧ (joinAll xs ys n t).getD k 0 ≤ m ∧ ¬ (joinAll xs ys n t).getD i 0 ≤ m := by
          refine Classical.byContradiction fun hc => hs fun i k hi hk ht e => ?_
          refine Classical.byContradiction fun h2 => hc ⟨i, k, hi, hk, ht, e, h2⟩
        obtain ⟨i, k, hi, hk, ht, e1, e2⟩ := hex
        have h3 := pass_hit xs ys n _ hl n (Nat.le_refl _) i hi k hk ht
        have : upTo n m (joinAll xs ys n t) < upTo n m (joinAll xs ys n (t + 1)) := by
          refine filter_len_lt _ _ _ (fun j hj e => ?_) i (by simpa using hi) (by simpa using e2) ?_
          · have := hle j (by simpa using hj)
            simp only [decide_eq_true_eq] at e ⊢
            show (joinPass xs ys (joinAll xs ys n t) n n).getD j 0 ≤ _
            omega
          · simp only [decide_eq_true_eq]
            show (joinPass xs ys (joinAll xs ys n t) n n).getD i 0 ≤ _
            omega
        omega

theorem join_shut (m : Nat) (hm : m < n) : Shut xs ys n m (joinAll xs ys n n) := by
  rcases shut_or xs ys n m hm n with h | h
  · exact h
  · have := List.length_filter_le (fun j => decide ((joinAll xs ys n n).getD j 0 ≤ (m : Int))) (List.range n)
    rw [List.length_range] at this
    unfold upTo at h
    omega

/-- Each number is that of a thing, which any g that keeps together what is together tells alike. -/
def Good (g : Nat → Int) (f : List Int) : Prop := f.length = n ∧ ∀ i, i < n → 0 ≤ f.getD i 0 ∧ (f.getD i 0).toNat < n ∧ g (f.getD i 0).toNat = g i

theorem join_good (g : Nat → Int) (hg : ∀ i k, i < n → k < n → tog xs ys i k = true → g i = g k) (t : Nat) : Good n g (joinAll xs ys n t) := by
  refine all_ind xs ys n (Good n g) ?_ ⟨iota_length 0 n, fun i hi => ?_⟩ t
  · intro f i k hi hk ht ⟨hl, hf⟩
    refine ⟨by rw [List.length_set]; exact hl, fun j hj => ?_⟩
    rw [getD_setI _ _ _ _ (by rw [hl]; exact hi)]
    split
    · rename_i e
      subst e
      have h1 := hf j hj
      have h2 := hf k hk
      rcases Int.le_total (f.getD j 0) (f.getD k 0) with h3 | h3
      · rw [Int.min_eq_left h3]; exact h1
      · rw [Int.min_eq_right h3]
        exact ⟨h2.1, h2.2.1, h2.2.2.trans (hg j k hj hk ht).symm⟩
    · exact hf j hj
  · rw [iota_getD _ _ _ hi]
    simp [hi]

theorem join_eq {i k : Nat} (hi : i < n) (hk : k < n) (ht : tog xs ys i k = true) : (joinAll xs ys n n).getD i 0 = (joinAll xs ys n n).getD k 0 := by
  have hgd := join_good xs ys n (fun _ => 0) (fun _ _ _ _ _ => rfl) n
  have h1 := hgd.2 i hi
  have h2 := hgd.2 k hk
  have s1 := join_shut xs ys n ((joinAll xs ys n n).getD i 0).toNat h1.2.1 k i hk hi (tog_symm ht) (by omega)
  have s2 := join_shut xs ys n ((joinAll xs ys n n).getD k 0).toNat h2.2.1 i k hi hk ht (by omega)
  omega

/-- Any numbers that keep together what is together, and are told by things alike, tell the join. -/
theorem join_tells (r : List Int) (hr : r.length = n) (heq : ∀ i k, i < n → k < n → tog xs ys i k = true → r.getD i 0 = r.getD k 0)
    (hgood : ∀ g : Nat → Int, (∀ i k, i < n → k < n → tog xs ys i k = true → g i = g k) → Good n g r) : kOut r = kOut (joinAll xs ys n n) := by
  have hl := joinAll_len xs ys n n
  refine (kOut_pat (joinAll xs ys n n) r (by rw [hr, hl]) fun i j hi hj => ?_).1
  rw [hl] at hi hj
  constructor
  · intro e
    have hg := join_good xs ys n (fun i => r.getD i 0) heq n
    have h1 := (hg.2 i hi).2.2
    have h2 := (hg.2 j hj).2.2
    rw [e] at h1
    exact h1.symm.trans h2
  · intro e
    have hg := hgood (fun i => (joinAll xs ys n n).getD i 0) (fun i k hi hk ht => join_eq xs ys n hi hk ht)
    have h1 := (hg.2 i hi).2.2
    have h2 := (hg.2 j hj).2.2
    rw [e] at h1
    exact h1.symm.trans h2
end

def finerJoin (xs ys : List Int) : List Int × Bool := if alike xs ys then (kOut (joinAll xs ys xs.length xs.length), true) else ([], false)

theorem finerJoin_len (xs ys : List Int) (h : xs.length ≤ 1048576) (_ : ys.length ≤ 1048576) : (finerJoin xs ys).1.length ≤ 2305843009213693952 := by
  unfold finerJoin
  split
  · rw [kOut_length, joinAll_len]; omega
  · simp

/-- Trees of things: par leads to a lesser thing, or a root to itself; rt tells the root. -/
def Forest (n : Nat) (par rt : Nat → Nat) : Prop := ∀ j, j < n → rt j < n ∧ ((par j = j ∧ rt j = j) ∨ (par j < j ∧ rt (par j) = rt j))

theorem forest_root {n : Nat} {par rt : Nat → Nat} (h : Forest n par rt) {j : Nat} (hj : j < n) : rt (rt j) = rt j := by
  have : ∀ k j, j ≤ k → j < n → rt (rt j) = rt j := by
    intro k
    induction k with
    | zero =>
      intro j hjk hj
      rcases (h j hj).2 with ⟨_, h2⟩ | ⟨h1, _⟩
      · rw [h2, h2]
      · omega
    | succ k ih =>
      intro j hjk hj
      rcases (h j hj).2 with ⟨_, h2⟩ | ⟨h1, h2⟩
      · rw [h2, h2]
      · rw [← h2]
        exact ih (par j) (by omega) (by omega)
  exact this j j (Nat.le_refl _) hj

theorem forest_par_root {n : Nat} {par rt : Nat → Nat} (h : Forest n par rt) {j : Nat} (hj : j < n) : par (rt j) = rt j := by
  have hr := forest_root h hj
  rcases (h (rt j) (h j hj).1).2 with ⟨h1, _⟩ | ⟨h1, h2⟩
  · exact h1
  · -- a root that leads on has a root below itself
    have hlt : ∀ k j, j ≤ k → j < n → rt j ≤ j := by
      intro k
      induction k with
      | zero =>
        intro j hjk hj
        rcases (h j hj).2 with ⟨_, h3⟩ | ⟨h3, _⟩ <;> omega
      | succ k ih =>
        intro j hjk hj
        rcases (h j hj).2 with ⟨_, h3⟩ | ⟨h3, h4⟩
        · omega
        · have := ih (par j) (by omega) (by omega)
          omega
    have h3 := hlt _ (par (rt j)) (Nat.le_refl _) (by have := (h j hj).1; omega)
    omega

/-- The root b is hung below the lesser root a. -/
def hang (f : Nat → Nat) (b a : Nat) : Nat → Nat := fun j => if j = b then a else f j
def rehang (rt : Nat → Nat) (b a : Nat) : Nat → Nat := fun j => if rt j = b then a else rt j

theorem forest_hang {n : Nat} {par rt : Nat → Nat} (h : Forest n par rt) {a b : Nat} (hb : b < n) (hab : a < b) (ha : rt a = a) (hbr : rt b = b) : Forest n (hang par b a) (rehang rt b a) := by
  intro j hj
  have hj1 := h j hj
  refine ⟨by unfold rehang; split <;> omega, ?_⟩
  by_cases e : j = b
  · subst e
    refine .inr ⟨by unfold hang; rw [if_pos rfl]; exact hab, ?_⟩
    unfold hang rehang
    rw [if_pos rfl, if_pos hbr, if_neg (by rw [ha]; omega), ha]
  · rcases hj1.2 with ⟨h1, h2⟩ | ⟨h1, h2⟩
    · refine .inl ⟨by unfold hang; rw [if_neg e]; exact h1, ?_⟩
      unfold rehang
      rw [if_neg (by rw [h2]; exact e)]
      exact h2
    · refine .inr ⟨by unfold hang; rw [if_neg e]; exact h1, ?_⟩
      unfold hang rehang
      rw [if_neg e, h2]

/-- The roots behind tying i and k. -/
def tied (rt : Nat → Nat) (i k : Nat) : Nat → Nat := if rt i < rt k then rehang rt (rt k) (rt i) else if rt k < rt i then rehang rt (rt i) (rt k) else rt

theorem tied_keeps (rt : Nat → Nat) (i k : Nat) {a b : Nat} (h : rt a = rt b) : tied rt i k a = tied rt i k b := by
  unfold tied rehang
  split
  · simp only [h]
  · split
    · simp only [h]
    · exact h

theorem tied_eq (rt : Nat → Nat) (i k : Nat) : tied rt i k i = tied rt i k k := by
  unfold tied rehang
  split
  · dsimp only
    rw [if_neg (by omega)]
    simp
  · split
    · simp
    · omega

theorem tied_good {n : Nat} {rt : Nat → Nat} (g : Nat → Int) (hg : ∀ j, j < n → g (rt j) = g j) {i k : Nat} (hi : i < n) (hk : k < n) (e : g i = g k) : ∀ j, j < n → g (tied rt i k j) = g j := by
  intro j hj
  have h1 := hg i hi
  have h2 := hg k hk
  have h3 := hg j hj
  unfold tied rehang
  split
  · dsimp only
    split
    · rename_i e2
      rw [h1, e, ← h2, ← e2, h3]
    · exact h3
  · split
    · dsimp only
      split
      · rename_i e2
        rw [h2, ← e, ← h1, ← e2, h3]
      · exact h3
    · exact h3

end Go.Proofs.Ytbmpchpcihnbdaa

/-
  Plain lists: how many blocks of one partition each block of a coarser one has; counted in two ways. No program is named here.
-/
namespace Go.Proofs.Ytbmpchpcihnbdaa
set_option linter.unusedSimpArgs false
set_option linter.unusedVariables false
set_option linter.unnecessarySimpa false

theorem mem_part {xs : List Int} (h : partIn xs = true) (v : Int) : v ∈ xs ↔ 0 ≤ v ∧ v < pSize xs := by
  have e := (kOut_of_ok xs (partIn_ok h)).1
  have h1 := kOut_all xs v
  have h2 := pSize_kOut xs
  rw [e] at h1 h2
  rw [h1, h2]

/-- Whether the block v of xs lies in the block y of ys, asked at its first thing. -/
def under (xs ys : List Int) (y v : Nat) : Bool := decide (ys.getD (xs.idxOf (v : Int)) 0 = (y : Int))
def innerTo (xs ys : List Int) (q k : Nat) : List Int := (List.range q).map fun y => (((List.range k).filter (under xs ys y)).length : Int)
def inner (xs ys : List Int) : List Int := innerTo xs ys (pSize ys).toNat (pSize xs).toNat

theorem innerTo_length (xs ys : List Int) (q k : Nat) : (innerTo xs ys q k).length = q := by simp [innerTo]
theorem inner_length (xs ys : List Int) : (inner xs ys).length = (pSize ys).toNat := innerTo_length _ _ _ _
theorem innerTo_zero (xs ys : List Int) (q : Nat) : innerTo xs ys q 0 = List.replicate q 0 := by
  apply List.ext_getElem <;> simp [innerTo]
theorem innerTo_getD (xs ys : List Int) (q k y : Nat) (h : y < q) : (innerTo xs ys q k).getD y 0 = (((List.range k).filter (under xs ys y)).length : Int) := by
  simp [innerTo, List.getD, h]
theorem under_len_succ (xs ys : List Int) (y k : Nat) : ((List.range (k + 1)).filter (under xs ys y)).length = ((List.range k).filter (under xs ys y)).length + if ys.getD (xs.idxOf (k : Int)) 0 = (y : Int) then 1 else 0 := by
  rw [List.range_succ, List.filter_append, List.length_append]
  congr 1
  by_cases h : ys.getD (xs.idxOf (k : Int)) 0 = (y : Int)
  · have hu : under xs ys y k = true := decide_eq_true h
    rw [if_pos h]
    simp [List.filter, hu]
  · have hu : under xs ys y k = false := decide_eq_false h
    rw [if_neg h]
    simp [List.filter, hu]

theorem innerTo_step (xs ys : List Int) (q k z : Nat) (hz : z < q) (h : ys.getD (xs.idxOf (k : Int)) 0 = (z : Int)) : (innerTo xs ys q k).set z ((innerTo xs ys q k).getD z 0 + 1) = innerTo xs ys q (k + 1) := by
  apply List.ext_getElem
  · simp [innerTo_length]
  · intro j h1 h2
    simp [innerTo_length] at h1 h2
    rw [List.getElem_set]
    by_cases e : z = j
    · subst e
      rw [if_pos rfl, innerTo_getD _ _ _ _ _ hz]
      simp only [innerTo, List.getElem_map, List.getElem_range, under_len_succ, if_pos h]
      omega
    · rw [if_neg e]
      have : ¬ ys.getD (xs.idxOf (k : Int)) 0 = (j : Int) := by omega
      simp only [innerTo, List.getElem_map, List.getElem_range, under_len_succ, if_neg this]
      omega

theorem innerTo_bd (xs ys : List Int) (q k y : Nat) (h : y < q) : 0 ≤ (innerTo xs ys q k).getD y 0 ∧ (innerTo xs ys q k).getD y 0 ≤ k := by
  rw [innerTo_getD _ _ _ _ _ h]
  have := List.length_filter_le (under xs ys y) (List.range k)
  rw [List.length_range] at this
  omega

/-- The numbers in xs of the things of a list, as a set. -/
def overL (xs : List Int) (L : List Int) : Nat := L.foldl (fun s t => s ||| 2 ^ (xs.getD t.toNat 0).toNat) 0

theorem overL_snoc (xs L : List Int) (t : Int) : overL xs (L ++ [t]) = overL xs L ||| 2 ^ (xs.getD t.toNat 0).toNat := by simp [overL, List.foldl_append]

def ThingsOf (xs L : List Int) : Prop := ∀ t ∈ L, 0 ≤ t ∧ t.toNat < xs.length

theorem overL_256 (xs : List Int) (hs : Small xs) : ∀ L, ThingsOf xs L → overL xs L < 256 := by
  refine snoc_induction (fun _ => by simp [overL]) fun L t ih h => ?_
  rw [overL_snoc]
  have ht := h t (by simp)
  have hx := hs _ ht.2
  exact or_lt _ (ih fun u hu => h u (by simp [hu])) _ (by omega)

theorem overL_bit (xs : List Int) (v : Nat) : ∀ L, (overL xs L).testBit v = true ↔ ∃ t ∈ L, (xs.getD t.toNat 0).toNat = v := by
  refine snoc_induction (by simp [overL]) fun L t ih => ?_
  rw [overL_snoc, Nat.testBit_or, Nat.testBit_two_pow]
  simp only [Bool.or_eq_true, ih, decide_eq_true_eq, List.mem_append, List.mem_singleton]
  constructor
  · rintro (⟨u, hu, e⟩ | e)
    · exact ⟨u, .inl hu, e⟩
    · exact ⟨t, .inr rfl, e⟩
  · rintro ⟨u, hu | rfl, e⟩
    · exact .inl ⟨u, hu, e⟩
    · exact .inr e

theorem mem_blkAt (xs : List Int) (b : Nat) (t : Int) : ∀ k, t ∈ blkAt xs b k ↔ ∃ i, i < k ∧ t = (i : Int) ∧ xs.getD i 0 = (b : Int) := by
  intro k
  induction k with
  | zero => simp [blkAt]
  | succ k ih =>
    unfold blkAt
    split
    · rename_i hk
      rw [List.mem_append, ih, List.mem_singleton]
      constructor
      · rintro (⟨i, h1, h2⟩ | h)
        · exact ⟨i, by omega, h2⟩
        · exact ⟨k, by omega, h, hk⟩
      · rintro ⟨i, h1, h2, h3⟩
        by_cases e : i = k
        · subst e; exact .inr h2
        · exact .inl ⟨i, by omega, h2, h3⟩
    · rename_i hk
      rw [ih]
      constructor
      · rintro ⟨i, h1, h2⟩
        exact ⟨i, by omega, h2⟩
      · rintro ⟨i, h1, h2, h3⟩
        by_cases e : i = k
        · subst e; exact absurd h3 hk
        · exact ⟨i, by omega, h2, h3⟩

theorem blkAt_things (xs ys : List Int) (b : Nat) (hl : ys.length = xs.length) : ThingsOf xs (blkAt ys b ys.length) := fun t ht => by
  obtain ⟨i, h1, rfl, _⟩ := (mem_blkAt ys b t _).1 ht
  rw [Int.toNat_natCast]
  omega

theorem filter_range_le (p n : Nat) (h : p ≤ n) (f g : Nat → Bool) (h1 : ∀ v, v < p → f v = g v) (h2 : ∀ v, p ≤ v → f v = false) : (List.range n).filter f = (List.range p).filter g := by
  obtain ⟨d, rfl⟩ : ∃ d, n = p + d := ⟨n - p, by omega⟩
  rw [List.range_add, List.filter_append]
  have e1 : (List.range p).filter f = (List.range p).filter g := by
    apply List.filter_congr
    intro v hv
    exact h1 v (by simpa using hv)
  have e2 : ((List.range d).map (p + ·)).filter f = [] := by
    rw [List.filter_eq_nil_iff]
    intro v hv
    obtain ⟨u, _, rfl⟩ := List.mem_map.1 hv
    rw [h2 _ (by omega)]
    simp
  rw [e1, e2, List.append_nil]

theorem cnt_over {xs ys : List Int} (hx : partIn xs = true) (hl : ys.length = xs.length) (hf : finerB xs ys = true) (y p : Nat) (hp : pSize xs = p) :
    cnt (overL xs (blkAt ys y ys.length)) = ((List.range p).filter (under xs ys y)).length := by
  have hsm := partIn_small hx
  have hbd := pSize_bd hsm
  unfold cnt
  rw [filter_range_le p 8 (by omega) _ (under xs ys y)]
  · intro v hv
    have hm : (v : Int) ∈ xs := (mem_part hx v).2 (by omega)
    have hi := List.idxOf_lt_length_of_mem hm
    have hg := getD_idxOf hm
    rw [Bool.eq_iff_iff, overL_bit]
    simp only [under, decide_eq_true_eq]
    constructor
    · rintro ⟨t, ht, e⟩
      obtain ⟨i, h1, rfl, h3⟩ := (mem_blkAt ys y t _).1 ht
      rw [Int.toNat_natCast] at e
      have h0 := (hsm i (by omega)).1
      rw [← h3]
      exact finer_iff.1 hf _ _ hi (by omega) (by rw [hg]; omega)
    · intro e
      refine ⟨_, (mem_blkAt ys y _ _).2 ⟨xs.idxOf (v : Int), by omega, rfl, e⟩, ?_⟩
      rw [Int.toNat_natCast, hg, Int.toNat_natCast]
  · intro v hv
    cases h : (overL xs (blkAt ys y ys.length)).testBit v
    · rfl
    · obtain ⟨t, ht, e⟩ := (overL_bit xs v _).1 h
      obtain ⟨h1, h2⟩ := blkAt_things xs ys y hl t ht
      have := lt_pSize xs _ h2
      have := (hsm _ h2).1
      omega

theorem inner_get {xs ys : List Int} (hx : partIn xs = true) (hl : ys.length = xs.length) (hf : finerB xs ys = true) (y q : Nat) (hq : pSize ys = q) (hy : y < q) :
    (inner xs ys).getD y 0 = (cnt (overL xs (blkAt ys y ys.length)) : Int) := by
  have hbd := pSize_bd (partIn_small hx)
  obtain ⟨p, hp⟩ := Int.eq_ofNat_of_zero_le hbd.1
  rw [cnt_over hx hl hf y p hp]
  unfold inner
  rw [hp, hq, Int.toNat_natCast, Int.toNat_natCast, innerTo_getD _ _ _ _ _ hy]

theorem or_same : ∀ b, b < 256 → ∀ t, t < 8 → b.testBit t = true → b ||| 2 ^ t = b := by decide +kernel

end Go.Proofs.Ytbmpchpcihnbdaa

/-
  The contracts of countsWithin, l2Inner.
-/
namespace Go.Proofs.Ytbmpchpcihnbdaa
set_option linter.unusedSimpArgs false
set_option linter.unusedVariables false
set_option linter.unnecessarySimpa false
open Go.RowKit
set_option maxRecDepth 100000

theorem shr0_fact : ∀ t, t < 256 → ∀ y, y < 8 → (bits BinOp.and IntKind.i64 (((t : Nat) : Int) / 2 ^ (y : Nat)) 1 == 0) = !t.testBit y := by decide +kernel
theorem or64b_fact : ∀ t, t < 256 → ∀ y, y < 8 → bits BinOp.or IntKind.i64 ((t : Nat) : Int) (wrap64 (2 ^ (y : Nat))) = ((t ||| 2 ^ y : Nat) : Int) := by decide +kernel

/-- Bell's triangle: the rows. -/
def bellNext (last : Int) : List Int → List Int
  | [] => []
  | x :: xs => (last + x) :: bellNext (last + x) xs
def bellRow : Nat → List Int
  | 0 => [1]
  | n + 1 => (bellRow n).getD n 0 :: bellNext ((bellRow n).getD n 0) (bellRow n)

/-- The first k numbers of the row behind the row n. -/
def bellTo (n k : Nat) : List Int := (bellRow (n + 1)).take (k + 1)

theorem bell_len : ∀ n, n < 8 → (bellRow n).length = n + 1 := by decide +kernel
theorem bell_bd : ∀ n, n < 8 → ∀ k, k < 9 → 0 ≤ (bellRow n).getD k 0 ∧ (bellRow n).getD k 0 ≤ 5000 := by decide +kernel
theorem bell_step : ∀ n, n < 7 → ∀ k, k < n + 1 → (bellRow (n + 1)).getD (k + 1) 0 = (bellRow (n + 1)).getD k 0 + (bellRow n).getD k 0 := by decide +kernel
theorem bell_head : ∀ n, n < 7 → (bellRow (n + 1)).take 1 = [(bellRow n).getD n 0] ∧ (bellRow (n + 1)).getD 0 0 = (bellRow n).getD n 0 := by decide +kernel
def bellN (n : Nat) : Int := (bellRow (n - 1)).getD (n - 1) 0

theorem own_lit1 (w : World) (B : Nat) (hB : B ≤ w.heap.size) (x : Int) : Own (w.alloc (.cells #[.int .i64 x] 3)) B (.slice (some ⟨w.heap.size, 0, none⟩) 1 1) [x] :=
  ⟨by simp, .inr ⟨w.heap.size, 1, #[.int .i64 x], rfl, hB, heap_alloc_new w _, Nat.le_refl _, by unfold maxLen; simp, rfl, by simp⟩⟩

def sliceLen : Value → Nat
  | .slice _ n _ => n
  | _ => 0

theorem bell_take (n k : Nat) (h : n < 7) (hk : k < n + 1) : (bellRow (n + 1)).take (k + 2) = (bellRow (n + 1)).take (k + 1) ++ [(bellRow (n + 1)).getD k 0 + (bellRow n).getD k 0] := by
  rw [take_snoc _ (k + 1) (by rw [bell_len _ (by omega)]; omega), bell_step n h k hk]

set_option maxHeartbeats 1600000 in
theorem l2Bell_v (n : Int) (w : World) (h0 : 0 ≤ n) (h8 : n ≤ 8) :
    Calls Try.prog 116 #[.int .i64 n] w (GivesI w (bellN n.toNat)) := by
  obtain ⟨c, rfl⟩ := Int.eq_ofNat_of_zero_le h0
  rw [Int.toNat_natCast]
  go_enter Try.func116, Try.ntmps116
  go_wp2
  go_loopw [3, 4] (fun u i wr => ∃ r m g cap : Nat, (r = 0 ∨ m ≤ c) ∧ r < 8 ∧ m = r + 1 ∧ i = .int .i64 m ∧ u = .slice (some ⟨g, 0, none⟩) m cap ∧ Own wr w.heap.size (.slice (some ⟨g, 0, none⟩) m cap) (bellRow r) ∧ Below w.heap.size w wr)
    (fun _ i _ => c - (intOf i).toNat)
  case atStart => exact ⟨0, 1, w.heap.size, 1, .inl rfl, by omega, rfl, rfl, rfl, own_lit1 w _ (Nat.le_refl _) 1, (Below.refl _ _).alloc (Nat.le_refl _) _⟩
  case round =>
    obtain ⟨r, m, g, cap, hr, hr8, hm, rfl, rfl, hown, hbel⟩ := hrel
    have HM := Lib.hid hm
    have hm1 : 1 ≤ m := by omega
    have hm9 : m < 9 := by omega
    have hir : (m : Int) - 1 = (r : Int) := by omega
    have hbl := bell_len r hr8
    have hlast := own_cell hown r (by rw [hbl]; omega)
    by_cases hlt : m < c
    · have hr7 : r < 7 := by omega
      obtain ⟨hh1, hh2⟩ := bell_head r hr7
      have HH1 := Lib.hid hh1
      have HH2 := Lib.hid hh2
      obtain ⟨x, hx⟩ : ∃ x, x = (bellRow r).getD r 0 := ⟨_, rfl⟩
      have hxb := bell_bd r hr8 r (by omega)
      rw [← hx] at hlast hxb
      have HX := Lib.hid hx
      have HBL := Lib.hid hbl
      have HO := Lib.hid hown
      have hB := hbel.size
      have hgl := own_lt hown g rfl
      have b1 : (m : Int) < (c : Int) := by omega
      clear hown hx hh1 hh2 hbl hm
      obtain ⟨wo, hwo⟩ : ∃ wo : World, wo = wr := ⟨_, rfl⟩
      subst hwo
      go_wp2
      go_loopw [5, 6] (fun u i wr => ∃ k g' cap' : Nat, k ≤ m ∧ i = .int .i64 k ∧ u = .slice (some ⟨g', 0, none⟩) ((k + 1 : Nat)) cap' ∧ Own wr w.heap.size (.slice (some ⟨g', 0, none⟩) (k + 1) cap') ((bellRow (r + 1)).take (k + 1)) ∧ Own wr w.heap.size (.slice (some ⟨g, 0, none⟩) m cap) (bellRow r) ∧ Below w.heap.size w wr ∧ g < g')
        (fun _ i _ => m - (intOf i).toNat)
      case atStart =>
        refine ⟨0, wo.heap.size, 1, Nat.zero_le _, rfl, rfl, ?_, own_alloc HO.out _, hbel.alloc hB _, hgl.2⟩
        rw [HH1.out, ← HX.out]
        exact own_lit1 wo _ hB x
      case round =>
        obtain ⟨k, g', cap', hk, rfl, rfl, hown', hown, hbel', hgg⟩ := hrel
        by_cases hkr : k < m
        · have hck := own_cell hown k (by rw [HBL.out, ← HM.out]; omega)
          have hcl := own_cell hown' k (by rw [List.length_take, bell_len _ (by omega)]; have := HM.out; omega)
          have hgt : ((bellRow (r + 1)).take (k + 1)).getD k 0 = (bellRow (r + 1)).getD k 0 := by simp [List.getD, List.getElem?_take]
          rw [hgt] at hcl
          have hyb := bell_bd r hr8 k (by have := HM.out; omega)
          have hlb := bell_bd (r + 1) (by omega) k (by have := HM.out; omega)
          have htk := bell_take r k hr7 (by have := HM.out; omega)
          have hst := bell_step r hr7 k (by have := HM.out; omega)
          obtain ⟨y, hy⟩ : ∃ y, y = (bellRow r).getD k 0 := ⟨_, rfl⟩
          obtain ⟨l, hl⟩ : ∃ l, l = (bellRow (r + 1)).getD k 0 := ⟨_, rfl⟩
          rw [← hy] at hck hyb htk hst
          rw [← hl] at hlb htk hst hcl
          have HTK := Lib.hid htk
          have HST := Lib.hid hst
          have HO' := Lib.hid hown'
          have HOr := Lib.hid hown
          have hB' := hbel'.size
          have hgl' := own_lt hown' g' rfl
          have htl : ((bellRow (r + 1)).take (k + 1)).length = k + 1 := by rw [List.length_take, bell_len _ (by omega)]; have := HM.out; omega
          have HTL := Lib.hid htl
          have b2 : (k : Int) < (m : Int) := by omega
          clear hy hl htk hst hown' hown htl
          have b3 : IntKind.i64.wrap (l + y) = l + y := IntWalk.i64_in _ (by omega)
          have b4 : (k : Int) < (k : Int) + 1 := by omega
          go_wp2
          go_region_law (first | (refine step_cat rfl _ _ (by rfl) w.heap.size g' (k + 1) cap' ((bellRow (r + 1)).take (k + 1)) (by rfl) (own_drew1 (own_alloc HO'.out _)) (by rw [HTL.out]) ⟨wr.heap.size, 0, none⟩ 1 1 (by rfl) [l + y] rfl (cells_one (cell_new1 _ _ _)) (by omega) (by simp; omega) (k + 1 + 1) rfl ?_; intro g3 cap3 w3 hown3 hgr3 hg3; have hbel3 : Below w.heap.size w w3 := (hbel'.alloc hB' _).drew.grown hgr3 (by simp; omega) (fun q hq => by cases hq; exact hgl'.1); have hor3 : Own w3 w.heap.size (.slice (some ⟨g, 0, none⟩) m cap) (bellRow r) := own_grown (own_drew1 (own_alloc HOr.out _)) hgr3 (.inr (by simp [Value.ownBlock]; omega)); have hg3' : g < g3 := (by have := own_lt HOr.out g rfl; first | omega | (simp at hg3; omega)); have HO3 := Lib.hid hown3; have HOr3 := Lib.hid hor3; clear hown3 hgr3 hg3 hor3))
          all_goals
            go_wp2
            go_roundw
            case rel => exact ⟨k + 1, g3, cap3, by omega, by go_num, rfl, by rw [HTK.out]; exact HO3.out, HOr3.out, hbel3, hg3'⟩
            case measure => simp [intOf]; omega
        · have hkr : k = m := by omega
          have hbl2 := bell_len (r + 1) (by omega)
          rw [hkr, List.take_of_length_le (by have := HM.out; omega)] at hown'
          have HBL2 := Lib.hid hbl2
          clear hbl2
          subst hkr
          go_wp2
          go_roundw
          case rel => exact ⟨r + 1, k + 1, g', cap', by omega, by have := HM.out; omega, by rw [HM.out], by go_num, rfl, hown', hbel'⟩
          case measure => simp [intOf]; omega
    · have hrc : r = c - 1 := by omega
      have HRC := Lib.hid hrc
      have b1 : ¬ (m : Int) < (c : Int) := by omega
      obtain ⟨x, hx⟩ : ∃ x, x = (bellRow r).getD r 0 := ⟨_, rfl⟩
      rw [← hx] at hlast
      have HX := Lib.hid hx
      clear hrc hm hbl hx
      go_wp2
      go_ret
      have he : bellN c = x := by rw [HX.out]; unfold bellN; rw [← HRC.out]
      exact ⟨ret_int he.symm, hbel⟩

end Go.Proofs.Ytbmpchpcihnbdaa

/-
  The contracts of FinerInterval, l2Factorial, FinerSign (impl and spec).
-/
namespace Go.Proofs.Ytbmpchpcihnbdaa
set_option linter.unusedSimpArgs false
set_option linter.unusedVariables false
set_option linter.unnecessarySimpa false
open Go.RowKit
set_option maxRecDepth 100000

theorem sum_set (l : List Int) (z : Nat) (h : z < l.length) : (l.set z (l.getD z 0 + 1)).sum = l.sum + 1 := by
  induction l generalizing z with
  | nil => simp at h
  | cons x l ih =>
    cases z with
    | zero => simp; omega
    | succ z =>
      have := ih z (by simpa using h)
      simp only [List.set_cons_succ, List.sum_cons, List.getD_cons_succ, this]
      omega

theorem sum_zeros (n : Nat) : (List.replicate n (0 : Int)).sum = 0 := by
  induction n with
  | zero => rfl
  | succ n ih => simp [List.replicate_succ, ih]

theorem innerTo_sum {xs ys : List Int} (hx : partIn xs = true) (hy : partIn ys = true) (hl : ys.length = xs.length) (q p : Nat) (hp : pSize xs = p) (hq : pSize ys = q) : ∀ k, k ≤ p → (innerTo xs ys q k).sum = k := by
  intro k
  induction k with
  | zero => intro _; rw [innerTo_zero, sum_zeros]; rfl
  | succ k ih =>
    intro hk
    have hm : (k : Int) ∈ xs := (mem_part hx _).2 (by rw [hp]; omega)
    have hix := List.idxOf_lt_length_of_mem hm
    have hz0 := (partIn_small hy (xs.idxOf (k : Int)) (by omega)).1
    have hzq := lt_pSize ys (xs.idxOf (k : Int)) (by omega)
    obtain ⟨z, hz⟩ := Int.eq_ofNat_of_zero_le hz0
    rw [← innerTo_step xs ys q k z (by omega) hz, sum_set _ _ (by rw [innerTo_length]; omega), ih (by omega)]
    omega

theorem inner_facts {xs ys : List Int} (h : finerIn xs ys = true) : (inner xs ys).sum ≤ 8 ∧ ∀ y, y < (inner xs ys).length → 1 ≤ (inner xs ys).getD y 0 := by
  simp only [finerIn, Bool.and_eq_true] at h
  obtain ⟨ha, hf⟩ := h
  obtain ⟨hx, hy, hl⟩ := alike_iff.1 ha
  have bx := pSize_bd (partIn_small hx)
  have by' := pSize_bd (partIn_small hy)
  obtain ⟨p, hp⟩ := Int.eq_ofNat_of_zero_le bx.1
  obtain ⟨q, hq⟩ := Int.eq_ofNat_of_zero_le by'.1
  have e : inner xs ys = innerTo xs ys q p := by unfold inner; rw [hp, hq, Int.toNat_natCast, Int.toNat_natCast]
  rw [e]
  refine ⟨by rw [innerTo_sum hx hy hl.symm q p hp hq p (Nat.le_refl _)]; omega, fun y hyq => ?_⟩
  rw [innerTo_length] at hyq
  rw [innerTo_getD _ _ _ _ _ hyq]
  have hm : (y : Int) ∈ ys := (mem_part hy _).2 (by omega)
  have hi := List.idxOf_lt_length_of_mem hm
  have hg := getD_idxOf hm
  have hv0 := (partIn_small hx (ys.idxOf (y : Int)) (by omega)).1
  have hvp := lt_pSize xs (ys.idxOf (y : Int)) (by omega)
  obtain ⟨v, hv⟩ := Int.eq_ofNat_of_zero_le hv0
  have hmv : (v : Int) ∈ xs := mem_of_getD (by omega) hv
  have hu : under xs ys y v = true := by
    simp only [under, decide_eq_true_eq]
    rw [← hg]
    exact (finer_iff.1 hf _ _ (List.idxOf_lt_length_of_mem hmv) (by omega) (by rw [getD_idxOf hmv, hv]))
  have : v ∈ (List.range p).filter (under xs ys y) := by
    rw [List.mem_filter]
    exact ⟨by simp; omega, hu⟩
  have := List.length_pos_of_mem this
  omega

def prodOf (f : Nat → Int) (l : List Int) : Int := l.foldl (fun w c => w * f c.toNat) 1

theorem prodOf_snoc (f : Nat → Int) (l : List Int) (c : Int) : prodOf f (l ++ [c]) = prodOf f l * f c.toNat := by simp [prodOf, List.foldl_append]

theorem prodOf_bd (f : Nat → Int) (F : Nat → Nat) (h0 : F 0 = 1) (hm : ∀ s, s < 9 → ∀ c, c < 9 → s + c ≤ 8 → F s * (f c).natAbs ≤ F (s + c)) :
    ∀ l : List Int, (∀ c ∈ l, 0 ≤ c) → l.sum ≤ 8 → 0 ≤ l.sum ∧ (prodOf f l).natAbs ≤ F l.sum.toNat := by
  refine snoc_induction (fun _ _ => ⟨Int.le_refl _, by simp [prodOf, h0]⟩) fun l c ih hc hs => ?_
  have hsum : (l ++ [c]).sum = l.sum + c := by simp [List.sum_append]
  have hc0 := hc c (by simp)
  rw [hsum] at hs ⊢
  have hl0 : 0 ≤ l.sum ∧ (prodOf f l).natAbs ≤ F l.sum.toNat := by
    refine ih (fun d hd => hc d (by simp [hd])) (by omega)
  refine ⟨by omega, ?_⟩
  rw [prodOf_snoc, Int.natAbs_mul]
  have h1 := hm l.sum.toNat (by omega) c.toNat (by omega) (by omega)
  have h2 : (l.sum + c).toNat = l.sum.toNat + c.toNat := by omega
  rw [h2]
  exact Nat.le_trans (Nat.mul_le_mul_right _ hl0.2) h1

theorem sum_take_le : ∀ (l : List Int) (k : Nat), (∀ c ∈ l, 0 ≤ c) → (l.take k).sum ≤ l.sum := by
  intro l
  induction l with
  | nil => intro k _; simp
  | cons x l ih =>
    intro k h
    cases k with
    | zero =>
      have : ∀ m : List Int, (∀ c ∈ m, 0 ≤ c) → 0 ≤ m.sum := by
        intro m
        induction m with
        | nil => intro _; exact Int.le_refl _
        | cons y m ih2 =>
          intro h2
          have a1 := h2 y (by simp)
          have a2 := ih2 fun c hc => h2 c (by simp [hc])
          simp; omega
      exact this _ h
    | succ k =>
      have := ih k fun c hc => h c (by simp [hc])
      simp; omega

theorem getD_le_sum : ∀ (l : List Int) (k : Nat), (∀ c ∈ l, 0 ≤ c) → k < l.length → l.getD k 0 ≤ l.sum := by
  intro l k h hk
  have h1 := sum_take_le l (k + 1) h
  rw [take_snoc l k hk, List.sum_append] at h1
  have h2 : 0 ≤ (l.take k).sum := by
    have := sum_take_le (l.take k) 0 fun c hc => h c (List.mem_of_mem_take hc)
    simpa using this
  simp at h1 ⊢
  omega

def fA : Nat → Nat
  | 0 => 1
  | n + 1 => (n + 1) * fA n
/-- The product of -1, -2, .. -f. -/
def sgp : Nat → Int
  | 0 => 1
  | f + 1 => sgp f * (-((f + 1 : Nat) : Int))
def sgn (c : Nat) : Int := sgp (c - 1)

theorem bell_mul : ∀ s, s < 9 → ∀ c, c < 9 → s + c ≤ 8 → (bellN s).toNat * (bellN c).natAbs ≤ (bellN (s + c)).toNat := by decide +kernel
theorem sgn_mul : ∀ s, s < 9 → ∀ c, c < 9 → s + c ≤ 8 → fA s * (sgn c).natAbs ≤ fA (s + c) := by decide +kernel
theorem sgp_mul : ∀ s, s < 9 → ∀ c, c < 9 → s + c ≤ 8 → ∀ f, f < c → fA s * (sgp f).natAbs ≤ 40320 := by decide +kernel
theorem bell_le : ∀ s, s < 9 → (bellN s).toNat ≤ 40320 := by decide +kernel
theorem fA_le : ∀ s, s < 9 → fA s ≤ 40320 := by decide +kernel

/-- What is known of the numbers and of the products on the way. -/
theorem prod_way (f : Nat → Int) (F : Nat → Nat) (h0 : F 0 = 1) (hm : ∀ s, s < 9 → ∀ c, c < 9 → s + c ≤ 8 → F s * (f c).natAbs ≤ F (s + c)) (hF : ∀ s, s < 9 → F s ≤ 40320)
    (l : List Int) (hl : l.sum ≤ 8) (hp : ∀ y, y < l.length → 1 ≤ l.getD y 0) (k : Nat) :
    -40320 ≤ prodOf f (l.take k) ∧ prodOf f (l.take k) ≤ 40320 ∧ (k < l.length → (1 ≤ l.getD k 0 ∧ l.getD k 0 ≤ 8) ∧ prodOf f (l.take (k + 1)) = prodOf f (l.take k) * f (l.getD k 0).toNat ∧
      ∃ s : Nat, s < 9 ∧ s + (l.getD k 0).toNat ≤ 8 ∧ (prodOf f (l.take k)).natAbs ≤ F s) := by
  have hnn : ∀ c ∈ l, 0 ≤ c := fun c hc => by
    obtain ⟨j, hj, e⟩ := mem_iff_getD.1 hc
    have := hp j hj
    omega
  have hs := sum_take_le l k hnn
  obtain ⟨h1, h2⟩ := prodOf_bd f F h0 hm (l.take k) (fun c hc => hnn c (List.mem_of_mem_take hc)) (by omega)
  have h3 := hF (l.take k).sum.toNat (by omega)
  refine ⟨by omega, by omega, fun hk => ⟨⟨hp k hk, ?_⟩, ?_, ?_⟩⟩
  · have := getD_le_sum l k hnn hk
    omega
  · rw [take_snoc l k hk, prodOf_snoc]
  · have h4 := sum_take_le l (k + 1) hnn
    rw [take_snoc l k hk, List.sum_append] at h4
    have h5 := hp k hk
    refine ⟨(l.take k).sum.toNat, by omega, ?_, h2⟩
    have e : ([l.getD k 0] : List Int).sum = l.getD k 0 := by simp
    rw [e] at h4
    omega

def finerInterval (xs ys : List Int) : Int × Bool := if finerIn xs ys then (prodOf bellN (inner xs ys), true) else (0, false)
def finerSign (xs ys : List Int) : Int × Bool := if finerIn xs ys then (prodOf sgn (inner xs ys), true) else (0, false)

theorem iFinerIn_is (b : Bool) (v u : Value) (xs ys : List Int) (w : World) (hv : RdV w v xs) (hu : RdV w u ys) (h : Hid (finerIn xs ys = b)) :
    Calls Try.prog 45 #[v, u] w (QB w b) := by
  rw [← h.out]; exact iFinerIn_q v u xs ys w hv hu
theorem sFinerIn_is (b : Bool) (v u : Value) (xs ys : List Int) (w : World) (hv : RdV w v xs) (hu : RdV w u ys) (h : Hid (finerIn xs ys = b)) :
    Calls Try.prog 46 #[v, u] w (QB w b) := by
  rw [← h.out]; exact sFinerIn_q v u xs ys w hv hu

theorem own_slice {w : World} {B : Nat} {v : Value} {xs : List Int} (h : Own w B v xs) (hl : 1 ≤ xs.length) : ∃ g cap, v = .slice (some ⟨g, 0, none⟩) xs.length cap ∧ g < w.heap.size := by
  rcases own_view h with ⟨_, hn⟩ | ⟨g, cap, hv, _, hg, _⟩
  · rw [hn] at hl; simp at hl
  · exact ⟨g, cap, hv, hg⟩

theorem fA_bd : ∀ k, k < 8 → (fA k : Int) ≤ 5040 := by decide +kernel

theorem sgn_fA : ∀ m, m < 9 → 1 ≤ m → sgn m = if m % 2 = 0 then -(fA (m - 1) : Int) else (fA (m - 1) : Int) := by decide +kernel

end Go.Proofs.Ytbmpchpcihnbdaa

/-
  The contracts of FinerRank, pairCount, FinerChains (impl and spec).
-/
namespace Go.Proofs.Ytbmpchpcihnbdaa
set_option linter.unusedSimpArgs false
set_option linter.unusedVariables false
set_option linter.unnecessarySimpa false
open Go.RowKit
set_option maxRecDepth 100000

def finerRank (xs : List Int) : Int × Bool := if partIn xs then ((xs.length : Int) - pSize xs, true) else (0, false)

theorem iFinerRank_v (v : Value) (xs : List Int) (w : World) (hv : RdV w v xs) : Calls Try.prog 53 #[v] w (GivesIB w (finerRank xs)) := by
  have hv0 := hv
  obtain ⟨ao, ca, rfl, h, h1, h2⟩ := hv
  unfold maxLen at h2
  have HV := Lib.hid hv0
  clear hv0
  by_cases hp : partIn xs = true
  · have hr : finerRank xs = ((xs.length : Int) - pSize xs, true) := by simp [finerRank, hp]
    rw [hr]
    have hs := partIn_small hp
    have hl := partIn_len hp
    have hb := pSize_bd hs
    have HP := Lib.hid hp
    have HS := Lib.hid hs
    clear hp hr hs
    go_enter Try.func53, Try.ntmps53
    go_wp2_with fail
    refine (iPartIn_w _ _ _ HV.out).mono ?_
    rintro e w' ⟨rfl, rfl⟩
    rw [HP.out]
    go_wp2_with fail
    refine (blockCount_any _ _ _ _ h hl.1 (by omega) HS.out).mono ?_
    rintro e w' ⟨rfl, rfl⟩
    go_wp2
    go_ret2
    exact ⟨rfl, Below.refl _ _⟩
  · have hp : partIn xs = false := by simpa using hp
    have hr : finerRank xs = (0, false) := by simp [finerRank, hp]
    rw [hr]
    have HP := Lib.hid hp
    clear hp hr
    go_enter Try.func53, Try.ntmps53
    go_wp2_with fail
    refine (iPartIn_w _ _ _ HV.out).mono ?_
    rintro e w' ⟨rfl, rfl⟩
    rw [HP.out]
    go_wp2
    go_ret2
    exact ⟨rfl, Below.refl _ _⟩

theorem pairCount_any (c : Nat) (w : World) (hc : c ≤ 8) : Calls Try.prog 103 #[.int .i64 c] w fun e w' => e = .returned (.int .i64 ((c * (c - 1) / 2 : Nat) : Int)) ∧ w = w' := by
  have h : c = 0 ∨ c = 1 ∨ c = 2 ∨ c = 3 ∨ c = 4 ∨ c = 5 ∨ c = 6 ∨ c = 7 ∨ c = 8 := by omega
  rcases h with rfl | rfl | rfl | rfl | rfl | rfl | rfl | rfl | rfl
  all_goals
    go_enter Try.func103, Try.ntmps103
    go_wp2
    go_ret
    exact ⟨rfl, rfl⟩

/-- After d merges of p blocks: the ways. -/
def chD (p : Nat) : Nat → Int
  | 0 => 1
  | d + 1 => chD p d * (((p - d) * (p - d - 1) / 2 : Nat) : Int)

theorem chD_bd : ∀ p, p < 9 → ∀ d, d < 9 → 0 ≤ chD p d ∧ chD p d ≤ 2000000 := by decide +kernel

def finerChains (xs : List Int) : Int × Bool := if partIn xs then (chD (pSize xs).toNat ((pSize xs).toNat - 1), true) else (0, false)

end Go.Proofs.Ytbmpchpcihnbdaa

/-
  The contracts of merged, l2Merges, FinerMerges (impl and spec).
-/
namespace Go.Proofs.Ytbmpchpcihnbdaa
set_option linter.unusedSimpArgs false
set_option linter.unusedVariables false
set_option linter.unnecessarySimpa false
open Go.RowKit
set_option maxRecDepth 100000

/-- The number g told as l. -/
def retold (xs : List Int) (l g : Int) : List Int := xs.map fun x => if x = g then l else x

theorem retold_length (xs : List Int) (l g : Int) : (retold xs l g).length = xs.length := by simp [retold]
theorem retold_getD (xs : List Int) (l g : Int) (k : Nat) (h : k < xs.length) : (retold xs l g).getD k 0 = if xs.getD k 0 = g then l else xs.getD k 0 := by
  simp [retold, List.getD, h]

theorem retold_stage (xs : List Int) (l g : Int) (k : Nat) (h : k < xs.length) (v : Int) (hv : v = (retold xs l g).getD k 0) :
    ((retold xs l g).take k ++ xs.drop k).set k v = (retold xs l g).take (k + 1) ++ xs.drop (k + 1) := by
  have hk : ((retold xs l g).take k).length = k := by simp [retold_length]; omega
  rw [hv, List.set_append_right _ _ (by omega), hk, Nat.sub_self, List.drop_eq_getElem_cons h, List.set_cons_zero, take_snoc _ k (by rw [retold_length]; exact h), List.append_assoc]
  rfl
theorem retold_keep (xs : List Int) (l g : Int) (k : Nat) (h : k < xs.length) (hv : xs.getD k 0 = (retold xs l g).getD k 0) :
    (retold xs l g).take k ++ xs.drop k = (retold xs l g).take (k + 1) ++ xs.drop (k + 1) := by
  rw [take_snoc _ k (by rw [retold_length]; exact h), drop_cons xs k h, hv, List.append_assoc]
  rfl

/-- The first j merges with the block x as the lesser one. -/
def mrow (xs : List Int) (x j : Nat) : List (List Int) := (List.range j).map fun i => kOut (retold xs (x : Int) ((x + 1 + i : Nat) : Int))
/-- The merges with lesser blocks below k, of p blocks. -/
def mergesTo (xs : List Int) (p k : Nat) : List (List Int) := (List.range k).flatMap fun x => mrow xs x (p - 1 - x)
def finerMerges (xs : List Int) : List (List Int) × Bool := if partIn xs then (mergesTo xs (pSize xs).toNat (pSize xs).toNat, true) else ([], false)

theorem mrow_length (xs : List Int) (x j : Nat) : (mrow xs x j).length = j := by simp [mrow]
theorem mrow_succ (xs : List Int) (x j : Nat) : mrow xs x (j + 1) = mrow xs x j ++ [kOut (retold xs (x : Int) ((x + 1 + j : Nat) : Int))] := by simp [mrow, List.range_succ]
theorem mergesTo_succ (xs : List Int) (p k : Nat) : mergesTo xs p (k + 1) = mergesTo xs p k ++ mrow xs k (p - 1 - k) := by simp [mergesTo, List.range_succ]

theorem total_append (a b : List (List Int)) : total (a ++ b) = total a + total b := by
  induction a with
  | nil => simp [total]
  | cons x a ih => rw [List.cons_append, total_cons, total_cons, ih]; omega

theorem mrow_total (xs : List Int) (x j : Nat) : total (mrow xs x j) = j * xs.length := by
  induction j with
  | zero => simp [mrow, total]
  | succ j ih => rw [mrow_succ, total_append, ih, total_cons, kOut_length, retold_length, Nat.succ_mul]; simp [total]

theorem mergesTo_bd (xs : List Int) (p : Nat) (hp : p ≤ 8) (hl : xs.length ≤ 8) : ∀ k, (mergesTo xs p k).length ≤ 8 * k ∧ total (mergesTo xs p k) ≤ 64 * k := by
  intro k
  induction k with
  | zero => simp [mergesTo, total]
  | succ k ih =>
    rw [mergesTo_succ, List.length_append, mrow_length, total_append, mrow_total]
    have h1 : p - 1 - k ≤ 8 := by omega
    have h2 : (p - 1 - k) * xs.length ≤ 8 * 8 := Nat.mul_le_mul h1 hl
    omega

theorem finerMerges_len (xs : List Int) (_ : xs.length ≤ 1048576) : (finerMerges xs).1.length ≤ 1000000 ∧ total (finerMerges xs).1 ≤ 1000000 := by
  unfold finerMerges
  split
  · rename_i h
    have h1 := pSize_bd (partIn_small h)
    have h2 := mergesTo_bd xs (pSize xs).toNat (by omega) (partIn_len h).2 (pSize xs).toNat
    dsimp only
    omega
  · simp [total]

end Go.Proofs.Ytbmpchpcihnbdaa

/-
  Plain lists: what meets, joins, finer partitions, sizes and merges have to do with each other. No program is named here.
-/
namespace Go.Proofs.Ytbmpchpcihnbdaa
set_option linter.unusedSimpArgs false
set_option linter.unusedVariables false
set_option linter.unnecessarySimpa false

theorem finer_parts {xs ys : List Int} (h : finerIn xs ys = true) : partIn xs = true ∧ partIn ys = true ∧ xs.length = ys.length ∧ finerB xs ys = true ∧ alike xs ys = true := by
  simp only [finerIn, Bool.and_eq_true] at h
  obtain ⟨ha, hf⟩ := h
  obtain ⟨h1, h2, h3⟩ := alike_iff.1 ha
  exact ⟨h1, h2, h3, hf, ha⟩

theorem finer_mk {xs ys : List Int} (h1 : partIn xs = true) (h2 : partIn ys = true) (h3 : xs.length = ys.length) (h4 : ∀ i k, i < xs.length → k < xs.length → xs.getD i 0 = xs.getD k 0 → ys.getD i 0 = ys.getD k 0) : finerIn xs ys = true := by
  simp only [finerIn, Bool.and_eq_true]
  exact ⟨alike_iff.2 ⟨h1, h2, h3⟩, finer_iff.2 h4⟩

theorem kOut_part {xs : List Int} (h : partIn xs = true) : kOut xs = xs := (kOut_of_ok xs (partIn_ok h)).1

theorem mix_eq_iff {xs ys : List Int} (hx : partIn xs = true) (hy : partIn ys = true) (hl : xs.length = ys.length) {i j : Nat} (hi : i < xs.length) (hj : j < xs.length) :
    (mix 8 xs ys).getD i 0 = (mix 8 xs ys).getD j 0 ↔ xs.getD i 0 = xs.getD j 0 ∧ ys.getD i 0 = ys.getD j 0 := by
  rw [mix_getD _ _ _ _ hi, mix_getD _ _ _ _ hj]
  have h1 := partIn_small hx i hi
  have h2 := partIn_small hx j hj
  have h3 := partIn_small hy i (by omega)
  have h4 := partIn_small hy j (by omega)
  omega

theorem finer_meet {xs ys : List Int} (h : finerIn xs ys = true) : finerMeet xs ys = (xs, true) := by
  obtain ⟨hx, hy, hl, hf, ha⟩ := finer_parts h
  have e : kOut (mix 8 xs ys) = kOut xs := (kOut_pat xs (mix 8 xs ys) (mix_length _ _ _) fun i j hi hj => by
    rw [mix_eq_iff hx hy hl hi hj]
    exact ⟨fun e => ⟨e, finer_iff.1 hf i j hi hj e⟩, fun e => e.1⟩).1
  unfold finerMeet
  rw [if_pos ha, e, kOut_part hx]

theorem alike_symm {xs ys : List Int} (h : alike xs ys = true) : alike ys xs = true := by
  rw [alike_iff] at h ⊢
  exact ⟨h.2.1, h.1, h.2.2.symm⟩

theorem finer_meet' {xs ys : List Int} (h : finerIn xs ys = true) : finerMeet ys xs = (xs, true) := by
  obtain ⟨hx, hy, hl, hf, ha⟩ := finer_parts h
  have e : kOut (mix 8 ys xs) = kOut xs := (kOut_pat xs (mix 8 ys xs) (by rw [mix_length]; exact hl.symm) fun i j hi hj => by
    rw [mix_eq_iff hy hx hl.symm (by omega) (by omega)]
    exact ⟨fun e => ⟨finer_iff.1 hf i j hi hj e, e⟩, fun e => e.2⟩).1
  unfold finerMeet
  rw [if_pos (alike_symm ha), e, kOut_part hx]

theorem join_pat {xs ys r : List Int} (hr : r.length = xs.length) (h : ∀ i j, i < xs.length → j < xs.length → (r.getD i 0 = r.getD j 0 ↔ (joinAll xs ys xs.length xs.length).getD i 0 = (joinAll xs ys xs.length xs.length).getD j 0)) :
    kOut (joinAll xs ys xs.length xs.length) = kOut r :=
  (kOut_pat r (joinAll xs ys xs.length xs.length) (by rw [joinAll_len, hr]) fun i j hi hj => h i j (by omega) (by omega)).1

/-- A partition that keeps together what is together in both tells two things of one block of the join alike. -/
theorem join_coarse {xs ys r : List Int} (hg : ∀ i k, i < xs.length → k < xs.length → tog xs ys i k = true → r.getD i 0 = r.getD k 0) {i j : Nat} (hi : i < xs.length) (hj : j < xs.length)
    (e : (joinAll xs ys xs.length xs.length).getD i 0 = (joinAll xs ys xs.length xs.length).getD j 0) : r.getD i 0 = r.getD j 0 := by
  have hgd := join_good xs ys xs.length (fun k => r.getD k 0) hg xs.length
  have h1 := (hgd.2 i hi).2.2
  have h2 := (hgd.2 j hj).2.2
  rw [e] at h1
  exact h1.symm.trans h2

theorem finer_join {xs ys : List Int} (h : finerIn xs ys = true) : finerJoin xs ys = (ys, true) := by
  obtain ⟨hx, hy, hl, hf, ha⟩ := finer_parts h
  have e : kOut (joinAll xs ys xs.length xs.length) = kOut ys := join_pat hl.symm fun i j hi hj => by
    constructor
    · intro e
      exact join_eq xs ys xs.length hi hj (tog_iff.2 (.inr e))
    · refine join_coarse (fun i k hi hk ht => ?_) hi hj
      rcases tog_iff.1 ht with e | e
      · exact finer_iff.1 hf i k hi hk e
      · exact e
  unfold finerJoin
  rw [if_pos ha, e, kOut_part hy]

theorem meet_finer {xs ys : List Int} (ha : alike xs ys = true) : finerIn (kOut (mix 8 xs ys)) xs = true ∧ finerIn (kOut (mix 8 xs ys)) ys = true := by
  obtain ⟨hx, hy, hl⟩ := alike_iff.1 ha
  have hlen := partIn_len hx
  have hml : (kOut (mix 8 xs ys)).length = xs.length := by rw [kOut_length, mix_length]
  have hp : partIn (kOut (mix 8 xs ys)) = true := partIn_kOut (by rw [mix_length]; exact hlen.1) (by rw [mix_length]; exact hlen.2)
  have hk : ∀ i k, i < (kOut (mix 8 xs ys)).length → k < (kOut (mix 8 xs ys)).length → (kOut (mix 8 xs ys)).getD i 0 = (kOut (mix 8 xs ys)).getD k 0 → xs.getD i 0 = xs.getD k 0 ∧ ys.getD i 0 = ys.getD k 0 := by
    intro i k hi hk e
    rw [hml] at hi hk
    have := ((kOut_inv (mix 8 xs ys)).2 i k (by rw [mix_length]; exact hi) (by rw [mix_length]; exact hk)).2 e
    exact (mix_eq_iff hx hy hl hi hk).1 this
  exact ⟨finer_mk hp hx hml fun i k hi hk' e => (hk i k hi hk' e).1, finer_mk hp hy (hml.trans hl) fun i k hi hk' e => (hk i k hi hk' e).2⟩

theorem join_finer {xs ys : List Int} (ha : alike xs ys = true) : finerIn xs (kOut (joinAll xs ys xs.length xs.length)) = true ∧ finerIn ys (kOut (joinAll xs ys xs.length xs.length)) = true := by
  obtain ⟨hx, hy, hl⟩ := alike_iff.1 ha
  have hlen := partIn_len hx
  have hjl := joinAll_len xs ys xs.length xs.length
  have hml : (kOut (joinAll xs ys xs.length xs.length)).length = xs.length := by rw [kOut_length, hjl]
  have hp : partIn (kOut (joinAll xs ys xs.length xs.length)) = true := partIn_kOut (by rw [hjl]; exact hlen.1) (by rw [hjl]; exact hlen.2)
  have hk : ∀ i k, i < xs.length → k < xs.length → tog xs ys i k = true → (kOut (joinAll xs ys xs.length xs.length)).getD i 0 = (kOut (joinAll xs ys xs.length xs.length)).getD k 0 := by
    intro i k hi hk ht
    exact ((kOut_inv _).2 i k (by rw [hjl]; exact hi) (by rw [hjl]; exact hk)).1 (join_eq xs ys xs.length hi hk ht)
  exact ⟨finer_mk hx hp hml.symm fun i k hi hk' e => hk i k hi hk' (tog_iff.2 (.inl e)), finer_mk hy hp (by omega) fun i k hi hk' e => hk i k (by omega) (by omega) (tog_iff.2 (.inr e))⟩

theorem sum_ge_len : ∀ l : List Int, (∀ y, y < l.length → 1 ≤ l.getD y 0) → (l.length : Int) ≤ l.sum := by
  refine snoc_induction (fun _ => Int.le_refl _) fun l x ih h => ?_
  have h1 := ih fun y hy => by have := h y (by simp; omega); rwa [getD_snoc_lt _ _ _ hy] at this
  have h2 := h l.length (by simp)
  rw [getD_snoc_eq] at h2
  rw [List.sum_append, List.length_append]
  simp
  omega

theorem inner_sum {xs ys : List Int} (h : finerIn xs ys = true) : (inner xs ys).sum = pSize xs := by
  obtain ⟨hx, hy, hl, _⟩ := finer_parts h
  have bx := pSize_bd (partIn_small hx)
  have by' := pSize_bd (partIn_small hy)
  obtain ⟨p, hp⟩ := Int.eq_ofNat_of_zero_le bx.1
  obtain ⟨q, hq⟩ := Int.eq_ofNat_of_zero_le by'.1
  have e : inner xs ys = innerTo xs ys q p := by unfold inner; rw [hp, hq, Int.toNat_natCast, Int.toNat_natCast]
  rw [e, innerTo_sum hx hy hl.symm q p hp hq p (Nat.le_refl _), hp]

theorem finer_size {xs ys : List Int} (h : finerIn xs ys = true) : pSize ys ≤ pSize xs := by
  have h1 := sum_ge_len (inner xs ys) (inner_facts h).2
  rw [inner_sum h, inner_length] at h1
  have := (pSize_bd (partIn_small (finer_parts h).2.1)).1
  omega

/-- The product tells how many more blocks there are, as far as none or one. -/
theorem prod_small : ∀ l : List Int, (∀ y, y < l.length → 1 ≤ l.getD y 0 ∧ l.getD y 0 ≤ 8) →
    1 ≤ prodOf bellN l ∧ (l.length : Int) ≤ l.sum ∧ (prodOf bellN l = 1 ↔ l.sum = l.length) ∧ (prodOf bellN l = 2 ↔ l.sum = l.length + 1) := by
  refine snoc_induction (fun _ => by simp [prodOf]) fun l x ih h => ?_
  obtain ⟨h1, h2, h3, h4⟩ := ih fun y hy => by have := h y (by simp; omega); rwa [getD_snoc_lt _ _ _ hy] at this
  have hx := h l.length (by simp)
  rw [getD_snoc_eq] at hx
  rw [prodOf_snoc, List.sum_append, List.length_append]
  have e : ([x] : List Int).sum = x := by simp
  have e2 : ([x] : List Int).length = 1 := rfl
  rw [e, e2]
  generalize prodOf bellN l = w at *
  generalize l.sum = s at *
  generalize l.length = n at *
  have hc : x = 1 ∨ x = 2 ∨ 3 ≤ x := by omega
  rcases hc with rfl | rfl | hc
  · have : bellN (1 : Int).toNat = 1 := by decide
    rw [this]
    omega
  · have : bellN (2 : Int).toNat = 2 := by decide
    rw [this]
    omega
  · have hb : 5 ≤ bellN x.toNat := by
      have : ∀ c, c < 9 → 3 ≤ c → 5 ≤ bellN c := by decide +kernel
      exact this x.toNat (by omega) (by omega)
    have h5 : 1 * 5 ≤ w * bellN x.toNat := Int.mul_le_mul h1 hb (by omega) (by omega)
    omega

theorem under_both {xs ys : List Int} (h : finerIn xs ys = true) (he : pSize xs = pSize ys) : xs = ys := by
  obtain ⟨hx, hy, hl, hf, ha⟩ := finer_parts h
  have hge := inner_facts h
  have hsum := inner_sum h
  have hlen : ((inner xs ys).length : Int) = (inner xs ys).sum := by
    rw [hsum, inner_length]
    have := (pSize_bd (partIn_small hy)).1
    omega
  have hone : ∀ y, y < (inner xs ys).length → (inner xs ys).getD y 0 = 1 := by
    have : ∀ l : List Int, (∀ y, y < l.length → 1 ≤ l.getD y 0) → (l.length : Int) = l.sum → ∀ y, y < l.length → l.getD y 0 = 1 := by
      refine snoc_induction (fun _ _ y hy => by simp at hy) fun l x ih h he y hy => ?_
      have h0 : ∀ y, y < l.length → 1 ≤ l.getD y 0 := fun y hy => by have := h y (by simp; omega); rwa [getD_snoc_lt _ _ _ hy] at this
      have h1 := sum_ge_len l h0
      have h2 := h l.length (by simp)
      rw [getD_snoc_eq] at h2
      rw [List.sum_append, List.length_append] at he
      simp at he
      by_cases e : y < l.length
      · rw [getD_snoc_lt _ _ _ e]
        exact ih h0 (by omega) y e
      · have : y = l.length := by simp at hy; omega
        rw [this, getD_snoc_eq]
        omega
    exact this _ hge.2 hlen
  have hback : ∀ i k, i < xs.length → k < xs.length → ys.getD i 0 = ys.getD k 0 → xs.getD i 0 = xs.getD k 0 := by
    intro i k hi hk e
    refine Classical.byContradiction fun hne => ?_
    obtain ⟨a, ha'⟩ := Int.eq_ofNat_of_zero_le (partIn_small hx i hi).1
    obtain ⟨b, hb'⟩ := Int.eq_ofNat_of_zero_le (partIn_small hx k hk).1
    obtain ⟨y, hy'⟩ := Int.eq_ofNat_of_zero_le (partIn_small hy i (by omega)).1
    have bx := pSize_bd (partIn_small hx)
    have by' := pSize_bd (partIn_small hy)
    obtain ⟨p, hp⟩ := Int.eq_ofNat_of_zero_le bx.1
    obtain ⟨q, hq⟩ := Int.eq_ofNat_of_zero_le by'.1
    have hyq := lt_pSize ys i (by omega)
    have hap := lt_pSize xs i hi
    have hbp := lt_pSize xs k hk
    have h1 := hone y (by rw [inner_length]; omega)
    have e2 : inner xs ys = innerTo xs ys q p := by unfold inner; rw [hp, hq, Int.toNat_natCast, Int.toNat_natCast]
    rw [e2, innerTo_getD _ _ _ _ _ (by omega)] at h1
    have hu : ∀ (v i : Nat), i < xs.length → xs.getD i 0 = (v : Int) → ys.getD i 0 = (y : Int) → under xs ys y v = true := by
      intro v i hi hv hyv
      have hm : (v : Int) ∈ xs := mem_of_getD hi hv
      simp only [under, decide_eq_true_eq]
      rw [← hyv]
      exact finer_iff.1 hf _ _ (List.idxOf_lt_length_of_mem hm) hi (by rw [getD_idxOf hm, hv])
    have ma : a ∈ (List.range p).filter (under xs ys y) := by
      rw [List.mem_filter]; exact ⟨by simp; omega, hu a i hi ha' hy'⟩
    have mb : b ∈ (List.range p).filter (under xs ys y) := by
      rw [List.mem_filter]; exact ⟨by simp; omega, hu b k hk hb' (by rw [← e]; exact hy')⟩
    have hl1 : ((List.range p).filter (under xs ys y)).length = 1 := by omega
    obtain ⟨z, hz⟩ := List.length_eq_one_iff.1 hl1
    rw [hz] at ma mb
    have := List.mem_singleton.1 ma
    have := List.mem_singleton.1 mb
    omega
  have e : kOut ys = kOut xs := (kOut_pat xs ys hl.symm fun i j hi hj => ⟨fun e => finer_iff.1 hf i j hi hj e, hback i j hi hj⟩).1
  rw [kOut_part hx, kOut_part hy] at e
  exact e.symm

theorem merges_len (xs : List Int) (p : Nat) (hp : p ≤ 8) : (mergesTo xs p p).length = p * (p - 1) / 2 := by
  have h : ∀ k, (mergesTo xs p k).length = ((List.range k).map fun x => p - 1 - x).sum := by
    intro k
    induction k with
    | zero => rfl
    | succ k ih =>
      rw [mergesTo_succ, List.length_append, mrow_length, ih, List.range_succ, List.map_append, List.sum_append]
      simp
  rw [h]
  have : ∀ p, p < 9 → ((List.range p).map fun x => p - 1 - x).sum = p * (p - 1) / 2 := by decide
  exact this p (by omega)

theorem merges_each (xs : List Int) (p : Nat) (r : List Int) : ∀ k, r ∈ mergesTo xs p k → ∃ x y : Nat, x < y ∧ y < p ∧ r = kOut (retold xs (x : Int) (y : Int)) := by
  intro k h
  unfold mergesTo mrow at h
  rw [List.mem_flatMap] at h
  obtain ⟨x, hx, h⟩ := h
  rw [List.mem_map] at h
  obtain ⟨i, hi, e⟩ := h
  have : i < p - 1 - x := by simpa using hi
  exact ⟨x, x + 1 + i, by omega, by omega, e.symm⟩

theorem merge_finer {xs : List Int} (hx : partIn xs = true) (l g : Int) : finerIn xs (kOut (retold xs l g)) = true := by
  have hlen := partIn_len hx
  have hml : (kOut (retold xs l g)).length = xs.length := by rw [kOut_length, retold_length]
  refine finer_mk hx (partIn_kOut (by rw [retold_length]; exact hlen.1) (by rw [retold_length]; exact hlen.2)) hml.symm fun i k hi hk e => ?_
  refine ((kOut_inv _).2 i k (by rw [retold_length]; exact hi) (by rw [retold_length]; exact hk)).1 ?_
  rw [retold_getD _ _ _ _ hi, retold_getD _ _ _ _ hk, e]

end Go.Proofs.Ytbmpchpcihnbdaa

/-
  The contracts of FinerSplits (impl and spec).
-/
namespace Go.Proofs.Ytbmpchpcihnbdaa
set_option linter.unusedSimpArgs false
set_option linter.unusedVariables false
set_option linter.unnecessarySimpa false
open Go.RowKit
set_option maxRecDepth 100000

/-- The splits of a block of n things. -/
def spl : Nat → Int
  | 0 => 0
  | n + 1 => if n = 0 then 0 else 2 * spl n + 1

theorem spl_bd : ∀ n, n < 9 → 0 ≤ spl n ∧ spl n ≤ 127 := by decide +kernel

def sumOf (f : Nat → Int) (l : List Int) : Int := l.foldl (fun w c => w + f c.toNat) 0
def finerSplits (xs : List Int) : Int × Bool := if partIn xs then (sumOf spl (sizes xs), true) else (0, false)

theorem sumOf_snoc (f : Nat → Int) (l : List Int) (c : Int) : sumOf f (l ++ [c]) = sumOf f l + f c.toNat := by simp [sumOf, List.foldl_append]
theorem sumOf_bd : ∀ l : List Int, (∀ c ∈ l, 0 ≤ c ∧ c ≤ 8) → 0 ≤ sumOf spl l ∧ sumOf spl l ≤ 127 * l.length := by
  refine snoc_induction (fun _ => by simp [sumOf]) fun l c ih h => ?_
  have h1 := ih fun d hd => h d (by simp [hd])
  have h2 := h c (by simp)
  have h3 := spl_bd c.toNat (by omega)
  rw [sumOf_snoc, List.length_append]
  simp
  omega

theorem cntAt_pos (xs : List Int) (b : Nat) : ∀ k i, i < k → xs.getD i 0 = (b : Int) → 1 ≤ cntAt xs b k := by
  intro k
  induction k with
  | zero => intro i hi; omega
  | succ k ih =>
    intro i hi e
    unfold cntAt
    by_cases h : i = k
    · subst h
      rw [if_pos e]
      omega
    · have := ih i (by omega) e
      split <;> omega

theorem sizes_bd {xs : List Int} (h : partIn xs = true) : ∀ c ∈ sizes xs, 1 ≤ c ∧ c ≤ 8 := by
  intro c hc
  obtain ⟨b, hb, rfl⟩ := List.mem_map.1 hc
  have hb2 : b < (pSize xs).toNat := by simpa using hb
  have hm : (b : Int) ∈ xs := (mem_part h _).2 (by omega)
  obtain ⟨i, hi, e⟩ := mem_iff_getD.1 hm
  have h1 := cntAt_pos xs b xs.length i hi e
  have h2 := cntAt_le xs b xs.length
  have h3 := (partIn_len h).2
  omega

theorem sumOf_cons (f : Nat → Int) (c : Int) (l : List Int) : sumOf f (c :: l) = f c.toNat + sumOf f l := by
  revert l
  refine snoc_induction (by simp [sumOf]) fun l d ih => ?_
  have e : c :: (l ++ [d]) = (c :: l) ++ [d] := rfl
  rw [e, sumOf_snoc, ih, sumOf_snoc]
  omega

theorem sumOf_perm (f : Nat → Int) {l m : List Int} (h : l.Perm m) : sumOf f l = sumOf f m := by
  induction h with
  | nil => rfl
  | cons x _ ih => rw [sumOf_cons, sumOf_cons, ih]
  | swap x y l => rw [sumOf_cons, sumOf_cons, sumOf_cons, sumOf_cons]; omega
  | trans _ _ h1 h2 => exact h1.trans h2

end Go.Proofs.Ytbmpchpcihnbdaa

/-
  The contracts of slices.Concat and PartDrop (impl and spec).
-/
namespace Go.Proofs.Ytbmpchpcihnbdaa
set_option linter.unusedSimpArgs false
set_option linter.unusedVariables false
set_option linter.unnecessarySimpa false
open Go.RowKit

def dropAt (xs : List Int) (i : Nat) : List Int := xs.take i ++ xs.drop (i + 1)
def partDrop (xs : List Int) (i : Int) : List Int × Bool := if partIn xs ∧ xs.length ≠ 1 ∧ 0 ≤ i ∧ i < xs.length then (kOut (dropAt xs i.toNat), true) else ([], false)

theorem dropAt_length (xs : List Int) (i : Nat) (h : i < xs.length) : (dropAt xs i).length = xs.length - 1 := by simp [dropAt]; omega

theorem partDrop_len (xs : List Int) (i : Int) (h : xs.length ≤ 1048576) : (partDrop xs i).1.length ≤ 2305843009213693952 := by
  unfold partDrop
  split
  · rw [kOut_length, dropAt]; simp; omega
  · simp

theorem cells_drew {w : World} {ad : Addr} {xs : List Int} (h : ∀ j, j < xs.length → w.cell? (ad.add j) = some (.int .i64 (xs.getD j 0))) : ∀ j, j < xs.length → w.drew.cell? (ad.add j) = some (.int .i64 (xs.getD j 0)) := h

theorem cells_take {w : World} {b off : Nat} {xs : List Int} (i : Nat) (h : ∀ j, j < xs.length → w.cell? ⟨b, off + j, none⟩ = some (.int .i64 (xs.getD j 0))) : ∀ j, j < (xs.take i).length → w.cell? ⟨b, off + j, none⟩ = some (.int .i64 ((xs.take i).getD j 0)) := by
  intro j hj
  have h1 : j < i ∧ j < xs.length := by simp at hj; omega
  rw [h j h1.2]
  simp [List.getD, List.getElem?_take, h1.1]

theorem cells_drop {w w' : World} {b off i : Nat} {xs : List Int} (hb : Below w.heap.size w w') (h : ∀ j, j < xs.length → w.cell? ⟨b, off + j, none⟩ = some (.int .i64 (xs.getD j 0))) : ∀ j, j < (xs.drop i).length → w'.cell? ((⟨b, off + i, none⟩ : Addr).add j) = some (.int .i64 ((xs.drop i).getD j 0)) := by
  intro j hj
  have h1 : i + j < xs.length := by simp at hj; omega
  have := h (i + j) h1
  rw [Addr.add_lit, Nat.add_assoc, hb.cell (World.block_lt_of_cell? w _ this), this]
  simp [List.getD]

theorem drop_below {w w2 : World} {o : Obj} (h : (w.alloc o).drew.grownBy w2 (some w.heap.size)) : Below w.heap.size w w2 :=
  (((Below.refl _ w).alloc (Nat.le_refl _) o).drew).grown h (by simp [World.drew]) (fun q hq => by cases hq; exact Nat.le_refl _)

theorem cell_two0 (w : World) (x y : Value) (t : TypeId) : (w.alloc (.cells #[x, y] t)).drew.cell? ⟨w.heap.size, 0, none⟩ = some x := by simp
theorem cell_two1 (w : World) (x y : Value) (t : TypeId) : (w.alloc (.cells #[x, y] t)).drew.cell? ⟨w.heap.size, 1, none⟩ = some y := by simp

theorem cells_drop_lit {w : World} {b off i : Nat} {xs : List Int} (h : ∀ j, j < xs.length → w.cell? ⟨b, off + j, none⟩ = some (.int .i64 (xs.getD j 0))) : ∀ j, j < (xs.drop i).length → w.cell? ⟨b, off + i + j, none⟩ = some (.int .i64 ((xs.drop i).getD j 0)) := by
  intro j hj
  have := cells_drop (i := i) (Below.refl _ _) h j hj
  rwa [Addr.add_lit] at this

end Go.Proofs.Ytbmpchpcihnbdaa

