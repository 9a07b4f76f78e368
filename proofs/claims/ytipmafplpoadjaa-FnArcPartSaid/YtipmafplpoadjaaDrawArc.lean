/-
  What spec.DrawArcPart hands on.
-/
import Derived.Test.YtipmafplpoadjaaRds
import Derived.Test.YtipmafplpoadjaaDrawOf
import Derived.Test.YtipmafplpoadjaaArcList
import Derived.Test.YtipmafplpoadjaaSameRows
import Derived.Deep.RegionHeld3
namespace Go.Proofs.Ytipmafplpoadjaa
set_option linter.unusedSimpArgs false
set_option linter.unusedVariables false
set_option linter.unnecessarySimpa false
open Go.RowKit
set_option maxRecDepth 100000

theorem ownV_one (w : World) (B : Nat) (hB : B ≤ w.heap.size) (v : Value) : OwnV (w.alloc (.cells #[v] 23)) B (.slice (some ⟨w.heap.size, 0, none⟩) 1 1) [v] :=
  ⟨by simp, .inr ⟨w.heap.size, 1, #[v], rfl, hB, heap_alloc_new w _, Nat.le_refl _, by unfold maxLen; simp, rfl, by simp⟩⟩

theorem one_new (w : World) (v : Value) : ∀ j, j < [v].length → (w.alloc (.cells #[v] 23)).cell? ((⟨w.heap.size, 0, none⟩ : Addr).add j) = some ([v].getD j undef) := by
  intro j hj
  obtain rfl : j = 0 := by simpa using hj
  rw [Addr.add_lit]
  exact cell_new1 w v _

theorem one_kept {w w' : World} {B g gE : Nat} {v : Value} (hg : w.grownBy w' (some gE)) (h : OwnV w B (.slice (some ⟨g, 0, none⟩) 1 1) [v]) (hne : (Value.slice (some ⟨g, 0, none⟩) 1 1).ownBlock ≠ some gE) : ∀ j, j < [v].length → w'.cell? ((⟨g, 0, none⟩ : Addr).add j) = some ([v].getD j undef) := by
  have h2 : OwnV w' B (.slice (some ⟨g, 0, none⟩) 1 1) [v] := World.ownsRow.kept h hg (.inr hne)
  intro j hj
  rw [Addr.add_lit, Nat.zero_add]
  exact (ownV_facts h2).2.2.2.2.2 j hj

theorem rdM_turned {w : World} {B g L cap : Nat} {vs : List Value} {v0 : Value} {rows : List (List Int)} (h : OwnV w B (.slice (some ⟨g, 0, none⟩) L cap) (vs.drop 1 ++ [v0])) (hv : v0 = vs.getD 0 undef) (hvl : vs.length = L) (hrl : rows.length = L) (h1 : 0 < L) (hr : ∀ i, i < L → RdV w (vs.getD i undef) (rows.getD i [])) : RdM w (.slice (some ⟨g, 0, none⟩) L cap) (rows.drop 1 ++ [rows.getD 0 []]) := by
  obtain ⟨k0, k1, k2, k3, k4, k5⟩ := ownV_facts h
  have l1 : (vs.drop 1).length = L - 1 := by rw [List.length_drop, hvl]
  have l2 : (rows.drop 1).length = L - 1 := by rw [List.length_drop, hrl]
  refine rdM_rows (vs := vs.drop 1 ++ [v0]) (by rw [List.length_append, List.length_append, l1, l2]; rfl) (by rw [List.length_append, l2]; simp; omega) k1 k2 (fun i hi => ?_) fun i hi => ?_
  · rw [Nat.zero_add]
    exact k5 i (by rw [List.length_append, l2] at hi; rw [List.length_append, l1]; exact hi)
  · rw [List.length_append, l2] at hi
    simp at hi
    by_cases hip : i < L - 1
    · rw [getD_snocV_lt _ _ _ _ (by rw [l1]; exact hip), getD_snocV_lt _ _ _ _ (by rw [l2]; exact hip)]
      have e1 : (vs.drop 1).getD i undef = vs.getD (1 + i) undef := by simp [List.getD, Nat.add_comm]
      have e2 : (rows.drop 1).getD i [] = rows.getD (1 + i) [] := by simp [List.getD, Nat.add_comm]
      rw [e1, e2]
      exact hr _ (by omega)
    · obtain rfl : i = L - 1 := by omega
      have x1 := getD_snocV_eq (vs.drop 1) v0 undef
      have x2 := getD_snocV_eq (rows.drop 1) (rows.getD 0 []) ([] : List Int)
      rw [l1] at x1
      rw [l2] at x2
      rw [x1, x2, hv]
      exact hr 0 h1

theorem cell_al {w : World} {a : Addr} {v : Value} (h : w.cell? a = some v) (o : Obj) : (w.alloc o).cell? a = some v := by
  rw [((Below.refl w.heap.size w).alloc (Nat.le_refl _) o).cell (World.block_lt_of_cell? w _ h)]
  exact h

set_option maxHeartbeats 3200000 in
theorem drawArcPart_any (a : Option Addr) (len cap : Nat) (w : World) (hby : Bytes w a len) (hlen : len ≤ 1048576) (hc : len ≤ cap) (hcm : cap ≤ maxLen) :
    Calls Try.prog 29 #[.slice a len cap] w (OfDrawn w) := by
  go_enter Try.func29, Try.ntmps29
  go_wp2_with fail
  refine (l91Some_any a len cap w hby hlen hc hcm).mono ?_
  rintro e w1 ⟨va, xs, rfl, oa, hl, _, hb1⟩
  obtain ⟨ao, ca, rfl⟩ := own_slice' oa
  obtain ⟨n, hn⟩ : ∃ n, n = xs.length := ⟨_, rfl⟩
  rw [← hn] at hl oa ⊢
  have HN := Lib.hid hn
  have HB1 := Lib.hid (bytes_below hby hb1)
  have hrd := own_rdv oa
  have hs1 := hb1.size
  clear hn oa
  by_cases hp : partIn xs = true
  · have e1 : arcList xs = (rowsOf (arcsOf xs), true) := by simp [arcList, hp]
    have hal := arcsOf_len xs
    have hl8 := partIn_len hp
    have hrl := rowsOf_length (arcsOf xs)
    obtain ⟨L, hL⟩ : ∃ L, L = (arcsOf xs).length := ⟨_, rfl⟩
    rw [← hL] at hal hrl
    have hL8 : L ≤ 8 := by omega
    have hn1 : 1 ≤ n := by rw [HN.out]; omega
    generalize rowsOf (arcsOf xs) = rows at *
    have HP := Lib.hid (e1 ▸ sArcList_v _ xs w1 hrd)
    have HRL := Lib.hid hrl
    clear e1 hrd hp hal hl8 hL hrl
    go_wp2_with fail
    refine HP.out.mono ?_
    rintro e w2 ⟨v_l, rfl, ol, hb2⟩
    obtain ⟨lo, lc, rfl⟩ := ownM_slice' ol
    dsimp only at ol ⊢
    rw [HRL.out] at ol ⊢
    have HB2 := Lib.hid (bytes_below HB1.out hb2)
    have hb12 := below_step hb1 hb2
    have hw12 := hb2.size
    have HOL2 := Lib.hid ol
    clear HP ol
    go_wp2_with fail
    refine (open_r a len cap w2 HB2.out hlen hc hcm).mono ?_
    rintro e w3 ⟨g, m, cp, rfl, r3⟩
    obtain ⟨hf1, hf2, hf3, hf4⟩ := rdr_facts r3.rdr
    obtain ⟨r4, hg4⟩ := rds_set r3 61
    have R4 := Lib.hid r4
    have hx61 : ((61 : Nat) : Int) = 61 := rfl
    rw [hx61] at R4
    obtain ⟨w4, hw4⟩ : ∃ w4, w4 = w3.setCell ⟨g, 1, none⟩ (.int .i64 61) := ⟨_, rfl⟩
    have HW4 := Lib.hid hw4
    clear r4 hg4 hw4 hx61 r3
    go_wp2_with fail
    rw [← HW4.out]
    rw [← HW4.out] at R4
    refine (pick_r R4.out _ (by omega) (by omega) (by omega)).mono ?_
    rintro e wo ⟨t, rfl, ht, r5, hg5⟩
    have R5 := Lib.hid r5
    have hbig := below_step hb12 r5.below
    have HOL := Lib.hid (ownM_below HOL2.out r5.below)
    have hw2o := r5.below.size
    have hw1o : w1.heap.size ≤ wo.heap.size := by omega
    clear r5 hg5 hf1 hf2 hf3 hf4
    by_cases h0 : t = 0
    · subst h0
      have hcell := cell_new1 (wo.alloc (.cells #[.int .i64 0, .int .i64 ((n : Int) - 1)] 3)) (.slice (some ⟨wo.heap.size, 0, none⟩) 2 2) 23
      rw [show (wo.alloc (.cells #[.int .i64 0, .int .i64 ((n : Int) - 1)] 3)).heap.size = wo.heap.size + 1 by simp] at hcell
      have HCE := Lib.hid hcell
      have HOU := Lib.hid (own_alloc (own_two wo w1.heap.size 0 ((n : Int) - 1) hw1o) (.cells #[.slice (some ⟨wo.heap.size, 0, none⟩) 2 2] 23))
      have hbo : Below wo.heap.size wo ((wo.alloc (.cells #[.int .i64 0, .int .i64 ((n : Int) - 1)] 3)).alloc (.cells #[.slice (some ⟨wo.heap.size, 0, none⟩) 2 2] 23)) := ((Below.refl _ _).alloc (Nat.le_refl _) _).alloc (by simp) _
      have HOM := Lib.hid (ownM_below HOL.out hbo)
      have HBO := Lib.hid (below_step hbig hbo)
      have HSZ := Lib.hid hbo.size
      clear hcell hbo
      go_wp2_with (at_builtin; refine wpList_pushV rfl _ _ rfl w1.heap.size w2.heap.size L _ rows rfl HOM.out HRL.out.symm ⟨wo.heap.size + 1, 0, none⟩ rfl _ _ HCE.out HOU.out (fun q hq => by simp [Value.ownBlock] at hq; simp; omega) hw12 (Nat.le_trans hw2o HSZ.out) (by omega) ?_; intro g4 cap4 w4 hown4 hgr4)
      have hb4 : Below w.heap.size w w4 := HBO.out.grown hgr4 HBO.out.size (fun q hq => by
        obtain ⟨vs', hr'⟩ := ownM_row0 HOM.out
        have := (World.ownsRow.lt hr' q hq).1
        omega)
      have HO4 := Lib.hid hown4
      clear hown4 hgr4
      go_wp2
      go_ret2
      exact ⟨n, _, rows ++ [[0, ((n : Int) - 1)]], rfl, by omega, ownM_rdM (xss := rows ++ [[0, ((n : Int) - 1)]]) (by simpa [HRL.out] using HO4.out), by simp [HRL.out]; omega, hb4⟩
    · have d0 : ((t : Int) == 0) = false := by simp; omega
      by_cases h1 : t = 1
      · subst h1
        have hcell := cell_new1 (wo.alloc (.cells #[.int .i64 1, .int .i64 0] 3)) (.slice (some ⟨wo.heap.size, 0, none⟩) 2 2) 23
        rw [show (wo.alloc (.cells #[.int .i64 1, .int .i64 0] 3)).heap.size = wo.heap.size + 1 by simp] at hcell
        have HCE := Lib.hid hcell
        have HOU := Lib.hid (own_alloc (own_two wo w1.heap.size 1 0 hw1o) (.cells #[.slice (some ⟨wo.heap.size, 0, none⟩) 2 2] 23))
        have hbo : Below wo.heap.size wo ((wo.alloc (.cells #[.int .i64 1, .int .i64 0] 3)).alloc (.cells #[.slice (some ⟨wo.heap.size, 0, none⟩) 2 2] 23)) := ((Below.refl _ _).alloc (Nat.le_refl _) _).alloc (by simp) _
        have HOM := Lib.hid (ownM_below HOL.out hbo)
        have HBO := Lib.hid (below_step hbig hbo)
        have HSZ := Lib.hid hbo.size
        clear hcell hbo
        go_wp2_with (at_builtin; refine wpList_pushV rfl _ _ rfl w1.heap.size w2.heap.size L _ rows rfl HOM.out HRL.out.symm ⟨wo.heap.size + 1, 0, none⟩ rfl _ _ HCE.out HOU.out (fun q hq => by simp [Value.ownBlock] at hq; simp; omega) hw12 (Nat.le_trans hw2o HSZ.out) (by omega) ?_; intro g4 cap4 w4 hown4 hgr4)
        have hb4 : Below w.heap.size w w4 := HBO.out.grown hgr4 HBO.out.size (fun q hq => by
          obtain ⟨vs', hr'⟩ := ownM_row0 HOM.out
          have := (World.ownsRow.lt hr' q hq).1
          omega)
        have HO4 := Lib.hid hown4
        clear hown4 hgr4
        go_wp2
        go_ret2
        exact ⟨n, _, rows ++ [[1, 0]], rfl, by omega, ownM_rdM (xss := rows ++ [[1, 0]]) (by simpa [HRL.out] using HO4.out), by simp [HRL.out]; omega, hb4⟩
      · have d1 : ((t : Int) == 1) = false := by simp; omega
        by_cases h2 : t = 2
        · subst h2
          have HRD := Lib.hid (ownM_rdM HOL.out)
          go_wp2
          go_ret2
          exact ⟨n + 1, _, rows, rfl, by omega, HRD.out, by rw [HRL.out]; omega, hbig⟩
        · have d2 : ((t : Int) == 2) = false := by simp; omega
          by_cases hL1 : 1 < L
          · have hL1' : (1 : Int) < (L : Int) := by omega
            go_wp2_with fail
            refine (pick_r R5.out _ (by omega) (by omega) (by omega)).mono ?_
            rintro e w6 ⟨t2, rfl, ht2, r6, hg6⟩
            have hbig6 := below_step hb12 r6.below
            have HOL6 := Lib.hid (ownM_below HOL2.out r6.below)
            clear r6 hg6
            by_cases h3 : t2 = 0
            · subst h3
              obtain ⟨vs, hvl, hv, hrows, hap⟩ := ownM_parts HOL6.out
              rcases hv with ⟨h9, _⟩ | ⟨b, lc', h9, hbg, hg2s, hgs, hlc, hlm, hce, hfz⟩
              · have h8 := congrArg (fun v => match v with | Value.slice _ n _ => n | _ => 0) h9
                dsimp only at h8
                omega
              obtain ⟨h91, h93, h92⟩ : lo = some ⟨b, 0, none⟩ ∧ L = rows.length ∧ lc = lc' := by simpa using h9
              subst h91
              subst h92
              rw [HRL.out] at hlc hvl
              have hz0 := hce 0 (by rw [HRL.out]; omega)
              have hr0 := (hrows 0 (by rw [HRL.out]; omega)).1
              have hrv0 := own_rdv hr0
              obtain ⟨a0, l0, c0, hv0⟩ : ∃ a0 l0 c0, Value.slice a0 l0 c0 = vs.getD 0 undef := by
                obtain ⟨a0, c0, hza, _⟩ := hrv0
                exact ⟨a0, _, c0, hza.symm⟩
              have hone0 := rdv_one hrv0
              rw [← hv0] at hz0 hone0
              have hS0 : w6.drew.cell? ⟨b, 0, none⟩ = some (Value.slice a0 l0 c0) := hz0
              have x1 : ¬ lc = 1 := by omega
              have x2 : (1 : Int) ≤ (L : Int) := by omega
              have x3 : (L : Int) ≤ (lc : Int) := by omega
              have x4 : (1 : Int) ≤ (lc : Int) := by omega
              have x5 : (0 : Int) < (L : Int) := by omega
              have x6 : 0 < L := by omega
              have x7 : ¬ L = 0 := by omega
              have hbl : b < w6.heap.size := hgs
              have hL2 : 2 ≤ L := by omega
              have hLL : L - 1 + 1 = L := by omega
              have hLn : L - 1 + 1 ≤ 1000000000 := by omega
              have HONE := Lib.hid (fun z (hz : z ∈ vs) => show z.oneCell' = true by
                obtain ⟨i, hi, e⟩ := List.getElem_of_mem hz
                have := own_rdv (hrows i (by rw [HRL.out, ← hvl]; exact hi)).1
                have e2 : vs.getD i undef = z := by simp [List.getD, List.getElem?_eq_getElem hi, e]
                rw [e2] at this
                exact rdv_one this)
              have HCO := Lib.hid (fun (w' : World) (hb : Below w6.heap.size w6 w') (i : Nat) (hi : i < L) => show w'.cell? ⟨b, 0 + i, none⟩ = some (vs.getD i undef) by
                have h1 := hce i (by rw [HRL.out]; exact hi)
                rw [Nat.zero_add, hb.cell (World.block_lt_of_cell? w6 _ h1)]
                exact h1)
              have HROWS := Lib.hid (fun (w' : World) (hb : Below w6.heap.size w6 w') (i : Nat) (hi : i < L) => show RdV w' (vs.getD i undef) (rows.getD i []) by
                exact rdv_below (own_rdv (hrows i (by rw [HRL.out]; exact hi)).1) hb)
              have HVL := Lib.hid hvl
              have HU1 := Lib.hid (fun (z : Value) (hz : z ∈ [(Value.slice a0 l0 c0)]) => show z.oneCell' = true by
                simp at hz
                subst hz
                exact hone0)
              have HV0 := Lib.hid hv0
              clear hrows hce hvl h9 hr0 hz0 hbg hgs hone0 hrv0 hv0 h93 hap hfz
              go_wp2
              go_region_held3 (fun w' => w'.cell? ⟨b, 0, none⟩ = some (Value.slice a0 l0 c0)) (first | exact hS0 | exact cell_al (w := w6) hS0 (.cells #[] 23) | exact cell_al (w := w6) hS0 (.cells #[(Value.slice a0 l0 c0)] 23) | exact cell_al (cell_al (w := w6) hS0 (.cells #[] 23)) (.cells #[(Value.slice a0 l0 c0)] 23) | exact cell_al (cell_al (w := w6) hS0 (.cells #[(Value.slice a0 l0 c0)] 23)) (.cells #[] 23) | exact (show w8.cell? ⟨b, 0, none⟩ = some (Value.slice a0 l0 c0) by rw [hbw2.cell (show (⟨b, 0, none⟩ : Addr).block < w6.heap.size from hbl)]; exact hS0) | exact cell_al (w := w8) (show w8.cell? ⟨b, 0, none⟩ = some (Value.slice a0 l0 c0) by rw [hbw2.cell (show (⟨b, 0, none⟩ : Addr).block < w6.heap.size from hbl)]; exact hS0) (.cells #[(Value.slice a0 l0 c0)] 23) | (rw [hbw3.cell (show (⟨b, 0, none⟩ : Addr).block < w6.heap.size from hbl)]; exact hS0)) (first | (refine step_catV rfl _ _ (by rfl) w6.heap.size g2 (L - 1) cap2 (vs.drop 1) (by rfl) (by first | exact HO2.out | exact ownV_below HO2.out ((Below.refl _ _).alloc (Nat.le_refl _) _)) (by rw [List.length_drop, HVL.out]) ⟨_, 0, none⟩ 1 1 (by rfl) [(Value.slice a0 l0 c0)] rfl (by first | exact one_new _ _ | exact HC8.out) HU1.out hLn (by first | exact hbw2.size | exact Nat.le_trans hbw2.size (by simp)) L hLL ?_; intro g3 cap3 w5 hown3 hgr3 hg3; have HO3 := Lib.hid hown3; have hbw3 : Below w6.heap.size w6 w5 := (by first | exact hbw2.grown hgr3 hbw2.size (fun q hq => by cases hq; exact (ownV_facts HO2.out).2.2.2.1) | exact (hbw2.alloc hbw2.size _).grown hgr3 (Nat.le_trans hbw2.size (by simp)) (fun q hq => by cases hq; exact (ownV_facts HO2.out).2.2.2.1)); clear hown3 hgr3 hg3) | (refine step_catV rfl _ _ (by rfl) w6.heap.size _ 0 0 [] (by rfl) (by exact ownV_empty w6 _ (Nat.le_refl _)) rfl ⟨b, 1, none⟩ (L - 1) _ (by rfl) (vs.drop 1) (by rw [List.length_drop, HVL.out]) (rows_drop HVL.out (HCO.out _ ((Below.refl _ w6).alloc (Nat.le_refl _) _).drew)) (fun z hz => HONE.out z (List.mem_of_mem_drop hz)) (by omega) ((Below.refl _ w6).alloc (Nat.le_refl _) _).drew.size (L - 1) (by omega) ?_; intro g2 cap2 w8 hown2 hgr2 hg2; rw [List.nil_append] at hown2; have HO2 := Lib.hid hown2; have hbw2 : Below w6.heap.size w6 w8 := (Below.grown ((Below.refl _ w6).alloc (Nat.le_refl _) _).drew hgr2 ((Below.refl _ w6).alloc (Nat.le_refl _) _).drew.size (fun q hq => by cases hq; omega)); clear hown2 hgr2 hg2) | (refine step_catV rfl _ _ (by rfl) w6.heap.size _ 0 0 [] (by rfl) (by exact ownV_below (ownV_empty w6 _ (Nat.le_refl _)) ((Below.refl _ _).alloc (Nat.le_refl _) _).drew) rfl ⟨b, 1, none⟩ (L - 1) _ (by rfl) (vs.drop 1) (by rw [List.length_drop, HVL.out]) (rows_drop HVL.out (HCO.out _ (((Below.refl _ w6).alloc (Nat.le_refl _) _).alloc (by simp) _).drew)) (fun z hz => HONE.out z (List.mem_of_mem_drop hz)) (by omega) (((Below.refl _ w6).alloc (Nat.le_refl _) _).alloc (by simp) _).drew.size (L - 1) (by omega) ?_; intro g2 cap2 w8 hown2 hgr2 hg2; rw [List.nil_append] at hown2; have HO2 := Lib.hid hown2; have hbw2 : Below w6.heap.size w6 w8 := (Below.grown (((Below.refl _ w6).alloc (Nat.le_refl _) _).alloc (by simp) _).drew hgr2 (((Below.refl _ w6).alloc (Nat.le_refl _) _).alloc (by simp) _).drew.size (fun q hq => by cases hq; omega)); have hc8 := (one_kept hgr2 (ownV_one (w6.alloc (.cells #[] 23)) w6.heap.size (by simp) (Value.slice a0 l0 c0)) (by simp [Value.ownBlock])); rw [show (w6.alloc (.cells #[] 23)).heap.size = w6.heap.size + 1 by simp] at hc8; have HC8 := Lib.hid hc8; clear hc8; clear hown2 hgr2 hg2) | (refine step_catV rfl _ _ (by rfl) w6.heap.size _ 0 0 [] (by rfl) (by exact (by have h := ownV_empty (w6.alloc (.cells #[(Value.slice a0 l0 c0)] 23)) w6.heap.size (by simp); rw [show (w6.alloc (.cells #[(Value.slice a0 l0 c0)] 23)).heap.size = w6.heap.size + 1 by simp] at h; exact h)) rfl ⟨b, 1, none⟩ (L - 1) _ (by rfl) (vs.drop 1) (by rw [List.length_drop, HVL.out]) (rows_drop HVL.out (HCO.out _ (((Below.refl _ w6).alloc (Nat.le_refl _) _).alloc (by simp) _).drew)) (fun z hz => HONE.out z (List.mem_of_mem_drop hz)) (by omega) (((Below.refl _ w6).alloc (Nat.le_refl _) _).alloc (by simp) _).drew.size (L - 1) (by omega) ?_; intro g2 cap2 w8 hown2 hgr2 hg2; rw [List.nil_append] at hown2; have HO2 := Lib.hid hown2; have hbw2 : Below w6.heap.size w6 w8 := (Below.grown (((Below.refl _ w6).alloc (Nat.le_refl _) _).alloc (by simp) _).drew hgr2 (((Below.refl _ w6).alloc (Nat.le_refl _) _).alloc (by simp) _).drew.size (fun q hq => by cases hq; simp)); have HC8 := Lib.hid (one_kept hgr2 (ownV_below (ownV_one w6 w6.heap.size (Nat.le_refl _) (Value.slice a0 l0 c0)) ((Below.refl _ _).alloc (Nat.le_refl _) (.cells #[] 23)).drew) (by simp [Value.ownBlock])); clear hown2 hgr2 hg2))
              all_goals
                have HRD := Lib.hid (rdM_turned HO3.out HV0.out HVL.out HRL.out x6 (HROWS.out _ hbw3))
                go_wp2
                go_ret2
                exact ⟨n, _, rows.drop 1 ++ [rows.getD 0 []], rfl, by omega, HRD.out, by simp [HRL.out]; omega, below_step hbig6 hbw3⟩
            · have d3 : ((t2 : Int) == 0) = false := by simp; omega
              have HRD := Lib.hid (ownM_rdM HOL6.out)
              go_wp2
              go_ret2
              exact ⟨n, _, rows, rfl, by omega, HRD.out, by rw [HRL.out]; omega, hbig6⟩
          · have hL1' : ¬ (1 : Int) < (L : Int) := by omega
            have HRD := Lib.hid (ownM_rdM HOL.out)
            go_wp2
            go_ret2
            exact ⟨n, _, rows, rfl, by omega, HRD.out, by rw [HRL.out]; omega, hbig⟩
  · have e1 : arcList xs = ([], false) := by simp [arcList, hp]
    have HP := Lib.hid (e1 ▸ sArcList_v _ xs w1 hrd)
    clear e1 hrd hp
    go_wp2_with fail
    refine HP.out.mono ?_
    rintro e w2 ⟨v_l, rfl, ol, hb2⟩
    have HB2 := Lib.hid (bytes_below HB1.out hb2)
    have hb12 := below_step hb1 hb2
    clear HP ol
    go_wp2_with fail
    refine (open_r a len cap w2 HB2.out hlen hc hcm).mono ?_
    rintro e w3 ⟨g, m, cp, rfl, r3⟩
    obtain ⟨hf1, hf2, hf3, hf4⟩ := rdr_facts r3.rdr
    obtain ⟨r4, hg4⟩ := rds_set r3 61
    have R4 := Lib.hid r4
    have hx61 : ((61 : Nat) : Int) = 61 := rfl
    rw [hx61] at R4
    clear r4 hg4 hx61 r3
    go_wp2
    go_ret2
    exact ⟨n, _, [], rfl, by omega, rdM_none (by unfold maxLen; omega), by simp, below_step hb12 (R4.out.below.alloc R4.out.below.size _)⟩

end Go.Proofs.Ytipmafplpoadjaa
