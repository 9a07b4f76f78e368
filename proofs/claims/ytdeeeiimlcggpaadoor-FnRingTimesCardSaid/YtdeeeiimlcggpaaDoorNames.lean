/-
  The contracts of spec.l91Names and spec.DrawPartNamed.
-/
import Derived.Test.YtdeeeiimlcggpaaDoorRds
import Derived.Test.YtdeeeiimlcggpaaDoorSpecType
namespace Go.Proofs.YtdeeeiimlcggpaaDoor
set_option linter.unusedSimpArgs false
set_option linter.unusedVariables false
set_option linter.unnecessarySimpa false
open Go.RowKit
set_option maxRecDepth 100000

/-- Drawn names in new memory; beside them only the reader's block has turned. -/
def NamesR (w : World) (gr : Nat) (e : Ending) (w' : World) : Prop :=
  ∃ v ps, e = .returned v ∧ Own w' w.heap.size v ps ∧ ps.length ≤ 8 ∧ w.grownBy w' (some gr)

set_option maxHeartbeats 4000000 in
theorem names_r {w0 w : World} {gr mr capr p : Nat} {a : Option Addr} (h : Rds w0 w gr a mr capr p) (n : Nat) (h1 : 1 ≤ n) (h8 : n ≤ 8) (hp : p ≤ 1000) :
    Calls Tryd.prog 59 #[.pointer (some ⟨gr, 0, none⟩), .int .i64 n] w (NamesR w gr) := by
  have hgl := h.lt
  have H0 : Below w.heap.size w (w.alloc (.cells #[] 3)) := (Below.refl _ w).alloc (Nat.le_refl _) _
  have R0 := Lib.hid (h.step H0)
  have HB0 := Lib.hid H0
  have n0 : 0 < n := by omega
  clear h H0
  go_enter Tryd.func59, Tryd.ntmps59
  go_wp2
  go_loopw [5, 6] (fun u i wr => ∃ (k g cap q : Nat) (L : List Int), k ≤ n ∧ i = .int .i64 k ∧ u = .slice (some ⟨g, 0, none⟩) k cap ∧ L.length = k ∧ Own wr w.heap.size (.slice (some ⟨g, 0, none⟩) k cap) L ∧ Rds w0 wr gr a mr capr q ∧ q = p + k ∧ w.heap.size ≤ wr.heap.size ∧ w.grownBy wr (some gr))
    (fun _ i _ => n - (intOf i).toNat)
  case atStart => exact ⟨0, w.heap.size, 0, p, [], Nat.zero_le _, rfl, rfl, rfl, own_empty w _ (Nat.le_refl _), R0.out, rfl, HB0.out.size, ⟨HB0.out.os, HB0.out.tape, HB0.out.output, HB0.out.size, fun k hk _ => HB0.out.block k hk⟩⟩
  case round =>
    obtain ⟨k, g, cap, q, L, hk, rfl, rfl, hLk, hown, r4, hq, hsz, hgr⟩ := hrel
    have HLK := Lib.hid hLk
    clear hLk
    by_cases hlt : k < n
    · have hcapk : k ≤ cap := by
        rcases own_view hown with ⟨h, _⟩ | ⟨g', cap', h, _, _, h3, _⟩
        · cases h
        · simp only [Value.slice.injEq] at h
          omega
      have HOW := Lib.hid hown
      clear hown
      go_wp2_with fail
      refine (pick_r r4 _ (by omega) (by omega) (by omega)).mono ?_
      rintro e wo ⟨t, rfl, ht, r5, hg5⟩
      have HO := Lib.hid (Rds.keep HOW.out hgl hg5)
      have hB : w.heap.size ≤ wo.heap.size := Nat.le_trans hsz hg5.size
      have hglo := own_lt HO.out g rfl
      have HHQ := Lib.hid hq
      clear HOW hq r4
      have F1 : Own (wo.alloc (.cells #[] 3)) wo.heap.size (.slice (some ⟨wo.heap.size, 0, none⟩) 0 0) [] := own_empty wo _ (Nat.le_refl _)
      have F2 : Own ((wo.alloc (.cells #[] 3)).alloc (.cells #[.int .i64 (k : Int)] 3)) wo.heap.size (.slice (some ⟨wo.heap.size, 0, none⟩) 0 0) [] := own_alloc F1 _
      have F3 : Own ((wo.alloc (.cells #[.int .i64 (k : Int)] 3)).alloc (.cells #[] 3)) wo.heap.size (.slice (some ⟨wo.heap.size + 1, 0, none⟩) 0 0) [] := by
        have := own_empty (wo.alloc (.cells #[.int .i64 (k : Int)] 3)) wo.heap.size (by simp)
        simpa using this
      have hW1 : Below wo.heap.size wo (wo.alloc (.cells #[] 3)).drew := ((Below.refl _ wo).alloc (Nat.le_refl _) _).drew
      have hW2 : Below wo.heap.size wo ((wo.alloc (.cells #[] 3)).alloc (.cells #[.int .i64 (k : Int)] 3)).drew := (((Below.refl _ wo).alloc (Nat.le_refl _) _).alloc (by simp) _).drew
      have hW3 : Below wo.heap.size wo ((wo.alloc (.cells #[.int .i64 (k : Int)] 3)).alloc (.cells #[] 3)).drew := (((Below.refl _ wo).alloc (Nat.le_refl _) _).alloc (by simp) _).drew
      have V2 : ((wo.alloc (.cells #[] 3)).alloc (.cells #[.int .i64 (k : Int)] 3)).drew.cell? ⟨wo.heap.size + 1, 0, none⟩ = some (.int .i64 (k : Int)) := by
        have := cell_new1 (wo.alloc (.cells #[] 3)) (.int .i64 (k : Int)) 3
        simpa using this
      have V3 : ((wo.alloc (.cells #[.int .i64 (k : Int)] 3)).alloc (.cells #[] 3)).drew.cell? ⟨wo.heap.size, 0, none⟩ = some (.int .i64 (k : Int)) := by
        have h := cell_new1 wo (.int .i64 (k : Int)) 3
        show ((wo.alloc (.cells #[.int .i64 (k : Int)] 3)).alloc (.cells #[] 3)).cell? ⟨wo.heap.size, 0, none⟩ = _
        rw [World.cell?_alloc_past _ _ _ (by simp)]
        exact h
      have HF1 := Lib.hid F1
      have HF2 := Lib.hid F2
      have HF3 := Lib.hid F3
      have HW1 := Lib.hid hW1
      have HW2 := Lib.hid hW2
      have HW3 := Lib.hid hW3
      have HV2 := Lib.hid V2
      have HV3 := Lib.hid V3
      have HCC := Lib.hid (fun r (hr : r < L.length) => own_cell HO.out r hr)
      have hb0 : (0 : Int) ≤ (t : Int) := by omega
      have hb1 : (t : Int) ≤ (cap : Int) := by omega
      have hb2 : (t : Int) ≤ (k : Int) := by omega
      have hb3 : (k : Int) ≤ (cap : Int) := by omega
      clear F1 F2 F3 hW1 hW2 hW3 V2 V3
      by_cases ht0 : t = 0
      · subst ht0
        go_wp2
        go_region_held3 (fun w' => True) (trivial) (first | (refine step_cat rfl _ _ (by rfl) wo.heap.size g3 (0 + 1) cap3 (L.take 0 ++ [(k : Int)]) (by rfl) HO3.out (by rw [List.length_append, List.length_take, HLK.out]; simp <;> omega) ⟨g, 0, none⟩ k _ (by rfl) (L.drop 0) (by rw [List.length_drop, HLK.out] <;> omega) (cells_drop0 HCC.out hbw3) (by omega) hbw3.size (k + 1) (by omega) ?_; intro g4 cap4 w4 hown4 hgr4 hg4; have HO4 := Lib.hid hown4; have hbw4 := hbw3.grown hgr4 hbw3.size (fun q hq => by cases hq; exact (own_lt HO3.out g3 rfl).1); clear hown4 hgr4 hg4) | (refine step_cat rfl _ _ (by rfl) wo.heap.size g2 0 cap2 (L.take 0) (by rfl) (own_alloc HO2.out _) (by rw [List.length_take, HLK.out]; omega) ⟨w2.heap.size, 0, none⟩ 1 1 (by rfl) [(k : Int)] rfl (cells_one (cell_new1 _ _ _)) (by omega) (by have := hbw2.size; simp; omega) (0 + 1) rfl ?_; intro g3 cap3 w3 hown3 hgr3 hg3; have HO3 := Lib.hid hown3; have hbw3 := (hbw2.alloc hbw2.size _).grown hgr3 (by have := hbw2.size; simp; omega) (fun q hq => by cases hq; exact (own_lt HO2.out g2 rfl).1); clear hown3 hgr3 hg3) | (refine step_cat rfl _ _ (by rfl) wo.heap.size g2 0 cap2 (L.take 0) (by rfl) HO2.out (by rw [List.length_take, HLK.out]; omega) ⟨wo.heap.size + 1, 0, none⟩ 1 1 (by rfl) [(k : Int)] rfl (cells_one hcv) (by omega) hbw2.size (0 + 1) rfl ?_; intro g3 cap3 w3 hown3 hgr3 hg3; have HO3 := Lib.hid hown3; have hbw3 := hbw2.grown hgr3 hbw2.size (fun q hq => by cases hq; exact (own_lt HO2.out g2 rfl).1); clear hown3 hgr3 hg3) | (refine step_cat rfl _ _ (by rfl) wo.heap.size g2 0 cap2 (L.take 0) (by rfl) HO2.out (by rw [List.length_take, HLK.out]; omega) ⟨wo.heap.size, 0, none⟩ 1 1 (by rfl) [(k : Int)] rfl (cells_one hcv) (by omega) hbw2.size (0 + 1) rfl ?_; intro g3 cap3 w3 hown3 hgr3 hg3; have HO3 := Lib.hid hown3; have hbw3 := hbw2.grown hgr3 hbw2.size (fun q hq => by cases hq; exact (own_lt HO2.out g2 rfl).1); clear hown3 hgr3 hg3) | (refine step_cat rfl _ _ (by rfl) wo.heap.size wo.heap.size 0 0 [] (by rfl) HF1.out rfl ⟨g, 0, none⟩ 0 _ (by rfl) (L.take 0) (by rw [List.length_take, HLK.out]; omega) (cells_takeW HCC.out HW1.out) (by omega) HW1.out.size 0 (by omega) ?_; intro g2 cap2 w2 hown2 hgr2 hg2; rw [List.nil_append] at hown2; have HO2 := Lib.hid hown2; have hbw2 := HW1.out.grown hgr2 HW1.out.size (fun q hq => by cases hq; omega); clear hown2 hgr2 hg2) | (refine step_cat rfl _ _ (by rfl) wo.heap.size wo.heap.size 0 0 [] (by rfl) HF2.out rfl ⟨g, 0, none⟩ 0 _ (by rfl) (L.take 0) (by rw [List.length_take, HLK.out]; omega) (cells_takeW HCC.out HW2.out) (by omega) HW2.out.size 0 (by omega) ?_; intro g2 cap2 w2 hown2 hgr2 hg2; rw [List.nil_append] at hown2; have HO2 := Lib.hid hown2; have hbw2 := HW2.out.grown hgr2 HW2.out.size (fun q hq => by cases hq; omega); have hcv := hgr2.cell HV2.out (by simp); clear hown2 hgr2 hg2) | (refine step_cat rfl _ _ (by rfl) wo.heap.size (wo.heap.size + 1) 0 0 [] (by rfl) HF3.out rfl ⟨g, 0, none⟩ 0 _ (by rfl) (L.take 0) (by rw [List.length_take, HLK.out]; omega) (cells_takeW HCC.out HW3.out) (by omega) HW3.out.size 0 (by omega) ?_; intro g2 cap2 w2 hown2 hgr2 hg2; rw [List.nil_append] at hown2; have HO2 := Lib.hid hown2; have hbw2 := HW3.out.grown hgr2 HW3.out.size (fun q hq => by cases hq; omega); have hcv := hgr2.cell HV3.out (by simp); clear hown2 hgr2 hg2))
        all_goals
          go_wp2
          go_roundw
          case rel => exact ⟨k + 1, g4, cap4, q + 1, _, by omega, by go_num, rfl, by simp [HLK.out] <;> omega, own_mono HO4.out hB, r5.step hbw4, by have := HHQ.out; omega, by have := hbw4.size; omega, grown_below (grown_trans hgr hg5) hbw4⟩
          case measure => simp [intOf]; omega
      · by_cases hcap : cap = t
        · have hkt : k = t := by omega
          subst hcap
          subst hkt
          go_wp2
          go_region_held3 (fun w' => True) (trivial) (first | (refine step_cat rfl _ _ (by rfl) wo.heap.size g3 (k + 1) cap3 (L.take k ++ [(k : Int)]) (by rfl) HO3.out (by rw [List.length_append, List.length_take, HLK.out]; simp <;> omega) ⟨g, 0, none⟩ 0 _ (by rfl) (L.drop k) (by rw [List.length_drop, HLK.out] <;> omega) (fun r hr => by simp [HLK.out] at hr) (by omega) hbw3.size (k + 1) (by omega) ?_; intro g4 cap4 w4 hown4 hgr4 hg4; have HO4 := Lib.hid hown4; have hbw4 := hbw3.grown hgr4 hbw3.size (fun q hq => by cases hq; exact (own_lt HO3.out g3 rfl).1); clear hown4 hgr4 hg4) | (refine step_cat rfl _ _ (by rfl) wo.heap.size g2 k cap2 (L.take k) (by rfl) (own_alloc HO2.out _) (by rw [List.length_take, HLK.out]; omega) ⟨w2.heap.size, 0, none⟩ 1 1 (by rfl) [(k : Int)] rfl (cells_one (cell_new1 _ _ _)) (by omega) (by have := hbw2.size; simp; omega) (k + 1) rfl ?_; intro g3 cap3 w3 hown3 hgr3 hg3; have HO3 := Lib.hid hown3; have hbw3 := (hbw2.alloc hbw2.size _).grown hgr3 (by have := hbw2.size; simp; omega) (fun q hq => by cases hq; exact (own_lt HO2.out g2 rfl).1); clear hown3 hgr3 hg3) | (refine step_cat rfl _ _ (by rfl) wo.heap.size g2 k cap2 (L.take k) (by rfl) HO2.out (by rw [List.length_take, HLK.out]; omega) ⟨wo.heap.size + 1, 0, none⟩ 1 1 (by rfl) [(k : Int)] rfl (cells_one hcv) (by omega) hbw2.size (k + 1) rfl ?_; intro g3 cap3 w3 hown3 hgr3 hg3; have HO3 := Lib.hid hown3; have hbw3 := hbw2.grown hgr3 hbw2.size (fun q hq => by cases hq; exact (own_lt HO2.out g2 rfl).1); clear hown3 hgr3 hg3) | (refine step_cat rfl _ _ (by rfl) wo.heap.size g2 k cap2 (L.take k) (by rfl) HO2.out (by rw [List.length_take, HLK.out]; omega) ⟨wo.heap.size, 0, none⟩ 1 1 (by rfl) [(k : Int)] rfl (cells_one hcv) (by omega) hbw2.size (k + 1) rfl ?_; intro g3 cap3 w3 hown3 hgr3 hg3; have HO3 := Lib.hid hown3; have hbw3 := hbw2.grown hgr3 hbw2.size (fun q hq => by cases hq; exact (own_lt HO2.out g2 rfl).1); clear hown3 hgr3 hg3) | (refine step_cat rfl _ _ (by rfl) wo.heap.size wo.heap.size 0 0 [] (by rfl) HF1.out rfl ⟨g, 0, none⟩ k _ (by rfl) (L.take k) (by rw [List.length_take, HLK.out]; omega) (cells_takeW HCC.out HW1.out) (by omega) HW1.out.size k (by omega) ?_; intro g2 cap2 w2 hown2 hgr2 hg2; rw [List.nil_append] at hown2; have HO2 := Lib.hid hown2; have hbw2 := HW1.out.grown hgr2 HW1.out.size (fun q hq => by cases hq; omega); clear hown2 hgr2 hg2) | (refine step_cat rfl _ _ (by rfl) wo.heap.size wo.heap.size 0 0 [] (by rfl) HF2.out rfl ⟨g, 0, none⟩ k _ (by rfl) (L.take k) (by rw [List.length_take, HLK.out]; omega) (cells_takeW HCC.out HW2.out) (by omega) HW2.out.size k (by omega) ?_; intro g2 cap2 w2 hown2 hgr2 hg2; rw [List.nil_append] at hown2; have HO2 := Lib.hid hown2; have hbw2 := HW2.out.grown hgr2 HW2.out.size (fun q hq => by cases hq; omega); have hcv := hgr2.cell HV2.out (by simp); clear hown2 hgr2 hg2) | (refine step_cat rfl _ _ (by rfl) wo.heap.size (wo.heap.size + 1) 0 0 [] (by rfl) HF3.out rfl ⟨g, 0, none⟩ k _ (by rfl) (L.take k) (by rw [List.length_take, HLK.out]; omega) (cells_takeW HCC.out HW3.out) (by omega) HW3.out.size k (by omega) ?_; intro g2 cap2 w2 hown2 hgr2 hg2; rw [List.nil_append] at hown2; have HO2 := Lib.hid hown2; have hbw2 := HW3.out.grown hgr2 HW3.out.size (fun q hq => by cases hq; omega); have hcv := hgr2.cell HV3.out (by simp); clear hown2 hgr2 hg2))
          all_goals
            go_wp2
            go_roundw
            case rel => exact ⟨k + 1, g4, cap4, q + 1, _, by omega, by go_num, rfl, by simp [HLK.out] <;> omega, own_mono HO4.out hB, r5.step hbw4, by have := HHQ.out; omega, by have := hbw4.size; omega, grown_below (grown_trans hgr hg5) hbw4⟩
            case measure => simp [intOf]; omega
        · go_wp2
          go_region_held3 (fun w' => True) (trivial) (first | (refine step_cat rfl _ _ (by rfl) wo.heap.size g3 (t + 1) cap3 (L.take t ++ [(k : Int)]) (by rfl) HO3.out (by rw [List.length_append, List.length_take, HLK.out]; simp <;> omega) ⟨g, t, none⟩ (k - t) _ (by rfl) (L.drop t) (by rw [List.length_drop, HLK.out] <;> omega) (cells_dropW HCC.out hbw3) (by omega) hbw3.size (k + 1) (by omega) ?_; intro g4 cap4 w4 hown4 hgr4 hg4; have HO4 := Lib.hid hown4; have hbw4 := hbw3.grown hgr4 hbw3.size (fun q hq => by cases hq; exact (own_lt HO3.out g3 rfl).1); clear hown4 hgr4 hg4) | (refine step_cat rfl _ _ (by rfl) wo.heap.size g2 t cap2 (L.take t) (by rfl) (own_alloc HO2.out _) (by rw [List.length_take, HLK.out]; omega) ⟨w2.heap.size, 0, none⟩ 1 1 (by rfl) [(k : Int)] rfl (cells_one (cell_new1 _ _ _)) (by omega) (by have := hbw2.size; simp; omega) (t + 1) rfl ?_; intro g3 cap3 w3 hown3 hgr3 hg3; have HO3 := Lib.hid hown3; have hbw3 := (hbw2.alloc hbw2.size _).grown hgr3 (by have := hbw2.size; simp; omega) (fun q hq => by cases hq; exact (own_lt HO2.out g2 rfl).1); clear hown3 hgr3 hg3) | (refine step_cat rfl _ _ (by rfl) wo.heap.size g2 t cap2 (L.take t) (by rfl) HO2.out (by rw [List.length_take, HLK.out]; omega) ⟨wo.heap.size + 1, 0, none⟩ 1 1 (by rfl) [(k : Int)] rfl (cells_one hcv) (by omega) hbw2.size (t + 1) rfl ?_; intro g3 cap3 w3 hown3 hgr3 hg3; have HO3 := Lib.hid hown3; have hbw3 := hbw2.grown hgr3 hbw2.size (fun q hq => by cases hq; exact (own_lt HO2.out g2 rfl).1); clear hown3 hgr3 hg3) | (refine step_cat rfl _ _ (by rfl) wo.heap.size g2 t cap2 (L.take t) (by rfl) HO2.out (by rw [List.length_take, HLK.out]; omega) ⟨wo.heap.size, 0, none⟩ 1 1 (by rfl) [(k : Int)] rfl (cells_one hcv) (by omega) hbw2.size (t + 1) rfl ?_; intro g3 cap3 w3 hown3 hgr3 hg3; have HO3 := Lib.hid hown3; have hbw3 := hbw2.grown hgr3 hbw2.size (fun q hq => by cases hq; exact (own_lt HO2.out g2 rfl).1); clear hown3 hgr3 hg3) | (refine step_cat rfl _ _ (by rfl) wo.heap.size wo.heap.size 0 0 [] (by rfl) HF1.out rfl ⟨g, 0, none⟩ t _ (by rfl) (L.take t) (by rw [List.length_take, HLK.out]; omega) (cells_takeW HCC.out HW1.out) (by omega) HW1.out.size t (by omega) ?_; intro g2 cap2 w2 hown2 hgr2 hg2; rw [List.nil_append] at hown2; have HO2 := Lib.hid hown2; have hbw2 := HW1.out.grown hgr2 HW1.out.size (fun q hq => by cases hq; omega); clear hown2 hgr2 hg2) | (refine step_cat rfl _ _ (by rfl) wo.heap.size wo.heap.size 0 0 [] (by rfl) HF2.out rfl ⟨g, 0, none⟩ t _ (by rfl) (L.take t) (by rw [List.length_take, HLK.out]; omega) (cells_takeW HCC.out HW2.out) (by omega) HW2.out.size t (by omega) ?_; intro g2 cap2 w2 hown2 hgr2 hg2; rw [List.nil_append] at hown2; have HO2 := Lib.hid hown2; have hbw2 := HW2.out.grown hgr2 HW2.out.size (fun q hq => by cases hq; omega); have hcv := hgr2.cell HV2.out (by simp); clear hown2 hgr2 hg2) | (refine step_cat rfl _ _ (by rfl) wo.heap.size (wo.heap.size + 1) 0 0 [] (by rfl) HF3.out rfl ⟨g, 0, none⟩ t _ (by rfl) (L.take t) (by rw [List.length_take, HLK.out]; omega) (cells_takeW HCC.out HW3.out) (by omega) HW3.out.size t (by omega) ?_; intro g2 cap2 w2 hown2 hgr2 hg2; rw [List.nil_append] at hown2; have HO2 := Lib.hid hown2; have hbw2 := HW3.out.grown hgr2 HW3.out.size (fun q hq => by cases hq; omega); have hcv := hgr2.cell HV3.out (by simp); clear hown2 hgr2 hg2))
          all_goals
            go_wp2
            go_roundw
            case rel => exact ⟨k + 1, g4, cap4, q + 1, _, by omega, by go_num, rfl, by simp [HLK.out] <;> omega, own_mono HO4.out hB, r5.step hbw4, by have := HHQ.out; omega, by have := hbw4.size; omega, grown_below (grown_trans hgr hg5) hbw4⟩
            case measure => simp [intOf]; omega
    · have hkn : k = n := by omega
      subst hkn
      have HO := Lib.hid hown
      clear hown
      go_wp2_with fail
      refine (pick_r r4 _ (by omega) (by omega) (by omega)).mono ?_
      rintro e wo ⟨t, rfl, ht, r5, hg5⟩
      have ho := Rds.keep HO.out hgl hg5
      have hgg := grown_trans hgr hg5
      have hgb := (own_lt ho g rfl).1
      by_cases ht0 : t = 0
      · subst ht0
        have hfz := own_frozen ho 0
        obtain ⟨v0, hv0⟩ : ∃ v0, wo.cell? ⟨g, 0, none⟩ = some v0 := ⟨_, own_cell ho 0 (by rw [HLK.out]; omega)⟩
        obtain ⟨hst, _⟩ := own_stored ho HLK.out.symm 0 (k : Int)
        have hgs : w.grownBy (wo.setCell ⟨g, 0, none⟩ (.int .i64 (k : Int))) (some gr) := ⟨hgg.os, hgg.tape, hgg.output, by simpa [World.setCell] using hgg.size, fun b hb hne => (Below.heap_setCell wo _ _ b (fun e => by simp at e; omega)).trans (hgg.block b hb hne)⟩
        have HST := Lib.hid hst
        have HGS := Lib.hid hgs
        clear hst hgs ho
        go_wp2
        go_ret
        exact ⟨_, _, rfl, HST.out, by rw [List.length_set, HLK.out]; omega, HGS.out⟩
      · have c1 : ((t : Int) == 0) = false := by simpa using ht0
        go_wp2
        go_ret
        exact ⟨_, L, rfl, ho, by rw [HLK.out]; omega, hgg⟩

/-- Two drawn lists. -/
def NamedDrawn (w : World) (e : Ending) (w' : World) : Prop :=
  ∃ v u xs ps, e = .returned (.tuple #[v, u]) ∧ Own w' w.heap.size v xs ∧ Own w' w.heap.size u ps ∧ (1 ≤ xs.length ∧ xs.length ≤ 9) ∧ ps.length ≤ 8 ∧ Below w.heap.size w w'

end Go.Proofs.YtdeeeiimlcggpaaDoor
