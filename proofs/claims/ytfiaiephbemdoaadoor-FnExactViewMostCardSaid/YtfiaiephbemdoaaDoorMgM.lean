/-
  What the laws of this claim lean on: what functions of the program and of the model answer, one after another, and plain mathematics. No condition.
-/
import Derived.Test.YtfiaiephbemdoaaDoorMgH
import Derived.Test.YtfiaiephbemdoaaDoorMgJ
import Derived.Test.YtfiaiephbemdoaaDoorMgK
import Derived.Test.YtfiaiephbemdoaaDoorMgL
import Derived.Deep.RegionLaw
import Derived.StillTailTactics
import Derived.Deep.RegionHeld3

set_option maxHeartbeats 800000
set_option linter.unusedVariables false
set_option linter.unusedSimpArgs false
set_option linter.unnecessarySimpa false
set_option maxRecDepth 100000

namespace Go.Proofs.YtfiaiephbemdoaaDoor

section
open Go.RowKit Go.Shelf

attribute [local go_sem] Oper.semAt_some

def listAll (n : Int) : List (List Int) × Bool := if 1 ≤ n ∧ n ≤ 7 then (allL n.toNat, true) else ([], false)
theorem isListed_is (b : Bool) (n : Int) (w : World) (h : decide (1 ≤ n ∧ n ≤ 7) = b) : Calls (cutP Tryd.prog) 38 #[.int .i64 n] w fun e w' => e = .returned (.bool b) ∧ w = w' := by
  subst h
  exact isListed_any n w

theorem fresh_some {w : World} {B : Nat} {u : Value} {xs : List Int} (h : Own w B u xs) (h1 : 1 ≤ xs.length) : ∃ g cap, u = .slice (some ⟨g, 0, none⟩) xs.length cap := by
  rcases own_view h with ⟨_, rfl⟩ | ⟨g, cap, rfl, _⟩
  · simp at h1
  · exact ⟨g, cap, rfl⟩

set_option maxHeartbeats 3200000 in
theorem listAll_in (n : Nat) (hn : 3 ≤ n) (c : Nat) (w : World) (hc1 : 1 ≤ c) (hc7 : c ≤ 7) :
    CallsIn Fence.wide n (cutP Tryd.prog) 19 #[.int .i64 c] w (FreshMB w (allL c, true)) := by
  have h1 : 1 ≤ n := by omega
  obtain ⟨i0, hi, hz0, hz1, hz2⟩ := info_parts Tryd.infoInts
  have HI := Lib.hid fun (w1 : World) => isListed_is true (c : Int) w1 (by simp; omega)
  have hob := opn_bd c 0 (by omega) (by omega)
  obtain ⟨T, hT⟩ : ∃ T : Nat, T = (opn c 0).toNat := ⟨_, rfl⟩
  have hTi : opn c 0 = (T : Int) := by omega
  have hT1 : 1 ≤ T := by omega
  have hT2 : T ≤ 4140 := by omega
  have he := fun (w1 : World) => endings_any c (c : Int) 0 w1 rfl (by omega) (by omega)
  rw [hTi] at he
  have HE := Lib.hid he
  clear he hTi hT hob
  refine callsIn_of_wp_marks Trydp.func19 rfl trivial ?_ rfl
  simp only [Trydp.ntmps19, List.size_toArray, List.length_cons, List.length_nil, Nat.reduceAdd, Nat.reduceSub, Array.replicate_succ, Array.replicate_zero, List.push_toArray, List.append_toArray, List.nil_append, List.cons_append]
  gi_wp2_with (first | (gi_at_make; refine wpListIn_make_own _ rfl _ _ 23 rfl w.heap.size 26 i0 (.slice none 0 0) 1 Trydp.underlying23 hi hz0 hz1 _ _ _ T rfl rfl rfl (by rw [hz2]; omega) (by unfold maxLen; omega) (Nat.le_refl _) ?_; intro w1 hown1 hgrow1) | (refine ⟨trivial, ?_⟩; gi_at_call 38; refine (callsIn_wide.2 (HI.out _)).mono ?_; rintro e w' ⟨rfl, rfl⟩) | (refine ⟨trivial, ?_⟩; gi_at_call 39; refine (callsIn_wide.2 (HE.out _)).mono ?_; rintro e w' ⟨rfl, rfl⟩))
  have hs1 : w.heap.size < w1.heap.size := by
    have := World.ownsRow.lt hown1 w.heap.size rfl
    omega
  have hb1 : Below w.heap.size w w1 := (Below.refl _ _).grown hgrow1 (Nat.le_refl _) (fun k h => by cases h)
  clear hgrow1
  gi_wp2_with (refine ⟨trivial, ?_⟩; gi_at_call 40; refine (linesOf_in _ _ _).mono ?_; rintro e w' ⟨rfl, rfl⟩)
  have bO := Boxed.new w1 23 (.slice (some ⟨w.heap.size, 0, none⟩) 0 T)
  obtain ⟨W2, hW2⟩ : ∃ W2, W2 = w1.alloc (.cells #[.slice (some ⟨w.heap.size, 0, none⟩) 0 T] 23) := ⟨_, rfl⟩
  have hsz2 : W2.heap.size = w1.heap.size + 1 := by rw [hW2]; simp
  have hB2 : Below w.heap.size w W2 := by rw [hW2]; exact hb1.alloc hb1.size _
  have hown2 : OwnM W2 w.heap.size W2.heap.size (.slice (some ⟨w.heap.size, 0, none⟩) 0 T) [] := by
    refine ⟨[], rfl, ?_, fun k hk => by simp [Value.ownBlock] at hk; omega, fun i hi => by simp at hi, fun i j _ hj => by simp at hj⟩
    rw [hW2]
    exact hown1.alloc _
  rw [← hW2] at bO ⊢
  have bN := Boxed.new W2 3 (.int .i64 c)
  rw [hsz2] at bN
  have hI0 : HoldsL c w.heap.size w1.heap.size w (fun pre => pre.map fun p => atL c (p : Nat)) [] W2 := ⟨⟨_, bO, hown2⟩, hB2⟩
  have hI1 := holdsL_below (Nat.le_refl _) hI0 ((Below.refl W2.heap.size W2).alloc (Nat.le_refl _) (.cells #[.int .i64 c] 3))
  clear hW2 hown1 hb1 hown2 bO hI0
  refine wpIn_rangeFunc_ownH rfl h1 (gf := 53) (lb := #[.pointer (some ⟨w1.heap.size + 1, 0, none⟩)]) rfl trivial (enters_of Trydp.func53 (by kernel_rfl) rfl)
    (lines_stops (n - 1) (by omega) (w1.heap.size + 1) w.heap.size c hc1 (by omega) _ (by simp; omega) bN.cell) kpL_t (kpL_b (by simp; omega)) (Below.refl _ _) (fun _ => rfl)
    (HoldsL c w.heap.size w1.heap.size w (fun pre => pre.map fun p => atL c (p : Nat)))
    (fun _ _ _ => False)
    (holdsL_own _ _ _ _ _ _ (Nat.le_refl _) (by simp; omega))
    (fun _ _ _ _ _ hs _ _ => hs)
    hI1
    (fun x a' W => ∃ g, a' = { tmps := #[.int .i64 c, undef, .slice none 0 0, .bool false, .pointer (some ⟨w1.heap.size, 0, none⟩), .pointer (some ⟨g, 0, none⟩), .int .i64 c, .bool true, .bool false, .int .i64 c, .int .i64 T, .slice (some ⟨w.heap.size, 0, none⟩) 0 T, .int .i64 c, .func (.func 53) #[] #[.pointer (some ⟨w1.heap.size + 1, 0, none⟩)], .agg (rowC (ln (atL c (x : Int)))), undef, undef, undef, undef, undef, undef], defers := [] } ∧ RowAt W g (ln (atL c (x : Int))) ∧ w.heap.size ≤ g)
    (fun x a' => fun s A C row ⟨g, e, hr, hg⟩ hgr hrow => ⟨g, e, rowAt_ownFrom (β := Unit) 0 _ g _ s A C row hr hgr hrow, hg⟩) ?assign ?body ?done ?stop
  case assign =>
    intro l pre x W K hI hK
    have hz : RowAt (W.alloc (.cells #[.int .i64 0, .int .i64 0, .int .i64 0, .int .i64 0, .int .i64 0, .int .i64 0, .int .i64 0, .int .i64 0] 66)) W.heap.size (List.replicate 8 0) := heap_alloc_new W _
    have HZ := Lib.hid hz
    have HLX := Lib.hid (ln_length (xs := atL c (x : Int)) (by rw [atL_length]; omega))
    have HB := Lib.hid ((Below.refl W.heap.size W).alloc (Nat.le_refl _) (.cells #[.int .i64 0, .int .i64 0, .int .i64 0, .int .i64 0, .int .i64 0, .int .i64 0, .int .i64 0, .int .i64 0] 66))
    have hBW := hI.2.size
    have HI := Lib.hid hI
    clear hz hI
    gi_wp2_with (first | (refine wpListIn_storeL rfl _ _ rfl W.heap.size _ rfl rfl (List.replicate 8 0) rfl HLX.out HZ.out ?_; intro w3 hg3 ht3; have HG3 := Lib.hid hg3; have HB3 := Lib.hid (HB.out.trans (touch_below ht3 (Nat.le_refl _))); clear hg3 ht3))
    exact hK _ _ (keepsFrom_below _ HB3.out) ⟨HB3.out.mono hBW, keepL_below HB3.out⟩ (holdsL_below (Nat.le_refl _) HI.out HB3.out) ⟨W.heap.size, rfl, HG3.out, hBW⟩
  case body =>
    rintro l pre x a' W hl hloop ⟨⟨v, hv, hom⟩, hB⟩ ⟨g, rfl, hr, hg⟩ hlt
    have hBW := hB.size
    have HLX := Lib.hid (ln_length (xs := atL c (x : Int)) (by rw [atL_length]; omega))
    have HL1 := Lib.hid (show 1 ≤ (atL c (x : Int)).length by rw [atL_length]; exact hc1)
    have HLL := Lib.hid fun (w5 : World) => lineList_f (atL c (x : Int)) w5 (atL_partIn_any c x hc1 (by omega))
    have HEN := Lib.hid (enters_of Trydp.func41 (by kernel_rfl) rfl)
    have HPL := Lib.hid (show (pre.map fun p => atL c (p : Nat)).length ≤ 1000000000 by
      have := opn_bd c 0 (by omega) (by omega)
      rw [List.length_map]
      omega)
    have HG := Lib.hid (show ((pre ++ [x]).map fun p => atL c (p : Nat)) = (pre.map fun p => atL c (p : Nat)) ++ [atL c (x : Nat)] by simp)
    have hv0 : Boxed W.drew w1.heap.size 23 v := hv
    have hr0 : RowAt W.drew g (ln (atL c (x : Int))) := hr
    gi_wp2
    refine wpIn_region_any (by kernel_rfl) ?_
    change wpAnyIn _ _ _ _ _ _ _ _ _ (World.drew _)
    refine wpAnyIn_ready (rs := [0, 1]) (by kernel_rfl) (by simp) (AllReadyIn.cons rfl (fun K hK => ?_) (AllReadyIn.cons rfl (fun K hK => ?_) AllReadyIn.nil))
    · rw [if_pos (by rfl)]
      refine wpIn_loadB _ rfl _ _ hv0 rfl (hK _ _ ?_)
      clear hK K
      simp only [Act.put, List.setIfInBounds_toArray, List.set_cons_zero, List.set_cons_succ, List.getElem_toArray, List.getElem_cons_zero, List.getElem_cons_succ]
      refine wpAnyIn_ready (rs := [1]) (by kernel_rfl) (by simp) (AllReadyIn.cons rfl (fun K hK => ?_) AllReadyIn.nil)
      rw [if_pos (by rfl)]
      refine wpIn_loadL _ rfl g rfl _ HLX.out hr0 (hK _ _ ?_)
      clear hK K
      simp only [Act.put, List.setIfInBounds_toArray, List.set_cons_zero, List.set_cons_succ, List.getElem_toArray, List.getElem_cons_zero, List.getElem_cons_succ]
      refine wpAnyIn_ready (rs := [2]) (by kernel_rfl) (by simp) (AllReadyIn.cons rfl (fun K hK => ?_) AllReadyIn.nil)
      rw [if_pos (by rfl)]
      refine wpIn_call1 41 _ _ rfl _ rfl _ (HLL.out W.drew) (HEN.out _ _) ?_
      rintro e w5 ⟨u, rfl, hu, hb5⟩
      refine ⟨_, rfl, hK _ _ ?_⟩
      have hb5 : Below W.heap.size W w5 := (below_drewN (Below.refl _ W) 1).trans hb5
      have hv5 := boxed_below hv hb5
      obtain ⟨gu, cu, rfl⟩ := fresh_some hu HL1.out
      clear hK K
      simp only [Act.put, List.setIfInBounds_toArray, List.set_cons_zero, List.set_cons_succ, List.getElem_toArray, List.getElem_cons_zero, List.getElem_cons_succ]
      refine wpAnyIn_ready (rs := [3]) (by kernel_rfl) (by simp) (AllReadyIn.cons rfl (fun K hK => ?_) AllReadyIn.nil)
      rw [if_pos (by rfl)]
      refine wpIn_buildB _ rfl _ _ _ rfl (hK _ _ ?_)
      have hv6 := hv5.alloc (.cells #[.slice (some ⟨gu, 0, none⟩) (atL c (x : Int)).length cu] 26)
      clear hK K
      simp only [Act.put, List.setIfInBounds_toArray, List.set_cons_zero, List.set_cons_succ, List.getElem_toArray, List.getElem_cons_zero, List.getElem_cons_succ]
      refine wpAnyIn_ready (rs := [4]) (by kernel_rfl) (by simp) (AllReadyIn.cons rfl (fun K hK => ?_) AllReadyIn.nil)
      rw [if_pos (by rfl)]
      refine wpIn_pushV _ _ rfl w.heap.size W.heap.size _ v _ (ownM_below (ownM_below hom hb5) ((Below.refl _ _).alloc (Nat.le_refl _) _)) rfl rfl ⟨w5.heap.size, 0, none⟩ rfl _ _ (cell_new1 _ _ _) (own_mono (own_alloc hu _) hBW) (inB_mono (inB_of_own hu) (Nat.le_refl _) (by simp)) hBW (by have := hb5.size; simp; omega) HPL.out ?_
      intro g7 cap7 w7 h7 hg7
      refine hK _ _ ?_
      have hv7 := collect_box (Nat.le_refl _) hB hv hom hb5 _ hg7
      clear hK K
      simp only [Act.put, List.setIfInBounds_toArray, List.set_cons_zero, List.set_cons_succ, List.getElem_toArray, List.getElem_cons_zero, List.getElem_cons_succ]
      refine wpAnyIn_ready (rs := [5]) (by kernel_rfl) (by simp) (AllReadyIn.cons rfl (fun K hK => ?_) AllReadyIn.nil)
      rw [if_pos (by rfl)]
      refine wpIn_storeB _ _ rfl _ v g7 _ cap7 hv7 rfl rfl (hK _ _ ?_)
      clear hK K
      simp only [Act.put, List.setIfInBounds_toArray, List.set_cons_zero, List.set_cons_succ, List.getElem_toArray, List.getElem_cons_zero, List.getElem_cons_succ]
      refine wpAnyIn_done (by kernel_rfl) ?_ _
      exact collect_done c _ (Nat.le_refl _) (by omega) hB hv hom hb5 _ h7 hg7 HG.out
    · rw [if_pos (by rfl)]
      refine wpIn_loadL _ rfl g rfl _ HLX.out hr0 (hK _ _ ?_)
      clear hK K
      simp only [Act.put, List.setIfInBounds_toArray, List.set_cons_zero, List.set_cons_succ, List.getElem_toArray, List.getElem_cons_zero, List.getElem_cons_succ]
      refine wpAnyIn_ready (rs := [0, 2]) (by kernel_rfl) (by simp) (AllReadyIn.cons rfl (fun K hK => ?_) (AllReadyIn.cons rfl (fun K hK => ?_) AllReadyIn.nil))
      · rw [if_pos (by rfl)]
        refine wpIn_loadB _ rfl _ _ hv0 rfl (hK _ _ ?_)
        clear hK K
        simp only [Act.put, List.setIfInBounds_toArray, List.set_cons_zero, List.set_cons_succ, List.getElem_toArray, List.getElem_cons_zero, List.getElem_cons_succ]
        refine wpAnyIn_ready (rs := [2]) (by kernel_rfl) (by simp) (AllReadyIn.cons rfl (fun K hK => ?_) AllReadyIn.nil)
        rw [if_pos (by rfl)]
        refine wpIn_call1 41 _ _ rfl _ rfl _ (HLL.out W.drew) (HEN.out _ _) ?_
        rintro e w5 ⟨u, rfl, hu, hb5⟩
        refine ⟨_, rfl, hK _ _ ?_⟩
        have hb5 : Below W.heap.size W w5 := (below_drewN (Below.refl _ W) 1).trans hb5
        have hv5 := boxed_below hv hb5
        obtain ⟨gu, cu, rfl⟩ := fresh_some hu HL1.out
        clear hK K
        simp only [Act.put, List.setIfInBounds_toArray, List.set_cons_zero, List.set_cons_succ, List.getElem_toArray, List.getElem_cons_zero, List.getElem_cons_succ]
        refine wpAnyIn_ready (rs := [3]) (by kernel_rfl) (by simp) (AllReadyIn.cons rfl (fun K hK => ?_) AllReadyIn.nil)
        rw [if_pos (by rfl)]
        refine wpIn_buildB _ rfl _ _ _ rfl (hK _ _ ?_)
        have hv6 := hv5.alloc (.cells #[.slice (some ⟨gu, 0, none⟩) (atL c (x : Int)).length cu] 26)
        clear hK K
        simp only [Act.put, List.setIfInBounds_toArray, List.set_cons_zero, List.set_cons_succ, List.getElem_toArray, List.getElem_cons_zero, List.getElem_cons_succ]
        refine wpAnyIn_ready (rs := [4]) (by kernel_rfl) (by simp) (AllReadyIn.cons rfl (fun K hK => ?_) AllReadyIn.nil)
        rw [if_pos (by rfl)]
        refine wpIn_pushV _ _ rfl w.heap.size W.heap.size _ v _ (ownM_below (ownM_below hom hb5) ((Below.refl _ _).alloc (Nat.le_refl _) _)) rfl rfl ⟨w5.heap.size, 0, none⟩ rfl _ _ (cell_new1 _ _ _) (own_mono (own_alloc hu _) hBW) (inB_mono (inB_of_own hu) (Nat.le_refl _) (by simp)) hBW (by have := hb5.size; simp; omega) HPL.out ?_
        intro g7 cap7 w7 h7 hg7
        refine hK _ _ ?_
        have hv7 := collect_box (Nat.le_refl _) hB hv hom hb5 _ hg7
        clear hK K
        simp only [Act.put, List.setIfInBounds_toArray, List.set_cons_zero, List.set_cons_succ, List.getElem_toArray, List.getElem_cons_zero, List.getElem_cons_succ]
        refine wpAnyIn_ready (rs := [5]) (by kernel_rfl) (by simp) (AllReadyIn.cons rfl (fun K hK => ?_) AllReadyIn.nil)
        rw [if_pos (by rfl)]
        refine wpIn_storeB _ _ rfl _ v g7 _ cap7 hv7 rfl rfl (hK _ _ ?_)
        clear hK K
        simp only [Act.put, List.setIfInBounds_toArray, List.set_cons_zero, List.set_cons_succ, List.getElem_toArray, List.getElem_cons_zero, List.getElem_cons_succ]
        refine wpAnyIn_done (by kernel_rfl) ?_ _
        exact collect_done c _ (Nat.le_refl _) (by omega) hB hv hom hb5 _ h7 hg7 HG.out
      · rw [if_pos (by rfl)]
        refine wpIn_call1 41 _ _ rfl _ rfl _ (HLL.out W.drew) (HEN.out _ _) ?_
        rintro e w5 ⟨u, rfl, hu, hb5⟩
        refine ⟨_, rfl, hK _ _ ?_⟩
        have hb5 : Below W.heap.size W w5 := (below_drewN (Below.refl _ W) 1).trans hb5
        have hv5 := boxed_below hv hb5
        obtain ⟨gu, cu, rfl⟩ := fresh_some hu HL1.out
        clear hK K
        simp only [Act.put, List.setIfInBounds_toArray, List.set_cons_zero, List.set_cons_succ, List.getElem_toArray, List.getElem_cons_zero, List.getElem_cons_succ]
        refine wpAnyIn_ready (rs := [0, 3]) (by kernel_rfl) (by simp) (AllReadyIn.cons rfl (fun K hK => ?_) (AllReadyIn.cons rfl (fun K hK => ?_) AllReadyIn.nil))
        · rw [if_pos (by rfl)]
          refine wpIn_loadB _ rfl _ _ hv5 rfl (hK _ _ ?_)
          clear hK K
          simp only [Act.put, List.setIfInBounds_toArray, List.set_cons_zero, List.set_cons_succ, List.getElem_toArray, List.getElem_cons_zero, List.getElem_cons_succ]
          refine wpAnyIn_ready (rs := [3]) (by kernel_rfl) (by simp) (AllReadyIn.cons rfl (fun K hK => ?_) AllReadyIn.nil)
          rw [if_pos (by rfl)]
          refine wpIn_buildB _ rfl _ _ _ rfl (hK _ _ ?_)
          have hv6 := hv5.alloc (.cells #[.slice (some ⟨gu, 0, none⟩) (atL c (x : Int)).length cu] 26)
          clear hK K
          simp only [Act.put, List.setIfInBounds_toArray, List.set_cons_zero, List.set_cons_succ, List.getElem_toArray, List.getElem_cons_zero, List.getElem_cons_succ]
          refine wpAnyIn_ready (rs := [4]) (by kernel_rfl) (by simp) (AllReadyIn.cons rfl (fun K hK => ?_) AllReadyIn.nil)
          rw [if_pos (by rfl)]
          refine wpIn_pushV _ _ rfl w.heap.size W.heap.size _ v _ (ownM_below (ownM_below hom hb5) ((Below.refl _ _).alloc (Nat.le_refl _) _)) rfl rfl ⟨w5.heap.size, 0, none⟩ rfl _ _ (cell_new1 _ _ _) (own_mono (own_alloc hu _) hBW) (inB_mono (inB_of_own hu) (Nat.le_refl _) (by simp)) hBW (by have := hb5.size; simp; omega) HPL.out ?_
          intro g7 cap7 w7 h7 hg7
          refine hK _ _ ?_
          have hv7 := collect_box (Nat.le_refl _) hB hv hom hb5 _ hg7
          clear hK K
          simp only [Act.put, List.setIfInBounds_toArray, List.set_cons_zero, List.set_cons_succ, List.getElem_toArray, List.getElem_cons_zero, List.getElem_cons_succ]
          refine wpAnyIn_ready (rs := [5]) (by kernel_rfl) (by simp) (AllReadyIn.cons rfl (fun K hK => ?_) AllReadyIn.nil)
          rw [if_pos (by rfl)]
          refine wpIn_storeB _ _ rfl _ v g7 _ cap7 hv7 rfl rfl (hK _ _ ?_)
          clear hK K
          simp only [Act.put, List.setIfInBounds_toArray, List.set_cons_zero, List.set_cons_succ, List.getElem_toArray, List.getElem_cons_zero, List.getElem_cons_succ]
          refine wpAnyIn_done (by kernel_rfl) ?_ _
          exact collect_done c _ (Nat.le_refl _) (by omega) hB hv hom hb5 _ h7 hg7 HG.out
        · rw [if_pos (by rfl)]
          refine wpIn_buildB _ rfl _ _ _ rfl (hK _ _ ?_)
          have hv6 := hv5.alloc (.cells #[.slice (some ⟨gu, 0, none⟩) (atL c (x : Int)).length cu] 26)
          clear hK K
          simp only [Act.put, List.setIfInBounds_toArray, List.set_cons_zero, List.set_cons_succ, List.getElem_toArray, List.getElem_cons_zero, List.getElem_cons_succ]
          refine wpAnyIn_ready (rs := [0]) (by kernel_rfl) (by simp) (AllReadyIn.cons rfl (fun K hK => ?_) AllReadyIn.nil)
          rw [if_pos (by rfl)]
          refine wpIn_loadB _ rfl _ _ hv6 rfl (hK _ _ ?_)
          clear hK K
          simp only [Act.put, List.setIfInBounds_toArray, List.set_cons_zero, List.set_cons_succ, List.getElem_toArray, List.getElem_cons_zero, List.getElem_cons_succ]
          refine wpAnyIn_ready (rs := [4]) (by kernel_rfl) (by simp) (AllReadyIn.cons rfl (fun K hK => ?_) AllReadyIn.nil)
          rw [if_pos (by rfl)]
          refine wpIn_pushV _ _ rfl w.heap.size W.heap.size _ v _ (ownM_below (ownM_below hom hb5) ((Below.refl _ _).alloc (Nat.le_refl _) _)) rfl rfl ⟨w5.heap.size, 0, none⟩ rfl _ _ (cell_new1 _ _ _) (own_mono (own_alloc hu _) hBW) (inB_mono (inB_of_own hu) (Nat.le_refl _) (by simp)) hBW (by have := hb5.size; simp; omega) HPL.out ?_
          intro g7 cap7 w7 h7 hg7
          refine hK _ _ ?_
          have hv7 := collect_box (Nat.le_refl _) hB hv hom hb5 _ hg7
          clear hK K
          simp only [Act.put, List.setIfInBounds_toArray, List.set_cons_zero, List.set_cons_succ, List.getElem_toArray, List.getElem_cons_zero, List.getElem_cons_succ]
          refine wpAnyIn_ready (rs := [5]) (by kernel_rfl) (by simp) (AllReadyIn.cons rfl (fun K hK => ?_) AllReadyIn.nil)
          rw [if_pos (by rfl)]
          refine wpIn_storeB _ _ rfl _ v g7 _ cap7 hv7 rfl rfl (hK _ _ ?_)
          clear hK K
          simp only [Act.put, List.setIfInBounds_toArray, List.set_cons_zero, List.set_cons_succ, List.getElem_toArray, List.getElem_cons_zero, List.getElem_cons_succ]
          refine wpAnyIn_done (by kernel_rfl) ?_ _
          exact collect_done c _ (Nat.le_refl _) (by omega) hB hv hom hb5 _ h7 hg7 HG.out
  case done =>
    rintro D ys W hD rfl ⟨⟨v, hv, hom⟩, hB⟩ hK
    have hc := hv.cell
    gi_wp2
    refine ⟨by simp, .inl ⟨_, _, rfl, run_takeDeferred hK, ?_⟩⟩
    exact ⟨_, results_tmp2 rfl _ _ _, v, rfl, ownM_mono (ownM_putObj hom _ hK rfl) (Nat.le_refl _) (by simp), hB.trans (belowK_b (w := w) (Nat.le_refl _) W D _ _ (by simp at hD; omega) hK rfl rfl)⟩
  case stop =>
    rintro D c pre W _ _ h _
    exact h.elim

theorem iListAll_v (a : Int) (w : World) (_ : (Lit.int .i64 a).wf = true) : Calls (cutP Tryd.prog) 19 #[.int .i64 a] w (FreshMB w (listAll a)) := by
  by_cases h : 1 ≤ a ∧ a ≤ 7
  · have hr : listAll a = (allL a.toNat, true) := by unfold listAll; rw [if_pos h]
    rw [hr]
    obtain ⟨c, rfl⟩ : ∃ c : Nat, a = c := ⟨a.toNat, by omega⟩
    rw [Int.toNat_natCast]
    exact callsIn_wide.1 (listAll_in 6 (by omega) c w (by omega) (by omega))
  · have hr : listAll a = ([], false) := by unfold listAll; rw [if_neg h]
    rw [hr]
    have HI := Lib.hid (isListed_is false a w (by simpa using h))
    clear hr h
    go_enter Trydp.func19, Trydp.ntmps19
    go_wp2_with (go_at_call 38; refine HI.out.mono ?_; rintro e w' ⟨rfl, rfl⟩)
    go_ret2
    exact ⟨_, rfl, ownM_nil _ _ _, Below.refl _ _⟩
end

def under (xs ys : List Int) (y v : Nat) : Bool := decide (ys.getD (xs.idxOf (v : Int)) 0 = (y : Int))

section
open Go.RowKit

theorem own_slice' {w : World} {B : Nat} {v : Value} {xs : List Int} (h : Own w B v xs) : ∃ ao cap, v = .slice ao xs.length cap := by
  obtain ⟨ao, cap, hv, _⟩ := own_rd h
  exact ⟨ao, cap, hv⟩
end

section
open Go.RowKit

def bst (cs : List Int) : Nat → Nat
  | 0 => 0
  | k + 1 => if cs.getD k 0 < cs.getD (bst cs k) 0 then k else bst cs k
theorem bst_lt (cs : List Int) : ∀ k, 0 < k → bst cs k < k
  | 0, h => by omega
  | 1, _ => by simp [bst]
  | k + 2, _ => by
    have := bst_lt cs (k + 1) (by omega)
    unfold bst
    split <;> omega
theorem bst_min (cs : List Int) : ∀ k, 0 < k → (∀ j, j < k → cs.getD (bst cs k) 0 ≤ cs.getD j 0) ∧ ∀ j, j < bst cs k → cs.getD (bst cs k) 0 < cs.getD j 0
  | 0, h => by omega
  | 1, _ => by
    refine ⟨fun j hj => ?_, fun j hj => ?_⟩
    · obtain rfl : j = 0 := by omega
      simp [bst]
    · simp [bst] at hj
  | k + 2, _ => by
    obtain ⟨h1, h2⟩ := bst_min cs (k + 1) (by omega)
    unfold bst
    split
    · rename_i h
      refine ⟨fun j hj => ?_, fun j hj => ?_⟩
      · by_cases e : j = k + 1
        · subst e; omega
        · have := h1 j (by omega); omega
      · have := h1 j hj; omega
    · rename_i h
      refine ⟨fun j hj => ?_, h2⟩
      by_cases e : j = k + 1
      · subst e; omega
      · exact h1 j (by omega)

def costsL (vs : List (List Int)) (L : Nat) : List Int := (allL L).map fun p => ((costOf p vs : Nat) : Int)
def viewCommon (vs : List (List Int)) : List Int × Bool :=
  if areV vs then ((allL (vs.getD 0 []).length).getD (bst (costsL vs (vs.getD 0 []).length) (costsL vs (vs.getD 0 []).length).length) [], true) else ([], false)

theorem allL_lenV {n : Nat} {x : List Int} (h : x ∈ allL n) : x.length = n := by
  unfold allL at h
  obtain ⟨p, _, rfl⟩ := List.mem_map.1 h
  exact atL_length _ _

theorem allL_many {L : Nat} (h1 : 1 ≤ L) (h5 : L ≤ 5) : 1 ≤ (allL L).length ∧ (allL L).length ≤ 52 := by
  rw [allL_length]
  obtain rfl | rfl | rfl | rfl | rfl : L = 1 ∨ L = 2 ∨ L = 3 ∨ L = 4 ∨ L = 5 := by omega
  all_goals decide +kernel
theorem listAll_few {L : Nat} (h1 : 1 ≤ L) (h5 : L ≤ 5) : listAll (L : Int) = (allL L, true) := by
  unfold listAll
  rw [if_pos ⟨by omega, by omega⟩]
  simp

theorem costsL_get {vs : List (List Int)} {L k : Nat} (h : k < (allL L).length) : (costsL vs L).getD k 0 = ((costOf ((allL L).getD k []) vs : Nat) : Int) := by
  simp [costsL, List.getD, h]
theorem costsL_len (vs : List (List Int)) (L : Nat) : (costsL vs L).length = (allL L).length := by simp [costsL]

theorem cell_rowK {w : World} {b off n ca : Nat} {vs : List (List Int)} (hv : RdM w (.slice (some ⟨b, off, none⟩) n ca) vs) {k : Nat} (hk : k < vs.length) : ∃ zo zc, w.cell? ⟨b, off + k, none⟩ = some (.slice zo (vs.getD k []).length zc) ∧ RdV w (.slice zo (vs.getD k []).length zc) (vs.getD k []) := by
  obtain ⟨b', off', ca', zo, zc, e, h1, h2⟩ := cell_row hv hk
  injection e with e
  injection e with e
  injection e with e4 e5
  subst e4 e5
  exact ⟨zo, zc, h1, h2⟩
end

section
open Go.RowKit

def OwnL (w : World) (B : Nat) (v : Value) (bs : List Bool) : Prop := w.ownsRow B 4 1 v bs.length (bs.map Value.bool)
theorem ownL_view {w : World} {B : Nat} {v : Value} {bs : List Bool} (h : OwnL w B v bs) :
    (v = .slice none 0 0 ∧ bs = []) ∨ ∃ g cap, v = .slice (some ⟨g, 0, none⟩) bs.length cap ∧ B ≤ g ∧ g < w.heap.size ∧ (∃ cur, w.heap[g]? = some (.cells cur 4)) ∧
      (∀ j, j < bs.length → w.cell? ⟨g, j, none⟩ = some (.bool (bs.getD j false))) ∧ (∀ j, w.frozen? ⟨g, j, none⟩ = false) := by
  have h0 := h
  rcases h.2 with ⟨hv, hn⟩ | ⟨g, cap, cur, hv, hb, hg, hnc, hcm, hcs, htk⟩
  · exact .inl ⟨hv, List.eq_nil_of_length_eq_zero hn⟩
  · refine .inr ⟨g, cap, hv, hb, (Array.getElem?_eq_some_iff.1 hg).1, ⟨cur, hg⟩, ?_, ?_⟩
    · intro j hj
      subst hv
      have := World.ownsRow.cellAt h0 j (by omega)
      rw [this]
      simp [List.getD, hj]
    · intro j
      subst hv
      exact World.ownsRow.frozenAt h0 j
theorem ownL_grown {w w' : World} {B : Nat} {v : Value} {bs : List Bool} {row : Option Nat} (h : OwnL w B v bs) (hg : w.grownBy w' row) (hne : v.ownBlock = none ∨ v.ownBlock ≠ row) : OwnL w' B v bs :=
  World.ownsRow.kept h hg hne
theorem ownL_below {w w' : World} {B : Nat} {v : Value} {bs : List Bool} (h : OwnL w B v bs) (hb : Below w.heap.size w w') : OwnL w' B v bs :=
  ownL_grown h (grown_of_below hb) (by cases hv : v.ownBlock <;> simp)
theorem ownL_made {w1 : World} {B g n c : Nat} (h : w1.ownsRow B 4 1 (.slice (some ⟨g, 0, none⟩) n c) n (madeCells #[Value.bool false] n).toList) : OwnL w1 B (.slice (some ⟨g, 0, none⟩) n c) (List.replicate n false) := by
  unfold OwnL
  rw [toList_madeCells_one] at h
  simpa using h
theorem ownL_stored {w : World} {B g n cap : Nat} {bs : List Bool} (h : OwnL w B (.slice (some ⟨g, 0, none⟩) n cap) bs) (hn : n = bs.length) (j : Nat) (x : Bool) :
    OwnL (w.setCell ⟨g, j, none⟩ (.bool x)) B (.slice (some ⟨g, 0, none⟩) n cap) (bs.set j x) ∧ w.grownBy (w.setCell ⟨g, j, none⟩ (.bool x)) (some g) := by
  subst hn
  have := World.ownsRow.stored h j (.bool x)
  refine ⟨?_, this.2⟩
  unfold OwnL
  rw [List.length_set, List.map_set]
  exact this.1

def OwnLL (w : World) (B : Nat) (v : Value) (bss : List (List Bool)) : Prop :=
  ∃ vs : List Value, vs.length = bss.length ∧ w.ownsRow B 44 1 v bss.length vs ∧ ∀ i, i < bss.length → OwnL w B (vs.getD i undef) (bss.getD i [])
theorem ownLL_view {w : World} {B : Nat} {v : Value} {bss : List (List Bool)} (h : OwnLL w B v bss) (h1 : 1 ≤ bss.length) :
    ∃ g cap, v = .slice (some ⟨g, 0, none⟩) bss.length cap ∧ ∀ i, i < bss.length → 1 ≤ (bss.getD i []).length → ∃ b c, w.cell? ⟨g, i, none⟩ = some (.slice (some ⟨b, 0, none⟩) (bss.getD i []).length c) ∧
      ∀ j, j < (bss.getD i []).length → w.cell? ⟨b, j, none⟩ = some (.bool ((bss.getD i []).getD j false)) := by
  obtain ⟨vs, hl, hrow, hrows⟩ := h
  have h0 := hrow
  rcases hrow.2 with ⟨hv, hn⟩ | ⟨g, cap, cur, rfl, hb, hg, hnc, hcm, hcs, htk⟩
  · omega
  · refine ⟨g, cap, rfl, fun i hi hr => ?_⟩
    have hc := World.ownsRow.cellAt h0 i (by omega)
    have hri := hrows i hi
    have he : vs[i]? = some (vs.getD i undef) := by simp [List.getD, show i < vs.length by omega]
    rw [he] at hc
    rcases ownL_view hri with ⟨_, e⟩ | ⟨b, c, e, _, _, _, hcells, _⟩
    · rw [e] at hr; simp at hr
    · rw [e] at hc
      exact ⟨b, c, hc, hcells⟩
theorem ownLL_below {w w' : World} {B : Nat} {v : Value} {bss : List (List Bool)} (h : OwnLL w B v bss) (hb : Below w.heap.size w w') : OwnLL w' B v bss := by
  obtain ⟨vs, hl, hrow, hrows⟩ := h
  exact ⟨vs, hl, World.ownsRow.kept hrow (grown_of_below hb) (by cases hv : v.ownBlock <;> simp), fun i hi => ownL_below (hrows i hi) hb⟩
def LowLL (w : World) (S : Nat) (v : Value) (bss : List (List Bool)) (B : Nat) : Prop :=
  ∃ vs : List Value, vs.length = bss.length ∧ w.ownsRow B 44 1 v bss.length vs ∧ (∀ k, v.ownBlock = some k → k < S) ∧ ∀ i, i < bss.length → OwnL w B (vs.getD i undef) (bss.getD i []) ∧ ∀ k, (vs.getD i undef).ownBlock = some k → k < S
theorem LowLL.own {w : World} {S B : Nat} {v : Value} {bss : List (List Bool)} (h : LowLL w S v bss B) : OwnLL w B v bss := by
  obtain ⟨vs, hl, hrow, _, hrows⟩ := h
  exact ⟨vs, hl, hrow, fun i hi => (hrows i hi).1⟩
theorem lowLL_of {w : World} {B : Nat} {v : Value} {bss : List (List Bool)} (h : OwnLL w B v bss) : LowLL w w.heap.size v bss B := by
  obtain ⟨vs, hl, hrow, hrows⟩ := h
  exact ⟨vs, hl, hrow, fun k hk => (World.ownsRow.lt hrow k hk).2, fun i hi => ⟨hrows i hi, fun k hk => (World.ownsRow.lt (hrows i hi) k hk).2⟩⟩
theorem LowLL.grown {w w' : World} {S B g : Nat} {v : Value} {bss : List (List Bool)} (h : LowLL w S v bss B) (hg : w.grownBy w' (some g)) (hS : S ≤ g) : LowLL w' S v bss B := by
  obtain ⟨vs, hl, hrow, hv, hrows⟩ := h
  have ne : ∀ z : Value, (∀ k, z.ownBlock = some k → k < S) → z.ownBlock = none ∨ z.ownBlock ≠ some g := fun z hz => by
    cases e : z.ownBlock with
    | none => exact .inl rfl
    | some k =>
      refine .inr fun x => ?_
      injection x with x
      have := hz k e
      omega
  exact ⟨vs, hl, World.ownsRow.kept hrow hg (ne v hv), hv, fun i hi => ⟨ownL_grown (hrows i hi).1 hg (ne _ (hrows i hi).2), (hrows i hi).2⟩⟩
theorem LowLL.below {w w' : World} {S B : Nat} {v : Value} {bss : List (List Bool)} (h : LowLL w S v bss B) (hb : Below w.heap.size w w') : LowLL w' S v bss B := by
  obtain ⟨vs, hl, hrow, hv, hrows⟩ := h
  exact ⟨vs, hl, World.ownsRow.kept hrow (grown_of_below hb) (by cases hv : v.ownBlock <;> simp), hv, fun i hi => ⟨ownL_below (hrows i hi).1 hb, (hrows i hi).2⟩⟩
theorem ownLL_empty (w : World) (B : Nat) (hB : B ≤ w.heap.size) : OwnLL (w.alloc (.cells #[] 44)) B (.slice (some ⟨w.heap.size, 0, none⟩) 0 0) [] :=
  ⟨[], rfl, World.ownsRow_made w #[] 0 hB (Nat.zero_le _) rfl, fun i hi => by simp at hi⟩

theorem Tryd.infoB : ((cutP Tryd.prog).info? 4).map (fun i => (i.zero, i.size, i.bytes)) = some (some (.bool false), 1, 1) := by kernel_rfl
theorem Tryd.infoBs : ((cutP Tryd.prog).info? 44).map (fun i => (i.zero, i.size, i.bytes)) = some (some (.slice none 0 0), 1, 24) := by kernel_rfl

theorem getD_snocB {α : Type} (l : List α) (x d : α) (j : Nat) : (l ++ [x]).getD j d = if j < l.length then l.getD j d else if j = l.length then x else d := by
  by_cases h : j < l.length
  · rw [if_pos h]; simp [List.getD, List.getElem?_append_left h]
  · rw [if_neg h]
    by_cases e : j = l.length
    · subst e; simp [List.getD]
    · rw [if_neg e, List.getD_eq_getElem?_getD, List.getElem?_eq_none (by simp; omega)]; rfl

theorem wpList_pushL {w : World} {ops : Array Oper} {rest : List Oper} {o : Oper} {a : Act} {Q : Exit → Act → World → Prop} (hgd : o.guard = none) (s x : Operand)
    (ho : o.op = .call { callee := .builtin .append, args := #[s, x], argTypes := #[43, 43] })
    (B g n cap : Nat) (bss : List (List Bool)) (hs : a.eval s = .slice (some ⟨g, 0, none⟩) n cap) (hown : OwnLL w B (.slice (some ⟨g, 0, none⟩) n cap) bss) (hn : n = bss.length)
    (ad : Addr) (hx : a.eval x = .slice (some ad) 1 1) (u : Value) (bs : List Bool) (hc : w.cell? ad = some u) (hu : OwnL w B u bs) (hB : B ≤ w.heap.size) (hl : n ≤ 1000000000)
    (h : ∀ g' cap' w', OwnLL w' B (.slice (some ⟨g', 0, none⟩) (n + 1) cap') (bss ++ [bs]) → w.grownBy w' (some g) → B ≤ g → wpList (cutP Tryd.prog) ops Q rest (a.put o.dst (.slice (some ⟨g', 0, none⟩) (n + 1) cap')) w') :
    wpList (cutP Tryd.prog) ops Q (o :: rest) a w := by
  obtain ⟨i0, hi, hz0, hz1, hz2⟩ := info_parts Tryd.infoBs
  subst hn
  obtain ⟨vs, hvl, hrow, hrows⟩ := hown
  have hu1 : u.oneCell' = true := by
    rcases ownL_view hu with ⟨rfl, _⟩ | ⟨g', cap', rfl, _⟩ <;> rfl
  have hBg : B ≤ g := (World.ownsRow.lt hrow g rfl).1
  refine wpList_append_own_at w hgd s x 43 ho B 44 i0 (.slice none 0 0) 1 24 Trydp.underlying43 hi hz0 hz1 hz2 rfl (by decide) _ bss.length vs hs hrow ad 1 1 [u] hx rfl ?_ ?_ (by unfold maxLen; omega) (by omega) hB ?_
  · intro j z hj
    match j, hj with
    | 0, hj =>
      simp at hj
      subst hj
      simpa [Addr.add] using hc
  · intro z hz
    simp at hz
    subst hz
    exact hu1
  · intro v' w' ho' hg' hnil hb'
    have hne : ∀ z : Value, ∀ zs : List Bool, OwnL w B z zs → z.ownBlock = none ∨ z.ownBlock ≠ some g := by
      intro z zs hz
      rcases hz.2 with ⟨rfl, _⟩ | ⟨gz, capz, curz, rfl, _, hgz, _⟩
      · exact .inl rfl
      · refine .inr fun e => ?_
        simp [Value.ownBlock] at e
        subst e
        rcases hrow.2 with ⟨h3, _⟩ | ⟨g3, cap3, cur3, h3, _, hg3, _⟩
        · cases h3
        · cases h3
          rw [hgz] at hg3
          simp at hg3
    rcases ho'.2 with ⟨rfl, h2⟩ | ⟨g', cap', cur, rfl, hB', hg2, rest⟩
    · omega
    · refine h g' cap' w' ⟨vs ++ [u], by simp [hvl], by simpa using ho', fun i hi' => ?_⟩ hg' hBg
      simp at hi'
      rw [getD_snocB, getD_snocB, hvl]
      by_cases hil : i < bss.length
      · rw [if_pos hil, if_pos hil]
        exact ownL_grown (hrows i hil) hg' (hne _ _ (hrows i hil))
      · rw [if_neg hil, if_neg hil, if_pos (by omega), if_pos (by omega)]
        exact ownL_grown hu hg' (hne _ _ hu)

def inRow (vs : List (List Int)) (L i : Nat) : List Bool := (List.range L).map fun k => togV vs (halfV vs) i k
def inRows (vs : List (List Int)) (L k : Nat) : List (List Bool) := (List.range k).map (inRow vs L)
theorem inRow_len (vs : List (List Int)) (L i : Nat) : (inRow vs L i).length = L := by simp [inRow]
theorem inRows_len (vs : List (List Int)) (L k : Nat) : (inRows vs L k).length = k := by simp [inRows]
theorem inRow_get (vs : List (List Int)) (L i : Nat) {k : Nat} (h : k < L) : (inRow vs L i).getD k false = togV vs (halfV vs) i k := by simp [inRow, List.getD, h]
theorem inRows_get (vs : List (List Int)) (L n : Nat) {i : Nat} (h : i < n) : (inRows vs L n).getD i [] = inRow vs L i := by simp [inRows, List.getD, h]
theorem inRows_next (vs : List (List Int)) (L k : Nat) : inRows vs L (k + 1) = inRows vs L k ++ [inRow vs L k] := by simp [inRows, List.range_succ]
theorem stageB (xs : List Bool) (k : Nat) (h : k < xs.length) (x : Bool) (hx : x = xs.getD k false) : (xs.take k ++ List.replicate (xs.length - k) false).set k x = xs.take (k + 1) ++ List.replicate (xs.length - (k + 1)) false := by
  subst hx
  apply List.ext_getElem?
  intro j
  by_cases h1 : j < k
  · rw [List.getElem?_set_ne (by omega), List.getElem?_append_left (by simp; omega), List.getElem?_append_left (by simp; omega), List.getElem?_take, List.getElem?_take, if_pos h1, if_pos (by omega)]
  · by_cases h2 : j = k
    · subst h2
      rw [List.getElem?_set_self (by simp; omega), List.getElem?_append_left (by simp; omega)]
      simp [List.getD, h]
    · rw [List.getElem?_set_ne (by omega), List.getElem?_append_right (by simp; omega), List.getElem?_append_right (by simp; omega)]
      simp only [List.getElem?_replicate, List.length_take]
      by_cases h3 : j < xs.length
      · rw [if_pos (by omega), if_pos (by omega)]
      · rw [if_neg (by omega), if_neg (by omega)]
end

section
open Go.RowKit

set_option maxHeartbeats 8000000 in
theorem sViewMost_v (v : Value) (vs : List (List Int)) (w : World) (hv : RdM w v vs) : Calls (cutP Tryd.prog) 7 #[v] w (GivesB w (viewMost vs)) := by
  have HM := Lib.hid hv
  have bel : Below w.heap.size w w := Below.refl _ _
  cases ha : areV vs
  · have hr : viewMost vs = false := by simp [viewMost, ha]
    rw [hr]
    have HA := Lib.hid (fun w' (h : RdM w' v vs) => (by have := l7Views_v v vs w' h; rw [ha] at this; exact this : Calls (cutP Tryd.prog) 18 #[v] w' (GivesB w' false)))
    clear hr ha hv
    go_enter Trydp.func7, Trydp.ntmps7
    go_wp2_with fail
    refine (HA.out _ HM.out).mono ?_
    rintro e w2 ⟨rfl, hb⟩
    go_wp2
    go_ret
    exact ⟨rfl, hb⟩
  · have HA := Lib.hid (fun w' (h : RdM w' v vs) => (by have := l7Views_v v vs w' h; rw [ha] at this; exact this : Calls (cutP Tryd.prog) 18 #[v] w' (GivesB w' true)))
    have hlen := areV_len ha
    obtain ⟨b, off, ca2, zo, zc, rfl, hc1, hrow⟩ := cell_row HM.out (k := 0) (by omega)
    obtain ⟨l0, hl0⟩ : ∃ l0, l0 = (vs.getD 0 []).length := ⟨_, rfl⟩
    obtain ⟨L, hL1, hL5, hL⟩ := areV_row ha
    have e0 : l0 = L := by rw [hl0, (hL 0 (by omega)).1]
    subst e0
    obtain ⟨r, hr⟩ : ∃ r, r = mostB vs l0 := ⟨_, rfl⟩
    have hr' : viewMost vs = r := by unfold viewMost; rw [ha, ← hl0, hr]; rfl
    rw [hr']
    have HR := Lib.hid hr
    obtain ⟨n, hn⟩ : ∃ n, n = vs.length := ⟨_, rfl⟩
    have z0 : (0 : Int) < (n : Int) := by rw [hn]; omega
    have z1 : 0 < n := by omega
    rw [← hl0, Nat.add_zero] at hc1
    have HROW : Hid (∀ q, q < n → ∃ bb bo zc, ∀ wr, Below w.heap.size w wr → wr.cell? ⟨b, off + q, none⟩ = some (.slice (some ⟨bb, bo, none⟩) l0 zc) ∧ ∀ j, j < l0 → wr.cell? ⟨bb, bo + j, none⟩ = some (.int .i64 ((vs.getD q []).getD j 0))) := Lib.hid fun q hq => by
      rw [hn] at hq
      obtain ⟨zo1, zc1, hck, hrk⟩ := cell_rowK HM.out (k := q) hq
      have hln := (hL q hq).1
      rw [hln] at hck hrk
      obtain ⟨_, _, e, hx, _⟩ := hrk
      injection e with e1 e2 e3
      subst e1
      rcases hx with hx | ⟨bb, bo, rfl, hx⟩
      · rw [hx] at hln; simp at hln; omega
      · exact ⟨bb, bo, zc1, fun wr hb => ⟨cell_belowV hck hb, fun j hj => cell_belowV (hx j (by omega)) hb⟩⟩
    rw [← hn] at HM HA ⊢
    have HTG : Hid (∀ i k, togV vs (halfV vs) i k = decide (n < 2 * votes vs i k)) := Lib.hid fun i k => by rw [tog_half, hn]
    have HVS : Hid (∀ q i k, q < n → votes (vs.take (q + 1)) i k = votes (vs.take q) i k + (if (vs.getD q []).getD i 0 = (vs.getD q []).getD k 0 then 1 else 0)) := Lib.hid fun q i k hq => votes_step vs i k q (by omega)
    have HVN : Hid (∀ i k, votes (vs.take n) i k = votes vs i k) := Lib.hid fun i k => by rw [hn, List.take_length]
    have HVL : Hid (∀ q i k, votes (vs.take q) i k ≤ 6) := Lib.hid fun q i k => by
      have := votes_le (vs.take q) i k
      simp only [List.length_take] at this
      omega
    have hn6 : n ≤ 6 := by omega
    have HL5 := Lib.hid (And.intro hL1 hL5)
    clear hr ha hv hrow hl0 hL hn hlen hr'
    have HB1 := Lib.hid hL1
    have HB5 := Lib.hid hL5
    clear hL1 hL5
    go_enter Trydp.func7, Trydp.ntmps7
    go_wp2_with fail
    refine (HA.out _ HM.out).mono ?_
    rintro e w2 ⟨rfl, hb⟩
    have hc2 := cell_belowV hc1 hb
    have hsz := hb.size
    have hL5 := HB5.out
    clear bel
    go_wp2
    go_loopw [4, 5] (fun u i wr => ∃ k g cap : Nat, k ≤ l0 ∧ i = .int .i64 k ∧ u = .slice (some ⟨g, 0, none⟩) k cap ∧ OwnLL wr w.heap.size (.slice (some ⟨g, 0, none⟩) k cap) (inRows vs l0 k) ∧ Below w.heap.size w wr) (fun _ i _ => l0 - (intOf i).toNat)
    case atStart => exact ⟨0, w2.heap.size, 0, Nat.zero_le _, rfl, rfl, ownLL_empty _ _ hsz, hb.alloc hsz _⟩
    case round =>
      clear hb hc2 hc1 hsz
      obtain ⟨k, g, cap, hk, rfl, rfl, hown, hbel⟩ := hrel
      obtain ⟨wo, hwo⟩ : ∃ wo : World, wo = wr := ⟨_, rfl⟩
      subst hwo
      by_cases hlt : k < l0
      · have hsz := hbel.size
        obtain ⟨i0, hi, hz0, hz1, hz2⟩ := info_parts Tryd.infoB
        have HLOW := Lib.hid (lowLL_of hown)
        clear hown
        go_wp2_with (at_make; refine wpList_make_full _ rfl _ _ 44 rfl w.heap.size 4 i0 (.bool false) 1 Trydp.underlying44 hi hz0 hz1 _ _ _ _ l0 rfl rfl rfl rfl (by rw [hz2]; omega) (by unfold maxLen; omega) hsz ?_)
        intro w4 hown4 hgrow4
        have hb4 : Below w.heap.size w w4 := hbel.grown hgrow4 hsz (fun q hq => by cases hq)
        have HLOW4 := Lib.hid (HLOW.out.below ((Below.refl _ _).grown hgrow4 (Nat.le_refl _) (fun k h => by cases h)))
        have HRW := Lib.hid (ownL_made hown4)
        clear hown4 hgrow4 hbel HLOW hi hz0 hz1 hz2
        go_wp2
        go_loopw [7] (fun c w5 => ∃ j : Nat, j ≤ l0 ∧ c = .int .i64 j ∧ OwnL w5 w.heap.size (.slice (some ⟨wo.heap.size, 0, none⟩) l0 l0) ((inRow vs l0 k).take j ++ List.replicate (l0 - j) false) ∧ LowLL w5 wo.heap.size (.slice (some ⟨g, 0, none⟩) k cap) (inRows vs l0 k) w.heap.size ∧ Below w.heap.size w w5) (fun c _ => l0 - (intOf c).toNat)
        case atStart => exact ⟨0, Nat.zero_le _, rfl, by simpa using HRW.out, HLOW4.out, hb4⟩
        case round =>
          clear hb4 HRW HLOW4
          obtain ⟨j, hj, rfl, hrw, hlow, hb5⟩ := hrel
          obtain ⟨wq, hwq⟩ : ∃ wq : World, wq = wr := ⟨_, rfl⟩
          subst hwq
          have HRW5 := Lib.hid hrw
          have HLOW5 := Lib.hid hlow
          have HB5' := Lib.hid hb5
          clear hrw hlow hb5
          by_cases hjl : j < l0
          · go_wp2
            go_loopw [8, 9] (fun s c w6 => ∃ q x : Nat, q ≤ n ∧ c = .int .i64 q ∧ s = .int .i64 x ∧ x = votes (vs.take q) k j ∧ Same wq w6) (fun _ c _ => n - (intOf c).toNat)
            case atStart => exact ⟨0, 0, Nat.zero_le _, rfl, rfl, by simp [votes], Same.refl _⟩
            case round =>
              obtain ⟨q, x, hq, rfl, rfl, hx, hsame⟩ := hrel
              have hx6 : x ≤ 6 := by rw [hx]; exact HVL.out q k j
              by_cases hqn : q < n
              · obtain ⟨bb, bo, zc2, hcc⟩ := HROW.out q hqn
                obtain ⟨c1, c2⟩ := hcc wr (HB5'.out.trans (hsame _))
                have ck := c2 k hlt
                have cj := c2 j hjl
                have hvs := HVS.out q k j hqn
                rw [← hx] at hvs
                obtain ⟨y, hy⟩ : ∃ y, y = (vs.getD q []).getD k 0 := ⟨_, rfl⟩
                obtain ⟨z, hz⟩ : ∃ z, z = (vs.getD q []).getD j 0 := ⟨_, rfl⟩
                rw [← hy] at ck hvs
                rw [← hz] at cj hvs
                have HS := Lib.hid hsame
                have y0 : (0 : Int) ≤ (k : Int) := by omega
                have y1 : (k : Int) < (l0 : Int) := by omega
                have y2 : (0 : Int) ≤ (j : Int) := by omega
                have y3 : (j : Int) < (l0 : Int) := by omega
                have y4 : (q : Int) < (n : Int) := by omega
                have y5 : (0 : Int) ≤ (q : Int) := by omega
                clear hcc c2 hy hz hx hsame
                by_cases hyz : y = z
                · rw [if_pos hyz] at hvs
                  have HVS2 := Lib.hid hvs
                  clear hvs
                  go_wp2
                  go_quiet (fail)
                  go_wp2
                  go_roundw
                  case rel => exact ⟨q + 1, x + 1, by omega, by go_num, by go_num, HVS2.out.symm, HS.out.drewN _⟩
                  case measure => simp [intOf]; omega
                · rw [if_neg hyz] at hvs
                  have HVS2 := Lib.hid hvs
                  clear hvs
                  go_wp2
                  go_quiet (fail)
                  go_wp2
                  go_roundw
                  case rel => exact ⟨q + 1, x, by omega, by go_num, by go_num, HVS2.out.symm, HS.out.drewN _⟩
                  case measure => simp [intOf]; omega
              · have hqe : q = n := by omega
                have hxv : x = votes vs k j := by rw [hx, hqe, HVN.out]
                have htg := HTG.out k j
                rw [← hxv] at htg
                have hrw6 := ownL_below HRW5.out (hsame _)
                have hlow6 := HLOW5.out.below (hsame _)
                have hb6 := HB5'.out.trans (hsame w.heap.size)
                have hml : ((inRow vs l0 k).take j ++ List.replicate (l0 - j) false).length = l0 := by rw [List.length_append, List.length_take, inRow_len, List.length_replicate]; omega
                have hst := stageB (inRow vs l0 k) j (by rw [inRow_len]; exact hjl) (togV vs (halfV vs) k j) (inRow_get vs l0 k hjl).symm
                rw [inRow_len, htg] at hst
                obtain ⟨ho7, hg7⟩ := ownL_stored hrw6 hml.symm j (decide (n < 2 * x))
                rw [hst] at ho7
                have hfz : wr.frozen? ⟨wo.heap.size, j, none⟩ = false := by
                  rcases ownL_view hrw6 with ⟨e, _⟩ | ⟨g2, cap2, e, _, _, _, _, hf⟩
                  · cases e
                  · simp only [Value.slice.injEq, Option.some.injEq, Addr.mk.injEq, and_true, true_and] at e
                    obtain ⟨rfl, _⟩ := e
                    exact hf j
                obtain ⟨vv, hvv⟩ : ∃ vv, wr.cell? ⟨wo.heap.size, j, none⟩ = some vv := by
                  rcases ownL_view hrw6 with ⟨e, _⟩ | ⟨g2, cap2, e, _, _, _, hf, _⟩
                  · cases e
                  · simp only [Value.slice.injEq, Option.some.injEq, Addr.mk.injEq, and_true, true_and] at e
                    obtain ⟨rfl, _⟩ := e
                    exact ⟨_, hf j (by rw [hml]; exact hjl)⟩
                have hlow7 := hlow6.grown hg7 (Nat.le_refl _)
                have hb7 := hb6.grown hg7 hb6.size (fun q hq => by cases hq; exact hsz)
                have HO7 := Lib.hid ho7
                have HLOW7 := Lib.hid hlow7
                have HB7 := Lib.hid hb7
                have hqi : ¬ ((q : Int) < (n : Int)) := by omega
                have y2 : (0 : Int) ≤ (j : Int) := by omega
                have y3 : (j : Int) < (l0 : Int) := by omega
                have y6 : IntKind.i64.wrap (2 * (x : Int)) = 2 * (x : Int) := IntWalk.i64_in _ (by omega)
                clear hst htg hml hrw6 hlow6 ho7 hg7 hlow7 hb7 hx hsame hxv hb6
                by_cases hcmp : n < 2 * x
                · have y7 : (n : Int) < 2 * (x : Int) := by omega
                  rw [decide_eq_true hcmp] at HO7 HLOW7 HB7
                  clear hcmp
                  go_wp2
                  go_roundw
                  case rel => exact ⟨j + 1, by omega, by go_num, HO7.out, HLOW7.out, HB7.out⟩
                  case measure => simp [intOf]; omega
                · have y7 : ¬ ((n : Int) < 2 * (x : Int)) := by omega
                  rw [decide_eq_false hcmp] at HO7 HLOW7 HB7
                  clear hcmp
                  go_wp2
                  go_roundw
                  case rel => exact ⟨j + 1, by omega, by go_num, HO7.out, HLOW7.out, HB7.out⟩
                  case measure => simp [intOf]; omega
          · have hjl' : j = l0 := by omega
            have hrow := HRW5.out
            rw [hjl', Nat.sub_self, List.replicate_zero, List.append_nil, List.take_of_length_le (by rw [inRow_len]; omega)] at hrow
            have hll := HLOW5.out.own
            have hb5 := HB5'.out
            have hnx := inRows_next vs l0 k
            have HNX := Lib.hid hnx
            have HROWL := Lib.hid hrow
            have HLL := Lib.hid hll
            have hsq := hb5.size
            have hji : ¬ ((j : Int) < (l0 : Int)) := by omega
            clear hrow hll hnx HRW5 HLOW5
            go_wp2_with (at_builtin; refine wpList_pushL rfl _ _ rfl w.heap.size g k cap (inRows vs l0 k) rfl (ownLL_below HLL.out (by exact (Below.refl _ _).alloc (Nat.le_refl _) _)) (by rw [inRows_len]) ⟨wq.heap.size, 0, none⟩ rfl (.slice (some ⟨wo.heap.size, 0, none⟩) l0 l0) (inRow vs l0 k) (cell_new1 _ _ _) (ownL_below HROWL.out (by exact (Below.refl _ _).alloc (Nat.le_refl _) _)) (by simp; omega) (by omega) ?_)
            intro g8 cap8 w8 hown8 hgr8 hg8
            have hb8 := (hb5.alloc hsq (.cells #[.slice (some ⟨wo.heap.size, 0, none⟩) l0 l0] 44)).grown hgr8 (by simp; omega) (fun q hq => by cases hq; exact hg8)
            have HO8 := Lib.hid hown8
            have HB8 := Lib.hid hb8
            clear hown8 hgr8 hg8 hb8 hb5 HB5'
            go_wp2
            go_roundw
            case rel => exact ⟨k + 1, g8, cap8, by omega, by go_num, rfl, by rw [HNX.out]; exact HO8.out, HB8.out⟩
            case measure => simp [intOf]; omega
      · have hkl : k = l0 := by omega
        have hown2 := hown
        rw [hkl] at hown2
        obtain ⟨g', cap', e, hcells⟩ := ownLL_view hown2 (by rw [inRows_len]; exact HB1.out)
        rw [inRows_len] at e hcells
        injection e with e1 e2 e3
        injection e1 with e1
        injection e1 with e1
        subst e1
        have HCEL : Hid (∀ i, i < l0 → ∃ b c, wo.cell? ⟨g, i, none⟩ = some (.slice (some ⟨b, 0, none⟩) l0 c) ∧ ∀ j, j < l0 → wo.cell? ⟨b, j, none⟩ = some (.bool (togV vs (halfV vs) i j))) := Lib.hid fun i hi => by
          have h := hcells i hi
          rw [inRows_get vs l0 l0 hi, inRow_len] at h
          obtain ⟨b, c, h1, h2⟩ := h HB1.out
          exact ⟨b, c, h1, fun j hj => by rw [h2 j hj, inRow_get vs l0 i hj]⟩
        have hki : ¬ ((k : Int) < (l0 : Int)) := by omega
        obtain ⟨T, hT⟩ : ∃ T : Nat → Nat → Bool, T = togV vs (halfV vs) := ⟨_, rfl⟩
        have HRT : Hid (r = decide (∀ i, i < l0 → ∀ k, k < l0 → ∀ j, j < l0 → T i k = true → T k j = true → T i j = true)) := Lib.hid (by rw [HR.out, hT]; rfl)
        rw [← hT] at HCEL
        clear hcells hown hown2 e2 e3 hT HTG HVS HVN HVL HROW HR
        go_wp2
        go_loop [10] (fun i => ∃ a : Nat, a ≤ l0 ∧ i = .int .i64 a ∧ ∀ a', a' < a → ∀ p, p < l0 → ∀ q, q < l0 → T a' p = true → T p q = true → T a' q = true) (fun i => l0 - (intOf i).toNat)
        case atStart => exact ⟨0, Nat.zero_le _, rfl, fun _ h => by omega⟩
        case round =>
          obtain ⟨a, ha, rfl, hA⟩ := hrel
          have HAA := Lib.hid hA
          clear hA
          by_cases hal : a < l0
          · go_wp2
            go_loop [11] (fun i => ∃ p : Nat, p ≤ l0 ∧ i = .int .i64 p ∧ ∀ p', p' < p → ∀ q, q < l0 → T a p' = true → T p' q = true → T a q = true) (fun i => l0 - (intOf i).toNat)
            case atStart => exact ⟨0, Nat.zero_le _, rfl, fun _ h => by omega⟩
            case round =>
              obtain ⟨p, hp, rfl, hP⟩ := hrel
              have HPP := Lib.hid hP
              clear hP
              by_cases hpl : p < l0
              · go_wp2
                go_loop [12] (fun i => ∃ q : Nat, q ≤ l0 ∧ i = .int .i64 q ∧ ∀ q', q' < q → T a p = true → T p q' = true → T a q' = true) (fun i => l0 - (intOf i).toNat)
                case atStart => exact ⟨0, Nat.zero_le _, rfl, fun _ h => by omega⟩
                case round =>
                  obtain ⟨q, hq, rfl, hQ⟩ := hrel
                  have HQQ := Lib.hid hQ
                  clear hQ
                  by_cases hql : q < l0
                  · obtain ⟨ba, ca, c1, c2⟩ := HCEL.out a hal
                    obtain ⟨bp, cp, d1, d2⟩ := HCEL.out p hpl
                    have cap1 := c2 p hpl
                    have caq := c2 q hql
                    have cpq := d2 q hql
                    have y0 : (0 : Int) ≤ (a : Int) := by omega
                    have y1 : (a : Int) < (l0 : Int) := by omega
                    have y2 : (0 : Int) ≤ (p : Int) := by omega
                    have y3 : (p : Int) < (l0 : Int) := by omega
                    have y4 : (0 : Int) ≤ (q : Int) := by omega
                    have y5 : (q : Int) < (l0 : Int) := by omega
                    have z3 : (a : Int) < (k : Int) := by omega
                    have z4 : (p : Int) < (k : Int) := by omega
                    obtain ⟨x, hx⟩ : ∃ x, x = T a p := ⟨_, rfl⟩
                    obtain ⟨y, hy⟩ : ∃ y, y = T p q := ⟨_, rfl⟩
                    obtain ⟨z, hz⟩ : ∃ z, z = T a q := ⟨_, rfl⟩
                    rw [← hx] at cap1
                    rw [← hy] at cpq
                    rw [← hz] at caq
                    have HX := Lib.hid hx
                    have HY := Lib.hid hy
                    have HZ := Lib.hid hz
                    clear c2 d2 hx hy hz
                    cases x
                    · go_wp2
                      go_round
                      case rel => exact ⟨q + 1, by omega, by go_num, fun q' hq' h1 h2 => by rw [← HX.out] at h1; cases h1⟩
                      case measure => simp [intOf]; omega
                    · cases y
                      · go_wp2
                        go_round
                        case rel => exact ⟨q + 1, by omega, by go_num, fun q' hq' h1 h2 => by
                          by_cases e : q' = q
                          · subst e; rw [← HY.out] at h2; cases h2
                          · exact HQQ.out q' (by omega) h1 h2⟩
                        case measure => simp [intOf]; omega
                      · cases z
                        · have hrf : r = false := by
                            rw [HRT.out]
                            exact decide_eq_false fun h => by
                              have := h a hal p hpl q hql HX.out.symm HY.out.symm
                              rw [← HZ.out] at this
                              cases this
                          subst hrf
                          clear HRT
                          go_wp2
                          go_ret
                          exact ⟨rfl, hbel⟩
                        · go_wp2
                          go_round
                          case rel => exact ⟨q + 1, by omega, by go_num, fun q' hq' h1 h2 => by
                            by_cases e : q' = q
                            · subst e; exact HZ.out.symm
                            · exact HQQ.out q' (by omega) h1 h2⟩
                          case measure => simp [intOf]; omega
                  · have hqe : q = l0 := by omega
                    go_wp2
                    go_round
                    case rel => exact ⟨p + 1, by omega, by go_num, fun p' hp' q' hq' h1 h2 => by
                      by_cases e : p' = p
                      · subst e; exact HQQ.out q' (by omega) h1 h2
                      · exact HPP.out p' (by omega) q' hq' h1 h2⟩
                    case measure => simp [intOf]; omega
              · have hpe : p = l0 := by omega
                go_wp2
                go_round
                case rel => exact ⟨a + 1, by omega, by go_num, fun a' ha' p' hp' q' hq' h1 h2 => by
                  by_cases e : a' = a
                  · subst e; exact HPP.out p' (by omega) q' hq' h1 h2
                  · exact HAA.out a' (by omega) p' hp' q' hq' h1 h2⟩
                case measure => simp [intOf]; omega
          · have hae : a = l0 := by omega
            have hrt : r = true := by
              rw [HRT.out]
              exact decide_eq_true fun i hi p hp q hq h1 h2 => HAA.out i (by omega) p hp q hq h1 h2
            subst hrt
            clear HRT
            go_wp2
            go_ret
            exact ⟨rfl, hbel⟩
end

theorem viewCost_part {vs : List (List Int)} {L : Nat} {x : List Int} (ha : areV vs = true) (hL : ∀ k, k < vs.length → (vs.getD k []).length = L ∧ partIn (vs.getD k []) = true) (hx : partIn x = true) (hl : x.length = L) : viewCost x vs = (((costOf x vs : Nat) : Int), true) := by
  have h0 := areV_len ha
  have hk : alike x (vs.getD 0 []) = true := alike_iff.2 ⟨hx, (hL 0 (by omega)).2, by rw [(hL 0 (by omega)).1]; exact hl⟩
  unfold viewCost
  rw [ha, hk]
  rfl
theorem allL_has {xs : List Int} {L : Nat} (h : partIn xs = true) (hl : xs.length = L) : xs ∈ allL L := by
  subst hl
  have h1 := plc_bd (partIn_ok h)
  unfold allL
  rw [List.mem_map]
  refine ⟨(plc xs).toNat, by rw [List.mem_range]; omega, ?_⟩
  rw [show (((plc xs).toNat : Nat) : Int) = plc xs by omega]
  exact atL_plc (partIn_ok h)
theorem allL_of {xs : List Int} {L : Nat} (h1 : 1 ≤ L) (h5 : L ≤ 5) (h : xs ∈ allL L) : partIn xs = true ∧ xs.length = L := by
  unfold allL at h
  obtain ⟨p, _, rfl⟩ := List.mem_map.1 h
  exact ⟨atL_partIn_any L p h1 (by omega), atL_length _ _⟩

section
def lea (p : Nat → Bool) : Nat → Nat
  | 0 => 0
  | n + 1 => if lea p n < n then lea p n else if p n then n else n + 1
theorem lea_le (p : Nat → Bool) : ∀ n, lea p n ≤ n
  | 0 => Nat.le_refl _
  | n + 1 => by
    have := lea_le p n
    unfold lea
    split
    · omega
    · split <;> omega
theorem lea_no (p : Nat → Bool) : ∀ n j, j < lea p n → j < n → p j = false
  | 0, j, _, h => by omega
  | n + 1, j, h, hj => by
    have ih := lea_no p n
    have hl := lea_le p n
    unfold lea at h
    split at h
    · exact ih j h (by omega)
    · rename_i hn
      by_cases e : j = n
      · subst e
        split at h
        · omega
        · rename_i hp; simpa using hp
      · exact ih j (by omega) (by omega)
theorem lea_yes (p : Nat → Bool) : ∀ n, lea p n < n → p (lea p n) = true
  | 0, h => by omega
  | n + 1, h => by
    have ih := lea_yes p n
    have hl := lea_le p n
    unfold lea at h ⊢
    split
    · rename_i hn; exact ih hn
    · rename_i hn
      rw [if_neg hn] at h
      split
      · rename_i hp; exact hp
      · rename_i hp; rw [if_neg hp] at h; omega
theorem lea_lt {p : Nat → Bool} {n j : Nat} (hj : j < n) (hp : p j = true) : lea p n ≤ j := by
  rcases Nat.lt_or_ge j (lea p n) with h | h
  · rw [lea_no p n j h hj] at hp; cases hp
  · exact h

def lw (T : Nat → Nat → Bool) (g : Nat → Nat) (i : Nat) : Nat → Nat
  | 0 => i
  | d + 1 => if T i (i - d - 1) then g (i - d - 1) else lw T g i d

section
variable {T : Nat → Nat → Bool} {L : Nat}
def repr (T : Nat → Nat → Bool) (L i : Nat) : Nat := lea (T i) L
theorem repr_le (hr : ∀ i, i < L → T i i = true) {i : Nat} (hi : i < L) : repr T L i ≤ i ∧ T i (repr T L i) = true := by
  have h1 := lea_lt hi (hr i hi)
  exact ⟨h1, lea_yes _ _ (Nat.lt_of_le_of_lt h1 hi)⟩
theorem repr_no {i j : Nat} (hj : j < repr T L i) (hl : j < L) : T i j = false := lea_no _ _ j hj hl
theorem repr_idem (hr : ∀ i, i < L → T i i = true) (ht : ∀ i, i < L → ∀ k, k < L → ∀ j, j < L → T i k = true → T k j = true → T i j = true) {i : Nat} (hi : i < L) : repr T L (repr T L i) = repr T L i := by
  obtain ⟨a, b⟩ := repr_le hr hi
  have hk : repr T L i < L := by omega
  obtain ⟨c, d⟩ := repr_le hr hk
  rcases Nat.lt_or_ge (repr T L (repr T L i)) (repr T L i) with h | h
  · have := ht i hi _ hk (repr T L (repr T L i)) (by omega) b d
    rw [repr_no h (by omega)] at this
    cases this
  · omega
theorem lw_stage (hr : ∀ i, i < L → T i i = true) (ht : ∀ i, i < L → ∀ k, k < L → ∀ j, j < L → T i k = true → T k j = true → T i j = true) {i : Nat} (hi : i < L) : ∀ d, d ≤ i →
    ((∀ j, i - d ≤ j → j < i → T i j = false) ∧ lw T (repr T L) i d = i) ∨ ∃ j0, i - d ≤ j0 ∧ j0 < i ∧ T i j0 = true ∧ (∀ j, i - d ≤ j → j < j0 → T i j = false) ∧ lw T (repr T L) i d = repr T L j0
  | 0, _ => .inl ⟨fun j h1 h2 => by omega, rfl⟩
  | d + 1, hd => by
    have ih := lw_stage hr ht hi d (by omega)
    by_cases e : T i (i - d - 1) = true
    · refine .inr ⟨i - d - 1, by omega, by omega, e, fun j h1 h2 => by omega, ?_⟩
      unfold lw
      rw [if_pos e]
    · have e' : T i (i - d - 1) = false := by simpa using e
      have hl : lw T (repr T L) i (d + 1) = lw T (repr T L) i d := by
        conv => lhs; unfold lw
        rw [if_neg e]
      rw [hl]
      rcases ih with ⟨h1, h2⟩ | ⟨j0, h1, h2, h3, h4, h5⟩
      · refine .inl ⟨fun j a b => ?_, h2⟩
        by_cases x : j = i - d - 1
        · rw [x]; exact e'
        · exact h1 j (by omega) b
      · refine .inr ⟨j0, by omega, h2, h3, fun j a b => ?_, h5⟩
        by_cases x : j = i - d - 1
        · rw [x]; exact e'
        · exact h4 j (by omega) b
theorem lw_all (hr : ∀ i, i < L → T i i = true) (ht : ∀ i, i < L → ∀ k, k < L → ∀ j, j < L → T i k = true → T k j = true → T i j = true) {i : Nat} (hi : i < L) : lw T (repr T L) i i = repr T L i := by
  obtain ⟨a, b⟩ := repr_le hr hi
  rcases lw_stage hr ht hi i (Nat.le_refl _) with ⟨h1, h2⟩ | ⟨j0, h1, h2, h3, h4, h5⟩
  · rw [h2]
    by_cases e : repr T L i = i
    · exact e.symm
    · rw [h1 _ (by omega) (by omega)] at b; cases b
  · rw [h5]
    have e : repr T L i = j0 := by
      have := lea_lt (p := T i) (n := L) (show j0 < L by omega) h3
      rcases Nat.lt_or_ge (repr T L i) j0 with h | h
      · rw [h4 _ (by omega) h] at b; cases b
      · have : repr T L i ≤ j0 := this
        omega
    rw [← e]
    exact repr_idem hr ht hi
theorem repr_iff (hr : ∀ i, i < L → T i i = true) (hs : ∀ i j, T i j = T j i) (ht : ∀ i, i < L → ∀ k, k < L → ∀ j, j < L → T i k = true → T k j = true → T i j = true) {i j : Nat} (hi : i < L) (hj : j < L) : repr T L i = repr T L j ↔ T i j = true := by
  obtain ⟨a, b⟩ := repr_le hr hi
  obtain ⟨c, d⟩ := repr_le hr hj
  constructor
  · intro e
    rw [e] at b
    exact ht i hi _ (by omega) j hj b (by rw [hs]; exact d)
  · intro e
    have h1 := lea_lt (p := T j) (n := L) (show repr T L i < L by omega) (ht j hj i hi _ (by omega) (by rw [hs]; exact e) b)
    have h2 := lea_lt (p := T i) (n := L) (show repr T L j < L by omega) (ht i hi j hj _ (by omega) e d)
    have h1' : repr T L j ≤ repr T L i := h1
    have h2' : repr T L i ≤ repr T L j := h2
    omega
end

def fMost (vs : List (List Int)) (L k : Nat) : List Int := (List.range k).map fun i => (repr (togV vs (halfV vs)) L i : Int)
theorem fMost_len (vs : List (List Int)) (L k : Nat) : (fMost vs L k).length = k := by simp [fMost]
theorem fMost_get (vs : List (List Int)) (L k : Nat) {i : Nat} (h : i < k) : (fMost vs L k).getD i 0 = (repr (togV vs (halfV vs)) L i : Int) := by simp [fMost, List.getD, h]
theorem fMost_next (vs : List (List Int)) (L k : Nat) : fMost vs L (k + 1) = fMost vs L k ++ [(repr (togV vs (halfV vs)) L k : Int)] := by simp [fMost, List.range_succ]

theorem tog_self {vs : List (List Int)} (h : 1 ≤ vs.length) (i : Nat) : togV vs (halfV vs) i i = true := by
  have hv : votes vs i i = vs.length := by
    have : ∀ l : List (List Int), votes l i i = l.length := by
      intro l
      induction l with
      | nil => rfl
      | cons v l ih =>
        show (if v.getD i 0 = v.getD i 0 then 1 else 0) + votes l i i = _
        rw [if_pos rfl, ih, List.length_cons]
        omega
    exact this vs
  rw [tog_half, hv]
  exact decide_eq_true (by omega)

theorem most_facts {vs : List (List Int)} (h : viewMost vs = true) : ∃ (L : Nat) (c : List Int) (m : Nat), 1 ≤ L ∧ L ≤ 5 ∧ (∀ k, k < vs.length → (vs.getD k []).length = L ∧ partIn (vs.getD k []) = true) ∧ areV vs = true ∧
    viewCommon vs = (c, true) ∧ c.length = L ∧ viewCost c vs = ((m : Int), true) ∧ viewCost (kOut (fMost vs L L)) vs = ((m : Int), true) ∧ (∀ i, i < L → lw (togV vs (halfV vs)) (repr (togV vs (halfV vs)) L) i i = repr (togV vs (halfV vs)) L i) ∧ ∀ i, i < L → repr (togV vs (halfV vs)) L i ≤ i := by
  unfold viewMost at h
  rw [Bool.and_eq_true] at h
  obtain ⟨ha, hm⟩ := h
  obtain ⟨L, hL1, hL5, hL⟩ := areV_row ha
  have hlen := areV_len ha
  rw [(hL 0 (by omega)).1] at hm
  have ht : ∀ i, i < L → ∀ k, k < L → ∀ j, j < L → togV vs (halfV vs) i k = true → togV vs (halfV vs) k j = true → togV vs (halfV vs) i j = true := of_decide_eq_true hm
  have hr : ∀ i, i < L → togV vs (halfV vs) i i = true := fun i _ => tog_self hlen.1 i
  have hq := (allL_many hL1 hL5).1
  have hb := bst_lt (costsL vs L) (allL L).length hq
  have hmn := (bst_min (costsL vs L) (allL L).length hq).1
  obtain ⟨j0, hj0⟩ : ∃ j, j = bst (costsL vs L) (allL L).length := ⟨_, rfl⟩
  rw [← hj0] at hb hmn
  have hmem : (allL L).getD j0 [] ∈ allL L := by simp [List.getD, hb]
  obtain ⟨hp, hl⟩ := allL_of hL1 hL5 hmem
  have hkp : partIn (kOut (fMost vs L L)) = true := partIn_kOut (by rw [fMost_len]; omega) (by rw [fMost_len]; omega)
  have hkl : (kOut (fMost vs L L)).length = L := by rw [kOut_length, fMost_len]
  refine ⟨L, (allL L).getD j0 [], costOf ((allL L).getD j0 []) vs, hL1, hL5, hL, ha, ?_, hl, viewCost_part ha hL hp hl, ?_, fun i hi => lw_all hr ht hi, fun i hi => (repr_le hr hi).1⟩
  · unfold viewCommon
    rw [if_pos ha, (hL 0 (by omega)).1, costsL_len, ← hj0]
  · rw [viewCost_part ha hL hkp hkl]
    have h1 : costOf (kOut (fMost vs L L)) vs ≤ costOf ((allL L).getD j0 []) vs := by
      refine most_least (by rw [hl, hkl]) fun i k hi hk => ?_
      rw [hkl] at hi
      rw [← (kOut_inv (fMost vs L L)).2 i k (by rw [fMost_len]; omega) (by rw [fMost_len]; omega), fMost_get _ _ _ hi, fMost_get _ _ _ (show k < L by omega)]
      have := repr_iff hr (tog_comm vs (halfV vs)) ht hi (show k < L by omega)
      rw [tog_half, decide_eq_true_eq] at this
      rw [← this]
      omega
    have h2 : costOf ((allL L).getD j0 []) vs ≤ costOf (kOut (fMost vs L L)) vs := by
      have hin : kOut (fMost vs L L) ∈ allL L := allL_has hkp hkl
      obtain ⟨i, hi, e⟩ := List.getElem_of_mem hin
      have h2 := hmn i hi
      rw [costsL_get hb, costsL_get hi] at h2
      have e2 : (allL L).getD i [] = kOut (fMost vs L L) := by rw [← e]; simp [List.getD, hi]
      rw [e2] at h2
      omega
    rw [Nat.le_antisymm h1 h2]
end

section
open Go.Conc Go.RowKit

theorem minTo_bst (xs : List Int) : ∀ k, 0 < k → k ≤ xs.length → minTo xs k = xs.getD (bst xs k) 0
  | 0, h, _ => by omega
  | 1, _, h => by
    rw [minTo_succ (by omega)]
    simp [bst, minTo]
  | k + 2, _, h => by
    rw [minTo_succ (by omega), minTo_bst xs (k + 1) (by omega) (by omega)]
    conv => rhs; unfold bst
    split <;> omega
theorem idxOf_first : ∀ {xs : List Int} {b : Nat}, b < xs.length → (∀ j, j < b → xs.getD j 0 ≠ xs.getD b 0) → xs.idxOf (xs.getD b 0) = b
  | [], b, h, _ => by simp at h
  | x :: xs, 0, _, _ => by simp
  | x :: xs, b + 1, h, hne => by
    have h0 := hne 0 (by omega)
    simp only [List.getD_cons_zero, List.getD_cons_succ] at h0
    rw [List.getD_cons_succ, List.idxOf_cons, show (x == xs.getD b 0) = false by simpa using h0, cond_false]
    rw [idxOf_first (by simpa using h) (fun j hj => by simpa using hne (j + 1) (by omega))]
theorem idxOf_min {xs : List Int} (h : 0 < xs.length) : minTo xs xs.length ∈ xs ∧ xs.idxOf (minTo xs xs.length) = bst xs xs.length ∧ bst xs xs.length < xs.length := by
  have hb := bst_lt xs _ h
  obtain ⟨m1, m2⟩ := bst_min xs _ h
  rw [minTo_bst xs _ h (Nat.le_refl _)]
  refine ⟨?_, idxOf_first hb fun j hj => ?_, hb⟩
  · rw [List.getD_eq_getElem?_getD, List.getElem?_eq_getElem hb]
    exact List.getElem_mem hb
  · have := m2 j hj
    omega

set_option maxRecDepth 100000 in
set_option maxHeartbeats 1600000 in
theorem iViewCommon_b {X w : World} {v0 : Value} {vs : List (List Int)} (h1 : RdM w v0 vs) :
    CallsB (duo Tryd.prog X) 8 #[v0] w (fun v w' => ∃ u, v = .tuple #[u, .bool (viewCommon vs).2] ∧ Own w' w.heap.size u (viewCommon vs).1 ∧ Bel w w') := by
  refine CallsB.of_body kit (fn := Tryd.f8) Trydp.func8 Tryd.func8 rfl (by kernel_rfl) (by kernel_rfl) ?_
  simp only [Tryd.ntmps8, List.size_toArray, List.length_cons, List.length_nil, Nat.reduceAdd, Nat.reduceSub, Array.replicate_succ, Array.replicate_zero, List.push_toArray, List.append_toArray, List.nil_append, List.cons_append]
  refine WpB.seq kit (WpB.of_wp kit (fun τ => ?_) (outs_then (outs_body _ _ _)))
  go_wp
  refine WpB.own ?_
  by_cases ha : areV vs = true
  · obtain ⟨L, hL1, hL5, hL⟩ := areV_row ha
    have hlen := areV_len ha
    obtain ⟨vb, vo, vcap, bV, oV, cV, hv1, hV⟩ := rows_at h1 hlen.1 hL1 (fun k hk => (hL k hk).1)
    obtain ⟨hc0, _, hr0⟩ := hV 0 (by omega)
    rw [Nat.add_zero] at hc0
    have z0 : (0 : Int) < (vs.length : Int) := by omega
    have z1 : 0 < vs.length := by omega
    have hl0 := (hL 0 (by omega)).1
    have hr : viewCommon vs = ((allL L).getD (bst (costsL vs L) (allL L).length) [], true) := by
      unfold viewCommon
      rw [if_pos ha, hl0, costsL_len]
    rw [hr]
    have HV := Lib.hid (fun τ => areViews_v v0 vs (ownTape w τ) h1)
    have H1 := Lib.hid h1
    obtain ⟨n, hn⟩ : ∃ n, n = vs.length := ⟨_, rfl⟩
    rw [← hn] at z0 z1 hv1
    have HL := Lib.hid hL
    have HN := Lib.hid hn
    have HE := Lib.hid hlen
    have HL1 := Lib.hid hL1
    have HL5 := Lib.hid hL5
    have HQ := Lib.hid (allL_many hL1 hL5)
    have HIM := Lib.hid (idxOf_min (xs := costsL vs L) (by rw [costsL_len]; have := (allL_many hL1 hL5).1; omega))
    have HCL := Lib.hid (costsL_len vs L)
    have HCC := Lib.hid (show costsL vs L = (allL L).map fun p => ((costOf p vs : Nat) : Int) from rfl)
    have HLA : Hid (∀ w', Calls (cutP Tryd.prog) 19 #[.int .i64 L] w' (FreshMB w' (allL L, true))) := Lib.hid fun w' => by
      rw [← listAll_few hL1 hL5]
      exact iListAll_v _ _ (by obtain rfl | rfl | rfl | rfl | rfl : L = 1 ∨ L = 2 ∨ L = 3 ∨ L = 4 ∨ L = 5 := (by omega) <;> rfl)
    have HPL : Hid (∀ k, k < (allL L).length → ((allL L).getD k []).length = L) := Lib.hid fun k hk => allL_lenV (by simp [List.getD, hk])
    obtain ⟨A, hA⟩ : ∃ A, A = allL L := ⟨_, rfl⟩
    obtain ⟨C, hC⟩ : ∃ C, C = costsL vs L := ⟨_, rfl⟩
    rw [← hA] at HLA HQ HPL HCL HCC
    rw [← hC] at HIM HCL HCC
    rw [← hA, ← hC]
    obtain ⟨row, hrow⟩ : ∃ r, r = A.getD (bst C A.length) [] := ⟨_, rfl⟩
    rw [← hrow]
    have HROW := Lib.hid hrow
    clear hrow
    rw [ha] at HV
    subst hv1
    clear hV hr hr0 ha hL hlen hL1 hL5 hn hl0 hA hC h1
    refine WpB.seq kit (WpB.of_wp kit (fun τ => ?_) (outs_then (outs_body _ _ _)))
    go_wp2_with fail
    refine (HV.out τ).mono ?_
    rintro e w2 ⟨rfl, rfl⟩
    go_wp2
    refine WpB.own ?_
    refine WpB.seq kit (WpB.of_wp kit (fun τ => ?_) (outs_then (outs_body _ _ _)))
    go_wp2_with fail
    refine (HLA.out _).mono ?_
    rintro e w2 ⟨v_all, rfl, o, hb⟩
    have bel : Bel w w2 := bel_of_below hb
    have o2 : OwnM w2 w.heap.size w2.heap.size v_all A := o
    clear o hb
    have HO := Lib.hid o2
    clear o2
    go_wp2
    refine WpB.seq kit (WpB.region kit ?_)
    simp only [List.size_toArray, List.length_cons, List.length_nil, Nat.reduceAdd, Nat.zero_add, List.range, List.range.loop]
    unfold OpsB
    simp only [List.getElem?_toArray, List.getElem?_cons_zero, List.getElem?_cons_succ]
    rw [if_pos (by rfl)]
    left
    intro _
    unfold Oper.wp
    go_simp
    unfold OpsB
    simp only [List.getElem?_toArray, List.getElem?_cons_zero, List.getElem?_cons_succ]
    rw [if_pos (by rfl)]
    left
    intro _
    unfold Oper.wp
    go_simp
    unfold OpsB
    simp only [List.getElem?_toArray, List.getElem?_cons_zero, List.getElem?_cons_succ]
    rw [if_pos (by rfl)]
    right
    refine ⟨20, #[v_all, .slice (some ⟨vb, vo, none⟩) n vcap], fun W => ⟨by kernel_rfl, by kernel_rfl⟩, ?_⟩
    have hc := costs_v (X := X) (ownM_rdM HO.out) (bel.rdm H1.out) HL1.out (by have := HL5.out; omega) (fun k hk => HPL.out k hk) (fun k hk => (HL.out k hk).1) HQ.out.1 (by have := HQ.out.2; omega) HE.out.1 HE.out.2
    rw [← HCC.out] at hc
    refine CallsB.own (hc.mono fun v w3 h => ?_)
    obtain ⟨ho, hb⟩ := h
    have hbb := bel.trans hb
    have HO3 := Lib.hid (ownM_bel HO.out hb)
    clear hc hb bel hc0
    have hcl : C.length = A.length := HCL.out
    rcases own_view ho with ⟨_, e⟩ | ⟨g, cap, rfl, _, _, _, _, hcC, _⟩
    · rw [e] at hcl
      have := HQ.out.1
      simp at hcl
      omega
    have HNU : Hid (Nums w3 g 0 C) := Lib.hid fun j hj => by rw [Nat.zero_add]; exact hcC j hj
    have HRV : Hid (RdV w3 (.slice (some ⟨g, 0, none⟩) C.length cap) C) := Lib.hid (own_rdv ho)
    clear hcC hcl ho
    unfold OpsB
    simp only [List.getElem?_toArray, List.getElem?_cons_zero, List.getElem?_cons_succ]
    rw [if_pos (by rfl)]
    left
    intro _
    unfold Oper.wp
    go_simp
    unfold OpsB
    refine WpB.own ?_
    refine WpB.seq kit (WpB.region kit ?_)
    simp only [List.size_toArray, List.length_cons, List.length_nil, Nat.reduceAdd, Nat.zero_add, List.range, List.range.loop]
    unfold OpsB
    simp only [List.getElem?_toArray, List.getElem?_cons_zero, List.getElem?_cons_succ]
    rw [if_pos (by rfl)]
    left
    intro _
    unfold Oper.wp
    go_simp
    unfold OpsB
    simp only [List.getElem?_toArray, List.getElem?_cons_zero, List.getElem?_cons_succ]
    rw [if_pos (by rfl)]
    left
    intro _
    unfold Oper.wp
    go_simp
    unfold OpsB
    simp only [List.getElem?_toArray, List.getElem?_cons_zero, List.getElem?_cons_succ]
    rw [if_pos (by rfl)]
    left
    intro _
    unfold Oper.wp
    go_simp
    unfold OpsB
    simp only [List.getElem?_toArray, List.getElem?_cons_zero, List.getElem?_cons_succ]
    rw [if_pos (by rfl)]
    right
    refine ⟨22, #[.slice (some ⟨g, 0, none⟩) C.length cap], fun W => ⟨by kernel_rfl, by kernel_rfl⟩, ?_⟩
    refine CallsB.own ((min_b (X := X) (by rw [HCL.out]; have := HQ.out.1; omega) (by rw [HCL.out]; have := HQ.out.2; omega) HNU.out).mono fun v w4 h => ?_)
    obtain ⟨rfl, rfl⟩ := h
    unfold OpsB
    simp only [List.getElem?_toArray, List.getElem?_cons_zero, List.getElem?_cons_succ]
    rw [if_pos (by rfl)]
    right
    obtain ⟨ci, hci⟩ : ∃ cd, Tryd.f21.body = some cd := ⟨_, rfl⟩
    refine ⟨21, #[.slice (some ⟨g, 0, none⟩) C.length cap, .int .i64 (minTo C C.length)], fun W => ⟨by kernel_rfl, by kernel_rfl⟩, ?_⟩
    refine ((calls_kept (X := X) (w := w4) (R := fun v w' => v = .int .i64 (C.idxOf (minTo C C.length)) ∧ Bel w4 w') (fn := Tryd.f21) (cd := ci) Trydp.func21 Tryd.func21 hci (kept_code (by kernel_rfl) hci) (by kernel_rfl) (fun τ => (slicesIndex_v _ C _ (ownTape w4 τ) HRV.out HIM.out.1).mono fun e w' h => ⟨_, h.1, rfl, by rw [← h.2]; exact ⟨rfl, rfl, Nat.le_refl _, fun _ _ => rfl⟩⟩)).mono fun v w5 h => ?_)
    obtain ⟨rfl, hb5⟩ := h
    have hb6 := hbb.trans hb5
    have HO5 := Lib.hid (ownM_bel HO3.out hb5)
    have hbl : bst C C.length < A.length := by rw [← HCL.out]; exact HIM.out.2.2
    rw [HIM.out.2.1]
    obtain ⟨us, hul, hvv, hrows, _⟩ := ownM_parts HO5.out
    rcases hvv with ⟨_, e⟩ | ⟨g2, cap2, rfl, _, _, _, hnc2, hcm2, hc2, _⟩
    · rw [e] at hbl; simp at hbl
    have hck := hc2 _ hbl
    have hown := (hrows _ hbl).1
    rw [HCL.out] at hck hown hbl ⊢
    obtain ⟨bk, hbk⟩ : ∃ bk, bk = bst C A.length := ⟨_, rfl⟩
    rw [← hbk] at hown
    have hro : row = A.getD bk [] := by rw [hbk]; exact HROW.out
    rw [← hro] at hown
    rw [← hbk] at hck hbl ⊢
    obtain ⟨q, hq⟩ : ∃ q, q = A.length := ⟨_, rfl⟩
    rw [← hq] at hbl ⊢
    obtain ⟨uv, huv⟩ : ∃ uv, uv = us.getD bk undef := ⟨_, rfl⟩
    rw [← huv] at hck hown
    have hbi : (bk : Int) < (q : Int) := by omega
    have hb0 : (0 : Int) ≤ (bk : Int) := by omega
    have HOWN := Lib.hid hown
    clear hro hc2 hrows hown huv hul hq hbk hnc2 hcm2
    unfold OpsB
    simp only [List.getElem?_toArray, List.getElem?_cons_zero, List.getElem?_cons_succ]
    rw [if_pos (by rfl)]
    left
    intro _
    unfold Oper.wp
    go_simp
    unfold OpsB
    simp only [List.getElem?_toArray, List.getElem?_cons_zero, List.getElem?_cons_succ]
    rw [if_pos (by rfl)]
    left
    intro _
    unfold Oper.wp
    go_simp
    unfold OpsB
    simp only [List.getElem?_toArray, List.getElem?_cons_zero, List.getElem?_cons_succ]
    rw [if_pos (by rfl)]
    left
    intro _
    unfold Oper.wp
    go_simp
    unfold OpsB
    simp only [List.getElem?_toArray, List.getElem?_cons_zero, List.getElem?_cons_succ]
    rw [if_pos (by rfl)]
    left
    intro _
    unfold Oper.wp
    go_simp
    unfold OpsB
    refine WpB.own (WpB.ret kit ⟨rfl, _, fun τ => results_tmp2 (t := 2) (u := 3) rfl _ _ _, _, rfl, HOWN.out, hb6⟩)
  · have hf : areV vs = false := by simpa using ha
    have hr : viewCommon vs = ([], false) := by simp [viewCommon, hf]
    rw [hr]
    have HV := Lib.hid (fun τ => areViews_v v0 vs (ownTape w τ) h1)
    rw [hf] at HV
    refine WpB.seq kit (WpB.of_wp kit (fun τ => ?_) (outs_then (outs_body _ _ _)))
    go_wp2_with fail
    refine (HV.out τ).mono ?_
    rintro e w2 ⟨rfl, rfl⟩
    go_wp2
    exact ⟨rfl, _, fun τ => results_tmp2 (t := 2) (u := 3) rfl _ _ _, _, rfl, own_nil _ _, bel_of_below (Below.refl _ _)⟩
end

section
open Go.Conc Go.RowKit

set_option maxRecDepth 100000 in
set_option maxHeartbeats 400000 in
theorem iViewCost_b {X w : World} {v0 v1 : Value} {xs : List Int} {vs : List (List Int)} (h0 : RdV w v0 xs) (h1 : RdM w v1 vs) :
    CallsB (duo Tryd.prog X) 9 #[v0, v1] w (fun v w' => v = .tuple #[.int .i64 (viewCost xs vs).1, .bool (viewCost xs vs).2] ∧ Bel w w') := by
  obtain ⟨ao0, n0, ca0, rfl⟩ : ∃ ao n ca, v0 = .slice ao n ca := by obtain ⟨ao, ca, e, _⟩ := h0; exact ⟨ao, _, ca, e⟩
  refine CallsB.of_body kit (fn := Tryd.f9) Trydp.func9 Tryd.func9 rfl (by kernel_rfl) (by kernel_rfl) ?_
  simp only [Tryd.ntmps9, List.size_toArray, List.length_cons, List.length_nil, Nat.reduceAdd, Nat.reduceSub, Array.replicate_succ, Array.replicate_zero, List.push_toArray, List.append_toArray, List.nil_append, List.cons_append]
  refine WpB.seq kit (WpB.of_wp kit (fun τ => ?_) (outs_then (outs_body _ _ _)))
  go_wp
  refine WpB.own ?_
  by_cases ha : areV vs = true
  · obtain ⟨L, hL1, hL5, hL⟩ := areV_row ha
    have hlen := areV_len ha
    obtain ⟨vb, vo, vcap, bV, oV, cV, hv1, hV⟩ := rows_at h1 hlen.1 hL1 (fun k hk => (hL k hk).1)
    obtain ⟨hc0, _, hr0⟩ := hV 0 (by omega)
    rw [Nat.add_zero] at hc0
    have z0 : (0 : Int) < (vs.length : Int) := by omega
    have z1 : 0 < vs.length := by omega
    have HV := Lib.hid (fun τ => areViews_v v1 vs (ownTape w τ) h1)
    have HA := Lib.hid (fun τ => areAlike_v _ _ xs (vs.getD 0 []) (ownTape w τ) h0 hr0)
    have H0 := Lib.hid h0
    have H1 := Lib.hid h1
    obtain ⟨n, hn⟩ : ∃ n, n = vs.length := ⟨_, rfl⟩
    rw [← hn] at z0 z1 hv1
    have HL := Lib.hid hL
    have HN := Lib.hid hn
    have HE := Lib.hid hlen
    have HL1 := Lib.hid hL1
    have HL5 := Lib.hid hL5
    have HVV := Lib.hid hV
    rw [ha] at HV
    subst hv1
    by_cases hk : alike xs (vs.getD 0 []) = true
    · have hr : viewCost xs vs = (((costOf xs vs : Nat) : Int), true) := by simp only [viewCost, ha, hk, Bool.and_self, if_true]
      rw [hr]
      rw [hk] at HA
      have HK := Lib.hid (alike_iff.1 hk)
      clear hV hr hk ha hL hlen hL1 hL5 hn
      refine WpB.seq kit (WpB.of_wp kit (fun τ => ?_) (outs_then (outs_body _ _ _)))
      go_wp2_with fail
      refine (HV.out τ).mono ?_
      rintro e w2 ⟨rfl, rfl⟩
      go_wp2_with fail
      refine (HA.out τ).mono ?_
      rintro e w2 ⟨rfl, rfl⟩
      go_wp2
      refine WpB.own ?_
      refine WpB.seq kit (WpB.region kit ?_)
      simp only [List.size_toArray, List.length_cons, List.length_nil, Nat.reduceAdd, Nat.zero_add, List.range, List.range.loop]
      unfold OpsB
      simp only [List.getElem?_toArray, List.getElem?_cons_zero, List.getElem?_cons_succ]
      rw [if_pos (by rfl)]
      left
      intro _
      unfold Oper.wp
      go_simp
      unfold OpsB
      simp only [List.getElem?_toArray, List.getElem?_cons_zero, List.getElem?_cons_succ]
      rw [if_pos (by rfl)]
      left
      intro _
      unfold Oper.wp
      go_simp
      unfold OpsB
      simp only [List.getElem?_toArray, List.getElem?_cons_zero, List.getElem?_cons_succ]
      rw [if_pos (by rfl)]
      left
      intro _
      unfold Oper.wp
      go_simp
      unfold OpsB
      simp only [List.getElem?_toArray, List.getElem?_cons_zero, List.getElem?_cons_succ]
      rw [if_pos (by rfl)]
      right
      refine ⟨20, #[.slice (some ⟨w.heap.size, 0, none⟩) 1 1, .slice (some ⟨vb, vo, none⟩) n vcap], fun W => ⟨by kernel_rfl, by kernel_rfl⟩, ?_⟩
      have hal := Bel.alloc w (.cells #[.slice ao0 n0 ca0] 26)
      have hc := costs_v (X := X) (rdm_one H0.out 26) (hal.rdm H1.out) HL1.out (by have := HL5.out; omega) (fun k hk => by
        obtain rfl : k = 0 := by simp at hk; exact hk
        exact HK.out.2.2.trans (HL.out 0 (by have := HE.out; omega)).1) (fun k hk => (HL.out k hk).1) (Nat.le_refl 1) (by simp) HE.out.1 HE.out.2
      refine CallsB.own (hc.mono fun v w3 h => ?_)
      obtain ⟨ho, hb⟩ := h
      have hbb := hal.trans hb
      clear hc hb hal
      obtain ⟨g, cap, rfl, hcl⟩ := own_first ho
      clear ho
      unfold OpsB
      simp only [List.getElem?_toArray, List.getElem?_cons_zero, List.getElem?_cons_succ]
      rw [if_pos (by rfl)]
      left
      intro _
      unfold Oper.wp
      go_simp
      unfold OpsB
      simp only [List.getElem?_toArray, List.getElem?_cons_zero, List.getElem?_cons_succ]
      rw [if_pos (by rfl)]
      left
      intro _
      unfold Oper.wp
      go_simp
      unfold OpsB
      simp only [List.getElem?_toArray, List.getElem?_cons_zero, List.getElem?_cons_succ]
      rw [if_pos (by rfl)]
      left
      intro _
      unfold Oper.wp
      go_simp
      unfold OpsB
      simp only [List.getElem?_toArray, List.getElem?_cons_zero, List.getElem?_cons_succ]
      rw [if_pos (by rfl)]
      left
      intro _
      unfold Oper.wp
      go_simp
      unfold OpsB
      refine WpB.own (WpB.ret kit ⟨rfl, _, fun τ => results_tmp2 (t := 4) (u := 5) rfl _ _ _, rfl, hbb⟩)
    · have hk' : alike xs (vs.getD 0 []) = false := by simpa using hk
      have hr : viewCost xs vs = (0, false) := by simp only [viewCost, hk', Bool.and_false]; rfl
      rw [hr]
      rw [hk'] at HA
      clear hV hr hk ha hL hlen hL1 hL5 hn hk'
      refine WpB.seq kit (WpB.of_wp kit (fun τ => ?_) (outs_then (outs_body _ _ _)))
      go_wp2_with fail
      refine (HV.out τ).mono ?_
      rintro e w2 ⟨rfl, rfl⟩
      go_wp2_with fail
      refine (HA.out τ).mono ?_
      rintro e w2 ⟨rfl, rfl⟩
      go_wp2
      exact ⟨rfl, _, fun τ => results_tmp2 (t := 4) (u := 5) rfl _ _ _, rfl, bel_of_below (Below.refl _ _)⟩
  · have hf : areV vs = false := by simpa using ha
    have hr : viewCost xs vs = (0, false) := by simp [viewCost, hf]
    rw [hr]
    have HV := Lib.hid (fun τ => areViews_v v1 vs (ownTape w τ) h1)
    rw [hf] at HV
    refine WpB.seq kit (WpB.of_wp kit (fun τ => ?_) (outs_then (outs_body _ _ _)))
    go_wp2_with fail
    refine (HV.out τ).mono ?_
    rintro e w2 ⟨rfl, rfl⟩
    go_wp2
    exact ⟨rfl, _, fun τ => results_tmp2 (t := 4) (u := 5) rfl _ _ _, rfl, bel_of_below (Below.refl _ _)⟩
end

section
open Go.RowKit

theorem grown_own {w a b : World} {g go : Nat} (h : w.grownBy a (some g)) (hab : a.grownBy b (some go)) (hge : w.heap.size ≤ go) : w.grownBy b (some g) :=
  ⟨hab.os.trans h.os, hab.tape.trans h.tape, hab.output.trans h.output, Nat.le_trans h.size hab.size, fun k hk hne => (hab.block k (Nat.lt_of_lt_of_le hk h.size) (fun e => by cases e; omega)).trans (h.block k hk hne)⟩

theorem grown_belowD {w a b : World} {g : Nat} (h : w.grownBy a (some g)) (hab : Below a.heap.size a b) : w.grownBy b (some g) :=
  ⟨hab.os.trans h.os, hab.tape.trans h.tape, hab.output.trans h.output, Nat.le_trans h.size hab.size, fun k hk hne => (hab.block k (Nat.lt_of_lt_of_le hk h.size)).trans (h.block k hk hne)⟩

theorem rdr_grown {a b : World} {g p : Nat} {bs : Value} {r : Option Nat} (h : Rdr a g bs p) (hab : a.grownBy b r) (hne : some g ≠ r) : Rdr b g bs p := by
  unfold Rdr at *
  rw [hab.block g (Array.getElem?_eq_some_iff.1 h).1 hne]
  exact h

theorem rdr_below {a b : World} {g p : Nat} {bs : Value} (h : Rdr a g bs p) (hab : Below a.heap.size a b) : Rdr b g bs p := by
  unfold Rdr at *
  rw [hab.block g (Array.getElem?_eq_some_iff.1 h).1]
  exact h

theorem bytes_grown {w w' : World} {a : Option Addr} {len g : Nat} (h : Bytes w a len) (hg : w.grownBy w' (some g)) (hne : 0 < len → ∀ x, a = some x → x.block ≠ g) : Bytes w' a len := by
  rcases h with h | ⟨b, off, ha, hc⟩
  · exact .inl h
  · refine .inr ⟨b, off, ha, fun j hj => ?_⟩
    obtain ⟨x, hx, hcx⟩ := hc j hj
    exact ⟨x, hx, hg.cell hcx (fun e => hne (by omega) _ ha (by cases e; rfl))⟩

theorem small_snoc {xs : List Int} {v : Int} (h : Small xs) (h0 : 0 ≤ v) (h1 : v ≤ 7) : Small (xs ++ [v]) := by
  intro j hj
  by_cases e : j < xs.length
  · rw [getD_snoc_lt _ _ _ e]; exact h j e
  · have : j = xs.length := by simp at hj; omega
    rw [this, getD_snoc_eq]; exact ⟨h0, h1⟩

theorem small_mem {xs : List Int} (h : Small xs) : ∀ x ∈ xs, 0 ≤ x ∧ x ≤ 9 := by
  intro x hx
  obtain ⟨j, hj, e⟩ := mem_iff_getD.1 hx
  have := h j hj
  omega

theorem pick_z (g : Nat) (a : Option Addr) (len cap p : Nat) (m : Int) (w : World) (hr : Rdr w g (.slice a len cap) p) (hby : Bytes w a len) (hne : 0 < len → ∀ x, a = some x → x.block ≠ g) (hlen : len ≤ 2000) (hp : p ≤ 1000000) (hn : 1 ≤ m) (hn2 : m ≤ 100000) :
    Calls (cutP Tryd.prog) 45 #[.pointer (some ⟨g, 0, none⟩), .int .i64 m] w (Picked w g (.slice a len cap) p m.toNat) := by
  have := pick_any g a len cap p m.toNat w hr hby hne hlen hp (by omega) (by omega)
  rwa [Int.toNat_of_nonneg (by omega)] at this

def DrawnN (w : World) (g : Nat) (bs : Value) (p n m : Nat) (e : Ending) (w' : World) : Prop :=
  ∃ v xs q, e = .returned v ∧ Own w' w.heap.size v xs ∧ (n ≤ xs.length ∧ xs.length ≤ m) ∧ (∀ x ∈ xs, 0 ≤ x ∧ x ≤ 9) ∧ Rdr w' g bs q ∧ q ≤ p + 40 ∧ w.grownBy w' (some g)

set_option maxHeartbeats 1000000 in
theorem l91Part_n (g : Nat) (a : Option Addr) (len cap p n : Nat) (w : World) (hr : Rdr w g (.slice a len cap) p) (hby : Bytes w a len) (hne : 0 < len → ∀ x, a = some x → x.block ≠ g) (hlen : len ≤ 2000) (hp : p ≤ 1000) (hn : 1 ≤ n) (hn2 : n ≤ 8) :
    Calls (cutP Tryd.prog) 46 #[.pointer (some ⟨g, 0, none⟩), .int .i64 n] w (DrawnN w g (.slice a len cap) p n (n + 1)) := by
  have hg := (rdr_facts hr).1
  have HR := Lib.hid hr
  have HB := Lib.hid hby
  clear hr hby
  obtain ⟨w0, hw0⟩ : ∃ w0 : World, w0 = w.alloc (.cells #[] 3) := ⟨_, rfl⟩
  have hb0 : Below w.heap.size w w0 := by rw [hw0]; exact (Below.refl _ _).alloc (Nat.le_refl _) _
  have ho0 : Own w0 w.heap.size (.slice (some ⟨w.heap.size, 0, none⟩) 0 0) [] := by rw [hw0]; exact own_empty w _ (Nat.le_refl _)
  go_enter Trydp.func46, Trydp.ntmps46
  go_wp2_with fail
  rw [← hw0]
  refine (pick_any g a len cap p 3 _ (rdr_below HR.out hb0) (bytes_below HB.out hb0) hne hlen (by omega) (by omega) (by omega)).mono ?_
  rintro e w1 ⟨kd, rfl, hk3, hr1, hg1, hz1⟩
  have hG1 : w.grownBy w1 (some g) := grown_trans (⟨hb0.os, hb0.tape, hb0.output, hb0.size, fun k hk _ => hb0.block k hk⟩) hg1
  have ho1 : Own w1 w.heap.size (.slice (some ⟨w.heap.size, 0, none⟩) 0 0) [] := own_grown ho0 hg1 (.inr (by simp [Value.ownBlock]; omega))
  clear hg1 hz1 ho0 hb0 hw0
  have HR1 := Lib.hid hr1
  have HG1 := Lib.hid hG1
  have HO1 := Lib.hid ho1
  clear hr1 hG1 ho1
  go_wp2
  go_loopw [5, 7] (fun u i wr => ∃ (k g' cap' q : Nat) (xs : List Int), k ≤ n ∧ i = .int .i64 k ∧ u = .slice (some ⟨g', 0, none⟩) k cap' ∧ Own wr w.heap.size (.slice (some ⟨g', 0, none⟩) k cap') xs ∧ xs.length = k ∧ Small xs ∧ pSize xs ≤ k ∧ Rdr wr g (.slice a len cap) q ∧ q ≤ p + 1 + 2 * k ∧ w.grownBy wr (some g)) (fun _ i _ => n - (intOf i).toNat)
  case atStart => exact ⟨0, w.heap.size, 0, p + 1, [], Nat.zero_le _, rfl, rfl, HO1.out, rfl, fun j hj => by simp at hj, by decide, HR1.out, by omega, HG1.out⟩
  case round =>
    obtain ⟨k, g', cap', q, xs, hk, rfl, rfl, hown, hxl, hsm, hps, hrd, hq, hgr⟩ := hrel
    have hsz := hgr.size
    have hge : w.heap.size ≤ g' := (own_lt hown g' rfl).1
    have HO := Lib.hid hown
    have HXL := Lib.hid hxl
    have HSM := Lib.hid hsm
    have HRD := Lib.hid hrd
    have HGR := Lib.hid hgr
    obtain ⟨s, hs⟩ : ∃ s : Nat, pSize xs = s := ⟨(pSize xs).toNat, by have := (pSize_bd hsm).1; omega⟩
    rw [hs] at hps
    have HPS := Lib.hid hs
    clear hown hxl hsm hrd hgr hs
    by_cases hlt : k < n
    · go_wp2_with fail
      refine (l1Size_v _ xs _ (own_rdv HO.out) HSM.out).mono ?_
      rintro e w' ⟨rfl, rfl⟩
      rw [HPS.out]
      go_wp2_with fail
      refine (pick_z g a len cap q _ _ HRD.out (bytes_grown HB.out HGR.out hne) hne hlen (by omega) (by omega) (by omega)).mono ?_
      rintro e w2 ⟨t, rfl, ht, hr2, hg2, hz2⟩
      have HR2 := Lib.hid hr2
      have HG2 := Lib.hid (grown_trans HGR.out hg2)
      have HO2 := Lib.hid (own_grown HO.out hg2 (.inr (by simp [Value.ownBlock]; omega)))
      have hsz2 : w.heap.size ≤ w2.heap.size := by omega
      clear hr2 hg2 hz2
      by_cases hkd : kd = 1
      · have hkd1 : ((kd : Int) == 1) = true := by simp; omega
        clear hkd
        go_wp2_with fail
        refine (pick_z g a len cap (q + 1) _ _ HR2.out (bytes_grown HB.out HG2.out hne) hne hlen (by omega) (by omega) (by omega)).mono ?_
        rintro e w3 ⟨t2, rfl, ht2, hr3, hg3, hz3⟩
        have HR3 := Lib.hid hr3
        have HG3 := Lib.hid (grown_trans HG2.out hg3)
        have HO3 := Lib.hid (own_grown HO2.out hg3 (.inr (by simp [Value.ownBlock]; omega)))
        clear hr3 hg3
        have hzz : w.heap.size ≤ w3.heap.size := by omega
        clear hz3
        obtain ⟨q3, hq3⟩ : ∃ q3, q3 = q + 1 + 1 := ⟨_, rfl⟩
        rw [← hq3] at HR3
        by_cases hst : (t2 : Int) < s
        · have hmin : min (s : Int) t2 = t2 := by omega
          go_wp2_with (at_builtin; refine wpList_push rfl _ _ rfl w.heap.size g' k cap' xs rfl (own_alloc HO3.out _) HXL.out.symm ⟨w3.heap.size, 0, none⟩ rfl t2 (cell_new1 _ _ _) (by omega) (by simp; omega) ?_)
          intro g2 cap2 w4 hown4 hgr4 hg4
          have hG4 : w.grownBy w4 (some g) := grown_own (grown_belowD HG3.out ((Below.refl _ _).alloc (Nat.le_refl _) _)) hgr4 hge
          have hR4 := rdr_grown (rdr_below HR3.out ((Below.refl _ _).alloc (Nat.le_refl _) _)) hgr4 (fun e => by cases e; omega)
          have HO4 := Lib.hid hown4
          have HG4 := Lib.hid hG4
          have HR4 := Lib.hid hR4
          clear hown4 hgr4 hg4 hG4 hR4
          go_wp2
          go_roundw
          case rel =>
            refine ⟨k + 1, g2, cap2, q3, xs ++ [(t2 : Int)], by omega, by go_num, rfl, HO4.out, by simp [HXL.out], small_snoc HSM.out (by omega) (by omega), ?_, HR4.out, by omega, HG4.out⟩
            have := HPS.out
            unfold pSize at this ⊢
            rw [sizeFrom_append, this]
            omega
          case measure => simp [intOf]; omega
        · have hmin : min (s : Int) t2 = s := by omega
          go_wp2_with (at_builtin; refine wpList_push rfl _ _ rfl w.heap.size g' k cap' xs rfl (own_alloc HO3.out _) HXL.out.symm ⟨w3.heap.size, 0, none⟩ rfl s (cell_new1 _ _ _) (by omega) (by simp; omega) ?_)
          intro g2 cap2 w4 hown4 hgr4 hg4
          have hG4 : w.grownBy w4 (some g) := grown_own (grown_belowD HG3.out ((Below.refl _ _).alloc (Nat.le_refl _) _)) hgr4 hge
          have hR4 := rdr_grown (rdr_below HR3.out ((Below.refl _ _).alloc (Nat.le_refl _) _)) hgr4 (fun e => by cases e; omega)
          have HO4 := Lib.hid hown4
          have HG4 := Lib.hid hG4
          have HR4 := Lib.hid hR4
          clear hown4 hgr4 hg4 hG4 hR4
          go_wp2
          go_roundw
          case rel =>
            refine ⟨k + 1, g2, cap2, q3, xs ++ [(s : Int)], by omega, by go_num, rfl, HO4.out, by simp [HXL.out], small_snoc HSM.out (by omega) (by omega), ?_, HR4.out, by omega, HG4.out⟩
            have := HPS.out
            unfold pSize at this ⊢
            rw [sizeFrom_append, this]
            omega
          case measure => simp [intOf]; omega
      · obtain ⟨w3, hw3⟩ : ∃ w3 : World, w3 = w2 := ⟨_, rfl⟩
        rw [← hw3] at HR2 HG2 HO2 hsz2 ⊢
        have HR3 := HR2
        have HG3 := HG2
        have HO3 := HO2
        have hzz : w.heap.size ≤ w3.heap.size := by omega
        clear hw3 HR2 HG2 HO2
        have hkd' : ((kd : Int) == 1) = false := by simp; omega
        have ht0 : (0 : Int) ≤ (t : Int) := by omega
        obtain ⟨q3, hq3⟩ : ∃ q3, q3 = q + 1 := ⟨_, rfl⟩
        rw [← hq3] at HR3
        go_wp2_with (at_builtin; refine wpList_push rfl _ _ rfl w.heap.size g' k cap' xs rfl (own_alloc HO3.out _) HXL.out.symm ⟨w3.heap.size, 0, none⟩ rfl t (cell_new1 _ _ _) (by omega) (by simp; omega) ?_)
        intro g2 cap2 w4 hown4 hgr4 hg4
        have hG4 : w.grownBy w4 (some g) := grown_own (grown_belowD HG3.out ((Below.refl _ _).alloc (Nat.le_refl _) _)) hgr4 hge
        have hR4 := rdr_grown (rdr_below HR3.out ((Below.refl _ _).alloc (Nat.le_refl _) _)) hgr4 (fun e => by cases e; omega)
        have HO4 := Lib.hid hown4
        have HG4 := Lib.hid hG4
        have HR4 := Lib.hid hR4
        clear hown4 hgr4 hg4 hG4 hR4
        go_wp2
        go_roundw
        case rel =>
          refine ⟨k + 1, g2, cap2, q3, xs ++ [(t : Int)], by omega, by go_num, rfl, HO4.out, by simp [HXL.out], small_snoc HSM.out ht0 (by omega), ?_, HR4.out, by omega, HG4.out⟩
          have := HPS.out
          unfold pSize at this ⊢
          rw [sizeFrom_append, this]
          omega
        case measure => simp [intOf]; omega
    · have hkn : k = n := by omega
      subst hkn
      have hB := bytes_grown HB.out HGR.out hne
      go_wp2_with fail
      refine (pick_z g a len cap q _ _ HRD.out hB hne hlen (by omega) (by omega) (by omega)).mono ?_
      rintro e w2 ⟨t, rfl, ht, hr2, hg2, hz2⟩
      have HR2 := Lib.hid hr2
      have HG2 := Lib.hid (grown_trans HGR.out hg2)
      have HO2 := Lib.hid (own_grown HO.out hg2 (.inr (by simp [Value.ownBlock]; omega)))
      have hsz2 : w.heap.size ≤ w2.heap.size := by omega
      clear hr2 hg2 hz2
      by_cases h40 : t = 0
      · subst h40
        go_wp2_with (at_builtin; refine wpList_push rfl _ _ rfl w.heap.size g' k cap' xs rfl (own_alloc HO2.out _) HXL.out.symm ⟨w2.heap.size, 0, none⟩ rfl 9 (cell_new1 _ _ _) (by omega) (by simp; omega) ?_)
        intro g2 cap2 w4 hown4 hgr4 hg4
        have hG4 : w.grownBy w4 (some g) := grown_own (grown_belowD HG2.out ((Below.refl _ _).alloc (Nat.le_refl _) _)) hgr4 hge
        have hR4 := rdr_grown (rdr_below HR2.out ((Below.refl _ _).alloc (Nat.le_refl _) _)) hgr4 (fun e => by cases e; omega)
        have HO4 := Lib.hid hown4
        have HG4 := Lib.hid hG4
        have HR4 := Lib.hid hR4
        clear hown4 hgr4 hg4 hG4 hR4
        go_wp2
        go_ret
        refine ⟨_, xs ++ [9], q + 1, rfl, HO4.out, ⟨by simp [HXL.out] <;> omega, by simp [HXL.out] <;> omega⟩, ?_, HR4.out, by omega, HG4.out⟩
        intro y hy
        rcases List.mem_append.1 hy with h | h
        · exact small_mem HSM.out y h
        · rw [List.mem_singleton.1 h]; omega
      · have ht1 : ((t : Int) == 0) = false := by simp; omega
        go_wp2
        go_ret
        exact ⟨_, xs, q + 1, rfl, HO2.out, by have := HXL.out; omega, small_mem HSM.out, HR2.out, by omega, HG2.out⟩

theorem bytes_of_row {w : World} {a : Option Addr} {len cap : Nat} {zs : List Int} (h : IsRow .u8 w a len cap zs) : Bytes w a len ∧ len ≤ cap ∧ cap ≤ maxLen := by
  rcases h with ⟨rfl, rfl, rfl, rfl⟩ | ⟨x, rfl, hl, hm, hz, hc, hw⟩
  · exact ⟨.inl rfl, Nat.le_refl _, Nat.zero_le _⟩
  · refine ⟨?_, hl, hm⟩
    by_cases h0 : len = 0
    · exact .inl h0
    · obtain ⟨b, off, spot⟩ := x
      have hc0 := hc 0 (by omega)
      have hspot : spot = none := by simpa [Addr.add] using World.cell?_spot hc0
      subst hspot
      refine .inr ⟨b, off, rfl, fun j hj => ?_⟩
      have hcj := hc j (by omega)
      rw [Addr.add_lit] at hcj
      have hmem : zs.getD j 0 ∈ zs := mem_of_getD (by omega) rfl
      have hwf := hw _ hmem
      have hb : 0 ≤ zs.getD j 0 ∧ zs.getD j 0 ≤ 255 := by
        simpa [Lit.wf, IntKind.min, IntKind.max, IntKind.bits, IntKind.signed] using hwf
      refine ⟨(zs.getD j 0).toNat, by omega, ?_⟩
      rw [hcj, Int.toNat_of_nonneg hb.1]
end

section
open Go.RowKit

theorem apart_of_ge {w : World} {B g : Nat} {v : Value} {xs : List Int} (h : Own w B v xs) (hg : g < B) : v.ownBlock = none ∨ v.ownBlock ≠ some g := by
  cases hv : v.ownBlock with
  | none => exact .inl rfl
  | some k => exact .inr fun e => by have := (own_lt h k hv).1; cases e; omega

theorem below_of_grown {w w' : World} {g : Nat} (h : w.grownBy w' (some g)) (hg : w.heap.size ≤ g) : Below w.heap.size w w' :=
  ⟨h.os, h.tape, h.output, h.size, fun k hk => h.block k hk (fun e => by cases e; omega)⟩

theorem hne_of_bytes {w : World} {a : Option Addr} {m : Nat} (hbm : Bytes w a m) : 0 < m → ∀ x, a = some x → x.block ≠ w.heap.size := by
  intro h0 x hx
  rcases hbm with h | ⟨b, off, ha, hcs⟩
  · omega
  · obtain ⟨y, _, hc⟩ := hcs 0 h0
    have := World.block_lt_of_cell? w _ hc
    rw [ha] at hx
    cases hx
    exact Nat.ne_of_lt this
end

section
open Go.RowKit

structure Rds (w0 w : World) (g : Nat) (a : Option Addr) (m cap p : Nat) : Prop where
  rdr : Rdr w g (.slice a m cap) p
  byt : Bytes w0 a m
  hm : m ≤ 2000
  hg : g = w0.heap.size
  grown : w0.grownBy w (some g)

theorem Rds.ne {w0 w : World} {g m cap p : Nat} {a : Option Addr} (h : Rds w0 w g a m cap p) : 0 < m → ∀ x, a = some x → x.block ≠ g := by
  rw [h.hg]; exact hne_of_bytes h.byt

theorem Rds.bytes {w0 w : World} {g m cap p : Nat} {a : Option Addr} (h : Rds w0 w g a m cap p) : Bytes w a m := bytes_grown h.byt h.grown h.ne

theorem Rds.below {w0 w : World} {g m cap p : Nat} {a : Option Addr} (h : Rds w0 w g a m cap p) : Below w0.heap.size w0 w := below_of_grown h.grown (Nat.le_of_eq h.hg.symm)

theorem Rds.lt {w0 w : World} {g m cap p : Nat} {a : Option Addr} (h : Rds w0 w g a m cap p) : g < w.heap.size := (rdr_facts h.rdr).1

theorem Rds.keep {w w' : World} {B g : Nat} {v : Value} {xs : List Int} (ho : Own w B v xs) (hB : g < B) (hg : w.grownBy w' (some g)) : Own w' B v xs :=
  own_grown ho hg (apart_of_ge ho hB)

theorem Rds.step {w0 w w' : World} {g m cap p : Nat} {a : Option Addr} (h : Rds w0 w g a m cap p) (hb : Below w.heap.size w w') : Rds w0 w' g a m cap p :=
  ⟨rdr_below h.rdr hb, h.byt, h.hm, h.hg, grown_belowD h.grown hb⟩

def Opened (w : World) (a : Option Addr) (e : Ending) (w' : World) : Prop := ∃ g m cap, e = .returned (.pointer (some ⟨g, 0, none⟩)) ∧ Rds w w' g a m cap 0

theorem open_r (a : Option Addr) (len cap : Nat) (w : World) (hby : Bytes w a len) (hlen : len ≤ 1048576) (hc : len ≤ cap) (hcm : cap ≤ maxLen) :
    Calls (cutP Tryd.prog) 30 #[.slice a len cap] w (Opened w a) :=
  (l6Open_any a len cap w hby hlen hc hcm).mono fun e w1 ⟨he, m, hm, hbm, hr1, hb1, hs1⟩ =>
    ⟨w.heap.size, m, cap, he, ⟨hr1, hbm, hm, rfl, ⟨hb1.os, hb1.tape, hb1.output, hb1.size, fun k hk _ => hb1.block k hk⟩⟩⟩

def PickedR (w0 w : World) (g : Nat) (a : Option Addr) (m cap p : Nat) (n : Int) (e : Ending) (w' : World) : Prop :=
  ∃ t : Nat, e = .returned (.int .i64 t) ∧ (t : Int) < n ∧ Rds w0 w' g a m cap (p + 1) ∧ w.grownBy w' (some g)

theorem pick_r {w0 w : World} {g m cap p : Nat} {a : Option Addr} (h : Rds w0 w g a m cap p) (n : Int) (h1 : 1 ≤ n) (h2 : n ≤ 100000) (hp : p ≤ 1000000) :
    Calls (cutP Tryd.prog) 45 #[.pointer (some ⟨g, 0, none⟩), .int .i64 n] w (PickedR w0 w g a m cap p n) :=
  (pick_z g a m cap p n w h.rdr h.bytes h.ne h.hm hp h1 h2).mono fun e w1 ⟨t, he, ht, hr1, hg1, hz1⟩ =>
    ⟨t, he, by omega, ⟨hr1, h.byt, h.hm, h.hg, grown_trans h.grown hg1⟩, hg1⟩

def DrawnRS (w0 w : World) (g : Nat) (a : Option Addr) (m cap p n : Nat) (e : Ending) (w' : World) : Prop :=
  ∃ v xs q, e = .returned v ∧ Own w' w.heap.size v xs ∧ (n ≤ xs.length ∧ xs.length ≤ n + 1) ∧ q ≤ p + 40 ∧ Rds w0 w' g a m cap q ∧ w.grownBy w' (some g)
theorem part_rs {w0 w : World} {g m cap p : Nat} {a : Option Addr} (h : Rds w0 w g a m cap p) (n : Nat) (h1 : 1 ≤ n) (h2 : n ≤ 8) (hp : p ≤ 1000) :
    Calls (cutP Tryd.prog) 46 #[.pointer (some ⟨g, 0, none⟩), .int .i64 n] w (DrawnRS w0 w g a m cap p n) :=
  (l91Part_n g a m cap p n w h.rdr h.bytes h.ne h.hm hp h1 h2).mono fun e w1 ⟨v, xs, q, he, ho, hl, hx, hr1, hq, hg1⟩ =>
    ⟨v, xs, q, he, ho, hl, hq, ⟨hr1, h.byt, h.hm, h.hg, grown_trans h.grown hg1⟩, hg1⟩

theorem Rds.push {w0 wq w' : World} {g g' m cap p : Nat} {a : Option Addr} {o : Obj} (h : Rds w0 wq g a m cap p) (hgr : (wq.alloc o).grownBy w' (some g')) (hne : g' ≠ g) (hge : w0.heap.size ≤ g') : Rds w0 w' g a m cap p :=
  ⟨rdr_grown (rdr_below h.rdr ((Below.refl _ _).alloc (Nat.le_refl _) _)) hgr (fun e => by cases e; exact hne rfl), h.byt, h.hm, h.hg, grown_own (grown_belowD h.grown ((Below.refl _ _).alloc (Nat.le_refl _) _)) hgr hge⟩
end

end Go.Proofs.YtfiaiephbemdoaaDoor
