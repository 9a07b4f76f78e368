/-
  The contract of impl.ListBlocks. (Made by wip/gen/mklistall.py.)
-/
import Derived.Test.YtdeeeiimlcggpaaListAll
namespace Go.Proofs.Ytdeeeiimlcggpaa
set_option linter.unusedSimpArgs false
set_option linter.unusedVariables false
set_option linter.unnecessarySimpa false
open Go.RowKit Go.Shelf
set_option maxRecDepth 100000

attribute [local go_sem] Oper.semAt_some

theorem cellsAt_ownFrom {β : Type} (B g : Nat) (cs : Array Value) (t : TypeId) : OwnFrom B (fun (_ : β) W => W.heap[g]? = some (.cells cs t (0, 0))) := fun s A C row h hg hrow => by
  refine (hg.block g (Array.getElem?_eq_some_iff.1 h).1 ?_).trans h
  intro e
  obtain ⟨_, o, ho, hc⟩ := hrow g e.symm
  rw [h] at ho
  cases ho
  cases hc

theorem collect_boxI {n₀ B b g' cap' m : Nat} {k : Int} {W w5 w7 : World} {v : Value} {xss : List (List Int)} (hb : Boxed W b 3 (.int .i64 k)) (hne : b ≠ B) (hom : OwnM W n₀ W.heap.size v xss) (hb5 : Below W.heap.size W w5) (o : Obj) (h2 : (w5.alloc o).grownBy w7 v.ownBlock) :
    Boxed (w7.setCell ⟨B, 0, none⟩ (.slice (some ⟨g', 0, none⟩) m cap')) b 3 (.int .i64 k) := by
  obtain ⟨vs, hr⟩ := ownM_row0 (ownM_below hom hb5)
  have h7 := ((boxed_below hb hb5).alloc o).kept h2 ((boxed_below hb hb5).not_row (by decide) hr)
  exact (heap_setCell_other w7 ⟨B, 0, none⟩ b _ (by simpa using hne)).trans h7

theorem holdsL_same {c n₀ B : Nat} {w W : World} {G : List Nat → List (List Int)} {pre pre' : List Nat} (h : HoldsL c n₀ B w G pre W) (e : G pre' = G pre) : HoldsL c n₀ B w G pre' W := by
  unfold HoldsL at *
  rw [e]
  exact h

theorem filter_snoc (k : Int) (c x : Nat) (pre : List Nat) : (((pre ++ [x]).map fun p => atL c (p : Nat)).filter fun xs => pSize xs == k) = ((pre.map fun p => atL c (p : Nat)).filter fun xs => pSize xs == k) ++ (if (pSize (atL c (x : Nat)) == k) = true then [atL c (x : Nat)] else []) := by
  rw [List.map_append, List.filter_append]
  congr 1
  simp only [List.map_cons, List.map_nil, List.filter_cons, List.filter_nil]

set_option maxHeartbeats 3200000 in
theorem listBlocks_in (n : Nat) (hn : 3 ≤ n) (c : Nat) (k : Int) (w : World) (hc1 : 1 ≤ c) (hc7 : c ≤ 7) (hk : 1 ≤ k ∧ k ≤ 7) :
    CallsIn Fence.wide n Try.prog 8 #[.int .i64 c, .int .i64 k] w (FreshMB w ((allL c).filter fun xs => pSize xs == k, true)) := by
  have h1 : 1 ≤ n := by omega
  have HI := Lib.hid fun (w1 : World) => isListed_is true (c : Int) w1 (by simp; omega)
  have HK := Lib.hid fun (w1 : World) => isListed_is true k w1 (by simpa using hk)
  clear hk
  refine callsIn_of_wp_marks Try.func8 rfl trivial ?_ rfl
  simp only [Try.ntmps8, List.size_toArray, List.length_cons, List.length_nil, Nat.reduceAdd, Nat.reduceSub, Array.replicate_succ, Array.replicate_zero, List.push_toArray, List.append_toArray, List.nil_append, List.cons_append]
  gi_wp2_with (first | (refine ⟨trivial, ?_⟩; gi_at_call 18; first | (refine (callsIn_wide.2 (HI.out _)).mono ?_; rintro e w' ⟨rfl, rfl⟩) | (refine (callsIn_wide.2 (HK.out _)).mono ?_; rintro e w' ⟨rfl, rfl⟩)) | (refine ⟨trivial, ?_⟩; gi_at_call 19; refine (linesOf_in _ _ _).mono ?_; rintro e w' ⟨rfl, rfl⟩))
  have bK := Boxed.new w 3 (.int .i64 k)
  have bO := Boxed.new (w.alloc (.cells #[.int .i64 k] 3)) 27 (.slice none 0 0)
  obtain ⟨W2, hW2⟩ : ∃ W2, W2 = (w.alloc (.cells #[.int .i64 k] 3)).alloc (.cells #[.slice none 0 0] 27) := ⟨_, rfl⟩
  have hsz2 : W2.heap.size = w.heap.size + 1 + 1 := by rw [hW2]; simp
  have hB2 : Below w.heap.size w W2 := by rw [hW2]; exact below_new2 w _ _
  have bK2 : Boxed W2 w.heap.size 3 (.int .i64 k) := by rw [hW2]; exact bK.alloc _
  have bO2 : Boxed W2 (w.heap.size + 1) 27 (.slice none 0 0) := by rw [hW2]; simpa using bO
  rw [← hW2]
  have bN := Boxed.new W2 3 (.int .i64 c)
  rw [hsz2] at bN
  have hI0 : HoldsL c w.heap.size (w.heap.size + 1) w (fun pre => (pre.map fun p => atL c (p : Nat)).filter fun xs => pSize xs == k) [] W2 := ⟨⟨_, bO2, ownM_nil _ _ _⟩, hB2⟩
  have hI1 := holdsL_below (Nat.le_refl _) hI0 ((Below.refl W2.heap.size W2).alloc (Nat.le_refl _) (.cells #[.int .i64 c] 3))
  have bK3 := bK2.alloc (.cells #[.int .i64 c] 3)
  clear hW2 bO hI0 bK bK2 bO2
  refine wpIn_rangeFunc_ownH rfl h1 (gf := 33) (lb := #[.pointer (some ⟨w.heap.size + 1 + 1, 0, none⟩)]) rfl trivial (enters_of Try.func33 (by kernel_rfl) rfl)
    (lines_stops (n - 1) (by omega) (w.heap.size + 1 + 1) w.heap.size c hc1 (by omega) _ (by simp; omega) bN.cell) kpL_t (kpL_b (by simp; omega)) (Below.refl _ _) (fun _ => rfl)
    (fun pre W => HoldsL c w.heap.size (w.heap.size + 1) w (fun pre => (pre.map fun p => atL c (p : Nat)).filter fun xs => pSize xs == k) pre W ∧ Boxed W w.heap.size 3 (.int .i64 k))
    (fun _ _ _ => False)
    (OwnFrom.and (holdsL_own _ _ _ _ _ _ (Nat.le_refl _) (by simp; omega)) (cellsAt_ownFrom _ _ _ _))
    (fun _ _ _ _ _ hs _ _ => hs)
    ⟨hI1, bK3⟩
    (fun x a' W => ∃ g, a' = { tmps := #[.int .i64 c, .int .i64 k, undef, .pointer (some ⟨w.heap.size, 0, none⟩), .slice none 0 0, .bool false, .pointer (some ⟨w.heap.size + 1, 0, none⟩), .pointer (some ⟨g, 0, none⟩), .int .i64 c, .bool true, .bool false, .bool false, .int .i64 k, .bool true, .bool false, .bool false, .int .i64 c, .func (.func 33) #[] #[.pointer (some ⟨w.heap.size + 1 + 1, 0, none⟩)], .agg (rowC (ln (atL c (x : Int)))), undef, undef, undef, undef, undef, undef, undef, undef, undef, undef], defers := [] } ∧ RowAt W g (ln (atL c (x : Int))) ∧ w.heap.size ≤ g)
    (fun x a' => fun s A C row ⟨g, e, hr, hg⟩ hgr hrow => ⟨g, e, rowAt_ownFrom (β := Unit) 0 _ g _ s A C row hr hgr hrow, hg⟩) ?assign ?body ?done ?stop
  case assign =>
    intro l pre x W K hI0 hK
    have hz : RowAt (W.alloc (.cells #[.int .i64 0, .int .i64 0, .int .i64 0, .int .i64 0, .int .i64 0, .int .i64 0, .int .i64 0, .int .i64 0] 46)) W.heap.size (List.replicate 8 0) := heap_alloc_new W _
    have HZ := Lib.hid hz
    have HLX := Lib.hid (ln_length (xs := atL c (x : Int)) (by rw [atL_length]; omega))
    have HB := Lib.hid ((Below.refl W.heap.size W).alloc (Nat.le_refl _) (.cells #[.int .i64 0, .int .i64 0, .int .i64 0, .int .i64 0, .int .i64 0, .int .i64 0, .int .i64 0, .int .i64 0] 46))
    obtain ⟨hI, hbk⟩ := hI0
    have hBW := hI.2.size
    have HBK := Lib.hid hbk
    have HI := Lib.hid hI
    clear hz hI hbk
    gi_wp2_with (first | (refine wpListIn_storeL rfl _ _ rfl W.heap.size _ rfl rfl (List.replicate 8 0) rfl HLX.out HZ.out ?_; intro w3 hg3 ht3; have HG3 := Lib.hid hg3; have HB3 := Lib.hid (HB.out.trans (touch_below ht3 (Nat.le_refl _))); clear hg3 ht3))
    exact hK _ _ (keepsFrom_below _ HB3.out) ⟨HB3.out.mono hBW, keepL_below HB3.out⟩ ⟨holdsL_below (Nat.le_refl _) HI.out HB3.out, boxed_below HBK.out HB3.out⟩ ⟨W.heap.size, rfl, HG3.out, hBW⟩
  case body =>
    rintro l pre x a' W hl hloop ⟨⟨⟨v, hv, hom⟩, hB⟩, hbk⟩ ⟨g, rfl, hr, hg⟩ hlt
    have hBW := hB.size
    have HLX := Lib.hid (ln_length (xs := atL c (x : Int)) (by rw [atL_length]; omega))
    have HL1 := Lib.hid (show 1 ≤ (atL c (x : Int)).length by rw [atL_length]; exact hc1)
    have HLL := Lib.hid fun (w5 : World) => lineList_f (atL c (x : Int)) w5 (atL_partIn_any c x hc1 (by omega))
    have hbc := fun (w5 : World) => blocks_any (atL c (x : Int)) w5 (partIn_small (atL_partIn_any c x hc1 (by omega))) (by rw [atL_length]; omega)
    have HEN := Lib.hid (enters_of Try.func21 (by kernel_rfl) rfl)
    have HEB := Lib.hid (enters_of Try.func20 (by kernel_rfl) rfl)
    have HPL := Lib.hid (show ((pre.map fun p => atL c (p : Nat)).filter fun xs => pSize xs == k).length ≤ 1000000000 by
      have h1 := opn_bd c 0 (by omega) (by omega)
      have h2 := List.length_filter_le (fun xs => pSize xs == k) (pre.map fun p => atL c (p : Nat))
      rw [List.length_map] at h2
      omega)
    have hfs := filter_snoc k c x pre
    have hv0 : Boxed W.drew (w.heap.size + 1) 27 v := hv
    have hk0 : Boxed W.drew w.heap.size 3 (.int .i64 k) := hbk
    have hr0 : RowAt W.drew g (ln (atL c (x : Int))) := hr
    obtain ⟨z, hz⟩ : ∃ z, z = pSize (atL c (x : Int)) := ⟨_, rfl⟩
    rw [← hz] at hbc hfs
    have HBC := Lib.hid hbc
    clear hbc
    by_cases hzk : (z == k) = true
    · rw [if_pos hzk] at hfs
      have HG := Lib.hid hfs
      clear hfs hz
      gi_wp2
      refine wpIn_region_any (by kernel_rfl) ?_
      change wpAnyIn _ _ _ _ _ _ _ _ _ (World.drew _)
      refine wpAnyIn_ready (rs := [0, 2]) (by kernel_rfl) (by simp) (AllReadyIn.cons rfl (fun K hK => ?_) (AllReadyIn.cons rfl (fun K hK => ?_) AllReadyIn.nil))
      · rw [if_pos (by rfl)]
        refine wpIn_loadL _ rfl g rfl _ HLX.out hr0 (hK _ _ ?_)
        clear hK K
        simp only [Act.put, List.setIfInBounds_toArray, List.set_cons_zero, List.set_cons_succ, List.getElem_toArray, List.getElem_cons_zero, List.getElem_cons_succ]
        refine wpAnyIn_ready (rs := [1, 2]) (by kernel_rfl) (by simp) (AllReadyIn.cons rfl (fun K hK => ?_) (AllReadyIn.cons rfl (fun K hK => ?_) AllReadyIn.nil))
        · rw [if_pos (by rfl)]
          refine wpIn_call1 20 _ _ rfl _ rfl _ (HBC.out W.drew) (HEB.out _ _) ?_
          rintro e w4 ⟨rfl, hb4⟩
          refine ⟨_, rfl, hK _ _ ?_⟩
          have hb4 : Below W.heap.size W w4 := (below_drewN (Below.refl _ W) 1).trans hb4
          have hk4 := boxed_below hbk hb4
          clear hK K
          simp only [Act.put, List.setIfInBounds_toArray, List.set_cons_zero, List.set_cons_succ, List.getElem_toArray, List.getElem_cons_zero, List.getElem_cons_succ]
          refine wpAnyIn_ready (rs := [2]) (by kernel_rfl) (by simp) (AllReadyIn.cons rfl (fun K hK => ?_) AllReadyIn.nil)
          rw [if_pos (by rfl)]
          refine wpIn_loadI _ rfl _ k hk4 rfl (hK _ _ ?_)
          clear hK K
          simp only [Act.put, List.setIfInBounds_toArray, List.set_cons_zero, List.set_cons_succ, List.getElem_toArray, List.getElem_cons_zero, List.getElem_cons_succ]
          refine wpAnyIn_ready (rs := [3]) (by kernel_rfl) (by simp) (AllReadyIn.cons rfl (fun K hK => ?_) AllReadyIn.nil)
          rw [if_pos (by rfl)]
          refine wpIn_eqlI _ _ _ _ rfl z k rfl rfl (hK _ _ ?_)
          rw [hzk]
          clear hK K
          simp only [Act.put, List.setIfInBounds_toArray, List.set_cons_zero, List.set_cons_succ, List.getElem_toArray, List.getElem_cons_zero, List.getElem_cons_succ]
          refine wpAnyIn_done (by kernel_rfl) ?_ _
          have hv4 := boxed_below hv hb4
          have hom4 := ownM_mono (ownM_below hom hb4) (Nat.le_refl _) hb4.size
          have hr4 := rowAt_below hr hb4
          have hB4 := hB.trans (hb4.mono hBW)
          have hBW4 := hB4.size
          clear hv0 hk0 hr0
          have hv0 : Boxed w4.drew (w.heap.size + 1) 27 v := hv4
          have hr0 : RowAt w4.drew g (ln (atL c (x : Int))) := hr4
          gi_wp2
          refine wpIn_region_any (by kernel_rfl) ?_
          change wpAnyIn _ _ _ _ _ _ _ _ _ (World.drew _)
          refine wpAnyIn_ready (rs := [0, 1]) (by kernel_rfl) (by simp) (AllReadyIn.cons rfl (fun K hK => ?_) (AllReadyIn.cons rfl (fun K hK => ?_) AllReadyIn.nil))
          · rw [if_pos (by rfl)]
            refine wpIn_loadB _ rfl _ _ hv0 rfl (hK _ _ ?_)
            clear hK K
            simp only [Act.put, List.setIfInBounds_toArray, List.set_cons_zero, List.set_cons_succ, List.getElem_toArray, List.getElem_cons_zero, List.getElem_cons_succ]
            refine wpAnyIn_ready (rs := [1]) (by kernel_rfl) (by simp) (AllReadyIn.cons rfl (fun K hK => ?_) AllReadyIn.nil)
            rw [if_pos (by rfl)]
            refine wpIn_loadL _ rfl g rfl _ HLX.out hr0 (hK _ _ ?_)
            clear hK K
            simp only [Act.put, List.setIfInBounds_toArray, List.set_cons_zero, List.set_cons_succ, List.getElem_toArray, List.getElem_cons_zero, List.getElem_cons_succ]
            refine wpAnyIn_ready (rs := [2]) (by kernel_rfl) (by simp) (AllReadyIn.cons rfl (fun K hK => ?_) AllReadyIn.nil)
            rw [if_pos (by rfl)]
            refine wpIn_call1 21 _ _ rfl _ rfl _ (HLL.out w4.drew) (HEN.out _ _) ?_
            rintro e w5 ⟨u, rfl, hu, hb5⟩
            refine ⟨_, rfl, hK _ _ ?_⟩
            have hb5 : Below w4.heap.size w4 w5 := (below_drewN (Below.refl _ w4) 1).trans hb5
            have hv5 := boxed_below hv4 hb5
            obtain ⟨gu, cu, rfl⟩ := fresh_some hu HL1.out
            clear hK K
            simp only [Act.put, List.setIfInBounds_toArray, List.set_cons_zero, List.set_cons_succ, List.getElem_toArray, List.getElem_cons_zero, List.getElem_cons_succ]
            refine wpAnyIn_ready (rs := [3]) (by kernel_rfl) (by simp) (AllReadyIn.cons rfl (fun K hK => ?_) AllReadyIn.nil)
            rw [if_pos (by rfl)]
            refine wpIn_buildB _ rfl _ _ _ rfl (hK _ _ ?_)
            have hv6 := hv5.alloc (.cells #[.slice (some ⟨gu, 0, none⟩) (atL c (x : Int)).length cu] 23)
            clear hK K
            simp only [Act.put, List.setIfInBounds_toArray, List.set_cons_zero, List.set_cons_succ, List.getElem_toArray, List.getElem_cons_zero, List.getElem_cons_succ]
            refine wpAnyIn_ready (rs := [4]) (by kernel_rfl) (by simp) (AllReadyIn.cons rfl (fun K hK => ?_) AllReadyIn.nil)
            rw [if_pos (by rfl)]
            refine wpIn_pushV _ _ rfl w.heap.size w4.heap.size _ v _ (ownM_below (ownM_below hom4 hb5) ((Below.refl _ _).alloc (Nat.le_refl _) _)) rfl rfl ⟨w5.heap.size, 0, none⟩ rfl _ _ (cell_new1 _ _ _) (own_mono (own_alloc hu _) hBW4) (inB_mono (inB_of_own hu) (Nat.le_refl _) (by simp)) hBW4 (by have := hb5.size; simp; omega) HPL.out ?_
            intro g7 cap7 w7 h7 hg7
            refine hK _ _ ?_
            have hv7 := collect_box (Nat.le_refl _) hB4 hv4 hom4 hb5 _ hg7
            clear hK K
            simp only [Act.put, List.setIfInBounds_toArray, List.set_cons_zero, List.set_cons_succ, List.getElem_toArray, List.getElem_cons_zero, List.getElem_cons_succ]
            refine wpAnyIn_ready (rs := [5]) (by kernel_rfl) (by simp) (AllReadyIn.cons rfl (fun K hK => ?_) AllReadyIn.nil)
            rw [if_pos (by rfl)]
            refine wpIn_storeB _ _ rfl _ v g7 _ cap7 hv7 rfl rfl (hK _ _ ?_)
            clear hK K
            simp only [Act.put, List.setIfInBounds_toArray, List.set_cons_zero, List.set_cons_succ, List.getElem_toArray, List.getElem_cons_zero, List.getElem_cons_succ]
            refine wpAnyIn_done (by kernel_rfl) ?_ _
            obtain ⟨f1, f2, f3⟩ := collect_done (G := fun pre => (pre.map fun p => atL c (p : Nat)).filter fun xs => pSize xs == k) (pre := pre) (p := x) (ys := atL c (x : Int)) c _ (Nat.le_refl _) (by omega) hB4 hv4 hom4 hb5 _ h7 hg7 HG.out
            exact ⟨(keepsFrom_below _ hb4).trans f1, kpL_t ⟨hb4.mono hBW, keepL_below hb4⟩ f2, f3, collect_boxI hk4 (by omega) hom4 hb5 _ hg7⟩
          · rw [if_pos (by rfl)]
            refine wpIn_loadL _ rfl g rfl _ HLX.out hr0 (hK _ _ ?_)
            clear hK K
            simp only [Act.put, List.setIfInBounds_toArray, List.set_cons_zero, List.set_cons_succ, List.getElem_toArray, List.getElem_cons_zero, List.getElem_cons_succ]
            refine wpAnyIn_ready (rs := [0, 2]) (by kernel_rfl) (by simp) (AllReadyIn.cons rfl (fun K hK => ?_) (AllReadyIn.cons rfl (fun K hK => ?_) AllReadyIn.nil))
            · rw [if_pos (by rfl)]
              refine wpIn_loadB _ rfl _ _ hv0 rfl (hK _ _ ?_)
              clear hK K
              simp only [Act.put, List.setIfInBounds_toArray, List.set_cons_zero, List.set_cons_succ, List.getElem_toArray, List.getElem_cons_zero, List.getElem_cons_succ]
              refine wpAnyIn_ready (rs := [2]) (by kernel_rfl) (by simp) (AllReadyIn.cons rfl (fun K hK => ?_) AllReadyIn.nil)
              rw [if_pos (by rfl)]
              refine wpIn_call1 21 _ _ rfl _ rfl _ (HLL.out w4.drew) (HEN.out _ _) ?_
              rintro e w5 ⟨u, rfl, hu, hb5⟩
              refine ⟨_, rfl, hK _ _ ?_⟩
              have hb5 : Below w4.heap.size w4 w5 := (below_drewN (Below.refl _ w4) 1).trans hb5
              have hv5 := boxed_below hv4 hb5
              obtain ⟨gu, cu, rfl⟩ := fresh_some hu HL1.out
              clear hK K
              simp only [Act.put, List.setIfInBounds_toArray, List.set_cons_zero, List.set_cons_succ, List.getElem_toArray, List.getElem_cons_zero, List.getElem_cons_succ]
              refine wpAnyIn_ready (rs := [3]) (by kernel_rfl) (by simp) (AllReadyIn.cons rfl (fun K hK => ?_) AllReadyIn.nil)
              rw [if_pos (by rfl)]
              refine wpIn_buildB _ rfl _ _ _ rfl (hK _ _ ?_)
              have hv6 := hv5.alloc (.cells #[.slice (some ⟨gu, 0, none⟩) (atL c (x : Int)).length cu] 23)
              clear hK K
              simp only [Act.put, List.setIfInBounds_toArray, List.set_cons_zero, List.set_cons_succ, List.getElem_toArray, List.getElem_cons_zero, List.getElem_cons_succ]
              refine wpAnyIn_ready (rs := [4]) (by kernel_rfl) (by simp) (AllReadyIn.cons rfl (fun K hK => ?_) AllReadyIn.nil)
              rw [if_pos (by rfl)]
              refine wpIn_pushV _ _ rfl w.heap.size w4.heap.size _ v _ (ownM_below (ownM_below hom4 hb5) ((Below.refl _ _).alloc (Nat.le_refl _) _)) rfl rfl ⟨w5.heap.size, 0, none⟩ rfl _ _ (cell_new1 _ _ _) (own_mono (own_alloc hu _) hBW4) (inB_mono (inB_of_own hu) (Nat.le_refl _) (by simp)) hBW4 (by have := hb5.size; simp; omega) HPL.out ?_
              intro g7 cap7 w7 h7 hg7
              refine hK _ _ ?_
              have hv7 := collect_box (Nat.le_refl _) hB4 hv4 hom4 hb5 _ hg7
              clear hK K
              simp only [Act.put, List.setIfInBounds_toArray, List.set_cons_zero, List.set_cons_succ, List.getElem_toArray, List.getElem_cons_zero, List.getElem_cons_succ]
              refine wpAnyIn_ready (rs := [5]) (by kernel_rfl) (by simp) (AllReadyIn.cons rfl (fun K hK => ?_) AllReadyIn.nil)
              rw [if_pos (by rfl)]
              refine wpIn_storeB _ _ rfl _ v g7 _ cap7 hv7 rfl rfl (hK _ _ ?_)
              clear hK K
              simp only [Act.put, List.setIfInBounds_toArray, List.set_cons_zero, List.set_cons_succ, List.getElem_toArray, List.getElem_cons_zero, List.getElem_cons_succ]
              refine wpAnyIn_done (by kernel_rfl) ?_ _
              obtain ⟨f1, f2, f3⟩ := collect_done (G := fun pre => (pre.map fun p => atL c (p : Nat)).filter fun xs => pSize xs == k) (pre := pre) (p := x) (ys := atL c (x : Int)) c _ (Nat.le_refl _) (by omega) hB4 hv4 hom4 hb5 _ h7 hg7 HG.out
              exact ⟨(keepsFrom_below _ hb4).trans f1, kpL_t ⟨hb4.mono hBW, keepL_below hb4⟩ f2, f3, collect_boxI hk4 (by omega) hom4 hb5 _ hg7⟩
            · rw [if_pos (by rfl)]
              refine wpIn_call1 21 _ _ rfl _ rfl _ (HLL.out w4.drew) (HEN.out _ _) ?_
              rintro e w5 ⟨u, rfl, hu, hb5⟩
              refine ⟨_, rfl, hK _ _ ?_⟩
              have hb5 : Below w4.heap.size w4 w5 := (below_drewN (Below.refl _ w4) 1).trans hb5
              have hv5 := boxed_below hv4 hb5
              obtain ⟨gu, cu, rfl⟩ := fresh_some hu HL1.out
              clear hK K
              simp only [Act.put, List.setIfInBounds_toArray, List.set_cons_zero, List.set_cons_succ, List.getElem_toArray, List.getElem_cons_zero, List.getElem_cons_succ]
              refine wpAnyIn_ready (rs := [0, 3]) (by kernel_rfl) (by simp) (AllReadyIn.cons rfl (fun K hK => ?_) (AllReadyIn.cons rfl (fun K hK => ?_) AllReadyIn.nil))
              · rw [if_pos (by rfl)]
                refine wpIn_loadB _ rfl _ _ hv5 rfl (hK _ _ ?_)
                clear hK K
                simp only [Act.put, List.setIfInBounds_toArray, List.set_cons_zero, List.set_cons_succ, List.getElem_toArray, List.getElem_cons_zero, List.getElem_cons_succ]
                refine wpAnyIn_ready (rs := [3]) (by kernel_rfl) (by simp) (AllReadyIn.cons rfl (fun K hK => ?_) AllReadyIn.nil)
                rw [if_pos (by rfl)]
                refine wpIn_buildB _ rfl _ _ _ rfl (hK _ _ ?_)
                have hv6 := hv5.alloc (.cells #[.slice (some ⟨gu, 0, none⟩) (atL c (x : Int)).length cu] 23)
                clear hK K
                simp only [Act.put, List.setIfInBounds_toArray, List.set_cons_zero, List.set_cons_succ, List.getElem_toArray, List.getElem_cons_zero, List.getElem_cons_succ]
                refine wpAnyIn_ready (rs := [4]) (by kernel_rfl) (by simp) (AllReadyIn.cons rfl (fun K hK => ?_) AllReadyIn.nil)
                rw [if_pos (by rfl)]
                refine wpIn_pushV _ _ rfl w.heap.size w4.heap.size _ v _ (ownM_below (ownM_below hom4 hb5) ((Below.refl _ _).alloc (Nat.le_refl _) _)) rfl rfl ⟨w5.heap.size, 0, none⟩ rfl _ _ (cell_new1 _ _ _) (own_mono (own_alloc hu _) hBW4) (inB_mono (inB_of_own hu) (Nat.le_refl _) (by simp)) hBW4 (by have := hb5.size; simp; omega) HPL.out ?_
                intro g7 cap7 w7 h7 hg7
                refine hK _ _ ?_
                have hv7 := collect_box (Nat.le_refl _) hB4 hv4 hom4 hb5 _ hg7
                clear hK K
                simp only [Act.put, List.setIfInBounds_toArray, List.set_cons_zero, List.set_cons_succ, List.getElem_toArray, List.getElem_cons_zero, List.getElem_cons_succ]
                refine wpAnyIn_ready (rs := [5]) (by kernel_rfl) (by simp) (AllReadyIn.cons rfl (fun K hK => ?_) AllReadyIn.nil)
                rw [if_pos (by rfl)]
                refine wpIn_storeB _ _ rfl _ v g7 _ cap7 hv7 rfl rfl (hK _ _ ?_)
                clear hK K
                simp only [Act.put, List.setIfInBounds_toArray, List.set_cons_zero, List.set_cons_succ, List.getElem_toArray, List.getElem_cons_zero, List.getElem_cons_succ]
                refine wpAnyIn_done (by kernel_rfl) ?_ _
                obtain ⟨f1, f2, f3⟩ := collect_done (G := fun pre => (pre.map fun p => atL c (p : Nat)).filter fun xs => pSize xs == k) (pre := pre) (p := x) (ys := atL c (x : Int)) c _ (Nat.le_refl _) (by omega) hB4 hv4 hom4 hb5 _ h7 hg7 HG.out
                exact ⟨(keepsFrom_below _ hb4).trans f1, kpL_t ⟨hb4.mono hBW, keepL_below hb4⟩ f2, f3, collect_boxI hk4 (by omega) hom4 hb5 _ hg7⟩
              · rw [if_pos (by rfl)]
                refine wpIn_buildB _ rfl _ _ _ rfl (hK _ _ ?_)
                have hv6 := hv5.alloc (.cells #[.slice (some ⟨gu, 0, none⟩) (atL c (x : Int)).length cu] 23)
                clear hK K
                simp only [Act.put, List.setIfInBounds_toArray, List.set_cons_zero, List.set_cons_succ, List.getElem_toArray, List.getElem_cons_zero, List.getElem_cons_succ]
                refine wpAnyIn_ready (rs := [0]) (by kernel_rfl) (by simp) (AllReadyIn.cons rfl (fun K hK => ?_) AllReadyIn.nil)
                rw [if_pos (by rfl)]
                refine wpIn_loadB _ rfl _ _ hv6 rfl (hK _ _ ?_)
                clear hK K
                simp only [Act.put, List.setIfInBounds_toArray, List.set_cons_zero, List.set_cons_succ, List.getElem_toArray, List.getElem_cons_zero, List.getElem_cons_succ]
                refine wpAnyIn_ready (rs := [4]) (by kernel_rfl) (by simp) (AllReadyIn.cons rfl (fun K hK => ?_) AllReadyIn.nil)
                rw [if_pos (by rfl)]
                refine wpIn_pushV _ _ rfl w.heap.size w4.heap.size _ v _ (ownM_below (ownM_below hom4 hb5) ((Below.refl _ _).alloc (Nat.le_refl _) _)) rfl rfl ⟨w5.heap.size, 0, none⟩ rfl _ _ (cell_new1 _ _ _) (own_mono (own_alloc hu _) hBW4) (inB_mono (inB_of_own hu) (Nat.le_refl _) (by simp)) hBW4 (by have := hb5.size; simp; omega) HPL.out ?_
                intro g7 cap7 w7 h7 hg7
                refine hK _ _ ?_
                have hv7 := collect_box (Nat.le_refl _) hB4 hv4 hom4 hb5 _ hg7
                clear hK K
                simp only [Act.put, List.setIfInBounds_toArray, List.set_cons_zero, List.set_cons_succ, List.getElem_toArray, List.getElem_cons_zero, List.getElem_cons_succ]
                refine wpAnyIn_ready (rs := [5]) (by kernel_rfl) (by simp) (AllReadyIn.cons rfl (fun K hK => ?_) AllReadyIn.nil)
                rw [if_pos (by rfl)]
                refine wpIn_storeB _ _ rfl _ v g7 _ cap7 hv7 rfl rfl (hK _ _ ?_)
                clear hK K
                simp only [Act.put, List.setIfInBounds_toArray, List.set_cons_zero, List.set_cons_succ, List.getElem_toArray, List.getElem_cons_zero, List.getElem_cons_succ]
                refine wpAnyIn_done (by kernel_rfl) ?_ _
                obtain ⟨f1, f2, f3⟩ := collect_done (G := fun pre => (pre.map fun p => atL c (p : Nat)).filter fun xs => pSize xs == k) (pre := pre) (p := x) (ys := atL c (x : Int)) c _ (Nat.le_refl _) (by omega) hB4 hv4 hom4 hb5 _ h7 hg7 HG.out
                exact ⟨(keepsFrom_below _ hb4).trans f1, kpL_t ⟨hb4.mono hBW, keepL_below hb4⟩ f2, f3, collect_boxI hk4 (by omega) hom4 hb5 _ hg7⟩
        · rw [if_pos (by rfl)]
          refine wpIn_loadI _ rfl _ k hk0 rfl (hK _ _ ?_)
          clear hK K
          simp only [Act.put, List.setIfInBounds_toArray, List.set_cons_zero, List.set_cons_succ, List.getElem_toArray, List.getElem_cons_zero, List.getElem_cons_succ]
          refine wpAnyIn_ready (rs := [1]) (by kernel_rfl) (by simp) (AllReadyIn.cons rfl (fun K hK => ?_) AllReadyIn.nil)
          rw [if_pos (by rfl)]
          refine wpIn_call1 20 _ _ rfl _ rfl _ (HBC.out W.drew) (HEB.out _ _) ?_
          rintro e w4 ⟨rfl, hb4⟩
          refine ⟨_, rfl, hK _ _ ?_⟩
          have hb4 : Below W.heap.size W w4 := (below_drewN (Below.refl _ W) 1).trans hb4
          have hk4 := boxed_below hbk hb4
          clear hK K
          simp only [Act.put, List.setIfInBounds_toArray, List.set_cons_zero, List.set_cons_succ, List.getElem_toArray, List.getElem_cons_zero, List.getElem_cons_succ]
          refine wpAnyIn_ready (rs := [3]) (by kernel_rfl) (by simp) (AllReadyIn.cons rfl (fun K hK => ?_) AllReadyIn.nil)
          rw [if_pos (by rfl)]
          refine wpIn_eqlI _ _ _ _ rfl z k rfl rfl (hK _ _ ?_)
          rw [hzk]
          clear hK K
          simp only [Act.put, List.setIfInBounds_toArray, List.set_cons_zero, List.set_cons_succ, List.getElem_toArray, List.getElem_cons_zero, List.getElem_cons_succ]
          refine wpAnyIn_done (by kernel_rfl) ?_ _
          have hv4 := boxed_below hv hb4
          have hom4 := ownM_mono (ownM_below hom hb4) (Nat.le_refl _) hb4.size
          have hr4 := rowAt_below hr hb4
          have hB4 := hB.trans (hb4.mono hBW)
          have hBW4 := hB4.size
          clear hv0 hk0 hr0
          have hv0 : Boxed w4.drew (w.heap.size + 1) 27 v := hv4
          have hr0 : RowAt w4.drew g (ln (atL c (x : Int))) := hr4
          gi_wp2
          refine wpIn_region_any (by kernel_rfl) ?_
          change wpAnyIn _ _ _ _ _ _ _ _ _ (World.drew _)
          refine wpAnyIn_ready (rs := [0, 1]) (by kernel_rfl) (by simp) (AllReadyIn.cons rfl (fun K hK => ?_) (AllReadyIn.cons rfl (fun K hK => ?_) AllReadyIn.nil))
          · rw [if_pos (by rfl)]
            refine wpIn_loadB _ rfl _ _ hv0 rfl (hK _ _ ?_)
            clear hK K
            simp only [Act.put, List.setIfInBounds_toArray, List.set_cons_zero, List.set_cons_succ, List.getElem_toArray, List.getElem_cons_zero, List.getElem_cons_succ]
            refine wpAnyIn_ready (rs := [1]) (by kernel_rfl) (by simp) (AllReadyIn.cons rfl (fun K hK => ?_) AllReadyIn.nil)
            rw [if_pos (by rfl)]
            refine wpIn_loadL _ rfl g rfl _ HLX.out hr0 (hK _ _ ?_)
            clear hK K
            simp only [Act.put, List.setIfInBounds_toArray, List.set_cons_zero, List.set_cons_succ, List.getElem_toArray, List.getElem_cons_zero, List.getElem_cons_succ]
            refine wpAnyIn_ready (rs := [2]) (by kernel_rfl) (by simp) (AllReadyIn.cons rfl (fun K hK => ?_) AllReadyIn.nil)
            rw [if_pos (by rfl)]
            refine wpIn_call1 21 _ _ rfl _ rfl _ (HLL.out w4.drew) (HEN.out _ _) ?_
            rintro e w5 ⟨u, rfl, hu, hb5⟩
            refine ⟨_, rfl, hK _ _ ?_⟩
            have hb5 : Below w4.heap.size w4 w5 := (below_drewN (Below.refl _ w4) 1).trans hb5
            have hv5 := boxed_below hv4 hb5
            obtain ⟨gu, cu, rfl⟩ := fresh_some hu HL1.out
            clear hK K
            simp only [Act.put, List.setIfInBounds_toArray, List.set_cons_zero, List.set_cons_succ, List.getElem_toArray, List.getElem_cons_zero, List.getElem_cons_succ]
            refine wpAnyIn_ready (rs := [3]) (by kernel_rfl) (by simp) (AllReadyIn.cons rfl (fun K hK => ?_) AllReadyIn.nil)
            rw [if_pos (by rfl)]
            refine wpIn_buildB _ rfl _ _ _ rfl (hK _ _ ?_)
            have hv6 := hv5.alloc (.cells #[.slice (some ⟨gu, 0, none⟩) (atL c (x : Int)).length cu] 23)
            clear hK K
            simp only [Act.put, List.setIfInBounds_toArray, List.set_cons_zero, List.set_cons_succ, List.getElem_toArray, List.getElem_cons_zero, List.getElem_cons_succ]
            refine wpAnyIn_ready (rs := [4]) (by kernel_rfl) (by simp) (AllReadyIn.cons rfl (fun K hK => ?_) AllReadyIn.nil)
            rw [if_pos (by rfl)]
            refine wpIn_pushV _ _ rfl w.heap.size w4.heap.size _ v _ (ownM_below (ownM_below hom4 hb5) ((Below.refl _ _).alloc (Nat.le_refl _) _)) rfl rfl ⟨w5.heap.size, 0, none⟩ rfl _ _ (cell_new1 _ _ _) (own_mono (own_alloc hu _) hBW4) (inB_mono (inB_of_own hu) (Nat.le_refl _) (by simp)) hBW4 (by have := hb5.size; simp; omega) HPL.out ?_
            intro g7 cap7 w7 h7 hg7
            refine hK _ _ ?_
            have hv7 := collect_box (Nat.le_refl _) hB4 hv4 hom4 hb5 _ hg7
            clear hK K
            simp only [Act.put, List.setIfInBounds_toArray, List.set_cons_zero, List.set_cons_succ, List.getElem_toArray, List.getElem_cons_zero, List.getElem_cons_succ]
            refine wpAnyIn_ready (rs := [5]) (by kernel_rfl) (by simp) (AllReadyIn.cons rfl (fun K hK => ?_) AllReadyIn.nil)
            rw [if_pos (by rfl)]
            refine wpIn_storeB _ _ rfl _ v g7 _ cap7 hv7 rfl rfl (hK _ _ ?_)
            clear hK K
            simp only [Act.put, List.setIfInBounds_toArray, List.set_cons_zero, List.set_cons_succ, List.getElem_toArray, List.getElem_cons_zero, List.getElem_cons_succ]
            refine wpAnyIn_done (by kernel_rfl) ?_ _
            obtain ⟨f1, f2, f3⟩ := collect_done (G := fun pre => (pre.map fun p => atL c (p : Nat)).filter fun xs => pSize xs == k) (pre := pre) (p := x) (ys := atL c (x : Int)) c _ (Nat.le_refl _) (by omega) hB4 hv4 hom4 hb5 _ h7 hg7 HG.out
            exact ⟨(keepsFrom_below _ hb4).trans f1, kpL_t ⟨hb4.mono hBW, keepL_below hb4⟩ f2, f3, collect_boxI hk4 (by omega) hom4 hb5 _ hg7⟩
          · rw [if_pos (by rfl)]
            refine wpIn_loadL _ rfl g rfl _ HLX.out hr0 (hK _ _ ?_)
            clear hK K
            simp only [Act.put, List.setIfInBounds_toArray, List.set_cons_zero, List.set_cons_succ, List.getElem_toArray, List.getElem_cons_zero, List.getElem_cons_succ]
            refine wpAnyIn_ready (rs := [0, 2]) (by kernel_rfl) (by simp) (AllReadyIn.cons rfl (fun K hK => ?_) (AllReadyIn.cons rfl (fun K hK => ?_) AllReadyIn.nil))
            · rw [if_pos (by rfl)]
              refine wpIn_loadB _ rfl _ _ hv0 rfl (hK _ _ ?_)
              clear hK K
              simp only [Act.put, List.setIfInBounds_toArray, List.set_cons_zero, List.set_cons_succ, List.getElem_toArray, List.getElem_cons_zero, List.getElem_cons_succ]
              refine wpAnyIn_ready (rs := [2]) (by kernel_rfl) (by simp) (AllReadyIn.cons rfl (fun K hK => ?_) AllReadyIn.nil)
              rw [if_pos (by rfl)]
              refine wpIn_call1 21 _ _ rfl _ rfl _ (HLL.out w4.drew) (HEN.out _ _) ?_
              rintro e w5 ⟨u, rfl, hu, hb5⟩
              refine ⟨_, rfl, hK _ _ ?_⟩
              have hb5 : Below w4.heap.size w4 w5 := (below_drewN (Below.refl _ w4) 1).trans hb5
              have hv5 := boxed_below hv4 hb5
              obtain ⟨gu, cu, rfl⟩ := fresh_some hu HL1.out
              clear hK K
              simp only [Act.put, List.setIfInBounds_toArray, List.set_cons_zero, List.set_cons_succ, List.getElem_toArray, List.getElem_cons_zero, List.getElem_cons_succ]
              refine wpAnyIn_ready (rs := [3]) (by kernel_rfl) (by simp) (AllReadyIn.cons rfl (fun K hK => ?_) AllReadyIn.nil)
              rw [if_pos (by rfl)]
              refine wpIn_buildB _ rfl _ _ _ rfl (hK _ _ ?_)
              have hv6 := hv5.alloc (.cells #[.slice (some ⟨gu, 0, none⟩) (atL c (x : Int)).length cu] 23)
              clear hK K
              simp only [Act.put, List.setIfInBounds_toArray, List.set_cons_zero, List.set_cons_succ, List.getElem_toArray, List.getElem_cons_zero, List.getElem_cons_succ]
              refine wpAnyIn_ready (rs := [4]) (by kernel_rfl) (by simp) (AllReadyIn.cons rfl (fun K hK => ?_) AllReadyIn.nil)
              rw [if_pos (by rfl)]
              refine wpIn_pushV _ _ rfl w.heap.size w4.heap.size _ v _ (ownM_below (ownM_below hom4 hb5) ((Below.refl _ _).alloc (Nat.le_refl _) _)) rfl rfl ⟨w5.heap.size, 0, none⟩ rfl _ _ (cell_new1 _ _ _) (own_mono (own_alloc hu _) hBW4) (inB_mono (inB_of_own hu) (Nat.le_refl _) (by simp)) hBW4 (by have := hb5.size; simp; omega) HPL.out ?_
              intro g7 cap7 w7 h7 hg7
              refine hK _ _ ?_
              have hv7 := collect_box (Nat.le_refl _) hB4 hv4 hom4 hb5 _ hg7
              clear hK K
              simp only [Act.put, List.setIfInBounds_toArray, List.set_cons_zero, List.set_cons_succ, List.getElem_toArray, List.getElem_cons_zero, List.getElem_cons_succ]
              refine wpAnyIn_ready (rs := [5]) (by kernel_rfl) (by simp) (AllReadyIn.cons rfl (fun K hK => ?_) AllReadyIn.nil)
              rw [if_pos (by rfl)]
              refine wpIn_storeB _ _ rfl _ v g7 _ cap7 hv7 rfl rfl (hK _ _ ?_)
              clear hK K
              simp only [Act.put, List.setIfInBounds_toArray, List.set_cons_zero, List.set_cons_succ, List.getElem_toArray, List.getElem_cons_zero, List.getElem_cons_succ]
              refine wpAnyIn_done (by kernel_rfl) ?_ _
              obtain ⟨f1, f2, f3⟩ := collect_done (G := fun pre => (pre.map fun p => atL c (p : Nat)).filter fun xs => pSize xs == k) (pre := pre) (p := x) (ys := atL c (x : Int)) c _ (Nat.le_refl _) (by omega) hB4 hv4 hom4 hb5 _ h7 hg7 HG.out
              exact ⟨(keepsFrom_below _ hb4).trans f1, kpL_t ⟨hb4.mono hBW, keepL_below hb4⟩ f2, f3, collect_boxI hk4 (by omega) hom4 hb5 _ hg7⟩
            · rw [if_pos (by rfl)]
              refine wpIn_call1 21 _ _ rfl _ rfl _ (HLL.out w4.drew) (HEN.out _ _) ?_
              rintro e w5 ⟨u, rfl, hu, hb5⟩
              refine ⟨_, rfl, hK _ _ ?_⟩
              have hb5 : Below w4.heap.size w4 w5 := (below_drewN (Below.refl _ w4) 1).trans hb5
              have hv5 := boxed_below hv4 hb5
              obtain ⟨gu, cu, rfl⟩ := fresh_some hu HL1.out
              clear hK K
              simp only [Act.put, List.setIfInBounds_toArray, List.set_cons_zero, List.set_cons_succ, List.getElem_toArray, List.getElem_cons_zero, List.getElem_cons_succ]
              refine wpAnyIn_ready (rs := [0, 3]) (by kernel_rfl) (by simp) (AllReadyIn.cons rfl (fun K hK => ?_) (AllReadyIn.cons rfl (fun K hK => ?_) AllReadyIn.nil))
              · rw [if_pos (by rfl)]
                refine wpIn_loadB _ rfl _ _ hv5 rfl (hK _ _ ?_)
                clear hK K
                simp only [Act.put, List.setIfInBounds_toArray, List.set_cons_zero, List.set_cons_succ, List.getElem_toArray, List.getElem_cons_zero, List.getElem_cons_succ]
                refine wpAnyIn_ready (rs := [3]) (by kernel_rfl) (by simp) (AllReadyIn.cons rfl (fun K hK => ?_) AllReadyIn.nil)
                rw [if_pos (by rfl)]
                refine wpIn_buildB _ rfl _ _ _ rfl (hK _ _ ?_)
                have hv6 := hv5.alloc (.cells #[.slice (some ⟨gu, 0, none⟩) (atL c (x : Int)).length cu] 23)
                clear hK K
                simp only [Act.put, List.setIfInBounds_toArray, List.set_cons_zero, List.set_cons_succ, List.getElem_toArray, List.getElem_cons_zero, List.getElem_cons_succ]
                refine wpAnyIn_ready (rs := [4]) (by kernel_rfl) (by simp) (AllReadyIn.cons rfl (fun K hK => ?_) AllReadyIn.nil)
                rw [if_pos (by rfl)]
                refine wpIn_pushV _ _ rfl w.heap.size w4.heap.size _ v _ (ownM_below (ownM_below hom4 hb5) ((Below.refl _ _).alloc (Nat.le_refl _) _)) rfl rfl ⟨w5.heap.size, 0, none⟩ rfl _ _ (cell_new1 _ _ _) (own_mono (own_alloc hu _) hBW4) (inB_mono (inB_of_own hu) (Nat.le_refl _) (by simp)) hBW4 (by have := hb5.size; simp; omega) HPL.out ?_
                intro g7 cap7 w7 h7 hg7
                refine hK _ _ ?_
                have hv7 := collect_box (Nat.le_refl _) hB4 hv4 hom4 hb5 _ hg7
                clear hK K
                simp only [Act.put, List.setIfInBounds_toArray, List.set_cons_zero, List.set_cons_succ, List.getElem_toArray, List.getElem_cons_zero, List.getElem_cons_succ]
                refine wpAnyIn_ready (rs := [5]) (by kernel_rfl) (by simp) (AllReadyIn.cons rfl (fun K hK => ?_) AllReadyIn.nil)
                rw [if_pos (by rfl)]
                refine wpIn_storeB _ _ rfl _ v g7 _ cap7 hv7 rfl rfl (hK _ _ ?_)
                clear hK K
                simp only [Act.put, List.setIfInBounds_toArray, List.set_cons_zero, List.set_cons_succ, List.getElem_toArray, List.getElem_cons_zero, List.getElem_cons_succ]
                refine wpAnyIn_done (by kernel_rfl) ?_ _
                obtain ⟨f1, f2, f3⟩ := collect_done (G := fun pre => (pre.map fun p => atL c (p : Nat)).filter fun xs => pSize xs == k) (pre := pre) (p := x) (ys := atL c (x : Int)) c _ (Nat.le_refl _) (by omega) hB4 hv4 hom4 hb5 _ h7 hg7 HG.out
                exact ⟨(keepsFrom_below _ hb4).trans f1, kpL_t ⟨hb4.mono hBW, keepL_below hb4⟩ f2, f3, collect_boxI hk4 (by omega) hom4 hb5 _ hg7⟩
              · rw [if_pos (by rfl)]
                refine wpIn_buildB _ rfl _ _ _ rfl (hK _ _ ?_)
                have hv6 := hv5.alloc (.cells #[.slice (some ⟨gu, 0, none⟩) (atL c (x : Int)).length cu] 23)
                clear hK K
                simp only [Act.put, List.setIfInBounds_toArray, List.set_cons_zero, List.set_cons_succ, List.getElem_toArray, List.getElem_cons_zero, List.getElem_cons_succ]
                refine wpAnyIn_ready (rs := [0]) (by kernel_rfl) (by simp) (AllReadyIn.cons rfl (fun K hK => ?_) AllReadyIn.nil)
                rw [if_pos (by rfl)]
                refine wpIn_loadB _ rfl _ _ hv6 rfl (hK _ _ ?_)
                clear hK K
                simp only [Act.put, List.setIfInBounds_toArray, List.set_cons_zero, List.set_cons_succ, List.getElem_toArray, List.getElem_cons_zero, List.getElem_cons_succ]
                refine wpAnyIn_ready (rs := [4]) (by kernel_rfl) (by simp) (AllReadyIn.cons rfl (fun K hK => ?_) AllReadyIn.nil)
                rw [if_pos (by rfl)]
                refine wpIn_pushV _ _ rfl w.heap.size w4.heap.size _ v _ (ownM_below (ownM_below hom4 hb5) ((Below.refl _ _).alloc (Nat.le_refl _) _)) rfl rfl ⟨w5.heap.size, 0, none⟩ rfl _ _ (cell_new1 _ _ _) (own_mono (own_alloc hu _) hBW4) (inB_mono (inB_of_own hu) (Nat.le_refl _) (by simp)) hBW4 (by have := hb5.size; simp; omega) HPL.out ?_
                intro g7 cap7 w7 h7 hg7
                refine hK _ _ ?_
                have hv7 := collect_box (Nat.le_refl _) hB4 hv4 hom4 hb5 _ hg7
                clear hK K
                simp only [Act.put, List.setIfInBounds_toArray, List.set_cons_zero, List.set_cons_succ, List.getElem_toArray, List.getElem_cons_zero, List.getElem_cons_succ]
                refine wpAnyIn_ready (rs := [5]) (by kernel_rfl) (by simp) (AllReadyIn.cons rfl (fun K hK => ?_) AllReadyIn.nil)
                rw [if_pos (by rfl)]
                refine wpIn_storeB _ _ rfl _ v g7 _ cap7 hv7 rfl rfl (hK _ _ ?_)
                clear hK K
                simp only [Act.put, List.setIfInBounds_toArray, List.set_cons_zero, List.set_cons_succ, List.getElem_toArray, List.getElem_cons_zero, List.getElem_cons_succ]
                refine wpAnyIn_done (by kernel_rfl) ?_ _
                obtain ⟨f1, f2, f3⟩ := collect_done (G := fun pre => (pre.map fun p => atL c (p : Nat)).filter fun xs => pSize xs == k) (pre := pre) (p := x) (ys := atL c (x : Int)) c _ (Nat.le_refl _) (by omega) hB4 hv4 hom4 hb5 _ h7 hg7 HG.out
                exact ⟨(keepsFrom_below _ hb4).trans f1, kpL_t ⟨hb4.mono hBW, keepL_below hb4⟩ f2, f3, collect_boxI hk4 (by omega) hom4 hb5 _ hg7⟩
      · rw [if_pos (by rfl)]
        refine wpIn_loadI _ rfl _ k hk0 rfl (hK _ _ ?_)
        clear hK K
        simp only [Act.put, List.setIfInBounds_toArray, List.set_cons_zero, List.set_cons_succ, List.getElem_toArray, List.getElem_cons_zero, List.getElem_cons_succ]
        refine wpAnyIn_ready (rs := [0]) (by kernel_rfl) (by simp) (AllReadyIn.cons rfl (fun K hK => ?_) AllReadyIn.nil)
        rw [if_pos (by rfl)]
        refine wpIn_loadL _ rfl g rfl _ HLX.out hr0 (hK _ _ ?_)
        clear hK K
        simp only [Act.put, List.setIfInBounds_toArray, List.set_cons_zero, List.set_cons_succ, List.getElem_toArray, List.getElem_cons_zero, List.getElem_cons_succ]
        refine wpAnyIn_ready (rs := [1]) (by kernel_rfl) (by simp) (AllReadyIn.cons rfl (fun K hK => ?_) AllReadyIn.nil)
        rw [if_pos (by rfl)]
        refine wpIn_call1 20 _ _ rfl _ rfl _ (HBC.out W.drew) (HEB.out _ _) ?_
        rintro e w4 ⟨rfl, hb4⟩
        refine ⟨_, rfl, hK _ _ ?_⟩
        have hb4 : Below W.heap.size W w4 := (below_drewN (Below.refl _ W) 1).trans hb4
        have hk4 := boxed_below hbk hb4
        clear hK K
        simp only [Act.put, List.setIfInBounds_toArray, List.set_cons_zero, List.set_cons_succ, List.getElem_toArray, List.getElem_cons_zero, List.getElem_cons_succ]
        refine wpAnyIn_ready (rs := [3]) (by kernel_rfl) (by simp) (AllReadyIn.cons rfl (fun K hK => ?_) AllReadyIn.nil)
        rw [if_pos (by rfl)]
        refine wpIn_eqlI _ _ _ _ rfl z k rfl rfl (hK _ _ ?_)
        rw [hzk]
        clear hK K
        simp only [Act.put, List.setIfInBounds_toArray, List.set_cons_zero, List.set_cons_succ, List.getElem_toArray, List.getElem_cons_zero, List.getElem_cons_succ]
        refine wpAnyIn_done (by kernel_rfl) ?_ _
        have hv4 := boxed_below hv hb4
        have hom4 := ownM_mono (ownM_below hom hb4) (Nat.le_refl _) hb4.size
        have hr4 := rowAt_below hr hb4
        have hB4 := hB.trans (hb4.mono hBW)
        have hBW4 := hB4.size
        clear hv0 hk0 hr0
        have hv0 : Boxed w4.drew (w.heap.size + 1) 27 v := hv4
        have hr0 : RowAt w4.drew g (ln (atL c (x : Int))) := hr4
        gi_wp2
        refine wpIn_region_any (by kernel_rfl) ?_
        change wpAnyIn _ _ _ _ _ _ _ _ _ (World.drew _)
        refine wpAnyIn_ready (rs := [0, 1]) (by kernel_rfl) (by simp) (AllReadyIn.cons rfl (fun K hK => ?_) (AllReadyIn.cons rfl (fun K hK => ?_) AllReadyIn.nil))
        · rw [if_pos (by rfl)]
          refine wpIn_loadB _ rfl _ _ hv0 rfl (hK _ _ ?_)
          clear hK K
          simp only [Act.put, List.setIfInBounds_toArray, List.set_cons_zero, List.set_cons_succ, List.getElem_toArray, List.getElem_cons_zero, List.getElem_cons_succ]
          refine wpAnyIn_ready (rs := [1]) (by kernel_rfl) (by simp) (AllReadyIn.cons rfl (fun K hK => ?_) AllReadyIn.nil)
          rw [if_pos (by rfl)]
          refine wpIn_loadL _ rfl g rfl _ HLX.out hr0 (hK _ _ ?_)
          clear hK K
          simp only [Act.put, List.setIfInBounds_toArray, List.set_cons_zero, List.set_cons_succ, List.getElem_toArray, List.getElem_cons_zero, List.getElem_cons_succ]
          refine wpAnyIn_ready (rs := [2]) (by kernel_rfl) (by simp) (AllReadyIn.cons rfl (fun K hK => ?_) AllReadyIn.nil)
          rw [if_pos (by rfl)]
          refine wpIn_call1 21 _ _ rfl _ rfl _ (HLL.out w4.drew) (HEN.out _ _) ?_
          rintro e w5 ⟨u, rfl, hu, hb5⟩
          refine ⟨_, rfl, hK _ _ ?_⟩
          have hb5 : Below w4.heap.size w4 w5 := (below_drewN (Below.refl _ w4) 1).trans hb5
          have hv5 := boxed_below hv4 hb5
          obtain ⟨gu, cu, rfl⟩ := fresh_some hu HL1.out
          clear hK K
          simp only [Act.put, List.setIfInBounds_toArray, List.set_cons_zero, List.set_cons_succ, List.getElem_toArray, List.getElem_cons_zero, List.getElem_cons_succ]
          refine wpAnyIn_ready (rs := [3]) (by kernel_rfl) (by simp) (AllReadyIn.cons rfl (fun K hK => ?_) AllReadyIn.nil)
          rw [if_pos (by rfl)]
          refine wpIn_buildB _ rfl _ _ _ rfl (hK _ _ ?_)
          have hv6 := hv5.alloc (.cells #[.slice (some ⟨gu, 0, none⟩) (atL c (x : Int)).length cu] 23)
          clear hK K
          simp only [Act.put, List.setIfInBounds_toArray, List.set_cons_zero, List.set_cons_succ, List.getElem_toArray, List.getElem_cons_zero, List.getElem_cons_succ]
          refine wpAnyIn_ready (rs := [4]) (by kernel_rfl) (by simp) (AllReadyIn.cons rfl (fun K hK => ?_) AllReadyIn.nil)
          rw [if_pos (by rfl)]
          refine wpIn_pushV _ _ rfl w.heap.size w4.heap.size _ v _ (ownM_below (ownM_below hom4 hb5) ((Below.refl _ _).alloc (Nat.le_refl _) _)) rfl rfl ⟨w5.heap.size, 0, none⟩ rfl _ _ (cell_new1 _ _ _) (own_mono (own_alloc hu _) hBW4) (inB_mono (inB_of_own hu) (Nat.le_refl _) (by simp)) hBW4 (by have := hb5.size; simp; omega) HPL.out ?_
          intro g7 cap7 w7 h7 hg7
          refine hK _ _ ?_
          have hv7 := collect_box (Nat.le_refl _) hB4 hv4 hom4 hb5 _ hg7
          clear hK K
          simp only [Act.put, List.setIfInBounds_toArray, List.set_cons_zero, List.set_cons_succ, List.getElem_toArray, List.getElem_cons_zero, List.getElem_cons_succ]
          refine wpAnyIn_ready (rs := [5]) (by kernel_rfl) (by simp) (AllReadyIn.cons rfl (fun K hK => ?_) AllReadyIn.nil)
          rw [if_pos (by rfl)]
          refine wpIn_storeB _ _ rfl _ v g7 _ cap7 hv7 rfl rfl (hK _ _ ?_)
          clear hK K
          simp only [Act.put, List.setIfInBounds_toArray, List.set_cons_zero, List.set_cons_succ, List.getElem_toArray, List.getElem_cons_zero, List.getElem_cons_succ]
          refine wpAnyIn_done (by kernel_rfl) ?_ _
          obtain ⟨f1, f2, f3⟩ := collect_done (G := fun pre => (pre.map fun p => atL c (p : Nat)).filter fun xs => pSize xs == k) (pre := pre) (p := x) (ys := atL c (x : Int)) c _ (Nat.le_refl _) (by omega) hB4 hv4 hom4 hb5 _ h7 hg7 HG.out
          exact ⟨(keepsFrom_below _ hb4).trans f1, kpL_t ⟨hb4.mono hBW, keepL_below hb4⟩ f2, f3, collect_boxI hk4 (by omega) hom4 hb5 _ hg7⟩
        · rw [if_pos (by rfl)]
          refine wpIn_loadL _ rfl g rfl _ HLX.out hr0 (hK _ _ ?_)
          clear hK K
          simp only [Act.put, List.setIfInBounds_toArray, List.set_cons_zero, List.set_cons_succ, List.getElem_toArray, List.getElem_cons_zero, List.getElem_cons_succ]
          refine wpAnyIn_ready (rs := [0, 2]) (by kernel_rfl) (by simp) (AllReadyIn.cons rfl (fun K hK => ?_) (AllReadyIn.cons rfl (fun K hK => ?_) AllReadyIn.nil))
          · rw [if_pos (by rfl)]
            refine wpIn_loadB _ rfl _ _ hv0 rfl (hK _ _ ?_)
            clear hK K
            simp only [Act.put, List.setIfInBounds_toArray, List.set_cons_zero, List.set_cons_succ, List.getElem_toArray, List.getElem_cons_zero, List.getElem_cons_succ]
            refine wpAnyIn_ready (rs := [2]) (by kernel_rfl) (by simp) (AllReadyIn.cons rfl (fun K hK => ?_) AllReadyIn.nil)
            rw [if_pos (by rfl)]
            refine wpIn_call1 21 _ _ rfl _ rfl _ (HLL.out w4.drew) (HEN.out _ _) ?_
            rintro e w5 ⟨u, rfl, hu, hb5⟩
            refine ⟨_, rfl, hK _ _ ?_⟩
            have hb5 : Below w4.heap.size w4 w5 := (below_drewN (Below.refl _ w4) 1).trans hb5
            have hv5 := boxed_below hv4 hb5
            obtain ⟨gu, cu, rfl⟩ := fresh_some hu HL1.out
            clear hK K
            simp only [Act.put, List.setIfInBounds_toArray, List.set_cons_zero, List.set_cons_succ, List.getElem_toArray, List.getElem_cons_zero, List.getElem_cons_succ]
            refine wpAnyIn_ready (rs := [3]) (by kernel_rfl) (by simp) (AllReadyIn.cons rfl (fun K hK => ?_) AllReadyIn.nil)
            rw [if_pos (by rfl)]
            refine wpIn_buildB _ rfl _ _ _ rfl (hK _ _ ?_)
            have hv6 := hv5.alloc (.cells #[.slice (some ⟨gu, 0, none⟩) (atL c (x : Int)).length cu] 23)
            clear hK K
            simp only [Act.put, List.setIfInBounds_toArray, List.set_cons_zero, List.set_cons_succ, List.getElem_toArray, List.getElem_cons_zero, List.getElem_cons_succ]
            refine wpAnyIn_ready (rs := [4]) (by kernel_rfl) (by simp) (AllReadyIn.cons rfl (fun K hK => ?_) AllReadyIn.nil)
            rw [if_pos (by rfl)]
            refine wpIn_pushV _ _ rfl w.heap.size w4.heap.size _ v _ (ownM_below (ownM_below hom4 hb5) ((Below.refl _ _).alloc (Nat.le_refl _) _)) rfl rfl ⟨w5.heap.size, 0, none⟩ rfl _ _ (cell_new1 _ _ _) (own_mono (own_alloc hu _) hBW4) (inB_mono (inB_of_own hu) (Nat.le_refl _) (by simp)) hBW4 (by have := hb5.size; simp; omega) HPL.out ?_
            intro g7 cap7 w7 h7 hg7
            refine hK _ _ ?_
            have hv7 := collect_box (Nat.le_refl _) hB4 hv4 hom4 hb5 _ hg7
            clear hK K
            simp only [Act.put, List.setIfInBounds_toArray, List.set_cons_zero, List.set_cons_succ, List.getElem_toArray, List.getElem_cons_zero, List.getElem_cons_succ]
            refine wpAnyIn_ready (rs := [5]) (by kernel_rfl) (by simp) (AllReadyIn.cons rfl (fun K hK => ?_) AllReadyIn.nil)
            rw [if_pos (by rfl)]
            refine wpIn_storeB _ _ rfl _ v g7 _ cap7 hv7 rfl rfl (hK _ _ ?_)
            clear hK K
            simp only [Act.put, List.setIfInBounds_toArray, List.set_cons_zero, List.set_cons_succ, List.getElem_toArray, List.getElem_cons_zero, List.getElem_cons_succ]
            refine wpAnyIn_done (by kernel_rfl) ?_ _
            obtain ⟨f1, f2, f3⟩ := collect_done (G := fun pre => (pre.map fun p => atL c (p : Nat)).filter fun xs => pSize xs == k) (pre := pre) (p := x) (ys := atL c (x : Int)) c _ (Nat.le_refl _) (by omega) hB4 hv4 hom4 hb5 _ h7 hg7 HG.out
            exact ⟨(keepsFrom_below _ hb4).trans f1, kpL_t ⟨hb4.mono hBW, keepL_below hb4⟩ f2, f3, collect_boxI hk4 (by omega) hom4 hb5 _ hg7⟩
          · rw [if_pos (by rfl)]
            refine wpIn_call1 21 _ _ rfl _ rfl _ (HLL.out w4.drew) (HEN.out _ _) ?_
            rintro e w5 ⟨u, rfl, hu, hb5⟩
            refine ⟨_, rfl, hK _ _ ?_⟩
            have hb5 : Below w4.heap.size w4 w5 := (below_drewN (Below.refl _ w4) 1).trans hb5
            have hv5 := boxed_below hv4 hb5
            obtain ⟨gu, cu, rfl⟩ := fresh_some hu HL1.out
            clear hK K
            simp only [Act.put, List.setIfInBounds_toArray, List.set_cons_zero, List.set_cons_succ, List.getElem_toArray, List.getElem_cons_zero, List.getElem_cons_succ]
            refine wpAnyIn_ready (rs := [0, 3]) (by kernel_rfl) (by simp) (AllReadyIn.cons rfl (fun K hK => ?_) (AllReadyIn.cons rfl (fun K hK => ?_) AllReadyIn.nil))
            · rw [if_pos (by rfl)]
              refine wpIn_loadB _ rfl _ _ hv5 rfl (hK _ _ ?_)
              clear hK K
              simp only [Act.put, List.setIfInBounds_toArray, List.set_cons_zero, List.set_cons_succ, List.getElem_toArray, List.getElem_cons_zero, List.getElem_cons_succ]
              refine wpAnyIn_ready (rs := [3]) (by kernel_rfl) (by simp) (AllReadyIn.cons rfl (fun K hK => ?_) AllReadyIn.nil)
              rw [if_pos (by rfl)]
              refine wpIn_buildB _ rfl _ _ _ rfl (hK _ _ ?_)
              have hv6 := hv5.alloc (.cells #[.slice (some ⟨gu, 0, none⟩) (atL c (x : Int)).length cu] 23)
              clear hK K
              simp only [Act.put, List.setIfInBounds_toArray, List.set_cons_zero, List.set_cons_succ, List.getElem_toArray, List.getElem_cons_zero, List.getElem_cons_succ]
              refine wpAnyIn_ready (rs := [4]) (by kernel_rfl) (by simp) (AllReadyIn.cons rfl (fun K hK => ?_) AllReadyIn.nil)
              rw [if_pos (by rfl)]
              refine wpIn_pushV _ _ rfl w.heap.size w4.heap.size _ v _ (ownM_below (ownM_below hom4 hb5) ((Below.refl _ _).alloc (Nat.le_refl _) _)) rfl rfl ⟨w5.heap.size, 0, none⟩ rfl _ _ (cell_new1 _ _ _) (own_mono (own_alloc hu _) hBW4) (inB_mono (inB_of_own hu) (Nat.le_refl _) (by simp)) hBW4 (by have := hb5.size; simp; omega) HPL.out ?_
              intro g7 cap7 w7 h7 hg7
              refine hK _ _ ?_
              have hv7 := collect_box (Nat.le_refl _) hB4 hv4 hom4 hb5 _ hg7
              clear hK K
              simp only [Act.put, List.setIfInBounds_toArray, List.set_cons_zero, List.set_cons_succ, List.getElem_toArray, List.getElem_cons_zero, List.getElem_cons_succ]
              refine wpAnyIn_ready (rs := [5]) (by kernel_rfl) (by simp) (AllReadyIn.cons rfl (fun K hK => ?_) AllReadyIn.nil)
              rw [if_pos (by rfl)]
              refine wpIn_storeB _ _ rfl _ v g7 _ cap7 hv7 rfl rfl (hK _ _ ?_)
              clear hK K
              simp only [Act.put, List.setIfInBounds_toArray, List.set_cons_zero, List.set_cons_succ, List.getElem_toArray, List.getElem_cons_zero, List.getElem_cons_succ]
              refine wpAnyIn_done (by kernel_rfl) ?_ _
              obtain ⟨f1, f2, f3⟩ := collect_done (G := fun pre => (pre.map fun p => atL c (p : Nat)).filter fun xs => pSize xs == k) (pre := pre) (p := x) (ys := atL c (x : Int)) c _ (Nat.le_refl _) (by omega) hB4 hv4 hom4 hb5 _ h7 hg7 HG.out
              exact ⟨(keepsFrom_below _ hb4).trans f1, kpL_t ⟨hb4.mono hBW, keepL_below hb4⟩ f2, f3, collect_boxI hk4 (by omega) hom4 hb5 _ hg7⟩
            · rw [if_pos (by rfl)]
              refine wpIn_buildB _ rfl _ _ _ rfl (hK _ _ ?_)
              have hv6 := hv5.alloc (.cells #[.slice (some ⟨gu, 0, none⟩) (atL c (x : Int)).length cu] 23)
              clear hK K
              simp only [Act.put, List.setIfInBounds_toArray, List.set_cons_zero, List.set_cons_succ, List.getElem_toArray, List.getElem_cons_zero, List.getElem_cons_succ]
              refine wpAnyIn_ready (rs := [0]) (by kernel_rfl) (by simp) (AllReadyIn.cons rfl (fun K hK => ?_) AllReadyIn.nil)
              rw [if_pos (by rfl)]
              refine wpIn_loadB _ rfl _ _ hv6 rfl (hK _ _ ?_)
              clear hK K
              simp only [Act.put, List.setIfInBounds_toArray, List.set_cons_zero, List.set_cons_succ, List.getElem_toArray, List.getElem_cons_zero, List.getElem_cons_succ]
              refine wpAnyIn_ready (rs := [4]) (by kernel_rfl) (by simp) (AllReadyIn.cons rfl (fun K hK => ?_) AllReadyIn.nil)
              rw [if_pos (by rfl)]
              refine wpIn_pushV _ _ rfl w.heap.size w4.heap.size _ v _ (ownM_below (ownM_below hom4 hb5) ((Below.refl _ _).alloc (Nat.le_refl _) _)) rfl rfl ⟨w5.heap.size, 0, none⟩ rfl _ _ (cell_new1 _ _ _) (own_mono (own_alloc hu _) hBW4) (inB_mono (inB_of_own hu) (Nat.le_refl _) (by simp)) hBW4 (by have := hb5.size; simp; omega) HPL.out ?_
              intro g7 cap7 w7 h7 hg7
              refine hK _ _ ?_
              have hv7 := collect_box (Nat.le_refl _) hB4 hv4 hom4 hb5 _ hg7
              clear hK K
              simp only [Act.put, List.setIfInBounds_toArray, List.set_cons_zero, List.set_cons_succ, List.getElem_toArray, List.getElem_cons_zero, List.getElem_cons_succ]
              refine wpAnyIn_ready (rs := [5]) (by kernel_rfl) (by simp) (AllReadyIn.cons rfl (fun K hK => ?_) AllReadyIn.nil)
              rw [if_pos (by rfl)]
              refine wpIn_storeB _ _ rfl _ v g7 _ cap7 hv7 rfl rfl (hK _ _ ?_)
              clear hK K
              simp only [Act.put, List.setIfInBounds_toArray, List.set_cons_zero, List.set_cons_succ, List.getElem_toArray, List.getElem_cons_zero, List.getElem_cons_succ]
              refine wpAnyIn_done (by kernel_rfl) ?_ _
              obtain ⟨f1, f2, f3⟩ := collect_done (G := fun pre => (pre.map fun p => atL c (p : Nat)).filter fun xs => pSize xs == k) (pre := pre) (p := x) (ys := atL c (x : Int)) c _ (Nat.le_refl _) (by omega) hB4 hv4 hom4 hb5 _ h7 hg7 HG.out
              exact ⟨(keepsFrom_below _ hb4).trans f1, kpL_t ⟨hb4.mono hBW, keepL_below hb4⟩ f2, f3, collect_boxI hk4 (by omega) hom4 hb5 _ hg7⟩
    · have hzk : (z == k) = false := by simpa using hzk
      rw [hzk, if_neg (by decide), List.append_nil] at hfs
      have HG := Lib.hid hfs
      clear hfs hz
      gi_wp2
      refine wpIn_region_any (by kernel_rfl) ?_
      change wpAnyIn _ _ _ _ _ _ _ _ _ (World.drew _)
      refine wpAnyIn_ready (rs := [0, 2]) (by kernel_rfl) (by simp) (AllReadyIn.cons rfl (fun K hK => ?_) (AllReadyIn.cons rfl (fun K hK => ?_) AllReadyIn.nil))
      · rw [if_pos (by rfl)]
        refine wpIn_loadL _ rfl g rfl _ HLX.out hr0 (hK _ _ ?_)
        clear hK K
        simp only [Act.put, List.setIfInBounds_toArray, List.set_cons_zero, List.set_cons_succ, List.getElem_toArray, List.getElem_cons_zero, List.getElem_cons_succ]
        refine wpAnyIn_ready (rs := [1, 2]) (by kernel_rfl) (by simp) (AllReadyIn.cons rfl (fun K hK => ?_) (AllReadyIn.cons rfl (fun K hK => ?_) AllReadyIn.nil))
        · rw [if_pos (by rfl)]
          refine wpIn_call1 20 _ _ rfl _ rfl _ (HBC.out W.drew) (HEB.out _ _) ?_
          rintro e w4 ⟨rfl, hb4⟩
          refine ⟨_, rfl, hK _ _ ?_⟩
          have hb4 : Below W.heap.size W w4 := (below_drewN (Below.refl _ W) 1).trans hb4
          have hk4 := boxed_below hbk hb4
          clear hK K
          simp only [Act.put, List.setIfInBounds_toArray, List.set_cons_zero, List.set_cons_succ, List.getElem_toArray, List.getElem_cons_zero, List.getElem_cons_succ]
          refine wpAnyIn_ready (rs := [2]) (by kernel_rfl) (by simp) (AllReadyIn.cons rfl (fun K hK => ?_) AllReadyIn.nil)
          rw [if_pos (by rfl)]
          refine wpIn_loadI _ rfl _ k hk4 rfl (hK _ _ ?_)
          clear hK K
          simp only [Act.put, List.setIfInBounds_toArray, List.set_cons_zero, List.set_cons_succ, List.getElem_toArray, List.getElem_cons_zero, List.getElem_cons_succ]
          refine wpAnyIn_ready (rs := [3]) (by kernel_rfl) (by simp) (AllReadyIn.cons rfl (fun K hK => ?_) AllReadyIn.nil)
          rw [if_pos (by rfl)]
          refine wpIn_eqlI _ _ _ _ rfl z k rfl rfl (hK _ _ ?_)
          rw [hzk]
          clear hK K
          simp only [Act.put, List.setIfInBounds_toArray, List.set_cons_zero, List.set_cons_succ, List.getElem_toArray, List.getElem_cons_zero, List.getElem_cons_succ]
          refine wpAnyIn_done (by kernel_rfl) ?_ _
          gi_wp2
          exact ⟨keepsFrom_below _ hb4, ⟨hb4.mono hBW, keepL_below hb4⟩, ⟨holdsL_same (holdsL_below (Nat.le_refl _) (show HoldsL c w.heap.size (w.heap.size + 1) w (fun pre => (pre.map fun p => atL c (p : Nat)).filter fun xs => pSize xs == k) pre W from ⟨⟨v, hv, hom⟩, hB⟩) hb4) HG.out, hk4⟩⟩
        · rw [if_pos (by rfl)]
          refine wpIn_loadI _ rfl _ k hk0 rfl (hK _ _ ?_)
          clear hK K
          simp only [Act.put, List.setIfInBounds_toArray, List.set_cons_zero, List.set_cons_succ, List.getElem_toArray, List.getElem_cons_zero, List.getElem_cons_succ]
          refine wpAnyIn_ready (rs := [1]) (by kernel_rfl) (by simp) (AllReadyIn.cons rfl (fun K hK => ?_) AllReadyIn.nil)
          rw [if_pos (by rfl)]
          refine wpIn_call1 20 _ _ rfl _ rfl _ (HBC.out W.drew) (HEB.out _ _) ?_
          rintro e w4 ⟨rfl, hb4⟩
          refine ⟨_, rfl, hK _ _ ?_⟩
          have hb4 : Below W.heap.size W w4 := (below_drewN (Below.refl _ W) 1).trans hb4
          have hk4 := boxed_below hbk hb4
          clear hK K
          simp only [Act.put, List.setIfInBounds_toArray, List.set_cons_zero, List.set_cons_succ, List.getElem_toArray, List.getElem_cons_zero, List.getElem_cons_succ]
          refine wpAnyIn_ready (rs := [3]) (by kernel_rfl) (by simp) (AllReadyIn.cons rfl (fun K hK => ?_) AllReadyIn.nil)
          rw [if_pos (by rfl)]
          refine wpIn_eqlI _ _ _ _ rfl z k rfl rfl (hK _ _ ?_)
          rw [hzk]
          clear hK K
          simp only [Act.put, List.setIfInBounds_toArray, List.set_cons_zero, List.set_cons_succ, List.getElem_toArray, List.getElem_cons_zero, List.getElem_cons_succ]
          refine wpAnyIn_done (by kernel_rfl) ?_ _
          gi_wp2
          exact ⟨keepsFrom_below _ hb4, ⟨hb4.mono hBW, keepL_below hb4⟩, ⟨holdsL_same (holdsL_below (Nat.le_refl _) (show HoldsL c w.heap.size (w.heap.size + 1) w (fun pre => (pre.map fun p => atL c (p : Nat)).filter fun xs => pSize xs == k) pre W from ⟨⟨v, hv, hom⟩, hB⟩) hb4) HG.out, hk4⟩⟩
      · rw [if_pos (by rfl)]
        refine wpIn_loadI _ rfl _ k hk0 rfl (hK _ _ ?_)
        clear hK K
        simp only [Act.put, List.setIfInBounds_toArray, List.set_cons_zero, List.set_cons_succ, List.getElem_toArray, List.getElem_cons_zero, List.getElem_cons_succ]
        refine wpAnyIn_ready (rs := [0]) (by kernel_rfl) (by simp) (AllReadyIn.cons rfl (fun K hK => ?_) AllReadyIn.nil)
        rw [if_pos (by rfl)]
        refine wpIn_loadL _ rfl g rfl _ HLX.out hr0 (hK _ _ ?_)
        clear hK K
        simp only [Act.put, List.setIfInBounds_toArray, List.set_cons_zero, List.set_cons_succ, List.getElem_toArray, List.getElem_cons_zero, List.getElem_cons_succ]
        refine wpAnyIn_ready (rs := [1]) (by kernel_rfl) (by simp) (AllReadyIn.cons rfl (fun K hK => ?_) AllReadyIn.nil)
        rw [if_pos (by rfl)]
        refine wpIn_call1 20 _ _ rfl _ rfl _ (HBC.out W.drew) (HEB.out _ _) ?_
        rintro e w4 ⟨rfl, hb4⟩
        refine ⟨_, rfl, hK _ _ ?_⟩
        have hb4 : Below W.heap.size W w4 := (below_drewN (Below.refl _ W) 1).trans hb4
        have hk4 := boxed_below hbk hb4
        clear hK K
        simp only [Act.put, List.setIfInBounds_toArray, List.set_cons_zero, List.set_cons_succ, List.getElem_toArray, List.getElem_cons_zero, List.getElem_cons_succ]
        refine wpAnyIn_ready (rs := [3]) (by kernel_rfl) (by simp) (AllReadyIn.cons rfl (fun K hK => ?_) AllReadyIn.nil)
        rw [if_pos (by rfl)]
        refine wpIn_eqlI _ _ _ _ rfl z k rfl rfl (hK _ _ ?_)
        rw [hzk]
        clear hK K
        simp only [Act.put, List.setIfInBounds_toArray, List.set_cons_zero, List.set_cons_succ, List.getElem_toArray, List.getElem_cons_zero, List.getElem_cons_succ]
        refine wpAnyIn_done (by kernel_rfl) ?_ _
        gi_wp2
        exact ⟨keepsFrom_below _ hb4, ⟨hb4.mono hBW, keepL_below hb4⟩, ⟨holdsL_same (holdsL_below (Nat.le_refl _) (show HoldsL c w.heap.size (w.heap.size + 1) w (fun pre => (pre.map fun p => atL c (p : Nat)).filter fun xs => pSize xs == k) pre W from ⟨⟨v, hv, hom⟩, hB⟩) hb4) HG.out, hk4⟩⟩
  case done =>
    rintro D ys W hD rfl ⟨⟨⟨v, hv, hom⟩, hB⟩, hbk⟩ hK
    have hc := hv.cell
    gi_wp2
    refine ⟨by simp, .inl ⟨_, _, rfl, run_takeDeferred hK, ?_⟩⟩
    exact ⟨_, results_tmp2 rfl _ _ _, v, rfl, ownM_mono (ownM_putObj hom _ hK rfl) (Nat.le_refl _) (by simp), hB.trans (belowK_b (w := w) (Nat.le_refl _) W D _ _ (by simp at hD; omega) hK rfl rfl)⟩
  case stop =>
    rintro D c pre W _ _ h _
    exact h.elim


theorem iListBlocks_v (a b : Int) (w : World) (_ : (Lit.int .i64 a).wf = true) (_ : (Lit.int .i64 b).wf = true) : Calls Try.prog 8 #[.int .i64 a, .int .i64 b] w (FreshMB w (listBlocks a b)) := by
  by_cases h : 1 ≤ a ∧ a ≤ 7
  · by_cases h2 : 1 ≤ b ∧ b ≤ 7
    · have hr : listBlocks a b = ((allL a.toNat).filter fun xs => pSize xs == b, true) := by unfold listBlocks; rw [if_pos ⟨h, h2⟩]
      rw [hr]
      obtain ⟨c, rfl⟩ : ∃ c : Nat, a = c := ⟨a.toNat, by omega⟩
      rw [Int.toNat_natCast]
      exact callsIn_wide.1 (listBlocks_in 6 (by omega) c b w (by omega) (by omega) h2)
    · have hr : listBlocks a b = ([], false) := by unfold listBlocks; rw [if_neg (fun x => h2 x.2)]
      rw [hr]
      have HI := Lib.hid fun (w1 : World) => isListed_is true a w1 (by simpa using h)
      have HJ := Lib.hid fun (w1 : World) => isListed_is false b w1 (by simpa using h2)
      clear hr h h2
      go_enter Try.func8, Try.ntmps8
      go_wp2_with fail
      refine (HI.out _).mono ?_
      rintro e w' ⟨rfl, rfl⟩
      go_wp2_with fail
      refine (HJ.out _).mono ?_
      rintro e w' ⟨rfl, rfl⟩
      go_wp2
      go_ret2
      exact ⟨_, rfl, ownM_nil _ _ _, (Below.refl _ _).alloc (Nat.le_refl _) _⟩
  · have hr : listBlocks a b = ([], false) := by unfold listBlocks; rw [if_neg (fun x => h x.1)]
    rw [hr]
    have HI := Lib.hid fun (w1 : World) => isListed_is false a w1 (by simpa using h)
    clear hr h
    go_enter Try.func8, Try.ntmps8
    go_wp2_with fail
    refine (HI.out _).mono ?_
    rintro e w' ⟨rfl, rfl⟩
    go_wp2
    go_ret2
    exact ⟨_, rfl, ownM_nil _ _ _, (Below.refl _ _).alloc (Nat.le_refl _) _⟩

end Go.Proofs.Ytdeeeiimlcggpaa
