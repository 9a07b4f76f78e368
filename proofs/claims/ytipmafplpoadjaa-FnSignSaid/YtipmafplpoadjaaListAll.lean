/-
  The contracts of impl.ListAll and impl.ListBlocks: a range over a function.
-/
import Derived.Test.YtipmafplpoadjaaMatIn
import Derived.Test.YtipmafplpoadjaaLists
namespace Go.Proofs.Ytipmafplpoadjaa
set_option linter.unusedSimpArgs false
set_option linter.unusedVariables false
set_option linter.unnecessarySimpa false
open Go.RowKit Go.Shelf
set_option maxRecDepth 100000

attribute [local go_sem] Oper.semAt_some

def listAll (n : Int) : List (List Int) × Bool := if 1 ≤ n ∧ n ≤ 7 then (allL n.toNat, true) else ([], false)
def listBlocks (n k : Int) : List (List Int) × Bool := if (1 ≤ n ∧ n ≤ 7) ∧ 1 ≤ k ∧ k ≤ 7 then ((allL n.toNat).filter fun xs => pSize xs == k, true) else ([], false)

theorem total_rows (m : Nat) : ∀ l : List (List Int), (∀ r ∈ l, r.length ≤ m) → total l ≤ m * l.length := by
  intro l
  induction l with
  | nil => intro _; simp [total]
  | cons x l ih =>
    intro h
    have h1 := h x (by simp)
    have h2 := ih fun r hr => h r (by simp [hr])
    rw [total_cons, List.length_cons, Nat.mul_add]
    omega

theorem allL_rows (n : Nat) : ∀ r ∈ allL n, r.length ≤ n := fun r hr => by
  simp only [allL, List.mem_map] at hr
  obtain ⟨p, _, rfl⟩ := hr
  rw [atL_length]
  exact Nat.le_refl _

theorem listAll_len (a : Int) : (listAll a).1.length ≤ 1000000 ∧ total (listAll a).1 ≤ 1000000 := by
  unfold listAll
  split
  · have h1 := opn_bd a.toNat 0 (by omega) (by omega)
    have h2 := allL_length a.toNat
    have h3 := total_rows 7 (allL a.toNat) (fun r hr => by have := allL_rows a.toNat r hr; omega)
    dsimp only
    omega
  · simp [total]

theorem listBlocks_len (a b : Int) : (listBlocks a b).1.length ≤ 1000000 ∧ total (listBlocks a b).1 ≤ 1000000 := by
  unfold listBlocks
  split
  · have h1 := opn_bd a.toNat 0 (by omega) (by omega)
    have h2 := allL_length a.toNat
    have h4 := List.length_filter_le (fun xs => pSize xs == b) (allL a.toNat)
    have h3 := total_rows 7 ((allL a.toNat).filter fun xs => pSize xs == b) (fun r hr => by have := allL_rows a.toNat r (List.mem_filter.1 hr).1; omega)
    dsimp only
    omega
  · simp [total]

theorem isListed_is (b : Bool) (n : Int) (w : World) (h : decide (1 ≤ n ∧ n ≤ 7) = b) : Calls Try.prog 42 #[.int .i64 n] w fun e w' => e = .returned (.bool b) ∧ w = w' := by
  subst h
  exact isListed_any n w

theorem fresh_some {w : World} {B : Nat} {u : Value} {xs : List Int} (h : Own w B u xs) (h1 : 1 ≤ xs.length) : ∃ g cap, u = .slice (some ⟨g, 0, none⟩) xs.length cap := by
  rcases own_view h with ⟨_, rfl⟩ | ⟨g, cap, rfl, _⟩
  · simp at h1
  · exact ⟨g, cap, rfl⟩

set_option maxHeartbeats 3200000 in
theorem listAll_in (n : Nat) (hn : 3 ≤ n) (c : Nat) (w : World) (hc1 : 1 ≤ c) (hc7 : c ≤ 7) :
    CallsIn Fence.wide n Try.prog 13 #[.int .i64 c] w (FreshMB w (allL c, true)) := by
  have h1 : 1 ≤ n := by omega
  obtain ⟨i0, hi, hz0, hz1, hz2⟩ := info_parts Try.infoInts
  have HI := Lib.hid fun (w1 : World) => isListed_is true (c : Int) w1 (by simp; omega)
  have hob := opn_bd c 0 (by omega) (by omega)
  obtain ⟨T, hT⟩ : ∃ T : Nat, T = (opn c 0).toNat := ⟨_, rfl⟩
  have hTi : opn c 0 = (T : Int) := by omega
  have hT1 : 1 ≤ T := by omega
  have hT2 : T ≤ 4140 := by omega
  have he := fun (w1 : World) => endings_any c (c : Int) 0 w1 rfl (by omega) (by omega)
  rw [hTi] at he
  have HE := Lib.hid he
  clear he hTi hT hob
  refine callsIn_of_wp_marks Try.func13 rfl trivial ?_ rfl
  simp only [Try.ntmps13, List.size_toArray, List.length_cons, List.length_nil, Nat.reduceAdd, Nat.reduceSub, Array.replicate_succ, Array.replicate_zero, List.push_toArray, List.append_toArray, List.nil_append, List.cons_append]
  gi_wp2_with (first | (gi_at_make; refine wpListIn_make_own _ rfl _ _ 28 rfl w.heap.size 23 i0 (.slice none 0 0) 1 Try.underlying28 hi hz0 hz1 _ _ _ T rfl rfl rfl (by rw [hz2]; omega) (by unfold maxLen; omega) (Nat.le_refl _) ?_; intro w1 hown1 hgrow1) | (refine ⟨trivial, ?_⟩; gi_at_call 42; refine (callsIn_wide.2 (HI.out _)).mono ?_; rintro e w' ⟨rfl, rfl⟩) | (refine ⟨trivial, ?_⟩; gi_at_call 43; refine (callsIn_wide.2 (HE.out _)).mono ?_; rintro e w' ⟨rfl, rfl⟩))
  have hs1 : w.heap.size < w1.heap.size := by
    have := World.ownsRow.lt hown1 w.heap.size rfl
    omega
  have hb1 : Below w.heap.size w w1 := (Below.refl _ _).grown hgrow1 (Nat.le_refl _) (fun k h => by cases h)
  clear hgrow1
  gi_wp2_with (refine ⟨trivial, ?_⟩; gi_at_call 44; refine (linesOf_in _ _ _).mono ?_; rintro e w' ⟨rfl, rfl⟩)
  have bO := Boxed.new w1 28 (.slice (some ⟨w.heap.size, 0, none⟩) 0 T)
  obtain ⟨W2, hW2⟩ : ∃ W2, W2 = w1.alloc (.cells #[.slice (some ⟨w.heap.size, 0, none⟩) 0 T] 28) := ⟨_, rfl⟩
  have hsz2 : W2.heap.size = w1.heap.size + 1 := by rw [hW2]; simp
  have hB2 : Below w.heap.size w W2 := by rw [hW2]; exact hb1.alloc hb1.size _
  have hown2 : OwnM W2 w.heap.size W2.heap.size (.slice (some ⟨w.heap.size, 0, none⟩) 0 T) [] := by
    refine ⟨[], rfl, ?_, fun k hk => by simp [Value.ownBlock] at hk; omega, fun i hi => by simp at hi, fun i j _ hj => by simp at hj⟩
    rw [hW2]
    exact hown1.alloc _
  rw [← hW2] at bO ⊢
  have bN := Boxed.new W2 3 (.int .i64 c)
  rw [hsz2] at bN
  have hI0 : HoldsL c w.heap.size w1.heap.size w (fun pre => pre.map fun p => atL c (p : Nat)) [] W2 := ⟨⟨_, bO, hown2⟩, hB2⟩
  have hI1 := holdsL_below (Nat.le_refl _) hI0 ((Below.refl W2.heap.size W2).alloc (Nat.le_refl _) (.cells #[.int .i64 c] 3))
  clear hW2 hown1 hb1 hown2 bO hI0
  refine wpIn_rangeFunc_ownH rfl h1 (gf := 78) (lb := #[.pointer (some ⟨w1.heap.size + 1, 0, none⟩)]) rfl trivial (enters_of Try.func78 (by kernel_rfl) rfl)
    (lines_stops (n - 1) (by omega) (w1.heap.size + 1) w.heap.size c hc1 (by omega) _ (by simp; omega) bN.cell) kpL_t (kpL_b (by simp; omega)) (Below.refl _ _) (fun _ => rfl)
    (HoldsL c w.heap.size w1.heap.size w (fun pre => pre.map fun p => atL c (p : Nat)))
    (fun _ _ _ => False)
    (holdsL_own _ _ _ _ _ _ (Nat.le_refl _) (by simp; omega))
    (fun _ _ _ _ _ hs _ _ => hs)
    hI1
    (fun x a' W => ∃ g, a' = { tmps := #[.int .i64 c, undef, .slice none 0 0, .bool false, .pointer (some ⟨w1.heap.size, 0, none⟩), .pointer (some ⟨g, 0, none⟩), .int .i64 c, .bool true, .bool false, .int .i64 c, .int .i64 T, .slice (some ⟨w.heap.size, 0, none⟩) 0 T, .int .i64 c, .func (.func 78) #[] #[.pointer (some ⟨w1.heap.size + 1, 0, none⟩)], .agg (rowC (ln (atL c (x : Int)))), undef, undef, undef, undef, undef, undef], defers := [] } ∧ RowAt W g (ln (atL c (x : Int))) ∧ w.heap.size ≤ g)
    (fun x a' => fun s A C row ⟨g, e, hr, hg⟩ hgr hrow => ⟨g, e, rowAt_ownFrom (β := Unit) 0 _ g _ s A C row hr hgr hrow, hg⟩) ?assign ?body ?done ?stop
  case assign =>
    intro l pre x W K hI hK
    have hz : RowAt (W.alloc (.cells #[.int .i64 0, .int .i64 0, .int .i64 0, .int .i64 0, .int .i64 0, .int .i64 0, .int .i64 0, .int .i64 0] 55)) W.heap.size (List.replicate 8 0) := heap_alloc_new W _
    have HZ := Lib.hid hz
    have HLX := Lib.hid (ln_length (xs := atL c (x : Int)) (by rw [atL_length]; omega))
    have HB := Lib.hid ((Below.refl W.heap.size W).alloc (Nat.le_refl _) (.cells #[.int .i64 0, .int .i64 0, .int .i64 0, .int .i64 0, .int .i64 0, .int .i64 0, .int .i64 0, .int .i64 0] 55))
    have hBW := hI.2.size
    have HI := Lib.hid hI
    clear hz hI
    gi_wp2_with (first | (refine wpListIn_storeL rfl _ _ rfl W.heap.size _ rfl rfl (List.replicate 8 0) rfl HLX.out HZ.out ?_; intro w3 hg3 ht3; have HG3 := Lib.hid hg3; have HB3 := Lib.hid (HB.out.trans (touch_below ht3 (Nat.le_refl _))); clear hg3 ht3))
    exact hK _ _ (keepsFrom_below _ HB3.out) ⟨HB3.out.mono hBW, keepL_below HB3.out⟩ (holdsL_below (Nat.le_refl _) HI.out HB3.out) ⟨W.heap.size, rfl, HG3.out, hBW⟩
  case body =>
    rintro l pre x a' W hl hloop ⟨⟨v, hv, hom⟩, hB⟩ ⟨g, rfl, hr, hg⟩ hlt
    have hBW := hB.size
    have HLX := Lib.hid (ln_length (xs := atL c (x : Int)) (by rw [atL_length]; omega))
    have HL1 := Lib.hid (show 1 ≤ (atL c (x : Int)).length by rw [atL_length]; exact hc1)
    have HLL := Lib.hid fun (w5 : World) => lineList_f (atL c (x : Int)) w5 (atL_partIn_any c x hc1 (by omega))
    have HEN := Lib.hid (enters_of Try.func45 (by kernel_rfl) rfl)
    have HPL := Lib.hid (show (pre.map fun p => atL c (p : Nat)).length ≤ 1000000000 by
      have := opn_bd c 0 (by omega) (by omega)
      rw [List.length_map]
      omega)
    have HG := Lib.hid (show ((pre ++ [x]).map fun p => atL c (p : Nat)) = (pre.map fun p => atL c (p : Nat)) ++ [atL c (x : Nat)] by simp)
    have hv0 : Boxed W.drew w1.heap.size 28 v := hv
    have hr0 : RowAt W.drew g (ln (atL c (x : Int))) := hr
    gi_wp2
    refine wpIn_region_any (by kernel_rfl) ?_
    change wpAnyIn _ _ _ _ _ _ _ _ _ (World.drew _)
    refine wpAnyIn_ready (rs := [0, 1]) (by kernel_rfl) (by simp) (AllReadyIn.cons rfl (fun K hK => ?_) (AllReadyIn.cons rfl (fun K hK => ?_) AllReadyIn.nil))
    · rw [if_pos (by rfl)]
      refine wpIn_loadB _ rfl _ _ hv0 rfl (hK _ _ ?_)
      clear hK K
      simp only [Act.put, List.setIfInBounds_toArray, List.set_cons_zero, List.set_cons_succ, List.getElem_toArray, List.getElem_cons_zero, List.getElem_cons_succ]
      refine wpAnyIn_ready (rs := [1]) (by kernel_rfl) (by simp) (AllReadyIn.cons rfl (fun K hK => ?_) AllReadyIn.nil)
      rw [if_pos (by rfl)]
      refine wpIn_loadL _ rfl g rfl _ HLX.out hr0 (hK _ _ ?_)
      clear hK K
      simp only [Act.put, List.setIfInBounds_toArray, List.set_cons_zero, List.set_cons_succ, List.getElem_toArray, List.getElem_cons_zero, List.getElem_cons_succ]
      refine wpAnyIn_ready (rs := [2]) (by kernel_rfl) (by simp) (AllReadyIn.cons rfl (fun K hK => ?_) AllReadyIn.nil)
      rw [if_pos (by rfl)]
      refine wpIn_call1 45 _ _ rfl _ rfl _ (HLL.out W.drew) (HEN.out _ _) ?_
      rintro e w5 ⟨u, rfl, hu, hb5⟩
      refine ⟨_, rfl, hK _ _ ?_⟩
      have hb5 : Below W.heap.size W w5 := (below_drewN (Below.refl _ W) 1).trans hb5
      have hv5 := boxed_below hv hb5
      obtain ⟨gu, cu, rfl⟩ := fresh_some hu HL1.out
      clear hK K
      simp only [Act.put, List.setIfInBounds_toArray, List.set_cons_zero, List.set_cons_succ, List.getElem_toArray, List.getElem_cons_zero, List.getElem_cons_succ]
      refine wpAnyIn_ready (rs := [3]) (by kernel_rfl) (by simp) (AllReadyIn.cons rfl (fun K hK => ?_) AllReadyIn.nil)
      rw [if_pos (by rfl)]
      refine wpIn_buildB _ rfl _ _ _ rfl (hK _ _ ?_)
      have hv6 := hv5.alloc (.cells #[.slice (some ⟨gu, 0, none⟩) (atL c (x : Int)).length cu] 23)
      clear hK K
      simp only [Act.put, List.setIfInBounds_toArray, List.set_cons_zero, List.set_cons_succ, List.getElem_toArray, List.getElem_cons_zero, List.getElem_cons_succ]
      refine wpAnyIn_ready (rs := [4]) (by kernel_rfl) (by simp) (AllReadyIn.cons rfl (fun K hK => ?_) AllReadyIn.nil)
      rw [if_pos (by rfl)]
      refine wpIn_pushV _ _ rfl w.heap.size W.heap.size _ v _ (ownM_below (ownM_below hom hb5) ((Below.refl _ _).alloc (Nat.le_refl _) _)) rfl rfl ⟨w5.heap.size, 0, none⟩ rfl _ _ (cell_new1 _ _ _) (own_mono (own_alloc hu _) hBW) (inB_mono (inB_of_own hu) (Nat.le_refl _) (by simp)) hBW (by have := hb5.size; simp; omega) HPL.out ?_
      intro g7 cap7 w7 h7 hg7
      refine hK _ _ ?_
      have hv7 := collect_box (Nat.le_refl _) hB hv hom hb5 _ hg7
      clear hK K
      simp only [Act.put, List.setIfInBounds_toArray, List.set_cons_zero, List.set_cons_succ, List.getElem_toArray, List.getElem_cons_zero, List.getElem_cons_succ]
      refine wpAnyIn_ready (rs := [5]) (by kernel_rfl) (by simp) (AllReadyIn.cons rfl (fun K hK => ?_) AllReadyIn.nil)
      rw [if_pos (by rfl)]
      refine wpIn_storeB _ _ rfl _ v g7 _ cap7 hv7 rfl rfl (hK _ _ ?_)
      clear hK K
      simp only [Act.put, List.setIfInBounds_toArray, List.set_cons_zero, List.set_cons_succ, List.getElem_toArray, List.getElem_cons_zero, List.getElem_cons_succ]
      refine wpAnyIn_done (by kernel_rfl) ?_ _
      exact collect_done c _ (Nat.le_refl _) (by omega) hB hv hom hb5 _ h7 hg7 HG.out
    · rw [if_pos (by rfl)]
      refine wpIn_loadL _ rfl g rfl _ HLX.out hr0 (hK _ _ ?_)
      clear hK K
      simp only [Act.put, List.setIfInBounds_toArray, List.set_cons_zero, List.set_cons_succ, List.getElem_toArray, List.getElem_cons_zero, List.getElem_cons_succ]
      refine wpAnyIn_ready (rs := [0, 2]) (by kernel_rfl) (by simp) (AllReadyIn.cons rfl (fun K hK => ?_) (AllReadyIn.cons rfl (fun K hK => ?_) AllReadyIn.nil))
      · rw [if_pos (by rfl)]
        refine wpIn_loadB _ rfl _ _ hv0 rfl (hK _ _ ?_)
        clear hK K
        simp only [Act.put, List.setIfInBounds_toArray, List.set_cons_zero, List.set_cons_succ, List.getElem_toArray, List.getElem_cons_zero, List.getElem_cons_succ]
        refine wpAnyIn_ready (rs := [2]) (by kernel_rfl) (by simp) (AllReadyIn.cons rfl (fun K hK => ?_) AllReadyIn.nil)
        rw [if_pos (by rfl)]
        refine wpIn_call1 45 _ _ rfl _ rfl _ (HLL.out W.drew) (HEN.out _ _) ?_
        rintro e w5 ⟨u, rfl, hu, hb5⟩
        refine ⟨_, rfl, hK _ _ ?_⟩
        have hb5 : Below W.heap.size W w5 := (below_drewN (Below.refl _ W) 1).trans hb5
        have hv5 := boxed_below hv hb5
        obtain ⟨gu, cu, rfl⟩ := fresh_some hu HL1.out
        clear hK K
        simp only [Act.put, List.setIfInBounds_toArray, List.set_cons_zero, List.set_cons_succ, List.getElem_toArray, List.getElem_cons_zero, List.getElem_cons_succ]
        refine wpAnyIn_ready (rs := [3]) (by kernel_rfl) (by simp) (AllReadyIn.cons rfl (fun K hK => ?_) AllReadyIn.nil)
        rw [if_pos (by rfl)]
        refine wpIn_buildB _ rfl _ _ _ rfl (hK _ _ ?_)
        have hv6 := hv5.alloc (.cells #[.slice (some ⟨gu, 0, none⟩) (atL c (x : Int)).length cu] 23)
        clear hK K
        simp only [Act.put, List.setIfInBounds_toArray, List.set_cons_zero, List.set_cons_succ, List.getElem_toArray, List.getElem_cons_zero, List.getElem_cons_succ]
        refine wpAnyIn_ready (rs := [4]) (by kernel_rfl) (by simp) (AllReadyIn.cons rfl (fun K hK => ?_) AllReadyIn.nil)
        rw [if_pos (by rfl)]
        refine wpIn_pushV _ _ rfl w.heap.size W.heap.size _ v _ (ownM_below (ownM_below hom hb5) ((Below.refl _ _).alloc (Nat.le_refl _) _)) rfl rfl ⟨w5.heap.size, 0, none⟩ rfl _ _ (cell_new1 _ _ _) (own_mono (own_alloc hu _) hBW) (inB_mono (inB_of_own hu) (Nat.le_refl _) (by simp)) hBW (by have := hb5.size; simp; omega) HPL.out ?_
        intro g7 cap7 w7 h7 hg7
        refine hK _ _ ?_
        have hv7 := collect_box (Nat.le_refl _) hB hv hom hb5 _ hg7
        clear hK K
        simp only [Act.put, List.setIfInBounds_toArray, List.set_cons_zero, List.set_cons_succ, List.getElem_toArray, List.getElem_cons_zero, List.getElem_cons_succ]
        refine wpAnyIn_ready (rs := [5]) (by kernel_rfl) (by simp) (AllReadyIn.cons rfl (fun K hK => ?_) AllReadyIn.nil)
        rw [if_pos (by rfl)]
        refine wpIn_storeB _ _ rfl _ v g7 _ cap7 hv7 rfl rfl (hK _ _ ?_)
        clear hK K
        simp only [Act.put, List.setIfInBounds_toArray, List.set_cons_zero, List.set_cons_succ, List.getElem_toArray, List.getElem_cons_zero, List.getElem_cons_succ]
        refine wpAnyIn_done (by kernel_rfl) ?_ _
        exact collect_done c _ (Nat.le_refl _) (by omega) hB hv hom hb5 _ h7 hg7 HG.out
      · rw [if_pos (by rfl)]
        refine wpIn_call1 45 _ _ rfl _ rfl _ (HLL.out W.drew) (HEN.out _ _) ?_
        rintro e w5 ⟨u, rfl, hu, hb5⟩
        refine ⟨_, rfl, hK _ _ ?_⟩
        have hb5 : Below W.heap.size W w5 := (below_drewN (Below.refl _ W) 1).trans hb5
        have hv5 := boxed_below hv hb5
        obtain ⟨gu, cu, rfl⟩ := fresh_some hu HL1.out
        clear hK K
        simp only [Act.put, List.setIfInBounds_toArray, List.set_cons_zero, List.set_cons_succ, List.getElem_toArray, List.getElem_cons_zero, List.getElem_cons_succ]
        refine wpAnyIn_ready (rs := [0, 3]) (by kernel_rfl) (by simp) (AllReadyIn.cons rfl (fun K hK => ?_) (AllReadyIn.cons rfl (fun K hK => ?_) AllReadyIn.nil))
        · rw [if_pos (by rfl)]
          refine wpIn_loadB _ rfl _ _ hv5 rfl (hK _ _ ?_)
          clear hK K
          simp only [Act.put, List.setIfInBounds_toArray, List.set_cons_zero, List.set_cons_succ, List.getElem_toArray, List.getElem_cons_zero, List.getElem_cons_succ]
          refine wpAnyIn_ready (rs := [3]) (by kernel_rfl) (by simp) (AllReadyIn.cons rfl (fun K hK => ?_) AllReadyIn.nil)
          rw [if_pos (by rfl)]
          refine wpIn_buildB _ rfl _ _ _ rfl (hK _ _ ?_)
          have hv6 := hv5.alloc (.cells #[.slice (some ⟨gu, 0, none⟩) (atL c (x : Int)).length cu] 23)
          clear hK K
          simp only [Act.put, List.setIfInBounds_toArray, List.set_cons_zero, List.set_cons_succ, List.getElem_toArray, List.getElem_cons_zero, List.getElem_cons_succ]
          refine wpAnyIn_ready (rs := [4]) (by kernel_rfl) (by simp) (AllReadyIn.cons rfl (fun K hK => ?_) AllReadyIn.nil)
          rw [if_pos (by rfl)]
          refine wpIn_pushV _ _ rfl w.heap.size W.heap.size _ v _ (ownM_below (ownM_below hom hb5) ((Below.refl _ _).alloc (Nat.le_refl _) _)) rfl rfl ⟨w5.heap.size, 0, none⟩ rfl _ _ (cell_new1 _ _ _) (own_mono (own_alloc hu _) hBW) (inB_mono (inB_of_own hu) (Nat.le_refl _) (by simp)) hBW (by have := hb5.size; simp; omega) HPL.out ?_
          intro g7 cap7 w7 h7 hg7
          refine hK _ _ ?_
          have hv7 := collect_box (Nat.le_refl _) hB hv hom hb5 _ hg7
          clear hK K
          simp only [Act.put, List.setIfInBounds_toArray, List.set_cons_zero, List.set_cons_succ, List.getElem_toArray, List.getElem_cons_zero, List.getElem_cons_succ]
          refine wpAnyIn_ready (rs := [5]) (by kernel_rfl) (by simp) (AllReadyIn.cons rfl (fun K hK => ?_) AllReadyIn.nil)
          rw [if_pos (by rfl)]
          refine wpIn_storeB _ _ rfl _ v g7 _ cap7 hv7 rfl rfl (hK _ _ ?_)
          clear hK K
          simp only [Act.put, List.setIfInBounds_toArray, List.set_cons_zero, List.set_cons_succ, List.getElem_toArray, List.getElem_cons_zero, List.getElem_cons_succ]
          refine wpAnyIn_done (by kernel_rfl) ?_ _
          exact collect_done c _ (Nat.le_refl _) (by omega) hB hv hom hb5 _ h7 hg7 HG.out
        · rw [if_pos (by rfl)]
          refine wpIn_buildB _ rfl _ _ _ rfl (hK _ _ ?_)
          have hv6 := hv5.alloc (.cells #[.slice (some ⟨gu, 0, none⟩) (atL c (x : Int)).length cu] 23)
          clear hK K
          simp only [Act.put, List.setIfInBounds_toArray, List.set_cons_zero, List.set_cons_succ, List.getElem_toArray, List.getElem_cons_zero, List.getElem_cons_succ]
          refine wpAnyIn_ready (rs := [0]) (by kernel_rfl) (by simp) (AllReadyIn.cons rfl (fun K hK => ?_) AllReadyIn.nil)
          rw [if_pos (by rfl)]
          refine wpIn_loadB _ rfl _ _ hv6 rfl (hK _ _ ?_)
          clear hK K
          simp only [Act.put, List.setIfInBounds_toArray, List.set_cons_zero, List.set_cons_succ, List.getElem_toArray, List.getElem_cons_zero, List.getElem_cons_succ]
          refine wpAnyIn_ready (rs := [4]) (by kernel_rfl) (by simp) (AllReadyIn.cons rfl (fun K hK => ?_) AllReadyIn.nil)
          rw [if_pos (by rfl)]
          refine wpIn_pushV _ _ rfl w.heap.size W.heap.size _ v _ (ownM_below (ownM_below hom hb5) ((Below.refl _ _).alloc (Nat.le_refl _) _)) rfl rfl ⟨w5.heap.size, 0, none⟩ rfl _ _ (cell_new1 _ _ _) (own_mono (own_alloc hu _) hBW) (inB_mono (inB_of_own hu) (Nat.le_refl _) (by simp)) hBW (by have := hb5.size; simp; omega) HPL.out ?_
          intro g7 cap7 w7 h7 hg7
          refine hK _ _ ?_
          have hv7 := collect_box (Nat.le_refl _) hB hv hom hb5 _ hg7
          clear hK K
          simp only [Act.put, List.setIfInBounds_toArray, List.set_cons_zero, List.set_cons_succ, List.getElem_toArray, List.getElem_cons_zero, List.getElem_cons_succ]
          refine wpAnyIn_ready (rs := [5]) (by kernel_rfl) (by simp) (AllReadyIn.cons rfl (fun K hK => ?_) AllReadyIn.nil)
          rw [if_pos (by rfl)]
          refine wpIn_storeB _ _ rfl _ v g7 _ cap7 hv7 rfl rfl (hK _ _ ?_)
          clear hK K
          simp only [Act.put, List.setIfInBounds_toArray, List.set_cons_zero, List.set_cons_succ, List.getElem_toArray, List.getElem_cons_zero, List.getElem_cons_succ]
          refine wpAnyIn_done (by kernel_rfl) ?_ _
          exact collect_done c _ (Nat.le_refl _) (by omega) hB hv hom hb5 _ h7 hg7 HG.out
  case done =>
    rintro D ys W hD rfl ⟨⟨v, hv, hom⟩, hB⟩ hK
    have hc := hv.cell
    gi_wp2
    refine ⟨by simp, .inl ⟨_, _, rfl, run_takeDeferred hK, ?_⟩⟩
    exact ⟨_, results_tmp2 rfl _ _ _, v, rfl, ownM_mono (ownM_putObj hom _ hK rfl) (Nat.le_refl _) (by simp), hB.trans (belowK_b (w := w) (Nat.le_refl _) W D _ _ (by simp at hD; omega) hK rfl rfl)⟩
  case stop =>
    rintro D c pre W _ _ h _
    exact h.elim

theorem iListAll_v (a : Int) (w : World) (_ : (Lit.int .i64 a).wf = true) : Calls Try.prog 13 #[.int .i64 a] w (FreshMB w (listAll a)) := by
  by_cases h : 1 ≤ a ∧ a ≤ 7
  · have hr : listAll a = (allL a.toNat, true) := by unfold listAll; rw [if_pos h]
    rw [hr]
    obtain ⟨c, rfl⟩ : ∃ c : Nat, a = c := ⟨a.toNat, by omega⟩
    rw [Int.toNat_natCast]
    exact callsIn_wide.1 (listAll_in 6 (by omega) c w (by omega) (by omega))
  · have hr : listAll a = ([], false) := by unfold listAll; rw [if_neg h]
    rw [hr]
    have HI := Lib.hid (isListed_is false a w (by simpa using h))
    clear hr h
    go_enter Try.func13, Try.ntmps13
    go_wp2_with (go_at_call 42; refine HI.out.mono ?_; rintro e w' ⟨rfl, rfl⟩)
    go_ret2
    exact ⟨_, rfl, ownM_nil _ _ _, Below.refl _ _⟩

end Go.Proofs.Ytipmafplpoadjaa
