/-
  The program's contracts: impl.ListPlace, ListAt, ListNext, ListBefore, ListOpen.
-/
import Derived.Test.YtjmmhonlkpmmoaaLine5
import Derived.Test.YtjmmhonlkpmmoaaMatHelp
namespace Go.Proofs.Ytjmmhonlkpmmoaa
set_option linter.unusedSimpArgs false
set_option linter.unusedVariables false
set_option linter.unnecessarySimpa false
open Go.RowKit

def listPlace (xs : List Int) : Int × Bool := if partIn xs then (plc xs, true) else (0, false)
def listAt (n p : Int) : List Int × Bool := if (1 ≤ n ∧ n ≤ 8) ∧ 0 ≤ p ∧ p < opn n.toNat 0 then (atL n.toNat p, true) else ([], false)
def listNext (xs : List Int) : List Int × Bool := if partIn xs = true ∧ plc xs + 1 < opn xs.length 0 then (atL xs.length (plc xs + 1), true) else ([], false)
def listBefore (xs : List Int) : List Int × Bool := if partIn xs = true ∧ 0 < plc xs then (atL xs.length (plc xs - 1), true) else ([], false)
def listOpen (n : Int) (xs : List Int) : Int × Bool := if partIn xs = true ∧ (xs.length : Int) ≤ n ∧ n ≤ 8 then (opn (n.toNat - xs.length) (pSize xs), true) else (0, false)

theorem listAt_len (n p : Int) : (listAt n p).1.length ≤ 2305843009213693952 := by
  unfold listAt
  split
  · simp only [atL_length]; omega
  · simp
theorem listNext_len (xs : List Int) (h : xs.length ≤ 1048576) : (listNext xs).1.length ≤ 2305843009213693952 := by
  unfold listNext
  split
  · simp only [atL_length]; omega
  · simp
theorem listBefore_len (xs : List Int) (h : xs.length ≤ 1048576) : (listBefore xs).1.length ≤ 2305843009213693952 := by
  unfold listBefore
  split
  · simp only [atL_length]; omega
  · simp

theorem rdv_len {w : World} {v : Value} {xs : List Int} (h : RdV w v xs) : ∃ ao cap, v = .slice ao xs.length cap ∧ xs.length ≤ 9223372036854775807 := by
  obtain ⟨ao, cap, h1, _, h3, h4⟩ := h
  unfold maxLen at h4
  exact ⟨ao, cap, h1, by omega⟩

theorem iListPlace_v (v : Value) (xs : List Int) (w : World) (hv : RdV w v xs) : Calls Try.prog 21 #[v] w (GivesIB w (listPlace xs)) := by
  have HV := Lib.hid hv
  clear hv
  by_cases hp : partIn xs = true
  · have hr : listPlace xs = (plc xs, true) := by simp [listPlace, hp]
    rw [hr]
    have hl := partIn_len hp
    have HL := Lib.hid (lineOf_any v xs w HV.out hl.1 hl.2)
    have HPL := Lib.hid fun (w1 : World) => place_any xs w1 hp
    have HP := Lib.hid hp
    clear hp hr hl
    go_enter Try.func21, Try.ntmps21
    go_wp2_with fail
    refine (iPartIn_is true _ _ _ HV.out HP).mono ?_
    rintro e w' ⟨rfl, rfl⟩
    go_wp2_with fail
    refine HL.out.mono ?_
    rintro e w1 ⟨rfl, hb1⟩
    go_wp2_with fail
    refine (HPL.out _).mono ?_
    rintro e w2 ⟨rfl, hb2⟩
    go_wp2
    go_ret2
    exact ⟨rfl, below_step hb1 hb2⟩
  · have hp : partIn xs = false := by simpa using hp
    have hr : listPlace xs = (0, false) := by simp [listPlace, hp]
    rw [hr]
    have HP := Lib.hid hp
    clear hp hr
    go_enter Try.func21, Try.ntmps21
    go_wp2_with fail
    refine (iPartIn_is false _ _ _ HV.out HP).mono ?_
    rintro e w' ⟨rfl, rfl⟩
    go_wp2
    go_ret2
    exact ⟨rfl, Below.refl _ _⟩

theorem countFits_is (b : Bool) (n : Int) (w : World) (h : decide (1 ≤ n ∧ n ≤ 8) = b) : Calls Try.prog 69 #[.int .i64 n] w fun e w' => e = .returned (.bool b) ∧ w = w' := by
  subst h
  exact countFits_any n w

theorem lineList_f (xs : List Int) (w : World) (hp : partIn xs = true) : Calls Try.prog 50 #[.agg (rowC (ln xs))] w (FreshL w xs) :=
  lineList_any xs w (partIn_small hp) (partIn_len hp).2

set_option maxHeartbeats 800000 in
theorem iListAt_v (n p : Int) (w : World) (_ : (Lit.int .i64 n).wf = true) (_ : (Lit.int .i64 p).wf = true) : Calls Try.prog 24 #[.int .i64 n, .int .i64 p] w (FreshLB w (listAt n p)) := by
  by_cases h1 : 1 ≤ n ∧ n ≤ 8
  · have HC := Lib.hid (countFits_is true n w (by simpa using h1))
    obtain ⟨c, rfl⟩ : ∃ c : Nat, n = c := ⟨n.toNat, by omega⟩
    have hc8 : c ≤ 8 := by omega
    have hob := opn_bd c 0 (by omega) (by omega)
    have HE := Lib.hid fun (w1 : World) => endings_any c (c : Int) 0 w1 rfl (by omega) (by omega)
    by_cases h2 : 0 ≤ p
    · by_cases h3 : p < opn c 0
      · have hr : listAt c p = (atL c p, true) := by
          unfold listAt
          rw [if_pos ⟨h1, h2, by simpa using h3⟩]
          simp
        rw [hr]
        have HL := Lib.hid (lineAt_any c p w (by omega) hc8 h2 h3)
        have HF := Lib.hid fun (w1 : World) => lineList_f (atL c p) w1 (atL_partIn c p (by omega) hc8 h2 h3)
        obtain ⟨o, ho⟩ : ∃ o, o = opn c 0 := ⟨_, rfl⟩
        rw [← ho] at HE h3 hob
        obtain ⟨hob1, hob2⟩ := hob
        clear hr ho h1
        go_enter Try.func24, Try.ntmps24
        go_wp2_with (first | (go_at_call 69; refine HC.out.mono ?_; rintro e w' ⟨rfl, rfl⟩) | (go_at_call 48; refine (HE.out _).mono ?_; rintro e w' ⟨rfl, rfl⟩) | (go_at_call 70; refine HL.out.mono ?_; rintro e w1 ⟨rfl, hb1⟩) | (go_at_call 50; refine (HF.out _).mono ?_; rintro e w2 ⟨v, rfl, ho, hb2⟩))
        go_ret2
        exact ⟨_, rfl, own_mono ho hb1.size, below_step hb1 hb2⟩
      · have hr : listAt c p = ([], false) := by
          unfold listAt
          rw [if_neg (fun h => h3 (by simpa using h.2.2))]
        rw [hr]
        obtain ⟨o, ho⟩ : ∃ o, o = opn c 0 := ⟨_, rfl⟩
        rw [← ho] at HE h3 hob
        obtain ⟨hob1, hob2⟩ := hob
        clear hr ho h1
        go_enter Try.func24, Try.ntmps24
        go_wp2_with (first | (go_at_call 69; refine HC.out.mono ?_; rintro e w' ⟨rfl, rfl⟩) | (go_at_call 48; refine (HE.out _).mono ?_; rintro e w' ⟨rfl, rfl⟩))
        go_ret2
        exact ⟨_, rfl, own_nilV _ _, Below.refl _ _⟩
    · have hr : listAt c p = ([], false) := by
        unfold listAt
        rw [if_neg (fun h => h2 h.2.1)]
      rw [hr]
      clear hr h1 hob
      go_enter Try.func24, Try.ntmps24
      go_wp2_with (first | (go_at_call 69; refine HC.out.mono ?_; rintro e w' ⟨rfl, rfl⟩))
      go_ret2
      exact ⟨_, rfl, own_nilV _ _, Below.refl _ _⟩
  · have HC := Lib.hid (countFits_is false n w (by simpa using h1))
    have hr : listAt n p = ([], false) := by
      unfold listAt
      rw [if_neg (fun h => h1 h.1)]
    rw [hr]
    clear hr h1
    go_enter Try.func24, Try.ntmps24
    go_wp2_with (first | (go_at_call 69; refine HC.out.mono ?_; rintro e w' ⟨rfl, rfl⟩))
    go_ret2
    exact ⟨_, rfl, own_nilV _ _, Below.refl _ _⟩

set_option maxHeartbeats 800000 in
theorem iListNext_v (v : Value) (xs : List Int) (w : World) (hv : RdV w v xs) : Calls Try.prog 28 #[v] w (FreshLB w (listNext xs)) := by
  have HV := Lib.hid hv
  clear hv
  by_cases hp : partIn xs = true
  · have hl := partIn_len hp
    have HL := Lib.hid (lineOf_any v xs w HV.out hl.1 hl.2)
    have hn := fun (w1 : World) => next_any xs w1 hp
    have HP := Lib.hid hp
    have hpb := plc_bd (partIn_ok hp)
    obtain ⟨r, hrd⟩ : ∃ r, r = nextR xs := ⟨_, rfl⟩
    rw [← hrd] at hn
    have HN := Lib.hid hn
    have hr1 : r.1.length = xs.length ∧ partIn r.1 = true := by
      rw [hrd]
      unfold nextR
      split
      · rename_i h
        exact ⟨atL_length _ _, atL_partIn _ _ hl.1 hl.2 (by omega) (by omega)⟩
      · exact ⟨rfl, hp⟩
    have HF := Lib.hid fun (w1 : World) => lineList_f r.1 w1 hr1.2
    have HLN := Lib.hid (ln_length (xs := r.1) (by rw [hr1.1]; exact hl.2))
    by_cases hc : plc xs + 1 < opn xs.length 0
    · have hre : listNext xs = (r.1, true) := by
        rw [hrd]
        simp only [listNext, nextR]
        rw [if_pos ⟨hp, hc⟩, if_pos hc]
      have hb : r.2 = true := by rw [hrd, nextR, if_pos hc]
      rw [hre]
      rw [show r = (r.1, r.2) from rfl, hb] at HN
      obtain ⟨ys, hys⟩ : ∃ ys, ys = r.1 := ⟨_, rfl⟩
      rw [← hys] at HN HF HLN ⊢
      clear hp hl hn hrd hr1 hc hre hb hys hpb
      go_enter Try.func28, Try.ntmps28
      go_wp2_with fail
      refine (iPartIn_is true _ _ _ HV.out HP).mono ?_
      rintro e w' ⟨rfl, rfl⟩
      go_wp2_with fail
      refine HL.out.mono ?_
      rintro e w1 ⟨rfl, hb1⟩
      go_wp2_with fail
      refine (HN.out _).mono ?_
      rintro e w2 ⟨rfl, hb2⟩
      have hz : RowAt (w2.alloc (.cells #[.int .i64 0, .int .i64 0, .int .i64 0, .int .i64 0, .int .i64 0, .int .i64 0, .int .i64 0, .int .i64 0] 57)) w2.heap.size (List.replicate 8 0) := heap_alloc_new w2 _
      have HZ := Lib.hid hz
      have hb3 := below_step hb1 hb2
      have hb4 := hb3.alloc hb3.size (.cells #[.int .i64 0, .int .i64 0, .int .i64 0, .int .i64 0, .int .i64 0, .int .i64 0, .int .i64 0, .int .i64 0] 57)
      have hsz := hb3.size
      have HB4 := Lib.hid hb4
      clear hz hb3 hb4 hb1 hb2
      go_wp2_with (first | (refine wpList_storeL rfl _ _ rfl w2.heap.size (ln ys) rfl rfl (List.replicate 8 0) rfl HLN.out HZ.out ?_; intro w3 hg3 ht3; have HG3 := Lib.hid hg3; have HB5 := Lib.hid (HB4.out.trans (touch_below ht3 (by omega : w.heap.size ≤ w2.heap.size))); clear hg3 ht3) | (refine wpList_loadL rfl _ rfl w2.heap.size rfl (ln ys) HLN.out HG3.out ?_) | (go_at_call 50; refine (HF.out _).mono ?_; rintro e w4 ⟨u, rfl, ho, hb5⟩))
      go_ret2
      exact ⟨_, rfl, own_mono ho HB5.out.size, below_step HB5.out hb5⟩
    · have hre : listNext xs = ([], false) := by
        simp only [listNext]
        rw [if_neg (fun h => hc h.2)]
      have hb : r.2 = false := by rw [hrd, nextR, if_neg hc]
      rw [hre]
      rw [show r = (r.1, r.2) from rfl, hb] at HN
      obtain ⟨ys, hys⟩ : ∃ ys, ys = r.1 := ⟨_, rfl⟩
      rw [← hys] at HN HLN
      clear hp hl hn hrd hr1 hc hre hb hys hpb HF
      go_enter Try.func28, Try.ntmps28
      go_wp2_with fail
      refine (iPartIn_is true _ _ _ HV.out HP).mono ?_
      rintro e w' ⟨rfl, rfl⟩
      go_wp2_with fail
      refine HL.out.mono ?_
      rintro e w1 ⟨rfl, hb1⟩
      go_wp2_with fail
      refine (HN.out _).mono ?_
      rintro e w2 ⟨rfl, hb2⟩
      have hz : RowAt (w2.alloc (.cells #[.int .i64 0, .int .i64 0, .int .i64 0, .int .i64 0, .int .i64 0, .int .i64 0, .int .i64 0, .int .i64 0] 57)) w2.heap.size (List.replicate 8 0) := heap_alloc_new w2 _
      have HZ := Lib.hid hz
      have hb3 := below_step hb1 hb2
      have hb4 := hb3.alloc hb3.size (.cells #[.int .i64 0, .int .i64 0, .int .i64 0, .int .i64 0, .int .i64 0, .int .i64 0, .int .i64 0, .int .i64 0] 57)
      have hsz := hb3.size
      have HB4 := Lib.hid hb4
      clear hz hb3 hb4 hb1 hb2
      go_wp2_with (first | (refine wpList_storeL rfl _ _ rfl w2.heap.size (ln ys) rfl rfl (List.replicate 8 0) rfl HLN.out HZ.out ?_; intro w3 hg3 ht3; have HG3 := Lib.hid hg3; have HB5 := Lib.hid (HB4.out.trans (touch_below ht3 (by omega : w.heap.size ≤ w2.heap.size))); clear hg3 ht3))
      go_ret2
      exact ⟨_, rfl, own_nilV _ _, HB5.out⟩
  · have hp : partIn xs = false := by simpa using hp
    have hre : listNext xs = ([], false) := by simp [listNext, hp]
    rw [hre]
    have HP := Lib.hid hp
    clear hp hre
    go_enter Try.func28, Try.ntmps28
    go_wp2_with fail
    refine (iPartIn_is false _ _ _ HV.out HP).mono ?_
    rintro e w' ⟨rfl, rfl⟩
    go_wp2
    go_ret2
    exact ⟨_, rfl, own_nilV _ _, Below.refl _ _⟩

set_option maxHeartbeats 800000 in
theorem iListBefore_v (v : Value) (xs : List Int) (w : World) (hv : RdV w v xs) : Calls Try.prog 30 #[v] w (FreshLB w (listBefore xs)) := by
  have HV := Lib.hid hv
  clear hv
  by_cases hp : partIn xs = true
  · have hl := partIn_len hp
    have HL := Lib.hid (lineOf_any v xs w HV.out hl.1 hl.2)
    have hn := fun (w1 : World) => before_any xs w1 hp
    have HP := Lib.hid hp
    have hpb := plc_bd (partIn_ok hp)
    obtain ⟨r, hrd⟩ : ∃ r, r = beforeR xs := ⟨_, rfl⟩
    rw [← hrd] at hn
    have HN := Lib.hid hn
    have hr1 : r.1.length = xs.length ∧ partIn r.1 = true := by
      rw [hrd]
      unfold beforeR
      split
      · rename_i h
        exact ⟨atL_length _ _, atL_partIn _ _ hl.1 hl.2 (by omega) (by omega)⟩
      · exact ⟨rfl, hp⟩
    have HF := Lib.hid fun (w1 : World) => lineList_f r.1 w1 hr1.2
    have HLN := Lib.hid (ln_length (xs := r.1) (by rw [hr1.1]; exact hl.2))
    by_cases hc : 0 < plc xs
    · have hre : listBefore xs = (r.1, true) := by
        rw [hrd]
        simp only [listBefore, beforeR]
        rw [if_pos ⟨hp, hc⟩, if_pos hc]
      have hb : r.2 = true := by rw [hrd, beforeR, if_pos hc]
      rw [hre]
      rw [show r = (r.1, r.2) from rfl, hb] at HN
      obtain ⟨ys, hys⟩ : ∃ ys, ys = r.1 := ⟨_, rfl⟩
      rw [← hys] at HN HF HLN ⊢
      clear hp hl hn hrd hr1 hc hre hb hys hpb
      go_enter Try.func30, Try.ntmps30
      go_wp2_with fail
      refine (iPartIn_is true _ _ _ HV.out HP).mono ?_
      rintro e w' ⟨rfl, rfl⟩
      go_wp2_with fail
      refine HL.out.mono ?_
      rintro e w1 ⟨rfl, hb1⟩
      go_wp2_with fail
      refine (HN.out _).mono ?_
      rintro e w2 ⟨rfl, hb2⟩
      have hz : RowAt (w2.alloc (.cells #[.int .i64 0, .int .i64 0, .int .i64 0, .int .i64 0, .int .i64 0, .int .i64 0, .int .i64 0, .int .i64 0] 57)) w2.heap.size (List.replicate 8 0) := heap_alloc_new w2 _
      have HZ := Lib.hid hz
      have hb3 := below_step hb1 hb2
      have hb4 := hb3.alloc hb3.size (.cells #[.int .i64 0, .int .i64 0, .int .i64 0, .int .i64 0, .int .i64 0, .int .i64 0, .int .i64 0, .int .i64 0] 57)
      have hsz := hb3.size
      have HB4 := Lib.hid hb4
      clear hz hb3 hb4 hb1 hb2
      go_wp2_with (first | (refine wpList_storeL rfl _ _ rfl w2.heap.size (ln ys) rfl rfl (List.replicate 8 0) rfl HLN.out HZ.out ?_; intro w3 hg3 ht3; have HG3 := Lib.hid hg3; have HB5 := Lib.hid (HB4.out.trans (touch_below ht3 (by omega : w.heap.size ≤ w2.heap.size))); clear hg3 ht3) | (refine wpList_loadL rfl _ rfl w2.heap.size rfl (ln ys) HLN.out HG3.out ?_) | (go_at_call 50; refine (HF.out _).mono ?_; rintro e w4 ⟨u, rfl, ho, hb5⟩))
      go_ret2
      exact ⟨_, rfl, own_mono ho HB5.out.size, below_step HB5.out hb5⟩
    · have hre : listBefore xs = ([], false) := by
        simp only [listBefore]
        rw [if_neg (fun h => hc h.2)]
      have hb : r.2 = false := by rw [hrd, beforeR, if_neg hc]
      rw [hre]
      rw [show r = (r.1, r.2) from rfl, hb] at HN
      obtain ⟨ys, hys⟩ : ∃ ys, ys = r.1 := ⟨_, rfl⟩
      rw [← hys] at HN HLN
      clear hp hl hn hrd hr1 hc hre hb hys hpb HF
      go_enter Try.func30, Try.ntmps30
      go_wp2_with fail
      refine (iPartIn_is true _ _ _ HV.out HP).mono ?_
      rintro e w' ⟨rfl, rfl⟩
      go_wp2_with fail
      refine HL.out.mono ?_
      rintro e w1 ⟨rfl, hb1⟩
      go_wp2_with fail
      refine (HN.out _).mono ?_
      rintro e w2 ⟨rfl, hb2⟩
      have hz : RowAt (w2.alloc (.cells #[.int .i64 0, .int .i64 0, .int .i64 0, .int .i64 0, .int .i64 0, .int .i64 0, .int .i64 0, .int .i64 0] 57)) w2.heap.size (List.replicate 8 0) := heap_alloc_new w2 _
      have HZ := Lib.hid hz
      have hb3 := below_step hb1 hb2
      have hb4 := hb3.alloc hb3.size (.cells #[.int .i64 0, .int .i64 0, .int .i64 0, .int .i64 0, .int .i64 0, .int .i64 0, .int .i64 0, .int .i64 0] 57)
      have hsz := hb3.size
      have HB4 := Lib.hid hb4
      clear hz hb3 hb4 hb1 hb2
      go_wp2_with (first | (refine wpList_storeL rfl _ _ rfl w2.heap.size (ln ys) rfl rfl (List.replicate 8 0) rfl HLN.out HZ.out ?_; intro w3 hg3 ht3; have HG3 := Lib.hid hg3; have HB5 := Lib.hid (HB4.out.trans (touch_below ht3 (by omega : w.heap.size ≤ w2.heap.size))); clear hg3 ht3))
      go_ret2
      exact ⟨_, rfl, own_nilV _ _, HB5.out⟩
  · have hp : partIn xs = false := by simpa using hp
    have hre : listBefore xs = ([], false) := by simp [listBefore, hp]
    rw [hre]
    have HP := Lib.hid hp
    clear hp hre
    go_enter Try.func30, Try.ntmps30
    go_wp2_with fail
    refine (iPartIn_is false _ _ _ HV.out HP).mono ?_
    rintro e w' ⟨rfl, rfl⟩
    go_wp2
    go_ret2
    exact ⟨_, rfl, own_nilV _ _, Below.refl _ _⟩

set_option maxHeartbeats 800000 in
theorem iListOpen_v (v : Value) (n : Int) (xs : List Int) (w : World) (hv : RdV w v xs) (hwf : (Lit.int .i64 n).wf = true) : Calls Try.prog 39 #[.int .i64 n, v] w (GivesIB w (listOpen n xs)) := by
  have HV := Lib.hid hv
  obtain ⟨ao, cap, rfl, hlen⟩ := rdv_len hv
  clear hv
  by_cases h1 : 1 ≤ n ∧ n ≤ 8
  · have HC := Lib.hid (countFits_is true n w (by simpa using h1))
    obtain ⟨c, rfl⟩ : ∃ c : Nat, n = c := ⟨n.toNat, by omega⟩
    have hc8 : c ≤ 8 := by omega
    by_cases hp : partIn xs = true
    · have HP := Lib.hid hp
      have hpl := partIn_len hp
      by_cases h3 : xs.length ≤ c
      · have hr : listOpen c xs = (opn (c - xs.length) (pSize xs), true) := by
          unfold listOpen
          rw [if_pos ⟨hp, by omega, by omega⟩]
          simp
        rw [hr]
        have hsb := size_le_len xs 0 (by omega) (partIn_ok hp)
        have hs1 : 0 ≤ pSize xs := sizeFrom_nonneg xs 0
        have hs2 : pSize xs ≤ xs.length := by show sizeFrom 0 xs ≤ _; omega
        have HB := Lib.hid (blockCount_v _ xs w HV.out hpl.1 (partIn_small hp))
        have HE := Lib.hid (endings_any (c - xs.length) ((c : Int) - (xs.length : Int)) (pSize xs) w (by omega) hs1 (by omega))
        obtain ⟨o, ho⟩ : ∃ o, o = opn (c - xs.length) (pSize xs) := ⟨_, rfl⟩
        rw [← ho] at HE ⊢
        obtain ⟨m, hm⟩ : ∃ m, m = xs.length := ⟨_, rfl⟩
        rw [← hm] at HE HB HV h3 hlen ⊢
        clear ho hr h1 hsb hs2 hs1 hp hpl hm
        go_enter Try.func39, Try.ntmps39
        go_wp2_with (first | (go_at_call 69; refine HC.out.mono ?_; rintro e w' ⟨rfl, rfl⟩) | (go_at_call 63; refine (iPartIn_is true _ _ _ HV.out HP).mono ?_; rintro e w' ⟨rfl, rfl⟩) | (go_at_call 77; refine HB.out.mono ?_; rintro e w' ⟨rfl, rfl⟩) | (go_at_call 48; refine HE.out.mono ?_; rintro e w' ⟨rfl, rfl⟩))
        go_ret2
        exact ⟨rfl, Below.refl _ _⟩
      · have hr : listOpen c xs = (0, false) := by
          unfold listOpen
          rw [if_neg (fun h => h3 (by omega))]
        rw [hr]
        obtain ⟨m, hm⟩ : ∃ m, m = xs.length := ⟨_, rfl⟩
        rw [← hm] at HV h3 hlen ⊢
        clear hr h1 hp hpl hm
        go_enter Try.func39, Try.ntmps39
        go_wp2_with (first | (go_at_call 69; refine HC.out.mono ?_; rintro e w' ⟨rfl, rfl⟩) | (go_at_call 63; refine (iPartIn_is true _ _ _ HV.out HP).mono ?_; rintro e w' ⟨rfl, rfl⟩))
        go_ret2
        exact ⟨rfl, Below.refl _ _⟩
    · have hp : partIn xs = false := by simpa using hp
      have hr : listOpen c xs = (0, false) := by simp [listOpen, hp]
      rw [hr]
      have HP := Lib.hid hp
      clear hr h1 hp
      go_enter Try.func39, Try.ntmps39
      go_wp2_with (first | (go_at_call 69; refine HC.out.mono ?_; rintro e w' ⟨rfl, rfl⟩) | (go_at_call 63; refine (iPartIn_is false _ _ _ HV.out HP).mono ?_; rintro e w' ⟨rfl, rfl⟩))
      go_ret2
      exact ⟨rfl, Below.refl _ _⟩
  · have HC := Lib.hid (countFits_is false n w (by simpa using h1))
    have hr : listOpen n xs = (0, false) := by
      unfold listOpen
      rw [if_neg (fun h => by have := partIn_len h.1; omega)]
    rw [hr]
    clear hr h1
    go_enter Try.func39, Try.ntmps39
    go_wp2_with (first | (go_at_call 69; refine HC.out.mono ?_; rintro e w' ⟨rfl, rfl⟩))
    go_ret2
    exact ⟨rfl, Below.refl _ _⟩

end Go.Proofs.Ytjmmhonlkpmmoaa
