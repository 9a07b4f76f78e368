/-
  The contracts of the laws' helpers on lists of lists: toIntSS, eqIntSS, markIntSS, szIntSS (and heldIntSS where the laws use it).
-/
import Derived.Test.YtieldehghmikkaaMat
import Derived.Deep.RegionHeld3
namespace Go.Proofs.Ytieldehghmikkaa
set_option linter.unusedSimpArgs false
set_option linter.unusedVariables false
set_option linter.unnecessarySimpa false
open Go.RowKit

theorem own_nilV (w : World) (B : Nat) : Own w B (.slice none 0 0) [] := World.ownsRow_nil _ _ _ _
theorem inB_nil (B S : Nat) : InB (.slice none 0 0) B S := fun k hk => by simp [Value.ownBlock] at hk

theorem ownM_made {w1 : World} {B g n c S : Nat} (h : w1.ownsRow B 27 1 (.slice (some ⟨g, 0, none⟩) n c) n (madeCells #[Value.slice none 0 0] n).toList) (hg : B ≤ g ∧ g < S) : OwnM w1 B S (.slice (some ⟨g, 0, none⟩) n c) (List.replicate n []) := by
  rw [toList_madeCells_one] at h
  have hv : ∀ i, i < n → (List.replicate n (Value.slice none 0 0)).getD i undef = .slice none 0 0 := fun i hi => by simp [List.getD, hi]
  refine ⟨List.replicate n (.slice none 0 0), by simp, by simpa using h, fun k hk => by simp [Value.ownBlock] at hk; omega, fun i hi => ?_, fun i j hij hj => ?_⟩
  · simp at hi
    rw [hv i hi, show (List.replicate n ([] : List Int)).getD i [] = [] by simp [List.getD, hi]]
    exact ⟨own_nilV _ _, inB_nil _ _⟩
  · simp at hj
    rw [hv i (by omega)]
    exact .inl rfl

theorem ownM_stored {w : World} {B S g n cap : Nat} {xss : List (List Int)} (h : OwnM w B S (.slice (some ⟨g, 0, none⟩) n cap) xss) (hn : n = xss.length) (k : Nat) (hk : k < n) (u : Value) (ys : List Int) (hu : Own w B u ys) (hui : InB u S w.heap.size) (hBS : B ≤ S) (hSw : S ≤ w.heap.size) :
    OwnM (w.setCell ⟨g, k, none⟩ u) B w.heap.size (.slice (some ⟨g, 0, none⟩) n cap) (xss.set k ys) ∧ w.grownBy (w.setCell ⟨g, k, none⟩ u) (some g) := by
  subst hn
  obtain ⟨vs, hvl, hrow, hin, hrows, hap⟩ := h
  obtain ⟨hst, hgr⟩ := World.ownsRow.stored hrow k u
  have hgB := hin g rfl
  have hne : ∀ z : Value, ∀ zs : List Int, Own w B z zs → z.ownBlock = none ∨ z.ownBlock ≠ some g := by
    intro z zs hz
    rcases hz.2 with ⟨rfl, _⟩ | ⟨gz, capz, curz, rfl, _, hgz, _⟩
    · exact .inl rfl
    · refine .inr fun e => ?_
      simp [Value.ownBlock] at e
      subst e
      rcases hrow.2 with ⟨h3, _⟩ | ⟨g3, cap3, cur3, h3, _, hg3, _⟩
      · cases h3
      · cases h3
        rw [hgz] at hg3
        simp at hg3
  have hset : ∀ {α : Type} (l : List α) (x d : α) (i : Nat), k < l.length → (l.set k x).getD i d = if i = k then x else l.getD i d := by
    intro α l x d i hl
    rw [List.getD_eq_getElem?_getD, List.getElem?_set]
    by_cases e : k = i
    · subst e
      simp [hl]
    · rw [if_neg e, if_neg (fun e' => e e'.symm), ← List.getD_eq_getElem?_getD]
  refine ⟨⟨vs.set k u, by simp [hvl], by simpa using hst, fun q hq => by have := hin q hq; omega, fun i hi => ?_, fun i j hij hj => ?_⟩, hgr⟩
  · simp at hi
    rw [hset vs u undef i (by omega), hset xss ys [] i (by omega)]
    by_cases e : i = k
    · rw [if_pos e, if_pos e]
      exact ⟨own_grown hu hgr (hne _ _ hu), inB_mono hui hBS (Nat.le_refl _)⟩
    · rw [if_neg e, if_neg e]
      exact ⟨own_grown (hrows i hi).1 hgr (hne _ _ (hrows i hi).1), inB_mono (hrows i hi).2 (Nat.le_refl _) hSw⟩
  · simp at hj
    rw [hset vs u undef i (by omega), hset vs u undef j (by omega)]
    by_cases ei : i = k
    · rw [if_pos ei, if_neg (by omega)]
      cases e1 : u.ownBlock with
      | none => exact .inl e1
      | some q =>
        refine .inr fun e => ?_
        rw [e1] at e
        have := hui q e1
        have := (hrows j hj).2 q e.symm
        omega
    · rw [if_neg ei]
      by_cases ej : j = k
      · rw [if_pos ej]
        cases e1 : (vs.getD i undef).ownBlock with
        | none => exact .inl e1
        | some q =>
          refine .inr fun e => ?_
          rw [e1] at e
          have := (hrows i (by omega)).2 q e1
          have := hui q e.symm
          omega
      · rw [if_neg ej]
        exact hap i j hij hj

theorem stageM (xss : List (List Int)) (k : Nat) (h : k < xss.length) : (xss.take k ++ List.replicate (xss.length - k) []).set k (xss.getD k []) = xss.take (k + 1) ++ List.replicate (xss.length - (k + 1)) [] := by
  have hk : (xss.take k).length = k := by simp; omega
  rw [List.set_append_right _ _ (by omega), hk, Nat.sub_self, show xss.length - k = (xss.length - (k + 1)) + 1 by omega, List.replicate_succ, List.set_cons_zero, List.take_succ_eq_append_getElem h, List.append_assoc]
  simp [List.getD, h]

def total (xss : List (List Int)) : Nat := (xss.map List.length).sum
theorem total_cons (xs : List Int) (xss : List (List Int)) : total (xs :: xss) = xs.length + total xss := by simp [total]
theorem len_le_total (xss : List (List Int)) (i : Nat) (h : i < xss.length) : (xss.getD i []).length ≤ total xss := by
  induction xss generalizing i with
  | nil => simp at h
  | cons xs xss ih =>
    rw [total_cons]
    cases i with
    | zero => simp
    | succ i => have := ih i (by simpa using h); simp only [List.getD_cons_succ]; omega

set_option maxHeartbeats 1600000 in
theorem toIntSS_v (v : Value) (xss : List (List Int)) (w : World) (hv : RdM w v xss) (hl : xss.length ≤ 1048576) (hr : ∀ i, i < xss.length → (xss.getD i []).length ≤ 1048576) : Calls Try.prog 15 #[v] w (FreshM w xss) := by
  obtain ⟨ao, ca, vs, hvl, rfl, h1, h2, h3, h4⟩ := hv
  obtain ⟨n, hn⟩ : ∃ n, n = xss.length := ⟨_, rfl⟩
  rw [← hn]
  rw [← hn] at hl
  have HN := Lib.hid hn
  have H3 := Lib.hid h3
  have H4 := Lib.hid h4
  have HR := Lib.hid hr
  clear hn h3 h4 hr hvl
  obtain ⟨i0, hi, hz0, hz1, hz2⟩ := info_parts Try.infoInts
  go_enter Try.func15, Try.ntmps15
  go_wp2_with (at_make; refine wpList_make_full _ rfl _ _ 22 rfl w.heap.size 27 i0 (.slice none 0 0) 1 Try.underlying22 hi hz0 hz1 _ _ _ _ n rfl rfl rfl rfl (by rw [hz2]; omega) (by unfold maxLen; omega) (Nat.le_refl _) ?_)
  intro w1 hown1 hgrow1
  have hb1 : Below w.heap.size w w1 := (Below.refl _ _).grown hgrow1 (Nat.le_refl _) (fun k h => by cases h)
  have hgs : w.heap.size < w1.heap.size := by
    rcases hown1.2 with ⟨h, _⟩ | ⟨g, cap, cur, h, _, hg, _⟩
    · cases h
    · cases h
      exact (Array.getElem?_eq_some_iff.1 hg).1
  have hown := ownM_made (S := w1.heap.size) hown1 ⟨Nat.le_refl _, hgs⟩
  clear hown1 hgrow1
  go_wp2
  go_loopw [4] (fun i wr => ∃ k : Nat, k ≤ n ∧ i = .int .i64 k ∧ OwnM wr w.heap.size wr.heap.size (.slice (some ⟨w.heap.size, 0, none⟩) n n) (xss.take k ++ List.replicate (n - k) []) ∧ Below w.heap.size w wr)
    (fun i _ => n - (intOf i).toNat)
  case atStart => exact ⟨0, Nat.zero_le _, rfl, by simpa using hown, hb1⟩
  case round =>
    obtain ⟨k, hk, rfl, hown, hbel⟩ := hrel
    by_cases hlt : k < n
    · rcases H3.out with hx | ⟨b, off, rfl, hc⟩
      · have := HN.out
        rw [hx] at this
        simp at this
        omega
      · have hck : wr.cell? ⟨b, off + k, none⟩ = some (vs.getD k undef) := by
          have := hc k (by have := HN.out; omega)
          rw [hbel.cell (World.block_lt_of_cell? w _ this)]
          exact this
        clear hc
        have hrk : RdV wr (vs.getD k undef) (xss.getD k []) := rdv_below (H4.out k (by have := HN.out; omega)) (by exact ⟨hbel.os, hbel.tape, hbel.output, hbel.size, hbel.block⟩)
        obtain ⟨z, hz⟩ : ∃ z, z = vs.getD k undef := ⟨_, rfl⟩
        rw [← hz] at hck hrk
        clear hz
        have hys0 := HR.out k (by have := HN.out; omega)
        have hs := stageM xss k (by have := HN.out; omega)
        rw [← HN.out] at hs
        obtain ⟨ys, hys⟩ : ∃ ys, ys = xss.getD k [] := ⟨_, rfl⟩
        rw [← hys] at hrk hys0 hs
        have HS := Lib.hid hs
        have HO := Lib.hid hown
        have HRK := Lib.hid hrk
        clear hown hrk hys hs
        go_wp2_with fail
        refine (toIntS_v _ ys _ HRK.out hys0).mono ?_
        rintro e w2 ⟨u, he, hu, hb2⟩
        obtain ⟨uo, uc, rfl, _⟩ := own_rd hu
        subst he
        have hlr : (xss.take k ++ List.replicate (n - k) []).length = n := by have := HN.out; simp; omega
        have hO2 := ownM_below HO.out hb2
        obtain ⟨hst, hgs2⟩ := ownM_stored hO2 hlr.symm k hlt _ ys (own_mono hu hbel.size) (inB_of_own hu) hbel.size hb2.size
        have hfz := ownM_frozen hO2 k
        obtain ⟨v0, hv0, _⟩ := ownM_cell hO2 k (by omega)
        have hbel2 : Below w.heap.size w w2 := below_step hbel hb2
        rw [HS.out] at hst
        have HST := Lib.hid hst
        have hsz : (w2.setCell ⟨w.heap.size, k, none⟩ (.slice uo ys.length uc)).heap.size = w2.heap.size := by simp [World.setCell]
        have HSZ := Lib.hid hsz
        clear hst hgs2 hO2 hu hsz hlr
        go_wp2
        go_roundw
        case rel => exact ⟨k + 1, by omega, by go_num, by rw [HSZ.out]; exact HST.out, hbel2.setCell (Nat.le_refl _) _⟩
        case measure => simp [intOf]; omega
    · have hkn : k = n := by omega
      subst hkn
      go_wp2
      go_ret
      rw [Nat.sub_self, List.replicate_zero, List.append_nil, HN.out, List.take_length, ← HN.out] at hown
      exact ⟨_, rfl, hown, hbel⟩

set_option maxRecDepth 100000 in
set_option maxHeartbeats 1600000 in
theorem eqIntSS_v (v u : Value) (xss : List (List Int)) (w : World) (hv : RdM w v xss) (hu : RdM w u xss) : Calls Try.prog 17 #[v, u] w fun e w' => e = .returned (.bool true) ∧ Same w w' := by
  obtain ⟨ao, ca, vs, hvl, rfl, h1, h2, h3, h4⟩ := hv
  obtain ⟨bo, cb, us, hul, rfl, k1, k2, k3, k4⟩ := hu
  unfold maxLen at h2 k2
  obtain ⟨n, hn⟩ : ∃ n, n = xss.length := ⟨_, rfl⟩
  rw [← hn] at h1 k1 ⊢
  have HN := Lib.hid hn
  have H3 := Lib.hid h3
  have H4 := Lib.hid h4
  have K3 := Lib.hid k3
  have K4 := Lib.hid k4
  clear hn h3 h4 k3 k4 hvl hul
  go_enter Try.func17, Try.ntmps17
  go_wp2
  go_loopw [5] (fun i wr => ∃ k : Nat, k ≤ n ∧ i = .int .i64 k ∧ Same w wr) (fun i _ => n - (intOf i).toNat)
  case atStart => exact ⟨0, Nat.zero_le _, rfl, Same.refl w⟩
  case round =>
    obtain ⟨k, hk, rfl, hsr⟩ := hrel
    by_cases hlt : k < n
    · rcases H3.out with hx | ⟨b, off, rfl, hc⟩
      · have := HN.out
        rw [hx] at this
        simp at this
        omega
      · rcases K3.out with hy | ⟨b2, off2, rfl, hc2⟩
        · have := HN.out
          rw [hy] at this
          simp at this
          omega
        · have hck := hc k (by have := HN.out; omega)
          have hck2 := hc2 k (by have := HN.out; omega)
          rw [← (hsr _).cell (World.block_lt_of_cell? w _ hck)] at hck
          rw [← (hsr _).cell (World.block_lt_of_cell? w _ hck2)] at hck2
          have hr := rdv_below (H4.out k (by have := HN.out; omega)) (hsr _)
          have hr2 := rdv_below (K4.out k (by have := HN.out; omega)) (hsr _)
          clear hc hc2
          obtain ⟨z, hz⟩ : ∃ z, z = vs.getD k undef := ⟨_, rfl⟩
          obtain ⟨y, hy⟩ : ∃ y, y = us.getD k undef := ⟨_, rfl⟩
          rw [← hz] at hck hr
          rw [← hy] at hck2 hr2
          have HR := Lib.hid hr
          have HR2 := Lib.hid hr2
          have c1 : (k : Int) < n := by omega
          have c2 : (0 : Int) ≤ (k : Int) := by omega
          clear hz hy hr hr2
          go_wp2
          go_region_held3 (fun w' => w'.cell? ⟨b, off + k, none⟩ = some z ∧ w'.cell? ⟨b2, off2 + k, none⟩ = some y) (first | exact ⟨hck, hck2⟩ | exact ⟨by rw [(hs2 _).cell (World.block_lt_of_cell? wr _ hck)]; exact hck, by rw [(hs2 _).cell (World.block_lt_of_cell? wr _ hck2)]; exact hck2⟩) (first | (go_at_call 21; refine (eqIntS_v z y _ _ (rdv_below HR.out (Below.refl _ _).drew) (rdv_below HR2.out (Below.refl _ _).drew)).mono ?_; rintro e w2 ⟨rfl, hs1⟩; have hs2 : Same wr w2 := fun B => (Below.refl _ _).drew.trans (hs1 B)))
          go_wp2
          go_roundw
          case rel => exact ⟨k + 1, by omega, by go_num, hsr.trans hs2⟩
          case measure => simp [intOf]; omega
    · go_wp2
      go_ret
      exact ⟨rfl, hsr⟩

def markRows : Int → List (List Int) → List (List Int)
  | _, [] => []
  | m, xs :: xss => iota m xs.length :: markRows (m + xs.length) xss

theorem markRows_length : ∀ (xss : List (List Int)) (m : Int), (markRows m xss).length = xss.length := by
  intro xss
  induction xss with
  | nil => intro m; rfl
  | cons xs xss ih => intro m; simp [markRows, ih]

theorem markRows_getD : ∀ (xss : List (List Int)) (m : Int) (k : Nat), k < xss.length → (markRows m xss).getD k [] = iota (m + total (xss.take k)) (xss.getD k []).length := by
  intro xss
  induction xss with
  | nil => intro m k hk; simp at hk
  | cons xs xss ih =>
    intro m k hk
    cases k with
    | zero => simp [markRows, total]
    | succ k =>
      have := ih (m + xs.length) k (by simpa using hk)
      simp only [markRows, List.getD_cons_succ, this, List.take_succ_cons, total_cons]
      congr 1
      omega

theorem total_take_succ (xss : List (List Int)) (k : Nat) (h : k < xss.length) : total (xss.take (k + 1)) = total (xss.take k) + (xss.getD k []).length := by
  unfold total
  rw [List.take_succ_eq_append_getElem h, List.map_append, List.sum_append]
  simp [List.getD, h]

theorem total_take_le (xss : List (List Int)) (k : Nat) : total (xss.take k) ≤ total xss := by
  induction xss generalizing k with
  | nil => simp
  | cons xs xss ih =>
    cases k with
    | zero => simp [total]
    | succ k => rw [List.take_succ_cons, total_cons, total_cons]; have := ih k; omega

theorem set_getD_self {α : Type} (l : List α) (k : Nat) (d x : α) (h : k < l.length) (i : Nat) : (l.set k x).getD i d = if i = k then x else l.getD i d := by
  rw [List.getD_eq_getElem?_getD, List.getElem?_set]
  by_cases e : k = i
  · subst e
    simp [h]
  · rw [if_neg e, if_neg (fun e' => e e'.symm), ← List.getD_eq_getElem?_getD]

theorem mark_stageM (xss : List (List Int)) (m : Int) (k : Nat) (h : k < xss.length) :
    ((markRows m xss).take k ++ xss.drop k).set k (iota (m + total (xss.take k)) (xss.getD k []).length) = (markRows m xss).take (k + 1) ++ xss.drop (k + 1) := by
  have hk : ((markRows m xss).take k).length = k := by simp [markRows_length]; omega
  rw [← markRows_getD xss m k h, List.set_append_right _ _ (by omega), hk, Nat.sub_self, List.drop_eq_getElem_cons h, List.set_cons_zero, List.take_succ_eq_append_getElem (by rw [markRows_length]; exact h), List.append_assoc]
  simp [List.getD, markRows_length, h]

theorem ownM_row {w : World} {B S g n cap : Nat} {xss : List (List Int)} (h : OwnM w B S (.slice (some ⟨g, 0, none⟩) n cap) xss) (k : Nat) (hk : k < xss.length) :
    ∃ u, w.cell? ⟨g, k, none⟩ = some u ∧ Own w B u (xss.getD k []) ∧ InB u B S ∧ ∀ w' ys, Own w' B u ys → w.grownBy w' u.ownBlock → OwnM w' B S (.slice (some ⟨g, 0, none⟩) n cap) (xss.set k ys) := by
  obtain ⟨vs, hvl, hrow, hin, hrows, hap⟩ := h
  have hlen : n = xss.length := by
    rcases hrow.2 with ⟨h1, _⟩ | ⟨g', cap', cur, h1, _⟩
    · cases h1
    · simp only [Value.slice.injEq] at h1
      exact h1.2.1
  refine ⟨vs.getD k undef, ?_, (hrows k hk).1, (hrows k hk).2, fun w' ys hu hg => ?_⟩
  · subst hlen
    rw [World.ownsRow.cellAt hrow k (by omega)]
    simp [List.getD, hvl, hk]
  · have hgne : (Value.slice (some ⟨g, 0, none⟩) n cap).ownBlock ≠ (vs.getD k undef).ownBlock := by
      intro e
      rcases (hrows k hk).1.2 with ⟨h3, _⟩ | ⟨gz, capz, curz, h3, _, hgz, _⟩
      · rw [h3] at e
        simp [Value.ownBlock] at e
      · rw [h3] at e
        simp [Value.ownBlock] at e
        subst e
        rcases hrow.2 with ⟨h1, _⟩ | ⟨g', cap', cur, h1, _, hg', _⟩
        · cases h1
        · simp only [Value.slice.injEq, Option.some.injEq, Addr.mk.injEq, and_true, true_and] at h1
          obtain ⟨rfl, _⟩ := h1
          rw [hgz] at hg'
          simp at hg'
    refine ⟨vs, by simp [hvl], by rw [List.length_set]; exact World.ownsRow.kept hrow hg (.inr hgne), hin, fun i hi => ?_, fun i j hij hj => hap i j hij (by simpa using hj)⟩
    simp at hi
    rw [set_getD_self xss k [] ys hk i]
    by_cases e : i = k
    · subst e
      rw [if_pos rfl]
      exact ⟨hu, (hrows i hi).2⟩
    · rw [if_neg e]
      refine ⟨own_grown (hrows i hi).1 hg ?_, (hrows i hi).2⟩
      rcases Nat.lt_or_gt_of_ne e with h' | h'
      · exact hap i k h' hk
      · rcases hap k i h' hi with h2 | h2
        · rw [h2]
          cases e1 : (vs.getD i undef).ownBlock with
          | none => exact .inl rfl
          | some q => exact .inr (by simp)
        · exact .inr fun e => h2 e.symm

set_option maxHeartbeats 1600000 in
theorem markIntSS_v (v : Value) (B S : Nat) (m : Int) (xss : List (List Int)) (w : World) (ho : OwnM w B S v xss) (hl : xss.length ≤ 4611686018427387904) (ht : total xss ≤ 2305843009213693952) (h0 : 0 ≤ m) (h1 : m ≤ 1152921504606846976) :
    Calls Try.prog 23 #[v, .int .i64 m] w fun e w' => e = .returned (.int .i64 (m + total xss)) ∧ OwnM w' B S v (markRows m xss) ∧ Touch w w' B S := by
  have HO := ho
  obtain ⟨vs, _, hv, _⟩ := ownM_parts ho
  rcases hv with ⟨rfl, rfl⟩ | ⟨g, cap, rfl, _⟩
  · go_enter Try.func23, Try.ntmps23
    go_wp2
    refine wp_loop_rounds 1 ?_
    rw [rounds_succ]
    go_wp2
    go_ret
    exact ⟨ret_int (by simp [total]), HO, Touch.refl _ _ _⟩
  · obtain ⟨n, hn⟩ : ∃ n, n = xss.length := ⟨_, rfl⟩
    rw [← hn] at hl HO ⊢
    have HN := Lib.hid hn
    clear hn ho
    obtain ⟨T, hT⟩ : ∃ T, T = total xss := ⟨_, rfl⟩
    rw [← hT] at ht
    have HT := Lib.hid hT
    clear hT
    go_enter Try.func23, Try.ntmps23
    go_wp2
    go_loopw [1, 5] (fun u i wr => ∃ k t : Nat, k ≤ n ∧ i = .int .i64 k ∧ u = .int .i64 (m + t) ∧ t = total (xss.take k) ∧ OwnM wr B S (.slice (some ⟨g, 0, none⟩) n cap) ((markRows m xss).take k ++ xss.drop k) ∧ Touch w wr B S)
      (fun _ i _ => n - (intOf i).toNat)
    case atStart => exact ⟨0, 0, Nat.zero_le _, rfl, by simp, by simp [total], by simpa using HO, Touch.refl _ _ _⟩
    case round =>
      obtain ⟨k, t, hk, rfl, rfl, htk, hown, htouch⟩ := hrel
      have hle := total_take_le xss k
      rw [← htk, ← HT.out] at hle
      have HTK := Lib.hid htk
      clear htk
      by_cases hlt : k < n
      · have hlr : ((markRows m xss).take k ++ xss.drop k).length = n := by have := HN.out; simp [markRows_length]; omega
        obtain ⟨u, hcu, hou, hiu, hset⟩ := ownM_row hown k (by omega)
        have hrow : ((markRows m xss).take k ++ xss.drop k).getD k [] = xss.getD k [] := by
          have h2 : ((markRows m xss).take k).length = k := by have := HN.out; simp [markRows_length]; omega
          rw [List.getD_eq_getElem?_getD, List.getElem?_append_right (by omega), h2, Nat.sub_self, List.getElem?_drop, Nat.add_zero, ← List.getD_eq_getElem?_getD]
        rw [hrow] at hou
        have hst := mark_stageM xss m k (by have := HN.out; omega)
        have hlk := len_le_total xss k (by have := HN.out; omega)
        have htt := total_take_succ xss k (by have := HN.out; omega)
        have hle2 := total_take_le xss (k + 1)
        obtain ⟨ys, hys⟩ : ∃ ys, ys = xss.getD k [] := ⟨_, rfl⟩
        rw [← hys] at hou hst hlk htt
        rw [← HTK.out] at hst htt
        rw [← HT.out] at hlk hle2
        rw [htt] at hle2
        have HST := Lib.hid hst
        have HTT := Lib.hid htt
        have HOU := Lib.hid hou
        have HSET := Lib.hid hset
        clear hst htt hou hset hown hlr hrow hys
        go_wp2_with fail
        refine (markIntS_v _ _ _ ys _ HOU.out (by omega) (by omega) (by omega)).mono ?_
        rintro e w2 ⟨rfl, hu2, hg2, hsz⟩
        have hnew := HSET.out w2 _ hu2 hg2
        rw [HST.out] at hnew
        have htch := htouch.trans (touch_of_grown hg2 hsz hiu)
        have HNEW := Lib.hid hnew
        clear hnew hsz hg2 hu2
        go_wp2
        go_roundw
        case rel => exact ⟨k + 1, t + ys.length, by omega, by go_num, by congr 1; omega, HTT.out.symm, HNEW.out, htch⟩
        case measure => simp [intOf]; omega
      · have hkn : k = n := by omega
        subst hkn
        go_wp2
        go_ret
        have htk := HTK.out
        rw [HN.out, List.take_length] at htk
        rw [List.take_of_length_le (by rw [markRows_length, ← HN.out]; omega), List.drop_of_length_le (by rw [← HN.out]; omega), List.append_nil] at hown
        exact ⟨ret_int (by rw [htk]), hown, htouch⟩

theorem szIntS_any (ao : Option Addr) (n ca : Nat) (left : Int) (w : World) (h0 : 0 ≤ left) (h1 : left ≤ 1048576) (hn : n ≤ 9223372036854775807) :
    Calls Try.prog 42 #[.slice ao n ca, .int .i64 left] w fun e w' => e = .returned (.int .i64 (if (n : Int) ≤ left then left - n else -1)) ∧ w = w' := by
  by_cases h : (n : Int) ≤ left
  · rw [if_pos h]
    have hlt : ¬ (left - n < 0) := by omega
    go_enter Try.func42, Try.ntmps42
    go_wp2
    go_ret
    exact ⟨rfl, rfl⟩
  · rw [if_neg h]
    have hlt : left - n < 0 := by omega
    go_enter Try.func42, Try.ntmps42
    go_wp2
    go_ret
    exact ⟨rfl, rfl⟩

def szM (xss : List (List Int)) : Int := if xss.length + total xss ≤ 1048576 then 1048576 - (xss.length : Int) - (total xss : Int) else -1

set_option maxHeartbeats 1600000 in
theorem szIntSS_v (v : Value) (xss : List (List Int)) (w : World) (hv : RdM w v xss) : Calls Try.prog 13 #[v, .int .i64 1048576] w fun e w' => e = .returned (.int .i64 (szM xss)) ∧ w = w' := by
  obtain ⟨ao, ca, vs, hvl, rfl, h1, h2, h3, h4⟩ := hv
  unfold maxLen at h2
  obtain ⟨n, hn⟩ : ∃ n, n = xss.length := ⟨_, rfl⟩
  have HM : Hid (szM xss = if n + total xss ≤ 1048576 then 1048576 - (n : Int) - (total xss : Int) else -1) := by
    show szM xss = _
    rw [hn]
    rfl
  rw [← hn] at h1 ⊢
  have HN := Lib.hid hn
  have H3 := Lib.hid h3
  have H4 := Lib.hid h4
  clear hn h3 h4 hvl
  by_cases hbig : 1048576 < n
  · have hlt : (1048576 : Int) - n < 0 := by omega
    go_enter Try.func13, Try.ntmps13
    go_wp2
    go_ret
    exact ⟨ret_int (by rw [HM.out, if_neg (by omega)]), rfl⟩
  · have hlt : ¬ ((1048576 : Int) - n < 0) := by omega
    go_enter Try.func13, Try.ntmps13
    go_wp2
    go_loop [1, 5] (fun u i => ∃ (k : Nat) (l : Int), k ≤ n ∧ i = .int .i64 k ∧ u = .int .i64 l ∧ 0 ≤ l ∧ l ≤ 1048576 ∧ l = 1048576 - (n : Int) - (total (xss.take k) : Int)) (fun _ i => n - (intOf i).toNat)
    case atStart => exact ⟨0, 1048576 - n, Nat.zero_le _, rfl, rfl, by omega, by omega, by simp [total]⟩
    case round =>
      obtain ⟨k, l, hk, rfl, rfl, hl0, hl1, hl⟩ := hrel
      have HL := Lib.hid hl
      clear hl
      by_cases hkn : k < n
      · rcases H3.out with hx | ⟨b, off, rfl, hc⟩
        · have := HN.out
          rw [hx] at this
          simp at this
          omega
        · have hck := hc k (by have := HN.out; omega)
          have hrow := H4.out k (by have := HN.out; omega)
          have htt := total_take_succ xss k (by have := HN.out; omega)
          have htl := total_take_le xss (k + 1)
          obtain ⟨row, hrw⟩ : ∃ row, row = xss.getD k [] := ⟨_, rfl⟩
          obtain ⟨z, hz⟩ : ∃ z, z = vs.getD k undef := ⟨_, rfl⟩
          rw [← hz] at hck hrow
          rw [← hrw] at hrow htt
          obtain ⟨zo, zc, rfl, _, hzl, hzc⟩ := hrow
          unfold maxLen at hzc
          obtain ⟨q, hq⟩ : ∃ q, q = row.length := ⟨_, rfl⟩
          rw [← hq] at hck htt hzl
          have HTT := Lib.hid htt
          clear hc hz hrw hq htt
          by_cases hql : (q : Int) ≤ l
          · go_wp2_with fail
            refine (szIntS_any zo q zc l _ hl0 hl1 (by omega)).mono ?_
            rintro e w' ⟨rfl, rfl⟩
            rw [if_pos hql]
            have hpos : ¬ (l - q < 0) := by omega
            go_wp2
            go_round
            case rel => exact ⟨k + 1, l - q, by omega, by go_num, rfl, by omega, by omega, by have := HL.out; have := HTT.out; omega⟩
            case measure => simp [intOf]; omega
          · go_wp2_with fail
            refine (szIntS_any zo q zc l _ hl0 hl1 (by omega)).mono ?_
            rintro e w' ⟨rfl, rfl⟩
            rw [if_neg (by omega)]
            go_wp2
            go_ret
            exact ⟨ret_int (by have := HL.out; have := HTT.out; rw [HM.out, if_neg (by omega)]), rfl⟩
      · have hke : k = n := by omega
        subst hke
        go_wp2
        go_ret
        have hl := HL.out
        rw [HN.out, List.take_length, ← HN.out] at hl
        exact ⟨ret_int (by rw [HM.out, if_pos (by omega), hl]), rfl⟩

theorem rdM_of_rows {w : World} {a : Addr} {len cap : Nat} {A : Nat → Option Addr} {L C : Nat → Nat} {Z : Nat → List Int} (hlc : len ≤ cap) (hm : cap ≤ maxLen)
    (h : ∀ r, r < cap → w.cell? (a.add r) = some (.slice (A r) (L r) (C r)) ∧ L r ≤ C r ∧ C r ≤ maxLen ∧ (Z r).length = C r ∧ (∀ n ∈ Z r, (Lit.int .i64 n).wf = true) ∧ (A r = none → C r = 0) ∧
      ∀ a', A r = some a' → 0 ≤ a'.block ∧ ∀ c, c < C r → w.cell? (a'.add c) = some (.int .i64 ((Z r).getD c 0))) :
    RdM w (.slice (some a) len cap) ((List.range len).map fun r => (Z r).take (L r)) := by
  refine ⟨some a, cap, (List.range len).map fun r => Value.slice (A r) (L r) (C r), by simp, by simp, by simpa using hlc, hm, ?_, ?_⟩
  · by_cases h0 : len = 0
    · exact .inl (by simp [h0])
    · obtain ⟨b, off, spot⟩ := a
      have hc0 := (h 0 (by omega)).1
      have hspot : spot = none := by simpa [Addr.add] using World.cell?_spot hc0
      subst hspot
      refine .inr ⟨b, off, rfl, fun i hi => ?_⟩
      have hi' : i < len := by simpa using hi
      have := (h i (by omega)).1
      rw [Addr.add_lit] at this
      rw [this]
      simp [List.getD, hi']
  · intro i hi
    have hi' : i < len := by simpa using hi
    obtain ⟨_, h2, h3, h4, h5, h6, h7⟩ := h i (by omega)
    have e1 : ((List.range len).map fun r => Value.slice (A r) (L r) (C r)).getD i undef = .slice (A i) (L i) (C i) := by simp [List.getD, hi']
    have e2 : ((List.range len).map fun r => (Z r).take (L r)).getD i [] = (Z i).take (L i) := by simp [List.getD, hi']
    rw [e1, e2]
    have hrow : IsRow .i64 w (A i) (L i) (C i) (Z i) := by
      cases hA : A i with
      | none =>
        have hc := h6 hA
        exact .inl ⟨rfl, by omega, hc, List.eq_nil_of_length_eq_zero (by omega)⟩
      | some a' => exact .inr ⟨a', rfl, h2, h3, h4, fun c hc => (h7 a' hA).2 c (by omega), h5⟩
    rcases hrow with ⟨ha, hl, hc, hz⟩ | ⟨x, ha, hl, hc, hz, hcell, hw⟩
    · rw [ha, hl, hc, hz]
      exact ⟨none, 0, rfl, .inl rfl, Nat.le_refl _, Nat.zero_le _⟩
    · rw [ha]
      refine ⟨some x, C i, by congr 1; simp; omega, ?_, by simp; omega, hc⟩
      by_cases h0 : L i = 0
      · exact .inl (by simp [h0])
      · obtain ⟨b, off, spot⟩ := x
        have hc0 := hcell 0 (by omega)
        have hspot : spot = none := by simpa [Addr.add] using World.cell?_spot hc0
        subst hspot
        refine .inr ⟨b, off, rfl, fun j hj => ?_⟩
        have hj' : j < L i := by simp at hj; omega
        have := hcell j (by omega)
        rw [Addr.add_lit] at this
        rw [this]
        simp [List.getD, List.getElem?_take, hj']

end Go.Proofs.Ytieldehghmikkaa
