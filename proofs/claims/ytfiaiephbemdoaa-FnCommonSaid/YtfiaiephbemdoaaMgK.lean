/-
  What the laws of this claim lean on: what functions of the program and of the model answer, one after another, and plain mathematics. No condition.
-/
import Derived.Test.YtfiaiephbemdoaaMgH
import Derived.Test.YtfiaiephbemdoaaMgI
import Derived.Test.YtfiaiephbemdoaaMgJ
import Derived.Deep.RegionHeld3
import Derived.Carry

set_option maxHeartbeats 800000
set_option linter.unusedVariables false
set_option linter.unusedSimpArgs false
set_option linter.unnecessarySimpa false
set_option maxRecDepth 100000

namespace Go.Proofs.Ytfiaiephbemdoaa

section
open Go.RowKit

theorem own_nilV (w : World) (B : Nat) : Own w B (.slice none 0 0) [] := World.ownsRow_nil _ _ _ _
theorem inB_nil (B S : Nat) : InB (.slice none 0 0) B S := fun k hk => by simp [Value.ownBlock] at hk

theorem ownM_made {w1 : World} {B g n c S : Nat} (h : w1.ownsRow B 25 1 (.slice (some ⟨g, 0, none⟩) n c) n (madeCells #[Value.slice none 0 0] n).toList) (hg : B ≤ g ∧ g < S) : OwnM w1 B S (.slice (some ⟨g, 0, none⟩) n c) (List.replicate n []) := by
  rw [toList_madeCells_one] at h
  have hv : ∀ i, i < n → (List.replicate n (Value.slice none 0 0)).getD i undef = .slice none 0 0 := fun i hi => by simp [List.getD, hi]
  refine ⟨List.replicate n (.slice none 0 0), by simp, by simpa using h, fun k hk => by simp [Value.ownBlock] at hk; omega, fun i hi => ?_, fun i j hij hj => ?_⟩
  · simp at hi
    rw [hv i hi, show (List.replicate n ([] : List Int)).getD i [] = [] by simp [List.getD, hi]]
    exact ⟨own_nilV _ _, inB_nil _ _⟩
  · simp at hj
    rw [hv i (by omega)]
    exact .inl rfl

theorem ownM_stored {w : World} {B S g n cap : Nat} {xss : List (List Int)} (h : OwnM w B S (.slice (some ⟨g, 0, none⟩) n cap) xss) (hn : n = xss.length) (k : Nat) (hk : k < n) (u : Value) (ys : List Int) (hu : Own w B u ys) (hui : InB u S w.heap.size) (hBS : B ≤ S) (hSw : S ≤ w.heap.size) :
    OwnM (w.setCell ⟨g, k, none⟩ u) B w.heap.size (.slice (some ⟨g, 0, none⟩) n cap) (xss.set k ys) ∧ w.grownBy (w.setCell ⟨g, k, none⟩ u) (some g) := by
  subst hn
  obtain ⟨vs, hvl, hrow, hin, hrows, hap⟩ := h
  obtain ⟨hst, hgr⟩ := World.ownsRow.stored hrow k u
  have hgB := hin g rfl
  have hne : ∀ z : Value, ∀ zs : List Int, Own w B z zs → z.ownBlock = none ∨ z.ownBlock ≠ some g := by
    intro z zs hz
    rcases hz.2 with ⟨rfl, _⟩ | ⟨gz, capz, curz, rfl, _, hgz, _⟩
    · exact .inl rfl
    · refine .inr fun e => ?_
      simp [Value.ownBlock] at e
      subst e
      rcases hrow.2 with ⟨h3, _⟩ | ⟨g3, cap3, cur3, h3, _, hg3, _⟩
      · cases h3
      · cases h3
        rw [hgz] at hg3
        simp at hg3
  have hset : ∀ {α : Type} (l : List α) (x d : α) (i : Nat), k < l.length → (l.set k x).getD i d = if i = k then x else l.getD i d := by
    intro α l x d i hl
    rw [List.getD_eq_getElem?_getD, List.getElem?_set]
    by_cases e : k = i
    · subst e
      simp [hl]
    · rw [if_neg e, if_neg (fun e' => e e'.symm), ← List.getD_eq_getElem?_getD]
  refine ⟨⟨vs.set k u, by simp [hvl], by simpa using hst, fun q hq => by have := hin q hq; omega, fun i hi => ?_, fun i j hij hj => ?_⟩, hgr⟩
  · simp at hi
    rw [hset vs u undef i (by omega), hset xss ys [] i (by omega)]
    by_cases e : i = k
    · rw [if_pos e, if_pos e]
      exact ⟨own_grown hu hgr (hne _ _ hu), inB_mono hui hBS (Nat.le_refl _)⟩
    · rw [if_neg e, if_neg e]
      exact ⟨own_grown (hrows i hi).1 hgr (hne _ _ (hrows i hi).1), inB_mono (hrows i hi).2 (Nat.le_refl _) hSw⟩
  · simp at hj
    rw [hset vs u undef i (by omega), hset vs u undef j (by omega)]
    by_cases ei : i = k
    · rw [if_pos ei, if_neg (by omega)]
      cases e1 : u.ownBlock with
      | none => exact .inl e1
      | some q =>
        refine .inr fun e => ?_
        rw [e1] at e
        have := hui q e1
        have := (hrows j hj).2 q e.symm
        omega
    · rw [if_neg ei]
      by_cases ej : j = k
      · rw [if_pos ej]
        cases e1 : (vs.getD i undef).ownBlock with
        | none => exact .inl e1
        | some q =>
          refine .inr fun e => ?_
          rw [e1] at e
          have := (hrows i (by omega)).2 q e1
          have := hui q e.symm
          omega
      · rw [if_neg ej]
        exact hap i j hij hj

theorem stageM (xss : List (List Int)) (k : Nat) (h : k < xss.length) : (xss.take k ++ List.replicate (xss.length - k) []).set k (xss.getD k []) = xss.take (k + 1) ++ List.replicate (xss.length - (k + 1)) [] := by
  have hk : (xss.take k).length = k := by simp; omega
  rw [List.set_append_right _ _ (by omega), hk, Nat.sub_self, show xss.length - k = (xss.length - (k + 1)) + 1 by omega, List.replicate_succ, List.set_cons_zero, List.take_succ_eq_append_getElem h, List.append_assoc]
  simp [List.getD, h]

def total (xss : List (List Int)) : Nat := (xss.map List.length).sum
theorem total_cons (xs : List Int) (xss : List (List Int)) : total (xs :: xss) = xs.length + total xss := by simp [total]
theorem len_le_total (xss : List (List Int)) (i : Nat) (h : i < xss.length) : (xss.getD i []).length ≤ total xss := by
  induction xss generalizing i with
  | nil => simp at h
  | cons xs xss ih =>
    rw [total_cons]
    cases i with
    | zero => simp
    | succ i => have := ih i (by simpa using h); simp only [List.getD_cons_succ]; omega

set_option maxHeartbeats 1600000 in
theorem toIntSS_v (v : Value) (xss : List (List Int)) (w : World) (hv : RdM w v xss) (hl : xss.length ≤ 1048576) (hr : ∀ i, i < xss.length → (xss.getD i []).length ≤ 1048576) : Calls (cutP Try.prog) 23 #[v] w (FreshM w xss) := by
  obtain ⟨ao, ca, vs, hvl, rfl, h1, h2, h3, h4⟩ := hv
  obtain ⟨n, hn⟩ : ∃ n, n = xss.length := ⟨_, rfl⟩
  rw [← hn]
  rw [← hn] at hl
  have HN := Lib.hid hn
  have H3 := Lib.hid h3
  have H4 := Lib.hid h4
  have HR := Lib.hid hr
  clear hn h3 h4 hr hvl
  obtain ⟨i0, hi, hz0, hz1, hz2⟩ := info_parts Try.infoInts
  go_enter Tryp.func23, Tryp.ntmps23
  go_wp2_with (at_make; refine wpList_make_full _ rfl _ _ 23 rfl w.heap.size 25 i0 (.slice none 0 0) 1 Tryp.underlying23 hi hz0 hz1 _ _ _ _ n rfl rfl rfl rfl (by rw [hz2]; omega) (by unfold maxLen; omega) (Nat.le_refl _) ?_)
  intro w1 hown1 hgrow1
  have hb1 : Below w.heap.size w w1 := (Below.refl _ _).grown hgrow1 (Nat.le_refl _) (fun k h => by cases h)
  have hgs : w.heap.size < w1.heap.size := by
    rcases hown1.2 with ⟨h, _⟩ | ⟨g, cap, cur, h, _, hg, _⟩
    · cases h
    · cases h
      exact (Array.getElem?_eq_some_iff.1 hg).1
  have hown := ownM_made (S := w1.heap.size) hown1 ⟨Nat.le_refl _, hgs⟩
  clear hown1 hgrow1
  go_wp2
  go_loopw [4] (fun i wr => ∃ k : Nat, k ≤ n ∧ i = .int .i64 k ∧ OwnM wr w.heap.size wr.heap.size (.slice (some ⟨w.heap.size, 0, none⟩) n n) (xss.take k ++ List.replicate (n - k) []) ∧ Below w.heap.size w wr)
    (fun i _ => n - (intOf i).toNat)
  case atStart => exact ⟨0, Nat.zero_le _, rfl, by simpa using hown, hb1⟩
  case round =>
    obtain ⟨k, hk, rfl, hown, hbel⟩ := hrel
    by_cases hlt : k < n
    · rcases H3.out with hx | ⟨b, off, rfl, hc⟩
      · have := HN.out
        rw [hx] at this
        simp at this
        omega
      · have hck : wr.cell? ⟨b, off + k, none⟩ = some (vs.getD k undef) := by
          have := hc k (by have := HN.out; omega)
          rw [hbel.cell (World.block_lt_of_cell? w _ this)]
          exact this
        clear hc
        have hrk : RdV wr (vs.getD k undef) (xss.getD k []) := rdv_below (H4.out k (by have := HN.out; omega)) (by exact ⟨hbel.os, hbel.tape, hbel.output, hbel.size, hbel.block⟩)
        obtain ⟨z, hz⟩ : ∃ z, z = vs.getD k undef := ⟨_, rfl⟩
        rw [← hz] at hck hrk
        clear hz
        have hys0 := HR.out k (by have := HN.out; omega)
        have hs := stageM xss k (by have := HN.out; omega)
        rw [← HN.out] at hs
        obtain ⟨ys, hys⟩ : ∃ ys, ys = xss.getD k [] := ⟨_, rfl⟩
        rw [← hys] at hrk hys0 hs
        have HS := Lib.hid hs
        have HO := Lib.hid hown
        have HRK := Lib.hid hrk
        clear hown hrk hys hs
        go_wp2_with fail
        refine (toIntS_v _ ys _ HRK.out hys0).mono ?_
        rintro e w2 ⟨u, he, hu, hb2⟩
        obtain ⟨uo, uc, rfl, _⟩ := own_rd hu
        subst he
        have hlr : (xss.take k ++ List.replicate (n - k) []).length = n := by have := HN.out; simp; omega
        have hO2 := ownM_below HO.out hb2
        obtain ⟨hst, hgs2⟩ := ownM_stored hO2 hlr.symm k hlt _ ys (own_mono hu hbel.size) (inB_of_own hu) hbel.size hb2.size
        have hfz := ownM_frozen hO2 k
        obtain ⟨v0, hv0, _⟩ := ownM_cell hO2 k (by omega)
        have hbel2 : Below w.heap.size w w2 := below_step hbel hb2
        rw [HS.out] at hst
        have HST := Lib.hid hst
        have hsz : (w2.setCell ⟨w.heap.size, k, none⟩ (.slice uo ys.length uc)).heap.size = w2.heap.size := by simp [World.setCell]
        have HSZ := Lib.hid hsz
        clear hst hgs2 hO2 hu hsz hlr
        go_wp2
        go_roundw
        case rel => exact ⟨k + 1, by omega, by go_num, by rw [HSZ.out]; exact HST.out, hbel2.setCell (Nat.le_refl _) _⟩
        case measure => simp [intOf]; omega
    · have hkn : k = n := by omega
      subst hkn
      go_wp2
      go_ret
      rw [Nat.sub_self, List.replicate_zero, List.append_nil, HN.out, List.take_length, ← HN.out] at hown
      exact ⟨_, rfl, hown, hbel⟩

set_option maxRecDepth 100000 in
set_option maxHeartbeats 1600000 in
theorem eqIntSS_v (v u : Value) (xss : List (List Int)) (w : World) (hv : RdM w v xss) (hu : RdM w u xss) : Calls (cutP Try.prog) 25 #[v, u] w fun e w' => e = .returned (.bool true) ∧ Same w w' := by
  obtain ⟨ao, ca, vs, hvl, rfl, h1, h2, h3, h4⟩ := hv
  obtain ⟨bo, cb, us, hul, rfl, k1, k2, k3, k4⟩ := hu
  unfold maxLen at h2 k2
  obtain ⟨n, hn⟩ : ∃ n, n = xss.length := ⟨_, rfl⟩
  rw [← hn] at h1 k1 ⊢
  have HN := Lib.hid hn
  have H3 := Lib.hid h3
  have H4 := Lib.hid h4
  have K3 := Lib.hid k3
  have K4 := Lib.hid k4
  clear hn h3 h4 k3 k4 hvl hul
  go_enter Tryp.func25, Tryp.ntmps25
  go_wp2
  go_loopw [5] (fun i wr => ∃ k : Nat, k ≤ n ∧ i = .int .i64 k ∧ Same w wr) (fun i _ => n - (intOf i).toNat)
  case atStart => exact ⟨0, Nat.zero_le _, rfl, Same.refl w⟩
  case round =>
    obtain ⟨k, hk, rfl, hsr⟩ := hrel
    by_cases hlt : k < n
    · rcases H3.out with hx | ⟨b, off, rfl, hc⟩
      · have := HN.out
        rw [hx] at this
        simp at this
        omega
      · rcases K3.out with hy | ⟨b2, off2, rfl, hc2⟩
        · have := HN.out
          rw [hy] at this
          simp at this
          omega
        · have hck := hc k (by have := HN.out; omega)
          have hck2 := hc2 k (by have := HN.out; omega)
          rw [← (hsr _).cell (World.block_lt_of_cell? w _ hck)] at hck
          rw [← (hsr _).cell (World.block_lt_of_cell? w _ hck2)] at hck2
          have hr := rdv_below (H4.out k (by have := HN.out; omega)) (hsr _)
          have hr2 := rdv_below (K4.out k (by have := HN.out; omega)) (hsr _)
          clear hc hc2
          obtain ⟨z, hz⟩ : ∃ z, z = vs.getD k undef := ⟨_, rfl⟩
          obtain ⟨y, hy⟩ : ∃ y, y = us.getD k undef := ⟨_, rfl⟩
          rw [← hz] at hck hr
          rw [← hy] at hck2 hr2
          have HR := Lib.hid hr
          have HR2 := Lib.hid hr2
          have c1 : (k : Int) < n := by omega
          have c2 : (0 : Int) ≤ (k : Int) := by omega
          clear hz hy hr hr2
          go_wp2
          go_region_held3 (fun w' => w'.cell? ⟨b, off + k, none⟩ = some z ∧ w'.cell? ⟨b2, off2 + k, none⟩ = some y) (first | exact ⟨hck, hck2⟩ | exact ⟨by rw [(hs2 _).cell (World.block_lt_of_cell? wr _ hck)]; exact hck, by rw [(hs2 _).cell (World.block_lt_of_cell? wr _ hck2)]; exact hck2⟩) (first | (go_at_call 24; refine (eqIntS_v z y _ _ (rdv_below HR.out (Below.refl _ _).drew) (rdv_below HR2.out (Below.refl _ _).drew)).mono ?_; rintro e w2 ⟨rfl, hs1⟩; have hs2 : Same wr w2 := fun B => (Below.refl _ _).drew.trans (hs1 B)))
          go_wp2
          go_roundw
          case rel => exact ⟨k + 1, by omega, by go_num, hsr.trans hs2⟩
          case measure => simp [intOf]; omega
    · go_wp2
      go_ret
      exact ⟨rfl, hsr⟩

def markRows : Int → List (List Int) → List (List Int)
  | _, [] => []
  | m, xs :: xss => iota m xs.length :: markRows (m + xs.length) xss

theorem markRows_length : ∀ (xss : List (List Int)) (m : Int), (markRows m xss).length = xss.length := by
  intro xss
  induction xss with
  | nil => intro m; rfl
  | cons xs xss ih => intro m; simp [markRows, ih]

theorem markRows_getD : ∀ (xss : List (List Int)) (m : Int) (k : Nat), k < xss.length → (markRows m xss).getD k [] = iota (m + total (xss.take k)) (xss.getD k []).length := by
  intro xss
  induction xss with
  | nil => intro m k hk; simp at hk
  | cons xs xss ih =>
    intro m k hk
    cases k with
    | zero => simp [markRows, total]
    | succ k =>
      have := ih (m + xs.length) k (by simpa using hk)
      simp only [markRows, List.getD_cons_succ, this, List.take_succ_cons, total_cons]
      congr 1
      omega

theorem total_take_succ (xss : List (List Int)) (k : Nat) (h : k < xss.length) : total (xss.take (k + 1)) = total (xss.take k) + (xss.getD k []).length := by
  unfold total
  rw [List.take_succ_eq_append_getElem h, List.map_append, List.sum_append]
  simp [List.getD, h]

theorem total_take_le (xss : List (List Int)) (k : Nat) : total (xss.take k) ≤ total xss := by
  induction xss generalizing k with
  | nil => simp
  | cons xs xss ih =>
    cases k with
    | zero => simp [total]
    | succ k => rw [List.take_succ_cons, total_cons, total_cons]; have := ih k; omega

theorem set_getD_self {α : Type} (l : List α) (k : Nat) (d x : α) (h : k < l.length) (i : Nat) : (l.set k x).getD i d = if i = k then x else l.getD i d := by
  rw [List.getD_eq_getElem?_getD, List.getElem?_set]
  by_cases e : k = i
  · subst e
    simp [h]
  · rw [if_neg e, if_neg (fun e' => e e'.symm), ← List.getD_eq_getElem?_getD]

theorem mark_stageM (xss : List (List Int)) (m : Int) (k : Nat) (h : k < xss.length) :
    ((markRows m xss).take k ++ xss.drop k).set k (iota (m + total (xss.take k)) (xss.getD k []).length) = (markRows m xss).take (k + 1) ++ xss.drop (k + 1) := by
  have hk : ((markRows m xss).take k).length = k := by simp [markRows_length]; omega
  rw [← markRows_getD xss m k h, List.set_append_right _ _ (by omega), hk, Nat.sub_self, List.drop_eq_getElem_cons h, List.set_cons_zero, List.take_succ_eq_append_getElem (by rw [markRows_length]; exact h), List.append_assoc]
  simp [List.getD, markRows_length, h]

theorem ownM_row {w : World} {B S g n cap : Nat} {xss : List (List Int)} (h : OwnM w B S (.slice (some ⟨g, 0, none⟩) n cap) xss) (k : Nat) (hk : k < xss.length) :
    ∃ u, w.cell? ⟨g, k, none⟩ = some u ∧ Own w B u (xss.getD k []) ∧ InB u B S ∧ ∀ w' ys, Own w' B u ys → w.grownBy w' u.ownBlock → OwnM w' B S (.slice (some ⟨g, 0, none⟩) n cap) (xss.set k ys) := by
  obtain ⟨vs, hvl, hrow, hin, hrows, hap⟩ := h
  have hlen : n = xss.length := by
    rcases hrow.2 with ⟨h1, _⟩ | ⟨g', cap', cur, h1, _⟩
    · cases h1
    · simp only [Value.slice.injEq] at h1
      exact h1.2.1
  refine ⟨vs.getD k undef, ?_, (hrows k hk).1, (hrows k hk).2, fun w' ys hu hg => ?_⟩
  · subst hlen
    rw [World.ownsRow.cellAt hrow k (by omega)]
    simp [List.getD, hvl, hk]
  · have hgne : (Value.slice (some ⟨g, 0, none⟩) n cap).ownBlock ≠ (vs.getD k undef).ownBlock := by
      intro e
      rcases (hrows k hk).1.2 with ⟨h3, _⟩ | ⟨gz, capz, curz, h3, _, hgz, _⟩
      · rw [h3] at e
        simp [Value.ownBlock] at e
      · rw [h3] at e
        simp [Value.ownBlock] at e
        subst e
        rcases hrow.2 with ⟨h1, _⟩ | ⟨g', cap', cur, h1, _, hg', _⟩
        · cases h1
        · simp only [Value.slice.injEq, Option.some.injEq, Addr.mk.injEq, and_true, true_and] at h1
          obtain ⟨rfl, _⟩ := h1
          rw [hgz] at hg'
          simp at hg'
    refine ⟨vs, by simp [hvl], by rw [List.length_set]; exact World.ownsRow.kept hrow hg (.inr hgne), hin, fun i hi => ?_, fun i j hij hj => hap i j hij (by simpa using hj)⟩
    simp at hi
    rw [set_getD_self xss k [] ys hk i]
    by_cases e : i = k
    · subst e
      rw [if_pos rfl]
      exact ⟨hu, (hrows i hi).2⟩
    · rw [if_neg e]
      refine ⟨own_grown (hrows i hi).1 hg ?_, (hrows i hi).2⟩
      rcases Nat.lt_or_gt_of_ne e with h' | h'
      · exact hap i k h' hk
      · rcases hap k i h' hi with h2 | h2
        · rw [h2]
          cases e1 : (vs.getD i undef).ownBlock with
          | none => exact .inl rfl
          | some q => exact .inr (by simp)
        · exact .inr fun e => h2 e.symm

set_option maxHeartbeats 1600000 in
theorem markIntSS_v (v : Value) (B S : Nat) (m : Int) (xss : List (List Int)) (w : World) (ho : OwnM w B S v xss) (hl : xss.length ≤ 4611686018427387904) (ht : total xss ≤ 2305843009213693952) (h0 : 0 ≤ m) (h1 : m ≤ 1152921504606846976) :
    Calls (cutP Try.prog) 26 #[v, .int .i64 m] w fun e w' => e = .returned (.int .i64 (m + total xss)) ∧ OwnM w' B S v (markRows m xss) ∧ Touch w w' B S := by
  have HO := ho
  obtain ⟨vs, _, hv, _⟩ := ownM_parts ho
  rcases hv with ⟨rfl, rfl⟩ | ⟨g, cap, rfl, _⟩
  · go_enter Tryp.func26, Tryp.ntmps26
    go_wp2
    refine wp_loop_rounds 1 ?_
    rw [rounds_succ]
    go_wp2
    go_ret
    exact ⟨ret_int (by simp [total]), HO, Touch.refl _ _ _⟩
  · obtain ⟨n, hn⟩ : ∃ n, n = xss.length := ⟨_, rfl⟩
    rw [← hn] at hl HO ⊢
    have HN := Lib.hid hn
    clear hn ho
    obtain ⟨T, hT⟩ : ∃ T, T = total xss := ⟨_, rfl⟩
    rw [← hT] at ht
    have HT := Lib.hid hT
    clear hT
    go_enter Tryp.func26, Tryp.ntmps26
    go_wp2
    go_loopw [1, 5] (fun u i wr => ∃ k t : Nat, k ≤ n ∧ i = .int .i64 k ∧ u = .int .i64 (m + t) ∧ t = total (xss.take k) ∧ OwnM wr B S (.slice (some ⟨g, 0, none⟩) n cap) ((markRows m xss).take k ++ xss.drop k) ∧ Touch w wr B S)
      (fun _ i _ => n - (intOf i).toNat)
    case atStart => exact ⟨0, 0, Nat.zero_le _, rfl, by simp, by simp [total], by simpa using HO, Touch.refl _ _ _⟩
    case round =>
      obtain ⟨k, t, hk, rfl, rfl, htk, hown, htouch⟩ := hrel
      have hle := total_take_le xss k
      rw [← htk, ← HT.out] at hle
      have HTK := Lib.hid htk
      clear htk
      by_cases hlt : k < n
      · have hlr : ((markRows m xss).take k ++ xss.drop k).length = n := by have := HN.out; simp [markRows_length]; omega
        obtain ⟨u, hcu, hou, hiu, hset⟩ := ownM_row hown k (by omega)
        have hrow : ((markRows m xss).take k ++ xss.drop k).getD k [] = xss.getD k [] := by
          have h2 : ((markRows m xss).take k).length = k := by have := HN.out; simp [markRows_length]; omega
          rw [List.getD_eq_getElem?_getD, List.getElem?_append_right (by omega), h2, Nat.sub_self, List.getElem?_drop, Nat.add_zero, ← List.getD_eq_getElem?_getD]
        rw [hrow] at hou
        have hst := mark_stageM xss m k (by have := HN.out; omega)
        have hlk := len_le_total xss k (by have := HN.out; omega)
        have htt := total_take_succ xss k (by have := HN.out; omega)
        have hle2 := total_take_le xss (k + 1)
        obtain ⟨ys, hys⟩ : ∃ ys, ys = xss.getD k [] := ⟨_, rfl⟩
        rw [← hys] at hou hst hlk htt
        rw [← HTK.out] at hst htt
        rw [← HT.out] at hlk hle2
        rw [htt] at hle2
        have HST := Lib.hid hst
        have HTT := Lib.hid htt
        have HOU := Lib.hid hou
        have HSET := Lib.hid hset
        clear hst htt hou hset hown hlr hrow hys
        go_wp2_with fail
        refine (markIntS_v _ _ _ ys _ HOU.out (by omega) (by omega) (by omega)).mono ?_
        rintro e w2 ⟨rfl, hu2, hg2, hsz⟩
        have hnew := HSET.out w2 _ hu2 hg2
        rw [HST.out] at hnew
        have htch := htouch.trans (touch_of_grown hg2 hsz hiu)
        have HNEW := Lib.hid hnew
        clear hnew hsz hg2 hu2
        go_wp2
        go_roundw
        case rel => exact ⟨k + 1, t + ys.length, by omega, by go_num, by congr 1; omega, HTT.out.symm, HNEW.out, htch⟩
        case measure => simp [intOf]; omega
      · have hkn : k = n := by omega
        subst hkn
        go_wp2
        go_ret
        have htk := HTK.out
        rw [HN.out, List.take_length] at htk
        rw [List.take_of_length_le (by rw [markRows_length, ← HN.out]; omega), List.drop_of_length_le (by rw [← HN.out]; omega), List.append_nil] at hown
        exact ⟨ret_int (by rw [htk]), hown, htouch⟩

theorem szIntS_any (ao : Option Addr) (n ca : Nat) (left : Int) (w : World) (h0 : 0 ≤ left) (h1 : left ≤ 1048576) (hn : n ≤ 9223372036854775807) :
    Calls (cutP Try.prog) 49 #[.slice ao n ca, .int .i64 left] w fun e w' => e = .returned (.int .i64 (if (n : Int) ≤ left then left - n else -1)) ∧ w = w' := by
  by_cases h : (n : Int) ≤ left
  · rw [if_pos h]
    have hlt : ¬ (left - n < 0) := by omega
    go_enter Tryp.func49, Tryp.ntmps49
    go_wp2
    go_ret
    exact ⟨rfl, rfl⟩
  · rw [if_neg h]
    have hlt : left - n < 0 := by omega
    go_enter Tryp.func49, Tryp.ntmps49
    go_wp2
    go_ret
    exact ⟨rfl, rfl⟩

def szM (xss : List (List Int)) : Int := if xss.length + total xss ≤ 1048576 then 1048576 - (xss.length : Int) - (total xss : Int) else -1

set_option maxHeartbeats 1600000 in
theorem szIntSS_v (v : Value) (xss : List (List Int)) (w : World) (hv : RdM w v xss) : Calls (cutP Try.prog) 21 #[v, .int .i64 1048576] w fun e w' => e = .returned (.int .i64 (szM xss)) ∧ w = w' := by
  obtain ⟨ao, ca, vs, hvl, rfl, h1, h2, h3, h4⟩ := hv
  unfold maxLen at h2
  obtain ⟨n, hn⟩ : ∃ n, n = xss.length := ⟨_, rfl⟩
  have HM : Hid (szM xss = if n + total xss ≤ 1048576 then 1048576 - (n : Int) - (total xss : Int) else -1) := by
    show szM xss = _
    rw [hn]
    rfl
  rw [← hn] at h1 ⊢
  have HN := Lib.hid hn
  have H3 := Lib.hid h3
  have H4 := Lib.hid h4
  clear hn h3 h4 hvl
  by_cases hbig : 1048576 < n
  · have hlt : (1048576 : Int) - n < 0 := by omega
    go_enter Tryp.func21, Tryp.ntmps21
    go_wp2
    go_ret
    exact ⟨ret_int (by rw [HM.out, if_neg (by omega)]), rfl⟩
  · have hlt : ¬ ((1048576 : Int) - n < 0) := by omega
    go_enter Tryp.func21, Tryp.ntmps21
    go_wp2
    go_loop [1, 5] (fun u i => ∃ (k : Nat) (l : Int), k ≤ n ∧ i = .int .i64 k ∧ u = .int .i64 l ∧ 0 ≤ l ∧ l ≤ 1048576 ∧ l = 1048576 - (n : Int) - (total (xss.take k) : Int)) (fun _ i => n - (intOf i).toNat)
    case atStart => exact ⟨0, 1048576 - n, Nat.zero_le _, rfl, rfl, by omega, by omega, by simp [total]⟩
    case round =>
      obtain ⟨k, l, hk, rfl, rfl, hl0, hl1, hl⟩ := hrel
      have HL := Lib.hid hl
      clear hl
      by_cases hkn : k < n
      · rcases H3.out with hx | ⟨b, off, rfl, hc⟩
        · have := HN.out
          rw [hx] at this
          simp at this
          omega
        · have hck := hc k (by have := HN.out; omega)
          have hrow := H4.out k (by have := HN.out; omega)
          have htt := total_take_succ xss k (by have := HN.out; omega)
          have htl := total_take_le xss (k + 1)
          obtain ⟨row, hrw⟩ : ∃ row, row = xss.getD k [] := ⟨_, rfl⟩
          obtain ⟨z, hz⟩ : ∃ z, z = vs.getD k undef := ⟨_, rfl⟩
          rw [← hz] at hck hrow
          rw [← hrw] at hrow htt
          obtain ⟨zo, zc, rfl, _, hzl, hzc⟩ := hrow
          unfold maxLen at hzc
          obtain ⟨q, hq⟩ : ∃ q, q = row.length := ⟨_, rfl⟩
          rw [← hq] at hck htt hzl
          have HTT := Lib.hid htt
          clear hc hz hrw hq htt
          by_cases hql : (q : Int) ≤ l
          · go_wp2_with fail
            refine (szIntS_any zo q zc l _ hl0 hl1 (by omega)).mono ?_
            rintro e w' ⟨rfl, rfl⟩
            rw [if_pos hql]
            have hpos : ¬ (l - q < 0) := by omega
            go_wp2
            go_round
            case rel => exact ⟨k + 1, l - q, by omega, by go_num, rfl, by omega, by omega, by have := HL.out; have := HTT.out; omega⟩
            case measure => simp [intOf]; omega
          · go_wp2_with fail
            refine (szIntS_any zo q zc l _ hl0 hl1 (by omega)).mono ?_
            rintro e w' ⟨rfl, rfl⟩
            rw [if_neg (by omega)]
            go_wp2
            go_ret
            exact ⟨ret_int (by have := HL.out; have := HTT.out; rw [HM.out, if_neg (by omega)]), rfl⟩
      · have hke : k = n := by omega
        subst hke
        go_wp2
        go_ret
        have hl := HL.out
        rw [HN.out, List.take_length, ← HN.out] at hl
        exact ⟨ret_int (by rw [HM.out, if_pos (by omega), hl]), rfl⟩

theorem rdM_of_rows {w : World} {a : Addr} {len cap : Nat} {A : Nat → Option Addr} {L C : Nat → Nat} {Z : Nat → List Int} (hlc : len ≤ cap) (hm : cap ≤ maxLen)
    (h : ∀ r, r < cap → w.cell? (a.add r) = some (.slice (A r) (L r) (C r)) ∧ L r ≤ C r ∧ C r ≤ maxLen ∧ (Z r).length = C r ∧ (∀ n ∈ Z r, (Lit.int .i64 n).wf = true) ∧ (A r = none → C r = 0) ∧
      ∀ a', A r = some a' → 0 ≤ a'.block ∧ ∀ c, c < C r → w.cell? (a'.add c) = some (.int .i64 ((Z r).getD c 0))) :
    RdM w (.slice (some a) len cap) ((List.range len).map fun r => (Z r).take (L r)) := by
  refine ⟨some a, cap, (List.range len).map fun r => Value.slice (A r) (L r) (C r), by simp, by simp, by simpa using hlc, hm, ?_, ?_⟩
  · by_cases h0 : len = 0
    · exact .inl (by simp [h0])
    · obtain ⟨b, off, spot⟩ := a
      have hc0 := (h 0 (by omega)).1
      have hspot : spot = none := by simpa [Addr.add] using World.cell?_spot hc0
      subst hspot
      refine .inr ⟨b, off, rfl, fun i hi => ?_⟩
      have hi' : i < len := by simpa using hi
      have := (h i (by omega)).1
      rw [Addr.add_lit] at this
      rw [this]
      simp [List.getD, hi']
  · intro i hi
    have hi' : i < len := by simpa using hi
    obtain ⟨_, h2, h3, h4, h5, h6, h7⟩ := h i (by omega)
    have e1 : ((List.range len).map fun r => Value.slice (A r) (L r) (C r)).getD i undef = .slice (A i) (L i) (C i) := by simp [List.getD, hi']
    have e2 : ((List.range len).map fun r => (Z r).take (L r)).getD i [] = (Z i).take (L i) := by simp [List.getD, hi']
    rw [e1, e2]
    have hrow : IsRow .i64 w (A i) (L i) (C i) (Z i) := by
      cases hA : A i with
      | none =>
        have hc := h6 hA
        exact .inl ⟨rfl, by omega, hc, List.eq_nil_of_length_eq_zero (by omega)⟩
      | some a' => exact .inr ⟨a', rfl, h2, h3, h4, fun c hc => (h7 a' hA).2 c (by omega), h5⟩
    rcases hrow with ⟨ha, hl, hc, hz⟩ | ⟨x, ha, hl, hc, hz, hcell, hw⟩
    · rw [ha, hl, hc, hz]
      exact ⟨none, 0, rfl, .inl rfl, Nat.le_refl _, Nat.zero_le _⟩
    · rw [ha]
      refine ⟨some x, C i, by congr 1; simp; omega, ?_, by simp; omega, hc⟩
      by_cases h0 : L i = 0
      · exact .inl (by simp [h0])
      · obtain ⟨b, off, spot⟩ := x
        have hc0 := hcell 0 (by omega)
        have hspot : spot = none := by simpa [Addr.add] using World.cell?_spot hc0
        subst hspot
        refine .inr ⟨b, off, rfl, fun j hj => ?_⟩
        have hj' : j < L i := by simp at hj; omega
        have := hcell j (by omega)
        rw [Addr.add_lit] at this
        rw [this]
        simp [List.getD, List.getElem?_take, hj']
end

section
open Go.RowKit

def Cells (w : World) (b off : Nat) (xs : List Int) : Prop := ∀ j, j < xs.length → w.cell? ⟨b, off + j, none⟩ = some (.int .i64 (xs.getD j 0))

theorem rdv_cells {w : World} {v : Value} {xs : List Int} (h : RdV w v xs) (hl : 1 ≤ xs.length) :
    ∃ b off cap, v = .slice (some ⟨b, off, none⟩) xs.length cap ∧ Cells w b off xs ∧ b < w.heap.size ∧ xs.length ≤ cap ∧ cap ≤ maxLen := by
  obtain ⟨ao, cap, rfl, h1, h2, h3⟩ := h
  rcases h1 with h1 | ⟨b, off, rfl, hc⟩
  · rw [h1] at hl; simp at hl
  · exact ⟨b, off, cap, rfl, hc, World.block_lt_of_cell? w _ (hc 0 (by omega)), h2, h3⟩

theorem cells_at {w : World} {b off : Nat} {xs : List Int} (h : Cells w b off xs) (j : Nat) (hj : j < xs.length) : w.cell? ⟨b, off + j, none⟩ = some (.int .i64 (xs.getD j 0)) := h j hj

theorem cells_below {w w' : World} {b off : Nat} {xs : List Int} (h : Cells w b off xs) (hb : Below w.heap.size w w') : Cells w' b off xs := fun j hj => by
  rw [hb.cell (World.block_lt_of_cell? w _ (h j hj))]; exact h j hj

def Quiet (w w' : World) : Prop := ∃ m, w' = w.drewN m
theorem Quiet.refl (w : World) : Quiet w w := ⟨0, rfl⟩
theorem Quiet.mk (w : World) (m : Nat) : Quiet w (w.drewN m) := ⟨m, rfl⟩
theorem Quiet.drewN {a w : World} (h : Quiet a w) (n : Nat) : Quiet a (w.drewN n) := by
  obtain ⟨m, rfl⟩ := h
  exact ⟨m + n, by rw [World.drewN_drewN]⟩
theorem Quiet.trans {a b c : World} (h : Quiet a b) (k : Quiet b c) : Quiet a c := by
  obtain ⟨m, rfl⟩ := k
  exact h.drewN m
theorem Quiet.cells {w w' : World} {b off : Nat} {xs : List Int} (hq : Quiet w w') (h : Cells w b off xs) : Cells w' b off xs := by
  obtain ⟨m, rfl⟩ := hq
  exact h
theorem Quiet.below {w w' : World} (h : Quiet w w') : Below w.heap.size w w' := by
  obtain ⟨m, rfl⟩ := h
  exact below_drewN (Below.refl _ _) m
theorem Quiet.same {w w' : World} (h : Quiet w w') : Same w w' := by
  obtain ⟨m, rfl⟩ := h
  exact fun B => below_drewN (Below.refl _ _) m

def QB (w : World) (r : Bool) (e : Ending) (w' : World) : Prop := e = .returned (.bool r) ∧ Quiet w w'
def QI (w : World) (r : Int) (e : Ending) (w' : World) : Prop := e = .returned (.int .i64 r) ∧ Quiet w w'
def QIB (w : World) (r : Int × Bool) (e : Ending) (w' : World) : Prop := e = .returned (.tuple #[.int .i64 r.1, .bool r.2]) ∧ Quiet w w'

theorem QB.gives {w : World} {r : Bool} {e : Ending} {w' : World} (h : QB w r e w') : GivesB w r e w' := ⟨h.1, h.2.below⟩
theorem QI.gives {w : World} {r : Int} {e : Ending} {w' : World} (h : QI w r e w') : GivesI w r e w' := ⟨h.1, h.2.below⟩
theorem QIB.gives {w : World} {r : Int × Bool} {e : Ending} {w' : World} (h : QIB w r e w') : GivesIB w r e w' := ⟨h.1, h.2.below⟩

theorem cell_keep {w : World} {b q : Nat} {v : Value} (o : Obj) (h : w.cell? ⟨b, q, none⟩ = some v) : (w.alloc o).cell? ⟨b, q, none⟩ = some v := by
  rw [World.cell?_alloc_past _ _ _ (World.block_lt_of_cell? w _ h)]; exact h
theorem cell_keepd {w : World} {b q : Nat} {v : Value} (o : Obj) (h : w.cell? ⟨b, q, none⟩ = some v) : (w.alloc o).drew.cell? ⟨b, q, none⟩ = some v := cell_keep o h
end

section
open Go.RowKit

theorem slicesIndex_v (v : Value) (xs : List Int) (x : Int) (w : World) (hv : RdV w v xs) (hm : x ∈ xs) :
    Calls (cutP Try.prog) 33 #[v, .int .i64 x] w fun e w' => e = .returned (.int .i64 (xs.idxOf x)) ∧ w = w' := by
  obtain ⟨ao, ca, rfl, h, h1, h2⟩ := hv
  unfold maxLen at h2
  exact slicesIndex_any ao ca xs x w h (by omega) hm

def finerTo (xs ys : List Int) (n : Nat) : Bool := decide (∀ i, i < n → ys.getD i 0 = ys.getD (xs.idxOf (xs.getD i 0)) 0)
def finerB (xs ys : List Int) : Bool := finerTo xs ys xs.length
def alike (xs ys : List Int) : Bool := partIn xs && partIn ys && decide (xs.length = ys.length)
def finerIn (xs ys : List Int) : Bool := alike xs ys && finerB xs ys

theorem finerTo_zero (xs ys : List Int) : finerTo xs ys 0 = true := by simp [finerTo]
theorem finerTo_step {xs ys : List Int} {k : Nat} (h : finerTo xs ys k = true) (e : ys.getD k 0 = ys.getD (xs.idxOf (xs.getD k 0)) 0) : finerTo xs ys (k + 1) = true := by
  simp only [finerTo, decide_eq_true_eq] at h ⊢
  intro i hi
  by_cases hik : i = k
  · rw [hik]; exact e
  · exact h i (by omega)
theorem finerB_no {xs ys : List Int} {k : Nat} (hk : k < xs.length) (e : ys.getD k 0 ≠ ys.getD (xs.idxOf (xs.getD k 0)) 0) : finerB xs ys = false := by
  simp only [finerB, finerTo, decide_eq_false_iff_not]
  exact fun h => e (h k hk)

theorem finer_iff {xs ys : List Int} : finerB xs ys = true ↔ ∀ i k, i < xs.length → k < xs.length → xs.getD i 0 = xs.getD k 0 → ys.getD i 0 = ys.getD k 0 := by
  simp only [finerB, finerTo, decide_eq_true_eq]
  constructor
  · intro h i k hi hk e
    rw [h i hi, h k hk, e]
  · intro h i hi
    have hm : xs.getD i 0 ∈ xs := mem_of_getD hi rfl
    exact h _ _ hi (List.idxOf_lt_length_of_mem hm) (getD_idxOf hm).symm

theorem alike_iff {xs ys : List Int} : alike xs ys = true ↔ partIn xs = true ∧ partIn ys = true ∧ xs.length = ys.length := by
  simp [alike, and_assoc]

set_option maxHeartbeats 800000 in
theorem areAlike_v (v u : Value) (xs ys : List Int) (w : World) (hv : RdV w v xs) (hu : RdV w u ys) :
    Calls (cutP Try.prog) 38 #[v, u] w fun e w' => e = .returned (.bool (alike xs ys)) ∧ w = w' := by
  have HV := Lib.hid hv
  have HU := Lib.hid hu
  have hlv : ∃ ao ca, v = .slice ao xs.length ca := by obtain ⟨ao, ca, h, _⟩ := hv; exact ⟨ao, ca, h⟩
  have hlu : ∃ ao ca, u = .slice ao ys.length ca := by obtain ⟨ao, ca, h, _⟩ := hu; exact ⟨ao, ca, h⟩
  have hbv : xs.length ≤ 9223372036854775807 := by obtain ⟨_, _, _, _, h1, h2⟩ := hv; unfold maxLen at h2; omega
  have hbu : ys.length ≤ 9223372036854775807 := by obtain ⟨_, _, _, _, h1, h2⟩ := hu; unfold maxLen at h2; omega
  clear hv hu
  obtain ⟨ao, ca, rfl⟩ := hlv
  obtain ⟨bo, cb, rfl⟩ := hlu
  have hr : alike xs ys = (partIn xs && partIn ys && decide (xs.length = ys.length)) := rfl
  have HR := Lib.hid hr
  clear hr
  obtain ⟨n, hn⟩ : ∃ n, n = xs.length := ⟨_, rfl⟩
  obtain ⟨m, hm⟩ : ∃ m, m = ys.length := ⟨_, rfl⟩
  have HN := Lib.hid hn
  have HM := Lib.hid hm
  rw [← hn] at HV hbv ⊢
  rw [← hm] at HU hbu ⊢
  clear hn hm
  obtain ⟨p, hp⟩ : ∃ p, p = partIn xs := ⟨_, rfl⟩
  obtain ⟨q, hq⟩ : ∃ q, q = partIn ys := ⟨_, rfl⟩
  have HP := Lib.hid hp
  have HQ := Lib.hid hq
  clear hp hq
  cases p
  · go_enter Tryp.func38, Tryp.ntmps38
    go_wp2_with fail
    refine (iPartIn_w _ _ _ HV.out).mono ?_
    rintro e w' ⟨rfl, rfl⟩
    rw [← HP.out]
    go_wp2
    go_ret
    exact ⟨ret_bool (by rw [HR.out, ← HP.out]; simp), rfl⟩
  · cases q
    · go_enter Tryp.func38, Tryp.ntmps38
      go_wp2_with fail
      refine (iPartIn_w _ _ _ HV.out).mono ?_
      rintro e w' ⟨rfl, rfl⟩
      rw [← HP.out]
      go_wp2_with fail
      refine (iPartIn_w _ _ _ HU.out).mono ?_
      rintro e w' ⟨rfl, rfl⟩
      rw [← HQ.out]
      go_wp2
      go_ret
      exact ⟨ret_bool (by rw [HR.out, ← HQ.out]; simp), rfl⟩
    · by_cases hnm : n = m
      · subst hnm
        go_enter Tryp.func38, Tryp.ntmps38
        go_wp2_with fail
        refine (iPartIn_w _ _ _ HV.out).mono ?_
        rintro e w' ⟨rfl, rfl⟩
        rw [← HP.out]
        go_wp2_with fail
        refine (iPartIn_w _ _ _ HU.out).mono ?_
        rintro e w' ⟨rfl, rfl⟩
        rw [← HQ.out]
        go_wp2
        go_ret
        exact ⟨ret_bool (by rw [HR.out, ← HP.out, ← HQ.out, ← HN.out, ← HM.out]; simp), rfl⟩
      · have hb : ((n : Int) == m) = false := by simp; omega
        go_enter Tryp.func38, Tryp.ntmps38
        go_wp2_with fail
        refine (iPartIn_w _ _ _ HV.out).mono ?_
        rintro e w' ⟨rfl, rfl⟩
        rw [← HP.out]
        go_wp2_with fail
        refine (iPartIn_w _ _ _ HU.out).mono ?_
        rintro e w' ⟨rfl, rfl⟩
        rw [← HQ.out]
        go_wp2
        go_ret
        exact ⟨ret_bool (by rw [HR.out, ← HP.out, ← HQ.out, ← HN.out, ← HM.out]; simp [hnm]), rfl⟩

set_option maxHeartbeats 800000 in
theorem l2Two_v (v u : Value) (xs ys : List Int) (w : World) (hv : RdV w v xs) (hu : RdV w u ys) :
    Calls (cutP Try.prog) 65 #[v, u] w fun e w' => e = .returned (.bool (alike xs ys)) ∧ w = w' := by
  have HV := Lib.hid hv
  have HU := Lib.hid hu
  have hlv : ∃ ao ca, v = .slice ao xs.length ca := by obtain ⟨ao, ca, h, _⟩ := hv; exact ⟨ao, ca, h⟩
  have hlu : ∃ ao ca, u = .slice ao ys.length ca := by obtain ⟨ao, ca, h, _⟩ := hu; exact ⟨ao, ca, h⟩
  have hbv : xs.length ≤ 9223372036854775807 := by obtain ⟨_, _, _, _, h1, h2⟩ := hv; unfold maxLen at h2; omega
  have hbu : ys.length ≤ 9223372036854775807 := by obtain ⟨_, _, _, _, h1, h2⟩ := hu; unfold maxLen at h2; omega
  clear hv hu
  obtain ⟨ao, ca, rfl⟩ := hlv
  obtain ⟨bo, cb, rfl⟩ := hlu
  have hr : alike xs ys = (partIn xs && partIn ys && decide (xs.length = ys.length)) := rfl
  have HR := Lib.hid hr
  clear hr
  obtain ⟨n, hn⟩ : ∃ n, n = xs.length := ⟨_, rfl⟩
  obtain ⟨m, hm⟩ : ∃ m, m = ys.length := ⟨_, rfl⟩
  have HN := Lib.hid hn
  have HM := Lib.hid hm
  rw [← hn] at HV hbv ⊢
  rw [← hm] at HU hbu ⊢
  clear hn hm
  obtain ⟨p, hp⟩ : ∃ p, p = partIn xs := ⟨_, rfl⟩
  obtain ⟨q, hq⟩ : ∃ q, q = partIn ys := ⟨_, rfl⟩
  have HP := Lib.hid hp
  have HQ := Lib.hid hq
  clear hp hq
  cases p
  · go_enter Tryp.func65, Tryp.ntmps65
    go_wp2_with fail
    refine (sPartIn_w _ _ _ HV.out).mono ?_
    rintro e w' ⟨rfl, rfl⟩
    rw [← HP.out]
    go_wp2
    go_ret
    exact ⟨ret_bool (by rw [HR.out, ← HP.out]; simp), rfl⟩
  · cases q
    · go_enter Tryp.func65, Tryp.ntmps65
      go_wp2_with fail
      refine (sPartIn_w _ _ _ HV.out).mono ?_
      rintro e w' ⟨rfl, rfl⟩
      rw [← HP.out]
      go_wp2_with fail
      refine (sPartIn_w _ _ _ HU.out).mono ?_
      rintro e w' ⟨rfl, rfl⟩
      rw [← HQ.out]
      go_wp2
      go_ret
      exact ⟨ret_bool (by rw [HR.out, ← HQ.out]; simp), rfl⟩
    · by_cases hnm : n = m
      · subst hnm
        go_enter Tryp.func65, Tryp.ntmps65
        go_wp2_with fail
        refine (sPartIn_w _ _ _ HV.out).mono ?_
        rintro e w' ⟨rfl, rfl⟩
        rw [← HP.out]
        go_wp2_with fail
        refine (sPartIn_w _ _ _ HU.out).mono ?_
        rintro e w' ⟨rfl, rfl⟩
        rw [← HQ.out]
        go_wp2
        go_ret
        exact ⟨ret_bool (by rw [HR.out, ← HP.out, ← HQ.out, ← HN.out, ← HM.out]; simp), rfl⟩
      · have hb : ((n : Int) == m) = false := by simp; omega
        go_enter Tryp.func65, Tryp.ntmps65
        go_wp2_with fail
        refine (sPartIn_w _ _ _ HV.out).mono ?_
        rintro e w' ⟨rfl, rfl⟩
        rw [← HP.out]
        go_wp2_with fail
        refine (sPartIn_w _ _ _ HU.out).mono ?_
        rintro e w' ⟨rfl, rfl⟩
        rw [← HQ.out]
        go_wp2
        go_ret
        exact ⟨ret_bool (by rw [HR.out, ← HP.out, ← HQ.out, ← HN.out, ← HM.out]; simp [hnm]), rfl⟩

set_option maxHeartbeats 1600000 in
theorem isFiner_v (v u : Value) (xs ys : List Int) (w : World) (hv : RdV w v xs) (hu : RdV w u ys) (h1 : 1 ≤ xs.length) (h8 : xs.length ≤ 8) (hlen : ys.length = xs.length) :
    Calls (cutP Try.prog) 48 #[v, u] w (QB w (finerB xs ys)) := by
  obtain ⟨bx, ox, cx, rfl, hcx, hbx, hcx1, hcx2⟩ := rdv_cells hv h1
  obtain ⟨by', oy, cy, rfl, hcy, hby, hcy1, hcy2⟩ := rdv_cells hu (by omega)
  have HV := Lib.hid hv
  clear hv hu
  obtain ⟨n, hn⟩ : ∃ n, n = xs.length := ⟨_, rfl⟩
  have HN := Lib.hid hn
  have HLY := Lib.hid hlen
  rw [hlen]
  rw [← hn] at HV h1 h8 HLY ⊢
  have hidx : ∀ k, k < n → xs.getD k 0 ∈ xs ∧ xs.idxOf (xs.getD k 0) < n := fun k hk => by
    have hm : xs.getD k 0 ∈ xs := mem_of_getD (by omega) rfl
    have := List.idxOf_lt_length_of_mem hm
    exact ⟨hm, by omega⟩
  have HIDX := Lib.hid hidx
  clear hn hlen hidx hcx1 hcx2 hcy1 hcy2
  go_enter Tryp.func48, Tryp.ntmps48
  go_wp2
  go_loopw [9] (fun i wr => ∃ k : Nat, k ≤ n ∧ i = .int .i64 k ∧ finerTo xs ys k = true ∧ Quiet w wr) (fun i _ => n - (intOf i).toNat)
  case atStart => exact ⟨0, Nat.zero_le _, rfl, finerTo_zero _ _, Quiet.refl _⟩
  case round =>
    obtain ⟨k, hk, rfl, hf, hq⟩ := hrel
    have hcx := hq.cells hcx
    have hcy := hq.cells hcy
    have HF := Lib.hid hf
    clear hf
    by_cases hlt : k < n
    · have hc1 := cells_at hcx k (by have := HN.out; omega)
      have hc2 := cells_at hcy k (by have := HLY.out; omega)
      obtain ⟨hmem, hp⟩ := HIDX.out k hlt
      have hc3 := cells_at hcy (xs.idxOf (xs.getD k 0)) (by have := HLY.out; omega)
      obtain ⟨x, hx⟩ : ∃ x, x = xs.getD k 0 := ⟨_, rfl⟩
      rw [← hx] at hc1 hc3 hp hmem
      obtain ⟨p, hpe⟩ : ∃ p, p = xs.idxOf x := ⟨_, rfl⟩
      rw [← hpe] at hc3 hp
      obtain ⟨y, hy⟩ : ∃ y, y = ys.getD k 0 := ⟨_, rfl⟩
      obtain ⟨z, hz⟩ : ∃ z, z = ys.getD p 0 := ⟨_, rfl⟩
      rw [← hy] at hc2
      rw [← hz] at hc3
      have HX := Lib.hid hx
      have HP := Lib.hid hpe
      have HY := Lib.hid hy
      have HZ := Lib.hid hz
      have hI : ∀ q, Calls (cutP Try.prog) 33 #[.slice (some ⟨bx, ox, none⟩) n cx, .int .i64 x] (wr.drewN q) fun e w' => e = .returned (.int .i64 p) ∧ w' = wr.drewN q := fun q => by
        have := slicesIndex_any (some ⟨bx, ox, none⟩) cx xs x (wr.drewN q) (.inr ⟨bx, ox, rfl, hcx⟩) (by have := HN.out; omega) hmem
        rw [← hpe, ← HN.out] at this
        exact this.mono fun _ _ ⟨a, b⟩ => ⟨a, b.symm⟩
      have HI := Lib.hid hI
      have b1 : (k : Int) < n := by omega
      have b2 : (p : Int) < n := by omega
      have b3 : (0 : Int) ≤ (p : Int) := by omega
      clear hx hpe hy hz hI hmem
      by_cases hyz : y = z
      · subst hyz
        go_wp2
        go_quiet ((go_at_call 33; exact Calls.quiet_of_same (HI.out _)))
        go_wp2
        go_roundw
        case rel => exact ⟨k + 1, by omega, by go_num, finerTo_step HF.out (by rw [← HX.out, ← HP.out, ← HY.out, ← HZ.out]), hq.drewN _⟩
        case measure => simp [intOf]; omega
      · have hb : (y != z) = true := by simpa using hyz
        go_wp2
        go_quiet ((go_at_call 33; exact Calls.quiet_of_same (HI.out _)))
        go_wp2
        go_ret
        exact ⟨ret_bool (finerB_no (k := k) (by have := HN.out; omega) (by rw [← HX.out, ← HP.out, ← HY.out, ← HZ.out]; exact hyz)).symm, hq.drewN _⟩
    · have hkn : k = n := by omega
      subst hkn
      go_wp2
      go_ret
      exact ⟨ret_bool (by have := HF.out; rw [HN.out] at this; exact this.symm), hq⟩

theorem alike_lens {xs ys : List Int} (h : alike xs ys = true) : 1 ≤ xs.length ∧ xs.length ≤ 8 ∧ ys.length = xs.length := by
  obtain ⟨h1, _, h3⟩ := alike_iff.1 h
  have := partIn_len h1
  omega

theorem areAlike_is (b : Bool) (v u : Value) (xs ys : List Int) (w : World) (hv : RdV w v xs) (hu : RdV w u ys) (h : Hid (alike xs ys = b)) :
    Calls (cutP Try.prog) 38 #[v, u] w fun e w' => e = .returned (.bool b) ∧ w = w' := by
  rw [← h.out]; exact areAlike_v v u xs ys w hv hu

theorem l2Two_is (b : Bool) (v u : Value) (xs ys : List Int) (w : World) (hv : RdV w v xs) (hu : RdV w u ys) (h : Hid (alike xs ys = b)) :
    Calls (cutP Try.prog) 65 #[v, u] w fun e w' => e = .returned (.bool b) ∧ w = w' := by
  rw [← h.out]; exact l2Two_v v u xs ys w hv hu

theorem iFinerIn_q (v u : Value) (xs ys : List Int) (w : World) (hv : RdV w v xs) (hu : RdV w u ys) :
    Calls (cutP Try.prog) 20 #[v, u] w (QB w (finerIn xs ys)) := by
  have HV := Lib.hid hv
  have HU := Lib.hid hu
  clear hv hu
  cases ha : alike xs ys
  · have HA := Lib.hid ha
    have hr : finerIn xs ys = false := by rw [finerIn, ha]; rfl
    rw [hr]
    clear ha hr
    go_enter Tryp.func20, Tryp.ntmps20
    go_wp2_with fail
    refine (areAlike_is false _ _ _ _ _ HV.out HU.out HA).mono ?_
    rintro e w' ⟨rfl, rfl⟩
    go_wp2
    go_ret
    exact ⟨rfl, Quiet.refl _⟩
  · have HA := Lib.hid ha
    obtain ⟨h1, h8, hl⟩ := alike_lens ha
    have HL := Lib.hid hl
    have hr : finerIn xs ys = finerB xs ys := by rw [finerIn, ha]; rfl
    rw [hr]
    clear ha hr hl
    go_enter Tryp.func20, Tryp.ntmps20
    go_wp2_with fail
    refine (areAlike_is true _ _ _ _ _ HV.out HU.out HA).mono ?_
    rintro e w' ⟨rfl, rfl⟩
    go_wp2_with fail
    refine (isFiner_v _ _ _ _ _ HV.out HU.out h1 h8 HL.out).mono ?_
    rintro e w' ⟨rfl, hq⟩
    go_wp2
    go_ret
    exact ⟨rfl, hq⟩

theorem iFinerIn_v (v u : Value) (xs ys : List Int) (w : World) (hv : RdV w v xs) (hu : RdV w u ys) :
    Calls (cutP Try.prog) 20 #[v, u] w (GivesB w (finerIn xs ys)) := (iFinerIn_q v u xs ys w hv hu).mono fun _ _ h => h.gives
end

section
open Go.RowKit

def okV (vs : List (List Int)) (v : List Int) : Bool := decide (v.length ≤ 5) && alike (vs.getD 0 []) v
def areV (vs : List (List Int)) : Bool := decide (1 ≤ vs.length ∧ vs.length ≤ 6) && vs.all (okV vs)

theorem all_step (p : List Int → Bool) (vs : List (List Int)) (k : Nat) (h : k < vs.length) : (vs.take (k + 1)).all p = ((vs.take k).all p && p (vs.getD k [])) := by
  rw [List.take_succ_eq_append_getElem h, List.all_append]
  simp [List.getD, h]
theorem all_no (p : List Int → Bool) (vs : List (List Int)) (k : Nat) (h : k < vs.length) (hp : p (vs.getD k []) = false) : vs.all p = false := by
  rw [List.all_eq_false]
  exact ⟨vs.getD k [], by simp [List.getD, h], by rw [hp]; simp⟩

set_option maxHeartbeats 1600000 in
theorem areViews_v (v : Value) (vs : List (List Int)) (w : World) (hv : RdM w v vs) : Calls (cutP Try.prog) 30 #[v] w fun e w' => e = .returned (.bool (areV vs)) ∧ w = w' := by
  obtain ⟨ao, ca, rs, hvl, rfl, h1, h2, h3, h4⟩ := hv
  unfold maxLen at h2
  obtain ⟨r, hr⟩ : ∃ r, r = areV vs := ⟨_, rfl⟩
  rw [← hr]
  obtain ⟨n, hn⟩ : ∃ n, n = vs.length := ⟨_, rfl⟩
  have HR : Hid (r = (decide (1 ≤ n ∧ n ≤ 6) && vs.all (okV vs))) := by
    show r = _
    rw [hr, hn]
    rfl
  rw [← hn] at h1 ⊢
  have HN := Lib.hid hn
  have H3 := Lib.hid h3
  have H4 := Lib.hid h4
  clear hr hn h3 h4 hvl
  by_cases hn1 : n < 1
  · have e : r = false := by rw [HR.out, decide_eq_false (by omega)]; rfl
    subst e
    clear HR
    have hlt : (n : Int) < 1 := by omega
    go_enter Tryp.func30, Tryp.ntmps30
    go_wp2
    go_ret
    exact ⟨rfl, rfl⟩
  by_cases hn6 : 6 < n
  · have e : r = false := by rw [HR.out, decide_eq_false (by omega)]; rfl
    subst e
    clear HR
    have hlt : ¬ ((n : Int) < 1) := by omega
    have hgt : (6 : Int) < (n : Int) := by omega
    go_enter Tryp.func30, Tryp.ntmps30
    go_wp2
    go_ret
    exact ⟨rfl, rfl⟩
  have hr2 : r = vs.all (okV vs) := by rw [HR.out, decide_eq_true (by omega)]; rfl
  have HR2 := Lib.hid hr2
  clear HR hr2
  have hlt0 : ¬ ((n : Int) < 1) := by omega
  have hgt0 : ¬ ((6 : Int) < (n : Int)) := by omega
  have z0 : (0 : Int) < (n : Int) := by omega
  have z1 : 0 < n := by omega
  rcases H3.out with hx | ⟨b, off, rfl, hc⟩
  · exfalso
    have := HN.out
    rw [hx] at this
    simp at this
    omega
  have H4' := H4.out
  have hN := HN.out
  have hc0 := hc 0 (by omega)
  obtain ⟨zo, zc, hz, hz2⟩ : ∃ zo zc, rs.getD 0 undef = .slice zo (vs.getD 0 []).length zc ∧ RdV w (.slice zo (vs.getD 0 []).length zc) (vs.getD 0 []) := by
    have := H4' 0 (by omega)
    obtain ⟨zo, zc, e, x⟩ := this
    exact ⟨zo, zc, e, zo, zc, rfl, x⟩
  rw [hz, Nat.add_zero] at hc0
  have HZ2 := Lib.hid hz2
  have HC := Lib.hid hc
  obtain ⟨l0, hl0⟩ : ∃ l0, l0 = (vs.getD 0 []).length := ⟨_, rfl⟩
  rw [← hl0] at hc0 HZ2
  clear hz hz2 hc H4' hN hl0
  go_enter Tryp.func30, Tryp.ntmps30
  go_wp2
  go_loop [15] (fun i => ∃ k : Nat, k ≤ n ∧ i = .int .i64 k ∧ (vs.take k).all (okV vs) = true) (fun i => n - (intOf i).toNat)
  case atStart => exact ⟨0, Nat.zero_le _, rfl, by simp⟩
  case round =>
    obtain ⟨k, hk, rfl, hall⟩ := hrel
    have HALL := Lib.hid hall
    clear hall
    by_cases hkn : k < n
    · have hck := HC.out k (by have := HN.out; omega)
      have hrow := H4.out k (by have := HN.out; omega)
      have hst := all_step (okV vs) vs k (by have := HN.out; omega)
      have hno := all_no (okV vs) vs k (by have := HN.out; omega)
      obtain ⟨row, hrw⟩ : ∃ row, row = vs.getD k [] := ⟨_, rfl⟩
      obtain ⟨z, hz⟩ : ∃ z, z = rs.getD k undef := ⟨_, rfl⟩
      rw [← hz] at hck hrow
      rw [← hrw] at hrow hst hno
      rw [HALL.out, Bool.true_and] at hst
      rw [← HR2.out] at hno
      obtain ⟨a, ha⟩ : ∃ a, a = alike (vs.getD 0 []) row := ⟨_, rfl⟩
      have hov : okV vs row = (decide (row.length ≤ 5) && a) := by rw [ha]; rfl
      rw [hov] at hst hno
      obtain ⟨zo', zc', rfl, hz3, hzl, hzc⟩ := hrow
      have HA : ∀ w', w' = w → Calls (cutP Try.prog) 38 #[.slice zo l0 zc, .slice zo' row.length zc'] w' fun e w2 => e = .returned (.bool a) ∧ w' = w2 := by
        intro w' e
        subst e
        rw [ha]
        exact areAlike_v _ _ _ _ _ HZ2.out ⟨zo', zc', rfl, hz3, hzl, hzc⟩
      unfold maxLen at hzc
      obtain ⟨q, hq⟩ : ∃ q, q = row.length := ⟨_, rfl⟩
      rw [← hq] at hck hzl hst hno HA
      have HAA := Lib.hid HA
      have HST := Lib.hid hst
      have HNO := Lib.hid hno
      clear hst hno HA hz hrw ha hov hz3 hq
      by_cases hq5 : 5 < q
      · have e : r = false := HNO.out (by rw [decide_eq_false (by omega)]; rfl)
        subst e
        clear HR2 HNO HST HAA
        have h5 : (5 : Int) < (q : Int) := by omega
        go_wp2
        go_ret
        exact ⟨rfl, rfl⟩
      · have h5 : ¬ ((5 : Int) < (q : Int)) := by omega
        cases a
        · have e : r = false := HNO.out (by simp)
          subst e
          clear HR2 HNO HST
          go_wp2_with fail
          refine (HAA.out _ rfl).mono ?_
          rintro e w2 ⟨rfl, rfl⟩
          go_wp2
          go_ret
          exact ⟨rfl, rfl⟩
        · have hst := HST.out
          rw [decide_eq_true (show q ≤ 5 by omega)] at hst
          have HS2 := Lib.hid hst
          clear hst HST HNO
          go_wp2_with fail
          refine (HAA.out _ rfl).mono ?_
          rintro e w2 ⟨rfl, rfl⟩
          go_wp2
          go_round
          case rel => exact ⟨k + 1, by omega, by go_num, HS2.out⟩
          case measure => simp [intOf]; omega
    · have hkn : k = n := by omega
      subst hkn
      have e : r = true := by
        have := HALL.out
        rw [HN.out, List.take_length] at this
        rw [HR2.out, this]
      subst e
      clear HR2
      go_wp2
      go_ret
      exact ⟨rfl, rfl⟩
end

def opn : Nat → Int → Int
  | 0, _ => 1
  | n + 1, k => k * opn n k + opn n (k + 1)

def opnN : Nat → Nat → Nat
  | 0, _ => 1
  | n + 1, k => k * opnN n k + opnN n (k + 1)

theorem opn_nat : ∀ (n k : Nat), opn n (k : Int) = (opnN n k : Int) := by
  intro n
  induction n with
  | zero => intro k; rfl
  | succ n ih =>
    intro k
    have h2 := ih (k + 1)
    have e : ((k + 1 : Nat) : Int) = (k : Int) + 1 := by omega
    rw [e] at h2
    show (k : Int) * opn n (k : Int) + opn n ((k : Int) + 1) = _
    rw [ih k, h2]
    show _ = ((k * opnN n k + opnN n (k + 1) : Nat) : Int)
    simp

theorem opnN_bd : ∀ n, n < 9 → ∀ k, k < 9 → n + k ≤ 8 → 1 ≤ opnN n k ∧ opnN n k ≤ 4140 := by decide +kernel

theorem opn_pos : ∀ (n : Nat) (k : Int), 0 ≤ k → 1 ≤ opn n k := by
  intro n
  induction n with
  | zero => intro k _; exact Int.le_refl _
  | succ n ih =>
    intro k hk
    have h1 := ih k hk
    have h2 := ih (k + 1) (by omega)
    have h3 : 0 ≤ k * opn n k := Int.mul_nonneg hk (by omega)
    show 1 ≤ k * opn n k + opn n (k + 1)
    omega

theorem opn_bd (n : Nat) (k : Int) (hk : 0 ≤ k) (h : (n : Int) + k ≤ 8) : 1 ≤ opn n k ∧ opn n k ≤ 4140 := by
  obtain ⟨j, rfl⟩ : ∃ j : Nat, k = j := ⟨k.toNat, by omega⟩
  have := opnN_bd n (by omega) j (by omega) (by omega)
  rw [opn_nat]
  omega

theorem opn_mul_bd (n : Nat) (k x : Int) (hk : 0 ≤ k) (h : (n : Int) + k ≤ 8) (hx : 0 ≤ x) (hx8 : x ≤ 8) : 0 ≤ x * opn n k ∧ x * opn n k ≤ 33120 := by
  have h1 := opn_bd n k hk h
  refine ⟨Int.mul_nonneg hx (by omega), ?_⟩
  have h2 : x * opn n k ≤ 8 * opn n k := Int.mul_le_mul_of_nonneg_right hx8 (by omega)
  omega

theorem max_small {b x : Int} (h : x < b) : max b (x + 1) = b := by omega
theorem max_new (b : Int) : max b (b + 1) = b + 1 := by omega

theorem okFrom_step {b x : Int} (xs : List Int) (h0 : 0 ≤ x) (h : x ≤ b) : okFrom b (x :: xs) = okFrom (max b (x + 1)) xs := by
  by_cases e : x = b
  · subst e; rw [okFrom_new h0, max_new]
  · rw [okFrom_yes h0 (by omega), max_small (by omega)]

theorem okFrom_head {b x : Int} {xs : List Int} (h : okFrom b (x :: xs) = true) : 0 ≤ x ∧ x ≤ b ∧ okFrom (max b (x + 1)) xs = true := by
  by_cases h1 : 0 ≤ x ∧ x ≤ b
  · exact ⟨h1.1, h1.2, by rw [okFrom_step xs h1.1 h1.2] at h; exact h⟩
  · rw [okFrom_no (by omega)] at h
    cases h

def plcFrom : Int → List Int → Int
  | _, [] => 0
  | b, x :: xs => x * opn xs.length b + plcFrom (max b (x + 1)) xs

theorem plcFrom_bd : ∀ (xs : List Int) (b : Int), 0 ≤ b → okFrom b xs = true → 0 ≤ plcFrom b xs ∧ plcFrom b xs < opn xs.length b := by
  intro xs
  induction xs with
  | nil => intro b _ _; exact ⟨Int.le_refl _, by show (0 : Int) < 1; omega⟩
  | cons x xs ih =>
    intro b hb h
    obtain ⟨h0, h1, h2⟩ := okFrom_head h
    have hp := ih (max b (x + 1)) (by omega) h2
    have ho := opn_pos xs.length b hb
    have hx : 0 ≤ x * opn xs.length b := Int.mul_nonneg h0 (by omega)
    have ho2 := opn_pos xs.length (b + 1) (by omega)
    show 0 ≤ x * opn xs.length b + _ ∧ x * opn xs.length b + _ < b * opn xs.length b + opn xs.length (b + 1)
    by_cases e : x = b
    · subst e
      rw [max_new] at hp ⊢
      omega
    · rw [max_small (by omega)] at hp ⊢
      have h3 : (x + 1) * opn xs.length b ≤ b * opn xs.length b := Int.mul_le_mul_of_nonneg_right (by omega) (by omega)
      rw [Int.add_mul, Int.one_mul] at h3
      omega

def atFrom : Nat → Int → Int → List Int
  | 0, _, _ => []
  | n + 1, b, p => min (p / opn n b) b :: atFrom n (max b (min (p / opn n b) b + 1)) (p - min (p / opn n b) b * opn n b)

theorem atFrom_length : ∀ (n : Nat) (b p : Int), (atFrom n b p).length = n := by
  intro n
  induction n with
  | zero => intro b p; rfl
  | succ n ih => intro b p; simp only [atFrom, List.length_cons, ih]

theorem at_head (n : Nat) (b p : Int) (hb : 0 ≤ b) (hp : 0 ≤ p) (hq : p < opn (n + 1) b) :
    0 ≤ min (p / opn n b) b ∧ min (p / opn n b) b ≤ b ∧ 0 ≤ p - min (p / opn n b) b * opn n b ∧ p - min (p / opn n b) b * opn n b < opn n (max b (min (p / opn n b) b + 1)) := by
  have ho := opn_pos n b hb
  have hd : 0 ≤ p / opn n b := Int.ediv_nonneg hp (by omega)
  have hm := Int.mul_ediv_add_emod p (opn n b)
  have hr := Int.emod_nonneg p (show opn n b ≠ 0 by omega)
  have hr2 := Int.emod_lt_of_pos p (show 0 < opn n b by omega)
  rw [Int.mul_comm] at hm
  have hq' : p < b * opn n b + opn n (b + 1) := hq
  by_cases h : p / opn n b < b
  · rw [Int.min_eq_left (by omega), max_small h]
    omega
  · rw [Int.min_eq_right (by omega), max_new]
    have h3 : b * opn n b ≤ p / opn n b * opn n b := Int.mul_le_mul_of_nonneg_right (by omega) (by omega)
    omega

theorem at_ok : ∀ (n : Nat) (b p : Int), 0 ≤ b → 0 ≤ p → p < opn n b → okFrom b (atFrom n b p) = true ∧ plcFrom b (atFrom n b p) = p := by
  intro n
  induction n with
  | zero => intro b p _ h0 h1; exact ⟨rfl, by have : p < 1 := h1; show (0 : Int) = p; omega⟩
  | succ n ih =>
    intro b p hb h0 h1
    obtain ⟨e1, e2, e3, e4⟩ := at_head n b p hb h0 h1
    have := ih (max b (min (p / opn n b) b + 1)) (p - min (p / opn n b) b * opn n b) (by omega) e3 e4
    simp only [atFrom]
    refine ⟨by rw [okFrom_step _ e1 e2]; exact this.1, ?_⟩
    simp only [plcFrom, atFrom_length]
    rw [this.2]
    omega

theorem at_plc : ∀ (xs : List Int) (b : Int), 0 ≤ b → okFrom b xs = true → atFrom xs.length b (plcFrom b xs) = xs := by
  intro xs
  induction xs with
  | nil => intro b _ _; rfl
  | cons x xs ih =>
    intro b hb h
    obtain ⟨h0, h1, h2⟩ := okFrom_head h
    have hp := plcFrom_bd xs (max b (x + 1)) (by omega) h2
    have ho := opn_pos xs.length b hb
    have hi := ih (max b (x + 1)) (by omega) h2
    have hx : min ((x * opn xs.length b + plcFrom (max b (x + 1)) xs) / opn xs.length b) b = x := by
      rw [Int.add_comm, Int.add_mul_ediv_right _ _ (by omega)]
      by_cases e : x = b
      · have : 0 ≤ plcFrom (max b (x + 1)) xs / opn xs.length b := Int.ediv_nonneg hp.1 (by omega)
        omega
      · have : plcFrom (max b (x + 1)) xs / opn xs.length b = 0 := Int.ediv_eq_zero_of_lt hp.1 (by rw [max_small (show x < b by omega)] at hp ⊢; exact hp.2)
        omega
    simp only [plcFrom, List.length_cons, atFrom]
    rw [hx, show x * opn xs.length b + plcFrom (max b (x + 1)) xs - x * opn xs.length b = plcFrom (max b (x + 1)) xs by omega, hi]

theorem plc_inj {xs ys : List Int} {b : Int} (hb : 0 ≤ b) (hx : okFrom b xs = true) (hy : okFrom b ys = true) (hl : xs.length = ys.length) (h : plcFrom b xs = plcFrom b ys) : xs = ys := by
  rw [← at_plc xs b hb hx, ← at_plc ys b hb hy, hl, h]

theorem sizeFrom_nonneg : ∀ (xs : List Int) (b : Int), b ≤ sizeFrom b xs := by
  intro xs
  induction xs with
  | nil => intro b; exact Int.le_refl _
  | cons x xs ih => intro b; have := ih (max b (x + 1)); show b ≤ sizeFrom (max b (x + 1)) xs; omega

theorem sizeFrom_app : ∀ (u v : List Int) (b : Int), sizeFrom b (u ++ v) = sizeFrom (sizeFrom b u) v := by
  intro u
  induction u with
  | nil => intro v b; rfl
  | cons x u ih => intro v b; show sizeFrom (max b (x + 1)) (u ++ v) = _; rw [ih]; rfl

theorem okFrom_app : ∀ (u v : List Int) (b : Int), okFrom b (u ++ v) = true ↔ okFrom b u = true ∧ okFrom (sizeFrom b u) v = true := by
  intro u
  induction u with
  | nil => intro v b; simp [okFrom, sizeFrom]
  | cons x u ih =>
    intro v b
    by_cases h : 0 ≤ x ∧ x ≤ b
    · rw [List.cons_append, okFrom_step _ h.1 h.2, okFrom_step _ h.1 h.2, ih]
      rfl
    · rw [List.cons_append, okFrom_no (by omega), okFrom_no (by omega)]
      simp

theorem plc_app : ∀ (u v v' : List Int) (b : Int), v.length = v'.length → plcFrom b (u ++ v') - plcFrom b (u ++ v) = plcFrom (sizeFrom b u) v' - plcFrom (sizeFrom b u) v := by
  intro u
  induction u with
  | nil => intro v v' b _; rfl
  | cons x u ih =>
    intro v v' b h
    have := ih v v' (max b (x + 1)) h
    simp only [List.cons_append, plcFrom, sizeFrom, List.length_append, h]
    omega

theorem plc_zeros : ∀ (m : Nat) (b : Int), plcFrom b (List.replicate m 0) = 0 := by
  intro m
  induction m with
  | zero => intro b; rfl
  | succ m ih => intro b; rw [List.replicate_succ, plcFrom, ih]; simp

theorem ok_zeros : ∀ (m : Nat) (b : Int), 0 ≤ b → okFrom b (List.replicate m 0) = true := by
  intro m
  induction m with
  | zero => intro b _; rfl
  | succ m ih => intro b hb; rw [List.replicate_succ, okFrom_step _ (by omega) hb]; exact ih _ (by omega)

theorem iota_succ (k : Int) (m : Nat) : iota k (m + 1) = k :: iota (k + 1) m := by
  apply List.ext_getElem
  · simp [iota]
  · intro j h1 h2
    cases j with
    | zero => simp [iota]
    | succ j => simp [iota]; omega

theorem plc_iota : ∀ (m : Nat) (b : Int), plcFrom b (iota b m) = opn m b - 1 := by
  intro m
  induction m with
  | zero => intro b; rfl
  | succ m ih =>
    intro b
    rw [iota_succ, plcFrom, max_new, ih, iota_length]
    show _ = b * opn m b + opn m (b + 1) - 1
    omega

theorem ok_iota : ∀ (m : Nat) (b : Int), 0 ≤ b → okFrom b (iota b m) = true := by
  intro m
  induction m with
  | zero => intro b _; rfl
  | succ m ih => intro b hb; rw [iota_succ, okFrom_new hb]; exact ih _ (by omega)

theorem next_step (u : List Int) (x : Int) (m : Nat) (h0 : 0 ≤ x) (hx : x < sizeFrom 0 u) (hu : okFrom 0 u = true) :
    okFrom 0 (u ++ (x + 1) :: List.replicate m 0) = true ∧ plcFrom 0 (u ++ (x + 1) :: List.replicate m 0) = plcFrom 0 (u ++ x :: iota (sizeFrom 0 u) m) + 1 := by
  have hs := sizeFrom_nonneg u 0
  refine ⟨?_, ?_⟩
  · rw [okFrom_app]
    refine ⟨hu, ?_⟩
    rw [okFrom_step _ (by omega) (by omega)]
    exact ok_zeros _ _ (by omega)
  · have h := plc_app u (x :: iota (sizeFrom 0 u) m) ((x + 1) :: List.replicate m 0) 0 (by simp [iota_length])
    simp only [plcFrom, plc_zeros, List.length_replicate, iota_length] at h
    rw [max_small hx, plc_iota, Int.add_mul, Int.one_mul] at h
    omega

def plc (xs : List Int) : Int := plcFrom 0 xs
def atL (n : Nat) (p : Int) : List Int := atFrom n 0 p

theorem atL_length (n : Nat) (p : Int) : (atL n p).length = n := atFrom_length _ _ _

theorem atL_plc {xs : List Int} (h : okFrom 0 xs = true) : atL xs.length (plc xs) = xs := at_plc xs 0 (by omega) h
theorem plc_atL (n : Nat) (p : Int) (h0 : 0 ≤ p) (h1 : p < opn n 0) : okFrom 0 (atL n p) = true ∧ plc (atL n p) = p := at_ok n 0 p (by omega) h0 h1
theorem plc_bd {xs : List Int} (h : okFrom 0 xs = true) : 0 ≤ plc xs ∧ plc xs < opn xs.length 0 := plcFrom_bd xs 0 (by omega) h

theorem atL_partIn (n : Nat) (p : Int) (hn : 1 ≤ n) (h8 : n ≤ 8) (h0 : 0 ≤ p) (h1 : p < opn n 0) : partIn (atL n p) = true := by
  have := (plc_atL n p h0 h1).1
  simp [partIn, atL_length, this, hn, h8]

theorem plc_last (n : Nat) : plc (iota 0 n) = opn n 0 - 1 := plc_iota n 0
theorem plc_first (n : Nat) : plc (List.replicate n 0) = 0 := plc_zeros n 0

theorem is_last {xs : List Int} (h : okFrom 0 xs = true) : xs = iota 0 xs.length ↔ plc xs = opn xs.length 0 - 1 := by
  refine ⟨fun e => by rw [e, iota_length]; exact plc_last _, fun e => ?_⟩
  refine plc_inj (b := 0) (by omega) h (ok_iota _ _ (by omega)) (by rw [iota_length]) ?_
  show plc xs = plc (iota 0 xs.length)
  rw [plc_last, e]

theorem next_at {xs ys : List Int} (hl : ys.length = xs.length) (ho : okFrom 0 ys = true) (h : plc ys = plc xs + 1) : ys = atL xs.length (plc xs + 1) := by
  rw [← h, ← hl, atL_plc ho]

theorem before_at {xs ys : List Int} (hl : ys.length = xs.length) (ho : okFrom 0 ys = true) (h : plc ys + 1 = plc xs) : ys = atL xs.length (plc xs - 1) := by
  rw [show plc xs - 1 = plc ys by omega, ← hl, atL_plc ho]

theorem at_ok_any : ∀ (n : Nat) (b p : Int), 0 ≤ b → 0 ≤ p → okFrom b (atFrom n b p) = true := by
  intro n
  induction n with
  | zero => intro b p _ _; rfl
  | succ n ih =>
    intro b p hb hp
    have ho := opn_pos n b hb
    have hd : 0 ≤ p / opn n b := Int.ediv_nonneg hp (by omega)
    have h1 : 0 ≤ min (p / opn n b) b := by omega
    have h3 : min (p / opn n b) b * opn n b ≤ p / opn n b * opn n b := Int.mul_le_mul_of_nonneg_right (by omega) (by omega)
    have h4 := Int.ediv_mul_le p (show opn n b ≠ 0 by omega)
    simp only [atFrom]
    rw [okFrom_step _ h1 (by omega)]
    exact ih _ _ (by omega) (by omega)

theorem atL_partIn_any (n p : Nat) (hn : 1 ≤ n) (h8 : n ≤ 8) : partIn (atL n (p : Int)) = true := by
  have := at_ok_any n 0 (p : Int) (by omega) (by omega)
  simp only [partIn, atL_length, Bool.and_eq_true, decide_eq_true_eq]
  exact ⟨⟨hn, h8⟩, this⟩

theorem split_at (xs : List Int) (t : Nat) (h : t < xs.length) : xs = xs.take t ++ xs.getD t 0 :: xs.drop (t + 1) := by
  rw [← drop_cons xs t h, List.take_append_drop]

theorem take_snocI (xs : List Int) (t : Nat) (h : t < xs.length) : xs.take (t + 1) = xs.take t ++ [xs.getD t 0] := by
  rw [List.take_succ_eq_append_getElem h]
  simp [List.getD, h]

theorem okFrom_take {xs : List Int} {b : Int} (h : okFrom b xs = true) (t : Nat) : okFrom b (xs.take t) = true := by
  have := (okFrom_app (xs.take t) (xs.drop t) b).1 (by rw [List.take_append_drop]; exact h)
  exact this.1

theorem okFrom_at {xs : List Int} (h : okFrom 0 xs = true) (t : Nat) (ht : t < xs.length) : 0 ≤ xs.getD t 0 ∧ xs.getD t 0 ≤ sizeFrom 0 (xs.take t) := by
  have h1 : okFrom 0 (xs.take t ++ xs.getD t 0 :: xs.drop (t + 1)) = true := by rw [← split_at xs t ht]; exact h
  have := okFrom_head ((okFrom_app _ _ _).1 h1).2
  exact ⟨this.1, this.2.1⟩

theorem sizeFrom_snoc (u : List Int) (x b : Int) : sizeFrom b (u ++ [x]) = max (sizeFrom b u) (x + 1) := by
  rw [sizeFrom_app]; rfl

theorem size_le_len : ∀ (xs : List Int) (b : Int), 0 ≤ b → okFrom b xs = true → sizeFrom b xs ≤ b + xs.length := by
  intro xs
  induction xs with
  | nil => intro b _ _; show b ≤ _; simp
  | cons x xs ih =>
    intro b hb h
    obtain ⟨h0, h1, h2⟩ := okFrom_head h
    have := ih (max b (x + 1)) (by omega) h2
    show sizeFrom (max b (x + 1)) xs ≤ _
    simp only [List.length_cons]
    omega

theorem next_found {xs : List Int} (h : okFrom 0 xs = true) (t : Nat) (ht : t < xs.length) (hd : xs.drop (t + 1) = iota (sizeFrom 0 (xs.take (t + 1))) (xs.length - (t + 1))) (hne : xs.getD t 0 ≠ sizeFrom 0 (xs.take t)) :
    okFrom 0 (xs.take t ++ (xs.getD t 0 + 1) :: List.replicate (xs.length - (t + 1)) 0) = true ∧ xs.take t ++ (xs.getD t 0 + 1) :: List.replicate (xs.length - (t + 1)) 0 = atL xs.length (plc xs + 1) ∧ plc xs + 1 < opn xs.length 0 := by
  have ha := okFrom_at h t ht
  have hs := next_step (xs.take t) (xs.getD t 0) (xs.length - (t + 1)) ha.1 (by omega) (okFrom_take h t)
  have he : xs.take t ++ xs.getD t 0 :: iota (sizeFrom 0 (xs.take t)) (xs.length - (t + 1)) = xs := by
    have hz : sizeFrom 0 (xs.take (t + 1)) = sizeFrom 0 (xs.take t) := by rw [take_snocI xs t ht, sizeFrom_snoc, max_small (by omega)]
    rw [← hz, ← hd, ← split_at xs t ht]
  rw [he] at hs
  have hl : (xs.take t ++ (xs.getD t 0 + 1) :: List.replicate (xs.length - (t + 1)) 0).length = xs.length := by simp; omega
  have hb := plc_bd hs.1
  have hp : plc (xs.take t ++ (xs.getD t 0 + 1) :: List.replicate (xs.length - (t + 1)) 0) = plc xs + 1 := hs.2
  refine ⟨hs.1, next_at hl hs.1 hs.2, ?_⟩
  rw [hl, hp] at hb
  exact hb.2

theorem next_more {xs : List Int} (t : Nat) (ht : t < xs.length) (hd : xs.drop (t + 1) = iota (sizeFrom 0 (xs.take (t + 1))) (xs.length - (t + 1))) (he : xs.getD t 0 = sizeFrom 0 (xs.take t)) :
    xs.drop t = iota (sizeFrom 0 (xs.take t)) (xs.length - t) := by
  rw [drop_cons xs t ht, hd, take_snocI xs t ht, sizeFrom_snoc, he, max_new, show xs.length - t = xs.length - (t + 1) + 1 by omega, iota_succ]

theorem okV_of {vs : List (List Int)} (h : areV vs = true) {k : Nat} (hk : k < vs.length) : (vs.getD k []).length ≤ 5 ∧ alike (vs.getD 0 []) (vs.getD k []) = true := by
  simp only [areV, Bool.and_eq_true, List.all_eq_true] at h
  have := h.2 (vs.getD k []) (by simp [List.getD, hk])
  simpa [okV] using this
theorem areV_len {vs : List (List Int)} (h : areV vs = true) : 1 ≤ vs.length ∧ vs.length ≤ 6 := by
  simp only [areV, Bool.and_eq_true, decide_eq_true_eq] at h
  exact h.1
theorem areV_row {vs : List (List Int)} (h : areV vs = true) : ∃ L, 1 ≤ L ∧ L ≤ 5 ∧ ∀ k, k < vs.length → (vs.getD k []).length = L ∧ partIn (vs.getD k []) = true := by
  have h1 := areV_len h
  obtain ⟨a1, a2⟩ := okV_of h (k := 0) (by omega)
  have a3 := (alike_iff.1 a2).1
  refine ⟨(vs.getD 0 []).length, ?_, a1, fun k hk => ?_⟩
  · have := a3
    simp only [partIn, Bool.and_eq_true, decide_eq_true_eq] at this
    exact this.1.1
  · obtain ⟨b1, b2⟩ := okV_of h hk
    obtain ⟨b3, b4, b5⟩ := alike_iff.1 b2
    exact ⟨b5.symm, b4⟩

theorem costOf_range (a : List Int) (vs : List (List Int)) (n : Nat) (hn : n ≤ vs.length) : ((List.range n).map fun k => ((quar a (vs.getD k []) : Nat) : Int)).sum = ((costOf a (vs.take n) : Nat) : Int) := by
  induction n with
  | zero => simp [costOf]
  | succ n ih =>
    rw [List.range_succ, List.map_append, List.sum_append, ih (by omega), costOf_step a vs n (by omega)]
    simp
theorem votes_step (l : List (List Int)) (i j k : Nat) (h : k < l.length) : votes (l.take (k + 1)) i j = votes (l.take k) i j + (if (l.getD k []).getD i 0 = (l.getD k []).getD j 0 then 1 else 0) := by
  have ap : ∀ l m, votes (l ++ m) i j = votes l i j + votes m i j := by
    intro l m
    induction l with
    | nil => simp [votes]
    | cons v l ih => simp only [votes, List.cons_append, List.foldr_cons] at ih ⊢; omega
  have hk : l.getD k [] = l[k] := by simp [List.getD, h]
  rw [List.take_succ_eq_append_getElem h, ap, hk]
  simp only [votes, List.foldr_cons, List.foldr_nil, Nat.add_zero]
theorem votes_range (vs : List (List Int)) (i j n : Nat) (hn : n ≤ vs.length) : ((List.range n).map fun k => (if (vs.getD k []).getD i 0 = (vs.getD k []).getD j 0 then 1 else 0 : Int)).sum = ((votes (vs.take n) i j : Nat) : Int) := by
  induction n with
  | zero => simp [votes]
  | succ n ih =>
    rw [List.range_succ, List.map_append, List.sum_append, ih (by omega), votes_step vs i j n (by omega)]
    by_cases e : (vs.getD n []).getD i 0 = (vs.getD n []).getD j 0
    · simp only [List.map_cons, List.map_nil, List.sum_cons, List.sum_nil, if_pos e]; simp
    · simp only [List.map_cons, List.map_nil, List.sum_cons, List.sum_nil, if_neg e]; simp

theorem quar_le (a b : List Int) (h : a.length ≤ 8) : quar a b ≤ 64 := by
  have := quarTo_le a b a.length
  have h2 := Nat.mul_le_mul h h
  unfold quar
  omega
theorem costOf_le (a : List Int) (h : a.length ≤ 8) (vs : List (List Int)) : costOf a vs ≤ 64 * vs.length := by
  induction vs with
  | nil => simp [costOf]
  | cons v vs ih =>
    have := quar_le a v h
    simp only [costOf, List.foldr_cons, List.length_cons] at ih ⊢
    omega

def viewCost (a : List Int) (vs : List (List Int)) : Int × Bool := if areV vs && alike a (vs.getD 0 []) then ((costOf a vs : Nat), true) else (0, false)

section
open Go.Conc Go.RowKit

theorem rows_at {w : World} {v : Value} {vs : List (List Int)} {L : Nat} (hv : RdM w v vs) (hn : 1 ≤ vs.length) (h1 : 1 ≤ L) (hL : ∀ k, k < vs.length → (vs.getD k []).length = L) :
    ∃ (vb vo vcap : Nat) (bV oV cV : Nat → Nat), v = .slice (some ⟨vb, vo, none⟩) vs.length vcap ∧ ∀ k, k < vs.length → w.cell? ⟨vb, vo + k, none⟩ = some (.slice (some ⟨bV k, oV k, none⟩) L (cV k)) ∧ Nums w (bV k) (oV k) (vs.getD k []) ∧ RdV w (.slice (some ⟨bV k, oV k, none⟩) L (cV k)) (vs.getD k []) := by
  obtain ⟨ao, ca, rs, hvl, rfl, _, _, h3, h4⟩ := hv
  rcases h3 with h | ⟨vb, vo, rfl, hc⟩
  · rw [h] at hn; simp at hn
  have key : ∀ k, ∃ t : Nat × Nat × Nat, k < vs.length → w.cell? ⟨vb, vo + k, none⟩ = some (.slice (some ⟨t.1, t.2.1, none⟩) L t.2.2) ∧ Nums w t.1 t.2.1 (vs.getD k []) ∧ RdV w (.slice (some ⟨t.1, t.2.1, none⟩) L t.2.2) (vs.getD k []) := by
    intro k
    by_cases hk : k < vs.length
    · have hrv := h4 k hk
      obtain ⟨zo, zc, e, hr, _⟩ := h4 k hk
      rw [hL k hk] at e
      rw [e] at hrv
      rcases hr with hr | ⟨b, o, rfl, hr⟩
      · have := hL k hk
        rw [hr] at this
        simp at this
        omega
      · exact ⟨(b, o, zc), fun _ => ⟨by rw [hc k hk, e], hr, hrv⟩⟩
    · exact ⟨(0, 0, 0), fun h => absurd h hk⟩
  obtain ⟨F, hF⟩ := Classical.axiomOfChoice key
  exact ⟨vb, vo, ca, fun k => (F k).1, fun k => (F k).2.1, fun k => (F k).2.2, rfl, hF⟩

theorem cell_push {w w1 : World} {o : Obj} (e : w1.heap = w.heap.push o) {a : Addr} {v : Value} (h : w.cell? a = some v) : w1.cell? a = some v := by
  have hb : a.block < w.heap.size := World.block_lt_of_cell? w _ h
  unfold World.cell? at h ⊢
  rw [e, Array.getElem?_push_lt hb, ← Array.getElem?_eq_getElem hb]
  exact h
theorem nums_push {w w1 : World} {o : Obj} (e : w1.heap = w.heap.push o) {b off : Nat} {xs : List Int} (h : Nums w b off xs) : Nums w1 b off xs := fun j hj => cell_push e (h j hj)
theorem cell_pushed {w w1 : World} {v : Value} {t : TypeId} (e : w1.heap = w.heap.push (.cells #[v] t)) : w1.cell? ⟨w.heap.size, 0, none⟩ = some v := by simp [World.cell?, e]

theorem own_sums {w' : World} {B S q : Nat} {ys : Array Value} {xs : List Int} (hB : B ≤ S) (h1 : w'.heap[S]? = some (.cells ys 3)) (h2 : ys.size = q) (hq : xs.length = q) (hqm : q ≤ maxLen) (h3 : ∀ x, x < q → ys[x]? = some (.int .i64 (xs.getD x 0))) : Own w' B (.slice (some ⟨S, 0, none⟩) q q) xs := by
  subst hq
  refine ⟨by simp, .inr ⟨S, xs.length, ys, rfl, hB, h1, Nat.le_refl _, hqm, by omega, ?_⟩⟩
  refine List.ext_getElem? fun i => ?_
  rw [Nat.mul_one, List.take_of_length_le (by rw [Array.length_toList]; omega)]
  by_cases hi : i < xs.length
  · rw [Array.getElem?_toList, h3 i hi]
    simp [List.getD, hi]
  · rw [List.getElem?_eq_none (by rw [Array.length_toList]; omega), List.getElem?_eq_none (by simp; omega)]

theorem sumC_all (avs : Nat → Nat → Int) (n x : Nat) : sumC avs n 0 x = ((List.range n).map fun i => avs i x).sum := by simp [sumC]

section
variable {X w : World}
theorem bel_sums {w1 w' : World} {o : Obj} {v : Value} {n q : Nat} {avs : Nat → Nat → Int} (e : w1.heap = w.heap.push o) (e1 : w1.os = w.os) (e2 : w1.output = w.output) (h : Sums w1 n q avs v w') : Bel w w' := by
  have hs : w1.heap.size = w.heap.size + 1 := by rw [e, Array.size_push]
  obtain ⟨ys, h1, _⟩ := h.sums
  have := (Array.getElem?_eq_some_iff.1 h1).1
  refine ⟨h.os.trans e1, h.output.trans e2, by omega, fun b hb => ?_⟩
  rw [h.old b (by omega), e, Array.getElem?_push_lt hb, ← Array.getElem?_eq_getElem hb]

set_option maxRecDepth 100000 in
set_option maxHeartbeats 1600000 in
theorem costs_v {pv vv : Value} {ps vs : List (List Int)} {L : Nat} (hp : RdM w pv ps) (hv : RdM w vv vs) (h1 : 1 ≤ L) (h8 : L ≤ 8) (hpl : ∀ k, k < ps.length → (ps.getD k []).length = L) (hvl : ∀ k, k < vs.length → (vs.getD k []).length = L)
    (hp1 : 1 ≤ ps.length) (hpm : ps.length ≤ 10000) (hv1 : 1 ≤ vs.length) (hv6 : vs.length ≤ 6) :
    CallsB (duo Try.prog X) 32 #[pv, vv] w (fun v w' => Own w' w.heap.size v (ps.map fun p => ((costOf p vs : Nat) : Int)) ∧ Bel w w') := by
  obtain ⟨pb, po, pcap, bP, oP, cP, rfl, hP⟩ := rows_at hp hp1 h1 hpl
  obtain ⟨vb, vo, vcap, bV, oV, cV, rfl, hV⟩ := rows_at hv hv1 h1 hvl
  refine costs_b (X := X) fun w1 e e1 e2 => ?_
  obtain ⟨avs, havs⟩ : ∃ avs : Nat → Nat → Int, avs = fun c l => ((quar (ps.getD l []) (vs.getD c []) : Nat) : Int) := ⟨_, rfl⟩
  have hsum : ∀ c x, c ≤ vs.length → x < ps.length → ((List.range c).map fun i => avs i x).sum = ((costOf (ps.getD x []) (vs.take c) : Nat) : Int) := fun c x hc hx => by
    rw [havs]; exact costOf_range _ _ _ hc
  have hq64 : ∀ c x, x < ps.length → 0 ≤ avs c x ∧ avs c x ≤ 64 := fun c x hx => by
    rw [havs]
    have := quar_le (ps.getD x []) (vs.getD c []) (by rw [hpl x hx]; exact h8)
    simp only
    omega
  have hcl : ∀ c x, x < ps.length → costOf (ps.getD x []) (vs.take c) ≤ 64 * 6 := fun c x hx => by
    have := costOf_le (ps.getD x []) (by rw [hpl x hx]; exact h8) (vs.take c)
    simp only [List.length_take] at this
    omega
  have hask := hask_costs (X := X) (w := w1) (n := vs.length) (q := ps.length) (L := L) (pcap := pcap) (cP := cP) (cV := cV) (P := fun x => ps.getD x []) (V := fun k => vs.getD k []) h1 h8 (cell_pushed e) (fun x hx => cell_push e (hP x hx).1) (fun x hx => ⟨nums_push e (hP x hx).2.1, hpl x hx⟩) (fun k hk => ⟨nums_push e (hV k hk).2.1, hvl k hk⟩)
  refine (totals_b (X := X) (w := w1) (n := vs.length) (q := ps.length) (vb := vb) (vo := vo) (vcap := vcap) (row := fun k => .slice (some ⟨bV k, oV k, none⟩) L (cV k)) (avs := avs) (by omega) (by omega) (by omega) ?_ (fun i hi => cell_push e (hV i hi).1) (fun i _ => ⟨_, _, _, rfl⟩) (by rw [havs]; exact hask)).mono fun v w' hs => ⟨?_, bel_sums e e1 e2 hs⟩
  · intro c l x hc hl hx
    unfold sumC
    rw [hsum c x (by omega) hx]
    have a := hcl c x hx
    have b := hq64 c x hx
    split <;> omega
  · obtain ⟨ys, y1, y2, y3⟩ := hs.sums
    rw [hs.val]
    have hsz : w1.heap.size = w.heap.size + 1 := by rw [e, Array.size_push]
    refine own_sums (by omega) y1 y2 (by simp) (by unfold maxLen; omega) fun x hx => ?_
    rw [y3 x hx, sumC_all, hsum vs.length x (Nat.le_refl _) hx, List.take_length]
    simp [List.getD, hx]
end
end

section
open Go.Conc Go.RowKit

theorem calls_kept {X w : World} {f : FuncId} {fn : Func} {cd : Code} {args : Array Value} {R : Value → World → Prop} (hp : (cutP Try.prog).funcs[f]? = some fn) (hP : Try.prog.funcs[f]? = some fn) (hb : fn.body = some cd) (hok : okCode Try.prog cd = true) (hi : Try.prog.inits.idxOf? f = none)
    (h : ∀ τ, Calls (cutP Try.prog) f args (ownTape w τ) fun e w' => ∃ v, e = .returned v ∧ R v w') : CallsB (duo Try.prog X) f args w R := by
  refine CallsB.of_calls kit ⟨fn, hp, hP⟩ ?_ fun τ => (h τ).mono ?_
  · have e : Frame.enter Try.prog f args .normal = { (default : Frame) with fn := f, kind := .normal }.at { tmps := args ++ Array.replicate (fn.ntmps - args.size) undef, defers := [] } [.code cd] := by
      simp [Frame.enter, Frame.at, hP, hb]
    show okFrame (duo Try.prog X) (Frame.enter Try.prog f args .normal)
    rw [e]
    refine ⟨fun it hit => ?_, fun d hd => (by cases hd), rfl, hi, fun _ => ⟨fn, hp, hP⟩⟩
    obtain rfl : it = .code cd := by simpa [Frame.at] using hit
    exact hok
  · rintro e w' ⟨v, rfl, hv⟩
    exact hv

theorem CallsB.own {T : Two} {f : FuncId} {args : Array Value} {w : World} {R : Value → World → Prop} {τ : Nat → Question → Nat} (h : CallsB T f args w R) : CallsB T f args (ownTape w τ) R :=
  fun c H fr cs h1 h2 h3 h4 => h c H fr cs h1 ⟨h2.size, h2.os, h2.output, h2.out, h2.hid, h2.ok, h2.low, h2.grown⟩ h3 h4

theorem bel_of_below {w w' : World} {τ : Nat → Question → Nat} (h : Below w.heap.size (ownTape w τ) w') : Bel w w' := ⟨h.os, h.output, h.size, h.block⟩
theorem Bel.refl (w : World) : Bel w w := ⟨rfl, rfl, Nat.le_refl _, fun _ _ => rfl⟩
theorem Bel.trans {a b c : World} (h : Bel a b) (k : Bel b c) : Bel a c := ⟨k.os.trans h.os, k.output.trans h.output, Nat.le_trans h.size k.size, fun i hi => (k.block i (Nat.lt_of_lt_of_le hi h.size)).trans (h.block i hi)⟩
theorem Bel.cell {w w' : World} (h : Bel w w') {a : Addr} {v : Value} (hc : w.cell? a = some v) : w'.cell? a = some v := by
  have hb : a.block < w.heap.size := World.block_lt_of_cell? w _ hc
  unfold World.cell? at hc ⊢
  rw [h.block _ hb]
  exact hc
theorem Bel.rdv {w w' : World} (h : Bel w w') {v : Value} {xs : List Int} (hv : RdV w v xs) : RdV w' v xs := by
  obtain ⟨ao, cap, e, hr, h2⟩ := hv
  refine ⟨ao, cap, e, ?_, h2⟩
  rcases hr with hr | ⟨b, off, e2, hc⟩
  · exact .inl hr
  · exact .inr ⟨b, off, e2, fun j hj => h.cell (hc j hj)⟩
theorem Bel.rdm {w w' : World} (h : Bel w w') {v : Value} {vs : List (List Int)} (hv : RdM w v vs) : RdM w' v vs := by
  obtain ⟨ao, ca, rs, hvl, e, h1, h2, h3, h4⟩ := hv
  refine ⟨ao, ca, rs, hvl, e, h1, h2, ?_, fun i hi => h.rdv (h4 i hi)⟩
  rcases h3 with hr | ⟨b, off, e2, hc⟩
  · exact .inl hr
  · exact .inr ⟨b, off, e2, fun j hj => h.cell (hc j hj)⟩
theorem Bel.alloc (w : World) (o : Obj) : Bel w (w.alloc o) := ⟨rfl, rfl, by rw [alloc_size]; omega, fun b hb => push_old hb⟩
theorem rdm_one {w : World} {v0 : Value} {xs : List Int} (h : RdV w v0 xs) (t : TypeId) : RdM (w.alloc (.cells #[v0] t)) (.slice (some ⟨w.heap.size, 0, none⟩) 1 1) [xs] := by
  refine ⟨_, 1, [v0], rfl, rfl, Nat.le_refl _, by unfold maxLen; omega, .inr ⟨w.heap.size, 0, rfl, fun i hi => ?_⟩, fun i hi => ?_⟩
  · obtain rfl : i = 0 := by simp at hi; exact hi
    exact cell_in (push_at (w := w) (o := .cells #[v0] t) rfl) rfl
  · obtain rfl : i = 0 := by simp at hi; exact hi
    exact (Bel.alloc w _).rdv h
theorem own_first {w : World} {B : Nat} {v : Value} {x : Int} {xs : List Int} (h : Own w B v (x :: xs)) : ∃ g cap, v = .slice (some ⟨g, 0, none⟩) (xs.length + 1) cap ∧ w.cell? ⟨g, 0, none⟩ = some (.int .i64 x) := by
  rcases own_view h with ⟨_, e⟩ | ⟨g, cap, e, _, _, _, _, hc, _⟩
  · cases e
  · exact ⟨g, cap, e, by simpa using hc 0 (by simp)⟩
end

section
open Go.RowKit

theorem heap_setCell2 {W : World} {B : Nat} {u v : Value} {t : TypeId} (v' : Value) (h : W.heap[B]? = some (.cells #[u, v] t (0, 0))) : (W.setCell ⟨B, 1, none⟩ v').heap[B]? = some (.cells #[u, v'] t (0, 0)) := by
  obtain ⟨hlt, hk⟩ := Array.getElem?_eq_some_iff.1 h
  show (W.heap.modify B _)[B]? = _
  rw [Array.getElem?_eq_getElem (by rw [Array.size_modify]; exact hlt), Array.getElem_modify_self, hk]
  rfl

def Rdr (w : World) (g : Nat) (bs : Value) (p : Nat) : Prop := w.heap[g]? = some (.cells #[bs, .int .i64 p] 71 (0, 0))

theorem rdr_facts {w : World} {g p : Nat} {bs : Value} (h : Rdr w g bs p) :
    g < w.heap.size ∧ w.cell? ⟨g, 0, none⟩ = some bs ∧ w.cell? ⟨g, 1, none⟩ = some (.int .i64 p) ∧ w.frozen? ⟨g, 1, none⟩ = false := by
  unfold Rdr at h
  refine ⟨(Array.getElem?_eq_some_iff.1 h).1, ?_, ?_, ?_⟩ <;> simp [World.cell?, World.frozen?, h]

def Bytes (w : World) (a : Option Addr) (len : Nat) : Prop :=
  len = 0 ∨ ∃ b off, a = some ⟨b, off, none⟩ ∧ ∀ j, j < len → ∃ x : Nat, x ≤ 255 ∧ w.cell? ⟨b, off + j, none⟩ = some (.int .u8 x)

theorem bytes_below {w w' : World} {a : Option Addr} {len : Nat} (h : Bytes w a len) (hb : Below w.heap.size w w') : Bytes w' a len := by
  rcases h with h | ⟨b, off, ha, hc⟩
  · exact .inl h
  · refine .inr ⟨b, off, ha, fun j hj => ?_⟩
    obtain ⟨x, hx, hcx⟩ := hc j hj
    exact ⟨x, hx, by rw [hb.cell (World.block_lt_of_cell? w _ hcx)]; exact hcx⟩

theorem bytes_short {w : World} {a : Option Addr} {len m : Nat} (h : Bytes w a len) (hm : m ≤ len) : Bytes w a m := by
  rcases h with h | ⟨b, off, ha, hc⟩
  · exact .inl (by omega)
  · exact .inr ⟨b, off, ha, fun j hj => hc j (by omega)⟩

set_option maxHeartbeats 400000 in
theorem l6Open_any (a : Option Addr) (len cap : Nat) (w : World) (hby : Bytes w a len) (hlen : len ≤ 1048576) (hc : len ≤ cap) (hcm : cap ≤ maxLen) :
    Calls (cutP Try.prog) 39 #[.slice a len cap] w fun e w' => e = .returned (.pointer (some ⟨w.heap.size, 0, none⟩)) ∧
      ∃ m, m ≤ 2000 ∧ Bytes w a m ∧ Rdr w' w.heap.size (.slice a m cap) 0 ∧ Below w.heap.size w w' ∧ w.heap.size < w'.heap.size := by
  have HB := Lib.hid hby
  clear hby
  by_cases hl : len > 2000
  · go_enter Tryp.func39, Tryp.ntmps39
    go_wp2
    go_ret
    refine ⟨rfl, 2000, Nat.le_refl _, bytes_short HB.out (by omega), ?_, (Below.refl _ _).alloc (Nat.le_refl _) _, by rw [World.size_alloc]; omega⟩
    unfold Rdr World.alloc
    exact Array.getElem?_push_size
  · go_enter Tryp.func39, Tryp.ntmps39
    go_wp2
    go_ret
    refine ⟨rfl, len, by omega, HB.out, ?_, (Below.refl _ _).alloc (Nat.le_refl _) _, by rw [World.size_alloc]; omega⟩
    unfold Rdr World.alloc
    exact Array.getElem?_push_size

theorem xor_small (a b : Nat) (ha : a < 2 ^ 32) (hb : b < 2 ^ 32) : bits .xor .i64 (a : Int) (b : Int) = ((a ^^^ b : Nat) : Int) := by
  have hx := Nat.xor_lt_two_pow ha hb
  have e : (2 : Nat) ^ 64 = 18446744073709551616 := by decide
  have e32 : (2 : Nat) ^ 32 = 4294967296 := by decide
  have ha' : a % 2 ^ IntKind.i64.bits = a := Nat.mod_eq_of_lt (show a < 2 ^ 64 by omega)
  have hb' : b % 2 ^ IntKind.i64.bits = b := Nat.mod_eq_of_lt (show b < 2 ^ 64 by omega)
  have : bits .xor .i64 (a : Int) (b : Int) = IntKind.i64.wrap ((a ^^^ b : Nat) : Int) := by
    simp only [bits, BitVec.ofInt_natCast, BitVec.toNat_xor, BitVec.toNat_ofNat, ha', hb']
  rw [this, IntKind.wrap_i64]
  omega

def mixed (x y p d : Nat) : Nat := x * 131 + y * 1117 + p * 29 + d * 53

theorem mixed_at (x y p d n : Nat) (hx : x ≤ 255) (hy : y ≤ 255) (hp : p ≤ 1000000) (hd : d ≤ 1000000) :
    (bits BinOp.xor IntKind.i64 (↑x * 131 + ↑y * 1117 + ↑p * 29 + ↑d * 53) ((↑x * 131 + ↑y * 1117 + ↑p * 29 + ↑d * 53) / 64)).tmod (n : Int) = (((mixed x y p d ^^^ mixed x y p d / 64) % n : Nat) : Int) := by
  have hm : mixed x y p d < 2 ^ 32 := by unfold mixed; omega
  have e3 : (x : Int) * 131 + y * 1117 + p * 29 + d * 53 = ((mixed x y p d : Nat) : Int) := by
    unfold mixed
    omega
  rw [e3]
  generalize mixed x y p d = m at *
  have e4 : (m : Int) / 64 = ((m / 64 : Nat) : Int) := by omega
  rw [e4, xor_small m (m / 64) hm (by omega), Int.tmod_eq_emod_of_nonneg (by omega)]
  exact (Int.natCast_emod _ _).symm

def Picked (w : World) (g : Nat) (bs : Value) (p n : Nat) (e : Ending) (w' : World) : Prop :=
  ∃ r : Nat, e = .returned (.int .i64 r) ∧ r < n ∧ Rdr w' g bs (p + 1) ∧ w.grownBy w' (some g) ∧ w'.heap.size = w.heap.size

set_option maxHeartbeats 1000000 in
theorem pick_any (g : Nat) (a : Option Addr) (len cap p n : Nat) (w : World) (hr : Rdr w g (.slice a len cap) p) (hby : Bytes w a len) (hne : 0 < len → ∀ x, a = some x → x.block ≠ g) (hlen : len ≤ 2000) (hp : p ≤ 1000000) (hn : 1 ≤ n) (hn2 : n ≤ 100000) :
    Calls (cutP Try.prog) 42 #[.pointer (some ⟨g, 0, none⟩), .int .i64 n] w (Picked w g (.slice a len cap) p n) := by
  obtain ⟨hg, hc0, hc1, hfz⟩ := rdr_facts hr
  have HS := Lib.hid (heap_setCell2 (.int .i64 ((p : Int) + 1)) hr)
  have hgr : w.grownBy (w.setCell ⟨g, 1, none⟩ (.int .i64 ((p : Int) + 1))) (some g) :=
    ⟨rfl, rfl, rfl, by simp [World.setCell], fun k _ hk => Below.heap_setCell w _ _ k fun e => hk (by rw [e])⟩
  have HG := Lib.hid hgr
  clear hgr hr
  have HB := Lib.hid hby
  clear hby
  by_cases h0 : len = 0
  · subst h0
    go_enter Tryp.func42, Tryp.ntmps42
    go_wp2
    go_ret
    exact ⟨0, rfl, by omega, by simpa [Rdr] using HS.out, HG.out, by simp [World.setCell]⟩
  · rcases HB.out with h | ⟨b, off, rfl, hcs⟩
    · exact absurd h h0
    have hbg : b ≠ g := hne (by omega) _ rfl
    have hgb : g ≠ b := fun e => hbg e.symm
    have hz : ((len : Int) == 0) = false := by simp; omega
    have hcs' : ∀ j, j < len → ∃ x : Nat, x ≤ 255 ∧ (w.setCell ⟨g, 1, none⟩ (.int .i64 ((p : Int) + 1))).cell? ⟨b, off + j, none⟩ = some (.int .u8 x) := fun j hj => by
      obtain ⟨x, hx, hc⟩ := hcs j hj
      exact ⟨x, hx, by rw [World.cell?_setCell_far _ _ _ _ hgb]; exact hc⟩
    by_cases hlt : p < len
    · obtain ⟨x, hx, hcx⟩ := hcs' p hlt
      clear hcs hcs'
      go_enter Tryp.func42, Tryp.ntmps42
      go_wp2
      go_ret
      refine ⟨x % n, ret_int (Int.natCast_emod x n).symm, Nat.mod_lt _ (by omega), by simpa [Rdr] using HS.out, HG.out, by simp [World.setCell]⟩
    · obtain ⟨q, hq⟩ : ∃ q, q = p % len := ⟨_, rfl⟩
      obtain ⟨q', hq'⟩ : ∃ q', q' = (p * 7 + 3) % len := ⟨_, rfl⟩
      obtain ⟨x, hx, hcx⟩ := hcs' q (by rw [hq]; exact Nat.mod_lt _ (by omega))
      obtain ⟨y, hy, hcy⟩ := hcs' q' (by rw [hq']; exact Nat.mod_lt _ (by omega))
      clear hcs hcs'
      have hqi : ((p : Int) % (len : Int)) = (q : Int) := by rw [hq]; exact (Int.natCast_emod p len).symm
      have hqi' : (((p : Int) * 7 + 3) % (len : Int)) = (q' : Int) := by rw [hq', Int.natCast_emod]; rfl
      have hql : q < len := by rw [hq]; exact Nat.mod_lt _ (by omega)
      have hql' : q' < len := by rw [hq']; exact Nat.mod_lt _ (by omega)
      clear hq hq'
      obtain ⟨d, hd⟩ : ∃ d, d = p / len := ⟨_, rfl⟩
      have hdi : ((p : Int) / (len : Int)) = (d : Int) := by rw [hd]; exact (Int.natCast_ediv p len).symm
      have hdl : d ≤ 1000000 := by rw [hd]; exact Nat.le_trans (Nat.div_le_self _ _) hp
      clear hd
      have hle : (len : Int) ≤ p := by omega
      go_enter Tryp.func42, Tryp.ntmps42
      go_wp2
      go_quiet (fail)
      go_wp2
      go_ret
      refine ⟨(mixed x y p d ^^^ mixed x y p d / 64) % n, ?_, Nat.mod_lt _ (by omega), by simpa [Rdr, World.drewN, World.setCell] using HS.out, ?_, by simp [World.setCell]⟩
      · exact ret_int (mixed_at x y p d n hx hy hp hdl)
      · exact grown_trans HG.out (below_drewN (Below.refl _ _) nq |> grown_of_below |> fun h => ⟨h.os, h.tape, h.output, h.size, fun k hk _ => h.block k hk (by simp)⟩)
end

section
open Go.Conc Go.RowKit

section
variable {w W W1 : World} {τ : Nat → Question → Nat} {v : Value} {xs : List Int} {xss : List (List Int)} {B S : Nat}
theorem rdv_ownT (h : RdV W v xs) : RdV (ownTape W τ) v xs := h
theorem rdm_ownT (h : RdM W v xss) : RdM (ownTape W τ) v xss := h
theorem own_ownT (h : Own W B v xs) : Own (ownTape W τ) B v xs := h
theorem ownM_ownT (h : OwnM W B S v xss) : OwnM (ownTape W τ) B S v xss := h
theorem bel_ownT (h : Bel w W) : Bel w (ownTape W τ) := ⟨h.os, h.output, h.size, h.block⟩
theorem Bel.below (h : Bel w W) (k : Below W.heap.size W W1) : Bel w W1 := h.trans ⟨k.os, k.output, k.size, k.block⟩
theorem own_bel (h : Own W B v xs) (k : Bel W W1) : Own W1 B v xs := by
  refine ⟨h.1, ?_⟩
  rcases h.2 with h | ⟨g, cap, cur, e, hb, hg, h2⟩
  · exact .inl h
  · exact .inr ⟨g, cap, cur, e, hb, (k.block g (Array.getElem?_eq_some_iff.1 hg).1).trans hg, h2⟩
theorem ownM_bel (h : OwnM W B S v xss) (k : Bel W W1) : OwnM W1 B S v xss := by
  obtain ⟨vs, hl, ho, hi, hr, ha⟩ := h
  refine ⟨vs, hl, ⟨ho.1, ?_⟩, hi, fun i hi' => ⟨own_bel (hr i hi').1 k, (hr i hi').2⟩, ha⟩
  rcases ho.2 with h | ⟨g, cap, cur, e, hb, hg, h2⟩
  · exact .inl h
  · exact .inr ⟨g, cap, cur, e, hb, (k.block g (Array.getElem?_eq_some_iff.1 hg).1).trans hg, h2⟩
theorem size_ownT {n : Nat} (h : n ≤ W.heap.size) : n ≤ (ownTape W τ).heap.size := h
theorem size_below {n : Nat} (h : n ≤ W.heap.size) (k : Below W.heap.size W W1) : n ≤ W1.heap.size := Nat.le_trans h k.size
theorem size_touch {n : Nat} (h : n ≤ W.heap.size) (k : Touch W W1 B S) : n ≤ W1.heap.size := by rw [k.size]; exact h
theorem Bel.touch (a : Bel w W) (k : Touch W W1 B S) (hB : w.heap.size ≤ B) : Bel w W1 :=
  ⟨k.os.trans a.os, k.output.trans a.output, by rw [k.size]; exact a.size, fun i hi => (k.block i (.inl (by omega))).trans (a.block i hi)⟩
end

theorem cell_veil {W : World} {a : Addr} {v : Value} (h : W.cell? a = some v) : (veilW W).cell? a = some v := by
  unfold World.cell? at h ⊢
  rw [veilW_get]
  cases hb : W.heap[a.block]? with
  | none => rw [hb] at h; cases h
  | some o =>
    rw [hb] at h
    cases o <;> first | exact h | cases h
theorem rdv_veil {W : World} {v : Value} {xs : List Int} (h : RdV W v xs) : RdV (veilW W) v xs := by
  obtain ⟨ao, cap, e, hr, h2⟩ := h
  refine ⟨ao, cap, e, ?_, h2⟩
  rcases hr with hr | ⟨b, off, e2, hc⟩
  · exact .inl hr
  · exact .inr ⟨b, off, e2, fun j hj => cell_veil (hc j hj)⟩
theorem rdm_veil {W : World} {v : Value} {vs : List (List Int)} (h : RdM W v vs) : RdM (veilW W) v vs := by
  obtain ⟨ao, ca, rs, hvl, e, h1, h2, h3, h4⟩ := h
  refine ⟨ao, ca, rs, hvl, e, h1, h2, ?_, fun i hi => rdv_veil (h4 i hi)⟩
  rcases h3 with hr | ⟨b, off, e2, hc⟩
  · exact .inl hr
  · exact .inr ⟨b, off, e2, fun j hj => cell_veil (hc j hj)⟩

theorem bytes_veil {W : World} {a : Option Addr} {len : Nat} (h : Bytes W a len) : Bytes (veilW W) a len := by
  rcases h with h | ⟨b, off, e, hc⟩
  · exact .inl h
  · exact .inr ⟨b, off, e, fun j hj => by obtain ⟨x, h1, h2⟩ := hc j hj; exact ⟨x, h1, cell_veil h2⟩⟩
theorem bytes_ownT {W : World} {τ : Nat → Question → Nat} {a : Option Addr} {len : Nat} (h : Bytes W a len) : Bytes (ownTape W τ) a len := h

structure Keeps (W W' : World) : Prop where
  os : W'.os = W.os
  output : W'.output = W.output
  block : ∀ b, b < W.heap.size → W'.heap[b]? = W.heap[b]?
theorem Keeps.frame {W W' : World} (h : Keeps W W') (may : MemPlace → Prop) : W.keptBut W' may := by
  refine ⟨h.os, h.output, fun i hi => ?_⟩
  rw [h.block i hi]
  split <;> simp_all
theorem Keeps.same {W W' : World} (h : Keeps W W') {p : MemPlace} (hp : p.block < W.heap.size) : W.sameAt W' p := by
  cases p with
  | cell b o => exact World.cell?_of_block (w := W) (h.block b hp)
  | map b => exact h.block b hp
theorem Keeps.trod {H : Type} {enc : TypeId × Value → H} {P : Program} {t : TypeId} (hl : laidOutB P = true) (hr : P.readableRec t = true) (hrow : t < P.types.size) {W W' : World} {v : Value} {d : DataW H} {ps : List MemPlace}
    (h : DataW.Trod enc P W 0 (fun _ => true) true t v d ps) (hb : Keeps W W') (hlt : ∀ x ∈ ps, x.block < W.heap.size) :
    DataW.Trod enc P W' 0 (fun b => decide (b < W.heap.size)) true t v d ps :=
  WideElems.Trod_stays hl hr hrow h (fun x hx => hb.same (hlt x hx)) (fun x hx => by simpa using hlt x hx)

theorem kept_code {fn : Func} {cd : Code} (h : (match fn.body with | some c => okCode Try.prog c | none => false) = true) (hcd : fn.body = some cd) : okCode Try.prog cd = true := by
  rw [hcd] at h
  exact h

theorem law_true {W : World} {f : FuncId} {fn : Func} {cd : Code} {t : Tmp} {args : Array Value} (hp : (cutP Try.prog).funcs[f]? = some fn) (hP : Try.prog.funcs[f]? = some fn) (hb : fn.body = some cd) (hok : okCode Try.prog cd = true) (hi : Try.prog.inits.idxOf? f = none) (hres : fn.results = #[.tmp t])
    (h : WpB (duo Try.prog W) cd (bodyB (cutP Try.prog) fn fun v w' => v = .bool true ∧ Bel (veilW W) w') { tmps := args ++ Array.replicate (fn.ntmps - args.size) undef, defers := [] } (veilW W)) :
    ∃ M last o w' t', runNT Try.prog (M + 1) (solo (G (Frame.enter Try.prog f args .normal) []) W) #[] = (.ended o w', t') ∧ runN Try.prog M (solo (G (Frame.enter Try.prog f args .normal) []) W) = .next last ∧ step Try.prog last = .ended o w' ∧
      Go.Conc.Good Try.prog (fun v W' => v = .bool true ∧ Keeps W W') last o w' t' := by
  obtain ⟨M, last, o, w', t', e1, e2, e3, e4⟩ := law_runs (T := duo Try.prog W) kit rfl hp hP hb hok hi hres h
  refine ⟨M, last, o, w', t', e1, e2, e3, e4.mono fun v hv => ?_⟩
  obtain ⟨H, w1, ⟨rfl, hbel⟩, hrel⟩ := hv
  refine ⟨rfl, hrel.os.trans hbel.os, hrel.output.trans hbel.output, fun b hlt => ?_⟩
  exact hrel.back hlt (hbel.block b (by rw [veilW_size]; exact hlt))
end

section
open Go.RowKit

set_option maxHeartbeats 1600000 in
theorem l7Quarrel_v (v u : Value) (xs ys : List Int) (w : World) (hv : RdV w v xs) (hu : RdV w u ys) (h1 : 1 ≤ xs.length) (h8 : xs.length ≤ 8) (hlen : ys.length = xs.length) :
    Calls (cutP Try.prog) 59 #[v, u] w (QI w (quar xs ys)) := by
  obtain ⟨bx, ox, cx, rfl, hcx, hbx, hcx1, hcx2⟩ := rdv_cells hv h1
  obtain ⟨by', oy, cy, rfl, hcy, hby, hcy1, hcy2⟩ := rdv_cells hu (by omega)
  clear hv hu hcx1 hcx2 hcy1 hcy2
  obtain ⟨n, hn⟩ : ∃ n, n = xs.length := ⟨_, rfl⟩
  have HN := Lib.hid hn
  have HLY := Lib.hid hlen
  rw [hlen]
  rw [← hn] at h1 h8 HLY ⊢
  clear hn hlen
  go_enter Tryp.func59, Tryp.ntmps59
  go_wp2
  go_loopw [5, 6] (fun c i wr => ∃ (k s : Nat), k ≤ n ∧ i = .int .i64 k ∧ c = .int .i64 s ∧ Hid (s = quarTo xs ys k) ∧ Quiet w wr) (fun _ i _ => n - (intOf i).toNat)
  case atStart => exact ⟨0, 0, Nat.zero_le _, rfl, rfl, Lib.hid rfl, Quiet.refl _⟩
  case round =>
    obtain ⟨k, s, hk, rfl, rfl, HS, hq⟩ := hrel
    by_cases hlt : k < n
    · go_wp2
      go_loopw [5, 7] (fun c i wr => ∃ (j s2 : Nat), j ≤ k ∧ i = .int .i64 j ∧ c = .int .i64 s2 ∧ Hid (s2 = s + qRow xs ys k j) ∧ Quiet w wr) (fun _ i _ => k - (intOf i).toNat)
      case atStart => exact ⟨0, s, Nat.zero_le _, rfl, rfl, Lib.hid rfl, hq⟩
      case round =>
        obtain ⟨j, s2, hj, rfl, rfl, HS2, hq2⟩ := hrel
        have hs2 : s2 ≤ 1000 := by
          have e1 := HS2.out
          have e2 := HS.out
          have e3 := qRow_le xs ys k j
          have e4 := quarTo_le xs ys k
          have e5 := Nat.mul_le_mul (show k ≤ 8 by omega) (show k ≤ 8 by omega)
          omega
        by_cases hjk : j < k
        · have hc1 := cells_at (hq2.cells hcx) k (by have := HN.out; omega)
          have hc2 := cells_at (hq2.cells hcx) j (by have := HN.out; omega)
          have hc3 := cells_at (hq2.cells hcy) k (by have := HLY.out; omega)
          have hc4 := cells_at (hq2.cells hcy) j (by have := HLY.out; omega)
          have hd : dif xs ys k j = if decide (xs.getD k 0 = xs.getD j 0) = decide (ys.getD k 0 = ys.getD j 0) then 0 else 1 := rfl
          obtain ⟨x, hx⟩ : ∃ x, x = xs.getD k 0 := ⟨_, rfl⟩
          obtain ⟨y, hy⟩ : ∃ y, y = xs.getD j 0 := ⟨_, rfl⟩
          obtain ⟨z, hz⟩ : ∃ z, z = ys.getD k 0 := ⟨_, rfl⟩
          obtain ⟨t, ht⟩ : ∃ t, t = ys.getD j 0 := ⟨_, rfl⟩
          rw [← hx] at hc1
          rw [← hy] at hc2
          rw [← hz] at hc3
          rw [← ht] at hc4
          rw [← hx, ← hy, ← hz, ← ht] at hd
          have b1 : (k : Int) < n := by omega
          have b2 : (j : Int) < n := by omega
          have b3 : (j : Int) < k := by omega
          clear hx hy hz ht
          by_cases e : decide (x = y) = decide (z = t)
          · rw [if_pos e] at hd
            have HD := Lib.hid hd
            have hb : (((x == y) : Bool) == (z == t)) = true := by
              have e1 : (x == y) = decide (x = y) := rfl
              have e2 : (z == t) = decide (z = t) := rfl
              rw [e1, e2]
              revert e
              cases decide (x = y) <;> cases decide (z = t) <;> simp
            clear hd e
            go_wp2
            go_quiet (fail)
            go_wp2
            go_roundw
            case rel => exact ⟨j + 1, s2, by omega, by go_num, rfl, Lib.hid (by rw [HS2.out]; show _ = s + (qRow xs ys k j + dif xs ys k j); rw [HD.out]; rfl), hq2.drewN _⟩
            case measure => simp [intOf]; omega
          · rw [if_neg e] at hd
            have HD := Lib.hid hd
            have hb : (((x == y) : Bool) == (z == t)) = false := by
              have e1 : (x == y) = decide (x = y) := rfl
              have e2 : (z == t) = decide (z = t) := rfl
              rw [e1, e2]
              revert e
              cases decide (x = y) <;> cases decide (z = t) <;> simp
            clear hd e
            go_wp2
            go_quiet (fail)
            go_wp2
            go_roundw
            case rel => exact ⟨j + 1, s2 + 1, by omega, by go_num, by go_num, Lib.hid (by rw [HS2.out]; show _ = s + (qRow xs ys k j + dif xs ys k j); rw [HD.out]; rfl), hq2.drewN _⟩
            case measure => simp [intOf]; omega
        · have hjk : j = k := by omega
          subst hjk
          go_wp2
          go_roundw
          case rel => exact ⟨j + 1, s2, by omega, by go_num, rfl, Lib.hid (by rw [HS2.out, HS.out]; rfl), hq2⟩
          case measure => simp [intOf]; omega
    · have hkn : k = n := by omega
      subst hkn
      go_wp2
      go_ret
      exact ⟨ret_int (by rw [HS.out, HN.out]; rfl), hq⟩
end

end Go.Proofs.Ytfiaiephbemdoaa
