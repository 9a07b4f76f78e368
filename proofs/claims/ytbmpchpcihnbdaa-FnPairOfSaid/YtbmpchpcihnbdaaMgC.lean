/-
  What the laws of this claim lean on: what functions of the program and of the model answer, one after another, and plain mathematics. No condition.
-/
import Derived.Test.YtbmpchpcihnbdaaMgA
import Derived.Test.YtbmpchpcihnbdaaMgB
import Derived.Deep.RegionHeld3
import Derived.Laws.Rows
import Derived.Laws.CopyOwn
import Derived.Lib.SliceRun
import Derived.Lib.SlBuf
import Derived.BigRegion

/-
  The contracts of the laws' helpers on lists of lists: toIntSS, eqIntSS, markIntSS, szIntSS (and heldIntSS where the laws use it).
-/
namespace Go.Proofs.Ytbmpchpcihnbdaa
set_option linter.unusedSimpArgs false
set_option linter.unusedVariables false
set_option linter.unnecessarySimpa false
open Go.RowKit

theorem own_nilV (w : World) (B : Nat) : Own w B (.slice none 0 0) [] := World.ownsRow_nil _ _ _ _
theorem inB_nil (B S : Nat) : InB (.slice none 0 0) B S := fun k hk => by simp [Value.ownBlock] at hk

theorem ownM_made {w1 : World} {B g n c S : Nat} (h : w1.ownsRow B 30 1 (.slice (some ⟨g, 0, none⟩) n c) n (madeCells #[Value.slice none 0 0] n).toList) (hg : B ≤ g ∧ g < S) : OwnM w1 B S (.slice (some ⟨g, 0, none⟩) n c) (List.replicate n []) := by
  rw [toList_madeCells_one] at h
  have hv : ∀ i, i < n → (List.replicate n (Value.slice none 0 0)).getD i undef = .slice none 0 0 := fun i hi => by simp [List.getD, hi]
  refine ⟨List.replicate n (.slice none 0 0), by simp, by simpa using h, fun k hk => by simp [Value.ownBlock] at hk; omega, fun i hi => ?_, fun i j hij hj => ?_⟩
  · simp at hi
    rw [hv i hi, show (List.replicate n ([] : List Int)).getD i [] = [] by simp [List.getD, hi]]
    exact ⟨own_nilV _ _, inB_nil _ _⟩
  · simp at hj
    rw [hv i (by omega)]
    exact .inl rfl

theorem ownM_stored {w : World} {B S g n cap : Nat} {xss : List (List Int)} (h : OwnM w B S (.slice (some ⟨g, 0, none⟩) n cap) xss) (hn : n = xss.length) (k : Nat) (hk : k < n) (u : Value) (ys : List Int) (hu : Own w B u ys) (hui : InB u S w.heap.size) (hBS : B ≤ S) (hSw : S ≤ w.heap.size) :
    OwnM (w.setCell ⟨g, k, none⟩ u) B w.heap.size (.slice (some ⟨g, 0, none⟩) n cap) (xss.set k ys) ∧ w.grownBy (w.setCell ⟨g, k, none⟩ u) (some g) := by
  subst hn
  obtain ⟨vs, hvl, hrow, hin, hrows, hap⟩ := h
  obtain ⟨hst, hgr⟩ := World.ownsRow.stored hrow k u
  have hgB := hin g rfl
  have hne : ∀ z : Value, ∀ zs : List Int, Own w B z zs → z.ownBlock = none ∨ z.ownBlock ≠ some g := by
    intro z zs hz
    rcases hz.2 with ⟨rfl, _⟩ | ⟨gz, capz, curz, rfl, _, hgz, _⟩
    · exact .inl rfl
    · refine .inr fun e => ?_
      simp [Value.ownBlock] at e
      subst e
      rcases hrow.2 with ⟨h3, _⟩ | ⟨g3, cap3, cur3, h3, _, hg3, _⟩
      · cases h3
      · cases h3
        rw [hgz] at hg3
        simp at hg3
  have hset : ∀ {α : Type} (l : List α) (x d : α) (i : Nat), k < l.length → (l.set k x).getD i d = if i = k then x else l.getD i d := by
    intro α l x d i hl
    rw [List.getD_eq_getElem?_getD, List.getElem?_set]
    by_cases e : k = i
    · subst e
      simp [hl]
    · rw [if_neg e, if_neg (fun e' => e e'.symm), ← List.getD_eq_getElem?_getD]
  refine ⟨⟨vs.set k u, by simp [hvl], by simpa using hst, fun q hq => by have := hin q hq; omega, fun i hi => ?_, fun i j hij hj => ?_⟩, hgr⟩
  · simp at hi
    rw [hset vs u undef i (by omega), hset xss ys [] i (by omega)]
    by_cases e : i = k
    · rw [if_pos e, if_pos e]
      exact ⟨own_grown hu hgr (hne _ _ hu), inB_mono hui hBS (Nat.le_refl _)⟩
    · rw [if_neg e, if_neg e]
      exact ⟨own_grown (hrows i hi).1 hgr (hne _ _ (hrows i hi).1), inB_mono (hrows i hi).2 (Nat.le_refl _) hSw⟩
  · simp at hj
    rw [hset vs u undef i (by omega), hset vs u undef j (by omega)]
    by_cases ei : i = k
    · rw [if_pos ei, if_neg (by omega)]
      cases e1 : u.ownBlock with
      | none => exact .inl e1
      | some q =>
        refine .inr fun e => ?_
        rw [e1] at e
        have := hui q e1
        have := (hrows j hj).2 q e.symm
        omega
    · rw [if_neg ei]
      by_cases ej : j = k
      · rw [if_pos ej]
        cases e1 : (vs.getD i undef).ownBlock with
        | none => exact .inl e1
        | some q =>
          refine .inr fun e => ?_
          rw [e1] at e
          have := (hrows i (by omega)).2 q e1
          have := hui q e.symm
          omega
      · rw [if_neg ej]
        exact hap i j hij hj

theorem stageM (xss : List (List Int)) (k : Nat) (h : k < xss.length) : (xss.take k ++ List.replicate (xss.length - k) []).set k (xss.getD k []) = xss.take (k + 1) ++ List.replicate (xss.length - (k + 1)) [] := by
  have hk : (xss.take k).length = k := by simp; omega
  rw [List.set_append_right _ _ (by omega), hk, Nat.sub_self, show xss.length - k = (xss.length - (k + 1)) + 1 by omega, List.replicate_succ, List.set_cons_zero, List.take_succ_eq_append_getElem h, List.append_assoc]
  simp [List.getD, h]

def total (xss : List (List Int)) : Nat := (xss.map List.length).sum
theorem total_cons (xs : List Int) (xss : List (List Int)) : total (xs :: xss) = xs.length + total xss := by simp [total]
theorem len_le_total (xss : List (List Int)) (i : Nat) (h : i < xss.length) : (xss.getD i []).length ≤ total xss := by
  induction xss generalizing i with
  | nil => simp at h
  | cons xs xss ih =>
    rw [total_cons]
    cases i with
    | zero => simp
    | succ i => have := ih i (by simpa using h); simp only [List.getD_cons_succ]; omega

def markRows : Int → List (List Int) → List (List Int)
  | _, [] => []
  | m, xs :: xss => iota m xs.length :: markRows (m + xs.length) xss

theorem markRows_length : ∀ (xss : List (List Int)) (m : Int), (markRows m xss).length = xss.length := by
  intro xss
  induction xss with
  | nil => intro m; rfl
  | cons xs xss ih => intro m; simp [markRows, ih]

theorem markRows_getD : ∀ (xss : List (List Int)) (m : Int) (k : Nat), k < xss.length → (markRows m xss).getD k [] = iota (m + total (xss.take k)) (xss.getD k []).length := by
  intro xss
  induction xss with
  | nil => intro m k hk; simp at hk
  | cons xs xss ih =>
    intro m k hk
    cases k with
    | zero => simp [markRows, total]
    | succ k =>
      have := ih (m + xs.length) k (by simpa using hk)
      simp only [markRows, List.getD_cons_succ, this, List.take_succ_cons, total_cons]
      congr 1
      omega

theorem total_take_succ (xss : List (List Int)) (k : Nat) (h : k < xss.length) : total (xss.take (k + 1)) = total (xss.take k) + (xss.getD k []).length := by
  unfold total
  rw [List.take_succ_eq_append_getElem h, List.map_append, List.sum_append]
  simp [List.getD, h]

theorem total_take_le (xss : List (List Int)) (k : Nat) : total (xss.take k) ≤ total xss := by
  induction xss generalizing k with
  | nil => simp
  | cons xs xss ih =>
    cases k with
    | zero => simp [total]
    | succ k => rw [List.take_succ_cons, total_cons, total_cons]; have := ih k; omega

theorem set_getD_self {α : Type} (l : List α) (k : Nat) (d x : α) (h : k < l.length) (i : Nat) : (l.set k x).getD i d = if i = k then x else l.getD i d := by
  rw [List.getD_eq_getElem?_getD, List.getElem?_set]
  by_cases e : k = i
  · subst e
    simp [h]
  · rw [if_neg e, if_neg (fun e' => e e'.symm), ← List.getD_eq_getElem?_getD]

theorem mark_stageM (xss : List (List Int)) (m : Int) (k : Nat) (h : k < xss.length) :
    ((markRows m xss).take k ++ xss.drop k).set k (iota (m + total (xss.take k)) (xss.getD k []).length) = (markRows m xss).take (k + 1) ++ xss.drop (k + 1) := by
  have hk : ((markRows m xss).take k).length = k := by simp [markRows_length]; omega
  rw [← markRows_getD xss m k h, List.set_append_right _ _ (by omega), hk, Nat.sub_self, List.drop_eq_getElem_cons h, List.set_cons_zero, List.take_succ_eq_append_getElem (by rw [markRows_length]; exact h), List.append_assoc]
  simp [List.getD, markRows_length, h]

theorem ownM_row {w : World} {B S g n cap : Nat} {xss : List (List Int)} (h : OwnM w B S (.slice (some ⟨g, 0, none⟩) n cap) xss) (k : Nat) (hk : k < xss.length) :
    ∃ u, w.cell? ⟨g, k, none⟩ = some u ∧ Own w B u (xss.getD k []) ∧ InB u B S ∧ ∀ w' ys, Own w' B u ys → w.grownBy w' u.ownBlock → OwnM w' B S (.slice (some ⟨g, 0, none⟩) n cap) (xss.set k ys) := by
  obtain ⟨vs, hvl, hrow, hin, hrows, hap⟩ := h
  have hlen : n = xss.length := by
    rcases hrow.2 with ⟨h1, _⟩ | ⟨g', cap', cur, h1, _⟩
    · cases h1
    · simp only [Value.slice.injEq] at h1
      exact h1.2.1
  refine ⟨vs.getD k undef, ?_, (hrows k hk).1, (hrows k hk).2, fun w' ys hu hg => ?_⟩
  · subst hlen
    rw [World.ownsRow.cellAt hrow k (by omega)]
    simp [List.getD, hvl, hk]
  · have hgne : (Value.slice (some ⟨g, 0, none⟩) n cap).ownBlock ≠ (vs.getD k undef).ownBlock := by
      intro e
      rcases (hrows k hk).1.2 with ⟨h3, _⟩ | ⟨gz, capz, curz, h3, _, hgz, _⟩
      · rw [h3] at e
        simp [Value.ownBlock] at e
      · rw [h3] at e
        simp [Value.ownBlock] at e
        subst e
        rcases hrow.2 with ⟨h1, _⟩ | ⟨g', cap', cur, h1, _, hg', _⟩
        · cases h1
        · simp only [Value.slice.injEq, Option.some.injEq, Addr.mk.injEq, and_true, true_and] at h1
          obtain ⟨rfl, _⟩ := h1
          rw [hgz] at hg'
          simp at hg'
    refine ⟨vs, by simp [hvl], by rw [List.length_set]; exact World.ownsRow.kept hrow hg (.inr hgne), hin, fun i hi => ?_, fun i j hij hj => hap i j hij (by simpa using hj)⟩
    simp at hi
    rw [set_getD_self xss k [] ys hk i]
    by_cases e : i = k
    · subst e
      rw [if_pos rfl]
      exact ⟨hu, (hrows i hi).2⟩
    · rw [if_neg e]
      refine ⟨own_grown (hrows i hi).1 hg ?_, (hrows i hi).2⟩
      rcases Nat.lt_or_gt_of_ne e with h' | h'
      · exact hap i k h' hk
      · rcases hap k i h' hi with h2 | h2
        · rw [h2]
          cases e1 : (vs.getD i undef).ownBlock with
          | none => exact .inl rfl
          | some q => exact .inr (by simp)
        · exact .inr fun e => h2 e.symm

def szM (xss : List (List Int)) : Int := if xss.length + total xss ≤ 1048576 then 1048576 - (xss.length : Int) - (total xss : Int) else -1

theorem rdM_of_rows {w : World} {a : Addr} {len cap : Nat} {A : Nat → Option Addr} {L C : Nat → Nat} {Z : Nat → List Int} (hlc : len ≤ cap) (hm : cap ≤ maxLen)
    (h : ∀ r, r < cap → w.cell? (a.add r) = some (.slice (A r) (L r) (C r)) ∧ L r ≤ C r ∧ C r ≤ maxLen ∧ (Z r).length = C r ∧ (∀ n ∈ Z r, (Lit.int .i64 n).wf = true) ∧ (A r = none → C r = 0) ∧
      ∀ a', A r = some a' → 0 ≤ a'.block ∧ ∀ c, c < C r → w.cell? (a'.add c) = some (.int .i64 ((Z r).getD c 0))) :
    RdM w (.slice (some a) len cap) ((List.range len).map fun r => (Z r).take (L r)) := by
  refine ⟨some a, cap, (List.range len).map fun r => Value.slice (A r) (L r) (C r), by simp, by simp, by simpa using hlc, hm, ?_, ?_⟩
  · by_cases h0 : len = 0
    · exact .inl (by simp [h0])
    · obtain ⟨b, off, spot⟩ := a
      have hc0 := (h 0 (by omega)).1
      have hspot : spot = none := by simpa [Addr.add] using World.cell?_spot hc0
      subst hspot
      refine .inr ⟨b, off, rfl, fun i hi => ?_⟩
      have hi' : i < len := by simpa using hi
      have := (h i (by omega)).1
      rw [Addr.add_lit] at this
      rw [this]
      simp [List.getD, hi']
  · intro i hi
    have hi' : i < len := by simpa using hi
    obtain ⟨_, h2, h3, h4, h5, h6, h7⟩ := h i (by omega)
    have e1 : ((List.range len).map fun r => Value.slice (A r) (L r) (C r)).getD i undef = .slice (A i) (L i) (C i) := by simp [List.getD, hi']
    have e2 : ((List.range len).map fun r => (Z r).take (L r)).getD i [] = (Z i).take (L i) := by simp [List.getD, hi']
    rw [e1, e2]
    have hrow : IsRow .i64 w (A i) (L i) (C i) (Z i) := by
      cases hA : A i with
      | none =>
        have hc := h6 hA
        exact .inl ⟨rfl, by omega, hc, List.eq_nil_of_length_eq_zero (by omega)⟩
      | some a' => exact .inr ⟨a', rfl, h2, h3, h4, fun c hc => (h7 a' hA).2 c (by omega), h5⟩
    rcases hrow with ⟨ha, hl, hc, hz⟩ | ⟨x, ha, hl, hc, hz, hcell, hw⟩
    · rw [ha, hl, hc, hz]
      exact ⟨none, 0, rfl, .inl rfl, Nat.le_refl _, Nat.zero_le _⟩
    · rw [ha]
      refine ⟨some x, C i, by congr 1; simp; omega, ?_, by simp; omega, hc⟩
      by_cases h0 : L i = 0
      · exact .inl (by simp [h0])
      · obtain ⟨b, off, spot⟩ := x
        have hc0 := hcell 0 (by omega)
        have hspot : spot = none := by simpa [Addr.add] using World.cell?_spot hc0
        subst hspot
        refine .inr ⟨b, off, rfl, fun j hj => ?_⟩
        have hj' : j < L i := by simp at hj; omega
        have := hcell j (by omega)
        rw [Addr.add_lit] at this
        rw [this]
        simp [List.getD, List.getElem?_take, hj']

end Go.Proofs.Ytbmpchpcihnbdaa

/-
  The contract of the laws' heldIntSS; append of a row that was just made.
-/
namespace Go.Proofs.Ytbmpchpcihnbdaa
set_option linter.unusedSimpArgs false
set_option linter.unusedVariables false
set_option linter.unnecessarySimpa false
open Go.RowKit
set_option maxRecDepth 100000

/-- The value of an owned list is a slice. -/
theorem own_slice' {w : World} {B : Nat} {v : Value} {xs : List Int} (h : Own w B v xs) : ∃ ao cap, v = .slice ao xs.length cap := by
  obtain ⟨ao, cap, hv, _⟩ := own_rd h
  exact ⟨ao, cap, hv⟩

/-- A slice of slices of the call's own that is not nil, opened. -/
theorem ownM_slot {w : World} {B S g n cap : Nat} {xss : List (List Int)} (h : OwnM w B S (.slice (some ⟨g, 0, none⟩) n cap) xss) : B ≤ g ∧ g < S ∧ g < w.heap.size := by
  obtain ⟨vs, _, hv, _⟩ := ownM_parts h
  rcases hv with ⟨h, _⟩ | ⟨g', cap', h, hb, hs, hg, _⟩
  · cases h
  · simp only [Value.slice.injEq, Option.some.injEq, Addr.mk.injEq, and_true, true_and] at h
    omega

/-- 'append(out, row)' behind the making of the row: what it is behind the step. -/
theorem wpList_row {w : World} {ops : Array Oper} {rest : List Oper} {o : Oper} {a : Act} {Q : Exit → Act → World → Prop} (hgd : o.guard = none) (s x : Operand)
    (ho : o.op = .call { callee := .builtin .append, args := #[s, x], argTypes := #[23, 23] })
    (w0 wq : World) (u : Value) (hw : w = wq.alloc (.cells #[u] 30)) (S g n cap : Nat) (xss : List (List Int)) (hs : a.eval s = .slice (some ⟨g, 0, none⟩) n cap) (hown : OwnM wq w0.heap.size S (.slice (some ⟨g, 0, none⟩) n cap) xss) (hn : n = xss.length)
    (hx : a.eval x = .slice (some ⟨wq.heap.size, 0, none⟩) 1 1) (ys : List Int) (hu : Own wq w0.heap.size u ys) (hui : InB u S wq.heap.size) (hSw : w0.heap.size ≤ S ∧ S ≤ wq.heap.size) (hl : n ≤ 1000000000) (hbel : Below w0.heap.size w0 wq)
    (h : ∀ g' cap' w', OwnM w' w0.heap.size w'.heap.size (.slice (some ⟨g', 0, none⟩) (n + 1) cap') (xss ++ [ys]) → Below w0.heap.size w0 w' → wq.heap.size < w'.heap.size → wpList Try.prog ops Q rest (a.put o.dst (.slice (some ⟨g', 0, none⟩) (n + 1) cap')) w') :
    wpList Try.prog ops Q (o :: rest) a w := by
  subst hw
  have hsl := ownM_slot hown
  refine wpList_pushM hgd s x ho w0.heap.size S g n cap xss hs (ownM_below hown ((Below.refl _ _).alloc (Nat.le_refl _) _)) hn ⟨wq.heap.size, 0, none⟩ hx u ys (cell_new1 _ _ _) (own_alloc hu _) (fun q hq => by have := hui q hq; simp; omega) hSw.1 (by simp; omega) hl (n + 1) rfl ?_
  intro g' cap' w' h1 h2
  refine h g' cap' w' h1 ?_ ?_
  · exact (hbel.alloc (by omega) _).grown h2 (by simp; omega) (fun q hq => by cases hq; exact hsl.1)
  · have := h2.size
    simp at this
    omega

end Go.Proofs.Ytbmpchpcihnbdaa

/-
  The reader of drawn bytes in one word; the contracts of pick and l91Part in it; spec.l91Thing, DrawPartDrop, DrawPartPut, DrawPartTogether, DrawPartKernel.
-/
namespace Go.Proofs.Ytbmpchpcihnbdaa
set_option linter.unusedSimpArgs false
set_option linter.unusedVariables false
set_option linter.unnecessarySimpa false
open Go.RowKit
set_option maxRecDepth 100000

/-- In w a reader of bytes that lay in w0 stands at its place p; only its block has turned since. -/
structure Rds (w0 w : World) (g : Nat) (a : Option Addr) (m cap p : Nat) : Prop where
  rdr : Rdr w g (.slice a m cap) p
  byt : Bytes w0 a m
  hm : m ≤ 2000
  hg : g = w0.heap.size
  grown : w0.grownBy w (some g)

theorem Rds.ne {w0 w : World} {g m cap p : Nat} {a : Option Addr} (h : Rds w0 w g a m cap p) : 0 < m → ∀ x, a = some x → x.block ≠ g := by
  rw [h.hg]; exact hne_of_bytes h.byt

theorem Rds.bytes {w0 w : World} {g m cap p : Nat} {a : Option Addr} (h : Rds w0 w g a m cap p) : Bytes w a m := bytes_grown h.byt h.grown h.ne

theorem Rds.below {w0 w : World} {g m cap p : Nat} {a : Option Addr} (h : Rds w0 w g a m cap p) : Below w0.heap.size w0 w := below_of_grown h.grown (Nat.le_of_eq h.hg.symm)

theorem Rds.lt {w0 w : World} {g m cap p : Nat} {a : Option Addr} (h : Rds w0 w g a m cap p) : g < w.heap.size := (rdr_facts h.rdr).1

/-- What lies in memory that was made later than the reader stays when the reader goes on. -/
theorem Rds.keep {w w' : World} {B g : Nat} {v : Value} {xs : List Int} (ho : Own w B v xs) (hB : g < B) (hg : w.grownBy w' (some g)) : Own w' B v xs :=
  own_grown ho hg (apart_of_ge ho hB)

/-- New memory, and a write into memory that is later than the reader. -/
theorem Rds.step {w0 w w' : World} {g m cap p : Nat} {a : Option Addr} (h : Rds w0 w g a m cap p) (hb : Below w.heap.size w w') : Rds w0 w' g a m cap p :=
  ⟨rdr_below h.rdr hb, h.byt, h.hm, h.hg, grown_below h.grown hb⟩

def Opened (w : World) (a : Option Addr) (e : Ending) (w' : World) : Prop := ∃ g m cap, e = .returned (.pointer (some ⟨g, 0, none⟩)) ∧ Rds w w' g a m cap 0

theorem open_r (a : Option Addr) (len cap : Nat) (w : World) (hby : Bytes w a len) (hlen : len ≤ 1048576) (hc : len ≤ cap) (hcm : cap ≤ maxLen) :
    Calls Try.prog 63 #[.slice a len cap] w (Opened w a) :=
  (l6Open_any a len cap w hby hlen hc hcm).mono fun e w1 ⟨he, m, hm, hbm, hr1, hb1, hs1⟩ =>
    ⟨w.heap.size, m, cap, he, ⟨hr1, hbm, hm, rfl, ⟨hb1.os, hb1.tape, hb1.output, hb1.size, fun k hk _ => hb1.block k hk⟩⟩⟩

/-- A number from 0 on and below n; the reader has gone on. -/
def PickedR (w0 w : World) (g : Nat) (a : Option Addr) (m cap p : Nat) (n : Int) (e : Ending) (w' : World) : Prop :=
  ∃ t : Nat, e = .returned (.int .i64 t) ∧ (t : Int) < n ∧ Rds w0 w' g a m cap (p + 1) ∧ w.grownBy w' (some g)

theorem pick_r {w0 w : World} {g m cap p : Nat} {a : Option Addr} (h : Rds w0 w g a m cap p) (n : Int) (h1 : 1 ≤ n) (h2 : n ≤ 100000) (hp : p ≤ 1000000) :
    Calls Try.prog 65 #[.pointer (some ⟨g, 0, none⟩), .int .i64 n] w (PickedR w0 w g a m cap p n) :=
  (pick_z g a m cap p n w h.rdr h.bytes h.ne h.hm hp h1 h2).mono fun e w1 ⟨t, he, ht, hr1, hg1, hz1⟩ =>
    ⟨t, he, by omega, ⟨hr1, h.byt, h.hm, h.hg, grown_trans h.grown hg1⟩, hg1⟩

/-- A drawn list in new memory; the reader has gone on. -/
def DrawnR (w0 w : World) (g : Nat) (a : Option Addr) (m cap p : Nat) (e : Ending) (w' : World) : Prop :=
  ∃ v xs q, e = .returned v ∧ Own w' w.heap.size v xs ∧ (1 ≤ xs.length ∧ xs.length ≤ 9) ∧ (∀ x ∈ xs, 0 ≤ x ∧ x ≤ 9) ∧ q ≤ p + 40 ∧ Rds w0 w' g a m cap q ∧ w.grownBy w' (some g)

theorem part_r {w0 w : World} {g m cap p : Nat} {a : Option Addr} (h : Rds w0 w g a m cap p) (n : Int) (h1 : 1 ≤ n) (h2 : n ≤ 8) (hp : p ≤ 1000) :
    Calls Try.prog 64 #[.pointer (some ⟨g, 0, none⟩), .int .i64 n] w (DrawnR w0 w g a m cap p) :=
  (l91Part_z g a m cap p n w h.rdr h.bytes h.ne h.hm hp h1 h2).mono fun e w1 ⟨v, xs, q, he, ho, hl, hx, hr1, hq, hg1⟩ =>
    ⟨v, xs, q, he, ho, hl, hx, hq, ⟨hr1, h.byt, h.hm, h.hg, grown_trans h.grown hg1⟩, hg1⟩

/-- A drawn list of at least n numbers. -/
def DrawnRN (w0 w : World) (g : Nat) (a : Option Addr) (m cap p n : Nat) (e : Ending) (w' : World) : Prop :=
  ∃ v xs q, e = .returned v ∧ Own w' w.heap.size v xs ∧ (n ≤ xs.length ∧ xs.length ≤ 9) ∧ (∀ x ∈ xs, 0 ≤ x ∧ x ≤ 9) ∧ q ≤ p + 40 ∧ Rds w0 w' g a m cap q ∧ w.grownBy w' (some g)
theorem part_rn {w0 w : World} {g m cap p : Nat} {a : Option Addr} (h : Rds w0 w g a m cap p) (n : Nat) (h1 : 1 ≤ n) (h2 : n ≤ 8) (hp : p ≤ 1000) :
    Calls Try.prog 64 #[.pointer (some ⟨g, 0, none⟩), .int .i64 n] w (DrawnRN w0 w g a m cap p n) :=
  (l91Part_n g a m cap p n w h.rdr h.bytes h.ne h.hm hp h1 h2).mono fun e w1 ⟨v, xs, q, he, ho, hl, hx, hr1, hq, hg1⟩ =>
    ⟨v, xs, q, he, ho, hl, hx, hq, ⟨hr1, h.byt, h.hm, h.hg, grown_trans h.grown hg1⟩, hg1⟩

/-- A drawn list and a small number. -/
def ThingDrawn (w : World) (e : Ending) (w' : World) : Prop :=
  ∃ v xs i, e = .returned (.tuple #[v, .int .i64 i]) ∧ Own w' w.heap.size v xs ∧ (1 ≤ xs.length ∧ xs.length ≤ 9) ∧ -1 ≤ i ∧ i ≤ 20 ∧ Below w.heap.size w w'

set_option maxHeartbeats 800000 in
theorem l1Size9_any (ao : Option Addr) (ca : Nat) (xs : List Int) (w : World) (hx : Rd w ao xs) (hl : xs.length ≤ 9223372036854775807) (hs : ∀ j, j < xs.length → 0 ≤ xs.getD j 0 ∧ xs.getD j 0 ≤ 9) :
    Calls Try.prog 92 #[.slice ao xs.length ca] w fun e w' => e = .returned (.int .i64 (pSize xs)) ∧ w = w' := by
  obtain ⟨n, hn⟩ : ∃ n, n = xs.length := ⟨_, rfl⟩
  rw [← hn]
  rw [← hn] at hl
  have HN := Lib.hid hn
  clear hn
  have HX := Lib.hid hx
  clear hx
  have HS := Lib.hid hs
  clear hs
  go_enter Try.func92, Try.ntmps92
  go_wp2
  go_loop [3, 4] (fun u i => ∃ (k : Nat) (b : Int), k ≤ n ∧ i = .int .i64 k ∧ u = .int .i64 b ∧ 0 ≤ b ∧ b ≤ 10 ∧ pSize xs = sizeFrom b (xs.drop k)) (fun _ i => n - (intOf i).toNat)
  case atStart => exact ⟨0, 0, Nat.zero_le _, rfl, rfl, by omega, by omega, rfl⟩
  case round =>
    obtain ⟨k, b, hk, rfl, rfl, hb0, hb10, hok⟩ := hrel
    have HOK := Lib.hid hok
    clear hok
    by_cases hlt : k < n
    · rcases HX.out with hx | ⟨bb, off, rfl, hcx⟩
      · have := HN.out
        rw [hx] at this
        simp at this
        omega
      · have hc1 := hcx k (by have := HN.out; omega)
        clear hcx
        have hdr := drop_cons xs k (by have := HN.out; omega)
        obtain ⟨hx0, hx9⟩ := HS.out k (by have := HN.out; omega)
        obtain ⟨x, hx⟩ : ∃ x, x = xs.getD k 0 := ⟨_, rfl⟩
        rw [← hx] at hc1 hdr hx0 hx9
        have hok := HOK.out
        rw [hdr, sizeFrom] at hok
        have HOK2 := Lib.hid hok
        clear hok HOK hdr hx
        by_cases hm : x + 1 ≤ b
        · go_wp2
          go_round
          case rel => exact ⟨k + 1, b, by omega, by go_num, by first | rfl | (congr 1; omega), by omega, by omega, by rw [HOK2.out, Int.max_eq_left hm]⟩
          case measure => simp [intOf]; omega
        · go_wp2
          go_round
          case rel => exact ⟨k + 1, x + 1, by omega, by go_num, by first | rfl | (congr 1; omega), by omega, by omega, by rw [HOK2.out, Int.max_eq_right (by omega)]⟩
          case measure => simp [intOf]; omega
    · have hkn : k = n := by omega
      subst hkn
      go_wp2
      go_ret
      exact ⟨ret_int (by rw [HOK.out, HN.out, List.drop_length]; rfl), rfl⟩

theorem sizeFrom_bd9 : ∀ (xs : List Int) (n : Int), (∀ x ∈ xs, 0 ≤ x ∧ x ≤ 9) → 0 ≤ n → n ≤ 10 → n ≤ sizeFrom n xs ∧ sizeFrom n xs ≤ 10 := by
  intro xs
  induction xs with
  | nil => intro n _ h0 h8; simp only [sizeFrom]; omega
  | cons x xs ih =>
    intro n hs h0 h8
    have hx := hs x (by simp)
    have := ih (max n (x + 1)) (fun y hy => hs y (by simp [hy])) (by omega) (by omega)
    simp only [sizeFrom]
    omega

theorem l1Size9_v (v : Value) (xs : List Int) (w : World) (hv : RdV w v xs) (hs : ∀ x ∈ xs, 0 ≤ x ∧ x ≤ 9) : Calls Try.prog 92 #[v] w fun e w' => e = .returned (.int .i64 (pSize xs)) ∧ w = w' := by
  obtain ⟨ao, ca, rfl, h, h1, h2⟩ := hv
  unfold maxLen at h2
  exact l1Size9_any ao ca xs w h (by omega) fun j hj => hs _ (mem_of_getD hj rfl)

/-- A drawn list and two small numbers. -/
def PairDrawn (w : World) (e : Ending) (w' : World) : Prop :=
  ∃ v xs i k, e = .returned (.tuple #[v, .int .i64 i, .int .i64 k]) ∧ Own w' w.heap.size v xs ∧ (1 ≤ xs.length ∧ xs.length ≤ 9) ∧ (-1 ≤ i ∧ i ≤ 20) ∧ (0 ≤ k ∧ k ≤ 20) ∧ Below w.heap.size w w'

theorem rds_set {w0 w : World} {g m cap p : Nat} {a : Option Addr} (h : Rds w0 w g a m cap p) (q : Nat) : Rds w0 (w.setCell ⟨g, 1, none⟩ (.int .i64 (q : Int))) g a m cap q ∧ w.grownBy (w.setCell ⟨g, 1, none⟩ (.int .i64 (q : Int))) (some g) := by
  have hgr : w.grownBy (w.setCell ⟨g, 1, none⟩ (.int .i64 (q : Int))) (some g) :=
    ⟨rfl, rfl, rfl, by simp [World.setCell], fun k _ hk => by
      show (w.heap.modify g _)[k]? = _
      rw [Array.getElem?_modify, if_neg (fun e => hk (by rw [e]))]⟩
  exact ⟨⟨heap_setCell2 (.int .i64 (q : Int)) h.rdr, h.byt, h.hm, h.hg, grown_trans h.grown hgr⟩, hgr⟩

/-- A write by append into memory that the call made, other than the reader. -/
theorem Rds.push {w0 wq w' : World} {g g' m cap p : Nat} {a : Option Addr} {o : Obj} (h : Rds w0 wq g a m cap p) (hgr : (wq.alloc o).grownBy w' (some g')) (hne : g' ≠ g) (hge : w0.heap.size ≤ g') : Rds w0 w' g a m cap p :=
  ⟨rdr_grown (rdr_below h.rdr ((Below.refl _ _).alloc (Nat.le_refl _) _)) hgr (fun e => by cases e; exact hne rfl), h.byt, h.hm, h.hg, grown_own (grown_below h.grown ((Below.refl _ _).alloc (Nat.le_refl _) _)) hgr hge⟩

/-- A drawn list. -/
def ListDrawn (w : World) (e : Ending) (w' : World) : Prop := ∃ v xs, e = .returned v ∧ Own w' w.heap.size v xs ∧ (1 ≤ xs.length ∧ xs.length ≤ 9) ∧ Below w.heap.size w w'

end Go.Proofs.Ytbmpchpcihnbdaa

/-
  Plain mathematics of chapter 4: how many lists go on (opn), the place of a list (plcFrom), the list at a place (atFrom), the next one and the one ahead.
-/
namespace Go.Proofs.Ytbmpchpcihnbdaa
set_option linter.unusedSimpArgs false
set_option linter.unusedVariables false
set_option linter.unnecessarySimpa false

/-- How many lists of n more numbers follow one with k blocks. -/
def opn : Nat → Int → Int
  | 0, _ => 1
  | n + 1, k => k * opn n k + opn n (k + 1)

def opnN : Nat → Nat → Nat
  | 0, _ => 1
  | n + 1, k => k * opnN n k + opnN n (k + 1)

theorem opn_nat : ∀ (n k : Nat), opn n (k : Int) = (opnN n k : Int) := by
  intro n
  induction n with
  | zero => intro k; rfl
  | succ n ih =>
    intro k
    have h2 := ih (k + 1)
    have e : ((k + 1 : Nat) : Int) = (k : Int) + 1 := by omega
    rw [e] at h2
    show (k : Int) * opn n (k : Int) + opn n ((k : Int) + 1) = _
    rw [ih k, h2]
    show _ = ((k * opnN n k + opnN n (k + 1) : Nat) : Int)
    simp

theorem opnN_bd : ∀ n, n < 9 → ∀ k, k < 9 → n + k ≤ 8 → 1 ≤ opnN n k ∧ opnN n k ≤ 4140 := by decide +kernel

theorem opn_pos : ∀ (n : Nat) (k : Int), 0 ≤ k → 1 ≤ opn n k := by
  intro n
  induction n with
  | zero => intro k _; exact Int.le_refl _
  | succ n ih =>
    intro k hk
    have h1 := ih k hk
    have h2 := ih (k + 1) (by omega)
    have h3 : 0 ≤ k * opn n k := Int.mul_nonneg hk (by omega)
    show 1 ≤ k * opn n k + opn n (k + 1)
    omega

theorem opn_bd (n : Nat) (k : Int) (hk : 0 ≤ k) (h : (n : Int) + k ≤ 8) : 1 ≤ opn n k ∧ opn n k ≤ 4140 := by
  obtain ⟨j, rfl⟩ : ∃ j : Nat, k = j := ⟨k.toNat, by omega⟩
  have := opnN_bd n (by omega) j (by omega) (by omega)
  rw [opn_nat]
  omega

theorem opn_mul_bd (n : Nat) (k x : Int) (hk : 0 ≤ k) (h : (n : Int) + k ≤ 8) (hx : 0 ≤ x) (hx8 : x ≤ 8) : 0 ≤ x * opn n k ∧ x * opn n k ≤ 33120 := by
  have h1 := opn_bd n k hk h
  refine ⟨Int.mul_nonneg hx (by omega), ?_⟩
  have h2 : x * opn n k ≤ 8 * opn n k := Int.mul_le_mul_of_nonneg_right hx8 (by omega)
  omega

theorem max_small {b x : Int} (h : x < b) : max b (x + 1) = b := by omega
theorem max_new (b : Int) : max b (b + 1) = b + 1 := by omega

/-- A list at whose head a number that may stand there stands. -/
theorem okFrom_step {b x : Int} (xs : List Int) (h0 : 0 ≤ x) (h : x ≤ b) : okFrom b (x :: xs) = okFrom (max b (x + 1)) xs := by
  by_cases e : x = b
  · subst e; rw [okFrom_new h0, max_new]
  · rw [okFrom_yes h0 (by omega), max_small (by omega)]

theorem okFrom_head {b x : Int} {xs : List Int} (h : okFrom b (x :: xs) = true) : 0 ≤ x ∧ x ≤ b ∧ okFrom (max b (x + 1)) xs = true := by
  by_cases h1 : 0 ≤ x ∧ x ≤ b
  · exact ⟨h1.1, h1.2, by rw [okFrom_step xs h1.1 h1.2] at h; exact h⟩
  · rw [okFrom_no (by omega)] at h
    cases h

/-- The number of lists ahead of one, from the place on where there are b blocks. -/
def plcFrom : Int → List Int → Int
  | _, [] => 0
  | b, x :: xs => x * opn xs.length b + plcFrom (max b (x + 1)) xs

theorem plcFrom_bd : ∀ (xs : List Int) (b : Int), 0 ≤ b → okFrom b xs = true → 0 ≤ plcFrom b xs ∧ plcFrom b xs < opn xs.length b := by
  intro xs
  induction xs with
  | nil => intro b _ _; exact ⟨Int.le_refl _, by show (0 : Int) < 1; omega⟩
  | cons x xs ih =>
    intro b hb h
    obtain ⟨h0, h1, h2⟩ := okFrom_head h
    have hp := ih (max b (x + 1)) (by omega) h2
    have ho := opn_pos xs.length b hb
    have hx : 0 ≤ x * opn xs.length b := Int.mul_nonneg h0 (by omega)
    have ho2 := opn_pos xs.length (b + 1) (by omega)
    show 0 ≤ x * opn xs.length b + _ ∧ x * opn xs.length b + _ < b * opn xs.length b + opn xs.length (b + 1)
    by_cases e : x = b
    · subst e
      rw [max_new] at hp ⊢
      omega
    · rw [max_small (by omega)] at hp ⊢
      have h3 : (x + 1) * opn xs.length b ≤ b * opn xs.length b := Int.mul_le_mul_of_nonneg_right (by omega) (by omega)
      rw [Int.add_mul, Int.one_mul] at h3
      omega

/-- The list of n numbers at a place, from where there are b blocks on. -/
def atFrom : Nat → Int → Int → List Int
  | 0, _, _ => []
  | n + 1, b, p => min (p / opn n b) b :: atFrom n (max b (min (p / opn n b) b + 1)) (p - min (p / opn n b) b * opn n b)

theorem atFrom_length : ∀ (n : Nat) (b p : Int), (atFrom n b p).length = n := by
  intro n
  induction n with
  | zero => intro b p; rfl
  | succ n ih => intro b p; simp only [atFrom, List.length_cons, ih]

/-- The number that stands first in the list at a place. -/
theorem at_head (n : Nat) (b p : Int) (hb : 0 ≤ b) (hp : 0 ≤ p) (hq : p < opn (n + 1) b) :
    0 ≤ min (p / opn n b) b ∧ min (p / opn n b) b ≤ b ∧ 0 ≤ p - min (p / opn n b) b * opn n b ∧ p - min (p / opn n b) b * opn n b < opn n (max b (min (p / opn n b) b + 1)) := by
  have ho := opn_pos n b hb
  have hd : 0 ≤ p / opn n b := Int.ediv_nonneg hp (by omega)
  have hm := Int.mul_ediv_add_emod p (opn n b)
  have hr := Int.emod_nonneg p (show opn n b ≠ 0 by omega)
  have hr2 := Int.emod_lt_of_pos p (show 0 < opn n b by omega)
  rw [Int.mul_comm] at hm
  have hq' : p < b * opn n b + opn n (b + 1) := hq
  by_cases h : p / opn n b < b
  · rw [Int.min_eq_left (by omega), max_small h]
    omega
  · rw [Int.min_eq_right (by omega), max_new]
    have h3 : b * opn n b ≤ p / opn n b * opn n b := Int.mul_le_mul_of_nonneg_right (by omega) (by omega)
    omega

theorem at_ok : ∀ (n : Nat) (b p : Int), 0 ≤ b → 0 ≤ p → p < opn n b → okFrom b (atFrom n b p) = true ∧ plcFrom b (atFrom n b p) = p := by
  intro n
  induction n with
  | zero => intro b p _ h0 h1; exact ⟨rfl, by have : p < 1 := h1; show (0 : Int) = p; omega⟩
  | succ n ih =>
    intro b p hb h0 h1
    obtain ⟨e1, e2, e3, e4⟩ := at_head n b p hb h0 h1
    have := ih (max b (min (p / opn n b) b + 1)) (p - min (p / opn n b) b * opn n b) (by omega) e3 e4
    simp only [atFrom]
    refine ⟨by rw [okFrom_step _ e1 e2]; exact this.1, ?_⟩
    simp only [plcFrom, atFrom_length]
    rw [this.2]
    omega

theorem at_plc : ∀ (xs : List Int) (b : Int), 0 ≤ b → okFrom b xs = true → atFrom xs.length b (plcFrom b xs) = xs := by
  intro xs
  induction xs with
  | nil => intro b _ _; rfl
  | cons x xs ih =>
    intro b hb h
    obtain ⟨h0, h1, h2⟩ := okFrom_head h
    have hp := plcFrom_bd xs (max b (x + 1)) (by omega) h2
    have ho := opn_pos xs.length b hb
    have hi := ih (max b (x + 1)) (by omega) h2
    have hx : min ((x * opn xs.length b + plcFrom (max b (x + 1)) xs) / opn xs.length b) b = x := by
      rw [Int.add_comm, Int.add_mul_ediv_right _ _ (by omega)]
      by_cases e : x = b
      · have : 0 ≤ plcFrom (max b (x + 1)) xs / opn xs.length b := Int.ediv_nonneg hp.1 (by omega)
        omega
      · have : plcFrom (max b (x + 1)) xs / opn xs.length b = 0 := Int.ediv_eq_zero_of_lt hp.1 (by rw [max_small (show x < b by omega)] at hp ⊢; exact hp.2)
        omega
    simp only [plcFrom, List.length_cons, atFrom]
    rw [hx, show x * opn xs.length b + plcFrom (max b (x + 1)) xs - x * opn xs.length b = plcFrom (max b (x + 1)) xs by omega, hi]

/-- Two lists at one place are the same. -/
theorem plc_inj {xs ys : List Int} {b : Int} (hb : 0 ≤ b) (hx : okFrom b xs = true) (hy : okFrom b ys = true) (hl : xs.length = ys.length) (h : plcFrom b xs = plcFrom b ys) : xs = ys := by
  rw [← at_plc xs b hb hx, ← at_plc ys b hb hy, hl, h]

theorem sizeFrom_nonneg : ∀ (xs : List Int) (b : Int), b ≤ sizeFrom b xs := by
  intro xs
  induction xs with
  | nil => intro b; exact Int.le_refl _
  | cons x xs ih => intro b; have := ih (max b (x + 1)); show b ≤ sizeFrom (max b (x + 1)) xs; omega

theorem sizeFrom_app : ∀ (u v : List Int) (b : Int), sizeFrom b (u ++ v) = sizeFrom (sizeFrom b u) v := by
  intro u
  induction u with
  | nil => intro v b; rfl
  | cons x u ih => intro v b; show sizeFrom (max b (x + 1)) (u ++ v) = _; rw [ih]; rfl

theorem okFrom_app : ∀ (u v : List Int) (b : Int), okFrom b (u ++ v) = true ↔ okFrom b u = true ∧ okFrom (sizeFrom b u) v = true := by
  intro u
  induction u with
  | nil => intro v b; simp [okFrom, sizeFrom]
  | cons x u ih =>
    intro v b
    by_cases h : 0 ≤ x ∧ x ≤ b
    · rw [List.cons_append, okFrom_step _ h.1 h.2, okFrom_step _ h.1 h.2, ih]
      rfl
    · rw [List.cons_append, okFrom_no (by omega), okFrom_no (by omega)]
      simp

/-- Behind the same beginning places differ as what follows does. -/
theorem plc_app : ∀ (u v v' : List Int) (b : Int), v.length = v'.length → plcFrom b (u ++ v') - plcFrom b (u ++ v) = plcFrom (sizeFrom b u) v' - plcFrom (sizeFrom b u) v := by
  intro u
  induction u with
  | nil => intro v v' b _; rfl
  | cons x u ih =>
    intro v v' b h
    have := ih v v' (max b (x + 1)) h
    simp only [List.cons_append, plcFrom, sizeFrom, List.length_append, h]
    omega

theorem plc_zeros : ∀ (m : Nat) (b : Int), plcFrom b (List.replicate m 0) = 0 := by
  intro m
  induction m with
  | zero => intro b; rfl
  | succ m ih => intro b; rw [List.replicate_succ, plcFrom, ih]; simp

theorem ok_zeros : ∀ (m : Nat) (b : Int), 0 ≤ b → okFrom b (List.replicate m 0) = true := by
  intro m
  induction m with
  | zero => intro b _; rfl
  | succ m ih => intro b hb; rw [List.replicate_succ, okFrom_step _ (by omega) hb]; exact ih _ (by omega)

theorem iota_succ (k : Int) (m : Nat) : iota k (m + 1) = k :: iota (k + 1) m := by
  apply List.ext_getElem
  · simp [iota]
  · intro j h1 h2
    cases j with
    | zero => simp [iota]
    | succ j => simp [iota]; omega

theorem plc_iota : ∀ (m : Nat) (b : Int), plcFrom b (iota b m) = opn m b - 1 := by
  intro m
  induction m with
  | zero => intro b; rfl
  | succ m ih =>
    intro b
    rw [iota_succ, plcFrom, max_new, ih, iota_length]
    show _ = b * opn m b + opn m (b + 1) - 1
    omega

theorem ok_iota : ∀ (m : Nat) (b : Int), 0 ≤ b → okFrom b (iota b m) = true := by
  intro m
  induction m with
  | zero => intro b _; rfl
  | succ m ih => intro b hb; rw [iota_succ, okFrom_new hb]; exact ih _ (by omega)

/-- The next one: a number that is no new one goes up, single things behind it become zeros. -/
theorem next_step (u : List Int) (x : Int) (m : Nat) (h0 : 0 ≤ x) (hx : x < sizeFrom 0 u) (hu : okFrom 0 u = true) :
    okFrom 0 (u ++ (x + 1) :: List.replicate m 0) = true ∧ plcFrom 0 (u ++ (x + 1) :: List.replicate m 0) = plcFrom 0 (u ++ x :: iota (sizeFrom 0 u) m) + 1 := by
  have hs := sizeFrom_nonneg u 0
  refine ⟨?_, ?_⟩
  · rw [okFrom_app]
    refine ⟨hu, ?_⟩
    rw [okFrom_step _ (by omega) (by omega)]
    exact ok_zeros _ _ (by omega)
  · have h := plc_app u (x :: iota (sizeFrom 0 u) m) ((x + 1) :: List.replicate m 0) 0 (by simp [iota_length])
    simp only [plcFrom, plc_zeros, List.length_replicate, iota_length] at h
    rw [max_small hx, plc_iota, Int.add_mul, Int.one_mul] at h
    omega

/-- The one ahead: a number that is not 0 goes down, zeros behind it become single things. -/
theorem before_step (u : List Int) (x : Int) (m : Nat) (h0 : 0 < x) (hx : x ≤ sizeFrom 0 u) (hu : okFrom 0 u = true) :
    okFrom 0 (u ++ (x - 1) :: iota (sizeFrom 0 u) m) = true ∧ plcFrom 0 (u ++ (x - 1) :: iota (sizeFrom 0 u) m) + 1 = plcFrom 0 (u ++ x :: List.replicate m 0) := by
  have hs := sizeFrom_nonneg u 0
  refine ⟨?_, ?_⟩
  · rw [okFrom_app]
    refine ⟨hu, ?_⟩
    rw [okFrom_step _ (by omega) (by omega), show x - 1 + 1 = x by omega, Int.max_eq_left hx]
    exact ok_iota _ _ (by omega)
  · have h := plc_app u ((x - 1) :: iota (sizeFrom 0 u) m) (x :: List.replicate m 0) 0 (by simp [iota_length])
    simp only [plcFrom, plc_zeros, List.length_replicate, iota_length] at h
    rw [show x - 1 + 1 = x by omega, Int.max_eq_left hx, plc_iota, Int.sub_mul, Int.one_mul] at h
    omega

/-- The place of a list, the list at a place. -/
def plc (xs : List Int) : Int := plcFrom 0 xs
def atL (n : Nat) (p : Int) : List Int := atFrom n 0 p

theorem atL_length (n : Nat) (p : Int) : (atL n p).length = n := atFrom_length _ _ _

theorem atL_plc {xs : List Int} (h : okFrom 0 xs = true) : atL xs.length (plc xs) = xs := at_plc xs 0 (by omega) h
theorem plc_atL (n : Nat) (p : Int) (h0 : 0 ≤ p) (h1 : p < opn n 0) : okFrom 0 (atL n p) = true ∧ plc (atL n p) = p := at_ok n 0 p (by omega) h0 h1
theorem plc_bd {xs : List Int} (h : okFrom 0 xs = true) : 0 ≤ plc xs ∧ plc xs < opn xs.length 0 := plcFrom_bd xs 0 (by omega) h

theorem atL_partIn (n : Nat) (p : Int) (hn : 1 ≤ n) (h8 : n ≤ 8) (h0 : 0 ≤ p) (h1 : p < opn n 0) : partIn (atL n p) = true := by
  have := (plc_atL n p h0 h1).1
  simp [partIn, atL_length, this, hn, h8]

theorem plc_last (n : Nat) : plc (iota 0 n) = opn n 0 - 1 := plc_iota n 0
theorem plc_first (n : Nat) : plc (List.replicate n 0) = 0 := plc_zeros n 0

/-- The last one is the only one at the last place; the first one the only one at the first place. -/
theorem is_last {xs : List Int} (h : okFrom 0 xs = true) : xs = iota 0 xs.length ↔ plc xs = opn xs.length 0 - 1 := by
  refine ⟨fun e => by rw [e, iota_length]; exact plc_last _, fun e => ?_⟩
  refine plc_inj (b := 0) (by omega) h (ok_iota _ _ (by omega)) (by rw [iota_length]) ?_
  show plc xs = plc (iota 0 xs.length)
  rw [plc_last, e]

theorem is_first {xs : List Int} (h : okFrom 0 xs = true) : xs = List.replicate xs.length 0 ↔ plc xs = 0 := by
  refine ⟨fun e => by rw [e]; exact plc_first _, fun e => ?_⟩
  refine plc_inj (b := 0) (by omega) h (ok_zeros _ _ (by omega)) (by simp) ?_
  show plc xs = plc (List.replicate xs.length 0)
  rw [plc_first, e]

/-- The list that was found is the one at the place behind. -/
theorem next_at {xs ys : List Int} (hl : ys.length = xs.length) (ho : okFrom 0 ys = true) (h : plc ys = plc xs + 1) : ys = atL xs.length (plc xs + 1) := by
  rw [← h, ← hl, atL_plc ho]

theorem before_at {xs ys : List Int} (hl : ys.length = xs.length) (ho : okFrom 0 ys = true) (h : plc ys + 1 = plc xs) : ys = atL xs.length (plc xs - 1) := by
  rw [show plc xs - 1 = plc ys by omega, ← hl, atL_plc ho]

theorem at_ok_any : ∀ (n : Nat) (b p : Int), 0 ≤ b → 0 ≤ p → okFrom b (atFrom n b p) = true := by
  intro n
  induction n with
  | zero => intro b p _ _; rfl
  | succ n ih =>
    intro b p hb hp
    have ho := opn_pos n b hb
    have hd : 0 ≤ p / opn n b := Int.ediv_nonneg hp (by omega)
    have h1 : 0 ≤ min (p / opn n b) b := by omega
    have h3 : min (p / opn n b) b * opn n b ≤ p / opn n b * opn n b := Int.mul_le_mul_of_nonneg_right (by omega) (by omega)
    have h4 := Int.ediv_mul_le p (show opn n b ≠ 0 by omega)
    simp only [atFrom]
    rw [okFrom_step _ h1 (by omega)]
    exact ih _ _ (by omega) (by omega)

theorem atL_partIn_any (n p : Nat) (hn : 1 ≤ n) (h8 : n ≤ 8) : partIn (atL n (p : Int)) = true := by
  have := at_ok_any n 0 (p : Int) (by omega) (by omega)
  simp only [partIn, atL_length, Bool.and_eq_true, decide_eq_true_eq]
  exact ⟨⟨hn, h8⟩, this⟩

theorem split_at (xs : List Int) (t : Nat) (h : t < xs.length) : xs = xs.take t ++ xs.getD t 0 :: xs.drop (t + 1) := by
  rw [← drop_cons xs t h, List.take_append_drop]

theorem take_snocI (xs : List Int) (t : Nat) (h : t < xs.length) : xs.take (t + 1) = xs.take t ++ [xs.getD t 0] := by
  rw [List.take_succ_eq_append_getElem h]
  simp [List.getD, h]

theorem okFrom_take {xs : List Int} {b : Int} (h : okFrom b xs = true) (t : Nat) : okFrom b (xs.take t) = true := by
  have := (okFrom_app (xs.take t) (xs.drop t) b).1 (by rw [List.take_append_drop]; exact h)
  exact this.1

theorem okFrom_at {xs : List Int} (h : okFrom 0 xs = true) (t : Nat) (ht : t < xs.length) : 0 ≤ xs.getD t 0 ∧ xs.getD t 0 ≤ sizeFrom 0 (xs.take t) := by
  have h1 : okFrom 0 (xs.take t ++ xs.getD t 0 :: xs.drop (t + 1)) = true := by rw [← split_at xs t ht]; exact h
  have := okFrom_head ((okFrom_app _ _ _).1 h1).2
  exact ⟨this.1, this.2.1⟩

theorem sizeFrom_snoc (u : List Int) (x b : Int) : sizeFrom b (u ++ [x]) = max (sizeFrom b u) (x + 1) := by
  rw [sizeFrom_app]; rfl

theorem size_le_len : ∀ (xs : List Int) (b : Int), 0 ≤ b → okFrom b xs = true → sizeFrom b xs ≤ b + xs.length := by
  intro xs
  induction xs with
  | nil => intro b _ _; show b ≤ _; simp
  | cons x xs ih =>
    intro b hb h
    obtain ⟨h0, h1, h2⟩ := okFrom_head h
    have := ih (max b (x + 1)) (by omega) h2
    show sizeFrom (max b (x + 1)) xs ≤ _
    simp only [List.length_cons]
    omega

/-- What the loop of the next one finds. -/
theorem next_found {xs : List Int} (h : okFrom 0 xs = true) (t : Nat) (ht : t < xs.length) (hd : xs.drop (t + 1) = iota (sizeFrom 0 (xs.take (t + 1))) (xs.length - (t + 1))) (hne : xs.getD t 0 ≠ sizeFrom 0 (xs.take t)) :
    okFrom 0 (xs.take t ++ (xs.getD t 0 + 1) :: List.replicate (xs.length - (t + 1)) 0) = true ∧ xs.take t ++ (xs.getD t 0 + 1) :: List.replicate (xs.length - (t + 1)) 0 = atL xs.length (plc xs + 1) ∧ plc xs + 1 < opn xs.length 0 := by
  have ha := okFrom_at h t ht
  have hs := next_step (xs.take t) (xs.getD t 0) (xs.length - (t + 1)) ha.1 (by omega) (okFrom_take h t)
  have he : xs.take t ++ xs.getD t 0 :: iota (sizeFrom 0 (xs.take t)) (xs.length - (t + 1)) = xs := by
    have hz : sizeFrom 0 (xs.take (t + 1)) = sizeFrom 0 (xs.take t) := by rw [take_snocI xs t ht, sizeFrom_snoc, max_small (by omega)]
    rw [← hz, ← hd, ← split_at xs t ht]
  rw [he] at hs
  have hl : (xs.take t ++ (xs.getD t 0 + 1) :: List.replicate (xs.length - (t + 1)) 0).length = xs.length := by simp; omega
  have hb := plc_bd hs.1
  have hp : plc (xs.take t ++ (xs.getD t 0 + 1) :: List.replicate (xs.length - (t + 1)) 0) = plc xs + 1 := hs.2
  refine ⟨hs.1, next_at hl hs.1 hs.2, ?_⟩
  rw [hl, hp] at hb
  exact hb.2

theorem next_more {xs : List Int} (t : Nat) (ht : t < xs.length) (hd : xs.drop (t + 1) = iota (sizeFrom 0 (xs.take (t + 1))) (xs.length - (t + 1))) (he : xs.getD t 0 = sizeFrom 0 (xs.take t)) :
    xs.drop t = iota (sizeFrom 0 (xs.take t)) (xs.length - t) := by
  rw [drop_cons xs t ht, hd, take_snocI xs t ht, sizeFrom_snoc, he, max_new, show xs.length - t = xs.length - (t + 1) + 1 by omega, iota_succ]

/-- What the loop of the one ahead finds. -/
theorem before_found {xs : List Int} (h : okFrom 0 xs = true) (t : Nat) (ht : t < xs.length) (hd : xs.drop (t + 1) = List.replicate (xs.length - (t + 1)) 0) (hne : xs.getD t 0 ≠ 0) :
    okFrom 0 (xs.take t ++ (xs.getD t 0 - 1) :: iota (sizeFrom 0 (xs.take t)) (xs.length - (t + 1))) = true ∧ xs.take t ++ (xs.getD t 0 - 1) :: iota (sizeFrom 0 (xs.take t)) (xs.length - (t + 1)) = atL xs.length (plc xs - 1) ∧ 0 ≤ plc xs - 1 := by
  have ha := okFrom_at h t ht
  have hs := before_step (xs.take t) (xs.getD t 0) (xs.length - (t + 1)) (by omega) ha.2 (okFrom_take h t)
  have he : xs.take t ++ xs.getD t 0 :: List.replicate (xs.length - (t + 1)) 0 = xs := by
    rw [← hd, ← split_at xs t ht]
  rw [he] at hs
  have hl : (xs.take t ++ (xs.getD t 0 - 1) :: iota (sizeFrom 0 (xs.take t)) (xs.length - (t + 1))).length = xs.length := by simp [iota_length]; omega
  have hb := plc_bd hs.1
  have hp : plc (xs.take t ++ (xs.getD t 0 - 1) :: iota (sizeFrom 0 (xs.take t)) (xs.length - (t + 1))) + 1 = plc xs := hs.2
  refine ⟨hs.1, before_at hl hs.1 hs.2, ?_⟩
  omega

theorem before_more {xs : List Int} (t : Nat) (ht : t < xs.length) (hd : xs.drop (t + 1) = List.replicate (xs.length - (t + 1)) 0) (he : xs.getD t 0 = 0) :
    xs.drop t = List.replicate (xs.length - t) 0 := by
  rw [drop_cons xs t ht, hd, he, show xs.length - t = xs.length - (t + 1) + 1 by omega, List.replicate_succ]

/-- Of two lists of one length the one at the greater place is greater at the first place where they differ. -/
theorem plc_less : ∀ (xs ys : List Int) (b : Int), 0 ≤ b → okFrom b xs = true → okFrom b ys = true → xs.length = ys.length → plcFrom b xs < plcFrom b ys →
    ∃ t, t < xs.length ∧ (∀ j, j < t → xs.getD j 0 = ys.getD j 0) ∧ xs.getD t 0 < ys.getD t 0 := by
  intro xs
  induction xs with
  | nil =>
    intro ys b _ _ _ hl h
    cases ys with
    | nil => exact absurd h (Int.lt_irrefl _)
    | cons y ys => cases hl
  | cons x xs ih =>
    intro ys b hb hx hy hl h
    cases ys with
    | nil => cases hl
    | cons y ys =>
      have hl' : xs.length = ys.length := by simpa using hl
      have hx := okFrom_head hx
      have hy := okFrom_head hy
      simp only [plcFrom] at h
      rcases Int.lt_trichotomy x y with c | c | c
      · exact ⟨0, by simp, fun j hj => by omega, c⟩
      · subst c
        rw [hl'] at h
        obtain ⟨t, h1, h2, h3⟩ := ih ys _ (by omega) hx.2.2 hy.2.2 hl' (by omega)
        refine ⟨t + 1, by simpa using h1, ?_, h3⟩
        intro j hj
        cases j with
        | zero => rfl
        | succ j => exact h2 j (by omega)
      · exfalso
        have b1 := plcFrom_bd ys _ (by omega) hy.2.2
        have b2 := plcFrom_bd xs _ (by omega) hx.2.2
        rw [max_small (by omega)] at b1
        rw [max_small (show y < b by omega), hl'] at h
        have b3 : (y + 1) * opn ys.length b ≤ x * opn ys.length b := Int.mul_le_mul_of_nonneg_right (by omega) (by have := opn_pos ys.length b hb; omega)
        rw [Int.add_mul, Int.one_mul] at b3
        omega

end Go.Proofs.Ytbmpchpcihnbdaa

/-
  Lines: eight numbers in one block. What keeps them; the contracts of (line).things, blocksAhead, list, impl.endings, spec.l4Open, impl.isListed.
-/
namespace Go.Proofs.Ytbmpchpcihnbdaa
set_option linter.unusedSimpArgs false
set_option linter.unusedVariables false
set_option linter.unnecessarySimpa false
open Go.RowKit

/-- The cells of a row of integers. -/
def rowC (L : List Int) : Array Value := (L.map (Value.int .i64)).toArray

/-- The numbers of a line: those of the list, -1 behind its end. -/
def ln (xs : List Int) : List Int := xs ++ List.replicate (8 - xs.length) (-1)

theorem ln_length {xs : List Int} (h : xs.length ≤ 8) : (ln xs).length = 8 := by simp [ln]; omega
theorem ln_lt {xs : List Int} {j : Nat} (h : j < xs.length) : (ln xs).getD j 0 = xs.getD j 0 := by
  simp [ln, List.getD, List.getElem?_append_left h]
theorem ln_ge {xs : List Int} {j : Nat} (h : xs.length ≤ j) (h8 : j < 8) : (ln xs).getD j 0 = -1 := by
  simp [ln, List.getD, List.getElem?_append_right h, List.getElem?_replicate, show j - xs.length < 8 - xs.length by omega]

theorem rowC_size (L : List Int) : (rowC L).size = L.length := by simp [rowC]
theorem rowC_at (L : List Int) (j : Nat) (h : j < L.length) : (rowC L)[j]? = some (.int .i64 (L.getD j 0)) := by
  simp [rowC, List.getD, h]
theorem rowC_one (L : List Int) : (rowC L).all (·.oneCell') = true := by
  simp [rowC, Value.oneCell']
theorem rowC_set (L : List Int) (j : Nat) (x : Int) : (rowC L).setIfInBounds j (.int .i64 x) = rowC (L.set j x) := by
  simp [rowC, List.map_set]

/-- Block g is a line that holds the numbers L. -/
def RowAt (w : World) (g : Nat) (L : List Int) : Prop := w.heap[g]? = some (.cells (rowC L) 89 (0, 0))

theorem rowAt_lt {w : World} {g : Nat} {L : List Int} (h : RowAt w g L) : g < w.heap.size := (Array.getElem?_eq_some_iff.1 h).1
theorem rowAt_new (w : World) (L : List Int) : RowAt (w.alloc (.cells (rowC L) 89)) w.heap.size L := heap_alloc_new w _
theorem rowAt_cell {w : World} {g : Nat} {L : List Int} (h : RowAt w g L) (j : Nat) (hj : j < L.length) : w.cell? ⟨g, j, none⟩ = some (.int .i64 (L.getD j 0)) := by
  rw [cell_of_row w g j _ _ _ h, rowC_at L j hj]
theorem rowAt_frozen {w : World} {g : Nat} {L : List Int} (h : RowAt w g L) (j : Nat) : w.frozen? ⟨g, j, none⟩ = false := frozen_of_row w g j _ _ h
theorem rowAt_block {w w' : World} {g : Nat} {L : List Int} (h : RowAt w g L) (hk : w'.heap[g]? = w.heap[g]?) : RowAt w' g L := by
  unfold RowAt; rw [hk]; exact h
theorem rowAt_below {w w' : World} {g : Nat} {L : List Int} (h : RowAt w g L) (hb : Below w.heap.size w w') : RowAt w' g L := rowAt_block h (hb.block g (rowAt_lt h))
theorem rowAt_alloc {w : World} {g : Nat} {L : List Int} (h : RowAt w g L) (o : Obj) : RowAt (w.alloc o) g L := rowAt_below h ((Below.refl _ _).alloc (Nat.le_refl _) _)
theorem rowAt_drewN {w : World} {g : Nat} {L : List Int} (h : RowAt w g L) (n : Nat) : RowAt (w.drewN n) g L := h
theorem rowAt_drew {w : World} {g : Nat} {L : List Int} (h : RowAt w g L) : RowAt w.drew g L := h
theorem rowAt_setCell {w : World} {g : Nat} {L : List Int} (h : RowAt w g L) (j : Nat) (x : Int) : RowAt (w.setCell ⟨g, j, none⟩ (.int .i64 x)) g (L.set j x) := by
  have := heap_setCell_same w g j (rowC L) _ (.int .i64 x) h
  rw [rowC_set] at this
  exact this
theorem rowAt_rd {w : World} {g : Nat} {L : List Int} (h : RowAt w g L) (t n : Nat) (hn : t + n ≤ L.length) : Rd w (some ⟨g, t, none⟩) ((L.drop t).take n) := by
  refine .inr ⟨g, t, rfl, fun j hj => ?_⟩
  simp at hj
  rw [rowAt_cell h _ (by omega)]
  simp [List.getD, List.getElem?_take, show j < n by omega]

theorem rowAt_rd0 {w : World} {g : Nat} {L : List Int} (h : RowAt w g L) (n : Nat) (hn : n ≤ L.length) : Rd w (some ⟨g, 0, none⟩) (L.take n) := by
  have := rowAt_rd h 0 n (by omega)
  rwa [List.drop_zero] at this

theorem touch_row (w : World) (g : Nat) (c : Array Value) : Touch w (w.setRow g c) g (g + 1) :=
  ⟨rfl, rfl, rfl, by simp, fun k hk => setRow_other w g k c (by omega)⟩
theorem touch_cell (w : World) (g j : Nat) (v : Value) : Touch w (w.setCell ⟨g, j, none⟩ v) g (g + 1) :=
  ⟨rfl, rfl, rfl, by simp [World.setCell], fun k hk => heap_setCell_other w ⟨g, j, none⟩ k v (by simp; omega)⟩

theorem rowAt_touch {w w' : World} {g B S : Nat} {L : List Int} (h : RowAt w g L) (ht : Touch w w' B S) (hd : g < B ∨ S ≤ g) : RowAt w' g L := rowAt_block h (ht.block g hd)

theorem touch_below {w w' : World} {B S n : Nat} (ht : Touch w w' B S) (h : n ≤ B) : Below n w w' := ⟨ht.os, ht.tape, ht.output, Nat.le_of_eq ht.size.symm, fun k hk => ht.block k (by omega)⟩

theorem Try.infoLine : (Try.prog.info? 89).map (·.size) = some 8 := by kernel_rfl

/-- The whole line is read. -/
theorem wpList_loadL {ops : Array Oper} {rest : List Oper} {o : Oper} {a : Act} {w : World} {Q : Exit → Act → World → Prop} (hgd : o.guard = none) (x : Operand) (ho : o.op = .load 89 x)
    (g : Nat) (hx : a.eval x = .pointer (some ⟨g, 0, none⟩)) (L : List Int) (hL : L.length = 8) (hg : RowAt w g L)
    (h : wpList Try.prog ops Q rest (a.put o.dst (.agg (rowC L))) w) : wpList Try.prog ops Q (o :: rest) a w :=
  wpList_load_row hgd _ x ho g hx _ (rowC L) (0, 0) _ hg Try.underlying89 rfl (by rw [rowC_size, hL]; exact Try.infoLine) h

/-- The whole line is written. -/
theorem wpList_storeL {ops : Array Oper} {rest : List Oper} {o : Oper} {a : Act} {w : World} {Q : Exit → Act → World → Prop} (hgd : o.guard = none) (x y : Operand) (ho : o.op = .store 89 x y)
    (g : Nat) (L : List Int) (hx : a.eval x = .pointer (some ⟨g, 0, none⟩)) (hy : a.eval y = .agg (rowC L)) (K : List Int) (hK : K.length = 8) (hL : L.length = 8) (hg : RowAt w g K)
    (h : ∀ w', RowAt w' g L → Touch w w' g (g + 1) → wpList Try.prog ops Q rest (a.put o.dst undef) w') : wpList Try.prog ops Q (o :: rest) a w :=
  wpList_store_row hgd _ x y ho g (rowC L) hx hy _ (rowC K) hg (by rw [rowC_size, hL]; exact Try.infoLine) (by rw [rowC_size, rowC_size, hK, hL]) (rowC_one L) (h _ (setRow_heap w g _ _ _ _ hg) (touch_row w g _))

/-- A function that hands a line back out of its variable. -/
theorem results_line {fn : Func} {p : Tmp} (h : fn.results = #[.cell p 89]) (tmps : Array Value) (w : World) (g : Nat) (L : List Int) (hL : L.length = 8)
    (hp : tmps.getD p undef = .pointer (some ⟨g, 0, none⟩)) (hg : RowAt w g L) : (results fn tmps).run Try.prog w = .ok (.agg (rowC L)) w :=
  results_cell_row h tmps w g _ (rowC L) (0, 0) _ hp hg Try.underlying89 rfl (by rw [rowC_size, hL]; exact Try.infoLine)

set_option maxHeartbeats 800000 in
theorem slicesIndex_no (ao : Option Addr) (ca : Nat) (xs : List Int) (x : Int) (w : World) (hx : Rd w ao xs) (hl : xs.length ≤ 9223372036854775807) (hm : ∀ j, j < xs.length → xs.getD j 0 ≠ x) :
    Calls Try.prog 89 #[.slice ao xs.length ca, .int .i64 x] w fun e w' => e = .returned (.int .i64 (-1)) ∧ w = w' := by
  obtain ⟨n, hn⟩ : ∃ n, n = xs.length := ⟨_, rfl⟩
  rw [← hn]
  rw [← hn] at hl hm
  have HN := Lib.hid hn
  clear hn
  have HM := Lib.hid hm
  have HX := Lib.hid hx
  clear hm hx
  go_enter Try.func89, Try.ntmps89
  go_wp2
  go_loop [8] (fun i => ∃ k : Nat, k ≤ n ∧ i = .int .i64 k) (fun i => n - (intOf i).toNat)
  case atStart => exact ⟨0, Nat.zero_le _, rfl⟩
  case round =>
    obtain ⟨k, hk, rfl⟩ := hrel
    by_cases hlt : k < n
    · rcases HX.out with hx | ⟨bb, off, rfl, hcx⟩
      · have := HN.out
        rw [hx] at this
        simp at this
        omega
      have hc1 := hcx k (by have := HN.out; omega)
      have hne := HM.out k hlt
      clear hcx
      obtain ⟨y, hy⟩ : ∃ y, y = xs.getD k 0 := ⟨_, rfl⟩
      rw [← hy] at hc1 hne
      clear hy
      have hb : (x == y) = false := by simp; exact fun e => hne e.symm
      go_wp2
      go_round
      case rel => exact ⟨k + 1, by omega, by go_num⟩
      case measure => simp [intOf]; omega
    · go_wp2
      go_ret
      exact ⟨rfl, rfl⟩

theorem ln_index {xs : List Int} (hs : Small xs) (h : xs.length < 8) : (-1 : Int) ∈ ln xs ∧ (ln xs).idxOf (-1) = xs.length := by
  have hn : (-1 : Int) ∉ xs := by
    intro hm
    obtain ⟨j, hj, he⟩ := List.getElem_of_mem hm
    have := hs j hj
    simp [List.getD, hj, he] at this
  obtain ⟨m, hm⟩ : ∃ m, 8 - xs.length = m + 1 := ⟨8 - xs.length - 1, by omega⟩
  refine ⟨by simp [ln, hm, List.replicate_succ], ?_⟩
  unfold ln
  rw [hm, List.replicate_succ, List.idxOf_append, if_neg hn, List.idxOf_cons_self, Nat.zero_add]

theorem take_len8 {L : List Int} (h : L.length = 8) : L.take 8 = L := by rw [← h, List.take_length]

set_option maxHeartbeats 800000 in
theorem things_any (xs : List Int) (w : World) (hs : Small xs) (h8 : xs.length ≤ 8) :
    Calls Try.prog 111 #[.agg (rowC (ln xs))] w fun e w' => e = .returned (.int .i64 xs.length) ∧ w' = w.alloc (.cells (rowC (ln xs)) 89) := by
  have hL := ln_length h8
  have hnew := rowAt_new w (ln xs)
  have hrd := rowAt_rd0 hnew 8 (by omega)
  rw [take_len8 hL] at hrd
  by_cases hlt : xs.length < 8
  · obtain ⟨h1, h2⟩ := ln_index hs hlt
    have hc := slicesIndex_any (some ⟨w.heap.size, 0, none⟩) 8 (ln xs) (-1) _ hrd (by omega) h1
    rw [h2, hL] at hc
    have HC := Lib.hid hc
    obtain ⟨n, hn⟩ : ∃ n, n = xs.length := ⟨_, rfl⟩
    rw [← hn] at HC hlt ⊢
    clear hc hrd hnew hL h1 h2 h8 hn
    go_enter Try.func111, Try.ntmps111
    go_wp2_with (go_at_call 89; refine HC.out.mono ?_; rintro e w' ⟨rfl, rfl⟩)
    go_ret
    exact ⟨rfl, rfl⟩
  · have hn8 : xs.length = 8 := by omega
    have hc := slicesIndex_no (some ⟨w.heap.size, 0, none⟩) 8 (ln xs) (-1) _ hrd (by omega) (fun j hj => by rw [ln_lt (by omega)]; have := hs j (by omega); omega)
    rw [hL] at hc
    have HC := Lib.hid hc
    rw [hn8]
    clear hc hrd hnew hL h8 hlt hn8
    go_enter Try.func111, Try.ntmps111
    go_wp2_with (go_at_call 89; refine HC.out.mono ?_; rintro e w' ⟨rfl, rfl⟩)
    go_ret
    exact ⟨rfl, rfl⟩

theorem run_sliceL (w : World) (g k : Nat) (hk : k ≤ 8) :
    (Instr.sliceAt 89 (.pointer (some ⟨g, 0, none⟩)) none (some (.int .i64 k)) none).run Try.prog w = .ok (.slice (some ⟨g, 0, none⟩) k 8) w := by
  have h1 : (k : Int) ≤ 8 := by omega
  simp [Instr.sliceAt, run_underlying Try.underlying89, Instr.sureAddr, Instr.sliceBounds, Instr.sliceBound, asIntOf, h1, Try.sizeOf3, Addr.add]
  intro h
  omega

theorem run_sliceL2 (w : World) (g l k : Nat) (hl : l ≤ k) (hk : k ≤ 8) :
    (Instr.sliceAt 89 (.pointer (some ⟨g, 0, none⟩)) (some (.int .i64 l)) (some (.int .i64 k)) none).run Try.prog w = .ok (.slice (some (if 8 = l then ⟨g, 0, none⟩ else ⟨g, l, none⟩)) (k - l) (8 - l)) w := by
  have h1 : (k : Int) ≤ 8 := by omega
  have h2 : (l : Int) ≤ k := by omega
  simp [Instr.sliceAt, run_underlying Try.underlying89, Instr.sureAddr, Instr.sliceBounds, Instr.sliceBound, asIntOf, h1, h2, hk, hl, Try.sizeOf3, Addr.add]
  by_cases h : l = 0
  · subst h; simp
  · simp [h]

theorem ln_take {xs : List Int} {k : Nat} (h : k ≤ xs.length) : (ln xs).take k = xs.take k := by
  unfold ln
  rw [List.take_append_of_le_length h]

theorem small_take {xs : List Int} (h : Small xs) (k : Nat) : Small (xs.take k) := fun j hj => by
  simp at hj
  have := h j (by omega)
  simpa [List.getD, List.getElem?_take, show j < k by omega] using this

theorem size_take_bd {xs : List Int} (h : Small xs) (k : Nat) : 0 ≤ sizeFrom 0 (xs.take k) ∧ sizeFrom 0 (xs.take k) ≤ 8 := sizeFrom_bd _ 0 (small_take h k) (by omega) (by omega)

set_option maxHeartbeats 800000 in
theorem blocksAhead_any (xs : List Int) (k : Nat) (w : World) (hs : Small xs) (h8 : xs.length ≤ 8) (hk : k ≤ xs.length) :
    Calls Try.prog 119 #[.agg (rowC (ln xs)), .int .i64 k] w fun e w' => e = .returned (.int .i64 (sizeFrom 0 (xs.take k))) ∧ w' = w.alloc (.cells (rowC (ln xs)) 89) := by
  have hL := ln_length h8
  obtain ⟨W, hW⟩ : ∃ W, W = w.alloc (.cells (rowC (ln xs)) 89) := ⟨_, rfl⟩
  have hnew := rowAt_new w (ln xs)
  rw [← hW] at hnew
  have hcell : ∀ j, j < k → W.cell? ⟨w.heap.size, j, none⟩ = some (.int .i64 (xs.getD j 0)) := fun j hj => by
    rw [rowAt_cell hnew j (by omega), ln_lt (by omega)]
  have HC := Lib.hid hcell
  have HS := Lib.hid hs
  have HK := Lib.hid hk
  have hk8 : k ≤ 8 := by omega
  have hsl := fun (w1 : World) => run_sliceL w1 w.heap.size k hk8
  clear hcell hnew hL hs hk h8
  have HW := Lib.hid hW
  go_enter Try.func119, Try.ntmps119
  go_wp2
  rw [← HW.out]
  clear hW hsl
  go_loop [5, 11] (fun u i => ∃ (j : Nat) (b : Int), j ≤ k ∧ i = .int .i64 j ∧ u = .int .i64 b ∧ 0 ≤ b ∧ b ≤ 8 ∧ sizeFrom 0 (xs.take k) = sizeFrom b ((xs.take k).drop j)) (fun _ i => k - (intOf i).toNat)
  case atStart => exact ⟨0, 0, Nat.zero_le _, rfl, rfl, by omega, by omega, rfl⟩
  case round =>
    obtain ⟨j, b, hj, rfl, rfl, hb0, hb8, hok⟩ := hrel
    have HOK := Lib.hid hok
    clear hok
    by_cases hlt : j < k
    · have hc1 := HC.out j hlt
      have hdr := drop_cons (xs.take k) j (by have := HK.out; simp; omega)
      obtain ⟨hx0, hx7⟩ := HS.out j (by have := HK.out; omega)
      have hg : (xs.take k).getD j 0 = xs.getD j 0 := by simp [List.getD, List.getElem?_take, hlt]
      rw [hg] at hdr
      obtain ⟨x, hx⟩ : ∃ x, x = xs.getD j 0 := ⟨_, rfl⟩
      rw [← hx] at hc1 hdr hx0 hx7
      have hok := HOK.out
      rw [hdr, sizeFrom] at hok
      have HOK2 := Lib.hid hok
      clear hok HOK hdr hx hg
      by_cases hm : x + 1 ≤ b
      · go_wp2
        go_round
        case rel => exact ⟨j + 1, b, by omega, by go_num, by first | rfl | (congr 1; omega), by omega, by omega, by rw [HOK2.out, Int.max_eq_left hm]⟩
        case measure => simp [intOf]; omega
      · go_wp2
        go_round
        case rel => exact ⟨j + 1, x + 1, by omega, by go_num, by first | rfl | (congr 1; omega), by omega, by omega, by rw [HOK2.out, Int.max_eq_right (by omega)]⟩
        case measure => simp [intOf]; omega
    · have hkn : j = k := by omega
      subst hkn
      go_wp2
      go_ret
      refine ⟨ret_int ?_, HW.out⟩
      have := HOK.out
      rw [List.drop_of_length_le (by rw [List.length_take]; omega)] at this
      rw [this]
      rfl

end Go.Proofs.Ytbmpchpcihnbdaa

/-
  Arcs of a list: what they are, in which order they stand, pairs of them. No program is named here.
-/
namespace Go.Proofs.Ytbmpchpcihnbdaa
set_option linter.unusedSimpArgs false
set_option linter.unusedVariables false
set_option linter.unnecessarySimpa false

/-- The arcs of a list whose first number stands at place i. -/
def arcsFrom : Nat → List Int → List (Nat × Nat)
  | _, [] => []
  | i, x :: ys => if x ∈ ys then (i, i + 1 + ys.idxOf x) :: arcsFrom (i + 1) ys else arcsFrom (i + 1) ys

def arcsOf (xs : List Int) : List (Nat × Nat) := arcsFrom 0 xs

theorem arcsFrom_yes {i : Nat} {x : Int} {ys : List Int} (h : x ∈ ys) : arcsFrom i (x :: ys) = (i, i + 1 + ys.idxOf x) :: arcsFrom (i + 1) ys := by
  rw [arcsFrom, if_pos h]
theorem arcsFrom_no {i : Nat} {x : Int} {ys : List Int} (h : x ∉ ys) : arcsFrom i (x :: ys) = arcsFrom (i + 1) ys := by
  rw [arcsFrom, if_neg h]

theorem arcsFrom_length : ∀ (xs : List Int) (i : Nat), (arcsFrom i xs).length ≤ xs.length := by
  intro xs
  induction xs with
  | nil => intro i; simp [arcsFrom]
  | cons x ys ih =>
    intro i
    have := ih (i + 1)
    unfold arcsFrom
    split <;> simp <;> omega

/-- What an arc is: the things have the same number, and none between has it. -/
theorem arcsFrom_mem : ∀ (xs : List Int) (i : Nat) (p : Nat × Nat), p ∈ arcsFrom i xs →
    i ≤ p.1 ∧ p.1 < p.2 ∧ p.2 < i + xs.length ∧ xs.getD (p.2 - i) 0 = xs.getD (p.1 - i) 0 ∧ ∀ j, p.1 < j → j < p.2 → xs.getD (j - i) 0 ≠ xs.getD (p.1 - i) 0 := by
  intro xs
  induction xs with
  | nil => intro i p h; simp [arcsFrom] at h
  | cons x ys ih =>
    intro i p h
    have hr : p ∈ arcsFrom (i + 1) ys → i ≤ p.1 ∧ p.1 < p.2 ∧ p.2 < i + (x :: ys).length ∧ (x :: ys).getD (p.2 - i) 0 = (x :: ys).getD (p.1 - i) 0 ∧ ∀ j, p.1 < j → j < p.2 → (x :: ys).getD (j - i) 0 ≠ (x :: ys).getD (p.1 - i) 0 := by
      intro hm
      obtain ⟨h1, h2, h3, h4, h5⟩ := ih (i + 1) p hm
      have hs : ∀ j, i + 1 ≤ j → (x :: ys).getD (j - i) 0 = ys.getD (j - (i + 1)) 0 := fun j hj => by
        obtain ⟨t, ht⟩ : ∃ t, j - i = t + 1 := ⟨j - i - 1, by omega⟩
        rw [ht, List.getD_cons_succ, show j - (i + 1) = t by omega]
      refine ⟨by omega, h2, by simp; omega, ?_, fun j hj hk => ?_⟩
      · rw [hs _ (by omega), hs _ (by omega)]; exact h4
      · rw [hs _ (by omega), hs _ (by omega)]; exact h5 j hj hk
    by_cases hx : x ∈ ys
    · rw [arcsFrom_yes hx, List.mem_cons] at h
      rcases h with rfl | h
      · have hlt := List.idxOf_lt_length_of_mem hx
        refine ⟨Nat.le_refl _, by simp; omega, by simp; omega, ?_, fun j hj hk => ?_⟩
        · dsimp only
          rw [show i + 1 + List.idxOf x ys - i = List.idxOf x ys + 1 by omega, List.getD_cons_succ, Nat.sub_self, List.getD_cons_zero]
          simp [List.getD, hlt, List.getElem_idxOf hlt]
        · dsimp only at hj hk ⊢
          obtain ⟨t, ht⟩ : ∃ t, j - i = t + 1 := ⟨j - i - 1, by omega⟩
          rw [ht, List.getD_cons_succ, Nat.sub_self, List.getD_cons_zero]
          have htl : t < List.idxOf x ys := by omega
          have := List.not_of_lt_findIdx (p := (· == x)) (xs := ys) (i := t) (by simpa [List.idxOf] using htl)
          intro he
          simp [List.getD, show t < ys.length by omega] at he
          simp [he] at this
      · exact hr h
    · rw [arcsFrom_no hx] at h
      exact hr h

theorem arcsFrom_sorted : ∀ (xs : List Int) (i : Nat), (arcsFrom i xs).Pairwise (fun p q => p.1 < q.1 ∧ p.2 ≠ q.2) := by
  intro xs
  induction xs with
  | nil => intro i; simp [arcsFrom]
  | cons x ys ih =>
    intro i
    by_cases hx : x ∈ ys
    · rw [arcsFrom_yes hx, List.pairwise_cons]
      refine ⟨fun q hq => ?_, ih _⟩
      obtain ⟨h1, h2, h3, h4, h5⟩ := arcsFrom_mem ys (i + 1) q hq
      refine ⟨by dsimp only; omega, fun he => ?_⟩
      obtain ⟨_, _, _, g4, g5⟩ := arcsFrom_mem (x :: ys) i (i, i + 1 + ys.idxOf x) (by rw [arcsFrom_yes hx]; simp)
      dsimp only at he g4 g5
      refine g5 q.1 (by omega) (by omega) ?_
      rw [← g4, he]
      obtain ⟨t, ht⟩ : ∃ t, q.1 - i = t + 1 := ⟨q.1 - i - 1, by omega⟩
      obtain ⟨s, hs⟩ : ∃ s, q.2 - i = s + 1 := ⟨q.2 - i - 1, by omega⟩
      rw [ht, hs, List.getD_cons_succ, List.getD_cons_succ, show t = q.1 - (i + 1) by omega, show s = q.2 - (i + 1) by omega]
      exact h4.symm
    · rw [arcsFrom_no hx]
      exact ih _

/-- How many pairs of a list are so, the first one standing ahead of the second one. -/
def pairsL (p : Nat × Nat → Nat × Nat → Bool) : List (Nat × Nat) → Nat
  | [] => 0
  | x :: l => l.countP (p x) + pairsL p l

theorem pairsL_snoc (p : Nat × Nat → Nat × Nat → Bool) (y : Nat × Nat) : ∀ l, pairsL p (l ++ [y]) = pairsL p l + l.countP (fun x => p x y) := by
  intro l
  induction l with
  | nil => simp [pairsL]
  | cons x l ih =>
    rw [List.cons_append, pairsL, ih, pairsL, List.countP_append, List.countP_cons (l := l) (a := x)]
    simp only [List.countP_cons, List.countP_nil]
    omega

theorem pairsL_congr (p q : Nat × Nat → Nat × Nat → Bool) : ∀ l : List (Nat × Nat), l.Pairwise (fun x y => p x y = q x y) → pairsL p l = pairsL q l := by
  intro l
  induction l with
  | nil => intro _; rfl
  | cons x l ih =>
    intro h
    rw [List.pairwise_cons] at h
    rw [pairsL, pairsL, ih h.2, List.countP_congr (fun y hy => by rw [h.1 y hy])]

theorem pairsL_le (p : Nat × Nat → Nat × Nat → Bool) : ∀ l : List (Nat × Nat), pairsL p l ≤ l.length * l.length := by
  intro l
  induction l with
  | nil => simp [pairsL]
  | cons x l ih =>
    have := List.countP_le_length (p := p x) (l := l)
    simp only [pairsL, List.length_cons, Nat.add_mul, Nat.mul_add, Nat.one_mul, Nat.mul_one]
    omega

def crossB (x y : Nat × Nat) : Bool := decide (x.1 < y.1) && decide (y.1 < x.2) && decide (x.2 < y.2)
def nestB (x y : Nat × Nat) : Bool := decide (x.1 < y.1) && decide (y.2 < x.2)
def crossS (x y : Nat × Nat) : Bool := decide (y.1 < x.2) && decide (x.2 < y.2)
def nestS (x y : Nat × Nat) : Bool := decide (y.1 < x.2) && !decide (x.2 < y.2)

def crossings (xs : List Int) : Nat := pairsL crossB (arcsOf xs)
def nestings (xs : List Int) : Nat := pairsL nestB (arcsOf xs)

theorem cross_same (xs : List Int) : pairsL crossS (arcsOf xs) = crossings xs := by
  refine pairsL_congr _ _ _ ((arcsFrom_sorted xs 0).imp fun {x y} h => ?_)
  simp [crossS, crossB, h.1]

theorem nest_same (xs : List Int) : pairsL nestS (arcsOf xs) = nestings xs := by
  refine pairsL_congr _ _ _ (List.Pairwise.imp_of_mem (fun {x y} hx hy h => ?_) (arcsFrom_sorted xs 0))
  have := (arcsFrom_mem xs 0 y hy).2.1
  have h1 := h.1
  have h2 := h.2
  simp only [nestS, nestB, h1, decide_true, Bool.true_and]
  rw [Bool.eq_iff_iff]
  simp
  omega

theorem arcsOf_len (xs : List Int) : (arcsOf xs).length ≤ xs.length := arcsFrom_length xs 0

/-- The sum of the lengths of arcs. -/
def longL : List (Nat × Nat) → Nat
  | [] => 0
  | p :: l => (p.2 - p.1) + longL l

theorem longL_append (l m : List (Nat × Nat)) : longL (l ++ m) = longL l + longL m := by
  induction l with
  | nil => simp [longL]
  | cons x l ih => simp [longL, ih]; omega

/-- The arcs as lists. -/
def rowsOf (l : List (Nat × Nat)) : List (List Int) := l.map fun p => [(p.1 : Int), (p.2 : Int)]

/-- A list tells an arc between two of n things. -/
def toldOk (n : Int) (r : List Int) : Bool := decide (r.length = 2 ∧ (0 ≤ r.getD 0 0 ∧ r.getD 0 0 < n) ∧ r.getD 0 0 < r.getD 1 0 ∧ r.getD 1 0 < n)

end Go.Proofs.Ytbmpchpcihnbdaa

/-
  Slices of arcs: what reads as a list of arcs, what owns one; the contracts of (arc).crosses, (arc).nests.
-/
namespace Go.Proofs.Ytbmpchpcihnbdaa
set_option linter.unusedSimpArgs false
set_option linter.unusedVariables false
set_option linter.unnecessarySimpa false
open Go.RowKit

/-- An arc as a value. -/
def arcV (p : Nat × Nat) : Value := .agg #[.int .i64 p.1, .int .i64 p.2]

/-- The cells of a list of arcs. -/
def arcC (L : List (Nat × Nat)) : List Value := L.flatMap fun p => [.int .i64 p.1, .int .i64 p.2]

theorem arcC_length : ∀ L, (arcC L).length = L.length * 2 := by
  intro L
  induction L with
  | nil => rfl
  | cons p L ih => simp [arcC] at ih ⊢; omega

theorem arcC_append (L M : List (Nat × Nat)) : arcC (L ++ M) = arcC L ++ arcC M := by simp [arcC]

theorem arcC_at : ∀ (L : List (Nat × Nat)) (j : Nat), j < L.length → (arcC L)[j * 2]? = some (.int .i64 (L.getD j (0, 0)).1) ∧ (arcC L)[j * 2 + 1]? = some (.int .i64 (L.getD j (0, 0)).2) := by
  intro L
  induction L with
  | nil => intro j h; simp at h
  | cons p L ih =>
    intro j h
    have e : arcC (p :: L) = .int .i64 p.1 :: .int .i64 p.2 :: arcC L := rfl
    match j with
    | 0 => rw [e]; simp
    | j + 1 =>
      obtain ⟨h1, h2⟩ := ih j (by simp at h; omega)
      rw [e, show (j + 1) * 2 = j * 2 + 1 + 1 by omega]
      simp only [List.getElem?_cons_succ, List.getD_cons_succ]
      exact ⟨h1, h2⟩

/-- The slice value v, made since the heap had B blocks, holds the arcs L. -/
def OwnA (w : World) (B : Nat) (v : Value) (L : List (Nat × Nat)) : Prop := w.ownsRow B 84 2 v L.length (arcC L)

theorem ownA_nil (w : World) (B : Nat) : OwnA w B (.slice none 0 0) [] := World.ownsRow_nil _ _ _ _
theorem ownA_alloc {w : World} {B : Nat} {v : Value} {L : List (Nat × Nat)} (h : OwnA w B v L) (o : Obj) : OwnA (w.alloc o) B v L := World.ownsRow.alloc h o
theorem ownA_grown {w w' : World} {B : Nat} {v : Value} {L : List (Nat × Nat)} {row : Option Nat} (h : OwnA w B v L) (hg : w.grownBy w' row) (hne : v.ownBlock = none ∨ v.ownBlock ≠ row) : OwnA w' B v L := World.ownsRow.kept h hg hne
theorem ownA_below {w w' : World} {B : Nat} {v : Value} {L : List (Nat × Nat)} (h : OwnA w B v L) (hb : Below w.heap.size w w') : OwnA w' B v L :=
  ownA_grown h (grown_of_below hb) (by cases hv : v.ownBlock <;> simp)

/-- The value v is a slice that reads as the arcs L. -/
def RdA (w : World) (v : Value) (L : List (Nat × Nat)) : Prop :=
  ∃ ao cap, v = .slice ao L.length cap ∧ L.length ≤ cap ∧ cap ≤ maxLen ∧ (L = [] ∨ ∃ b, ao = some ⟨b, 0, none⟩ ∧
    ∀ j, j < L.length → w.cell? ⟨b, j * 2, none⟩ = some (.int .i64 (L.getD j (0, 0)).1) ∧ w.cell? ⟨b, j * 2 + 1, none⟩ = some (.int .i64 (L.getD j (0, 0)).2))

theorem ownA_rd {w : World} {B : Nat} {v : Value} {L : List (Nat × Nat)} (h : OwnA w B v L) : RdA w v L := by
  have h0 := h
  rcases h.2 with ⟨hv, hn⟩ | ⟨g, cap, cur, hv, hb, hg, hnc, hcm, hcs, htk⟩
  · have hL := List.eq_nil_of_length_eq_zero hn
    subst hL
    exact ⟨none, 0, hv, Nat.le_refl _, Nat.zero_le _, .inl rfl⟩
  · refine ⟨_, cap, hv, hnc, hcm, .inr ⟨g, rfl, fun j hj => ?_⟩⟩
    obtain ⟨h1, h2⟩ := arcC_at L j hj
    have hc := fun j u h => World.ownsRow.cells h0 (g := g) (by rw [hv]; rfl) j u h
    have e1 := hc _ _ h1
    have e2 := hc _ _ h2
    rw [Addr.add_lit, Nat.zero_add] at e1 e2
    exact ⟨e1, e2⟩

theorem rdA_below {w w' : World} {v : Value} {L : List (Nat × Nat)} (h : RdA w v L) (hb : Below w.heap.size w w') : RdA w' v L := by
  obtain ⟨ao, cap, h1, h2, h3, h4⟩ := h
  refine ⟨ao, cap, h1, h2, h3, ?_⟩
  rcases h4 with h4 | ⟨b, ha, hc⟩
  · exact .inl h4
  · refine .inr ⟨b, ha, fun j hj => ?_⟩
    obtain ⟨c1, c2⟩ := hc j hj
    rw [hb.cell (World.block_lt_of_cell? w _ c1), hb.cell (World.block_lt_of_cell? w _ c2)]
    exact ⟨c1, c2⟩

theorem Try.infoArc : (Try.prog.info? 84).map (fun i => (i.zero, i.size, i.bytes)) = some (some (.agg #[.int .i64 0, .int .i64 0]), 2, 16) := by kernel_rfl

/-- What a function leaves that hands back a new slice of arcs. -/
def FreshA (w : World) (L : List (Nat × Nat)) (e : Ending) (w' : World) : Prop := ∃ v, e = .returned v ∧ OwnA w' w.heap.size v L ∧ Below w.heap.size w w'

theorem rd_drop {w : World} {b off : Nat} {xs : List Int} (h : ∀ j, j < xs.length → w.cell? ⟨b, off + j, none⟩ = some (.int .i64 (xs.getD j 0))) (k : Nat) : Rd w (some ⟨b, off + k, none⟩) (xs.drop k) := by
  refine .inr ⟨b, off + k, rfl, fun j hj => ?_⟩
  simp at hj
  have := h (k + j) (by omega)
  rw [← Nat.add_assoc] at this
  rw [this]
  simp [List.getD]

theorem slicesIndex_nil (ao : Option Addr) (m ca : Nat) (x : Int) (w : World) (hm : m = 0) : Calls Try.prog 89 #[.slice ao m ca, .int .i64 x] w fun e w' => e = .returned (.int .i64 (-1)) ∧ w = w' := by
  subst hm
  have := slicesIndex_no ao ca [] x w (.inl rfl) (by simp) (by simp)
  simpa using this

end Go.Proofs.Ytbmpchpcihnbdaa

/-
  Plain mathematics of chapter 8: pair lists as parts of the list of all pairs. No program is named here.
-/
namespace Go.Proofs.Ytbmpchpcihnbdaa
set_option linter.unusedSimpArgs false
set_option linter.unusedVariables false
set_option linter.unnecessarySimpa false
set_option maxRecDepth 100000

def ltP (p q : Nat × Nat) : Prop := p.1 < q.1 ∨ (p.1 = q.1 ∧ p.2 < q.2)
instance (p q : Nat × Nat) : Decidable (ltP p q) := by unfold ltP; exact inferInstance
theorem ltP_trans {p q r : Nat × Nat} (h : ltP p q) (k : ltP q r) : ltP p r := by unfold ltP at *; omega
theorem ltP_irrefl (p : Nat × Nat) : ¬ ltP p p := by unfold ltP; omega

/-- All pairs of n things, in order. -/
def allP (n : Nat) : List (Nat × Nat) := (List.range n).flatMap fun i => ((List.range n).filter fun k => decide (i < k)).map fun k => (i, k)
theorem mem_allP {n i k : Nat} : (i, k) ∈ allP n ↔ i < k ∧ k < n := by
  unfold allP
  simp only [List.mem_flatMap, List.mem_map, List.mem_filter, List.mem_range, decide_eq_true_eq, Prod.mk.injEq]
  constructor
  · rintro ⟨a, ha, b, ⟨hb, hab⟩, rfl, rfl⟩
    exact ⟨hab, hb⟩
  · rintro ⟨h1, h2⟩
    exact ⟨i, by omega, k, ⟨h2, h1⟩, rfl, rfl⟩
theorem allP_sorted : ∀ n, n < 7 → (allP n).Pairwise ltP := by decide +kernel
theorem allP_length : ∀ n, n < 7 → (allP n).length = n * (n - 1) / 2 := by decide +kernel

theorem sorted_sublist : ∀ (m l : List (Nat × Nat)), m.Pairwise ltP → l.Pairwise ltP → (∀ x ∈ l, x ∈ m) → l.Sublist m := by
  intro m
  induction m with
  | nil =>
    intro l _ _ h
    cases l with
    | nil => exact List.Sublist.slnil
    | cons b l => exact absurd (h b (by simp)) (by simp)
  | cons a m ih =>
    intro l hm hl h
    obtain ⟨ha, hm'⟩ := List.pairwise_cons.1 hm
    cases l with
    | nil => exact List.nil_sublist _
    | cons b l =>
      obtain ⟨hb, hl'⟩ := List.pairwise_cons.1 hl
      by_cases e : b = a
      · subst e
        refine List.Sublist.cons_cons _ (ih l hm' hl' fun x hx => ?_)
        rcases List.mem_cons.1 (h x (by simp [hx])) with h1 | h1
        · have := hb x hx
          rw [h1] at this
          exact absurd this (ltP_irrefl _)
        · exact h1
      · have hbm : b ∈ m := (List.mem_cons.1 (h b (by simp))).resolve_left e
        refine List.Sublist.cons _ (ih (b :: l) hm' hl fun x hx => ?_)
        rcases List.mem_cons.1 (h x hx) with h1 | h1
        · exfalso
          rcases List.mem_cons.1 hx with h2 | h2
          · exact e (h2.symm.trans h1)
          · have h3 := ltP_trans (ha b hbm) (hb x h2)
            rw [h1] at h3
            exact ltP_irrefl _ h3
        · exact h1

/-- All parts of a list, in its order. -/
def subl {α : Type} : List α → List (List α)
  | [] => [[]]
  | a :: l => subl l ++ (subl l).map (a :: ·)
theorem mem_subl {α : Type} : ∀ {L l : List α}, L.Sublist l → L ∈ subl l := by
  intro L l h
  induction h with
  | slnil => simp [subl]
  | cons a _ ih => exact List.mem_append.2 (.inl ih)
  | cons_cons a _ ih => exact List.mem_append.2 (.inr (List.mem_map.2 ⟨_, ih, rfl⟩))

/-- A pair as the program tells it. -/
def encP (p : Nat × Nat) : List Int := [(p.1 : Int), (p.2 : Int)]
theorem enc0 (p : Nat × Nat) : (encP p).getD 0 0 = (p.1 : Int) := rfl
theorem enc1 (p : Nat × Nat) : (encP p).getD 1 0 = (p.2 : Int) := rfl
theorem encLen (p : Nat × Nat) : (encP p).length = 2 := rfl
def encPs (L : List (Nat × Nat)) : List (List Int) := L.map encP
theorem encPs_length (L : List (Nat × Nat)) : (encPs L).length = L.length := by simp [encPs]
theorem encPs_getD (L : List (Nat × Nat)) {x : Nat} (h : x < L.length) : (encPs L).getD x [] = encP (L.getD x (0, 0)) := by simp [encPs, List.getD, h]
theorem encP_inj {p q : Nat × Nat} (h : encP p = encP q) : p = q := by
  obtain ⟨a, b⟩ := p
  obtain ⟨c, d⟩ := q
  simp only [encP, List.cons.injEq, and_true] at h
  rw [Prod.mk.injEq]
  omega
theorem encPs_inj {L M : List (Nat × Nat)} (h : encPs L = encPs M) : L = M := by
  induction L generalizing M with
  | nil => cases M with
    | nil => rfl
    | cons q M => simp [encPs] at h
  | cons p L ih => cases M with
    | nil => simp [encPs] at h
    | cons q M =>
      simp only [encPs, List.map_cons, List.cons.injEq] at h
      rw [encP_inj h.1, ih h.2]

/-- A pair of things out of n; one pair ahead of another one. -/
def okPair (n : Int) (e : List Int) : Bool := decide (e.length = 2 ∧ (0 ≤ e.getD 0 0 ∧ e.getD 0 0 ≤ n - 1) ∧ (e.getD 0 0 + 1 ≤ e.getD 1 0 ∧ e.getD 1 0 ≤ n - 1))
def lessI (e f : List Int) : Bool := decide (e.getD 0 0 < f.getD 0 0 ∨ (e.getD 0 0 = f.getD 0 0 ∧ e.getD 1 0 < f.getD 1 0))
/-- The first k entries are a pair list. -/
def pairTo (n : Int) (ps : List (List Int)) : Nat → Bool
  | 0 => true
  | k + 1 => pairTo n ps k && okPair n (ps.getD k []) && (decide (k = 0) || lessI (ps.getD (k - 1) []) (ps.getD k []))
def pairIn (n : Int) (ps : List (List Int)) : Bool := decide (1 ≤ n ∧ n ≤ 6) && pairTo n ps ps.length

theorem pairTo_iff {n : Int} {ps : List (List Int)} : ∀ k, pairTo n ps k = true ↔ ∀ x, x < k → okPair n (ps.getD x []) = true ∧ (0 < x → lessI (ps.getD (x - 1) []) (ps.getD x []) = true) := by
  intro k
  induction k with
  | zero => simp [pairTo]
  | succ k ih =>
    unfold pairTo
    rw [Bool.and_eq_true, Bool.and_eq_true, ih, Bool.or_eq_true, decide_eq_true_eq]
    constructor
    · rintro ⟨⟨h1, h2⟩, h3⟩ x hx
      by_cases e : x = k
      · subst e
        exact ⟨h2, fun h0 => h3.resolve_left (by omega)⟩
      · exact h1 x (by omega)
    · intro h
      refine ⟨⟨fun x hx => h x (by omega), (h k (by omega)).1⟩, ?_⟩
      by_cases e : k = 0
      · exact .inl e
      · exact .inr ((h k (by omega)).2 (by omega))

theorem okPair_dec {n : Int} {e : List Int} (h : okPair n e = true) : e = encP ((e.getD 0 0).toNat, (e.getD 1 0).toNat) ∧ (e.getD 0 0).toNat < (e.getD 1 0).toNat ∧ ((e.getD 1 0).toNat : Int) < n := by
  simp only [okPair, decide_eq_true_eq] at h
  obtain ⟨h0, ⟨h1, h2⟩, h3, h4⟩ := h
  refine ⟨?_, by omega, by omega⟩
  match e, h0 with
  | [a, b], _ =>
    simp only [List.getD_cons_zero, List.getD_cons_succ] at *
    simp only [encP]
    rw [Int.toNat_of_nonneg (by omega), Int.toNat_of_nonneg (by omega)]

/-- A pair list is a part of the list of all pairs. -/
theorem pairIn_sub {n : Int} {ps : List (List Int)} (h : pairIn n ps = true) : ∃ (m : Nat) (L : List (Nat × Nat)), n = (m : Int) ∧ 1 ≤ m ∧ m ≤ 6 ∧ L.Sublist (allP m) ∧ ps = encPs L := by
  simp only [pairIn, Bool.and_eq_true, decide_eq_true_eq] at h
  obtain ⟨⟨h1, h6⟩, hp⟩ := h
  obtain ⟨m, rfl⟩ := Int.eq_ofNat_of_zero_le (show 0 ≤ n by omega)
  have hall := (pairTo_iff ps.length).1 hp
  have hps : ps = encPs (ps.map fun e => ((e.getD 0 0).toNat, (e.getD 1 0).toNat)) := by
    unfold encPs
    rw [List.map_map]
    apply List.ext_getElem (by simp)
    intro i hi _
    have := (okPair_dec (hall i hi).1).1
    simp only [List.getElem_map, Function.comp]
    have e : ps.getD i [] = ps[i] := by simp [List.getD, hi]
    rw [e] at this
    exact this
  refine ⟨m, ps.map fun e => ((e.getD 0 0).toNat, (e.getD 1 0).toNat), rfl, by omega, by omega, ?_, hps⟩
  refine sorted_sublist _ _ (allP_sorted m (by omega)) ?_ ?_
  · have adj : ∀ i j, i < j → j < ps.length → ltP (((ps.getD i []).getD 0 0).toNat, ((ps.getD i []).getD 1 0).toNat) (((ps.getD j []).getD 0 0).toNat, ((ps.getD j []).getD 1 0).toNat) := by
      intro i j hij
      induction j with
      | zero => omega
      | succ j ih =>
        intro hj
        have h2 := (hall (j + 1) hj).2 (by omega)
        have ok1 := okPair_dec (hall j (by omega)).1
        have ok2 := okPair_dec (hall (j + 1) hj).1
        simp only [Nat.add_sub_cancel, lessI, decide_eq_true_eq] at h2
        have h3 : ltP (((ps.getD j []).getD 0 0).toNat, ((ps.getD j []).getD 1 0).toNat) (((ps.getD (j + 1) []).getD 0 0).toNat, ((ps.getD (j + 1) []).getD 1 0).toNat) := by
          have o1 := (hall j (by omega)).1
          have o2 := (hall (j + 1) hj).1
          simp only [okPair, decide_eq_true_eq] at o1 o2
          unfold ltP
          omega
        by_cases e : i = j
        · subst e; exact h3
        · exact ltP_trans (ih (by omega) (by omega)) h3
    rw [List.pairwise_iff_getElem]
    intro i j hi hj hij
    simp only [List.length_map] at hi hj
    simp only [List.getElem_map]
    have := adj i j hij hj
    rw [show ps.getD i [] = ps[i] by simp [List.getD, hi], show ps.getD j [] = ps[j] by simp [List.getD, hj]] at this
    exact this
  · rintro ⟨i, k⟩ hx
    obtain ⟨e, he, hik⟩ := List.mem_map.1 hx
    obtain ⟨j, hj, rfl⟩ := List.mem_iff_getElem.1 he
    have := okPair_dec (hall j hj).1
    rw [show ps.getD j [] = ps[j] by simp [List.getD, hj]] at this
    simp only [Prod.mk.injEq] at hik
    obtain ⟨rfl, rfl⟩ := hik
    exact mem_allP.2 ⟨this.2.1, by omega⟩

theorem pairIn_of {m : Nat} {L : List (Nat × Nat)} (h1 : 1 ≤ m) (h6 : m ≤ 6) (hs : L.Sublist (allP m)) : pairIn (m : Int) (encPs L) = true := by
  simp only [pairIn, Bool.and_eq_true, decide_eq_true_eq]
  refine ⟨by omega, (pairTo_iff _).2 fun x hx => ?_⟩
  rw [encPs_length] at hx
  have hp : ∀ y, y < L.length → (L.getD y (0, 0)).1 < (L.getD y (0, 0)).2 ∧ (L.getD y (0, 0)).2 < m := fun y hy => by
    have hm : L.getD y (0, 0) ∈ L := by simp [List.getD, hy]
    exact mem_allP.1 (hs.subset hm)
  rw [encPs_getD L hx]
  have h2 := hp x hx
  refine ⟨?_, fun h0 => ?_⟩
  · refine decide_eq_true ⟨rfl, ?_⟩
    rw [enc0, enc1]
    omega
  · rw [encPs_getD L (by omega)]
    have hw := (allP_sorted m (by omega)).sublist hs
    have := (List.pairwise_iff_getElem.1 hw) (x - 1) x (by omega) hx (by omega)
    rw [show L[x - 1]'(by omega) = L.getD (x - 1) (0, 0) by simp [List.getD, show x - 1 < L.length by omega], show L[x] = L.getD x (0, 0) by simp [List.getD, hx]] at this
    refine decide_eq_true ?_
    rw [enc0, enc0, enc1, enc1]
    unfold ltP at this
    omega

theorem pairIn_iff {n : Int} {ps : List (List Int)} : pairIn n ps = true ↔ ∃ (m : Nat) (L : List (Nat × Nat)), n = (m : Int) ∧ 1 ≤ m ∧ m ≤ 6 ∧ L.Sublist (allP m) ∧ ps = encPs L :=
  ⟨pairIn_sub, fun ⟨m, L, e1, h1, h6, hs, e2⟩ => by rw [e1, e2]; exact pairIn_of h1 h6 hs⟩

/-! ### what the functions answer -/

/-- The pairs of things that a list has alike. -/
def ofP (xs : List Int) : List (Nat × Nat) := (allP xs.length).filter fun p => xs.getD p.1 0 == xs.getD p.2 0
/-- All others. -/
def otherP (n : Nat) (L : List (Nat × Nat)) : List (Nat × Nat) := (allP n).filter fun p => !L.contains p
/-- Both things of a pair get the lesser label. -/
def labStep (f : List Int) (p : Nat × Nat) : List Int := (f.set p.1 (min (f.getD p.1 0) (f.getD p.2 0))).set p.2 (min (f.getD p.1 0) (f.getD p.2 0))
def labTo (n : Nat) (L : List (Nat × Nat)) : Nat → List Int
  | 0 => iota 0 n
  | t + 1 => L.foldl labStep (labTo n L t)
/-- The blocks by pairs. -/
def partP (n : Nat) (L : List (Nat × Nat)) : List Int := kOut (labTo n L n)
def wholeP (n : Nat) (L : List (Nat × Nat)) : Bool := (ofP (partP n L)).length == L.length
/-- How many pairs are in just one of both. -/
def costP (xs : List Int) (L : List (Nat × Nat)) : Int := ((ofP xs).length : Int) + (L.map fun p => if xs.getD p.1 0 == xs.getD p.2 0 then (-1 : Int) else 1).sum
def bestIn (L : List (Nat × Nat)) : List Int → List (List Int) → List Int
  | b, [] => b
  | b, x :: l => bestIn L (if costP x L < costP b L then x else b) l
/-- Three things have just two pairs. -/
def twoP (L : List (Nat × Nat)) (t : Nat × Nat × Nat) : Bool := (if L.contains (t.1, t.2.1) then 1 else 0) + (if L.contains (t.1, t.2.2) then 1 else 0) + (if L.contains (t.2.1, t.2.2) then 1 else 0) == (2 : Nat)
def tripP (n : Nat) : List (Nat × Nat × Nat) := (allP n).flatMap fun p => ((List.range n).filter fun c => decide (p.2 < c)).map fun c => (p.1, p.2, c)
def threeP (n : Nat) (L : List (Nat × Nat)) : Nat := (tripP n).countP (twoP L)

theorem otherP_sub (n : Nat) (L : List (Nat × Nat)) : (otherP n L).Sublist (allP n) := List.filter_sublist
theorem ofP_sub (xs : List Int) : (ofP xs).Sublist (allP xs.length) := List.filter_sublist

/-- The pairs are pairs of things out of n. -/
def InN (n : Nat) (L : List (Nat × Nat)) : Prop := ∀ p ∈ L, p.1 < n ∧ p.2 < n
theorem inN_of_sub {n : Nat} {L : List (Nat × Nat)} (h : L.Sublist (allP n)) : InN n L := fun p hp => by
  have := mem_allP.1 (show (p.1, p.2) ∈ allP n from h.subset hp)
  omega

end Go.Proofs.Ytbmpchpcihnbdaa

/-
  The contracts of cmp.Compare, cmp.Or and (pair).compare; slices of pairs: what reads as a list of pairs, what owns one.
-/
namespace Go.Proofs.Ytbmpchpcihnbdaa
set_option linter.unusedSimpArgs false
set_option linter.unusedVariables false
set_option linter.unnecessarySimpa false
open Go.RowKit
set_option maxRecDepth 100000

def cmpI (a b : Int) : Int := if a < b then -1 else if b < a then 1 else 0
def cmpP (p q : Nat × Nat) : Int := if cmpI p.1 q.1 ≠ 0 then cmpI p.1 q.1 else cmpI p.2 q.2

theorem cmpCompare_any (a b : Int) (w : World) : Calls Try.prog 140 #[.int .i64 a, .int .i64 b] w fun e w' => e = .returned (.int .i64 (cmpI a b)) ∧ w = w' := by
  unfold cmpI
  by_cases h1 : a < b
  · rw [if_pos h1]
    go_enter Try.func140, Try.ntmps140
    go_wp2_with ((go_at_call 141; refine (isNaN_any _ _).mono ?_; rintro e w' ⟨rfl, rfl⟩))
    go_ret
    exact ⟨rfl, rfl⟩
  · rw [if_neg h1]
    by_cases h2 : b < a
    · rw [if_pos h2]
      go_enter Try.func140, Try.ntmps140
      go_wp2_with ((go_at_call 141; refine (isNaN_any _ _).mono ?_; rintro e w' ⟨rfl, rfl⟩))
      go_ret
      exact ⟨rfl, rfl⟩
    · rw [if_neg h2]
      go_enter Try.func140, Try.ntmps140
      go_wp2_with ((go_at_call 141; refine (isNaN_any _ _).mono ?_; rintro e w' ⟨rfl, rfl⟩))
      go_ret
      exact ⟨rfl, rfl⟩

theorem cmpOr_any (a b : Int) (g : Nat) (w : World) (h0 : w.cell? ⟨g, 0, none⟩ = some (.int .i64 a)) (h1 : w.cell? ⟨g, 1, none⟩ = some (.int .i64 b)) :
    Calls Try.prog 139 #[.slice (some ⟨g, 0, none⟩) 2 2] w fun e w' => e = .returned (.int .i64 (if a ≠ 0 then a else b)) ∧ w = w' := by
  by_cases ha : a = 0
  · have ha' : (a != 0) = false := by simp [ha]
    by_cases hb : b = 0
    · have hb' : (b != 0) = false := by simp [hb]
      rw [if_neg (by simp [ha]), hb]
      rw [hb] at h1 hb'
      rw [ha] at h0 ha'
      clear ha hb
      go_enter Try.func139, Try.ntmps139
      go_wp2
      refine wp_loop_rounds 3 ?_
      rw [rounds_succ]
      go_wp2
      rw [rounds_succ]
      go_wp2
      rw [rounds_succ]
      go_wp2
      go_ret
      exact ⟨rfl, rfl⟩
    · have hb' : (b != 0) = true := by simp [hb]
      rw [if_neg (by simp [ha])]
      rw [ha] at h0 ha'
      clear ha hb
      go_enter Try.func139, Try.ntmps139
      go_wp2
      refine wp_loop_rounds 3 ?_
      rw [rounds_succ]
      go_wp2
      rw [rounds_succ]
      go_wp2
      go_ret
      exact ⟨rfl, rfl⟩
  · have ha' : (a != 0) = true := by simp [ha]
    rw [if_pos ha]
    clear ha
    go_enter Try.func139, Try.ntmps139
    go_wp2
    refine wp_loop_rounds 3 ?_
    rw [rounds_succ]
    go_wp2
    go_ret
    exact ⟨rfl, rfl⟩

theorem cells_two {w : World} {x y : Value} {t : TypeId} {n : Nat} (hn : n = w.heap.size) : (w.alloc (.cells #[x, y] t)).cell? ⟨n, 0, none⟩ = some x ∧ (w.alloc (.cells #[x, y] t)).cell? ⟨n, 1, none⟩ = some y := by
  subst hn
  have h := heap_alloc_new w (.cells #[x, y] t)
  simp only [World.cell?, h]
  exact ⟨rfl, rfl⟩

theorem cells_twoD {w : World} {x y : Value} {t : TypeId} {n : Nat} (hn : n = w.heap.size) : (w.alloc (.cells #[x, y] t)).drew.cell? ⟨n, 0, none⟩ = some x ∧ (w.alloc (.cells #[x, y] t)).drew.cell? ⟨n, 1, none⟩ = some y := cells_two hn

theorem cellAl {w : World} {p : Addr} {v : Value} (h : w.cell? p = some v) (o : Obj) : (w.alloc o).cell? p = some v := by
  have hb : Below w.heap.size w (w.alloc o) := (Below.refl _ _).alloc (Nat.le_refl _) _
  rw [hb.cell (World.block_lt_of_cell? w _ h)]
  exact h

set_option maxHeartbeats 1600000 in
theorem compare_any (p q : Nat × Nat) (w : World) : Calls Try.prog 138 #[arcV p, arcV q] w fun e w' => e = .returned (.int .i64 (cmpP p q)) ∧ Below w.heap.size w w' := by
  obtain ⟨a, b⟩ := p
  obtain ⟨c, d⟩ := q
  unfold arcV cmpP
  obtain ⟨x, hx⟩ : ∃ x, x = cmpI (a : Int) c := ⟨_, rfl⟩
  obtain ⟨y, hy⟩ : ∃ y, y = cmpI (b : Int) d := ⟨_, rfl⟩
  rw [← hx, ← hy]
  have HX := Lib.hid fun (w0 : World) => cmpCompare_any a c w0
  have HY := Lib.hid fun (w0 : World) => cmpCompare_any b d w0
  rw [← hx] at HX
  rw [← hy] at HY
  have HO := Lib.hid fun (g : Nat) (w0 : World) (h0 : w0.cell? ⟨g, 0, none⟩ = some (.int .i64 x)) (h1 : w0.cell? ⟨g, 1, none⟩ = some (.int .i64 y)) => cmpOr_any x y g w0 h0 h1
  obtain ⟨r, hr⟩ : ∃ r, r = if x ≠ 0 then x else y := ⟨_, rfl⟩
  rw [← hr] at HO ⊢
  clear hx hy hr
  have g1 : ∀ w0 : World, ∀ A1 A2 A3 A4 : Value, ((w0.alloc (.cells #[A1, A2] 62)).alloc (.cells #[A3, A4] 62)).cell? ⟨w0.heap.size, 0, none⟩ = some A1 ∧ ((w0.alloc (.cells #[A1, A2] 62)).alloc (.cells #[A3, A4] 62)).cell? ⟨w0.heap.size, 1, none⟩ = some A2 ∧ ((w0.alloc (.cells #[A1, A2] 62)).alloc (.cells #[A3, A4] 62)).cell? ⟨w0.heap.size + 1, 0, none⟩ = some A3 ∧ ((w0.alloc (.cells #[A1, A2] 62)).alloc (.cells #[A3, A4] 62)).cell? ⟨w0.heap.size + 1, 1, none⟩ = some A4 := fun w0 A1 A2 A3 A4 => by
    have c1 := cells_two (w := w0) (x := A1) (y := A2) (t := 62) rfl
    have c2 := cells_two (w := w0.alloc (.cells #[A1, A2] 62)) (x := A3) (y := A4) (t := 62) (n := w0.heap.size + 1) (by simp)
    exact ⟨cellAl c1.1 _, cellAl c1.2 _, c2.1, c2.2⟩
  obtain ⟨f1, f2, f3, f4⟩ := g1 w (.int .i64 a) (.int .i64 b) (.int .i64 c) (.int .i64 d)
  clear g1
  go_enter Try.func138, Try.ntmps138
  go_wp2
  obtain ⟨W, hW⟩ : ∃ W, W = (w.alloc (.cells #[.int .i64 a, .int .i64 b] 62)).alloc (.cells #[.int .i64 c, .int .i64 d] 62) := ⟨_, rfl⟩
  have hb : Below w.heap.size w W := by rw [hW]; exact ((Below.refl _ _).alloc (Nat.le_refl _) _).alloc (by simp) _
  have hs : W.heap.size = w.heap.size + 1 + 1 := by rw [hW]; simp
  rw [← hW] at f1 f2 f3 f4 ⊢
  clear hW
  go_region_held3 (fun w' => w'.cell? ⟨w.heap.size, 0, none⟩ = some (.int .i64 a) ∧ w'.cell? ⟨w.heap.size, 1, none⟩ = some (.int .i64 b) ∧ w'.cell? ⟨w.heap.size + 1, 0, none⟩ = some (.int .i64 c) ∧ w'.cell? ⟨w.heap.size + 1, 1, none⟩ = some (.int .i64 d)) (first | exact ⟨f1, f2, f3, f4⟩ | exact ⟨cellAl f1 (.cells #[.int .i64 x, .int .i64 y] 3), cellAl f2 (.cells #[.int .i64 x, .int .i64 y] 3), cellAl f3 (.cells #[.int .i64 x, .int .i64 y] 3), cellAl f4 (.cells #[.int .i64 x, .int .i64 y] 3)⟩) (first | (go_at_call_of 140 (Value.int IntKind.i64 (a : Int)); refine (HX.out _).mono ?_; rintro e w' ⟨rfl, rfl⟩) | (go_at_call_of 140 (Value.int IntKind.i64 (b : Int)); refine (HY.out _).mono ?_; rintro e w' ⟨rfl, rfl⟩) | (go_at_call 139; (first | refine (HO.out _ _ (cells_two hs.symm).1 (cells_two hs.symm).2).mono ?_ | refine (HO.out _ _ (cells_twoD hs.symm).1 (cells_twoD hs.symm).2).mono ?_); rintro e w' ⟨rfl, rfl⟩))
  all_goals go_wp2
  all_goals go_ret
  all_goals (first | exact ⟨rfl, hb.alloc hb.size _⟩ | exact ⟨rfl, (hb.alloc hb.size _).drew⟩)

end Go.Proofs.Ytbmpchpcihnbdaa

/-
  Slices of pairs: what reads as a list of pairs, what owns one; the contract of (sorted[pair]).with.
-/
namespace Go.Proofs.Ytbmpchpcihnbdaa
set_option linter.unusedSimpArgs false
set_option linter.unusedVariables false
set_option linter.unnecessarySimpa false
open Go.RowKit
set_option maxRecDepth 100000

/-- The slice value v, made since the heap had B blocks, holds the pairs L. -/
def OwnP (w : World) (B : Nat) (v : Value) (L : List (Nat × Nat)) : Prop := w.ownsRow B 62 2 v L.length (arcC L)

theorem ownP_nil (w : World) (B : Nat) : OwnP w B (.slice none 0 0) [] := World.ownsRow_nil _ _ _ _
theorem ownP_alloc {w : World} {B : Nat} {v : Value} {L : List (Nat × Nat)} (h : OwnP w B v L) (o : Obj) : OwnP (w.alloc o) B v L := World.ownsRow.alloc h o
theorem ownP_grown {w w' : World} {B : Nat} {v : Value} {L : List (Nat × Nat)} {row : Option Nat} (h : OwnP w B v L) (hg : w.grownBy w' row) (hne : v.ownBlock = none ∨ v.ownBlock ≠ row) : OwnP w' B v L := World.ownsRow.kept h hg hne
theorem ownP_below {w w' : World} {B : Nat} {v : Value} {L : List (Nat × Nat)} (h : OwnP w B v L) (hb : Below w.heap.size w w') : OwnP w' B v L :=
  ownP_grown h (grown_of_below hb) (by cases hv : v.ownBlock <;> simp)
theorem ownP_mono {w : World} {B B' : Nat} {v : Value} {L : List (Nat × Nat)} (h : OwnP w B v L) (hB : B' ≤ B) : OwnP w B' v L := by
  refine ⟨h.1, ?_⟩
  rcases h.2 with h2 | ⟨g, cap, cur, hv, hb, r⟩
  · exact .inl h2
  · exact .inr ⟨g, cap, cur, hv, by omega, r⟩

/-- The cells from (b, off) on read as the pairs L. -/
def CellsP (w : World) (b off : Nat) (L : List (Nat × Nat)) : Prop := ∀ j, j < L.length → w.cell? ⟨b, off + j * 2, none⟩ = some (.int .i64 (L.getD j (0, 0)).1) ∧ w.cell? ⟨b, off + j * 2 + 1, none⟩ = some (.int .i64 (L.getD j (0, 0)).2)
theorem cellsP_below {w w' : World} {b off : Nat} {L : List (Nat × Nat)} (h : CellsP w b off L) (hb : Below w.heap.size w w') : CellsP w' b off L := fun j hj => by
  obtain ⟨c1, c2⟩ := h j hj
  rw [hb.cell (World.block_lt_of_cell? w _ c1), hb.cell (World.block_lt_of_cell? w _ c2)]
  exact ⟨c1, c2⟩
theorem cellsP_drop {w : World} {b off : Nat} {L : List (Nat × Nat)} (h : CellsP w b off L) (k : Nat) : CellsP w b (off + k * 2) (L.drop k) := fun j hj => by
  simp at hj
  have := h (k + j) (by omega)
  rw [show off + k * 2 + j * 2 = off + (k + j) * 2 by omega]
  rw [show (L.drop k).getD j (0, 0) = L.getD (k + j) (0, 0) by simp [List.getD]]
  exact this

/-- The value v is a slice that reads as the pairs L. -/
def RdP (w : World) (v : Value) (L : List (Nat × Nat)) : Prop :=
  ∃ ao cap, v = .slice ao L.length cap ∧ L.length ≤ cap ∧ cap ≤ maxLen ∧ (L = [] ∨ ∃ b off, ao = some ⟨b, off, none⟩ ∧ CellsP w b off L)
theorem rdP_below {w w' : World} {v : Value} {L : List (Nat × Nat)} (h : RdP w v L) (hb : Below w.heap.size w w') : RdP w' v L := by
  obtain ⟨ao, cap, h1, h2, h3, h4⟩ := h
  refine ⟨ao, cap, h1, h2, h3, ?_⟩
  rcases h4 with h4 | ⟨b, off, ha, hc⟩
  · exact .inl h4
  · exact .inr ⟨b, off, ha, cellsP_below hc hb⟩

theorem ownP_view {w : World} {B : Nat} {v : Value} {L : List (Nat × Nat)} (h : OwnP w B v L) :
    (v = .slice none 0 0 ∧ L = []) ∨ ∃ g cap, v = .slice (some ⟨g, 0, none⟩) L.length cap ∧ B ≤ g ∧ g < w.heap.size ∧ L.length ≤ cap ∧ cap ≤ maxLen ∧ CellsP w g 0 L := by
  have h0 := h
  rcases h.2 with ⟨hv, hn⟩ | ⟨g, cap, cur, hv, hb, hg, hnc, hcm, hcs, htk⟩
  · exact .inl ⟨hv, List.eq_nil_of_length_eq_zero hn⟩
  · refine .inr ⟨g, cap, hv, hb, (Array.getElem?_eq_some_iff.1 hg).1, hnc, hcm, fun j hj => ?_⟩
    obtain ⟨h1, h2⟩ := arcC_at L j hj
    have hc := fun j u h => World.ownsRow.cells h0 (g := g) (by rw [hv]; rfl) j u h
    have e1 := hc _ _ h1
    have e2 := hc _ _ h2
    rw [Addr.add_lit] at e1 e2
    exact ⟨e1, by rw [show 0 + j * 2 + 1 = 0 + (j * 2 + 1) by omega]; exact e2⟩

theorem ownP_rd {w : World} {B : Nat} {v : Value} {L : List (Nat × Nat)} (h : OwnP w B v L) : RdP w v L := by
  rcases ownP_view h with ⟨rfl, rfl⟩ | ⟨g, cap, rfl, _, _, h1, h2, h3⟩
  · exact ⟨none, 0, rfl, Nat.le_refl _, Nat.zero_le _, .inl rfl⟩
  · exact ⟨_, cap, rfl, h1, h2, .inr ⟨g, 0, rfl, h3⟩⟩

theorem Try.infoPair : (Try.prog.info? 62).map (fun i => (i.zero, i.size, i.bytes)) = some (some (.agg #[.int .i64 0, .int .i64 0]), 2, 16) := by kernel_rfl

/-- 'append(pairs, x)' onto a slice of the call's own. -/
theorem wpList_pushP {w : World} {ops : Array Oper} {rest : List Oper} {o : Oper} {a : Act} {Q : Exit → Act → World → Prop} (hgd : o.guard = none) (s x : Operand)
    (ho : o.op = .call { callee := .builtin .append, args := #[s, x], argTypes := #[46, 46] })
    (B : Nat) (v : Value) (L : List (Nat × Nat)) (hs : a.eval s = v) (hown : OwnP w B v L)
    (g : Nat) (hx : a.eval x = .slice (some ⟨g, 0, none⟩) 1 1) (p : Nat × Nat) (hc1 : w.cell? ⟨g, 0, none⟩ = some (.int .i64 p.1)) (hc2 : w.cell? ⟨g, 1, none⟩ = some (.int .i64 p.2)) (hl : L.length ≤ 1000000000) (hB : B ≤ w.heap.size)
    (h : ∀ v' w', OwnP w' B v' (L ++ [p]) → w.grownBy w' v.ownBlock → wpList Try.prog ops Q rest (a.put o.dst v') w') :
    wpList Try.prog ops Q (o :: rest) a w := by
  obtain ⟨i0, hi, hz0, hz1, hz2⟩ := info_parts Try.infoPair
  refine wpList_append_own w hgd s x 46 ho B 62 i0 (.agg #[.int .i64 0, .int .i64 0]) 2 16 Try.underlying46 hi hz0 hz1 hz2 rfl (by decide) v L.length (arcC L) hs hown ⟨g, 0, none⟩ 1 1 [.int .i64 p.1, .int .i64 p.2] hx rfl ?_ ?_ (by unfold maxLen; omega) (by omega) hB ?_
  · intro j u hj
    match j, hj with
    | 0, hj =>
      simp at hj
      subst hj
      simpa [Addr.add] using hc1
    | 1, hj =>
      simp at hj
      subst hj
      simpa [Addr.add] using hc2
  · intro u hu
    simp at hu
    rcases hu with rfl | rfl <;> rfl
  · intro v' w' ho' hg' _
    refine h v' w' ?_ hg'
    unfold OwnP
    rw [arcC_append, List.length_append]
    exact ho'

/-- What a function leaves that hands back a new slice of pairs. -/
def FreshP (w : World) (L : List (Nat × Nat)) (e : Ending) (w' : World) : Prop := ∃ v, e = .returned v ∧ OwnP w' w.heap.size v L ∧ Below w.heap.size w w'

theorem method_pair (p : Nat × Nat) (w : World) : (method 234 62 (arcV p) "loop.example/setparts/impl.compare").run Try.prog w = .ok (138, arcV p) w := by kernel_rfl

theorem cellSt {w w' : World} {p : Addr} {v : Value} (h : w.cell? p = some v) (hb : Below w.heap.size w w') : w'.cell? p = some v := by
  rw [hb.cell (World.block_lt_of_cell? w _ h)]
  exact h

set_option maxHeartbeats 1600000 in
theorem with_yes (v : Value) (B : Nat) (L : List (Nat × Nat)) (p : Nat × Nat) (w : World) (ho : OwnP w B v L) (hB : B ≤ w.heap.size) (hl : L.length ≤ 100000000)
    (hp : L = [] ∨ cmpP (L.getD (L.length - 1) (0, 0)) p < 0) :
    Calls Try.prog 95 #[v, arcV p] w fun e w' => ∃ v', e = .returned (.tuple #[v', .bool true]) ∧ OwnP w' B v' (L ++ [p]) ∧ Below B w w' := by
  have HO := Lib.hid ho
  obtain ⟨a, b⟩ := p
  unfold arcV
  rcases L.eq_nil_or_concat with rfl | ⟨M, q, rfl⟩
  · obtain ⟨ao, cap, hv⟩ : ∃ ao cap, v = .slice ao 0 cap := by
      rcases ownP_view ho with ⟨h, _⟩ | ⟨g, cap, h, _⟩
      · exact ⟨_, _, h⟩
      · exact ⟨_, _, h⟩
    subst hv
    clear ho
    go_enter Try.func95, Try.ntmps95
    go_wp2
    go_quiet (fail)
    obtain ⟨W, hW⟩ : ∃ W, W = (w.alloc (.cells #[.int .i64 a, .int .i64 b] 62)).drewN nq := ⟨_, rfl⟩
    have f1 : W.cell? ⟨w.heap.size, 0, none⟩ = some (.int .i64 a) := by rw [hW]; exact (cells_two rfl).1
    have f2 : W.cell? ⟨w.heap.size, 1, none⟩ = some (.int .i64 b) := by rw [hW]; exact (cells_two rfl).2
    have hbW : Below B w W := by rw [hW]; exact below_drewN ((Below.refl _ _).alloc hB _) _
    have HOW : Hid (OwnP W B (.slice ao 0 cap) []) := Lib.hid (by rw [hW]; exact ownP_below HO.out (below_drewN ((Below.refl _ _).alloc (Nat.le_refl _) _) _))
    have hBW : B ≤ W.heap.size := by have := hbW.size; omega
    rw [← hW]
    clear hW
    go_wp2_with (at_builtin; refine wpList_pushP rfl _ _ rfl B _ [] rfl (ownP_alloc HOW.out _) W.heap.size rfl (a, b) (cells_two rfl).1 (cells_two rfl).2 (by simp) (by simp; omega) ?_; intro v9 w9 ho9 hg9)
    go_ret2
    refine ⟨_, rfl, ho9, (hbW.alloc hBW _).grown hg9 (by simp; omega) fun j hj => (World.ownsRow.lt HOW.out j hj).1⟩
  · obtain ⟨c, d⟩ := q
    rw [List.concat_eq_append] at HO ho hp ⊢
    have hlm : M.length ≤ 100000000 := by simp at hl; omega
    have hlen : (M ++ [(c, d)]).length = M.length + 1 := by simp
    have hlast : (M ++ [(c, d)]).getD M.length (0, 0) = (c, d) := by simp [List.getD]
    obtain ⟨g, cap, rfl, hg1, hg2, hg3, hg4, hc⟩ : ∃ g cap, v = .slice (some ⟨g, 0, none⟩) (M ++ [(c, d)]).length cap ∧ B ≤ g ∧ g < w.heap.size ∧ (M ++ [(c, d)]).length ≤ cap ∧ cap ≤ maxLen ∧ CellsP w g 0 (M ++ [(c, d)]) := by
      rcases ownP_view ho with ⟨_, h⟩ | h
      · simp at h
      · exact h
    have hcl := hc M.length (by rw [hlen]; omega)
    rw [hlast] at hcl
    obtain ⟨e1, e2⟩ := hcl
    rw [hlen, Nat.add_sub_cancel, hlast] at hp
    have hp2 : cmpP (c, d) (a, b) < 0 := by
      rcases hp with h | h
      · simp at h
      · exact h
    have hm : ∀ w1 : World, (method 234 62 (.agg #[.int .i64 c, .int .i64 d]) "loop.example/setparts/impl.compare").run Try.prog w1 = .ok (138, .agg #[.int .i64 c, .int .i64 d]) w1 := fun w1 => method_pair (c, d) w1
    have HC := Lib.hid fun (w1 : World) => compare_any (c, d) (a, b) w1
    obtain ⟨r, hr⟩ : ∃ r, r = cmpP (c, d) (a, b) := ⟨_, rfl⟩
    rw [← hr] at HC hp2
    obtain ⟨m, hm2⟩ : ∃ m, m = M.length := ⟨_, rfl⟩
    rw [hlen] at HO ⊢
    rw [← hm2] at HO e1 e2 hlm ⊢
    dsimp only at e1 e2
    rw [Nat.zero_add] at e1 e2
    have w1 : IntKind.i64.wrap ((m : Int)) = (m : Int) := IntWalk.i64_in _ (by omega)
    have b1 : (0 : Int) ≤ (m : Int) := by omega
    have b2 : (m : Int) < (m : Int) + 1 := by omega
    have HM := Lib.hid hm2
    clear hc hlast hp hr hm2 hlen hl hg3 ho
    unfold arcV at HC
    go_enter Try.func95, Try.ntmps95
    go_wp2
    obtain ⟨W, hW⟩ : ∃ W, W = (w.alloc (.cells #[.int .i64 a, .int .i64 b] 62)) := ⟨_, rfl⟩
    have f1 : W.cell? ⟨w.heap.size, 0, none⟩ = some (.int .i64 a) := by rw [hW]; exact (cells_two rfl).1
    have f2 : W.cell? ⟨w.heap.size, 1, none⟩ = some (.int .i64 b) := by rw [hW]; exact (cells_two rfl).2
    have f3 : W.cell? ⟨g, m * 2, none⟩ = some (.int .i64 c) := by rw [hW]; exact cellAl e1 _
    have f4 : W.cell? ⟨g, m * 2 + 1, none⟩ = some (.int .i64 d) := by rw [hW]; exact cellAl e2 _
    have hbW : Below w.heap.size w W := by rw [hW]; exact (Below.refl _ _).alloc (Nat.le_refl _) _
    rw [← hW]
    clear hW e1 e2
    go_region_held3 (fun w' => w'.cell? ⟨w.heap.size, 0, none⟩ = some (.int .i64 a) ∧ w'.cell? ⟨w.heap.size, 1, none⟩ = some (.int .i64 b) ∧ w'.cell? ⟨g, m * 2, none⟩ = some (.int .i64 c) ∧ w'.cell? ⟨g, m * 2 + 1, none⟩ = some (.int .i64 d)) (first | exact ⟨f1, f2, f3, f4⟩ | exact ⟨d1, d2, d3, d4⟩) (first | (go_at_call 138; refine (HC.out _).mono ?_; rintro e W5 ⟨rfl, hb5⟩; have d1 := cellSt (w := W.drew) f1 hb5; have d2 := cellSt (w := W.drew) f2 hb5; have d3 := cellSt (w := W.drew) f3 hb5; have d4 := cellSt (w := W.drew) f4 hb5))
    have hd : decide (0 ≤ r) = false := decide_eq_false (by omega)
    have hb6 : Below W.heap.size W W5 := below_step (below_drewN (Below.refl _ W) 1) hb5
    have HOW : Hid (OwnP W5 B (.slice (some ⟨g, 0, none⟩) (m + 1) cap) (M ++ [(c, d)])) := Lib.hid (ownP_below HO.out (below_step hbW hb6))
    have hbB : Below B w W5 := (below_step hbW hb6).mono hB
    have hBW : B ≤ W5.heap.size := by have := hbB.size; omega
    clear hb5 hb6 hbW d3 d4 f1 f2 f3 f4
    try rw [hd]
    clear hd hp2
    go_wp2_with (at_builtin; refine wpList_pushP rfl _ _ rfl B _ (M ++ [(c, d)]) rfl (ownP_alloc HOW.out _) W5.heap.size rfl (a, b) (cells_two rfl).1 (cells_two rfl).2 (by have := HM.out; simp; omega) (by simp; omega) ?_; intro v9 w9 ho9 hg9)
    go_ret2
    refine ⟨_, rfl, ho9, (hbB.alloc hBW _).grown hg9 (by simp; omega) fun j hj => (World.ownsRow.lt HOW.out j hj).1⟩

set_option maxHeartbeats 1600000 in
theorem with_no (v : Value) (B : Nat) (L : List (Nat × Nat)) (p : Nat × Nat) (w : World) (ho : OwnP w B v L) (hB : B ≤ w.heap.size) (hl : L.length ≤ 100000000)
    (hn : L ≠ []) (hp : ¬ cmpP (L.getD (L.length - 1) (0, 0)) p < 0) :
    Calls Try.prog 95 #[v, arcV p] w fun e w' => e = .returned (.tuple #[.slice none 0 0, .bool false]) ∧ Below B w w' := by
  have HO := Lib.hid ho
  obtain ⟨a, b⟩ := p
  unfold arcV
  rcases L.eq_nil_or_concat with rfl | ⟨M, q, rfl⟩
  · exact absurd rfl hn
  · obtain ⟨c, d⟩ := q
    rw [List.concat_eq_append] at HO ho hp hl
    have hlm : M.length ≤ 100000000 := by simp at hl; omega
    have hlen : (M ++ [(c, d)]).length = M.length + 1 := by simp
    have hlast : (M ++ [(c, d)]).getD M.length (0, 0) = (c, d) := by simp [List.getD]
    obtain ⟨g, cap, rfl, hg1, hg2, hg3, hg4, hc⟩ : ∃ g cap, v = .slice (some ⟨g, 0, none⟩) (M ++ [(c, d)]).length cap ∧ B ≤ g ∧ g < w.heap.size ∧ (M ++ [(c, d)]).length ≤ cap ∧ cap ≤ maxLen ∧ CellsP w g 0 (M ++ [(c, d)]) := by
      rcases ownP_view ho with ⟨_, h⟩ | h
      · simp at h
      · exact h
    have hcl := hc M.length (by rw [hlen]; omega)
    rw [hlast] at hcl
    obtain ⟨e1, e2⟩ := hcl
    rw [hlen, Nat.add_sub_cancel, hlast] at hp
    have hp2 : 0 ≤ cmpP (c, d) (a, b) := by omega
    have hm : ∀ w1 : World, (method 234 62 (.agg #[.int .i64 c, .int .i64 d]) "loop.example/setparts/impl.compare").run Try.prog w1 = .ok (138, .agg #[.int .i64 c, .int .i64 d]) w1 := fun w1 => method_pair (c, d) w1
    have HC := Lib.hid fun (w1 : World) => compare_any (c, d) (a, b) w1
    obtain ⟨r, hr⟩ : ∃ r, r = cmpP (c, d) (a, b) := ⟨_, rfl⟩
    rw [← hr] at HC hp2
    obtain ⟨m, hm2⟩ : ∃ m, m = M.length := ⟨_, rfl⟩
    rw [hlen] at HO ⊢
    rw [← hm2] at HO e1 e2 hlm ⊢
    dsimp only at e1 e2
    rw [Nat.zero_add] at e1 e2
    have w1 : IntKind.i64.wrap ((m : Int)) = (m : Int) := IntWalk.i64_in _ (by omega)
    have b1 : (0 : Int) ≤ (m : Int) := by omega
    have b2 : (m : Int) < (m : Int) + 1 := by omega
    have HM := Lib.hid hm2
    clear hc hlast hp hn hr hm2 hlen hl hg3 ho
    unfold arcV at HC
    go_enter Try.func95, Try.ntmps95
    go_wp2
    obtain ⟨W, hW⟩ : ∃ W, W = (w.alloc (.cells #[.int .i64 a, .int .i64 b] 62)) := ⟨_, rfl⟩
    have f1 : W.cell? ⟨w.heap.size, 0, none⟩ = some (.int .i64 a) := by rw [hW]; exact (cells_two rfl).1
    have f2 : W.cell? ⟨w.heap.size, 1, none⟩ = some (.int .i64 b) := by rw [hW]; exact (cells_two rfl).2
    have f3 : W.cell? ⟨g, m * 2, none⟩ = some (.int .i64 c) := by rw [hW]; exact cellAl e1 _
    have f4 : W.cell? ⟨g, m * 2 + 1, none⟩ = some (.int .i64 d) := by rw [hW]; exact cellAl e2 _
    have hbW : Below w.heap.size w W := by rw [hW]; exact (Below.refl _ _).alloc (Nat.le_refl _) _
    rw [← hW]
    clear hW e1 e2
    go_region_held3 (fun w' => w'.cell? ⟨w.heap.size, 0, none⟩ = some (.int .i64 a) ∧ w'.cell? ⟨w.heap.size, 1, none⟩ = some (.int .i64 b) ∧ w'.cell? ⟨g, m * 2, none⟩ = some (.int .i64 c) ∧ w'.cell? ⟨g, m * 2 + 1, none⟩ = some (.int .i64 d)) (first | exact ⟨f1, f2, f3, f4⟩ | exact ⟨d1, d2, d3, d4⟩) (first | (go_at_call 138; refine (HC.out _).mono ?_; rintro e W5 ⟨rfl, hb5⟩; have d1 := cellSt (w := W.drew) f1 hb5; have d2 := cellSt (w := W.drew) f2 hb5; have d3 := cellSt (w := W.drew) f3 hb5; have d4 := cellSt (w := W.drew) f4 hb5))
    have hd : decide (0 ≤ r) = true := decide_eq_true (by omega)
    have hb6 : Below W.heap.size W W5 := below_step (below_drewN (Below.refl _ W) 1) hb5
    have hbB : Below B w W5 := (below_step hbW hb6).mono hB
    clear hb5 hb6 hbW d1 d2 d3 d4 f1 f2 f3 f4
    try rw [hd]
    clear hd hp2
    go_wp2
    go_ret2
    exact ⟨rfl, hbB⟩

end Go.Proofs.Ytbmpchpcihnbdaa

