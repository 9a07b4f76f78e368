/-
  What the laws of this claim lean on: what functions of the program and of the model answer, one after another, and plain mathematics. No condition.
-/
import Derived.Test.YtbmpchpcihnbdaaMgA
import Derived.Deep.RegionHeld3
import Derived.StillTailTactics

/-
  Words for memory: a slice of slices that reads as a list of lists of integers; one that the call itself made; what keeps both.
-/
namespace Go.Proofs.Ytbmpchpcihnbdaa
set_option linter.unusedSimpArgs false
set_option linter.unusedVariables false
set_option linter.unnecessarySimpa false
open Go.RowKit

def apart (a b : Value) : Prop := a.ownBlock = none ∨ a.ownBlock ≠ b.ownBlock

/-- The value v is a slice of slices that reads as the lists xss. -/
def RdM (w : World) (v : Value) (xss : List (List Int)) : Prop :=
  ∃ ao cap, ∃ vs : List Value, vs.length = xss.length ∧ v = .slice ao xss.length cap ∧ xss.length ≤ cap ∧ cap ≤ maxLen ∧
    (xss = [] ∨ ∃ b off, ao = some ⟨b, off, none⟩ ∧ ∀ i, i < xss.length → w.cell? ⟨b, off + i, none⟩ = some (vs.getD i undef)) ∧
    ∀ i, i < xss.length → RdV w (vs.getD i undef) (xss.getD i [])

/-- The slice of slices v, made by the call in blocks from B on and below S, holds the lists xss; no two rows share a block. -/
def OwnM (w : World) (B S : Nat) (v : Value) (xss : List (List Int)) : Prop :=
  ∃ vs : List Value, vs.length = xss.length ∧ w.ownsRow B 30 1 v xss.length vs ∧ InB v B S ∧
    (∀ i, i < xss.length → Own w B (vs.getD i undef) (xss.getD i []) ∧ InB (vs.getD i undef) B S) ∧
    (∀ i j, i < j → j < xss.length → apart (vs.getD i undef) (vs.getD j undef))

/-- Nothing outside the blocks from B on and below S has turned; no block has come or gone. -/
structure Touch (w w' : World) (B S : Nat) : Prop where
  os : w'.os = w.os
  tape : w'.tape = w.tape
  output : w'.output = w.output
  size : w'.heap.size = w.heap.size
  block : ∀ k, (k < B ∨ S ≤ k) → w'.heap[k]? = w.heap[k]?

theorem Touch.refl (w : World) (B S : Nat) : Touch w w B S := ⟨rfl, rfl, rfl, rfl, fun _ _ => rfl⟩
theorem Touch.trans {a b c : World} {B S : Nat} (h : Touch a b B S) (k : Touch b c B S) : Touch a c B S :=
  ⟨k.os.trans h.os, k.tape.trans h.tape, k.output.trans h.output, k.size.trans h.size, fun i hi => (k.block i hi).trans (h.block i hi)⟩

theorem touch_of_grown {w w' : World} {v : Value} {B S : Nat} (h : w.grownBy w' v.ownBlock) (hs : w'.heap.size = w.heap.size) (hv : InB v B S) : Touch w w' B S := by
  refine ⟨h.os, h.tape, h.output, hs, fun k hk => ?_⟩
  by_cases hkl : k < w.heap.size
  · exact h.block k hkl fun e => by have := hv k e.symm; omega
  · rw [Array.getElem?_eq_none (by omega), Array.getElem?_eq_none (by omega)]

theorem own_touch {w w' : World} {B b s B1 S1 : Nat} {v : Value} {xs : List Int} (h : Own w B v xs) (ht : Touch w w' B1 S1) (hv : InB v b s) (hd : s ≤ B1 ∨ S1 ≤ b) : Own w' B v xs := by
  refine ⟨h.1, ?_⟩
  rcases h.2 with h2 | ⟨g, cap, cur, rfl, hb, hg, rest⟩
  · exact .inl h2
  · have := hv g rfl
    exact .inr ⟨g, cap, cur, rfl, hb, by rw [ht.block g (by omega)]; exact hg, rest⟩

theorem rd_touch {w w' : World} {B1 S1 : Nat} {ao : Option Addr} {xs : List Int} (h : Rd w ao xs) (ht : Touch w w' B1 S1) (hd : ∀ a, ao = some a → a.block < B1 ∨ S1 ≤ a.block) : Rd w' ao xs := by
  rcases h with h | ⟨b, off, ha, hc⟩
  · exact .inl h
  · refine .inr ⟨b, off, ha, fun j hj => ?_⟩
    rw [World.cell?_of_block (w := w) (w' := w') (a := ⟨b, off + j, none⟩) (ht.block b (hd ⟨b, off, none⟩ ha))]
    exact hc j hj

theorem below_touch {w0 w w' : World} {B S : Nat} (hb : Below w0.heap.size w0 w) (ht : Touch w w' B S) (h : w0.heap.size ≤ B) : Below w0.heap.size w0 w' :=
  hb.trans ⟨ht.os, ht.tape, ht.output, Nat.le_of_eq ht.size.symm, fun k hk => ht.block k (by omega)⟩

theorem ownM_parts {w : World} {B S : Nat} {v : Value} {xss : List (List Int)} (h : OwnM w B S v xss) :
    ∃ vs : List Value, vs.length = xss.length ∧ ((v = .slice none 0 0 ∧ xss = []) ∨ ∃ g cap, v = .slice (some ⟨g, 0, none⟩) xss.length cap ∧ B ≤ g ∧ g < S ∧ g < w.heap.size ∧ xss.length ≤ cap ∧ cap ≤ maxLen ∧
      (∀ j, j < xss.length → w.cell? ⟨g, j, none⟩ = some (vs.getD j undef)) ∧ (∀ j, w.frozen? ⟨g, j, none⟩ = false)) ∧
      (∀ i, i < xss.length → Own w B (vs.getD i undef) (xss.getD i []) ∧ InB (vs.getD i undef) B S) ∧ (∀ i j, i < j → j < xss.length → apart (vs.getD i undef) (vs.getD j undef)) := by
  obtain ⟨vs, hl, ho, hin, hr, ha⟩ := h
  refine ⟨vs, hl, ?_, hr, ha⟩
  have h0 := ho
  rcases ho.2 with ⟨hv, hn⟩ | ⟨g, cap, cur, hv, hb, hg, hnc, hcm, hcs, htk⟩
  · exact .inl ⟨hv, List.eq_nil_of_length_eq_zero hn⟩
  · subst hv
    refine .inr ⟨g, cap, rfl, hb, (hin g rfl).2, (Array.getElem?_eq_some_iff.1 hg).1, hnc, hcm, ?_, fun j => World.ownsRow.frozenAt h0 j⟩
    intro j hj
    rw [World.ownsRow.cellAt h0 j (by omega)]
    simp [List.getD, hl, hj]

theorem ownM_rdM {w : World} {B S : Nat} {v : Value} {xss : List (List Int)} (h : OwnM w B S v xss) : RdM w v xss := by
  obtain ⟨vs, hl, hv, hr, _⟩ := ownM_parts h
  rcases hv with ⟨rfl, rfl⟩ | ⟨g, cap, rfl, hb, hs, hg, hnc, hcm, hc, _⟩
  · exact ⟨none, 0, vs, hl, rfl, Nat.le_refl _, Nat.zero_le _, .inl rfl, fun i hi => by simp at hi⟩
  · exact ⟨_, cap, vs, hl, rfl, hnc, hcm, .inr ⟨g, 0, rfl, fun j hj => by rw [Nat.zero_add]; exact hc j hj⟩, fun i hi => own_rdv (hr i hi).1⟩

theorem rdM_below {w w' : World} {v : Value} {xss : List (List Int)} (h : RdM w v xss) (hb : Below w.heap.size w w') : RdM w' v xss := by
  obtain ⟨ao, cap, vs, hl, h1, h2, h3, h4, h5⟩ := h
  refine ⟨ao, cap, vs, hl, h1, h2, h3, ?_, fun i hi => rdv_below (h5 i hi) hb⟩
  rcases h4 with h4 | ⟨b, off, ha, hc⟩
  · exact .inl h4
  · exact .inr ⟨b, off, ha, fun i hi => by rw [hb.cell (World.block_lt_of_cell? w _ (hc i hi))]; exact hc i hi⟩

theorem ownM_keep {w w' : World} {B S : Nat} {v : Value} {xss : List (List Int)} (h : OwnM w B S v xss) (hb : ∀ k, B ≤ k → k < S → k < w.heap.size → w'.heap[k]? = w.heap[k]?) : OwnM w' B S v xss := by
  obtain ⟨vs, hl, ho, hin, hr, ha⟩ := h
  have key : ∀ {e : TypeId} {u : Value} {n : Nat} {cs : List Value}, w.ownsRow B e 1 u n cs → InB u B S → w'.ownsRow B e 1 u n cs := by
    intro e u n cs ho hi
    refine ⟨ho.1, ?_⟩
    rcases ho.2 with h2 | ⟨g, cap, cur, rfl, hb', hg, rest⟩
    · exact .inl h2
    · have := hi g rfl
      exact .inr ⟨g, cap, cur, rfl, hb', by rw [hb g this.1 this.2 (Array.getElem?_eq_some_iff.1 hg).1]; exact hg, rest⟩
  exact ⟨vs, hl, key ho hin, hin, fun i hi => ⟨key (hr i hi).1 (hr i hi).2, (hr i hi).2⟩, ha⟩

theorem ownM_below {w w' : World} {B S : Nat} {v : Value} {xss : List (List Int)} (h : OwnM w B S v xss) (hb : Below w.heap.size w w') : OwnM w' B S v xss :=
  ownM_keep h fun k _ _ hk => hb.block k hk

theorem ownM_touch {w w' : World} {B S B1 S1 : Nat} {v : Value} {xss : List (List Int)} (h : OwnM w B S v xss) (ht : Touch w w' B1 S1) (hd : S ≤ B1 ∨ S1 ≤ B) : OwnM w' B S v xss :=
  ownM_keep h fun k h1 h2 _ => ht.block k (by omega)

theorem inB_mono {v : Value} {B B' S S' : Nat} (h : InB v B S) (h1 : B' ≤ B) (h2 : S ≤ S') : InB v B' S' := fun k hk => by have := h k hk; omega

theorem ownM_mono {w : World} {B B' S S' : Nat} {v : Value} {xss : List (List Int)} (h : OwnM w B S v xss) (hB : B' ≤ B) (hS : S ≤ S') : OwnM w B' S' v xss := by
  obtain ⟨vs, hl, ho, hin, hr, ha⟩ := h
  refine ⟨vs, hl, ⟨ho.1, ?_⟩, inB_mono hin hB hS, fun i hi => ⟨own_mono (hr i hi).1 hB, inB_mono (hr i hi).2 hB hS⟩, ha⟩
  rcases ho.2 with h2 | ⟨g, cap, cur, hv, hb, r⟩
  · exact .inl h2
  · exact .inr ⟨g, cap, cur, hv, by omega, r⟩

theorem ownM_nil (w : World) (B S : Nat) : OwnM w B S (.slice none 0 0) [] :=
  ⟨[], rfl, World.ownsRow_nil _ _ _ _, fun k hk => by simp [Value.ownBlock] at hk, fun i hi => by simp at hi, fun i j _ hj => by simp at hj⟩

theorem ownM_empty (w : World) (B : Nat) (hB : B ≤ w.heap.size) : OwnM (w.alloc (.cells #[] 30)) B (w.heap.size + 1) (.slice (some ⟨w.heap.size, 0, none⟩) 0 0) [] :=
  ⟨[], rfl, World.ownsRow_made w #[] 0 hB (Nat.zero_le _) rfl, fun k hk => by simp [Value.ownBlock] at hk; omega, fun i hi => by simp at hi, fun i j _ hj => by simp at hj⟩

/-- What a function that hands back a list of lists in new memory leaves. -/
def FreshM (w : World) (r : List (List Int)) (e : Ending) (w' : World) : Prop :=
  ∃ v, e = .returned v ∧ OwnM w' w.heap.size w'.heap.size v r ∧ Below w.heap.size w w'

def FreshMB (w : World) (r : List (List Int) × Bool) (e : Ending) (w' : World) : Prop :=
  ∃ v, e = .returned (.tuple #[v, .bool r.2]) ∧ OwnM w' w.heap.size w'.heap.size v r.1 ∧ Below w.heap.size w w'

theorem Try.infoInts : (Try.prog.info? 30).map (fun i => (i.zero, i.size, i.bytes)) = some (some (.slice none 0 0), 1, 24) := by kernel_rfl

theorem getD_snocV_lt {α : Type} (l : List α) (x d : α) (j : Nat) (h : j < l.length) : (l ++ [x]).getD j d = l.getD j d := by
  simp [List.getD, List.getElem?_append_left h]
theorem getD_snocV_eq {α : Type} (l : List α) (x d : α) : (l ++ [x]).getD l.length d = x := by simp [List.getD]

/-- 'append(out, row)' onto a slice of slices of the call's own that is not nil; the row was made later than all that out holds. -/
theorem wp_pushM {w : World} {o : Oper} {a : Act} {K : Act → World → Prop} {Q : Exit → Act → World → Prop} (s x : Operand)
    (ho : o.op = .call { callee := .builtin .append, args := #[s, x], argTypes := #[23, 23] })
    (B S g n cap : Nat) (xss : List (List Int)) (hs : a.eval s = .slice (some ⟨g, 0, none⟩) n cap) (hown : OwnM w B S (.slice (some ⟨g, 0, none⟩) n cap) xss) (hn : n = xss.length)
    (ad : Addr) (hx : a.eval x = .slice (some ad) 1 1) (u : Value) (ys : List Int) (hc : w.cell? ad = some u) (hu : Own w B u ys) (hui : InB u S w.heap.size) (hBS : B ≤ S) (hSw : S ≤ w.heap.size) (hl : n ≤ 1000000000)
    (r : Nat) (hr : n + 1 = r)
    (h : ∀ g' cap' w', OwnM w' B w'.heap.size (.slice (some ⟨g', 0, none⟩) r cap') (xss ++ [ys]) → w.grownBy w' (some g) → K (a.put o.dst (.slice (some ⟨g', 0, none⟩) r cap')) w') :
    o.wp Try.prog a w K Q := by
  obtain ⟨i0, hi, hz0, hz1, hz2⟩ := info_parts Try.infoInts
  subst hr
  subst hn
  obtain ⟨vs, hvl, hrow, hin, hrows, hap⟩ := hown
  have hu1 : u.oneCell' = true := by
    rcases own_view hu with ⟨rfl, _⟩ | ⟨g', cap', rfl, _⟩ <;> rfl
  have hnews : ∀ j z, ([u] : List Value)[j]? = some z → w.cell? (ad.add j) = some z := by
    intro j z hj
    match j, hj with
    | 0, hj =>
      simp at hj
      subst hj
      simpa [Addr.add] using hc
  obtain ⟨v', w', hru, ho', hg', hnil, hb'⟩ := run_append_own_at (P := Try.prog) w B 23 o.type 30 i0 (.slice none 0 0) 1 24 Try.underlying23 hi hz0 hz1 hz2 rfl (by decide) _ xss.length vs hrow ad 1 1 [u] rfl hnews (fun z hz => by simp at hz; subst hz; exact hu1) (by unfold maxLen; omega) (by omega) (by omega)
  unfold Oper.wp execOp
  simp only [ho, resolve, invoke, builtin, Sem.run_bind, Sem.run_pure, Result.andThen_ok, List.map_toArray, List.map_cons, List.map_nil, hs, hx, hru]
  have hgB := hin g rfl
  rcases ho'.2 with ⟨rfl, h2⟩ | ⟨g', cap', cur, rfl, hB', hg2, rest⟩
  · omega
  · have hg2s : g' < w'.heap.size := (Array.getElem?_eq_some_iff.1 hg2).1
    refine h g' cap' w' ?_ hg'
    have hne : ∀ z : Value, ∀ zs : List Int, Own w B z zs → z.ownBlock = none ∨ z.ownBlock ≠ some g := by
      intro z zs hz
      rcases hz.2 with ⟨rfl, _⟩ | ⟨gz, capz, curz, rfl, _, hgz, _⟩
      · exact .inl rfl
      · refine .inr fun e => ?_
        simp [Value.ownBlock] at e
        subst e
        rcases hrow.2 with ⟨h3, _⟩ | ⟨g3, cap3, cur3, h3, _, hg3, _⟩
        · cases h3
        · cases h3
          rw [hgz] at hg3
          simp at hg3
    refine ⟨vs ++ [u], by simp [hvl], by simpa using ho', fun k hk => by simp [Value.ownBlock] at hk; omega, ?_, ?_⟩
    · intro i hi'
      simp at hi'
      by_cases hil : i < xss.length
      · rw [getD_snocV_lt _ _ _ _ (by omega), getD_snocV_lt _ _ _ _ hil]
        exact ⟨own_grown (hrows i hil).1 hg' (hne _ _ (hrows i hil).1), inB_mono (hrows i hil).2 (Nat.le_refl _) (by have := hg'.size; omega)⟩
      · obtain rfl : i = xss.length := by omega
        rw [getD_snocV_eq]
        have : (vs ++ [u]).getD xss.length undef = u := by rw [← hvl]; exact getD_snocV_eq _ _ _
        rw [this]
        exact ⟨own_grown hu hg' (hne _ _ hu), inB_mono hui hBS hg'.size⟩
    · intro i j hij hj
      simp at hj
      by_cases hjl : j < xss.length
      · rw [getD_snocV_lt _ _ _ _ (by omega), getD_snocV_lt _ _ _ _ (by omega)]
        exact hap i j hij hjl
      · obtain rfl : j = xss.length := by omega
        have : (vs ++ [u]).getD xss.length undef = u := by rw [← hvl]; exact getD_snocV_eq _ _ _
        rw [getD_snocV_lt _ _ _ _ (by omega), this]
        have hi1 := (hrows i hij).2
        cases e1 : (vs.getD i undef).ownBlock with
        | none => exact .inl e1
        | some k =>
          refine .inr fun e => ?_
          rw [e1] at e
          have := hi1 k e1
          have := hui k e.symm
          omega

theorem wpList_pushM {w : World} {ops : Array Oper} {rest : List Oper} {o : Oper} {a : Act} {Q : Exit → Act → World → Prop} (hgd : o.guard = none) (s x : Operand)
    (ho : o.op = .call { callee := .builtin .append, args := #[s, x], argTypes := #[23, 23] })
    (B S g n cap : Nat) (xss : List (List Int)) (hs : a.eval s = .slice (some ⟨g, 0, none⟩) n cap) (hown : OwnM w B S (.slice (some ⟨g, 0, none⟩) n cap) xss) (hn : n = xss.length)
    (ad : Addr) (hx : a.eval x = .slice (some ad) 1 1) (u : Value) (ys : List Int) (hc : w.cell? ad = some u) (hu : Own w B u ys) (hui : InB u S w.heap.size) (hBS : B ≤ S) (hSw : S ≤ w.heap.size) (hl : n ≤ 1000000000)
    (r : Nat) (hr : n + 1 = r)
    (h : ∀ g' cap' w', OwnM w' B w'.heap.size (.slice (some ⟨g', 0, none⟩) r cap') (xss ++ [ys]) → w.grownBy w' (some g) → wpList Try.prog ops Q rest (a.put o.dst (.slice (some ⟨g', 0, none⟩) r cap')) w') :
    wpList Try.prog ops Q (o :: rest) a w :=
  wpList_plain hgd fun _ hK => wp_pushM s x ho B S g n cap xss hs hown hn ad hx u ys hc hu hui hBS hSw hl r hr fun g' cap' w' h1 h2 => hK _ _ (h g' cap' w' h1 h2)

theorem ownM_frozen {w : World} {B S g n cap : Nat} {xss : List (List Int)} (h : OwnM w B S (.slice (some ⟨g, 0, none⟩) n cap) xss) (j : Nat) : w.frozen? ⟨g, j, none⟩ = false := by
  obtain ⟨vs, _, hv, _, _⟩ := ownM_parts h
  rcases hv with ⟨h1, _⟩ | ⟨g', cap', h1, _, _, _, _, _, _, hf⟩
  · cases h1
  · simp only [Value.slice.injEq, Option.some.injEq, Addr.mk.injEq, and_true, true_and] at h1
    obtain ⟨rfl, _⟩ := h1
    exact hf j

theorem ownM_cell {w : World} {B S g n cap : Nat} {xss : List (List Int)} (h : OwnM w B S (.slice (some ⟨g, 0, none⟩) n cap) xss) (j : Nat) (hj : j < xss.length) :
    ∃ u, w.cell? ⟨g, j, none⟩ = some u ∧ Own w B u (xss.getD j []) ∧ InB u B S := by
  obtain ⟨vs, _, hv, hr, _⟩ := ownM_parts h
  rcases hv with ⟨h1, _⟩ | ⟨g', cap', h1, _, _, _, _, _, hc, _⟩
  · cases h1
  · simp only [Value.slice.injEq, Option.some.injEq, Addr.mk.injEq, and_true, true_and] at h1
    obtain ⟨rfl, _⟩ := h1
    exact ⟨_, hc j hj, hr j hj⟩

end Go.Proofs.Ytbmpchpcihnbdaa

/-
  The contracts of spec.l1Blocks, spec.l1Type and spec.PartType.
-/
namespace Go.Proofs.Ytbmpchpcihnbdaa
set_option linter.unusedSimpArgs false
set_option linter.unusedVariables false
set_option linter.unnecessarySimpa false
open Go.RowKit

/-- The things below k in the block b. -/
def blkAt (xs : List Int) (b : Nat) : Nat → List Int
  | 0 => []
  | k + 1 => if xs.getD k 0 = b then blkAt xs b k ++ [(k : Int)] else blkAt xs b k

theorem blkAt_length (xs : List Int) (b k : Nat) : (blkAt xs b k).length = cntAt xs b k := by
  induction k with
  | zero => rfl
  | succ k ih =>
    unfold blkAt cntAt
    split
    · simp [ih]
    · exact ih

theorem cntAt_le (xs : List Int) (b k : Nat) : cntAt xs b k ≤ k := by
  induction k with
  | zero => exact Nat.le_refl _
  | succ k ih => unfold cntAt; split <;> omega

/-- The blocks below p, as lists. -/
def blocksTo (xs : List Int) (p : Nat) : List (List Int) := (List.range p).map fun b => blkAt xs b xs.length

theorem blocksTo_length (xs : List Int) (p : Nat) : (blocksTo xs p).length = p := by simp [blocksTo]
theorem blocksTo_succ (xs : List Int) (p : Nat) : blocksTo xs (p + 1) = blocksTo xs p ++ [blkAt xs p xs.length] := by simp [blocksTo, List.range_succ]
theorem blocksTo_getD (xs : List Int) (p b : Nat) (h : b < p) : (blocksTo xs p).getD b [] = blkAt xs b xs.length := by simp [blocksTo, List.getD, h]

theorem l1Size_v (v : Value) (xs : List Int) (w : World) (hv : RdV w v xs) (hs : Small xs) : Calls Try.prog 92 #[v] w fun e w' => e = .returned (.int .i64 (pSize xs)) ∧ w = w' := by
  obtain ⟨ao, ca, rfl, h, h1, h2⟩ := hv
  unfold maxLen at h2
  exact l1Size_any ao ca xs w h (by omega) hs

theorem sizes_eq (xs : List Int) (p k : Nat) (hp : pSize xs = p) (hk : k < p) : (sizes xs).getD k 0 = ((blocksTo xs p).getD k []).length := by
  rw [blocksTo_getD xs p k hk, blkAt_length]
  simp [sizes, List.getD, show k < (pSize xs).toNat by omega]

theorem fold_take_snoc (l : List Int) (k : Nat) (h : k < l.length) : (l.take (k + 1)).foldl insDesc [] = insDesc ((l.take k).foldl insDesc []) (l.getD k 0) := by
  rw [take_snoc l k h, List.foldl_append]
  rfl

theorem fold_length (l : List Int) : (l.foldl insDesc []).length = l.length := by rw [fold_desc, desc_length]

theorem cells_one {w : World} {ad : Addr} {x : Int} (h : w.cell? ad = some (.int .i64 x)) : ∀ j, j < [x].length → w.cell? (ad.add j) = some (.int .i64 ([x].getD j 0)) := by
  intro j hj
  have : j = 0 := by simpa using hj
  subst this
  simpa [Addr.add] using h

theorem cells_takeW {wo w : World} {g j : Nat} {L : List Int} (h : ∀ r, r < L.length → wo.cell? ⟨g, r, none⟩ = some (.int .i64 (L.getD r 0))) (hb : Below wo.heap.size wo w) : ∀ r, r < (L.take j).length → w.cell? ((⟨g, 0, none⟩ : Addr).add r) = some (.int .i64 ((L.take j).getD r 0)) := by
  intro r hr
  have h1 : r < j ∧ r < L.length := by simp at hr; omega
  rw [Addr.add_lit, Nat.zero_add, hb.cell (World.block_lt_of_cell? wo _ (h r h1.2)), h r h1.2]
  simp [List.getD, List.getElem?_take, h1.1]

theorem cells_dropW {wo w : World} {g j : Nat} {L : List Int} (h : ∀ r, r < L.length → wo.cell? ⟨g, r, none⟩ = some (.int .i64 (L.getD r 0))) (hb : Below wo.heap.size wo w) : ∀ r, r < (L.drop j).length → w.cell? ((⟨g, j, none⟩ : Addr).add r) = some (.int .i64 ((L.drop j).getD r 0)) := by
  intro r hr
  have h1 : j + r < L.length := by simp at hr; omega
  rw [Addr.add_lit, hb.cell (World.block_lt_of_cell? wo _ (h (j + r) h1)), h (j + r) h1]
  simp [List.getD]

theorem cells_drop0 {wo w : World} {g : Nat} {L : List Int} (h : ∀ r, r < L.length → wo.cell? ⟨g, r, none⟩ = some (.int .i64 (L.getD r 0))) (hb : Below wo.heap.size wo w) : ∀ r, r < (L.drop 0).length → w.cell? ((⟨g, 0, none⟩ : Addr).add r) = some (.int .i64 ((L.drop 0).getD r 0)) := cells_dropW h hb

end Go.Proofs.Ytbmpchpcihnbdaa

/-
  The contracts of what draws: spec.l6Open, (*l6Rd).pick, spec.l91Part, spec.l91Some.
-/
namespace Go.Proofs.Ytbmpchpcihnbdaa
set_option linter.unusedSimpArgs false
set_option linter.unusedVariables false
set_option linter.unnecessarySimpa false
open Go.RowKit
set_option maxRecDepth 100000

theorem heap_setCell2 {W : World} {B : Nat} {u v : Value} {t : TypeId} (v' : Value) (h : W.heap[B]? = some (.cells #[u, v] t (0, 0))) : (W.setCell ⟨B, 1, none⟩ v').heap[B]? = some (.cells #[u, v'] t (0, 0)) := by
  obtain ⟨hlt, hk⟩ := Array.getElem?_eq_some_iff.1 h
  show (W.heap.modify B _)[B]? = _
  rw [Array.getElem?_eq_getElem (by rw [Array.size_modify]; exact hlt), Array.getElem_modify_self, hk]
  rfl

/-- At block g lies what draws: it reads the bytes 'bs', and stands at p. -/
def Rdr (w : World) (g : Nat) (bs : Value) (p : Nat) : Prop := w.heap[g]? = some (.cells #[bs, .int .i64 p] 95 (0, 0))

theorem rdr_facts {w : World} {g p : Nat} {bs : Value} (h : Rdr w g bs p) :
    g < w.heap.size ∧ w.cell? ⟨g, 0, none⟩ = some bs ∧ w.cell? ⟨g, 1, none⟩ = some (.int .i64 p) ∧ w.frozen? ⟨g, 1, none⟩ = false := by
  unfold Rdr at h
  refine ⟨(Array.getElem?_eq_some_iff.1 h).1, ?_, ?_, ?_⟩ <;> simp [World.cell?, World.frozen?, h]

/-- Each of the first 'len' bytes at the address can be read. -/
def Bytes (w : World) (a : Option Addr) (len : Nat) : Prop :=
  len = 0 ∨ ∃ b off, a = some ⟨b, off, none⟩ ∧ ∀ j, j < len → ∃ x : Nat, x ≤ 255 ∧ w.cell? ⟨b, off + j, none⟩ = some (.int .u8 x)

theorem bytes_below {w w' : World} {a : Option Addr} {len : Nat} (h : Bytes w a len) (hb : Below w.heap.size w w') : Bytes w' a len := by
  rcases h with h | ⟨b, off, ha, hc⟩
  · exact .inl h
  · refine .inr ⟨b, off, ha, fun j hj => ?_⟩
    obtain ⟨x, hx, hcx⟩ := hc j hj
    exact ⟨x, hx, by rw [hb.cell (World.block_lt_of_cell? w _ hcx)]; exact hcx⟩

theorem bytes_short {w : World} {a : Option Addr} {len m : Nat} (h : Bytes w a len) (hm : m ≤ len) : Bytes w a m := by
  rcases h with h | ⟨b, off, ha, hc⟩
  · exact .inl (by omega)
  · exact .inr ⟨b, off, ha, fun j hj => hc j (by omega)⟩

set_option maxHeartbeats 400000 in
theorem l6Open_any (a : Option Addr) (len cap : Nat) (w : World) (hby : Bytes w a len) (hlen : len ≤ 1048576) (hc : len ≤ cap) (hcm : cap ≤ maxLen) :
    Calls Try.prog 63 #[.slice a len cap] w fun e w' => e = .returned (.pointer (some ⟨w.heap.size, 0, none⟩)) ∧
      ∃ m, m ≤ 2000 ∧ Bytes w a m ∧ Rdr w' w.heap.size (.slice a m cap) 0 ∧ Below w.heap.size w w' ∧ w.heap.size < w'.heap.size := by
  have HB := Lib.hid hby
  clear hby
  by_cases hl : len > 2000
  · go_enter Try.func63, Try.ntmps63
    go_wp2
    go_ret
    refine ⟨rfl, 2000, Nat.le_refl _, bytes_short HB.out (by omega), ?_, (Below.refl _ _).alloc (Nat.le_refl _) _, by rw [World.size_alloc]; omega⟩
    unfold Rdr World.alloc
    exact Array.getElem?_push_size
  · go_enter Try.func63, Try.ntmps63
    go_wp2
    go_ret
    refine ⟨rfl, len, by omega, HB.out, ?_, (Below.refl _ _).alloc (Nat.le_refl _) _, by rw [World.size_alloc]; omega⟩
    unfold Rdr World.alloc
    exact Array.getElem?_push_size

theorem xor_small (a b : Nat) (ha : a < 2 ^ 32) (hb : b < 2 ^ 32) : bits .xor .i64 (a : Int) (b : Int) = ((a ^^^ b : Nat) : Int) := by
  have hx := Nat.xor_lt_two_pow ha hb
  have e : (2 : Nat) ^ 64 = 18446744073709551616 := by decide
  have e32 : (2 : Nat) ^ 32 = 4294967296 := by decide
  have ha' : a % 2 ^ IntKind.i64.bits = a := Nat.mod_eq_of_lt (show a < 2 ^ 64 by omega)
  have hb' : b % 2 ^ IntKind.i64.bits = b := Nat.mod_eq_of_lt (show b < 2 ^ 64 by omega)
  have : bits .xor .i64 (a : Int) (b : Int) = IntKind.i64.wrap ((a ^^^ b : Nat) : Int) := by
    simp only [bits, BitVec.ofInt_natCast, BitVec.toNat_xor, BitVec.toNat_ofNat, ha', hb']
  rw [this, IntKind.wrap_i64]
  omega

/-- What a byte behind the last one is mixed from. -/
def mixed (x y p d : Nat) : Nat := x * 131 + y * 1117 + p * 29 + d * 53

theorem mixed_at (x y p d n : Nat) (hx : x ≤ 255) (hy : y ≤ 255) (hp : p ≤ 1000000) (hd : d ≤ 1000000) :
    (bits BinOp.xor IntKind.i64 (↑x * 131 + ↑y * 1117 + ↑p * 29 + ↑d * 53) ((↑x * 131 + ↑y * 1117 + ↑p * 29 + ↑d * 53) / 64)).tmod (n : Int) = (((mixed x y p d ^^^ mixed x y p d / 64) % n : Nat) : Int) := by
  have hm : mixed x y p d < 2 ^ 32 := by unfold mixed; omega
  have e3 : (x : Int) * 131 + y * 1117 + p * 29 + d * 53 = ((mixed x y p d : Nat) : Int) := by
    unfold mixed
    omega
  rw [e3]
  generalize mixed x y p d = m at *
  have e4 : (m : Int) / 64 = ((m / 64 : Nat) : Int) := by omega
  rw [e4, xor_small m (m / 64) hm (by omega), Int.tmod_eq_emod_of_nonneg (by omega)]
  exact (Int.natCast_emod _ _).symm

/-- What a draw from 0 to n - 1 leaves. -/
def Picked (w : World) (g : Nat) (bs : Value) (p n : Nat) (e : Ending) (w' : World) : Prop :=
  ∃ r : Nat, e = .returned (.int .i64 r) ∧ r < n ∧ Rdr w' g bs (p + 1) ∧ w.grownBy w' (some g) ∧ w'.heap.size = w.heap.size

set_option maxHeartbeats 1000000 in
theorem pick_any (g : Nat) (a : Option Addr) (len cap p n : Nat) (w : World) (hr : Rdr w g (.slice a len cap) p) (hby : Bytes w a len) (hne : 0 < len → ∀ x, a = some x → x.block ≠ g) (hlen : len ≤ 2000) (hp : p ≤ 1000000) (hn : 1 ≤ n) (hn2 : n ≤ 100000) :
    Calls Try.prog 65 #[.pointer (some ⟨g, 0, none⟩), .int .i64 n] w (Picked w g (.slice a len cap) p n) := by
  obtain ⟨hg, hc0, hc1, hfz⟩ := rdr_facts hr
  have HS := Lib.hid (heap_setCell2 (.int .i64 ((p : Int) + 1)) hr)
  have hgr : w.grownBy (w.setCell ⟨g, 1, none⟩ (.int .i64 ((p : Int) + 1))) (some g) :=
    ⟨rfl, rfl, rfl, by simp [World.setCell], fun k _ hk => Below.heap_setCell w _ _ k fun e => hk (by rw [e])⟩
  have HG := Lib.hid hgr
  clear hgr hr
  have HB := Lib.hid hby
  clear hby
  by_cases h0 : len = 0
  · subst h0
    go_enter Try.func65, Try.ntmps65
    go_wp2
    go_ret
    exact ⟨0, rfl, by omega, by simpa [Rdr] using HS.out, HG.out, by simp [World.setCell]⟩
  · rcases HB.out with h | ⟨b, off, rfl, hcs⟩
    · exact absurd h h0
    have hbg : b ≠ g := hne (by omega) _ rfl
    have hgb : g ≠ b := fun e => hbg e.symm
    have hz : ((len : Int) == 0) = false := by simp; omega
    have hcs' : ∀ j, j < len → ∃ x : Nat, x ≤ 255 ∧ (w.setCell ⟨g, 1, none⟩ (.int .i64 ((p : Int) + 1))).cell? ⟨b, off + j, none⟩ = some (.int .u8 x) := fun j hj => by
      obtain ⟨x, hx, hc⟩ := hcs j hj
      exact ⟨x, hx, by rw [World.cell?_setCell_far _ _ _ _ hgb]; exact hc⟩
    by_cases hlt : p < len
    · obtain ⟨x, hx, hcx⟩ := hcs' p hlt
      clear hcs hcs'
      go_enter Try.func65, Try.ntmps65
      go_wp2
      go_ret
      refine ⟨x % n, ret_int (Int.natCast_emod x n).symm, Nat.mod_lt _ (by omega), by simpa [Rdr] using HS.out, HG.out, by simp [World.setCell]⟩
    · obtain ⟨q, hq⟩ : ∃ q, q = p % len := ⟨_, rfl⟩
      obtain ⟨q', hq'⟩ : ∃ q', q' = (p * 7 + 3) % len := ⟨_, rfl⟩
      obtain ⟨x, hx, hcx⟩ := hcs' q (by rw [hq]; exact Nat.mod_lt _ (by omega))
      obtain ⟨y, hy, hcy⟩ := hcs' q' (by rw [hq']; exact Nat.mod_lt _ (by omega))
      clear hcs hcs'
      have hqi : ((p : Int) % (len : Int)) = (q : Int) := by rw [hq]; exact (Int.natCast_emod p len).symm
      have hqi' : (((p : Int) * 7 + 3) % (len : Int)) = (q' : Int) := by rw [hq', Int.natCast_emod]; rfl
      have hql : q < len := by rw [hq]; exact Nat.mod_lt _ (by omega)
      have hql' : q' < len := by rw [hq']; exact Nat.mod_lt _ (by omega)
      clear hq hq'
      obtain ⟨d, hd⟩ : ∃ d, d = p / len := ⟨_, rfl⟩
      have hdi : ((p : Int) / (len : Int)) = (d : Int) := by rw [hd]; exact (Int.natCast_ediv p len).symm
      have hdl : d ≤ 1000000 := by rw [hd]; exact Nat.le_trans (Nat.div_le_self _ _) hp
      clear hd
      have hle : (len : Int) ≤ p := by omega
      go_enter Try.func65, Try.ntmps65
      go_wp2
      go_quiet (fail)
      go_wp2
      go_ret
      refine ⟨(mixed x y p d ^^^ mixed x y p d / 64) % n, ?_, Nat.mod_lt _ (by omega), by simpa [Rdr, World.drewN, World.setCell] using HS.out, ?_, by simp [World.setCell]⟩
      · exact ret_int (mixed_at x y p d n hx hy hp hdl)
      · exact grown_trans HG.out (below_drewN (Below.refl _ _) nq |> grown_of_below |> fun h => ⟨h.os, h.tape, h.output, h.size, fun k hk _ => h.block k hk (by simp)⟩)

end Go.Proofs.Ytbmpchpcihnbdaa

/-
  A partition's numbers grow by one.
-/
namespace Go.Proofs.Ytbmpchpcihnbdaa

theorem partIn_ok {xs : List Int} (h : partIn xs = true) : okFrom 0 xs = true := by
  simp only [partIn, Bool.and_eq_true] at h
  exact h.2

end Go.Proofs.Ytbmpchpcihnbdaa

/-
  Plain lists: a partition turned twice is the same, and has blocks of the same sizes. No program is named here.
-/
namespace Go.Proofs.Ytbmpchpcihnbdaa
set_option linter.unusedSimpArgs false
set_option linter.unusedVariables false
set_option linter.unnecessarySimpa false

theorem mem_iff_getD {f : List Int} {x : Int} : x ∈ f ↔ ∃ j, j < f.length ∧ f.getD j 0 = x := by
  constructor
  · intro h
    exact ⟨f.idxOf x, List.idxOf_lt_length_of_mem h, getD_idxOf h⟩
  · rintro ⟨j, h, e⟩
    exact mem_of_getD h e

/-- What is equal to what tells how things are numbered. -/
theorem kOut_pat : ∀ f g : List Int, g.length = f.length → (∀ i j, i < f.length → j < f.length → (f.getD i 0 = f.getD j 0 ↔ g.getD i 0 = g.getD j 0)) → kOut g = kOut f ∧ kNext g = kNext f := by
  refine snoc_induction ?_ ?_
  · intro g hg _
    rw [List.eq_nil_of_length_eq_zero hg]
    exact ⟨rfl, rfl⟩
  · intro f x ih g' hg hp
    rcases List.eq_nil_or_concat g' with h | ⟨g, y, h⟩
    · rw [h] at hg; simp at hg
    subst h
    simp only [List.concat_eq_append] at hg hp ⊢
    have hl : g.length = f.length := by simpa using hg
    have F : ∀ j, j < f.length → (f ++ [x]).getD j 0 = f.getD j 0 := fun j hj => getD_snoc_lt f x j hj
    have F1 : (f ++ [x]).getD f.length 0 = x := getD_snoc_eq f x
    have G : ∀ j, j < f.length → (g ++ [y]).getD j 0 = g.getD j 0 := fun j hj => getD_snoc_lt g y j (by omega)
    have G1 : (g ++ [y]).getD f.length 0 = y := by rw [← hl]; exact getD_snoc_eq g y
    have hin : ∀ i j, i < f.length → j < f.length → (f.getD i 0 = f.getD j 0 ↔ g.getD i 0 = g.getD j 0) := by
      intro i j hi hj
      have := hp i j (by simp; omega) (by simp; omega)
      rwa [F i hi, F j hj, G i hi, G j hj] at this
    have hla : ∀ i, i < f.length → (f.getD i 0 = x ↔ g.getD i 0 = y) := by
      intro i hi
      have := hp i f.length (by simp; omega) (by simp)
      rwa [F i hi, F1, G i hi, G1] at this
    obtain ⟨e1, e2⟩ := ih g hl hin
    by_cases h : x ∈ f
    · have hi := List.idxOf_lt_length_of_mem h
      have hy1 := (hla _ hi).1 (getD_idxOf h)
      have hy : y ∈ g := mem_of_getD (by omega) hy1
      have hi' := List.idxOf_lt_length_of_mem hy
      have hk := ((kOut_inv g).2 _ _ (by omega) hi').1 (hy1.trans (getD_idxOf hy).symm)
      rw [(kOut_mem h).1, (kOut_mem h).2, (kOut_mem hy).1, (kOut_mem hy).2, ← hk, e1, e2]
      exact ⟨rfl, rfl⟩
    · have hy : y ∉ g := by
        intro hy
        have hi' := List.idxOf_lt_length_of_mem hy
        exact h (mem_of_getD (by omega) ((hla _ (by omega)).2 (getD_idxOf hy)))
      rw [(kOut_new h).1, (kOut_new h).2, (kOut_new hy).1, (kOut_new hy).2, e1, e2]
      exact ⟨rfl, rfl⟩

/-- The numbers given are all from 0 on and below the next one. -/
theorem kOut_all : ∀ (f : List Int) (v : Int), v ∈ kOut f ↔ 0 ≤ v ∧ v < kNext f := by
  refine snoc_induction (fun v => by simp [kOut, kNext, kfold]) fun f x ih v => ?_
  have hb := kNext_bd f
  by_cases h : x ∈ f
  · have hi := List.idxOf_lt_length_of_mem h
    have hm : (kOut f).getD (f.idxOf x) 0 ∈ kOut f := mem_of_getD (by rw [kOut_length]; exact hi) rfl
    rw [(kOut_mem h).1, (kOut_mem h).2, ← ih v, List.mem_append]
    constructor
    · rintro (h1 | h1)
      · exact h1
      · rw [List.mem_singleton.1 h1]; exact hm
    · exact .inl
  · rw [(kOut_new h).1, (kOut_new h).2, List.mem_append, ih v, List.mem_singleton]
    omega

def endFrom : Int → List Int → Int
  | b, [] => b
  | b, x :: xs => endFrom (if x = b then b + 1 else b) xs

theorem okFrom_append : ∀ (f : List Int) (b x : Int), okFrom b (f ++ [x]) = (okFrom b f && (decide (0 ≤ x) && decide (x ≤ endFrom b f))) ∧ endFrom b (f ++ [x]) = if x = endFrom b f then endFrom b f + 1 else endFrom b f := by
  intro f
  induction f with
  | nil => intro b x; simp only [List.nil_append, okFrom, endFrom, Bool.and_true, Bool.true_and]; exact ⟨rfl, rfl⟩
  | cons y f ih =>
    intro b x
    have := ih (if y = b then b + 1 else b) x
    simp only [List.cons_append, okFrom, endFrom, this.1, this.2, Bool.and_assoc]
    exact ⟨rfl, rfl⟩

theorem okFrom_kOut : ∀ f : List Int, okFrom 0 (kOut f) = true ∧ endFrom 0 (kOut f) = kNext f := by
  refine snoc_induction ⟨rfl, rfl⟩ fun f x ih => ?_
  have hb := kNext_bd f
  by_cases h : x ∈ f
  · have hi := List.idxOf_lt_length_of_mem h
    have hr := (kOut_inv f).1 _ hi
    have := okFrom_append (kOut f) 0 ((kOut f).getD (f.idxOf x) 0)
    rw [(kOut_mem h).1, (kOut_mem h).2, this.1, this.2, ih.1, ih.2, if_neg (by omega)]
    refine ⟨?_, rfl⟩
    simp only [Bool.and_eq_true, decide_eq_true_eq]
    exact ⟨trivial, by omega, by omega⟩
  · have := okFrom_append (kOut f) 0 (kNext f)
    rw [(kOut_new h).1, (kOut_new h).2, this.1, this.2, ih.1, ih.2, if_pos rfl]
    refine ⟨?_, rfl⟩
    simp only [Bool.and_eq_true, decide_eq_true_eq]
    exact ⟨trivial, by omega, by omega⟩

theorem kOut_of_ok : ∀ f : List Int, okFrom 0 f = true → kOut f = f ∧ kNext f = endFrom 0 f := by
  refine snoc_induction (fun _ => ⟨rfl, rfl⟩) fun f x ih h => ?_
  have ha := okFrom_append f 0 x
  rw [ha.1] at h
  simp only [Bool.and_eq_true, decide_eq_true_eq] at h
  obtain ⟨h1, h2, h3⟩ := h
  obtain ⟨e1, e2⟩ := ih h1
  rw [← e2] at h3
  rw [ha.2, ← e2]
  by_cases hm : x ∈ f
  · have hx := (kOut_all f x).1 (by rw [e1]; exact hm)
    rw [(kOut_mem hm).1, (kOut_mem hm).2, e1, getD_idxOf hm, if_neg (by omega)]
    exact ⟨rfl, rfl⟩
  · have hx : x = kNext f := by
      by_cases e : x = kNext f
      · exact e
      · exact absurd (by have := (kOut_all f x).2 ⟨h2, by omega⟩; rwa [e1] at this) hm
    rw [(kOut_new hm).1, (kOut_new hm).2, e1, if_pos hx, hx]
    exact ⟨rfl, rfl⟩

theorem partIn_kOut {f : List Int} (h1 : 1 ≤ f.length) (h2 : f.length ≤ 8) : partIn (kOut f) = true := by
  simp only [partIn, Bool.and_eq_true, decide_eq_true_eq, kOut_length]
  exact ⟨⟨h1, h2⟩, (okFrom_kOut f).1⟩

theorem getD_reverse (xs : List Int) (j : Nat) (h : j < xs.length) : xs.reverse.getD j 0 = xs.getD (xs.length - 1 - j) 0 := by
  simp [List.getD, List.getElem?_reverse h]

/-- Turned twice is not turned. -/
theorem turned_twice {xs : List Int} (h : partIn xs = true) : kOut (kOut xs.reverse).reverse = xs := by
  have hk := (kOut_of_ok xs (partIn_ok h)).1
  have hl : (kOut xs.reverse).reverse.length = xs.length := by simp [kOut_length]
  refine ((kOut_pat xs _ hl fun i j hi hj => ?_).1).trans hk
  have hkl : (kOut xs.reverse).length = xs.length := by simp [kOut_length]
  rw [getD_reverse _ i (by omega), getD_reverse _ j (by omega), hkl]
  have := (kOut_inv xs.reverse).2 (xs.length - 1 - i) (xs.length - 1 - j) (by simp; omega) (by simp; omega)
  rw [← this, getD_reverse _ _ (by omega), getD_reverse _ _ (by omega), show xs.length - 1 - (xs.length - 1 - i) = i by omega, show xs.length - 1 - (xs.length - 1 - j) = j by omega]

theorem partTurned_twice {xs : List Int} (h : partIn xs = true) : partTurned (partTurned xs).1 = (xs, true) := by
  have hl := partIn_len h
  have e : (partTurned xs).1 = kOut xs.reverse := by simp [partTurned, h]
  rw [e]
  unfold partTurned
  rw [if_pos (partIn_kOut (by simpa using hl.1) (by simpa using hl.2)), turned_twice h]

theorem cntAt_count (xs : List Int) (b : Nat) : ∀ k, k ≤ xs.length → cntAt xs b k = (xs.take k).count (b : Int) := by
  intro k
  induction k with
  | zero => intro _; simp [cntAt]
  | succ k ih =>
    intro h
    rw [take_snoc xs k (by omega), List.count_append, ← ih (by omega)]
    simp only [cntAt, List.count_singleton]
    by_cases e : xs.getD k 0 = b
    · rw [e]
      simp
    · simp only [if_neg e]
      have : (xs.getD k 0 == (b : Int)) = false := by simpa using e
      rw [this]
      simp

theorem sizeFrom_append : ∀ (f : List Int) (n x : Int), sizeFrom n (f ++ [x]) = max (sizeFrom n f) (x + 1) := by
  intro f
  induction f with
  | nil => intro n x; simp [sizeFrom]
  | cons y f ih => intro n x; simp only [List.cons_append, sizeFrom]; exact ih _ _

theorem pSize_kOut : ∀ f : List Int, pSize (kOut f) = kNext f := by
  refine snoc_induction rfl fun f x ih => ?_
  have hb := kNext_bd f
  unfold pSize at *
  by_cases h : x ∈ f
  · have hr := (kOut_inv f).1 _ (List.idxOf_lt_length_of_mem h)
    rw [(kOut_mem h).1, (kOut_mem h).2, sizeFrom_append, ih]
    omega
  · rw [(kOut_new h).1, (kOut_new h).2, sizeFrom_append, ih]
    omega

/-- The sizes of the blocks of a list that is numbered from 0 on: how often each number is there. -/
theorem sizes_kOut (f : List Int) : sizes (kOut f) = (iota 0 (kNext f).toNat).map fun v => ((kOut f).count v : Int) := by
  unfold sizes iota
  rw [pSize_kOut, List.map_map]
  refine List.map_congr_left fun b _ => ?_
  simp only [Function.comp]
  rw [cntAt_count _ _ _ (Nat.le_refl _), List.take_length]
  simp

theorem iota_nodup (n : Nat) : (iota 0 n).Nodup := by
  unfold iota List.Nodup
  rw [List.pairwise_map]
  refine List.Pairwise.imp ?_ (List.nodup_range (n := n))
  intro a b h e
  exact h (by omega)

theorem mem_iota (n : Int) (v : Int) (hn : 0 ≤ n) : v ∈ iota 0 n.toNat ↔ 0 ≤ v ∧ v < n := by
  simp only [iota, List.mem_map, List.mem_range]
  constructor
  · rintro ⟨j, hj, e⟩
    omega
  · rintro ⟨h1, h2⟩
    exact ⟨v.toNat, by omega, by omega⟩

/-- Blocks numbered anew are as large as they were. -/
theorem sizes_perm (f r : List Int) (hr : r.Perm (kOut f)) : (sizes (kOut r)).Perm (sizes (kOut f)) := by
  let g : Int → Int := fun v => (kOut r).getD (r.idxOf v) 0
  have hg : ∀ v, v ∈ r → g v ∈ kOut r := fun v hv => mem_of_getD (by rw [kOut_length]; exact List.idxOf_lt_length_of_mem hv) rfl
  have hinj : ∀ u v, u ∈ r → v ∈ r → (g u = g v ↔ u = v) := by
    intro u v hu hv
    have := (kOut_inv r).2 _ _ (List.idxOf_lt_length_of_mem hu) (List.idxOf_lt_length_of_mem hv)
    rw [getD_idxOf hu, getD_idxOf hv] at this
    exact this.symm
  have hat : ∀ j, j < r.length → (kOut r).getD j 0 = g (r.getD j 0) := by
    intro j hj
    have hm : r.getD j 0 ∈ r := mem_of_getD hj rfl
    exact ((kOut_inv r).2 _ _ hj (List.idxOf_lt_length_of_mem hm)).1 (getD_idxOf hm).symm
  have hmap : kOut r = r.map g := by
    refine ext_getD (by simp [kOut_length]) fun j hj => ?_
    rw [kOut_length] at hj
    rw [hat j hj]
    simp [List.getD, hj]
  have hcount : ∀ u, u ∈ r → (kOut r).count (g u) = (kOut f).count u := by
    intro u hu
    rw [← hr.count_eq u, hmap, List.count_eq_countP, List.count_eq_countP, List.countP_map]
    refine List.countP_congr fun x hx => ?_
    simp only [Function.comp, beq_iff_eq]
    exact hinj x u hx hu
  have hmem : ∀ v, v ∈ r ↔ 0 ≤ v ∧ v < kNext f := fun v => by rw [hr.mem_iff, kOut_all]
  have hperm : (iota 0 (kNext r).toNat).Perm ((iota 0 (kNext f).toNat).map g) := by
    refine (List.perm_ext_iff_of_nodup (iota_nodup _) ?_).2 fun v => ?_
    · unfold List.Nodup
      rw [List.pairwise_map]
      refine List.Pairwise.imp_of_mem ?_ (iota_nodup (kNext f).toNat)
      intro a b ha hb h e
      rw [mem_iota _ _ (kNext_bd f).1, ← hmem] at ha hb
      exact h ((hinj a b ha hb).1 e)
    · rw [mem_iota _ _ (kNext_bd r).1, ← kOut_all, List.mem_map]
      constructor
      · intro h
        rw [hmap, List.mem_map] at h
        obtain ⟨u, hu, e⟩ := h
        exact ⟨u, (mem_iota _ _ (kNext_bd f).1).2 ((hmem u).1 hu), e⟩
      · rintro ⟨u, hu, e⟩
        rw [← e]
        exact hg u ((hmem u).2 ((mem_iota _ _ (kNext_bd f).1).1 hu))
  rw [sizes_kOut r, sizes_kOut f]
  refine (hperm.map _).trans (List.Perm.of_eq ?_)
  rw [List.map_map]
  refine List.map_congr_left fun u hu => ?_
  simp only [Function.comp]
  rw [hcount u ((hmem u).2 ((mem_iota _ _ (kNext_bd f).1).1 hu))]

/-- A partition turned has blocks as large. -/
theorem turned_type {xs : List Int} (h : partIn xs = true) : partType (partTurned xs).1 = partType xs := by
  have hl := partIn_len h
  have hk := (kOut_of_ok xs (partIn_ok h)).1
  have e : (partTurned xs).1 = kOut xs.reverse := by simp [partTurned, h]
  rw [e]
  unfold partType
  rw [if_pos h, if_pos (partIn_kOut (by simpa using hl.1) (by simpa using hl.2))]
  have hp := sizes_perm xs xs.reverse (by rw [hk]; exact List.reverse_perm xs)
  rw [hk] at hp
  rw [← desc_unique (sizes xs) (desc (sizes (kOut xs.reverse))) ((desc_perm _).trans hp) (desc_pairwise _)]

end Go.Proofs.Ytbmpchpcihnbdaa

/-
  The contracts of spec.l91Part, spec.l91Some, spec.DrawPartTurned: they draw some list of at most nine small numbers, in new memory.
-/
namespace Go.Proofs.Ytbmpchpcihnbdaa
set_option linter.unusedSimpArgs false
set_option linter.unusedVariables false
set_option linter.unnecessarySimpa false
open Go.RowKit
set_option maxRecDepth 100000

theorem grown_own {w a b : World} {g go : Nat} (h : w.grownBy a (some g)) (hab : a.grownBy b (some go)) (hge : w.heap.size ≤ go) : w.grownBy b (some g) :=
  ⟨hab.os.trans h.os, hab.tape.trans h.tape, hab.output.trans h.output, Nat.le_trans h.size hab.size, fun k hk hne => (hab.block k (Nat.lt_of_lt_of_le hk h.size) (fun e => by cases e; omega)).trans (h.block k hk hne)⟩

theorem grown_below {w a b : World} {g : Nat} (h : w.grownBy a (some g)) (hab : Below a.heap.size a b) : w.grownBy b (some g) :=
  ⟨hab.os.trans h.os, hab.tape.trans h.tape, hab.output.trans h.output, Nat.le_trans h.size hab.size, fun k hk hne => (hab.block k (Nat.lt_of_lt_of_le hk h.size)).trans (h.block k hk hne)⟩

theorem rdr_grown {a b : World} {g p : Nat} {bs : Value} {r : Option Nat} (h : Rdr a g bs p) (hab : a.grownBy b r) (hne : some g ≠ r) : Rdr b g bs p := by
  unfold Rdr at *
  rw [hab.block g (Array.getElem?_eq_some_iff.1 h).1 hne]
  exact h

theorem rdr_below {a b : World} {g p : Nat} {bs : Value} (h : Rdr a g bs p) (hab : Below a.heap.size a b) : Rdr b g bs p := by
  unfold Rdr at *
  rw [hab.block g (Array.getElem?_eq_some_iff.1 h).1]
  exact h

theorem bytes_grown {w w' : World} {a : Option Addr} {len g : Nat} (h : Bytes w a len) (hg : w.grownBy w' (some g)) (hne : 0 < len → ∀ x, a = some x → x.block ≠ g) : Bytes w' a len := by
  rcases h with h | ⟨b, off, ha, hc⟩
  · exact .inl h
  · refine .inr ⟨b, off, ha, fun j hj => ?_⟩
    obtain ⟨x, hx, hcx⟩ := hc j hj
    exact ⟨x, hx, hg.cell hcx (fun e => hne (by omega) _ ha (by cases e; rfl))⟩

/-- What is drawn: a list of at most m numbers from 0 to 9, in new memory; the reader goes on. -/
def Drawn (w : World) (g : Nat) (bs : Value) (p m : Nat) (e : Ending) (w' : World) : Prop :=
  ∃ v xs q, e = .returned v ∧ Own w' w.heap.size v xs ∧ (1 ≤ xs.length ∧ xs.length ≤ m) ∧ (∀ x ∈ xs, 0 ≤ x ∧ x ≤ 9) ∧ Rdr w' g bs q ∧ q ≤ p + 40 ∧ w.grownBy w' (some g)

theorem small_snoc {xs : List Int} {v : Int} (h : Small xs) (h0 : 0 ≤ v) (h1 : v ≤ 7) : Small (xs ++ [v]) := by
  intro j hj
  by_cases e : j < xs.length
  · rw [getD_snoc_lt _ _ _ e]; exact h j e
  · have : j = xs.length := by simp at hj; omega
    rw [this, getD_snoc_eq]; exact ⟨h0, h1⟩

theorem small_mem {xs : List Int} (h : Small xs) : ∀ x ∈ xs, 0 ≤ x ∧ x ≤ 9 := by
  intro x hx
  obtain ⟨j, hj, e⟩ := mem_iff_getD.1 hx
  have := h j hj
  omega

theorem pick_z (g : Nat) (a : Option Addr) (len cap p : Nat) (m : Int) (w : World) (hr : Rdr w g (.slice a len cap) p) (hby : Bytes w a len) (hne : 0 < len → ∀ x, a = some x → x.block ≠ g) (hlen : len ≤ 2000) (hp : p ≤ 1000000) (hn : 1 ≤ m) (hn2 : m ≤ 100000) :
    Calls Try.prog 65 #[.pointer (some ⟨g, 0, none⟩), .int .i64 m] w (Picked w g (.slice a len cap) p m.toNat) := by
  have := pick_any g a len cap p m.toNat w hr hby hne hlen hp (by omega) (by omega)
  rwa [Int.toNat_of_nonneg (by omega)] at this

/-- The same, and at least so many numbers as asked. -/
def DrawnN (w : World) (g : Nat) (bs : Value) (p n m : Nat) (e : Ending) (w' : World) : Prop :=
  ∃ v xs q, e = .returned v ∧ Own w' w.heap.size v xs ∧ (n ≤ xs.length ∧ xs.length ≤ m) ∧ (∀ x ∈ xs, 0 ≤ x ∧ x ≤ 9) ∧ Rdr w' g bs q ∧ q ≤ p + 40 ∧ w.grownBy w' (some g)

set_option maxHeartbeats 1000000 in
theorem l91Part_n (g : Nat) (a : Option Addr) (len cap p n : Nat) (w : World) (hr : Rdr w g (.slice a len cap) p) (hby : Bytes w a len) (hne : 0 < len → ∀ x, a = some x → x.block ≠ g) (hlen : len ≤ 2000) (hp : p ≤ 1000) (hn : 1 ≤ n) (hn2 : n ≤ 8) :
    Calls Try.prog 64 #[.pointer (some ⟨g, 0, none⟩), .int .i64 n] w (DrawnN w g (.slice a len cap) p n 9) := by
  have hg := (rdr_facts hr).1
  have HR := Lib.hid hr
  have HB := Lib.hid hby
  clear hr hby
  obtain ⟨w0, hw0⟩ : ∃ w0 : World, w0 = w.alloc (.cells #[] 3) := ⟨_, rfl⟩
  have hb0 : Below w.heap.size w w0 := by rw [hw0]; exact (Below.refl _ _).alloc (Nat.le_refl _) _
  have ho0 : Own w0 w.heap.size (.slice (some ⟨w.heap.size, 0, none⟩) 0 0) [] := by rw [hw0]; exact own_empty w _ (Nat.le_refl _)
  go_enter Try.func64, Try.ntmps64
  go_wp2_with fail
  rw [← hw0]
  refine (pick_any g a len cap p 3 _ (rdr_below HR.out hb0) (bytes_below HB.out hb0) hne hlen (by omega) (by omega) (by omega)).mono ?_
  rintro e w1 ⟨kd, rfl, hk3, hr1, hg1, hz1⟩
  have hG1 : w.grownBy w1 (some g) := grown_trans (⟨hb0.os, hb0.tape, hb0.output, hb0.size, fun k hk _ => hb0.block k hk⟩) hg1
  have ho1 : Own w1 w.heap.size (.slice (some ⟨w.heap.size, 0, none⟩) 0 0) [] := own_grown ho0 hg1 (.inr (by simp [Value.ownBlock]; omega))
  clear hg1 hz1 ho0 hb0 hw0
  have HR1 := Lib.hid hr1
  have HG1 := Lib.hid hG1
  have HO1 := Lib.hid ho1
  clear hr1 hG1 ho1
  go_wp2
  go_loopw [5, 7] (fun u i wr => ∃ (k g' cap' q : Nat) (xs : List Int), k ≤ n ∧ i = .int .i64 k ∧ u = .slice (some ⟨g', 0, none⟩) k cap' ∧ Own wr w.heap.size (.slice (some ⟨g', 0, none⟩) k cap') xs ∧ xs.length = k ∧ Small xs ∧ pSize xs ≤ k ∧ Rdr wr g (.slice a len cap) q ∧ q ≤ p + 1 + 2 * k ∧ w.grownBy wr (some g)) (fun _ i _ => n - (intOf i).toNat)
  case atStart => exact ⟨0, w.heap.size, 0, p + 1, [], Nat.zero_le _, rfl, rfl, HO1.out, rfl, fun j hj => by simp at hj, by decide, HR1.out, by omega, HG1.out⟩
  case round =>
    obtain ⟨k, g', cap', q, xs, hk, rfl, rfl, hown, hxl, hsm, hps, hrd, hq, hgr⟩ := hrel
    have hsz := hgr.size
    have hge : w.heap.size ≤ g' := (own_lt hown g' rfl).1
    have HO := Lib.hid hown
    have HXL := Lib.hid hxl
    have HSM := Lib.hid hsm
    have HRD := Lib.hid hrd
    have HGR := Lib.hid hgr
    obtain ⟨s, hs⟩ : ∃ s : Nat, pSize xs = s := ⟨(pSize xs).toNat, by have := (pSize_bd hsm).1; omega⟩
    rw [hs] at hps
    have HPS := Lib.hid hs
    clear hown hxl hsm hrd hgr hs
    by_cases hlt : k < n
    · go_wp2_with fail
      refine (l1Size_v _ xs _ (own_rdv HO.out) HSM.out).mono ?_
      rintro e w' ⟨rfl, rfl⟩
      rw [HPS.out]
      go_wp2_with fail
      refine (pick_z g a len cap q _ _ HRD.out (bytes_grown HB.out HGR.out hne) hne hlen (by omega) (by omega) (by omega)).mono ?_
      rintro e w2 ⟨t, rfl, ht, hr2, hg2, hz2⟩
      have HR2 := Lib.hid hr2
      have HG2 := Lib.hid (grown_trans HGR.out hg2)
      have HO2 := Lib.hid (own_grown HO.out hg2 (.inr (by simp [Value.ownBlock]; omega)))
      have hsz2 : w.heap.size ≤ w2.heap.size := by omega
      clear hr2 hg2 hz2
      by_cases hkd : kd = 1
      · have hkd1 : ((kd : Int) == 1) = true := by simp; omega
        clear hkd
        go_wp2_with fail
        refine (pick_z g a len cap (q + 1) _ _ HR2.out (bytes_grown HB.out HG2.out hne) hne hlen (by omega) (by omega) (by omega)).mono ?_
        rintro e w3 ⟨t2, rfl, ht2, hr3, hg3, hz3⟩
        have HR3 := Lib.hid hr3
        have HG3 := Lib.hid (grown_trans HG2.out hg3)
        have HO3 := Lib.hid (own_grown HO2.out hg3 (.inr (by simp [Value.ownBlock]; omega)))
        clear hr3 hg3
        have hzz : w.heap.size ≤ w3.heap.size := by omega
        clear hz3
        obtain ⟨q3, hq3⟩ : ∃ q3, q3 = q + 1 + 1 := ⟨_, rfl⟩
        rw [← hq3] at HR3
        by_cases hst : (t2 : Int) < s
        · have hmin : min (s : Int) t2 = t2 := by omega
          go_wp2_with (at_builtin; refine wpList_push rfl _ _ rfl w.heap.size g' k cap' xs rfl (own_alloc HO3.out _) HXL.out.symm ⟨w3.heap.size, 0, none⟩ rfl t2 (cell_new1 _ _ _) (by omega) (by simp; omega) ?_)
          intro g2 cap2 w4 hown4 hgr4 hg4
          have hG4 : w.grownBy w4 (some g) := grown_own (grown_below HG3.out ((Below.refl _ _).alloc (Nat.le_refl _) _)) hgr4 hge
          have hR4 := rdr_grown (rdr_below HR3.out ((Below.refl _ _).alloc (Nat.le_refl _) _)) hgr4 (fun e => by cases e; omega)
          have HO4 := Lib.hid hown4
          have HG4 := Lib.hid hG4
          have HR4 := Lib.hid hR4
          clear hown4 hgr4 hg4 hG4 hR4
          go_wp2
          go_roundw
          case rel =>
            refine ⟨k + 1, g2, cap2, q3, xs ++ [(t2 : Int)], by omega, by go_num, rfl, HO4.out, by simp [HXL.out], small_snoc HSM.out (by omega) (by omega), ?_, HR4.out, by omega, HG4.out⟩
            have := HPS.out
            unfold pSize at this ⊢
            rw [sizeFrom_append, this]
            omega
          case measure => simp [intOf]; omega
        · have hmin : min (s : Int) t2 = s := by omega
          go_wp2_with (at_builtin; refine wpList_push rfl _ _ rfl w.heap.size g' k cap' xs rfl (own_alloc HO3.out _) HXL.out.symm ⟨w3.heap.size, 0, none⟩ rfl s (cell_new1 _ _ _) (by omega) (by simp; omega) ?_)
          intro g2 cap2 w4 hown4 hgr4 hg4
          have hG4 : w.grownBy w4 (some g) := grown_own (grown_below HG3.out ((Below.refl _ _).alloc (Nat.le_refl _) _)) hgr4 hge
          have hR4 := rdr_grown (rdr_below HR3.out ((Below.refl _ _).alloc (Nat.le_refl _) _)) hgr4 (fun e => by cases e; omega)
          have HO4 := Lib.hid hown4
          have HG4 := Lib.hid hG4
          have HR4 := Lib.hid hR4
          clear hown4 hgr4 hg4 hG4 hR4
          go_wp2
          go_roundw
          case rel =>
            refine ⟨k + 1, g2, cap2, q3, xs ++ [(s : Int)], by omega, by go_num, rfl, HO4.out, by simp [HXL.out], small_snoc HSM.out (by omega) (by omega), ?_, HR4.out, by omega, HG4.out⟩
            have := HPS.out
            unfold pSize at this ⊢
            rw [sizeFrom_append, this]
            omega
          case measure => simp [intOf]; omega
      · obtain ⟨w3, hw3⟩ : ∃ w3 : World, w3 = w2 := ⟨_, rfl⟩
        rw [← hw3] at HR2 HG2 HO2 hsz2 ⊢
        have HR3 := HR2
        have HG3 := HG2
        have HO3 := HO2
        have hzz : w.heap.size ≤ w3.heap.size := by omega
        clear hw3 HR2 HG2 HO2
        have hkd' : ((kd : Int) == 1) = false := by simp; omega
        have ht0 : (0 : Int) ≤ (t : Int) := by omega
        obtain ⟨q3, hq3⟩ : ∃ q3, q3 = q + 1 := ⟨_, rfl⟩
        rw [← hq3] at HR3
        go_wp2_with (at_builtin; refine wpList_push rfl _ _ rfl w.heap.size g' k cap' xs rfl (own_alloc HO3.out _) HXL.out.symm ⟨w3.heap.size, 0, none⟩ rfl t (cell_new1 _ _ _) (by omega) (by simp; omega) ?_)
        intro g2 cap2 w4 hown4 hgr4 hg4
        have hG4 : w.grownBy w4 (some g) := grown_own (grown_below HG3.out ((Below.refl _ _).alloc (Nat.le_refl _) _)) hgr4 hge
        have hR4 := rdr_grown (rdr_below HR3.out ((Below.refl _ _).alloc (Nat.le_refl _) _)) hgr4 (fun e => by cases e; omega)
        have HO4 := Lib.hid hown4
        have HG4 := Lib.hid hG4
        have HR4 := Lib.hid hR4
        clear hown4 hgr4 hg4 hG4 hR4
        go_wp2
        go_roundw
        case rel =>
          refine ⟨k + 1, g2, cap2, q3, xs ++ [(t : Int)], by omega, by go_num, rfl, HO4.out, by simp [HXL.out], small_snoc HSM.out ht0 (by omega), ?_, HR4.out, by omega, HG4.out⟩
          have := HPS.out
          unfold pSize at this ⊢
          rw [sizeFrom_append, this]
          omega
        case measure => simp [intOf]; omega
    · have hkn : k = n := by omega
      subst hkn
      have hB := bytes_grown HB.out HGR.out hne
      go_wp2_with fail
      refine (pick_z g a len cap q _ _ HRD.out hB hne hlen (by omega) (by omega) (by omega)).mono ?_
      rintro e w2 ⟨t, rfl, ht, hr2, hg2, hz2⟩
      have HR2 := Lib.hid hr2
      have HG2 := Lib.hid (grown_trans HGR.out hg2)
      have HO2 := Lib.hid (own_grown HO.out hg2 (.inr (by simp [Value.ownBlock]; omega)))
      have hsz2 : w.heap.size ≤ w2.heap.size := by omega
      clear hr2 hg2 hz2
      by_cases h40 : t = 0
      · subst h40
        go_wp2_with (at_builtin; refine wpList_push rfl _ _ rfl w.heap.size g' k cap' xs rfl (own_alloc HO2.out _) HXL.out.symm ⟨w2.heap.size, 0, none⟩ rfl 9 (cell_new1 _ _ _) (by omega) (by simp; omega) ?_)
        intro g2 cap2 w4 hown4 hgr4 hg4
        have hG4 : w.grownBy w4 (some g) := grown_own (grown_below HG2.out ((Below.refl _ _).alloc (Nat.le_refl _) _)) hgr4 hge
        have hR4 := rdr_grown (rdr_below HR2.out ((Below.refl _ _).alloc (Nat.le_refl _) _)) hgr4 (fun e => by cases e; omega)
        have HO4 := Lib.hid hown4
        have HG4 := Lib.hid hG4
        have HR4 := Lib.hid hR4
        clear hown4 hgr4 hg4 hG4 hR4
        go_wp2
        go_ret
        refine ⟨_, xs ++ [9], q + 1, rfl, HO4.out, ⟨by simp [HXL.out] <;> omega, by simp [HXL.out]; omega⟩, ?_, HR4.out, by omega, HG4.out⟩
        intro y hy
        rcases List.mem_append.1 hy with h | h
        · exact small_mem HSM.out y h
        · rw [List.mem_singleton.1 h]; omega
      · have ht1 : ((t : Int) == 0) = false := by simp; omega
        go_wp2
        go_ret
        exact ⟨_, xs, q + 1, rfl, HO2.out, by have := HXL.out; omega, small_mem HSM.out, HR2.out, by omega, HG2.out⟩

theorem l91Part_any (g : Nat) (a : Option Addr) (len cap p n : Nat) (w : World) (hr : Rdr w g (.slice a len cap) p) (hby : Bytes w a len) (hne : 0 < len → ∀ x, a = some x → x.block ≠ g) (hlen : len ≤ 2000) (hp : p ≤ 1000) (hn : 1 ≤ n) (hn2 : n ≤ 8) :
    Calls Try.prog 64 #[.pointer (some ⟨g, 0, none⟩), .int .i64 n] w (Drawn w g (.slice a len cap) p 9) :=
  (l91Part_n g a len cap p n w hr hby hne hlen hp hn hn2).mono fun e w1 ⟨v, xs, q, h1, h2, h3, h4⟩ => ⟨v, xs, q, h1, h2, by omega, h4⟩

theorem l91Part_z (g : Nat) (a : Option Addr) (len cap p : Nat) (m : Int) (w : World) (hr : Rdr w g (.slice a len cap) p) (hby : Bytes w a len) (hne : 0 < len → ∀ x, a = some x → x.block ≠ g) (hlen : len ≤ 2000) (hp : p ≤ 1000) (hn : 1 ≤ m) (hn2 : m ≤ 8) :
    Calls Try.prog 64 #[.pointer (some ⟨g, 0, none⟩), .int .i64 m] w (Drawn w g (.slice a len cap) p 9) := by
  have := l91Part_any g a len cap p m.toNat w hr hby hne hlen hp (by omega) (by omega)
  rwa [Int.toNat_of_nonneg (by omega)] at this

theorem bytes_of_row {w : World} {a : Option Addr} {len cap : Nat} {zs : List Int} (h : IsRow .u8 w a len cap zs) : Bytes w a len ∧ len ≤ cap ∧ cap ≤ maxLen := by
  rcases h with ⟨rfl, rfl, rfl, rfl⟩ | ⟨x, rfl, hl, hm, hz, hc, hw⟩
  · exact ⟨.inl rfl, Nat.le_refl _, Nat.zero_le _⟩
  · refine ⟨?_, hl, hm⟩
    by_cases h0 : len = 0
    · exact .inl h0
    · obtain ⟨b, off, spot⟩ := x
      have hc0 := hc 0 (by omega)
      have hspot : spot = none := by simpa [Addr.add] using World.cell?_spot hc0
      subst hspot
      refine .inr ⟨b, off, rfl, fun j hj => ?_⟩
      have hcj := hc j (by omega)
      rw [Addr.add_lit] at hcj
      have hmem : zs.getD j 0 ∈ zs := mem_of_getD (by omega) rfl
      have hwf := hw _ hmem
      have hb : 0 ≤ zs.getD j 0 ∧ zs.getD j 0 ≤ 255 := by
        simpa [Lit.wf, IntKind.min, IntKind.max, IntKind.bits, IntKind.signed] using hwf
      refine ⟨(zs.getD j 0).toNat, by omega, ?_⟩
      rw [hcj, Int.toNat_of_nonneg hb.1]

end Go.Proofs.Ytbmpchpcihnbdaa

/-
  The contract of laws.sameInts.
-/
namespace Go.Proofs.Ytbmpchpcihnbdaa
set_option linter.unusedSimpArgs false
set_option linter.unusedVariables false
set_option linter.unnecessarySimpa false
open Go.RowKit

set_option maxHeartbeats 400000 in
theorem sameInts_any (ao bo : Option Addr) (ca cb : Nat) (xs ys : List Int) (w : World) (hx : Rd w ao xs) (hy : Rd w bo ys) (hlx : xs.length ≤ 9223372036854775807) (hly : ys.length ≤ 9223372036854775807) :
    Calls Try.prog 25 #[.slice ao xs.length ca, .slice bo ys.length cb] w fun e w' => e = .returned (.bool (decide (xs = ys))) ∧ Same w w' := by
  obtain ⟨n, hn⟩ : ∃ n, n = xs.length := ⟨_, rfl⟩
  obtain ⟨m, hm⟩ : ∃ m, m = ys.length := ⟨_, rfl⟩
  rw [← hn, ← hm]
  rw [← hn] at hlx
  rw [← hm] at hly
  have HN := Lib.hid hn
  have HM := Lib.hid hm
  clear hn hm
  have HX := Lib.hid hx
  have HY := Lib.hid hy
  clear hx hy
  by_cases hnm : n = m
  · subst hnm
    go_enter Try.func25, Try.ntmps25
    go_wp2
    go_loopw [5] (fun i wr => ∃ k : Nat, k ≤ n ∧ i = .int .i64 k ∧ xs.take k = ys.take k ∧ Same w wr) (fun i _ => n - (intOf i).toNat)
    case atStart => exact ⟨0, Nat.zero_le _, rfl, rfl, Same.refl w⟩
    case round =>
      obtain ⟨k, hk, rfl, htk, hsr⟩ := hrel
      have HT := Lib.hid htk
      clear htk
      by_cases hlt : k < n
      · have hx := rd_same HX.out hsr
        have hy := rd_same HY.out hsr
        rcases hx with hx | ⟨b, off, rfl, hcx⟩
        · have := HN.out
          rw [hx] at this
          simp at this
          omega
        · rcases hy with hy | ⟨b2, off2, rfl, hcy⟩
          · have := HM.out
            rw [hy] at this
            simp at this
            omega
          · have hc1 := hcx k (by have := HN.out; omega)
            have hc2 := hcy k (by have := HM.out; omega)
            clear hcx hcy
            obtain ⟨x, hx⟩ : ∃ x, x = xs.getD k 0 := ⟨_, rfl⟩
            obtain ⟨y, hy⟩ : ∃ y, y = ys.getD k 0 := ⟨_, rfl⟩
            rw [← hx] at hc1
            rw [← hy] at hc2
            have HXK := Lib.hid hx
            have HYK := Lib.hid hy
            clear hx hy
            have hlt' : (k : Int) < n := by omega
            by_cases hxy : x = y
            · subst hxy
              go_wp2
              go_quiet (fail)
              go_wp2
              go_roundw
              case rel => exact ⟨k + 1, by omega, by go_num, take_succ_eq HT.out (by have := HN.out; omega) (by have := HM.out; omega) (by rw [← HXK.out, ← HYK.out]), hsr.drewN _⟩
              case measure => simp [intOf]; omega
            · have hb : (x != y) = true := by simpa using hxy
              go_wp2
              go_quiet (fail)
              go_wp2
              go_ret
              have hne : ¬ xs = ys := fun e => hxy (by rw [HXK.out, HYK.out, e])
              exact ⟨by simp [hne], hsr.drewN _⟩
      · go_wp2
        go_ret
        have hkn : k = n := by omega
        subst hkn
        have he : xs = ys := by
          have := HT.out
          rwa [List.take_of_length_le (by have := HN.out; omega), List.take_of_length_le (by have := HM.out; omega)] at this
        exact ⟨by simp [he], hsr⟩
  · go_enter Try.func25, Try.ntmps25
    go_wp2
    go_ret
    have hne : ¬ xs = ys := fun e => hnm (by rw [HN.out, HM.out, e])
    exact ⟨by simp [hne], Same.refl w⟩

theorem sameInts_v (v u : Value) (xs ys : List Int) (w : World) (hv : RdV w v xs) (hu : RdV w u ys) : Calls Try.prog 25 #[v, u] w fun e w' => e = .returned (.bool (decide (xs = ys))) ∧ Same w w' := by
  obtain ⟨ao, ca, rfl, h, h1, h2⟩ := hv
  obtain ⟨bo, cb, rfl, k, k1, k2⟩ := hu
  unfold maxLen at h2 k2
  exact sameInts_any ao bo ca cb xs ys w h k (by omega) (by omega)

end Go.Proofs.Ytbmpchpcihnbdaa

/-
  Words for memory: cells that read as a list of integers, behind one word; worlds that only have drawn.
-/
namespace Go.Proofs.Ytbmpchpcihnbdaa
set_option linter.unusedSimpArgs false
set_option linter.unusedVariables false
set_option linter.unnecessarySimpa false
open Go.RowKit

/-- The cells from (b, off) on read as the integers xs. -/
def Cells (w : World) (b off : Nat) (xs : List Int) : Prop := ∀ j, j < xs.length → w.cell? ⟨b, off + j, none⟩ = some (.int .i64 (xs.getD j 0))

/-- A slice that is not empty, by its cells. -/
theorem rdv_cells {w : World} {v : Value} {xs : List Int} (h : RdV w v xs) (hl : 1 ≤ xs.length) :
    ∃ b off cap, v = .slice (some ⟨b, off, none⟩) xs.length cap ∧ Cells w b off xs ∧ b < w.heap.size ∧ xs.length ≤ cap ∧ cap ≤ maxLen := by
  obtain ⟨ao, cap, rfl, h1, h2, h3⟩ := h
  rcases h1 with h1 | ⟨b, off, rfl, hc⟩
  · rw [h1] at hl; simp at hl
  · exact ⟨b, off, cap, rfl, hc, World.block_lt_of_cell? w _ (hc 0 (by omega)), h2, h3⟩

theorem cells_rdv {w : World} {b off n cap : Nat} {xs : List Int} (h : Cells w b off xs) (hn : n = xs.length) (h1 : n ≤ cap) (h2 : cap ≤ maxLen) : RdV w (.slice (some ⟨b, off, none⟩) n cap) xs := by
  subst hn
  exact ⟨_, cap, rfl, .inr ⟨b, off, rfl, h⟩, h1, h2⟩

theorem cells_at {w : World} {b off : Nat} {xs : List Int} (h : Cells w b off xs) (j : Nat) (hj : j < xs.length) : w.cell? ⟨b, off + j, none⟩ = some (.int .i64 (xs.getD j 0)) := h j hj

theorem cells_at' {w : World} {b off : Nat} {xs : List Int} (h : Cells w b off xs) (j : Nat) (hj : j < xs.length) (x : Int) (hx : xs.getD j 0 = x) : w.cell? ⟨b, off + j, none⟩ = some (.int .i64 x) := by
  rw [← hx]; exact h j hj

theorem cells_below {w w' : World} {b off : Nat} {xs : List Int} (h : Cells w b off xs) (hb : Below w.heap.size w w') : Cells w' b off xs := fun j hj => by
  rw [hb.cell (World.block_lt_of_cell? w _ (h j hj))]; exact h j hj

theorem cells_drewN {w : World} {b off : Nat} {xs : List Int} (h : Cells w b off xs) (n : Nat) : Cells (w.drewN n) b off xs := h

/-- The world has only drawn. -/
def Quiet (w w' : World) : Prop := ∃ m, w' = w.drewN m
theorem Quiet.refl (w : World) : Quiet w w := ⟨0, rfl⟩
theorem Quiet.mk (w : World) (m : Nat) : Quiet w (w.drewN m) := ⟨m, rfl⟩
theorem Quiet.drewN {a w : World} (h : Quiet a w) (n : Nat) : Quiet a (w.drewN n) := by
  obtain ⟨m, rfl⟩ := h
  exact ⟨m + n, by rw [World.drewN_drewN]⟩
theorem Quiet.trans {a b c : World} (h : Quiet a b) (k : Quiet b c) : Quiet a c := by
  obtain ⟨m, rfl⟩ := k
  exact h.drewN m
theorem Quiet.cells {w w' : World} {b off : Nat} {xs : List Int} (hq : Quiet w w') (h : Cells w b off xs) : Cells w' b off xs := by
  obtain ⟨m, rfl⟩ := hq
  exact h
theorem Quiet.below {w w' : World} (h : Quiet w w') : Below w.heap.size w w' := by
  obtain ⟨m, rfl⟩ := h
  exact below_drewN (Below.refl _ _) m
theorem Quiet.same {w w' : World} (h : Quiet w w') : Same w w' := by
  obtain ⟨m, rfl⟩ := h
  exact fun B => below_drewN (Below.refl _ _) m

/-- What a function that only reads, and hands back a bool, leaves. -/
def QB (w : World) (r : Bool) (e : Ending) (w' : World) : Prop := e = .returned (.bool r) ∧ Quiet w w'
def QI (w : World) (r : Int) (e : Ending) (w' : World) : Prop := e = .returned (.int .i64 r) ∧ Quiet w w'
def QIB (w : World) (r : Int × Bool) (e : Ending) (w' : World) : Prop := e = .returned (.tuple #[.int .i64 r.1, .bool r.2]) ∧ Quiet w w'

theorem QB.gives {w : World} {r : Bool} {e : Ending} {w' : World} (h : QB w r e w') : GivesB w r e w' := ⟨h.1, h.2.below⟩
theorem QI.gives {w : World} {r : Int} {e : Ending} {w' : World} (h : QI w r e w') : GivesI w r e w' := ⟨h.1, h.2.below⟩
theorem QIB.gives {w : World} {r : Int × Bool} {e : Ending} {w' : World} (h : QIB w r e w') : GivesIB w r e w' := ⟨h.1, h.2.below⟩

theorem rdv_quiet {w w' : World} {v : Value} {xs : List Int} (h : RdV w v xs) (hq : Quiet w w') : RdV w' v xs := rdv_below h hq.below

theorem cell_keep {w : World} {b q : Nat} {v : Value} (o : Obj) (h : w.cell? ⟨b, q, none⟩ = some v) : (w.alloc o).cell? ⟨b, q, none⟩ = some v := by
  rw [World.cell?_alloc_past _ _ _ (World.block_lt_of_cell? w _ h)]; exact h
theorem cell_keepd {w : World} {b q : Nat} {v : Value} (o : Obj) (h : w.cell? ⟨b, q, none⟩ = some v) : (w.alloc o).drew.cell? ⟨b, q, none⟩ = some v := cell_keep o h

theorem ret_ib {a b : Int} {c : Bool} (h : a = b) : Ending.returned (.tuple #[.int .i64 a, .bool c]) = .returned (.tuple #[.int .i64 b, .bool c]) := by rw [h]

end Go.Proofs.Ytbmpchpcihnbdaa

/-
  The contracts of areAlike, l2Two, isFiner, l2Finer, FinerIn (impl and spec).
-/
namespace Go.Proofs.Ytbmpchpcihnbdaa
set_option linter.unusedSimpArgs false
set_option linter.unusedVariables false
set_option linter.unnecessarySimpa false
open Go.RowKit
set_option maxRecDepth 100000

theorem slicesIndex_v (v : Value) (xs : List Int) (x : Int) (w : World) (hv : RdV w v xs) (hm : x ∈ xs) :
    Calls Try.prog 89 #[v, .int .i64 x] w fun e w' => e = .returned (.int .i64 (xs.idxOf x)) ∧ w = w' := by
  obtain ⟨ao, ca, rfl, h, h1, h2⟩ := hv
  unfold maxLen at h2
  exact slicesIndex_any ao ca xs x w h (by omega) hm

/-- Each number of ys is that at the first place that has the same number in xs. -/
def finerTo (xs ys : List Int) (n : Nat) : Bool := decide (∀ i, i < n → ys.getD i 0 = ys.getD (xs.idxOf (xs.getD i 0)) 0)
def finerB (xs ys : List Int) : Bool := finerTo xs ys xs.length
def alike (xs ys : List Int) : Bool := partIn xs && partIn ys && decide (xs.length = ys.length)
def finerIn (xs ys : List Int) : Bool := alike xs ys && finerB xs ys

theorem finerTo_zero (xs ys : List Int) : finerTo xs ys 0 = true := by simp [finerTo]
theorem finerTo_step {xs ys : List Int} {k : Nat} (h : finerTo xs ys k = true) (e : ys.getD k 0 = ys.getD (xs.idxOf (xs.getD k 0)) 0) : finerTo xs ys (k + 1) = true := by
  simp only [finerTo, decide_eq_true_eq] at h ⊢
  intro i hi
  by_cases hik : i = k
  · rw [hik]; exact e
  · exact h i (by omega)
theorem finerB_no {xs ys : List Int} {k : Nat} (hk : k < xs.length) (e : ys.getD k 0 ≠ ys.getD (xs.idxOf (xs.getD k 0)) 0) : finerB xs ys = false := by
  simp only [finerB, finerTo, decide_eq_false_iff_not]
  exact fun h => e (h k hk)

theorem finer_iff {xs ys : List Int} : finerB xs ys = true ↔ ∀ i k, i < xs.length → k < xs.length → xs.getD i 0 = xs.getD k 0 → ys.getD i 0 = ys.getD k 0 := by
  simp only [finerB, finerTo, decide_eq_true_eq]
  constructor
  · intro h i k hi hk e
    rw [h i hi, h k hk, e]
  · intro h i hi
    have hm : xs.getD i 0 ∈ xs := mem_of_getD hi rfl
    exact h _ _ hi (List.idxOf_lt_length_of_mem hm) (getD_idxOf hm).symm

theorem alike_iff {xs ys : List Int} : alike xs ys = true ↔ partIn xs = true ∧ partIn ys = true ∧ xs.length = ys.length := by
  simp [alike, and_assoc]

set_option maxHeartbeats 800000 in
theorem areAlike_v (v u : Value) (xs ys : List Int) (w : World) (hv : RdV w v xs) (hu : RdV w u ys) :
    Calls Try.prog 82 #[v, u] w fun e w' => e = .returned (.bool (alike xs ys)) ∧ w = w' := by
  have HV := Lib.hid hv
  have HU := Lib.hid hu
  have hlv : ∃ ao ca, v = .slice ao xs.length ca := by obtain ⟨ao, ca, h, _⟩ := hv; exact ⟨ao, ca, h⟩
  have hlu : ∃ ao ca, u = .slice ao ys.length ca := by obtain ⟨ao, ca, h, _⟩ := hu; exact ⟨ao, ca, h⟩
  have hbv : xs.length ≤ 9223372036854775807 := by obtain ⟨_, _, _, _, h1, h2⟩ := hv; unfold maxLen at h2; omega
  have hbu : ys.length ≤ 9223372036854775807 := by obtain ⟨_, _, _, _, h1, h2⟩ := hu; unfold maxLen at h2; omega
  clear hv hu
  obtain ⟨ao, ca, rfl⟩ := hlv
  obtain ⟨bo, cb, rfl⟩ := hlu
  have hr : alike xs ys = (partIn xs && partIn ys && decide (xs.length = ys.length)) := rfl
  have HR := Lib.hid hr
  clear hr
  obtain ⟨n, hn⟩ : ∃ n, n = xs.length := ⟨_, rfl⟩
  obtain ⟨m, hm⟩ : ∃ m, m = ys.length := ⟨_, rfl⟩
  have HN := Lib.hid hn
  have HM := Lib.hid hm
  rw [← hn] at HV hbv ⊢
  rw [← hm] at HU hbu ⊢
  clear hn hm
  obtain ⟨p, hp⟩ : ∃ p, p = partIn xs := ⟨_, rfl⟩
  obtain ⟨q, hq⟩ : ∃ q, q = partIn ys := ⟨_, rfl⟩
  have HP := Lib.hid hp
  have HQ := Lib.hid hq
  clear hp hq
  cases p
  · go_enter Try.func82, Try.ntmps82
    go_wp2_with fail
    refine (iPartIn_w _ _ _ HV.out).mono ?_
    rintro e w' ⟨rfl, rfl⟩
    rw [← HP.out]
    go_wp2
    go_ret
    exact ⟨ret_bool (by rw [HR.out, ← HP.out]; simp), rfl⟩
  · cases q
    · go_enter Try.func82, Try.ntmps82
      go_wp2_with fail
      refine (iPartIn_w _ _ _ HV.out).mono ?_
      rintro e w' ⟨rfl, rfl⟩
      rw [← HP.out]
      go_wp2_with fail
      refine (iPartIn_w _ _ _ HU.out).mono ?_
      rintro e w' ⟨rfl, rfl⟩
      rw [← HQ.out]
      go_wp2
      go_ret
      exact ⟨ret_bool (by rw [HR.out, ← HQ.out]; simp), rfl⟩
    · by_cases hnm : n = m
      · subst hnm
        go_enter Try.func82, Try.ntmps82
        go_wp2_with fail
        refine (iPartIn_w _ _ _ HV.out).mono ?_
        rintro e w' ⟨rfl, rfl⟩
        rw [← HP.out]
        go_wp2_with fail
        refine (iPartIn_w _ _ _ HU.out).mono ?_
        rintro e w' ⟨rfl, rfl⟩
        rw [← HQ.out]
        go_wp2
        go_ret
        exact ⟨ret_bool (by rw [HR.out, ← HP.out, ← HQ.out, ← HN.out, ← HM.out]; simp), rfl⟩
      · have hb : ((n : Int) == m) = false := by simp; omega
        go_enter Try.func82, Try.ntmps82
        go_wp2_with fail
        refine (iPartIn_w _ _ _ HV.out).mono ?_
        rintro e w' ⟨rfl, rfl⟩
        rw [← HP.out]
        go_wp2_with fail
        refine (iPartIn_w _ _ _ HU.out).mono ?_
        rintro e w' ⟨rfl, rfl⟩
        rw [← HQ.out]
        go_wp2
        go_ret
        exact ⟨ret_bool (by rw [HR.out, ← HP.out, ← HQ.out, ← HN.out, ← HM.out]; simp [hnm]), rfl⟩

set_option maxHeartbeats 800000 in
theorem l2Two_v (v u : Value) (xs ys : List Int) (w : World) (hv : RdV w v xs) (hu : RdV w u ys) :
    Calls Try.prog 84 #[v, u] w fun e w' => e = .returned (.bool (alike xs ys)) ∧ w = w' := by
  have HV := Lib.hid hv
  have HU := Lib.hid hu
  have hlv : ∃ ao ca, v = .slice ao xs.length ca := by obtain ⟨ao, ca, h, _⟩ := hv; exact ⟨ao, ca, h⟩
  have hlu : ∃ ao ca, u = .slice ao ys.length ca := by obtain ⟨ao, ca, h, _⟩ := hu; exact ⟨ao, ca, h⟩
  have hbv : xs.length ≤ 9223372036854775807 := by obtain ⟨_, _, _, _, h1, h2⟩ := hv; unfold maxLen at h2; omega
  have hbu : ys.length ≤ 9223372036854775807 := by obtain ⟨_, _, _, _, h1, h2⟩ := hu; unfold maxLen at h2; omega
  clear hv hu
  obtain ⟨ao, ca, rfl⟩ := hlv
  obtain ⟨bo, cb, rfl⟩ := hlu
  have hr : alike xs ys = (partIn xs && partIn ys && decide (xs.length = ys.length)) := rfl
  have HR := Lib.hid hr
  clear hr
  obtain ⟨n, hn⟩ : ∃ n, n = xs.length := ⟨_, rfl⟩
  obtain ⟨m, hm⟩ : ∃ m, m = ys.length := ⟨_, rfl⟩
  have HN := Lib.hid hn
  have HM := Lib.hid hm
  rw [← hn] at HV hbv ⊢
  rw [← hm] at HU hbu ⊢
  clear hn hm
  obtain ⟨p, hp⟩ : ∃ p, p = partIn xs := ⟨_, rfl⟩
  obtain ⟨q, hq⟩ : ∃ q, q = partIn ys := ⟨_, rfl⟩
  have HP := Lib.hid hp
  have HQ := Lib.hid hq
  clear hp hq
  cases p
  · go_enter Try.func84, Try.ntmps84
    go_wp2_with fail
    refine (sPartIn_w _ _ _ HV.out).mono ?_
    rintro e w' ⟨rfl, rfl⟩
    rw [← HP.out]
    go_wp2
    go_ret
    exact ⟨ret_bool (by rw [HR.out, ← HP.out]; simp), rfl⟩
  · cases q
    · go_enter Try.func84, Try.ntmps84
      go_wp2_with fail
      refine (sPartIn_w _ _ _ HV.out).mono ?_
      rintro e w' ⟨rfl, rfl⟩
      rw [← HP.out]
      go_wp2_with fail
      refine (sPartIn_w _ _ _ HU.out).mono ?_
      rintro e w' ⟨rfl, rfl⟩
      rw [← HQ.out]
      go_wp2
      go_ret
      exact ⟨ret_bool (by rw [HR.out, ← HQ.out]; simp), rfl⟩
    · by_cases hnm : n = m
      · subst hnm
        go_enter Try.func84, Try.ntmps84
        go_wp2_with fail
        refine (sPartIn_w _ _ _ HV.out).mono ?_
        rintro e w' ⟨rfl, rfl⟩
        rw [← HP.out]
        go_wp2_with fail
        refine (sPartIn_w _ _ _ HU.out).mono ?_
        rintro e w' ⟨rfl, rfl⟩
        rw [← HQ.out]
        go_wp2
        go_ret
        exact ⟨ret_bool (by rw [HR.out, ← HP.out, ← HQ.out, ← HN.out, ← HM.out]; simp), rfl⟩
      · have hb : ((n : Int) == m) = false := by simp; omega
        go_enter Try.func84, Try.ntmps84
        go_wp2_with fail
        refine (sPartIn_w _ _ _ HV.out).mono ?_
        rintro e w' ⟨rfl, rfl⟩
        rw [← HP.out]
        go_wp2_with fail
        refine (sPartIn_w _ _ _ HU.out).mono ?_
        rintro e w' ⟨rfl, rfl⟩
        rw [← HQ.out]
        go_wp2
        go_ret
        exact ⟨ret_bool (by rw [HR.out, ← HP.out, ← HQ.out, ← HN.out, ← HM.out]; simp [hnm]), rfl⟩

set_option maxHeartbeats 1600000 in
theorem isFiner_v (v u : Value) (xs ys : List Int) (w : World) (hv : RdV w v xs) (hu : RdV w u ys) (h1 : 1 ≤ xs.length) (h8 : xs.length ≤ 8) (hlen : ys.length = xs.length) :
    Calls Try.prog 83 #[v, u] w (QB w (finerB xs ys)) := by
  obtain ⟨bx, ox, cx, rfl, hcx, hbx, hcx1, hcx2⟩ := rdv_cells hv h1
  obtain ⟨by', oy, cy, rfl, hcy, hby, hcy1, hcy2⟩ := rdv_cells hu (by omega)
  have HV := Lib.hid hv
  clear hv hu
  obtain ⟨n, hn⟩ : ∃ n, n = xs.length := ⟨_, rfl⟩
  have HN := Lib.hid hn
  have HLY := Lib.hid hlen
  rw [hlen]
  rw [← hn] at HV h1 h8 HLY ⊢
  have hidx : ∀ k, k < n → xs.getD k 0 ∈ xs ∧ xs.idxOf (xs.getD k 0) < n := fun k hk => by
    have hm : xs.getD k 0 ∈ xs := mem_of_getD (by omega) rfl
    have := List.idxOf_lt_length_of_mem hm
    exact ⟨hm, by omega⟩
  have HIDX := Lib.hid hidx
  clear hn hlen hidx hcx1 hcx2 hcy1 hcy2
  go_enter Try.func83, Try.ntmps83
  go_wp2
  go_loopw [9] (fun i wr => ∃ k : Nat, k ≤ n ∧ i = .int .i64 k ∧ finerTo xs ys k = true ∧ Quiet w wr) (fun i _ => n - (intOf i).toNat)
  case atStart => exact ⟨0, Nat.zero_le _, rfl, finerTo_zero _ _, Quiet.refl _⟩
  case round =>
    obtain ⟨k, hk, rfl, hf, hq⟩ := hrel
    have hcx := hq.cells hcx
    have hcy := hq.cells hcy
    have HF := Lib.hid hf
    clear hf
    by_cases hlt : k < n
    · have hc1 := cells_at hcx k (by have := HN.out; omega)
      have hc2 := cells_at hcy k (by have := HLY.out; omega)
      obtain ⟨hmem, hp⟩ := HIDX.out k hlt
      have hc3 := cells_at hcy (xs.idxOf (xs.getD k 0)) (by have := HLY.out; omega)
      obtain ⟨x, hx⟩ : ∃ x, x = xs.getD k 0 := ⟨_, rfl⟩
      rw [← hx] at hc1 hc3 hp hmem
      obtain ⟨p, hpe⟩ : ∃ p, p = xs.idxOf x := ⟨_, rfl⟩
      rw [← hpe] at hc3 hp
      obtain ⟨y, hy⟩ : ∃ y, y = ys.getD k 0 := ⟨_, rfl⟩
      obtain ⟨z, hz⟩ : ∃ z, z = ys.getD p 0 := ⟨_, rfl⟩
      rw [← hy] at hc2
      rw [← hz] at hc3
      have HX := Lib.hid hx
      have HP := Lib.hid hpe
      have HY := Lib.hid hy
      have HZ := Lib.hid hz
      have hI : ∀ q, Calls Try.prog 89 #[.slice (some ⟨bx, ox, none⟩) n cx, .int .i64 x] (wr.drewN q) fun e w' => e = .returned (.int .i64 p) ∧ w' = wr.drewN q := fun q => by
        have := slicesIndex_any (some ⟨bx, ox, none⟩) cx xs x (wr.drewN q) (.inr ⟨bx, ox, rfl, hcx⟩) (by have := HN.out; omega) hmem
        rw [← hpe, ← HN.out] at this
        exact this.mono fun _ _ ⟨a, b⟩ => ⟨a, b.symm⟩
      have HI := Lib.hid hI
      have b1 : (k : Int) < n := by omega
      have b2 : (p : Int) < n := by omega
      have b3 : (0 : Int) ≤ (p : Int) := by omega
      clear hx hpe hy hz hI hmem
      by_cases hyz : y = z
      · subst hyz
        go_wp2
        go_quiet ((go_at_call 89; exact Calls.quiet_of_same (HI.out _)))
        go_wp2
        go_roundw
        case rel => exact ⟨k + 1, by omega, by go_num, finerTo_step HF.out (by rw [← HX.out, ← HP.out, ← HY.out, ← HZ.out]), hq.drewN _⟩
        case measure => simp [intOf]; omega
      · have hb : (y != z) = true := by simpa using hyz
        go_wp2
        go_quiet ((go_at_call 89; exact Calls.quiet_of_same (HI.out _)))
        go_wp2
        go_ret
        exact ⟨ret_bool (finerB_no (k := k) (by have := HN.out; omega) (by rw [← HX.out, ← HP.out, ← HY.out, ← HZ.out]; exact hyz)).symm, hq.drewN _⟩
    · have hkn : k = n := by omega
      subst hkn
      go_wp2
      go_ret
      exact ⟨ret_bool (by have := HF.out; rw [HN.out] at this; exact this.symm), hq⟩

def pairsOk (xs ys : List Int) (i : Nat) : Prop := ∀ p, p < i → ∀ q, q < p → xs.getD p 0 = xs.getD q 0 → ys.getD p 0 = ys.getD q 0
def rowOk (xs ys : List Int) (p j : Nat) : Prop := ∀ q, q < j → xs.getD p 0 = xs.getD q 0 → ys.getD p 0 = ys.getD q 0

theorem pairsOk_zero (xs ys : List Int) : pairsOk xs ys 0 := fun p hp => by omega
theorem rowOk_zero (xs ys : List Int) (p : Nat) : rowOk xs ys p 0 := fun p hp => by omega
theorem pairsOk_step {xs ys : List Int} {i : Nat} (h : pairsOk xs ys i) (k : rowOk xs ys i i) : pairsOk xs ys (i + 1) := fun p hp q hq e => by
  by_cases hpi : p = i
  · subst hpi; exact k q hq e
  · exact h p (by omega) q hq e
theorem rowOk_step {xs ys : List Int} {p j : Nat} (h : rowOk xs ys p j) (k : xs.getD p 0 = xs.getD j 0 → ys.getD p 0 = ys.getD j 0) : rowOk xs ys p (j + 1) := fun q hq e => by
  by_cases hqj : q = j
  · subst hqj; exact k e
  · exact h q (by omega) e
theorem pairsOk_end {xs ys : List Int} (h : pairsOk xs ys xs.length) : finerB xs ys = true := finer_iff.2 fun i k hi hk e => by
  rcases Nat.lt_trichotomy i k with h1 | h1 | h1
  · exact (h k hk i h1 e.symm).symm
  · rw [h1]
  · exact h i hi k h1 e
theorem finer_not {xs ys : List Int} {i k : Nat} (hi : i < xs.length) (hk : k < xs.length) (e : xs.getD i 0 = xs.getD k 0) (ne : ys.getD i 0 ≠ ys.getD k 0) : finerB xs ys = false := by
  cases h : finerB xs ys
  · rfl
  · exact absurd (finer_iff.1 h i k hi hk e) ne

set_option maxHeartbeats 1600000 in
theorem l2Finer_v (v u : Value) (xs ys : List Int) (w : World) (hv : RdV w v xs) (hu : RdV w u ys) (h1 : 1 ≤ xs.length) (h8 : xs.length ≤ 8) (hlen : ys.length = xs.length) :
    Calls Try.prog 85 #[v, u] w (QB w (finerB xs ys)) := by
  obtain ⟨bx, ox, cx, rfl, hcx, hbx, hcx1, hcx2⟩ := rdv_cells hv h1
  obtain ⟨by', oy, cy, rfl, hcy, hby, hcy1, hcy2⟩ := rdv_cells hu (by omega)
  clear hv hu
  obtain ⟨n, hn⟩ : ∃ n, n = xs.length := ⟨_, rfl⟩
  have HN := Lib.hid hn
  have HLY := Lib.hid hlen
  rw [hlen]
  rw [← hn] at h1 h8 HLY ⊢
  clear hn hlen hcx1 hcx2 hcy1 hcy2
  go_enter Try.func85, Try.ntmps85
  go_wp2
  go_loopw [5] (fun i wr => ∃ k : Nat, k ≤ n ∧ i = .int .i64 k ∧ pairsOk xs ys k ∧ Quiet w wr) (fun i _ => n - (intOf i).toNat)
  case atStart => exact ⟨0, Nat.zero_le _, rfl, pairsOk_zero _ _, Quiet.refl _⟩
  case round =>
    obtain ⟨k, hk, rfl, hf, hq⟩ := hrel
    by_cases hlt : k < n
    · obtain ⟨wo, hwo⟩ : ∃ wo : World, wo = wr := ⟨_, rfl⟩
      subst hwo
      go_wp2
      go_loopw [6] (fun i wr => ∃ j : Nat, j ≤ k ∧ i = .int .i64 j ∧ rowOk xs ys k j ∧ Quiet w wr) (fun i _ => k - (intOf i).toNat)
      case atStart => exact ⟨0, Nat.zero_le _, rfl, rowOk_zero _ _ _, hq⟩
      case round =>
        obtain ⟨j, hj, rfl, hg, hq2⟩ := hrel
        by_cases hjk : j < k
        · have hc1 := cells_at (hq2.cells hcx) k (by have := HN.out; omega)
          have hc2 := cells_at (hq2.cells hcx) j (by have := HN.out; omega)
          have hc3 := cells_at (hq2.cells hcy) k (by have := HLY.out; omega)
          have hc4 := cells_at (hq2.cells hcy) j (by have := HLY.out; omega)
          obtain ⟨x, hx⟩ : ∃ x, x = xs.getD k 0 := ⟨_, rfl⟩
          obtain ⟨y, hy⟩ : ∃ y, y = xs.getD j 0 := ⟨_, rfl⟩
          obtain ⟨s, hs⟩ : ∃ s, s = ys.getD k 0 := ⟨_, rfl⟩
          obtain ⟨z, hz⟩ : ∃ z, z = ys.getD j 0 := ⟨_, rfl⟩
          rw [← hx] at hc1
          rw [← hy] at hc2
          rw [← hs] at hc3
          rw [← hz] at hc4
          have HX := Lib.hid hx
          have HY := Lib.hid hy
          have HS := Lib.hid hs
          have HZ := Lib.hid hz
          have b1 : (k : Int) < n := by omega
          have b2 : (j : Int) < n := by omega
          have b3 : (j : Int) < k := by omega
          clear hx hy hs hz
          by_cases hxy : x = y
          · subst hxy
            by_cases hsz : s = z
            · subst hsz
              go_wp2
              go_quiet (fail)
              go_wp2
              go_roundw
              case rel => exact ⟨j + 1, by omega, by go_num, rowOk_step hg (fun _ => by rw [← HS.out, ← HZ.out]), hq2.drewN _⟩
              case measure => simp [intOf]; omega
            · have hb : (s != z) = true := by simpa using hsz
              go_wp2
              go_quiet (fail)
              go_wp2
              go_ret
              exact ⟨ret_bool (finer_not (i := k) (k := j) (by have := HN.out; omega) (by have := HN.out; omega) (by rw [← HX.out, ← HY.out]) (by rw [← HS.out, ← HZ.out]; exact hsz)).symm, hq2.drewN _⟩
          · have hb : (x == y) = false := by simpa using hxy
            go_wp2
            go_quiet (fail)
            go_wp2
            go_roundw
            case rel => exact ⟨j + 1, by omega, by go_num, rowOk_step hg (fun e => absurd e (by rw [← HX.out, ← HY.out]; exact hxy)), hq2.drewN _⟩
            case measure => simp [intOf]; omega
        · have hjk : j = k := by omega
          subst hjk
          go_wp2
          go_roundw
          case rel => exact ⟨j + 1, by omega, by go_num, pairsOk_step hf hg, hq2⟩
          case measure => simp [intOf]; omega
    · have hkn : k = n := by omega
      subst hkn
      go_wp2
      go_ret
      exact ⟨ret_bool (by have := hf; rw [HN.out] at this; exact (pairsOk_end this).symm), hq⟩

theorem alike_lens {xs ys : List Int} (h : alike xs ys = true) : 1 ≤ xs.length ∧ xs.length ≤ 8 ∧ ys.length = xs.length := by
  obtain ⟨h1, _, h3⟩ := alike_iff.1 h
  have := partIn_len h1
  omega

theorem areAlike_is (b : Bool) (v u : Value) (xs ys : List Int) (w : World) (hv : RdV w v xs) (hu : RdV w u ys) (h : Hid (alike xs ys = b)) :
    Calls Try.prog 82 #[v, u] w fun e w' => e = .returned (.bool b) ∧ w = w' := by
  rw [← h.out]; exact areAlike_v v u xs ys w hv hu

theorem l2Two_is (b : Bool) (v u : Value) (xs ys : List Int) (w : World) (hv : RdV w v xs) (hu : RdV w u ys) (h : Hid (alike xs ys = b)) :
    Calls Try.prog 84 #[v, u] w fun e w' => e = .returned (.bool b) ∧ w = w' := by
  rw [← h.out]; exact l2Two_v v u xs ys w hv hu

theorem iFinerIn_q (v u : Value) (xs ys : List Int) (w : World) (hv : RdV w v xs) (hu : RdV w u ys) :
    Calls Try.prog 45 #[v, u] w (QB w (finerIn xs ys)) := by
  have HV := Lib.hid hv
  have HU := Lib.hid hu
  clear hv hu
  cases ha : alike xs ys
  · have HA := Lib.hid ha
    have hr : finerIn xs ys = false := by rw [finerIn, ha]; rfl
    rw [hr]
    clear ha hr
    go_enter Try.func45, Try.ntmps45
    go_wp2_with fail
    refine (areAlike_is false _ _ _ _ _ HV.out HU.out HA).mono ?_
    rintro e w' ⟨rfl, rfl⟩
    go_wp2
    go_ret
    exact ⟨rfl, Quiet.refl _⟩
  · have HA := Lib.hid ha
    obtain ⟨h1, h8, hl⟩ := alike_lens ha
    have HL := Lib.hid hl
    have hr : finerIn xs ys = finerB xs ys := by rw [finerIn, ha]; rfl
    rw [hr]
    clear ha hr hl
    go_enter Try.func45, Try.ntmps45
    go_wp2_with fail
    refine (areAlike_is true _ _ _ _ _ HV.out HU.out HA).mono ?_
    rintro e w' ⟨rfl, rfl⟩
    go_wp2_with fail
    refine (isFiner_v _ _ _ _ _ HV.out HU.out h1 h8 HL.out).mono ?_
    rintro e w' ⟨rfl, hq⟩
    go_wp2
    go_ret
    exact ⟨rfl, hq⟩

theorem sFinerIn_q (v u : Value) (xs ys : List Int) (w : World) (hv : RdV w v xs) (hu : RdV w u ys) :
    Calls Try.prog 46 #[v, u] w (QB w (finerIn xs ys)) := by
  have HV := Lib.hid hv
  have HU := Lib.hid hu
  clear hv hu
  cases ha : alike xs ys
  · have HA := Lib.hid ha
    have hr : finerIn xs ys = false := by rw [finerIn, ha]; rfl
    rw [hr]
    clear ha hr
    go_enter Try.func46, Try.ntmps46
    go_wp2_with fail
    refine (l2Two_is false _ _ _ _ _ HV.out HU.out HA).mono ?_
    rintro e w' ⟨rfl, rfl⟩
    go_wp2
    go_ret
    exact ⟨rfl, Quiet.refl _⟩
  · have HA := Lib.hid ha
    obtain ⟨h1, h8, hl⟩ := alike_lens ha
    have HL := Lib.hid hl
    have hr : finerIn xs ys = finerB xs ys := by rw [finerIn, ha]; rfl
    rw [hr]
    clear ha hr hl
    go_enter Try.func46, Try.ntmps46
    go_wp2_with fail
    refine (l2Two_is true _ _ _ _ _ HV.out HU.out HA).mono ?_
    rintro e w' ⟨rfl, rfl⟩
    go_wp2_with fail
    refine (l2Finer_v _ _ _ _ _ HV.out HU.out h1 h8 HL.out).mono ?_
    rintro e w' ⟨rfl, hq⟩
    go_wp2
    go_ret
    exact ⟨rfl, hq⟩

theorem iFinerIn_v (v u : Value) (xs ys : List Int) (w : World) (hv : RdV w v xs) (hu : RdV w u ys) :
    Calls Try.prog 45 #[v, u] w (GivesB w (finerIn xs ys)) := (iFinerIn_q v u xs ys w hv hu).mono fun _ _ h => h.gives

theorem sFinerIn_v (v u : Value) (xs ys : List Int) (w : World) (hv : RdV w v xs) (hu : RdV w u ys) :
    Calls Try.prog 46 #[v, u] w (GivesB w (finerIn xs ys)) := (sFinerIn_q v u xs ys w hv hu).mono fun _ _ h => h.gives

end Go.Proofs.Ytbmpchpcihnbdaa

/-
  The contracts of FinerMeet (impl and spec).
-/
namespace Go.Proofs.Ytbmpchpcihnbdaa
set_option linter.unusedSimpArgs false
set_option linter.unusedVariables false
set_option linter.unnecessarySimpa false
open Go.RowKit
set_option maxRecDepth 100000

def mix (c : Int) (xs ys : List Int) : List Int := (List.range xs.length).map fun i => c * xs.getD i 0 + ys.getD i 0

theorem mix_length (c : Int) (xs ys : List Int) : (mix c xs ys).length = xs.length := by simp [mix]
theorem mix_getD (c : Int) (xs ys : List Int) (i : Nat) (h : i < xs.length) : (mix c xs ys).getD i 0 = c * xs.getD i 0 + ys.getD i 0 := by
  simp [mix, List.getD, h]

theorem mix_pat (xs ys : List Int) (hx : Small xs) (hy : Small ys) (hl : ys.length = xs.length) : kOut (mix 10 xs ys) = kOut (mix 8 xs ys) := by
  refine (kOut_pat (mix 8 xs ys) (mix 10 xs ys) (by simp [mix_length]) fun i j hi hj => ?_).1
  rw [mix_length] at hi hj
  rw [mix_getD _ _ _ _ hi, mix_getD _ _ _ _ hj, mix_getD _ _ _ _ hi, mix_getD _ _ _ _ hj]
  have h1 := hx i hi
  have h2 := hx j hj
  have h3 := hy i (by omega)
  have h4 := hy j (by omega)
  omega

def finerMeet (xs ys : List Int) : List Int × Bool := if alike xs ys then (kOut (mix 8 xs ys), true) else ([], false)

theorem finerMeet_len (xs ys : List Int) (h : xs.length ≤ 1048576) (_ : ys.length ≤ 1048576) : (finerMeet xs ys).1.length ≤ 2305843009213693952 := by
  unfold finerMeet
  split
  · rw [kOut_length, mix_length]; omega
  · simp

set_option maxHeartbeats 1600000 in
theorem iFinerMeet_v (v u : Value) (xs ys : List Int) (w : World) (hv : RdV w v xs) (hu : RdV w u ys) :
    Calls Try.prog 47 #[v, u] w (FreshLB w (finerMeet xs ys)) := by
  have HV := Lib.hid hv
  have HU := Lib.hid hu
  cases ha : alike xs ys
  · have HA := Lib.hid ha
    have hr : finerMeet xs ys = ([], false) := by simp [finerMeet, ha]
    rw [hr]
    clear ha hr hv hu
    go_enter Try.func47, Try.ntmps47
    go_wp2_with fail
    refine (areAlike_is false _ _ _ _ _ HV.out HU.out HA).mono ?_
    rintro e w' ⟨rfl, rfl⟩
    go_wp2
    go_ret2
    exact ⟨_, rfl, own_nil _ _, Below.refl _ _⟩
  · have HA := Lib.hid ha
    obtain ⟨h1, h8, hl⟩ := alike_lens ha
    obtain ⟨hpx, hpy, _⟩ := alike_iff.1 ha
    have HSX := Lib.hid (partIn_small hpx)
    have HSY := Lib.hid (partIn_small hpy)
    have hr : finerMeet xs ys = (kOut (mix 8 xs ys), true) := by simp [finerMeet, ha]
    rw [hr]
    obtain ⟨bx, ox, cx, rfl, hcx, hbx, hcx1, hcx2⟩ := rdv_cells hv h1
    obtain ⟨by', oy, cy, rfl, hcy, hby, hcy1, hcy2⟩ := rdv_cells hu (by omega)
    obtain ⟨n, hn⟩ : ∃ n, n = xs.length := ⟨_, rfl⟩
    have HN := Lib.hid hn
    have HLY := Lib.hid hl
    rw [hl] at HU ⊢
    rw [← hn] at HV HU h1 h8 HLY ⊢
    obtain ⟨i0, hi, hz0, hz1, hz2⟩ := info_parts Try.infoInt
    clear ha hr hv hu hn hl hpx hpy hcx1 hcx2 hcy1 hcy2
    go_enter Try.func47, Try.ntmps47
    go_wp2_with fail
    refine (areAlike_is true _ _ _ _ _ HV.out HU.out HA).mono ?_
    rintro e w' ⟨rfl, rfl⟩
    go_wp2_with (at_make; refine wpList_make_full _ rfl _ _ 30 rfl w.heap.size 3 i0 (.int .i64 0) 1 Try.underlying30 hi hz0 hz1 _ _ _ _ n rfl rfl rfl rfl (by rw [hz2]; omega) (by unfold maxLen; omega) (Nat.le_refl _) ?_)
    intro w1 hown1 hgrow1
    have hb1 : Below w.heap.size w w1 := (Below.refl _ _).grown hgrow1 (Nat.le_refl _) (fun k h => by cases h)
    have hown := own_made hown1
    clear hown1 hgrow1
    go_wp2
    go_loopw [17] (fun i wr => ∃ k : Nat, k ≤ n ∧ i = .int .i64 k ∧ Own wr w.heap.size (.slice (some ⟨w.heap.size, 0, none⟩) n n) ((mix 8 xs ys).take k ++ List.replicate (n - k) 0) ∧ Below w.heap.size w wr) (fun i _ => n - (intOf i).toNat)
    case atStart => exact ⟨0, Nat.zero_le _, rfl, by simpa using hown, hb1⟩
    case round =>
      obtain ⟨k, hk, rfl, hown, hbel⟩ := hrel
      by_cases hlt : k < n
      · have hc1 := cells_at (cells_below hcx hbel) k (by have := HN.out; omega)
        have hc2 := cells_at (cells_below hcy hbel) k (by have := HLY.out; omega)
        have hml : ((mix 8 xs ys).take k ++ List.replicate (n - k) 0).length = n := by simp [mix_length, ← HN.out]; omega
        have hmg := mix_getD 8 xs ys k (by rw [← HN.out]; exact hlt)
        obtain ⟨hx0, hx7⟩ := HSX.out k (by rw [← HN.out]; exact hlt)
        obtain ⟨hy0, hy7⟩ := HSY.out k (by rw [HLY.out]; exact hlt)
        obtain ⟨x, hx⟩ : ∃ x, x = xs.getD k 0 := ⟨_, rfl⟩
        obtain ⟨y, hy⟩ : ∃ y, y = ys.getD k 0 := ⟨_, rfl⟩
        rw [← hx] at hc1 hx0 hx7 hmg
        rw [← hy] at hc2 hy0 hy7 hmg
        have hfz := own_frozen hown k
        obtain ⟨v0, hv0⟩ : ∃ v0, wr.cell? ⟨w.heap.size, k, none⟩ = some v0 := ⟨_, own_cell hown k (by rw [hml]; omega)⟩
        obtain ⟨hst, hgs⟩ := own_stored hown hml.symm k (x * 8 + y)
        rw [HN.out, ← mix_length 8 xs ys, set_stage (mix 8 xs ys) k (by rw [mix_length, ← HN.out]; exact hlt) _ (by rw [hmg]; omega), mix_length, ← HN.out] at hst
        have HST := Lib.hid hst
        have b1 : (k : Int) < n := by omega
        have b2 : IntKind.i64.wrap (x * 8) = x * 8 := IntWalk.i64_in _ (by omega)
        have b3 : IntKind.i64.wrap (x * 8 + y) = x * 8 + y := IntWalk.i64_in _ (by omega)
        clear hst hgs hml hmg hx hy hown
        go_wp2
        go_still_tail 13, (by kernel_rfl)
        change wpList _ _ _ _ _ wr.drew
        go_wp2
        go_roundw
        case rel => exact ⟨k + 1, by omega, by go_num, own_drew1 HST.out, (hbel.setCell (Nat.le_refl _) _).drew⟩
        case measure => simp [intOf]; omega
      · have hkn : k = n := by omega
        subst hkn
        rw [Nat.sub_self, List.replicate_zero, List.append_nil, List.take_of_length_le (by rw [mix_length, ← HN.out]; omega)] at hown
        have HO := Lib.hid (own_rdv hown)
        clear hown
        go_wp2_with fail
        refine (kernel_v _ _ _ HO.out (by rw [mix_length, ← HN.out]; omega)).mono ?_
        rintro e w2 ⟨u, rfl, ho, hb⟩
        go_wp2
        go_ret2
        exact ⟨_, rfl, own_mono ho hbel.size, below_step hbel hb⟩

set_option maxHeartbeats 1600000 in
theorem sFinerMeet_v (v u : Value) (xs ys : List Int) (w : World) (hv : RdV w v xs) (hu : RdV w u ys) :
    Calls Try.prog 50 #[v, u] w (FreshLB w (finerMeet xs ys)) := by
  have HV := Lib.hid hv
  have HU := Lib.hid hu
  cases ha : alike xs ys
  · have HA := Lib.hid ha
    have hr : finerMeet xs ys = ([], false) := by simp [finerMeet, ha]
    rw [hr]
    clear ha hr hv hu
    go_enter Try.func50, Try.ntmps50
    go_wp2_with fail
    refine (l2Two_is false _ _ _ _ _ HV.out HU.out HA).mono ?_
    rintro e w' ⟨rfl, rfl⟩
    go_wp2
    go_ret2
    exact ⟨_, rfl, own_empty _ _ (Nat.le_refl _), (Below.refl _ _).alloc (Nat.le_refl _) _⟩
  · have HA := Lib.hid ha
    obtain ⟨h1, h8, hl⟩ := alike_lens ha
    obtain ⟨hpx, hpy, _⟩ := alike_iff.1 ha
    have HSX := Lib.hid (partIn_small hpx)
    have HSY := Lib.hid (partIn_small hpy)
    have hr : finerMeet xs ys = (kOut (mix 10 xs ys), true) := by simp [finerMeet, ha, mix_pat xs ys HSX.out HSY.out hl]
    rw [hr]
    obtain ⟨bx, ox, cx, rfl, hcx, hbx, hcx1, hcx2⟩ := rdv_cells hv h1
    obtain ⟨by', oy, cy, rfl, hcy, hby, hcy1, hcy2⟩ := rdv_cells hu (by omega)
    obtain ⟨n, hn⟩ : ∃ n, n = xs.length := ⟨_, rfl⟩
    have HN := Lib.hid hn
    have HLY := Lib.hid hl
    rw [hl] at HU ⊢
    rw [← hn] at HV HU h1 h8 HLY ⊢
    clear ha hr hv hu hn hl hpx hpy hcx1 hcx2 hcy1 hcy2
    go_enter Try.func50, Try.ntmps50
    go_wp2_with fail
    refine (l2Two_is true _ _ _ _ _ HV.out HU.out HA).mono ?_
    rintro e w' ⟨rfl, rfl⟩
    go_wp2
    go_loopw [6, 7] (fun u i wr => ∃ k g cap : Nat, k ≤ n ∧ i = .int .i64 k ∧ u = .slice (some ⟨g, 0, none⟩) k cap ∧ Own wr w.heap.size (.slice (some ⟨g, 0, none⟩) k cap) ((mix 10 xs ys).take k) ∧ Below w.heap.size w wr) (fun _ i _ => n - (intOf i).toNat)
    case atStart => exact ⟨0, w.heap.size, 0, Nat.zero_le _, rfl, rfl, own_empty w _ (Nat.le_refl _), (Below.refl _ _).alloc (Nat.le_refl _) _⟩
    case round =>
      obtain ⟨k, g, cap, hk, rfl, rfl, hown, hbel⟩ := hrel
      by_cases hlt : k < n
      · have hc1 := cells_at (cells_below hcx hbel) k (by have := HN.out; omega)
        have hc2 := cells_at (cells_below hcy hbel) k (by have := HLY.out; omega)
        have hmg := mix_getD 10 xs ys k (by rw [← HN.out]; exact hlt)
        have hts := take_snoc (mix 10 xs ys) k (by rw [mix_length, ← HN.out]; exact hlt)
        obtain ⟨hx0, hx7⟩ := HSX.out k (by rw [← HN.out]; exact hlt)
        obtain ⟨hy0, hy7⟩ := HSY.out k (by rw [HLY.out]; exact hlt)
        obtain ⟨x, hx⟩ : ∃ x, x = xs.getD k 0 := ⟨_, rfl⟩
        obtain ⟨y, hy⟩ : ∃ y, y = ys.getD k 0 := ⟨_, rfl⟩
        rw [← hx] at hc1 hx0 hx7 hmg
        rw [← hy] at hc2 hy0 hy7 hmg
        rw [hmg] at hts
        have HTS := Lib.hid hts
        have b1 : (k : Int) < n := by omega
        have b2 : IntKind.i64.wrap (10 * x) = 10 * x := IntWalk.i64_in _ (by omega)
        have b3 : IntKind.i64.wrap (10 * x + y) = 10 * x + y := IntWalk.i64_in _ (by omega)
        have HO := Lib.hid hown
        clear hmg hts hx hy hown
        go_wp2
        go_region_held3 (fun w' => w'.cell? ⟨bx, ox + k, none⟩ = some (.int .i64 x) ∧ w'.cell? ⟨by', oy + k, none⟩ = some (.int .i64 y)) (first | exact ⟨hc1, hc2⟩ | exact ⟨cell_keep _ hc1, cell_keep _ hc2⟩ | exact ⟨cell_keepd _ hc1, cell_keepd _ hc2⟩ | exact ⟨hw1, hw2⟩) (first | (refine step_cat rfl _ _ (by rfl) w.heap.size g k cap ((mix 10 xs ys).take k) (by rfl) (own_drew1 (own_alloc HO.out _)) (by rw [List.length_take, mix_length, ← HN.out]; omega) ⟨wr.heap.size, 0, none⟩ 1 1 (by rfl) [10 * x + y] rfl (cells_one (cell_new1 _ _ _)) (by omega) (by have := hbel.size; simp; omega) (k + 1) rfl ?_; intro g' cap' w2 hown2 hgr2 hg2; have HO2 := Lib.hid hown2; have hw1 := hgr2.cell (cell_keepd _ hc1) (by simp; have := (own_lt HO.out g rfl).1; omega); have hw2 := hgr2.cell (cell_keepd _ hc2) (by simp; have := (own_lt HO.out g rfl).1; omega); have hbel2 : Below w.heap.size w w2 := (hbel.alloc hbel.size _).drew.grown hgr2 (by have := hbel.size; simp; omega) (fun q hq => by cases hq; exact (own_lt HO.out g rfl).1); clear hown2 hgr2 hg2))
        go_wp2
        go_roundw
        case rel => exact ⟨k + 1, g', cap', by omega, by go_num, rfl, by rw [HTS.out]; exact HO2.out, hbel2⟩
        case measure => simp [intOf]; omega
      · have hkn : k = n := by omega
        subst hkn
        rw [List.take_of_length_le (by rw [mix_length, ← HN.out]; omega)] at hown
        have HO := Lib.hid (own_rdv hown)
        clear hown
        go_wp2_with fail
        refine (l1Kernel_v _ _ _ HO.out (by rw [mix_length, ← HN.out]; omega)).mono ?_
        rintro e w2 ⟨u, rfl, ho, hb⟩
        go_wp2
        go_ret2
        exact ⟨_, rfl, own_mono ho hbel.size, below_step hbel hb⟩

end Go.Proofs.Ytbmpchpcihnbdaa

/-
  The contract of spec.l91Two: two drawn lists.
-/
namespace Go.Proofs.Ytbmpchpcihnbdaa
set_option linter.unusedSimpArgs false
set_option linter.unusedVariables false
set_option linter.unnecessarySimpa false
open Go.RowKit
set_option maxRecDepth 100000

/-- Two drawn lists of at most nine numbers. -/
def TwoDrawn (w : World) (e : Ending) (w' : World) : Prop :=
  ∃ v u xs ys, e = .returned (.tuple #[v, u]) ∧ Own w' w.heap.size v xs ∧ Own w' w.heap.size u ys ∧ xs.length ≤ 9 ∧ ys.length ≤ 9 ∧ Below w.heap.size w w'

theorem apart_of_ge {w : World} {B g : Nat} {v : Value} {xs : List Int} (h : Own w B v xs) (hg : g < B) : v.ownBlock = none ∨ v.ownBlock ≠ some g := by
  cases hv : v.ownBlock with
  | none => exact .inl rfl
  | some k => exact .inr fun e => by have := (own_lt h k hv).1; cases e; omega

theorem below_of_grown {w w' : World} {g : Nat} (h : w.grownBy w' (some g)) (hg : w.heap.size ≤ g) : Below w.heap.size w w' :=
  ⟨h.os, h.tape, h.output, h.size, fun k hk => h.block k hk (fun e => by cases e; omega)⟩

theorem hne_of_bytes {w : World} {a : Option Addr} {m : Nat} (hbm : Bytes w a m) : 0 < m → ∀ x, a = some x → x.block ≠ w.heap.size := by
  intro h0 x hx
  rcases hbm with h | ⟨b, off, ha, hcs⟩
  · omega
  · obtain ⟨y, _, hc⟩ := hcs 0 h0
    have := World.block_lt_of_cell? w _ hc
    rw [ha] at hx
    cases hx
    exact Nat.ne_of_lt this

set_option maxHeartbeats 1600000 in
theorem l91Two_any (a : Option Addr) (len cap : Nat) (w : World) (hby : Bytes w a len) (hlen : len ≤ 1048576) (hc : len ≤ cap) (hcm : cap ≤ maxLen) :
    Calls Try.prog 81 #[.slice a len cap] w (TwoDrawn w) := by
  go_enter Try.func81, Try.ntmps81
  go_wp2_with fail
  refine (l6Open_any a len cap w hby hlen hc hcm).mono ?_
  rintro e w1 ⟨rfl, m, hm, hbm, hr1, hb1, hs1⟩
  have hne := hne_of_bytes hbm
  have HBM := Lib.hid hbm
  have HNE := Lib.hid hne
  obtain ⟨g, hg⟩ : ∃ g, g = w.heap.size := ⟨_, rfl⟩
  rw [← hg] at HNE hr1 ⊢
  have HG := Lib.hid hg
  have hgs : g < w1.heap.size := by omega
  have hG1 : w.grownBy w1 (some g) := ⟨hb1.os, hb1.tape, hb1.output, hb1.size, fun k hk _ => hb1.block k hk⟩
  clear hne hbm hg
  go_wp2_with fail
  refine (pick_z g a m cap 0 _ _ hr1 (bytes_grown HBM.out hG1 HNE.out) HNE.out hm (by omega) (by omega) (by omega)).mono ?_
  rintro e w2 ⟨t, rfl, ht, hr2, hg2, hz2⟩
  have hG2 := grown_trans hG1 hg2
  clear hr1 hG1 hg2
  go_wp2_with fail
  refine (l91Part_z g a m cap 1 _ _ hr2 (bytes_grown HBM.out hG2 HNE.out) HNE.out hm (by omega) (by omega) (by omega)).mono ?_
  rintro e w3 ⟨va, xs, q, rfl, oa, hl, hx, hr3, hq, hg3⟩
  have hG3 := grown_trans hG2 hg3
  clear hr2 hG2 hx
  have hs3 := hg3.size
  clear hg3
  have HOA := Lib.hid oa
  clear oa
  go_wp2_with fail
  refine (pick_z g a m cap q _ _ hr3 (bytes_grown HBM.out hG3 HNE.out) HNE.out hm (by omega) (by omega) (by omega)).mono ?_
  rintro e w4 ⟨t2, rfl, ht2, hr4, hg4, hz4⟩
  have HOA4 := Lib.hid (own_grown HOA.out hg4 (apart_of_ge HOA.out (by omega)))
  have hG4 := grown_trans hG3 hg4
  clear hr3 hG3 hg4
  have ht24 : t2 < 24 := by omega
  have hd : (t2 : Int) / 23 = 0 ∨ (t2 : Int) / 23 = 1 := by omega
  have hd0 : 0 ≤ (t2 : Int) / 23 := by omega
  have hd1 : (t2 : Int) / 23 ≤ 1 := by omega
  obtain ⟨d, hdd⟩ : ∃ d, d = (t2 : Int) / 23 := ⟨_, rfl⟩
  have HDD := Lib.hid hdd
  rw [← hdd] at hd0 hd1
  clear hdd hd
  go_wp2_with fail
  rw [← HDD.out]
  refine (l91Part_z g a m cap (q + 1) _ _ hr4 (bytes_grown HBM.out hG4 HNE.out) HNE.out hm (by omega) (by omega) (by omega)).mono ?_
  rintro e w5 ⟨vb, ys, q2, rfl, ob, hl2, hx2, hr5, hq2, hg5⟩
  have HOA5 := Lib.hid (own_grown HOA4.out hg5 (apart_of_ge HOA4.out (by omega)))
  have hG5 := grown_trans hG4 hg5
  have hs5 := hg5.size
  clear hr4 hG4 hx2 hg5
  have HOB := Lib.hid ob
  clear ob
  go_wp2_with fail
  refine (pick_z g a m cap q2 _ _ hr5 (bytes_grown HBM.out hG5 HNE.out) HNE.out hm (by omega) (by omega) (by omega)).mono ?_
  rintro e w6 ⟨t3, rfl, ht3, hr6, hg6, hz6⟩
  have HOA6 := Lib.hid (own_grown HOA5.out hg6 (apart_of_ge HOA5.out (by omega)))
  have HOB6 := Lib.hid (own_grown HOB.out hg6 (apart_of_ge HOB.out (by omega)))
  have hG6 := grown_trans hG5 hg6
  have hb6 : Below w.heap.size w w6 := below_of_grown hG6 (by rw [HG.out]; exact Nat.le_refl _)
  clear hr5 hG5 hr6 hg6 hG6
  have hB6 := hb6.size
  by_cases h3 : t3 = 0
  · subst h3
    cases ha : alike xs ys
    · have hr : finerMeet xs ys = ([], false) := by simp [finerMeet, ha]
      have HS := Lib.hid (fun (wx : World) (v u : Value) (h : RdV wx v xs) (k : RdV wx u ys) => hr ▸ sFinerMeet_v v u xs ys wx h k)
      clear ha hr
      go_wp2_with fail
      refine (HS.out _ _ _ (own_rdv HOA6.out) (own_rdv HOB6.out)).mono ?_
      rintro e w7 ⟨vm, rfl, om, hb7⟩
      have HOA7 := Lib.hid (own_below HOA6.out hb7)
      have HOB7 := Lib.hid (own_below HOB6.out hb7)
      have hb := below_step hb6 hb7
      clear om hb7
      go_wp2
      go_ret2
      exact ⟨_, _, xs, ys, rfl, own_mono HOA7.out (by omega), own_mono HOB7.out (by omega), hl.2, hl2.2, hb⟩
    · have hr : finerMeet xs ys = (kOut (mix 8 xs ys), true) := by simp [finerMeet, ha]
      have HS := Lib.hid (fun (wx : World) (v u : Value) (h : RdV wx v xs) (k : RdV wx u ys) => hr ▸ sFinerMeet_v v u xs ys wx h k)
      clear ha hr
      go_wp2_with fail
      refine (HS.out _ _ _ (own_rdv HOA6.out) (own_rdv HOB6.out)).mono ?_
      rintro e w7 ⟨vm, rfl, om, hb7⟩
      have HOM := Lib.hid om
      have HOB7 := Lib.hid (own_below HOB6.out hb7)
      have hb := below_step hb6 hb7
      clear om hb7
      go_wp2
      go_ret2
      exact ⟨_, _, kOut (mix 8 xs ys), ys, rfl, own_mono HOM.out hB6, own_mono HOB7.out (by omega), by rw [kOut_length, mix_length]; exact hl.2, hl2.2, hb⟩
  · have h31 : ((t3 : Int) == 0) = false := by simp; omega
    go_wp2
    go_ret2
    exact ⟨_, _, xs, ys, rfl, own_mono HOA6.out (by omega), own_mono HOB6.out (by omega), hl.2, hl2.2, hb6⟩

end Go.Proofs.Ytbmpchpcihnbdaa

