/-
  Words for memory: a slice of slices that reads as a list of lists of integers; one that the call itself made; what keeps both.
-/
import Derived.Test.YtbmpchpcihnbdaaPut
namespace Go.Proofs.Ytbmpchpcihnbdaa
set_option linter.unusedSimpArgs false
set_option linter.unusedVariables false
set_option linter.unnecessarySimpa false
open Go.RowKit

def apart (a b : Value) : Prop := a.ownBlock = none ∨ a.ownBlock ≠ b.ownBlock

/-- The value v is a slice of slices that reads as the lists xss. -/
def RdM (w : World) (v : Value) (xss : List (List Int)) : Prop :=
  ∃ ao cap, ∃ vs : List Value, vs.length = xss.length ∧ v = .slice ao xss.length cap ∧ xss.length ≤ cap ∧ cap ≤ maxLen ∧
    (xss = [] ∨ ∃ b off, ao = some ⟨b, off, none⟩ ∧ ∀ i, i < xss.length → w.cell? ⟨b, off + i, none⟩ = some (vs.getD i undef)) ∧
    ∀ i, i < xss.length → RdV w (vs.getD i undef) (xss.getD i [])

/-- The slice of slices v, made by the call in blocks from B on and below S, holds the lists xss; no two rows share a block. -/
def OwnM (w : World) (B S : Nat) (v : Value) (xss : List (List Int)) : Prop :=
  ∃ vs : List Value, vs.length = xss.length ∧ w.ownsRow B 30 1 v xss.length vs ∧ InB v B S ∧
    (∀ i, i < xss.length → Own w B (vs.getD i undef) (xss.getD i []) ∧ InB (vs.getD i undef) B S) ∧
    (∀ i j, i < j → j < xss.length → apart (vs.getD i undef) (vs.getD j undef))

/-- Nothing outside the blocks from B on and below S has turned; no block has come or gone. -/
structure Touch (w w' : World) (B S : Nat) : Prop where
  os : w'.os = w.os
  tape : w'.tape = w.tape
  output : w'.output = w.output
  size : w'.heap.size = w.heap.size
  block : ∀ k, (k < B ∨ S ≤ k) → w'.heap[k]? = w.heap[k]?

theorem Touch.refl (w : World) (B S : Nat) : Touch w w B S := ⟨rfl, rfl, rfl, rfl, fun _ _ => rfl⟩
theorem Touch.trans {a b c : World} {B S : Nat} (h : Touch a b B S) (k : Touch b c B S) : Touch a c B S :=
  ⟨k.os.trans h.os, k.tape.trans h.tape, k.output.trans h.output, k.size.trans h.size, fun i hi => (k.block i hi).trans (h.block i hi)⟩

theorem touch_of_grown {w w' : World} {v : Value} {B S : Nat} (h : w.grownBy w' v.ownBlock) (hs : w'.heap.size = w.heap.size) (hv : InB v B S) : Touch w w' B S := by
  refine ⟨h.os, h.tape, h.output, hs, fun k hk => ?_⟩
  by_cases hkl : k < w.heap.size
  · exact h.block k hkl fun e => by have := hv k e.symm; omega
  · rw [Array.getElem?_eq_none (by omega), Array.getElem?_eq_none (by omega)]

theorem own_touch {w w' : World} {B b s B1 S1 : Nat} {v : Value} {xs : List Int} (h : Own w B v xs) (ht : Touch w w' B1 S1) (hv : InB v b s) (hd : s ≤ B1 ∨ S1 ≤ b) : Own w' B v xs := by
  refine ⟨h.1, ?_⟩
  rcases h.2 with h2 | ⟨g, cap, cur, rfl, hb, hg, rest⟩
  · exact .inl h2
  · have := hv g rfl
    exact .inr ⟨g, cap, cur, rfl, hb, by rw [ht.block g (by omega)]; exact hg, rest⟩

theorem rd_touch {w w' : World} {B1 S1 : Nat} {ao : Option Addr} {xs : List Int} (h : Rd w ao xs) (ht : Touch w w' B1 S1) (hd : ∀ a, ao = some a → a.block < B1 ∨ S1 ≤ a.block) : Rd w' ao xs := by
  rcases h with h | ⟨b, off, ha, hc⟩
  · exact .inl h
  · refine .inr ⟨b, off, ha, fun j hj => ?_⟩
    rw [World.cell?_of_block (w := w) (w' := w') (a := ⟨b, off + j, none⟩) (ht.block b (hd ⟨b, off, none⟩ ha))]
    exact hc j hj

theorem below_touch {w0 w w' : World} {B S : Nat} (hb : Below w0.heap.size w0 w) (ht : Touch w w' B S) (h : w0.heap.size ≤ B) : Below w0.heap.size w0 w' :=
  hb.trans ⟨ht.os, ht.tape, ht.output, Nat.le_of_eq ht.size.symm, fun k hk => ht.block k (by omega)⟩

theorem ownM_parts {w : World} {B S : Nat} {v : Value} {xss : List (List Int)} (h : OwnM w B S v xss) :
    ∃ vs : List Value, vs.length = xss.length ∧ ((v = .slice none 0 0 ∧ xss = []) ∨ ∃ g cap, v = .slice (some ⟨g, 0, none⟩) xss.length cap ∧ B ≤ g ∧ g < S ∧ g < w.heap.size ∧ xss.length ≤ cap ∧ cap ≤ maxLen ∧
      (∀ j, j < xss.length → w.cell? ⟨g, j, none⟩ = some (vs.getD j undef)) ∧ (∀ j, w.frozen? ⟨g, j, none⟩ = false)) ∧
      (∀ i, i < xss.length → Own w B (vs.getD i undef) (xss.getD i []) ∧ InB (vs.getD i undef) B S) ∧ (∀ i j, i < j → j < xss.length → apart (vs.getD i undef) (vs.getD j undef)) := by
  obtain ⟨vs, hl, ho, hin, hr, ha⟩ := h
  refine ⟨vs, hl, ?_, hr, ha⟩
  have h0 := ho
  rcases ho.2 with ⟨hv, hn⟩ | ⟨g, cap, cur, hv, hb, hg, hnc, hcm, hcs, htk⟩
  · exact .inl ⟨hv, List.eq_nil_of_length_eq_zero hn⟩
  · subst hv
    refine .inr ⟨g, cap, rfl, hb, (hin g rfl).2, (Array.getElem?_eq_some_iff.1 hg).1, hnc, hcm, ?_, fun j => World.ownsRow.frozenAt h0 j⟩
    intro j hj
    rw [World.ownsRow.cellAt h0 j (by omega)]
    simp [List.getD, hl, hj]

theorem ownM_rdM {w : World} {B S : Nat} {v : Value} {xss : List (List Int)} (h : OwnM w B S v xss) : RdM w v xss := by
  obtain ⟨vs, hl, hv, hr, _⟩ := ownM_parts h
  rcases hv with ⟨rfl, rfl⟩ | ⟨g, cap, rfl, hb, hs, hg, hnc, hcm, hc, _⟩
  · exact ⟨none, 0, vs, hl, rfl, Nat.le_refl _, Nat.zero_le _, .inl rfl, fun i hi => by simp at hi⟩
  · exact ⟨_, cap, vs, hl, rfl, hnc, hcm, .inr ⟨g, 0, rfl, fun j hj => by rw [Nat.zero_add]; exact hc j hj⟩, fun i hi => own_rdv (hr i hi).1⟩

theorem rdM_below {w w' : World} {v : Value} {xss : List (List Int)} (h : RdM w v xss) (hb : Below w.heap.size w w') : RdM w' v xss := by
  obtain ⟨ao, cap, vs, hl, h1, h2, h3, h4, h5⟩ := h
  refine ⟨ao, cap, vs, hl, h1, h2, h3, ?_, fun i hi => rdv_below (h5 i hi) hb⟩
  rcases h4 with h4 | ⟨b, off, ha, hc⟩
  · exact .inl h4
  · exact .inr ⟨b, off, ha, fun i hi => by rw [hb.cell (World.block_lt_of_cell? w _ (hc i hi))]; exact hc i hi⟩

theorem ownM_keep {w w' : World} {B S : Nat} {v : Value} {xss : List (List Int)} (h : OwnM w B S v xss) (hb : ∀ k, B ≤ k → k < S → k < w.heap.size → w'.heap[k]? = w.heap[k]?) : OwnM w' B S v xss := by
  obtain ⟨vs, hl, ho, hin, hr, ha⟩ := h
  have key : ∀ {e : TypeId} {u : Value} {n : Nat} {cs : List Value}, w.ownsRow B e 1 u n cs → InB u B S → w'.ownsRow B e 1 u n cs := by
    intro e u n cs ho hi
    refine ⟨ho.1, ?_⟩
    rcases ho.2 with h2 | ⟨g, cap, cur, rfl, hb', hg, rest⟩
    · exact .inl h2
    · have := hi g rfl
      exact .inr ⟨g, cap, cur, rfl, hb', by rw [hb g this.1 this.2 (Array.getElem?_eq_some_iff.1 hg).1]; exact hg, rest⟩
  exact ⟨vs, hl, key ho hin, hin, fun i hi => ⟨key (hr i hi).1 (hr i hi).2, (hr i hi).2⟩, ha⟩

theorem ownM_below {w w' : World} {B S : Nat} {v : Value} {xss : List (List Int)} (h : OwnM w B S v xss) (hb : Below w.heap.size w w') : OwnM w' B S v xss :=
  ownM_keep h fun k _ _ hk => hb.block k hk

theorem ownM_touch {w w' : World} {B S B1 S1 : Nat} {v : Value} {xss : List (List Int)} (h : OwnM w B S v xss) (ht : Touch w w' B1 S1) (hd : S ≤ B1 ∨ S1 ≤ B) : OwnM w' B S v xss :=
  ownM_keep h fun k h1 h2 _ => ht.block k (by omega)

theorem inB_mono {v : Value} {B B' S S' : Nat} (h : InB v B S) (h1 : B' ≤ B) (h2 : S ≤ S') : InB v B' S' := fun k hk => by have := h k hk; omega

theorem ownM_mono {w : World} {B B' S S' : Nat} {v : Value} {xss : List (List Int)} (h : OwnM w B S v xss) (hB : B' ≤ B) (hS : S ≤ S') : OwnM w B' S' v xss := by
  obtain ⟨vs, hl, ho, hin, hr, ha⟩ := h
  refine ⟨vs, hl, ⟨ho.1, ?_⟩, inB_mono hin hB hS, fun i hi => ⟨own_mono (hr i hi).1 hB, inB_mono (hr i hi).2 hB hS⟩, ha⟩
  rcases ho.2 with h2 | ⟨g, cap, cur, hv, hb, r⟩
  · exact .inl h2
  · exact .inr ⟨g, cap, cur, hv, by omega, r⟩

theorem ownM_nil (w : World) (B S : Nat) : OwnM w B S (.slice none 0 0) [] :=
  ⟨[], rfl, World.ownsRow_nil _ _ _ _, fun k hk => by simp [Value.ownBlock] at hk, fun i hi => by simp at hi, fun i j _ hj => by simp at hj⟩

theorem ownM_empty (w : World) (B : Nat) (hB : B ≤ w.heap.size) : OwnM (w.alloc (.cells #[] 30)) B (w.heap.size + 1) (.slice (some ⟨w.heap.size, 0, none⟩) 0 0) [] :=
  ⟨[], rfl, World.ownsRow_made w #[] 0 hB (Nat.zero_le _) rfl, fun k hk => by simp [Value.ownBlock] at hk; omega, fun i hi => by simp at hi, fun i j _ hj => by simp at hj⟩

/-- What a function that hands back a list of lists in new memory leaves. -/
def FreshM (w : World) (r : List (List Int)) (e : Ending) (w' : World) : Prop :=
  ∃ v, e = .returned v ∧ OwnM w' w.heap.size w'.heap.size v r ∧ Below w.heap.size w w'

def FreshMB (w : World) (r : List (List Int) × Bool) (e : Ending) (w' : World) : Prop :=
  ∃ v, e = .returned (.tuple #[v, .bool r.2]) ∧ OwnM w' w.heap.size w'.heap.size v r.1 ∧ Below w.heap.size w w'

theorem Try.infoInts : (Try.prog.info? 30).map (fun i => (i.zero, i.size, i.bytes)) = some (some (.slice none 0 0), 1, 24) := by kernel_rfl

theorem getD_snocV_lt {α : Type} (l : List α) (x d : α) (j : Nat) (h : j < l.length) : (l ++ [x]).getD j d = l.getD j d := by
  simp [List.getD, List.getElem?_append_left h]
theorem getD_snocV_eq {α : Type} (l : List α) (x d : α) : (l ++ [x]).getD l.length d = x := by simp [List.getD]

/-- 'append(out, row)' onto a slice of slices of the call's own that is not nil; the row was made later than all that out holds. -/
theorem wp_pushM {w : World} {o : Oper} {a : Act} {K : Act → World → Prop} {Q : Exit → Act → World → Prop} (s x : Operand)
    (ho : o.op = .call { callee := .builtin .append, args := #[s, x], argTypes := #[23, 23] })
    (B S g n cap : Nat) (xss : List (List Int)) (hs : a.eval s = .slice (some ⟨g, 0, none⟩) n cap) (hown : OwnM w B S (.slice (some ⟨g, 0, none⟩) n cap) xss) (hn : n = xss.length)
    (ad : Addr) (hx : a.eval x = .slice (some ad) 1 1) (u : Value) (ys : List Int) (hc : w.cell? ad = some u) (hu : Own w B u ys) (hui : InB u S w.heap.size) (hBS : B ≤ S) (hSw : S ≤ w.heap.size) (hl : n ≤ 1000000000)
    (r : Nat) (hr : n + 1 = r)
    (h : ∀ g' cap' w', OwnM w' B w'.heap.size (.slice (some ⟨g', 0, none⟩) r cap') (xss ++ [ys]) → w.grownBy w' (some g) → K (a.put o.dst (.slice (some ⟨g', 0, none⟩) r cap')) w') :
    o.wp Try.prog a w K Q := by
  obtain ⟨i0, hi, hz0, hz1, hz2⟩ := info_parts Try.infoInts
  subst hr
  subst hn
  obtain ⟨vs, hvl, hrow, hin, hrows, hap⟩ := hown
  have hu1 : u.oneCell' = true := by
    rcases own_view hu with ⟨rfl, _⟩ | ⟨g', cap', rfl, _⟩ <;> rfl
  have hnews : ∀ j z, ([u] : List Value)[j]? = some z → w.cell? (ad.add j) = some z := by
    intro j z hj
    match j, hj with
    | 0, hj =>
      simp at hj
      subst hj
      simpa [Addr.add] using hc
  obtain ⟨v', w', hru, ho', hg', hnil, hb'⟩ := run_append_own_at (P := Try.prog) w B 23 o.type 30 i0 (.slice none 0 0) 1 24 Try.underlying23 hi hz0 hz1 hz2 rfl (by decide) _ xss.length vs hrow ad 1 1 [u] rfl hnews (fun z hz => by simp at hz; subst hz; exact hu1) (by unfold maxLen; omega) (by omega) (by omega)
  unfold Oper.wp execOp
  simp only [ho, resolve, invoke, builtin, Sem.run_bind, Sem.run_pure, Result.andThen_ok, List.map_toArray, List.map_cons, List.map_nil, hs, hx, hru]
  have hgB := hin g rfl
  rcases ho'.2 with ⟨rfl, h2⟩ | ⟨g', cap', cur, rfl, hB', hg2, rest⟩
  · omega
  · have hg2s : g' < w'.heap.size := (Array.getElem?_eq_some_iff.1 hg2).1
    refine h g' cap' w' ?_ hg'
    have hne : ∀ z : Value, ∀ zs : List Int, Own w B z zs → z.ownBlock = none ∨ z.ownBlock ≠ some g := by
      intro z zs hz
      rcases hz.2 with ⟨rfl, _⟩ | ⟨gz, capz, curz, rfl, _, hgz, _⟩
      · exact .inl rfl
      · refine .inr fun e => ?_
        simp [Value.ownBlock] at e
        subst e
        rcases hrow.2 with ⟨h3, _⟩ | ⟨g3, cap3, cur3, h3, _, hg3, _⟩
        · cases h3
        · cases h3
          rw [hgz] at hg3
          simp at hg3
    refine ⟨vs ++ [u], by simp [hvl], by simpa using ho', fun k hk => by simp [Value.ownBlock] at hk; omega, ?_, ?_⟩
    · intro i hi'
      simp at hi'
      by_cases hil : i < xss.length
      · rw [getD_snocV_lt _ _ _ _ (by omega), getD_snocV_lt _ _ _ _ hil]
        exact ⟨own_grown (hrows i hil).1 hg' (hne _ _ (hrows i hil).1), inB_mono (hrows i hil).2 (Nat.le_refl _) (by have := hg'.size; omega)⟩
      · obtain rfl : i = xss.length := by omega
        rw [getD_snocV_eq]
        have : (vs ++ [u]).getD xss.length undef = u := by rw [← hvl]; exact getD_snocV_eq _ _ _
        rw [this]
        exact ⟨own_grown hu hg' (hne _ _ hu), inB_mono hui hBS hg'.size⟩
    · intro i j hij hj
      simp at hj
      by_cases hjl : j < xss.length
      · rw [getD_snocV_lt _ _ _ _ (by omega), getD_snocV_lt _ _ _ _ (by omega)]
        exact hap i j hij hjl
      · obtain rfl : j = xss.length := by omega
        have : (vs ++ [u]).getD xss.length undef = u := by rw [← hvl]; exact getD_snocV_eq _ _ _
        rw [getD_snocV_lt _ _ _ _ (by omega), this]
        have hi1 := (hrows i hij).2
        cases e1 : (vs.getD i undef).ownBlock with
        | none => exact .inl e1
        | some k =>
          refine .inr fun e => ?_
          rw [e1] at e
          have := hi1 k e1
          have := hui k e.symm
          omega

theorem wpList_pushM {w : World} {ops : Array Oper} {rest : List Oper} {o : Oper} {a : Act} {Q : Exit → Act → World → Prop} (hgd : o.guard = none) (s x : Operand)
    (ho : o.op = .call { callee := .builtin .append, args := #[s, x], argTypes := #[23, 23] })
    (B S g n cap : Nat) (xss : List (List Int)) (hs : a.eval s = .slice (some ⟨g, 0, none⟩) n cap) (hown : OwnM w B S (.slice (some ⟨g, 0, none⟩) n cap) xss) (hn : n = xss.length)
    (ad : Addr) (hx : a.eval x = .slice (some ad) 1 1) (u : Value) (ys : List Int) (hc : w.cell? ad = some u) (hu : Own w B u ys) (hui : InB u S w.heap.size) (hBS : B ≤ S) (hSw : S ≤ w.heap.size) (hl : n ≤ 1000000000)
    (r : Nat) (hr : n + 1 = r)
    (h : ∀ g' cap' w', OwnM w' B w'.heap.size (.slice (some ⟨g', 0, none⟩) r cap') (xss ++ [ys]) → w.grownBy w' (some g) → wpList Try.prog ops Q rest (a.put o.dst (.slice (some ⟨g', 0, none⟩) r cap')) w') :
    wpList Try.prog ops Q (o :: rest) a w :=
  wpList_plain hgd fun _ hK => wp_pushM s x ho B S g n cap xss hs hown hn ad hx u ys hc hu hui hBS hSw hl r hr fun g' cap' w' h1 h2 => hK _ _ (h g' cap' w' h1 h2)

theorem ownM_frozen {w : World} {B S g n cap : Nat} {xss : List (List Int)} (h : OwnM w B S (.slice (some ⟨g, 0, none⟩) n cap) xss) (j : Nat) : w.frozen? ⟨g, j, none⟩ = false := by
  obtain ⟨vs, _, hv, _, _⟩ := ownM_parts h
  rcases hv with ⟨h1, _⟩ | ⟨g', cap', h1, _, _, _, _, _, _, hf⟩
  · cases h1
  · simp only [Value.slice.injEq, Option.some.injEq, Addr.mk.injEq, and_true, true_and] at h1
    obtain ⟨rfl, _⟩ := h1
    exact hf j

theorem ownM_cell {w : World} {B S g n cap : Nat} {xss : List (List Int)} (h : OwnM w B S (.slice (some ⟨g, 0, none⟩) n cap) xss) (j : Nat) (hj : j < xss.length) :
    ∃ u, w.cell? ⟨g, j, none⟩ = some u ∧ Own w B u (xss.getD j []) ∧ InB u B S := by
  obtain ⟨vs, _, hv, hr, _⟩ := ownM_parts h
  rcases hv with ⟨h1, _⟩ | ⟨g', cap', h1, _, _, _, _, _, hc, _⟩
  · cases h1
  · simp only [Value.slice.injEq, Option.some.injEq, Addr.mk.injEq, and_true, true_and] at h1
    obtain ⟨rfl, _⟩ := h1
    exact ⟨_, hc j hj, hr j hj⟩

end Go.Proofs.Ytbmpchpcihnbdaa
