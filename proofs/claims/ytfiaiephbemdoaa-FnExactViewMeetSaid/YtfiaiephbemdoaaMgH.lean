/-
  What the laws of this claim lean on: what functions of the program and of the model answer, one after another, and plain mathematics. No condition.
-/
import Derived.Test.YtfiaiephbemdoaaMgD
import Derived.Test.YtfiaiephbemdoaaMgF
import Derived.Test.YtfiaiephbemdoaaMgG
import Derived.Test.YtfiaiephbemdoaaChecked
import Derived.Conc.CompanyWords
import Derived.Conc.CompanyMem
import Derived.RowKit
import Derived.KernelRfl
import Derived.WalkKit
import Derived.Lib.Hide
import Derived.WalkSmall
import Derived.Deep.QuietTactic
import Derived.Test.YtfiaiephbemdoaaRows
import Derived.WalkLawsBesides
import Derived.WalkSpells
import Derived.BigQuiet
import Derived.Maps.AppendAt
import Derived.BigRegion
import Derived.Deep.RegionHeld3

set_option maxHeartbeats 800000
set_option linter.unusedVariables false
set_option linter.unusedSimpArgs false
set_option linter.unnecessarySimpa false
set_option maxRecDepth 100000

namespace Go.Proofs.Ytfiaiephbemdoaa

section
open Go.Conc

def okHeld (P : Program) (f : FuncId) (a b : Code) : Prop := okCode P a = true ∧ okCode P b = true ∧ P.inits.idxOf? f = none
abbrev duo (P : Program) (X : World) : Two := ⟨cutP P, P, okHeld P, X⟩

def keptOk (P : Program) (f : Nat) : Bool :=
  match P.funcs[f]? with
  | none => true
  | some fn => match fn.body with
    | none => false
    | some c => okCode P c && decide (fn.name ≠ "runtime.NumGoroutine") && (P.inits.idxOf? f).isNone

theorem kept_all : (Tryp.keep.all fun f => keptOk Try.prog f) = true := by kernel_rfl

theorem cut_get {P : Program} {f : Nat} {fn : Func} (h : (cutP P).funcs[f]? = some fn) : fn = struckFn ∨ (f ∈ Tryp.keep ∧ P.funcs[f]? = some fn) := by
  unfold cutP cutProg at h
  simp only [Array.getElem?_mapIdx, Option.map_eq_some_iff] at h
  obtain ⟨fn0, h0, h1⟩ := h
  by_cases hk : Tryp.keep.contains f = true
  · rw [if_pos hk] at h1
    exact .inr ⟨List.contains_iff_mem.1 hk, by rw [h0, h1]⟩
  · rw [if_neg hk] at h1
    exact .inl h1.symm

theorem kept_of {f : Nat} {fn : Func} (hf : f ∈ Tryp.keep) (h : Try.prog.funcs[f]? = some fn) : ∃ c, fn.body = some c ∧ okCode Try.prog c = true ∧ fn.name ≠ "runtime.NumGoroutine" ∧ Try.prog.inits.idxOf? f = none := by
  have k := List.all_eq_true.1 kept_all f hf
  unfold keptOk at k
  rw [h] at k
  dsimp only at k
  cases hb : fn.body with
  | none => rw [hb] at k; cases k
  | some c =>
    rw [hb] at k
    simp only [Bool.and_eq_true, decide_eq_true_eq, Option.isNone_iff_eq_none] at k
    exact ⟨c, rfl, k.1.1, k.1.2, k.2⟩

theorem idle_all : ((cutP Try.prog).funcs.all fun fn => match fn.body with | none => true | some c => (readies c).isEmpty) = true := by kernel_rfl
theorem kit_follows : Try.prog.follows .staticDataAhead = true := by kernel_rfl

theorem kit {X : World} : Kit (duo Try.prog X) where
  tables := ⟨Tryp.noType, Tryp.noInfo, rfl⟩
  funcs := fun f fn h => by
    rcases cut_get h with e | ⟨hk, e⟩
    · exact .inl e
    · obtain ⟨c, h1, _, h3, _⟩ := kept_of hk e
      exact .inr ⟨e, by rw [h1]; rfl, h3⟩
  code := fun f fn c h hb => by
    rcases cut_get h with e | ⟨hk, e⟩
    · subst e; cases hb
    · obtain ⟨c', h1, h2, _, _⟩ := kept_of hk e
      rw [h1] at hb
      exact (Option.some.inj hb) ▸ h2
  held := fun f a b => Iff.rfl
  noinit := fun f fn h hb => by
    rcases cut_get h with e | ⟨hk, e⟩
    · subst e; cases hb
    · obtain ⟨c', _, _, _, h4⟩ := kept_of hk e
      exact h4
  idle := fun g => by
    show (cutP Try.prog).stepOf g = none
    unfold Program.stepOf
    rw [Array.findIdx?_eq_none_iff]
    intro fn hfn
    have h := Array.all_eq_true'.1 idle_all fn hfn
    cases hb : fn.body with
    | none => rfl
    | some c =>
      rw [hb] at h
      have e : readies c = [] := List.isEmpty_iff.1 h
      simp [e]
  ahead := kit_follows
end

section
open Go.Conc Go.RowKit

def minTo (xs : List Int) (k : Nat) : Int := (xs.take k).foldl min (xs.getD 0 0)
theorem minTo_succ {xs : List Int} {k : Nat} (h : k < xs.length) : minTo xs (k + 1) = min (minTo xs k) (xs.getD k 0) := by
  unfold minTo
  rw [List.take_add_one, List.foldl_append]
  simp [List.getElem?_eq_getElem h, List.getD_eq_getElem?_getD]
theorem minTo_one {xs : List Int} (h : 0 < xs.length) : minTo xs 1 = xs.getD 0 0 := by
  rw [minTo_succ h]
  simp [minTo]

def Nums (w : World) (b off : Nat) (xs : List Int) : Prop := ∀ j, j < xs.length → w.cell? ⟨b, off + j, none⟩ = some (.int .i64 (xs.getD j 0))
theorem Nums.at {w w' : World} {b off : Nat} {xs : List Int} (h : Nums w b off xs) (r : AtRel w w') : Nums w' b off xs := by
  obtain ⟨d, rfl⟩ := r
  exact h

def Seen (w0 : World) (b off : Nat) (xs : List Int) (w : World) : Prop := AtRel w0 w ∧ Nums w b off xs
theorem Seen.rely {w0 w w' : World} {b off : Nat} {xs : List Int} (h : Seen w0 b off xs w) (r : AtRel w w') : Seen w0 b off xs w' := ⟨atRel_trans _ _ _ h.1 r, h.2.at r⟩

def MinInv (w0 : World) (b off cap : Nat) (xs : List Int) (a : Act) (w : World) : Prop :=
  ∃ (i : Nat) (v5 v6 v7 v8 v9 v10 v11 v12 v13 v14 v15 v16 v17 v18 v19 v20 v21 v22 v23 v24 : Value), 1 ≤ i ∧ i ≤ xs.length ∧ Seen w0 b off xs w ∧
    a = { tmps := #[.slice (some ⟨b, off, none⟩) xs.length cap, undef, .int .i64 0, .int .i64 (minTo xs i), .int .i64 i, v5, v6, v7, v8, v9, v10, v11, v12, v13, v14, v15, v16, v17, v18, v19, v20, v21, v22, v23, v24], defers := [] }
def MinMu (xs : List Int) (a : Act) (_ : World) : Nat := match a.tmps.getD 4 undef with | .int _ j => xs.length - j.toNat | _ => 0

theorem min_events (P : Program) (ts : Array TypeId) (t : TypeId) (x y : Int) (w : World) : (Builtin.min_ ts t #[.int .i64 x, .int .i64 y]).events P w #[] = #[] := by
  simp [Builtin.min_, Builtin.min2, go_sem]

theorem min_under : Try.prog.underlying 25 = some (.slice (Try.prog.elem 25)) := by kernel_rfl

set_option maxRecDepth 100000 in
set_option maxHeartbeats 1600000 in
theorem min_c (H : Nat → Prop) (B : Nat) {xs : List Int} {b off cap : Nat} (hx : 0 < xs.length) (hbig : (xs.length : Int) < 2 ^ 62) (hH : ¬ H b) (hB : b < B) : ∃ n, ∀ w, Nums w b off xs →
    CallsC Try.prog true AtRel (OnlyReads H B) 34 #[.slice (some ⟨b, off, none⟩) xs.length cap] n w fun v w' => AtRel w w' ∧ v = .int .i64 (minTo xs xs.length) := by
  have T := onlyReads_terms H B
  have hI : (0 : Int) ≤ 0 ∧ (0 : Int) < xs.length := ⟨by omega, by omega⟩
  co_apply Exists.intro
  intro w hn
  co_apply callsC_of_wpC Try.func34 (by rfl) rfl
  have hF : Seen w b off xs w := ⟨atRel_refl w, hn⟩
  simp only [Try.ntmps34, List.size_toArray, List.length_cons, List.length_nil, Nat.reduceAdd, Nat.reduceSub, Array.replicate_succ, Array.replicate_zero, List.push_toArray, List.append_toArray, List.nil_append, List.cons_append]
  co_go T Seen.rely hF (co_quiet T)
  co_apply wpC_cond T (t := false)
  · simp [Act.eval]; omega
  simp only [if_false, Bool.false_eq_true, reduceIte]
  co_go T Seen.rely hF ((rw [listed_nil (by simp [go_sem, min_under, hx, hI])]; exact Terms.idle T _))
  co_opw Seen.rely hF (have hc := hF.2 0 hx; simp only [Nat.add_zero] at hc) (co_evs (refine ⟨fun a ha => ?_, fun r hr => (by cases hr), fun m hm => (by cases hm)⟩; cases ha; exact ⟨hH, hB⟩))
  co_go T Seen.rely hF ((rw [listed_nil (by simp [go_sem, min_under, hx, hI])]; exact Terms.idle T _))
  co_apply wpC_loop T (MinInv w b off cap xs) (MinMu xs) _ xs.length
  · have e : xs[0] = minTo xs 1 := by rw [minTo_one hx]; simp [List.getD_eq_getElem?_getD, List.getElem?_eq_getElem hx]
    simp only [e]
    exact ⟨1, _, _, _, _, _, _, _, _, _, _, _, _, _, _, _, _, _, _, _, _, by omega, by omega, hF, rfl⟩
  · simp [MinMu]
  · rintro a w' ⟨i, v5, v6, v7, v8, v9, v10, v11, v12, v13, v14, v15, v16, v17, v18, v19, v20, v21, v22, v23, v24, hi1, hi2, hS, rfl⟩
    co_go T Seen.rely hS (co_quiet T)
    co_split T (decide ((i : Int) < (xs.length : Int)))
    · intro hlt
      have hlt' : i < xs.length := by have := of_decide_eq_true hlt; omega
      have hI' : (0 : Int) ≤ i ∧ (i : Int) < xs.length := ⟨by omega, by omega⟩
      co_go T Seen.rely hS ((rw [listed_nil (by simp [go_sem, min_under, hlt', hI'])]; exact Terms.idle T _))
      co_opw Seen.rely hS (have hc := hS.2 i hlt') (co_evs (refine ⟨fun a ha => ?_, fun r hr => (by cases hr), fun m hm => (by cases hm)⟩; cases ha; exact ⟨hH, hB⟩))
      co_go T Seen.rely hS ((rw [listed_nil (by simp [go_sem, min_events])]; exact Terms.idle T _))
      have e1 : IntKind.i64.wrap ((i : Int) + 1) = ((i + 1 : Nat) : Int) := by rw [IntKind.wrap_i64]; omega
      have e2 : (if xs[i] < minTo xs i then xs[i] else minTo xs i) = minTo xs (i + 1) := by
        rw [minTo_succ hlt']
        simp only [List.getD_eq_getElem?_getD, List.getElem?_eq_getElem hlt', Option.getD_some]
        split <;> omega
      simp only [e1, e2]
      refine ⟨⟨i + 1, _, _, _, _, _, _, _, _, _, _, _, _, _, _, _, _, _, _, _, _, by omega, by omega, hS, rfl⟩, ?_⟩
      simp [MinMu]
      omega
    · intro hlt
      obtain rfl : i = xs.length := by have := of_decide_eq_false hlt; omega
      co_go T Seen.rely hS (co_quiet T)
      exact ⟨rfl, _, resultsC_tmp (by rfl) _, hS.1, rfl⟩

theorem Rel.cell {T : Two} {H : Nat → Prop} {w W : World} (hr : Rel T H w W) {a : Addr} {v : Value} (h : w.cell? a = some v) : W.cell? a = some v ∧ ¬ H a.block ∧ a.block < W.heap.size := by
  unfold World.cell? at h
  cases hb : w.heap[a.block]? with
  | none => rw [hb] at h; cases h
  | some o =>
    rw [hb] at h
    cases o with
    | cells c e fr =>
      dsimp only at h
      have hH : ¬ H a.block := fun hh => by
        obtain ⟨c', e', fr', h1, _⟩ := hr.hid _ hh
        rw [hb] at h1
        injection h1 with h1
        injection h1 with h1
        subst h1
        split at h
        · cases h
        · simp at h
      have hW := hr.cells hH hb
      refine ⟨?_, hH, (Array.getElem?_eq_some_iff.1 hW).1⟩
      unfold World.cell?
      rw [hW]
      exact h
    | _ => cases h

theorem Nums.up {T : Two} {H : Nat → Prop} {w W : World} {b off : Nat} {xs : List Int} (hr : Rel T H w W) (hx : 0 < xs.length) (h : Nums w b off xs) : Nums W b off xs ∧ ¬ H b ∧ b < W.heap.size :=
  ⟨fun j hj => (hr.cell (h j hj)).1, (hr.cell (h 0 hx)).2.1, (hr.cell (h 0 hx)).2.2⟩

theorem min_b {X w : World} {xs : List Int} {b off cap : Nat} (hx : 0 < xs.length) (hbig : (xs.length : Int) < 2 ^ 62) (h : Nums w b off xs) :
    CallsB (duo Try.prog X) 34 #[.slice (some ⟨b, off, none⟩) xs.length cap] w (fun v w' => w' = w ∧ v = .int .i64 (minTo xs xs.length)) := by
  intro c H fr cs h1 h2 h3 h4
  obtain ⟨hN, hH, hB⟩ := h.up h2 hx
  obtain ⟨n, hn⟩ := min_c H c.W.heap.size (cap := cap) hx hbig hH hB
  exact CallsB.of_callsC_at (hn c.W hN) h1 h2 h3 h4
end

section
open Go.RowKit

def Rd (w : World) (ao : Option Addr) (xs : List Int) : Prop :=
  xs = [] ∨ ∃ b off, ao = some ⟨b, off, none⟩ ∧ ∀ j, j < xs.length → w.cell? ⟨b, off + j, none⟩ = some (.int .i64 (xs.getD j 0))

def Own (w : World) (B : Nat) (v : Value) (xs : List Int) : Prop := w.ownsRow B 3 1 v xs.length (xs.map (Value.int .i64))

theorem getD_map_int (xs : List Int) (j : Nat) (h : j < xs.length) : (xs.map (Value.int .i64))[j]? = some (.int .i64 (xs.getD j 0)) := by
  simp [List.getD, h]

theorem own_view {w : World} {B : Nat} {v : Value} {xs : List Int} (h : Own w B v xs) :
    (v = .slice none 0 0 ∧ xs = []) ∨ ∃ g cap, v = .slice (some ⟨g, 0, none⟩) xs.length cap ∧ B ≤ g ∧ g < w.heap.size ∧ xs.length ≤ cap ∧ cap ≤ maxLen ∧
      (∀ j, j < xs.length → w.cell? ⟨g, j, none⟩ = some (.int .i64 (xs.getD j 0))) ∧ (∀ j, w.frozen? ⟨g, j, none⟩ = false) := by
  have h0 := h
  rcases h.2 with ⟨hv, hn⟩ | ⟨g, cap, cur, hv, hb, hg, hnc, hcm, hcs, htk⟩
  · exact .inl ⟨hv, List.eq_nil_of_length_eq_zero hn⟩
  · refine .inr ⟨g, cap, hv, hb, (Array.getElem?_eq_some_iff.1 hg).1, hnc, hcm, ?_, ?_⟩
    · intro j hj
      subst hv
      have := World.ownsRow.cellAt h0 j (by omega)
      rw [this, getD_map_int xs j hj]
    · intro j
      subst hv
      exact World.ownsRow.frozenAt h0 j

theorem own_rd {w : World} {B : Nat} {v : Value} {xs : List Int} (h : Own w B v xs) :
    ∃ ao cap, v = .slice ao xs.length cap ∧ Rd w ao xs ∧ xs.length ≤ cap ∧ cap ≤ maxLen ∧ (∀ a, ao = some a → B ≤ a.block ∧ a.block < w.heap.size ∧ v.ownBlock = some a.block) := by
  rcases own_view h with ⟨rfl, rfl⟩ | ⟨g, cap, rfl, hb, hl, hnc, hcm, hc, _⟩
  · exact ⟨none, 0, rfl, .inl rfl, Nat.le_refl _, Nat.zero_le _, fun a ha => by cases ha⟩
  · exact ⟨_, cap, rfl, .inr ⟨g, 0, rfl, fun j hj => by rw [Nat.zero_add]; exact hc j hj⟩, hnc, hcm, fun a ha => by cases ha; exact ⟨hb, hl, rfl⟩⟩

theorem own_frozen {w : World} {B g n cap : Nat} {xs : List Int} (h : Own w B (.slice (some ⟨g, 0, none⟩) n cap) xs) (j : Nat) : w.frozen? ⟨g, j, none⟩ = false := by
  rcases own_view h with ⟨h1, _⟩ | ⟨g', cap', h1, _, _, _, _, _, hf⟩
  · cases h1
  · cases h1
    exact hf j

theorem own_cell {w : World} {B g n cap : Nat} {xs : List Int} (h : Own w B (.slice (some ⟨g, 0, none⟩) n cap) xs) (j : Nat) (hj : j < xs.length) : w.cell? ⟨g, j, none⟩ = some (.int .i64 (xs.getD j 0)) := by
  rcases own_view h with ⟨h1, _⟩ | ⟨g', cap', h1, _, _, _, _, hc, _⟩
  · cases h1
  · cases h1
    exact hc j hj

theorem own_lt {w : World} {B : Nat} {v : Value} {xs : List Int} (h : Own w B v xs) : ∀ k, v.ownBlock = some k → B ≤ k ∧ k < w.heap.size := World.ownsRow.lt h

theorem own_grown {w w' : World} {B : Nat} {v : Value} {xs : List Int} {row : Option Nat} (h : Own w B v xs) (hg : w.grownBy w' row) (hne : v.ownBlock = none ∨ v.ownBlock ≠ row) : Own w' B v xs :=
  World.ownsRow.kept h hg hne

theorem grown_of_below {w w' : World} (h : Below w.heap.size w w') : w.grownBy w' none := ⟨h.os, h.tape, h.output, h.size, fun k hk _ => h.block k hk⟩

theorem own_below {w w' : World} {B : Nat} {v : Value} {xs : List Int} (h : Own w B v xs) (hb : Below w.heap.size w w') : Own w' B v xs :=
  own_grown h (grown_of_below hb) (by cases hv : v.ownBlock <;> simp)

theorem own_mono {w : World} {B B' : Nat} {v : Value} {xs : List Int} (h : Own w B v xs) (hB : B' ≤ B) : Own w B' v xs := by
  refine ⟨h.1, ?_⟩
  rcases h.2 with h2 | ⟨g, cap, cur, hv, hb, r⟩
  · exact .inl h2
  · exact .inr ⟨g, cap, cur, hv, by omega, r⟩

theorem rd_below {w w' : World} {ao : Option Addr} {xs : List Int} (h : Rd w ao xs) (hb : Below w.heap.size w w') : Rd w' ao xs := by
  rcases h with h | ⟨b, off, ha, hc⟩
  · exact .inl h
  · exact .inr ⟨b, off, ha, fun j hj => by rw [hb.cell (World.block_lt_of_cell? w _ (hc j hj))]; exact hc j hj⟩

def RdV (w : World) (v : Value) (xs : List Int) : Prop := ∃ ao cap, v = .slice ao xs.length cap ∧ Rd w ao xs ∧ xs.length ≤ cap ∧ cap ≤ maxLen

theorem own_rdv {w : World} {B : Nat} {v : Value} {xs : List Int} (h : Own w B v xs) : RdV w v xs := by
  obtain ⟨ao, cap, h1, h2, h3, h4, _⟩ := own_rd h
  exact ⟨ao, cap, h1, h2, h3, h4⟩

theorem rdv_below {w w' : World} {v : Value} {xs : List Int} (h : RdV w v xs) (hb : Below w.heap.size w w') : RdV w' v xs := by
  obtain ⟨ao, cap, h1, h2, h3⟩ := h
  exact ⟨ao, cap, h1, rd_below h2 hb, h3⟩

theorem rdv_drewN {w : World} {v : Value} {xs : List Int} (h : RdV w v xs) (n : Nat) : RdV (w.drewN n) v xs := rdv_below h (below_drewN (Below.refl _ _) n)

theorem quiet_left {P : Program} {f : FuncId} {args : Array Value} {w : World} {n : Nat} {v : Value}
    (h : Calls P f args (w.drewN n) fun e w' => e = .returned v ∧ w.drewN n = w') : Calls P f args (w.drewN n) fun e w'' => e = .returned v ∧ ∃ m, w'' = w.drewN m :=
  h.mono fun _ _ ⟨he, hm⟩ => ⟨he, n, hm.symm⟩

def InB (v : Value) (B S : Nat) : Prop := ∀ k, v.ownBlock = some k → B ≤ k ∧ k < S

theorem inB_of_own {w : World} {B : Nat} {v : Value} {xs : List Int} (h : Own w B v xs) : InB v B w.heap.size := World.ownsRow.lt h

theorem below_step {w0 w w' : World} (hb : Below w0.heap.size w0 w) (h : Below w.heap.size w w') : Below w0.heap.size w0 w' := hb.trans (h.mono hb.size)

def IsRow (k : IntKind) (w : World) (a : Option Addr) (len cap : Nat) (zs : List Int) : Prop :=
  (a = none ∧ len = 0 ∧ cap = 0 ∧ zs = []) ∨
  ∃ x, a = some x ∧ len ≤ cap ∧ cap ≤ maxLen ∧ zs.length = cap ∧ (∀ i, i < zs.length → w.cell? (x.add i) = some (.int k (zs.getD i 0))) ∧ ∀ n ∈ zs, (Lit.int k n).wf = true

def GivesIB (w : World) (r : Int × Bool) (e : Ending) (w' : World) : Prop := e = .returned (.tuple #[.int .i64 r.1, .bool r.2]) ∧ Below w.heap.size w w'
def GivesB (w : World) (r : Bool) (e : Ending) (w' : World) : Prop := e = .returned (.bool r) ∧ Below w.heap.size w w'
def GivesI (w : World) (r : Int) (e : Ending) (w' : World) : Prop := e = .returned (.int .i64 r) ∧ Below w.heap.size w w'

def FreshLB (w : World) (r : List Int × Bool) (e : Ending) (w' : World) : Prop :=
  ∃ v, e = .returned (.tuple #[v, .bool r.2]) ∧ Own w' w.heap.size v r.1 ∧ Below w.heap.size w w'

def FreshL (w : World) (r : List Int) (e : Ending) (w' : World) : Prop :=
  ∃ v, e = .returned v ∧ Own w' w.heap.size v r ∧ Below w.heap.size w w'

def Same (w w' : World) : Prop := ∀ B, Below B w w'
theorem Same.refl (w : World) : Same w w := fun _ => Below.refl _ _
theorem Same.trans {a b c : World} (h : Same a b) (k : Same b c) : Same a c := fun B => (h B).trans (k B)
theorem Same.drewN {a w : World} (h : Same a w) (n : Nat) : Same a (w.drewN n) := fun B => below_drewN (h B) n
theorem rd_same {w w' : World} {ao : Option Addr} {xs : List Int} (h : Rd w ao xs) (hb : Same w w') : Rd w' ao xs := rd_below h (hb _)

def iota (k : Int) (n : Nat) : List Int := (List.range n).map (fun (j : Nat) => k + (j : Int))

theorem iota_length (k : Int) (n : Nat) : (iota k n).length = n := by simp [iota]
theorem iota_getD (k : Int) (n j : Nat) (h : j < n) : (iota k n).getD j 0 = k + j := by simp [iota, List.getD, h]

theorem drop_cons (xs : List Int) (k : Nat) (h : k < xs.length) : xs.drop k = xs.getD k 0 :: xs.drop (k + 1) := by
  rw [List.drop_eq_getElem_cons h]
  simp [List.getD, h]

theorem take_succ_eq {xs ys : List Int} {k : Nat} (h : xs.take k = ys.take k) (hx : k < xs.length) (hy : k < ys.length) (e : xs.getD k 0 = ys.getD k 0) : xs.take (k + 1) = ys.take (k + 1) := by
  rw [List.take_succ_eq_append_getElem hx, List.take_succ_eq_append_getElem hy, h]
  simp [List.getD, hx, hy] at e
  rw [e]

theorem ret_bool {a b : Bool} (h : a = b) : Ending.returned (.bool a) = .returned (.bool b) := by rw [h]
theorem ret_int {k : IntKind} {a b : Int} (h : a = b) : Ending.returned (.int k a) = .returned (.int k b) := by rw [h]
end

section
open Go.RowKit

theorem Try.infoInt : ((cutP Try.prog).info? 3).map (fun i => (i.zero, i.size, i.bytes)) = some (some (.int .i64 0), 1, 8) := by kernel_rfl

theorem own_made {w1 : World} {B g n c : Nat} (h : w1.ownsRow B 3 1 (.slice (some ⟨g, 0, none⟩) n c) n (madeCells #[Value.int .i64 0] n).toList) : Own w1 B (.slice (some ⟨g, 0, none⟩) n c) (List.replicate n 0) := by
  unfold Own
  rw [toList_madeCells_one] at h
  simpa using h

theorem set_stage (xs : List Int) (k : Nat) (h : k < xs.length) (x : Int) (hx : x = xs.getD k 0) : (xs.take k ++ List.replicate (xs.length - k) 0).set k x = xs.take (k + 1) ++ List.replicate (xs.length - (k + 1)) 0 := by
  subst hx
  apply List.ext_getElem?
  intro j
  by_cases h1 : j < k
  · rw [List.getElem?_set_ne (by omega), List.getElem?_append_left (by simp; omega), List.getElem?_append_left (by simp; omega), List.getElem?_take, List.getElem?_take, if_pos h1, if_pos (by omega)]
  · by_cases h2 : j = k
    · subst h2
      rw [List.getElem?_set_self (by simp; omega), List.getElem?_append_left (by simp; omega)]
      simp [List.getD, h]
    · rw [List.getElem?_set_ne (by omega), List.getElem?_append_right (by simp; omega), List.getElem?_append_right (by simp; omega)]
      simp only [List.getElem?_replicate, List.length_take]
      by_cases h3 : j < xs.length
      · rw [if_pos (by omega), if_pos (by omega)]
      · rw [if_neg (by omega), if_neg (by omega)]

theorem own_stored {w : World} {B g n cap : Nat} {xs : List Int} (h : Own w B (.slice (some ⟨g, 0, none⟩) n cap) xs) (hn : n = xs.length) (j : Nat) (x : Int) :
    Own (w.setCell ⟨g, j, none⟩ (.int .i64 x)) B (.slice (some ⟨g, 0, none⟩) n cap) (xs.set j x) ∧ w.grownBy (w.setCell ⟨g, j, none⟩ (.int .i64 x)) (some g) := by
  subst hn
  have := World.ownsRow.stored h j (.int .i64 x)
  refine ⟨?_, this.2⟩
  unfold Own
  rw [List.length_set, List.map_set]
  exact this.1

set_option maxHeartbeats 400000 in
theorem toIntS_any (ao : Option Addr) (cap : Nat) (xs : List Int) (w : World) (hr : Rd w ao xs) (hl : xs.length ≤ 1048576) :
    Calls (cutP Try.prog) 22 #[.slice ao xs.length cap] w (FreshL w xs) := by
  obtain ⟨n, hn⟩ : ∃ n, n = xs.length := ⟨_, rfl⟩
  rw [← hn]
  rw [← hn] at hl
  have HN := Lib.hid hn
  clear hn
  obtain ⟨i0, hi, hz0, hz1, hz2⟩ := info_parts Try.infoInt
  have HR := Lib.hid hr
  clear hr
  go_enter Tryp.func22, Tryp.ntmps22
  go_wp2_with (at_make; refine wpList_make_full _ rfl _ _ 25 rfl w.heap.size 3 i0 (.int .i64 0) 1 Tryp.underlying25 hi hz0 hz1 _ _ _ _ n rfl rfl rfl rfl (by rw [hz2]; omega) (by unfold maxLen; omega) (Nat.le_refl _) ?_)
  intro w1 hown1 hgrow1
  have hb1 : Below w.heap.size w w1 := (Below.refl _ _).grown hgrow1 (Nat.le_refl _) (fun k h => by cases h)
  have hown := own_made hown1
  clear hown1 hgrow1
  go_wp2
  go_loopw [4] (fun i wr => ∃ k : Nat, k ≤ n ∧ i = .int .i64 k ∧ Own wr w.heap.size (.slice (some ⟨w.heap.size, 0, none⟩) n n) (xs.take k ++ List.replicate (n - k) 0) ∧ Below w.heap.size w wr)
    (fun i _ => n - (intOf i).toNat)
  case atStart => exact ⟨0, Nat.zero_le _, rfl, by simpa using hown, hb1⟩
  case round =>
    obtain ⟨k, hk, rfl, hownr, hbr⟩ := hrel
    by_cases hlt : k < n
    · have hr := rd_below HR.out hbr
      rcases hr with hr | ⟨b, off, rfl, hc⟩
      · have := HN.out
        rw [hr] at this
        simp at this
        omega
      · have hcell := hc k (by have := HN.out; omega)
        clear hc
        have hfz := own_frozen hownr k
        obtain ⟨v0, hv0⟩ : ∃ v0, wr.cell? ⟨w.heap.size, k, none⟩ = some v0 := ⟨_, own_cell hownr k (by have := HN.out; simp; omega)⟩
        obtain ⟨hst, hgs⟩ := own_stored hownr (by have := HN.out; simp; omega) k (xs.getD k 0)
        have HST := Lib.hid hst
        have HGS := Lib.hid hgs
        clear hst hgs
        go_wp2
        go_roundw
        case rel =>
          refine ⟨k + 1, by omega, by go_num, ?_, hbr.setCell (Nat.le_refl _) _⟩
          have := HST.out
          rw [HN.out, set_stage xs k (by have := HN.out; omega) _ rfl, ← HN.out] at this
          simpa using this
        case measure => simp [intOf]; omega
    · go_wp2
      go_ret
      have hkn : k = n := by omega
      subst hkn
      refine ⟨_, rfl, ?_, hbr⟩
      rw [Nat.sub_self, HN.out, List.take_length, List.replicate_zero, List.append_nil, ← HN.out] at hownr
      exact hownr

set_option maxHeartbeats 400000 in
theorem eqIntS_any (ao bo : Option Addr) (ca cb : Nat) (xs ys : List Int) (w : World) (hx : Rd w ao xs) (hy : Rd w bo ys) (hlx : xs.length ≤ 9223372036854775807) (hly : ys.length ≤ 9223372036854775807) :
    Calls (cutP Try.prog) 24 #[.slice ao xs.length ca, .slice bo ys.length cb] w fun e w' => e = .returned (.bool (decide (xs = ys))) ∧ Same w w' := by
  obtain ⟨n, hn⟩ : ∃ n, n = xs.length := ⟨_, rfl⟩
  obtain ⟨m, hm⟩ : ∃ m, m = ys.length := ⟨_, rfl⟩
  rw [← hn, ← hm]
  rw [← hn] at hlx
  rw [← hm] at hly
  have HN := Lib.hid hn
  have HM := Lib.hid hm
  clear hn hm
  have HX := Lib.hid hx
  have HY := Lib.hid hy
  clear hx hy
  by_cases hnm : n = m
  · subst hnm
    go_enter Tryp.func24, Tryp.ntmps24
    go_wp2
    go_loopw [5] (fun i wr => ∃ k : Nat, k ≤ n ∧ i = .int .i64 k ∧ xs.take k = ys.take k ∧ Same w wr) (fun i _ => n - (intOf i).toNat)
    case atStart => exact ⟨0, Nat.zero_le _, rfl, rfl, Same.refl w⟩
    case round =>
      obtain ⟨k, hk, rfl, htk, hsr⟩ := hrel
      have HT := Lib.hid htk
      clear htk
      by_cases hlt : k < n
      · have hx := rd_same HX.out hsr
        have hy := rd_same HY.out hsr
        rcases hx with hx | ⟨b, off, rfl, hcx⟩
        · have := HN.out
          rw [hx] at this
          simp at this
          omega
        · rcases hy with hy | ⟨b2, off2, rfl, hcy⟩
          · have := HM.out
            rw [hy] at this
            simp at this
            omega
          · have hc1 := hcx k (by have := HN.out; omega)
            have hc2 := hcy k (by have := HM.out; omega)
            clear hcx hcy
            obtain ⟨x, hx⟩ : ∃ x, x = xs.getD k 0 := ⟨_, rfl⟩
            obtain ⟨y, hy⟩ : ∃ y, y = ys.getD k 0 := ⟨_, rfl⟩
            rw [← hx] at hc1
            rw [← hy] at hc2
            have HXK := Lib.hid hx
            have HYK := Lib.hid hy
            clear hx hy
            have hlt' : (k : Int) < n := by omega
            by_cases hxy : x = y
            · subst hxy
              go_wp2
              go_quiet (fail)
              go_wp2
              go_roundw
              case rel => exact ⟨k + 1, by omega, by go_num, take_succ_eq HT.out (by have := HN.out; omega) (by have := HM.out; omega) (by rw [← HXK.out, ← HYK.out]), hsr.drewN _⟩
              case measure => simp [intOf]; omega
            · have hb : (x != y) = true := by simpa using hxy
              go_wp2
              go_quiet (fail)
              go_wp2
              go_ret
              have hne : ¬ xs = ys := fun e => hxy (by rw [HXK.out, HYK.out, e])
              exact ⟨by simp [hne], hsr.drewN _⟩
      · go_wp2
        go_ret
        have hkn : k = n := by omega
        subst hkn
        have he : xs = ys := by
          have := HT.out
          rwa [List.take_of_length_le (by have := HN.out; omega), List.take_of_length_le (by have := HM.out; omega)] at this
        exact ⟨by simp [he], hsr⟩
  · go_enter Tryp.func24, Tryp.ntmps24
    go_wp2
    go_ret
    have hne : ¬ xs = ys := fun e => hnm (by rw [HN.out, HM.out, e])
    exact ⟨by simp [hne], Same.refl w⟩

theorem mark_stage (xs : List Int) (m : Int) (k : Nat) (h : k < xs.length) : (iota m k ++ xs.drop k).set k (m + k) = iota m (k + 1) ++ xs.drop (k + 1) := by
  apply List.ext_getElem?
  intro j
  by_cases h1 : j < k
  · rw [List.getElem?_set_ne (by omega), List.getElem?_append_left (by rw [iota_length]; omega), List.getElem?_append_left (by rw [iota_length]; omega)]
    simp [iota, h1, show j < k + 1 by omega]
  · by_cases h2 : j = k
    · subst h2
      rw [List.getElem?_set_self (by simp [iota_length]; omega), List.getElem?_append_left (by rw [iota_length]; omega)]
      simp [iota]
    · rw [List.getElem?_set_ne (by omega), List.getElem?_append_right (by rw [iota_length]; omega), List.getElem?_append_right (by rw [iota_length]; omega)]
      simp only [iota_length, List.getElem?_drop]
      rw [show k + (j - k) = k + 1 + (j - (k + 1)) by omega]

theorem grown_trans {a b c : World} {r : Option Nat} (h : a.grownBy b r) (k : b.grownBy c r) : a.grownBy c r :=
  ⟨k.os.trans h.os, k.tape.trans h.tape, k.output.trans h.output, Nat.le_trans h.size k.size, fun i hi hr => (k.block i (Nat.lt_of_lt_of_le hi h.size) hr).trans (h.block i hi hr)⟩

set_option maxHeartbeats 400000 in
theorem markIntS_v (v : Value) (B : Nat) (m : Int) (xs : List Int) (w : World) (ho : Own w B v xs) (hl : xs.length ≤ 4611686018427387904) (h0 : 0 ≤ m) (h1 : m ≤ 3458764513820540928) :
    Calls (cutP Try.prog) 27 #[v, .int .i64 m] w fun e w' => e = .returned (.int .i64 (m + xs.length)) ∧ Own w' B v (iota m xs.length) ∧ w.grownBy w' v.ownBlock ∧ w'.heap.size = w.heap.size := by
  obtain ⟨n, hn⟩ : ∃ n, n = xs.length := ⟨_, rfl⟩
  rw [← hn]
  rw [← hn] at hl
  have HO := ho
  have HN := Lib.hid hn
  rcases own_view ho with ⟨rfl, rfl⟩ | ⟨g, cap, rfl, hb, hl, hnc, hcm, hc, hf⟩
  · simp at hn
    subst hn
    go_enter Tryp.func27, Tryp.ntmps27
    go_wp2
    refine wp_loop_rounds 1 ?_
    rw [rounds_succ]
    go_wp2
    go_ret
    refine ⟨ret_int (by omega), HO, World.grownBy.refl _ _, rfl⟩
  · rw [← hn] at HO ⊢
    clear hc hf ho hnc hcm hn
    go_enter Tryp.func27, Tryp.ntmps27
    go_wp2
    go_loopw [1, 5] (fun u i wr => ∃ k : Nat, k ≤ n ∧ i = .int .i64 k ∧ u = .int .i64 (m + k) ∧ Own wr B (.slice (some ⟨g, 0, none⟩) n cap) (iota m k ++ xs.drop k) ∧ w.grownBy wr (some g) ∧ wr.heap.size = w.heap.size)
      (fun _ i _ => n - (intOf i).toNat)
    case atStart => exact ⟨0, Nat.zero_le _, rfl, by simp, by simpa [iota] using HO, World.grownBy.refl _ _, rfl⟩
    case round =>
      obtain ⟨k, hk, rfl, rfl, hownr, hgr, hsz⟩ := hrel
      have HSZ := Lib.hid hsz
      clear hsz
      by_cases hlt : k < n
      · have hfz := own_frozen hownr k
        obtain ⟨v0, hv0⟩ : ∃ v0, wr.cell? ⟨g, k, none⟩ = some v0 := ⟨_, own_cell hownr k (by have := HN.out; simp [iota_length]; omega)⟩
        obtain ⟨hst, hgs⟩ := own_stored hownr (by have := HN.out; simp [iota_length]; omega) k (m + k)
        have HST := Lib.hid hst
        have HGS := Lib.hid hgs
        clear hst hgs
        go_wp2
        go_roundw
        case rel =>
          refine ⟨k + 1, by omega, by go_num, by go_num, ?_, grown_trans hgr HGS.out, by simpa [World.setCell] using HSZ.out⟩
          have := HST.out
          rw [mark_stage xs m k (by have := HN.out; omega)] at this
          exact this
        case measure => simp [intOf]; omega
      · go_wp2
        go_ret
        have hkn : k = n := by omega
        subst hkn
        rw [HN.out, List.drop_length, List.append_nil, ← HN.out] at hownr
        exact ⟨rfl, hownr, hgr, HSZ.out⟩

set_option maxHeartbeats 400000 in
theorem heldIntS_any (ao : Option Addr) (ca : Nat) (m : Int) (n : Nat) (w : World) (hx : Rd w ao (iota m n)) (hl : n ≤ 4611686018427387904) (h0 : 0 ≤ m) (h1 : m ≤ 3458764513820540928) :
    Calls (cutP Try.prog) 28 #[.slice ao n ca, .int .i64 m] w fun e w' => e = .returned (.int .i64 (m + n)) ∧ w = w' := by
  have HX := Lib.hid hx
  clear hx
  go_enter Tryp.func28, Tryp.ntmps28
  go_wp2
  go_loop [1, 5] (fun u i => ∃ k : Nat, k ≤ n ∧ i = .int .i64 k ∧ u = .int .i64 (m + k)) (fun _ i => n - (intOf i).toNat)
  case atStart => exact ⟨0, Nat.zero_le _, rfl, by simp⟩
  case round =>
    obtain ⟨k, hk, rfl, rfl⟩ := hrel
    by_cases hlt : k < n
    · rcases HX.out with hx | ⟨b, off, rfl, hcx⟩
      · have := congrArg List.length hx
        rw [iota_length] at this
        simp at this
        omega
      · have hc1 := hcx k (by rw [iota_length]; omega)
        rw [iota_getD m n k hlt] at hc1
        clear hcx
        go_wp2
        go_round
        case rel => exact ⟨k + 1, by omega, by go_num, by go_num⟩
        case measure => simp [intOf]; omega
    · go_wp2
      go_ret
      have hkn : k = n := by omega
      subst hkn
      exact ⟨rfl, rfl⟩

theorem toIntS_v (v : Value) (xs : List Int) (w : World) (hv : RdV w v xs) (hl : xs.length ≤ 1048576) : Calls (cutP Try.prog) 22 #[v] w (FreshL w xs) := by
  obtain ⟨ao, ca, rfl, h, _, _⟩ := hv
  exact toIntS_any ao ca xs w h hl

theorem eqIntS_v (v u : Value) (xs : List Int) (w : World) (hv : RdV w v xs) (hu : RdV w u xs) : Calls (cutP Try.prog) 24 #[v, u] w fun e w' => e = .returned (.bool true) ∧ Same w w' := by
  obtain ⟨ao, ca, rfl, h, h1, h2⟩ := hv
  obtain ⟨bo, cb, rfl, k, k1, k2⟩ := hu
  unfold maxLen at h2
  refine (eqIntS_any ao bo ca cb xs xs w h k (by omega) (by omega)).mono fun e w' ⟨he, hw⟩ => ⟨by rw [he]; simp, hw⟩

theorem heldIntS_v (v : Value) (m : Int) (n : Nat) (w : World) (hv : RdV w v (iota m n)) (hl : n ≤ 4611686018427387904) (h0 : 0 ≤ m) (h1 : m ≤ 3458764513820540928) :
    Calls (cutP Try.prog) 28 #[v, .int .i64 m] w fun e w' => e = .returned (.int .i64 (m + n)) ∧ w = w' := by
  obtain ⟨ao, ca, rfl, h, _, _⟩ := hv
  rw [iota_length]
  exact heldIntS_any ao ca m n w h hl h0 h1
end

section
open Go.RowKit

def okFrom : Int → List Int → Bool
  | _, [] => true
  | b, x :: xs => decide (0 ≤ x) && decide (x ≤ b) && okFrom (if x = b then b + 1 else b) xs

def partIn (xs : List Int) : Bool := decide (1 ≤ xs.length) && decide (xs.length ≤ 8) && okFrom 0 xs

theorem okFrom_no {b x : Int} {xs : List Int} (h : x < 0 ∨ b < x) : okFrom b (x :: xs) = false := by
  rcases h with h | h
  · simp [okFrom, show ¬ 0 ≤ x by omega]
  · simp [okFrom, show ¬ x ≤ b by omega]

theorem okFrom_yes {b x : Int} {xs : List Int} (h : 0 ≤ x) (h2 : x < b) : okFrom b (x :: xs) = okFrom b xs := by
  simp [okFrom, h, show x ≤ b by omega, show ¬ x = b by omega]

theorem okFrom_new {b : Int} {xs : List Int} (h : 0 ≤ b) : okFrom b (b :: xs) = okFrom (b + 1) xs := by
  simp [okFrom, h]

theorem l6In_any (n lo hi : Int) (w : World) : Calls (cutP Try.prog) 56 #[.int .i64 n, .int .i64 lo, .int .i64 hi] w fun e w' => e = .returned (.bool (decide (lo ≤ n ∧ n ≤ hi))) ∧ w = w' := by
  by_cases h1 : lo ≤ n
  · by_cases h2 : n ≤ hi
    all_goals
      go_enter Tryp.func56, Tryp.ntmps56
      go_wp2
      go_ret
      exact ⟨by simp [h1, h2]; try omega, rfl⟩
  · go_enter Tryp.func56, Tryp.ntmps56
    go_wp2
    go_ret
    exact ⟨by simp [h1]; omega, rfl⟩

theorem countFits_any (n : Int) (w : World) : Calls (cutP Try.prog) 77 #[.int .i64 n] w fun e w' => e = .returned (.bool (decide (1 ≤ n ∧ n ≤ 8))) ∧ w = w' := by
  by_cases h1 : 1 ≤ n
  · by_cases h2 : n ≤ 8
    all_goals
      go_enter Tryp.func77, Tryp.ntmps77
      go_wp2
      go_ret
      exact ⟨by simp [h1, h2]; try omega, rfl⟩
  · go_enter Tryp.func77, Tryp.ntmps77
    go_wp2
    go_ret
    exact ⟨by simp [h1]; omega, rfl⟩

set_option maxHeartbeats 800000 in
theorem iPartIn_any (ao : Option Addr) (ca : Nat) (xs : List Int) (w : World) (hx : Rd w ao xs) (hl : xs.length ≤ 9223372036854775807) :
    Calls (cutP Try.prog) 60 #[.slice ao xs.length ca] w fun e w' => e = .returned (.bool (partIn xs)) ∧ w = w' := by
  obtain ⟨n, hn⟩ : ∃ n, n = xs.length := ⟨_, rfl⟩
  rw [← hn]
  rw [← hn] at hl
  have HN := Lib.hid hn
  clear hn
  have HX := Lib.hid hx
  clear hx
  by_cases hf : 1 ≤ n ∧ n ≤ 8
  · have hd : decide (1 ≤ (n : Int) ∧ (n : Int) ≤ 8) = true := by simp; omega
    have HD := Lib.hid hd
    clear hd
    have HP : Hid (partIn xs = okFrom 0 xs) := by
      show partIn xs = okFrom 0 xs
      unfold partIn
      rw [← HN.out]
      simp [hf.1, hf.2]
    obtain ⟨h1, h8⟩ := hf
    go_enter Tryp.func60, Tryp.ntmps60
    go_wp2_with (go_at_call 77; refine (countFits_any _ _).mono ?_; rintro e w' ⟨rfl, rfl⟩; rw [HD.out])
    go_loop [3, 12] (fun u i => ∃ (k : Nat) (b : Int), k ≤ n ∧ i = .int .i64 k ∧ u = .int .i64 b ∧ 0 ≤ b ∧ b ≤ k ∧ okFrom 0 xs = okFrom b (xs.drop k)) (fun _ i => n - (intOf i).toNat)
    case atStart => exact ⟨0, 0, Nat.zero_le _, rfl, rfl, by omega, by omega, rfl⟩
    case round =>
      obtain ⟨k, b, hk, rfl, rfl, hb0, hbk, hok⟩ := hrel
      have HOK := Lib.hid hok
      clear hok
      by_cases hlt : k < n
      · rcases HX.out with hx | ⟨bb, off, rfl, hcx⟩
        · have := HN.out
          rw [hx] at this
          simp at this
          omega
        · have hc1 := hcx k (by have := HN.out; omega)
          clear hcx
          have hdr := drop_cons xs k (by have := HN.out; omega)
          obtain ⟨x, hx⟩ : ∃ x, x = xs.getD k 0 := ⟨_, rfl⟩
          rw [← hx] at hc1 hdr
          have hok := HOK.out
          rw [hdr] at hok
          have HOK2 := Lib.hid hok
          clear hok HOK hdr hx
          by_cases h0 : x < 0
          · go_wp2
            go_ret
            exact ⟨ret_bool (by rw [HP.out, HOK2.out, okFrom_no (.inl h0)]), rfl⟩
          · by_cases hgt : b < x
            · go_wp2
              go_ret
              exact ⟨ret_bool (by rw [HP.out, HOK2.out, okFrom_no (.inr hgt)]), rfl⟩
            · by_cases he : x = b
              · subst he
                go_wp2
                go_round
                case rel => exact ⟨k + 1, x + 1, by omega, by go_num, by go_num, by omega, by omega, by rw [HOK2.out, okFrom_new hb0]⟩
                case measure => simp [intOf]; omega
              · have hlt2 : x < b := by omega
                go_wp2
                go_round
                case rel => exact ⟨k + 1, b, by omega, by go_num, (by first | rfl | (congr 1; omega)), by omega, by omega, by rw [HOK2.out, okFrom_yes (by omega) hlt2]⟩
                case measure => simp [intOf]; omega
      · go_wp2
        go_ret
        have hkn : k = n := by omega
        subst hkn
        exact ⟨by rw [HP.out, HOK.out, HN.out, List.drop_length]; rfl, rfl⟩
  · have hd : decide (1 ≤ (n : Int) ∧ (n : Int) ≤ 8) = false := by simp; omega
    have HD := Lib.hid hd
    clear hd
    have HP : Hid (partIn xs = false) := by
      show partIn xs = false
      unfold partIn
      rw [← HN.out]
      simp
      omega
    go_enter Tryp.func60, Tryp.ntmps60
    go_wp2_with (go_at_call 77; refine (countFits_any _ _).mono ?_; rintro e w' ⟨rfl, rfl⟩; rw [HD.out])
    go_ret
    exact ⟨ret_bool (by rw [HP.out]), rfl⟩

set_option maxHeartbeats 800000 in
theorem sPartIn_any (ao : Option Addr) (ca : Nat) (xs : List Int) (w : World) (hx : Rd w ao xs) (hl : xs.length ≤ 9223372036854775807) :
    Calls (cutP Try.prog) 43 #[.slice ao xs.length ca] w fun e w' => e = .returned (.bool (partIn xs)) ∧ w = w' := by
  obtain ⟨n, hn⟩ : ∃ n, n = xs.length := ⟨_, rfl⟩
  rw [← hn]
  rw [← hn] at hl
  have HN := Lib.hid hn
  clear hn
  have HX := Lib.hid hx
  clear hx
  go_enter Tryp.func43, Tryp.ntmps43
  go_wp2
  go_loop [3, 4] (fun u i => ∃ (k : Nat) (b : Int), k ≤ n ∧ i = .int .i64 k ∧ u = .int .i64 b ∧ -1 ≤ b ∧ b < k ∧ okFrom 0 xs = okFrom (b + 1) (xs.drop k)) (fun _ i => n - (intOf i).toNat)
  case atStart => exact ⟨0, -1, Nat.zero_le _, rfl, rfl, by omega, by omega, rfl⟩
  case round =>
    obtain ⟨k, b, hk, rfl, rfl, hb0, hbk, hok⟩ := hrel
    have HOK := Lib.hid hok
    clear hok
    by_cases hlt : k < n
    · rcases HX.out with hx | ⟨bb, off, rfl, hcx⟩
      · have := HN.out
        rw [hx] at this
        simp at this
        omega
      · have hc1 := hcx k (by have := HN.out; omega)
        clear hcx
        have hdr := drop_cons xs k (by have := HN.out; omega)
        obtain ⟨x, hx⟩ : ∃ x, x = xs.getD k 0 := ⟨_, rfl⟩
        rw [← hx] at hc1 hdr
        have hok := HOK.out
        rw [hdr] at hok
        have HOK2 := Lib.hid hok
        clear hok HOK hdr hx
        by_cases h0 : 0 ≤ x ∧ x ≤ b + 1
        · have hd : decide (0 ≤ x ∧ x ≤ b + 1) = true := by simpa using h0
          have HD := Lib.hid hd
          clear hd
          obtain ⟨h0, h1⟩ := h0
          by_cases he : x = b + 1
          · subst he
            go_wp2_with (go_at_call 56; refine (l6In_any _ _ _ _).mono ?_; rintro e w' ⟨rfl, rfl⟩; rw [HD.out])
            go_round
            case rel => exact ⟨k + 1, b + 1, by omega, by go_num, (by first | rfl | (congr 1; omega)), by omega, by omega, by rw [HOK2.out, okFrom_new (by omega)]⟩
            case measure => simp [intOf]; omega
          · have hlt2 : x < b + 1 := by omega
            go_wp2_with (go_at_call 56; refine (l6In_any _ _ _ _).mono ?_; rintro e w' ⟨rfl, rfl⟩; rw [HD.out])
            go_round
            case rel => exact ⟨k + 1, b, by omega, by go_num, (by first | rfl | (congr 1; omega)), by omega, by omega, by rw [HOK2.out, okFrom_yes h0 hlt2]⟩
            case measure => simp [intOf]; omega
        · have hd : decide (0 ≤ x ∧ x ≤ b + 1) = false := by simp; omega
          have HD := Lib.hid hd
          clear hd
          go_wp2_with (go_at_call 56; refine (l6In_any _ _ _ _).mono ?_; rintro e w' ⟨rfl, rfl⟩; rw [HD.out])
          go_ret
          exact ⟨ret_bool (by unfold partIn; rw [HOK2.out, okFrom_no (by omega)]; simp), rfl⟩
    · have hkn : k = n := by omega
      subst hkn
      go_wp2_with (go_at_call 56; refine (l6In_any _ _ _ _).mono ?_; rintro e w' ⟨rfl, rfl⟩)
      go_ret
      refine ⟨ret_bool ?_, rfl⟩
      have := HOK.out
      rw [HN.out, List.drop_length] at this
      unfold partIn
      rw [this, ← HN.out, show okFrom (b + 1) [] = true from rfl, Bool.eq_iff_iff]
      simp
      omega

theorem iPartIn_w (v : Value) (xs : List Int) (w : World) (hv : RdV w v xs) : Calls (cutP Try.prog) 60 #[v] w fun e w' => e = .returned (.bool (partIn xs)) ∧ w = w' := by
  obtain ⟨ao, ca, rfl, h, h1, h2⟩ := hv
  unfold maxLen at h2
  exact iPartIn_any ao ca xs w h (by omega)

theorem sPartIn_w (v : Value) (xs : List Int) (w : World) (hv : RdV w v xs) : Calls (cutP Try.prog) 43 #[v] w fun e w' => e = .returned (.bool (partIn xs)) ∧ w = w' := by
  obtain ⟨ao, ca, rfl, h, h1, h2⟩ := hv
  unfold maxLen at h2
  exact sPartIn_any ao ca xs w h (by omega)
end

section
open Go.RowKit

def sizeFrom : Int → List Int → Int
  | n, [] => n
  | n, x :: xs => sizeFrom (max n (x + 1)) xs

def Small (xs : List Int) : Prop := ∀ j, j < xs.length → 0 ≤ xs.getD j 0 ∧ xs.getD j 0 ≤ 7

theorem okFrom_small : ∀ (xs : List Int) (b : Int), 0 ≤ b → okFrom b xs = true → ∀ j, j < xs.length → 0 ≤ xs.getD j 0 ∧ xs.getD j 0 ≤ b + j := by
  intro xs
  induction xs with
  | nil => intro b _ _ j hj; simp at hj
  | cons x xs ih =>
    intro b hb h j hj
    simp only [okFrom, Bool.and_eq_true, decide_eq_true_eq] at h
    obtain ⟨⟨h0, h1⟩, h2⟩ := h
    cases j with
    | zero => simp; omega
    | succ j =>
      have := ih (if x = b then b + 1 else b) (by split <;> omega) h2 j (by simpa using hj)
      simp only [List.getD_cons_succ]
      refine ⟨this.1, ?_⟩
      have h3 := this.2
      split at h3 <;> omega

theorem partIn_len {xs : List Int} (h : partIn xs = true) : 1 ≤ xs.length ∧ xs.length ≤ 8 := by
  simp only [partIn, Bool.and_eq_true, decide_eq_true_eq] at h
  omega

theorem partIn_small {xs : List Int} (h : partIn xs = true) : Small xs := by
  have hl := partIn_len h
  simp only [partIn, Bool.and_eq_true, decide_eq_true_eq] at h
  intro j hj
  have := okFrom_small xs 0 (by omega) h.2 j hj
  omega

theorem sizeFrom_bd : ∀ (xs : List Int) (n : Int), Small xs → 0 ≤ n → n ≤ 8 → n ≤ sizeFrom n xs ∧ sizeFrom n xs ≤ 8 := by
  intro xs
  induction xs with
  | nil => intro n _ h0 h8; simp only [sizeFrom]; omega
  | cons x xs ih =>
    intro n hs h0 h8
    have hx := hs 0 (by simp)
    simp at hx
    have := ih (max n (x + 1)) (fun j hj => by have := hs (j + 1) (by simpa using hj); simpa using this) (by omega) (by omega)
    simp only [sizeFrom]
    omega

def pSize (xs : List Int) : Int := sizeFrom 0 xs

theorem pSize_bd {xs : List Int} (h : Small xs) : 0 ≤ pSize xs ∧ pSize xs ≤ 8 := sizeFrom_bd xs 0 h (by omega) (by omega)

set_option maxHeartbeats 800000 in
theorem l1Size_any (ao : Option Addr) (ca : Nat) (xs : List Int) (w : World) (hx : Rd w ao xs) (hl : xs.length ≤ 9223372036854775807) (hs : Small xs) :
    Calls (cutP Try.prog) 61 #[.slice ao xs.length ca] w fun e w' => e = .returned (.int .i64 (pSize xs)) ∧ w = w' := by
  obtain ⟨n, hn⟩ : ∃ n, n = xs.length := ⟨_, rfl⟩
  rw [← hn]
  rw [← hn] at hl
  have HN := Lib.hid hn
  clear hn
  have HX := Lib.hid hx
  clear hx
  have HS := Lib.hid hs
  clear hs
  go_enter Tryp.func61, Tryp.ntmps61
  go_wp2
  go_loop [3, 4] (fun u i => ∃ (k : Nat) (b : Int), k ≤ n ∧ i = .int .i64 k ∧ u = .int .i64 b ∧ 0 ≤ b ∧ b ≤ 8 ∧ pSize xs = sizeFrom b (xs.drop k)) (fun _ i => n - (intOf i).toNat)
  case atStart => exact ⟨0, 0, Nat.zero_le _, rfl, rfl, by omega, by omega, rfl⟩
  case round =>
    obtain ⟨k, b, hk, rfl, rfl, hb0, hb8, hok⟩ := hrel
    have HOK := Lib.hid hok
    clear hok
    by_cases hlt : k < n
    · rcases HX.out with hx | ⟨bb, off, rfl, hcx⟩
      · have := HN.out
        rw [hx] at this
        simp at this
        omega
      · have hc1 := hcx k (by have := HN.out; omega)
        clear hcx
        have hdr := drop_cons xs k (by have := HN.out; omega)
        obtain ⟨hx0, hx7⟩ := HS.out k (by have := HN.out; omega)
        obtain ⟨x, hx⟩ : ∃ x, x = xs.getD k 0 := ⟨_, rfl⟩
        rw [← hx] at hc1 hdr hx0 hx7
        have hok := HOK.out
        rw [hdr, sizeFrom] at hok
        have HOK2 := Lib.hid hok
        clear hok HOK hdr hx
        by_cases hm : x + 1 ≤ b
        · go_wp2
          go_round
          case rel => exact ⟨k + 1, b, by omega, by go_num, by first | rfl | (congr 1; omega), by omega, by omega, by rw [HOK2.out, Int.max_eq_left hm]⟩
          case measure => simp [intOf]; omega
        · go_wp2
          go_round
          case rel => exact ⟨k + 1, x + 1, by omega, by go_num, by first | rfl | (congr 1; omega), by omega, by omega, by rw [HOK2.out, Int.max_eq_right (by omega)]⟩
          case measure => simp [intOf]; omega
    · have hkn : k = n := by omega
      subst hkn
      go_wp2
      go_ret
      exact ⟨ret_int (by rw [HOK.out, HN.out, List.drop_length]; rfl), rfl⟩
end

def kstep (s : List Int × List Int × Int) (x : Int) : List Int × List Int × Int :=
  if x ∈ s.1 then (s.1 ++ [x], s.2.1 ++ [s.2.1.getD (s.1.idxOf x) 0], s.2.2) else (s.1 ++ [x], s.2.1 ++ [s.2.2], s.2.2 + 1)
def kfold (f : List Int) : List Int × List Int × Int := f.foldl kstep ([], [], 0)
def kOut (f : List Int) : List Int := (kfold f).2.1
def kNext (f : List Int) : Int := (kfold f).2.2

theorem kfold_snoc (f : List Int) (x : Int) : kfold (f ++ [x]) = kstep (kfold f) x := by simp [kfold, List.foldl_append]

theorem snoc_induction {p : List Int → Prop} (h0 : p []) (h1 : ∀ f x, p f → p (f ++ [x])) : ∀ f, p f := by
  have : ∀ n f, f.length = n → p f := by
    intro n
    induction n with
    | zero => intro f hf; rw [List.eq_nil_of_length_eq_zero hf]; exact h0
    | succ n ih =>
      intro f hf
      rcases List.eq_nil_or_concat f with h | ⟨L, b, h⟩
      · rw [h] at hf; simp at hf
      · subst h
        simp only [List.concat_eq_append] at hf ⊢
        exact h1 _ _ (ih L (by simpa using hf))
  exact fun f => this f.length f rfl

theorem kfold_done : ∀ f, (kfold f).1 = f := by
  refine snoc_induction rfl fun f x ih => ?_
  rw [kfold_snoc]
  unfold kstep
  rw [ih]
  split <;> rfl

theorem kOut_mem {f : List Int} {x : Int} (h : x ∈ f) : kOut (f ++ [x]) = kOut f ++ [(kOut f).getD (f.idxOf x) 0] ∧ kNext (f ++ [x]) = kNext f := by
  unfold kOut kNext
  rw [kfold_snoc]
  unfold kstep
  rw [kfold_done, if_pos h]
  exact ⟨rfl, rfl⟩

theorem kOut_new {f : List Int} {x : Int} (h : x ∉ f) : kOut (f ++ [x]) = kOut f ++ [kNext f] ∧ kNext (f ++ [x]) = kNext f + 1 := by
  unfold kOut kNext
  rw [kfold_snoc]
  unfold kstep
  rw [kfold_done, if_neg h]
  exact ⟨rfl, rfl⟩

theorem kOut_length : ∀ f, (kOut f).length = f.length := by
  refine snoc_induction rfl fun f x ih => ?_
  by_cases h : x ∈ f
  · rw [(kOut_mem h).1]; simp [ih]
  · rw [(kOut_new h).1]; simp [ih]

theorem kNext_bd : ∀ f, 0 ≤ kNext f ∧ kNext f ≤ f.length := by
  refine snoc_induction ⟨Int.le_refl _, Int.le_refl _⟩ fun f x ih => ?_
  by_cases h : x ∈ f
  · rw [(kOut_mem h).2]; simp; omega
  · rw [(kOut_new h).2]; simp; omega

theorem getD_snoc_lt (l : List Int) (x : Int) (j : Nat) (h : j < l.length) : (l ++ [x]).getD j 0 = l.getD j 0 := by
  simp [List.getD, List.getElem?_append_left h]
theorem getD_snoc_eq (l : List Int) (x : Int) : (l ++ [x]).getD l.length 0 = x := by simp [List.getD]

theorem getD_idxOf {f : List Int} {x : Int} (h : x ∈ f) : f.getD (f.idxOf x) 0 = x := by
  have := List.idxOf_lt_length_of_mem h
  simp [List.getD, List.getElem?_eq_getElem this]

theorem mem_of_getD {f : List Int} {x : Int} {j : Nat} (h : j < f.length) (e : f.getD j 0 = x) : x ∈ f := by
  rw [← e]
  simp [List.getD, h]

theorem kOut_inv : ∀ f, (∀ j, j < f.length → 0 ≤ (kOut f).getD j 0 ∧ (kOut f).getD j 0 < kNext f) ∧ (∀ i j, i < f.length → j < f.length → (f.getD i 0 = f.getD j 0 ↔ (kOut f).getD i 0 = (kOut f).getD j 0)) := by
  refine snoc_induction ⟨fun j hj => by simp at hj, fun i j hi => by simp at hi⟩ fun f x ih => ?_
  obtain ⟨ih1, ih2⟩ := ih
  have hlen := kOut_length f
  have hnb := kNext_bd f
  have A : ∀ y j, j < f.length → (f ++ [y]).getD j 0 = f.getD j 0 := fun y j hj => getD_snoc_lt f y j hj
  have A1 : ∀ y, (f ++ [y]).getD f.length 0 = y := fun y => getD_snoc_eq f y
  have K : ∀ y j, j < f.length → (kOut f ++ [y]).getD j 0 = (kOut f).getD j 0 := fun y j hj => getD_snoc_lt _ y j (by omega)
  have last : ∀ y, (kOut f ++ [y]).getD f.length 0 = y := fun y => by rw [← hlen]; exact getD_snoc_eq _ _
  by_cases h : x ∈ f
  · obtain ⟨e1, e2⟩ := kOut_mem h
    have hi := List.idxOf_lt_length_of_mem h
    have hg := getD_idxOf h
    rw [e1, e2]
    constructor
    · intro j hj
      simp at hj
      by_cases hl : j < f.length
      · rw [K _ _ hl]; exact ih1 j hl
      · obtain rfl : j = f.length := by omega
        rw [last]
        exact ih1 _ hi
    · intro i j hi' hj'
      simp at hi' hj'
      by_cases hl : i < f.length <;> by_cases hm : j < f.length
      · rw [A _ _ hl, A _ _ hm, K _ _ hl, K _ _ hm]; exact ih2 i j hl hm
      · obtain rfl : j = f.length := by omega
        rw [A _ _ hl, A1, K _ _ hl, last, ← ih2 i _ hl hi, hg]
      · obtain rfl : i = f.length := by omega
        rw [A _ _ hm, A1, K _ _ hm, last, ← ih2 _ j hi hm, hg]
      · obtain rfl : i = f.length := by omega
        obtain rfl : j = f.length := by omega
        simp
  · obtain ⟨e1, e2⟩ := kOut_new h
    rw [e1, e2]
    constructor
    · intro j hj
      simp at hj
      by_cases hl : j < f.length
      · rw [K _ _ hl]; have := ih1 j hl; omega
      · obtain rfl : j = f.length := by omega
        rw [last]
        omega
    · intro i j hi' hj'
      simp at hi' hj'
      by_cases hl : i < f.length <;> by_cases hm : j < f.length
      · rw [A _ _ hl, A _ _ hm, K _ _ hl, K _ _ hm]; exact ih2 i j hl hm
      · obtain rfl : j = f.length := by omega
        rw [A _ _ hl, A1, K _ _ hl, last]
        have := ih1 i hl
        exact ⟨fun e => absurd (mem_of_getD hl e) h, fun e => by omega⟩
      · obtain rfl : i = f.length := by omega
        rw [A _ _ hm, A1, K _ _ hm, last]
        have := ih1 j hm
        exact ⟨fun e => absurd (mem_of_getD hm e.symm) h, fun e => by omega⟩
      · obtain rfl : i = f.length := by omega
        obtain rfl : j = f.length := by omega
        simp

theorem take_snoc (xs : List Int) (k : Nat) (h : k < xs.length) : xs.take (k + 1) = xs.take k ++ [xs.getD k 0] := by
  rw [List.take_succ_eq_append_getElem h]
  simp [List.getD, h]

theorem idxOf_take (xs : List Int) (k : Nat) (h : k < xs.length) : (xs.getD k 0 ∈ xs.take k → xs.idxOf (xs.getD k 0) = (xs.take k).idxOf (xs.getD k 0) ∧ xs.idxOf (xs.getD k 0) < k) ∧ (xs.getD k 0 ∉ xs.take k → xs.idxOf (xs.getD k 0) = k) := by
  have e : xs = xs.take k ++ xs.getD k 0 :: xs.drop (k + 1) := by
    rw [← drop_cons xs k h, List.take_append_drop]
  obtain ⟨x, hx⟩ : ∃ x, x = xs.getD k 0 := ⟨_, rfl⟩
  rw [← hx] at e ⊢
  have hlen : (xs.take k).length = k := by simp; omega
  constructor
  · intro hm
    have h1 : xs.idxOf x = (xs.take k).idxOf x := by
      conv => lhs; rw [e]
      rw [List.idxOf_append, if_pos hm]
    refine ⟨h1, ?_⟩
    rw [h1]
    have := List.idxOf_lt_length_of_mem hm
    omega
  · intro hm
    conv => lhs; rw [e]
    rw [List.idxOf_append, if_neg hm, List.idxOf_cons_self]
    omega

section
open Go.RowKit

theorem own_alloc {w : World} {B : Nat} {v : Value} {xs : List Int} (h : Own w B v xs) (o : Obj) : Own (w.alloc o) B v xs := World.ownsRow.alloc h o

theorem cell_new1 (w : World) (x : Value) (t : TypeId) : (w.alloc (.cells #[x] t)).cell? ⟨w.heap.size, 0, none⟩ = some x := by
  simp

theorem wpList_push {w : World} {ops : Array Oper} {rest : List Oper} {o : Oper} {a : Act} {Q : Exit → Act → World → Prop} (hgd : o.guard = none) (s x : Operand)
    (ho : o.op = .call { callee := .builtin .append, args := #[s, x], argTypes := #[25, 25] })
    (B g n cap : Nat) (xs : List Int) (hs : a.eval s = .slice (some ⟨g, 0, none⟩) n cap) (hown : Own w B (.slice (some ⟨g, 0, none⟩) n cap) xs) (hn : n = xs.length)
    (ad : Addr) (hx : a.eval x = .slice (some ad) 1 1) (y : Int) (hc : w.cell? ad = some (.int .i64 y)) (hl : n ≤ 1000000000) (hB : B ≤ w.heap.size)
    (h : ∀ g' cap' w', Own w' B (.slice (some ⟨g', 0, none⟩) (n + 1) cap') (xs ++ [y]) → w.grownBy w' (some g) → (g' = g ∨ g' = w.heap.size) → wpList (cutP Try.prog) ops Q rest (a.put o.dst (.slice (some ⟨g', 0, none⟩) (n + 1) cap')) w') :
    wpList (cutP Try.prog) ops Q (o :: rest) a w := by
  obtain ⟨i0, hi, hz0, hz1, hz2⟩ := info_parts Try.infoInt
  subst hn
  refine wpList_append_own_at w hgd s x 25 ho B 3 i0 (.int .i64 0) 1 8 Tryp.underlying25 hi hz0 hz1 hz2 rfl (by decide) _ xs.length (xs.map (Value.int .i64)) hs hown ad 1 1 [.int .i64 y] hx rfl ?_ ?_ (by unfold maxLen; omega) (by omega) hB ?_
  · intro j u hj
    match j, hj with
    | 0, hj =>
      simp at hj
      subst hj
      simpa [Addr.add] using hc
  · intro u hu
    simp at hu
    subst hu
    rfl
  · intro v' w' ho' hg' hnil hb'
    have hown' : Own w' B v' (xs ++ [y]) := by
      unfold Own
      simpa using ho'
    rcases own_view hown' with ⟨rfl, h2⟩ | ⟨g', cap', rfl, _⟩
    · simp at h2
    · simp only [List.length_append, List.length_cons, List.length_nil] at hown' ⊢
      refine h g' cap' w' hown' hg' ?_
      simpa [Value.ownBlock] using hb'

theorem own_empty (w : World) (B : Nat) (hB : B ≤ w.heap.size) : Own (w.alloc (.cells #[] 3)) B (.slice (some ⟨w.heap.size, 0, none⟩) 0 0) [] :=
  World.ownsRow_made w #[] 0 hB (Nat.zero_le _) rfl

def seen (p : List Int) (x : Int) (k : Nat) : Int := if x ∈ p.take k then (kOut p).getD (p.idxOf x) 0 else -1

theorem seen_zero (p : List Int) (x : Int) : seen p x 0 = -1 := by simp [seen]

theorem seen_hit (p : List Int) (x : Int) (k : Nat) (hk : k < p.length) (h : p.getD k 0 = x) : seen p x (k + 1) = (kOut p).getD k 0 := by
  have hm : x ∈ p := mem_of_getD hk h
  have hi := List.idxOf_lt_length_of_mem hm
  unfold seen
  rw [take_snoc p k hk, if_pos (by rw [h]; simp), ← (kOut_inv p).2 _ _ hi hk, getD_idxOf hm, h]

theorem seen_miss (p : List Int) (x : Int) (k : Nat) (hk : k < p.length) (h : p.getD k 0 ≠ x) : seen p x (k + 1) = seen p x k := by
  unfold seen
  rw [take_snoc p k hk]
  have : (x ∈ p.take k ++ [p.getD k 0]) ↔ x ∈ p.take k := by
    simp only [List.mem_append, List.mem_singleton]
    exact ⟨fun h' => h'.elim id fun e => absurd e.symm h, .inl⟩
  simp only [this]

theorem seen_bd (p : List Int) (x : Int) (k : Nat) (hk : k ≤ p.length) : -1 ≤ seen p x k ∧ seen p x k ≤ p.length := by
  unfold seen
  split
  · have hm : x ∈ p := List.mem_of_mem_take (by assumption)
    have := (kOut_inv p).1 _ (List.idxOf_lt_length_of_mem hm)
    have := kNext_bd p
    omega
  · omega

theorem seen_end (p : List Int) (x : Int) : seen p x p.length = if x ∈ p then (kOut p).getD (p.idxOf x) 0 else -1 := by
  unfold seen
  rw [List.take_length]

set_option maxHeartbeats 4000000 in
theorem l1Kernel_any (ao : Option Addr) (ca : Nat) (xs : List Int) (w : World) (hx : Rd w ao xs) (hl : xs.length ≤ 1000000) :
    Calls (cutP Try.prog) 66 #[.slice ao xs.length ca] w (FreshL w (kOut xs)) := by
  obtain ⟨n, hn⟩ : ∃ n, n = xs.length := ⟨_, rfl⟩
  rw [← hn]
  rw [← hn] at hl
  have HN := Lib.hid hn
  clear hn
  have HX := Lib.hid hx
  clear hx
  go_enter Tryp.func66, Tryp.ntmps66
  go_wp2
  go_loopw [3, 4, 5] (fun u m i wr => ∃ k g cap : Nat, k ≤ n ∧ i = .int .i64 k ∧ u = .slice (some ⟨g, 0, none⟩) k cap ∧ m = .int .i64 (kNext (xs.take k)) ∧ Own wr w.heap.size (.slice (some ⟨g, 0, none⟩) k cap) (kOut (xs.take k)) ∧ Below w.heap.size w wr)
    (fun _ _ i _ => n - (intOf i).toNat)
  case atStart => exact ⟨0, w.heap.size, 0, Nat.zero_le _, rfl, rfl, rfl, own_empty w _ (Nat.le_refl _), (Below.refl _ _).alloc (Nat.le_refl _) _⟩
  case round =>
    obtain ⟨k, g, cap, hk, rfl, rfl, rfl, hown, hbel⟩ := hrel
    have hnb := kNext_bd (xs.take k)
    have hkl : (xs.take k).length = k := by have := HN.out; simp; omega
    have HKL := Lib.hid hkl
    clear hkl
    obtain ⟨m, hm⟩ : ∃ m, m = kNext (xs.take k) := ⟨_, rfl⟩
    rw [← hm] at hnb ⊢
    rw [HKL.out] at hnb
    have HM := Lib.hid hm
    clear hm
    by_cases hlt : k < n
    · rcases HX.out with hx | ⟨bb, off, rfl, hcx⟩
      · have := HN.out
        rw [hx] at this
        simp at this
        omega
      · have hcx' : ∀ j, j < n → wr.cell? ⟨bb, off + j, none⟩ = some (.int .i64 (xs.getD j 0)) := fun j hj => by
          have := hcx j (by have := HN.out; omega)
          rw [hbel.cell (World.block_lt_of_cell? w _ this)]
          exact this
        have HC := Lib.hid hcx'
        have hck := hcx' k hlt
        clear hcx hcx'
        have HO := Lib.hid hown
        obtain ⟨x, hx⟩ : ∃ x, x = xs.getD k 0 := ⟨_, rfl⟩
        rw [← hx] at hck
        have HXK := Lib.hid hx
        clear hx
        obtain ⟨wo, hwo⟩ : ∃ wo : World, wo = wr := ⟨_, rfl⟩
        subst hwo
        go_wp2
        go_loopw [6, 7] (fun u i wi => ∃ j : Nat, j ≤ k ∧ i = .int .i64 j ∧ u = .int .i64 (seen (xs.take k) x j) ∧ Same wo wi) (fun _ i _ => k - (intOf i).toNat)
        case atStart => exact ⟨0, Nat.zero_le _, rfl, by rw [seen_zero], Same.refl _⟩
        case round =>
          obtain ⟨j, hj, rfl, rfl, hsame⟩ := hrel
          have hck' : wr.cell? ⟨bb, off + k, none⟩ = some (.int .i64 x) := by
            rw [(hsame _).cell (World.block_lt_of_cell? wo _ hck)]; exact hck
          have hsb := seen_bd (xs.take k) x j (by rw [HKL.out]; omega)
          rw [HKL.out] at hsb
          obtain ⟨u, hu⟩ : ∃ u, u = seen (xs.take k) x j := ⟨_, rfl⟩
          rw [← hu] at hsb ⊢
          have HU := Lib.hid hu
          clear hu
          by_cases hjk : j < k
          · have hcj := HC.out j (by omega)
            have hcj : wr.cell? ⟨bb, off + j, none⟩ = some (.int .i64 (xs.getD j 0)) := by
              rw [(hsame _).cell (World.block_lt_of_cell? wo _ hcj)]; exact hcj
            have hoj := own_cell HO.out j (by rw [kOut_length, HKL.out]; omega)
            have hoj : wr.cell? ⟨g, j, none⟩ = some (.int .i64 ((kOut (xs.take k)).getD j 0)) := by
              rw [(hsame _).cell (World.block_lt_of_cell? wo _ hoj)]; exact hoj
            obtain ⟨y, hy⟩ : ∃ y, y = xs.getD j 0 := ⟨_, rfl⟩
            obtain ⟨z, hz⟩ : ∃ z, z = (kOut (xs.take k)).getD j 0 := ⟨_, rfl⟩
            rw [← hy] at hcj
            rw [← hz] at hoj
            have hyj : (xs.take k).getD j 0 = y := by rw [hy]; simp [List.getD, List.getElem?_take, hjk]
            have HZ := Lib.hid hz
            have HY := Lib.hid hyj
            clear hy hz hyj
            have hjk' : (j : Int) < k := by omega
            have hjn' : (j : Int) < n := by omega
            have hkn' : (k : Int) < n := by omega
            by_cases hxy : y = x
            · subst hxy
              go_wp2
              go_quiet (fail)
              go_wp2
              go_roundw
              case rel => exact ⟨j + 1, by omega, by go_num, by rw [seen_hit _ _ _ (by rw [HKL.out]; omega) HY.out, HZ.out], hsame.drewN _⟩
              case measure => simp [intOf]; omega
            · have hb : (y == x) = false := by simpa using hxy
              go_wp2
              go_quiet (fail)
              go_wp2
              go_roundw
              case rel => exact ⟨j + 1, by omega, by go_num, by rw [seen_miss _ _ _ (by rw [HKL.out]; omega) (by rw [HY.out]; exact hxy), HU.out], hsame.drewN _⟩
              case measure => simp [intOf]; omega
          · have hjk : j = k := by omega
            subst hjk
            have hue : u = if x ∈ xs.take j then (kOut (xs.take j)).getD ((xs.take j).idxOf x) 0 else -1 := by
              have := seen_end (xs.take j) x
              rw [HKL.out] at this
              rw [HU.out, this]
            have HUE := Lib.hid hue
            have hts := take_snoc xs j (by have := HN.out; omega)
            rw [← HXK.out] at hts
            have HTS := Lib.hid hts
            have hown' : Own wr w.heap.size (.slice (some ⟨g, 0, none⟩) j cap) (kOut (xs.take j)) := own_below HO.out (hsame _)
            have hbel' : Below w.heap.size w wr := hbel.trans (hsame _)
            have hB := hbel'.size
            have HO' := Lib.hid hown'
            clear hue hts hown' hown
            by_cases hmem : x ∈ xs.take j
            · have hu0 : 0 ≤ u := by
                rw [HUE.out, if_pos hmem]
                exact ((kOut_inv _).1 _ (List.idxOf_lt_length_of_mem hmem)).1
              go_wp2_with (at_builtin; refine wpList_push rfl _ _ rfl w.heap.size g j cap (kOut (xs.take j)) rfl (own_alloc HO'.out _) (by rw [kOut_length, HKL.out]) ⟨wr.heap.size, 0, none⟩ rfl u (cell_new1 _ _ _) (by omega) (by simp; omega) ?_)
              intro g' cap' w2 hown2 hgr2 hg2
              have hbel2 : Below w.heap.size w w2 := (hbel'.alloc hB _).grown hgr2 (by simp; omega) (fun q hq => by cases hq; exact (own_lt HO'.out g rfl).1)
              have HO2 := Lib.hid hown2
              clear hown2 hgr2 hg2
              go_wp2
              go_roundw
              case rel =>
                refine ⟨j + 1, g', cap', by omega, by go_num, rfl, ?_, ?_, hbel2⟩
                · rw [HTS.out, (kOut_mem hmem).2, HM.out]
                · have := HO2.out
                  rw [HUE.out, if_pos hmem, ← (kOut_mem hmem).1, ← HTS.out] at this
                  exact this
              case measure => simp [intOf]; omega
            · have hu0 : u < 0 := by
                rw [HUE.out, if_neg hmem]
                omega
              go_wp2_with (at_builtin; refine wpList_push rfl _ _ rfl w.heap.size g j cap (kOut (xs.take j)) rfl (own_alloc HO'.out _) (by rw [kOut_length, HKL.out]) ⟨wr.heap.size, 0, none⟩ rfl m (cell_new1 _ _ _) (by omega) (by simp; omega) ?_)
              intro g' cap' w2 hown2 hgr2 hg2
              have hbel2 : Below w.heap.size w w2 := (hbel'.alloc hB _).grown hgr2 (by simp; omega) (fun q hq => by cases hq; exact (own_lt HO'.out g rfl).1)
              have HO2 := Lib.hid hown2
              clear hown2 hgr2 hg2
              go_wp2
              go_roundw
              case rel =>
                refine ⟨j + 1, g', cap', by omega, by go_num, rfl, ?_, ?_, hbel2⟩
                · rw [HTS.out, (kOut_new hmem).2, HM.out]
                · have := HO2.out
                  rw [HM.out, ← (kOut_new hmem).1, ← HTS.out] at this
                  exact this
              case measure => simp [intOf]; omega
    · have hkn : k = n := by omega
      subst hkn
      go_wp2
      go_ret
      rw [HN.out, List.take_length, ← HN.out] at hown
      exact ⟨_, rfl, hown, hbel⟩

set_option maxHeartbeats 800000 in
theorem slicesIndex_any (ao : Option Addr) (ca : Nat) (xs : List Int) (x : Int) (w : World) (hx : Rd w ao xs) (hl : xs.length ≤ 9223372036854775807) (hm : x ∈ xs) :
    Calls (cutP Try.prog) 33 #[.slice ao xs.length ca, .int .i64 x] w fun e w' => e = .returned (.int .i64 (xs.idxOf x)) ∧ w = w' := by
  obtain ⟨n, hn⟩ : ∃ n, n = xs.length := ⟨_, rfl⟩
  rw [← hn]
  rw [← hn] at hl
  have HN := Lib.hid hn
  clear hn
  have hil := List.idxOf_lt_length_of_mem hm
  have hig := getD_idxOf hm
  obtain ⟨p, hp⟩ : ∃ p, p = xs.idxOf x := ⟨_, rfl⟩
  rw [← hp] at hil hig ⊢
  have HG := Lib.hid hig
  have hmin : ∀ j, j < p → xs.getD j 0 ≠ x := by
    intro j hj e
    rw [hp] at hj
    have := List.not_of_lt_findIdx (p := (· == x)) (xs := xs) (i := j) (by simpa [List.idxOf] using hj)
    rw [hp] at hil
    have hjl : j < xs.length := by omega
    simp [List.getD, hjl] at e
    simp [e] at this
  have HM := Lib.hid hmin
  clear hmin hp hig hm
  rcases hx with hx | ⟨bb, off, rfl, hcx⟩
  · rw [hx] at hil
    simp at hil
  have HX := Lib.hid hcx
  clear hcx
  have hpn : p < n := by have := HN.out; omega
  clear hil
  go_enter Tryp.func33, Tryp.ntmps33
  go_wp2
  go_loop [8] (fun i => ∃ k : Nat, k ≤ p ∧ i = .int .i64 k) (fun i => n - (intOf i).toNat)
  case atStart => exact ⟨0, Nat.zero_le _, rfl⟩
  case round =>
    obtain ⟨k, hk, rfl⟩ := hrel
    have hc1 := HX.out k (by have := HN.out; omega)
    by_cases he : k = p
    · subst he
      rw [HG.out] at hc1
      go_wp2
      go_ret
      exact ⟨rfl, rfl⟩
    · have hne := HM.out k (by omega)
      obtain ⟨y, hy⟩ : ∃ y, y = xs.getD k 0 := ⟨_, rfl⟩
      rw [← hy] at hc1 hne
      clear hy
      have hb : (x == y) = false := by simp; exact fun e => hne e.symm
      go_wp2
      go_round
      case rel => exact ⟨k + 1, by omega, by go_num⟩
      case measure => simp [intOf]; omega

theorem kern_stage_mem (xs : List Int) (k : Nat) (h : k < xs.length) (hm : xs.getD k 0 ∈ xs.take k) :
    (kOut (xs.take k) ++ List.replicate (xs.length - k) 0).set k ((kOut (xs.take k) ++ List.replicate (xs.length - k) 0).getD (xs.idxOf (xs.getD k 0)) 0) = kOut (xs.take (k + 1)) ++ List.replicate (xs.length - (k + 1)) 0 := by
  obtain ⟨h1, h2⟩ := (idxOf_take xs k h).1 hm
  have hl : (xs.take k).length = k := by simp; omega
  have e : (kOut (xs.take k) ++ List.replicate (xs.length - k) 0).getD (xs.idxOf (xs.getD k 0)) 0 = (kOut (xs.take k)).getD ((xs.take k).idxOf (xs.getD k 0)) 0 := by
    rw [← h1]
    rw [List.getD_eq_getElem?_getD, List.getElem?_append_left (by rw [kOut_length]; omega), ← List.getD_eq_getElem?_getD]
  rw [e, take_snoc xs k h, (kOut_mem hm).1]
  have hk : (kOut (xs.take k)).length = k := by rw [kOut_length]; exact hl
  rw [List.set_append_right _ _ (by omega), hk, Nat.sub_self, show xs.length - k = (xs.length - (k + 1)) + 1 by omega, List.replicate_succ, List.set_cons_zero, List.append_assoc]
  rfl

theorem kern_stage_new (xs : List Int) (k : Nat) (h : k < xs.length) (hm : xs.getD k 0 ∉ xs.take k) :
    (kOut (xs.take k) ++ List.replicate (xs.length - k) 0).set k (kNext (xs.take k)) = kOut (xs.take (k + 1)) ++ List.replicate (xs.length - (k + 1)) 0 := by
  have hl : (xs.take k).length = k := by simp; omega
  rw [take_snoc xs k h, (kOut_new hm).1]
  have hk : (kOut (xs.take k)).length = k := by rw [kOut_length]; exact hl
  rw [List.set_append_right _ _ (by omega), hk, Nat.sub_self, show xs.length - k = (xs.length - (k + 1)) + 1 by omega, List.replicate_succ, List.set_cons_zero, List.append_assoc]
  rfl

set_option maxHeartbeats 4000000 in
theorem kernel_any (ao : Option Addr) (ca : Nat) (xs : List Int) (w : World) (hx : Rd w ao xs) (hl : xs.length ≤ 1000000) :
    Calls (cutP Try.prog) 46 #[.slice ao xs.length ca] w (FreshL w (kOut xs)) := by
  obtain ⟨n, hn⟩ : ∃ n, n = xs.length := ⟨_, rfl⟩
  rw [← hn]
  rw [← hn] at hl
  have HN := Lib.hid hn
  clear hn
  obtain ⟨i0, hi, hz0, hz1, hz2⟩ := info_parts Try.infoInt
  have HX := Lib.hid hx
  clear hx
  go_enter Tryp.func46, Tryp.ntmps46
  go_wp2_with (at_make; refine wpList_make_full _ rfl _ _ 25 rfl w.heap.size 3 i0 (.int .i64 0) 1 Tryp.underlying25 hi hz0 hz1 _ _ _ _ n rfl rfl rfl rfl (by rw [hz2]; omega) (by unfold maxLen; omega) (Nat.le_refl _) ?_)
  intro w1 hown1 hgrow1
  have hb1 : Below w.heap.size w w1 := (Below.refl _ _).grown hgrow1 (Nat.le_refl _) (fun k h => by cases h)
  have hown := own_made hown1
  clear hown1 hgrow1
  go_wp2
  go_loopw [4, 13] (fun m i wr => ∃ k : Nat, k ≤ n ∧ i = .int .i64 k ∧ m = .int .i64 (kNext (xs.take k)) ∧ Own wr w.heap.size (.slice (some ⟨w.heap.size, 0, none⟩) n n) (kOut (xs.take k) ++ List.replicate (n - k) 0) ∧ Below w.heap.size w wr)
    (fun _ i _ => n - (intOf i).toNat)
  case atStart => exact ⟨0, Nat.zero_le _, rfl, rfl, by simpa [kOut, kfold] using hown, hb1⟩
  case round =>
    obtain ⟨k, hk, rfl, rfl, hown, hbel⟩ := hrel
    have hnb := kNext_bd (xs.take k)
    have hkl : (xs.take k).length = k := by have := HN.out; simp; omega
    have HKL := Lib.hid hkl
    clear hkl
    obtain ⟨m, hm⟩ : ∃ m, m = kNext (xs.take k) := ⟨_, rfl⟩
    rw [← hm] at hnb ⊢
    rw [HKL.out] at hnb
    have HM := Lib.hid hm
    clear hm
    by_cases hlt : k < n
    · have hrd := rd_below HX.out hbel
      rcases HX.out with hx | ⟨bb, off, rfl, hcx⟩
      · have := HN.out
        rw [hx] at this
        simp at this
        omega
      · have hck : wr.cell? ⟨bb, off + k, none⟩ = some (.int .i64 (xs.getD k 0)) := by
          have := hcx k (by have := HN.out; omega)
          rw [hbel.cell (World.block_lt_of_cell? w _ this)]
          exact this
        clear hcx
        have HO := Lib.hid hown
        have hmem : xs.getD k 0 ∈ xs := mem_of_getD (by have := HN.out; omega) rfl
        have hidx := idxOf_take xs k (by have := HN.out; omega)
        have HS1 := Lib.hid (kern_stage_mem xs k (by have := HN.out; omega))
        have HS2 := Lib.hid (kern_stage_new xs k (by have := HN.out; omega))
        obtain ⟨x, hx⟩ : ∃ x, x = xs.getD k 0 := ⟨_, rfl⟩
        rw [← hx] at hck hmem hidx
        have HXK := Lib.hid hx
        have HRD := Lib.hid hrd
        have HMEM := Lib.hid hmem
        have HIDX := Lib.hid hidx
        have hfz := own_frozen hown k
        obtain ⟨v0, hv0⟩ : ∃ v0, wr.cell? ⟨w.heap.size, k, none⟩ = some v0 := ⟨_, own_cell hown k (by rw [List.length_append, kOut_length, HKL.out]; simp; omega)⟩
        have hpl : xs.idxOf x ≤ k := by
          by_cases hm : x ∈ xs.take k
          · have := (hidx.1 hm).2; omega
          · have := hidx.2 hm; omega
        have hcp := own_cell hown (xs.idxOf x) (by rw [List.length_append, kOut_length, HKL.out]; simp; omega)
        obtain ⟨p, hp⟩ : ∃ p, p = xs.idxOf x := ⟨_, rfl⟩
        rw [← hp] at hpl hcp
        have HP := Lib.hid hp
        obtain ⟨z, hz⟩ : ∃ z, z = (kOut (xs.take k) ++ List.replicate (n - k) 0).getD p 0 := ⟨_, rfl⟩
        rw [← hz] at hcp
        have HZ := Lib.hid hz
        clear hx hrd hmem hidx hown hp hz
        by_cases hm : x ∈ xs.take k
        · have hpk : p < k := by have := HIDX.out.1 hm; rw [HP.out]; exact this.2
          obtain ⟨hst, hgs⟩ := own_stored HO.out (by rw [List.length_append, kOut_length, HKL.out]; simp; omega) k z
          have HST := Lib.hid hst
          clear hst hgs
          have HMK := Lib.hid hm
          clear hm
          go_wp2_with fail
          rw [HN.out]
          refine (slicesIndex_any _ _ _ _ _ HRD.out (by have := HN.out; omega) HMEM.out).mono ?_
          rintro e w' ⟨rfl, rfl⟩
          rw [← HN.out, ← HP.out]
          go_wp2
          go_roundw
          case rel =>
            refine ⟨k + 1, by omega, by go_num, ?_, ?_, hbel.setCell (Nat.le_refl _) _⟩
            · have hmk := HMK.out
              rw [HXK.out] at hmk
              rw [HM.out, take_snoc xs k (by have := HN.out; omega), (kOut_mem hmk).2]
            · have hmk := HMK.out
              rw [HXK.out] at hmk
              have h1 := HST.out
              have h2 := HS1.out hmk
              rw [← HN.out, ← HXK.out, ← HP.out, ← HZ.out] at h2
              rw [h2] at h1
              exact h1
          case measure => simp [intOf]; omega
        · have hpk : p = k := by rw [HP.out]; exact HIDX.out.2 hm
          obtain ⟨hst, hgs⟩ := own_stored HO.out (by rw [List.length_append, kOut_length, HKL.out]; simp; omega) k m
          have HST := Lib.hid hst
          clear hst hgs
          have HMK := Lib.hid hm
          have HPK := Lib.hid hpk
          clear hm hpk hcp
          go_wp2_with fail
          rw [HN.out]
          refine (slicesIndex_any _ _ _ _ _ HRD.out (by have := HN.out; omega) HMEM.out).mono ?_
          rintro e w' ⟨rfl, rfl⟩
          rw [← HN.out, ← HP.out, HPK.out]
          go_wp2
          go_roundw
          case rel =>
            refine ⟨k + 1, by omega, by go_num, ?_, ?_, hbel.setCell (Nat.le_refl _) _⟩
            · have hmk := HMK.out
              rw [HXK.out] at hmk
              rw [take_snoc xs k (by have := HN.out; omega), (kOut_new hmk).2, HM.out]
            · have hmk := HMK.out
              rw [HXK.out] at hmk
              have h1 := HST.out
              have h2 := HS2.out hmk
              rw [← HN.out, ← HM.out] at h2
              rw [h2] at h1
              exact h1
          case measure => simp [intOf]; omega
    · have hkn : k = n := by omega
      subst hkn
      go_wp2
      go_ret
      rw [Nat.sub_self, List.replicate_zero, List.append_nil, HN.out, List.take_length, ← HN.out] at hown
      exact ⟨_, rfl, hown, hbel⟩

theorem kernel_v (v : Value) (xs : List Int) (w : World) (hv : RdV w v xs) (hl : xs.length ≤ 1000000) : Calls (cutP Try.prog) 46 #[v] w (FreshL w (kOut xs)) := by
  obtain ⟨ao, ca, rfl, h, _, _⟩ := hv
  exact kernel_any ao ca xs w h hl

theorem l1Kernel_v (v : Value) (xs : List Int) (w : World) (hv : RdV w v xs) (hl : xs.length ≤ 1000000) : Calls (cutP Try.prog) 66 #[v] w (FreshL w (kOut xs)) := by
  obtain ⟨ao, ca, rfl, h, _, _⟩ := hv
  exact l1Kernel_any ao ca xs w h hl

theorem own_nil (w : World) (B : Nat) : Own w B (.slice none 0 0) [] := World.ownsRow_nil _ _ _ _
end

section
open Go.RowKit

theorem wp_cat {w : World} {o : Oper} {a : Act} {K : Act → World → Prop} {Q : Exit → Act → World → Prop} (s x : Operand)
    (ho : o.op = .call { callee := .builtin .append, args := #[s, x], argTypes := #[25, 25] })
    (B g n cap : Nat) (xs : List Int) (hs : a.eval s = .slice (some ⟨g, 0, none⟩) n cap) (hown : Own w B (.slice (some ⟨g, 0, none⟩) n cap) xs) (hn : n = xs.length)
    (ad : Addr) (m c : Nat) (hx : a.eval x = .slice (some ad) m c) (ys : List Int) (hm : m = ys.length) (hc : ∀ j, j < ys.length → w.cell? (ad.add j) = some (.int .i64 (ys.getD j 0))) (hl : n + m ≤ 1000000000) (hB : B ≤ w.heap.size) (r : Nat) (hr : n + m = r)
    (h : ∀ g' cap' w', Own w' B (.slice (some ⟨g', 0, none⟩) r cap') (xs ++ ys) → w.grownBy w' (some g) → (g' = g ∨ g' = w.heap.size) → K (a.put o.dst (.slice (some ⟨g', 0, none⟩) r cap')) w') :
    o.wp (cutP Try.prog) a w K Q := by
  obtain ⟨i0, hi, hz0, hz1, hz2⟩ := info_parts Try.infoInt
  subst hr
  subst hn
  subst hm
  have hnews : ∀ j u, (ys.map (Value.int .i64))[j]? = some u → w.cell? (ad.add j) = some u := by
    intro j u hj
    have hjl : j < ys.length := by have := (List.getElem?_eq_some_iff.1 hj).1; simpa using this
    rw [getD_map_int ys j hjl] at hj
    rw [hc j hjl, hj]
  obtain ⟨v', w', hru, ho', hg', hnil, hb'⟩ := run_append_own_at (P := (cutP Try.prog)) w B 25 o.type 3 i0 (.int .i64 0) 1 8 Tryp.underlying25 hi hz0 hz1 hz2 rfl (by decide) _ xs.length (xs.map (Value.int .i64)) hown ad ys.length c (ys.map (Value.int .i64)) (by simp) hnews (ints_oneCell _ _) (by unfold maxLen; omega) (by omega) hB
  unfold Oper.wp execOp
  simp only [ho, resolve, invoke, builtin, Sem.run_bind, Sem.run_pure, Result.andThen_ok, List.map_toArray, List.map_cons, List.map_nil, hs, hx, hru]
  have hown' : Own w' B v' (xs ++ ys) := by
    unfold Own
    simpa using ho'
  rcases own_view hown' with ⟨rfl, h2⟩ | ⟨g', cap', rfl, _⟩
  · simp at hnil
  · simp only [List.length_append] at hown' ⊢
    refine h g' cap' w' hown' hg' ?_
    simpa [Value.ownBlock] using hb'

theorem wpList_cat {w : World} {ops : Array Oper} {rest : List Oper} {o : Oper} {a : Act} {Q : Exit → Act → World → Prop} (hgd : o.guard = none) (s x : Operand)
    (ho : o.op = .call { callee := .builtin .append, args := #[s, x], argTypes := #[25, 25] })
    (B g n cap : Nat) (xs : List Int) (hs : a.eval s = .slice (some ⟨g, 0, none⟩) n cap) (hown : Own w B (.slice (some ⟨g, 0, none⟩) n cap) xs) (hn : n = xs.length)
    (ad : Addr) (m c : Nat) (hx : a.eval x = .slice (some ad) m c) (ys : List Int) (hm : m = ys.length) (hc : ∀ j, j < ys.length → w.cell? (ad.add j) = some (.int .i64 (ys.getD j 0))) (hl : n + m ≤ 1000000000) (hB : B ≤ w.heap.size) (r : Nat) (hr : n + m = r)
    (h : ∀ g' cap' w', Own w' B (.slice (some ⟨g', 0, none⟩) r cap') (xs ++ ys) → w.grownBy w' (some g) → (g' = g ∨ g' = w.heap.size) → wpList (cutP Try.prog) ops Q rest (a.put o.dst (.slice (some ⟨g', 0, none⟩) r cap')) w') :
    wpList (cutP Try.prog) ops Q (o :: rest) a w :=
  wpList_plain hgd fun _ hK => wp_cat s x ho B g n cap xs hs hown hn ad m c hx ys hm hc hl hB r hr fun g' cap' w' h1 h2 h3 => hK _ _ (h g' cap' w' h1 h2 h3)

theorem step_cat {w : World} {ops : Array Oper} {o : Oper} {a : Act} {K : Act → World → Prop} {Q : Exit → Act → World → Prop} {E : Prop} (hgd : o.guard = none) (s x : Operand)
    (ho : o.op = .call { callee := .builtin .append, args := #[s, x], argTypes := #[25, 25] })
    (B g n cap : Nat) (xs : List Int) (hs : a.eval s = .slice (some ⟨g, 0, none⟩) n cap) (hown : Own w B (.slice (some ⟨g, 0, none⟩) n cap) xs) (hn : n = xs.length)
    (ad : Addr) (m c : Nat) (hx : a.eval x = .slice (some ad) m c) (ys : List Int) (hm : m = ys.length) (hc : ∀ j, j < ys.length → w.cell? (ad.add j) = some (.int .i64 (ys.getD j 0))) (hl : n + m ≤ 1000000000) (hB : B ≤ w.heap.size) (r : Nat) (hr : n + m = r)
    (h : ∀ g' cap' w', Own w' B (.slice (some ⟨g', 0, none⟩) r cap') (xs ++ ys) → w.grownBy w' (some g) → (g' = g ∨ g' = w.heap.size) → K (a.put o.dst (.slice (some ⟨g', 0, none⟩) r cap')) w') :
    if Region.wanted o (yielded ops a.tmps) = true then Oper.wp (cutP Try.prog) o a w K Q else E := by
  have hw : Region.wanted o (yielded ops a.tmps) = true := by simp [Region.wanted, hgd]
  rw [if_pos hw]
  exact wp_cat s x ho B g n cap xs hs hown hn ad m c hx ys hm hc hl hB r hr h

theorem cells_alloc {w : World} {b off : Nat} {xs : List Int} (o : Obj) (h : ∀ j, j < xs.length → w.cell? ⟨b, off + j, none⟩ = some (.int .i64 (xs.getD j 0))) : ∀ j, j < xs.length → (w.alloc o).cell? ((⟨b, off, none⟩ : Addr).add j) = some (.int .i64 (xs.getD j 0)) := by
  intro j hj
  rw [Addr.add_lit, World.cell?_alloc_past _ _ _ (World.block_lt_of_cell? w _ (h j hj))]
  exact h j hj

theorem slicesClone_any (b off ca : Nat) (xs : List Int) (w : World) (hl : xs.length ≤ 1000000) (hc : ∀ j, j < xs.length → w.cell? ⟨b, off + j, none⟩ = some (.int .i64 (xs.getD j 0))) :
    Calls (cutP Try.prog) 70 #[.slice (some ⟨b, off, none⟩) xs.length ca] w fun e w' => ∃ g cap, e = .returned (.slice (some ⟨g, 0, none⟩) xs.length cap) ∧ Own w' w.heap.size (.slice (some ⟨g, 0, none⟩) xs.length cap) xs ∧ Below w.heap.size w w' := by
  have HC := Lib.hid hc
  clear hc
  go_enter Tryp.func70, Tryp.ntmps70
  have hn := fun (w : World) => Lib.run_eql_slice_nil (P := (cutP Try.prog)) w 25 3 (some ⟨b, off, none⟩) xs.length ca 0 0 Tryp.underlying25
  go_wp2_with (at_builtin; refine wpList_cat rfl _ _ rfl w.heap.size w.heap.size 0 0 [] rfl (own_empty w _ (Nat.le_refl _)) rfl ⟨b, off, none⟩ _ _ rfl xs rfl (cells_alloc _ HC.out) (by omega) (by simp) xs.length (by omega) ?_)
  intro g' cap' w2 hown2 hgr2 hg2
  have hbel2 : Below w.heap.size w w2 := ((Below.refl _ _).alloc (Nat.le_refl _) _).grown hgr2 (by simp) (fun q hq => by cases hq; exact Nat.le_refl _)
  have HO2 := Lib.hid hown2
  clear hown2 hgr2 hg2
  go_wp2
  go_ret
  exact ⟨g', cap', rfl, HO2.out, hbel2⟩
end

section
open Go.RowKit

theorem own_drew1 {w : World} {B : Nat} {v : Value} {xs : List Int} (h : Own w B v xs) : Own w.drew B v xs := h
end

section
open Go.RowKit

theorem or_fact : ∀ b, b < 256 → ∀ t, t < 8 → bits BinOp.or IntKind.u64 ((b : Nat) : Int) (IntKind.u64.wrap (2 ^ (t : Nat))) = ((b ||| 2 ^ t : Nat) : Int) := by decide +kernel
theorem with_any (b t : Nat) (w : World) (hb : b < 256) (ht : t < 8) : Calls (cutP Try.prog) 64 #[.int .u64 b, .int .i64 t] w fun e w' => e = .returned (.int .u64 ((b ||| 2 ^ t : Nat) : Int)) ∧ w = w' := by
  have h := Lib.hid (or_fact b hb t ht)
  go_enter Tryp.func64, Tryp.ntmps64
  go_wp2
  go_ret
  exact ⟨ret_int h.out, rfl⟩
end

section
open Go.RowKit

def apart (a b : Value) : Prop := a.ownBlock = none ∨ a.ownBlock ≠ b.ownBlock

def RdM (w : World) (v : Value) (xss : List (List Int)) : Prop :=
  ∃ ao cap, ∃ vs : List Value, vs.length = xss.length ∧ v = .slice ao xss.length cap ∧ xss.length ≤ cap ∧ cap ≤ maxLen ∧
    (xss = [] ∨ ∃ b off, ao = some ⟨b, off, none⟩ ∧ ∀ i, i < xss.length → w.cell? ⟨b, off + i, none⟩ = some (vs.getD i undef)) ∧
    ∀ i, i < xss.length → RdV w (vs.getD i undef) (xss.getD i [])

def OwnM (w : World) (B S : Nat) (v : Value) (xss : List (List Int)) : Prop :=
  ∃ vs : List Value, vs.length = xss.length ∧ w.ownsRow B 25 1 v xss.length vs ∧ InB v B S ∧
    (∀ i, i < xss.length → Own w B (vs.getD i undef) (xss.getD i []) ∧ InB (vs.getD i undef) B S) ∧
    (∀ i j, i < j → j < xss.length → apart (vs.getD i undef) (vs.getD j undef))

structure Touch (w w' : World) (B S : Nat) : Prop where
  os : w'.os = w.os
  tape : w'.tape = w.tape
  output : w'.output = w.output
  size : w'.heap.size = w.heap.size
  block : ∀ k, (k < B ∨ S ≤ k) → w'.heap[k]? = w.heap[k]?

theorem Touch.refl (w : World) (B S : Nat) : Touch w w B S := ⟨rfl, rfl, rfl, rfl, fun _ _ => rfl⟩
theorem Touch.trans {a b c : World} {B S : Nat} (h : Touch a b B S) (k : Touch b c B S) : Touch a c B S :=
  ⟨k.os.trans h.os, k.tape.trans h.tape, k.output.trans h.output, k.size.trans h.size, fun i hi => (k.block i hi).trans (h.block i hi)⟩

theorem touch_of_grown {w w' : World} {v : Value} {B S : Nat} (h : w.grownBy w' v.ownBlock) (hs : w'.heap.size = w.heap.size) (hv : InB v B S) : Touch w w' B S := by
  refine ⟨h.os, h.tape, h.output, hs, fun k hk => ?_⟩
  by_cases hkl : k < w.heap.size
  · exact h.block k hkl fun e => by have := hv k e.symm; omega
  · rw [Array.getElem?_eq_none (by omega), Array.getElem?_eq_none (by omega)]

theorem own_touch {w w' : World} {B b s B1 S1 : Nat} {v : Value} {xs : List Int} (h : Own w B v xs) (ht : Touch w w' B1 S1) (hv : InB v b s) (hd : s ≤ B1 ∨ S1 ≤ b) : Own w' B v xs := by
  refine ⟨h.1, ?_⟩
  rcases h.2 with h2 | ⟨g, cap, cur, rfl, hb, hg, rest⟩
  · exact .inl h2
  · have := hv g rfl
    exact .inr ⟨g, cap, cur, rfl, hb, by rw [ht.block g (by omega)]; exact hg, rest⟩

theorem ownM_parts {w : World} {B S : Nat} {v : Value} {xss : List (List Int)} (h : OwnM w B S v xss) :
    ∃ vs : List Value, vs.length = xss.length ∧ ((v = .slice none 0 0 ∧ xss = []) ∨ ∃ g cap, v = .slice (some ⟨g, 0, none⟩) xss.length cap ∧ B ≤ g ∧ g < S ∧ g < w.heap.size ∧ xss.length ≤ cap ∧ cap ≤ maxLen ∧
      (∀ j, j < xss.length → w.cell? ⟨g, j, none⟩ = some (vs.getD j undef)) ∧ (∀ j, w.frozen? ⟨g, j, none⟩ = false)) ∧
      (∀ i, i < xss.length → Own w B (vs.getD i undef) (xss.getD i []) ∧ InB (vs.getD i undef) B S) ∧ (∀ i j, i < j → j < xss.length → apart (vs.getD i undef) (vs.getD j undef)) := by
  obtain ⟨vs, hl, ho, hin, hr, ha⟩ := h
  refine ⟨vs, hl, ?_, hr, ha⟩
  have h0 := ho
  rcases ho.2 with ⟨hv, hn⟩ | ⟨g, cap, cur, hv, hb, hg, hnc, hcm, hcs, htk⟩
  · exact .inl ⟨hv, List.eq_nil_of_length_eq_zero hn⟩
  · subst hv
    refine .inr ⟨g, cap, rfl, hb, (hin g rfl).2, (Array.getElem?_eq_some_iff.1 hg).1, hnc, hcm, ?_, fun j => World.ownsRow.frozenAt h0 j⟩
    intro j hj
    rw [World.ownsRow.cellAt h0 j (by omega)]
    simp [List.getD, hl, hj]

theorem ownM_rdM {w : World} {B S : Nat} {v : Value} {xss : List (List Int)} (h : OwnM w B S v xss) : RdM w v xss := by
  obtain ⟨vs, hl, hv, hr, _⟩ := ownM_parts h
  rcases hv with ⟨rfl, rfl⟩ | ⟨g, cap, rfl, hb, hs, hg, hnc, hcm, hc, _⟩
  · exact ⟨none, 0, vs, hl, rfl, Nat.le_refl _, Nat.zero_le _, .inl rfl, fun i hi => by simp at hi⟩
  · exact ⟨_, cap, vs, hl, rfl, hnc, hcm, .inr ⟨g, 0, rfl, fun j hj => by rw [Nat.zero_add]; exact hc j hj⟩, fun i hi => own_rdv (hr i hi).1⟩

theorem rdM_below {w w' : World} {v : Value} {xss : List (List Int)} (h : RdM w v xss) (hb : Below w.heap.size w w') : RdM w' v xss := by
  obtain ⟨ao, cap, vs, hl, h1, h2, h3, h4, h5⟩ := h
  refine ⟨ao, cap, vs, hl, h1, h2, h3, ?_, fun i hi => rdv_below (h5 i hi) hb⟩
  rcases h4 with h4 | ⟨b, off, ha, hc⟩
  · exact .inl h4
  · exact .inr ⟨b, off, ha, fun i hi => by rw [hb.cell (World.block_lt_of_cell? w _ (hc i hi))]; exact hc i hi⟩

theorem ownM_keep {w w' : World} {B S : Nat} {v : Value} {xss : List (List Int)} (h : OwnM w B S v xss) (hb : ∀ k, B ≤ k → k < S → k < w.heap.size → w'.heap[k]? = w.heap[k]?) : OwnM w' B S v xss := by
  obtain ⟨vs, hl, ho, hin, hr, ha⟩ := h
  have key : ∀ {e : TypeId} {u : Value} {n : Nat} {cs : List Value}, w.ownsRow B e 1 u n cs → InB u B S → w'.ownsRow B e 1 u n cs := by
    intro e u n cs ho hi
    refine ⟨ho.1, ?_⟩
    rcases ho.2 with h2 | ⟨g, cap, cur, rfl, hb', hg, rest⟩
    · exact .inl h2
    · have := hi g rfl
      exact .inr ⟨g, cap, cur, rfl, hb', by rw [hb g this.1 this.2 (Array.getElem?_eq_some_iff.1 hg).1]; exact hg, rest⟩
  exact ⟨vs, hl, key ho hin, hin, fun i hi => ⟨key (hr i hi).1 (hr i hi).2, (hr i hi).2⟩, ha⟩

theorem ownM_below {w w' : World} {B S : Nat} {v : Value} {xss : List (List Int)} (h : OwnM w B S v xss) (hb : Below w.heap.size w w') : OwnM w' B S v xss :=
  ownM_keep h fun k _ _ hk => hb.block k hk

theorem inB_mono {v : Value} {B B' S S' : Nat} (h : InB v B S) (h1 : B' ≤ B) (h2 : S ≤ S') : InB v B' S' := fun k hk => by have := h k hk; omega

theorem ownM_mono {w : World} {B B' S S' : Nat} {v : Value} {xss : List (List Int)} (h : OwnM w B S v xss) (hB : B' ≤ B) (hS : S ≤ S') : OwnM w B' S' v xss := by
  obtain ⟨vs, hl, ho, hin, hr, ha⟩ := h
  refine ⟨vs, hl, ⟨ho.1, ?_⟩, inB_mono hin hB hS, fun i hi => ⟨own_mono (hr i hi).1 hB, inB_mono (hr i hi).2 hB hS⟩, ha⟩
  rcases ho.2 with h2 | ⟨g, cap, cur, hv, hb, r⟩
  · exact .inl h2
  · exact .inr ⟨g, cap, cur, hv, by omega, r⟩

theorem ownM_nil (w : World) (B S : Nat) : OwnM w B S (.slice none 0 0) [] :=
  ⟨[], rfl, World.ownsRow_nil _ _ _ _, fun k hk => by simp [Value.ownBlock] at hk, fun i hi => by simp at hi, fun i j _ hj => by simp at hj⟩

theorem ownM_empty (w : World) (B : Nat) (hB : B ≤ w.heap.size) : OwnM (w.alloc (.cells #[] 25)) B (w.heap.size + 1) (.slice (some ⟨w.heap.size, 0, none⟩) 0 0) [] :=
  ⟨[], rfl, World.ownsRow_made w #[] 0 hB (Nat.zero_le _) rfl, fun k hk => by simp [Value.ownBlock] at hk; omega, fun i hi => by simp at hi, fun i j _ hj => by simp at hj⟩

def FreshM (w : World) (r : List (List Int)) (e : Ending) (w' : World) : Prop :=
  ∃ v, e = .returned v ∧ OwnM w' w.heap.size w'.heap.size v r ∧ Below w.heap.size w w'

def FreshMB (w : World) (r : List (List Int) × Bool) (e : Ending) (w' : World) : Prop :=
  ∃ v, e = .returned (.tuple #[v, .bool r.2]) ∧ OwnM w' w.heap.size w'.heap.size v r.1 ∧ Below w.heap.size w w'

theorem Try.infoInts : ((cutP Try.prog).info? 25).map (fun i => (i.zero, i.size, i.bytes)) = some (some (.slice none 0 0), 1, 24) := by kernel_rfl

theorem getD_snocV_lt {α : Type} (l : List α) (x d : α) (j : Nat) (h : j < l.length) : (l ++ [x]).getD j d = l.getD j d := by
  simp [List.getD, List.getElem?_append_left h]
theorem getD_snocV_eq {α : Type} (l : List α) (x d : α) : (l ++ [x]).getD l.length d = x := by simp [List.getD]

theorem wp_pushM {w : World} {o : Oper} {a : Act} {K : Act → World → Prop} {Q : Exit → Act → World → Prop} (s x : Operand)
    (ho : o.op = .call { callee := .builtin .append, args := #[s, x], argTypes := #[23, 23] })
    (B S g n cap : Nat) (xss : List (List Int)) (hs : a.eval s = .slice (some ⟨g, 0, none⟩) n cap) (hown : OwnM w B S (.slice (some ⟨g, 0, none⟩) n cap) xss) (hn : n = xss.length)
    (ad : Addr) (hx : a.eval x = .slice (some ad) 1 1) (u : Value) (ys : List Int) (hc : w.cell? ad = some u) (hu : Own w B u ys) (hui : InB u S w.heap.size) (hBS : B ≤ S) (hSw : S ≤ w.heap.size) (hl : n ≤ 1000000000)
    (r : Nat) (hr : n + 1 = r)
    (h : ∀ g' cap' w', OwnM w' B w'.heap.size (.slice (some ⟨g', 0, none⟩) r cap') (xss ++ [ys]) → w.grownBy w' (some g) → K (a.put o.dst (.slice (some ⟨g', 0, none⟩) r cap')) w') :
    o.wp (cutP Try.prog) a w K Q := by
  obtain ⟨i0, hi, hz0, hz1, hz2⟩ := info_parts Try.infoInts
  subst hr
  subst hn
  obtain ⟨vs, hvl, hrow, hin, hrows, hap⟩ := hown
  have hu1 : u.oneCell' = true := by
    rcases own_view hu with ⟨rfl, _⟩ | ⟨g', cap', rfl, _⟩ <;> rfl
  have hnews : ∀ j z, ([u] : List Value)[j]? = some z → w.cell? (ad.add j) = some z := by
    intro j z hj
    match j, hj with
    | 0, hj =>
      simp at hj
      subst hj
      simpa [Addr.add] using hc
  obtain ⟨v', w', hru, ho', hg', hnil, hb'⟩ := run_append_own_at (P := (cutP Try.prog)) w B 23 o.type 25 i0 (.slice none 0 0) 1 24 Tryp.underlying23 hi hz0 hz1 hz2 rfl (by decide) _ xss.length vs hrow ad 1 1 [u] rfl hnews (fun z hz => by simp at hz; subst hz; exact hu1) (by unfold maxLen; omega) (by omega) (by omega)
  unfold Oper.wp execOp
  simp only [ho, resolve, invoke, builtin, Sem.run_bind, Sem.run_pure, Result.andThen_ok, List.map_toArray, List.map_cons, List.map_nil, hs, hx, hru]
  have hgB := hin g rfl
  rcases ho'.2 with ⟨rfl, h2⟩ | ⟨g', cap', cur, rfl, hB', hg2, rest⟩
  · omega
  · have hg2s : g' < w'.heap.size := (Array.getElem?_eq_some_iff.1 hg2).1
    refine h g' cap' w' ?_ hg'
    have hne : ∀ z : Value, ∀ zs : List Int, Own w B z zs → z.ownBlock = none ∨ z.ownBlock ≠ some g := by
      intro z zs hz
      rcases hz.2 with ⟨rfl, _⟩ | ⟨gz, capz, curz, rfl, _, hgz, _⟩
      · exact .inl rfl
      · refine .inr fun e => ?_
        simp [Value.ownBlock] at e
        subst e
        rcases hrow.2 with ⟨h3, _⟩ | ⟨g3, cap3, cur3, h3, _, hg3, _⟩
        · cases h3
        · cases h3
          rw [hgz] at hg3
          simp at hg3
    refine ⟨vs ++ [u], by simp [hvl], by simpa using ho', fun k hk => by simp [Value.ownBlock] at hk; omega, ?_, ?_⟩
    · intro i hi'
      simp at hi'
      by_cases hil : i < xss.length
      · rw [getD_snocV_lt _ _ _ _ (by omega), getD_snocV_lt _ _ _ _ hil]
        exact ⟨own_grown (hrows i hil).1 hg' (hne _ _ (hrows i hil).1), inB_mono (hrows i hil).2 (Nat.le_refl _) (by have := hg'.size; omega)⟩
      · obtain rfl : i = xss.length := by omega
        rw [getD_snocV_eq]
        have : (vs ++ [u]).getD xss.length undef = u := by rw [← hvl]; exact getD_snocV_eq _ _ _
        rw [this]
        exact ⟨own_grown hu hg' (hne _ _ hu), inB_mono hui hBS hg'.size⟩
    · intro i j hij hj
      simp at hj
      by_cases hjl : j < xss.length
      · rw [getD_snocV_lt _ _ _ _ (by omega), getD_snocV_lt _ _ _ _ (by omega)]
        exact hap i j hij hjl
      · obtain rfl : j = xss.length := by omega
        have : (vs ++ [u]).getD xss.length undef = u := by rw [← hvl]; exact getD_snocV_eq _ _ _
        rw [getD_snocV_lt _ _ _ _ (by omega), this]
        have hi1 := (hrows i hij).2
        cases e1 : (vs.getD i undef).ownBlock with
        | none => exact .inl e1
        | some k =>
          refine .inr fun e => ?_
          rw [e1] at e
          have := hi1 k e1
          have := hui k e.symm
          omega

theorem wpList_pushM {w : World} {ops : Array Oper} {rest : List Oper} {o : Oper} {a : Act} {Q : Exit → Act → World → Prop} (hgd : o.guard = none) (s x : Operand)
    (ho : o.op = .call { callee := .builtin .append, args := #[s, x], argTypes := #[23, 23] })
    (B S g n cap : Nat) (xss : List (List Int)) (hs : a.eval s = .slice (some ⟨g, 0, none⟩) n cap) (hown : OwnM w B S (.slice (some ⟨g, 0, none⟩) n cap) xss) (hn : n = xss.length)
    (ad : Addr) (hx : a.eval x = .slice (some ad) 1 1) (u : Value) (ys : List Int) (hc : w.cell? ad = some u) (hu : Own w B u ys) (hui : InB u S w.heap.size) (hBS : B ≤ S) (hSw : S ≤ w.heap.size) (hl : n ≤ 1000000000)
    (r : Nat) (hr : n + 1 = r)
    (h : ∀ g' cap' w', OwnM w' B w'.heap.size (.slice (some ⟨g', 0, none⟩) r cap') (xss ++ [ys]) → w.grownBy w' (some g) → wpList (cutP Try.prog) ops Q rest (a.put o.dst (.slice (some ⟨g', 0, none⟩) r cap')) w') :
    wpList (cutP Try.prog) ops Q (o :: rest) a w :=
  wpList_plain hgd fun _ hK => wp_pushM s x ho B S g n cap xss hs hown hn ad hx u ys hc hu hui hBS hSw hl r hr fun g' cap' w' h1 h2 => hK _ _ (h g' cap' w' h1 h2)

theorem ownM_frozen {w : World} {B S g n cap : Nat} {xss : List (List Int)} (h : OwnM w B S (.slice (some ⟨g, 0, none⟩) n cap) xss) (j : Nat) : w.frozen? ⟨g, j, none⟩ = false := by
  obtain ⟨vs, _, hv, _, _⟩ := ownM_parts h
  rcases hv with ⟨h1, _⟩ | ⟨g', cap', h1, _, _, _, _, _, _, hf⟩
  · cases h1
  · simp only [Value.slice.injEq, Option.some.injEq, Addr.mk.injEq, and_true, true_and] at h1
    obtain ⟨rfl, _⟩ := h1
    exact hf j

theorem ownM_cell {w : World} {B S g n cap : Nat} {xss : List (List Int)} (h : OwnM w B S (.slice (some ⟨g, 0, none⟩) n cap) xss) (j : Nat) (hj : j < xss.length) :
    ∃ u, w.cell? ⟨g, j, none⟩ = some u ∧ Own w B u (xss.getD j []) ∧ InB u B S := by
  obtain ⟨vs, _, hv, hr, _⟩ := ownM_parts h
  rcases hv with ⟨h1, _⟩ | ⟨g', cap', h1, _, _, _, _, _, hc, _⟩
  · cases h1
  · simp only [Value.slice.injEq, Option.some.injEq, Addr.mk.injEq, and_true, true_and] at h1
    obtain ⟨rfl, _⟩ := h1
    exact ⟨_, hc j hj, hr j hj⟩
end

section
open Go.RowKit

theorem l1Size_v (v : Value) (xs : List Int) (w : World) (hv : RdV w v xs) (hs : Small xs) : Calls (cutP Try.prog) 61 #[v] w fun e w' => e = .returned (.int .i64 (pSize xs)) ∧ w = w' := by
  obtain ⟨ao, ca, rfl, h, h1, h2⟩ := hv
  unfold maxLen at h2
  exact l1Size_any ao ca xs w h (by omega) hs

theorem cells_one {w : World} {ad : Addr} {x : Int} (h : w.cell? ad = some (.int .i64 x)) : ∀ j, j < [x].length → w.cell? (ad.add j) = some (.int .i64 ([x].getD j 0)) := by
  intro j hj
  have : j = 0 := by simpa using hj
  subst this
  simpa [Addr.add] using h
end

theorem partIn_ok {xs : List Int} (h : partIn xs = true) : okFrom 0 xs = true := by
  simp only [partIn, Bool.and_eq_true] at h
  exact h.2

theorem mem_iff_getD {f : List Int} {x : Int} : x ∈ f ↔ ∃ j, j < f.length ∧ f.getD j 0 = x := by
  constructor
  · intro h
    exact ⟨f.idxOf x, List.idxOf_lt_length_of_mem h, getD_idxOf h⟩
  · rintro ⟨j, h, e⟩
    exact mem_of_getD h e

theorem kOut_pat : ∀ f g : List Int, g.length = f.length → (∀ i j, i < f.length → j < f.length → (f.getD i 0 = f.getD j 0 ↔ g.getD i 0 = g.getD j 0)) → kOut g = kOut f ∧ kNext g = kNext f := by
  refine snoc_induction ?_ ?_
  · intro g hg _
    rw [List.eq_nil_of_length_eq_zero hg]
    exact ⟨rfl, rfl⟩
  · intro f x ih g' hg hp
    rcases List.eq_nil_or_concat g' with h | ⟨g, y, h⟩
    · rw [h] at hg; simp at hg
    subst h
    simp only [List.concat_eq_append] at hg hp ⊢
    have hl : g.length = f.length := by simpa using hg
    have F : ∀ j, j < f.length → (f ++ [x]).getD j 0 = f.getD j 0 := fun j hj => getD_snoc_lt f x j hj
    have F1 : (f ++ [x]).getD f.length 0 = x := getD_snoc_eq f x
    have G : ∀ j, j < f.length → (g ++ [y]).getD j 0 = g.getD j 0 := fun j hj => getD_snoc_lt g y j (by omega)
    have G1 : (g ++ [y]).getD f.length 0 = y := by rw [← hl]; exact getD_snoc_eq g y
    have hin : ∀ i j, i < f.length → j < f.length → (f.getD i 0 = f.getD j 0 ↔ g.getD i 0 = g.getD j 0) := by
      intro i j hi hj
      have := hp i j (by simp; omega) (by simp; omega)
      rwa [F i hi, F j hj, G i hi, G j hj] at this
    have hla : ∀ i, i < f.length → (f.getD i 0 = x ↔ g.getD i 0 = y) := by
      intro i hi
      have := hp i f.length (by simp; omega) (by simp)
      rwa [F i hi, F1, G i hi, G1] at this
    obtain ⟨e1, e2⟩ := ih g hl hin
    by_cases h : x ∈ f
    · have hi := List.idxOf_lt_length_of_mem h
      have hy1 := (hla _ hi).1 (getD_idxOf h)
      have hy : y ∈ g := mem_of_getD (by omega) hy1
      have hi' := List.idxOf_lt_length_of_mem hy
      have hk := ((kOut_inv g).2 _ _ (by omega) hi').1 (hy1.trans (getD_idxOf hy).symm)
      rw [(kOut_mem h).1, (kOut_mem h).2, (kOut_mem hy).1, (kOut_mem hy).2, ← hk, e1, e2]
      exact ⟨rfl, rfl⟩
    · have hy : y ∉ g := by
        intro hy
        have hi' := List.idxOf_lt_length_of_mem hy
        exact h (mem_of_getD (by omega) ((hla _ (by omega)).2 (getD_idxOf hy)))
      rw [(kOut_new h).1, (kOut_new h).2, (kOut_new hy).1, (kOut_new hy).2, e1, e2]
      exact ⟨rfl, rfl⟩

theorem kOut_all : ∀ (f : List Int) (v : Int), v ∈ kOut f ↔ 0 ≤ v ∧ v < kNext f := by
  refine snoc_induction (fun v => by simp [kOut, kNext, kfold]) fun f x ih v => ?_
  have hb := kNext_bd f
  by_cases h : x ∈ f
  · have hi := List.idxOf_lt_length_of_mem h
    have hm : (kOut f).getD (f.idxOf x) 0 ∈ kOut f := mem_of_getD (by rw [kOut_length]; exact hi) rfl
    rw [(kOut_mem h).1, (kOut_mem h).2, ← ih v, List.mem_append]
    constructor
    · rintro (h1 | h1)
      · exact h1
      · rw [List.mem_singleton.1 h1]; exact hm
    · exact .inl
  · rw [(kOut_new h).1, (kOut_new h).2, List.mem_append, ih v, List.mem_singleton]
    omega

def endFrom : Int → List Int → Int
  | b, [] => b
  | b, x :: xs => endFrom (if x = b then b + 1 else b) xs

theorem okFrom_append : ∀ (f : List Int) (b x : Int), okFrom b (f ++ [x]) = (okFrom b f && (decide (0 ≤ x) && decide (x ≤ endFrom b f))) ∧ endFrom b (f ++ [x]) = if x = endFrom b f then endFrom b f + 1 else endFrom b f := by
  intro f
  induction f with
  | nil => intro b x; simp only [List.nil_append, okFrom, endFrom, Bool.and_true, Bool.true_and]; exact ⟨rfl, rfl⟩
  | cons y f ih =>
    intro b x
    have := ih (if y = b then b + 1 else b) x
    simp only [List.cons_append, okFrom, endFrom, this.1, this.2, Bool.and_assoc]
    exact ⟨rfl, rfl⟩

theorem okFrom_kOut : ∀ f : List Int, okFrom 0 (kOut f) = true ∧ endFrom 0 (kOut f) = kNext f := by
  refine snoc_induction ⟨rfl, rfl⟩ fun f x ih => ?_
  have hb := kNext_bd f
  by_cases h : x ∈ f
  · have hi := List.idxOf_lt_length_of_mem h
    have hr := (kOut_inv f).1 _ hi
    have := okFrom_append (kOut f) 0 ((kOut f).getD (f.idxOf x) 0)
    rw [(kOut_mem h).1, (kOut_mem h).2, this.1, this.2, ih.1, ih.2, if_neg (by omega)]
    refine ⟨?_, rfl⟩
    simp only [Bool.and_eq_true, decide_eq_true_eq]
    exact ⟨trivial, by omega, by omega⟩
  · have := okFrom_append (kOut f) 0 (kNext f)
    rw [(kOut_new h).1, (kOut_new h).2, this.1, this.2, ih.1, ih.2, if_pos rfl]
    refine ⟨?_, rfl⟩
    simp only [Bool.and_eq_true, decide_eq_true_eq]
    exact ⟨trivial, by omega, by omega⟩

theorem kOut_of_ok : ∀ f : List Int, okFrom 0 f = true → kOut f = f ∧ kNext f = endFrom 0 f := by
  refine snoc_induction (fun _ => ⟨rfl, rfl⟩) fun f x ih h => ?_
  have ha := okFrom_append f 0 x
  rw [ha.1] at h
  simp only [Bool.and_eq_true, decide_eq_true_eq] at h
  obtain ⟨h1, h2, h3⟩ := h
  obtain ⟨e1, e2⟩ := ih h1
  rw [← e2] at h3
  rw [ha.2, ← e2]
  by_cases hm : x ∈ f
  · have hx := (kOut_all f x).1 (by rw [e1]; exact hm)
    rw [(kOut_mem hm).1, (kOut_mem hm).2, e1, getD_idxOf hm, if_neg (by omega)]
    exact ⟨rfl, rfl⟩
  · have hx : x = kNext f := by
      by_cases e : x = kNext f
      · exact e
      · exact absurd (by have := (kOut_all f x).2 ⟨h2, by omega⟩; rwa [e1] at this) hm
    rw [(kOut_new hm).1, (kOut_new hm).2, e1, if_pos hx, hx]
    exact ⟨rfl, rfl⟩

theorem partIn_kOut {f : List Int} (h1 : 1 ≤ f.length) (h2 : f.length ≤ 8) : partIn (kOut f) = true := by
  simp only [partIn, Bool.and_eq_true, decide_eq_true_eq, kOut_length]
  exact ⟨⟨h1, h2⟩, (okFrom_kOut f).1⟩

theorem sizeFrom_append : ∀ (f : List Int) (n x : Int), sizeFrom n (f ++ [x]) = max (sizeFrom n f) (x + 1) := by
  intro f
  induction f with
  | nil => intro n x; simp [sizeFrom]
  | cons y f ih => intro n x; simp only [List.cons_append, sizeFrom]; exact ih _ _

end Go.Proofs.Ytfiaiephbemdoaa
