/-
  What the laws of this claim lean on: what functions of the program and of the model answer, one after another, and plain mathematics. No condition.
-/
import Derived.Test.YtfiaiephbemdoaaDoorMgD
import Derived.Test.YtfiaiephbemdoaaDoorMgF
import Derived.Test.YtfiaiephbemdoaaDoorMgG
import Derived.Test.YtfiaiephbemdoaaDoorChecked
import Derived.Conc.CompanyWords
import Derived.Conc.CompanyMem
import Derived.RowKit
import Derived.KernelRfl
import Derived.WalkKit
import Derived.Lib.Hide
import Derived.WalkSmall
import Derived.Deep.QuietTactic
import Derived.Test.YtfiaiephbemdoaaDoorRows
import Derived.WalkLawsBesides
import Derived.WalkSpells
import Derived.BigQuiet
import Derived.Maps.AppendAt
import Derived.BigRegion
import Derived.Deep.RegionHeld3

set_option maxHeartbeats 800000
set_option linter.unusedVariables false
set_option linter.unusedSimpArgs false
set_option linter.unnecessarySimpa false
set_option maxRecDepth 100000

namespace Go.Proofs.YtfiaiephbemdoaaDoor

section
open Go.Conc

def okHeld (P : Program) (f : FuncId) (a b : Code) : Prop := okCode P a = true ∧ okCode P b = true ∧ P.inits.idxOf? f = none
abbrev duo (P : Program) (X : World) : Two := ⟨cutP P, P, okHeld P, X⟩

def keptOk (P : Program) (f : Nat) : Bool :=
  match P.funcs[f]? with
  | none => true
  | some fn => match fn.body with
    | none => false
    | some c => okCode P c && decide (fn.name ≠ "runtime.NumGoroutine") && (P.inits.idxOf? f).isNone

theorem kept_all : (Trydp.keep.all fun f => keptOk Tryd.prog f) = true := by kernel_rfl

theorem cut_get {P : Program} {f : Nat} {fn : Func} (h : (cutP P).funcs[f]? = some fn) : fn = struckFn ∨ (f ∈ Trydp.keep ∧ P.funcs[f]? = some fn) := by
  unfold cutP cutProg at h
  simp only [Array.getElem?_mapIdx, Option.map_eq_some_iff] at h
  obtain ⟨fn0, h0, h1⟩ := h
  by_cases hk : Trydp.keep.contains f = true
  · rw [if_pos hk] at h1
    exact .inr ⟨List.contains_iff_mem.1 hk, by rw [h0, h1]⟩
  · rw [if_neg hk] at h1
    exact .inl h1.symm

theorem kept_of {f : Nat} {fn : Func} (hf : f ∈ Trydp.keep) (h : Tryd.prog.funcs[f]? = some fn) : ∃ c, fn.body = some c ∧ okCode Tryd.prog c = true ∧ fn.name ≠ "runtime.NumGoroutine" ∧ Tryd.prog.inits.idxOf? f = none := by
  have k := List.all_eq_true.1 kept_all f hf
  unfold keptOk at k
  rw [h] at k
  dsimp only at k
  cases hb : fn.body with
  | none => rw [hb] at k; cases k
  | some c =>
    rw [hb] at k
    simp only [Bool.and_eq_true, decide_eq_true_eq, Option.isNone_iff_eq_none] at k
    exact ⟨c, rfl, k.1.1, k.1.2, k.2⟩

theorem idle_all : ((cutP Tryd.prog).funcs.all fun fn => match fn.body with | none => true | some c => (readies c).isEmpty) = true := by kernel_rfl
theorem kit_follows : Tryd.prog.follows .staticDataAhead = true := by kernel_rfl

theorem kit {X : World} : Kit (duo Tryd.prog X) where
  tables := ⟨Trydp.noType, Trydp.noInfo, rfl⟩
  funcs := fun f fn h => by
    rcases cut_get h with e | ⟨hk, e⟩
    · exact .inl e
    · obtain ⟨c, h1, _, h3, _⟩ := kept_of hk e
      exact .inr ⟨e, by rw [h1]; rfl, h3⟩
  code := fun f fn c h hb => by
    rcases cut_get h with e | ⟨hk, e⟩
    · subst e; cases hb
    · obtain ⟨c', h1, h2, _, _⟩ := kept_of hk e
      rw [h1] at hb
      exact (Option.some.inj hb) ▸ h2
  held := fun f a b => Iff.rfl
  noinit := fun f fn h hb => by
    rcases cut_get h with e | ⟨hk, e⟩
    · subst e; cases hb
    · obtain ⟨c', _, _, _, h4⟩ := kept_of hk e
      exact h4
  idle := fun g => by
    show (cutP Tryd.prog).stepOf g = none
    unfold Program.stepOf
    rw [Array.findIdx?_eq_none_iff]
    intro fn hfn
    have h := Array.all_eq_true'.1 idle_all fn hfn
    cases hb : fn.body with
    | none => rfl
    | some c =>
      rw [hb] at h
      have e : readies c = [] := List.isEmpty_iff.1 h
      simp [e]
  ahead := kit_follows
end

section
open Go.Conc Go.RowKit

def minTo (xs : List Int) (k : Nat) : Int := (xs.take k).foldl min (xs.getD 0 0)
theorem minTo_succ {xs : List Int} {k : Nat} (h : k < xs.length) : minTo xs (k + 1) = min (minTo xs k) (xs.getD k 0) := by
  unfold minTo
  rw [List.take_add_one, List.foldl_append]
  simp [List.getElem?_eq_getElem h, List.getD_eq_getElem?_getD]
theorem minTo_one {xs : List Int} (h : 0 < xs.length) : minTo xs 1 = xs.getD 0 0 := by
  rw [minTo_succ h]
  simp [minTo]

def Nums (w : World) (b off : Nat) (xs : List Int) : Prop := ∀ j, j < xs.length → w.cell? ⟨b, off + j, none⟩ = some (.int .i64 (xs.getD j 0))
theorem Nums.at {w w' : World} {b off : Nat} {xs : List Int} (h : Nums w b off xs) (r : AtRel w w') : Nums w' b off xs := by
  obtain ⟨d, rfl⟩ := r
  exact h

def Seen (w0 : World) (b off : Nat) (xs : List Int) (w : World) : Prop := AtRel w0 w ∧ Nums w b off xs
theorem Seen.rely {w0 w w' : World} {b off : Nat} {xs : List Int} (h : Seen w0 b off xs w) (r : AtRel w w') : Seen w0 b off xs w' := ⟨atRel_trans _ _ _ h.1 r, h.2.at r⟩

def MinInv (w0 : World) (b off cap : Nat) (xs : List Int) (a : Act) (w : World) : Prop :=
  ∃ (i : Nat) (v5 v6 v7 v8 v9 v10 v11 v12 v13 v14 v15 v16 v17 v18 v19 v20 v21 v22 v23 v24 : Value), 1 ≤ i ∧ i ≤ xs.length ∧ Seen w0 b off xs w ∧
    a = { tmps := #[.slice (some ⟨b, off, none⟩) xs.length cap, undef, .int .i64 0, .int .i64 (minTo xs i), .int .i64 i, v5, v6, v7, v8, v9, v10, v11, v12, v13, v14, v15, v16, v17, v18, v19, v20, v21, v22, v23, v24], defers := [] }
def MinMu (xs : List Int) (a : Act) (_ : World) : Nat := match a.tmps.getD 4 undef with | .int _ j => xs.length - j.toNat | _ => 0

theorem min_events (P : Program) (ts : Array TypeId) (t : TypeId) (x y : Int) (w : World) : (Builtin.min_ ts t #[.int .i64 x, .int .i64 y]).events P w #[] = #[] := by
  simp [Builtin.min_, Builtin.min2, go_sem]

theorem min_under : Tryd.prog.underlying 26 = some (.slice (Tryd.prog.elem 26)) := by kernel_rfl

set_option maxRecDepth 100000 in
set_option maxHeartbeats 1600000 in
theorem min_c (H : Nat → Prop) (B : Nat) {xs : List Int} {b off cap : Nat} (hx : 0 < xs.length) (hbig : (xs.length : Int) < 2 ^ 62) (hH : ¬ H b) (hB : b < B) : ∃ n, ∀ w, Nums w b off xs →
    CallsC Tryd.prog true AtRel (OnlyReads H B) 22 #[.slice (some ⟨b, off, none⟩) xs.length cap] n w fun v w' => AtRel w w' ∧ v = .int .i64 (minTo xs xs.length) := by
  have T := onlyReads_terms H B
  have hI : (0 : Int) ≤ 0 ∧ (0 : Int) < xs.length := ⟨by omega, by omega⟩
  co_apply Exists.intro
  intro w hn
  co_apply callsC_of_wpC Tryd.func22 (by rfl) rfl
  have hF : Seen w b off xs w := ⟨atRel_refl w, hn⟩
  simp only [Tryd.ntmps22, List.size_toArray, List.length_cons, List.length_nil, Nat.reduceAdd, Nat.reduceSub, Array.replicate_succ, Array.replicate_zero, List.push_toArray, List.append_toArray, List.nil_append, List.cons_append]
  co_go T Seen.rely hF (co_quiet T)
  co_apply wpC_cond T (t := false)
  · simp [Act.eval]; omega
  simp only [if_false, Bool.false_eq_true, reduceIte]
  co_go T Seen.rely hF ((rw [listed_nil (by simp [go_sem, min_under, hx, hI])]; exact Terms.idle T _))
  co_opw Seen.rely hF (have hc := hF.2 0 hx; simp only [Nat.add_zero] at hc) (co_evs (refine ⟨fun a ha => ?_, fun r hr => (by cases hr), fun m hm => (by cases hm)⟩; cases ha; exact ⟨hH, hB⟩))
  co_go T Seen.rely hF ((rw [listed_nil (by simp [go_sem, min_under, hx, hI])]; exact Terms.idle T _))
  co_apply wpC_loop T (MinInv w b off cap xs) (MinMu xs) _ xs.length
  · have e : xs[0] = minTo xs 1 := by rw [minTo_one hx]; simp [List.getD_eq_getElem?_getD, List.getElem?_eq_getElem hx]
    simp only [e]
    exact ⟨1, _, _, _, _, _, _, _, _, _, _, _, _, _, _, _, _, _, _, _, _, by omega, by omega, hF, rfl⟩
  · simp [MinMu]
  · rintro a w' ⟨i, v5, v6, v7, v8, v9, v10, v11, v12, v13, v14, v15, v16, v17, v18, v19, v20, v21, v22, v23, v24, hi1, hi2, hS, rfl⟩
    co_go T Seen.rely hS (co_quiet T)
    co_split T (decide ((i : Int) < (xs.length : Int)))
    · intro hlt
      have hlt' : i < xs.length := by have := of_decide_eq_true hlt; omega
      have hI' : (0 : Int) ≤ i ∧ (i : Int) < xs.length := ⟨by omega, by omega⟩
      co_go T Seen.rely hS ((rw [listed_nil (by simp [go_sem, min_under, hlt', hI'])]; exact Terms.idle T _))
      co_opw Seen.rely hS (have hc := hS.2 i hlt') (co_evs (refine ⟨fun a ha => ?_, fun r hr => (by cases hr), fun m hm => (by cases hm)⟩; cases ha; exact ⟨hH, hB⟩))
      co_go T Seen.rely hS ((rw [listed_nil (by simp [go_sem, min_events])]; exact Terms.idle T _))
      have e1 : IntKind.i64.wrap ((i : Int) + 1) = ((i + 1 : Nat) : Int) := by rw [IntKind.wrap_i64]; omega
      have e2 : (if xs[i] < minTo xs i then xs[i] else minTo xs i) = minTo xs (i + 1) := by
        rw [minTo_succ hlt']
        simp only [List.getD_eq_getElem?_getD, List.getElem?_eq_getElem hlt', Option.getD_some]
        split <;> omega
      simp only [e1, e2]
      refine ⟨⟨i + 1, _, _, _, _, _, _, _, _, _, _, _, _, _, _, _, _, _, _, _, _, by omega, by omega, hS, rfl⟩, ?_⟩
      simp [MinMu]
      omega
    · intro hlt
      obtain rfl : i = xs.length := by have := of_decide_eq_false hlt; omega
      co_go T Seen.rely hS (co_quiet T)
      exact ⟨rfl, _, resultsC_tmp (by rfl) _, hS.1, rfl⟩

theorem Rel.cell {T : Two} {H : Nat → Prop} {w W : World} (hr : Rel T H w W) {a : Addr} {v : Value} (h : w.cell? a = some v) : W.cell? a = some v ∧ ¬ H a.block ∧ a.block < W.heap.size := by
  unfold World.cell? at h
  cases hb : w.heap[a.block]? with
  | none => rw [hb] at h; cases h
  | some o =>
    rw [hb] at h
    cases o with
    | cells c e fr =>
      dsimp only at h
      have hH : ¬ H a.block := fun hh => by
        obtain ⟨c', e', fr', h1, _⟩ := hr.hid _ hh
        rw [hb] at h1
        injection h1 with h1
        injection h1 with h1
        subst h1
        split at h
        · cases h
        · simp at h
      have hW := hr.cells hH hb
      refine ⟨?_, hH, (Array.getElem?_eq_some_iff.1 hW).1⟩
      unfold World.cell?
      rw [hW]
      exact h
    | _ => cases h

theorem Nums.up {T : Two} {H : Nat → Prop} {w W : World} {b off : Nat} {xs : List Int} (hr : Rel T H w W) (hx : 0 < xs.length) (h : Nums w b off xs) : Nums W b off xs ∧ ¬ H b ∧ b < W.heap.size :=
  ⟨fun j hj => (hr.cell (h j hj)).1, (hr.cell (h 0 hx)).2.1, (hr.cell (h 0 hx)).2.2⟩

theorem min_b {X w : World} {xs : List Int} {b off cap : Nat} (hx : 0 < xs.length) (hbig : (xs.length : Int) < 2 ^ 62) (h : Nums w b off xs) :
    CallsB (duo Tryd.prog X) 22 #[.slice (some ⟨b, off, none⟩) xs.length cap] w (fun v w' => w' = w ∧ v = .int .i64 (minTo xs xs.length)) := by
  intro c H fr cs h1 h2 h3 h4
  obtain ⟨hN, hH, hB⟩ := h.up h2 hx
  obtain ⟨n, hn⟩ := min_c H c.W.heap.size (cap := cap) hx hbig hH hB
  exact CallsB.of_callsC_at (hn c.W hN) h1 h2 h3 h4
end

section
open Go.RowKit

def Rd (w : World) (ao : Option Addr) (xs : List Int) : Prop :=
  xs = [] ∨ ∃ b off, ao = some ⟨b, off, none⟩ ∧ ∀ j, j < xs.length → w.cell? ⟨b, off + j, none⟩ = some (.int .i64 (xs.getD j 0))

def Own (w : World) (B : Nat) (v : Value) (xs : List Int) : Prop := w.ownsRow B 3 1 v xs.length (xs.map (Value.int .i64))

theorem getD_map_int (xs : List Int) (j : Nat) (h : j < xs.length) : (xs.map (Value.int .i64))[j]? = some (.int .i64 (xs.getD j 0)) := by
  simp [List.getD, h]

theorem own_view {w : World} {B : Nat} {v : Value} {xs : List Int} (h : Own w B v xs) :
    (v = .slice none 0 0 ∧ xs = []) ∨ ∃ g cap, v = .slice (some ⟨g, 0, none⟩) xs.length cap ∧ B ≤ g ∧ g < w.heap.size ∧ xs.length ≤ cap ∧ cap ≤ maxLen ∧
      (∀ j, j < xs.length → w.cell? ⟨g, j, none⟩ = some (.int .i64 (xs.getD j 0))) ∧ (∀ j, w.frozen? ⟨g, j, none⟩ = false) := by
  have h0 := h
  rcases h.2 with ⟨hv, hn⟩ | ⟨g, cap, cur, hv, hb, hg, hnc, hcm, hcs, htk⟩
  · exact .inl ⟨hv, List.eq_nil_of_length_eq_zero hn⟩
  · refine .inr ⟨g, cap, hv, hb, (Array.getElem?_eq_some_iff.1 hg).1, hnc, hcm, ?_, ?_⟩
    · intro j hj
      subst hv
      have := World.ownsRow.cellAt h0 j (by omega)
      rw [this, getD_map_int xs j hj]
    · intro j
      subst hv
      exact World.ownsRow.frozenAt h0 j

theorem own_rd {w : World} {B : Nat} {v : Value} {xs : List Int} (h : Own w B v xs) :
    ∃ ao cap, v = .slice ao xs.length cap ∧ Rd w ao xs ∧ xs.length ≤ cap ∧ cap ≤ maxLen ∧ (∀ a, ao = some a → B ≤ a.block ∧ a.block < w.heap.size ∧ v.ownBlock = some a.block) := by
  rcases own_view h with ⟨rfl, rfl⟩ | ⟨g, cap, rfl, hb, hl, hnc, hcm, hc, _⟩
  · exact ⟨none, 0, rfl, .inl rfl, Nat.le_refl _, Nat.zero_le _, fun a ha => by cases ha⟩
  · exact ⟨_, cap, rfl, .inr ⟨g, 0, rfl, fun j hj => by rw [Nat.zero_add]; exact hc j hj⟩, hnc, hcm, fun a ha => by cases ha; exact ⟨hb, hl, rfl⟩⟩

theorem own_frozen {w : World} {B g n cap : Nat} {xs : List Int} (h : Own w B (.slice (some ⟨g, 0, none⟩) n cap) xs) (j : Nat) : w.frozen? ⟨g, j, none⟩ = false := by
  rcases own_view h with ⟨h1, _⟩ | ⟨g', cap', h1, _, _, _, _, _, hf⟩
  · cases h1
  · cases h1
    exact hf j

theorem own_cell {w : World} {B g n cap : Nat} {xs : List Int} (h : Own w B (.slice (some ⟨g, 0, none⟩) n cap) xs) (j : Nat) (hj : j < xs.length) : w.cell? ⟨g, j, none⟩ = some (.int .i64 (xs.getD j 0)) := by
  rcases own_view h with ⟨h1, _⟩ | ⟨g', cap', h1, _, _, _, _, hc, _⟩
  · cases h1
  · cases h1
    exact hc j hj

theorem own_lt {w : World} {B : Nat} {v : Value} {xs : List Int} (h : Own w B v xs) : ∀ k, v.ownBlock = some k → B ≤ k ∧ k < w.heap.size := World.ownsRow.lt h

theorem own_grown {w w' : World} {B : Nat} {v : Value} {xs : List Int} {row : Option Nat} (h : Own w B v xs) (hg : w.grownBy w' row) (hne : v.ownBlock = none ∨ v.ownBlock ≠ row) : Own w' B v xs :=
  World.ownsRow.kept h hg hne

theorem grown_of_below {w w' : World} (h : Below w.heap.size w w') : w.grownBy w' none := ⟨h.os, h.tape, h.output, h.size, fun k hk _ => h.block k hk⟩

theorem own_below {w w' : World} {B : Nat} {v : Value} {xs : List Int} (h : Own w B v xs) (hb : Below w.heap.size w w') : Own w' B v xs :=
  own_grown h (grown_of_below hb) (by cases hv : v.ownBlock <;> simp)

theorem own_mono {w : World} {B B' : Nat} {v : Value} {xs : List Int} (h : Own w B v xs) (hB : B' ≤ B) : Own w B' v xs := by
  refine ⟨h.1, ?_⟩
  rcases h.2 with h2 | ⟨g, cap, cur, hv, hb, r⟩
  · exact .inl h2
  · exact .inr ⟨g, cap, cur, hv, by omega, r⟩

theorem rd_below {w w' : World} {ao : Option Addr} {xs : List Int} (h : Rd w ao xs) (hb : Below w.heap.size w w') : Rd w' ao xs := by
  rcases h with h | ⟨b, off, ha, hc⟩
  · exact .inl h
  · exact .inr ⟨b, off, ha, fun j hj => by rw [hb.cell (World.block_lt_of_cell? w _ (hc j hj))]; exact hc j hj⟩

def RdV (w : World) (v : Value) (xs : List Int) : Prop := ∃ ao cap, v = .slice ao xs.length cap ∧ Rd w ao xs ∧ xs.length ≤ cap ∧ cap ≤ maxLen

theorem own_rdv {w : World} {B : Nat} {v : Value} {xs : List Int} (h : Own w B v xs) : RdV w v xs := by
  obtain ⟨ao, cap, h1, h2, h3, h4, _⟩ := own_rd h
  exact ⟨ao, cap, h1, h2, h3, h4⟩

theorem rdv_below {w w' : World} {v : Value} {xs : List Int} (h : RdV w v xs) (hb : Below w.heap.size w w') : RdV w' v xs := by
  obtain ⟨ao, cap, h1, h2, h3⟩ := h
  exact ⟨ao, cap, h1, rd_below h2 hb, h3⟩

theorem rdv_drewN {w : World} {v : Value} {xs : List Int} (h : RdV w v xs) (n : Nat) : RdV (w.drewN n) v xs := rdv_below h (below_drewN (Below.refl _ _) n)

theorem quiet_left {P : Program} {f : FuncId} {args : Array Value} {w : World} {n : Nat} {v : Value}
    (h : Calls P f args (w.drewN n) fun e w' => e = .returned v ∧ w.drewN n = w') : Calls P f args (w.drewN n) fun e w'' => e = .returned v ∧ ∃ m, w'' = w.drewN m :=
  h.mono fun _ _ ⟨he, hm⟩ => ⟨he, n, hm.symm⟩

def InB (v : Value) (B S : Nat) : Prop := ∀ k, v.ownBlock = some k → B ≤ k ∧ k < S

theorem inB_of_own {w : World} {B : Nat} {v : Value} {xs : List Int} (h : Own w B v xs) : InB v B w.heap.size := World.ownsRow.lt h

theorem below_step {w0 w w' : World} (hb : Below w0.heap.size w0 w) (h : Below w.heap.size w w') : Below w0.heap.size w0 w' := hb.trans (h.mono hb.size)

def IsRow (k : IntKind) (w : World) (a : Option Addr) (len cap : Nat) (zs : List Int) : Prop :=
  (a = none ∧ len = 0 ∧ cap = 0 ∧ zs = []) ∨
  ∃ x, a = some x ∧ len ≤ cap ∧ cap ≤ maxLen ∧ zs.length = cap ∧ (∀ i, i < zs.length → w.cell? (x.add i) = some (.int k (zs.getD i 0))) ∧ ∀ n ∈ zs, (Lit.int k n).wf = true

def GivesB (w : World) (r : Bool) (e : Ending) (w' : World) : Prop := e = .returned (.bool r) ∧ Below w.heap.size w w'
def FreshLB (w : World) (r : List Int × Bool) (e : Ending) (w' : World) : Prop :=
  ∃ v, e = .returned (.tuple #[v, .bool r.2]) ∧ Own w' w.heap.size v r.1 ∧ Below w.heap.size w w'

def FreshL (w : World) (r : List Int) (e : Ending) (w' : World) : Prop :=
  ∃ v, e = .returned v ∧ Own w' w.heap.size v r ∧ Below w.heap.size w w'

def Same (w w' : World) : Prop := ∀ B, Below B w w'
theorem Same.refl (w : World) : Same w w := fun _ => Below.refl _ _
theorem Same.trans {a b c : World} (h : Same a b) (k : Same b c) : Same a c := fun B => (h B).trans (k B)
theorem Same.drewN {a w : World} (h : Same a w) (n : Nat) : Same a (w.drewN n) := fun B => below_drewN (h B) n
theorem rd_same {w w' : World} {ao : Option Addr} {xs : List Int} (h : Rd w ao xs) (hb : Same w w') : Rd w' ao xs := rd_below h (hb _)

def iota (k : Int) (n : Nat) : List Int := (List.range n).map (fun (j : Nat) => k + (j : Int))

theorem iota_length (k : Int) (n : Nat) : (iota k n).length = n := by simp [iota]
theorem iota_getD (k : Int) (n j : Nat) (h : j < n) : (iota k n).getD j 0 = k + j := by simp [iota, List.getD, h]

theorem drop_cons (xs : List Int) (k : Nat) (h : k < xs.length) : xs.drop k = xs.getD k 0 :: xs.drop (k + 1) := by
  rw [List.drop_eq_getElem_cons h]
  simp [List.getD, h]

theorem take_succ_eq {xs ys : List Int} {k : Nat} (h : xs.take k = ys.take k) (hx : k < xs.length) (hy : k < ys.length) (e : xs.getD k 0 = ys.getD k 0) : xs.take (k + 1) = ys.take (k + 1) := by
  rw [List.take_succ_eq_append_getElem hx, List.take_succ_eq_append_getElem hy, h]
  simp [List.getD, hx, hy] at e
  rw [e]

theorem ret_bool {a b : Bool} (h : a = b) : Ending.returned (.bool a) = .returned (.bool b) := by rw [h]
theorem ret_int {k : IntKind} {a b : Int} (h : a = b) : Ending.returned (.int k a) = .returned (.int k b) := by rw [h]
end

section
open Go.RowKit

theorem Tryd.infoInt : ((cutP Tryd.prog).info? 3).map (fun i => (i.zero, i.size, i.bytes)) = some (some (.int .i64 0), 1, 8) := by kernel_rfl

theorem own_made {w1 : World} {B g n c : Nat} (h : w1.ownsRow B 3 1 (.slice (some ⟨g, 0, none⟩) n c) n (madeCells #[Value.int .i64 0] n).toList) : Own w1 B (.slice (some ⟨g, 0, none⟩) n c) (List.replicate n 0) := by
  unfold Own
  rw [toList_madeCells_one] at h
  simpa using h

theorem set_stage (xs : List Int) (k : Nat) (h : k < xs.length) (x : Int) (hx : x = xs.getD k 0) : (xs.take k ++ List.replicate (xs.length - k) 0).set k x = xs.take (k + 1) ++ List.replicate (xs.length - (k + 1)) 0 := by
  subst hx
  apply List.ext_getElem?
  intro j
  by_cases h1 : j < k
  · rw [List.getElem?_set_ne (by omega), List.getElem?_append_left (by simp; omega), List.getElem?_append_left (by simp; omega), List.getElem?_take, List.getElem?_take, if_pos h1, if_pos (by omega)]
  · by_cases h2 : j = k
    · subst h2
      rw [List.getElem?_set_self (by simp; omega), List.getElem?_append_left (by simp; omega)]
      simp [List.getD, h]
    · rw [List.getElem?_set_ne (by omega), List.getElem?_append_right (by simp; omega), List.getElem?_append_right (by simp; omega)]
      simp only [List.getElem?_replicate, List.length_take]
      by_cases h3 : j < xs.length
      · rw [if_pos (by omega), if_pos (by omega)]
      · rw [if_neg (by omega), if_neg (by omega)]

theorem own_stored {w : World} {B g n cap : Nat} {xs : List Int} (h : Own w B (.slice (some ⟨g, 0, none⟩) n cap) xs) (hn : n = xs.length) (j : Nat) (x : Int) :
    Own (w.setCell ⟨g, j, none⟩ (.int .i64 x)) B (.slice (some ⟨g, 0, none⟩) n cap) (xs.set j x) ∧ w.grownBy (w.setCell ⟨g, j, none⟩ (.int .i64 x)) (some g) := by
  subst hn
  have := World.ownsRow.stored h j (.int .i64 x)
  refine ⟨?_, this.2⟩
  unfold Own
  rw [List.length_set, List.map_set]
  exact this.1

set_option maxHeartbeats 400000 in
theorem toIntS_any (ao : Option Addr) (cap : Nat) (xs : List Int) (w : World) (hr : Rd w ao xs) (hl : xs.length ≤ 1048576) :
    Calls (cutP Tryd.prog) 27 #[.slice ao xs.length cap] w (FreshL w xs) := by
  obtain ⟨n, hn⟩ : ∃ n, n = xs.length := ⟨_, rfl⟩
  rw [← hn]
  rw [← hn] at hl
  have HN := Lib.hid hn
  clear hn
  obtain ⟨i0, hi, hz0, hz1, hz2⟩ := info_parts Tryd.infoInt
  have HR := Lib.hid hr
  clear hr
  go_enter Trydp.func27, Trydp.ntmps27
  go_wp2_with (at_make; refine wpList_make_full _ rfl _ _ 26 rfl w.heap.size 3 i0 (.int .i64 0) 1 Trydp.underlying26 hi hz0 hz1 _ _ _ _ n rfl rfl rfl rfl (by rw [hz2]; omega) (by unfold maxLen; omega) (Nat.le_refl _) ?_)
  intro w1 hown1 hgrow1
  have hb1 : Below w.heap.size w w1 := (Below.refl _ _).grown hgrow1 (Nat.le_refl _) (fun k h => by cases h)
  have hown := own_made hown1
  clear hown1 hgrow1
  go_wp2
  go_loopw [4] (fun i wr => ∃ k : Nat, k ≤ n ∧ i = .int .i64 k ∧ Own wr w.heap.size (.slice (some ⟨w.heap.size, 0, none⟩) n n) (xs.take k ++ List.replicate (n - k) 0) ∧ Below w.heap.size w wr)
    (fun i _ => n - (intOf i).toNat)
  case atStart => exact ⟨0, Nat.zero_le _, rfl, by simpa using hown, hb1⟩
  case round =>
    obtain ⟨k, hk, rfl, hownr, hbr⟩ := hrel
    by_cases hlt : k < n
    · have hr := rd_below HR.out hbr
      rcases hr with hr | ⟨b, off, rfl, hc⟩
      · have := HN.out
        rw [hr] at this
        simp at this
        omega
      · have hcell := hc k (by have := HN.out; omega)
        clear hc
        have hfz := own_frozen hownr k
        obtain ⟨v0, hv0⟩ : ∃ v0, wr.cell? ⟨w.heap.size, k, none⟩ = some v0 := ⟨_, own_cell hownr k (by have := HN.out; simp; omega)⟩
        obtain ⟨hst, hgs⟩ := own_stored hownr (by have := HN.out; simp; omega) k (xs.getD k 0)
        have HST := Lib.hid hst
        have HGS := Lib.hid hgs
        clear hst hgs
        go_wp2
        go_roundw
        case rel =>
          refine ⟨k + 1, by omega, by go_num, ?_, hbr.setCell (Nat.le_refl _) _⟩
          have := HST.out
          rw [HN.out, set_stage xs k (by have := HN.out; omega) _ rfl, ← HN.out] at this
          simpa using this
        case measure => simp [intOf]; omega
    · go_wp2
      go_ret
      have hkn : k = n := by omega
      subst hkn
      refine ⟨_, rfl, ?_, hbr⟩
      rw [Nat.sub_self, HN.out, List.take_length, List.replicate_zero, List.append_nil, ← HN.out] at hownr
      exact hownr

set_option maxHeartbeats 400000 in
theorem eqIntS_any (ao bo : Option Addr) (ca cb : Nat) (xs ys : List Int) (w : World) (hx : Rd w ao xs) (hy : Rd w bo ys) (hlx : xs.length ≤ 9223372036854775807) (hly : ys.length ≤ 9223372036854775807) :
    Calls (cutP Tryd.prog) 28 #[.slice ao xs.length ca, .slice bo ys.length cb] w fun e w' => e = .returned (.bool (decide (xs = ys))) ∧ Same w w' := by
  obtain ⟨n, hn⟩ : ∃ n, n = xs.length := ⟨_, rfl⟩
  obtain ⟨m, hm⟩ : ∃ m, m = ys.length := ⟨_, rfl⟩
  rw [← hn, ← hm]
  rw [← hn] at hlx
  rw [← hm] at hly
  have HN := Lib.hid hn
  have HM := Lib.hid hm
  clear hn hm
  have HX := Lib.hid hx
  have HY := Lib.hid hy
  clear hx hy
  by_cases hnm : n = m
  · subst hnm
    go_enter Trydp.func28, Trydp.ntmps28
    go_wp2
    go_loopw [5] (fun i wr => ∃ k : Nat, k ≤ n ∧ i = .int .i64 k ∧ xs.take k = ys.take k ∧ Same w wr) (fun i _ => n - (intOf i).toNat)
    case atStart => exact ⟨0, Nat.zero_le _, rfl, rfl, Same.refl w⟩
    case round =>
      obtain ⟨k, hk, rfl, htk, hsr⟩ := hrel
      have HT := Lib.hid htk
      clear htk
      by_cases hlt : k < n
      · have hx := rd_same HX.out hsr
        have hy := rd_same HY.out hsr
        rcases hx with hx | ⟨b, off, rfl, hcx⟩
        · have := HN.out
          rw [hx] at this
          simp at this
          omega
        · rcases hy with hy | ⟨b2, off2, rfl, hcy⟩
          · have := HM.out
            rw [hy] at this
            simp at this
            omega
          · have hc1 := hcx k (by have := HN.out; omega)
            have hc2 := hcy k (by have := HM.out; omega)
            clear hcx hcy
            obtain ⟨x, hx⟩ : ∃ x, x = xs.getD k 0 := ⟨_, rfl⟩
            obtain ⟨y, hy⟩ : ∃ y, y = ys.getD k 0 := ⟨_, rfl⟩
            rw [← hx] at hc1
            rw [← hy] at hc2
            have HXK := Lib.hid hx
            have HYK := Lib.hid hy
            clear hx hy
            have hlt' : (k : Int) < n := by omega
            by_cases hxy : x = y
            · subst hxy
              go_wp2
              go_quiet (fail)
              go_wp2
              go_roundw
              case rel => exact ⟨k + 1, by omega, by go_num, take_succ_eq HT.out (by have := HN.out; omega) (by have := HM.out; omega) (by rw [← HXK.out, ← HYK.out]), hsr.drewN _⟩
              case measure => simp [intOf]; omega
            · have hb : (x != y) = true := by simpa using hxy
              go_wp2
              go_quiet (fail)
              go_wp2
              go_ret
              have hne : ¬ xs = ys := fun e => hxy (by rw [HXK.out, HYK.out, e])
              exact ⟨by simp [hne], hsr.drewN _⟩
      · go_wp2
        go_ret
        have hkn : k = n := by omega
        subst hkn
        have he : xs = ys := by
          have := HT.out
          rwa [List.take_of_length_le (by have := HN.out; omega), List.take_of_length_le (by have := HM.out; omega)] at this
        exact ⟨by simp [he], hsr⟩
  · go_enter Trydp.func28, Trydp.ntmps28
    go_wp2
    go_ret
    have hne : ¬ xs = ys := fun e => hnm (by rw [HN.out, HM.out, e])
    exact ⟨by simp [hne], Same.refl w⟩

theorem grown_trans {a b c : World} {r : Option Nat} (h : a.grownBy b r) (k : b.grownBy c r) : a.grownBy c r :=
  ⟨k.os.trans h.os, k.tape.trans h.tape, k.output.trans h.output, Nat.le_trans h.size k.size, fun i hi hr => (k.block i (Nat.lt_of_lt_of_le hi h.size) hr).trans (h.block i hi hr)⟩

theorem toIntS_v (v : Value) (xs : List Int) (w : World) (hv : RdV w v xs) (hl : xs.length ≤ 1048576) : Calls (cutP Tryd.prog) 27 #[v] w (FreshL w xs) := by
  obtain ⟨ao, ca, rfl, h, _, _⟩ := hv
  exact toIntS_any ao ca xs w h hl

theorem eqIntS_v (v u : Value) (xs : List Int) (w : World) (hv : RdV w v xs) (hu : RdV w u xs) : Calls (cutP Tryd.prog) 28 #[v, u] w fun e w' => e = .returned (.bool true) ∧ Same w w' := by
  obtain ⟨ao, ca, rfl, h, h1, h2⟩ := hv
  obtain ⟨bo, cb, rfl, k, k1, k2⟩ := hu
  unfold maxLen at h2
  refine (eqIntS_any ao bo ca cb xs xs w h k (by omega) (by omega)).mono fun e w' ⟨he, hw⟩ => ⟨by rw [he]; simp, hw⟩
end

section
open Go.RowKit

def okFrom : Int → List Int → Bool
  | _, [] => true
  | b, x :: xs => decide (0 ≤ x) && decide (x ≤ b) && okFrom (if x = b then b + 1 else b) xs

def partIn (xs : List Int) : Bool := decide (1 ≤ xs.length) && decide (xs.length ≤ 8) && okFrom 0 xs

theorem okFrom_no {b x : Int} {xs : List Int} (h : x < 0 ∨ b < x) : okFrom b (x :: xs) = false := by
  rcases h with h | h
  · simp [okFrom, show ¬ 0 ≤ x by omega]
  · simp [okFrom, show ¬ x ≤ b by omega]

theorem okFrom_yes {b x : Int} {xs : List Int} (h : 0 ≤ x) (h2 : x < b) : okFrom b (x :: xs) = okFrom b xs := by
  simp [okFrom, h, show x ≤ b by omega, show ¬ x = b by omega]

theorem okFrom_new {b : Int} {xs : List Int} (h : 0 ≤ b) : okFrom b (b :: xs) = okFrom (b + 1) xs := by
  simp [okFrom, h]

theorem l6In_any (n lo hi : Int) (w : World) : Calls (cutP Tryd.prog) 37 #[.int .i64 n, .int .i64 lo, .int .i64 hi] w fun e w' => e = .returned (.bool (decide (lo ≤ n ∧ n ≤ hi))) ∧ w = w' := by
  by_cases h1 : lo ≤ n
  · by_cases h2 : n ≤ hi
    all_goals
      go_enter Trydp.func37, Trydp.ntmps37
      go_wp2
      go_ret
      exact ⟨by simp [h1, h2]; try omega, rfl⟩
  · go_enter Trydp.func37, Trydp.ntmps37
    go_wp2
    go_ret
    exact ⟨by simp [h1]; omega, rfl⟩

theorem countFits_any (n : Int) (w : World) : Calls (cutP Tryd.prog) 24 #[.int .i64 n] w fun e w' => e = .returned (.bool (decide (1 ≤ n ∧ n ≤ 8))) ∧ w = w' := by
  by_cases h1 : 1 ≤ n
  · by_cases h2 : n ≤ 8
    all_goals
      go_enter Trydp.func24, Trydp.ntmps24
      go_wp2
      go_ret
      exact ⟨by simp [h1, h2]; try omega, rfl⟩
  · go_enter Trydp.func24, Trydp.ntmps24
    go_wp2
    go_ret
    exact ⟨by simp [h1]; omega, rfl⟩

set_option maxHeartbeats 800000 in
theorem iPartIn_any (ao : Option Addr) (ca : Nat) (xs : List Int) (w : World) (hx : Rd w ao xs) (hl : xs.length ≤ 9223372036854775807) :
    Calls (cutP Tryd.prog) 44 #[.slice ao xs.length ca] w fun e w' => e = .returned (.bool (partIn xs)) ∧ w = w' := by
  obtain ⟨n, hn⟩ : ∃ n, n = xs.length := ⟨_, rfl⟩
  rw [← hn]
  rw [← hn] at hl
  have HN := Lib.hid hn
  clear hn
  have HX := Lib.hid hx
  clear hx
  by_cases hf : 1 ≤ n ∧ n ≤ 8
  · have hd : decide (1 ≤ (n : Int) ∧ (n : Int) ≤ 8) = true := by simp; omega
    have HD := Lib.hid hd
    clear hd
    have HP : Hid (partIn xs = okFrom 0 xs) := by
      show partIn xs = okFrom 0 xs
      unfold partIn
      rw [← HN.out]
      simp [hf.1, hf.2]
    obtain ⟨h1, h8⟩ := hf
    go_enter Trydp.func44, Trydp.ntmps44
    go_wp2_with (go_at_call 24; refine (countFits_any _ _).mono ?_; rintro e w' ⟨rfl, rfl⟩; rw [HD.out])
    go_loop [3, 12] (fun u i => ∃ (k : Nat) (b : Int), k ≤ n ∧ i = .int .i64 k ∧ u = .int .i64 b ∧ 0 ≤ b ∧ b ≤ k ∧ okFrom 0 xs = okFrom b (xs.drop k)) (fun _ i => n - (intOf i).toNat)
    case atStart => exact ⟨0, 0, Nat.zero_le _, rfl, rfl, by omega, by omega, rfl⟩
    case round =>
      obtain ⟨k, b, hk, rfl, rfl, hb0, hbk, hok⟩ := hrel
      have HOK := Lib.hid hok
      clear hok
      by_cases hlt : k < n
      · rcases HX.out with hx | ⟨bb, off, rfl, hcx⟩
        · have := HN.out
          rw [hx] at this
          simp at this
          omega
        · have hc1 := hcx k (by have := HN.out; omega)
          clear hcx
          have hdr := drop_cons xs k (by have := HN.out; omega)
          obtain ⟨x, hx⟩ : ∃ x, x = xs.getD k 0 := ⟨_, rfl⟩
          rw [← hx] at hc1 hdr
          have hok := HOK.out
          rw [hdr] at hok
          have HOK2 := Lib.hid hok
          clear hok HOK hdr hx
          by_cases h0 : x < 0
          · go_wp2
            go_ret
            exact ⟨ret_bool (by rw [HP.out, HOK2.out, okFrom_no (.inl h0)]), rfl⟩
          · by_cases hgt : b < x
            · go_wp2
              go_ret
              exact ⟨ret_bool (by rw [HP.out, HOK2.out, okFrom_no (.inr hgt)]), rfl⟩
            · by_cases he : x = b
              · subst he
                go_wp2
                go_round
                case rel => exact ⟨k + 1, x + 1, by omega, by go_num, by go_num, by omega, by omega, by rw [HOK2.out, okFrom_new hb0]⟩
                case measure => simp [intOf]; omega
              · have hlt2 : x < b := by omega
                go_wp2
                go_round
                case rel => exact ⟨k + 1, b, by omega, by go_num, (by first | rfl | (congr 1; omega)), by omega, by omega, by rw [HOK2.out, okFrom_yes (by omega) hlt2]⟩
                case measure => simp [intOf]; omega
      · go_wp2
        go_ret
        have hkn : k = n := by omega
        subst hkn
        exact ⟨by rw [HP.out, HOK.out, HN.out, List.drop_length]; rfl, rfl⟩
  · have hd : decide (1 ≤ (n : Int) ∧ (n : Int) ≤ 8) = false := by simp; omega
    have HD := Lib.hid hd
    clear hd
    have HP : Hid (partIn xs = false) := by
      show partIn xs = false
      unfold partIn
      rw [← HN.out]
      simp
      omega
    go_enter Trydp.func44, Trydp.ntmps44
    go_wp2_with (go_at_call 24; refine (countFits_any _ _).mono ?_; rintro e w' ⟨rfl, rfl⟩; rw [HD.out])
    go_ret
    exact ⟨ret_bool (by rw [HP.out]), rfl⟩

set_option maxHeartbeats 800000 in
theorem sPartIn_any (ao : Option Addr) (ca : Nat) (xs : List Int) (w : World) (hx : Rd w ao xs) (hl : xs.length ≤ 9223372036854775807) :
    Calls (cutP Tryd.prog) 36 #[.slice ao xs.length ca] w fun e w' => e = .returned (.bool (partIn xs)) ∧ w = w' := by
  obtain ⟨n, hn⟩ : ∃ n, n = xs.length := ⟨_, rfl⟩
  rw [← hn]
  rw [← hn] at hl
  have HN := Lib.hid hn
  clear hn
  have HX := Lib.hid hx
  clear hx
  go_enter Trydp.func36, Trydp.ntmps36
  go_wp2
  go_loop [3, 4] (fun u i => ∃ (k : Nat) (b : Int), k ≤ n ∧ i = .int .i64 k ∧ u = .int .i64 b ∧ -1 ≤ b ∧ b < k ∧ okFrom 0 xs = okFrom (b + 1) (xs.drop k)) (fun _ i => n - (intOf i).toNat)
  case atStart => exact ⟨0, -1, Nat.zero_le _, rfl, rfl, by omega, by omega, rfl⟩
  case round =>
    obtain ⟨k, b, hk, rfl, rfl, hb0, hbk, hok⟩ := hrel
    have HOK := Lib.hid hok
    clear hok
    by_cases hlt : k < n
    · rcases HX.out with hx | ⟨bb, off, rfl, hcx⟩
      · have := HN.out
        rw [hx] at this
        simp at this
        omega
      · have hc1 := hcx k (by have := HN.out; omega)
        clear hcx
        have hdr := drop_cons xs k (by have := HN.out; omega)
        obtain ⟨x, hx⟩ : ∃ x, x = xs.getD k 0 := ⟨_, rfl⟩
        rw [← hx] at hc1 hdr
        have hok := HOK.out
        rw [hdr] at hok
        have HOK2 := Lib.hid hok
        clear hok HOK hdr hx
        by_cases h0 : 0 ≤ x ∧ x ≤ b + 1
        · have hd : decide (0 ≤ x ∧ x ≤ b + 1) = true := by simpa using h0
          have HD := Lib.hid hd
          clear hd
          obtain ⟨h0, h1⟩ := h0
          by_cases he : x = b + 1
          · subst he
            go_wp2_with (go_at_call 37; refine (l6In_any _ _ _ _).mono ?_; rintro e w' ⟨rfl, rfl⟩; rw [HD.out])
            go_round
            case rel => exact ⟨k + 1, b + 1, by omega, by go_num, (by first | rfl | (congr 1; omega)), by omega, by omega, by rw [HOK2.out, okFrom_new (by omega)]⟩
            case measure => simp [intOf]; omega
          · have hlt2 : x < b + 1 := by omega
            go_wp2_with (go_at_call 37; refine (l6In_any _ _ _ _).mono ?_; rintro e w' ⟨rfl, rfl⟩; rw [HD.out])
            go_round
            case rel => exact ⟨k + 1, b, by omega, by go_num, (by first | rfl | (congr 1; omega)), by omega, by omega, by rw [HOK2.out, okFrom_yes h0 hlt2]⟩
            case measure => simp [intOf]; omega
        · have hd : decide (0 ≤ x ∧ x ≤ b + 1) = false := by simp; omega
          have HD := Lib.hid hd
          clear hd
          go_wp2_with (go_at_call 37; refine (l6In_any _ _ _ _).mono ?_; rintro e w' ⟨rfl, rfl⟩; rw [HD.out])
          go_ret
          exact ⟨ret_bool (by unfold partIn; rw [HOK2.out, okFrom_no (by omega)]; simp), rfl⟩
    · have hkn : k = n := by omega
      subst hkn
      go_wp2_with (go_at_call 37; refine (l6In_any _ _ _ _).mono ?_; rintro e w' ⟨rfl, rfl⟩)
      go_ret
      refine ⟨ret_bool ?_, rfl⟩
      have := HOK.out
      rw [HN.out, List.drop_length] at this
      unfold partIn
      rw [this, ← HN.out, show okFrom (b + 1) [] = true from rfl, Bool.eq_iff_iff]
      simp
      omega

theorem iPartIn_w (v : Value) (xs : List Int) (w : World) (hv : RdV w v xs) : Calls (cutP Tryd.prog) 44 #[v] w fun e w' => e = .returned (.bool (partIn xs)) ∧ w = w' := by
  obtain ⟨ao, ca, rfl, h, h1, h2⟩ := hv
  unfold maxLen at h2
  exact iPartIn_any ao ca xs w h (by omega)

theorem sPartIn_w (v : Value) (xs : List Int) (w : World) (hv : RdV w v xs) : Calls (cutP Tryd.prog) 36 #[v] w fun e w' => e = .returned (.bool (partIn xs)) ∧ w = w' := by
  obtain ⟨ao, ca, rfl, h, h1, h2⟩ := hv
  unfold maxLen at h2
  exact sPartIn_any ao ca xs w h (by omega)
end

section
open Go.RowKit

def sizeFrom : Int → List Int → Int
  | n, [] => n
  | n, x :: xs => sizeFrom (max n (x + 1)) xs

def Small (xs : List Int) : Prop := ∀ j, j < xs.length → 0 ≤ xs.getD j 0 ∧ xs.getD j 0 ≤ 7

theorem okFrom_small : ∀ (xs : List Int) (b : Int), 0 ≤ b → okFrom b xs = true → ∀ j, j < xs.length → 0 ≤ xs.getD j 0 ∧ xs.getD j 0 ≤ b + j := by
  intro xs
  induction xs with
  | nil => intro b _ _ j hj; simp at hj
  | cons x xs ih =>
    intro b hb h j hj
    simp only [okFrom, Bool.and_eq_true, decide_eq_true_eq] at h
    obtain ⟨⟨h0, h1⟩, h2⟩ := h
    cases j with
    | zero => simp; omega
    | succ j =>
      have := ih (if x = b then b + 1 else b) (by split <;> omega) h2 j (by simpa using hj)
      simp only [List.getD_cons_succ]
      refine ⟨this.1, ?_⟩
      have h3 := this.2
      split at h3 <;> omega

theorem partIn_len {xs : List Int} (h : partIn xs = true) : 1 ≤ xs.length ∧ xs.length ≤ 8 := by
  simp only [partIn, Bool.and_eq_true, decide_eq_true_eq] at h
  omega

theorem partIn_small {xs : List Int} (h : partIn xs = true) : Small xs := by
  have hl := partIn_len h
  simp only [partIn, Bool.and_eq_true, decide_eq_true_eq] at h
  intro j hj
  have := okFrom_small xs 0 (by omega) h.2 j hj
  omega

theorem sizeFrom_bd : ∀ (xs : List Int) (n : Int), Small xs → 0 ≤ n → n ≤ 8 → n ≤ sizeFrom n xs ∧ sizeFrom n xs ≤ 8 := by
  intro xs
  induction xs with
  | nil => intro n _ h0 h8; simp only [sizeFrom]; omega
  | cons x xs ih =>
    intro n hs h0 h8
    have hx := hs 0 (by simp)
    simp at hx
    have := ih (max n (x + 1)) (fun j hj => by have := hs (j + 1) (by simpa using hj); simpa using this) (by omega) (by omega)
    simp only [sizeFrom]
    omega

def pSize (xs : List Int) : Int := sizeFrom 0 xs

theorem pSize_bd {xs : List Int} (h : Small xs) : 0 ≤ pSize xs ∧ pSize xs ≤ 8 := sizeFrom_bd xs 0 h (by omega) (by omega)

set_option maxHeartbeats 800000 in
theorem l1Size_any (ao : Option Addr) (ca : Nat) (xs : List Int) (w : World) (hx : Rd w ao xs) (hl : xs.length ≤ 9223372036854775807) (hs : Small xs) :
    Calls (cutP Tryd.prog) 59 #[.slice ao xs.length ca] w fun e w' => e = .returned (.int .i64 (pSize xs)) ∧ w = w' := by
  obtain ⟨n, hn⟩ : ∃ n, n = xs.length := ⟨_, rfl⟩
  rw [← hn]
  rw [← hn] at hl
  have HN := Lib.hid hn
  clear hn
  have HX := Lib.hid hx
  clear hx
  have HS := Lib.hid hs
  clear hs
  go_enter Trydp.func59, Trydp.ntmps59
  go_wp2
  go_loop [3, 4] (fun u i => ∃ (k : Nat) (b : Int), k ≤ n ∧ i = .int .i64 k ∧ u = .int .i64 b ∧ 0 ≤ b ∧ b ≤ 8 ∧ pSize xs = sizeFrom b (xs.drop k)) (fun _ i => n - (intOf i).toNat)
  case atStart => exact ⟨0, 0, Nat.zero_le _, rfl, rfl, by omega, by omega, rfl⟩
  case round =>
    obtain ⟨k, b, hk, rfl, rfl, hb0, hb8, hok⟩ := hrel
    have HOK := Lib.hid hok
    clear hok
    by_cases hlt : k < n
    · rcases HX.out with hx | ⟨bb, off, rfl, hcx⟩
      · have := HN.out
        rw [hx] at this
        simp at this
        omega
      · have hc1 := hcx k (by have := HN.out; omega)
        clear hcx
        have hdr := drop_cons xs k (by have := HN.out; omega)
        obtain ⟨hx0, hx7⟩ := HS.out k (by have := HN.out; omega)
        obtain ⟨x, hx⟩ : ∃ x, x = xs.getD k 0 := ⟨_, rfl⟩
        rw [← hx] at hc1 hdr hx0 hx7
        have hok := HOK.out
        rw [hdr, sizeFrom] at hok
        have HOK2 := Lib.hid hok
        clear hok HOK hdr hx
        by_cases hm : x + 1 ≤ b
        · go_wp2
          go_round
          case rel => exact ⟨k + 1, b, by omega, by go_num, by first | rfl | (congr 1; omega), by omega, by omega, by rw [HOK2.out, Int.max_eq_left hm]⟩
          case measure => simp [intOf]; omega
        · go_wp2
          go_round
          case rel => exact ⟨k + 1, x + 1, by omega, by go_num, by first | rfl | (congr 1; omega), by omega, by omega, by rw [HOK2.out, Int.max_eq_right (by omega)]⟩
          case measure => simp [intOf]; omega
    · have hkn : k = n := by omega
      subst hkn
      go_wp2
      go_ret
      exact ⟨ret_int (by rw [HOK.out, HN.out, List.drop_length]; rfl), rfl⟩
end

def kstep (s : List Int × List Int × Int) (x : Int) : List Int × List Int × Int :=
  if x ∈ s.1 then (s.1 ++ [x], s.2.1 ++ [s.2.1.getD (s.1.idxOf x) 0], s.2.2) else (s.1 ++ [x], s.2.1 ++ [s.2.2], s.2.2 + 1)
def kfold (f : List Int) : List Int × List Int × Int := f.foldl kstep ([], [], 0)
def kOut (f : List Int) : List Int := (kfold f).2.1
def kNext (f : List Int) : Int := (kfold f).2.2

theorem kfold_snoc (f : List Int) (x : Int) : kfold (f ++ [x]) = kstep (kfold f) x := by simp [kfold, List.foldl_append]

theorem snoc_induction {p : List Int → Prop} (h0 : p []) (h1 : ∀ f x, p f → p (f ++ [x])) : ∀ f, p f := by
  have : ∀ n f, f.length = n → p f := by
    intro n
    induction n with
    | zero => intro f hf; rw [List.eq_nil_of_length_eq_zero hf]; exact h0
    | succ n ih =>
      intro f hf
      rcases List.eq_nil_or_concat f with h | ⟨L, b, h⟩
      · rw [h] at hf; simp at hf
      · subst h
        simp only [List.concat_eq_append] at hf ⊢
        exact h1 _ _ (ih L (by simpa using hf))
  exact fun f => this f.length f rfl

theorem kfold_done : ∀ f, (kfold f).1 = f := by
  refine snoc_induction rfl fun f x ih => ?_
  rw [kfold_snoc]
  unfold kstep
  rw [ih]
  split <;> rfl

theorem kOut_mem {f : List Int} {x : Int} (h : x ∈ f) : kOut (f ++ [x]) = kOut f ++ [(kOut f).getD (f.idxOf x) 0] ∧ kNext (f ++ [x]) = kNext f := by
  unfold kOut kNext
  rw [kfold_snoc]
  unfold kstep
  rw [kfold_done, if_pos h]
  exact ⟨rfl, rfl⟩

theorem kOut_new {f : List Int} {x : Int} (h : x ∉ f) : kOut (f ++ [x]) = kOut f ++ [kNext f] ∧ kNext (f ++ [x]) = kNext f + 1 := by
  unfold kOut kNext
  rw [kfold_snoc]
  unfold kstep
  rw [kfold_done, if_neg h]
  exact ⟨rfl, rfl⟩

theorem kOut_length : ∀ f, (kOut f).length = f.length := by
  refine snoc_induction rfl fun f x ih => ?_
  by_cases h : x ∈ f
  · rw [(kOut_mem h).1]; simp [ih]
  · rw [(kOut_new h).1]; simp [ih]

theorem kNext_bd : ∀ f, 0 ≤ kNext f ∧ kNext f ≤ f.length := by
  refine snoc_induction ⟨Int.le_refl _, Int.le_refl _⟩ fun f x ih => ?_
  by_cases h : x ∈ f
  · rw [(kOut_mem h).2]; simp; omega
  · rw [(kOut_new h).2]; simp; omega

theorem getD_snoc_lt (l : List Int) (x : Int) (j : Nat) (h : j < l.length) : (l ++ [x]).getD j 0 = l.getD j 0 := by
  simp [List.getD, List.getElem?_append_left h]
theorem getD_snoc_eq (l : List Int) (x : Int) : (l ++ [x]).getD l.length 0 = x := by simp [List.getD]

theorem getD_idxOf {f : List Int} {x : Int} (h : x ∈ f) : f.getD (f.idxOf x) 0 = x := by
  have := List.idxOf_lt_length_of_mem h
  simp [List.getD, List.getElem?_eq_getElem this]

theorem mem_of_getD {f : List Int} {x : Int} {j : Nat} (h : j < f.length) (e : f.getD j 0 = x) : x ∈ f := by
  rw [← e]
  simp [List.getD, h]

theorem kOut_inv : ∀ f, (∀ j, j < f.length → 0 ≤ (kOut f).getD j 0 ∧ (kOut f).getD j 0 < kNext f) ∧ (∀ i j, i < f.length → j < f.length → (f.getD i 0 = f.getD j 0 ↔ (kOut f).getD i 0 = (kOut f).getD j 0)) := by
  refine snoc_induction ⟨fun j hj => by simp at hj, fun i j hi => by simp at hi⟩ fun f x ih => ?_
  obtain ⟨ih1, ih2⟩ := ih
  have hlen := kOut_length f
  have hnb := kNext_bd f
  have A : ∀ y j, j < f.length → (f ++ [y]).getD j 0 = f.getD j 0 := fun y j hj => getD_snoc_lt f y j hj
  have A1 : ∀ y, (f ++ [y]).getD f.length 0 = y := fun y => getD_snoc_eq f y
  have K : ∀ y j, j < f.length → (kOut f ++ [y]).getD j 0 = (kOut f).getD j 0 := fun y j hj => getD_snoc_lt _ y j (by omega)
  have last : ∀ y, (kOut f ++ [y]).getD f.length 0 = y := fun y => by rw [← hlen]; exact getD_snoc_eq _ _
  by_cases h : x ∈ f
  · obtain ⟨e1, e2⟩ := kOut_mem h
    have hi := List.idxOf_lt_length_of_mem h
    have hg := getD_idxOf h
    rw [e1, e2]
    constructor
    · intro j hj
      simp at hj
      by_cases hl : j < f.length
      · rw [K _ _ hl]; exact ih1 j hl
      · obtain rfl : j = f.length := by omega
        rw [last]
        exact ih1 _ hi
    · intro i j hi' hj'
      simp at hi' hj'
      by_cases hl : i < f.length <;> by_cases hm : j < f.length
      · rw [A _ _ hl, A _ _ hm, K _ _ hl, K _ _ hm]; exact ih2 i j hl hm
      · obtain rfl : j = f.length := by omega
        rw [A _ _ hl, A1, K _ _ hl, last, ← ih2 i _ hl hi, hg]
      · obtain rfl : i = f.length := by omega
        rw [A _ _ hm, A1, K _ _ hm, last, ← ih2 _ j hi hm, hg]
      · obtain rfl : i = f.length := by omega
        obtain rfl : j = f.length := by omega
        simp
  · obtain ⟨e1, e2⟩ := kOut_new h
    rw [e1, e2]
    constructor
    · intro j hj
      simp at hj
      by_cases hl : j < f.length
      · rw [K _ _ hl]; have := ih1 j hl; omega
      · obtain rfl : j = f.length := by omega
        rw [last]
        omega
    · intro i j hi' hj'
      simp at hi' hj'
      by_cases hl : i < f.length <;> by_cases hm : j < f.length
      · rw [A _ _ hl, A _ _ hm, K _ _ hl, K _ _ hm]; exact ih2 i j hl hm
      · obtain rfl : j = f.length := by omega
        rw [A _ _ hl, A1, K _ _ hl, last]
        have := ih1 i hl
        exact ⟨fun e => absurd (mem_of_getD hl e) h, fun e => by omega⟩
      · obtain rfl : i = f.length := by omega
        rw [A _ _ hm, A1, K _ _ hm, last]
        have := ih1 j hm
        exact ⟨fun e => absurd (mem_of_getD hm e.symm) h, fun e => by omega⟩
      · obtain rfl : i = f.length := by omega
        obtain rfl : j = f.length := by omega
        simp

theorem take_snoc (xs : List Int) (k : Nat) (h : k < xs.length) : xs.take (k + 1) = xs.take k ++ [xs.getD k 0] := by
  rw [List.take_succ_eq_append_getElem h]
  simp [List.getD, h]

theorem idxOf_take (xs : List Int) (k : Nat) (h : k < xs.length) : (xs.getD k 0 ∈ xs.take k → xs.idxOf (xs.getD k 0) = (xs.take k).idxOf (xs.getD k 0) ∧ xs.idxOf (xs.getD k 0) < k) ∧ (xs.getD k 0 ∉ xs.take k → xs.idxOf (xs.getD k 0) = k) := by
  have e : xs = xs.take k ++ xs.getD k 0 :: xs.drop (k + 1) := by
    rw [← drop_cons xs k h, List.take_append_drop]
  obtain ⟨x, hx⟩ : ∃ x, x = xs.getD k 0 := ⟨_, rfl⟩
  rw [← hx] at e ⊢
  have hlen : (xs.take k).length = k := by simp; omega
  constructor
  · intro hm
    have h1 : xs.idxOf x = (xs.take k).idxOf x := by
      conv => lhs; rw [e]
      rw [List.idxOf_append, if_pos hm]
    refine ⟨h1, ?_⟩
    rw [h1]
    have := List.idxOf_lt_length_of_mem hm
    omega
  · intro hm
    conv => lhs; rw [e]
    rw [List.idxOf_append, if_neg hm, List.idxOf_cons_self]
    omega

section
open Go.RowKit

theorem own_alloc {w : World} {B : Nat} {v : Value} {xs : List Int} (h : Own w B v xs) (o : Obj) : Own (w.alloc o) B v xs := World.ownsRow.alloc h o

theorem cell_new1 (w : World) (x : Value) (t : TypeId) : (w.alloc (.cells #[x] t)).cell? ⟨w.heap.size, 0, none⟩ = some x := by
  simp

theorem wpList_push {w : World} {ops : Array Oper} {rest : List Oper} {o : Oper} {a : Act} {Q : Exit → Act → World → Prop} (hgd : o.guard = none) (s x : Operand)
    (ho : o.op = .call { callee := .builtin .append, args := #[s, x], argTypes := #[26, 26] })
    (B g n cap : Nat) (xs : List Int) (hs : a.eval s = .slice (some ⟨g, 0, none⟩) n cap) (hown : Own w B (.slice (some ⟨g, 0, none⟩) n cap) xs) (hn : n = xs.length)
    (ad : Addr) (hx : a.eval x = .slice (some ad) 1 1) (y : Int) (hc : w.cell? ad = some (.int .i64 y)) (hl : n ≤ 1000000000) (hB : B ≤ w.heap.size)
    (h : ∀ g' cap' w', Own w' B (.slice (some ⟨g', 0, none⟩) (n + 1) cap') (xs ++ [y]) → w.grownBy w' (some g) → (g' = g ∨ g' = w.heap.size) → wpList (cutP Tryd.prog) ops Q rest (a.put o.dst (.slice (some ⟨g', 0, none⟩) (n + 1) cap')) w') :
    wpList (cutP Tryd.prog) ops Q (o :: rest) a w := by
  obtain ⟨i0, hi, hz0, hz1, hz2⟩ := info_parts Tryd.infoInt
  subst hn
  refine wpList_append_own_at w hgd s x 26 ho B 3 i0 (.int .i64 0) 1 8 Trydp.underlying26 hi hz0 hz1 hz2 rfl (by decide) _ xs.length (xs.map (Value.int .i64)) hs hown ad 1 1 [.int .i64 y] hx rfl ?_ ?_ (by unfold maxLen; omega) (by omega) hB ?_
  · intro j u hj
    match j, hj with
    | 0, hj =>
      simp at hj
      subst hj
      simpa [Addr.add] using hc
  · intro u hu
    simp at hu
    subst hu
    rfl
  · intro v' w' ho' hg' hnil hb'
    have hown' : Own w' B v' (xs ++ [y]) := by
      unfold Own
      simpa using ho'
    rcases own_view hown' with ⟨rfl, h2⟩ | ⟨g', cap', rfl, _⟩
    · simp at h2
    · simp only [List.length_append, List.length_cons, List.length_nil] at hown' ⊢
      refine h g' cap' w' hown' hg' ?_
      simpa [Value.ownBlock] using hb'

theorem own_empty (w : World) (B : Nat) (hB : B ≤ w.heap.size) : Own (w.alloc (.cells #[] 3)) B (.slice (some ⟨w.heap.size, 0, none⟩) 0 0) [] :=
  World.ownsRow_made w #[] 0 hB (Nat.zero_le _) rfl

def seen (p : List Int) (x : Int) (k : Nat) : Int := if x ∈ p.take k then (kOut p).getD (p.idxOf x) 0 else -1

set_option maxHeartbeats 800000 in
theorem slicesIndex_any (ao : Option Addr) (ca : Nat) (xs : List Int) (x : Int) (w : World) (hx : Rd w ao xs) (hl : xs.length ≤ 9223372036854775807) (hm : x ∈ xs) :
    Calls (cutP Tryd.prog) 21 #[.slice ao xs.length ca, .int .i64 x] w fun e w' => e = .returned (.int .i64 (xs.idxOf x)) ∧ w = w' := by
  obtain ⟨n, hn⟩ : ∃ n, n = xs.length := ⟨_, rfl⟩
  rw [← hn]
  rw [← hn] at hl
  have HN := Lib.hid hn
  clear hn
  have hil := List.idxOf_lt_length_of_mem hm
  have hig := getD_idxOf hm
  obtain ⟨p, hp⟩ : ∃ p, p = xs.idxOf x := ⟨_, rfl⟩
  rw [← hp] at hil hig ⊢
  have HG := Lib.hid hig
  have hmin : ∀ j, j < p → xs.getD j 0 ≠ x := by
    intro j hj e
    rw [hp] at hj
    have := List.not_of_lt_findIdx (p := (· == x)) (xs := xs) (i := j) (by simpa [List.idxOf] using hj)
    rw [hp] at hil
    have hjl : j < xs.length := by omega
    simp [List.getD, hjl] at e
    simp [e] at this
  have HM := Lib.hid hmin
  clear hmin hp hig hm
  rcases hx with hx | ⟨bb, off, rfl, hcx⟩
  · rw [hx] at hil
    simp at hil
  have HX := Lib.hid hcx
  clear hcx
  have hpn : p < n := by have := HN.out; omega
  clear hil
  go_enter Trydp.func21, Trydp.ntmps21
  go_wp2
  go_loop [8] (fun i => ∃ k : Nat, k ≤ p ∧ i = .int .i64 k) (fun i => n - (intOf i).toNat)
  case atStart => exact ⟨0, Nat.zero_le _, rfl⟩
  case round =>
    obtain ⟨k, hk, rfl⟩ := hrel
    have hc1 := HX.out k (by have := HN.out; omega)
    by_cases he : k = p
    · subst he
      rw [HG.out] at hc1
      go_wp2
      go_ret
      exact ⟨rfl, rfl⟩
    · have hne := HM.out k (by omega)
      obtain ⟨y, hy⟩ : ∃ y, y = xs.getD k 0 := ⟨_, rfl⟩
      rw [← hy] at hc1 hne
      clear hy
      have hb : (x == y) = false := by simp; exact fun e => hne e.symm
      go_wp2
      go_round
      case rel => exact ⟨k + 1, by omega, by go_num⟩
      case measure => simp [intOf]; omega

theorem kern_stage_mem (xs : List Int) (k : Nat) (h : k < xs.length) (hm : xs.getD k 0 ∈ xs.take k) :
    (kOut (xs.take k) ++ List.replicate (xs.length - k) 0).set k ((kOut (xs.take k) ++ List.replicate (xs.length - k) 0).getD (xs.idxOf (xs.getD k 0)) 0) = kOut (xs.take (k + 1)) ++ List.replicate (xs.length - (k + 1)) 0 := by
  obtain ⟨h1, h2⟩ := (idxOf_take xs k h).1 hm
  have hl : (xs.take k).length = k := by simp; omega
  have e : (kOut (xs.take k) ++ List.replicate (xs.length - k) 0).getD (xs.idxOf (xs.getD k 0)) 0 = (kOut (xs.take k)).getD ((xs.take k).idxOf (xs.getD k 0)) 0 := by
    rw [← h1]
    rw [List.getD_eq_getElem?_getD, List.getElem?_append_left (by rw [kOut_length]; omega), ← List.getD_eq_getElem?_getD]
  rw [e, take_snoc xs k h, (kOut_mem hm).1]
  have hk : (kOut (xs.take k)).length = k := by rw [kOut_length]; exact hl
  rw [List.set_append_right _ _ (by omega), hk, Nat.sub_self, show xs.length - k = (xs.length - (k + 1)) + 1 by omega, List.replicate_succ, List.set_cons_zero, List.append_assoc]
  rfl

theorem kern_stage_new (xs : List Int) (k : Nat) (h : k < xs.length) (hm : xs.getD k 0 ∉ xs.take k) :
    (kOut (xs.take k) ++ List.replicate (xs.length - k) 0).set k (kNext (xs.take k)) = kOut (xs.take (k + 1)) ++ List.replicate (xs.length - (k + 1)) 0 := by
  have hl : (xs.take k).length = k := by simp; omega
  rw [take_snoc xs k h, (kOut_new hm).1]
  have hk : (kOut (xs.take k)).length = k := by rw [kOut_length]; exact hl
  rw [List.set_append_right _ _ (by omega), hk, Nat.sub_self, show xs.length - k = (xs.length - (k + 1)) + 1 by omega, List.replicate_succ, List.set_cons_zero, List.append_assoc]
  rfl

set_option maxHeartbeats 4000000 in
theorem kernel_any (ao : Option Addr) (ca : Nat) (xs : List Int) (w : World) (hx : Rd w ao xs) (hl : xs.length ≤ 1000000) :
    Calls (cutP Tryd.prog) 25 #[.slice ao xs.length ca] w (FreshL w (kOut xs)) := by
  obtain ⟨n, hn⟩ : ∃ n, n = xs.length := ⟨_, rfl⟩
  rw [← hn]
  rw [← hn] at hl
  have HN := Lib.hid hn
  clear hn
  obtain ⟨i0, hi, hz0, hz1, hz2⟩ := info_parts Tryd.infoInt
  have HX := Lib.hid hx
  clear hx
  go_enter Trydp.func25, Trydp.ntmps25
  go_wp2_with (at_make; refine wpList_make_full _ rfl _ _ 26 rfl w.heap.size 3 i0 (.int .i64 0) 1 Trydp.underlying26 hi hz0 hz1 _ _ _ _ n rfl rfl rfl rfl (by rw [hz2]; omega) (by unfold maxLen; omega) (Nat.le_refl _) ?_)
  intro w1 hown1 hgrow1
  have hb1 : Below w.heap.size w w1 := (Below.refl _ _).grown hgrow1 (Nat.le_refl _) (fun k h => by cases h)
  have hown := own_made hown1
  clear hown1 hgrow1
  go_wp2
  go_loopw [4, 13] (fun m i wr => ∃ k : Nat, k ≤ n ∧ i = .int .i64 k ∧ m = .int .i64 (kNext (xs.take k)) ∧ Own wr w.heap.size (.slice (some ⟨w.heap.size, 0, none⟩) n n) (kOut (xs.take k) ++ List.replicate (n - k) 0) ∧ Below w.heap.size w wr)
    (fun _ i _ => n - (intOf i).toNat)
  case atStart => exact ⟨0, Nat.zero_le _, rfl, rfl, by simpa [kOut, kfold] using hown, hb1⟩
  case round =>
    obtain ⟨k, hk, rfl, rfl, hown, hbel⟩ := hrel
    have hnb := kNext_bd (xs.take k)
    have hkl : (xs.take k).length = k := by have := HN.out; simp; omega
    have HKL := Lib.hid hkl
    clear hkl
    obtain ⟨m, hm⟩ : ∃ m, m = kNext (xs.take k) := ⟨_, rfl⟩
    rw [← hm] at hnb ⊢
    rw [HKL.out] at hnb
    have HM := Lib.hid hm
    clear hm
    by_cases hlt : k < n
    · have hrd := rd_below HX.out hbel
      rcases HX.out with hx | ⟨bb, off, rfl, hcx⟩
      · have := HN.out
        rw [hx] at this
        simp at this
        omega
      · have hck : wr.cell? ⟨bb, off + k, none⟩ = some (.int .i64 (xs.getD k 0)) := by
          have := hcx k (by have := HN.out; omega)
          rw [hbel.cell (World.block_lt_of_cell? w _ this)]
          exact this
        clear hcx
        have HO := Lib.hid hown
        have hmem : xs.getD k 0 ∈ xs := mem_of_getD (by have := HN.out; omega) rfl
        have hidx := idxOf_take xs k (by have := HN.out; omega)
        have HS1 := Lib.hid (kern_stage_mem xs k (by have := HN.out; omega))
        have HS2 := Lib.hid (kern_stage_new xs k (by have := HN.out; omega))
        obtain ⟨x, hx⟩ : ∃ x, x = xs.getD k 0 := ⟨_, rfl⟩
        rw [← hx] at hck hmem hidx
        have HXK := Lib.hid hx
        have HRD := Lib.hid hrd
        have HMEM := Lib.hid hmem
        have HIDX := Lib.hid hidx
        have hfz := own_frozen hown k
        obtain ⟨v0, hv0⟩ : ∃ v0, wr.cell? ⟨w.heap.size, k, none⟩ = some v0 := ⟨_, own_cell hown k (by rw [List.length_append, kOut_length, HKL.out]; simp; omega)⟩
        have hpl : xs.idxOf x ≤ k := by
          by_cases hm : x ∈ xs.take k
          · have := (hidx.1 hm).2; omega
          · have := hidx.2 hm; omega
        have hcp := own_cell hown (xs.idxOf x) (by rw [List.length_append, kOut_length, HKL.out]; simp; omega)
        obtain ⟨p, hp⟩ : ∃ p, p = xs.idxOf x := ⟨_, rfl⟩
        rw [← hp] at hpl hcp
        have HP := Lib.hid hp
        obtain ⟨z, hz⟩ : ∃ z, z = (kOut (xs.take k) ++ List.replicate (n - k) 0).getD p 0 := ⟨_, rfl⟩
        rw [← hz] at hcp
        have HZ := Lib.hid hz
        clear hx hrd hmem hidx hown hp hz
        by_cases hm : x ∈ xs.take k
        · have hpk : p < k := by have := HIDX.out.1 hm; rw [HP.out]; exact this.2
          obtain ⟨hst, hgs⟩ := own_stored HO.out (by rw [List.length_append, kOut_length, HKL.out]; simp; omega) k z
          have HST := Lib.hid hst
          clear hst hgs
          have HMK := Lib.hid hm
          clear hm
          go_wp2_with fail
          rw [HN.out]
          refine (slicesIndex_any _ _ _ _ _ HRD.out (by have := HN.out; omega) HMEM.out).mono ?_
          rintro e w' ⟨rfl, rfl⟩
          rw [← HN.out, ← HP.out]
          go_wp2
          go_roundw
          case rel =>
            refine ⟨k + 1, by omega, by go_num, ?_, ?_, hbel.setCell (Nat.le_refl _) _⟩
            · have hmk := HMK.out
              rw [HXK.out] at hmk
              rw [HM.out, take_snoc xs k (by have := HN.out; omega), (kOut_mem hmk).2]
            · have hmk := HMK.out
              rw [HXK.out] at hmk
              have h1 := HST.out
              have h2 := HS1.out hmk
              rw [← HN.out, ← HXK.out, ← HP.out, ← HZ.out] at h2
              rw [h2] at h1
              exact h1
          case measure => simp [intOf]; omega
        · have hpk : p = k := by rw [HP.out]; exact HIDX.out.2 hm
          obtain ⟨hst, hgs⟩ := own_stored HO.out (by rw [List.length_append, kOut_length, HKL.out]; simp; omega) k m
          have HST := Lib.hid hst
          clear hst hgs
          have HMK := Lib.hid hm
          have HPK := Lib.hid hpk
          clear hm hpk hcp
          go_wp2_with fail
          rw [HN.out]
          refine (slicesIndex_any _ _ _ _ _ HRD.out (by have := HN.out; omega) HMEM.out).mono ?_
          rintro e w' ⟨rfl, rfl⟩
          rw [← HN.out, ← HP.out, HPK.out]
          go_wp2
          go_roundw
          case rel =>
            refine ⟨k + 1, by omega, by go_num, ?_, ?_, hbel.setCell (Nat.le_refl _) _⟩
            · have hmk := HMK.out
              rw [HXK.out] at hmk
              rw [take_snoc xs k (by have := HN.out; omega), (kOut_new hmk).2, HM.out]
            · have hmk := HMK.out
              rw [HXK.out] at hmk
              have h1 := HST.out
              have h2 := HS2.out hmk
              rw [← HN.out, ← HM.out] at h2
              rw [h2] at h1
              exact h1
          case measure => simp [intOf]; omega
    · have hkn : k = n := by omega
      subst hkn
      go_wp2
      go_ret
      rw [Nat.sub_self, List.replicate_zero, List.append_nil, HN.out, List.take_length, ← HN.out] at hown
      exact ⟨_, rfl, hown, hbel⟩

theorem kernel_v (v : Value) (xs : List Int) (w : World) (hv : RdV w v xs) (hl : xs.length ≤ 1000000) : Calls (cutP Tryd.prog) 25 #[v] w (FreshL w (kOut xs)) := by
  obtain ⟨ao, ca, rfl, h, _, _⟩ := hv
  exact kernel_any ao ca xs w h hl

def partKernel (xs : List Int) : List Int × Bool := if 1 ≤ xs.length ∧ xs.length ≤ 8 then (kOut xs, true) else ([], false)

theorem own_nil (w : World) (B : Nat) : Own w B (.slice none 0 0) [] := World.ownsRow_nil _ _ _ _

theorem countFits_yes (n : Int) (w : World) (h1 : 1 ≤ n) (h2 : n ≤ 8) : Calls (cutP Tryd.prog) 24 #[.int .i64 n] w fun e w' => e = .returned (.bool true) ∧ w = w' :=
  (countFits_any n w).mono fun _ _ ⟨he, hw⟩ => ⟨by rw [he]; simp [h1, h2], hw⟩
theorem countFits_no (n : Int) (w : World) (h : n < 1 ∨ 8 < n) : Calls (cutP Tryd.prog) 24 #[.int .i64 n] w fun e w' => e = .returned (.bool false) ∧ w = w' :=
  (countFits_any n w).mono fun _ _ ⟨he, hw⟩ => ⟨by rw [he, decide_eq_false (by omega)], hw⟩

theorem iPartKernel_v (v : Value) (xs : List Int) (w : World) (hv : RdV w v xs) : Calls (cutP Tryd.prog) 10 #[v] w (FreshLB w (partKernel xs)) := by
  have hv0 := hv
  obtain ⟨ao, ca, rfl, h, h1, h2⟩ := hv
  unfold maxLen at h2
  have HV := Lib.hid hv0
  clear hv0
  by_cases hp : 1 ≤ xs.length ∧ xs.length ≤ 8
  · have hr : partKernel xs = (kOut xs, true) := by simp [partKernel, hp]
    rw [hr]
    clear hr
    obtain ⟨hp1, hp8⟩ := hp
    go_enter Trydp.func10, Trydp.ntmps10
    go_wp2_with fail
    refine (countFits_yes _ _ (by omega) (by omega)).mono ?_
    rintro e w' ⟨rfl, rfl⟩
    go_wp2_with fail
    refine (kernel_v _ _ _ HV.out (by omega)).mono ?_
    rintro e w1 ⟨u, rfl, ho, hb⟩
    go_wp2
    go_ret2
    exact ⟨_, rfl, ho, hb⟩
  · have hr : partKernel xs = ([], false) := by simp [partKernel, hp]
    rw [hr]
    clear hr
    go_enter Trydp.func10, Trydp.ntmps10
    go_wp2_with fail
    refine (countFits_no _ _ (by omega)).mono ?_
    rintro e w' ⟨rfl, rfl⟩
    go_wp2
    go_ret2
    exact ⟨_, rfl, own_nil _ _, Below.refl _ _⟩
end

section
open Go.RowKit

theorem wp_cat {w : World} {o : Oper} {a : Act} {K : Act → World → Prop} {Q : Exit → Act → World → Prop} (s x : Operand)
    (ho : o.op = .call { callee := .builtin .append, args := #[s, x], argTypes := #[26, 26] })
    (B g n cap : Nat) (xs : List Int) (hs : a.eval s = .slice (some ⟨g, 0, none⟩) n cap) (hown : Own w B (.slice (some ⟨g, 0, none⟩) n cap) xs) (hn : n = xs.length)
    (ad : Addr) (m c : Nat) (hx : a.eval x = .slice (some ad) m c) (ys : List Int) (hm : m = ys.length) (hc : ∀ j, j < ys.length → w.cell? (ad.add j) = some (.int .i64 (ys.getD j 0))) (hl : n + m ≤ 1000000000) (hB : B ≤ w.heap.size) (r : Nat) (hr : n + m = r)
    (h : ∀ g' cap' w', Own w' B (.slice (some ⟨g', 0, none⟩) r cap') (xs ++ ys) → w.grownBy w' (some g) → (g' = g ∨ g' = w.heap.size) → K (a.put o.dst (.slice (some ⟨g', 0, none⟩) r cap')) w') :
    o.wp (cutP Tryd.prog) a w K Q := by
  obtain ⟨i0, hi, hz0, hz1, hz2⟩ := info_parts Tryd.infoInt
  subst hr
  subst hn
  subst hm
  have hnews : ∀ j u, (ys.map (Value.int .i64))[j]? = some u → w.cell? (ad.add j) = some u := by
    intro j u hj
    have hjl : j < ys.length := by have := (List.getElem?_eq_some_iff.1 hj).1; simpa using this
    rw [getD_map_int ys j hjl] at hj
    rw [hc j hjl, hj]
  obtain ⟨v', w', hru, ho', hg', hnil, hb'⟩ := run_append_own_at (P := (cutP Tryd.prog)) w B 26 o.type 3 i0 (.int .i64 0) 1 8 Trydp.underlying26 hi hz0 hz1 hz2 rfl (by decide) _ xs.length (xs.map (Value.int .i64)) hown ad ys.length c (ys.map (Value.int .i64)) (by simp) hnews (ints_oneCell _ _) (by unfold maxLen; omega) (by omega) hB
  unfold Oper.wp execOp
  simp only [ho, resolve, invoke, builtin, Sem.run_bind, Sem.run_pure, Result.andThen_ok, List.map_toArray, List.map_cons, List.map_nil, hs, hx, hru]
  have hown' : Own w' B v' (xs ++ ys) := by
    unfold Own
    simpa using ho'
  rcases own_view hown' with ⟨rfl, h2⟩ | ⟨g', cap', rfl, _⟩
  · simp at hnil
  · simp only [List.length_append] at hown' ⊢
    refine h g' cap' w' hown' hg' ?_
    simpa [Value.ownBlock] using hb'

theorem wpList_cat {w : World} {ops : Array Oper} {rest : List Oper} {o : Oper} {a : Act} {Q : Exit → Act → World → Prop} (hgd : o.guard = none) (s x : Operand)
    (ho : o.op = .call { callee := .builtin .append, args := #[s, x], argTypes := #[26, 26] })
    (B g n cap : Nat) (xs : List Int) (hs : a.eval s = .slice (some ⟨g, 0, none⟩) n cap) (hown : Own w B (.slice (some ⟨g, 0, none⟩) n cap) xs) (hn : n = xs.length)
    (ad : Addr) (m c : Nat) (hx : a.eval x = .slice (some ad) m c) (ys : List Int) (hm : m = ys.length) (hc : ∀ j, j < ys.length → w.cell? (ad.add j) = some (.int .i64 (ys.getD j 0))) (hl : n + m ≤ 1000000000) (hB : B ≤ w.heap.size) (r : Nat) (hr : n + m = r)
    (h : ∀ g' cap' w', Own w' B (.slice (some ⟨g', 0, none⟩) r cap') (xs ++ ys) → w.grownBy w' (some g) → (g' = g ∨ g' = w.heap.size) → wpList (cutP Tryd.prog) ops Q rest (a.put o.dst (.slice (some ⟨g', 0, none⟩) r cap')) w') :
    wpList (cutP Tryd.prog) ops Q (o :: rest) a w :=
  wpList_plain hgd fun _ hK => wp_cat s x ho B g n cap xs hs hown hn ad m c hx ys hm hc hl hB r hr fun g' cap' w' h1 h2 h3 => hK _ _ (h g' cap' w' h1 h2 h3)

theorem cells_alloc {w : World} {b off : Nat} {xs : List Int} (o : Obj) (h : ∀ j, j < xs.length → w.cell? ⟨b, off + j, none⟩ = some (.int .i64 (xs.getD j 0))) : ∀ j, j < xs.length → (w.alloc o).cell? ((⟨b, off, none⟩ : Addr).add j) = some (.int .i64 (xs.getD j 0)) := by
  intro j hj
  rw [Addr.add_lit, World.cell?_alloc_past _ _ _ (World.block_lt_of_cell? w _ (h j hj))]
  exact h j hj

theorem slicesClone_any (b off ca : Nat) (xs : List Int) (w : World) (hl : xs.length ≤ 1000000) (hc : ∀ j, j < xs.length → w.cell? ⟨b, off + j, none⟩ = some (.int .i64 (xs.getD j 0))) :
    Calls (cutP Tryd.prog) 56 #[.slice (some ⟨b, off, none⟩) xs.length ca] w fun e w' => ∃ g cap, e = .returned (.slice (some ⟨g, 0, none⟩) xs.length cap) ∧ Own w' w.heap.size (.slice (some ⟨g, 0, none⟩) xs.length cap) xs ∧ Below w.heap.size w w' := by
  have HC := Lib.hid hc
  clear hc
  go_enter Trydp.func56, Trydp.ntmps56
  have hn := fun (w : World) => Lib.run_eql_slice_nil (P := (cutP Tryd.prog)) w 26 3 (some ⟨b, off, none⟩) xs.length ca 0 0 Trydp.underlying26
  go_wp2_with (at_builtin; refine wpList_cat rfl _ _ rfl w.heap.size w.heap.size 0 0 [] rfl (own_empty w _ (Nat.le_refl _)) rfl ⟨b, off, none⟩ _ _ rfl xs rfl (cells_alloc _ HC.out) (by omega) (by simp) xs.length (by omega) ?_)
  intro g' cap' w2 hown2 hgr2 hg2
  have hbel2 : Below w.heap.size w w2 := ((Below.refl _ _).alloc (Nat.le_refl _) _).grown hgr2 (by simp) (fun q hq => by cases hq; exact Nat.le_refl _)
  have HO2 := Lib.hid hown2
  clear hown2 hgr2 hg2
  go_wp2
  go_ret
  exact ⟨g', cap', rfl, HO2.out, hbel2⟩
end

section
open Go.RowKit

theorem or_fact : ∀ b, b < 256 → ∀ t, t < 8 → bits BinOp.or IntKind.u64 ((b : Nat) : Int) (IntKind.u64.wrap (2 ^ (t : Nat))) = ((b ||| 2 ^ t : Nat) : Int) := by decide +kernel
theorem with_any (b t : Nat) (w : World) (hb : b < 256) (ht : t < 8) : Calls (cutP Tryd.prog) 33 #[.int .u64 b, .int .i64 t] w fun e w' => e = .returned (.int .u64 ((b ||| 2 ^ t : Nat) : Int)) ∧ w = w' := by
  have h := Lib.hid (or_fact b hb t ht)
  go_enter Trydp.func33, Trydp.ntmps33
  go_wp2
  go_ret
  exact ⟨ret_int h.out, rfl⟩
end

section
open Go.RowKit

def apart (a b : Value) : Prop := a.ownBlock = none ∨ a.ownBlock ≠ b.ownBlock

def RdM (w : World) (v : Value) (xss : List (List Int)) : Prop :=
  ∃ ao cap, ∃ vs : List Value, vs.length = xss.length ∧ v = .slice ao xss.length cap ∧ xss.length ≤ cap ∧ cap ≤ maxLen ∧
    (xss = [] ∨ ∃ b off, ao = some ⟨b, off, none⟩ ∧ ∀ i, i < xss.length → w.cell? ⟨b, off + i, none⟩ = some (vs.getD i undef)) ∧
    ∀ i, i < xss.length → RdV w (vs.getD i undef) (xss.getD i [])

def OwnM (w : World) (B S : Nat) (v : Value) (xss : List (List Int)) : Prop :=
  ∃ vs : List Value, vs.length = xss.length ∧ w.ownsRow B 26 1 v xss.length vs ∧ InB v B S ∧
    (∀ i, i < xss.length → Own w B (vs.getD i undef) (xss.getD i []) ∧ InB (vs.getD i undef) B S) ∧
    (∀ i j, i < j → j < xss.length → apart (vs.getD i undef) (vs.getD j undef))

structure Touch (w w' : World) (B S : Nat) : Prop where
  os : w'.os = w.os
  tape : w'.tape = w.tape
  output : w'.output = w.output
  size : w'.heap.size = w.heap.size
  block : ∀ k, (k < B ∨ S ≤ k) → w'.heap[k]? = w.heap[k]?

theorem Touch.refl (w : World) (B S : Nat) : Touch w w B S := ⟨rfl, rfl, rfl, rfl, fun _ _ => rfl⟩
theorem Touch.trans {a b c : World} {B S : Nat} (h : Touch a b B S) (k : Touch b c B S) : Touch a c B S :=
  ⟨k.os.trans h.os, k.tape.trans h.tape, k.output.trans h.output, k.size.trans h.size, fun i hi => (k.block i hi).trans (h.block i hi)⟩

theorem ownM_parts {w : World} {B S : Nat} {v : Value} {xss : List (List Int)} (h : OwnM w B S v xss) :
    ∃ vs : List Value, vs.length = xss.length ∧ ((v = .slice none 0 0 ∧ xss = []) ∨ ∃ g cap, v = .slice (some ⟨g, 0, none⟩) xss.length cap ∧ B ≤ g ∧ g < S ∧ g < w.heap.size ∧ xss.length ≤ cap ∧ cap ≤ maxLen ∧
      (∀ j, j < xss.length → w.cell? ⟨g, j, none⟩ = some (vs.getD j undef)) ∧ (∀ j, w.frozen? ⟨g, j, none⟩ = false)) ∧
      (∀ i, i < xss.length → Own w B (vs.getD i undef) (xss.getD i []) ∧ InB (vs.getD i undef) B S) ∧ (∀ i j, i < j → j < xss.length → apart (vs.getD i undef) (vs.getD j undef)) := by
  obtain ⟨vs, hl, ho, hin, hr, ha⟩ := h
  refine ⟨vs, hl, ?_, hr, ha⟩
  have h0 := ho
  rcases ho.2 with ⟨hv, hn⟩ | ⟨g, cap, cur, hv, hb, hg, hnc, hcm, hcs, htk⟩
  · exact .inl ⟨hv, List.eq_nil_of_length_eq_zero hn⟩
  · subst hv
    refine .inr ⟨g, cap, rfl, hb, (hin g rfl).2, (Array.getElem?_eq_some_iff.1 hg).1, hnc, hcm, ?_, fun j => World.ownsRow.frozenAt h0 j⟩
    intro j hj
    rw [World.ownsRow.cellAt h0 j (by omega)]
    simp [List.getD, hl, hj]

theorem ownM_rdM {w : World} {B S : Nat} {v : Value} {xss : List (List Int)} (h : OwnM w B S v xss) : RdM w v xss := by
  obtain ⟨vs, hl, hv, hr, _⟩ := ownM_parts h
  rcases hv with ⟨rfl, rfl⟩ | ⟨g, cap, rfl, hb, hs, hg, hnc, hcm, hc, _⟩
  · exact ⟨none, 0, vs, hl, rfl, Nat.le_refl _, Nat.zero_le _, .inl rfl, fun i hi => by simp at hi⟩
  · exact ⟨_, cap, vs, hl, rfl, hnc, hcm, .inr ⟨g, 0, rfl, fun j hj => by rw [Nat.zero_add]; exact hc j hj⟩, fun i hi => own_rdv (hr i hi).1⟩

theorem rdM_below {w w' : World} {v : Value} {xss : List (List Int)} (h : RdM w v xss) (hb : Below w.heap.size w w') : RdM w' v xss := by
  obtain ⟨ao, cap, vs, hl, h1, h2, h3, h4, h5⟩ := h
  refine ⟨ao, cap, vs, hl, h1, h2, h3, ?_, fun i hi => rdv_below (h5 i hi) hb⟩
  rcases h4 with h4 | ⟨b, off, ha, hc⟩
  · exact .inl h4
  · exact .inr ⟨b, off, ha, fun i hi => by rw [hb.cell (World.block_lt_of_cell? w _ (hc i hi))]; exact hc i hi⟩

theorem ownM_keep {w w' : World} {B S : Nat} {v : Value} {xss : List (List Int)} (h : OwnM w B S v xss) (hb : ∀ k, B ≤ k → k < S → k < w.heap.size → w'.heap[k]? = w.heap[k]?) : OwnM w' B S v xss := by
  obtain ⟨vs, hl, ho, hin, hr, ha⟩ := h
  have key : ∀ {e : TypeId} {u : Value} {n : Nat} {cs : List Value}, w.ownsRow B e 1 u n cs → InB u B S → w'.ownsRow B e 1 u n cs := by
    intro e u n cs ho hi
    refine ⟨ho.1, ?_⟩
    rcases ho.2 with h2 | ⟨g, cap, cur, rfl, hb', hg, rest⟩
    · exact .inl h2
    · have := hi g rfl
      exact .inr ⟨g, cap, cur, rfl, hb', by rw [hb g this.1 this.2 (Array.getElem?_eq_some_iff.1 hg).1]; exact hg, rest⟩
  exact ⟨vs, hl, key ho hin, hin, fun i hi => ⟨key (hr i hi).1 (hr i hi).2, (hr i hi).2⟩, ha⟩

theorem ownM_below {w w' : World} {B S : Nat} {v : Value} {xss : List (List Int)} (h : OwnM w B S v xss) (hb : Below w.heap.size w w') : OwnM w' B S v xss :=
  ownM_keep h fun k _ _ hk => hb.block k hk

theorem inB_mono {v : Value} {B B' S S' : Nat} (h : InB v B S) (h1 : B' ≤ B) (h2 : S ≤ S') : InB v B' S' := fun k hk => by have := h k hk; omega

theorem ownM_mono {w : World} {B B' S S' : Nat} {v : Value} {xss : List (List Int)} (h : OwnM w B S v xss) (hB : B' ≤ B) (hS : S ≤ S') : OwnM w B' S' v xss := by
  obtain ⟨vs, hl, ho, hin, hr, ha⟩ := h
  refine ⟨vs, hl, ⟨ho.1, ?_⟩, inB_mono hin hB hS, fun i hi => ⟨own_mono (hr i hi).1 hB, inB_mono (hr i hi).2 hB hS⟩, ha⟩
  rcases ho.2 with h2 | ⟨g, cap, cur, hv, hb, r⟩
  · exact .inl h2
  · exact .inr ⟨g, cap, cur, hv, by omega, r⟩

theorem ownM_nil (w : World) (B S : Nat) : OwnM w B S (.slice none 0 0) [] :=
  ⟨[], rfl, World.ownsRow_nil _ _ _ _, fun k hk => by simp [Value.ownBlock] at hk, fun i hi => by simp at hi, fun i j _ hj => by simp at hj⟩

theorem ownM_empty (w : World) (B : Nat) (hB : B ≤ w.heap.size) : OwnM (w.alloc (.cells #[] 26)) B (w.heap.size + 1) (.slice (some ⟨w.heap.size, 0, none⟩) 0 0) [] :=
  ⟨[], rfl, World.ownsRow_made w #[] 0 hB (Nat.zero_le _) rfl, fun k hk => by simp [Value.ownBlock] at hk; omega, fun i hi => by simp at hi, fun i j _ hj => by simp at hj⟩

def FreshM (w : World) (r : List (List Int)) (e : Ending) (w' : World) : Prop :=
  ∃ v, e = .returned v ∧ OwnM w' w.heap.size w'.heap.size v r ∧ Below w.heap.size w w'

def FreshMB (w : World) (r : List (List Int) × Bool) (e : Ending) (w' : World) : Prop :=
  ∃ v, e = .returned (.tuple #[v, .bool r.2]) ∧ OwnM w' w.heap.size w'.heap.size v r.1 ∧ Below w.heap.size w w'

theorem Tryd.infoInts : ((cutP Tryd.prog).info? 26).map (fun i => (i.zero, i.size, i.bytes)) = some (some (.slice none 0 0), 1, 24) := by kernel_rfl

theorem getD_snocV_lt {α : Type} (l : List α) (x d : α) (j : Nat) (h : j < l.length) : (l ++ [x]).getD j d = l.getD j d := by
  simp [List.getD, List.getElem?_append_left h]
theorem getD_snocV_eq {α : Type} (l : List α) (x d : α) : (l ++ [x]).getD l.length d = x := by simp [List.getD]

theorem ownM_frozen {w : World} {B S g n cap : Nat} {xss : List (List Int)} (h : OwnM w B S (.slice (some ⟨g, 0, none⟩) n cap) xss) (j : Nat) : w.frozen? ⟨g, j, none⟩ = false := by
  obtain ⟨vs, _, hv, _, _⟩ := ownM_parts h
  rcases hv with ⟨h1, _⟩ | ⟨g', cap', h1, _, _, _, _, _, _, hf⟩
  · cases h1
  · simp only [Value.slice.injEq, Option.some.injEq, Addr.mk.injEq, and_true, true_and] at h1
    obtain ⟨rfl, _⟩ := h1
    exact hf j

theorem ownM_cell {w : World} {B S g n cap : Nat} {xss : List (List Int)} (h : OwnM w B S (.slice (some ⟨g, 0, none⟩) n cap) xss) (j : Nat) (hj : j < xss.length) :
    ∃ u, w.cell? ⟨g, j, none⟩ = some u ∧ Own w B u (xss.getD j []) ∧ InB u B S := by
  obtain ⟨vs, _, hv, hr, _⟩ := ownM_parts h
  rcases hv with ⟨h1, _⟩ | ⟨g', cap', h1, _, _, _, _, _, hc, _⟩
  · cases h1
  · simp only [Value.slice.injEq, Option.some.injEq, Addr.mk.injEq, and_true, true_and] at h1
    obtain ⟨rfl, _⟩ := h1
    exact ⟨_, hc j hj, hr j hj⟩
end

section
open Go.RowKit

theorem l1Size_v (v : Value) (xs : List Int) (w : World) (hv : RdV w v xs) (hs : Small xs) : Calls (cutP Tryd.prog) 59 #[v] w fun e w' => e = .returned (.int .i64 (pSize xs)) ∧ w = w' := by
  obtain ⟨ao, ca, rfl, h, h1, h2⟩ := hv
  unfold maxLen at h2
  exact l1Size_any ao ca xs w h (by omega) hs
end

theorem partIn_ok {xs : List Int} (h : partIn xs = true) : okFrom 0 xs = true := by
  simp only [partIn, Bool.and_eq_true] at h
  exact h.2

theorem mem_iff_getD {f : List Int} {x : Int} : x ∈ f ↔ ∃ j, j < f.length ∧ f.getD j 0 = x := by
  constructor
  · intro h
    exact ⟨f.idxOf x, List.idxOf_lt_length_of_mem h, getD_idxOf h⟩
  · rintro ⟨j, h, e⟩
    exact mem_of_getD h e

def endFrom : Int → List Int → Int
  | b, [] => b
  | b, x :: xs => endFrom (if x = b then b + 1 else b) xs

theorem okFrom_append : ∀ (f : List Int) (b x : Int), okFrom b (f ++ [x]) = (okFrom b f && (decide (0 ≤ x) && decide (x ≤ endFrom b f))) ∧ endFrom b (f ++ [x]) = if x = endFrom b f then endFrom b f + 1 else endFrom b f := by
  intro f
  induction f with
  | nil => intro b x; simp only [List.nil_append, okFrom, endFrom, Bool.and_true, Bool.true_and]; exact ⟨rfl, rfl⟩
  | cons y f ih =>
    intro b x
    have := ih (if y = b then b + 1 else b) x
    simp only [List.cons_append, okFrom, endFrom, this.1, this.2, Bool.and_assoc]
    exact ⟨rfl, rfl⟩

theorem okFrom_kOut : ∀ f : List Int, okFrom 0 (kOut f) = true ∧ endFrom 0 (kOut f) = kNext f := by
  refine snoc_induction ⟨rfl, rfl⟩ fun f x ih => ?_
  have hb := kNext_bd f
  by_cases h : x ∈ f
  · have hi := List.idxOf_lt_length_of_mem h
    have hr := (kOut_inv f).1 _ hi
    have := okFrom_append (kOut f) 0 ((kOut f).getD (f.idxOf x) 0)
    rw [(kOut_mem h).1, (kOut_mem h).2, this.1, this.2, ih.1, ih.2, if_neg (by omega)]
    refine ⟨?_, rfl⟩
    simp only [Bool.and_eq_true, decide_eq_true_eq]
    exact ⟨trivial, by omega, by omega⟩
  · have := okFrom_append (kOut f) 0 (kNext f)
    rw [(kOut_new h).1, (kOut_new h).2, this.1, this.2, ih.1, ih.2, if_pos rfl]
    refine ⟨?_, rfl⟩
    simp only [Bool.and_eq_true, decide_eq_true_eq]
    exact ⟨trivial, by omega, by omega⟩

theorem partIn_kOut {f : List Int} (h1 : 1 ≤ f.length) (h2 : f.length ≤ 8) : partIn (kOut f) = true := by
  simp only [partIn, Bool.and_eq_true, decide_eq_true_eq, kOut_length]
  exact ⟨⟨h1, h2⟩, (okFrom_kOut f).1⟩

theorem sizeFrom_append : ∀ (f : List Int) (n x : Int), sizeFrom n (f ++ [x]) = max (sizeFrom n f) (x + 1) := by
  intro f
  induction f with
  | nil => intro n x; simp [sizeFrom]
  | cons y f ih => intro n x; simp only [List.cons_append, sizeFrom]; exact ih _ _

def dif (a b : List Int) (i k : Nat) : Nat := if decide (a.getD i 0 = a.getD k 0) = decide (b.getD i 0 = b.getD k 0) then 0 else 1
def qRow (a b : List Int) (i : Nat) : Nat → Nat
  | 0 => 0
  | k + 1 => qRow a b i k + dif a b i k
def quarTo (a b : List Int) : Nat → Nat
  | 0 => 0
  | i + 1 => quarTo a b i + qRow a b i i
def quar (a b : List Int) : Nat := quarTo a b a.length

theorem dif_le (a b : List Int) (i k : Nat) : dif a b i k ≤ 1 := by unfold dif; split <;> omega
theorem qRow_le (a b : List Int) (i k : Nat) : qRow a b i k ≤ k := by
  induction k with
  | zero => exact Nat.le_refl _
  | succ k ih => have := dif_le a b i k; unfold qRow; omega
theorem quarTo_le (a b : List Int) (n : Nat) : quarTo a b n ≤ n * n := by
  induction n with
  | zero => exact Nat.le_refl _
  | succ n ih =>
    have h1 := qRow_le a b n n
    have h2 : (n + 1) * (n + 1) = n * n + n + n + 1 := by rw [Nat.succ_mul, Nat.mul_succ]; omega
    unfold quarTo
    omega
def costOf (a : List Int) (vs : List (List Int)) : Nat := vs.foldr (fun v s => quar a v + s) 0
theorem costOf_append (a : List Int) (l m : List (List Int)) : costOf a (l ++ m) = costOf a l + costOf a m := by
  induction l with
  | nil => simp [costOf]
  | cons x l ih =>
    show quar a x + costOf a (l ++ m) = quar a x + costOf a l + costOf a m
    rw [ih, Nat.add_assoc]
theorem costOf_step (a : List Int) (l : List (List Int)) (k : Nat) (h : k < l.length) : costOf a (l.take (k + 1)) = costOf a (l.take k) + quar a (l.getD k []) := by
  rw [List.take_succ_eq_append_getElem h, costOf_append]
  simp [costOf, List.getD, h]
def pc (a : List Int) (vs : List (List Int)) (i k : Nat) : Nat := vs.foldr (fun v s => dif a v i k + s) 0
def pRow (a : List Int) (vs : List (List Int)) (i : Nat) : Nat → Nat
  | 0 => 0
  | k + 1 => pRow a vs i k + pc a vs i k
def pTo (a : List Int) (vs : List (List Int)) : Nat → Nat
  | 0 => 0
  | i + 1 => pTo a vs i + pRow a vs i i

theorem pRow_nil (a : List Int) (i k : Nat) : pRow a [] i k = 0 := by
  induction k with
  | zero => rfl
  | succ k ih => unfold pRow; rw [ih]; rfl
theorem pTo_nil (a : List Int) (n : Nat) : pTo a [] n = 0 := by
  induction n with
  | zero => rfl
  | succ n ih => unfold pTo; rw [ih, pRow_nil]
theorem pRow_cons (a v : List Int) (vs : List (List Int)) (i k : Nat) : pRow a (v :: vs) i k = qRow a v i k + pRow a vs i k := by
  induction k with
  | zero => rfl
  | succ k ih =>
    have : pc a (v :: vs) i k = dif a v i k + pc a vs i k := rfl
    unfold pRow qRow
    omega
theorem pTo_cons (a v : List Int) (vs : List (List Int)) (n : Nat) : pTo a (v :: vs) n = quarTo a v n + pTo a vs n := by
  induction n with
  | zero => rfl
  | succ n ih =>
    have := pRow_cons a v vs n n
    unfold pTo quarTo
    omega
theorem costOf_pairs (a : List Int) (vs : List (List Int)) : costOf a vs = pTo a vs a.length := by
  induction vs with
  | nil => rw [pTo_nil]; rfl
  | cons v vs ih =>
    rw [pTo_cons, ← ih]
    rfl

theorem cost_le {a c : List Int} {vs : List (List Int)} (hl : c.length = a.length) (h : ∀ i k, i < a.length → k < i → pc a vs i k ≤ pc c vs i k) : costOf a vs ≤ costOf c vs := by
  rw [costOf_pairs, costOf_pairs, hl]
  have hr : ∀ i, i < a.length → ∀ k, k ≤ i → pRow a vs i k ≤ pRow c vs i k := by
    intro i hi k
    induction k with
    | zero => intro _; exact Nat.le_refl _
    | succ k ih =>
      intro hk
      have h1 := ih (by omega)
      have h2 := h i k hi (by omega)
      unfold pRow
      omega
  have hq : ∀ n, n ≤ a.length → pTo a vs n ≤ pTo c vs n := by
    intro n
    induction n with
    | zero => intro _; exact Nat.le_refl _
    | succ n ih =>
      intro hn
      have h1 := ih (by omega)
      have h2 := hr n (by omega) n (Nat.le_refl _)
      unfold pTo
      omega
  exact hq _ (Nat.le_refl _)

def votes (vs : List (List Int)) (i k : Nat) : Nat := vs.foldr (fun v s => (if v.getD i 0 = v.getD k 0 then 1 else 0) + s) 0

theorem votes_le (vs : List (List Int)) (i k : Nat) : votes vs i k ≤ vs.length := by
  induction vs with
  | nil => exact Nat.le_refl _
  | cons v vs ih =>
    show (if v.getD i 0 = v.getD k 0 then 1 else 0) + votes vs i k ≤ vs.length + 1
    split <;> omega
theorem pc_votes (a : List Int) (vs : List (List Int)) (i k : Nat) : pc a vs i k = if a.getD i 0 = a.getD k 0 then vs.length - votes vs i k else votes vs i k := by
  induction vs with
  | nil => simp [pc, votes]
  | cons v vs ih =>
    have h0 := votes_le vs i k
    have h1 : pc a (v :: vs) i k = dif a v i k + pc a vs i k := rfl
    have h2 : votes (v :: vs) i k = (if v.getD i 0 = v.getD k 0 then 1 else 0) + votes vs i k := rfl
    have h3 : dif a v i k = if decide (a.getD i 0 = a.getD k 0) = decide (v.getD i 0 = v.getD k 0) then 0 else 1 := rfl
    rw [h1, h2, h3, ih, List.length_cons]
    by_cases ea : a.getD i 0 = a.getD k 0
    · rw [if_pos ea, if_pos ea, decide_eq_true ea]
      by_cases ev : v.getD i 0 = v.getD k 0
      · rw [if_pos ev, decide_eq_true ev, if_pos rfl]; omega
      · rw [if_neg ev, decide_eq_false ev, if_neg (by decide)]; omega
    · rw [if_neg ea, if_neg ea, decide_eq_false ea]
      by_cases ev : v.getD i 0 = v.getD k 0
      · rw [if_pos ev, decide_eq_true ev, if_neg (by decide)]
      · rw [if_neg ev, decide_eq_false ev, if_pos rfl]

theorem most_least {a c : List Int} {vs : List (List Int)} (hl : c.length = a.length) (h : ∀ i k, i < a.length → k < i → (a.getD i 0 = a.getD k 0 ↔ vs.length < 2 * votes vs i k)) : costOf a vs ≤ costOf c vs := by
  refine cost_le hl fun i k hi hk => ?_
  have h0 := votes_le vs i k
  have h1 := h i k hi hk
  rw [pc_votes, pc_votes]
  by_cases e : a.getD i 0 = a.getD k 0
  · rw [if_pos e]
    have := h1.1 e
    split <;> omega
  · rw [if_neg e]
    have : ¬ vs.length < 2 * votes vs i k := fun hh => e (h1.2 hh)
    split <;> omega

section
open Go.Conc Go.RowKit
open Go.ConcN (WgLive)

section
variable {Φ : Ph} {k : Nat}
theorem drawW : LetsDraw (DW Φ k) := fun _ => ⟨⟨_, rfl⟩, by simp⟩
theorem ownW (w : World) : RW Φ k w { w with drawn := w.drawn + 1 } := ⟨fun _ _ => rfl, id⟩

structure Lk (Φ : Ph) (k b off : Nat) (xs : List Int) (w : World) : Prop where
  rd : Φ.Rd k b
  at' : Nums w b off xs
theorem Lk.rely {b off : Nat} {xs : List Int} {w w₁ : World} (h : Lk Φ k b off xs w) (r : RW Φ k w w₁) : Lk Φ k b off xs w₁ := ⟨h.rd, fun j hj => (cell_eq (r.rd b h.rd)).trans (h.at' j hj)⟩
theorem Lk.at {b off : Nat} {xs : List Int} {w : World} (h : Lk Φ k b off xs w) (d : Nat) : Lk Φ k b off xs (w.at d) := ⟨h.rd, h.at'⟩

structure Lk2 (Φ : Ph) (k b off b' off' : Nat) (xs ys : List Int) (S : World → Prop) (w : World) : Prop where
  one : Lk Φ k b off xs w
  two : Lk Φ k b' off' ys w
  held : S w
  stays : ∀ w w₁, RW Φ k w w₁ → S w → S w₁
theorem Lk2.rely {b off b' off' : Nat} {xs ys : List Int} {S : World → Prop} {w w₁ : World} (h : Lk2 Φ k b off b' off' xs ys S w) (r : RW Φ k w w₁) : Lk2 Φ k b off b' off' xs ys S w₁ := ⟨h.one.rely r, h.two.rely r, h.stays _ _ r h.held, h.stays⟩

end

theorem eqb_events {P : Program} {t : TypeId} {x y : Bool} {w : World} (h : P.underlying t = some .bool) : (binOp .eql t (.bool x) (.bool y)).events P w #[] = #[] := by
  have h2 : (Op.equal t (.bool x) (.bool y)).events P w #[] = #[] := by
    have h3 : ∀ d, (Op.equalIn (d + 1) t (.bool x) (.bool y)).events P w #[] = #[] := fun d => by simp [Op.equalIn, go_sem, run_underlying h]
    exact h3 9999
  simp [binOp, go_sem, h2]
theorem bool_under : Tryd.prog.underlying 4 = some .bool := by kernel_rfl

section
variable {Φ : Ph} {k b off b' off' cap cap' : Nat} {xs ys : List Int}
set_option maxRecDepth 100000 in
theorem agree_w : ∃ m, ∀ (S : World → Prop) (b off b' off' cap cap' : Nat) (xs ys : List Int), ys.length = xs.length → ∀ (i j : Nat), i < xs.length → j < xs.length → ∀ w, Lk2 Φ k b off b' off' xs ys S w →
    CallsC Tryd.prog false (RW Φ k) (DW Φ k) 58 #[.slice (some ⟨b, off, none⟩) xs.length cap, .slice (some ⟨b', off', none⟩) ys.length cap', .int .i64 i, .int .i64 j] m w fun v w' => Lk2 Φ k b off b' off' xs ys S w' ∧ v = .bool ((xs.getD i 0 == xs.getD j 0) == (ys.getD i 0 == ys.getD j 0)) := by
  have T := termsW Φ k
  co_apply Exists.intro
  intro S b off b' off' cap cap' xs ys hl i j hi hj w₀ hF
  have hi' : i < ys.length := by omega
  have hj' : j < ys.length := by omega
  have zi : (0 : Int) ≤ i ∧ (i : Int) < xs.length := ⟨by omega, by omega⟩
  have zj : (0 : Int) ≤ j ∧ (j : Int) < xs.length := ⟨by omega, by omega⟩
  have yi : (0 : Int) ≤ i ∧ (i : Int) < ys.length := ⟨by omega, by omega⟩
  have yj : (0 : Int) ≤ j ∧ (j : Int) < ys.length := ⟨by omega, by omega⟩
  co_apply callsC_of_wpC Tryd.func58 (by rfl) rfl
  simp only [Tryd.ntmps58, List.size_toArray, List.length_cons, List.length_nil, Nat.reduceAdd, Nat.reduceSub, Array.replicate_succ, Array.replicate_zero, List.push_toArray, List.append_toArray, List.nil_append, List.cons_append]
  co_stmt T Lk2.rely hF (co_quiet T)
  co_apply wpC_seq T
  co_held T drawW ownW (Lk2 Φ k b off b' off' xs ys S) Lk2.rely hF
  co_take 0 T Lk2.rely hF hw (skip) (co_quiet T)
  co_take 1 T Lk2.rely hF hw (skip) (co_quiet T)
  co_take 2 T Lk2.rely hF hw (skip) (co_still T)
  co_take 3 T Lk2.rely hF hw (have hc := hw.one.at' i hi; have hr := hw.one.rd) (refine ⟨⟨_, rfl⟩, ?_⟩; co_evs (exact ⟨_, rfl, hr⟩))
  co_take 4 T Lk2.rely hF hw (skip) (co_quiet T)
  co_take 5 T Lk2.rely hF hw (skip) (co_quiet T)
  co_take 6 T Lk2.rely hF hw (skip) (co_still T)
  co_take 7 T Lk2.rely hF hw (have hc := hw.one.at' j hj; have hr := hw.one.rd) (refine ⟨⟨_, rfl⟩, ?_⟩; co_evs (exact ⟨_, rfl, hr⟩))
  co_take 8 T Lk2.rely hF hw (skip) (co_quiet T)
  co_take 9 T Lk2.rely hF hw (skip) (co_quiet T)
  co_take 10 T Lk2.rely hF hw (skip) (co_quiet T)
  co_take 11 T Lk2.rely hF hw (skip) (co_still T)
  co_take 12 T Lk2.rely hF hw (have hc := hw.two.at' i hi'; have hr := hw.two.rd) (refine ⟨⟨_, rfl⟩, ?_⟩; co_evs (exact ⟨_, rfl, hr⟩))
  co_take 13 T Lk2.rely hF hw (skip) (co_quiet T)
  co_take 14 T Lk2.rely hF hw (skip) (co_quiet T)
  co_take 15 T Lk2.rely hF hw (skip) (co_still T)
  co_take 16 T Lk2.rely hF hw (have hc := hw.two.at' j hj'; have hr := hw.two.rd) (refine ⟨⟨_, rfl⟩, ?_⟩; co_evs (exact ⟨_, rfl, hr⟩))
  co_take 17 T Lk2.rely hF hw (skip) (co_quiet T)
  co_take 18 T Lk2.rely hF hw (skip) (rw [listed_nil (by simp [go_sem, eqb_events bool_under])]; exact Terms.idle T _)
  co_take 19 T Lk2.rely hF hw (skip) (co_quiet T)
  co_done
  co_ctl T
  exact ⟨rfl, _, resultsC_tmp (by rfl) _, hF, by simp [List.getElem?_eq_getElem, hi, hj, hi', hj']⟩

theorem dif_b (xs ys : List Int) (i j : Nat) : ((xs.getD i 0 == xs.getD j 0) == (ys.getD i 0 == ys.getD j 0)) = decide (dif xs ys j i = 0) := by
  unfold dif
  generalize xs.getD i 0 = a
  generalize xs.getD j 0 = b
  generalize ys.getD i 0 = c
  generalize ys.getD j 0 = d
  by_cases h1 : a = b <;> by_cases h2 : c = d <;> first | (simp [h1, h2, eq_comm (a := b) (b := a), eq_comm (a := d) (b := c)]; done) | (rw [beq_false_of_ne h1, beq_false_of_ne h2]; simp [h1, h2, eq_comm (a := b) (b := a), eq_comm (a := d) (b := c)])

def OutI (Φ : Ph) (k b off b' off' cap cap' : Nat) (xs ys : List Int) (S : World → Prop) (a : Act) (w : World) : Prop :=
  ∃ (kk : Nat) (ci ki : Int) (v2 v3 v4 v6 v7 v8 v11 v12 v13 v14 v15 v16 v17 v18 v19 v20 v21 v22 v23 v24 v25 v26 v27 : Value), ci = (quarTo xs ys kk : Nat) ∧ ki = kk ∧ kk ≤ xs.length ∧ Lk2 Φ k b off b' off' xs ys S w ∧
    a = { tmps := #[.slice (some ⟨b, off, none⟩) xs.length cap, .slice (some ⟨b', off', none⟩) xs.length cap', v2, v3, v4, .int .i64 ci, v6, v7, v8, .int .i64 (xs.length : Nat), .int .i64 ki, v11, v12, v13, v14, v15, v16, v17, v18, v19, v20, v21, v22, v23, v24, v25, v26, v27], defers := [] }
def OutMu (xs : List Int) (a : Act) (_ : World) : Nat := match a.tmps.getD 10 undef with | .int _ j => xs.length - j.toNat | _ => 0
def InI (Φ : Ph) (k b off b' off' cap cap' : Nat) (xs ys : List Int) (S : World → Prop) (kk : Nat) (a : Act) (w : World) : Prop :=
  ∃ (jj : Nat) (ci ji : Int) (v2 v3 v4 v7 v8 v11 v12 v15 v16 v17 v18 v19 v20 v21 v22 v23 v24 v25 v26 v27 : Value), ci = (quarTo xs ys kk + qRow xs ys kk jj : Nat) ∧ ji = jj ∧ jj ≤ kk ∧ Lk2 Φ k b off b' off' xs ys S w ∧
    a = { tmps := #[.slice (some ⟨b, off, none⟩) xs.length cap, .slice (some ⟨b', off', none⟩) xs.length cap', v2, v3, v4, .int .i64 ci, .int .i64 kk, v7, v8, .int .i64 (xs.length : Nat), .int .i64 kk, v11, v12, .int .i64 kk, .int .i64 ji, v15, v16, v17, v18, v19, v20, v21, v22, v23, v24, v25, v26, v27], defers := [] }
def InMu (kk : Nat) (a : Act) (_ : World) : Nat := match a.tmps.getD 14 undef with | .int _ j => kk - j.toNat | _ => 0

set_option maxRecDepth 100000 in
set_option maxHeartbeats 4000000 in
theorem quarrel_w : ∃ m, ∀ (S : World → Prop) (b off b' off' cap cap' : Nat) (xs ys : List Int), 1 ≤ xs.length → xs.length ≤ 8 → ys.length = xs.length → ∀ w, Lk2 Φ k b off b' off' xs ys S w →
    CallsC Tryd.prog false (RW Φ k) (DW Φ k) 43 #[.slice (some ⟨b, off, none⟩) xs.length cap, .slice (some ⟨b', off', none⟩) xs.length cap'] m w fun v w' => Lk2 Φ k b off b' off' xs ys S w' ∧ v = .int .i64 (quar xs ys : Nat) := by
  have T := termsW Φ k
  obtain ⟨mA, hA'⟩ := agree_w (Φ := Φ) (k := k)
  co_apply Exists.intro
  intro S b off b' off' cap cap' xs ys hx h8 hl w₀ hF
  have hA := hA' S b off b' off' cap cap' xs ys hl
  rw [hl] at hA
  clear hl
  co_apply callsC_of_wpC Tryd.func43 (by rfl) rfl
  simp only [Tryd.ntmps43, List.size_toArray, List.length_cons, List.length_nil, Nat.reduceAdd, Nat.reduceSub, Array.replicate_succ, Array.replicate_zero, List.push_toArray, List.append_toArray, List.nil_append, List.cons_append]
  co_go T Lk2.rely hF (co_quiet T)
  co_apply wpC_loop T (OutI Φ k b off b' off' cap cap' xs ys S) (OutMu xs) _ 8
  · exact ⟨0, _, _, _, _, _, _, _, _, _, _, _, _, _, _, _, _, _, _, _, _, _, _, _, _, _, rfl, rfl, Nat.zero_le _, hF, rfl⟩
  · simp [OutMu]; omega
  · rintro a w ⟨kk, _, _, v2, v3, v4, v6, v7, v8, v11, v12, v13, v14, v15, v16, v17, v18, v19, v20, v21, v22, v23, v24, v25, v26, v27, rfl, rfl, hkk, hS, rfl⟩
    co_go T Lk2.rely hS (co_quiet T)
    co_split T (decide ((kk : Int) < (xs.length : Int)))
    · intro hlt
      have hlt' : kk < xs.length := by have := of_decide_eq_true hlt; omega
      co_go T Lk2.rely hS (co_quiet T)
      co_apply wpC_loop T (InI Φ k b off b' off' cap cap' xs ys S kk) (InMu kk) _ 8
      · exact ⟨0, _, _, _, _, _, _, _, _, _, _, _, _, _, _, _, _, _, _, _, _, _, _, by simp [qRow], rfl, Nat.zero_le _, hS, rfl⟩
      · simp [InMu]; omega
      · rintro a w ⟨jj, _, _, v2, v3, v4, v7, v8, v11, v12, v15, v16, v17, v18, v19, v20, v21, v22, v23, v24, v25, v26, v27, rfl, rfl, hjj, hS, rfl⟩
        have hm : quarTo xs ys kk + qRow xs ys kk jj ≤ 1000 := by
          have e3 := qRow_le xs ys kk jj
          have e4 := quarTo_le xs ys kk
          have e5 := Nat.mul_le_mul (show kk ≤ 8 by omega) (show kk ≤ 8 by omega)
          omega
        have e1 : IntKind.i64.wrap ((jj : Int) + 1) = ((jj + 1 : Nat) : Int) := by rw [IntKind.wrap_i64]; omega
        have e2 : IntKind.i64.wrap ((kk : Int) + 1) = ((kk + 1 : Nat) : Int) := by rw [IntKind.wrap_i64]; omega
        have e0 : IntKind.i64.wrap (((quarTo xs ys kk + qRow xs ys kk jj : Nat) : Int) + 1) = ((quarTo xs ys kk + qRow xs ys kk jj + 1 : Nat) : Int) := by rw [IntKind.wrap_i64]; omega
        co_go T Lk2.rely hS (co_quiet T)
        co_split T (decide ((jj : Int) < (kk : Int)))
        · intro hlt2
          have hlt2' : jj < kk := by have := of_decide_eq_true hlt2; omega
          co_go T Lk2.rely hS (co_quiet T)
          co_apply opsC_call (nf := mA) (Post := fun v w' => Lk2 Φ k b off b' off' xs ys S w' ∧ v = .bool (decide (dif xs ys kk jj = 0))) T rfl (by rfl) rfl
          · have hc := (hA jj kk (by omega) hlt' _ hS).mono (Post' := fun v w' => Lk2 Φ k b off b' off' xs ys S w' ∧ v = .bool (decide (dif xs ys kk jj = 0))) fun v w' h => ⟨h.1, h.2.trans (by rw [dif_b])⟩
            simpa [Act.eval] using hc
          clear hS
          rintro v w ⟨hS, rfl⟩
          walk_nrm
          co_go T Lk2.rely hS (co_quiet T)
          co_split T (!decide (dif xs ys kk jj = 0))
          · intro hb
            have hd1 : dif xs ys kk jj = 1 := by
              have := dif_le xs ys kk jj
              simp at hb
              omega
            clear hb
            co_go T Lk2.rely hS (co_quiet T)
            exact ⟨⟨jj + 1, _, _, _, _, _, _, _, _, _, _, _, _, _, _, _, _, _, _, _, _, _, _, by simp only [qRow, hd1]; (try rw [IntKind.wrap_i64]); omega, by simp, by omega, hS, rfl⟩, by simp [InMu]; omega⟩
          · intro hb
            have hd : dif xs ys kk jj = 0 := by simpa using hb
            clear hb
            co_go T Lk2.rely hS (co_quiet T)
            exact ⟨⟨jj + 1, _, _, _, _, _, _, _, _, _, _, _, _, _, _, _, _, _, _, _, _, _, _, by simp [qRow, hd], by simp, by omega, hS, rfl⟩, by simp [InMu]; omega⟩
        · intro hlt2
          obtain rfl : jj = kk := by have := of_decide_eq_false hlt2; omega
          co_go T Lk2.rely hS (co_quiet T)
          exact ⟨⟨jj + 1, _, _, _, _, _, _, _, _, _, _, _, _, _, _, _, _, _, _, _, _, _, _, _, _, _, by simp [quarTo], by simp, by omega, hS, rfl⟩, by simp [OutMu]; omega⟩
    · intro hlt
      obtain rfl : kk = xs.length := by have := of_decide_eq_false hlt; omega
      co_go T Lk2.rely hS (co_quiet T)
      exact ⟨rfl, _, resultsC_tmp (by rfl) _, hS, rfl⟩
end
end

section
open Go.Conc Go.RowKit
open Go.ConcN (WgLive)

structure Ck (Φ : Ph) (k bx pb po pn pcap number b off cap b' off' : Nat) (xs ys : List Int) (S : World → Prop) (w : World) : Prop where
  rbx : Φ.Rd k bx
  box : w.cell? ⟨bx, 0, none⟩ = some (.slice (some ⟨pb, po, none⟩) pn pcap)
  rpb : Φ.Rd k pb
  row : w.cell? ⟨pb, po + number, none⟩ = some (.slice (some ⟨b, off, none⟩) xs.length cap)
  one : Lk Φ k b off xs w
  two : Lk Φ k b' off' ys w
  held : S w
  stays : ∀ w w₁, RW Φ k w w₁ → S w → S w₁
theorem Ck.rely {Φ : Ph} {k bx pb po pn pcap number b off cap b' off' : Nat} {xs ys : List Int} {S : World → Prop} {w w₁ : World} (h : Ck Φ k bx pb po pn pcap number b off cap b' off' xs ys S w) (r : RW Φ k w w₁) : Ck Φ k bx pb po pn pcap number b off cap b' off' xs ys S w₁ :=
  ⟨h.rbx, (cell_eq (r.rd _ h.rbx)).trans h.box, h.rpb, (cell_eq (r.rd _ h.rpb)).trans h.row, h.one.rely r, h.two.rely r, h.stays _ _ r h.held, h.stays⟩

set_option maxRecDepth 100000 in
set_option maxHeartbeats 4000000 in
theorem askCosts {Φ : Ph} {k : Nat} : ∃ m, ∀ (S : World → Prop) (bx pb po pn pcap number b off cap b' off' cap' : Nat) (xs ys : List Int), 1 ≤ xs.length → xs.length ≤ 8 → ys.length = xs.length → number < pn → ∀ w, Ck Φ k bx pb po pn pcap number b off cap b' off' xs ys S w →
    CallsC Tryd.prog false (RW Φ k) (DW Φ k) 42 #[.slice (some ⟨b', off', none⟩) xs.length cap', .int .i64 number, .pointer (some ⟨bx, 0, none⟩)] m w fun v w' => S w' ∧ v = .int .i64 (quar xs ys : Nat) := by
  have T := termsW Φ k
  obtain ⟨mQ, hQ⟩ := quarrel_w (Φ := Φ) (k := k)
  co_apply Exists.intro
  intro S bx pb po pn pcap number b off cap b' off' cap' xs ys hx h8 hl hn w₀ hF
  have hQ' := hQ S b off b' off' cap cap' xs ys hx h8 hl
  clear hl
  co_apply callsC_of_wpC Tryd.func42 (by rfl) rfl
  simp only [Tryd.ntmps42, List.size_toArray, List.length_cons, List.length_nil, Nat.reduceAdd, Nat.reduceSub, Array.replicate_succ, Array.replicate_zero, List.push_toArray, List.append_toArray, List.nil_append, List.cons_append]
  have zn : (0 : Int) ≤ number ∧ (number : Int) < pn := ⟨by omega, by omega⟩
  co_go T Ck.rely hF (co_quiet T)
  co_opw Ck.rely hF (have hc := hF.box; have hr := hF.rbx) (refine ⟨⟨_, rfl⟩, ?_⟩; co_evs (exact ⟨_, rfl, hr⟩))
  co_go T Ck.rely hF (co_still T)
  co_opw Ck.rely hF (have hc := hF.row; have hr := hF.rpb) (refine ⟨⟨_, rfl⟩, ?_⟩; co_evs (exact ⟨_, rfl, hr⟩))
  co_go T Ck.rely hF (co_quiet T)
  co_apply opsC_call (nf := mQ) (Post := fun v w' => S w' ∧ v = .int .i64 (quar xs ys : Nat)) T rfl (by rfl) rfl
  · have hc := (hQ' _ ⟨hF.one, hF.two, hF.held, hF.stays⟩).mono (Post' := fun v w' => S w' ∧ v = .int .i64 (quar xs ys : Nat)) fun v w' h => ⟨h.1.held, h.2⟩
    simpa [Act.eval] using hc
  have hst := hF.stays
  rintro v w ⟨hE, rfl⟩
  clear hF
  walk_nrm
  co_go T (fun h r => hst _ _ r h) hE (co_quiet T)
  exact ⟨rfl, _, resultsC_tmp (by rfl) _, hE, rfl⟩
end

end Go.Proofs.YtfiaiephbemdoaaDoor
