/-
  What the laws of this claim lean on: what functions of the program and of the model answer, one after another, and plain mathematics. No condition.
-/
import Derived.Test.YtmflecemkodklaaGreatDoorMjA
import Derived.Test.YtmflecemkodklaaGreatDoorMjB
import Derived.Test.YtmflecemkodklaaGreatDoorMjC
import Derived.Maps.OwnSet
import Derived.DeepKeys4
import Derived.Laws.EntriesVeiled
import Derived.Deep.AppendLies
import Derived.Deep.RegionLaw
import Derived.Deep.RegionHeld3
import Derived.Maps.Range
import Derived.Maps.RangeWalk
import Derived.RangeFuncBox
import Derived.RangeFuncNested
import Derived.RangeFuncBound
import Derived.RangeFuncCalls
import Derived.RangeFuncLeaves
import Derived.Shelf.Abstract
import Derived.WalkKit
import Derived.OwnWalkIn
import Derived.TacticsInMore
import Derived.LoopNIn
import Derived.LoopIn
import Derived.Sort.LoopGhostIn
import Derived.Maps.AppendAt
import Derived.Lib.BufferWrite
import Derived.Deep.LoopGhost

set_option linter.unusedVariables false
set_option linter.unusedSimpArgs false
set_option linter.unnecessarySimpa false
set_option maxRecDepth 100000

namespace Go.Proofs.YtmflecemkodklaaGreatDoor

section
open Go.RowKit
open Go.ChangeMaps (setBlock heap_setBlock_same heap_setBlock_other)

theorem tri_laidOut : laidOutB Tryz.prog = true := by kernel_rfl
theorem tri_row : (237 : TypeId) < Tryz.prog.types.size := of_decide_eq_true (by kernel_rfl)
theorem tri_wide : (match Tryz.prog.underlying 237 with | some (.array _ _) | some (.struct _) => true | _ => false) = true := by rw [Tryz.underlying237]
theorem tri_law : Maps.Keyed Tryz.prog 237 := Maps.Keyed.of_law (deep_law_laid tri_laidOut (m := 2) (by omega) tri_row (by kernel_rfl) tri_wide)
theorem tri_deep : Tryz.prog.keyType 237 = true := by kernel_rfl
theorem tri_cells : Tryz.prog.cellsOf 237 = 2 := by kernel_rfl
theorem tri_cellsInt : Tryz.prog.cellsOf 3 = 1 := by kernel_rfl
theorem tri_types : ∃ q, Tryz.prog.types.size = q + 1 := ⟨Tryz.prog.types.size - 1, by kernel_rfl⟩

abbrev cellKey (n k : Int) : Value := .agg #[.int .i64 n, .int .i64 k]

theorem cell_wf {n : Int} (h1 : 0 ≤ n) (h2 : n ≤ 12) : (Lit.int .i64 n).wf = true := WalkArith.wf_i64 ⟨by omega, by omega⟩

theorem cell_reads_gen {P : Program} {t i : TypeId} {f0 f1 : Field} {q : Nat} {n k : Int} (hu : P.underlying t = some (.struct #[f0, f1])) (hi : P.underlying i = some (.int .i64)) (h0 : f0.type = i) (h1 : f1.type = i) (o0 : f0.offset = 0) (o1 : f1.offset = 1)
    (n0 : (f0.name != "_") = true) (n1 : (f1.name != "_") = true) (hk : P.keyType t = true) (hc : P.cellsOf t = 2) (hci : P.cellsOf i = 1) (hq : P.types.size = q + 1) (hn : (Lit.int .i64 n).wf = true) (hkk : (Lit.int .i64 k).wf = true) :
    ∃ l, keyOf P t (cellKey n k) = some l := by
  unfold keyOf
  rw [hu]
  have e0 : P.keyLits (q + 1) i [.int .i64 n] = some [.int .i64 n] := by
    unfold Program.keyLits
    rw [hi]
    simp [hn]
  have e1 : P.keyLits (q + 1) i [.int .i64 k] = some [.int .i64 k] := by
    unfold Program.keyLits
    rw [hi]
    simp [hkk]
  have e2 : P.keyLits (P.types.size + 1) t [.int .i64 n, .int .i64 k] = some [.int .i64 n, .int .i64 k] := by
    rw [hq]
    rw [Program.keyLits.eq_def]
    simp only [hu]
    simp [hc, n0, n1, h0, h1, o0, o1, hci, e0, e1]
  have hfm : Value.formed P t (.agg #[.int .i64 n, .int .i64 k]) = true := by
    unfold Value.formed
    simp [hu, hc]
  simp [hk, hfm, Value.cells, e2]

theorem cell_reads {n k : Int} (hn : 0 ≤ n ∧ n ≤ 12) (hk : 0 ≤ k ∧ k ≤ 12) : ∃ l, keyOf Tryz.prog 237 (cellKey n k) = some l := by
  obtain ⟨q, hq⟩ := tri_types
  exact cell_reads_gen Tryz.underlying237 Tryz.underlying3 rfl rfl rfl rfl rfl rfl tri_deep tri_cells tri_cellsInt hq (cell_wf hn.1 hn.2) (cell_wf hk.1 hk.2)

def MapOk (w : World) (mb : Nat) (G : Int → Int → Int) (m : Nat) : Prop := ∃ es clock, w.heap[mb]? = some (.map es clock) ∧ es.size ≤ m ∧
  ∀ x ∈ es.toList, ∃ n k : Int, (0 ≤ n ∧ n ≤ 12) ∧ (0 ≤ k ∧ k ≤ 12) ∧ x.key = cellKey n k ∧ x.val = .int .i64 (G n k)

theorem mapOk_keys {es : Array MapEntry} {G : Int → Int → Int} (h : ∀ x ∈ es.toList, ∃ n k : Int, (0 ≤ n ∧ n ≤ 12) ∧ (0 ≤ k ∧ k ≤ 12) ∧ x.key = cellKey n k ∧ x.val = .int .i64 (G n k)) :
    ∀ x ∈ es.toList, ∃ l, keyOf Tryz.prog 237 x.key = some l := fun x hx => by
  obtain ⟨n, k, hn, hk, e, _⟩ := h x hx
  rw [e]
  exact cell_reads hn hk

theorem mapOk_mono {w : World} {mb : Nat} {G : Int → Int → Int} {m m' : Nat} (h : MapOk w mb G m) (hm : m ≤ m') : MapOk w mb G m' := by
  obtain ⟨es, clock, hb, hs, hk⟩ := h
  exact ⟨es, clock, hb, by omega, hk⟩

theorem tri_zero (w : World) : (zeroValue 3).run Tryz.prog w = .ok (.int .i64 0) w := by kernel_rfl

theorem map_look {w : World} {mb : Nat} {G : Int → Int → Int} {m : Nat} (h : MapOk w mb G m) {n k : Int} (hn : 0 ≤ n ∧ n ≤ 12) (hk : 0 ≤ k ∧ k ≤ 12) :
    ∃ c b, (Instr.lookup 211 (.map (some mb)) (cellKey n k) true).run Tryz.prog w = .ok (.tuple #[.int .i64 c, .bool b]) w ∧ (b = true → c = G n k) := by
  obtain ⟨es, clock, hb, hs, hes⟩ := h
  obtain ⟨l, hl⟩ := cell_reads hn hk
  have ht := Tryz.underlying211
  rcases tri_law.find w hl es.toList (mapOk_keys hes) with ⟨h1, h2⟩ | ⟨j, e0, h1, h2, h3⟩
  · exact ⟨0, false, by simp [Instr.lookup, run_underlying ht, MapKept.run_getObj_map hb, tri_law.check w _ hl, h1, tri_zero w, Result.andThen], fun h => by cases h⟩
  · obtain ⟨n', k', hn', hk', e1, e2⟩ := hes e0 (List.mem_of_getElem? h2)
    rw [h3] at e1
    simp at e1
    obtain ⟨rfl, rfl⟩ := e1
    exact ⟨G n k, true, by simp [Instr.lookup, run_underlying ht, MapKept.run_getObj_map hb, tri_law.check w _ hl, h1, Result.andThen, e2], fun _ => rfl⟩

theorem mem_modify {α : Type} {f : α → α} {x : α} : ∀ {l : List α} {j : Nat}, x ∈ l.modify j f → x ∈ l ∨ ∃ y, l[j]? = some y ∧ x = f y
  | [], j, h => by cases j <;> simp at h
  | a :: l, 0, h => by
    simp at h
    rcases h with rfl | h
    · exact .inr ⟨a, rfl, rfl⟩
    · exact .inl (by simp [h])
  | a :: l, j + 1, h => by
    simp at h
    rcases h with rfl | h
    · exact .inl (by simp)
    · rcases mem_modify h with h | ⟨y, h1, h2⟩
      · exact .inl (by simp [h])
      · exact .inr ⟨y, by simpa using h1, h2⟩

theorem map_put {w : World} {mb : Nat} {G : Int → Int → Int} {m : Nat} (h : MapOk w mb G m) {n k : Int} (hn : 0 ≤ n ∧ n ≤ 12) (hk : 0 ≤ k ∧ k ≤ 12) :
    ∃ w', (Instr.mapUpdate 211 (.map (some mb)) (cellKey n k) (.int .i64 (G n k))).run Tryz.prog w = .ok () w' ∧ MapOk w' mb G (m + 1) ∧ w.grownBy w' (some mb) := by
  obtain ⟨es, clock, hb, hs, hes⟩ := h
  obtain ⟨l, hl⟩ := cell_reads hn hk
  have ht := Tryz.underlying211
  have hgr : ∀ es' clock', w.grownBy (setBlock w mb (.map es' clock')) (some mb) := fun es' clock' =>
    ⟨rfl, rfl, rfl, by simp [setBlock], fun i _ hi => heap_setBlock_other hb _ (fun e => hi (by rw [e]))⟩
  rcases tri_law.find w hl es.toList (mapOk_keys hes) with ⟨h1, h2⟩ | ⟨j, e0, h1, h2, h3⟩
  · refine ⟨setBlock w mb (.map (es.push ⟨cellKey n k, .int .i64 (G n k), clock⟩) (clock + 1)), by simp [Instr.mapUpdate, run_underlying ht, MapKept.run_getObj_map hb, tri_law.check w false hl, h1, MapKept.run_setObj_map _ hb, Result.andThen, setBlock], ⟨_, _, heap_setBlock_same hb _, by simp; omega, ?_⟩, hgr _ _⟩
    intro x hx
    simp only [Array.toList_push, List.mem_append, List.mem_singleton] at hx
    rcases hx with hx | rfl
    · exact hes x hx
    · exact ⟨n, k, hn, hk, rfl, rfl⟩
  · have hj : es[j]? = some e0 := by simpa using h2
    refine ⟨setBlock w mb (.map (es.modify j (fun e' => { e' with key := cellKey n k, val := .int .i64 (G n k) })) clock), by simp [Instr.mapUpdate, run_underlying ht, MapKept.run_getObj_map hb, tri_law.check w false hl, h1, hj, h3, tri_law.stays w hl, MapKept.run_setObj_map _ hb, Result.andThen, setBlock], ⟨_, _, heap_setBlock_same hb _, by simp; omega, ?_⟩, hgr _ _⟩
    intro x hx
    rw [Array.toList_modify] at hx
    rcases mem_modify hx with hx | ⟨y, hy, rfl⟩
    · exact hes x hx
    · exact ⟨n, k, hn, hk, rfl, rfl⟩

theorem map_clear {w : World} {mb : Nat} {es : Array MapEntry} {clock : Nat} (hb : w.heap[mb]? = some (.map es clock)) (ty : TypeId) (G : Int → Int → Int) :
    ∃ w', (Builtin.clear_ #[211] ty #[.map (some mb)]).run Tryz.prog w = .ok (.tuple #[]) w' ∧ MapOk w' mb G 0 ∧ w.grownBy w' (some mb) := by
  have ht := Tryz.underlying211
  refine ⟨setBlock w mb (.map #[] clock), by simp [Builtin.clear_, run_underlying ht, MapKept.run_getObj_map hb, MapKept.run_setObj_map _ hb, Result.andThen, setBlock], ⟨_, _, heap_setBlock_same hb _, by simp, fun x hx => by simp at hx⟩, ⟨rfl, rfl, rfl, by simp [setBlock], fun i _ hi => heap_setBlock_other hb _ (fun e => hi (by rw [e]))⟩⟩

section
variable {P : Program} (w : World) {ops : Array Oper} {rest : List Oper} {o : Oper} {a : Act} {Q : Exit → Act → World → Prop}

end

def TriOk (w : World) (tb mb fid : Nat) (G : Int → Int → Int) (m : Nat) : Prop :=
  tb ≠ mb ∧ w.cell? ⟨tb, 0, none⟩ = some (.func (.func fid) #[] #[]) ∧ w.cell? ⟨tb, 1, none⟩ = some (.map (some mb)) ∧ MapOk w mb G m

theorem triOk_mono {w : World} {tb mb fid : Nat} {G : Int → Int → Int} {m m' : Nat} (h : TriOk w tb mb fid G m) (hm : m ≤ m') : TriOk w tb mb fid G m' := ⟨h.1, h.2.1, h.2.2.1, mapOk_mono h.2.2.2 hm⟩

theorem triOk_turn {w w' : World} {tb mb fid : Nat} {G : Int → Int → Int} {m m' : Nat} (h : TriOk w tb mb fid G m) (hg : w.grownBy w' (some mb)) (hm : MapOk w' mb G m') : TriOk w' tb mb fid G m' :=
  ⟨h.1, hg.cell h.2.1 (fun e => h.1 (by simpa using e)), hg.cell h.2.2.1 (fun e => h.1 (by simpa using e)), hm⟩

def TriLeft (w : World) (tb mb fid : Nat) (G : Int → Int → Int) (m : Nat) (r : Int) (e : Ending) (w' : World) : Prop :=
  e = .returned (.int .i64 r) ∧ TriOk w' tb mb fid G m ∧ w.grownBy w' (some mb)

def triMore (n : Int) : Nat := 3 ^ (n + 1).toNat

def AtOk (fid : Nat) (G : Int → Int → Int) (n : Int) : Prop := ∀ (tb mb m : Nat) (k : Int) (w : World), -20 ≤ k → k ≤ 20 → TriOk w tb mb fid G m → m + triMore n ≤ maxLen →
  Calls Tryz.prog 285 #[.pointer (some ⟨tb, 0, none⟩), .int .i64 n, .int .i64 k] w (TriLeft w tb mb fid G (m + triMore n) (G n k))

def RuleOk (fid : Nat) (G : Int → Int → Int) : Prop := ∀ (n k : Int), 1 ≤ n → n ≤ 12 → 0 ≤ k → k ≤ n → (∀ j, -1 ≤ j → j < n → AtOk fid G j) → ∀ (tb mb m : Nat) (w : World), TriOk w tb mb fid G m → m + 2 * triMore (n - 1) ≤ maxLen →
  Calls Tryz.prog fid #[.func (.func 285) #[.pointer (some ⟨tb, 0, none⟩)] #[], .int .i64 n, .int .i64 k] w (TriLeft w tb mb fid G (m + 2 * triMore (n - 1)) (G n k))

def RuleFn (fid : Nat) : Prop := ∀ (args : Array Value) (w : World), (callFunc fid args).run Tryz.prog w = .ok (.enter fid args) w

structure Numbers (G : Int → Int → Int) : Prop where
  out : ∀ n k, k < 0 ∨ n < k → G n k = 0
  top : G 0 0 = 1
  bd : ∀ n k, n ≤ 12 → 0 ≤ G n k ∧ G n k ≤ 1099511627776

theorem triMore_step {n : Int} (h : 0 ≤ n) : triMore n = 3 * triMore (n - 1) := by
  obtain ⟨p, rfl⟩ := Int.eq_ofNat_of_zero_le h
  unfold triMore
  rw [show ((p : Int) + 1).toNat = p + 1 from by omega, show ((p : Int) - 1 + 1).toNat = p from by omega, Nat.pow_succ]
  omega

theorem triMore_pos (n : Int) : 1 ≤ triMore n := Nat.pos_of_ne_zero (by unfold triMore; exact Nat.pos_iff_ne_zero.1 (Nat.pow_pos (by omega)))

set_option maxHeartbeats 1600000 in
theorem at_step (fid : Nat) (G : Int → Int → Int) (hG : Numbers G) (hF : RuleFn fid) (hR : RuleOk fid G) (n : Int) (hn1 : -1 ≤ n) (hn2 : n ≤ 12) (ih : ∀ j, -1 ≤ j → j < n → AtOk fid G j) : AtOk fid G n := by
  intro tb mb m k w hk1 hk2 hT hm
  unfold RuleFn at hF
  have hp := triMore_pos n
  have HT := Lib.hid hT
  obtain ⟨hne, hc0, hc1, hM⟩ := hT
  have hmf : ∀ (fn : Fn) (first cap : Array Value) (w : World), (Instr.makeFunc fn first cap).run Tryz.prog w = .ok (.func fn first cap) w := fun _ _ _ _ => rfl
  by_cases hout : k < 0 ∨ n < k
  · have h0 := Lib.hid (hG.out n k hout)
    rcases hout with hout | hout
    · clear hM hR ih hmf hF
      go_enter Tryz.func285, Tryz.ntmps285
      go_wp2
      go_ret
      exact ⟨ret_int h0.out.symm, triOk_mono HT.out (by omega), World.grownBy.refl _ _⟩
    · by_cases hk0 : k < 0
      · clear hM hR ih hmf hF
        go_enter Tryz.func285, Tryz.ntmps285
        go_wp2
        go_ret
        exact ⟨ret_int h0.out.symm, triOk_mono HT.out (by omega), World.grownBy.refl _ _⟩
      · clear hM hR ih hmf hF
        go_enter Tryz.func285, Tryz.ntmps285
        go_wp2
        go_ret
        exact ⟨ret_int h0.out.symm, triOk_mono HT.out (by omega), World.grownBy.refl _ _⟩
  · have hk0 : ¬ k < 0 := fun h => hout (.inl h)
    have hkn : ¬ n < k := fun h => hout (.inr h)
    by_cases hn0 : n = 0
    · have hk : k = 0 := by omega
      subst hn0
      subst hk
      have h0 := Lib.hid hG.top
      clear hM hR ih hmf hF
      go_enter Tryz.func285, Tryz.ntmps285
      go_wp2
      go_ret
      exact ⟨ret_int h0.out.symm, triOk_mono HT.out (by omega), World.grownBy.refl _ _⟩
    · have hst := triMore_step (n := n) (by omega)
      have hp1 := triMore_pos (n - 1)
      have HR := Lib.hid (hR n k (by omega) hn2 (by omega) (by omega) ih tb mb m w HT.out (by omega))
      have hbd := hG.bd n k hn2
      obtain ⟨g, hg⟩ : ∃ g, g = G n k := ⟨_, rfl⟩
      rw [← hg] at hbd HR ⊢
      have HG := Lib.hid hg
      have HM := Lib.hid hM
      have hz : (n == 0) = false := by simpa using hn0
      obtain ⟨q, hq⟩ : ∃ q, q = triMore (n - 1) := ⟨_, rfl⟩
      rw [← hq] at HR hst hp1
      have HQ := Lib.hid hst
      obtain ⟨q1, hq1⟩ : ∃ q1, q1 = m + triMore n := ⟨_, rfl⟩
      rw [← hq1]
      have HQ1 := Lib.hid hq1
      clear hM hR ih hq hst hg hout hq1
      obtain ⟨c, b, hrun, hc⟩ := map_look HM.out (n := n) (k := k) ⟨by omega, by omega⟩ ⟨by omega, by omega⟩
      unfold cellKey at hrun
      have HC := Lib.hid hc
      clear hc
      cases b
      · go_enter Tryz.func285, Tryz.ntmps285
        go_wp2_with fail
        refine HR.out.mono ?_
        rintro e w1 ⟨rfl, hT1, hg1⟩
        have HT1 := Lib.hid hT1
        obtain ⟨_, hc01, hc11, hM1⟩ := hT1
        have HM1 := Lib.hid hM1
        obtain ⟨w2, hrun2, hM2, hg2⟩ := map_put HM1.out (n := n) (k := k) ⟨by omega, by omega⟩ ⟨by omega, by omega⟩
        rw [← HG.out] at hrun2
        unfold cellKey at hrun2
        have HM2 := Lib.hid hM2
        have HG1 := Lib.hid hg1
        have HG2 := Lib.hid hg2
        clear hM1 hM2 hg1 hg2 hrun
        go_wp2
        go_ret
        exact ⟨rfl, triOk_mono (triOk_turn HT1.out HG2.out HM2.out) (by have := HQ.out; have := HQ1.out; omega), grown_trans HG1.out HG2.out⟩
      · have hcg : c = g := by rw [HC.out rfl, HG.out]
        subst hcg
        clear HC
        go_enter Tryz.func285, Tryz.ntmps285
        go_wp2
        go_ret
        exact ⟨rfl, triOk_mono HT.out (by have := HQ1.out; omega), World.grownBy.refl _ _⟩

theorem at_all (fid : Nat) (G : Int → Int → Int) (hG : Numbers G) (hF : RuleFn fid) (hR : RuleOk fid G) : ∀ (N : Nat) (n : Int), n < N → -1 ≤ n → n ≤ 12 → AtOk fid G n := by
  intro N
  induction N with
  | zero => exact fun n h1 h2 h3 => at_step fid G hG hF hR n h2 h3 fun j h4 h5 => by omega
  | succ N ih => exact fun n h1 h2 h3 => at_step fid G hG hF hR n h2 h3 fun j h4 h5 => ih j (by omega) h4 (by omega)
end

section
open Go.RowKit

def fB : Nat → Int → Int
  | 0, k => if k = 0 then 1 else 0
  | n + 1, k => if k < 0 ∨ (n : Int) + 1 < k then 0 else fB n (k - 1) + k * fB n k

def fR : Nat → Int → Int
  | 0, k => if k = 0 then 1 else 0
  | n + 1, k => if k < 0 ∨ (n : Int) + 1 < k then 0 else fR n (k - 1) + (n : Int) * fR n k

def ext (f : Nat → Int → Int) (n k : Int) : Int := if n < 0 then 0 else f n.toNat k

theorem ext_nat (f : Nat → Int → Int) (n : Nat) (k : Int) : ext f n k = f n k := by unfold ext; rw [if_neg (by omega), Int.toNat_natCast]
theorem ext_neg (f : Nat → Int → Int) (n k : Int) (h : n < 0) : ext f n k = 0 := by unfold ext; rw [if_pos h]

theorem numbers_of {f : Nat → Int → Int} (h0 : f 0 0 = 1) (ho : ∀ (n : Nat) (k : Int), k < 0 ∨ (n : Int) < k → f n k = 0) (hb : ∀ n : Nat, n < 13 → ∀ k : Nat, k < 13 → 0 ≤ f n k ∧ f n k ≤ 1099511627776) : Numbers (ext f) := by
  have hout : ∀ n k, k < 0 ∨ n < k → ext f n k = 0 := by
    intro n k h
    by_cases hn : n < 0
    · exact ext_neg f n k hn
    · obtain ⟨p, rfl⟩ := Int.eq_ofNat_of_zero_le (Int.not_lt.1 hn)
      rw [ext_nat]
      exact ho p k h
  refine ⟨hout, ?_, ?_⟩
  · rw [show (0 : Int) = ((0 : Nat) : Int) from rfl, ext_nat]
    exact h0
  · intro n k hn
    by_cases h : k < 0 ∨ n < k
    · rw [hout n k h]
      omega
    · obtain ⟨q, rfl⟩ := Int.eq_ofNat_of_zero_le (show 0 ≤ k by omega)
      obtain ⟨p, rfl⟩ := Int.eq_ofNat_of_zero_le (show 0 ≤ n by omega)
      rw [ext_nat]
      exact hb p (by omega) q (by omega)

theorem fB_out : ∀ (n : Nat) (k : Int), k < 0 ∨ (n : Int) < k → fB n k = 0
  | 0, k, h => by unfold fB; rw [if_neg (by omega)]
  | n + 1, k, h => by unfold fB; rw [if_pos (by omega)]
theorem numbers_B : Numbers (ext fB) := numbers_of rfl fB_out (by decide +kernel)
theorem stepB {n k : Int} (h1 : 1 ≤ n) (h2 : 0 ≤ k) (h3 : k ≤ n) : ext fB n k = ext fB (n - 1) (k - 1) + k * ext fB (n - 1) k := by
  obtain ⟨p, rfl⟩ : ∃ p : Nat, n = p + 1 := ⟨(n - 1).toNat, by omega⟩
  rw [show (p : Int) + 1 - 1 = p by omega, show (p : Int) + 1 = ((p + 1 : Nat) : Int) by omega]
  simp only [ext_nat]
  rw [fB, if_neg (by omega)]
theorem mul_bd {a b : Int} {A B : Int} (h1 : 0 ≤ a) (h2 : a ≤ A) (h3 : 0 ≤ b) (h4 : b ≤ B) : 0 ≤ a * b ∧ a * b ≤ A * B :=
  ⟨Int.mul_nonneg h1 h3, Int.mul_le_mul h2 h4 h3 (by omega)⟩

set_option maxHeartbeats 1600000 in
theorem rule_blocks : RuleOk 247 (ext fB) := by
  intro n k h1 h2 h3 h4 ih tb mb m w hT hm
  have hb1 := numbers_B.bd (n - 1) (k - 1) (by omega)
  have hb2 := numbers_B.bd (n - 1) k (by omega)
  have hst := stepB h1 h3 h4
  have HI1 := Lib.hid (fun mm ww a b => (ih (n - 1) (by omega) (by omega) tb mb mm (k - 1) ww (by omega) (by omega) a b : _))
  have HI2 := Lib.hid (fun mm ww a b => (ih (n - 1) (by omega) (by omega) tb mb mm k ww (by omega) (by omega) a b : _))
  have HT := Lib.hid hT
  have hp := triMore_pos (n - 1)
  obtain ⟨q, hq⟩ : ∃ q, q = triMore (n - 1) := ⟨_, rfl⟩
  obtain ⟨x, hx⟩ : ∃ x, x = ext fB (n - 1) (k - 1) := ⟨_, rfl⟩
  obtain ⟨y, hy⟩ : ∃ y, y = ext fB (n - 1) k := ⟨_, rfl⟩
  rw [← hq] at HI1 hp hm ⊢
  rw [← hq] at HI2
  rw [← hx] at hb1 hst HI1
  rw [← hy] at hb2 hst HI2
  rw [hst]
  have hmb := mul_bd h3 (show k ≤ 12 by omega) hb2.1 hb2.2
  clear hT hst hx hy hq ih
  go_enter Tryz.func247, Tryz.ntmps247
  go_wp2_with fail
  refine (HI1.out m w HT.out (by omega)).mono ?_
  rintro e w1 ⟨rfl, hT1, hg1⟩
  have HT1 := Lib.hid hT1
  have HG1 := Lib.hid hg1
  clear hT1 hg1
  go_wp2_with fail
  refine (HI2.out _ w1 HT1.out (by omega)).mono ?_
  rintro e w2 ⟨rfl, hT2, hg2⟩
  have HT2 := Lib.hid hT2
  have HG2 := Lib.hid hg2
  clear hT2 hg2
  go_wp2
  go_ret
  exact ⟨ret_int (by try omega), triOk_mono HT2.out (by omega), grown_trans HG1.out HG2.out⟩

theorem fn_blocks : RuleFn 247 := fun args w => by kernel_rfl
theorem at_blocks (n : Int) (h1 : -1 ≤ n) (h2 : n ≤ 12) : AtOk 247 (ext fB) n := at_all _ _ numbers_B fn_blocks rule_blocks 13 n (by omega) h1 h2
end

section
open Go.RowKit

def inNum (n k : Int) : Bool := decide (0 ≤ n ∧ n ≤ 12) && decide (0 ≤ k ∧ k ≤ 12)

def numBy (G : Int → Int → Int) (n k : Int) : Int × Bool := if inNum n k then (G n k, true) else (0, false)

theorem inNum_parts {n k : Int} (h : inNum n k = true) : (0 ≤ n ∧ n ≤ 12) ∧ (0 ≤ k ∧ k ≤ 12) := by simpa [inNum] using h
end

section
open Go.RowKit
open Go.ChangeMaps (setBlock heap_setBlock_same heap_setBlock_other)

theorem isUpTo_any (g n : Int) (w : World) : Calls Tryz.prog 248 #[.int .i64 g, .int .i64 n] w fun e w' => e = .returned (.bool (decide (0 ≤ n ∧ n ≤ g))) ∧ w = w' := by
  by_cases h1 : 0 ≤ n
  · by_cases h2 : n ≤ g
    · go_enter Tryz.func248, Tryz.ntmps248
      go_wp2
      go_ret
      exact ⟨ret_bool (by simp [h1, h2]), rfl⟩
    · go_enter Tryz.func248, Tryz.ntmps248
      go_wp2
      go_ret
      exact ⟨ret_bool (by simp [h1, h2]), rfl⟩
  · go_enter Tryz.func248, Tryz.ntmps248
    go_wp2
    go_ret
    exact ⟨ret_bool (by simp; omega), rfl⟩

theorem tri_set_other {w : World} {p q : Addr} {v : Value} (h : p ≠ q) : (w.setCell p v).cell? q = w.cell? q := by
  first | exact World.cell?_setCell_other h | exact World.cell?_setCell_other _ h | exact World.cell?_setCell_other _ _ h | exact World.cell?_setCell_other _ _ _ h | exact World.cell?_setCell_other _ _ _ _ h
theorem tri_set_same {w : World} {p : Addr} {u v : Value} (h : w.cell? p = some u) : (w.setCell p v).cell? p = some v := by
  first | exact World.cell?_setCell_same h | exact World.cell?_setCell_same _ h | exact World.cell?_setCell_same _ _ h | exact World.cell?_setCell_same _ _ _ h

def TriAt (w : World) (tb mb : Nat) : Prop := tb ≠ mb ∧ tb < w.heap.size ∧ (∃ v, w.cell? ⟨tb, 0, none⟩ = some v) ∧ w.cell? ⟨tb, 1, none⟩ = some (.map (some mb)) ∧ w.frozen? ⟨tb, 0, none⟩ = false ∧ ∃ es clock, w.heap[mb]? = some (.map es clock)

theorem triAt_of {w w' : World} {tb mb fid : Nat} {G : Int → Int → Int} {m : Nat} (h : TriAt w tb mb) (hT : TriOk w' tb mb fid G m) (hg : w.grownBy w' (some mb)) : TriAt w' tb mb := by
  obtain ⟨h1, h2, h3, h4, h5, h6⟩ := h
  obtain ⟨k1, k2, k3, es, clock, k4, _⟩ := hT
  exact ⟨h1, Nat.lt_of_lt_of_le h2 hg.size, ⟨_, k2⟩, k3, by rw [hg.frozen_far _ h2 (fun e => h1 (by simpa using e))]; exact h5, es, clock, k4⟩

set_option maxHeartbeats 800000 in
theorem turn_any (tb mb fid : Nat) (G : Int → Int → Int) (w : World) (h : TriAt w tb mb) :
    Calls Tryz.prog 286 #[.pointer (some ⟨tb, 0, none⟩), .func (.func fid) #[] #[]] w fun e w' => e = .returned (.tuple #[]) ∧ TriOk w' tb mb fid G 0 ∧ TriAt w' tb mb ∧ (∀ B, B ≤ tb → B ≤ mb → B ≤ w.heap.size → Below B w w') := by
  obtain ⟨hne, hlt, ⟨v0, hv0⟩, hc1, hfz, es, clock, hes⟩ := h
  obtain ⟨w1, hrun, hM, hg⟩ := map_clear hes 0 G
  have hc1' := hg.cell hc1 (fun e => hne (by simpa using e))
  have hv0' := hg.cell hv0 (fun e => hne (by simpa using e))
  have hfz' : w1.frozen? ⟨tb, 0, none⟩ = false := by rw [hg.frozen_far _ hlt (fun e => hne (by simpa using e))]; exact hfz
  have HM := Lib.hid hM
  have HG := Lib.hid hg
  have HES := Lib.hid hes
  clear hM hg
  have hcl : ∀ ty, (Builtin.clear_ #[211] ty #[.map (some mb)]).run Tryz.prog w = .ok (.tuple #[]) w1 := fun ty => hrun
  go_enter Tryz.func286, Tryz.ntmps286
  go_wp2
  go_end0
  have hMs : MapOk (w1.setCell ⟨tb, 0, none⟩ (.func (.func fid) #[] #[])) mb G 0 := by
    obtain ⟨es', clock', hb, r⟩ := HM.out
    exact ⟨es', clock', by rw [RowKit.Below.heap_setCell _ _ _ _ (fun e => hne (by simpa using e.symm))]; exact hb, r⟩
  refine ⟨rfl, ⟨hne, tri_set_same hv0', ?_, hMs⟩, ⟨hne, ?_, ⟨_, tri_set_same hv0'⟩, ?_, by rw [World.frozen?_setCell]; exact hfz', ?_⟩, ?_⟩
  · rw [tri_set_other (by simp)]
    exact hc1'
  · simp [World.setCell]
    exact Nat.lt_of_lt_of_le hlt HG.out.size
  · rw [tri_set_other (by simp)]
    exact hc1'
  · obtain ⟨es', clock', hb, r⟩ := hMs
    exact ⟨es', clock', hb⟩
  · intro B h1 h2 h3
    exact ((Below.refl _ _).grown HG.out h3 (fun k hk => by cases hk; exact h2)).setCell h1 _

set_option maxHeartbeats 800000 in
theorem newTriangle_any (fid : Nat) (G : Int → Int → Int) (w : World) :
    Calls Tryz.prog 250 #[.func (.func fid) #[] #[]] w fun e w' => ∃ tb mb, e = .returned (.pointer (some ⟨tb, 0, none⟩)) ∧ w.heap.size ≤ tb ∧ w.heap.size ≤ mb ∧ TriOk w' tb mb fid G 0 ∧ TriAt w' tb mb ∧ Below w.heap.size w w' := by
  have hmm := @run_makeMap Tryz.prog
  go_enter Tryz.func250, Tryz.ntmps250
  go_wp2_with fail
  refine (turn_any (w.heap.size + 1) w.heap.size fid G _ ⟨by omega, by simp, ⟨_, by simp; rfl⟩, by simp, by simp, #[], 0, ?_⟩).mono ?_
  · exact ((MapKept.heap_alloc _ _).2 _ (by simp)).trans (MapKept.heap_alloc _ _).1
  · rintro e w1 ⟨rfl, hT, hA, hb⟩
    have hb1 := hb w.heap.size (by omega) (by omega) (by simp <;> omega)
    have HT := Lib.hid hT
    have HA := Lib.hid hA
    have HB := Lib.hid hb1
    clear hT hA hb hb1
    go_wp2
    go_ret
    exact ⟨w.heap.size + 1, w.heap.size, rfl, by omega, by omega, HT.out, HA.out, (((Below.refl _ _).alloc (Nat.le_refl _) _).alloc (by simp) _).trans HB.out⟩

def AtAll (fid : Nat) (G : Int → Int → Int) : Prop := Numbers G ∧ ∀ n, -1 ≤ n → n ≤ 12 → AtOk fid G n

theorem triMore_le {n : Int} (h : n ≤ 12) : triMore n ≤ 1594323 := by
  unfold triMore
  exact Nat.le_trans (Nat.pow_le_pow_right (by omega) (show (n + 1).toNat ≤ 13 by omega)) (by decide)

set_option maxHeartbeats 1600000 in
theorem numberBy_any (fid : Nat) (G : Int → Int → Int) (hA : AtAll fid G) (n k : Int) (w : World) :
    Calls Tryz.prog 246 #[.func (.func fid) #[] #[], .int .i64 n, .int .i64 k] w (GivesIB w (numBy G n k)) := by
  have HA := Lib.hid hA
  obtain ⟨x, hx⟩ : ∃ x, x = decide (0 ≤ n ∧ n ≤ 12) := ⟨_, rfl⟩
  obtain ⟨y, hy⟩ : ∃ y, y = decide (0 ≤ k ∧ k ≤ 12) := ⟨_, rfl⟩
  have HI := Lib.hid (fun w0 => isUpTo_any 12 n w0)
  have HJ := Lib.hid (fun w0 => isUpTo_any 12 k w0)
  have hr : numBy G n k = if (x && y) = true then (G n k, true) else (0, false) := by rw [hx, hy]; rfl
  rw [← hx] at HI
  rw [← hy] at HJ
  rw [hr]
  have HX := Lib.hid hx
  have HY := Lib.hid hy
  clear hr hx hy hA
  cases x
  · go_enter Tryz.func246, Tryz.ntmps246
    go_wp2_with fail
    refine (HI.out w).mono ?_
    rintro e w' ⟨rfl, rfl⟩
    go_wp2
    go_ret2
    exact ⟨rfl, Below.refl _ _⟩
  · cases y
    · go_enter Tryz.func246, Tryz.ntmps246
      go_wp2_with fail
      refine (HI.out w).mono ?_
      rintro e w' ⟨rfl, rfl⟩
      go_wp2_with fail
      refine (HJ.out w).mono ?_
      rintro e w' ⟨rfl, rfl⟩
      go_wp2
      go_ret2
      exact ⟨rfl, Below.refl _ _⟩
    · have hn : 0 ≤ n ∧ n ≤ 12 := by simpa using HX.out.symm
      have hk : 0 ≤ k ∧ k ≤ 12 := by simpa using HY.out.symm
      have hle := triMore_le hn.2
      rw [show (if (true && true) = true then (G n k, true) else ((0 : Int), false)) = (G n k, true) from rfl]
      obtain ⟨g, hg⟩ : ∃ g, g = G n k := ⟨_, rfl⟩
      rw [← hg]
      have HG := Lib.hid hg
      clear hg HX HY
      go_enter Tryz.func246, Tryz.ntmps246
      go_wp2_with fail
      refine (HI.out w).mono ?_
      rintro e w' ⟨rfl, rfl⟩
      go_wp2_with fail
      refine (HJ.out w).mono ?_
      rintro e w' ⟨rfl, rfl⟩
      go_wp2_with fail
      refine (newTriangle_any fid G w).mono ?_
      rintro e w1 ⟨tb, mb, rfl, ht, hm, hT, hAt, hb1⟩
      have HT := Lib.hid hT
      have HB1 := Lib.hid hb1
      clear hT hAt hb1
      go_wp2_with fail
      refine (HA.out.2 n (by omega) hn.2 tb mb 0 k w1 (by omega) (by omega) HT.out (by unfold maxLen; omega)).mono ?_
      rintro e w2 ⟨rfl, hT2, hg2⟩
      have HG2 := Lib.hid hg2
      rw [← HG.out]
      clear hT2 hg2
      go_wp2
      go_ret2
      exact ⟨rfl, HB1.out.grown HG2.out HB1.out.size (fun j hj => by cases hj; exact hm)⟩

theorem all_blocks : AtAll 247 (ext fB) := ⟨numbers_B, at_blocks⟩
set_option maxHeartbeats 800000 in
theorem iNumberBlocks_v (n k : Int) (w : World) (_h0 : (Lit.int .i64 n).wf = true) (_h1 : (Lit.int .i64 k).wf = true) : Calls Tryz.prog 196 #[.int .i64 n, .int .i64 k] w (GivesIB w (numBy (ext fB) n k)) := by
  have HI := Lib.hid (numberBy_any _ _ all_blocks n k w)
  obtain ⟨x, b, hx⟩ : ∃ (x : Int) (b : Bool), (x, b) = numBy (ext fB) n k := ⟨_, _, rfl⟩
  rw [← hx] at HI ⊢
  clear hx
  go_enter Tryz.func196, Tryz.ntmps196
  go_wp2_with fail
  refine HI.out.mono ?_
  rintro e w' ⟨rfl, hb⟩
  have HB := Lib.hid hb
  clear hb
  go_wp2
  go_ret2
  exact ⟨rfl, HB.out⟩
end

section
open Go.RowKit

def fac : Nat → Nat
  | 0 => 1
  | n + 1 => (n + 1) * fac n

def belNext (last : Int) : List Int → List Int
  | [] => []
  | x :: xs => (last + x) :: belNext (last + x) xs
def belRow : Nat → List Int
  | 0 => [1]
  | n + 1 => (belRow n).getD n 0 :: belNext ((belRow n).getD n 0) (belRow n)

def belN (n : Nat) : Int := (belRow (n - 1)).getD (n - 1) 0
end

section
open Go.RowKit

def rowTo (G : Int → Int → Int) (n : Int) (c : Nat) : List Int := (List.range c).map fun (k : Nat) => G n k

theorem rowTo_length (G : Int → Int → Int) (n : Int) (c : Nat) : (rowTo G n c).length = c := by simp [rowTo]

theorem row_stage (G : Int → Int → Int) (n : Int) (c k : Nat) (h : k < c) : (rowTo G n k ++ List.replicate (c - k) 0).set k (G n k) = rowTo G n (k + 1) ++ List.replicate (c - (k + 1)) 0 := by
  apply List.ext_getElem?
  intro j
  by_cases h1 : j < k
  · rw [List.getElem?_set_ne (by omega), List.getElem?_append_left (by rw [rowTo_length]; omega), List.getElem?_append_left (by rw [rowTo_length]; omega)]
    simp [rowTo, h1, show j < k + 1 by omega]
  · by_cases h2 : j = k
    · subst h2
      rw [List.getElem?_set_self (by simp [rowTo_length]; omega), List.getElem?_append_left (by rw [rowTo_length]; omega)]
      simp [rowTo]
    · rw [List.getElem?_set_ne (by omega), List.getElem?_append_right (by rw [rowTo_length]; omega), List.getElem?_append_right (by rw [rowTo_length]; omega)]
      simp only [rowTo_length, List.getElem?_replicate]
      split <;> split <;> first | rfl | omega

set_option maxHeartbeats 1600000 in
theorem row_any (fid tb mb m p : Nat) (G : Int → Int → Int) (hA : AtAll fid G) (w : World) (hT : TriOk w tb mb fid G m) (hAt : TriAt w tb mb) (hp : p ≤ 12) (hm : m + 13 * triMore p ≤ maxLen) :
    Calls Tryz.prog 251 #[.pointer (some ⟨tb, 0, none⟩), .int .i64 p] w fun e w' => ∃ v, e = .returned v ∧ Own w' w.heap.size v (rowTo G p (p + 1)) ∧ (∃ m', TriOk w' tb mb fid G m') ∧ TriAt w' tb mb ∧ w.grownBy w' (some mb) := by
  obtain ⟨n, hn⟩ : ∃ n, n = p + 1 := ⟨_, rfl⟩
  have hni : (p : Int) + 1 = (n : Int) := by omega
  rw [← hn]
  have HT := Lib.hid hT
  have HAt := Lib.hid hAt
  have HN := Lib.hid hn
  have HA := Lib.hid hA
  obtain ⟨q, hq⟩ : ∃ q, q = triMore p := ⟨_, rfl⟩
  rw [← hq] at hm
  have HQ := Lib.hid hq
  have hmb : mb < w.heap.size := by
    obtain ⟨_, _, _, es, cl, hb, _⟩ := hT
    exact (Array.getElem?_eq_some_iff.1 hb).1
  clear hT hAt hA hn hq
  obtain ⟨i0, hi, hz0, hz1, hz2⟩ := info_parts Tryz.infoInt
  go_enter Tryz.func251, Tryz.ntmps251
  go_wp2_with (at_make; refine wpList_make_full _ rfl _ _ 26 rfl w.heap.size 3 i0 (.int .i64 0) 1 Tryz.underlying26 hi hz0 hz1 _ _ _ _ n (by rfl) (by rfl) rfl rfl (by rw [hz2]; omega) (by unfold maxLen; omega) (Nat.le_refl _) ?_)
  intro w1 hown1 hgrow1
  have hown := own_made hown1
  have HG1 := Lib.hid (hgrow1.but (some mb))
  have hs1 : w.heap.size < w1.heap.size := (own_lt hown w.heap.size rfl).2
  have HT1 : TriOk w1 tb mb fid G m := triOk_turn HT.out HG1.out (by
    obtain ⟨_, _, _, es, cl, hb, hr⟩ := HT.out
    exact ⟨es, cl, by rw [hgrow1.block _ hmb (by simp)]; exact hb, hr⟩)
  clear hown1 hgrow1
  go_wp2
  go_loopw [12] (fun i wr => ∃ k : Nat, k ≤ n ∧ i = .int .i64 k ∧ Own wr w.heap.size (.slice (some ⟨w.heap.size, 0, none⟩) n n) (rowTo G p k ++ List.replicate (n - k) 0) ∧ TriOk wr tb mb fid G (m + k * q) ∧ w.grownBy wr (some mb) ∧ w.heap.size < wr.heap.size)
    (fun i _ => n - (intOf i).toNat)
  case atStart => exact ⟨0, Nat.zero_le _, rfl, by simpa [rowTo] using hown, by simpa using HT1, HG1.out, hs1⟩
  case round =>
    obtain ⟨k, hk, rfl, hownr, hTr, hgr, hszr⟩ := hrel
    by_cases hlt : k < n
    · have hkq : k * q ≤ 12 * q := Nat.mul_le_mul_right _ (by have := HN.out; omega)
      have hsucc : (k + 1) * q = k * q + q := Nat.succ_mul k q
      have HC := Lib.hid (HA.out.2 p (by omega) (by omega) tb mb (m + k * q) k wr (by omega) (by have := HN.out; omega) hTr (by rw [← HQ.out]; omega))
      rw [← HQ.out] at HC
      obtain ⟨g, hg⟩ : ∃ g, g = G p k := ⟨_, rfl⟩
      rw [← hg] at HC
      have HG := Lib.hid hg
      have HO := Lib.hid hownr
      have HGR := Lib.hid hgr
      have HSC := Lib.hid hsucc
      clear hownr hTr hgr hg hkq hsucc
      go_wp2_with fail
      refine HC.out.mono ?_
      rintro e w2 ⟨rfl, hT2, hg2⟩
      have hown2 := own_grown HO.out hg2 (.inr (by simp [Value.ownBlock]; omega))
      have hfz := own_frozen hown2 k
      obtain ⟨v0, hv0⟩ : ∃ v0, w2.cell? ⟨w.heap.size, k, none⟩ = some v0 := ⟨_, own_cell hown2 k (by simp [rowTo_length]; omega)⟩
      obtain ⟨hst, hgs⟩ := own_stored hown2 (by simp [rowTo_length]; omega) k g
      rw [HG.out, row_stage G p n k hlt, ← HG.out] at hst
      have hT3 : TriOk (w2.setCell ⟨w.heap.size, k, none⟩ (.int .i64 g)) tb mb fid G (m + (k + 1) * q) := by
        rw [HSC.out, ← Nat.add_assoc]
        have hne : w.heap.size ≠ mb := by omega
        have htb : tb < w.heap.size := HAt.out.2.1
        obtain ⟨k1, k2, k3, es, cl, hb, hr⟩ := hT2
        exact ⟨k1, by rw [tri_set_other (by simp <;> omega)]; exact k2, by rw [tri_set_other (by simp <;> omega)]; exact k3, es, cl, by rw [RowKit.Below.heap_setCell _ _ _ _ (fun e => hne (by simpa using e.symm))]; exact hb, hr⟩
      have hg3 : w.grownBy (w2.setCell ⟨w.heap.size, k, none⟩ (.int .i64 g)) (some mb) := (grown_trans HGR.out hg2).andThen hgs (fun j hj => by cases hj; exact .inl (Nat.le_refl _))
      have hsz3 := hg2.size
      have HST := Lib.hid hst
      have HT3 := Lib.hid hT3
      have HG3 := Lib.hid hg3
      clear hst hgs hT2 hT3 hg2 hg3 hown2
      go_wp2
      go_roundw
      case rel => exact ⟨k + 1, by omega, by go_num, HST.out, HT3.out, HG3.out, by simp [World.setCell]; omega⟩
      case measure => simp [intOf]; omega
    · have hkn : k = n := by omega
      subst hkn
      have HGR := Lib.hid hgr
      have HTR := Lib.hid hTr
      rw [Nat.sub_self, List.replicate_zero, List.append_nil] at hownr
      have HO := Lib.hid hownr
      clear hownr hTr hgr
      go_wp2
      go_ret
      exact ⟨_, rfl, HO.out, ⟨_, HTR.out⟩, triAt_of HAt.out HTR.out HGR.out, HGR.out⟩

def sumL (l : List Int) : Int := l.foldl (· + ·) 0
theorem sumL_snoc (l : List Int) (c : Int) : sumL (l ++ [c]) = sumL l + c := by simp [sumL, List.foldl_append]

theorem snocInd {p : List Int → Prop} (h0 : p []) (h1 : ∀ l c, p l → p (l ++ [c])) (l : List Int) : p l := by
  have : ∀ n (l : List Int), l.length = n → p l := by
    intro n
    induction n with
    | zero => intro l hl; rw [List.eq_nil_of_length_eq_zero hl]; exact h0
    | succ n ih =>
      intro l hl
      have hne : l ≠ [] := by intro e; rw [e] at hl; simp at hl
      rw [← List.dropLast_concat_getLast hne]
      exact h1 _ _ (ih _ (by rw [List.length_dropLast]; omega))
  exact this _ l rfl

theorem sumL_bd (l : List Int) : (∀ c ∈ l, 0 ≤ c ∧ c ≤ 1099511627776) → 0 ≤ sumL l ∧ sumL l ≤ 1099511627776 * l.length := by
  refine snocInd (p := fun l => (∀ c ∈ l, 0 ≤ c ∧ c ≤ 1099511627776) → 0 ≤ sumL l ∧ sumL l ≤ 1099511627776 * l.length) (fun _ => by simp [sumL]) (fun l c ih h => ?_) l
  have h1 := ih fun d hd => h d (by simp [hd])
  have h2 := h c (by simp)
  rw [sumL_snoc, List.length_append]
  simp
  omega

theorem takeSnoc (l : List Int) (k : Nat) (h : k < l.length) : l.take (k + 1) = l.take k ++ [l.getD k 0] := by
  rw [List.take_succ_eq_append_getElem h]
  simp [List.getD, h]

set_option maxHeartbeats 800000 in
theorem sumOf_v (v : Value) (xs : List Int) (w : World) (hv : RdV w v xs) (hb : ∀ c ∈ xs, 0 ≤ c ∧ c ≤ 1099511627776) (hl : xs.length ≤ 1048576) :
    Calls Tryz.prog 249 #[v] w fun e w' => e = .returned (.int .i64 (sumL xs)) ∧ w = w' := by
  obtain ⟨ao, ca, rfl, hr, hc1, hc2⟩ := hv
  obtain ⟨n, hn⟩ : ∃ n, n = xs.length := ⟨_, rfl⟩
  rw [← hn] at hl hc1 ⊢
  have HN := Lib.hid hn
  have HR := Lib.hid hr
  have HB := Lib.hid hb
  clear hn hr hb hc1 hc2
  go_enter Tryz.func249, Tryz.ntmps249
  go_wp2
  go_loop [3, 8] (fun u i => ∃ k : Nat, k ≤ n ∧ i = .int .i64 k ∧ u = .int .i64 (sumL (xs.take k))) (fun _ i => n - (intOf i).toNat)
  case atStart => exact ⟨0, Nat.zero_le _, rfl, rfl⟩
  case round =>
    obtain ⟨k, hk, rfl, rfl⟩ := hrel
    have hbs := sumL_bd (xs.take k) fun c hc => HB.out c (List.mem_of_mem_take hc)
    have hlk : (xs.take k).length ≤ 1048576 := by rw [List.length_take]; omega
    by_cases hlt : k < n
    · rcases HR.out with hx | ⟨b, off, rfl, hcx⟩
      · have := HN.out
        rw [hx] at this
        simp at this
        omega
      · have hc1 := hcx k (by have := HN.out; omega)
        have hts := takeSnoc xs k (by have := HN.out; omega)
        have hxm : xs.getD k 0 ∈ xs := by
          have h : k < xs.length := by have := HN.out; omega
          rw [List.getD_eq_getElem?_getD, List.getElem?_eq_getElem h]
          simp
        have hxb := HB.out _ hxm
        have hst : sumL (xs.take (k + 1)) = sumL (xs.take k) + xs.getD k 0 := by rw [hts, sumL_snoc]
        obtain ⟨x, hx⟩ : ∃ x, x = xs.getD k 0 := ⟨_, rfl⟩
        obtain ⟨y, hy⟩ : ∃ y, y = sumL (xs.take k) := ⟨_, rfl⟩
        rw [← hx] at hc1 hst hxb
        rw [← hy] at hst hbs ⊢
        have HST := Lib.hid hst
        have b1 : wrap64 (y + x) = y + x := IntWalk.wrap64_in _ (by omega)
        have b2 : IntKind.i64.wrap (y + x) = y + x := IntWalk.i64_in _ (by omega)
        clear hcx hts hxm hst hx hy
        go_wp2
        go_round
        case rel => exact ⟨k + 1, by omega, by go_num, by rw [HST.out]⟩
        case measure => simp [intOf]; omega
    · have hkn : k = n := by omega
      have he : xs.take k = xs := by rw [List.take_of_length_le (by have := HN.out; omega)]
      rw [he] at hbs ⊢
      clear he
      go_wp2
      go_ret
      exact ⟨rfl, rfl⟩

def numAll (n : Int) : Int × Bool := if 0 ≤ n ∧ n ≤ 12 then (sumL (rowTo (ext fB) n (n.toNat + 1)), true) else (0, false)

theorem bell_fact : ∀ n : Nat, n < 13 → sumL (rowTo (ext fB) n (n + 1)) = belN n := by decide +kernel
theorem bell_small : ∀ n : Nat, n < 13 → 0 ≤ belN n ∧ belN n ≤ 5000000 := by decide +kernel

theorem rowTo_bd {G : Int → Int → Int} (hG : Numbers G) {n : Int} (hn : n ≤ 12) (c : Nat) : ∀ x ∈ rowTo G n c, 0 ≤ x ∧ x ≤ 1099511627776 := by
  intro x hx
  obtain ⟨k, _, rfl⟩ := List.mem_map.1 hx
  exact hG.bd n k hn

set_option maxHeartbeats 1600000 in
theorem iNumberAll_v (n : Int) (w : World) (_h0 : (Lit.int .i64 n).wf = true) : Calls Tryz.prog 197 #[.int .i64 n] w (GivesIB w (numAll n)) := by
  have HI := Lib.hid (isUpTo_any 12 n w)
  by_cases hn : 0 ≤ n ∧ n ≤ 12
  · have hr : numAll n = (sumL (rowTo (ext fB) n (n.toNat + 1)), true) := by unfold numAll; rw [if_pos hn]
    obtain ⟨p, rfl⟩ := Int.eq_ofNat_of_zero_le hn.1
    rw [Int.toNat_natCast] at hr
    rw [hr]
    have hd : decide (0 ≤ (p : Int) ∧ (p : Int) ≤ 12) = true := decide_eq_true hn
    rw [hd] at HI
    have hle := triMore_le hn.2
    obtain ⟨xs, hxs⟩ : ∃ xs, xs = rowTo (ext fB) p (p + 1) := ⟨_, rfl⟩
    have hxl : xs.length = p + 1 := by rw [hxs, rowTo_length]
    rw [← hxs]
    have HX := Lib.hid hxs
    have HXL := Lib.hid hxl
    clear hr hd hxs hxl
    go_enter Tryz.func197, Tryz.ntmps197
    go_wp2_with fail
    refine HI.out.mono ?_
    rintro e w' ⟨rfl, rfl⟩
    go_wp2_with fail
    refine (newTriangle_any 247 (ext fB) w).mono ?_
    rintro e w1 ⟨tb, mb, rfl, ht, hm, hT, hAt, hb1⟩
    have HT := Lib.hid hT
    have HAt := Lib.hid hAt
    have HB1 := Lib.hid hb1
    clear hT hAt hb1
    go_wp2_with fail
    refine (row_any 247 tb mb 0 p (ext fB) all_blocks w1 HT.out HAt.out (by omega) (by unfold maxLen; omega)).mono ?_
    rintro e w2 ⟨v, rfl, hown, _, _, hg⟩
    rw [← HX.out] at hown
    have HO := Lib.hid hown
    have HB2 := Lib.hid (HB1.out.grown hg HB1.out.size (fun j hj => by cases hj; exact hm))
    clear hown hg
    go_wp2_with fail
    refine (sumOf_v v xs w2 (own_rdv HO.out) (by rw [HX.out]; exact rowTo_bd numbers_B hn.2 _) (by rw [HXL.out]; omega)).mono ?_
    rintro e w3 ⟨rfl, rfl⟩
    go_wp2
    go_ret2
    exact ⟨rfl, HB2.out⟩
  · have hr : numAll n = (0, false) := by unfold numAll; rw [if_neg hn]
    have hd : decide (0 ≤ n ∧ n ≤ 12) = false := decide_eq_false hn
    rw [hd] at HI
    rw [hr]
    clear hr hd hn
    go_enter Tryz.func197, Tryz.ntmps197
    go_wp2_with fail
    refine HI.out.mono ?_
    rintro e w' ⟨rfl, rfl⟩
    go_wp2
    go_ret2
    exact ⟨rfl, Below.refl _ _⟩
end

section
open Go.RowKit Go.Shelf

attribute [local go_sem] Oper.semAt_some

theorem run_loadL (w : World) (g : Nat) (L : List Int) (hL : L.length = 8) (hg : RowAt w g L) :
    (Instr.loadAt 55 (.pointer (some ⟨g, 0, none⟩))).run Tryz.prog w = .ok (.agg (rowC L)) w := by
  simp only [Instr.loadAt, Instr.sureAddr, Sem.run_bind, Sem.run_pure, Result.andThen]
  exact run_loadVar_row w g _ _ (rowC L) (0, 0) _ hg Tryz.underlying55 rfl (by rw [rowC_size, hL]; exact Tryz.infoLine)

theorem run_storeL (w : World) (g : Nat) (K L : List Int) (hK : K.length = 8) (hL : L.length = 8) (hg : RowAt w g K) :
    (Instr.storeAt 55 (.pointer (some ⟨g, 0, none⟩)) (.agg (rowC L))).run Tryz.prog w = .ok () (w.setRow g (rowC L)) := by
  simp only [Instr.storeAt, Instr.sureAddr, Sem.run_bind, Sem.run_pure, Result.andThen]
  exact run_storeVar_row w g _ _ (rowC K) (rowC L) hg (by rw [rowC_size, hL]; exact Tryz.infoLine) (by rw [rowC_size, rowC_size, hK, hL]) (rowC_one L)

section
variable {F : Fence} {n : Nat}

theorem wpIn_loadL {o : Oper} {a : Act} {w : World} {K : Act → World → Prop} {Q : Exit → Act → World → Prop} (x : Operand) (ho : o.op = .load 55 x)
    (g : Nat) (hx : a.eval x = .pointer (some ⟨g, 0, none⟩)) (L : List Int) (hL : L.length = 8) (hg : RowAt w g L) (h : K (a.put o.dst (.agg (rowC L))) w) : o.wpIn F n Tryz.prog a w K Q := by
  unfold Oper.wpIn
  refine ⟨by simp [Oper.about, ho], ?_⟩
  rw [Oper.semAt_plain F _ _ (by rw [ho]; intro c hc; cases hc)]
  simp only [execOp, ho, hx, Sem.run_bind, run_loadL w g L hL hg, Sem.run_pure, Result.andThen_ok]
  exact h

theorem wpListIn_loadL {ops : Array Oper} {rest : List Oper} {o : Oper} {a : Act} {w : World} {Q : Exit → Act → World → Prop} (hgd : o.guard = none) (x : Operand) (ho : o.op = .load 55 x)
    (g : Nat) (hx : a.eval x = .pointer (some ⟨g, 0, none⟩)) (L : List Int) (hL : L.length = 8) (hg : RowAt w g L)
    (h : wpListIn F n Tryz.prog ops Q rest (a.put o.dst (.agg (rowC L))) w) : wpListIn F n Tryz.prog ops Q (o :: rest) a w :=
  wpListIn_plain hgd fun _ hK => wpIn_loadL x ho g hx L hL hg (hK _ _ h)

theorem wpListIn_storeL {ops : Array Oper} {rest : List Oper} {o : Oper} {a : Act} {w : World} {Q : Exit → Act → World → Prop} (hgd : o.guard = none) (x y : Operand) (ho : o.op = .store 55 x y)
    (g : Nat) (L : List Int) (hx : a.eval x = .pointer (some ⟨g, 0, none⟩)) (hy : a.eval y = .agg (rowC L)) (K : List Int) (hK : K.length = 8) (hL : L.length = 8) (hg : RowAt w g K)
    (h : ∀ w', RowAt w' g L → Touch w w' g (g + 1) → wpListIn F n Tryz.prog ops Q rest (a.put o.dst undef) w') : wpListIn F n Tryz.prog ops Q (o :: rest) a w := by
  refine wpListIn_plain hgd fun K' hK' => ?_
  unfold Oper.wpIn
  refine ⟨by simp [Oper.about, ho], ?_⟩
  rw [Oper.semAt_plain F _ _ (by rw [ho]; intro c hc; cases hc)]
  simp only [execOp, ho, hx, hy, Sem.run_bind, run_storeL w g K L hK hL hg, Sem.run_pure, Result.andThen_ok]
  exact hK' _ _ (h _ (setRow_heap w g _ _ _ _ hg) (touch_row w g _))
end

def allL (n : Nat) : List (List Int) := (List.range (opn n 0).toNat).map fun p => atL n (p : Nat)

theorem allL_length (n : Nat) : (allL n).length = (opn n 0).toNat := by simp [allL]

theorem range_prefix (p T : Nat) (h : p ≤ T) : List.range p <+: List.range T := by
  have := List.take_prefix p (List.range T)
  rwa [List.take_range, Nat.min_eq_left h] at this

def KeepL (W W' : World) : Prop := ∀ g L, RowAt W g L → RowAt W' g L
theorem KeepL.refl (W : World) : KeepL W W := fun _ _ h => h
theorem KeepL.trans {A B C : World} (h : KeepL A B) (k : KeepL B C) : KeepL A C := fun g L r => k g L (h g L r)
theorem keepL_below {W W' : World} (h : Below W.heap.size W W') : KeepL W W' := fun _ _ r => rowAt_below r h

def KpL (n₀ : Nat) (W W' : World) : Prop := Below n₀ W W' ∧ KeepL W W'
theorem kpL_t {n₀ : Nat} {A B C : World} (h : KpL n₀ A B) (k : KpL n₀ B C) : KpL n₀ A C := ⟨h.1.trans k.1, h.2.trans k.2⟩
theorem kpL_b {n₀ : Nat} {w : World} (hn : n₀ ≤ w.heap.size) (W : World) (l : Nat) (o o' : Obj) (hl : w.heap.size ≤ l) (h : W.heap[l]? = some o) (hc : o.isCells = false) (hw : o.isWalk = false) : KpL n₀ W (W.putObj l o') := by
  refine ⟨belowK_b hn W l o o' hl h hc hw, fun g L r => ?_⟩
  refine rowAt_block r (World.putObj_heap_other ?_)
  intro e
  subst e
  rw [show W.heap[g]? = _ from r] at h
  cases h
  cases hc

set_option maxHeartbeats 1600000 in
theorem lines1_in (n : Nat) (hn : 1 ≤ n) (l Bn n₀ c : Nat) (hc1 : 1 ≤ c) (hc8 : c ≤ 8) (J Jx : List Nat → World → Prop)
    (hJ : ∀ pre X Y, J pre X → Below X.heap.size X Y → J pre Y)
    (hY : ∀ pre x W, J pre W → pre.length < (opn c 0).toNat → YieldAt Fence.wide (n - 1) Tryz.prog l #[.agg (rowC (ln (atL c (x : Nat))))] W fun e W' =>
      (e = .returned (.bool true) ∧ J (pre ++ [x]) W' ∧ KpL n₀ W W') ∨ (e = .returned (.bool false) ∧ Jx (pre ++ [x]) W'))
    (W : World) (hBn : W.cell? ⟨Bn, 0, none⟩ = some (.int .i64 c)) (h0 : J [] W) :
    CallsIn Fence.wide n Tryz.prog 304 #[.func (.yield l) #[] #[], .pointer (some ⟨Bn, 0, none⟩)] W fun e W' => (∃ v, e = .returned v) ∧
      ((∃ ys, ys = List.range (opn c 0).toNat ∧ J ys W') ∨ (∃ pre, pre <+: List.range (opn c 0).toNat ∧ Jx pre W')) := by
  have hTp := opn_bd c 0 (by omega) (by omega)
  obtain ⟨T, hT⟩ : ∃ T : Nat, T = (opn c 0).toNat := ⟨_, rfl⟩
  rw [← hT] at hY ⊢
  have hTi : opn c 0 = (T : Int) := by omega
  have hT1 : 1 ≤ T := by omega
  have hL0 : atL c 0 = List.replicate c 0 := by
    have := before_at (xs := List.replicate c 0) (ys := List.replicate c 0) rfl (ok_zeros _ _ (by omega))
    have h2 := atL_plc (xs := List.replicate c 0) (ok_zeros _ _ (by omega))
    rw [plc_first, List.length_replicate] at h2
    exact h2
  have HF := Lib.hid (firstLine_any c W hc1 hc8)
  have HJ := Lib.hid hJ
  have HY := Lib.hid hY
  have HLN : Hid (∀ p : Nat, (ln (atL c p)).length = 8) := fun p => ln_length (by rw [atL_length]; exact hc8)
  have HNX : Hid (∀ (p : Nat) (w1 : World), p < T → Calls Tryz.prog 256 #[.agg (rowC (ln (atL c p)))] w1 (GivesLB w1 (if p + 1 < T then (atL c ((p + 1 : Nat) : Int), true) else (atL c p, false)))) := fun p w1 h => by
    have hpq := plc_atL c (p : Int) (by omega) (by omega)
    have hp := next_any (atL c p) w1 (atL_partIn c p hc1 hc8 (by omega) (by omega))
    have e : nextR (atL c p) = if p + 1 < T then (atL c ((p + 1 : Nat) : Int), true) else (atL c p, false) := by
      unfold nextR
      rw [atL_length, hpq.2, hTi]
      by_cases h2 : p + 1 < T
      · rw [if_pos h2, if_pos (by omega)]
        rfl
      · rw [if_neg h2, if_neg (by omega)]
    rw [e] at hp
    exact hp
  have HL0 := Lib.hid hL0
  clear hJ hY hTp hT hTi hL0
  refine callsIn_of_wp Tryz.func304 rfl trivial ?_ rfl
  simp only [Tryz.ntmps304, List.size_toArray, List.length_cons, List.length_nil, Nat.reduceAdd, Nat.reduceSub, Array.replicate_succ, Array.replicate_zero, List.push_toArray, List.append_toArray, List.nil_append, List.cons_append]
  gi_wp2_with fail
  refine ⟨trivial, ?_⟩
  refine (callsIn_wide.2 HF.out).mono ?_
  rintro e w1 ⟨rfl, hb1⟩
  have hz1 : RowAt (w1.alloc (.cells #[.int .i64 0, .int .i64 0, .int .i64 0, .int .i64 0, .int .i64 0, .int .i64 0, .int .i64 0, .int .i64 0] 55)) w1.heap.size (List.replicate 8 0) := heap_alloc_new w1 _
  have HZ1 := Lib.hid hz1
  have hj1 := HJ.out [] W _ h0 (hb1.alloc hb1.size (.cells #[.int .i64 0, .int .i64 0, .int .i64 0, .int .i64 0, .int .i64 0, .int .i64 0, .int .i64 0, .int .i64 0] 55))
  have HLZ := Lib.hid (ln_length (xs := List.replicate c 0) (by simp; exact hc8))
  have hs1 := hb1.size
  have HB1 := Lib.hid (hb1.alloc hb1.size (.cells #[.int .i64 0, .int .i64 0, .int .i64 0, .int .i64 0, .int .i64 0, .int .i64 0, .int .i64 0, .int .i64 0] 55))
  clear hz1 hb1 hj1
  gi_wp2_with (first | (refine wpListIn_storeL rfl _ _ rfl w1.heap.size _ rfl rfl (List.replicate 8 0) rfl HLZ.out HZ1.out ?_; intro w3 hg3 ht3; have HG3 := Lib.hid hg3; have HB3 := Lib.hid (HB1.out.trans (touch_below ht3 hs1)); clear hg3 ht3))
  have HG3' : Hid (RowAt w3 w1.heap.size (ln (atL c ((0 : Nat) : Int)))) := by
    show RowAt _ _ _
    rw [show (((0 : Nat) : Int)) = 0 from rfl, HL0.out]
    exact HG3.out
  have HJ3 := Lib.hid (HJ.out [] W w3 h0 HB3.out)
  clear h0 hBn
  gi_loopg [3, 4] T (fun k b f wr => ∃ p g : Nat, p ≤ T ∧ k = T - p ∧ b = .pointer (some ⟨g, 0, none⟩) ∧ f = .bool (decide (p < T)) ∧ J (List.range p) wr ∧ (p < T → RowAt wr g (ln (atL c p))))
  case atStart => exact ⟨0, w1.heap.size, Nat.zero_le _, by omega, rfl, by rw [decide_eq_true (by omega)], by simpa using HJ3.out, fun _ => HG3'.out⟩
  case round =>
    obtain ⟨p, g, hp, hk, rfl, rfl, hj, hrow⟩ := hrel
    by_cases hlt : p < T
    · have hr := hrow hlt
      have hlen : (List.range p).length < T := by rw [List.length_range]; exact hlt
      obtain ⟨fn, tmps, assign, body, hy, hR⟩ := HY.out (List.range p) p wr hj hlen
      have hd : decide (p < T) = true := decide_eq_true hlt
      have HTSP := Lib.hid (List.range_succ (n := p))
      have HNP := Lib.hid fun (w5 : World) => HNX.out p w5 hlt
      obtain ⟨xs, hxs⟩ : ∃ xs, xs = atL c p := ⟨_, rfl⟩
      have HXS := Lib.hid hxs
      have HLX := Lib.hid (HLN.out p)
      rw [← hxs] at hy hr HNP HLX
      have HR := Lib.hid hr
      have HRR := Lib.hid hR
      rw [hd]
      clear hlen hrow hj hxs hr hR hd
      gi_wp2_with (first | (refine wpListIn_loadL rfl _ rfl g rfl _ HLX.out HR.out ?_))
      refine HRR.out.mono ?_
      rintro e w4 (⟨rfl, hj4, hk4⟩ | ⟨rfl, hx4⟩)
      · have hr4 := hk4.2 g _ HR.out
        have HR4 := Lib.hid hr4
        have hz4 : RowAt (w4.alloc (.cells #[.int .i64 0, .int .i64 0, .int .i64 0, .int .i64 0, .int .i64 0, .int .i64 0, .int .i64 0, .int .i64 0] 55)) w4.heap.size (List.replicate 8 0) := heap_alloc_new w4 _
        have HZ4 := Lib.hid hz4
        have hb4 : Below w4.heap.size w4 (w4.alloc (.cells #[.int .i64 0, .int .i64 0, .int .i64 0, .int .i64 0, .int .i64 0, .int .i64 0, .int .i64 0, .int .i64 0] 55)) := (Below.refl _ _).alloc (Nat.le_refl _) _
        have HB4 := Lib.hid hb4
        rw [← HTSP.out] at hj4
        have HJ4 := Lib.hid hj4
        clear hr4 hz4 hb4 hj4 hk4
        by_cases h2 : p + 1 < T
        · have hn2 := HNP.out
          have HN2 := Lib.hid fun (w5 : World) => by
            have := hn2 w5
            rw [if_pos h2] at this
            exact this
          have HLX2 := Lib.hid (HLN.out (p + 1))
          clear hn2
          gi_wp2_with (first | (refine wpListIn_loadL rfl _ rfl g rfl _ HLX.out HR4.out ?_) | (refine wpListIn_storeL rfl _ _ rfl w4.heap.size _ rfl rfl (List.replicate 8 0) rfl HLX.out HZ4.out ?_; intro w5 hg5 ht5; have HG5 := Lib.hid hg5; have HB5 := Lib.hid (HB4.out.trans (touch_below ht5 (Nat.le_refl _))); clear hg5 ht5) | (refine wpListIn_loadL rfl _ rfl w4.heap.size rfl _ HLX.out HG5.out ?_) | (refine ⟨trivial, ?_⟩; gi_at_call 256; refine (callsIn_wide.2 (HN2.out _)).mono ?_; rintro e w6 ⟨rfl, hb6⟩; have HG6 := Lib.hid (rowAt_below HG5.out hb6); have HB6 := Lib.hid (below_step HB5.out hb6); clear hb6) | (refine wpListIn_storeL rfl _ _ rfl w4.heap.size _ rfl rfl _ HLX.out HLX2.out HG6.out ?_; intro w7 hg7 ht7; have HG7 := Lib.hid hg7; have HB7 := Lib.hid (HB6.out.trans (touch_below ht7 (Nat.le_refl _))); clear hg7 ht7))
          gi_roundg (T - (p + 1))
          case rel => exact ⟨p + 1, w4.heap.size, by omega, rfl, rfl, by rw [decide_eq_true h2], HJ.out _ w4 w7 HJ4.out HB7.out, fun _ => HG7.out⟩
          case measure => omega
        · have hn2 := HNP.out
          have HN2 := Lib.hid fun (w5 : World) => by
            have := hn2 w5
            rw [if_neg h2] at this
            exact this
          clear hn2
          gi_wp2_with (first | (refine wpListIn_loadL rfl _ rfl g rfl _ HLX.out HR4.out ?_) | (refine wpListIn_storeL rfl _ _ rfl w4.heap.size _ rfl rfl (List.replicate 8 0) rfl HLX.out HZ4.out ?_; intro w5 hg5 ht5; have HG5 := Lib.hid hg5; have HB5 := Lib.hid (HB4.out.trans (touch_below ht5 (Nat.le_refl _))); clear hg5 ht5) | (refine wpListIn_loadL rfl _ rfl w4.heap.size rfl _ HLX.out HG5.out ?_) | (refine ⟨trivial, ?_⟩; gi_at_call 256; refine (callsIn_wide.2 (HN2.out _)).mono ?_; rintro e w6 ⟨rfl, hb6⟩; have HG6 := Lib.hid (rowAt_below HG5.out hb6); have HB6 := Lib.hid (below_step HB5.out hb6); clear hb6) | (refine wpListIn_storeL rfl _ _ rfl w4.heap.size _ rfl rfl _ HLX.out HLX.out HG6.out ?_; intro w7 hg7 ht7; have HG7 := Lib.hid hg7; have HB7 := Lib.hid (HB6.out.trans (touch_below ht7 (Nat.le_refl _))); clear hg7 ht7))
          gi_roundg (T - (p + 1))
          case rel => exact ⟨p + 1, w4.heap.size, by omega, rfl, rfl, by rw [decide_eq_false h2], HJ.out _ w4 w7 HJ4.out HB7.out, fun h => absurd h h2⟩
          case measure => omega
      · gi_wp2
        refine bodyPost_ret (results_none rfl _ _ _) rfl ?_
        refine ⟨⟨_, rfl⟩, .inr ⟨_, ?_, hx4⟩⟩
        rw [← HTSP.out]
        exact range_prefix (p + 1) T (by omega)
    · obtain rfl : p = T := by omega
      have hd : decide (p < p) = false := decide_eq_false (by omega)
      rw [hd]
      clear hrow
      gi_wp2
      go_end0
      exact ⟨⟨_, rfl⟩, .inl ⟨_, rfl, hj⟩⟩

theorem linesOf_in (n : Nat) (c : Int) (w : World) :
    CallsIn Fence.wide n Tryz.prog 287 #[.int .i64 c] w fun e w' => e = .returned (.func (.func 304) #[] #[.pointer (some ⟨w.heap.size, 0, none⟩)]) ∧ w' = w.alloc (.cells #[.int .i64 c] 3) := by
  refine callsIn_of_wp Tryz.func287 rfl trivial ?_ rfl
  simp only [Tryz.ntmps287, List.size_toArray, List.length_cons, List.length_nil, Nat.reduceAdd, Nat.reduceSub, Array.replicate_succ, Array.replicate_zero, List.push_toArray, List.append_toArray, List.nil_append, List.cons_append]
  gi_wp2
  go_ret
  exact ⟨rfl, rfl⟩

theorem lines_stops (n : Nat) (hn : 1 ≤ n) (Bn n₀ c : Nat) (hc1 : 1 ≤ c) (hc8 : c ≤ 8) (w : World) (hBn : Bn < w.heap.size) (hc : w.cell? ⟨Bn, 0, none⟩ = some (.int .i64 c)) :
    SeqStopsK Fence.wide n Tryz.prog 304 #[.pointer (some ⟨Bn, 0, none⟩)] (fun x : Nat => #[Value.agg (rowC (ln (atL c (x : Int))))]) (KpL n₀) (fun ys => ys = List.range (opn c 0).toNat) (fun pre => pre <+: List.range (opn c 0).toNat) (opn c 0).toNat w := fun l J Jx W hW hAJ _ hY h0 =>
  lines1_in n hn l Bn n₀ c hc1 hc8 J Jx (fun pre X Y hj hb => hAJ pre X Y none hj (grown_of_below hb) (fun r e => by cases e)) hY W ((hW.cell (p := ⟨Bn, 0, none⟩) hBn).trans hc) h0
end

section
open Go.RowKit Go.Shelf

theorem ownsRow_ne_type {w : World} {B : Nat} {e t : TypeId} {size k : Nat} {v : Value} {vs : List Value} (h : w.ownsRow B e size v k vs) {b : Nat} {cs : Array Value} {fr : Nat × Nat} (hb : w.heap[b]? = some (.cells cs t fr)) (hne : t ≠ e) : v.ownBlock = none ∨ v.ownBlock ≠ some b := by
  rcases h.2 with ⟨rfl, _⟩ | ⟨g, cap, cur, rfl, _, hgb, _⟩
  · exact .inl rfl
  · refine .inr fun e' => ?_
    obtain rfl : g = b := by simpa [Value.ownBlock] using e'
    rw [hgb] at hb
    simp at hb
    exact hne hb.2.1.symm

theorem run_pushV {w : World} (ty : TypeId) (B S n : Nat) (v : Value) (xss : List (List Int)) (hown : OwnM w B S v xss) (hn : n = xss.length)
    (ad : Addr) (u : Value) (ys : List Int) (hc : w.cell? ad = some u) (hu : Own w B u ys) (hui : InB u S w.heap.size) (hBS : B ≤ S) (hSw : S ≤ w.heap.size) (hl : n ≤ 1000000000) :
    ∃ g' cap' w', (Builtin.append_ #[91, 91] ty #[v, .slice (some ad) 1 1]).run Tryz.prog w = .ok (.slice (some ⟨g', 0, none⟩) (n + 1) cap') w' ∧
      OwnM w' B w'.heap.size (.slice (some ⟨g', 0, none⟩) (n + 1) cap') (xss ++ [ys]) ∧ w.grownBy w' v.ownBlock := by
  obtain ⟨i0, hi, hz0, hz1, hz2⟩ := info_parts Tryz.infoInts
  subst hn
  obtain ⟨vs, hvl, hrow, hin, hrows, hap⟩ := hown
  have hu1 : u.oneCell' = true := by
    rcases own_view hu with ⟨rfl, _⟩ | ⟨g', cap', rfl, _⟩ <;> rfl
  have hnews : ∀ j z, ([u] : List Value)[j]? = some z → w.cell? (ad.add j) = some z := by
    intro j z hj
    match j, hj with
    | 0, hj =>
      simp at hj
      subst hj
      simpa [Addr.add] using hc
  obtain ⟨v', w', hru, ho', hg', hnil, hb'⟩ := run_append_own_at (P := Tryz.prog) (w := w) B 91 ty 26 i0 (.slice none 0 0) 1 24 Tryz.underlying91 hi hz0 hz1 hz2 rfl (by decide) _ xss.length vs hrow ad 1 1 [u] rfl hnews (fun z hz => by simp at hz; subst hz; exact hu1) (by unfold maxLen; omega) (by omega) (by omega)
  rcases ho'.2 with ⟨rfl, h2⟩ | ⟨g', cap', cur, rfl, hB', hg2, rest⟩
  · omega
  · have hg2s : g' < w'.heap.size := (Array.getElem?_eq_some_iff.1 hg2).1
    refine ⟨g', cap', w', hru, ?_, hg'⟩
    have hne : ∀ z : Value, ∀ zs : List Int, Own w B z zs → z.ownBlock = none ∨ z.ownBlock ≠ v.ownBlock := by
      intro z zs hz
      rcases hrow.2 with ⟨rfl, _⟩ | ⟨g3, cap3, cur3, rfl, _, hg3, _⟩
      · cases e : z.ownBlock with
        | none => exact .inl rfl
        | some k => exact .inr (by simp [Value.ownBlock])
      · exact ownsRow_ne_type hz (b := g3) hg3 (by decide)
    refine ⟨vs ++ [u], by simp [hvl], by simpa using ho', fun k hk => by simp [Value.ownBlock] at hk; omega, ?_, ?_⟩
    · intro i hi'
      simp at hi'
      by_cases hil : i < xss.length
      · rw [getD_snocV_lt _ _ _ _ (by omega), getD_snocV_lt _ _ _ _ hil]
        exact ⟨own_grown (hrows i hil).1 hg' (hne _ _ (hrows i hil).1), inB_mono (hrows i hil).2 (Nat.le_refl _) (by have := hg'.size; omega)⟩
      · obtain rfl : i = xss.length := by omega
        rw [getD_snocV_eq]
        have : (vs ++ [u]).getD xss.length undef = u := by rw [← hvl]; exact getD_snocV_eq _ _ _
        rw [this]
        exact ⟨own_grown hu hg' (hne _ _ hu), inB_mono hui hBS hg'.size⟩
    · intro i j hij hj
      simp at hj
      by_cases hjl : j < xss.length
      · rw [getD_snocV_lt _ _ _ _ (by omega), getD_snocV_lt _ _ _ _ (by omega)]
        exact hap i j hij hjl
      · obtain rfl : j = xss.length := by omega
        have : (vs ++ [u]).getD xss.length undef = u := by rw [← hvl]; exact getD_snocV_eq _ _ _
        rw [getD_snocV_lt _ _ _ _ (by omega), this]
        have hi1 := (hrows i hij).2
        cases e1 : (vs.getD i undef).ownBlock with
        | none => exact .inl e1
        | some k =>
          refine .inr fun e => ?_
          rw [e1] at e
          have := hi1 k e1
          have := hui k e.symm
          omega

theorem ownM_row0 {w : World} {B S : Nat} {v : Value} {xss : List (List Int)} (h : OwnM w B S v xss) : ∃ vs, w.ownsRow B 26 1 v xss.length vs := by
  obtain ⟨vs, _, ho, _⟩ := h
  exact ⟨vs, ho⟩

theorem keepsFrom_below {W W' : World} (B : Nat) (h : Below W.heap.size W W') : KeepsFrom B W W' :=
  ⟨h.size, fun k o _ hk _ => by rw [h.block k (Array.getElem?_eq_some_iff.1 hk).1]; exact hk⟩

theorem boxed_below {W W' : World} {b : Nat} {t : TypeId} {v : Value} (h : Boxed W b t v) (hb : Below W.heap.size W W') : Boxed W' b t v := (hb.block b h.lt).trans h

theorem rowAt_ownFrom {β : Type} (n₀ B g : Nat) (L : List Int) : OwnFrom B (fun (_ : β) W => RowAt W g L) := fun s A C row h hg hrow => by
  refine rowAt_block h (hg.block g (rowAt_lt h) ?_)
  intro e
  obtain ⟨_, o, ho, hc⟩ := hrow g e.symm
  rw [show A.heap[g]? = _ from h] at ho
  cases ho
  cases hc

attribute [local go_sem] Oper.semAt_some

section
variable {n l : Nat} {o : Oper} {a : Act} {w : World} {K : Act → World → Prop} {Q : Exit → Act → World → Prop}

theorem wpIn_call1 (f : FuncId) (x : Operand) (t : TypeId) (ho : o.op = .call { callee := .value (.func f), args := #[x], argTypes := #[t] }) (u : Value) (hx : a.eval x = u)
    (R : Ending → World → Prop) (hc : Calls Tryz.prog f #[u] w R) (he : (callFunc f #[u]).run Tryz.prog w = .ok (.enter f #[u]) w) (h : ∀ e w', R e w' → ∃ v, e = .returned v ∧ K (a.put o.dst v) w') : o.wpIn (Fence.wide.inRound l) n Tryz.prog a w K Q := by
  unfold Oper.wpIn
  refine ⟨fun _ _ => trivial, ?_⟩
  rw [Oper.semAt_plain _ _ _ (by rw [ho]; intro c hc'; cases hc')]
  have hcall : (execOp a.eval o).run Tryz.prog w = .ok (.enter f #[u]) w := by
    simp only [execOp, ho, List.map_toArray, List.map_cons, List.map_nil, hx, resolve, invoke, show a.eval (.func f) = .func (.func f) #[] #[] from rfl]
    simp [Deferred.ofValue, he]
  rw [hcall]
  refine ⟨fun hd => by simp [Fence.wide] at hd, ?_⟩
  refine CallsIn.mono (callsIn_wide.2 hc) ?_
  intro e w' hr
  obtain ⟨v, rfl, hk⟩ := h e w' hr
  exact hk
end

theorem wpList_pushV {w : World} {ops : Array Oper} {rest : List Oper} {o : Oper} {a : Act} {Q : Exit → Act → World → Prop} (hgd : o.guard = none) (s x : Operand)
    (ho : o.op = .call { callee := .builtin .append, args := #[s, x], argTypes := #[91, 91] })
    (B S m : Nat) (v : Value) (xss : List (List Int)) (hs : a.eval s = v) (hown : OwnM w B S v xss) (hn : m = xss.length)
    (ad : Addr) (hx : a.eval x = .slice (some ad) 1 1) (u : Value) (ys : List Int) (hc : w.cell? ad = some u) (hu : Own w B u ys) (hui : InB u S w.heap.size) (hBS : B ≤ S) (hSw : S ≤ w.heap.size) (hl : m ≤ 1000000000)
    (h : ∀ g' cap' w', OwnM w' B w'.heap.size (.slice (some ⟨g', 0, none⟩) (m + 1) cap') (xss ++ [ys]) → w.grownBy w' v.ownBlock → wpList Tryz.prog ops Q rest (a.put o.dst (.slice (some ⟨g', 0, none⟩) (m + 1) cap')) w') :
    wpList Tryz.prog ops Q (o :: rest) a w :=
  wpList_plain hgd fun _ hK => by
    obtain ⟨g', cap', w', hru, h1, h2⟩ := run_pushV o.type B S m v xss hown hn ad u ys hc hu hui hBS hSw hl
    unfold Oper.wp execOp
    simp only [ho, resolve, invoke, builtin, Sem.run_bind, Sem.run_pure, Result.andThen_ok, List.map_toArray, List.map_cons, List.map_nil, hs, hx, hru]
    exact hK _ _ (h g' cap' w' h1 h2)

theorem own_two (w : World) (B : Nat) (x y : Int) (hB : B ≤ w.heap.size) : Own (w.alloc (.cells #[.int .i64 x, .int .i64 y] 3)) B (.slice (some ⟨w.heap.size, 0, none⟩) 2 2) [x, y] :=
  ⟨rfl, .inr ⟨w.heap.size, 2, _, rfl, hB, heap_alloc_new w _, Nat.le_refl _, by decide, rfl, rfl⟩⟩
end

def arcsFrom : Nat → List Int → List (Nat × Nat)
  | _, [] => []
  | i, x :: ys => if x ∈ ys then (i, i + 1 + ys.idxOf x) :: arcsFrom (i + 1) ys else arcsFrom (i + 1) ys

def arcsOf (xs : List Int) : List (Nat × Nat) := arcsFrom 0 xs

theorem arcsFrom_yes {i : Nat} {x : Int} {ys : List Int} (h : x ∈ ys) : arcsFrom i (x :: ys) = (i, i + 1 + ys.idxOf x) :: arcsFrom (i + 1) ys := by
  rw [arcsFrom, if_pos h]
theorem arcsFrom_no {i : Nat} {x : Int} {ys : List Int} (h : x ∉ ys) : arcsFrom i (x :: ys) = arcsFrom (i + 1) ys := by
  rw [arcsFrom, if_neg h]

theorem arcsFrom_length : ∀ (xs : List Int) (i : Nat), (arcsFrom i xs).length ≤ xs.length := by
  intro xs
  induction xs with
  | nil => intro i; simp [arcsFrom]
  | cons x ys ih =>
    intro i
    have := ih (i + 1)
    unfold arcsFrom
    split <;> simp <;> omega

theorem arcsFrom_mem : ∀ (xs : List Int) (i : Nat) (p : Nat × Nat), p ∈ arcsFrom i xs →
    i ≤ p.1 ∧ p.1 < p.2 ∧ p.2 < i + xs.length ∧ xs.getD (p.2 - i) 0 = xs.getD (p.1 - i) 0 ∧ ∀ j, p.1 < j → j < p.2 → xs.getD (j - i) 0 ≠ xs.getD (p.1 - i) 0 := by
  intro xs
  induction xs with
  | nil => intro i p h; simp [arcsFrom] at h
  | cons x ys ih =>
    intro i p h
    have hr : p ∈ arcsFrom (i + 1) ys → i ≤ p.1 ∧ p.1 < p.2 ∧ p.2 < i + (x :: ys).length ∧ (x :: ys).getD (p.2 - i) 0 = (x :: ys).getD (p.1 - i) 0 ∧ ∀ j, p.1 < j → j < p.2 → (x :: ys).getD (j - i) 0 ≠ (x :: ys).getD (p.1 - i) 0 := by
      intro hm
      obtain ⟨h1, h2, h3, h4, h5⟩ := ih (i + 1) p hm
      have hs : ∀ j, i + 1 ≤ j → (x :: ys).getD (j - i) 0 = ys.getD (j - (i + 1)) 0 := fun j hj => by
        obtain ⟨t, ht⟩ : ∃ t, j - i = t + 1 := ⟨j - i - 1, by omega⟩
        rw [ht, List.getD_cons_succ, show j - (i + 1) = t by omega]
      refine ⟨by omega, h2, by simp; omega, ?_, fun j hj hk => ?_⟩
      · rw [hs _ (by omega), hs _ (by omega)]; exact h4
      · rw [hs _ (by omega), hs _ (by omega)]; exact h5 j hj hk
    by_cases hx : x ∈ ys
    · rw [arcsFrom_yes hx, List.mem_cons] at h
      rcases h with rfl | h
      · have hlt := List.idxOf_lt_length_of_mem hx
        refine ⟨Nat.le_refl _, by simp; omega, by simp; omega, ?_, fun j hj hk => ?_⟩
        · dsimp only
          rw [show i + 1 + List.idxOf x ys - i = List.idxOf x ys + 1 by omega, List.getD_cons_succ, Nat.sub_self, List.getD_cons_zero]
          simp [List.getD, hlt, List.getElem_idxOf hlt]
        · dsimp only at hj hk ⊢
          obtain ⟨t, ht⟩ : ∃ t, j - i = t + 1 := ⟨j - i - 1, by omega⟩
          rw [ht, List.getD_cons_succ, Nat.sub_self, List.getD_cons_zero]
          have htl : t < List.idxOf x ys := by omega
          have := List.not_of_lt_findIdx (p := (· == x)) (xs := ys) (i := t) (by simpa [List.idxOf] using htl)
          intro he
          simp [List.getD, show t < ys.length by omega] at he
          simp [he] at this
      · exact hr h
    · rw [arcsFrom_no hx] at h
      exact hr h

theorem arcsFrom_sorted : ∀ (xs : List Int) (i : Nat), (arcsFrom i xs).Pairwise (fun p q => p.1 < q.1 ∧ p.2 ≠ q.2) := by
  intro xs
  induction xs with
  | nil => intro i; simp [arcsFrom]
  | cons x ys ih =>
    intro i
    by_cases hx : x ∈ ys
    · rw [arcsFrom_yes hx, List.pairwise_cons]
      refine ⟨fun q hq => ?_, ih _⟩
      obtain ⟨h1, h2, h3, h4, h5⟩ := arcsFrom_mem ys (i + 1) q hq
      refine ⟨by dsimp only; omega, fun he => ?_⟩
      obtain ⟨_, _, _, g4, g5⟩ := arcsFrom_mem (x :: ys) i (i, i + 1 + ys.idxOf x) (by rw [arcsFrom_yes hx]; simp)
      dsimp only at he g4 g5
      refine g5 q.1 (by omega) (by omega) ?_
      rw [← g4, he]
      obtain ⟨t, ht⟩ : ∃ t, q.1 - i = t + 1 := ⟨q.1 - i - 1, by omega⟩
      obtain ⟨s, hs⟩ : ∃ s, q.2 - i = s + 1 := ⟨q.2 - i - 1, by omega⟩
      rw [ht, hs, List.getD_cons_succ, List.getD_cons_succ, show t = q.1 - (i + 1) by omega, show s = q.2 - (i + 1) by omega]
      exact h4.symm
    · rw [arcsFrom_no hx]
      exact ih _

def pairsL (p : Nat × Nat → Nat × Nat → Bool) : List (Nat × Nat) → Nat
  | [] => 0
  | x :: l => l.countP (p x) + pairsL p l

theorem pairsL_snoc (p : Nat × Nat → Nat × Nat → Bool) (y : Nat × Nat) : ∀ l, pairsL p (l ++ [y]) = pairsL p l + l.countP (fun x => p x y) := by
  intro l
  induction l with
  | nil => simp [pairsL]
  | cons x l ih =>
    rw [List.cons_append, pairsL, ih, pairsL, List.countP_append, List.countP_cons (l := l) (a := x)]
    simp only [List.countP_cons, List.countP_nil]
    omega

theorem pairsL_congr (p q : Nat × Nat → Nat × Nat → Bool) : ∀ l : List (Nat × Nat), l.Pairwise (fun x y => p x y = q x y) → pairsL p l = pairsL q l := by
  intro l
  induction l with
  | nil => intro _; rfl
  | cons x l ih =>
    intro h
    rw [List.pairwise_cons] at h
    rw [pairsL, pairsL, ih h.2, List.countP_congr (fun y hy => by rw [h.1 y hy])]

theorem pairsL_le (p : Nat × Nat → Nat × Nat → Bool) : ∀ l : List (Nat × Nat), pairsL p l ≤ l.length * l.length := by
  intro l
  induction l with
  | nil => simp [pairsL]
  | cons x l ih =>
    have := List.countP_le_length (p := p x) (l := l)
    simp only [pairsL, List.length_cons, Nat.add_mul, Nat.mul_add, Nat.one_mul, Nat.mul_one]
    omega

def crossB (x y : Nat × Nat) : Bool := decide (x.1 < y.1) && decide (y.1 < x.2) && decide (x.2 < y.2)
def nestB (x y : Nat × Nat) : Bool := decide (x.1 < y.1) && decide (y.2 < x.2)
def crossS (x y : Nat × Nat) : Bool := decide (y.1 < x.2) && decide (x.2 < y.2)
def nestS (x y : Nat × Nat) : Bool := decide (y.1 < x.2) && !decide (x.2 < y.2)

def crossings (xs : List Int) : Nat := pairsL crossB (arcsOf xs)
def nestings (xs : List Int) : Nat := pairsL nestB (arcsOf xs)

theorem cross_same (xs : List Int) : pairsL crossS (arcsOf xs) = crossings xs := by
  refine pairsL_congr _ _ _ ((arcsFrom_sorted xs 0).imp fun {x y} h => ?_)
  simp [crossS, crossB, h.1]

theorem nest_same (xs : List Int) : pairsL nestS (arcsOf xs) = nestings xs := by
  refine pairsL_congr _ _ _ (List.Pairwise.imp_of_mem (fun {x y} hx hy h => ?_) (arcsFrom_sorted xs 0))
  have := (arcsFrom_mem xs 0 y hy).2.1
  have h1 := h.1
  have h2 := h.2
  simp only [nestS, nestB, h1, decide_true, Bool.true_and]
  rw [Bool.eq_iff_iff]
  simp
  omega

theorem arcsOf_len (xs : List Int) : (arcsOf xs).length ≤ xs.length := arcsFrom_length xs 0

def longL : List (Nat × Nat) → Nat
  | [] => 0
  | p :: l => (p.2 - p.1) + longL l

def rowsOf (l : List (Nat × Nat)) : List (List Int) := l.map fun p => [(p.1 : Int), (p.2 : Int)]

section
open Go.RowKit

def arcV (p : Nat × Nat) : Value := .agg #[.int .i64 p.1, .int .i64 p.2]

theorem crosses_any (p q : Nat × Nat) (w : World) : Calls Tryz.prog 40 #[arcV p, arcV q] w fun e w' => e = .returned (.bool (crossB p q)) ∧ Below w.heap.size w w' := by
  obtain ⟨a, b⟩ := p
  obtain ⟨c, d⟩ := q
  unfold arcV
  by_cases h1 : a < c
  · by_cases h2 : c < b
    · have hr : crossB (a, b) (c, d) = decide (b < d) := by simp [crossB, h1, h2]
      rw [hr]
      go_enter Tryz.func40, Tryz.ntmps40
      go_wp2
      go_ret
      exact ⟨rfl, ((Below.refl _ _).alloc (Nat.le_refl _) _).alloc (by simp) _⟩
    · have hr : crossB (a, b) (c, d) = false := by simp [crossB, h2]
      rw [hr]
      go_enter Tryz.func40, Tryz.ntmps40
      go_wp2
      go_ret
      exact ⟨rfl, ((Below.refl _ _).alloc (Nat.le_refl _) _).alloc (by simp) _⟩
  · have hr : crossB (a, b) (c, d) = false := by simp [crossB, h1]
    rw [hr]
    go_enter Tryz.func40, Tryz.ntmps40
    go_wp2
    go_ret
    exact ⟨rfl, ((Below.refl _ _).alloc (Nat.le_refl _) _).alloc (by simp) _⟩

theorem nests_any (p q : Nat × Nat) (w : World) : Calls Tryz.prog 268 #[arcV p, arcV q] w fun e w' => e = .returned (.bool (nestB p q)) ∧ Below w.heap.size w w' := by
  obtain ⟨a, b⟩ := p
  obtain ⟨c, d⟩ := q
  unfold arcV
  by_cases h1 : a < c
  · have hr : nestB (a, b) (c, d) = decide (d < b) := by simp [nestB, h1]
    rw [hr]
    go_enter Tryz.func268, Tryz.ntmps268
    go_wp2
    go_ret
    exact ⟨rfl, ((Below.refl _ _).alloc (Nat.le_refl _) _).alloc (by simp) _⟩
  · have hr : nestB (a, b) (c, d) = false := by simp [nestB, h1]
    rw [hr]
    go_enter Tryz.func268, Tryz.ntmps268
    go_wp2
    go_ret
    exact ⟨rfl, ((Below.refl _ _).alloc (Nat.le_refl _) _).alloc (by simp) _⟩

def arcC (L : List (Nat × Nat)) : List Value := L.flatMap fun p => [.int .i64 p.1, .int .i64 p.2]

theorem arcC_append (L M : List (Nat × Nat)) : arcC (L ++ M) = arcC L ++ arcC M := by simp [arcC]

theorem arcC_at : ∀ (L : List (Nat × Nat)) (j : Nat), j < L.length → (arcC L)[j * 2]? = some (.int .i64 (L.getD j (0, 0)).1) ∧ (arcC L)[j * 2 + 1]? = some (.int .i64 (L.getD j (0, 0)).2) := by
  intro L
  induction L with
  | nil => intro j h; simp at h
  | cons p L ih =>
    intro j h
    have e : arcC (p :: L) = .int .i64 p.1 :: .int .i64 p.2 :: arcC L := rfl
    match j with
    | 0 => rw [e]; simp
    | j + 1 =>
      obtain ⟨h1, h2⟩ := ih j (by simp at h; omega)
      rw [e, show (j + 1) * 2 = j * 2 + 1 + 1 by omega]
      simp only [List.getElem?_cons_succ, List.getD_cons_succ]
      exact ⟨h1, h2⟩

def OwnA (w : World) (B : Nat) (v : Value) (L : List (Nat × Nat)) : Prop := w.ownsRow B 63 2 v L.length (arcC L)

theorem ownA_nil (w : World) (B : Nat) : OwnA w B (.slice none 0 0) [] := World.ownsRow_nil _ _ _ _
theorem ownA_alloc {w : World} {B : Nat} {v : Value} {L : List (Nat × Nat)} (h : OwnA w B v L) (o : Obj) : OwnA (w.alloc o) B v L := World.ownsRow.alloc h o
def RdA (w : World) (v : Value) (L : List (Nat × Nat)) : Prop :=
  ∃ ao cap, v = .slice ao L.length cap ∧ L.length ≤ cap ∧ cap ≤ maxLen ∧ (L = [] ∨ ∃ b, ao = some ⟨b, 0, none⟩ ∧
    ∀ j, j < L.length → w.cell? ⟨b, j * 2, none⟩ = some (.int .i64 (L.getD j (0, 0)).1) ∧ w.cell? ⟨b, j * 2 + 1, none⟩ = some (.int .i64 (L.getD j (0, 0)).2))

theorem ownA_rd {w : World} {B : Nat} {v : Value} {L : List (Nat × Nat)} (h : OwnA w B v L) : RdA w v L := by
  have h0 := h
  rcases h.2 with ⟨hv, hn⟩ | ⟨g, cap, cur, hv, hb, hg, hnc, hcm, hcs, htk⟩
  · have hL := List.eq_nil_of_length_eq_zero hn
    subst hL
    exact ⟨none, 0, hv, Nat.le_refl _, Nat.zero_le _, .inl rfl⟩
  · refine ⟨_, cap, hv, hnc, hcm, .inr ⟨g, rfl, fun j hj => ?_⟩⟩
    obtain ⟨h1, h2⟩ := arcC_at L j hj
    have hc := fun j u h => World.ownsRow.cells h0 (g := g) (by rw [hv]; rfl) j u h
    have e1 := hc _ _ h1
    have e2 := hc _ _ h2
    rw [Addr.add_lit, Nat.zero_add] at e1 e2
    exact ⟨e1, e2⟩

theorem Tryz.infoArc : (Tryz.prog.info? 63).map (fun i => (i.zero, i.size, i.bytes)) = some (some (.agg #[.int .i64 0, .int .i64 0]), 2, 16) := by kernel_rfl

theorem wpList_pushA {w : World} {ops : Array Oper} {rest : List Oper} {o : Oper} {a : Act} {Q : Exit → Act → World → Prop} (hgd : o.guard = none) (s x : Operand)
    (ho : o.op = .call { callee := .builtin .append, args := #[s, x], argTypes := #[64, 64] })
    (B : Nat) (v : Value) (L : List (Nat × Nat)) (hs : a.eval s = v) (hown : OwnA w B v L)
    (g : Nat) (hx : a.eval x = .slice (some ⟨g, 0, none⟩) 1 1) (p : Nat × Nat) (hc1 : w.cell? ⟨g, 0, none⟩ = some (.int .i64 p.1)) (hc2 : w.cell? ⟨g, 1, none⟩ = some (.int .i64 p.2)) (hl : L.length ≤ 1000000000) (hB : B ≤ w.heap.size)
    (h : ∀ v' w', OwnA w' B v' (L ++ [p]) → w.grownBy w' v.ownBlock → wpList Tryz.prog ops Q rest (a.put o.dst v') w') :
    wpList Tryz.prog ops Q (o :: rest) a w := by
  obtain ⟨i0, hi, hz0, hz1, hz2⟩ := info_parts Tryz.infoArc
  refine wpList_append_own w hgd s x 64 ho B 63 i0 (.agg #[.int .i64 0, .int .i64 0]) 2 16 Tryz.underlying64 hi hz0 hz1 hz2 rfl (by decide) v L.length (arcC L) hs hown ⟨g, 0, none⟩ 1 1 [.int .i64 p.1, .int .i64 p.2] hx rfl ?_ ?_ (by unfold maxLen; omega) (by omega) hB ?_
  · intro j u hj
    match j, hj with
    | 0, hj =>
      simp at hj
      subst hj
      simpa [Addr.add] using hc1
    | 1, hj =>
      simp at hj
      subst hj
      simpa [Addr.add] using hc2
  · intro u hu
    simp at hu
    rcases hu with rfl | rfl <;> rfl
  · intro v' w' ho' hg' _
    refine h v' w' ?_ hg'
    unfold OwnA
    rw [arcC_append, List.length_append]
    exact ho'

def FreshA (w : World) (L : List (Nat × Nat)) (e : Ending) (w' : World) : Prop := ∃ v, e = .returned v ∧ OwnA w' w.heap.size v L ∧ Below w.heap.size w w'

theorem rd_drop {w : World} {b off : Nat} {xs : List Int} (h : ∀ j, j < xs.length → w.cell? ⟨b, off + j, none⟩ = some (.int .i64 (xs.getD j 0))) (k : Nat) : Rd w (some ⟨b, off + k, none⟩) (xs.drop k) := by
  refine .inr ⟨b, off + k, rfl, fun j hj => ?_⟩
  simp at hj
  have := h (k + j) (by omega)
  rw [← Nat.add_assoc] at this
  rw [this]
  simp [List.getD]

theorem slicesIndex_nil (ao : Option Addr) (m ca : Nat) (x : Int) (w : World) (hm : m = 0) : Calls Tryz.prog 64 #[.slice ao m ca, .int .i64 x] w fun e w' => e = .returned (.int .i64 (-1)) ∧ w = w' := by
  subst hm
  have := slicesIndex_no ao ca [] x w (.inl rfl) (by simp) (by simp)
  simpa using this

set_option maxHeartbeats 800000 in
theorem arcsOf_any (v : Value) (xs : List Int) (w : World) (hv : RdV w v xs) (hl8 : xs.length ≤ 1000000) : Calls Tryz.prog 41 #[v] w (FreshA w (arcsOf xs)) := by
  obtain ⟨ao, ca, rfl, hx, hlc, hcm⟩ := hv
  obtain ⟨n, hn⟩ : ∃ n, n = xs.length := ⟨_, rfl⟩
  rw [← hn] at hl8 hlc ⊢
  have HN := Lib.hid hn
  clear hn
  have HX := Lib.hid hx
  clear hx
  go_enter Tryz.func41, Tryz.ntmps41
  go_wp2
  go_loopw [3, 10] (fun u i wr => ∃ (k : Nat) (L : List (Nat × Nat)), k ≤ n ∧ i = .int .i64 k ∧ Hid (arcsOf xs = L ++ arcsFrom k (xs.drop k)) ∧ L.length ≤ k ∧ OwnA wr w.heap.size u L ∧ Below w.heap.size w wr)
    (fun _ i _ => n - (intOf i).toNat)
  case atStart => exact ⟨0, [], Nat.zero_le _, rfl, Lib.hid (by simp [arcsOf]), Nat.le_refl _, ownA_nil _ _, Below.refl _ _⟩
  case round =>
    obtain ⟨k, L, hk, rfl, HE, hLk, hown, hbel⟩ := hrel
    by_cases hlt : k < n
    · rcases HX.out with hx | ⟨bb, off, rfl, hcx⟩
      · have := HN.out
        rw [hx] at this
        simp at this
        omega
      have hcx' : ∀ j, j < xs.length → wr.cell? ⟨bb, off + j, none⟩ = some (.int .i64 (xs.getD j 0)) := fun j hj => by
        have := hcx j hj
        rw [hbel.cell (World.block_lt_of_cell? w _ this)]
        exact this
      have hck := hcx' k (by have := HN.out; omega)
      have HD := Lib.hid (rd_drop hcx' (k + 1))
      clear hcx hcx'
      have HDC := Lib.hid (drop_cons xs k (by have := HN.out; omega))
      obtain ⟨x, hx⟩ : ∃ x, x = xs.getD k 0 := ⟨_, rfl⟩
      rw [← hx] at hck HDC
      clear hx
      have HO := Lib.hid hown
      clear hown
      have HL := Lib.hid (show n - (k + 1) = (xs.drop (k + 1)).length by rw [HN.out, List.length_drop])
      by_cases hm : x ∈ xs.drop (k + 1)
      · have hil := List.idxOf_lt_length_of_mem hm
        have HST := Lib.hid (arcsFrom_yes (i := k) hm)
        have hk1 : k + 1 < n := by have := HL.out; omega
        have HM := Lib.hid hm
        rw [← HL.out] at hil
        clear hm
        go_wp2_with fail
        rw [HL.out]
        refine (slicesIndex_any _ _ _ _ _ HD.out (by have := HL.out; omega) HM.out).mono ?_
        rintro e w' ⟨rfl, rfl⟩
        rw [← HL.out]
        obtain ⟨s, hs⟩ : ∃ s, s = (xs.drop (k + 1)).idxOf x := ⟨_, rfl⟩
        rw [← hs] at hil HST ⊢
        clear hs
        have hs0 : (0 : Int) ≤ (s : Int) := by omega
        go_wp2_with (at_builtin; refine wpList_pushA rfl _ _ rfl w.heap.size u3 L rfl (ownA_alloc HO.out _) wr.heap.size rfl (k, k + 1 + s) (by simp) (by simp) (by omega) (by have := hbel.size; simp; omega) ?_; intro v9 w9 ho9 hg9)
        have hb9 : Below w.heap.size w w9 := (hbel.alloc hbel.size _).grown hg9 (by have := hbel.size; simp; omega) fun j hj => (World.ownsRow.lt HO.out j hj).1
        go_roundw
        case rel => exact ⟨k + 1, L ++ [(k, k + 1 + s)], by omega, by go_num, Lib.hid (by rw [HE.out, HDC.out, HST.out, List.append_assoc]; rfl), by simp; omega, ho9, hb9⟩
        case measure => simp [intOf]; omega
      · have HST := Lib.hid (arcsFrom_no (i := k) hm)
        have HM := Lib.hid (show ∀ j, j < (xs.drop (k + 1)).length → (xs.drop (k + 1)).getD j 0 ≠ x from fun j hj e => hm (mem_of_getD hj e))
        clear hm
        by_cases hk1 : k + 1 < n
        · go_wp2_with fail
          rw [HL.out]
          refine (slicesIndex_no _ _ _ _ _ HD.out (by have := HL.out; omega) HM.out).mono ?_
          rintro e w' ⟨rfl, rfl⟩
          rw [← HL.out]
          go_wp2
          go_roundw
          case rel => exact ⟨k + 1, L, by omega, by go_num, Lib.hid (by rw [HE.out, HDC.out, HST.out]), by omega, HO.out, hbel⟩
          case measure => simp [intOf]; omega
        · by_cases hca : ca = k + 1
          · subst hca
            go_wp2_with fail
            refine (slicesIndex_nil _ _ _ _ _ (by omega)).mono ?_
            rintro e w' ⟨rfl, rfl⟩
            go_wp2
            go_roundw
            case rel => exact ⟨k + 1, L, by omega, by go_num, Lib.hid (by rw [HE.out, HDC.out, HST.out]), by omega, HO.out, hbel⟩
            case measure => simp [intOf]; omega
          · go_wp2_with fail
            refine (slicesIndex_nil _ _ _ _ _ (by omega)).mono ?_
            rintro e w' ⟨rfl, rfl⟩
            go_wp2
            go_roundw
            case rel => exact ⟨k + 1, L, by omega, by go_num, Lib.hid (by rw [HE.out, HDC.out, HST.out]), by omega, HO.out, hbel⟩
            case measure => simp [intOf]; omega
    · have hkn : k = n := by omega
      subst hkn
      go_wp2
      go_ret
      have he := HE.out
      rw [HN.out, List.drop_length] at he
      rw [he]
      simp only [arcsFrom, List.append_nil]
      exact ⟨_, rfl, hown, hbel⟩
end

section
open Go.RowKit

def ArcFn (f : FuncId) (pr : Nat × Nat → Nat × Nat → Bool) : Prop :=
  ∀ (p q : Nat × Nat) (w : World), Calls Tryz.prog f #[arcV p, arcV q] w fun e w' => e = .returned (.bool (pr p q)) ∧ Below w.heap.size w w'
def IsFn (f : FuncId) : Prop := ∀ (args : Array Value) (w : World), (callFunc f args).run Tryz.prog w = .ok (.enter f args) w

theorem take_snocA (L : List (Nat × Nat)) (k : Nat) (h : k < L.length) : L.take (k + 1) = L.take k ++ [L.getD k (0, 0)] := by
  rw [List.take_add_one, List.getElem?_eq_getElem h]
  simp [List.getD, h]

theorem pairwise_lt {L : List (Nat × Nat)} (h : L.Pairwise (fun p q => p.1 < q.1)) (k j : Nat) (hk : k < j) (hj : j < L.length) : (L.getD k (0, 0)).1 < (L.getD j (0, 0)).1 := by
  have := List.pairwise_iff_getElem.1 h k j (by omega) hj hk
  simpa [List.getD, hj, show k < L.length by omega] using this

set_option maxHeartbeats 4000000 in
theorem pairsThat_any (f : FuncId) (pr : Nat × Nat → Nat × Nat → Bool) (hf : ArcFn f pr) (hi : IsFn f) (v : Value) (L : List (Nat × Nat)) (w : World) (hv : RdA w v L)
    (hp : L.Pairwise (fun p q => p.1 < q.1)) (hl : L.length ≤ 990) : Calls Tryz.prog 39 #[.func (.func f) #[] #[], v] w (GivesI w (pairsL pr L)) := by
  obtain ⟨ao, ca, rfl, hlc, hcm, hx⟩ := hv
  obtain ⟨n, hn⟩ : ∃ n, n = L.length := ⟨_, rfl⟩
  rw [← hn] at hl hlc ⊢
  have HN := Lib.hid hn
  clear hn
  have HX := Lib.hid hx
  have HF := Lib.hid hf
  have HP := Lib.hid hp
  clear hp
  have HI := Lib.hid hi
  clear hx hf hi
  go_enter Tryz.func39, Tryz.ntmps39
  go_wp2
  go_step3
  go_wp2
  go_step3
  go_wp2
  go_loopg [5, 12] n (fun g c i wr => ∃ (j s : Nat), j + g = n ∧ i = .int .i64 j ∧ c = .int .i64 s ∧ Hid (s = pairsL pr (L.take j)) ∧ Below w.heap.size w wr)
  case atStart => exact ⟨0, 0, by omega, rfl, rfl, Lib.hid (by simp [pairsL]), Below.refl _ _⟩
  case round =>
    obtain ⟨j, s, hjg, rfl, rfl, HS, hbel⟩ := hrel
    cases gk with
    | zero =>
      have hjn : j = n := by omega
      have hr : pairsL pr L = s := by rw [HS.out, hjn, HN.out, List.take_length]
      go_wp2
      rw [Exit.noGoto_ret]
      go_ret
      rw [hr]
      exact ⟨rfl, hbel⟩
    | succ g =>
      have hlt : j < n := by omega
      rcases HX.out with hx | ⟨bb, rfl, hcx⟩
      · have := HN.out
        rw [hx] at this
        simp at this
        omega
      obtain ⟨hc1, hc2⟩ := hcx j (by have := HN.out; omega)
      rw [← hbel.cell (World.block_lt_of_cell? w _ hc1)] at hc1
      rw [← hbel.cell (World.block_lt_of_cell? w _ hc2)] at hc2
      obtain ⟨⟨a, b⟩, hy⟩ : ∃ y, y = L.getD j (0, 0) := ⟨_, rfl⟩
      rw [← hy] at hc1 hc2
      have HY := Lib.hid hy
      dsimp only at hc1 hc2
      clear hy
      have HCX := Lib.hid hcx
      clear hcx
      go_wp2
      obtain ⟨W, hW⟩ : ∃ W, W = wr.alloc (.cells #[.int .i64 a, .int .i64 b] 63) := ⟨_, rfl⟩
      have hWs : W.heap.size = wr.heap.size + 1 := by rw [hW]; simp
      have hb0 : W.heap[wr.heap.size]? = some (.cells #[.int .i64 a, .int .i64 b] 63 (0, 0)) := by rw [hW]; exact heap_alloc_new _ _
      have hbW : Below w.heap.size w W := by rw [hW]; exact hbel.alloc hbel.size _
      have HWB := Lib.hid hbW
      have hrs : w.heap.size ≤ wr.heap.size := hbel.size
      obtain ⟨B, hB⟩ : ∃ B, B = wr.heap.size := ⟨_, rfl⟩
      rw [← hW]
      rw [← hB] at hb0 hWs hrs ⊢
      have HB0 := Lib.hid hb0
      clear hW hbW hbel hb0 hc1 hc2 hB
      go_loopg [5, 18] j (fun g2 c i wx => ∃ (k s2 : Nat), k + g2 = j ∧ i = .int .i64 k ∧ c = .int .i64 s2 ∧ Hid (s2 = s + (L.take k).countP fun x => pr x (L.getD j (0, 0))) ∧ Below W.heap.size W wx)
      case atStart => exact ⟨0, s, by omega, rfl, rfl, Lib.hid (by simp), Below.refl _ _⟩
      case round =>
        obtain ⟨k, s2, hkg, rfl, rfl, HS2, hbel2⟩ := hrel
        have hbx := HWB.out.trans (hbel2.mono (by omega))
        have hkj : k ≤ j := by omega
        obtain ⟨hc1, hc2⟩ := HCX.out k (by have := HN.out; omega)
        rw [← hbx.cell (World.block_lt_of_cell? w _ hc1)] at hc1
        rw [← hbx.cell (World.block_lt_of_cell? w _ hc2)] at hc2
        have hBc : wr.heap[B]? = some (.cells #[.int .i64 a, .int .i64 b] 63 (0, 0)) := (hbel2.block B (by omega)).trans HB0.out
        have hB1 : wr.cell? ⟨B, 0, none⟩ = some (.int .i64 a) := by simp [World.cell?, hBc]
        have hB2 : wr.cell? ⟨B, 1, none⟩ = some (.int .i64 b) := by simp [World.cell?, hBc]
        have hBl : B < wr.heap.size := (Array.getElem?_eq_some_iff.1 hBc).1
        clear hBc
        cases gk with
        | zero =>
          have hkj : k = j := by omega
          subst hkj
          rw [← HY.out] at hc1 hc2
          dsimp only at hc1 hc2
          go_wp2
          go_roundg g
          case measure => omega
          case rel =>
            refine ⟨k + 1, s2, by omega, by go_num, rfl, Lib.hid ?_, hbx.alloc hbx.size _⟩
            rw [HS2.out, take_snocA L k (by have := HN.out; omega), pairsL_snoc, HS.out]
        | succ g2 =>
          have hlt2 := pairwise_lt HP.out k j (by omega) (by have := HN.out; omega)
          rw [← HY.out] at hlt2
          obtain ⟨⟨c, d⟩, hz⟩ : ∃ y, y = L.getD k (0, 0) := ⟨_, rfl⟩
          rw [← hz] at hc1 hc2 hlt2
          have HZ := Lib.hid hz
          dsimp only at hc1 hc2 hlt2
          clear hz
          have hne : ¬ (c = a) := by omega
          have hcf : ∀ (args : Array Value) (w : World), (callFunc f args).run Tryz.prog w = .ok (.enter f args) w := HI.out
          have HXS := Lib.hid hbx
          have hbs := hbx.size
          clear hbx
          cases hpr : pr (c, d) (a, b) with
          | false =>
            have HC := Lib.hid fun (w1 : World) => HF.out (c, d) (a, b) w1
            rw [hpr] at HC
            have HPR := Lib.hid hpr
            clear hpr
            go_wp2_with fail
            refine (HC.out _).mono ?_
            rintro e w5 ⟨rfl, hb5⟩
            have hb6 : Below W.heap.size W w5 := (hbel2.alloc hbel2.size (.cells #[.int .i64 c, .int .i64 d] 63)).trans (hb5.mono (by have := hbel2.size; simp; omega))
            have HB6 := Lib.hid hb6
            clear hb5 hb6
            go_wp2
            go_roundg g2
            case measure => omega
            case rel =>
              refine ⟨k + 1, s2, by omega, by go_num, rfl, Lib.hid ?_, HB6.out⟩
              rw [take_snocA L k (by have := HN.out; omega), List.countP_append, HS2.out, ← HZ.out, ← HY.out]
              simp [HPR.out]
          | true =>
            have hs2 : s2 ≤ 1000000 := by
              have h1 := HS2.out
              have h2 := HS.out
              have h3 := pairsL_le pr (L.take j)
              have h4 : (L.take k).countP (fun x => pr x (L.getD j (0, 0))) ≤ 990 := Nat.le_trans List.countP_le_length (by simp; omega)
              have h5 : (L.take j).length ≤ 990 := by simp; omega
              have h6 := Nat.mul_le_mul h5 h5
              omega
            have HC := Lib.hid fun (w1 : World) => HF.out (c, d) (a, b) w1
            rw [hpr] at HC
            have HPR := Lib.hid hpr
            clear hpr
            go_wp2_with fail
            refine (HC.out _).mono ?_
            rintro e w5 ⟨rfl, hb5⟩
            have hb6 : Below W.heap.size W w5 := (hbel2.alloc hbel2.size (.cells #[.int .i64 c, .int .i64 d] 63)).trans (hb5.mono (by have := hbel2.size; simp; omega))
            have HB6 := Lib.hid hb6
            clear hb5 hb6
            go_wp2
            go_roundg g2
            case measure => omega
            case rel =>
              refine ⟨k + 1, s2 + 1, by omega, by go_num, by go_num, Lib.hid ?_, HB6.out⟩
              rw [take_snocA L k (by have := HN.out; omega), List.countP_append, HS2.out, ← HZ.out, ← HY.out]
              simp [HPR.out]
              omega

theorem cross_fn : IsFn 40 := fun args w => by kernel_rfl
theorem nest_fn : IsFn 268 := fun args w => by kernel_rfl
theorem cross_arc : ArcFn 40 crossB := crosses_any
theorem nest_arc : ArcFn 268 nestB := nests_any
end

section
open Go.RowKit Go.Shelf

attribute [local go_sem] Oper.semAt_some

section
variable {n l : Nat} {o : Oper} {a : Act} {w : World} {K : Act → World → Prop} {Q : Exit → Act → World → Prop}

theorem wpIn_loadF {F : Fence} (x : Operand) (ho : o.op = .load 179 x) (B : Nat) (v : Value) (hv : Boxed w B 179 v) (hx : a.eval x = .pointer (some ⟨B, 0, none⟩)) (h : K (a.put o.dst v) w) : o.wpIn F n Tryz.prog a w K Q := by
  have hr : (Instr.loadAt 179 (.pointer (some ⟨B, 0, none⟩))).run Tryz.prog w = .ok v w := by
    have hc := hv.cell
    simp [go_sem, hc]
  unfold Oper.wpIn
  refine ⟨by simp [Oper.about, ho], ?_⟩
  rw [Oper.semAt_plain F _ _ (by rw [ho]; intro c hc; cases hc)]
  simp only [execOp, ho, hx, Sem.run_bind, hr, Sem.run_pure, Result.andThen_ok]
  exact h

theorem wpIn_callF (f : FuncId) (caps : Array Value) (s x : Operand) (t : TypeId) (ho : o.op = .call { callee := .value s, args := #[x], argTypes := #[t] }) (hs : a.eval s = .func (.func f) #[] caps) (u : Value) (hx : a.eval x = u)
    (R : Ending → World → Prop) (hc : Calls Tryz.prog f (#[u] ++ caps) w R) (he : (callFunc f (#[u] ++ caps)).run Tryz.prog w = .ok (.enter f (#[u] ++ caps)) w) (h : ∀ e w', R e w' → ∃ v, e = .returned v ∧ K (a.put o.dst v) w') : o.wpIn (Fence.wide.inRound l) n Tryz.prog a w K Q := by
  unfold Oper.wpIn
  refine ⟨fun _ _ => trivial, ?_⟩
  rw [Oper.semAt_plain _ _ _ (by rw [ho]; intro c hc'; cases hc')]
  have hcall : (execOp a.eval o).run Tryz.prog w = .ok (.enter f (#[u] ++ caps)) w := by
    simp only [execOp, ho, List.map_toArray, List.map_cons, List.map_nil, hx, hs, resolve, invoke]
    simp [Deferred.ofValue, he]
  rw [hcall]
  refine ⟨fun hd => by simp [Fence.wide] at hd, ?_⟩
  refine CallsIn.mono (callsIn_wide.2 hc) ?_
  intro e w' hr
  obtain ⟨v, rfl, hk⟩ := h e w' hr
  exact hk
end

def FitFn (f : FuncId) (caps : Array Value) (w0 : World) (p : List (Nat × Nat) → Bool) : Prop :=
  ∀ (xs : List Int) (W : World) (u : Value), partIn xs = true → Below w0.heap.size w0 W → RdA W u (arcsOf xs) → Calls Tryz.prog f (#[u] ++ caps) W fun e W' => e = .returned (.bool (p (arcsOf xs))) ∧ Below W.heap.size W W'

def cntP (p : List (Nat × Nat) → Bool) (c : Nat) (pre : List Nat) : Nat := (pre.map fun q => atL c (q : Nat)).countP fun xs => p (arcsOf xs)

theorem cntP_snoc (p : List (Nat × Nat) → Bool) (c x : Nat) (pre : List Nat) : cntP p c (pre ++ [x]) = cntP p c pre + if p (arcsOf (atL c (x : Nat))) then 1 else 0 := by
  simp [cntP, List.countP_cons]

def HoldsN (p : List (Nat × Nat) → Bool) (c n₀ B Bf : Nat) (fv : Value) (w : World) (pre : List Nat) (W : World) : Prop :=
  Boxed W B 3 (.int .i64 (cntP p c pre : Nat)) ∧ Boxed W Bf 179 fv ∧ Below n₀ w W

theorem boxedAt_ownFrom {β : Type} (B b : Nat) (t : TypeId) (f : β → Value) : OwnFrom B (fun (s : β) W => Boxed W b t (f s)) := fun s A C row h hg hrow => by
  refine (hg.block b (Array.getElem?_eq_some_iff.1 h).1 ?_).trans h
  intro e
  obtain ⟨_, o, ho, hc⟩ := hrow b e.symm
  rw [show A.heap[b]? = _ from h] at ho
  cases ho
  cases hc

theorem holdsN_own (p : List (Nat × Nat) → Bool) (c n₀ B Bf m : Nat) (fv : Value) (w : World) (hn : n₀ ≤ w.heap.size) (hm : n₀ ≤ m) : OwnFrom m (HoldsN p c n₀ B Bf fv w) :=
  OwnFrom.and (boxedAt_ownFrom m B _ _) (OwnFrom.and (boxedAt_ownFrom m Bf _ _) (ownFrom_below hn hm))

theorem holdsN_below {p : List (Nat × Nat) → Bool} {c n₀ B Bf : Nat} {fv : Value} {w : World} {pre : List Nat} {W W' : World} (hn : n₀ ≤ w.heap.size) (h : HoldsN p c n₀ B Bf fv w pre W) (hb : Below W.heap.size W W') : HoldsN p c n₀ B Bf fv w pre W' :=
  ⟨boxed_below h.1 hb, boxed_below h.2.1 hb, h.2.2.trans (hb.mono (Nat.le_trans hn h.2.2.size))⟩

theorem linesThat_no (p : List (Nat × Nat) → Bool) (c n₀ m : Nat) {B Bf x : Nat} {fv : Value} {w W w7 : World} {pre : List Nat} (hn : n₀ ≤ w.heap.size) (h : HoldsN p c n₀ B Bf fv w pre W) (hb : Below W.heap.size W w7) (hp : p (arcsOf (atL c (x : Nat))) = false) :
    KeepsFrom m W w7 ∧ KpL n₀ W w7 ∧ HoldsN p c n₀ B Bf fv w (pre ++ [x]) w7 := by
  refine ⟨keepsFrom_below _ hb, ⟨hb.mono (Nat.le_trans hn h.2.2.size), keepL_below hb⟩, ?_⟩
  obtain ⟨h1, h2⟩ := holdsN_below hn h hb
  refine ⟨?_, h2⟩
  rw [cntP_snoc, hp]
  exact h1

theorem linesThat_yes (p : List (Nat × Nat) → Bool) (c n₀ m : Nat) {B Bf x : Nat} {fv : Value} {w W w7 : World} {pre : List Nat} (hn : n₀ ≤ w.heap.size) (hB : n₀ ≤ B) (hne : Bf ≠ B) (h : HoldsN p c n₀ B Bf fv w pre W) (hb : Below W.heap.size W w7) (hp : p (arcsOf (atL c (x : Nat))) = true) :
    KeepsFrom m W (w7.setCell ⟨B, 0, none⟩ (.int .i64 ((cntP p c pre : Nat) + 1))) ∧ KpL n₀ W (w7.setCell ⟨B, 0, none⟩ (.int .i64 ((cntP p c pre : Nat) + 1))) ∧ HoldsN p c n₀ B Bf fv w (pre ++ [x]) (w7.setCell ⟨B, 0, none⟩ (.int .i64 ((cntP p c pre : Nat) + 1))) := by
  have hbn : Below n₀ W w7 := hb.mono (Nat.le_trans hn h.2.2.size)
  obtain ⟨h1, h2, h3⟩ := holdsN_below hn h hb
  refine ⟨(keepsFrom_below _ hb).trans ((KeepsOthers.setCell _ _ _).from m), ⟨hbn.setCell (p := ⟨B, 0, none⟩) hB _, (keepL_below hb).trans fun g L r => ?_⟩, ?_, h2.other hne _, h3.setCell (p := ⟨B, 0, none⟩) hB _⟩
  · refine rowAt_block r (heap_setCell_other w7 ⟨B, 0, none⟩ g _ ?_)
    intro e
    simp at e
    subst e
    have hb2 : w7.heap[g]? = some (.cells #[.int .i64 (cntP p c pre : Nat)] 3 (0, 0)) := h1
    have hr2 : w7.heap[g]? = some (.cells (rowC L) 55 (0, 0)) := r
    rw [hr2] at hb2
    simp at hb2
  · rw [cntP_snoc, hp]
    simpa using h1.set (.int .i64 ((cntP p c pre : Nat) + 1))

theorem cntP_le (p : List (Nat × Nat) → Bool) (c : Nat) (pre : List Nat) : cntP p c pre ≤ pre.length := by
  have := List.countP_le_length (p := fun xs => p (arcsOf xs)) (l := pre.map fun q => atL c (q : Nat))
  rwa [List.length_map] at this

set_option maxHeartbeats 3200000 in
theorem linesThat_in (n : Nat) (hn : 3 ≤ n) (c : Nat) (f : FuncId) (caps : Array Value) (p : List (Nat × Nat) → Bool) (w : World) (hc1 : 1 ≤ c) (hc7 : c ≤ 7) (hfit : FitFn f caps w p) (hfe : IsFn f) :
    CallsIn Fence.wide n Tryz.prog 253 #[.func (.func f) #[] caps, .int .i64 c] w (GivesI w (cntP p c (List.range (opn c 0).toNat) : Nat)) := by
  have h1 : 1 ≤ n := by omega
  have HFT := Lib.hid hfit
  have HEF := Lib.hid hfe
  clear hfit hfe
  refine callsIn_of_wp_marks Tryz.func253 rfl trivial ?_ rfl
  simp only [Tryz.ntmps253, List.size_toArray, List.length_cons, List.length_nil, Nat.reduceAdd, Nat.reduceSub, Array.replicate_succ, Array.replicate_zero, List.push_toArray, List.append_toArray, List.nil_append, List.cons_append]
  gi_wp2_with (first | (refine ⟨trivial, ?_⟩; gi_at_call 287; refine (linesOf_in _ _ _).mono ?_; rintro e w' ⟨rfl, rfl⟩))
  have bF := Boxed.new w 179 (.func (.func f) #[] caps)
  have bO := Boxed.new (w.alloc (.cells #[.func (.func f) #[] caps] 179)) 3 (.int .i64 0)
  obtain ⟨W2, hW2⟩ : ∃ W2, W2 = (w.alloc (.cells #[.func (.func f) #[] caps] 179)).alloc (.cells #[.int .i64 0] 3) := ⟨_, rfl⟩
  have hsz2 : W2.heap.size = w.heap.size + 1 + 1 := by rw [hW2]; simp
  have hB2 : Below w.heap.size w W2 := by rw [hW2]; exact below_new2 w _ _
  have bF2 : Boxed W2 w.heap.size 179 (.func (.func f) #[] caps) := by rw [hW2]; exact bF.alloc _
  have bO2 : Boxed W2 (w.heap.size + 1) 3 (.int .i64 0) := by rw [hW2]; simpa using bO
  rw [← hW2]
  have bN := Boxed.new W2 3 (.int .i64 c)
  rw [hsz2] at bN
  have hI0 : HoldsN p c w.heap.size (w.heap.size + 1) w.heap.size (.func (.func f) #[] caps) w [] W2 := ⟨bO2, bF2, hB2⟩
  have hI1 := holdsN_below (Nat.le_refl _) hI0 ((Below.refl W2.heap.size W2).alloc (Nat.le_refl _) (.cells #[.int .i64 c] 3))
  clear hW2 bO hI0 bF bF2 bO2
  refine wpIn_rangeFunc_ownH rfl h1 (gf := 304) (lb := #[.pointer (some ⟨w.heap.size + 1 + 1, 0, none⟩)]) rfl trivial (enters_of Tryz.func304 (by kernel_rfl) rfl)
    (lines_stops (n - 1) (by omega) (w.heap.size + 1 + 1) w.heap.size c hc1 (by omega) _ (by simp; omega) bN.cell) kpL_t (kpL_b (by simp; omega)) (Below.refl _ _) (fun _ => rfl)
    (HoldsN p c w.heap.size (w.heap.size + 1) w.heap.size (.func (.func f) #[] caps) w)
    (fun _ _ _ => False)
    (holdsN_own _ _ _ _ _ _ _ _ (Nat.le_refl _) (by simp; omega))
    (fun _ _ _ _ _ hs _ _ => hs)
    hI1
    (fun x a' W => ∃ g, a' = { tmps := #[.func (.func f) #[] caps, .int .i64 c, .pointer (some ⟨w.heap.size, 0, none⟩), undef, .int .i64 0, .pointer (some ⟨w.heap.size + 1, 0, none⟩), .pointer (some ⟨g, 0, none⟩), .int .i64 c, .func (.func 304) #[] #[.pointer (some ⟨w.heap.size + 1 + 1, 0, none⟩)], .agg (rowC (ln (atL c (x : Int)))), undef, undef, undef, undef, undef, undef, undef, undef], defers := [] } ∧ RowAt W g (ln (atL c (x : Int))) ∧ w.heap.size ≤ g)
    (fun x a' => fun s A C row ⟨g, e, hr, hg⟩ hgr hrow => ⟨g, e, rowAt_ownFrom (β := Unit) 0 _ g _ s A C row hr hgr hrow, hg⟩) ?assign ?body ?done ?stop
  case assign =>
    intro l pre x W K hI hK
    have hz : RowAt (W.alloc (.cells #[.int .i64 0, .int .i64 0, .int .i64 0, .int .i64 0, .int .i64 0, .int .i64 0, .int .i64 0, .int .i64 0] 55)) W.heap.size (List.replicate 8 0) := heap_alloc_new W _
    have HZ := Lib.hid hz
    have HLX := Lib.hid (ln_length (xs := atL c (x : Int)) (by rw [atL_length]; omega))
    have HB := Lib.hid ((Below.refl W.heap.size W).alloc (Nat.le_refl _) (.cells #[.int .i64 0, .int .i64 0, .int .i64 0, .int .i64 0, .int .i64 0, .int .i64 0, .int .i64 0, .int .i64 0] 55))
    have hBW := hI.2.2.size
    have HI := Lib.hid hI
    clear hz hI
    gi_wp2_with (first | (refine wpListIn_storeL rfl _ _ rfl W.heap.size _ rfl rfl (List.replicate 8 0) rfl HLX.out HZ.out ?_; intro w3 hg3 ht3; have HG3 := Lib.hid hg3; have HB3 := Lib.hid (HB.out.trans (touch_below ht3 (Nat.le_refl _))); clear hg3 ht3))
    exact hK _ _ (keepsFrom_below _ HB3.out) ⟨HB3.out.mono hBW, keepL_below HB3.out⟩ (holdsN_below (Nat.le_refl _) HI.out HB3.out) ⟨W.heap.size, rfl, HG3.out, hBW⟩
  case body =>
    rintro l pre x a' W hl hloop hH ⟨g, rfl, hr, hg⟩ hlt
    have HH := Lib.hid hH
    obtain ⟨hcb, hfb, hB⟩ := hH
    have hBW := hB.size
    have hpx : partIn (atL c (x : Int)) = true := atL_partIn_any c x hc1 (by omega)
    have HLX := Lib.hid (ln_length (xs := atL c (x : Int)) (by rw [atL_length]; omega))
    have HLL := Lib.hid fun (w5 : World) => lineList_f (atL c (x : Int)) w5 hpx
    have HAO := Lib.hid fun (u : Value) (w5 : World) (hu : RdV w5 u (atL c (x : Int))) => arcsOf_any u (atL c (x : Int)) w5 hu (by rw [atL_length]; omega)
    have HFX := Lib.hid fun (w6 : World) (u : Value) (h1 : Below w.heap.size w w6) (h2 : RdA w6 u (arcsOf (atL c (x : Int)))) => HFT.out (atL c (x : Int)) w6 u hpx h1 h2
    have HEN := Lib.hid (enters_of Tryz.func228 (by kernel_rfl) rfl)
    have HEA := Lib.hid (enters_of Tryz.func41 (by kernel_rfl) rfl)
    have hpl : cntP p c pre ≤ 4140 := by
      have h1 := opn_bd c 0 (by omega) (by omega)
      have h2 := cntP_le p c pre
      omega
    obtain ⟨q, hq⟩ : ∃ q, q = cntP p c pre := ⟨_, rfl⟩
    rw [← hq] at hcb hpl
    have HQ := Lib.hid hq
    have hf0 : Boxed W.drew w.heap.size 179 (.func (.func f) #[] caps) := hfb
    have hr0 : RowAt W.drew g (ln (atL c (x : Int))) := hr
    clear hpx hq
    cases hpp : p (arcsOf (atL c (x : Int))) with
    | true =>
      rw [hpp] at HFX
      have HPP := Lib.hid hpp
      clear hpp
      gi_wp2
      refine wpIn_region_any (by kernel_rfl) ?_
      change wpAnyIn _ _ _ _ _ _ _ _ _ (World.drew _)
      refine wpAnyIn_ready (rs := [0, 1]) (by kernel_rfl) (by simp) (AllReadyIn.cons rfl (fun K hK => ?_) (AllReadyIn.cons rfl (fun K hK => ?_) AllReadyIn.nil))
      · rw [if_pos (by rfl)]
        refine wpIn_loadF _ rfl _ _ hf0 rfl (hK _ _ ?_)
        clear hK K
        simp only [Act.put, List.setIfInBounds_toArray, List.set_cons_zero, List.set_cons_succ, List.getElem_toArray, List.getElem_cons_zero, List.getElem_cons_succ]
        refine wpAnyIn_ready (rs := [1]) (by kernel_rfl) (by simp) (AllReadyIn.cons rfl (fun K hK => ?_) AllReadyIn.nil)
        rw [if_pos (by rfl)]
        refine wpIn_loadL _ rfl g rfl _ HLX.out hr0 (hK _ _ ?_)
        clear hK K
        simp only [Act.put, List.setIfInBounds_toArray, List.set_cons_zero, List.set_cons_succ, List.getElem_toArray, List.getElem_cons_zero, List.getElem_cons_succ]
        refine wpAnyIn_ready (rs := [2]) (by kernel_rfl) (by simp) (AllReadyIn.cons rfl (fun K hK => ?_) AllReadyIn.nil)
        rw [if_pos (by rfl)]
        refine wpIn_call1 228 _ _ rfl _ rfl _ (HLL.out W.drew) (HEN.out _ _) ?_
        rintro e w5 ⟨u, rfl, hu, hb5⟩
        refine ⟨_, rfl, hK _ _ ?_⟩
        have hb5 : Below W.heap.size W w5 := (below_drewN (Below.refl _ W) 1).trans hb5
        have hf5 := boxed_below hfb hb5
        clear hK K
        simp only [Act.put, List.setIfInBounds_toArray, List.set_cons_zero, List.set_cons_succ, List.getElem_toArray, List.getElem_cons_zero, List.getElem_cons_succ]
        refine wpAnyIn_ready (rs := [3]) (by kernel_rfl) (by simp) (AllReadyIn.cons rfl (fun K hK => ?_) AllReadyIn.nil)
        rw [if_pos (by rfl)]
        refine wpIn_call1 41 _ _ rfl _ rfl _ (HAO.out u w5 (own_rdv hu)) (HEA.out _ _) ?_
        rintro e w6 ⟨ua, rfl, hua, hb6⟩
        refine ⟨_, rfl, hK _ _ ?_⟩
        have hb6 : Below W.heap.size W w6 := hb5.trans (hb6.mono hb5.size)
        have hf6 := boxed_below hfb hb6
        clear hK K
        simp only [Act.put, List.setIfInBounds_toArray, List.set_cons_zero, List.set_cons_succ, List.getElem_toArray, List.getElem_cons_zero, List.getElem_cons_succ]
        refine wpAnyIn_ready (rs := [4]) (by kernel_rfl) (by simp) (AllReadyIn.cons rfl (fun K hK => ?_) AllReadyIn.nil)
        rw [if_pos (by rfl)]
        refine wpIn_callF f caps _ _ _ rfl rfl _ rfl _ (HFX.out w6 ua (hB.trans (hb6.mono hBW)) (ownA_rd hua)) (HEF.out _ _) ?_
        rintro e w7 ⟨rfl, hb7⟩
        refine ⟨_, rfl, hK _ _ ?_⟩
        have hb7 : Below W.heap.size W w7 := hb6.trans (hb7.mono hb6.size)
        clear hK K
        simp only [Act.put, List.setIfInBounds_toArray, List.set_cons_zero, List.set_cons_succ, List.getElem_toArray, List.getElem_cons_zero, List.getElem_cons_succ]
        refine wpAnyIn_done (by kernel_rfl) ?_ _
        have hcb7 := boxed_below hcb hb7
        have hc7 := hcb7.cell
        have hz7 := hcb7.frozen
        gi_wp2
        rw [HQ.out]
        exact linesThat_yes p c _ _ (Nat.le_refl _) (by omega) (by omega) HH.out hb7 HPP.out
      · rw [if_pos (by rfl)]
        refine wpIn_loadL _ rfl g rfl _ HLX.out hr0 (hK _ _ ?_)
        clear hK K
        simp only [Act.put, List.setIfInBounds_toArray, List.set_cons_zero, List.set_cons_succ, List.getElem_toArray, List.getElem_cons_zero, List.getElem_cons_succ]
        refine wpAnyIn_ready (rs := [0, 2]) (by kernel_rfl) (by simp) (AllReadyIn.cons rfl (fun K hK => ?_) (AllReadyIn.cons rfl (fun K hK => ?_) AllReadyIn.nil))
        · rw [if_pos (by rfl)]
          refine wpIn_loadF _ rfl _ _ hf0 rfl (hK _ _ ?_)
          clear hK K
          simp only [Act.put, List.setIfInBounds_toArray, List.set_cons_zero, List.set_cons_succ, List.getElem_toArray, List.getElem_cons_zero, List.getElem_cons_succ]
          refine wpAnyIn_ready (rs := [2]) (by kernel_rfl) (by simp) (AllReadyIn.cons rfl (fun K hK => ?_) AllReadyIn.nil)
          rw [if_pos (by rfl)]
          refine wpIn_call1 228 _ _ rfl _ rfl _ (HLL.out W.drew) (HEN.out _ _) ?_
          rintro e w5 ⟨u, rfl, hu, hb5⟩
          refine ⟨_, rfl, hK _ _ ?_⟩
          have hb5 : Below W.heap.size W w5 := (below_drewN (Below.refl _ W) 1).trans hb5
          have hf5 := boxed_below hfb hb5
          clear hK K
          simp only [Act.put, List.setIfInBounds_toArray, List.set_cons_zero, List.set_cons_succ, List.getElem_toArray, List.getElem_cons_zero, List.getElem_cons_succ]
          refine wpAnyIn_ready (rs := [3]) (by kernel_rfl) (by simp) (AllReadyIn.cons rfl (fun K hK => ?_) AllReadyIn.nil)
          rw [if_pos (by rfl)]
          refine wpIn_call1 41 _ _ rfl _ rfl _ (HAO.out u w5 (own_rdv hu)) (HEA.out _ _) ?_
          rintro e w6 ⟨ua, rfl, hua, hb6⟩
          refine ⟨_, rfl, hK _ _ ?_⟩
          have hb6 : Below W.heap.size W w6 := hb5.trans (hb6.mono hb5.size)
          have hf6 := boxed_below hfb hb6
          clear hK K
          simp only [Act.put, List.setIfInBounds_toArray, List.set_cons_zero, List.set_cons_succ, List.getElem_toArray, List.getElem_cons_zero, List.getElem_cons_succ]
          refine wpAnyIn_ready (rs := [4]) (by kernel_rfl) (by simp) (AllReadyIn.cons rfl (fun K hK => ?_) AllReadyIn.nil)
          rw [if_pos (by rfl)]
          refine wpIn_callF f caps _ _ _ rfl rfl _ rfl _ (HFX.out w6 ua (hB.trans (hb6.mono hBW)) (ownA_rd hua)) (HEF.out _ _) ?_
          rintro e w7 ⟨rfl, hb7⟩
          refine ⟨_, rfl, hK _ _ ?_⟩
          have hb7 : Below W.heap.size W w7 := hb6.trans (hb7.mono hb6.size)
          clear hK K
          simp only [Act.put, List.setIfInBounds_toArray, List.set_cons_zero, List.set_cons_succ, List.getElem_toArray, List.getElem_cons_zero, List.getElem_cons_succ]
          refine wpAnyIn_done (by kernel_rfl) ?_ _
          have hcb7 := boxed_below hcb hb7
          have hc7 := hcb7.cell
          have hz7 := hcb7.frozen
          gi_wp2
          rw [HQ.out]
          exact linesThat_yes p c _ _ (Nat.le_refl _) (by omega) (by omega) HH.out hb7 HPP.out
        · rw [if_pos (by rfl)]
          refine wpIn_call1 228 _ _ rfl _ rfl _ (HLL.out W.drew) (HEN.out _ _) ?_
          rintro e w5 ⟨u, rfl, hu, hb5⟩
          refine ⟨_, rfl, hK _ _ ?_⟩
          have hb5 : Below W.heap.size W w5 := (below_drewN (Below.refl _ W) 1).trans hb5
          have hf5 := boxed_below hfb hb5
          clear hK K
          simp only [Act.put, List.setIfInBounds_toArray, List.set_cons_zero, List.set_cons_succ, List.getElem_toArray, List.getElem_cons_zero, List.getElem_cons_succ]
          refine wpAnyIn_ready (rs := [0, 3]) (by kernel_rfl) (by simp) (AllReadyIn.cons rfl (fun K hK => ?_) (AllReadyIn.cons rfl (fun K hK => ?_) AllReadyIn.nil))
          · rw [if_pos (by rfl)]
            refine wpIn_loadF _ rfl _ _ hf5 rfl (hK _ _ ?_)
            clear hK K
            simp only [Act.put, List.setIfInBounds_toArray, List.set_cons_zero, List.set_cons_succ, List.getElem_toArray, List.getElem_cons_zero, List.getElem_cons_succ]
            refine wpAnyIn_ready (rs := [3]) (by kernel_rfl) (by simp) (AllReadyIn.cons rfl (fun K hK => ?_) AllReadyIn.nil)
            rw [if_pos (by rfl)]
            refine wpIn_call1 41 _ _ rfl _ rfl _ (HAO.out u w5 (own_rdv hu)) (HEA.out _ _) ?_
            rintro e w6 ⟨ua, rfl, hua, hb6⟩
            refine ⟨_, rfl, hK _ _ ?_⟩
            have hb6 : Below W.heap.size W w6 := hb5.trans (hb6.mono hb5.size)
            have hf6 := boxed_below hfb hb6
            clear hK K
            simp only [Act.put, List.setIfInBounds_toArray, List.set_cons_zero, List.set_cons_succ, List.getElem_toArray, List.getElem_cons_zero, List.getElem_cons_succ]
            refine wpAnyIn_ready (rs := [4]) (by kernel_rfl) (by simp) (AllReadyIn.cons rfl (fun K hK => ?_) AllReadyIn.nil)
            rw [if_pos (by rfl)]
            refine wpIn_callF f caps _ _ _ rfl rfl _ rfl _ (HFX.out w6 ua (hB.trans (hb6.mono hBW)) (ownA_rd hua)) (HEF.out _ _) ?_
            rintro e w7 ⟨rfl, hb7⟩
            refine ⟨_, rfl, hK _ _ ?_⟩
            have hb7 : Below W.heap.size W w7 := hb6.trans (hb7.mono hb6.size)
            clear hK K
            simp only [Act.put, List.setIfInBounds_toArray, List.set_cons_zero, List.set_cons_succ, List.getElem_toArray, List.getElem_cons_zero, List.getElem_cons_succ]
            refine wpAnyIn_done (by kernel_rfl) ?_ _
            have hcb7 := boxed_below hcb hb7
            have hc7 := hcb7.cell
            have hz7 := hcb7.frozen
            gi_wp2
            rw [HQ.out]
            exact linesThat_yes p c _ _ (Nat.le_refl _) (by omega) (by omega) HH.out hb7 HPP.out
          · rw [if_pos (by rfl)]
            refine wpIn_call1 41 _ _ rfl _ rfl _ (HAO.out u w5 (own_rdv hu)) (HEA.out _ _) ?_
            rintro e w6 ⟨ua, rfl, hua, hb6⟩
            refine ⟨_, rfl, hK _ _ ?_⟩
            have hb6 : Below W.heap.size W w6 := hb5.trans (hb6.mono hb5.size)
            have hf6 := boxed_below hfb hb6
            clear hK K
            simp only [Act.put, List.setIfInBounds_toArray, List.set_cons_zero, List.set_cons_succ, List.getElem_toArray, List.getElem_cons_zero, List.getElem_cons_succ]
            refine wpAnyIn_ready (rs := [0]) (by kernel_rfl) (by simp) (AllReadyIn.cons rfl (fun K hK => ?_) AllReadyIn.nil)
            rw [if_pos (by rfl)]
            refine wpIn_loadF _ rfl _ _ hf6 rfl (hK _ _ ?_)
            clear hK K
            simp only [Act.put, List.setIfInBounds_toArray, List.set_cons_zero, List.set_cons_succ, List.getElem_toArray, List.getElem_cons_zero, List.getElem_cons_succ]
            refine wpAnyIn_ready (rs := [4]) (by kernel_rfl) (by simp) (AllReadyIn.cons rfl (fun K hK => ?_) AllReadyIn.nil)
            rw [if_pos (by rfl)]
            refine wpIn_callF f caps _ _ _ rfl rfl _ rfl _ (HFX.out w6 ua (hB.trans (hb6.mono hBW)) (ownA_rd hua)) (HEF.out _ _) ?_
            rintro e w7 ⟨rfl, hb7⟩
            refine ⟨_, rfl, hK _ _ ?_⟩
            have hb7 : Below W.heap.size W w7 := hb6.trans (hb7.mono hb6.size)
            clear hK K
            simp only [Act.put, List.setIfInBounds_toArray, List.set_cons_zero, List.set_cons_succ, List.getElem_toArray, List.getElem_cons_zero, List.getElem_cons_succ]
            refine wpAnyIn_done (by kernel_rfl) ?_ _
            have hcb7 := boxed_below hcb hb7
            have hc7 := hcb7.cell
            have hz7 := hcb7.frozen
            gi_wp2
            rw [HQ.out]
            exact linesThat_yes p c _ _ (Nat.le_refl _) (by omega) (by omega) HH.out hb7 HPP.out
    | false =>
      rw [hpp] at HFX
      have HPP := Lib.hid hpp
      clear hpp
      gi_wp2
      refine wpIn_region_any (by kernel_rfl) ?_
      change wpAnyIn _ _ _ _ _ _ _ _ _ (World.drew _)
      refine wpAnyIn_ready (rs := [0, 1]) (by kernel_rfl) (by simp) (AllReadyIn.cons rfl (fun K hK => ?_) (AllReadyIn.cons rfl (fun K hK => ?_) AllReadyIn.nil))
      · rw [if_pos (by rfl)]
        refine wpIn_loadF _ rfl _ _ hf0 rfl (hK _ _ ?_)
        clear hK K
        simp only [Act.put, List.setIfInBounds_toArray, List.set_cons_zero, List.set_cons_succ, List.getElem_toArray, List.getElem_cons_zero, List.getElem_cons_succ]
        refine wpAnyIn_ready (rs := [1]) (by kernel_rfl) (by simp) (AllReadyIn.cons rfl (fun K hK => ?_) AllReadyIn.nil)
        rw [if_pos (by rfl)]
        refine wpIn_loadL _ rfl g rfl _ HLX.out hr0 (hK _ _ ?_)
        clear hK K
        simp only [Act.put, List.setIfInBounds_toArray, List.set_cons_zero, List.set_cons_succ, List.getElem_toArray, List.getElem_cons_zero, List.getElem_cons_succ]
        refine wpAnyIn_ready (rs := [2]) (by kernel_rfl) (by simp) (AllReadyIn.cons rfl (fun K hK => ?_) AllReadyIn.nil)
        rw [if_pos (by rfl)]
        refine wpIn_call1 228 _ _ rfl _ rfl _ (HLL.out W.drew) (HEN.out _ _) ?_
        rintro e w5 ⟨u, rfl, hu, hb5⟩
        refine ⟨_, rfl, hK _ _ ?_⟩
        have hb5 : Below W.heap.size W w5 := (below_drewN (Below.refl _ W) 1).trans hb5
        have hf5 := boxed_below hfb hb5
        clear hK K
        simp only [Act.put, List.setIfInBounds_toArray, List.set_cons_zero, List.set_cons_succ, List.getElem_toArray, List.getElem_cons_zero, List.getElem_cons_succ]
        refine wpAnyIn_ready (rs := [3]) (by kernel_rfl) (by simp) (AllReadyIn.cons rfl (fun K hK => ?_) AllReadyIn.nil)
        rw [if_pos (by rfl)]
        refine wpIn_call1 41 _ _ rfl _ rfl _ (HAO.out u w5 (own_rdv hu)) (HEA.out _ _) ?_
        rintro e w6 ⟨ua, rfl, hua, hb6⟩
        refine ⟨_, rfl, hK _ _ ?_⟩
        have hb6 : Below W.heap.size W w6 := hb5.trans (hb6.mono hb5.size)
        have hf6 := boxed_below hfb hb6
        clear hK K
        simp only [Act.put, List.setIfInBounds_toArray, List.set_cons_zero, List.set_cons_succ, List.getElem_toArray, List.getElem_cons_zero, List.getElem_cons_succ]
        refine wpAnyIn_ready (rs := [4]) (by kernel_rfl) (by simp) (AllReadyIn.cons rfl (fun K hK => ?_) AllReadyIn.nil)
        rw [if_pos (by rfl)]
        refine wpIn_callF f caps _ _ _ rfl rfl _ rfl _ (HFX.out w6 ua (hB.trans (hb6.mono hBW)) (ownA_rd hua)) (HEF.out _ _) ?_
        rintro e w7 ⟨rfl, hb7⟩
        refine ⟨_, rfl, hK _ _ ?_⟩
        have hb7 : Below W.heap.size W w7 := hb6.trans (hb7.mono hb6.size)
        clear hK K
        simp only [Act.put, List.setIfInBounds_toArray, List.set_cons_zero, List.set_cons_succ, List.getElem_toArray, List.getElem_cons_zero, List.getElem_cons_succ]
        refine wpAnyIn_done (by kernel_rfl) ?_ _
        have hcb7 := boxed_below hcb hb7
        have hc7 := hcb7.cell
        have hz7 := hcb7.frozen
        gi_wp2
        exact linesThat_no p c _ _ (Nat.le_refl _) HH.out hb7 HPP.out
      · rw [if_pos (by rfl)]
        refine wpIn_loadL _ rfl g rfl _ HLX.out hr0 (hK _ _ ?_)
        clear hK K
        simp only [Act.put, List.setIfInBounds_toArray, List.set_cons_zero, List.set_cons_succ, List.getElem_toArray, List.getElem_cons_zero, List.getElem_cons_succ]
        refine wpAnyIn_ready (rs := [0, 2]) (by kernel_rfl) (by simp) (AllReadyIn.cons rfl (fun K hK => ?_) (AllReadyIn.cons rfl (fun K hK => ?_) AllReadyIn.nil))
        · rw [if_pos (by rfl)]
          refine wpIn_loadF _ rfl _ _ hf0 rfl (hK _ _ ?_)
          clear hK K
          simp only [Act.put, List.setIfInBounds_toArray, List.set_cons_zero, List.set_cons_succ, List.getElem_toArray, List.getElem_cons_zero, List.getElem_cons_succ]
          refine wpAnyIn_ready (rs := [2]) (by kernel_rfl) (by simp) (AllReadyIn.cons rfl (fun K hK => ?_) AllReadyIn.nil)
          rw [if_pos (by rfl)]
          refine wpIn_call1 228 _ _ rfl _ rfl _ (HLL.out W.drew) (HEN.out _ _) ?_
          rintro e w5 ⟨u, rfl, hu, hb5⟩
          refine ⟨_, rfl, hK _ _ ?_⟩
          have hb5 : Below W.heap.size W w5 := (below_drewN (Below.refl _ W) 1).trans hb5
          have hf5 := boxed_below hfb hb5
          clear hK K
          simp only [Act.put, List.setIfInBounds_toArray, List.set_cons_zero, List.set_cons_succ, List.getElem_toArray, List.getElem_cons_zero, List.getElem_cons_succ]
          refine wpAnyIn_ready (rs := [3]) (by kernel_rfl) (by simp) (AllReadyIn.cons rfl (fun K hK => ?_) AllReadyIn.nil)
          rw [if_pos (by rfl)]
          refine wpIn_call1 41 _ _ rfl _ rfl _ (HAO.out u w5 (own_rdv hu)) (HEA.out _ _) ?_
          rintro e w6 ⟨ua, rfl, hua, hb6⟩
          refine ⟨_, rfl, hK _ _ ?_⟩
          have hb6 : Below W.heap.size W w6 := hb5.trans (hb6.mono hb5.size)
          have hf6 := boxed_below hfb hb6
          clear hK K
          simp only [Act.put, List.setIfInBounds_toArray, List.set_cons_zero, List.set_cons_succ, List.getElem_toArray, List.getElem_cons_zero, List.getElem_cons_succ]
          refine wpAnyIn_ready (rs := [4]) (by kernel_rfl) (by simp) (AllReadyIn.cons rfl (fun K hK => ?_) AllReadyIn.nil)
          rw [if_pos (by rfl)]
          refine wpIn_callF f caps _ _ _ rfl rfl _ rfl _ (HFX.out w6 ua (hB.trans (hb6.mono hBW)) (ownA_rd hua)) (HEF.out _ _) ?_
          rintro e w7 ⟨rfl, hb7⟩
          refine ⟨_, rfl, hK _ _ ?_⟩
          have hb7 : Below W.heap.size W w7 := hb6.trans (hb7.mono hb6.size)
          clear hK K
          simp only [Act.put, List.setIfInBounds_toArray, List.set_cons_zero, List.set_cons_succ, List.getElem_toArray, List.getElem_cons_zero, List.getElem_cons_succ]
          refine wpAnyIn_done (by kernel_rfl) ?_ _
          have hcb7 := boxed_below hcb hb7
          have hc7 := hcb7.cell
          have hz7 := hcb7.frozen
          gi_wp2
          exact linesThat_no p c _ _ (Nat.le_refl _) HH.out hb7 HPP.out
        · rw [if_pos (by rfl)]
          refine wpIn_call1 228 _ _ rfl _ rfl _ (HLL.out W.drew) (HEN.out _ _) ?_
          rintro e w5 ⟨u, rfl, hu, hb5⟩
          refine ⟨_, rfl, hK _ _ ?_⟩
          have hb5 : Below W.heap.size W w5 := (below_drewN (Below.refl _ W) 1).trans hb5
          have hf5 := boxed_below hfb hb5
          clear hK K
          simp only [Act.put, List.setIfInBounds_toArray, List.set_cons_zero, List.set_cons_succ, List.getElem_toArray, List.getElem_cons_zero, List.getElem_cons_succ]
          refine wpAnyIn_ready (rs := [0, 3]) (by kernel_rfl) (by simp) (AllReadyIn.cons rfl (fun K hK => ?_) (AllReadyIn.cons rfl (fun K hK => ?_) AllReadyIn.nil))
          · rw [if_pos (by rfl)]
            refine wpIn_loadF _ rfl _ _ hf5 rfl (hK _ _ ?_)
            clear hK K
            simp only [Act.put, List.setIfInBounds_toArray, List.set_cons_zero, List.set_cons_succ, List.getElem_toArray, List.getElem_cons_zero, List.getElem_cons_succ]
            refine wpAnyIn_ready (rs := [3]) (by kernel_rfl) (by simp) (AllReadyIn.cons rfl (fun K hK => ?_) AllReadyIn.nil)
            rw [if_pos (by rfl)]
            refine wpIn_call1 41 _ _ rfl _ rfl _ (HAO.out u w5 (own_rdv hu)) (HEA.out _ _) ?_
            rintro e w6 ⟨ua, rfl, hua, hb6⟩
            refine ⟨_, rfl, hK _ _ ?_⟩
            have hb6 : Below W.heap.size W w6 := hb5.trans (hb6.mono hb5.size)
            have hf6 := boxed_below hfb hb6
            clear hK K
            simp only [Act.put, List.setIfInBounds_toArray, List.set_cons_zero, List.set_cons_succ, List.getElem_toArray, List.getElem_cons_zero, List.getElem_cons_succ]
            refine wpAnyIn_ready (rs := [4]) (by kernel_rfl) (by simp) (AllReadyIn.cons rfl (fun K hK => ?_) AllReadyIn.nil)
            rw [if_pos (by rfl)]
            refine wpIn_callF f caps _ _ _ rfl rfl _ rfl _ (HFX.out w6 ua (hB.trans (hb6.mono hBW)) (ownA_rd hua)) (HEF.out _ _) ?_
            rintro e w7 ⟨rfl, hb7⟩
            refine ⟨_, rfl, hK _ _ ?_⟩
            have hb7 : Below W.heap.size W w7 := hb6.trans (hb7.mono hb6.size)
            clear hK K
            simp only [Act.put, List.setIfInBounds_toArray, List.set_cons_zero, List.set_cons_succ, List.getElem_toArray, List.getElem_cons_zero, List.getElem_cons_succ]
            refine wpAnyIn_done (by kernel_rfl) ?_ _
            have hcb7 := boxed_below hcb hb7
            have hc7 := hcb7.cell
            have hz7 := hcb7.frozen
            gi_wp2
            exact linesThat_no p c _ _ (Nat.le_refl _) HH.out hb7 HPP.out
          · rw [if_pos (by rfl)]
            refine wpIn_call1 41 _ _ rfl _ rfl _ (HAO.out u w5 (own_rdv hu)) (HEA.out _ _) ?_
            rintro e w6 ⟨ua, rfl, hua, hb6⟩
            refine ⟨_, rfl, hK _ _ ?_⟩
            have hb6 : Below W.heap.size W w6 := hb5.trans (hb6.mono hb5.size)
            have hf6 := boxed_below hfb hb6
            clear hK K
            simp only [Act.put, List.setIfInBounds_toArray, List.set_cons_zero, List.set_cons_succ, List.getElem_toArray, List.getElem_cons_zero, List.getElem_cons_succ]
            refine wpAnyIn_ready (rs := [0]) (by kernel_rfl) (by simp) (AllReadyIn.cons rfl (fun K hK => ?_) AllReadyIn.nil)
            rw [if_pos (by rfl)]
            refine wpIn_loadF _ rfl _ _ hf6 rfl (hK _ _ ?_)
            clear hK K
            simp only [Act.put, List.setIfInBounds_toArray, List.set_cons_zero, List.set_cons_succ, List.getElem_toArray, List.getElem_cons_zero, List.getElem_cons_succ]
            refine wpAnyIn_ready (rs := [4]) (by kernel_rfl) (by simp) (AllReadyIn.cons rfl (fun K hK => ?_) AllReadyIn.nil)
            rw [if_pos (by rfl)]
            refine wpIn_callF f caps _ _ _ rfl rfl _ rfl _ (HFX.out w6 ua (hB.trans (hb6.mono hBW)) (ownA_rd hua)) (HEF.out _ _) ?_
            rintro e w7 ⟨rfl, hb7⟩
            refine ⟨_, rfl, hK _ _ ?_⟩
            have hb7 : Below W.heap.size W w7 := hb6.trans (hb7.mono hb6.size)
            clear hK K
            simp only [Act.put, List.setIfInBounds_toArray, List.set_cons_zero, List.set_cons_succ, List.getElem_toArray, List.getElem_cons_zero, List.getElem_cons_succ]
            refine wpAnyIn_done (by kernel_rfl) ?_ _
            have hcb7 := boxed_below hcb hb7
            have hc7 := hcb7.cell
            have hz7 := hcb7.frozen
            gi_wp2
            exact linesThat_no p c _ _ (Nat.le_refl _) HH.out hb7 HPP.out
  case done =>
    rintro D ys W hD rfl ⟨hcb, hfb, hB⟩ hK
    have hc := hcb.cell
    gi_wp2
    refine ⟨by simp, .inl ⟨_, _, rfl, run_takeDeferred hK, ?_⟩⟩
    exact ⟨_, results_tmp rfl _ _ _, rfl, hB.trans (belowK_b (w := w) (Nat.le_refl _) W D _ _ (by simp at hD; omega) hK rfl rfl)⟩
  case stop =>
    rintro D c pre W _ _ h _
    exact h.elim
end

section
open Go.RowKit

theorem rowsOf_append (L M : List (Nat × Nat)) : rowsOf (L ++ M) = rowsOf L ++ rowsOf M := by simp [rowsOf]
theorem rowsOf_length (L : List (Nat × Nat)) : (rowsOf L).length = L.length := by simp [rowsOf]

theorem idx_first {x : Int} {ys : List Int} {t : Nat} (ht : t < ys.length) (he : ys.getD t 0 = x) (hn : ∀ j, j < t → ys.getD j 0 ≠ x) : x ∈ ys ∧ ys.idxOf x = t := by
  have hm : x ∈ ys := mem_of_getD ht he
  refine ⟨hm, ?_⟩
  have hil := List.idxOf_lt_length_of_mem hm
  have hig := getD_idxOf hm
  rcases Nat.lt_trichotomy (ys.idxOf x) t with h | h | h
  · exact absurd hig (hn _ h)
  · exact h
  · have := List.not_of_lt_findIdx (p := (· == x)) (xs := ys) (i := t) (by simpa [List.idxOf] using h)
    simp [List.getD, ht] at he
    simp [he] at this

set_option maxHeartbeats 4000000 in
theorem l5Arcs_any (v : Value) (xs : List Int) (w : World) (hv : RdV w v xs) (hl8 : xs.length ≤ 1000000) : Calls Tryz.prog 65 #[v] w (FreshM w (rowsOf (arcsOf xs))) := by
  obtain ⟨ao, ca, rfl, hx, hlc, hcm⟩ := hv
  obtain ⟨n, hn⟩ : ∃ n, n = xs.length := ⟨_, rfl⟩
  rw [← hn] at hl8 hlc ⊢
  have HN := Lib.hid hn
  clear hn
  have HX := Lib.hid hx
  clear hx
  go_enter Tryz.func65, Tryz.ntmps65
  go_wp2
  go_loopw [3, 4] (fun u i wr => ∃ (k g m cap : Nat) (L : List (Nat × Nat)), k ≤ n ∧ i = .int .i64 k ∧ u = .slice (some ⟨g, 0, none⟩) m cap ∧ Hid (m = L.length) ∧ m ≤ k ∧ Hid (arcsOf xs = L ++ arcsFrom k (xs.drop k)) ∧ OwnM wr w.heap.size wr.heap.size (.slice (some ⟨g, 0, none⟩) m cap) (rowsOf L) ∧ Below w.heap.size w wr)
    (fun _ i _ => n - (intOf i).toNat)
  case atStart => exact ⟨0, w.heap.size, 0, 0, [], Nat.zero_le _, rfl, rfl, Lib.hid rfl, Nat.le_refl _, Lib.hid (by simp [arcsOf]), by simpa [rowsOf] using ownM_empty w _ (Nat.le_refl _), (Below.refl _ _).alloc (Nat.le_refl _) _⟩
  case round =>
    obtain ⟨k, g, m, cap, L, hk, rfl, rfl, HM, hmk, HE, hown, hbel⟩ := hrel
    have HO := Lib.hid hown
    have hB := hbel.size
    clear hown
    by_cases hlt : k < n
    · rcases HX.out with hx | ⟨bb, off, rfl, hcx⟩
      · have := HN.out
        rw [hx] at this
        simp at this
        omega
      obtain ⟨wo, hwo⟩ : ∃ wo : World, wo = wr := ⟨_, rfl⟩
      subst hwo
      have HC := Lib.hid (fun j (hj : j < n) => show wo.cell? ⟨bb, off + j, none⟩ = some (.int .i64 (xs.getD j 0)) by
        have := hcx j (by have := HN.out; omega)
        rw [hbel.cell (World.block_lt_of_cell? w _ this)]
        exact this)
      clear hcx
      have hck := HC.out k hlt
      have HDC := Lib.hid (drop_cons xs k (by have := HN.out; omega))
      obtain ⟨x, hx⟩ : ∃ x, x = xs.getD k 0 := ⟨_, rfl⟩
      rw [← hx] at hck HDC
      clear hx
      go_wp2
      go_loopw [3, 5] (fun u i wi => ∃ t : Nat, u = .slice (some ⟨g, 0, none⟩) m cap ∧ k < t ∧ t ≤ n ∧ i = .int .i64 t ∧ Hid (∀ j, k < j → j < t → xs.getD j 0 ≠ x) ∧ Below wo.heap.size wo wi)
        (fun _ i _ => n - (intOf i).toNat)
      case atStart => exact ⟨k + 1, rfl, by omega, by omega, by go_num, Lib.hid (fun j h1 h2 => by omega), Below.refl _ _⟩
      case round =>
        obtain ⟨t, rfl, hkt, htn, rfl, HNE, hbi⟩ := hrel
        have hBi := hbi.size
        have hbw : Below w.heap.size w wr := below_step hbel hbi
        by_cases htl : t < n
        · have hct := HC.out t htl
          rw [← hbi.cell (World.block_lt_of_cell? wo _ hct)] at hct
          have hck2 := hck
          rw [← hbi.cell (World.block_lt_of_cell? wo _ hck)] at hck2
          obtain ⟨y, hy⟩ : ∃ y, y = xs.getD t 0 := ⟨_, rfl⟩
          rw [← hy] at hct
          have HY := Lib.hid hy
          clear hy
          by_cases hyx : y = x
          · have hd : (y == x) = true := by simpa using hyx
            have HYX := Lib.hid hyx
            clear hyx
            go_wp2
            go_quiet (fail)
            have hcell := cell_new1 ((wr.drewN nq).alloc (.cells #[.int .i64 k, .int .i64 t] 3)) (.slice (some ⟨wr.heap.size, 0, none⟩) 2 2) 26
            rw [show ((wr.drewN nq).alloc (.cells #[.int .i64 k, .int .i64 t] 3)).heap.size = wr.heap.size + 1 by simp] at hcell
            have hou : Own (((wr.drewN nq).alloc (.cells #[.int .i64 k, .int .i64 t] 3)).alloc (.cells #[.slice (some ⟨wr.heap.size, 0, none⟩) 2 2] 26)) w.heap.size (.slice (some ⟨wr.heap.size, 0, none⟩) 2 2) [(k : Int), (t : Int)] := own_alloc (own_two (wr.drewN nq) w.heap.size k t (by simp; omega)) _
            have hom : OwnM (((wr.drewN nq).alloc (.cells #[.int .i64 k, .int .i64 t] 3)).alloc (.cells #[.slice (some ⟨wr.heap.size, 0, none⟩) 2 2] 26)) w.heap.size wo.heap.size (.slice (some ⟨g, 0, none⟩) m cap) (rowsOf L) := ownM_below HO.out (((below_drewN hbi nq).alloc (by simp; omega) _).alloc (by simp; omega) _)
            have HCE := Lib.hid hcell
            have HOU := Lib.hid hou
            have HOM := Lib.hid hom
            have hbq := ((below_drewN hbw nq).alloc (by simp; omega) (.cells #[.int .i64 k, .int .i64 t] 3)).alloc (by simp; omega) (.cells #[.slice (some ⟨wr.heap.size, 0, none⟩) 2 2] 26)
            have HBQ := Lib.hid hbq
            clear hcell hou hom hbq
            go_wp2_with (at_builtin; refine wpList_pushV rfl _ _ rfl w.heap.size wo.heap.size m _ (rowsOf L) rfl HOM.out (by rw [HM.out, rowsOf_length]) ⟨wr.heap.size + 1, 0, none⟩ rfl _ _ HCE.out HOU.out (fun q hq => by simp [Value.ownBlock] at hq; simp; omega) hB (by simp; omega) (by omega) ?_; intro g4 cap4 w4 hown4 hgr4)
            have hbel4 : Below w.heap.size w w4 := HBQ.out.grown hgr4 (by simp; omega) (fun q hq => by
              obtain ⟨vs, hr⟩ := ownM_row0 HOM.out
              exact (World.ownsRow.lt hr q hq).1)
            have HO4 := Lib.hid hown4
            clear hown4 hgr4
            have hid := idx_first (x := x) (ys := xs.drop (k + 1)) (t := t - (k + 1)) (by rw [List.length_drop]; have := HN.out; omega)
              (by rw [← HYX.out, HY.out]; simp [List.getD, show k + 1 + (t - (k + 1)) = t by omega])
              (fun j hj => by
                have := HNE.out (k + 1 + j) (by omega) (by omega)
                simpa [List.getD] using this)
            have HST := Lib.hid (arcsFrom_yes (i := k) hid.1)
            rw [hid.2, show k + 1 + (t - (k + 1)) = t by omega] at HST
            clear hid
            go_wp2
            go_roundw
            case rel => exact ⟨k + 1, g4, m + 1, cap4, L ++ [(k, t)], by omega, by go_num, rfl, Lib.hid (by rw [HM.out]; simp), by omega, Lib.hid (by rw [HE.out, HDC.out, HST.out, List.append_assoc]; rfl), by rw [rowsOf_append]; exact HO4.out, hbel4⟩
            case measure => simp [intOf]; omega
          · have hd : (y == x) = false := by simpa using hyx
            have HYX := Lib.hid hyx
            clear hyx
            go_wp2
            go_quiet (fail)
            go_wp2
            go_roundw
            case rel => 
              refine ⟨t + 1, rfl, by omega, by omega, by go_num, Lib.hid fun j h1 h2 => ?_, below_drewN hbi _⟩
              by_cases hjt : j = t
              · subst hjt; rw [← HY.out]; exact HYX.out
              · exact HNE.out j h1 (by omega)
            case measure => simp [intOf]; omega
        · have htn' : t = n := by omega
          subst htn'
          have hno : x ∉ xs.drop (k + 1) := fun hm => by
            obtain ⟨j, hj, he⟩ := List.getElem_of_mem hm
            rw [List.getElem_drop] at he
            simp at hj
            refine HNE.out (k + 1 + j) (by omega) (by have := HN.out; omega) ?_
            simp [List.getD, show k + 1 + j < xs.length by omega, he]
          have HST := Lib.hid (arcsFrom_no (i := k) hno)
          clear hno
          go_wp2
          go_roundw
          case rel => exact ⟨k + 1, g, m, cap, L, by omega, by go_num, rfl, HM, by omega, Lib.hid (by rw [HE.out, HDC.out, HST.out]), ownM_mono (ownM_below HO.out hbi) (Nat.le_refl _) hBi, hbw⟩
          case measure => simp [intOf]; omega
    · have hkn : k = n := by omega
      subst hkn
      have HE2 := Lib.hid (show rowsOf (arcsOf xs) = rowsOf L by
        rw [HE.out, HN.out, List.drop_length]
        simp [arcsFrom])
      go_wp2
      go_ret
      rw [HE2.out]
      exact ⟨_, rfl, HO.out, hbel⟩

def arcList (xs : List Int) : List (List Int) × Bool := if partIn xs then (rowsOf (arcsOf xs), true) else ([], false)

theorem sArcList_v (v : Value) (xs : List Int) (w : World) (hv : RdV w v xs) : Calls Tryz.prog 95 #[v] w (FreshMB w (arcList xs)) := by
  have HV := Lib.hid hv
  clear hv
  by_cases hp : partIn xs = true
  · have hr : arcList xs = (rowsOf (arcsOf xs), true) := by simp [arcList, hp]
    rw [hr]
    have hl := partIn_len hp
    have HA := Lib.hid (l5Arcs_any v xs w HV.out (by omega))
    have HP := Lib.hid hp
    clear hp hr hl
    go_enter Tryz.func95, Tryz.ntmps95
    go_wp2_with fail
    refine (sPartIn_is true _ _ _ HV.out HP).mono ?_
    rintro e w' ⟨rfl, rfl⟩
    go_wp2_with fail
    refine HA.out.mono ?_
    rintro e w' ⟨u, rfl, ho, hb⟩
    go_wp2
    go_ret2
    exact ⟨_, rfl, ho, hb⟩
  · have hp : partIn xs = false := by simpa using hp
    have hr : arcList xs = ([], false) := by simp [arcList, hp]
    rw [hr]
    have HP := Lib.hid hp
    clear hp hr
    go_enter Tryz.func95, Tryz.ntmps95
    go_wp2_with fail
    refine (sPartIn_is false _ _ _ HV.out HP).mono ?_
    rintro e w' ⟨rfl, rfl⟩
    go_wp2
    go_ret2
    exact ⟨_, rfl, by simpa using ownM_empty w _ (Nat.le_refl _), (Below.refl _ _).alloc (Nat.le_refl _) _⟩

theorem rowsOf_take (L : List (Nat × Nat)) (k : Nat) (h : k < L.length) : rowsOf (L.take (k + 1)) = rowsOf (L.take k) ++ [[((L.getD k (0, 0)).1 : Int), ((L.getD k (0, 0)).2 : Int)]] := by
  rw [take_snocA L k h, rowsOf_append]
  rfl

set_option maxHeartbeats 4000000 in
theorem iArcList_v (v : Value) (xs : List Int) (w : World) (hv : RdV w v xs) : Calls Tryz.prog 212 #[v] w (FreshMB w (arcList xs)) := by
  have HV := Lib.hid hv
  clear hv
  by_cases hp : partIn xs = true
  · have hr : arcList xs = (rowsOf (arcsOf xs), true) := by simp [arcList, hp]
    rw [hr]
    have hl := partIn_len hp
    have HA := Lib.hid (arcsOf_any v xs w HV.out (by omega))
    have hal := arcsOf_len xs
    obtain ⟨L, hL⟩ : ∃ L, L = arcsOf xs := ⟨_, rfl⟩
    rw [← hL] at HA hal ⊢
    have HP := Lib.hid hp
    have hL8 : L.length ≤ 8 := by omega
    clear hp hr hl hL hal
    go_enter Tryz.func212, Tryz.ntmps212
    go_wp2_with fail
    refine (iPartIn_is true _ _ _ HV.out HP).mono ?_
    rintro e w' ⟨rfl, rfl⟩
    go_wp2_with fail
    refine HA.out.mono ?_
    rintro e w1 ⟨va, rfl, ho, hb1⟩
    obtain ⟨ao, ca, rfl, hlc, hcm, hx⟩ := ownA_rd ho
    obtain ⟨n, hn⟩ : ∃ n, n = L.length := ⟨_, rfl⟩
    rw [← hn] at hlc hL8 ⊢
    have HN := Lib.hid hn
    have HX := Lib.hid hx
    clear ho hn hx
    have hs1 := hb1.size
    go_wp2
    go_loopw [4, 13] (fun u i wr => ∃ k : Nat, k ≤ n ∧ i = .int .i64 k ∧ OwnM wr w1.heap.size wr.heap.size u (rowsOf (L.take k)) ∧ Below w1.heap.size w1 wr)
      (fun _ i _ => n - (intOf i).toNat)
    case atStart => exact ⟨0, Nat.zero_le _, rfl, by simpa [rowsOf] using ownM_nil w1 w1.heap.size w1.heap.size, Below.refl _ _⟩
    case round =>
      obtain ⟨k, hk, rfl, hown, hbel⟩ := hrel
      have hbs := hbel.size
      have HO := Lib.hid hown
      clear hown
      by_cases hlt : k < n
      · rcases HX.out with hx | ⟨bb, rfl, hcx⟩
        · have := HN.out
          rw [hx] at this
          simp at this
          omega
        obtain ⟨hc1, hc2⟩ := hcx k (by have := HN.out; omega)
        rw [← hbel.cell (World.block_lt_of_cell? w1 _ hc1)] at hc1
        rw [← hbel.cell (World.block_lt_of_cell? w1 _ hc2)] at hc2
        have HT := Lib.hid (rowsOf_take L k (by have := HN.out; omega))
        have hkl : (rowsOf (L.take k)).length = k := by rw [rowsOf_length]; have := HN.out; simp; omega
        have HKL := Lib.hid hkl
        obtain ⟨⟨a, b⟩, hy⟩ : ∃ y, y = L.getD k (0, 0) := ⟨_, rfl⟩
        rw [← hy] at hc1 hc2 HT
        dsimp only at hc1 hc2 HT
        clear hy hcx hkl
        have e1 : (wr.alloc (.cells #[.int .i64 a, .int .i64 b] 63)).heap.size = wr.heap.size + 1 := by simp
        have e2 : ((wr.alloc (.cells #[.int .i64 a, .int .i64 b] 63)).alloc (.cells #[.int .i64 a, .int .i64 b] 3)).heap.size = wr.heap.size + 1 + 1 := by simp
        have hcell := cell_new1 ((wr.alloc (.cells #[.int .i64 a, .int .i64 b] 63)).alloc (.cells #[.int .i64 a, .int .i64 b] 3)) (.slice (some ⟨wr.heap.size + 1, 0, none⟩) 2 2) 26
        rw [e2] at hcell
        have hou0 := own_two (wr.alloc (.cells #[.int .i64 a, .int .i64 b] 63)) w1.heap.size a b (by rw [e1]; omega)
        rw [e1] at hou0
        have HCE := Lib.hid hcell
        have HOU := Lib.hid (own_alloc hou0 (.cells #[.slice (some ⟨wr.heap.size + 1, 0, none⟩) 2 2] 26))
        have hb3 : Below wr.heap.size wr (((wr.alloc (.cells #[.int .i64 a, .int .i64 b] 63)).alloc (.cells #[.int .i64 a, .int .i64 b] 3)).alloc (.cells #[.slice (some ⟨wr.heap.size + 1, 0, none⟩) 2 2] 26)) := (((Below.refl _ _).alloc (Nat.le_refl _) _).alloc (by rw [e1]; omega) _).alloc (by rw [e2]; omega) _
        have HOM := Lib.hid (ownM_below HO.out hb3)
        have HBQ := Lib.hid (hbel.trans (hb3.mono hbs))
        clear hcell hou0 hb3 e1 e2
        go_wp2_with (at_builtin; refine wpList_pushV rfl _ _ rfl w1.heap.size wr.heap.size k _ (rowsOf (L.take k)) rfl HOM.out HKL.out.symm ⟨wr.heap.size + 1 + 1, 0, none⟩ rfl _ _ HCE.out HOU.out (fun q hq => by simp [Value.ownBlock] at hq; simp; omega) (by omega) (by simp; omega) (by omega) ?_; intro g4 cap4 w4 hown4 hgr4)
        have hbel4 : Below w1.heap.size w1 w4 := HBQ.out.grown hgr4 (by simp; omega) (fun q hq => by
          obtain ⟨vs, hr⟩ := ownM_row0 HO.out
          exact (World.ownsRow.lt hr q hq).1)
        rw [← HT.out] at hown4
        have HO4 := Lib.hid hown4
        clear hown4 hgr4
        go_wp2
        go_roundw
        case rel => exact ⟨k + 1, by omega, by go_num, HO4.out, hbel4⟩
        case measure => simp [intOf]; omega
      · have hkn : k = n := by omega
        subst hkn
        have HE2 := Lib.hid (show rowsOf (L.take k) = rowsOf L by rw [HN.out, List.take_length])
        go_wp2
        go_ret2
        rw [← HE2.out]
        exact ⟨_, rfl, ownM_mono HO.out hs1 (Nat.le_refl _), hb1.trans (hbel.mono hs1)⟩
  · have hp : partIn xs = false := by simpa using hp
    have hr : arcList xs = ([], false) := by simp [arcList, hp]
    rw [hr]
    have HP := Lib.hid hp
    clear hp hr
    go_enter Tryz.func212, Tryz.ntmps212
    go_wp2_with fail
    refine (iPartIn_is false _ _ _ HV.out HP).mono ?_
    rintro e w' ⟨rfl, rfl⟩
    go_wp2
    go_ret2
    exact ⟨_, rfl, ownM_nil _ _ _, Below.refl _ _⟩
end

section
open Go.RowKit

theorem rowsOf_getD (L : List (Nat × Nat)) (j : Nat) (h : j < L.length) : (rowsOf L).getD j [] = [((L.getD j (0, 0)).1 : Int), ((L.getD j (0, 0)).2 : Int)] := by
  simp [rowsOf, List.getD, h]

def ArcsAt (w : World) (v : Value) (L : List (Nat × Nat)) : Prop :=
  ∃ ao cap, v = .slice ao L.length cap ∧ (L = [] ∨ ∃ g, ao = some ⟨g, 0, none⟩ ∧ ∀ j, j < L.length → ∃ gj cj, w.cell? ⟨g, j, none⟩ = some (.slice (some ⟨gj, 0, none⟩) 2 cj) ∧
    w.cell? ⟨gj, 0, none⟩ = some (.int .i64 (L.getD j (0, 0)).1) ∧ w.cell? ⟨gj, 1, none⟩ = some (.int .i64 (L.getD j (0, 0)).2))

theorem arcsAt_own {w : World} {B S : Nat} {v : Value} {L : List (Nat × Nat)} (h : OwnM w B S v (rowsOf L)) : ArcsAt w v L := by
  obtain ⟨vs, hvl, hv, hr, _⟩ := ownM_parts h
  rw [rowsOf_length] at hv
  rcases hv with ⟨h1, h2⟩ | ⟨g, cap, h1, _, _, _, _, _, hc, _⟩
  · rw [h1]
    have h2 : L = [] := by
      cases L with
      | nil => rfl
      | cons p L => simp [rowsOf] at h2
    subst h2
    exact ⟨none, 0, rfl, .inl rfl⟩
  · refine ⟨_, cap, h1, .inr ⟨g, rfl, fun j hj => ?_⟩⟩
    have h3 := hc j (by first | exact hj | (rw [rowsOf_length]; exact hj))
    have h4 := (hr j (by rw [rowsOf_length]; exact hj)).1
    rw [rowsOf_getD L j hj] at h4
    rcases own_view h4 with ⟨_, h5⟩ | ⟨gj, cj, h5, _, _, _, _, h6, _⟩
    · cases h5
    · rw [h5] at h3
      exact ⟨gj, cj, h3, h6 0 (by simp), h6 1 (by simp)⟩

set_option maxHeartbeats 4000000 in
theorem l5Pairs_any (v : Value) (xs : List Int) (w : World) (hv : RdV w v xs) (hl8 : xs.length ≤ 990) :
    Calls Tryz.prog 42 #[v] w fun e w' => e = .returned (.tuple #[.int .i64 (crossings xs), .int .i64 (nestings xs)]) ∧ Below w.heap.size w w' := by
  have HA := Lib.hid (l5Arcs_any v xs w hv (by omega))
  have hal := arcsOf_len xs
  rw [← cross_same, ← nest_same]
  obtain ⟨L, hL⟩ : ∃ L, L = arcsOf xs := ⟨_, rfl⟩
  rw [← hL] at HA hal ⊢
  have hL8 : L.length ≤ 990 := by omega
  clear hL hal hl8 hv
  go_enter Tryz.func42, Tryz.ntmps42
  go_wp2_with fail
  refine HA.out.mono ?_
  rintro e w1 ⟨va, rfl, ho, hb1⟩
  obtain ⟨ao, ca, rfl, hx⟩ := arcsAt_own ho
  obtain ⟨n, hn⟩ : ∃ n, n = L.length := ⟨_, rfl⟩
  rw [← hn] at hL8 ⊢
  have HN := Lib.hid hn
  have HX := Lib.hid hx
  clear ho hn hx
  have hs1 := hb1.size
  go_wp2
  go_loopw [5, 6, 7] (fun u m i wr => ∃ k c s : Nat, k ≤ n ∧ i = .int .i64 k ∧ u = .int .i64 c ∧ m = .int .i64 s ∧ c ≤ 990 * k ∧ s ≤ 990 * k ∧ Hid (pairsL crossS L = c + pairsL crossS (L.drop k)) ∧ Hid (pairsL nestS L = s + pairsL nestS (L.drop k)) ∧ Below w1.heap.size w1 wr)
    (fun _ _ i _ => n - (intOf i).toNat)
  case atStart => exact ⟨0, 0, 0, Nat.zero_le _, rfl, rfl, rfl, by omega, by omega, Lib.hid (by simp), Lib.hid (by simp), Below.refl _ _⟩
  case round =>
    obtain ⟨k, c, s, hk, rfl, rfl, rfl, hc9, hs9, HC, HS, hbel⟩ := hrel
    have hbs := hbel.size
    by_cases hlt : k < n
    · rcases HX.out with hx | ⟨g, rfl, hcx⟩
      · have := HN.out
        rw [hx] at this
        simp at this
        omega
      have HCX := Lib.hid hcx
      clear hcx
      have hd : L.drop k = L.getD k (0, 0) :: L.drop (k + 1) := by
        rw [List.drop_eq_getElem_cons (by have := HN.out; omega)]
        simp [List.getD, show k < L.length by have := HN.out; omega]
      rw [hd] at HC HS
      clear hd
      obtain ⟨⟨a, b⟩, hy⟩ : ∃ y, y = L.getD k (0, 0) := ⟨_, rfl⟩
      rw [← hy] at HC HS
      have HY := Lib.hid hy
      clear hy
      obtain ⟨wo, hwo⟩ : ∃ wo : World, wo = wr := ⟨_, rfl⟩
      subst hwo
      go_wp2
      go_loopw [5, 6, 8] (fun u m i wi => ∃ j c2 s2 : Nat, k < j ∧ j ≤ n ∧ i = .int .i64 j ∧ u = .int .i64 c2 ∧ m = .int .i64 s2 ∧ c2 ≤ c + (j - k) ∧ s2 ≤ s + (j - k) ∧ Hid (c + (L.drop (k + 1)).countP (crossS (a, b)) = c2 + (L.drop j).countP (crossS (a, b))) ∧ Hid (s + (L.drop (k + 1)).countP (nestS (a, b)) = s2 + (L.drop j).countP (nestS (a, b))) ∧ Below w1.heap.size w1 wi)
        (fun _ _ i _ => n - (intOf i).toNat)
      case atStart => exact ⟨k + 1, c, s, by omega, by omega, by go_num, rfl, rfl, by omega, by omega, Lib.hid rfl, Lib.hid rfl, hbel⟩
      case round =>
        obtain ⟨j, c2, s2, hkj, hjn, rfl, rfl, rfl, hc29, hs29, HC2, HS2, hbi⟩ := hrel
        by_cases hjl : j < n
        · obtain ⟨gk, ck, hk0, hk1, hk2⟩ := HCX.out k (by have := HN.out; omega)
          obtain ⟨gj, cj, hj0, hj1, hj2⟩ := HCX.out j (by have := HN.out; omega)
          rw [← HY.out] at hk1 hk2
          rw [← hbi.cell (World.block_lt_of_cell? w1 _ hk0)] at hk0
          rw [← hbi.cell (World.block_lt_of_cell? w1 _ hk1)] at hk1
          rw [← hbi.cell (World.block_lt_of_cell? w1 _ hk2)] at hk2
          rw [← hbi.cell (World.block_lt_of_cell? w1 _ hj0)] at hj0
          rw [← hbi.cell (World.block_lt_of_cell? w1 _ hj1)] at hj1
          rw [← hbi.cell (World.block_lt_of_cell? w1 _ hj2)] at hj2
          have hd : L.drop j = L.getD j (0, 0) :: L.drop (j + 1) := by
            rw [List.drop_eq_getElem_cons (by have := HN.out; omega)]
            simp [List.getD, show j < L.length by have := HN.out; omega]
          rw [hd, List.countP_cons] at HC2 HS2
          clear hd
          obtain ⟨⟨p, q⟩, hy⟩ : ∃ y, y = L.getD j (0, 0) := ⟨_, rfl⟩
          rw [← hy] at HC2 HS2 hj1 hj2
          dsimp only at hk1 hk2 hj1 hj2
          clear hy
          have hcs : c2 ≤ 980100 := by
            have := Nat.mul_le_mul (Nat.le_refl 990) (show k + 1 ≤ 990 by omega)
            omega
          have hss : s2 ≤ 980100 := by
            have := Nat.mul_le_mul (Nat.le_refl 990) (show k + 1 ≤ 990 by omega)
            omega
          by_cases h1 : p < b
          · by_cases h2 : b < q
            · have HC3 := Lib.hid (show crossS (a, b) (p, q) = true by simp [crossS, h1, h2])
              have HS3 := Lib.hid (show nestS (a, b) (p, q) = false by simp [nestS, h2])
              go_wp2
              go_quiet (fail)
              go_wp2
              go_quiet (fail)
              go_wp2
              go_roundw
              case rel =>
                have e1 := HC2.out
                have e2 := HS2.out
                rw [HC3.out] at e1
                rw [HS3.out] at e2
                simp at e1 e2
                exact ⟨j + 1, c2 + 1, s2 + 0, by omega, by omega, by go_num, by go_num, rfl, by omega, by omega, Lib.hid (by omega), Lib.hid (by omega), below_drewN hbi _⟩
              case measure => simp [intOf]; omega
            · have HC3 := Lib.hid (show crossS (a, b) (p, q) = false by simp [crossS, h2])
              have HS3 := Lib.hid (show nestS (a, b) (p, q) = true by simp [nestS, h1, h2])
              go_wp2
              go_quiet (fail)
              go_wp2
              go_quiet (fail)
              go_wp2
              go_roundw
              case rel =>
                have e1 := HC2.out
                have e2 := HS2.out
                rw [HC3.out] at e1
                rw [HS3.out] at e2
                simp at e1 e2
                exact ⟨j + 1, c2 + 0, s2 + 1, by omega, by omega, by go_num, rfl, by go_num, by omega, by omega, Lib.hid (by omega), Lib.hid (by omega), below_drewN hbi _⟩
              case measure => simp [intOf]; omega
          · have HC3 := Lib.hid (show crossS (a, b) (p, q) = false by simp [crossS, h1])
            have HS3 := Lib.hid (show nestS (a, b) (p, q) = false by simp [nestS, h1])
            go_wp2
            go_quiet (fail)
            go_wp2
            go_roundw
            case rel =>
              have e1 := HC2.out
              have e2 := HS2.out
              rw [HC3.out] at e1
              rw [HS3.out] at e2
              simp at e1 e2
              exact ⟨j + 1, c2 + 0, s2 + 0, by omega, by omega, by go_num, rfl, rfl, by omega, by omega, Lib.hid (by omega), Lib.hid (by omega), below_drewN hbi _⟩
            case measure => simp [intOf]; omega
        · have hjn' : j = n := by omega
          subst hjn'
          have hdn : L.drop j = [] := by rw [HN.out, List.drop_length]
          rw [hdn, List.countP_nil] at HC2 HS2
          have hc9' : c2 ≤ 990 * (k + 1) := by omega
          have hs9' : s2 ≤ 990 * (k + 1) := by omega
          have HC9 := Lib.hid hc9'
          have HS9 := Lib.hid hs9'
          have hkk : k + 1 ≤ j := by omega
          clear hdn hc9' hs9' hc29 hs29 hc9 hs9
          go_wp2
          go_roundw
          case rel =>
            have e1 := HC.out
            have e2 := HS.out
            have e3 := HC2.out
            have e4 := HS2.out
            rw [pairsL] at e1 e2
            exact ⟨k + 1, c2, s2, hkk, by go_num, rfl, rfl, HC9.out, HS9.out, Lib.hid (by omega), Lib.hid (by omega), hbi⟩
          case measure => simp [intOf]; omega
    · have hkn : k = n := by omega
      subst hkn
      have hdn : L.drop k = [] := by rw [HN.out, List.drop_length]
      rw [hdn, pairsL] at HC HS
      go_wp2
      go_ret2
      rw [HC.out, HS.out]
      exact ⟨rfl, hb1.trans (hbel.mono hs1)⟩

def arcCross (xs : List Int) : Int × Bool := if partIn xs then (((crossings xs : Nat) : Int), true) else (0, false)

set_option maxHeartbeats 800000 in
theorem sArcCross_v (v : Value) (xs : List Int) (w : World) (hv : RdV w v xs) : Calls Tryz.prog 21 #[v] w (GivesIB w (arcCross xs)) := by
  have HV := Lib.hid hv
  clear hv
  by_cases hp : partIn xs = true
  · have hr : arcCross xs = (((crossings xs : Nat) : Int), true) := by simp [arcCross, hp]
    rw [hr]
    have hl := partIn_len hp
    have HP := Lib.hid hp
    clear hp hr
    have HQ := Lib.hid (l5Pairs_any v xs w HV.out (by omega))
    obtain ⟨c, hc⟩ : ∃ c, c = crossings xs := ⟨_, rfl⟩
    obtain ⟨s, hs⟩ : ∃ s, s = nestings xs := ⟨_, rfl⟩
    rw [← hc, ← hs] at HQ
    first | rw [← hc] | rw [← hs]
    clear hc hs
    go_enter Tryz.func21, Tryz.ntmps21
    go_wp2_with fail
    refine (sPartIn_is true _ _ _ HV.out HP).mono ?_
    rintro e w' ⟨rfl, rfl⟩
    go_wp2_with fail
    refine HQ.out.mono ?_
    rintro e w1 ⟨rfl, hb1⟩
    go_wp2
    go_ret2
    exact ⟨rfl, hb1⟩
  · have hp : partIn xs = false := by simpa using hp
    have hr : arcCross xs = (0, false) := by simp [arcCross, hp]
    rw [hr]
    have HP := Lib.hid hp
    clear hp hr
    go_enter Tryz.func21, Tryz.ntmps21
    go_wp2_with fail
    refine (sPartIn_is false _ _ _ HV.out HP).mono ?_
    rintro e w' ⟨rfl, rfl⟩
    go_wp2
    go_ret2
    exact ⟨rfl, Below.refl _ _⟩

set_option maxHeartbeats 800000 in
theorem iArcCross_v (v : Value) (xs : List Int) (w : World) (hv : RdV w v xs) : Calls Tryz.prog 20 #[v] w (GivesIB w (arcCross xs)) := by
  have HV := Lib.hid hv
  clear hv
  by_cases hp : partIn xs = true
  · have hr : arcCross xs = (((crossings xs : Nat) : Int), true) := by simp [arcCross, hp]
    rw [hr]
    have hl := partIn_len hp
    have HP := Lib.hid hp
    clear hp hr
    have HA := Lib.hid (arcsOf_any v xs w HV.out (by omega))
    have hq := fun (u : Value) (w1 : World) (hu : RdA w1 u (arcsOf xs)) => pairsThat_any _ crossB cross_arc cross_fn u (arcsOf xs) w1 hu ((arcsFrom_sorted xs 0).imp fun h => h.1) (by have := arcsOf_len xs; omega)
    obtain ⟨c, hc⟩ : ∃ c, c = crossings xs := ⟨_, rfl⟩
    change ∀ u w1, RdA w1 u (arcsOf xs) → Calls _ _ _ _ (GivesI w1 ((crossings xs : Nat) : Int)) at hq
    rw [← hc] at hq ⊢
    have HQ := Lib.hid hq
    clear hc hq
    go_enter Tryz.func20, Tryz.ntmps20
    go_wp2_with fail
    refine (iPartIn_is true _ _ _ HV.out HP).mono ?_
    rintro e w' ⟨rfl, rfl⟩
    go_wp2_with fail
    refine HA.out.mono ?_
    rintro e w1 ⟨u, rfl, ho, hb1⟩
    have HO := Lib.hid (ownA_rd ho)
    clear ho
    go_wp2_with fail
    refine (HQ.out _ _ HO.out).mono ?_
    rintro e w2 ⟨rfl, hb2⟩
    go_wp2
    go_ret2
    exact ⟨rfl, below_step hb1 hb2⟩
  · have hp : partIn xs = false := by simpa using hp
    have hr : arcCross xs = (0, false) := by simp [arcCross, hp]
    rw [hr]
    have HP := Lib.hid hp
    clear hp hr
    go_enter Tryz.func20, Tryz.ntmps20
    go_wp2_with fail
    refine (iPartIn_is false _ _ _ HV.out HP).mono ?_
    rintro e w' ⟨rfl, rfl⟩
    go_wp2
    go_ret2
    exact ⟨rfl, Below.refl _ _⟩

def arcNest (xs : List Int) : Int × Bool := if partIn xs then (((nestings xs : Nat) : Int), true) else (0, false)

set_option maxHeartbeats 800000 in
theorem iArcNest_v (v : Value) (xs : List Int) (w : World) (hv : RdV w v xs) : Calls Tryz.prog 213 #[v] w (GivesIB w (arcNest xs)) := by
  have HV := Lib.hid hv
  clear hv
  by_cases hp : partIn xs = true
  · have hr : arcNest xs = (((nestings xs : Nat) : Int), true) := by simp [arcNest, hp]
    rw [hr]
    have hl := partIn_len hp
    have HP := Lib.hid hp
    clear hp hr
    have HA := Lib.hid (arcsOf_any v xs w HV.out (by omega))
    have hq := fun (u : Value) (w1 : World) (hu : RdA w1 u (arcsOf xs)) => pairsThat_any _ nestB nest_arc nest_fn u (arcsOf xs) w1 hu ((arcsFrom_sorted xs 0).imp fun h => h.1) (by have := arcsOf_len xs; omega)
    obtain ⟨c, hc⟩ : ∃ c, c = nestings xs := ⟨_, rfl⟩
    change ∀ u w1, RdA w1 u (arcsOf xs) → Calls _ _ _ _ (GivesI w1 ((nestings xs : Nat) : Int)) at hq
    rw [← hc] at hq ⊢
    have HQ := Lib.hid hq
    clear hc hq
    go_enter Tryz.func213, Tryz.ntmps213
    go_wp2_with fail
    refine (iPartIn_is true _ _ _ HV.out HP).mono ?_
    rintro e w' ⟨rfl, rfl⟩
    go_wp2_with fail
    refine HA.out.mono ?_
    rintro e w1 ⟨u, rfl, ho, hb1⟩
    have HO := Lib.hid (ownA_rd ho)
    clear ho
    go_wp2_with fail
    refine (HQ.out _ _ HO.out).mono ?_
    rintro e w2 ⟨rfl, hb2⟩
    go_wp2
    go_ret2
    exact ⟨rfl, below_step hb1 hb2⟩
  · have hp : partIn xs = false := by simpa using hp
    have hr : arcNest xs = (0, false) := by simp [arcNest, hp]
    rw [hr]
    have HP := Lib.hid hp
    clear hp hr
    go_enter Tryz.func213, Tryz.ntmps213
    go_wp2_with fail
    refine (iPartIn_is false _ _ _ HV.out HP).mono ?_
    rintro e w' ⟨rfl, rfl⟩
    go_wp2
    go_ret2
    exact ⟨rfl, Below.refl _ _⟩

theorem arc_bd (xs : List Int) (h8 : xs.length ≤ 8) : ∀ k, k < (arcsOf xs).length → ((arcsOf xs).getD k (0, 0)).1 < ((arcsOf xs).getD k (0, 0)).2 ∧ ((arcsOf xs).getD k (0, 0)).2 < 8 := by
  intro k hk
  have hm : (arcsOf xs).getD k (0, 0) ∈ arcsFrom 0 xs := by
    show (arcsOf xs).getD k (0, 0) ∈ arcsOf xs
    simp [List.getD, hk]
  obtain ⟨_, h2, h3, _⟩ := arcsFrom_mem xs 0 _ hm
  exact ⟨h2, by omega⟩

def arcLong (xs : List Int) : Int × Bool := if partIn xs then (((longL (arcsOf xs) : Nat) : Int), true) else (0, false)

set_option maxHeartbeats 4000000 in
theorem sArcLong_v (v : Value) (xs : List Int) (w : World) (hv : RdV w v xs) : Calls Tryz.prog 97 #[v] w (GivesIB w (arcLong xs)) := by
  have HV := Lib.hid hv
  clear hv
  by_cases hp : partIn xs = true
  · have hr : arcLong xs = (((longL (arcsOf xs) : Nat) : Int), true) := by simp [arcLong, hp]
    rw [hr]
    have hl := partIn_len hp
    have HP := Lib.hid hp
    have HA := Lib.hid (l5Arcs_any v xs w HV.out (by omega))
    have HBD := Lib.hid (arc_bd xs hl.2)
    have hal := arcsOf_len xs
    obtain ⟨L, hL⟩ : ∃ L, L = arcsOf xs := ⟨_, rfl⟩
    rw [← hL] at HA HBD hal ⊢
    have hL8 : L.length ≤ 8 := by omega
    clear hp hr hL hal hl
    go_enter Tryz.func97, Tryz.ntmps97
    go_wp2_with fail
    refine (sPartIn_is true _ _ _ HV.out HP).mono ?_
    rintro e w' ⟨rfl, rfl⟩
    go_wp2_with fail
    refine HA.out.mono ?_
    rintro e w1 ⟨va, rfl, ho, hb1⟩
    obtain ⟨ao, ca, rfl, hx⟩ := arcsAt_own ho
    obtain ⟨n, hn⟩ : ∃ n, n = L.length := ⟨_, rfl⟩
    rw [← hn] at hL8 ⊢
    have HN := Lib.hid hn
    have HX := Lib.hid hx
    clear ho hn hx
    have hs1 := hb1.size
    go_wp2
    go_loopw [4, 6] (fun u i wr => ∃ k s : Nat, k ≤ n ∧ i = .int .i64 k ∧ u = .int .i64 s ∧ s ≤ 8 * k ∧ Hid (longL L = s + longL (L.drop k)) ∧ Below w1.heap.size w1 wr)
      (fun _ i _ => n - (intOf i).toNat)
    case atStart => exact ⟨0, 0, Nat.zero_le _, rfl, rfl, by omega, Lib.hid (by simp), Below.refl _ _⟩
    case round =>
      obtain ⟨k, s, hk, rfl, rfl, hs8, HS, hbel⟩ := hrel
      have hbs := hbel.size
      by_cases hlt : k < n
      · rcases HX.out with hx | ⟨g, rfl, hcx⟩
        · have := HN.out
          rw [hx] at this
          simp at this
          omega
        obtain ⟨gk, ck, hk0, hk1, hk2⟩ := hcx k (by have := HN.out; omega)
        rw [← hbel.cell (World.block_lt_of_cell? w1 _ hk0)] at hk0
        rw [← hbel.cell (World.block_lt_of_cell? w1 _ hk1)] at hk1
        rw [← hbel.cell (World.block_lt_of_cell? w1 _ hk2)] at hk2
        have hd : L.drop k = L.getD k (0, 0) :: L.drop (k + 1) := by
          rw [List.drop_eq_getElem_cons (by have := HN.out; omega)]
          simp [List.getD, show k < L.length by have := HN.out; omega]
        rw [hd, longL] at HS
        obtain ⟨hab, hb8⟩ := HBD.out k (by have := HN.out; omega)
        obtain ⟨⟨a, b⟩, hy⟩ : ∃ y, y = L.getD k (0, 0) := ⟨_, rfl⟩
        rw [← hy] at HS hk1 hk2 hab hb8
        dsimp only at hk1 hk2 hab hb8 HS
        clear hy hcx hd
        go_wp2
        go_quiet (fail)
        go_wp2
        go_roundw
        case rel => exact ⟨k + 1, s + (b - a), by omega, by go_num, by go_num, by omega, Lib.hid (by have := HS.out; omega), below_drewN hbel _⟩
        case measure => simp [intOf]; omega
      · have hkn : k = n := by omega
        subst hkn
        have hdn : L.drop k = [] := by rw [HN.out, List.drop_length]
        rw [hdn, longL] at HS
        go_wp2
        go_ret2
        rw [HS.out]
        exact ⟨rfl, hb1.trans (hbel.mono hs1)⟩
  · have hp : partIn xs = false := by simpa using hp
    have hr : arcLong xs = (0, false) := by simp [arcLong, hp]
    rw [hr]
    have HP := Lib.hid hp
    clear hp hr
    go_enter Tryz.func97, Tryz.ntmps97
    go_wp2_with fail
    refine (sPartIn_is false _ _ _ HV.out HP).mono ?_
    rintro e w' ⟨rfl, rfl⟩
    go_wp2
    go_ret2
    exact ⟨rfl, Below.refl _ _⟩

set_option maxHeartbeats 4000000 in
theorem iArcLong_v (v : Value) (xs : List Int) (w : World) (hv : RdV w v xs) : Calls Tryz.prog 214 #[v] w (GivesIB w (arcLong xs)) := by
  have HV := Lib.hid hv
  clear hv
  by_cases hp : partIn xs = true
  · have hr : arcLong xs = (((longL (arcsOf xs) : Nat) : Int), true) := by simp [arcLong, hp]
    rw [hr]
    have hl := partIn_len hp
    have HP := Lib.hid hp
    have HA := Lib.hid (arcsOf_any v xs w HV.out (by omega))
    have HBD := Lib.hid (arc_bd xs hl.2)
    have hal := arcsOf_len xs
    obtain ⟨L, hL⟩ : ∃ L, L = arcsOf xs := ⟨_, rfl⟩
    rw [← hL] at HA HBD hal ⊢
    have hL8 : L.length ≤ 8 := by omega
    clear hp hr hL hal hl
    go_enter Tryz.func214, Tryz.ntmps214
    go_wp2_with fail
    refine (iPartIn_is true _ _ _ HV.out HP).mono ?_
    rintro e w' ⟨rfl, rfl⟩
    go_wp2_with fail
    refine HA.out.mono ?_
    rintro e w1 ⟨va, rfl, ho, hb1⟩
    obtain ⟨ao, ca, rfl, hlc, hcm, hx⟩ := ownA_rd ho
    obtain ⟨n, hn⟩ : ∃ n, n = L.length := ⟨_, rfl⟩
    rw [← hn] at hL8 ⊢
    have HN := Lib.hid hn
    have HX := Lib.hid hx
    clear ho hn hx
    have hs1 := hb1.size
    go_wp2
    go_loopw [4, 13] (fun u i wr => ∃ k s : Nat, k ≤ n ∧ i = .int .i64 k ∧ u = .int .i64 s ∧ s ≤ 8 * k ∧ Hid (longL L = s + longL (L.drop k)) ∧ Below w1.heap.size w1 wr)
      (fun _ i _ => n - (intOf i).toNat)
    case atStart => exact ⟨0, 0, Nat.zero_le _, rfl, rfl, by omega, Lib.hid (by simp), Below.refl _ _⟩
    case round =>
      obtain ⟨k, s, hk, rfl, rfl, hs8, HS, hbel⟩ := hrel
      have hbs := hbel.size
      by_cases hlt : k < n
      · rcases HX.out with hx | ⟨g, rfl, hcx⟩
        · have := HN.out
          rw [hx] at this
          simp at this
          omega
        obtain ⟨hk1, hk2⟩ := hcx k (by have := HN.out; omega)
        rw [← hbel.cell (World.block_lt_of_cell? w1 _ hk1)] at hk1
        rw [← hbel.cell (World.block_lt_of_cell? w1 _ hk2)] at hk2
        have hd : L.drop k = L.getD k (0, 0) :: L.drop (k + 1) := by
          rw [List.drop_eq_getElem_cons (by have := HN.out; omega)]
          simp [List.getD, show k < L.length by have := HN.out; omega]
        rw [hd, longL] at HS
        obtain ⟨hab, hb8⟩ := HBD.out k (by have := HN.out; omega)
        obtain ⟨⟨a, b⟩, hy⟩ : ∃ y, y = L.getD k (0, 0) := ⟨_, rfl⟩
        rw [← hy] at HS hk1 hk2 hab hb8
        dsimp only at hk1 hk2 hab hb8 HS
        clear hy hcx hd
        go_wp2
        go_roundw
        case rel => exact ⟨k + 1, s + (b - a), by omega, by go_num, by go_num, by omega, Lib.hid (by have := HS.out; omega), hbel.alloc hbs _⟩
        case measure => simp [intOf]; omega
      · have hkn : k = n := by omega
        subst hkn
        have hdn : L.drop k = [] := by rw [HN.out, List.drop_length]
        rw [hdn, longL] at HS
        go_wp2
        go_ret2
        rw [HS.out]
        exact ⟨rfl, hb1.trans (hbel.mono hs1)⟩
  · have hp : partIn xs = false := by simpa using hp
    have hr : arcLong xs = (0, false) := by simp [arcLong, hp]
    rw [hr]
    have HP := Lib.hid hp
    clear hp hr
    go_enter Tryz.func214, Tryz.ntmps214
    go_wp2_with fail
    refine (iPartIn_is false _ _ _ HV.out HP).mono ?_
    rintro e w' ⟨rfl, rfl⟩
    go_wp2
    go_ret2
    exact ⟨rfl, Below.refl _ _⟩
end

section
open Go.RowKit

set_option maxHeartbeats 1600000 in
theorem l4Place_w (v : Value) (xs : List Int) (w : World) (hv : RdV w v xs) (hp : partIn xs = true) :
    Calls Tryz.prog 38 #[v] w fun e w' => e = .returned (.int .i64 (plc xs)) ∧ w = w' := by
  have hs := partIn_small hp
  have hlen := partIn_len hp
  have hok := partIn_ok hp
  have hpb := plc_bd hok
  have hob := opn_bd xs.length 0 (by omega) (by omega)
  have hpl : plc xs ≤ 4140 := by omega
  obtain ⟨ao, cap, rfl, hrd, hcl, hcm⟩ := hv
  unfold maxLen at hcm
  rcases hrd with hx | ⟨b, off, rfl, hc⟩
  · rw [hx] at hlen
    simp at hlen
  have HSZ : Hid (∀ i, i ≤ xs.length → Calls Tryz.prog 62 #[.slice (some ⟨b, off, none⟩) i cap] w fun e w' => e = .returned (.int .i64 (sizeFrom 0 (xs.take i))) ∧ w = w') := fun i hi => by
    have hl : (xs.take i).length = i := by simp; omega
    have := l1Size_any (some ⟨b, off, none⟩) cap (xs.take i) w (.inr ⟨b, off, rfl, fun j hj => by
      rw [hl] at hj
      rw [hc j (by omega)]
      simp [List.getD, List.getElem?_take, hj]⟩) (by omega) (small_take hs i)
    rw [hl] at this
    exact this
  have HC := Lib.hid hc
  have HOK := Lib.hid hok
  have HS := Lib.hid hs
  obtain ⟨P, hP⟩ : ∃ P, P = plc xs := ⟨_, rfl⟩
  rw [← hP] at hpl ⊢
  have HPE := Lib.hid hP
  obtain ⟨n, hn⟩ : ∃ n, n = xs.length := ⟨_, rfl⟩
  rw [← hn] at HSZ hlen hcl ⊢
  obtain ⟨hn1, hn8⟩ := hlen
  have HN := Lib.hid hn
  clear hp hs hok hpb hob hc hP hn
  go_enter Tryz.func38, Tryz.ntmps38
  go_wp2
  go_loop [3, 4] (fun u v => ∃ (k : Nat) (p : Int), k ≤ n ∧ v = .int .i64 k ∧ u = .int .i64 p ∧ 0 ≤ p ∧ P = p + plcFrom (sizeFrom 0 (xs.take k)) (xs.drop k))
    (fun _ v => n - (intOf v).toNat)
  case atStart => exact ⟨0, 0, Nat.zero_le _, rfl, rfl, by omega, by rw [HPE.out]; simp [plc, sizeFrom]⟩
  case round =>
    obtain ⟨k, p, hk, rfl, rfl, hp0, hpe⟩ := hrel
    by_cases hlt : k < n
    · have hkl : k < xs.length := HN.out ▸ hlt
      have hat := okFrom_at HOK.out k hkl
      have hx7 := HS.out k hkl
      have hst := size_le_len (xs.take k) 0 (by omega) (okFrom_take HOK.out k)
      rw [List.length_take] at hst
      have hpd := plc_drop k hkl (sizeFrom 0 (xs.take k))
      rw [← size_succ k hkl] at hpd
      have hrest := plcFrom_bd (xs.drop (k + 1)) (sizeFrom 0 (xs.take (k + 1))) (sizeFrom_nonneg _ _) (okFrom_drop HOK.out (k + 1))
      rw [hpd] at hpe
      have hcx := HC.out k hkl
      have HSK := Lib.hid (HSZ.out k (Nat.le_of_lt hlt))
      obtain ⟨x, hx⟩ : ∃ x, x = xs.getD k 0 := ⟨_, rfl⟩
      obtain ⟨s, hsd⟩ : ∃ s, s = sizeFrom 0 (xs.take k) := ⟨_, rfl⟩
      rw [← hx] at hcx hat hx7 hpe
      rw [← hsd] at hat HSK hpe hst
      rw [← HN.out] at hpe hst
      obtain ⟨hx0, hx7⟩ := hx7
      obtain ⟨_, hxs⟩ := hat
      have hs0 : 0 ≤ s := by omega
      have hsk : s ≤ k := by omega
      have HE := Lib.hid (l4Open_any (n - (k + 1)) ((n : Int) - 1 - (k : Int)) s w (by omega) hs0 (by omega))
      have hmb := opn_bd (n - (k + 1)) s hs0 (by omega)
      obtain ⟨o, ho⟩ : ∃ o, o = opn (n - (k + 1)) s := ⟨_, rfl⟩
      rw [← ho] at HE hmb hpe
      obtain ⟨hmb0, hmb1⟩ := hmb
      have hpx : p + x * o ≤ 4140 := by omega
      have HPEK := Lib.hid hpe
      clear hpd hrest hpe hx hsd ho hkl hst
      go_wp2_with (go_at_call 62; refine HSK.out.mono ?_; rintro e w' ⟨rfl, rfl⟩)
      go_loop [3, 6] (fun u v => ∃ m : Nat, (m : Int) ≤ x ∧ v = .int .i64 m ∧ u = .int .i64 (p + m * o)) (fun _ v => (x - intOf v).toNat)
      case atStart => exact ⟨0, by omega, rfl, by congr 1; simp⟩
      case round =>
        obtain ⟨m, hm, rfl, rfl⟩ := hrel
        have hmo0 : 0 ≤ (m : Int) * o := Int.mul_nonneg (by omega) (by omega)
        by_cases hmx : (m : Int) < x
        · have hmo : ((m : Int) + 1) * o ≤ x * o := Int.mul_le_mul_of_nonneg_right (by omega) (by omega)
          rw [Int.add_mul, Int.one_mul] at hmo
          have hmax : max s ((m : Int) + 1) = s := by omega
          have HMX := Lib.hid hmax
          clear hmax
          have HEQ : Hid (p + ((m + 1 : Nat) : Int) * o = p + (m : Int) * o + o) := by
            show p + ((m + 1 : Nat) : Int) * o = p + (m : Int) * o + o
            rw [show ((m + 1 : Nat) : Int) = (m : Int) + 1 by omega, Int.add_mul, Int.one_mul]
            omega
          go_wp2_with (go_at_call 63; rw [HMX.out]; refine HE.out.mono ?_; rintro e w' ⟨rfl, rfl⟩)
          go_round
          case rel => exact ⟨m + 1, by omega, by go_num, by rw [HEQ.out]⟩
          case measure => simp [intOf]; omega
        · have hmx2 : (m : Int) = x := by omega
          have HEQ : Hid (p + (m : Int) * o = p + x * o) := by
            show p + (m : Int) * o = p + x * o
            rw [hmx2]
          have hx9 : ¬ (m : Int) < x := hmx
          clear hmx2
          go_wp2
          go_round
          case rel => exact ⟨k + 1, p + x * o, by omega, by go_num, by rw [HEQ.out], by rw [← HEQ.out]; omega, by rw [HPEK.out]; omega⟩
          case measure => simp [intOf]; omega
    · obtain rfl : k = n := by omega
      rw [List.drop_of_length_le (by rw [← HN.out]; exact Nat.le_refl _), plcFrom, Int.add_zero] at hpe
      have HPEK := Lib.hid hpe
      clear hpe
      go_wp2
      go_ret
      exact ⟨ret_int HPEK.out.symm, rfl⟩
end

section
open Go.RowKit

theorem sListPlace_v (v : Value) (xs : List Int) (w : World) (hv : RdV w v xs) : Calls Tryz.prog 16 #[v] w (GivesIB w (listPlace xs)) := by
  have HV := Lib.hid hv
  clear hv
  by_cases hp : partIn xs = true
  · have hr : listPlace xs = (plc xs, true) := by simp [listPlace, hp]
    rw [hr]
    have HPL := Lib.hid (l4Place_w v xs w HV.out hp)
    have HP := Lib.hid hp
    clear hp hr
    go_enter Tryz.func16, Tryz.ntmps16
    go_wp2_with fail
    refine (sPartIn_is true _ _ _ HV.out HP).mono ?_
    rintro e w' ⟨rfl, rfl⟩
    go_wp2_with fail
    refine HPL.out.mono ?_
    rintro e w' ⟨rfl, rfl⟩
    go_wp2
    go_ret2
    exact ⟨rfl, Below.refl _ _⟩
  · have hp : partIn xs = false := by simpa using hp
    have hr : listPlace xs = (0, false) := by simp [listPlace, hp]
    rw [hr]
    have HP := Lib.hid hp
    clear hp hr
    go_enter Tryz.func16, Tryz.ntmps16
    go_wp2_with fail
    refine (sPartIn_is false _ _ _ HV.out HP).mono ?_
    rintro e w' ⟨rfl, rfl⟩
    go_wp2
    go_ret2
    exact ⟨rfl, Below.refl _ _⟩
end

section
open Go.RowKit

def partBlocks (xs : List Int) : List (List Int) × Bool := if partIn xs then (blocksTo xs (pSize xs).toNat, true) else ([], false)
end

section
open Go.RowKit

def plainP (L : List (Nat × Nat)) : Bool := (pairsL crossB L : Int) == 0
theorem pairs_arcs (g : Nat × Nat → Nat × Nat → Bool) (f : FuncId) (hf : ArcFn f g) (hi : IsFn f) (xs : List Int) (hp : partIn xs = true) (u : Value) (W : World) (hu : RdA W u (arcsOf xs)) :
    Calls Tryz.prog 39 #[.func (.func f) #[] #[], u] W (GivesI W (pairsL g (arcsOf xs) : Nat)) :=
  pairsThat_any f g hf hi u (arcsOf xs) W hu ((arcsFrom_sorted xs 0).imp fun h => h.1) (by have := arcsOf_len xs; have := partIn_len hp; omega)

theorem plain_fn : IsFn 252 := fun args w => by kernel_rfl
theorem plain_fit (w0 : World) : FitFn 252 #[] w0 plainP := by
  intro xs W u hp hb hu
  have HQ := Lib.hid (pairs_arcs crossB _ cross_arc cross_fn xs hp u W hu)
  unfold plainP
  obtain ⟨c, hc⟩ : ∃ c, c = pairsL crossB (arcsOf xs) := ⟨_, rfl⟩
  rw [← hc] at HQ ⊢
  clear hp hu hc hb
  show Calls _ _ #[u] _ _
  go_enter Tryz.func252, Tryz.ntmps252
  go_wp2_with fail
  refine HQ.out.mono ?_
  rintro e w1 ⟨rfl, hb1⟩
  go_wp2
  go_ret
  exact ⟨rfl, hb1⟩

theorem linesThat_any (c : Nat) (f : FuncId) (caps : Array Value) (p : List (Nat × Nat) → Bool) (w : World) (hc1 : 1 ≤ c) (hc7 : c ≤ 7) (hfit : FitFn f caps w p) (hfe : IsFn f) :
    Calls Tryz.prog 253 #[.func (.func f) #[] caps, .int .i64 c] w (GivesI w ((allL c).countP (fun xs => p (arcsOf xs)) : Nat)) :=
  callsIn_wide.1 (linesThat_in 6 (by omega) c f caps p w hc1 hc7 hfit hfe)

def arcPlain (n : Int) : Int × Bool := if 1 ≤ n ∧ n ≤ 7 then (((allL n.toNat).countP (fun xs => plainP (arcsOf xs)) : Nat), true) else (0, false)
theorem iArcPlain_v (n : Int) (w : World) (_ : (Lit.int .i64 n).wf = true) : Calls Tryz.prog 198 #[.int .i64 n] w (GivesIB w (arcPlain n)) := by
  by_cases h : 1 ≤ n ∧ n ≤ 7
  · have hr : arcPlain n = ((((allL n.toNat).countP (fun xs => plainP (arcsOf xs)) : Nat) : Int), true) := by simp [arcPlain, h]
    rw [hr]
    obtain ⟨c, rfl⟩ : ∃ c : Nat, n = c := ⟨n.toNat, by omega⟩
    rw [Int.toNat_natCast]
    have HL := Lib.hid fun (w1 : World) => linesThat_any c _ #[] plainP w1 (by omega) (by omega) (plain_fit w1) plain_fn
    obtain ⟨q, hq⟩ : ∃ q, q = (allL c).countP (fun xs => plainP (arcsOf xs)) := ⟨_, rfl⟩
    rw [← hq] at HL ⊢
    clear hr hq
    obtain ⟨h1, h2⟩ := h
    go_enter Tryz.func198, Tryz.ntmps198
    go_wp2_with fail
    refine (HL.out _).mono ?_
    rintro e w1 ⟨rfl, hb1⟩
    go_wp2
    go_ret2
    exact ⟨rfl, hb1⟩
  · have hr : arcPlain n = (0, false) := by simp [arcPlain, h]
    rw [hr]
    clear hr
    by_cases h1 : n < 1
    · go_enter Tryz.func198, Tryz.ntmps198
      go_wp2
      go_ret2
      exact ⟨rfl, Below.refl _ _⟩
    · have h2 : n > 7 := by omega
      go_enter Tryz.func198, Tryz.ntmps198
      go_wp2
      go_ret2
      exact ⟨rfl, Below.refl _ _⟩
end

section
open Go.RowKit

theorem bits_or : ∀ k : Nat, k < 8 → ∀ m : Nat, m < 2 ^ k → bitsL (m ||| 2 ^ k) = bitsL m ++ [(k : Int)] ∧ m ||| 2 ^ k < 2 ^ (k + 1) := by decide +kernel
theorem bits_mask (xs : List Int) (b : Nat) : ∀ k, k ≤ 8 → bitsL (maskAt xs b k) = blkAt xs b k ∧ maskAt xs b k < 2 ^ k
  | 0, _ => ⟨by unfold maskAt blkAt; decide, by unfold maskAt; decide⟩
  | k + 1, h => by
    obtain ⟨h1, h2⟩ := bits_mask xs b k (by omega)
    have h3 := bits_or k (by omega) _ h2
    have h4 : 2 ^ k ≤ 2 ^ (k + 1) := Nat.pow_le_pow_right (by omega) (by omega)
    unfold maskAt blkAt
    split
    · rw [h3.1, h1]
      exact ⟨rfl, h3.2⟩
    · exact ⟨h1, by omega⟩

set_option maxHeartbeats 3200000 in
theorem iPartBlocks_v (v : Value) (xs : List Int) (w : World) (hT : Tab w) (hv : RdV w v xs) : Calls Tryz.prog 205 #[v] w (FreshMB w (partBlocks xs)) := by
  have HV := Lib.hid hv
  clear hv
  by_cases hp : partIn xs = true
  · have hr : partBlocks xs = (blocksTo xs (pSize xs).toNat, true) := by simp [partBlocks, hp]
    have hl := partIn_len hp
    have hsm := partIn_small hp
    have hbd := pSize_bd hsm
    have hpos := pSize_pos hsm hl.1
    obtain ⟨p, hps⟩ := Int.eq_ofNat_of_zero_le hbd.1
    rw [hps, Int.toNat_natCast] at hr
    rw [hr]
    rw [hps] at hbd hpos
    have HPS := Lib.hid hps
    have HSM := Lib.hid hsm
    have HP := Lib.hid hp
    clear hr hp hps hsm
    obtain ⟨i0, hi, hz0, hz1, hz2⟩ := info_parts Tryz.infoInts
    obtain ⟨hl1, hl8⟩ := hl
    have hp1 : 1 ≤ p := by omega
    go_enter Tryz.func205, Tryz.ntmps205
    go_wp2_with fail
    refine (iPartIn_is true _ _ _ HV.out HP).mono ?_
    rintro e w' ⟨rfl, rfl⟩
    go_wp2_with fail
    refine (blockCount_v _ xs _ HV.out hl1 HSM.out).mono ?_
    rintro e w' ⟨rfl, rfl⟩
    rw [HPS.out]
    go_wp2_with (at_make; refine wpList_make_own _ rfl _ _ 91 rfl w.heap.size 26 i0 (.slice none 0 0) 1 Tryz.underlying91 hi hz0 hz1 _ _ _ p rfl rfl rfl (by rw [hz2]; omega) (by unfold maxLen; omega) (Nat.le_refl _) ?_)
    intro w1 hown1 hgrow1
    have hb1 : Below w.heap.size w w1 := (Below.refl _ _).grown hgrow1 (Nat.le_refl _) (fun k h => by cases h)
    have hin1 := World.ownsRow.lt hown1
    have hs12 : w.heap.size < w1.heap.size := (hin1 _ rfl).2
    have HO1 := Lib.hid (show OwnM w1 w.heap.size w1.heap.size (.slice (some ⟨w.heap.size, 0, none⟩) 0 p) [] from ⟨[], rfl, hown1, hin1, fun i hi => by simp at hi, fun i j _ hj => by simp at hj⟩)
    clear hown1 hgrow1 hin1
    go_wp2_with fail
    refine (blocksOf_v _ xs p _ (rdv_below HV.out hb1) HP.out HPS.out).mono ?_
    rintro e w2 ⟨rfl, hu2, hb2⟩
    have hbel2 := below_step hb1 hb2
    have HO2 := Lib.hid (ownM_below HO1.out hb2)
    have HU := Lib.hid hu2
    have hs2 : w1.heap.size < w2.heap.size := (World.ownsRow.lt HU.out _ rfl).2
    have hT2 := tab_below hT hbel2
    clear hu2 hb2 hb1
    go_wp2
    go_loopw [4, 16] (fun u i wr => ∃ k g cap S : Nat, k ≤ p ∧ i = .int .i64 k ∧ u = .slice (some ⟨g, 0, none⟩) k cap ∧ OwnM wr w.heap.size S (.slice (some ⟨g, 0, none⟩) k cap) (blocksTo xs k) ∧ OwnU wr w1.heap.size (.slice (some ⟨w1.heap.size, 0, none⟩) p p) (masks xs xs.length p) ∧ g ≠ w1.heap.size ∧ w.heap.size ≤ S ∧ S ≤ wr.heap.size ∧ Below w.heap.size w wr)
      (fun _ i _ => p - (intOf i).toNat)
    case atStart => exact ⟨0, w.heap.size, p, w1.heap.size, Nat.zero_le _, rfl, rfl, HO2.out, HU.out, by omega, by omega, by omega, hbel2⟩
    case round =>
      obtain ⟨k, g, cap, S, hk, rfl, rfl, hown, hu, hg, hS1, hS2, hbel⟩ := hrel
      by_cases hlt : k < p
      · have hml : (masks xs xs.length p).length = p := by simp [masks]
        have hcm := ownU_cell hu hml.symm k (by omega)
        have hgm : (masks xs xs.length p).getD k 0 = maskAt xs k xs.length := by simp [masks, List.getD, hlt]
        rw [hgm] at hcm
        have hm256 := maskAt_256 xs k xs.length (by omega)
        have hbm := (bits_mask xs k xs.length hl8).1
        have hbs := blocksTo_succ xs k
        obtain ⟨m, hm⟩ : ∃ m, m = maskAt xs k xs.length := ⟨_, rfl⟩
        rw [← hm] at hcm hm256 hbm
        rw [← hbm] at hbs
        have HBS := Lib.hid hbs
        have HO := Lib.hid hown
        have HUr := Lib.hid hu
        have HL := Lib.hid (list_any m wr (tab_below hT hbel) hm256)
        have HML := Lib.hid hml
        clear hml hgm hbm hbs hm hown hu
        go_wp2_with fail
        refine HL.out.mono ?_
        rintro e w3 ⟨u, rfl, hou, hb3⟩
        obtain ⟨ua, uc, rfl, _⟩ := own_rd hou
        obtain ⟨ul, hul⟩ : ∃ ul, ul = (bitsL m).length := ⟨_, rfl⟩
        rw [← hul] at hou ⊢
        clear hul
        have hiu := inB_of_own hou
        have HOU := Lib.hid (own_mono hou hbel.size)
        have HO3 := Lib.hid (ownM_below HO.out hb3)
        have HU3 := Lib.hid (ownU_below HUr.out hb3)
        have hbel3 := below_step hbel hb3
        have hsz3 := hb3.size
        have hB3 := hbel3.size
        clear hou hb3
        go_wp2_with (at_builtin; refine wpList_pushM rfl _ _ rfl w.heap.size S g k cap (blocksTo xs k) rfl (ownM_below HO3.out (by exact (Below.refl _ _).alloc (Nat.le_refl _) _)) (by rw [blocksTo_length]) ⟨w3.heap.size, 0, none⟩ rfl (.slice ua ul uc) (bitsL m) (cell_new1 _ _ _) (own_alloc HOU.out _) (fun q hq => by have := hiu q hq; simp; omega) hS1 (by simp; omega) (by omega) (k + 1) rfl ?_)
        intro g' cap' w4 hown4 hgr4
        rw [← HBS.out] at hown4
        have hu4 : OwnU w4 w1.heap.size (.slice (some ⟨w1.heap.size, 0, none⟩) p p) (masks xs xs.length p) :=
          World.ownsRow.kept (World.ownsRow.alloc HU3.out _) hgr4 (.inr (by simp [Value.ownBlock]; omega))
        have hg' : g' ≠ w1.heap.size := by
          intro e
          subst e
          obtain ⟨z, hz, hoz, _⟩ := ownM_cell hown4 0 (by rw [blocksTo_length]; omega)
          obtain ⟨zo, zc, rfl, _⟩ := own_rd hoz
          have h0 := ownU_cell hu4 HML.out.symm 0 (by rw [HML.out]; omega)
          rw [hz] at h0
          cases h0
        have hgw : w.heap.size ≤ g := by
          obtain ⟨vs, _, ho, hib, _⟩ := HO3.out
          exact (hib g rfl).1
        have hbel4 : Below w.heap.size w w4 := (hbel3.alloc hB3 _).grown hgr4 (by simp; omega) (fun q hq => by cases hq; exact hgw)
        have HO4 := Lib.hid hown4
        have HU4 := Lib.hid hu4
        have hB4 := hbel4.size
        clear hown4 hgr4 hu4
        go_wp2
        go_roundw
        case rel => exact ⟨k + 1, g', cap', w4.heap.size, by omega, by go_num, rfl, HO4.out, HU4.out, hg', hB4, Nat.le_refl _, hbel4⟩
        case measure => simp [intOf]; omega
      · have hkp : k = p := by omega
        subst hkp
        have HO := Lib.hid hown
        have HB := Lib.hid hbel
        clear hown hu hbel
        go_wp2
        go_ret2
        exact ⟨_, rfl, ownM_mono HO.out (Nat.le_refl _) hS2, HB.out⟩
  · have hp : partIn xs = false := by simpa using hp
    have hr : partBlocks xs = ([], false) := by simp [partBlocks, hp]
    rw [hr]
    have HP := Lib.hid hp
    clear hp hr
    go_enter Tryz.func205, Tryz.ntmps205
    go_wp2_with fail
    refine (iPartIn_is false _ _ _ HV.out HP).mono ?_
    rintro e w' ⟨rfl, rfl⟩
    go_wp2
    go_ret2
    exact ⟨_, rfl, ⟨[], rfl, World.ownsRow_nil _ _ _ _, fun k hk => by simp [Value.ownBlock] at hk, fun i hi => by simp at hi, fun i j _ hj => by simp at hj⟩, Below.refl _ _⟩
end

end Go.Proofs.YtmflecemkodklaaGreatDoor
