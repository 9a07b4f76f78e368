/-
  What the laws of this claim lean on: what functions of the program and of the model answer, one after another, and plain mathematics. No condition.
-/
import Derived.Test.YtfiaiephbemdoaaDoorMgH
import Derived.Test.YtfiaiephbemdoaaDoorMgJ
import Derived.Carry
import Derived.Deep.RegionHeld3
import Derived.Laws.BitsAllLaws
import Derived.StillTailTactics
import Derived.RangeFuncLeaves
import Derived.RangeFuncNested
import Derived.RangeFuncBox
import Derived.RangeFuncBound
import Derived.RangeFuncCalls
import Derived.Shelf.Abstract
import Derived.WalkKit
import Derived.OwnWalkIn
import Derived.TacticsInMore
import Derived.LoopNIn
import Derived.LoopIn
import Derived.Maps.AppendAt
import Derived.Lib.BufferWrite
import Derived.Test.YtfiaiephbemdoaaDoorRows
import Derived.Lib.LaidTab
import Derived.MakeChecks
import Derived.Conc.Holds
import Derived.Handed
import Derived.ClaimOpenTies
import Derived.SevenTiedAt
import Derived.Seven

set_option maxHeartbeats 800000
set_option linter.unusedVariables false
set_option linter.unusedSimpArgs false
set_option linter.unnecessarySimpa false
set_option maxRecDepth 100000

namespace Go.Proofs.YtfiaiephbemdoaaDoor

theorem okV_of {vs : List (List Int)} (h : areV vs = true) {k : Nat} (hk : k < vs.length) : (vs.getD k []).length ≤ 5 ∧ alike (vs.getD 0 []) (vs.getD k []) = true := by
  simp only [areV, Bool.and_eq_true, List.all_eq_true] at h
  have := h.2 (vs.getD k []) (by simp [List.getD, hk])
  simpa [okV] using this
theorem areV_len {vs : List (List Int)} (h : areV vs = true) : 1 ≤ vs.length ∧ vs.length ≤ 6 := by
  simp only [areV, Bool.and_eq_true, decide_eq_true_eq] at h
  exact h.1
theorem areV_row {vs : List (List Int)} (h : areV vs = true) : ∃ L, 1 ≤ L ∧ L ≤ 5 ∧ ∀ k, k < vs.length → (vs.getD k []).length = L ∧ partIn (vs.getD k []) = true := by
  have h1 := areV_len h
  obtain ⟨a1, a2⟩ := okV_of h (k := 0) (by omega)
  have a3 := (alike_iff.1 a2).1
  refine ⟨(vs.getD 0 []).length, ?_, a1, fun k hk => ?_⟩
  · have := a3
    simp only [partIn, Bool.and_eq_true, decide_eq_true_eq] at this
    exact this.1.1
  · obtain ⟨b1, b2⟩ := okV_of h hk
    obtain ⟨b3, b4, b5⟩ := alike_iff.1 b2
    exact ⟨b5.symm, b4⟩

theorem costOf_range (a : List Int) (vs : List (List Int)) (n : Nat) (hn : n ≤ vs.length) : ((List.range n).map fun k => ((quar a (vs.getD k []) : Nat) : Int)).sum = ((costOf a (vs.take n) : Nat) : Int) := by
  induction n with
  | zero => simp [costOf]
  | succ n ih =>
    rw [List.range_succ, List.map_append, List.sum_append, ih (by omega), costOf_step a vs n (by omega)]
    simp
theorem votes_step (l : List (List Int)) (i j k : Nat) (h : k < l.length) : votes (l.take (k + 1)) i j = votes (l.take k) i j + (if (l.getD k []).getD i 0 = (l.getD k []).getD j 0 then 1 else 0) := by
  have ap : ∀ l m, votes (l ++ m) i j = votes l i j + votes m i j := by
    intro l m
    induction l with
    | nil => simp [votes]
    | cons v l ih => simp only [votes, List.cons_append, List.foldr_cons] at ih ⊢; omega
  have hk : l.getD k [] = l[k] := by simp [List.getD, h]
  rw [List.take_succ_eq_append_getElem h, ap, hk]
  simp only [votes, List.foldr_cons, List.foldr_nil, Nat.add_zero]
theorem votes_range (vs : List (List Int)) (i j n : Nat) (hn : n ≤ vs.length) : ((List.range n).map fun k => (if (vs.getD k []).getD i 0 = (vs.getD k []).getD j 0 then 1 else 0 : Int)).sum = ((votes (vs.take n) i j : Nat) : Int) := by
  induction n with
  | zero => simp [votes]
  | succ n ih =>
    rw [List.range_succ, List.map_append, List.sum_append, ih (by omega), votes_step vs i j n (by omega)]
    by_cases e : (vs.getD n []).getD i 0 = (vs.getD n []).getD j 0
    · simp only [List.map_cons, List.map_nil, List.sum_cons, List.sum_nil, if_pos e]; simp
    · simp only [List.map_cons, List.map_nil, List.sum_cons, List.sum_nil, if_neg e]; simp

theorem quar_le (a b : List Int) (h : a.length ≤ 8) : quar a b ≤ 64 := by
  have := quarTo_le a b a.length
  have h2 := Nat.mul_le_mul h h
  unfold quar
  omega
theorem costOf_le (a : List Int) (h : a.length ≤ 8) (vs : List (List Int)) : costOf a vs ≤ 64 * vs.length := by
  induction vs with
  | nil => simp [costOf]
  | cons v vs ih =>
    have := quar_le a v h
    simp only [costOf, List.foldr_cons, List.length_cons] at ih ⊢
    omega

def viewCost (a : List Int) (vs : List (List Int)) : Int × Bool := if areV vs && alike a (vs.getD 0 []) then ((costOf a vs : Nat), true) else (0, false)

section
open Go.Conc Go.RowKit

theorem rows_at {w : World} {v : Value} {vs : List (List Int)} {L : Nat} (hv : RdM w v vs) (hn : 1 ≤ vs.length) (h1 : 1 ≤ L) (hL : ∀ k, k < vs.length → (vs.getD k []).length = L) :
    ∃ (vb vo vcap : Nat) (bV oV cV : Nat → Nat), v = .slice (some ⟨vb, vo, none⟩) vs.length vcap ∧ ∀ k, k < vs.length → w.cell? ⟨vb, vo + k, none⟩ = some (.slice (some ⟨bV k, oV k, none⟩) L (cV k)) ∧ Nums w (bV k) (oV k) (vs.getD k []) ∧ RdV w (.slice (some ⟨bV k, oV k, none⟩) L (cV k)) (vs.getD k []) := by
  obtain ⟨ao, ca, rs, hvl, rfl, _, _, h3, h4⟩ := hv
  rcases h3 with h | ⟨vb, vo, rfl, hc⟩
  · rw [h] at hn; simp at hn
  have key : ∀ k, ∃ t : Nat × Nat × Nat, k < vs.length → w.cell? ⟨vb, vo + k, none⟩ = some (.slice (some ⟨t.1, t.2.1, none⟩) L t.2.2) ∧ Nums w t.1 t.2.1 (vs.getD k []) ∧ RdV w (.slice (some ⟨t.1, t.2.1, none⟩) L t.2.2) (vs.getD k []) := by
    intro k
    by_cases hk : k < vs.length
    · have hrv := h4 k hk
      obtain ⟨zo, zc, e, hr, _⟩ := h4 k hk
      rw [hL k hk] at e
      rw [e] at hrv
      rcases hr with hr | ⟨b, o, rfl, hr⟩
      · have := hL k hk
        rw [hr] at this
        simp at this
        omega
      · exact ⟨(b, o, zc), fun _ => ⟨by rw [hc k hk, e], hr, hrv⟩⟩
    · exact ⟨(0, 0, 0), fun h => absurd h hk⟩
  obtain ⟨F, hF⟩ := Classical.axiomOfChoice key
  exact ⟨vb, vo, ca, fun k => (F k).1, fun k => (F k).2.1, fun k => (F k).2.2, rfl, hF⟩

theorem cell_push {w w1 : World} {o : Obj} (e : w1.heap = w.heap.push o) {a : Addr} {v : Value} (h : w.cell? a = some v) : w1.cell? a = some v := by
  have hb : a.block < w.heap.size := World.block_lt_of_cell? w _ h
  unfold World.cell? at h ⊢
  rw [e, Array.getElem?_push_lt hb, ← Array.getElem?_eq_getElem hb]
  exact h
theorem nums_push {w w1 : World} {o : Obj} (e : w1.heap = w.heap.push o) {b off : Nat} {xs : List Int} (h : Nums w b off xs) : Nums w1 b off xs := fun j hj => cell_push e (h j hj)
theorem cell_pushed {w w1 : World} {v : Value} {t : TypeId} (e : w1.heap = w.heap.push (.cells #[v] t)) : w1.cell? ⟨w.heap.size, 0, none⟩ = some v := by simp [World.cell?, e]

theorem own_sums {w' : World} {B S q : Nat} {ys : Array Value} {xs : List Int} (hB : B ≤ S) (h1 : w'.heap[S]? = some (.cells ys 3)) (h2 : ys.size = q) (hq : xs.length = q) (hqm : q ≤ maxLen) (h3 : ∀ x, x < q → ys[x]? = some (.int .i64 (xs.getD x 0))) : Own w' B (.slice (some ⟨S, 0, none⟩) q q) xs := by
  subst hq
  refine ⟨by simp, .inr ⟨S, xs.length, ys, rfl, hB, h1, Nat.le_refl _, hqm, by omega, ?_⟩⟩
  refine List.ext_getElem? fun i => ?_
  rw [Nat.mul_one, List.take_of_length_le (by rw [Array.length_toList]; omega)]
  by_cases hi : i < xs.length
  · rw [Array.getElem?_toList, h3 i hi]
    simp [List.getD, hi]
  · rw [List.getElem?_eq_none (by rw [Array.length_toList]; omega), List.getElem?_eq_none (by simp; omega)]

theorem sumC_all (avs : Nat → Nat → Int) (n x : Nat) : sumC avs n 0 x = ((List.range n).map fun i => avs i x).sum := by simp [sumC]

section
variable {X w : World}
theorem bel_sums {w1 w' : World} {o : Obj} {v : Value} {n q : Nat} {avs : Nat → Nat → Int} (e : w1.heap = w.heap.push o) (e1 : w1.os = w.os) (e2 : w1.output = w.output) (h : Sums w1 n q avs v w') : Bel w w' := by
  have hs : w1.heap.size = w.heap.size + 1 := by rw [e, Array.size_push]
  obtain ⟨ys, h1, _⟩ := h.sums
  have := (Array.getElem?_eq_some_iff.1 h1).1
  refine ⟨h.os.trans e1, h.output.trans e2, by omega, fun b hb => ?_⟩
  rw [h.old b (by omega), e, Array.getElem?_push_lt hb, ← Array.getElem?_eq_getElem hb]

set_option maxRecDepth 100000 in
set_option maxHeartbeats 1600000 in
theorem costs_v {pv vv : Value} {ps vs : List (List Int)} {L : Nat} (hp : RdM w pv ps) (hv : RdM w vv vs) (h1 : 1 ≤ L) (h8 : L ≤ 8) (hpl : ∀ k, k < ps.length → (ps.getD k []).length = L) (hvl : ∀ k, k < vs.length → (vs.getD k []).length = L)
    (hp1 : 1 ≤ ps.length) (hpm : ps.length ≤ 10000) (hv1 : 1 ≤ vs.length) (hv6 : vs.length ≤ 6) :
    CallsB (duo Tryd.prog X) 20 #[pv, vv] w (fun v w' => Own w' w.heap.size v (ps.map fun p => ((costOf p vs : Nat) : Int)) ∧ Bel w w') := by
  obtain ⟨pb, po, pcap, bP, oP, cP, rfl, hP⟩ := rows_at hp hp1 h1 hpl
  obtain ⟨vb, vo, vcap, bV, oV, cV, rfl, hV⟩ := rows_at hv hv1 h1 hvl
  refine costs_b (X := X) fun w1 e e1 e2 => ?_
  obtain ⟨avs, havs⟩ : ∃ avs : Nat → Nat → Int, avs = fun c l => ((quar (ps.getD l []) (vs.getD c []) : Nat) : Int) := ⟨_, rfl⟩
  have hsum : ∀ c x, c ≤ vs.length → x < ps.length → ((List.range c).map fun i => avs i x).sum = ((costOf (ps.getD x []) (vs.take c) : Nat) : Int) := fun c x hc hx => by
    rw [havs]; exact costOf_range _ _ _ hc
  have hq64 : ∀ c x, x < ps.length → 0 ≤ avs c x ∧ avs c x ≤ 64 := fun c x hx => by
    rw [havs]
    have := quar_le (ps.getD x []) (vs.getD c []) (by rw [hpl x hx]; exact h8)
    simp only
    omega
  have hcl : ∀ c x, x < ps.length → costOf (ps.getD x []) (vs.take c) ≤ 64 * 6 := fun c x hx => by
    have := costOf_le (ps.getD x []) (by rw [hpl x hx]; exact h8) (vs.take c)
    simp only [List.length_take] at this
    omega
  have hask := hask_costs (X := X) (w := w1) (n := vs.length) (q := ps.length) (L := L) (pcap := pcap) (cP := cP) (cV := cV) (P := fun x => ps.getD x []) (V := fun k => vs.getD k []) h1 h8 (cell_pushed e) (fun x hx => cell_push e (hP x hx).1) (fun x hx => ⟨nums_push e (hP x hx).2.1, hpl x hx⟩) (fun k hk => ⟨nums_push e (hV k hk).2.1, hvl k hk⟩)
  refine (totals_b (X := X) (w := w1) (n := vs.length) (q := ps.length) (vb := vb) (vo := vo) (vcap := vcap) (row := fun k => .slice (some ⟨bV k, oV k, none⟩) L (cV k)) (avs := avs) (by omega) (by omega) (by omega) ?_ (fun i hi => cell_push e (hV i hi).1) (fun i _ => ⟨_, _, _, rfl⟩) (by rw [havs]; exact hask)).mono fun v w' hs => ⟨?_, bel_sums e e1 e2 hs⟩
  · intro c l x hc hl hx
    unfold sumC
    rw [hsum c x (by omega) hx]
    have a := hcl c x hx
    have b := hq64 c x hx
    split <;> omega
  · obtain ⟨ys, y1, y2, y3⟩ := hs.sums
    rw [hs.val]
    have hsz : w1.heap.size = w.heap.size + 1 := by rw [e, Array.size_push]
    refine own_sums (by omega) y1 y2 (by simp) (by unfold maxLen; omega) fun x hx => ?_
    rw [y3 x hx, sumC_all, hsum vs.length x (Nat.le_refl _) hx, List.take_length]
    simp [List.getD, hx]
end
end

section
open Go.Conc Go.RowKit

theorem calls_kept {X w : World} {f : FuncId} {fn : Func} {cd : Code} {args : Array Value} {R : Value → World → Prop} (hp : (cutP Tryd.prog).funcs[f]? = some fn) (hP : Tryd.prog.funcs[f]? = some fn) (hb : fn.body = some cd) (hok : okCode Tryd.prog cd = true) (hi : Tryd.prog.inits.idxOf? f = none)
    (h : ∀ τ, Calls (cutP Tryd.prog) f args (ownTape w τ) fun e w' => ∃ v, e = .returned v ∧ R v w') : CallsB (duo Tryd.prog X) f args w R := by
  refine CallsB.of_calls kit ⟨fn, hp, hP⟩ ?_ fun τ => (h τ).mono ?_
  · have e : Frame.enter Tryd.prog f args .normal = { (default : Frame) with fn := f, kind := .normal }.at { tmps := args ++ Array.replicate (fn.ntmps - args.size) undef, defers := [] } [.code cd] := by
      simp [Frame.enter, Frame.at, hP, hb]
    show okFrame (duo Tryd.prog X) (Frame.enter Tryd.prog f args .normal)
    rw [e]
    refine ⟨fun it hit => ?_, fun d hd => (by cases hd), rfl, hi, fun _ => ⟨fn, hp, hP⟩⟩
    obtain rfl : it = .code cd := by simpa [Frame.at] using hit
    exact hok
  · rintro e w' ⟨v, rfl, hv⟩
    exact hv

theorem CallsB.own {T : Two} {f : FuncId} {args : Array Value} {w : World} {R : Value → World → Prop} {τ : Nat → Question → Nat} (h : CallsB T f args w R) : CallsB T f args (ownTape w τ) R :=
  fun c H fr cs h1 h2 h3 h4 => h c H fr cs h1 ⟨h2.size, h2.os, h2.output, h2.out, h2.hid, h2.ok, h2.low, h2.grown⟩ h3 h4

theorem bel_of_below {w w' : World} {τ : Nat → Question → Nat} (h : Below w.heap.size (ownTape w τ) w') : Bel w w' := ⟨h.os, h.output, h.size, h.block⟩
theorem Bel.refl (w : World) : Bel w w := ⟨rfl, rfl, Nat.le_refl _, fun _ _ => rfl⟩
theorem Bel.trans {a b c : World} (h : Bel a b) (k : Bel b c) : Bel a c := ⟨k.os.trans h.os, k.output.trans h.output, Nat.le_trans h.size k.size, fun i hi => (k.block i (Nat.lt_of_lt_of_le hi h.size)).trans (h.block i hi)⟩
theorem Bel.cell {w w' : World} (h : Bel w w') {a : Addr} {v : Value} (hc : w.cell? a = some v) : w'.cell? a = some v := by
  have hb : a.block < w.heap.size := World.block_lt_of_cell? w _ hc
  unfold World.cell? at hc ⊢
  rw [h.block _ hb]
  exact hc
theorem Bel.rdv {w w' : World} (h : Bel w w') {v : Value} {xs : List Int} (hv : RdV w v xs) : RdV w' v xs := by
  obtain ⟨ao, cap, e, hr, h2⟩ := hv
  refine ⟨ao, cap, e, ?_, h2⟩
  rcases hr with hr | ⟨b, off, e2, hc⟩
  · exact .inl hr
  · exact .inr ⟨b, off, e2, fun j hj => h.cell (hc j hj)⟩
theorem Bel.rdm {w w' : World} (h : Bel w w') {v : Value} {vs : List (List Int)} (hv : RdM w v vs) : RdM w' v vs := by
  obtain ⟨ao, ca, rs, hvl, e, h1, h2, h3, h4⟩ := hv
  refine ⟨ao, ca, rs, hvl, e, h1, h2, ?_, fun i hi => h.rdv (h4 i hi)⟩
  rcases h3 with hr | ⟨b, off, e2, hc⟩
  · exact .inl hr
  · exact .inr ⟨b, off, e2, fun j hj => h.cell (hc j hj)⟩
theorem Bel.alloc (w : World) (o : Obj) : Bel w (w.alloc o) := ⟨rfl, rfl, by rw [alloc_size]; omega, fun b hb => push_old hb⟩
theorem rdm_one {w : World} {v0 : Value} {xs : List Int} (h : RdV w v0 xs) (t : TypeId) : RdM (w.alloc (.cells #[v0] t)) (.slice (some ⟨w.heap.size, 0, none⟩) 1 1) [xs] := by
  refine ⟨_, 1, [v0], rfl, rfl, Nat.le_refl _, by unfold maxLen; omega, .inr ⟨w.heap.size, 0, rfl, fun i hi => ?_⟩, fun i hi => ?_⟩
  · obtain rfl : i = 0 := by simp at hi; exact hi
    exact cell_in (push_at (w := w) (o := .cells #[v0] t) rfl) rfl
  · obtain rfl : i = 0 := by simp at hi; exact hi
    exact (Bel.alloc w _).rdv h
theorem own_first {w : World} {B : Nat} {v : Value} {x : Int} {xs : List Int} (h : Own w B v (x :: xs)) : ∃ g cap, v = .slice (some ⟨g, 0, none⟩) (xs.length + 1) cap ∧ w.cell? ⟨g, 0, none⟩ = some (.int .i64 x) := by
  rcases own_view h with ⟨_, e⟩ | ⟨g, cap, e, _, _, _, _, hc, _⟩
  · cases e
  · exact ⟨g, cap, e, by simpa using hc 0 (by simp)⟩
end

section
open Go.RowKit

theorem heap_setCell2 {W : World} {B : Nat} {u v : Value} {t : TypeId} (v' : Value) (h : W.heap[B]? = some (.cells #[u, v] t (0, 0))) : (W.setCell ⟨B, 1, none⟩ v').heap[B]? = some (.cells #[u, v'] t (0, 0)) := by
  obtain ⟨hlt, hk⟩ := Array.getElem?_eq_some_iff.1 h
  show (W.heap.modify B _)[B]? = _
  rw [Array.getElem?_eq_getElem (by rw [Array.size_modify]; exact hlt), Array.getElem_modify_self, hk]
  rfl

def Rdr (w : World) (g : Nat) (bs : Value) (p : Nat) : Prop := w.heap[g]? = some (.cells #[bs, .int .i64 p] 72 (0, 0))

theorem rdr_facts {w : World} {g p : Nat} {bs : Value} (h : Rdr w g bs p) :
    g < w.heap.size ∧ w.cell? ⟨g, 0, none⟩ = some bs ∧ w.cell? ⟨g, 1, none⟩ = some (.int .i64 p) ∧ w.frozen? ⟨g, 1, none⟩ = false := by
  unfold Rdr at h
  refine ⟨(Array.getElem?_eq_some_iff.1 h).1, ?_, ?_, ?_⟩ <;> simp [World.cell?, World.frozen?, h]

def Bytes (w : World) (a : Option Addr) (len : Nat) : Prop :=
  len = 0 ∨ ∃ b off, a = some ⟨b, off, none⟩ ∧ ∀ j, j < len → ∃ x : Nat, x ≤ 255 ∧ w.cell? ⟨b, off + j, none⟩ = some (.int .u8 x)

theorem bytes_below {w w' : World} {a : Option Addr} {len : Nat} (h : Bytes w a len) (hb : Below w.heap.size w w') : Bytes w' a len := by
  rcases h with h | ⟨b, off, ha, hc⟩
  · exact .inl h
  · refine .inr ⟨b, off, ha, fun j hj => ?_⟩
    obtain ⟨x, hx, hcx⟩ := hc j hj
    exact ⟨x, hx, by rw [hb.cell (World.block_lt_of_cell? w _ hcx)]; exact hcx⟩

theorem bytes_short {w : World} {a : Option Addr} {len m : Nat} (h : Bytes w a len) (hm : m ≤ len) : Bytes w a m := by
  rcases h with h | ⟨b, off, ha, hc⟩
  · exact .inl (by omega)
  · exact .inr ⟨b, off, ha, fun j hj => hc j (by omega)⟩

set_option maxHeartbeats 400000 in
theorem l6Open_any (a : Option Addr) (len cap : Nat) (w : World) (hby : Bytes w a len) (hlen : len ≤ 1048576) (hc : len ≤ cap) (hcm : cap ≤ maxLen) :
    Calls (cutP Tryd.prog) 30 #[.slice a len cap] w fun e w' => e = .returned (.pointer (some ⟨w.heap.size, 0, none⟩)) ∧
      ∃ m, m ≤ 2000 ∧ Bytes w a m ∧ Rdr w' w.heap.size (.slice a m cap) 0 ∧ Below w.heap.size w w' ∧ w.heap.size < w'.heap.size := by
  have HB := Lib.hid hby
  clear hby
  by_cases hl : len > 2000
  · go_enter Trydp.func30, Trydp.ntmps30
    go_wp2
    go_ret
    refine ⟨rfl, 2000, Nat.le_refl _, bytes_short HB.out (by omega), ?_, (Below.refl _ _).alloc (Nat.le_refl _) _, by rw [World.size_alloc]; omega⟩
    unfold Rdr World.alloc
    exact Array.getElem?_push_size
  · go_enter Trydp.func30, Trydp.ntmps30
    go_wp2
    go_ret
    refine ⟨rfl, len, by omega, HB.out, ?_, (Below.refl _ _).alloc (Nat.le_refl _) _, by rw [World.size_alloc]; omega⟩
    unfold Rdr World.alloc
    exact Array.getElem?_push_size

theorem xor_small (a b : Nat) (ha : a < 2 ^ 32) (hb : b < 2 ^ 32) : bits .xor .i64 (a : Int) (b : Int) = ((a ^^^ b : Nat) : Int) := by
  have hx := Nat.xor_lt_two_pow ha hb
  have e : (2 : Nat) ^ 64 = 18446744073709551616 := by decide
  have e32 : (2 : Nat) ^ 32 = 4294967296 := by decide
  have ha' : a % 2 ^ IntKind.i64.bits = a := Nat.mod_eq_of_lt (show a < 2 ^ 64 by omega)
  have hb' : b % 2 ^ IntKind.i64.bits = b := Nat.mod_eq_of_lt (show b < 2 ^ 64 by omega)
  have : bits .xor .i64 (a : Int) (b : Int) = IntKind.i64.wrap ((a ^^^ b : Nat) : Int) := by
    simp only [bits, BitVec.ofInt_natCast, BitVec.toNat_xor, BitVec.toNat_ofNat, ha', hb']
  rw [this, IntKind.wrap_i64]
  omega

def mixed (x y p d : Nat) : Nat := x * 131 + y * 1117 + p * 29 + d * 53

theorem mixed_at (x y p d n : Nat) (hx : x ≤ 255) (hy : y ≤ 255) (hp : p ≤ 1000000) (hd : d ≤ 1000000) :
    (bits BinOp.xor IntKind.i64 (↑x * 131 + ↑y * 1117 + ↑p * 29 + ↑d * 53) ((↑x * 131 + ↑y * 1117 + ↑p * 29 + ↑d * 53) / 64)).tmod (n : Int) = (((mixed x y p d ^^^ mixed x y p d / 64) % n : Nat) : Int) := by
  have hm : mixed x y p d < 2 ^ 32 := by unfold mixed; omega
  have e3 : (x : Int) * 131 + y * 1117 + p * 29 + d * 53 = ((mixed x y p d : Nat) : Int) := by
    unfold mixed
    omega
  rw [e3]
  generalize mixed x y p d = m at *
  have e4 : (m : Int) / 64 = ((m / 64 : Nat) : Int) := by omega
  rw [e4, xor_small m (m / 64) hm (by omega), Int.tmod_eq_emod_of_nonneg (by omega)]
  exact (Int.natCast_emod _ _).symm

def Picked (w : World) (g : Nat) (bs : Value) (p n : Nat) (e : Ending) (w' : World) : Prop :=
  ∃ r : Nat, e = .returned (.int .i64 r) ∧ r < n ∧ Rdr w' g bs (p + 1) ∧ w.grownBy w' (some g) ∧ w'.heap.size = w.heap.size

set_option maxHeartbeats 1000000 in
theorem pick_any (g : Nat) (a : Option Addr) (len cap p n : Nat) (w : World) (hr : Rdr w g (.slice a len cap) p) (hby : Bytes w a len) (hne : 0 < len → ∀ x, a = some x → x.block ≠ g) (hlen : len ≤ 2000) (hp : p ≤ 1000000) (hn : 1 ≤ n) (hn2 : n ≤ 100000) :
    Calls (cutP Tryd.prog) 45 #[.pointer (some ⟨g, 0, none⟩), .int .i64 n] w (Picked w g (.slice a len cap) p n) := by
  obtain ⟨hg, hc0, hc1, hfz⟩ := rdr_facts hr
  have HS := Lib.hid (heap_setCell2 (.int .i64 ((p : Int) + 1)) hr)
  have hgr : w.grownBy (w.setCell ⟨g, 1, none⟩ (.int .i64 ((p : Int) + 1))) (some g) :=
    ⟨rfl, rfl, rfl, by simp [World.setCell], fun k _ hk => Below.heap_setCell w _ _ k fun e => hk (by rw [e])⟩
  have HG := Lib.hid hgr
  clear hgr hr
  have HB := Lib.hid hby
  clear hby
  by_cases h0 : len = 0
  · subst h0
    go_enter Trydp.func45, Trydp.ntmps45
    go_wp2
    go_ret
    exact ⟨0, rfl, by omega, by simpa [Rdr] using HS.out, HG.out, by simp [World.setCell]⟩
  · rcases HB.out with h | ⟨b, off, rfl, hcs⟩
    · exact absurd h h0
    have hbg : b ≠ g := hne (by omega) _ rfl
    have hgb : g ≠ b := fun e => hbg e.symm
    have hz : ((len : Int) == 0) = false := by simp; omega
    have hcs' : ∀ j, j < len → ∃ x : Nat, x ≤ 255 ∧ (w.setCell ⟨g, 1, none⟩ (.int .i64 ((p : Int) + 1))).cell? ⟨b, off + j, none⟩ = some (.int .u8 x) := fun j hj => by
      obtain ⟨x, hx, hc⟩ := hcs j hj
      exact ⟨x, hx, by rw [World.cell?_setCell_far _ _ _ _ hgb]; exact hc⟩
    by_cases hlt : p < len
    · obtain ⟨x, hx, hcx⟩ := hcs' p hlt
      clear hcs hcs'
      go_enter Trydp.func45, Trydp.ntmps45
      go_wp2
      go_ret
      refine ⟨x % n, ret_int (Int.natCast_emod x n).symm, Nat.mod_lt _ (by omega), by simpa [Rdr] using HS.out, HG.out, by simp [World.setCell]⟩
    · obtain ⟨q, hq⟩ : ∃ q, q = p % len := ⟨_, rfl⟩
      obtain ⟨q', hq'⟩ : ∃ q', q' = (p * 7 + 3) % len := ⟨_, rfl⟩
      obtain ⟨x, hx, hcx⟩ := hcs' q (by rw [hq]; exact Nat.mod_lt _ (by omega))
      obtain ⟨y, hy, hcy⟩ := hcs' q' (by rw [hq']; exact Nat.mod_lt _ (by omega))
      clear hcs hcs'
      have hqi : ((p : Int) % (len : Int)) = (q : Int) := by rw [hq]; exact (Int.natCast_emod p len).symm
      have hqi' : (((p : Int) * 7 + 3) % (len : Int)) = (q' : Int) := by rw [hq', Int.natCast_emod]; rfl
      have hql : q < len := by rw [hq]; exact Nat.mod_lt _ (by omega)
      have hql' : q' < len := by rw [hq']; exact Nat.mod_lt _ (by omega)
      clear hq hq'
      obtain ⟨d, hd⟩ : ∃ d, d = p / len := ⟨_, rfl⟩
      have hdi : ((p : Int) / (len : Int)) = (d : Int) := by rw [hd]; exact (Int.natCast_ediv p len).symm
      have hdl : d ≤ 1000000 := by rw [hd]; exact Nat.le_trans (Nat.div_le_self _ _) hp
      clear hd
      have hle : (len : Int) ≤ p := by omega
      go_enter Trydp.func45, Trydp.ntmps45
      go_wp2
      go_quiet (fail)
      go_wp2
      go_ret
      refine ⟨(mixed x y p d ^^^ mixed x y p d / 64) % n, ?_, Nat.mod_lt _ (by omega), by simpa [Rdr, World.drewN, World.setCell] using HS.out, ?_, by simp [World.setCell]⟩
      · exact ret_int (mixed_at x y p d n hx hy hp hdl)
      · exact grown_trans HG.out (below_drewN (Below.refl _ _) nq |> grown_of_below |> fun h => ⟨h.os, h.tape, h.output, h.size, fun k hk _ => h.block k hk (by simp)⟩)
end

section
open Go.Conc Go.RowKit

section
variable {w W W1 : World} {τ : Nat → Question → Nat} {v : Value} {xs : List Int} {xss : List (List Int)} {B S : Nat}
theorem rdv_ownT (h : RdV W v xs) : RdV (ownTape W τ) v xs := h
theorem rdm_ownT (h : RdM W v xss) : RdM (ownTape W τ) v xss := h
theorem own_ownT (h : Own W B v xs) : Own (ownTape W τ) B v xs := h
theorem bel_ownT (h : Bel w W) : Bel w (ownTape W τ) := ⟨h.os, h.output, h.size, h.block⟩
theorem Bel.below (h : Bel w W) (k : Below W.heap.size W W1) : Bel w W1 := h.trans ⟨k.os, k.output, k.size, k.block⟩
theorem own_bel (h : Own W B v xs) (k : Bel W W1) : Own W1 B v xs := by
  refine ⟨h.1, ?_⟩
  rcases h.2 with h | ⟨g, cap, cur, e, hb, hg, h2⟩
  · exact .inl h
  · exact .inr ⟨g, cap, cur, e, hb, (k.block g (Array.getElem?_eq_some_iff.1 hg).1).trans hg, h2⟩
theorem ownM_bel (h : OwnM W B S v xss) (k : Bel W W1) : OwnM W1 B S v xss := by
  obtain ⟨vs, hl, ho, hi, hr, ha⟩ := h
  refine ⟨vs, hl, ⟨ho.1, ?_⟩, hi, fun i hi' => ⟨own_bel (hr i hi').1 k, (hr i hi').2⟩, ha⟩
  rcases ho.2 with h | ⟨g, cap, cur, e, hb, hg, h2⟩
  · exact .inl h
  · exact .inr ⟨g, cap, cur, e, hb, (k.block g (Array.getElem?_eq_some_iff.1 hg).1).trans hg, h2⟩
end

theorem cell_veil {W : World} {a : Addr} {v : Value} (h : W.cell? a = some v) : (veilW W).cell? a = some v := by
  unfold World.cell? at h ⊢
  rw [veilW_get]
  cases hb : W.heap[a.block]? with
  | none => rw [hb] at h; cases h
  | some o =>
    rw [hb] at h
    cases o <;> first | exact h | cases h
theorem rdv_veil {W : World} {v : Value} {xs : List Int} (h : RdV W v xs) : RdV (veilW W) v xs := by
  obtain ⟨ao, cap, e, hr, h2⟩ := h
  refine ⟨ao, cap, e, ?_, h2⟩
  rcases hr with hr | ⟨b, off, e2, hc⟩
  · exact .inl hr
  · exact .inr ⟨b, off, e2, fun j hj => cell_veil (hc j hj)⟩
theorem rdm_veil {W : World} {v : Value} {vs : List (List Int)} (h : RdM W v vs) : RdM (veilW W) v vs := by
  obtain ⟨ao, ca, rs, hvl, e, h1, h2, h3, h4⟩ := h
  refine ⟨ao, ca, rs, hvl, e, h1, h2, ?_, fun i hi => rdv_veil (h4 i hi)⟩
  rcases h3 with hr | ⟨b, off, e2, hc⟩
  · exact .inl hr
  · exact .inr ⟨b, off, e2, fun j hj => cell_veil (hc j hj)⟩

theorem bytes_veil {W : World} {a : Option Addr} {len : Nat} (h : Bytes W a len) : Bytes (veilW W) a len := by
  rcases h with h | ⟨b, off, e, hc⟩
  · exact .inl h
  · exact .inr ⟨b, off, e, fun j hj => by obtain ⟨x, h1, h2⟩ := hc j hj; exact ⟨x, h1, cell_veil h2⟩⟩
theorem bytes_ownT {W : World} {τ : Nat → Question → Nat} {a : Option Addr} {len : Nat} (h : Bytes W a len) : Bytes (ownTape W τ) a len := h

structure Keeps (W W' : World) : Prop where
  os : W'.os = W.os
  output : W'.output = W.output
  block : ∀ b, b < W.heap.size → W'.heap[b]? = W.heap[b]?
theorem Keeps.frame {W W' : World} (h : Keeps W W') (may : MemPlace → Prop) : W.keptBut W' may := by
  refine ⟨h.os, h.output, fun i hi => ?_⟩
  rw [h.block i hi]
  split <;> simp_all
theorem Keeps.same {W W' : World} (h : Keeps W W') {p : MemPlace} (hp : p.block < W.heap.size) : W.sameAt W' p := by
  cases p with
  | cell b o => exact World.cell?_of_block (w := W) (h.block b hp)
  | map b => exact h.block b hp
theorem Keeps.trod {H : Type} {enc : TypeId × Value → H} {P : Program} {t : TypeId} (hl : laidOutB P = true) (hr : P.readableRec t = true) (hrow : t < P.types.size) {W W' : World} {v : Value} {d : DataW H} {ps : List MemPlace}
    (h : DataW.Trod enc P W 0 (fun _ => true) true t v d ps) (hb : Keeps W W') (hlt : ∀ x ∈ ps, x.block < W.heap.size) :
    DataW.Trod enc P W' 0 (fun b => decide (b < W.heap.size)) true t v d ps :=
  WideElems.Trod_stays hl hr hrow h (fun x hx => hb.same (hlt x hx)) (fun x hx => by simpa using hlt x hx)

theorem kept_code {fn : Func} {cd : Code} (h : (match fn.body with | some c => okCode Tryd.prog c | none => false) = true) (hcd : fn.body = some cd) : okCode Tryd.prog cd = true := by
  rw [hcd] at h
  exact h

theorem law_true {W : World} {f : FuncId} {fn : Func} {cd : Code} {t : Tmp} {args : Array Value} (hp : (cutP Tryd.prog).funcs[f]? = some fn) (hP : Tryd.prog.funcs[f]? = some fn) (hb : fn.body = some cd) (hok : okCode Tryd.prog cd = true) (hi : Tryd.prog.inits.idxOf? f = none) (hres : fn.results = #[.tmp t])
    (h : WpB (duo Tryd.prog W) cd (bodyB (cutP Tryd.prog) fn fun v w' => v = .bool true ∧ Bel (veilW W) w') { tmps := args ++ Array.replicate (fn.ntmps - args.size) undef, defers := [] } (veilW W)) :
    ∃ M last o w' t', runNT Tryd.prog (M + 1) (solo (G (Frame.enter Tryd.prog f args .normal) []) W) #[] = (.ended o w', t') ∧ runN Tryd.prog M (solo (G (Frame.enter Tryd.prog f args .normal) []) W) = .next last ∧ step Tryd.prog last = .ended o w' ∧
      Go.Conc.Good Tryd.prog (fun v W' => v = .bool true ∧ Keeps W W') last o w' t' := by
  obtain ⟨M, last, o, w', t', e1, e2, e3, e4⟩ := law_runs (T := duo Tryd.prog W) kit rfl hp hP hb hok hi hres h
  refine ⟨M, last, o, w', t', e1, e2, e3, e4.mono fun v hv => ?_⟩
  obtain ⟨H, w1, ⟨rfl, hbel⟩, hrel⟩ := hv
  refine ⟨rfl, hrel.os.trans hbel.os, hrel.output.trans hbel.output, fun b hlt => ?_⟩
  exact hrel.back hlt (hbel.block b (by rw [veilW_size]; exact hlt))
end

section
open Go.RowKit

def maskTo (p : Nat → Bool) : Nat → Nat
  | 0 => 0
  | k + 1 => if p k then maskTo p k ||| 2 ^ k else maskTo p k
theorem maskTo_lt (p : Nat → Bool) : ∀ k, maskTo p k < 2 ^ k
  | 0 => by simp [maskTo]
  | k + 1 => by
    have h := maskTo_lt p k
    have h2 : 2 ^ k < 2 ^ (k + 1) := Nat.pow_lt_pow_right (by omega) (by omega)
    unfold maskTo
    split
    · exact Nat.or_lt_two_pow (by omega) h2
    · omega
theorem maskTo_bit (p : Nat → Bool) (j : Nat) : ∀ k, (maskTo p k).testBit j = (decide (j < k) && p j)
  | 0 => by simp [maskTo]
  | k + 1 => by
    have h := maskTo_bit p j k
    unfold maskTo
    by_cases e : j = k
    · subst e
      by_cases hp : p j = true
      · rw [if_pos hp, Nat.testBit_or, h, hp]; simp
      · rw [if_neg hp, h]; simp [hp]
    · have e2 : decide (j < k + 1) = decide (j < k) := by rw [decide_eq_decide]; omega
      rw [e2, ← h]
      split
      · rw [Nat.testBit_or, Nat.testBit_two_pow_of_ne (fun x => e x.symm)]; simp
      · rfl
theorem mask_eq {p q : Nat → Bool} {k : Nat} : maskTo p k = maskTo q k ↔ ∀ j, j < k → p j = q j := by
  constructor
  · intro h j hj
    have h1 := maskTo_bit p j k
    have h2 := maskTo_bit q j k
    rw [h, h2] at h1
    simpa [hj] using h1.symm
  · intro h
    apply Nat.eq_of_testBit_eq
    intro j
    rw [maskTo_bit, maskTo_bit]
    by_cases hj : j < k
    · rw [h j hj]
    · simp [hj]

def togV (vs : List (List Int)) (least i j : Nat) : Bool := decide (least ≤ votes vs i j)
def nearL (vs : List (List Int)) (least L : Nat) : List Nat := (List.range L).map fun i => maskTo (togV vs least i) L
def nrTo (vs : List (List Int)) (least L t : Nat) : List Nat := (List.range L).map fun i => maskTo (togV vs least i) (min L (t - i * L))
theorem nrTo_len (vs : List (List Int)) (least L t : Nat) : (nrTo vs least L t).length = L := by simp [nrTo]
theorem nearL_len (vs : List (List Int)) (least L : Nat) : (nearL vs least L).length = L := by simp [nearL]
theorem nrTo_get (vs : List (List Int)) (least L t : Nat) {i : Nat} (h : i < L) : (nrTo vs least L t).getD i 0 = maskTo (togV vs least i) (min L (t - i * L)) := by simp [nrTo, List.getD, h]
theorem nearL_get (vs : List (List Int)) (least L : Nat) {i : Nat} (h : i < L) : (nearL vs least L).getD i 0 = maskTo (togV vs least i) L := by simp [nearL, List.getD, h]
theorem nrTo_zero (vs : List (List Int)) (least L : Nat) : nrTo vs least L 0 = List.replicate L 0 := by
  apply List.ext_getElem (by simp [nrTo])
  intro i h1 h2
  simp [nrTo, maskTo]
theorem nrTo_all (vs : List (List Int)) (least L : Nat) : nrTo vs least L (L * L) = nearL vs least L := by
  apply List.ext_getElem (by simp [nrTo, nearL])
  intro i h1 h2
  have hi : i < L := by simpa [nrTo] using h1
  have h3 : (i + 1) * L ≤ L * L := Nat.mul_le_mul_right L hi
  rw [Nat.succ_mul] at h3
  simp only [nrTo, nearL, List.getElem_map, List.getElem_range]
  rw [show min L (L * L - i * L) = L by omega]
theorem nrTo_step (vs : List (List Int)) (least L t x y : Nat) (ht : t = x * L + y) (hx : x < L) (hy : y < L) :
    nrTo vs least L (t + 1) = if togV vs least x y then (nrTo vs least L t).set x ((nrTo vs least L t).getD x 0 ||| 2 ^ y) else nrTo vs least L t := by
  have other : ∀ i, i < L → i ≠ x → min L (t + 1 - i * L) = min L (t - i * L) := by
    intro i hi hne
    rcases Nat.lt_or_gt_of_ne hne with h | h
    · have := Nat.mul_le_mul_right L (show i + 1 ≤ x by omega)
      rw [Nat.succ_mul] at this
      omega
    · have := Nat.mul_le_mul_right L (show x + 1 ≤ i by omega)
      rw [Nat.succ_mul] at this
      omega
  have e1 : min L (t + 1 - x * L) = y + 1 := by omega
  have e2 : min L (t - x * L) = y := by omega
  rw [nrTo_get vs least L t hx, e2]
  by_cases hp : togV vs least x y = true
  · rw [if_pos hp]
    apply List.ext_getElem (by simp [nrTo])
    intro i h1 h2
    have hi : i < L := by simpa [nrTo] using h1
    rw [List.getElem_set]
    simp only [nrTo, List.getElem_map, List.getElem_range]
    by_cases e : x = i
    · subst e
      rw [if_pos rfl, e1]
      conv => lhs; unfold maskTo
      rw [if_pos hp]
    · rw [if_neg e, other i hi (fun h => e h.symm)]
  · rw [if_neg hp]
    apply List.ext_getElem (by simp [nrTo])
    intro i h1 h2
    have hi : i < L := by simpa [nrTo] using h1
    simp only [nrTo, List.getElem_map, List.getElem_range]
    by_cases e : i = x
    · subst e
      rw [e1, e2]
      conv => lhs; unfold maskTo
      rw [if_neg hp]
    · rw [other i hi e]
theorem nrTo_lt (vs : List (List Int)) (least L t i : Nat) (h : L ≤ 8) : (nrTo vs least L t).getD i 0 < 256 := by
  by_cases hi : i < L
  · rw [nrTo_get vs least L t hi]
    have h1 := maskTo_lt (togV vs least i) (min L (t - i * L))
    have h2 : 2 ^ (min L (t - i * L)) ≤ 2 ^ 8 := Nat.pow_le_pow_right (by omega) (by omega)
    omega
  · rw [List.getD_eq_getElem?_getD, List.getElem?_eq_none (by rw [nrTo_len]; omega)]
    simp
theorem nearL_lt (vs : List (List Int)) (least L i : Nat) (h : L ≤ 8) : (nearL vs least L).getD i 0 < 256 := by
  rw [← nrTo_all]; exact nrTo_lt _ _ _ _ _ h

def OwnK (w : World) (B : Nat) (v : Value) (ns : List Nat) : Prop := w.ownsRow B 39 1 v ns.length (ns.map fun b => Value.int .u64 (b : Nat))
theorem ownK_cell {w : World} {B g n cap : Nat} {ns : List Nat} (h : OwnK w B (.slice (some ⟨g, 0, none⟩) n cap) ns) (j : Nat) (hj : j < ns.length) : w.cell? ⟨g, j, none⟩ = some (.int .u64 ((ns.getD j 0 : Nat) : Int)) := by
  have h0 := h
  unfold OwnK at h0
  rcases h.2 with ⟨h1, _⟩ | ⟨g', cap', cur, hv, _⟩
  · cases h1
  · simp only [Value.slice.injEq, Option.some.injEq, Addr.mk.injEq, and_true, true_and] at hv
    obtain ⟨rfl, rfl, rfl⟩ := hv
    have := World.ownsRow.cellAt h0 j (by omega)
    rw [this]
    simp [List.getD, hj]
theorem ownK_stored {w : World} {B g n cap : Nat} {ns : List Nat} (h : OwnK w B (.slice (some ⟨g, 0, none⟩) n cap) ns) (hn : n = ns.length) (j x : Nat) :
    OwnK (w.setCell ⟨g, j, none⟩ (.int .u64 (x : Int))) B (.slice (some ⟨g, 0, none⟩) n cap) (ns.set j x) := by
  subst hn
  have := (World.ownsRow.stored h j (.int .u64 (x : Int))).1
  unfold OwnK
  rw [List.length_set, List.map_set]
  exact this
theorem ownK_frozen {w : World} {B g n cap : Nat} {ns : List Nat} (h : OwnK w B (.slice (some ⟨g, 0, none⟩) n cap) ns) (hn : n = ns.length) (j : Nat) : w.frozen? ⟨g, j, none⟩ = false := by
  subst hn
  exact World.ownsRow.frozenAt h j
theorem ownK_below {w w' : World} {B : Nat} {v : Value} {ns : List Nat} (h : OwnK w B v ns) (hb : Below w.heap.size w w') : OwnK w' B v ns :=
  World.ownsRow.kept h (grown_of_below hb) (by cases hv : v.ownBlock <;> simp)
theorem ownK_made {w1 : World} {B g n : Nat} (h : w1.ownsRow B 39 1 (.slice (some ⟨g, 0, none⟩) n n) n (madeCells #[Value.int .u64 0] n).toList) : OwnK w1 B (.slice (some ⟨g, 0, none⟩) n n) (List.replicate n 0) := by
  unfold OwnK
  rw [toList_madeCells_one] at h
  simpa using h
theorem ownK_mono {w : World} {B B' : Nat} {v : Value} {ns : List Nat} (h : OwnK w B v ns) (hB : B' ≤ B) : OwnK w B' v ns := by
  refine ⟨h.1, ?_⟩
  rcases h.2 with h2 | ⟨g, cap, cur, hv, hb, r⟩
  · exact .inl h2
  · exact .inr ⟨g, cap, cur, hv, by omega, r⟩
theorem Tryd.infoK : ((cutP Tryd.prog).info? 39).map (fun i => (i.zero, i.size, i.bytes)) = some (some (.int .u64 0), 1, 8) := by kernel_rfl
theorem with_stillK (b t : Nat) (w : World) (hb : b < 256) (ht : t < 8) : Calls (cutP Tryd.prog) 33 #[.int .u64 b, .int .i64 t] w fun e w' => e = .returned (.int .u64 ((b ||| 2 ^ t : Nat) : Int)) ∧ w' = w :=
  (with_any b t w hb ht).mono fun e w' ⟨h1, h2⟩ => ⟨h1, h2.symm⟩
end

section
open Go.RowKit

def okS (vs : List (List Int)) (v : List Int) : Bool := partIn v && decide (v.length = (vs.getD 0 []).length) && decide (v.length ≤ 5)
theorem areV_S (vs : List (List Int)) : areV vs = (vs.all (okS vs) && decide (1 ≤ vs.length ∧ vs.length ≤ 6)) := by
  unfold areV
  by_cases h : 1 ≤ vs.length ∧ vs.length ≤ 6
  · rw [decide_eq_true h, Bool.true_and, Bool.and_true, Bool.eq_iff_iff, List.all_eq_true, List.all_eq_true]
    have h0 : vs.getD 0 [] ∈ vs := by
      have : 0 < vs.length := h.1
      simp [List.getD, this]
    constructor
    · intro a v hv
      have a1 := a v hv
      simp only [okV, Bool.and_eq_true, decide_eq_true_eq] at a1
      obtain ⟨a2, a3⟩ := a1
      obtain ⟨b1, b2, b3⟩ := alike_iff.1 a3
      simp only [okS, b2, Bool.true_and, Bool.and_eq_true, decide_eq_true_eq]
      exact ⟨b3.symm, a2⟩
    · intro a v hv
      have a1 := a v hv
      have a0 := a _ h0
      simp only [okS, Bool.and_eq_true, decide_eq_true_eq] at a1 a0
      simp only [okV, Bool.and_eq_true, decide_eq_true_eq]
      exact ⟨a1.2, alike_iff.2 ⟨a0.1.1, a1.1.1, a1.1.2.symm⟩⟩
  · rw [decide_eq_false h, Bool.false_and, Bool.and_false]

theorem cell_belowV {w w' : World} {b off : Nat} {v : Value} (h : w.cell? ⟨b, off, none⟩ = some v) (hb : Below w.heap.size w w') : w'.cell? ⟨b, off, none⟩ = some v := by
  rw [hb.cell (World.block_lt_of_cell? w _ h)]
  exact h

theorem cell_row {w : World} {v : Value} {vs : List (List Int)} (hv : RdM w v vs) {k : Nat} (hk : k < vs.length) : ∃ b off ca zo zc, v = .slice (some ⟨b, off, none⟩) vs.length ca ∧ w.cell? ⟨b, off + k, none⟩ = some (.slice zo (vs.getD k []).length zc) ∧ RdV w (.slice zo (vs.getD k []).length zc) (vs.getD k []) := by
  obtain ⟨ao, ca, rs, hvl, rfl, h1, h2, h3, h4⟩ := hv
  rcases h3 with hx | ⟨b, off, rfl, hc⟩
  · rw [hx] at hk; simp at hk
  · obtain ⟨zo, zc, e, x⟩ := h4 k hk
    exact ⟨b, off, ca, zo, zc, rfl, by rw [hc k hk, e], zo, zc, rfl, x⟩

set_option maxHeartbeats 1600000 in
theorem l7Views_v (v : Value) (vs : List (List Int)) (w : World) (hv : RdM w v vs) : Calls (cutP Tryd.prog) 18 #[v] w (GivesB w (areV vs)) := by
  obtain ⟨r, hr⟩ : ∃ r, r = areV vs := ⟨_, rfl⟩
  rw [← hr]
  rw [areV_S] at hr
  have HM := Lib.hid hv
  obtain ⟨ao, ca, rs, hvl, rfl, h1, h2, h3, h4⟩ := hv
  unfold maxLen at h2
  obtain ⟨n, hn⟩ : ∃ n, n = vs.length := ⟨_, rfl⟩
  rw [← hn] at h1 hr HM ⊢
  have HN := Lib.hid hn
  have HR := Lib.hid hr
  clear hr hn h3 h4 hvl
  have bel : Below w.heap.size w w := Below.refl _ _
  go_enter Trydp.func18, Trydp.ntmps18
  go_wp2
  go_loopw [3] (fun i wr => ∃ k : Nat, k ≤ n ∧ i = .int .i64 k ∧ Below w.heap.size w wr ∧ (vs.take k).all (okS vs) = true) (fun i _ => n - (intOf i).toNat)
  case atStart => exact ⟨0, Nat.zero_le _, rfl, bel, by simp⟩
  case round =>
    clear bel
    obtain ⟨k, hk, rfl, bel, hall⟩ := hrel
    have HALL := Lib.hid hall
    clear hall
    by_cases hkn : k < n
    · obtain ⟨b, off, ca', zo, zc, e1, hc0, hz⟩ := cell_row (k := 0) HM.out (by rw [← HN.out]; omega)
      obtain ⟨b', off', ca2, zo', zc', e2, hc1, hrow⟩ := cell_row HM.out (k := k) (by rw [← HN.out]; exact hkn)
      rw [← HN.out] at e1 e2
      have e3 : b' = b ∧ off' = off := by
        rw [e1] at e2
        injection e2 with e2
        injection e2 with e2
        injection e2 with e4 e5
        exact ⟨e4.symm, e5.symm⟩
      obtain ⟨rfl, rfl⟩ := e3
      have ea : ao = some ⟨b', off', none⟩ := by injection e1
      subst ea
      clear e1 e2
      have hst := all_step (okS vs) vs k (by rw [← HN.out]; exact hkn)
      have hno := all_no (okS vs) vs k (by rw [← HN.out]; exact hkn)
      replace hc0 := cell_belowV hc0 bel
      replace hc1 := cell_belowV hc1 bel
      have HRW := Lib.hid (rdv_below hrow bel)
      obtain ⟨row, hrw⟩ : ∃ row, row = vs.getD k [] := ⟨_, rfl⟩
      rw [HALL.out, Bool.true_and] at hst
      rw [← hrw] at hc1 hst hno HRW
      obtain ⟨l0, hl0⟩ : ∃ l0, l0 = (vs.getD 0 []).length := ⟨_, rfl⟩
      obtain ⟨p, hp⟩ : ∃ p, p = partIn row := ⟨_, rfl⟩
      obtain ⟨q, hq⟩ : ∃ q, q = row.length := ⟨_, rfl⟩
      have hov : okS vs row = (p && decide (q = l0) && decide (q ≤ 5)) := by rw [hp, hl0, hq]; rfl
      rw [hov] at hst hno
      have HP : Hid (∀ w', RdV w' (.slice zo' q zc') row → Calls (cutP Tryd.prog) 36 #[.slice zo' q zc'] w' fun e w2 => e = .returned (.bool p) ∧ w' = w2) := by
        refine Lib.hid fun w' h => ?_
        rw [hp]
        exact sPartIn_w _ _ _ h
      rw [← hl0, Nat.add_zero] at hc0
      rw [← hq] at hc1 HRW
      have HST := Lib.hid hst
      have HNO := Lib.hid hno
      have bnd : q ≤ 9223372036854775807 ∧ l0 ≤ 9223372036854775807 := by
        obtain ⟨_, _, ez, _, k1, k2⟩ := hz
        have hr := HRW.out
        obtain ⟨_, _, ez2, _, k3, k4⟩ := hr
        unfold maxLen at k2 k4
        rw [hl0, hq]
        exact ⟨by omega, by omega⟩
      clear hst hno hrow hz hrw hp hq hov hl0
      have hk0 : (0 : Int) < (n : Int) := by omega
      have hk1 : 0 < n := by omega
      have hkl : (k : Int) < (n : Int) := by omega
      cases p
      · have e : r = false := by rw [HR.out, HNO.out (by simp)]; simp
        subst e
        clear HR HST HNO
        go_wp2
        go_quiet ((go_at_call 36; exact quiet_left (HP.out _ (rdv_drewN HRW.out _))))
        go_wp2
        go_ret
        exact ⟨rfl, below_drewN bel _⟩
      · by_cases hql : q = l0
        · by_cases hq5 : q ≤ 5
          · have hst := HST.out
            rw [decide_eq_true hql, decide_eq_true hq5] at hst
            have HS2 := Lib.hid hst
            clear hst HST HNO
            subst hql
            have h5 : ¬ ((5 : Int) < (q : Int)) := by omega
            go_wp2
            go_quiet ((go_at_call 36; exact quiet_left (HP.out _ (rdv_drewN HRW.out _))))
            go_wp2
            go_roundw
            case rel => exact ⟨k + 1, by omega, by go_num, below_drewN bel _, HS2.out⟩
            case measure => simp [intOf]; omega
          · have e : r = false := by rw [HR.out, HNO.out (by simp [hq5])]; simp
            subst e
            clear HR HST HNO
            subst hql
            have h5 : (5 : Int) < (q : Int) := by omega
            go_wp2
            go_quiet ((go_at_call 36; exact quiet_left (HP.out _ (rdv_drewN HRW.out _))))
            go_wp2
            go_ret
            exact ⟨rfl, below_drewN bel _⟩
        · have e : r = false := by rw [HR.out, HNO.out (by simp [hql])]; simp
          subst e
          clear HR HST HNO
          have h5 : ¬ ((q : Int) = (l0 : Int)) := by omega
          have h6 : ((q : Int) == (l0 : Int)) = false := by simpa using h5
          have h7 : (q == l0) = false := by simpa using hql
          have h8 : decide (q = l0) = false := decide_eq_false hql
          go_wp2
          go_quiet ((go_at_call 36; exact quiet_left (HP.out _ (rdv_drewN HRW.out _))))
          go_wp2
          go_ret
          exact ⟨rfl, below_drewN bel _⟩
    · have hkn : k = n := by omega
      subst hkn
      have e : r = decide (1 ≤ k ∧ k ≤ 6) := by
        have := HALL.out
        rw [HN.out, List.take_length] at this
        rw [HR.out, this, Bool.true_and]
      have hd : decide ((1 : Int) ≤ (k : Int) ∧ (k : Int) ≤ 6) = decide (1 ≤ k ∧ k ≤ 6) := decide_eq_decide.2 (by omega)
      have HE : Hid (∀ w', Calls (cutP Tryd.prog) 37 #[.int .i64 k, .int .i64 1, .int .i64 6] w' fun e w2 => e = .returned (.bool r) ∧ w' = w2) := Lib.hid fun w' => (l6In_any (k : Int) 1 6 w').mono fun e2 w2 h => ⟨by rw [h.1, e, hd], h.2⟩
      clear HR HALL HM e hd
      go_wp2_with fail
      refine (HE.out _).mono ?_
      rintro e w2 ⟨rfl, rfl⟩
      go_wp2
      go_ret
      exact ⟨rfl, bel⟩
end

section
open Go.Conc Go.RowKit

set_option maxRecDepth 100000 in
set_option maxHeartbeats 3200000 in
theorem togetherIn_b {X w : World} {v0 : Value} {vs : List (List Int)} {L least : Nat} (h0 : RdM w v0 vs) (h1 : 1 ≤ L) (h5 : L ≤ 5) (hvl : ∀ k, k < vs.length → (vs.getD k []).length = L) (hv1 : 1 ≤ vs.length) (hv6 : vs.length ≤ 6) (hle : least ≤ 6) :
    CallsB (duo Tryd.prog X) 16 #[v0, .int .i64 least] w (fun v w' => OwnK w' w.heap.size v (nearL vs least L) ∧ Bel w w') := by
  obtain ⟨vb, vo, vcap, bV, oV, cV, rfl, hV⟩ := rows_at h0 hv1 h1 hvl
  have hc0 := (hV 0 (by omega)).1
  rw [Nat.add_zero] at hc0
  obtain ⟨q, hq⟩ : ∃ q, q = L * L := ⟨_, rfl⟩
  have hq25 : q ≤ 25 := by rw [hq]; exact Nat.mul_le_mul h5 h5
  have hqm : IntKind.i64.wrap ((L : Int) * (L : Int)) = (q : Int) := by
    rw [show ((L : Int) * (L : Int)) = (q : Int) by rw [hq]; exact (Int.natCast_mul L L).symm, IntKind.wrap_i64]
    omega
  obtain ⟨n, hn⟩ : ∃ n, n = vs.length := ⟨_, rfl⟩
  have HVV := Lib.hid hV
  have HVL := Lib.hid hvl
  have HN := Lib.hid hn
  have HV1 := Lib.hid hv1
  have HV6 := Lib.hid hv6
  have HLE := Lib.hid hle
  have HQ := Lib.hid hq
  have HQM := Lib.hid hqm
  have z0 : (0 : Int) < (n : Int) := by omega
  have z1 : 0 < n := by omega
  rw [← hn]
  have H1 := Lib.hid h1
  have H5 := Lib.hid h5
  clear hV hvl h0 hn hv1 hv6 hle hq
  refine CallsB.of_body kit (fn := Tryd.f16) Trydp.func16 Tryd.func16 rfl (by kernel_rfl) (by kernel_rfl) ?_
  simp only [Tryd.ntmps16, List.size_toArray, List.length_cons, List.length_nil, Nat.reduceAdd, Nat.reduceSub, Array.replicate_succ, Array.replicate_zero, List.push_toArray, List.append_toArray, List.nil_append, List.cons_append]
  refine WpB.seq kit (WpB.of_wp kit (fun τ => ?_) (outs_then (outs_body _ _ _)))
  go_wp2
  refine WpB.own ?_
  refine WpB.seq kit (WpB.of_wp kit (fun τ => ?_) (outs_then (outs_body _ _ _)))
  have hc0' : (ownTape w τ).cell? ⟨vb, vo, none⟩ = some (.slice (some ⟨bV 0, oV 0, none⟩) L (cV 0)) := hc0
  have hs0 : (ownTape w τ).heap = w.heap ∧ (ownTape w τ).os = w.os ∧ (ownTape w τ).output = w.output := ⟨rfl, rfl, rfl⟩
  generalize ownTape w τ = w0 at *
  have HS0 := Lib.hid hs0
  clear hs0
  go_wp2
  refine WpB.gen fun w1 hw1 => ?_
  have he : w1.heap = w.heap.push (.cells #[.int .i64 L] 3) ∧ w1.os = w.os ∧ w1.output = w.output := by
    subst hw1
    obtain ⟨s1, s2, s3⟩ := HS0.out
    exact ⟨by rw [← s1]; rfl, s2, s3⟩
  rw [congrArg Array.size HS0.out.1]
  clear hw1 hc0'
  obtain ⟨e, e1, e2⟩ := he
  have hbx := cell_pushed e
  clear hc0
  refine WpB.seq kit (WpB.region kit ?_)
  simp only [List.size_toArray, List.length_cons, List.length_nil, Nat.reduceAdd, Nat.zero_add, List.range, List.range.loop]
  unfold OpsB
  simp only [List.getElem?_toArray, List.getElem?_cons_zero, List.getElem?_cons_succ]
  rw [if_pos (by rfl)]
  left
  intro _
  unfold Oper.wp
  go_simp
  unfold OpsB
  simp only [List.getElem?_toArray, List.getElem?_cons_zero, List.getElem?_cons_succ]
  rw [if_pos (by rfl)]
  left
  intro _
  unfold Oper.wp
  go_simp
  unfold OpsB
  simp only [List.getElem?_toArray, List.getElem?_cons_zero, List.getElem?_cons_succ]
  rw [if_pos (by rfl)]
  left
  intro _
  unfold Oper.wp
  go_simp
  unfold OpsB
  simp only [List.getElem?_toArray, List.getElem?_cons_zero, List.getElem?_cons_succ]
  rw [if_pos (by rfl)]
  left
  intro _
  unfold Oper.wp
  go_simp
  unfold OpsB
  simp only [List.getElem?_toArray, List.getElem?_cons_zero, List.getElem?_cons_succ]
  rw [if_pos (by rfl)]
  left
  intro _
  unfold Oper.wp
  go_simp
  try rw [hqm]
  unfold OpsB
  simp only [List.getElem?_toArray, List.getElem?_cons_zero, List.getElem?_cons_succ]
  rw [if_pos (by rfl)]
  right
  refine ⟨31, #[.slice (some ⟨vb, vo, none⟩) n vcap, .int .i64 q, .func (.func 32) #[] #[.pointer (some ⟨w.heap.size, 0, none⟩)]], fun W => ⟨by kernel_rfl, by kernel_rfl⟩, ?_⟩
  obtain ⟨avs, havs⟩ : ∃ avs : Nat → Nat → Int, avs = fun c l => (if (vs.getD c []).getD (l / L) 0 = (vs.getD c []).getD (l % L) 0 then 1 else 0) := ⟨_, rfl⟩
  have hsm : ∀ c x, c ≤ n → ((List.range c).map fun i => avs i x).sum = ((votes (vs.take c) (x / L) (x % L) : Nat) : Int) := fun c x hc => by
    rw [havs]; exact votes_range _ _ _ _ (by rw [← HN.out]; exact hc)
  have hav : ∀ c x, 0 ≤ avs c x ∧ avs c x ≤ 1 := fun c x => by
    rw [havs]; dsimp only; split <;> omega
  have hvt : ∀ c x, votes (vs.take c) (x / L) (x % L) ≤ 6 := fun c x => by
    have := votes_le (vs.take c) (x / L) (x % L)
    have h6 := HV6.out
    simp only [List.length_take] at this
    omega
  have hask := hask_together (X := X) (w := w1) (n := n) (L := L) (bx := w.heap.size) (cV := cV) (V := fun k => vs.getD k []) H1.out (by have := H5.out; omega) hbx (fun k hk => ⟨nums_push e (HVV.out k (by rw [← HN.out]; exact hk)).2.1, HVL.out k (by rw [← HN.out]; exact hk)⟩)
  rw [← HQ.out] at hask
  refine CallsB.own ((totals_b (X := X) (w := w1) (n := n) (q := q) (vb := vb) (vo := vo) (vcap := vcap) (row := fun k => .slice (some ⟨bV k, oV k, none⟩) L (cV k)) (avs := avs) (by have := HN.out; have := HV6.out; omega) z1 (by omega) ?_ (fun i hi => cell_push e (HVV.out i (by rw [← HN.out]; exact hi)).1) (fun i _ => ⟨_, _, _, rfl⟩) (by rw [havs]; exact hask)).mono fun v w2 hs => ?_)
  · intro c l x hc hl hx
    unfold sumC
    rw [hsm c x (by omega)]
    have a := hvt c x
    have b := hav c x
    split <;> omega
  have bel : Bel w w2 := bel_sums e e1 e2 hs
  have hbx2 : w2.cell? ⟨w.heap.size, 0, none⟩ = some (.int .i64 L) := by
    have hb : w.heap.size < w1.heap.size := by rw [e, Array.size_push]; omega
    unfold World.cell? at hbx ⊢
    rw [hs.old _ hb]
    exact hbx
  have ho : Own w2 w.heap.size v ((List.range q).map fun x => ((votes vs (x / L) (x % L) : Nat) : Int)) := by
    obtain ⟨ys, y1, y2, y3⟩ := hs.sums
    rw [hs.val]
    have hsz : w1.heap.size = w.heap.size + 1 := by rw [e, Array.size_push]
    refine own_sums (by omega) y1 y2 (by simp) (by unfold maxLen; omega) fun x hx => ?_
    rw [y3 x hx, sumC_all, hsm n x (Nat.le_refl _), HN.out, List.take_length]
    simp [List.getD, hx]
  clear hs hask hsm hvt hav havs hbx
  obtain ⟨C, hC⟩ : ∃ C, C = (List.range q).map fun x => ((votes vs (x / L) (x % L) : Nat) : Int) := ⟨_, rfl⟩
  have HCG : Hid (∀ x, x < q → C.getD x 0 = ((votes vs (x / L) (x % L) : Nat) : Int)) := Lib.hid fun x hx => by rw [hC]; simp [List.getD, hx]
  have hcl : C.length = q := by rw [hC]; simp
  rw [← hC] at ho
  clear hC
  have hq1 : 1 ≤ q := by
    rw [HQ.out]
    exact Nat.mul_le_mul H1.out H1.out
  obtain ⟨g, cap, rfl, hgB, hgc⟩ : ∃ g cap, v = .slice (some ⟨g, 0, none⟩) q cap ∧ w.heap.size ≤ g ∧ ∀ j, j < q → w2.cell? ⟨g, j, none⟩ = some (.int .i64 (C.getD j 0)) := by
    rcases own_view ho with ⟨_, x⟩ | ⟨g, cap, rfl, x1, x2, x3, x4, hc, _⟩
    · rw [x] at hcl; simp at hcl; omega
    · rw [hcl] at hc ⊢
      exact ⟨g, cap, rfl, by omega, hc⟩
  have HGC := Lib.hid hgc
  clear ho hcl hgc
  unfold OpsB
  simp only [List.getElem?_toArray, List.getElem?_cons_zero, List.getElem?_cons_succ]
  rw [if_pos (by rfl)]
  left
  intro _
  unfold Oper.wp
  go_simp
  unfold OpsB
  refine WpB.own ?_
  obtain ⟨i0, hi, hz0, hz1, hz2⟩ := info_parts Tryd.infoK
  have h5 := H5.out
  have h1 := H1.out
  have bel2 : Below w2.heap.size w2 w2 := Below.refl _ _
  refine WpB.of_wp kit (fun τ => ?_) (outs_body _ _ _)
  have bB : Bel w (ownTape w2 τ) := bel_ownT (τ := τ) bel
  have hbx3 : (ownTape w2 τ).cell? ⟨w.heap.size, 0, none⟩ = some (.int .i64 L) := hbx2
  have HGC3 : Hid (∀ j, j < q → (ownTape w2 τ).cell? ⟨g, j, none⟩ = some (.int .i64 (C.getD j 0))) := Lib.hid HGC.out
  generalize ownTape w2 τ = w3 at *
  clear HGC hbx2 bel bel2
  go_wp2_with (at_make; refine wpList_make_full _ rfl _ _ 36 rfl w3.heap.size 39 i0 (.int .u64 0) 1 Tryd.underlying36 hi hz0 hz1 _ _ _ _ L rfl rfl rfl rfl (by rw [hz2]; omega) (by unfold maxLen; omega) (Nat.le_refl _) ?_)
  intro w4 hown4 hgrow4
  have hb4 : Below w3.heap.size w3 w4 := (Below.refl _ _).grown hgrow4 (Nat.le_refl _) (fun k h => by cases h)
  have HO4 := Lib.hid (ownK_made hown4)
  have hg4 := (World.ownsRow.lt hown4 _ rfl).2
  have hlt3 : w.heap.size < w3.heap.size := World.block_lt_of_cell? w3 _ hbx3
  clear hown4 hgrow4
  go_wp2
  go_loopw [24] (fun i wr => ∃ k : Nat, k ≤ q ∧ i = .int .i64 k ∧ OwnK wr w3.heap.size (.slice (some ⟨w3.heap.size, 0, none⟩) L L) (nrTo vs least L k) ∧ Below w3.heap.size w3 wr) (fun i _ => q - (intOf i).toNat)
  case atStart => exact ⟨0, Nat.zero_le _, rfl, by rw [nrTo_zero]; exact HO4.out, hb4⟩
  case round =>
    obtain ⟨k, hk, rfl, hown, hbel⟩ := hrel
    have HO := Lib.hid hown
    by_cases hlt : k < q
    · have hck := cell_belowV (HGC3.out k hlt) hbel
      have hcb := cell_belowV hbx3 hbel
      have hcg := HCG.out k hlt
      obtain ⟨x, hx⟩ : ∃ x, x = k / L := ⟨_, rfl⟩
      obtain ⟨y, hy⟩ : ∃ y, y = k % L := ⟨_, rfl⟩
      have hxl : x < L := by rw [hx]; exact Nat.div_lt_of_lt_mul (by rw [← HQ.out]; exact hlt)
      have hyl : y < L := by rw [hy]; exact Nat.mod_lt _ (by omega)
      have hkxy : k = x * L + y := by rw [hx, hy, Nat.mul_comm]; exact (Nat.div_add_mod k L).symm
      have hst := nrTo_step vs least L k x y hkxy hxl hyl
      have hnl := nrTo_len vs least L k
      have hn256 := nrTo_lt vs least L k x (by omega)
      rw [← hx, ← hy] at hcg
      have hv6 : votes vs x y ≤ 6 := by
        have a := votes_le vs x y
        have b := HV6.out
        omega
      obtain ⟨c, hc⟩ : ∃ c, c = votes vs x y := ⟨_, rfl⟩
      rw [← hc] at hcg hv6
      rw [hcg] at hck
      have htg : togV vs least x y = decide (least ≤ c) := by rw [hc]; rfl
      rw [htg] at hst
      have q1 : ((k : Int)).tdiv (L : Int) = (x : Int) := by rw [Int.tdiv_eq_ediv_of_nonneg (by omega), hx]; exact (Int.natCast_ediv ..).symm
      have q2 : ((k : Int)).tmod (L : Int) = (y : Int) := by rw [Int.tmod_eq_emod_of_nonneg (by omega), hy]; exact (Int.natCast_emod ..).symm
      have q3 : (k : Int) / (L : Int) = (x : Int) := by rw [hx]; exact (Int.natCast_ediv ..).symm
      have q4 : (k : Int) % (L : Int) = (y : Int) := by rw [hy]; exact (Int.natCast_emod ..).symm
      have y0 : ¬ ((L : Int) = 0) := by omega
      have y1 : ¬ (L = 0) := by omega
      have u1 : IntKind.i64.wrap (x : Int) = x := by rw [IntKind.wrap_i64]; omega
      have u2 : IntKind.i64.wrap (y : Int) = y := by rw [IntKind.wrap_i64]; omega
      obtain ⟨ns, hns⟩ : ∃ ns, ns = nrTo vs least L k := ⟨_, rfl⟩
      rw [← hns] at hst hnl hn256 HO
      obtain ⟨p, hp⟩ : ∃ p, p = ns.getD x 0 := ⟨_, rfl⟩
      have e1 := ownK_cell HO.out x (by omega)
      rw [← hp] at hst hn256 e1
      have b0 : (k : Int) < q := by omega
      have b1 : (x : Int) < L := by omega
      have b3 : (0 : Int) ≤ (x : Int) := by omega
      have b4 : (0 : Int) ≤ (y : Int) := by omega
      have HST := Lib.hid hst
      have HNL := Lib.hid hnl
      have HB := Lib.hid hbel
      clear hst hnl hns hx hy hc hcg htg hkxy hp hbel hown
      by_cases hge : least ≤ c
      · have hge2 : (least : Int) ≤ (c : Int) := by omega
        have hge3 : (c : Int) ≥ (least : Int) := hge2
        rw [decide_eq_true hge] at HST
        have hst := HST.out
        rw [if_pos rfl] at hst
        have HST2 := Lib.hid hst
        clear HST hst hge
        go_wp2
        refine wp_region_still_tail 14 (by kernel_rfl) (by kernel_rfl) ?_
        simp only [List.take_succ_cons, List.take_zero, List.drop_succ_cons, List.drop_zero]
        repeat still_step
        still_call (with_stillK p y _ hn256 (by omega))
        repeat still_step
        refine wpStill_nil ?_
        change wpList _ _ _ _ _ wr.drew
        obtain ⟨r, hr⟩ : ∃ r, r = p ||| 2 ^ y := ⟨_, rfl⟩
        rw [← hr]
        rw [← hr] at HST2
        obtain ⟨W5, hW5⟩ : ∃ W5, W5 = wr.drew := ⟨_, rfl⟩
        have g3 : W5.cell? ⟨w3.heap.size, x, none⟩ = some (.int .u64 (p : Int)) := by rw [hW5]; exact e1
        have g2 : W5.cell? ⟨w.heap.size, 0, none⟩ = some (.int .i64 L) := by rw [hW5]; exact hcb
        have hb5 : Below w3.heap.size w3 W5 := by rw [hW5]; exact HB.out.drew
        have ho5 : OwnK W5 w3.heap.size (.slice (some ⟨w3.heap.size, 0, none⟩) L L) ns := by rw [hW5]; exact ownK_below HO.out (Below.refl _ _).drew
        have hf5 := ownK_frozen ho5 HNL.out.symm x
        rw [← hW5]
        have HO6 := Lib.hid (ownK_stored ho5 HNL.out.symm x r)
        have HB6 := Lib.hid (hb5.setCell (p := ⟨w3.heap.size, x, none⟩) (Nat.le_refl _) (.int .u64 (r : Int)))
        clear hW5 hb5 ho5 e1 hcb hck hr
        go_wp2
        go_roundw
        case rel => exact ⟨k + 1, by omega, by go_num, by rw [HST2.out]; exact HO6.out, HB6.out⟩
        case measure => simp [intOf]; omega
      · have hge2 : ¬ ((least : Int) ≤ (c : Int)) := by omega
        have hge3 : ¬ ((c : Int) ≥ (least : Int)) := hge2
        rw [decide_eq_false hge] at HST
        have hst := HST.out
        rw [if_neg (by simp)] at hst
        have HST2 := Lib.hid hst
        clear HST hst hge
        go_wp2
        go_roundw
        case rel => exact ⟨k + 1, by omega, by go_num, by rw [HST2.out]; exact HO.out, HB.out⟩
        case measure => simp [intOf]; omega
    · have hkq : k = q := by omega
      subst hkq
      have hfin : nrTo vs least L k = nearL vs least L := by rw [HQ.out]; exact nrTo_all vs least L
      rw [hfin] at hown
      have HOF := Lib.hid hown
      have HBF := Lib.hid (bB.below hbel)
      clear hown hbel hfin HO
      go_wp2
      exact ⟨rfl, _, fun τ => results_tmp (t := 4) rfl _ _ _, ownK_mono HOF.out bB.size, HBF.out⟩
end

section
open Go.Conc

def bodyM (P : Program) (fn : Func) (R : Value → World → Prop) : Exit → Act → World → Prop
  | .normal, a, w | .ret, a, w => ∀ τ, LeavesInM Fence.wide 10 P fn a.tmps (fun e w' => ∃ v, e = .returned v ∧ R v w') a.defers .returning (ownTape w τ)
  | _, _, _ => False
theorem outs_bodyM (P : Program) (fn : Func) (R : Value → World → Prop) : OutsS (bodyM P fn R) := fun e a w h => by
  cases e with
  | normal => exact .inl rfl
  | ret => exact .inr (.inr rfl)
  | exit id => exact .inr (.inl ⟨id, rfl⟩)
  | goto l => exact h.elim
  | panic ch => exact h.elim
  | outgrown => exact h.elim

theorem CallsB.of_body_marks {T : Two} (K : Kit T) {w : World} {f : FuncId} {fn : Func} {cd : Code} {args : Array Value} {R : Value → World → Prop} (hf : T.pr.funcs[f]? = some fn) (hf' : T.P.funcs[f]? = some fn) (hb : fn.body = some cd)
    (hok : okCode T.P cd = true) (hi : T.P.inits.idxOf? f = none)
    (h : WpB T cd (bodyM T.pr fn R) { tmps := args ++ Array.replicate (fn.ntmps - args.size) undef, defers := [] } w) : CallsB T f args w R := by
  intro c H fr cs h1 h2 h3 h4
  obtain ⟨b, hbd⟩ : ∃ b : Frame, b = { (default : Frame) with fn := f, kind := .normal } := ⟨_, rfl⟩
  have henter : Frame.enter T.P f args .normal = b.at { tmps := args ++ Array.replicate (fn.ntmps - args.size) undef, defers := [] } [.code cd] := by
    simp [Frame.enter, Frame.at, hf', hb, hbd]
  have hkind : b.kind = .normal := by rw [hbd]
  have hfn : b.fn = f := by rw [hbd]
  rw [henter] at h4
  have hG : okGS T c.g := by
    rw [h4]
    refine ⟨rfl, rfl, ⟨fun it hit => ?_, fun d hd => (by cases hd), hkind, (by show T.P.inits.idxOf? b.fn = none; rw [hfn]; exact hi), fun _ => (by show ∃ fn, T.pr.funcs[b.fn]? = some fn ∧ T.P.funcs[b.fn]? = some fn; rw [hfn]; exact ⟨fn, hf, hf'⟩)⟩, h3, .inl rfl⟩
    obtain rfl : it = .code cd := by simpa [Frame.at, G] using hit
    exact hok
  obtain ⟨e, a', w', hq, harr⟩ := h c b [] (fr :: cs) (At.start h1 h2 hG h4)
  have last : ∀ todo, bodyM T.pr fn R .ret a' w' → At T c { b.at a' todo with mode := .returning } (fr :: cs) w' → ∃ v w', R v w' ∧ At T c (fr.finish v) cs w' := by
    intro todo hm hat
    obtain ⟨_, _, w2, ⟨v, hR, rfl, rfl⟩, hat'⟩ := hat.lift K (Post := fun x y w2 => ∃ v, R v w2 ∧ x = fr.finish v ∧ y = cs) (fun τ => by
      obtain ⟨e, w2, fr', ⟨v, rfl, hR⟩, hs, hfn', hl⟩ := leaves_stepsInM (F := Fence.wide) (n := 10) a'.defers .returning (ownTape w' τ) { b.at a' todo with mode := .returning } (fr :: cs) rfl rfl rfl (by show T.pr.funcs[b.fn]? = some fn; rw [hfn]; exact hf) hkind trivial (by simp [Fence.room, Fence.wide]) (hm τ)
      refine ⟨_, _, w2, Steps.trans (StepsIn.steps hs) (.one (step_leave_returned hl)), ?_, v, hR, rfl, rfl⟩
      left
      have := (h3 fr (by simp)).mode
      unfold Frame.finish
      split <;> exact this)
    exact ⟨v, w2, hR, hat'⟩
  cases e with
  | normal => exact last [] hq (At.step K harr (fun _ => step_end) (.inr rfl))
  | ret => obtain ⟨todo, hat⟩ := harr; exact last todo hq hat
  | exit id => exact hq.elim
  | goto l => exact hq.elim
  | panic ch => exact hq.elim
  | outgrown => exact hq.elim

def markD (D : Nat) : Deferred := { target := .collected D, args := #[] }
theorem leaves_marks {P : Program} {fn : Func} {tmps : Array Value} {R : Ending → World → Prop} {F : Fence} {n : Nat} (J : World → Prop) (hend : ∀ W, J W → ∃ v, (results fn tmps).run P W = .ok v W ∧ R (.returned v) W) :
    ∀ (Ds : List Nat) (W : World), Ds.Nodup → (∀ D ∈ Ds, W.heap[D]? = some (.deferred (some []))) → (∀ W D, D ∈ Ds → J W → W.heap[D]? = some (.deferred (some [])) → J (W.putObj D (.deferred none))) → J W →
      LeavesInM F n P fn tmps R (Ds.map markD) .returning W := by
  intro Ds
  induction Ds with
  | nil => exact fun W _ _ _ hJ => hend W hJ
  | cons D Ds ih =>
    intro W hnd hds hput hJ
    have h0 := hds D (by simp)
    refine ⟨by simp, .inl ⟨D, _, rfl, run_takeDeferred h0, ?_⟩⟩
    obtain ⟨n1, n2⟩ := List.nodup_cons.1 hnd
    refine ih _ n2 (fun D' hD' => ?_) (fun W' D' hD' => hput W' D' (by simp [hD'])) (hput W D (by simp) hJ h0)
    have hne : D' ≠ D := fun e => n1 (by rw [← e]; exact hD')
    rw [World.putObj_heap_other hne]
    exact hds D' (by simp [hD'])
end

def halfV (vs : List (List Int)) : Nat := vs.length / 2 + 1
theorem tog_half (vs : List (List Int)) (i j : Nat) : togV vs (halfV vs) i j = decide (vs.length < 2 * votes vs i j) := by
  unfold togV halfV
  rw [decide_eq_decide]
  omega
theorem votes_comm (vs : List (List Int)) (i j : Nat) : votes vs i j = votes vs j i := by
  induction vs with
  | nil => rfl
  | cons v vs ih =>
    show (if v.getD i 0 = v.getD j 0 then 1 else 0) + votes vs i j = (if v.getD j 0 = v.getD i 0 then 1 else 0) + votes vs j i
    rw [ih]
    by_cases e : v.getD i 0 = v.getD j 0
    · rw [if_pos e, if_pos e.symm]
    · rw [if_neg e, if_neg (fun h => e h.symm)]
theorem tog_comm (vs : List (List Int)) (m i j : Nat) : togV vs m i j = togV vs m j i := by unfold togV; rw [votes_comm]

def mostB (vs : List (List Int)) (L : Nat) : Bool := decide (∀ i, i < L → ∀ k, k < L → ∀ j, j < L → togV vs (halfV vs) i k = true → togV vs (halfV vs) k j = true → togV vs (halfV vs) i j = true)
def viewMost (vs : List (List Int)) : Bool := areV vs && mostB vs (vs.getD 0 []).length

def bitsN (b : Nat) : List Int := ((List.range 8).filter fun t => b.testBit t).map fun (t : Nat) => (t : Int)
theorem bitsN_mem {m : Nat} {x : Int} : x ∈ bitsN m ↔ ∃ t : Nat, x = (t : Int) ∧ t < 8 ∧ m.testBit t = true := by
  unfold bitsN
  rw [List.mem_map]
  constructor
  · rintro ⟨t, ht, rfl⟩
    obtain ⟨h1, h2⟩ := List.mem_filter.1 ht
    exact ⟨t, rfl, List.mem_range.1 h1, h2⟩
  · rintro ⟨t, rfl, h1, h2⟩
    exact ⟨t, List.mem_filter.2 ⟨List.mem_range.2 h1, h2⟩, rfl⟩

def nearSame (ns : List Nat) (L : Nat) : Bool := decide (∀ i, i < L → ∀ x ∈ bitsN (ns.getD i 0), ns.getD x.toNat 0 = ns.getD i 0)
theorem near_mem {vs : List (List Int)} {m L i : Nat} (h8 : L ≤ 8) (hi : i < L) {x : Int} : x ∈ bitsN ((nearL vs m L).getD i 0) ↔ ∃ t : Nat, x = (t : Int) ∧ t < L ∧ togV vs m i t = true := by
  rw [bitsN_mem, nearL_get _ _ _ hi]
  constructor
  · rintro ⟨t, h1, h2, h3⟩
    rw [maskTo_bit] at h3
    simp only [Bool.and_eq_true, decide_eq_true_eq] at h3
    exact ⟨t, h1, h3.1, h3.2⟩
  · rintro ⟨t, h1, h2, h3⟩
    refine ⟨t, h1, by omega, ?_⟩
    rw [maskTo_bit, h3]
    simp [h2]
theorem near_most {vs : List (List Int)} {L : Nat} (h8 : L ≤ 8) : nearSame (nearL vs (halfV vs) L) L = mostB vs L := by
  unfold nearSame mostB
  rw [decide_eq_decide]
  constructor
  · intro h i hi k hk j hj h1 h2
    have := h i hi (k : Int) ((near_mem h8 hi).2 ⟨k, rfl, hk, h1⟩)
    rw [Int.toNat_natCast, nearL_get _ _ _ hk, nearL_get _ _ _ hi] at this
    rw [← mask_eq.1 this j hj]
    exact h2
  · intro h i hi x hx
    obtain ⟨t, rfl, ht, htg⟩ := (near_mem h8 hi).1 hx
    rw [Int.toNat_natCast, nearL_get _ _ _ ht, nearL_get _ _ _ hi]
    refine mask_eq.2 fun j hj => ?_
    rw [Bool.eq_iff_iff]
    exact ⟨fun x => h i hi t ht j hj htg x, fun x => h t ht i hi j hj (by rw [tog_comm]; exact htg) x⟩

section
open Go.RowKit

def tz (b : Nat) : Nat := ((List.range 8).find? fun t => b.testBit t).getD 64

def tzTab : List Int := [0, 1, 56, 2, 57, 49, 28, 3, 61, 58, 42, 50, 38, 29, 17, 4, 62, 47, 59, 36, 45, 43, 51, 22, 53, 39, 33, 30, 24, 18, 12, 5, 63, 55, 48, 27, 60, 41, 37, 16, 46, 35, 44, 21, 52, 32, 23, 11, 54, 26, 40, 15, 34, 20, 31, 10, 25, 14, 19, 9, 13, 8, 7, 6]

def Tab (w : World) : Prop := 1 + 1 ≤ w.heap.size ∧ ∀ j, j < 64 → w.cell? ⟨1, j, none⟩ = some (.int .u8 (tzTab.getD j 0))

theorem tab_below {w w' : World} (h : Tab w) (hb : Below w.heap.size w w') : Tab w' :=
  ⟨Nat.le_trans h.1 hb.size, fun j hj => by rw [hb.cell (World.block_lt_of_cell? w _ (h.2 j hj))]; exact h.2 j hj⟩

def tzAt (b : Nat) : Nat := (IntKind.u64.wrap (bits BinOp.and IntKind.u64 (b : Int) (IntKind.u64.wrap (-(b : Int))) * 285870213051353865) / 288230376151711744).toNat

theorem tz_fact : ∀ b, b < 256 → 0 < b → tzAt b < 64 ∧ tzTab.getD (tzAt b) 0 = (tz b : Int) ∧ tz b < 8 ∧ IntKind.u64.wrap (bits BinOp.and IntKind.u64 (b : Int) (IntKind.u64.wrap (-(b : Int))) * 285870213051353865) / 288230376151711744 = (tzAt b : Int) := by decide +kernel

set_option maxHeartbeats 800000 in
theorem tz64_any (b : Nat) (w : World) (hT : Tab w) (hb : b < 256) (h0 : 0 < b) : Calls (cutP Tryd.prog) 52 #[.int .u64 b] w fun e w' => e = .returned (.int .i64 (tz b)) ∧ w = w' := by
  obtain ⟨h1, h2, h3, h4⟩ := tz_fact b hb h0
  have hc := hT.2 _ h1
  rw [h2] at hc
  have hz : ((b : Int) == 0) = false := by simp; omega
  obtain ⟨i, hi⟩ : ∃ i, i = tzAt b := ⟨_, rfl⟩
  obtain ⟨r, hr⟩ : ∃ r, r = tz b := ⟨_, rfl⟩
  rw [← hi] at hc h1 h4
  rw [← hr] at hc h3 ⊢
  have hi64 : (i : Int) < 64 := by omega
  clear h2 hi hr
  go_enter Trydp.func52, Trydp.ntmps52
  go_wp2
  go_ret
  exact ⟨rfl, rfl⟩

theorem tz_any (b : Nat) (w : World) (hT : Tab w) (hb : b < 256) (h0 : 0 < b) : Calls (cutP Tryd.prog) 35 #[.int .u64 b] w fun e w' => e = .returned (.int .i64 (tz b)) ∧ w = w' := by
  go_enter Trydp.func35, Trydp.ntmps35
  go_wp2_with fail
  refine (tz64_any b _ hT hb h0).mono ?_
  rintro e w' ⟨rfl, rfl⟩
  go_wp2
  go_ret
  exact ⟨rfl, rfl⟩
end

section
open Go.RowKit Go.Shelf

attribute [local go_sem] Oper.semAt_some

def bitsL (b : Nat) : List Int := ((List.range 8).filter fun t => b.testBit t).map fun (t : Nat) => (t : Int)

theorem bits_step : ∀ r, r < 256 → 0 < r → bitsL r = (tz r : Int) :: bitsL (r &&& (r - 1)) ∧ bits BinOp.and IntKind.u64 (r : Int) ((r : Int) - 1) = ((r &&& (r - 1) : Nat) : Int) ∧ (r &&& (r - 1)) < r := by decide +kernel
theorem tab_belowN {n₀ : Nat} {w w' : World} (h : Tab w) (hn : 1 + 1 ≤ n₀) (hb : Below n₀ w w') : Tab w' :=
  ⟨Nat.le_trans h.1 hb.size, fun j hj => (hb.cell (p := ⟨1, j, none⟩) (by simp; omega)).trans (h.2 j hj)⟩

theorem things_in (n : Nat) (b : Nat) (w : World) :
    CallsIn Fence.wide n (cutP Tryd.prog) 17 #[.int .u64 b] w fun e w' => e = .returned (.func (.func 34) #[] #[.pointer (some ⟨w.heap.size, 0, none⟩)]) ∧ w' = w.alloc (.cells #[.int .u64 b] 39) := by
  refine callsIn_of_wp Trydp.func17 rfl trivial ?_ rfl
  simp only [Trydp.ntmps17, List.size_toArray, List.length_cons, List.length_nil, Nat.reduceAdd, Nat.reduceSub, Array.replicate_succ, Array.replicate_zero, List.push_toArray, List.append_toArray, List.nil_append, List.cons_append]
  gi_wp2
  go_ret
  exact ⟨rfl, rfl⟩
end

section
open Go.RowKit Go.Shelf

attribute [local go_sem] Oper.semAt_some

set_option maxHeartbeats 1600000 in
theorem things1_at (n : Nat) (hn : 1 ≤ n) (l Bn n₀ b : Nat) (hb : b < 256) (hn₀ : 1 + 1 ≤ n₀) (J Jx : List Int → World → Prop)
    (hY : ∀ pre x W, J pre W → pre ++ [x] <+: bitsL b → YieldAt Fence.wide (n - 1) (cutP Tryd.prog) l #[.int .i64 x] W fun e W' =>
      (e = .returned (.bool true) ∧ J (pre ++ [x]) W' ∧ Below n₀ W W') ∨ (e = .returned (.bool false) ∧ Jx (pre ++ [x]) W'))
    (W : World) (hT : Tab W) (hBn : W.cell? ⟨Bn, 0, none⟩ = some (.int .u64 b)) (h0 : J [] W) :
    CallsIn Fence.wide n (cutP Tryd.prog) 34 #[.func (.yield l) #[] #[], .pointer (some ⟨Bn, 0, none⟩)] W fun e W' => (∃ v, e = .returned v) ∧
      ((∃ ys, ys = bitsL b ∧ J ys W') ∨ (∃ pre, pre <+: bitsL b ∧ Jx pre W')) := by
  refine callsIn_of_wp Trydp.func34 rfl trivial ?_ rfl
  simp only [Trydp.ntmps34, List.size_toArray, List.length_cons, List.length_nil, Nat.reduceAdd, Nat.reduceSub, Array.replicate_succ, Array.replicate_zero, List.push_toArray, List.append_toArray, List.nil_append, List.cons_append]
  gi_wp2
  gi_loopw [3] (fun p wr => ∃ (pre : List Int) (r : Nat), p = .int .u64 r ∧ r < 256 ∧ bitsL b = pre ++ bitsL r ∧ Tab wr ∧ J pre wr)
    (fun p wr => (intOf p).toNat)
  case atStart => exact ⟨[], b, rfl, hb, rfl, hT, h0⟩
  case round =>
    obtain ⟨pre, r, rfl, hr, hx, hTr, hJs⟩ := hrel
    by_cases hr0 : r = 0
    · subst hr0
      have he : bitsL 0 = [] := by decide
      rw [he, List.append_nil] at hx
      gi_wp2
      go_end0
      exact ⟨⟨_, rfl⟩, .inl ⟨pre, hx.symm, hJs⟩⟩
    · obtain ⟨h1, h2, h3⟩ := bits_step r hr (by omega)
      rw [h1] at hx
      obtain ⟨s, hs⟩ : ∃ s, s = r &&& (r - 1) := ⟨_, rfl⟩
      rw [← hs] at h2 h3 hx
      obtain ⟨x, hxe⟩ : ∃ x : Nat, x = tz r := ⟨_, rfl⟩
      have HC := Lib.hid (tz_any r wr hTr hr (by omega))
      rw [← hxe] at hx HC
      have HX := Lib.hid hx
      have hpre : pre ++ [(x : Int)] <+: bitsL b := ⟨bitsL s, by rw [hx]; simp⟩
      obtain ⟨fn, tmps, assign, body, hy, hR⟩ := hY pre x wr hJs hpre
      have hz : ((r : Int) != 0) = true := by simp; omega
      clear h1 hs hxe hx hpre
      gi_wp2_with (refine ⟨trivial, ?_⟩; gi_at_call 35; refine (callsIn_wide.2 HC.out).mono ?_; rintro e w' ⟨rfl, rfl⟩)
      refine hR.mono ?_
      rintro e W3 (⟨rfl, hJ3, hk3⟩ | ⟨rfl, hJx3⟩)
      · have hT3 := tab_belowN hTr hn₀ hk3
        gi_wp2
        go_roundw
        case rel => exact ⟨pre ++ [(x : Int)], s, by go_num, by omega, by rw [HX.out]; simp, hT3, hJ3⟩
        case measure => simp [intOf]; omega
      · gi_wp2
        refine bodyPost_ret (results_none rfl _ _ _) rfl ?_
        exact ⟨⟨_, rfl⟩, .inr ⟨pre ++ [(x : Int)], ⟨bitsL s, by rw [HX.out]; simp⟩, hJx3⟩⟩

theorem things_at (n : Nat) (hn : 1 ≤ n) (Bn n₀ b : Nat) (hb : b < 256) (w : World) (hT : Tab w) (h2 : 1 + 1 ≤ n₀) (hBn : Bn < w.heap.size) (hn₀ : n₀ ≤ w.heap.size) (hc : w.cell? ⟨Bn, 0, none⟩ = some (.int .u64 b)) :
    SeqStopsK Fence.wide n (cutP Tryd.prog) 34 #[.pointer (some ⟨Bn, 0, none⟩)] (fun x : { x : Int // x ∈ bitsL b } => #[Value.int .i64 x.1]) (Below n₀) (fun ys => ys.map Subtype.val = bitsL b) (fun pre => pre.map Subtype.val <+: bitsL b) (bitsL b).length w := by
  intro l J Jx W hW hJo hJxo hY h0
  refine (things1_at n hn l Bn n₀ b hb h2 (fun pre W' => ∃ ps : List ({ x : Int // x ∈ bitsL b }), ps.map Subtype.val = pre ∧ J ps W') (fun pre W' => ∃ ps : List ({ x : Int // x ∈ bitsL b }), ps.map Subtype.val = pre ∧ Jx ps W') ?_ W (tab_below hT hW) ((hW.cell (p := ⟨Bn, 0, none⟩) hBn).trans hc) ⟨[], rfl, h0⟩).mono ?_
  · rintro pre x W' ⟨ps, rfl, hJ⟩ hpre
    have hx : x ∈ bitsL b := hpre.subset (by simp)
    have hl : ps.length < (bitsL b).length := by
      have := hpre.length_le
      rw [List.length_append, List.length_map, List.length_singleton] at this
      omega
    refine (hY ps ⟨x, hx⟩ W' hJ hl).mono ?_
    rintro e W2 (⟨rfl, h1, h3⟩ | ⟨rfl, h1⟩)
    · exact .inl ⟨rfl, ⟨ps ++ [⟨x, hx⟩], by rw [List.map_append]; rfl, h1⟩, h3⟩
    · exact .inr ⟨rfl, ⟨ps ++ [⟨x, hx⟩], by rw [List.map_append]; rfl, h1⟩⟩
  · rintro e W2 ⟨hv, (⟨ys, rfl, ps, hps, hJ⟩ | ⟨pre, hpre, ps, rfl, hJ⟩)⟩
    · exact ⟨hv, .inl ⟨ps, hps, hJ⟩⟩
    · exact ⟨hv, .inr ⟨ps, hpre, hJ⟩⟩

theorem bit_mem {m : Nat} {x : Int} (h : x ∈ bitsL m) : ∃ t : Nat, x = (t : Int) ∧ t < 8 ∧ m.testBit t = true := by
  unfold bitsL at h
  obtain ⟨t, ht, rfl⟩ := List.mem_map.1 h
  obtain ⟨h1, h2⟩ := List.mem_filter.1 ht
  exact ⟨t, rfl, List.mem_range.1 h1, h2⟩
end

section
open Go.Conc Go.RowKit Go.Shelf

attribute [local go_sem] Oper.semAt_some

theorem ownK_viewM {w : World} {B : Nat} {v : Value} {ns : List Nat} (h : OwnK w B v ns) (h1 : 1 ≤ ns.length) : ∃ g cap, v = .slice (some ⟨g, 0, none⟩) ns.length cap ∧ B ≤ g ∧ ∀ j, j < ns.length → w.cell? ⟨g, j, none⟩ = some (.int .u64 ((ns.getD j 0 : Nat) : Int)) := by
  have h0 := h
  rcases h.2 with ⟨h2, h3⟩ | ⟨g, cap, cur, hv, hb, _⟩
  · omega
  · subst hv
    exact ⟨g, cap, rfl, hb, fun j hj => ownK_cell h0 j hj⟩
theorem bel_pushM {w w1 : World} {o : Obj} (e : w1.heap = w.heap.push o) (e1 : w1.os = w.os) (e2 : w1.output = w.output) : Bel w w1 :=
  ⟨e1, e2, by rw [e, Array.size_push]; omega, fun b hb => by rw [e, Array.getElem?_push_lt hb, ← Array.getElem?_eq_getElem hb]⟩
theorem bel_setM {w W : World} (h : Bel w W) {p : Addr} (hp : w.heap.size ≤ p.block) (v : Value) : Bel w (W.setCell p v) := by
  have := (Below.refl w.heap.size W).setCell (p := p) hp v
  exact ⟨this.os.trans h.os, this.output.trans h.output, Nat.le_trans h.size this.size, fun b hb => (this.block b hb).trans (h.block b hb)⟩
theorem bel_below {w W W1 : World} {n : Nat} (h : Bel w W) (k : Below n W W1) (hn : w.heap.size ≤ n) : Bel w W1 :=
  ⟨k.os.trans h.os, k.output.trans h.output, Nat.le_trans h.size k.size, fun b hb => (k.block b (by omega)).trans (h.block b hb)⟩
theorem cellSetM {w : World} {p q : Addr} {v : Value} (h : p ≠ q) : (w.setCell p v).cell? q = w.cell? q := by
  first | exact World.cell?_setCell_other h | exact World.cell?_setCell_other _ h | exact World.cell?_setCell_other _ _ h | exact World.cell?_setCell_other _ _ _ h | exact World.cell?_setCell_other _ _ _ _ h
theorem tab_bel {w w' : World} (h : Tab w) (hb : Bel w w') : Tab w' :=
  ⟨Nat.le_trans h.1 hb.size, fun j hj => hb.cell (h.2 j hj)⟩
theorem boxed_bel {W W' : World} {b : Nat} {t : TypeId} {v : Value} (h : Boxed W b t v) (hb : Bel W W') : Boxed W' b t v := (hb.block b h.lt).trans h
theorem boxed_belN {n : Nat} {W W' : World} {b : Nat} {t : TypeId} {v : Value} (h : Boxed W b t v) (hb : Below n W W') (hn : b < n) : Boxed W' b t v := (hb.block b hn).trans h
theorem cell_belN {n : Nat} {W W' : World} {a : Addr} {v : Value} (h : W.cell? a = some v) (hb : Below n W W') (hn : a.block < n) : W'.cell? a = some v := by
  unfold World.cell? at h ⊢
  rw [hb.block _ hn]
  exact h

theorem put_keeps {w W : World} {D : Nat} {t : TypeId} {v : Value} (h : Boxed W w.heap.size t v ∧ Bel w W) (hD : w.heap.size < D) : Boxed (W.putObj D (.deferred none)) w.heap.size t v ∧ Bel w (W.putObj D (.deferred none)) := by
  refine ⟨?_, h.2.os, h.2.output, by simp [World.putObj]; exact h.2.size, fun b hb => ?_⟩
  · unfold Boxed
    rw [World.putObj_heap_other (by omega)]
    exact h.1
  · rw [World.putObj_heap_other (by omega)]
    exact h.2.block b hb

structure RetW (W0 : World) (N : Nat) (W : World) : Prop where
  os : W.os = W0.os
  output : W.output = W0.output
  size : W0.heap.size ≤ W.heap.size
  block : ∀ b, b < W0.heap.size → b ≠ N → W.heap[b]? = W0.heap[b]?
  told : Boxed W N 4 (.bool false)
theorem ret_set {W0 W : World} {N : Nat} {v : Value} (h : Below W0.heap.size W0 W) (hN : N < W0.heap.size) (hb : Boxed W N 4 v) : RetW W0 N (W.setCell ⟨N, 0, none⟩ (.bool false)) := by
  have hg := (Below.refl N W).setCell (p := ⟨N, 0, none⟩) (Nat.le_refl _) (.bool false)
  refine ⟨hg.os.trans h.os, hg.output.trans h.output, Nat.le_trans h.size hg.size, fun b hb hn => ?_, hb.set _⟩
  have : (W.setCell ⟨N, 0, none⟩ (.bool false)).heap[b]? = W.heap[b]? := by
    show (W.heap.modify N _)[b]? = _
    rw [Array.getElem?_modify, if_neg (fun e => hn e.symm)]
  rw [this]
  exact h.block b hb
theorem RetW.grown {W0 W W' : World} {N : Nat} {row : Option Nat} (h : RetW W0 N W) (hN : N < W0.heap.size) (hg : W.grownBy W' row) (hr : ∀ r, row = some r → W0.heap.size ≤ r) : RetW W0 N W' := by
  have ne : ∀ b, b < W0.heap.size → some b ≠ row := fun b hb e => by have := hr b e.symm; omega
  exact ⟨hg.os.trans h.os, hg.output.trans h.output, Nat.le_trans h.size hg.size, fun b hb hn => (hg.block b (Nat.lt_of_lt_of_le hb h.size) (ne b hb)).trans (h.block b hb hn), h.told.kept hg (ne N hN)⟩

set_option maxRecDepth 100000 in
set_option maxHeartbeats 6400000 in
theorem iViewMost_b {X w : World} {v0 : Value} {vs : List (List Int)} (h1 : RdM w v0 vs) (hT : Tab w) :
    CallsB (duo Tryd.prog X) 6 #[v0] w (fun v w' => v = .bool (viewMost vs) ∧ Bel w w') := by
  refine CallsB.of_body_marks kit (fn := Tryd.f6) Trydp.func6 Tryd.func6 rfl (by kernel_rfl) (by kernel_rfl) ?_
  simp only [Tryd.ntmps6, List.size_toArray, List.length_cons, List.length_nil, Nat.reduceAdd, Nat.reduceSub, Array.replicate_succ, Array.replicate_zero, List.push_toArray, List.append_toArray, List.nil_append, List.cons_append]
  refine WpB.seq kit (WpB.of_wp kit (fun τ => ?_) (outs_then (outs_bodyM _ _ _)))
  have hs0 : (ownTape w τ).heap = w.heap ∧ (ownTape w τ).os = w.os ∧ (ownTape w τ).output = w.output := ⟨rfl, rfl, rfl⟩
  generalize ownTape w τ = w0 at *
  have HS0 := Lib.hid hs0
  clear hs0
  go_wp2
  refine WpB.gen fun w1 hw1 => ?_
  have he : w1.heap = w.heap.push (.cells #[.bool false] 4) ∧ w1.os = w.os ∧ w1.output = w.output := by
    subst hw1
    obtain ⟨s1, s2, s3⟩ := HS0.out
    exact ⟨by rw [← s1]; rfl, s2, s3⟩
  rw [congrArg Array.size HS0.out.1]
  clear hw1
  obtain ⟨e, e1, e2⟩ := he
  have bR : Boxed w1 w.heap.size 4 (.bool false) := by unfold Boxed; rw [e]; simp
  have bel : Bel w w1 := bel_pushM e e1 e2
  clear e e1 e2 HS0
  by_cases ha : areV vs = true
  · obtain ⟨L, hL1, hL5, hL⟩ := areV_row ha
    have hlen := areV_len ha
    obtain ⟨vb, vo, vcap, bV, oV, cV, hv1, hV⟩ := rows_at h1 hlen.1 hL1 (fun k hk => (hL k hk).1)
    have hr : viewMost vs = nearSame (nearL vs (halfV vs) L) L := by
      rw [near_most (by omega)]
      unfold viewMost
      rw [ha, (hL 0 (by omega)).1]
      rfl
    rw [hr]
    have HV := Lib.hid (fun τ => areViews_v v0 vs (ownTape w1 τ) (bel.rdm h1))
    have H1 := Lib.hid h1
    obtain ⟨n, hn⟩ : ∃ n, n = vs.length := ⟨_, rfl⟩
    rw [← hn] at hv1
    have HL := Lib.hid hL
    have HN := Lib.hid hn
    have HE := Lib.hid hlen
    have HL1 := Lib.hid hL1
    have HL5 := Lib.hid hL5
    have hhv : halfV vs = n / 2 + 1 := by unfold halfV; rw [hn]
    rw [hhv]
    rw [ha] at HV
    have HN6 := Lib.hid (show n ≤ 6 by rw [hn]; exact hlen.2)
    subst hv1
    clear hV hr ha hL hlen h1 hL1 hL5 hn hhv
    refine WpB.seq kit (WpB.of_wp kit (fun τ => ?_) (outs_then (outs_bodyM _ _ _)))
    go_wp2_with fail
    refine (HV.out τ).mono ?_
    rintro e w2 ⟨rfl, rfl⟩
    go_wp2
    refine WpB.own ?_
    have q1 : ((n : Int)).tdiv 2 = ((n / 2 : Nat) : Int) := by rw [Int.tdiv_eq_ediv_of_nonneg (by omega)]; exact (Int.natCast_ediv ..).symm
    have q2 : (n : Int) / 2 = ((n / 2 : Nat) : Int) := (Int.natCast_ediv ..).symm
    obtain ⟨hh, hhe⟩ : ∃ hh, hh = n / 2 := ⟨_, rfl⟩
    have hh6 : hh ≤ 3 := by have := HN6.out; omega
    rw [← hhe] at q1 q2 ⊢
    have q3 : IntKind.i64.wrap (hh : Int) = (hh : Int) := IntWalk.i64_in _ (by omega)
    have q4 : IntKind.i64.wrap ((hh : Int) + 1) = ((hh + 1 : Nat) : Int) := by rw [IntWalk.i64_in _ (by omega)]; omega
    clear hhe
    refine WpB.seq kit (WpB.region kit ?_)
    simp only [List.size_toArray, List.length_cons, List.length_nil, Nat.reduceAdd, Nat.zero_add, List.range, List.range.loop]
    unfold OpsB
    simp only [List.getElem?_toArray, List.getElem?_cons_zero, List.getElem?_cons_succ]
    rw [if_pos (by rfl)]
    left
    intro _
    unfold Oper.wp
    go_simp
    unfold OpsB
    simp only [List.getElem?_toArray, List.getElem?_cons_zero, List.getElem?_cons_succ]
    rw [if_pos (by rfl)]
    left
    intro _
    unfold Oper.wp
    go_simp
    unfold OpsB
    simp only [List.getElem?_toArray, List.getElem?_cons_zero, List.getElem?_cons_succ]
    rw [if_pos (by rfl)]
    left
    intro _
    unfold Oper.wp
    go_simp
    unfold OpsB
    simp only [List.getElem?_toArray, List.getElem?_cons_zero, List.getElem?_cons_succ]
    rw [if_pos (by rfl)]
    left
    intro _
    unfold Oper.wp
    go_simp
    unfold OpsB
    simp only [List.getElem?_toArray, List.getElem?_cons_zero, List.getElem?_cons_succ]
    rw [if_pos (by rfl)]
    left
    intro _
    unfold Oper.wp
    go_simp
    try rw [q4]
    unfold OpsB
    simp only [List.getElem?_toArray, List.getElem?_cons_zero, List.getElem?_cons_succ]
    rw [if_pos (by rfl)]
    right
    refine ⟨16, #[.slice (some ⟨vb, vo, none⟩) n vcap, .int .i64 ((hh + 1 : Nat) : Int)], fun W => ⟨by kernel_rfl, by kernel_rfl⟩, ?_⟩
    refine CallsB.own ((togetherIn_b (X := X) (w := w1) (L := L) (least := hh + 1) (bel.rdm H1.out) HL1.out HL5.out (fun k hk => (HL.out k hk).1) HE.out.1 HE.out.2 (by omega)).mono fun v w2 h => ?_)
    obtain ⟨ho, hb⟩ := h
    have bel2 := bel.trans hb
    have bR2 := boxed_bel bR hb
    obtain ⟨g, cap, rfl, hgB, hgc⟩ := ownK_viewM ho (by rw [nearL_len]; exact HL1.out)
    have HLT := Lib.hid (fun i => nearL_lt vs (hh + 1) L i (by have := HL5.out; omega))
    have HMEM := Lib.hid (fun i (hi : i < L) (t : Nat) (h8 : t < 8) (hb : ((nearL vs (hh + 1) L).getD i 0).testBit t = true) => (by
      rw [nearL_get _ _ _ hi, maskTo_bit] at hb
      simp only [Bool.and_eq_true, decide_eq_true_eq] at hb
      exact hb.1 : t < L))
    have hnl := nearL_len vs (hh + 1) L
    obtain ⟨ns, hns⟩ : ∃ ns, ns = nearL vs (hh + 1) L := ⟨_, rfl⟩
    rw [← hns] at hgc hnl HLT HMEM ⊢
    rw [hnl] at hgc ⊢
    have HGC := Lib.hid hgc
    have hN2 : w.heap.size < w2.heap.size := bR2.lt
    clear ho hb hgc hnl hns bel bR HN6 q1 q2 q3 q4 hh6
    unfold OpsB
    simp only [List.getElem?_toArray, List.getElem?_cons_zero, List.getElem?_cons_succ]
    rw [if_pos (by rfl)]
    left
    intro _
    unfold Oper.wp
    go_simp
    unfold OpsB
    simp only [List.getElem?_toArray, List.getElem?_cons_zero, List.getElem?_cons_succ]
    rw [if_pos (by rfl)]
    left
    intro τ
    have bS4 : Boxed (ownTape (w2.alloc (.cells #[.slice none 0 0] 36)) τ) w2.heap.size 36 (.slice none 0 0) := Boxed.new w2 _ _
    have bR4 : Boxed (ownTape (w2.alloc (.cells #[.slice none 0 0] 36)) τ) w.heap.size 4 (.bool false) := bR2.alloc _
    have HGC4 : Hid (∀ j, j < L → (ownTape (w2.alloc (.cells #[.slice none 0 0] 36)) τ).cell? ⟨g, j, none⟩ = some (.int .u64 ((ns.getD j 0 : Nat) : Int))) := Lib.hid fun j hj => (Bel.alloc w2 _).cell (HGC.out j hj)
    have bel4 : Bel w (ownTape (w2.alloc (.cells #[.slice none 0 0] 36)) τ) := bel_ownT (bel2.trans (Bel.alloc w2 _))
    obtain ⟨S, hS⟩ : ∃ S, S = w2.heap.size := ⟨_, rfl⟩
    rw [← hS] at bS4 hN2
    have hgS : g < S := by rw [hS]; exact World.block_lt_of_cell? w2 _ (HGC.out 0 HL1.out)
    simp only [← hS]
    try simp only [own_own]
    generalize ownTape (w2.alloc (.cells #[.slice none 0 0] 36)) τ = w4 at *
    clear HGC bel2 bR2 hS
    have cS := bS4.cell
    have fS := bS4.frozen
    unfold Oper.wp
    go_simp
    unfold OpsB
    have bS5 := bS4.set (.slice (some ⟨g, 0, none⟩) L cap)
    have bR5 := bR4.other (B' := S) (by omega) (.slice (some ⟨g, 0, none⟩) L cap)
    have HGC5 : Hid (∀ j, j < L → (w4.setCell ⟨S, 0, none⟩ (.slice (some ⟨g, 0, none⟩) L cap)).cell? ⟨g, j, none⟩ = some (.int .u64 ((ns.getD j 0 : Nat) : Int))) := Lib.hid fun j hj => by
      have hne : (⟨S, 0, none⟩ : Addr) ≠ ⟨g, j, none⟩ := by intro x; injection x with x; omega
      rw [cellSetM hne]
      exact HGC4.out j hj
    have bel5 := bel_setM bel4 (p := ⟨S, 0, none⟩) (Nat.le_of_lt hN2) (.slice (some ⟨g, 0, none⟩) L cap)
    generalize w4.setCell ⟨S, 0, none⟩ (.slice (some ⟨g, 0, none⟩) L cap) = w5 at *
    clear bS4 bR4 HGC4 bel4 cS fS HV
    have hT5 := tab_bel hT bel5
    refine WpB.seq kit ?_
    refine WpB.seq kit (WpB.of_wp kit (fun τ => ?_) (by repeat (first | exact outs_bodyM _ _ _ | refine outs_then ?_ | refine outs_block ?_)))
    have cS : (ownTape w5 τ).cell? ⟨S, 0, none⟩ = some (.slice (some ⟨g, 0, none⟩) L cap) := bS5.cell
    go_wp2
    clear cS
    refine WpB.own ?_
    refine WpB.block kit (WpB.loop kit (fun a W => ∃ (k : Nat) (Ds : List Nat), k ≤ L ∧ a = { tmps := #[.slice (some ⟨vb, vo, none⟩) n vcap, a.tmps.getD 1 undef, .pointer (some ⟨w.heap.size, 0, none⟩), .pointer (some ⟨S, 0, none⟩), a.tmps.getD 4 undef, a.tmps.getD 5 undef, a.tmps.getD 6 undef, a.tmps.getD 7 undef, a.tmps.getD 8 undef, a.tmps.getD 9 undef, a.tmps.getD 10 undef, a.tmps.getD 11 undef, a.tmps.getD 12 undef, a.tmps.getD 13 undef, a.tmps.getD 14 undef, a.tmps.getD 15 undef, .slice (some ⟨g, 0, none⟩) L cap, .int .i64 L, .int .i64 k, a.tmps.getD 19 undef, a.tmps.getD 20 undef, a.tmps.getD 21 undef, a.tmps.getD 22 undef, a.tmps.getD 23 undef, a.tmps.getD 24 undef, a.tmps.getD 25 undef, a.tmps.getD 26 undef, a.tmps.getD 27 undef, a.tmps.getD 28 undef, a.tmps.getD 29 undef, a.tmps.getD 30 undef, a.tmps.getD 31 undef], defers := Ds.map markD } ∧ Ds.Nodup ∧ (∀ D ∈ Ds, w.heap.size < D ∧ W.heap[D]? = some (.deferred (some []))) ∧ Bel w5 W ∧ ∀ i, i < k → ∀ x ∈ bitsN (ns.getD i 0), ns.getD x.toNat 0 = ns.getD i 0) (fun a _ => L - (intOf (a.tmps.getD 18 undef)).toNat) ⟨0, [], Nat.zero_le _, rfl, List.nodup_nil, fun _ h => (by cases h), Bel.refl _, fun _ h => (by omega)⟩ fun a Wl h => ?_)
    obtain ⟨k, Ds, hk, ha, hnd, hds, hb5, hall⟩ := h
    generalize a.tmps.getD 1 undef = u1 at ha
    generalize a.tmps.getD 4 undef = u4 at ha
    generalize a.tmps.getD 5 undef = u5 at ha
    generalize a.tmps.getD 6 undef = u6 at ha
    generalize a.tmps.getD 7 undef = u7 at ha
    generalize a.tmps.getD 8 undef = u8 at ha
    generalize a.tmps.getD 9 undef = u9 at ha
    generalize a.tmps.getD 10 undef = u10 at ha
    generalize a.tmps.getD 11 undef = u11 at ha
    generalize a.tmps.getD 12 undef = u12 at ha
    generalize a.tmps.getD 13 undef = u13 at ha
    generalize a.tmps.getD 14 undef = u14 at ha
    generalize a.tmps.getD 15 undef = u15 at ha
    generalize a.tmps.getD 19 undef = u19 at ha
    generalize a.tmps.getD 20 undef = u20 at ha
    generalize a.tmps.getD 21 undef = u21 at ha
    generalize a.tmps.getD 22 undef = u22 at ha
    generalize a.tmps.getD 23 undef = u23 at ha
    generalize a.tmps.getD 24 undef = u24 at ha
    generalize a.tmps.getD 25 undef = u25 at ha
    generalize a.tmps.getD 26 undef = u26 at ha
    generalize a.tmps.getD 27 undef = u27 at ha
    generalize a.tmps.getD 28 undef = u28 at ha
    generalize a.tmps.getD 29 undef = u29 at ha
    generalize a.tmps.getD 30 undef = u30 at ha
    generalize a.tmps.getD 31 undef = u31 at ha
    subst ha
    have HALL := Lib.hid hall
    have HND := Lib.hid hnd
    have HDS := Lib.hid hds
    clear hall hnd hds
    refine WpB.of_wp kit (fun τ => (wpIn_wide (n := 10)).1 ?_) (by repeat (first | exact outs_bodyM _ _ _ | refine outs_then ?_ | refine outs_block ?_))
    have hbO : Bel w5 (ownTape Wl τ) := bel_ownT hb5
    have HDS' : Hid (∀ D ∈ Ds, w.heap.size < D ∧ (ownTape Wl τ).heap[D]? = some (.deferred (some []))) := Lib.hid HDS.out
    clear HDS hb5
    generalize ownTape Wl τ = Wk at *
    obtain ⟨Wl, hWl⟩ : ∃ Wl, Wl = Wk := ⟨_, rfl⟩
    subst hWl
    have cS := (boxed_bel bS5 hbO).cell
    by_cases hlt : k < L
    · have hck := hbO.cell (HGC5.out k hlt)
      have hm := HLT.out k
      have HMK := Lib.hid (HMEM.out k hlt)
      have HPK : Hid (∀ i, i < k → ∀ x ∈ bitsN (ns.getD i 0), ns.getD x.toNat 0 = ns.getD i 0) := HALL
      obtain ⟨m, hme⟩ : ∃ m, m = ns.getD k 0 := ⟨_, rfl⟩
      rw [← hme] at hck hm HMK
      have HME := Lib.hid hme
      have z0 : (k : Int) < (L : Int) := by omega
      have z1 : (0 : Int) ≤ (k : Int) := by omega
      clear hme
      gi_wp2_with (refine ⟨trivial, ?_⟩; gi_at_call 17; refine (things_in _ m _).mono ?_; rintro e w' ⟨rfl, rfl⟩)
      have bM := (Boxed.new Wl 39 (.int .u64 m)).alloc (.cells #[.int .u64 m] 39)
      have bF := Boxed.new (Wl.alloc (.cells #[.int .u64 m] 39)) 39 (.int .u64 m)
      have hB0 : Below Wl.heap.size Wl ((Wl.alloc (.cells #[.int .u64 m] 39)).alloc (.cells #[.int .u64 m] 39)) := ((Below.refl _ Wl).alloc (Nat.le_refl _) _).alloc (by simp) _
      obtain ⟨W0, hW0⟩ : ∃ W0, (Wl.alloc (.cells #[.int .u64 m] 39)).alloc (.cells #[.int .u64 m] 39) = W0 := ⟨_, rfl⟩
      have hsz : W0.heap.size = Wl.heap.size + 2 := by rw [← hW0]; simp
      simp only [World.size_alloc] at bF
      rw [hW0] at bM bF hB0 ⊢
      clear hW0
      have hbl0 : Bel w5 W0 := hbO.trans (bel_below (Bel.refl Wl) hB0 (Nat.le_refl _))
      have hT0 : Tab W0 := tab_bel hT5 hbl0
      have bS0 := boxed_bel bS5 hbl0
      have bR0 := boxed_bel bR5 hbl0
      have HG0 : Hid (∀ j, j < L → W0.cell? ⟨g, j, none⟩ = some (.int .u64 ((ns.getD j 0 : Nat) : Int))) := Lib.hid fun j hj => hbl0.cell (HGC5.out j hj)
      have hS0 := bS0.lt
      have hR0 := bR0.lt
      have HDS0 : Hid (∀ D ∈ Ds, w.heap.size < D ∧ D < W0.heap.size ∧ W0.heap[D]? = some (.deferred (some []))) := Lib.hid fun D hD => by
        obtain ⟨x1, x2⟩ := HDS'.out D hD
        have hlt : D < Wl.heap.size := (Array.getElem?_eq_some_iff.1 x2).1
        exact ⟨x1, by omega, (hB0.block D hlt).trans x2⟩
      refine wpIn_rangeFunc_ownH rfl (by omega) (gf := 34) (lb := #[.pointer (some ⟨Wl.heap.size + 1, 0, none⟩)]) rfl trivial (enters_of Trydp.func34 (by kernel_rfl) rfl)
        (things_at 9 (by omega) (Wl.heap.size + 1) W0.heap.size m hm W0 hT0 hT0.1 (by omega) (Nat.le_refl _) bF.cell) belowK_t (belowK_b (Nat.le_refl _)) (Below.refl _ _) (fun _ => rfl)
        (fun pre W => (∀ x ∈ pre, ns.getD x.1.toNat 0 = m) ∧ Below W0.heap.size W0 W)
        (fun c pre W => (c = .ret ∧ ∃ x ∈ pre, ns.getD x.1.toNat 0 ≠ m) ∧ RetW W0 w.heap.size W)
        (OwnFrom.and (ownFrom_pure _ _) (ownFrom_below (Nat.le_refl _) (Nat.le_refl _)))
        (fun c => OwnFrom.and (ownFrom_pure _ _) (fun _ _ _ _ hs hg hr => hs.grown hR0 hg (fun r e => (hr r e).1)))
        ⟨by simp, Below.refl _ _⟩
        (fun x a' _ => a' = { tmps := #[.slice (some ⟨vb, vo, none⟩) n vcap, u1, .pointer (some ⟨w.heap.size, 0, none⟩), .pointer (some ⟨S, 0, none⟩), u4, .pointer (some ⟨Wl.heap.size, 0, none⟩), .int .i64 x.1, u7, u8, u9, u10, u11, u12, u13, u14, u15, .slice (some ⟨g, 0, none⟩) L cap, .int .i64 L, .int .i64 k, .bool true, .pointer (some ⟨g, k, none⟩), .int .u64 m, .int .u64 m, .func (.func 34) #[] #[.pointer (some ⟨Wl.heap.size + 1, 0, none⟩)], .int .i64 x.1, u25, u26, u27, u28, u29, u30, u31], defers := [] })
        (fun _ _ _ _ _ _ hs _ _ => hs) ?assign ?body ?done ?stop
      case assign =>
        rintro l pre x W K hi hK
        gi_wp2
        exact hK _ _ (KeepsFrom.refl _ _) (Below.refl _ _) hi rfl
      case body =>
        rintro l pre x a' W hl ⟨r, hr⟩ ⟨hp, hB⟩ rfl hlen
        obtain ⟨t, ht, ht8, htb⟩ := bit_mem x.2
        have htL := HMK.out t ht8 htb
        have cS1 : W.cell? ⟨S, 0, none⟩ = some (.slice (some ⟨g, 0, none⟩) L cap) := cell_belN bS0.cell hB hS0
        have cM1 : W.cell? ⟨Wl.heap.size, 0, none⟩ = some (.int .u64 m) := cell_belN bM.cell hB bM.lt
        have cT1 := cell_belN (HG0.out t htL) hB (World.block_lt_of_cell? W0 _ (HG0.out t htL))
        have bR1 := boxed_belN bR0 hB hR0
        have hpt : ns.getD x.1.toNat 0 = ns.getD t 0 := by rw [ht, Int.toNat_natCast]
        have HPT := Lib.hid hpt
        obtain ⟨p, hpe⟩ : ∃ p, p = ns.getD t 0 := ⟨_, rfl⟩
        rw [← hpe] at cT1 HPT
        have y0 : (0 : Int) ≤ (t : Int) := by omega
        have y1 : (t : Int) < (L : Int) := by omega
        have HP := Lib.hid hp
        have HB := Lib.hid hB
        rw [ht]
        clear hpt hpe hp hB ht htb
        by_cases hpm : p = m
        · have hpi : (p : Int) = (m : Int) := by omega
          gi_wp2
          gi_region
          all_goals gi_wp2
          all_goals exact ⟨⟨Nat.le_refl _, fun _ _ _ h _ => h⟩, (Below.refl _ W).drew, fun z hz => (List.mem_append.1 hz).elim (HP.out z) (fun e => by simp at e; subst e; rw [HPT.out, hpm]), HB.out.drew⟩
        · have hpi : ¬ ((p : Int) = (m : Int)) := by omega
          have cR1 := bR1.cell
          have fR1 := bR1.frozen
          have HRW := Lib.hid (show RetW W0 w.heap.size (W.setCell ⟨w.heap.size, 0, none⟩ (.bool false)).drew from (have r := ret_set HB.out hR0 bR1; ⟨r.os, r.output, r.size, r.block, r.told⟩))
          have HKF : Hid (KeepsFrom W0.heap.size W (W.setCell ⟨w.heap.size, 0, none⟩ (.bool false)).drew) := Lib.hid ⟨(KeepsOthers.setCell W ⟨w.heap.size, 0, none⟩ (.bool false)).size, fun k o _ h ho => (KeepsOthers.setCell W ⟨w.heap.size, 0, none⟩ (.bool false)).same k o h ho⟩
          gi_wp2
          gi_region
          all_goals gi_wp2
          all_goals exact ⟨HKF.out, ⟨rfl, x, by simp, by rw [HPT.out]; exact hpm⟩, HRW.out⟩
      case done =>
        rintro D zs W hD hzs ⟨hp, hB⟩ hK
        have HP := Lib.hid hp
        clear hp
        have hL5 := HL5.out
        have w1 : wrap64 ((k : Int) + 1) = ((k + 1 : Nat) : Int) := by rw [IntWalk.wrap64_in _ (by omega)]; omega
        have HW1 := Lib.hid w1
        clear w1 hL5
        gi_wp2
        rw [HW1.out]
        refine ⟨⟨k + 1, D :: Ds, by omega, ?_, ?_, ?_, ?_, ?_⟩, ?_⟩
        · first | rfl | (simp; done) | (congr 1; done)
        · refine List.nodup_cons.2 ⟨fun h => ?_, HND.out⟩
          have := (HDS0.out D h).2.1
          omega
        · intro D' hD'
          rcases List.mem_cons.1 hD' with rfl | hD'
          · exact ⟨by omega, hK⟩
          · obtain ⟨x1, x2, x3⟩ := HDS0.out D' hD'
            exact ⟨x1, (hB.block D' x2).trans x3⟩
        · exact bel_below hbl0 hB hbl0.size
        · intro i hi x hx
          by_cases e : i = k
          · subst e
            rw [← HME.out] at hx ⊢
            have hx' : x ∈ bitsL m := hx
            rw [← hzs] at hx'
            obtain ⟨x', hx1, rfl⟩ := List.mem_map.1 hx'
            exact HP.out x' hx1
          · exact HPK.out i (by omega) x hx
        · simp [intOf]; omega
      case stop =>
        rintro D c pre W hD hpre ⟨⟨rfl, x, hx, hne⟩, hRet⟩ hK
        have hfs : nearSame ns L = false := by
          unfold nearSame
          refine decide_eq_false fun h => hne ?_
          have := h k hlt x.1 (by rw [← HME.out]; exact x.2)
          rw [this, ← HME.out]
        have HFS := Lib.hid hfs
        have HNE := Lib.hid hne
        clear hfs hne
        gi_wp2
        intro τ2
        rw [HFS.out]
        have hbW : Bel w W := ⟨hRet.os.trans (bel5.trans hbl0).os, hRet.output.trans (bel5.trans hbl0).output, Nat.le_trans (bel5.trans hbl0).size hRet.size, fun b hb => (hRet.block b (Nat.lt_of_lt_of_le hb (bel5.trans hbl0).size) (by omega)).trans ((bel5.trans hbl0).block b hb)⟩
        refine leaves_marks (P := cutP Tryd.prog) (fn := Tryd.f6) (fun W => Boxed W w.heap.size 4 (.bool false) ∧ Bel w W) (fun W hJ => ?_) (D :: Ds) (ownTape W τ2) ?_ ?_ ?_ ⟨hRet.told, bel_ownT hbW⟩
        · have cR3 := hJ.1.cell
          exact ⟨.bool false, by simp [results, Tryd.f6, go_sem, cR3], .bool false, rfl, rfl, hJ.2⟩
        · refine List.nodup_cons.2 ⟨fun h => ?_, HND.out⟩
          have := (HDS0.out D h).2.1
          omega
        · intro D' hD'
          rcases List.mem_cons.1 hD' with rfl | hD'
          · exact hK
          · obtain ⟨x1, x2, x3⟩ := HDS0.out D' hD'
            exact (hRet.block D' x2 (by omega)).trans x3
        · intro W2 D' hD' hJ hk2
          have hgt : w.heap.size < D' := by
            rcases List.mem_cons.1 hD' with rfl | hD'
            · omega
            · exact (HDS0.out D' hD').1
          exact put_keeps hJ hgt
    · have hkL : k = L := by omega
      have z0 : ¬ ((k : Int) < (L : Int)) := by omega
      have hts : nearSame ns L = true := by
        unfold nearSame
        exact decide_eq_true fun i hi x hx => HALL.out i (by omega) x hx
      have HTS := Lib.hid hts
      have bRl := boxed_bel bR5 hbO
      have belO := bel5.trans hbO
      clear hts
      gi_wp2
      refine WpB.of_wp kit (fun τ => ?_) (outs_bodyM _ _ _)
      have bRt : Boxed (ownTape Wl τ) w.heap.size 4 (.bool false) := bRl
      have belT : Bel w (ownTape Wl τ) := bel_ownT belO
      have HDT : Hid (∀ D ∈ Ds, w.heap.size < D ∧ (ownTape Wl τ).heap[D]? = some (.deferred (some []))) := Lib.hid HDS'.out
      generalize ownTape Wl τ = We at *
      have cR := bRt.cell
      have fR := bRt.frozen
      go_wp2
      intro τ2
      rw [HTS.out]
      refine leaves_marks (P := cutP Tryd.prog) (fn := Tryd.f6) (fun W => Boxed W w.heap.size 4 (.bool true) ∧ Bel w W) (fun W hJ => ?_) Ds (ownTape (We.setCell ⟨w.heap.size, 0, none⟩ (.bool true)) τ2) HND.out ?_ ?_ ⟨bRt.set _, bel_ownT (bel_setM belT (Nat.le_refl _) _)⟩
      · have cR3 := hJ.1.cell
        exact ⟨.bool true, by simp [results, Tryd.f6, go_sem, cR3], .bool true, rfl, rfl, hJ.2⟩
      · intro D hD
        obtain ⟨x1, x2⟩ := HDT.out D hD
        exact (KeepsOthers.setCell We ⟨w.heap.size, 0, none⟩ (.bool true)).same D _ x2 rfl
      · intro W2 D hD hJ hk2
        exact put_keeps hJ (HDT.out D hD).1
  · have hf : areV vs = false := by simpa using ha
    have hr : viewMost vs = false := by simp [viewMost, hf]
    rw [hr]
    have HV := Lib.hid (fun τ => areViews_v v0 vs (ownTape w1 τ) (bel.rdm h1))
    rw [hf] at HV
    clear hr ha hf
    refine WpB.seq kit (WpB.of_wp kit (fun τ => ?_) (outs_then (outs_bodyM _ _ _)))
    have HVt := Lib.hid (HV.out τ)
    have bR0 : Boxed (ownTape w1 τ) w.heap.size 4 (.bool false) := bR
    have bel0 : Bel w (ownTape w1 τ) := bel_ownT bel
    generalize ownTape w1 τ = w2 at *
    have cR := bR0.cell
    have fR := bR0.frozen
    clear HV
    go_wp2_with fail
    refine HVt.out.mono ?_
    rintro e w3 ⟨rfl, rfl⟩
    have bR1 := bR0.set (.bool false)
    have bel1 := bel_setM bel0 (p := ⟨w.heap.size, 0, none⟩) (Nat.le_refl _) (.bool false)
    go_wp2
    intro τ2
    have cR3 : (ownTape (w2.setCell ⟨w.heap.size, 0, none⟩ (.bool false)) τ2).cell? ⟨w.heap.size, 0, none⟩ = some (.bool false) := bR1.cell
    exact ⟨.bool false, by simp [results, Tryd.f6, go_sem, cR3], .bool false, rfl, rfl, bel_ownT bel1⟩
end

theorem gTz64 : Tryd.prog.globalNamed "math/bits.deBruijn64tab" = some 1 := by kernel_rfl
theorem tTz64 : (Tryd.prog.globals[(1 : Nat)]?).map (·.type) = some 111 := by kernel_rfl
theorem dTz64 : (Rows.laid_math_bits_deBruijn64tab : DataW Unit) = Lib.tabData .u8 tzTab := rfl

theorem tab_of_met {W : World} (h : laidMet Tryd.prog [("math/bits.deBruijn32tab", Rows.laid_math_bits_deBruijn32tab), ("math/bits.deBruijn64tab", Rows.laid_math_bits_deBruijn64tab)] W) : Tab W := by
  obtain ⟨ps, ⟨g0, t0, cs0, f0, p0, q0, hg0, ht0, hv0, hd0, ⟨g1, t1, cs1, f1, p1, q1, hg1, ht1, hv1, hd1, _, _⟩, _⟩, _, _⟩ := h
  obtain rfl := Option.some.inj (gTz64.symm.trans hg1)
  obtain rfl := Option.some.inj (tTz64.symm.trans ht1)
  rw [dTz64] at hd1
  have hc := Lib.cells_of_tab Tryd.underlying111 Tryd.underlying5 (by kernel_rfl) (by kernel_rfl) hd1
  have hcell : ∀ j, j < 64 → W.cell? ⟨1, j, none⟩ = some (.int .u8 (tzTab.getD j 0)) := by
    intro j hj
    have h2 : Lib.TabIs Tryd.prog W "math/bits.deBruijn64tab" .u8 tzTab := by
      unfold Lib.TabIs
      rw [hv1, ← hc]
    exact h2.cell gTz64 j (by show j < 64; exact hj)
  exact ⟨by have := World.block_lt_of_cell? W _ (hcell 0 (by omega)); simp at this; omega, hcell⟩

theorem tab_of_laid {W : World} (h : laidMetH Tryd.prog [("math/bits.deBruijn32tab", Rows.laid_math_bits_deBruijn32tab), ("math/bits.deBruijn64tab", Rows.laid_math_bits_deBruijn64tab)] W) : Tab W := by
  rw [MakeChecks.laidMetH_plain _ _ _ (by kernel_rfl)] at h
  exact tab_of_met h

theorem tied_goes (Lk : Looks) {p : Pinned} {s : OpenSpec} {c : OpenClaim} (kinds : List LaidKind) (tests : Bool) (har : Bool × String) (lk : Bool)
    (hc : c.holds p s) (hw : c.wfByText s = true)
    (htie : c.laidByTextAt Lk p kinds tests)
    (hst : c.start = .entering) (hnb : c.noBlocks = false ∧ c.again = false) (hm : p.checked.prog.mainIs = some (har.1, har.2.toList)) (hn : (!har.1 && har.2.isEmpty && !lk) = false)
    (hl : ∀ f fn, p.checked.prog.funcNamed c.func = some f → p.checked.prog.funcs[f]? = some fn → lk = p.checked.prog.looks [] ∧ ∀ (j : Nat) t, fn.params[j]? = some t → p.checked.prog.wantsStandIn t = false)
    (hg : true = c.goesBy p.checked.prog) :
    Claim7.holds p (.plain s) { stood := { row := c, standIns := [], harness := har, looks := lk }, kinds := [], alts := [], goes := true, laidByText := true, laidKinds := kinds, laidTests := tests, laidLooks := Lk } := by
  have h6 : ∀ r : OpenClaim, Claim7.isSixth { stood := { row := r, standIns := [], harness := har, looks := lk }, kinds := [] } = false := fun r => by simpa [Claim7.isSixth] using hn
  exact ⟨Claim7.tied_new_at Lk kinds tests (Claim7.new_of_sixth hc har lk hst hnb hm (h6 c) hl) hw, fun D hD => (by cases hD), htie, (fun h => by cases h), hg⟩

end Go.Proofs.YtfiaiephbemdoaaDoor
