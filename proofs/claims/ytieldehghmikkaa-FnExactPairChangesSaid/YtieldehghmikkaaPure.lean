/-
  Words for memory: a slice that reads as a list of integers, a slice that the call itself made; and what keeps both. No program is named here.
-/
import Derived.WalkKit
import Derived.Lib.Hide
import Derived.WalkSmall
import Derived.Deep.QuietTactic
namespace Go.Proofs.Ytieldehghmikkaa
set_option linter.unusedSimpArgs false
set_option linter.unusedVariables false
set_option linter.unnecessarySimpa false
open Go.RowKit

/-- The slice at address 'ao' has the integers xs as its first elements. -/
def Rd (w : World) (ao : Option Addr) (xs : List Int) : Prop :=
  xs = [] ∨ ∃ b off, ao = some ⟨b, off, none⟩ ∧ ∀ j, j < xs.length → w.cell? ⟨b, off + j, none⟩ = some (.int .i64 (xs.getD j 0))

/-- The slice value v, made since the heap had B blocks, holds the integers xs. -/
def Own (w : World) (B : Nat) (v : Value) (xs : List Int) : Prop := w.ownsRow B 3 1 v xs.length (xs.map (Value.int .i64))

theorem getD_map_int (xs : List Int) (j : Nat) (h : j < xs.length) : (xs.map (Value.int .i64))[j]? = some (.int .i64 (xs.getD j 0)) := by
  simp [List.getD, h]

theorem own_view {w : World} {B : Nat} {v : Value} {xs : List Int} (h : Own w B v xs) :
    (v = .slice none 0 0 ∧ xs = []) ∨ ∃ g cap, v = .slice (some ⟨g, 0, none⟩) xs.length cap ∧ B ≤ g ∧ g < w.heap.size ∧ xs.length ≤ cap ∧ cap ≤ maxLen ∧
      (∀ j, j < xs.length → w.cell? ⟨g, j, none⟩ = some (.int .i64 (xs.getD j 0))) ∧ (∀ j, w.frozen? ⟨g, j, none⟩ = false) := by
  have h0 := h
  rcases h.2 with ⟨hv, hn⟩ | ⟨g, cap, cur, hv, hb, hg, hnc, hcm, hcs, htk⟩
  · exact .inl ⟨hv, List.eq_nil_of_length_eq_zero hn⟩
  · refine .inr ⟨g, cap, hv, hb, (Array.getElem?_eq_some_iff.1 hg).1, hnc, hcm, ?_, ?_⟩
    · intro j hj
      subst hv
      have := World.ownsRow.cellAt h0 j (by omega)
      rw [this, getD_map_int xs j hj]
    · intro j
      subst hv
      exact World.ownsRow.frozenAt h0 j

theorem own_rd {w : World} {B : Nat} {v : Value} {xs : List Int} (h : Own w B v xs) :
    ∃ ao cap, v = .slice ao xs.length cap ∧ Rd w ao xs ∧ xs.length ≤ cap ∧ cap ≤ maxLen ∧ (∀ a, ao = some a → B ≤ a.block ∧ a.block < w.heap.size ∧ v.ownBlock = some a.block) := by
  rcases own_view h with ⟨rfl, rfl⟩ | ⟨g, cap, rfl, hb, hl, hnc, hcm, hc, _⟩
  · exact ⟨none, 0, rfl, .inl rfl, Nat.le_refl _, Nat.zero_le _, fun a ha => by cases ha⟩
  · exact ⟨_, cap, rfl, .inr ⟨g, 0, rfl, fun j hj => by rw [Nat.zero_add]; exact hc j hj⟩, hnc, hcm, fun a ha => by cases ha; exact ⟨hb, hl, rfl⟩⟩

theorem own_frozen {w : World} {B g n cap : Nat} {xs : List Int} (h : Own w B (.slice (some ⟨g, 0, none⟩) n cap) xs) (j : Nat) : w.frozen? ⟨g, j, none⟩ = false := by
  rcases own_view h with ⟨h1, _⟩ | ⟨g', cap', h1, _, _, _, _, _, hf⟩
  · cases h1
  · cases h1
    exact hf j

theorem own_cell {w : World} {B g n cap : Nat} {xs : List Int} (h : Own w B (.slice (some ⟨g, 0, none⟩) n cap) xs) (j : Nat) (hj : j < xs.length) : w.cell? ⟨g, j, none⟩ = some (.int .i64 (xs.getD j 0)) := by
  rcases own_view h with ⟨h1, _⟩ | ⟨g', cap', h1, _, _, _, _, hc, _⟩
  · cases h1
  · cases h1
    exact hc j hj

theorem own_lt {w : World} {B : Nat} {v : Value} {xs : List Int} (h : Own w B v xs) : ∀ k, v.ownBlock = some k → B ≤ k ∧ k < w.heap.size := World.ownsRow.lt h

theorem own_grown {w w' : World} {B : Nat} {v : Value} {xs : List Int} {row : Option Nat} (h : Own w B v xs) (hg : w.grownBy w' row) (hne : v.ownBlock = none ∨ v.ownBlock ≠ row) : Own w' B v xs :=
  World.ownsRow.kept h hg hne

theorem grown_of_below {w w' : World} (h : Below w.heap.size w w') : w.grownBy w' none := ⟨h.os, h.tape, h.output, h.size, fun k hk _ => h.block k hk⟩

theorem own_below {w w' : World} {B : Nat} {v : Value} {xs : List Int} (h : Own w B v xs) (hb : Below w.heap.size w w') : Own w' B v xs :=
  own_grown h (grown_of_below hb) (by cases hv : v.ownBlock <;> simp)

theorem own_mono {w : World} {B B' : Nat} {v : Value} {xs : List Int} (h : Own w B v xs) (hB : B' ≤ B) : Own w B' v xs := by
  refine ⟨h.1, ?_⟩
  rcases h.2 with h2 | ⟨g, cap, cur, hv, hb, r⟩
  · exact .inl h2
  · exact .inr ⟨g, cap, cur, hv, by omega, r⟩

theorem rd_below {w w' : World} {ao : Option Addr} {xs : List Int} (h : Rd w ao xs) (hb : Below w.heap.size w w') : Rd w' ao xs := by
  rcases h with h | ⟨b, off, ha, hc⟩
  · exact .inl h
  · exact .inr ⟨b, off, ha, fun j hj => by rw [hb.cell (World.block_lt_of_cell? w _ (hc j hj))]; exact hc j hj⟩

theorem rd_grown {w w' : World} {ao : Option Addr} {xs : List Int} {row : Option Nat} (h : Rd w ao xs) (hg : w.grownBy w' row) (hne : ∀ a, ao = some a → some a.block ≠ row) : Rd w' ao xs := by
  rcases h with h | ⟨b, off, ha, hc⟩
  · exact .inl h
  · exact .inr ⟨b, off, ha, fun j hj => hg.cell (hc j hj) (hne ⟨b, off, none⟩ ha)⟩

theorem rd_nil (w : World) (ao : Option Addr) : Rd w ao [] := .inl rfl

/-- The value v is a slice that reads as the integers xs. -/
def RdV (w : World) (v : Value) (xs : List Int) : Prop := ∃ ao cap, v = .slice ao xs.length cap ∧ Rd w ao xs ∧ xs.length ≤ cap ∧ cap ≤ maxLen

theorem own_rdv {w : World} {B : Nat} {v : Value} {xs : List Int} (h : Own w B v xs) : RdV w v xs := by
  obtain ⟨ao, cap, h1, h2, h3, h4, _⟩ := own_rd h
  exact ⟨ao, cap, h1, h2, h3, h4⟩

theorem rdv_below {w w' : World} {v : Value} {xs : List Int} (h : RdV w v xs) (hb : Below w.heap.size w w') : RdV w' v xs := by
  obtain ⟨ao, cap, h1, h2, h3⟩ := h
  exact ⟨ao, cap, h1, rd_below h2 hb, h3⟩

theorem rdv_drewN {w : World} {v : Value} {xs : List Int} (h : RdV w v xs) (n : Nat) : RdV (w.drewN n) v xs := rdv_below h (below_drewN (Below.refl _ _) n)

theorem quiet_left {P : Program} {f : FuncId} {args : Array Value} {w : World} {n : Nat} {v : Value}
    (h : Calls P f args (w.drewN n) fun e w' => e = .returned v ∧ w.drewN n = w') : Calls P f args (w.drewN n) fun e w'' => e = .returned v ∧ ∃ m, w'' = w.drewN m :=
  h.mono fun _ _ ⟨he, hm⟩ => ⟨he, n, hm.symm⟩

/-- The block of the slice value v lies from B on and below S. -/
def InB (v : Value) (B S : Nat) : Prop := ∀ k, v.ownBlock = some k → B ≤ k ∧ k < S

theorem inB_of_own {w : World} {B : Nat} {v : Value} {xs : List Int} (h : Own w B v xs) : InB v B w.heap.size := World.ownsRow.lt h

theorem own_apart {w w' : World} {B : Nat} {v u : Value} {xs : List Int} {b1 s1 b2 s2 : Nat} (h : Own w B v xs) (hg : w.grownBy w' u.ownBlock) (hv : InB v b1 s1) (hu : InB u b2 s2) (hd : s1 ≤ b2 ∨ s2 ≤ b1) : Own w' B v xs := by
  refine own_grown h hg ?_
  cases h1 : v.ownBlock with
  | none => exact .inl rfl
  | some k =>
    refine .inr fun e => ?_
    have a := hv k h1
    have b := hu k e.symm
    omega

theorem below_mark {w0 w w' : World} {u : Value} {b s : Nat} (hb : Below w0.heap.size w0 w) (hg : w.grownBy w' u.ownBlock) (hu : InB u b s) (h : w0.heap.size ≤ b) : Below w0.heap.size w0 w' :=
  hb.grown hg hb.size fun k hk => by have := (hu k hk).1; omega

theorem below_step {w0 w w' : World} (hb : Below w0.heap.size w0 w) (h : Below w.heap.size w w') : Below w0.heap.size w0 w' := hb.trans (h.mono hb.size)

/-- What the walk is told of a slice of integers that came in. -/
def IsRow (k : IntKind) (w : World) (a : Option Addr) (len cap : Nat) (zs : List Int) : Prop :=
  (a = none ∧ len = 0 ∧ cap = 0 ∧ zs = []) ∨
  ∃ x, a = some x ∧ len ≤ cap ∧ cap ≤ maxLen ∧ zs.length = cap ∧ (∀ i, i < zs.length → w.cell? (x.add i) = some (.int k (zs.getD i 0))) ∧ ∀ n ∈ zs, (Lit.int k n).wf = true

theorem rdv_of_row {w : World} {a : Option Addr} {len cap : Nat} {zs : List Int} (h : IsRow .i64 w a len cap zs) : ∃ xs : List Int, xs.length = len ∧ RdV w (.slice a len cap) xs ∧ ∀ n ∈ xs, (Lit.int .i64 n).wf = true := by
  rcases h with ⟨rfl, rfl, rfl, rfl⟩ | ⟨x, rfl, hl, hm, hz, hc, hw⟩
  · exact ⟨[], rfl, ⟨none, 0, rfl, .inl rfl, Nat.le_refl _, Nat.zero_le _⟩, fun n hn => by cases hn⟩
  · refine ⟨zs.take len, by simp; omega, ⟨some x, cap, by congr 1; simp; omega, ?_, by simp; omega, hm⟩, fun n hn => hw n (List.mem_of_mem_take hn)⟩
    by_cases h0 : len = 0
    · exact .inl (by simp [h0])
    · obtain ⟨b, off, spot⟩ := x
      have hc0 := hc 0 (by omega)
      have hspot : spot = none := by simpa [Addr.add] using World.cell?_spot hc0
      subst hspot
      refine .inr ⟨b, off, rfl, fun j hj => ?_⟩
      have hj' : j < len := by simp at hj; omega
      have := hc j (by omega)
      rw [Addr.add_lit] at this
      rw [this]
      simp [List.getD, List.getElem?_take, hj']

/-- What a function that hands back an integer and a bool, and writes nothing, leaves. -/
def GivesIB (w : World) (r : Int × Bool) (e : Ending) (w' : World) : Prop := e = .returned (.tuple #[.int .i64 r.1, .bool r.2]) ∧ Below w.heap.size w w'
def GivesB (w : World) (r : Bool) (e : Ending) (w' : World) : Prop := e = .returned (.bool r) ∧ Below w.heap.size w w'
def GivesI (w : World) (r : Int) (e : Ending) (w' : World) : Prop := e = .returned (.int .i64 r) ∧ Below w.heap.size w w'

/-- What a function that hands back a list and a bool, in new memory, leaves. -/
def FreshLB (w : World) (r : List Int × Bool) (e : Ending) (w' : World) : Prop :=
  ∃ v, e = .returned (.tuple #[v, .bool r.2]) ∧ Own w' w.heap.size v r.1 ∧ Below w.heap.size w w'

/-- What a function that hands back a list in new memory leaves. -/
def FreshL (w : World) (r : List Int) (e : Ending) (w' : World) : Prop :=
  ∃ v, e = .returned v ∧ Own w' w.heap.size v r ∧ Below w.heap.size w w'

/-- Nothing in memory has turned. -/
def Same (w w' : World) : Prop := ∀ B, Below B w w'
theorem Same.refl (w : World) : Same w w := fun _ => Below.refl _ _
theorem Same.trans {a b c : World} (h : Same a b) (k : Same b c) : Same a c := fun B => (h B).trans (k B)
theorem Same.drewN {a w : World} (h : Same a w) (n : Nat) : Same a (w.drewN n) := fun B => below_drewN (h B) n
theorem rd_same {w w' : World} {ao : Option Addr} {xs : List Int} (h : Rd w ao xs) (hb : Same w w') : Rd w' ao xs := rd_below h (hb _)

/-- The numbers k, k + 1, .. -/
def iota (k : Int) (n : Nat) : List Int := (List.range n).map (fun (j : Nat) => k + (j : Int))

theorem iota_length (k : Int) (n : Nat) : (iota k n).length = n := by simp [iota]
theorem iota_getD (k : Int) (n j : Nat) (h : j < n) : (iota k n).getD j 0 = k + j := by simp [iota, List.getD, h]

theorem drop_cons (xs : List Int) (k : Nat) (h : k < xs.length) : xs.drop k = xs.getD k 0 :: xs.drop (k + 1) := by
  rw [List.drop_eq_getElem_cons h]
  simp [List.getD, h]

theorem take_succ_eq {xs ys : List Int} {k : Nat} (h : xs.take k = ys.take k) (hx : k < xs.length) (hy : k < ys.length) (e : xs.getD k 0 = ys.getD k 0) : xs.take (k + 1) = ys.take (k + 1) := by
  rw [List.take_succ_eq_append_getElem hx, List.take_succ_eq_append_getElem hy, h]
  simp [List.getD, hx, hy] at e
  rw [e]

theorem getD_of_eq {xs ys : List Int} (h : xs = ys) (k : Nat) : xs.getD k 0 = ys.getD k 0 := by rw [h]

theorem ret_bool {a b : Bool} (h : a = b) : Ending.returned (.bool a) = .returned (.bool b) := by rw [h]
theorem ret_int {k : IntKind} {a b : Int} (h : a = b) : Ending.returned (.int k a) = .returned (.int k b) := by rw [h]

end Go.Proofs.Ytieldehghmikkaa
