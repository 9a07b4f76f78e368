/-
  The reader of drawn bytes in one word; the contracts of pick and l91Part in it; spec.l91Thing, DrawPartDrop, DrawPartPut, DrawPartTogether, DrawPartKernel.
-/
import Derived.Test.YtdeeeiimlcggpaaDrawTwo
import Derived.Test.YtdeeeiimlcggpaaHeldMat
namespace Go.Proofs.Ytdeeeiimlcggpaa
set_option linter.unusedSimpArgs false
set_option linter.unusedVariables false
set_option linter.unnecessarySimpa false
open Go.RowKit
set_option maxRecDepth 100000

/-- In w a reader of bytes that lay in w0 stands at its place p; only its block has turned since. -/
structure Rds (w0 w : World) (g : Nat) (a : Option Addr) (m cap p : Nat) : Prop where
  rdr : Rdr w g (.slice a m cap) p
  byt : Bytes w0 a m
  hm : m ≤ 2000
  hg : g = w0.heap.size
  grown : w0.grownBy w (some g)

theorem Rds.ne {w0 w : World} {g m cap p : Nat} {a : Option Addr} (h : Rds w0 w g a m cap p) : 0 < m → ∀ x, a = some x → x.block ≠ g := by
  rw [h.hg]; exact hne_of_bytes h.byt

theorem Rds.bytes {w0 w : World} {g m cap p : Nat} {a : Option Addr} (h : Rds w0 w g a m cap p) : Bytes w a m := bytes_grown h.byt h.grown h.ne

theorem Rds.below {w0 w : World} {g m cap p : Nat} {a : Option Addr} (h : Rds w0 w g a m cap p) : Below w0.heap.size w0 w := below_of_grown h.grown (Nat.le_of_eq h.hg.symm)

theorem Rds.lt {w0 w : World} {g m cap p : Nat} {a : Option Addr} (h : Rds w0 w g a m cap p) : g < w.heap.size := (rdr_facts h.rdr).1

/-- What lies in memory that was made later than the reader stays when the reader goes on. -/
theorem Rds.keep {w w' : World} {B g : Nat} {v : Value} {xs : List Int} (ho : Own w B v xs) (hB : g < B) (hg : w.grownBy w' (some g)) : Own w' B v xs :=
  own_grown ho hg (apart_of_ge ho hB)

/-- New memory, and a write into memory that is later than the reader. -/
theorem Rds.step {w0 w w' : World} {g m cap p : Nat} {a : Option Addr} (h : Rds w0 w g a m cap p) (hb : Below w.heap.size w w') : Rds w0 w' g a m cap p :=
  ⟨rdr_below h.rdr hb, h.byt, h.hm, h.hg, grown_below h.grown hb⟩

def Opened (w : World) (a : Option Addr) (e : Ending) (w' : World) : Prop := ∃ g m cap, e = .returned (.pointer (some ⟨g, 0, none⟩)) ∧ Rds w w' g a m cap 0

theorem open_r (a : Option Addr) (len cap : Nat) (w : World) (hby : Bytes w a len) (hlen : len ≤ 1048576) (hc : len ≤ cap) (hcm : cap ≤ maxLen) :
    Calls Try.prog 24 #[.slice a len cap] w (Opened w a) :=
  (l6Open_any a len cap w hby hlen hc hcm).mono fun e w1 ⟨he, m, hm, hbm, hr1, hb1, hs1⟩ =>
    ⟨w.heap.size, m, cap, he, ⟨hr1, hbm, hm, rfl, ⟨hb1.os, hb1.tape, hb1.output, hb1.size, fun k hk _ => hb1.block k hk⟩⟩⟩

/-- A number from 0 on and below n; the reader has gone on. -/
def PickedR (w0 w : World) (g : Nat) (a : Option Addr) (m cap p : Nat) (n : Int) (e : Ending) (w' : World) : Prop :=
  ∃ t : Nat, e = .returned (.int .i64 t) ∧ (t : Int) < n ∧ Rds w0 w' g a m cap (p + 1) ∧ w.grownBy w' (some g)

theorem pick_r {w0 w : World} {g m cap p : Nat} {a : Option Addr} (h : Rds w0 w g a m cap p) (n : Int) (h1 : 1 ≤ n) (h2 : n ≤ 100000) (hp : p ≤ 1000000) :
    Calls Try.prog 26 #[.pointer (some ⟨g, 0, none⟩), .int .i64 n] w (PickedR w0 w g a m cap p n) :=
  (pick_z g a m cap p n w h.rdr h.bytes h.ne h.hm hp h1 h2).mono fun e w1 ⟨t, he, ht, hr1, hg1, hz1⟩ =>
    ⟨t, he, by omega, ⟨hr1, h.byt, h.hm, h.hg, grown_trans h.grown hg1⟩, hg1⟩

/-- A drawn list in new memory; the reader has gone on. -/
def DrawnR (w0 w : World) (g : Nat) (a : Option Addr) (m cap p : Nat) (e : Ending) (w' : World) : Prop :=
  ∃ v xs q, e = .returned v ∧ Own w' w.heap.size v xs ∧ (1 ≤ xs.length ∧ xs.length ≤ 9) ∧ (∀ x ∈ xs, 0 ≤ x ∧ x ≤ 9) ∧ q ≤ p + 40 ∧ Rds w0 w' g a m cap q ∧ w.grownBy w' (some g)

theorem part_r {w0 w : World} {g m cap p : Nat} {a : Option Addr} (h : Rds w0 w g a m cap p) (n : Int) (h1 : 1 ≤ n) (h2 : n ≤ 8) (hp : p ≤ 1000) :
    Calls Try.prog 25 #[.pointer (some ⟨g, 0, none⟩), .int .i64 n] w (DrawnR w0 w g a m cap p) :=
  (l91Part_z g a m cap p n w h.rdr h.bytes h.ne h.hm hp h1 h2).mono fun e w1 ⟨v, xs, q, he, ho, hl, hx, hr1, hq, hg1⟩ =>
    ⟨v, xs, q, he, ho, hl, hx, hq, ⟨hr1, h.byt, h.hm, h.hg, grown_trans h.grown hg1⟩, hg1⟩

/-- A drawn list and a small number. -/
def ThingDrawn (w : World) (e : Ending) (w' : World) : Prop :=
  ∃ v xs i, e = .returned (.tuple #[v, .int .i64 i]) ∧ Own w' w.heap.size v xs ∧ (1 ≤ xs.length ∧ xs.length ≤ 9) ∧ -1 ≤ i ∧ i ≤ 20 ∧ Below w.heap.size w w'

set_option maxHeartbeats 800000 in
theorem l1Size9_any (ao : Option Addr) (ca : Nat) (xs : List Int) (w : World) (hx : Rd w ao xs) (hl : xs.length ≤ 9223372036854775807) (hs : ∀ j, j < xs.length → 0 ≤ xs.getD j 0 ∧ xs.getD j 0 ≤ 9) :
    Calls Try.prog 42 #[.slice ao xs.length ca] w fun e w' => e = .returned (.int .i64 (pSize xs)) ∧ w = w' := by
  obtain ⟨n, hn⟩ : ∃ n, n = xs.length := ⟨_, rfl⟩
  rw [← hn]
  rw [← hn] at hl
  have HN := Lib.hid hn
  clear hn
  have HX := Lib.hid hx
  clear hx
  have HS := Lib.hid hs
  clear hs
  go_enter Try.func42, Try.ntmps42
  go_wp2
  go_loop [3, 4] (fun u i => ∃ (k : Nat) (b : Int), k ≤ n ∧ i = .int .i64 k ∧ u = .int .i64 b ∧ 0 ≤ b ∧ b ≤ 10 ∧ pSize xs = sizeFrom b (xs.drop k)) (fun _ i => n - (intOf i).toNat)
  case atStart => exact ⟨0, 0, Nat.zero_le _, rfl, rfl, by omega, by omega, rfl⟩
  case round =>
    obtain ⟨k, b, hk, rfl, rfl, hb0, hb10, hok⟩ := hrel
    have HOK := Lib.hid hok
    clear hok
    by_cases hlt : k < n
    · rcases HX.out with hx | ⟨bb, off, rfl, hcx⟩
      · have := HN.out
        rw [hx] at this
        simp at this
        omega
      · have hc1 := hcx k (by have := HN.out; omega)
        clear hcx
        have hdr := drop_cons xs k (by have := HN.out; omega)
        obtain ⟨hx0, hx9⟩ := HS.out k (by have := HN.out; omega)
        obtain ⟨x, hx⟩ : ∃ x, x = xs.getD k 0 := ⟨_, rfl⟩
        rw [← hx] at hc1 hdr hx0 hx9
        have hok := HOK.out
        rw [hdr, sizeFrom] at hok
        have HOK2 := Lib.hid hok
        clear hok HOK hdr hx
        by_cases hm : x + 1 ≤ b
        · go_wp2
          go_round
          case rel => exact ⟨k + 1, b, by omega, by go_num, by first | rfl | (congr 1; omega), by omega, by omega, by rw [HOK2.out, Int.max_eq_left hm]⟩
          case measure => simp [intOf]; omega
        · go_wp2
          go_round
          case rel => exact ⟨k + 1, x + 1, by omega, by go_num, by first | rfl | (congr 1; omega), by omega, by omega, by rw [HOK2.out, Int.max_eq_right (by omega)]⟩
          case measure => simp [intOf]; omega
    · have hkn : k = n := by omega
      subst hkn
      go_wp2
      go_ret
      exact ⟨ret_int (by rw [HOK.out, HN.out, List.drop_length]; rfl), rfl⟩

theorem sizeFrom_bd9 : ∀ (xs : List Int) (n : Int), (∀ x ∈ xs, 0 ≤ x ∧ x ≤ 9) → 0 ≤ n → n ≤ 10 → n ≤ sizeFrom n xs ∧ sizeFrom n xs ≤ 10 := by
  intro xs
  induction xs with
  | nil => intro n _ h0 h8; simp only [sizeFrom]; omega
  | cons x xs ih =>
    intro n hs h0 h8
    have hx := hs x (by simp)
    have := ih (max n (x + 1)) (fun y hy => hs y (by simp [hy])) (by omega) (by omega)
    simp only [sizeFrom]
    omega

theorem l1Size9_v (v : Value) (xs : List Int) (w : World) (hv : RdV w v xs) (hs : ∀ x ∈ xs, 0 ≤ x ∧ x ≤ 9) : Calls Try.prog 42 #[v] w fun e w' => e = .returned (.int .i64 (pSize xs)) ∧ w = w' := by
  obtain ⟨ao, ca, rfl, h, h1, h2⟩ := hv
  unfold maxLen at h2
  exact l1Size9_any ao ca xs w h (by omega) fun j hj => hs _ (mem_of_getD hj rfl)

/-- A drawn list and two small numbers. -/
def PairDrawn (w : World) (e : Ending) (w' : World) : Prop :=
  ∃ v xs i k, e = .returned (.tuple #[v, .int .i64 i, .int .i64 k]) ∧ Own w' w.heap.size v xs ∧ (1 ≤ xs.length ∧ xs.length ≤ 9) ∧ (-1 ≤ i ∧ i ≤ 20) ∧ (0 ≤ k ∧ k ≤ 20) ∧ Below w.heap.size w w'

theorem rds_set {w0 w : World} {g m cap p : Nat} {a : Option Addr} (h : Rds w0 w g a m cap p) (q : Nat) : Rds w0 (w.setCell ⟨g, 1, none⟩ (.int .i64 (q : Int))) g a m cap q ∧ w.grownBy (w.setCell ⟨g, 1, none⟩ (.int .i64 (q : Int))) (some g) := by
  have hgr : w.grownBy (w.setCell ⟨g, 1, none⟩ (.int .i64 (q : Int))) (some g) :=
    ⟨rfl, rfl, rfl, by simp [World.setCell], fun k _ hk => by
      show (w.heap.modify g _)[k]? = _
      rw [Array.getElem?_modify, if_neg (fun e => hk (by rw [e]))]⟩
  exact ⟨⟨heap_setCell2 (.int .i64 (q : Int)) h.rdr, h.byt, h.hm, h.hg, grown_trans h.grown hgr⟩, hgr⟩

/-- A write by append into memory that the call made, other than the reader. -/
theorem Rds.push {w0 wq w' : World} {g g' m cap p : Nat} {a : Option Addr} {o : Obj} (h : Rds w0 wq g a m cap p) (hgr : (wq.alloc o).grownBy w' (some g')) (hne : g' ≠ g) (hge : w0.heap.size ≤ g') : Rds w0 w' g a m cap p :=
  ⟨rdr_grown (rdr_below h.rdr ((Below.refl _ _).alloc (Nat.le_refl _) _)) hgr (fun e => by cases e; exact hne rfl), h.byt, h.hm, h.hg, grown_own (grown_below h.grown ((Below.refl _ _).alloc (Nat.le_refl _) _)) hgr hge⟩

/-- A drawn list. -/
def ListDrawn (w : World) (e : Ending) (w' : World) : Prop := ∃ v xs, e = .returned v ∧ Own w' w.heap.size v xs ∧ (1 ≤ xs.length ∧ xs.length ≤ 9) ∧ Below w.heap.size w w'

end Go.Proofs.Ytdeeeiimlcggpaa
