/-
  The reader of drawn bytes in one word; the contracts of pick and l91Part in it; spec.l91Thing, DrawPartDrop, DrawPartPut, DrawPartTogether, DrawPartKernel.
-/
import Derived.Test.YtabgadmdjpohaaaDrawTwo
import Derived.Test.YtabgadmdjpohaaaHeldMat
namespace Go.Proofs.Ytabgadmdjpohaaa
set_option linter.unusedSimpArgs false
set_option linter.unusedVariables false
set_option linter.unnecessarySimpa false
open Go.RowKit
set_option maxRecDepth 100000

/-- In w a reader of bytes that lay in w0 stands at its place p; only its block has turned since. -/
structure Rds (w0 w : World) (g : Nat) (a : Option Addr) (m cap p : Nat) : Prop where
  rdr : Rdr w g (.slice a m cap) p
  byt : Bytes w0 a m
  hm : m ≤ 2000
  hg : g = w0.heap.size
  grown : w0.grownBy w (some g)

theorem Rds.ne {w0 w : World} {g m cap p : Nat} {a : Option Addr} (h : Rds w0 w g a m cap p) : 0 < m → ∀ x, a = some x → x.block ≠ g := by
  rw [h.hg]; exact hne_of_bytes h.byt

theorem Rds.bytes {w0 w : World} {g m cap p : Nat} {a : Option Addr} (h : Rds w0 w g a m cap p) : Bytes w a m := bytes_grown h.byt h.grown h.ne

theorem Rds.below {w0 w : World} {g m cap p : Nat} {a : Option Addr} (h : Rds w0 w g a m cap p) : Below w0.heap.size w0 w := below_of_grown h.grown (Nat.le_of_eq h.hg.symm)

theorem Rds.lt {w0 w : World} {g m cap p : Nat} {a : Option Addr} (h : Rds w0 w g a m cap p) : g < w.heap.size := (rdr_facts h.rdr).1

/-- What lies in memory that was made later than the reader stays when the reader goes on. -/
theorem Rds.keep {w w' : World} {B g : Nat} {v : Value} {xs : List Int} (ho : Own w B v xs) (hB : g < B) (hg : w.grownBy w' (some g)) : Own w' B v xs :=
  own_grown ho hg (apart_of_ge ho hB)

/-- New memory, and a write into memory that is later than the reader. -/
theorem Rds.step {w0 w w' : World} {g m cap p : Nat} {a : Option Addr} (h : Rds w0 w g a m cap p) (hb : Below w.heap.size w w') : Rds w0 w' g a m cap p :=
  ⟨rdr_below h.rdr hb, h.byt, h.hm, h.hg, grown_below h.grown hb⟩

def Opened (w : World) (a : Option Addr) (e : Ending) (w' : World) : Prop := ∃ g m cap, e = .returned (.pointer (some ⟨g, 0, none⟩)) ∧ Rds w w' g a m cap 0

theorem open_r (a : Option Addr) (len cap : Nat) (w : World) (hby : Bytes w a len) (hlen : len ≤ 1048576) (hc : len ≤ cap) (hcm : cap ≤ maxLen) :
    Calls Try.prog 54 #[.slice a len cap] w (Opened w a) :=
  (l6Open_any a len cap w hby hlen hc hcm).mono fun e w1 ⟨he, m, hm, hbm, hr1, hb1, hs1⟩ =>
    ⟨w.heap.size, m, cap, he, ⟨hr1, hbm, hm, rfl, ⟨hb1.os, hb1.tape, hb1.output, hb1.size, fun k hk _ => hb1.block k hk⟩⟩⟩

/-- A number from 0 on and below n; the reader has gone on. -/
def PickedR (w0 w : World) (g : Nat) (a : Option Addr) (m cap p : Nat) (n : Int) (e : Ending) (w' : World) : Prop :=
  ∃ t : Nat, e = .returned (.int .i64 t) ∧ (t : Int) < n ∧ Rds w0 w' g a m cap (p + 1) ∧ w.grownBy w' (some g)

theorem pick_r {w0 w : World} {g m cap p : Nat} {a : Option Addr} (h : Rds w0 w g a m cap p) (n : Int) (h1 : 1 ≤ n) (h2 : n ≤ 1000) (hp : p ≤ 1000000) :
    Calls Try.prog 55 #[.pointer (some ⟨g, 0, none⟩), .int .i64 n] w (PickedR w0 w g a m cap p n) :=
  (pick_z g a m cap p n w h.rdr h.bytes h.ne h.hm hp h1 h2).mono fun e w1 ⟨t, he, ht, hr1, hg1, hz1⟩ =>
    ⟨t, he, by omega, ⟨hr1, h.byt, h.hm, h.hg, grown_trans h.grown hg1⟩, hg1⟩

/-- A drawn list in new memory; the reader has gone on. -/
def DrawnR (w0 w : World) (g : Nat) (a : Option Addr) (m cap p : Nat) (e : Ending) (w' : World) : Prop :=
  ∃ v xs q, e = .returned v ∧ Own w' w.heap.size v xs ∧ (1 ≤ xs.length ∧ xs.length ≤ 9) ∧ (∀ x ∈ xs, 0 ≤ x ∧ x ≤ 9) ∧ q ≤ p + 40 ∧ Rds w0 w' g a m cap q ∧ w.grownBy w' (some g)

theorem part_r {w0 w : World} {g m cap p : Nat} {a : Option Addr} (h : Rds w0 w g a m cap p) (n : Int) (h1 : 1 ≤ n) (h2 : n ≤ 8) (hp : p ≤ 1000) :
    Calls Try.prog 70 #[.pointer (some ⟨g, 0, none⟩), .int .i64 n] w (DrawnR w0 w g a m cap p) :=
  (l91Part_z g a m cap p n w h.rdr h.bytes h.ne h.hm hp h1 h2).mono fun e w1 ⟨v, xs, q, he, ho, hl, hx, hr1, hq, hg1⟩ =>
    ⟨v, xs, q, he, ho, hl, hx, hq, ⟨hr1, h.byt, h.hm, h.hg, grown_trans h.grown hg1⟩, hg1⟩

/-- A drawn list and a small number. -/
def ThingDrawn (w : World) (e : Ending) (w' : World) : Prop :=
  ∃ v xs i, e = .returned (.tuple #[v, .int .i64 i]) ∧ Own w' w.heap.size v xs ∧ (1 ≤ xs.length ∧ xs.length ≤ 9) ∧ -1 ≤ i ∧ i ≤ 20 ∧ Below w.heap.size w w'

set_option maxHeartbeats 1600000 in
theorem l91Thing_any (a : Option Addr) (len cap : Nat) (w : World) (hby : Bytes w a len) (hlen : len ≤ 1048576) (hc : len ≤ cap) (hcm : cap ≤ maxLen) :
    Calls Try.prog 75 #[.slice a len cap] w (ThingDrawn w) := by
  go_enter Try.func75, Try.ntmps75
  go_wp2_with fail
  refine (open_r a len cap w hby hlen hc hcm).mono ?_
  rintro e w1 ⟨g, m, cp, rfl, r1⟩
  go_wp2_with fail
  refine (pick_r r1 _ (by omega) (by omega) (by omega)).mono ?_
  rintro e w2 ⟨t, rfl, ht, r2, hg2⟩
  clear hg2
  go_wp2_with fail
  refine (part_r r2 _ (by omega) (by omega) (by omega)).mono ?_
  rintro e w3 ⟨va, xs, q, rfl, oa, hl, hx, hq, r3, hg3⟩
  obtain ⟨ao, ca, rfl⟩ := own_slice' oa
  have hlt := r2.lt
  have oa := own_mono oa (Nat.le_refl _)
  clear hg3 hx
  have OA := Lib.hid oa
  clear oa
  obtain ⟨n, hn⟩ : ∃ n, n = xs.length := ⟨_, rfl⟩
  rw [← hn] at hl OA ⊢
  have HN := Lib.hid hn
  clear hn
  go_wp2_with fail
  refine (pick_r r3 _ (by omega) (by omega) (by omega)).mono ?_
  rintro e w4 ⟨t2, rfl, ht2, r4, hg4⟩
  have ht24 : t2 < 24 := by omega
  have OA4 := Lib.hid (Rds.keep OA.out hlt hg4)
  have hd0 : 0 ≤ (t2 : Int) / 23 := by omega
  have hd1 : (t2 : Int) / 23 ≤ 1 := by omega
  obtain ⟨d, hdd⟩ : ∃ d, d = (t2 : Int) / 23 := ⟨_, rfl⟩
  have HDD := Lib.hid hdd
  rw [← hdd] at hd0 hd1
  clear hdd hg4
  have hn0 : (0 : Int) ≤ (n : Int) := by omega
  go_wp2_with fail
  rw [← HDD.out]
  refine (pick_r r4 _ (by omega) (by omega) (by omega)).mono ?_
  rintro e w5 ⟨t3, rfl, ht3, r5, hg5⟩
  have OA5 := Lib.hid (Rds.keep OA4.out hlt hg5)
  clear hg5
  go_wp2_with fail
  refine (pick_r r5 _ (by omega) (by omega) (by omega)).mono ?_
  rintro e w6 ⟨t4, rfl, ht4, r6, hg6⟩
  have ht44 : t4 < 24 := by omega
  have ht3n : (t3 : Int) ≤ 20 := by omega
  have OA6 := Lib.hid (Rds.keep OA5.out hlt hg6)
  clear hg6
  have hb := r6.below
  have hs := r2.below.size
  go_wp2
  go_ret2
  exact ⟨_, xs, _, rfl, by have := OA6.out; exact own_mono this hs, by have := HN.out; omega, by omega, by omega, hb⟩

set_option maxHeartbeats 800000 in
theorem l1Size9_any (ao : Option Addr) (ca : Nat) (xs : List Int) (w : World) (hx : Rd w ao xs) (hl : xs.length ≤ 9223372036854775807) (hs : ∀ j, j < xs.length → 0 ≤ xs.getD j 0 ∧ xs.getD j 0 ≤ 9) :
    Calls Try.prog 66 #[.slice ao xs.length ca] w fun e w' => e = .returned (.int .i64 (pSize xs)) ∧ w = w' := by
  obtain ⟨n, hn⟩ : ∃ n, n = xs.length := ⟨_, rfl⟩
  rw [← hn]
  rw [← hn] at hl
  have HN := Lib.hid hn
  clear hn
  have HX := Lib.hid hx
  clear hx
  have HS := Lib.hid hs
  clear hs
  go_enter Try.func66, Try.ntmps66
  go_wp2
  go_loop [3, 4] (fun u i => ∃ (k : Nat) (b : Int), k ≤ n ∧ i = .int .i64 k ∧ u = .int .i64 b ∧ 0 ≤ b ∧ b ≤ 10 ∧ pSize xs = sizeFrom b (xs.drop k)) (fun _ i => n - (intOf i).toNat)
  case atStart => exact ⟨0, 0, Nat.zero_le _, rfl, rfl, by omega, by omega, rfl⟩
  case round =>
    obtain ⟨k, b, hk, rfl, rfl, hb0, hb10, hok⟩ := hrel
    have HOK := Lib.hid hok
    clear hok
    by_cases hlt : k < n
    · rcases HX.out with hx | ⟨bb, off, rfl, hcx⟩
      · have := HN.out
        rw [hx] at this
        simp at this
        omega
      · have hc1 := hcx k (by have := HN.out; omega)
        clear hcx
        have hdr := drop_cons xs k (by have := HN.out; omega)
        obtain ⟨hx0, hx9⟩ := HS.out k (by have := HN.out; omega)
        obtain ⟨x, hx⟩ : ∃ x, x = xs.getD k 0 := ⟨_, rfl⟩
        rw [← hx] at hc1 hdr hx0 hx9
        have hok := HOK.out
        rw [hdr, sizeFrom] at hok
        have HOK2 := Lib.hid hok
        clear hok HOK hdr hx
        by_cases hm : x + 1 ≤ b
        · go_wp2
          go_round
          case rel => exact ⟨k + 1, b, by omega, by go_num, by first | rfl | (congr 1; omega), by omega, by omega, by rw [HOK2.out, Int.max_eq_left hm]⟩
          case measure => simp [intOf]; omega
        · go_wp2
          go_round
          case rel => exact ⟨k + 1, x + 1, by omega, by go_num, by first | rfl | (congr 1; omega), by omega, by omega, by rw [HOK2.out, Int.max_eq_right (by omega)]⟩
          case measure => simp [intOf]; omega
    · have hkn : k = n := by omega
      subst hkn
      go_wp2
      go_ret
      exact ⟨ret_int (by rw [HOK.out, HN.out, List.drop_length]; rfl), rfl⟩

theorem sizeFrom_bd9 : ∀ (xs : List Int) (n : Int), (∀ x ∈ xs, 0 ≤ x ∧ x ≤ 9) → 0 ≤ n → n ≤ 10 → n ≤ sizeFrom n xs ∧ sizeFrom n xs ≤ 10 := by
  intro xs
  induction xs with
  | nil => intro n _ h0 h8; simp only [sizeFrom]; omega
  | cons x xs ih =>
    intro n hs h0 h8
    have hx := hs x (by simp)
    have := ih (max n (x + 1)) (fun y hy => hs y (by simp [hy])) (by omega) (by omega)
    simp only [sizeFrom]
    omega

theorem l1Size9_v (v : Value) (xs : List Int) (w : World) (hv : RdV w v xs) (hs : ∀ x ∈ xs, 0 ≤ x ∧ x ≤ 9) : Calls Try.prog 66 #[v] w fun e w' => e = .returned (.int .i64 (pSize xs)) ∧ w = w' := by
  obtain ⟨ao, ca, rfl, h, h1, h2⟩ := hv
  unfold maxLen at h2
  exact l1Size9_any ao ca xs w h (by omega) fun j hj => hs _ (mem_of_getD hj rfl)

theorem drawPartDrop_any (a : Option Addr) (len cap : Nat) (w : World) (hby : Bytes w a len) (hlen : len ≤ 1048576) (hc : len ≤ cap) (hcm : cap ≤ maxLen) :
    Calls Try.prog 31 #[.slice a len cap] w (ThingDrawn w) := by
  go_enter Try.func31, Try.ntmps31
  go_wp2_with fail
  refine (l91Thing_any a len cap w hby hlen hc hcm).mono ?_
  rintro e w1 ⟨v, xs, i, rfl, h⟩
  go_wp2
  go_ret2
  exact ⟨v, xs, i, rfl, h⟩

set_option maxHeartbeats 1600000 in
theorem drawPartPut_any (a : Option Addr) (len cap : Nat) (w : World) (hby : Bytes w a len) (hlen : len ≤ 1048576) (hc : len ≤ cap) (hcm : cap ≤ maxLen) :
    Calls Try.prog 34 #[.slice a len cap] w (ThingDrawn w) := by
  go_enter Try.func34, Try.ntmps34
  go_wp2_with fail
  refine (open_r a len cap w hby hlen hc hcm).mono ?_
  rintro e w1 ⟨g, m, cp, rfl, r1⟩
  go_wp2_with fail
  refine (pick_r r1 _ (by omega) (by omega) (by omega)).mono ?_
  rintro e w2 ⟨t, rfl, ht, r2, hg2⟩
  clear hg2
  go_wp2_with fail
  refine (part_r r2 _ (by omega) (by omega) (by omega)).mono ?_
  rintro e w3 ⟨va, xs, q, rfl, oa, hl, hx, hq, r3, hg3⟩
  have hlt := r2.lt
  clear hg3
  have OA := Lib.hid oa
  have HX := Lib.hid hx
  have hsb := sizeFrom_bd9 xs 0 hx (by omega) (by omega)
  obtain ⟨s, hs⟩ : ∃ s, s = pSize xs := ⟨_, rfl⟩
  have hs0 : 0 ≤ s ∧ s ≤ 10 := by rw [hs]; exact hsb
  have HS := Lib.hid hs
  clear oa hx hs hsb
  go_wp2_with fail
  refine (l1Size9_v _ xs _ (own_rdv OA.out) HX.out).mono ?_
  rintro e w' ⟨rfl, rfl⟩
  rw [← HS.out]
  go_wp2_with fail
  refine (pick_r r3 _ (by omega) (by omega) (by omega)).mono ?_
  rintro e w4 ⟨t2, rfl, ht2, r4, hg4⟩
  have ht24 : t2 < 24 := by omega
  have OA4 := Lib.hid (Rds.keep OA.out hlt hg4)
  have hd0 : 0 ≤ (t2 : Int) / 23 := by omega
  have hd1 : (t2 : Int) / 23 ≤ 1 := by omega
  obtain ⟨d, hdd⟩ : ∃ d, d = (t2 : Int) / 23 := ⟨_, rfl⟩
  have HDD := Lib.hid hdd
  rw [← hdd] at hd0 hd1
  clear hdd hg4
  go_wp2_with fail
  rw [← HDD.out]
  refine (pick_r r4 _ (by omega) (by omega) (by omega)).mono ?_
  rintro e w5 ⟨t3, rfl, ht3, r5, hg5⟩
  have OA5 := Lib.hid (Rds.keep OA4.out hlt hg5)
  clear hg5
  go_wp2_with fail
  refine (pick_r r5 _ (by omega) (by omega) (by omega)).mono ?_
  rintro e w6 ⟨t4, rfl, ht4, r6, hg6⟩
  have ht44 : t4 < 24 := by omega
  have ht3n : (t3 : Int) ≤ 20 := by omega
  have OA6 := Lib.hid (Rds.keep OA5.out hlt hg6)
  clear hg6
  have hb := r6.below
  have hs := r2.below.size
  go_wp2
  go_ret2
  exact ⟨_, xs, _, rfl, by have := OA6.out; exact own_mono this hs, by omega, by omega, by omega, hb⟩

/-- A drawn list and two small numbers. -/
def PairDrawn (w : World) (e : Ending) (w' : World) : Prop :=
  ∃ v xs i k, e = .returned (.tuple #[v, .int .i64 i, .int .i64 k]) ∧ Own w' w.heap.size v xs ∧ (1 ≤ xs.length ∧ xs.length ≤ 9) ∧ (-1 ≤ i ∧ i ≤ 20) ∧ (0 ≤ k ∧ k ≤ 20) ∧ Below w.heap.size w w'

theorem rds_set {w0 w : World} {g m cap p : Nat} {a : Option Addr} (h : Rds w0 w g a m cap p) (q : Nat) : Rds w0 (w.setCell ⟨g, 1, none⟩ (.int .i64 (q : Int))) g a m cap q ∧ w.grownBy (w.setCell ⟨g, 1, none⟩ (.int .i64 (q : Int))) (some g) := by
  have hgr : w.grownBy (w.setCell ⟨g, 1, none⟩ (.int .i64 (q : Int))) (some g) :=
    ⟨rfl, rfl, rfl, by simp [World.setCell], fun k _ hk => by
      show (w.heap.modify g _)[k]? = _
      rw [Array.getElem?_modify, if_neg (fun e => hk (by rw [e]))]⟩
  exact ⟨⟨heap_setCell2 (.int .i64 (q : Int)) h.rdr, h.byt, h.hm, h.hg, grown_trans h.grown hgr⟩, hgr⟩

set_option maxHeartbeats 1600000 in
theorem drawPartTogether_any (a : Option Addr) (len cap : Nat) (w : World) (hby : Bytes w a len) (hlen : len ≤ 1048576) (hc : len ≤ cap) (hcm : cap ≤ maxLen) :
    Calls Try.prog 37 #[.slice a len cap] w (PairDrawn w) := by
  go_enter Try.func37, Try.ntmps37
  go_wp2_with fail
  refine (l91Thing_any a len cap w hby hlen hc hcm).mono ?_
  rintro e w1 ⟨va, xs, i, rfl, oa, hl, hi0, hi1, hb1⟩
  obtain ⟨ao, ca, rfl⟩ := own_slice' oa
  have OA := Lib.hid oa
  obtain ⟨n, hn⟩ : ∃ n, n = xs.length := ⟨_, rfl⟩
  rw [← hn] at hl OA ⊢
  have HN := Lib.hid hn
  have HB1 := Lib.hid (bytes_below hby hb1)
  have hs1 := hb1.size
  clear hn oa
  go_wp2_with fail
  refine (open_r a len cap w1 HB1.out hlen hc hcm).mono ?_
  rintro e w2 ⟨g, m, cp, rfl, r2⟩
  obtain ⟨hf1, hf2, hf3, hf4⟩ := rdr_facts r2.rdr
  obtain ⟨r3, hg3⟩ := rds_set r2 61
  have OA2 := Lib.hid (own_below OA.out r2.below)
  have hgw := r2.hg
  have OA3 : Hid (Own (w2.setCell ⟨g, 1, none⟩ (.int .i64 ((61 : Nat) : Int))) w.heap.size (.slice ao n ca) xs) := by
    refine Lib.hid (own_grown OA2.out hg3 ?_)
    cases ho : (Value.slice ao n ca).ownBlock with
    | none => exact .inl rfl
    | some z => exact .inr fun e => by have := (own_lt OA.out z ho).2; cases e; omega
  have HGW := Lib.hid hgw
  have R3 := Lib.hid r3
  have hx61 : ((61 : Nat) : Int) = 61 := rfl
  rw [hx61] at R3 OA3
  obtain ⟨w3, hw3⟩ : ∃ w3, w3 = w2.setCell ⟨g, 1, none⟩ (.int .i64 61) := ⟨_, rfl⟩
  have HW3 := Lib.hid hw3
  clear r3 hg3 hgw hw3 hx61
  go_wp2_with fail
  rw [← HW3.out]
  rw [← HW3.out] at R3 OA3
  refine (pick_r R3.out _ (by omega) (by omega) (by omega)).mono ?_
  rintro e w4 ⟨t2, rfl, ht2, r4, hg4⟩
  have OA4 : Hid (Own w4 w.heap.size (.slice ao n ca) xs) := by
    refine Lib.hid (own_grown OA3.out hg4 ?_)
    cases ho : (Value.slice ao n ca).ownBlock with
    | none => exact .inl rfl
    | some z => exact .inr fun e => by have := (own_lt OA.out z ho).2; have := HGW.out; cases e; omega
  have hb4 := below_step hb1 r4.below
  clear hg4
  go_wp2
  go_ret3
  exact ⟨_, xs, _, _, rfl, OA4.out, by have := HN.out; omega, by omega, by omega, hb4⟩

/-- A write by append into memory that the call made, other than the reader. -/
theorem Rds.push {w0 wq w' : World} {g g' m cap p : Nat} {a : Option Addr} {o : Obj} (h : Rds w0 wq g a m cap p) (hgr : (wq.alloc o).grownBy w' (some g')) (hne : g' ≠ g) (hge : w0.heap.size ≤ g') : Rds w0 w' g a m cap p :=
  ⟨rdr_grown (rdr_below h.rdr ((Below.refl _ _).alloc (Nat.le_refl _) _)) hgr (fun e => by cases e; exact hne rfl), h.byt, h.hm, h.hg, grown_own (grown_below h.grown ((Below.refl _ _).alloc (Nat.le_refl _) _)) hgr hge⟩

/-- A drawn list. -/
def ListDrawn (w : World) (e : Ending) (w' : World) : Prop := ∃ v xs, e = .returned v ∧ Own w' w.heap.size v xs ∧ (1 ≤ xs.length ∧ xs.length ≤ 9) ∧ Below w.heap.size w w'

set_option maxHeartbeats 1600000 in
theorem drawPartKernel_any (a : Option Addr) (len cap : Nat) (w : World) (hby : Bytes w a len) (hlen : len ≤ 1048576) (hc : len ≤ cap) (hcm : cap ≤ maxLen) :
    Calls Try.prog 24 #[.slice a len cap] w (ListDrawn w) := by
  go_enter Try.func24, Try.ntmps24
  go_wp2_with fail
  refine (open_r a len cap w hby hlen hc hcm).mono ?_
  rintro e w1 ⟨g, m, cp, rfl, r1⟩
  go_wp2_with fail
  refine (pick_r r1 _ (by omega) (by omega) (by omega)).mono ?_
  rintro e w2 ⟨t, rfl, ht, r2, hg2⟩
  clear hg2
  go_wp2_with fail
  refine (pick_r r2 _ (by omega) (by omega) (by omega)).mono ?_
  rintro e w3 ⟨t2, rfl, ht2, r3, hg3⟩
  clear hg3 r1 r2
  have ht24 : t2 < 24 := by omega
  obtain ⟨n, hn⟩ : ∃ n : Nat, (n : Int) = 1 + (t : Int) + (t2 : Int) / 23 := ⟨(1 + (t : Int) + (t2 : Int) / 23).toNat, by omega⟩
  have hn1 : 1 ≤ n := by omega
  have hn9 : n ≤ 9 := by omega
  have HN := Lib.hid hn
  have R3 := Lib.hid r3
  have hs3 := r3.below.size
  have hlt3 := r3.lt
  have hgg := r3.hg
  have HGG := Lib.hid hgg
  have HO0 := Lib.hid (own_empty w3 w.heap.size hs3)
  have R3a := Lib.hid (Rds.step r3 ((Below.refl _ _).alloc (Nat.le_refl _) (.cells #[] 3)))
  clear hn hgg r3
  go_wp2_with fail
  rw [← HN.out]
  go_loopw [5, 6] (fun u i wr => ∃ (k g' cap' q : Nat) (xs : List Int), k ≤ n ∧ i = .int .i64 k ∧ u = .slice (some ⟨g', 0, none⟩) k cap' ∧ Own wr w.heap.size (.slice (some ⟨g', 0, none⟩) k cap') xs ∧ xs.length = k ∧ g' ≠ g ∧ q ≤ 10 + k ∧ Rds w wr g a m cp q) (fun _ i _ => n - (intOf i).toNat)
  case atStart => exact ⟨0, w3.heap.size, 0, 2, [], Nat.zero_le _, rfl, rfl, HO0.out, rfl, by omega, by omega, R3a.out⟩
  case round =>
    obtain ⟨k, g', cap', q, xs, hk, rfl, rfl, hown, hxl, hne, hq, hr⟩ := hrel
    have HO := Lib.hid hown
    have HXL := Lib.hid hxl
    have hge := (own_lt hown g' rfl).1
    have HR := Lib.hid hr
    have hs := hr.below.size
    clear hown hxl hr
    by_cases hlt : k < n
    · go_wp2_with fail
      refine (pick_r HR.out _ (by omega) (by omega) (by omega)).mono ?_
      rintro e w4 ⟨t3, rfl, ht3, r4, hg4⟩
      have HO4 := Lib.hid (own_grown HO.out hg4 (.inr (by simp [Value.ownBlock]; omega)))
      have R4 := Lib.hid r4
      have hs4 := r4.below.size
      have hlt4 := r4.lt
      clear hg4 r4
      go_wp2_with (at_builtin; refine wpList_push rfl _ _ rfl w.heap.size g' k cap' xs rfl (own_alloc HO4.out _) HXL.out.symm ⟨w4.heap.size, 0, none⟩ rfl ((t3 : Int) - 2) (cell_new1 _ _ _) (by omega) (by simp; omega) ?_)
      intro g2 cap2 w5 hown5 hgr5 hg5
      have R5 := Lib.hid (Rds.push R4.out hgr5 hne hge)
      have HO5 := Lib.hid hown5
      have hne2 : g2 ≠ g := by first | omega | (simp at hg5; omega)
      clear hown5 hgr5 hg5
      go_wp2
      go_roundw
      case rel => exact ⟨k + 1, g2, cap2, q + 1, xs ++ [(t3 : Int) - 2], by omega, by go_num, rfl, HO5.out, by simp [HXL.out], hne2, by omega, R5.out⟩
      case measure => simp [intOf]; omega
    · have hkn : k = n := by omega
      have HKN := Lib.hid hkn
      have hb := HR.out.below
      clear hkn
      go_wp2
      go_ret
      exact ⟨_, xs, rfl, HO.out, by have := HXL.out; have := HKN.out; omega, hb⟩

end Go.Proofs.Ytabgadmdjpohaaa
