/-
  The draws of chapter 4: DrawListAll, ListAt, ListNext, ListBefore, ListBlocks, ListOpen.
-/
import Derived.Test.YtjmmhonlkpmmoaaRds
import Derived.Test.YtjmmhonlkpmmoaaTriBell
namespace Go.Proofs.Ytjmmhonlkpmmoaa
set_option linter.unusedSimpArgs false
set_option linter.unusedVariables false
set_option linter.unnecessarySimpa false
open Go.RowKit
set_option maxRecDepth 100000

theorem belN_bd : ∀ n, n < 10 → 1 ≤ belN n ∧ belN n ≤ 21147 := by decide +kernel

set_option maxHeartbeats 1600000 in
theorem drawListAll_any (a : Option Addr) (len cap : Nat) (w : World) (hby : Bytes w a len) (hlen : len ≤ 1048576) (hc : len ≤ cap) (hcm : cap ≤ maxLen) :
    Calls Try.prog 17 #[.slice a len cap] w fun e w' => ∃ n : Int, e = .returned (.int .i64 n) ∧ (-1 ≤ n ∧ n ≤ 20) ∧ Below w.heap.size w w' := by
  go_enter Try.func17, Try.ntmps17
  go_wp2_with fail
  refine (open_r a len cap w hby hlen hc hcm).mono ?_
  rintro e w1 ⟨g, m, cp, rfl, r1⟩
  go_wp2_with fail
  refine (pick_r r1 _ (by omega) (by omega) (by omega)).mono ?_
  rintro e w2 ⟨t0, rfl, ht0, r2, hg0⟩
  clear hg0
  go_wp2_with fail
  refine (pick_r r2 _ (by omega) (by omega) (by omega)).mono ?_
  rintro e w3 ⟨t1, rfl, ht1, r3, hg1⟩
  clear hg1
  have hq1 : 0 ≤ (t1 : Int) / 23 ∧ (t1 : Int) / 23 ≤ 1 := by omega
  have hb := r3.below
  go_wp2
  go_ret
  exact ⟨_, rfl, by omega, hb⟩

/-- Two drawn numbers. -/
def TwoNum (w : World) (e : Ending) (w' : World) : Prop :=
  ∃ n k : Int, e = .returned (.tuple #[.int .i64 n, .int .i64 k]) ∧ (-1 ≤ n ∧ n ≤ 30000) ∧ (-1 ≤ k ∧ k ≤ 30000) ∧ Below w.heap.size w w'

set_option maxHeartbeats 1600000 in
theorem drawListBlocks_any (a : Option Addr) (len cap : Nat) (w : World) (hby : Bytes w a len) (hlen : len ≤ 1048576) (hc : len ≤ cap) (hcm : cap ≤ maxLen) :
    Calls Try.prog 33 #[.slice a len cap] w (TwoNum w) := by
  go_enter Try.func33, Try.ntmps33
  go_wp2_with fail
  refine (open_r a len cap w hby hlen hc hcm).mono ?_
  rintro e w1 ⟨g, m, cp, rfl, r1⟩
  go_wp2_with fail
  refine (pick_r r1 _ (by omega) (by omega) (by omega)).mono ?_
  rintro e w2 ⟨t0, rfl, ht0, r2, hg0⟩
  clear hg0
  go_wp2_with fail
  refine (pick_r r2 _ (by omega) (by omega) (by omega)).mono ?_
  rintro e w3 ⟨t1, rfl, ht1, r3, hg1⟩
  clear hg1
  have hq1 : 0 ≤ (t1 : Int) / 23 ∧ (t1 : Int) / 23 ≤ 1 := by omega
  go_wp2_with fail
  refine (pick_r r3 _ (by omega) (by omega) (by omega)).mono ?_
  rintro e w4 ⟨t2, rfl, ht2, r4, hg2⟩
  clear hg2
  go_wp2_with fail
  refine (pick_r r4 _ (by omega) (by omega) (by omega)).mono ?_
  rintro e w5 ⟨t3, rfl, ht3, r5, hg3⟩
  clear hg3
  have hq3 : 0 ≤ (t3 : Int) / 23 ∧ (t3 : Int) / 23 ≤ 1 := by omega
  have hb := r5.below
  go_wp2
  go_ret2
  exact ⟨_, _, rfl, by omega, by omega, hb⟩

set_option maxHeartbeats 1600000 in
theorem drawListAt_any (a : Option Addr) (len cap : Nat) (w : World) (hby : Bytes w a len) (hlen : len ≤ 1048576) (hc : len ≤ cap) (hcm : cap ≤ maxLen) :
    Calls Try.prog 25 #[.slice a len cap] w (TwoNum w) := by
  go_enter Try.func25, Try.ntmps25
  go_wp2_with fail
  refine (open_r a len cap w hby hlen hc hcm).mono ?_
  rintro e w1 ⟨g, m, cp, rfl, r1⟩
  go_wp2_with fail
  refine (pick_r r1 _ (by omega) (by omega) (by omega)).mono ?_
  rintro e w2 ⟨t0, rfl, ht0, r2, hg0⟩
  clear hg0
  go_wp2_with fail
  refine (pick_r r2 _ (by omega) (by omega) (by omega)).mono ?_
  rintro e w3 ⟨t1, rfl, ht1, r3, hg1⟩
  clear hg1
  have hq1 : 0 ≤ (t1 : Int) / 23 ∧ (t1 : Int) / 23 ≤ 1 := by omega
  go_wp2_with fail
  obtain ⟨z, hz⟩ : ∃ z : Int, z = 1 + (t0 : Int) + (t1 : Int) / 23 := ⟨_, rfl⟩
  rw [← hz]
  have hz1 : 1 ≤ z ∧ z ≤ 9 := by omega
  have HZ := Lib.hid hz
  clear hz
  refine (l2Bell12_v z _ (by omega) (by omega)).mono ?_
  rintro e w4 ⟨rfl, hb4⟩
  have hbd := belN_bd z.toNat (by omega)
  obtain ⟨bl, hbl⟩ : ∃ bl, bl = belN z.toNat := ⟨_, rfl⟩
  rw [← hbl] at hbd ⊢
  clear hbl
  have r4 := r3.step hb4
  clear hb4
  obtain ⟨hbd1, hbd2⟩ := hbd
  go_wp2_with fail
  refine (pick_r r4 _ (by omega) (by omega) (by omega)).mono ?_
  rintro e w5 ⟨t2, rfl, ht2, r5, hg2⟩
  clear hg2
  have hq2 : 0 ≤ (t2 : Int) / 23 ∧ (t2 : Int) / 23 ≤ 1 := by omega
  go_wp2_with fail
  refine (pick_r r5 _ (by omega) (by omega) (by omega)).mono ?_
  rintro e w6 ⟨t3, rfl, ht3, r6, hg3⟩
  clear hg3
  go_wp2_with fail
  refine (pick_r r6 _ (by omega) (by omega) (by omega)).mono ?_
  rintro e w7 ⟨t4, rfl, ht4, r7, hg4⟩
  clear hg4
  have hq4 : 0 ≤ (t4 : Int) / 23 ∧ (t4 : Int) / 23 ≤ 1 := by omega
  have hb := r7.below
  go_wp2
  go_ret2
  exact ⟨_, _, rfl, by have := HZ.out; omega, by omega, hb⟩

/-- A drawn list. -/
def OneDrawn (w : World) (e : Ending) (w' : World) : Prop := ∃ v xs, e = .returned v ∧ Own w' w.heap.size v xs ∧ xs.length ≤ 9 ∧ (∀ x ∈ xs, 0 ≤ x ∧ x ≤ 9) ∧ Below w.heap.size w w'

set_option maxHeartbeats 1600000 in
theorem drawListNext_any (a : Option Addr) (len cap : Nat) (w : World) (hby : Bytes w a len) (hlen : len ≤ 1048576) (hc : len ≤ cap) (hcm : cap ≤ maxLen) :
    Calls Try.prog 27 #[.slice a len cap] w (OneDrawn w) := by
  go_enter Try.func27, Try.ntmps27
  go_wp2_with fail
  refine (open_r a len cap w hby hlen hc hcm).mono ?_
  rintro e w1 ⟨g, m, cp, rfl, r1⟩
  go_wp2_with fail
  refine (pick_r r1 _ (by omega) (by omega) (by omega)).mono ?_
  rintro e w2 ⟨t0, rfl, ht0, r2, hg0⟩
  clear hg0
  go_wp2_with fail
  refine (part_r r2 _ (by omega) (by omega) (by omega)).mono ?_
  rintro e w3 ⟨v, xs, q, rfl, ho, hl, hx, _, r3, hg1⟩
  have hb := r3.below
  have hb2 := r2.below
  go_wp2
  go_ret
  exact ⟨v, xs, rfl, own_mono ho hb2.size, hl.2, hx, hb⟩

set_option maxHeartbeats 1600000 in
theorem drawListBefore_any (a : Option Addr) (len cap : Nat) (w : World) (hby : Bytes w a len) (hlen : len ≤ 1048576) (hc : len ≤ cap) (hcm : cap ≤ maxLen) :
    Calls Try.prog 31 #[.slice a len cap] w (OneDrawn w) := by
  go_enter Try.func31, Try.ntmps31
  go_wp2_with fail
  refine (open_r a len cap w hby hlen hc hcm).mono ?_
  rintro e w1 ⟨g, m, cp, rfl, r1⟩
  go_wp2_with fail
  refine (pick_r r1 _ (by omega) (by omega) (by omega)).mono ?_
  rintro e w2 ⟨t0, rfl, ht0, r2, hg0⟩
  clear hg0
  go_wp2_with fail
  refine (part_r r2 _ (by omega) (by omega) (by omega)).mono ?_
  rintro e w3 ⟨v, xs, q, rfl, ho, hl, hx, _, r3, hg1⟩
  have hb := r3.below
  have hb2 := r2.below
  go_wp2
  go_ret
  exact ⟨v, xs, rfl, own_mono ho hb2.size, hl.2, hx, hb⟩

/-- A drawn number and a drawn list. -/
def NumList (w : World) (e : Ending) (w' : World) : Prop := ∃ (n : Int) (v : Value) (xs : List Int), e = .returned (.tuple #[.int .i64 n, v]) ∧ (-1 ≤ n ∧ n ≤ 100) ∧ Own w' w.heap.size v xs ∧ xs.length ≤ 9 ∧ (∀ x ∈ xs, 0 ≤ x ∧ x ≤ 9) ∧ Below w.heap.size w w'

set_option maxHeartbeats 1600000 in
theorem drawListOpen_any (a : Option Addr) (len cap : Nat) (w : World) (hby : Bytes w a len) (hlen : len ≤ 1048576) (hc : len ≤ cap) (hcm : cap ≤ maxLen) :
    Calls Try.prog 38 #[.slice a len cap] w (NumList w) := by
  go_enter Try.func38, Try.ntmps38
  go_wp2_with fail
  refine (open_r a len cap w hby hlen hc hcm).mono ?_
  rintro e w1 ⟨g, m, cp, rfl, r1⟩
  go_wp2_with fail
  refine (pick_r r1 _ (by omega) (by omega) (by omega)).mono ?_
  rintro e w2 ⟨t0, rfl, ht0, r2, hg0⟩
  clear hg0
  go_wp2_with fail
  refine (part_r r2 _ (by omega) (by omega) (by omega)).mono ?_
  rintro e w3 ⟨v, xs, q, rfl, ho, hl, hx, hq, r3, hg1⟩
  have hb2 := r2.below
  have ho3 := own_mono ho (Nat.le_refl _)
  obtain ⟨ao, cv, hv⟩ := own_slice' ho3
  obtain ⟨L, hL⟩ : ∃ L, L = xs.length := ⟨_, rfl⟩
  rw [← hL] at hv hl
  subst hv
  have HL := Lib.hid hL
  obtain ⟨hl1, hl2⟩ := hl
  have HO := Lib.hid ho3
  have HX := Lib.hid hx
  clear hx ho ho3 hg1 hL
  have hlt := r2.lt
  have hn0 : (0 : Int) ≤ (L : Int) := by omega
  have hb2s := hb2.size
  go_wp2_with fail
  all_goals
    refine (pick_r r3 _ (by omega) (by omega) (by omega)).mono ?_
    rintro e w4 ⟨t2, rfl, ht2, r4, hg4⟩
    have HO4 := Lib.hid (Rds.keep HO.out hlt hg4)
    clear hg4
    have ht20 : (t2 : Int) ≤ 8 := by omega
    go_wp2_with fail
    refine (pick_r r4 _ (by omega) (by omega) (by omega)).mono ?_
    rintro e w5 ⟨t3, rfl, ht3, r5, hg5⟩
    have HO5 := Lib.hid (Rds.keep HO4.out hlt hg5)
    clear hg5
    have hq1 : 0 ≤ (t3 : Int) / 23 ∧ (t3 : Int) / 23 ≤ 1 := by omega
    have hb := r5.below
    go_wp2
    go_ret2
    exact ⟨_, _, xs, rfl, by omega, own_mono HO5.out hb2s, by have := HL.out; omega, HX.out, hb⟩

end Go.Proofs.Ytjmmhonlkpmmoaa
