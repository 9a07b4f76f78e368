/-
  What the laws of this claim lean on: what functions of the program and of the model answer, one after another, and plain mathematics. No condition.
-/
import Derived.Test.YtmflecemkodklaaGreatDoorMjA
import Derived.Test.YtmflecemkodklaaGreatDoorMjB
import Derived.Deep.RegionWith
import Derived.Deep.RegionLaw
import Derived.StillTailTactics
import Derived.Laws.EntriesVeiled
import Derived.RangeFuncBox
import Derived.RangeFuncNested
import Derived.RangeFuncBound
import Derived.RangeFuncCalls
import Derived.RangeFuncLeaves
import Derived.Shelf.Abstract
import Derived.WalkKit
import Derived.OwnWalkIn
import Derived.TacticsInMore
import Derived.LoopNIn
import Derived.LoopIn
import Derived.Maps.AppendAt
import Derived.Lib.BufferWrite

set_option linter.unusedVariables false
set_option linter.unusedSimpArgs false
set_option linter.unnecessarySimpa false
set_option maxRecDepth 100000

namespace Go.Proofs.YtmflecemkodklaaGreatDoor

theorem pigeon : ∀ (n : Nat) (g : Nat → Nat), (∀ i, i ≤ n → g i < n) → ∃ i j, i < j ∧ j ≤ n ∧ g i = g j := by
  intro n
  induction n with
  | zero => intro g h; exact absurd (h 0 (Nat.le_refl _)) (Nat.not_lt_zero _)
  | succ n ih =>
    intro g h
    by_cases hv : ∃ i, i ≤ n ∧ g i = g (n + 1)
    · obtain ⟨i, hi, he⟩ := hv
      exact ⟨i, n + 1, by omega, Nat.le_refl _, he⟩
    · have hne : ∀ i, i ≤ n → g i ≠ g (n + 1) := fun i hi he => hv ⟨i, hi, he⟩
      have hl := h (n + 1) (Nat.le_refl _)
      obtain ⟨i, j, h1, h2, h3⟩ := ih (fun i => if g (n + 1) < g i then g i - 1 else g i) (fun i hi => by
        have a := h i (by omega)
        have b := hne i hi
        show (if g (n + 1) < g i then g i - 1 else g i) < n
        split <;> omega)
      have a := hne i (by omega)
      have b := hne j h2
      refine ⟨i, j, h1, by omega, ?_⟩
      split at h3 <;> split at h3 <;> omega

structure Led (n : Nat) (f : Nat → Nat) : Prop where
  lt : ∀ x, x < n → f x < n
  inj : ∀ x y, x < n → y < n → f x = f y → x = y

def itf (f : Nat → Nat) : Nat → Nat → Nat
  | 0, x => x
  | k + 1, x => f (itf f k x)

theorem itf_add (f : Nat → Nat) (a b x : Nat) : itf f (a + b) x = itf f a (itf f b x) := by
  induction a with
  | zero => simp [itf]
  | succ a ih => rw [Nat.succ_add]; simp only [itf, ih]

theorem itf_lt {n : Nat} {f : Nat → Nat} (h : Led n f) {x : Nat} (hx : x < n) (k : Nat) : itf f k x < n := by
  induction k with
  | zero => exact hx
  | succ k ih => exact h.lt _ ih

theorem itf_inj {n : Nat} {f : Nat → Nat} (h : Led n f) {x y : Nat} (hx : x < n) (hy : y < n) (k : Nat) (e : itf f k x = itf f k y) : x = y := by
  induction k with
  | zero => exact e
  | succ k ih => exact ih (h.inj _ _ (itf_lt h hx k) (itf_lt h hy k) e)

theorem itf_back {n : Nat} {f : Nat → Nat} (h : Led n f) {x : Nat} (hx : x < n) : ∃ m, 1 ≤ m ∧ m ≤ n ∧ itf f m x = x := by
  obtain ⟨i, j, h1, h2, h3⟩ := pigeon n (fun k => itf f k x) (fun i _ => itf_lt h hx i)
  refine ⟨j - i, by omega, by omega, ?_⟩
  have e : itf f i x = itf f i (itf f (j - i) x) := by rw [← itf_add, show i + (j - i) = j by omega]; exact h3
  exact (itf_inj h hx (itf_lt h hx _) i e).symm

theorem itf_mul {f : Nat → Nat} {x m : Nat} (hm : itf f m x = x) (k : Nat) : itf f (k * m) x = x := by
  induction k with
  | zero => simp [itf]
  | succ k ih => rw [Nat.succ_mul, itf_add, hm, ih]

def Orb (f : Nat → Nat) (x y : Nat) : Prop := ∃ k, itf f k x = y

theorem orb_refl (f : Nat → Nat) (x : Nat) : Orb f x x := ⟨0, rfl⟩
theorem orb_trans {f : Nat → Nat} {x y z : Nat} (h : Orb f x y) (k : Orb f y z) : Orb f x z := by
  obtain ⟨a, rfl⟩ := h
  obtain ⟨b, rfl⟩ := k
  exact ⟨b + a, itf_add f b a x⟩
theorem orb_symm {n : Nat} {f : Nat → Nat} (h : Led n f) {x y : Nat} (hx : x < n) (k : Orb f x y) : Orb f y x := by
  obtain ⟨a, rfl⟩ := k
  obtain ⟨m, h1, _, h3⟩ := itf_back h hx
  refine ⟨a * m - a, ?_⟩
  have : a ≤ a * m := Nat.le_mul_of_pos_right a h1
  rw [← itf_add, Nat.sub_add_cancel this]
  exact itf_mul h3 a
theorem orb_few {n : Nat} {f : Nat → Nat} (h : Led n f) {x y : Nat} (hx : x < n) (k : Orb f x y) : ∃ a, a < n ∧ itf f a x = y := by
  obtain ⟨a, rfl⟩ := k
  obtain ⟨m, h1, h2, h3⟩ := itf_back h hx
  refine ⟨a % m, Nat.lt_of_lt_of_le (Nat.mod_lt _ h1) h2, ?_⟩
  conv => rhs; rw [← Nat.mod_add_div a m, Nat.mul_comm m, itf_add, itf_mul h3]

def metTo (f : Nat → Nat) (x : Nat) : Nat → Nat
  | 0 => 0
  | k + 1 => metTo f x k ||| 2 ^ itf f k x

theorem metTo_bit (f : Nat → Nat) (x k y : Nat) : (metTo f x k).testBit y = true ↔ ∃ j, j < k ∧ itf f j x = y := by
  induction k with
  | zero => simp [metTo]
  | succ k ih =>
    rw [metTo, Nat.testBit_or, Bool.or_eq_true, ih, Nat.testBit_two_pow]
    constructor
    · rintro (⟨j, h1, h2⟩ | h)
      · exact ⟨j, by omega, h2⟩
      · exact ⟨k, by omega, by simpa using h⟩
    · rintro ⟨j, h1, h2⟩
      by_cases hj : j = k
      · right; subst hj; simpa using h2
      · exact .inl ⟨j, by omega, h2⟩

theorem metTo_lt {n : Nat} {f : Nat → Nat} (h : Led n f) (hn : n ≤ 8) {x : Nat} (hx : x < n) (k : Nat) : metTo f x k < 256 := by
  induction k with
  | zero => exact Nat.zero_lt_succ _
  | succ k ih => exact or_lt _ ih _ (Nat.lt_of_lt_of_le (itf_lt h hx k) hn)

def ringM (f : Nat → Nat) (x : Nat) : Nat := metTo f x 8

theorem ringM_bit {n : Nat} {f : Nat → Nat} (h : Led n f) (hn : n ≤ 8) {x : Nat} (hx : x < n) (y : Nat) : (ringM f x).testBit y = true ↔ Orb f x y := by
  unfold ringM
  rw [metTo_bit]
  constructor
  · rintro ⟨j, _, h2⟩; exact ⟨j, h2⟩
  · intro k
    obtain ⟨a, h1, h2⟩ := orb_few h hx k
    exact ⟨a, by omega, h2⟩

theorem ringM_pat {n : Nat} {f : Nat → Nat} (h : Led n f) (hn : n ≤ 8) {x y : Nat} (hx : x < n) (hy : y < n) : ringM f x = ringM f y ↔ Orb f x y := by
  constructor
  · intro e
    have := (ringM_bit h hn hy y).2 (orb_refl f y)
    rw [← e] at this
    exact (ringM_bit h hn hx y).1 this
  · intro k
    apply Nat.eq_of_testBit_eq
    intro z
    have : (ringM f x).testBit z = true ↔ (ringM f y).testBit z = true := by
      rw [ringM_bit h hn hx, ringM_bit h hn hy]
      exact ⟨fun a => orb_trans (orb_symm h hx k) a, fun a => orb_trans k a⟩
    cases h1 : (ringM f x).testBit z <;> cases h2 : (ringM f y).testBit z <;> simp [h1, h2] at this ⊢

theorem metTo_done {n : Nat} {f : Nat → Nat} (h : Led n f) (hn : n ≤ 8) {x : Nat} (hx : x < n) {k : Nat} (hb : (metTo f x k).testBit (itf f k x) = true) : metTo f x k = ringM f x := by
  obtain ⟨j, h1, h2⟩ := (metTo_bit f x k _).1 hb
  have e : itf f (k - j) x = x := by
    have : itf f j x = itf f j (itf f (k - j) x) := by rw [← itf_add, show j + (k - j) = k by omega]; exact h2
    exact (itf_inj h hx (itf_lt h hx _) j this).symm
  apply Nat.eq_of_testBit_eq
  intro z
  have : (metTo f x k).testBit z = true ↔ (ringM f x).testBit z = true := by
    rw [ringM_bit h hn hx, metTo_bit]
    constructor
    · rintro ⟨j, _, h2⟩; exact ⟨j, h2⟩
    · rintro ⟨a, rfl⟩
      refine ⟨a % (k - j), Nat.lt_of_lt_of_le (Nat.mod_lt _ (by omega)) (Nat.sub_le _ _), ?_⟩
      conv => rhs; rw [← Nat.mod_add_div a (k - j), Nat.mul_comm (k - j), itf_add, itf_mul e]
  cases h1 : (metTo f x k).testBit z <;> cases h2 : (ringM f x).testBit z <;> simp [h1, h2] at this ⊢

theorem metTo_room {n : Nat} {f : Nat → Nat} (h : Led n f) {x : Nat} (hx : x < n) {k : Nat} (hk : k ≤ n) (hb : (metTo f x k).testBit (itf f k x) = false) : k < n := by
  refine Nat.lt_of_le_of_ne hk fun e => ?_
  obtain ⟨m, h1, h2, h3⟩ := itf_back h hx
  have : (metTo f x k).testBit (itf f k x) = true := by
    refine (metTo_bit f x k _).2 ⟨k - m, by omega, ?_⟩
    conv => rhs; rw [show k = (k - m) + m by omega, itf_add, h3]
  rw [hb] at this
  cases this

def leastTo (f : Nat → Nat) (x : Nat) : Nat → Nat
  | 0 => x
  | k + 1 => min (leastTo f x k) (itf f (k + 1) x)

theorem leastTo_le (f : Nat → Nat) (x k j : Nat) (h : j ≤ k) : leastTo f x k ≤ itf f j x := by
  induction k with
  | zero => obtain rfl : j = 0 := by omega
            exact Nat.le_refl _
  | succ k ih =>
    rw [leastTo]
    by_cases hj : j = k + 1
    · subst hj; exact Nat.min_le_right _ _
    · exact Nat.le_trans (Nat.min_le_left _ _) (ih (by omega))

theorem leastTo_orb (f : Nat → Nat) (x k : Nat) : Orb f x (leastTo f x k) := by
  induction k with
  | zero => exact orb_refl _ _
  | succ k ih =>
    rw [leastTo]
    by_cases h : leastTo f x k ≤ itf f (k + 1) x
    · rw [Nat.min_eq_left h]; exact ih
    · rw [Nat.min_eq_right (by omega)]; exact ⟨_, rfl⟩

def ringL (f : Nat → Nat) (x : Nat) : Nat := leastTo f x 8

theorem ringL_le {n : Nat} {f : Nat → Nat} (h : Led n f) (hn : n ≤ 8) {x y : Nat} (hx : x < n) (k : Orb f x y) : ringL f x ≤ y := by
  obtain ⟨a, h1, rfl⟩ := orb_few h hx k
  exact leastTo_le f x 8 a (by omega)

theorem ringL_pat {n : Nat} {f : Nat → Nat} (h : Led n f) (hn : n ≤ 8) {x y : Nat} (hx : x < n) (hy : y < n) : ringL f x = ringL f y ↔ Orb f x y := by
  have ox := leastTo_orb f x 8
  have oy := leastTo_orb f y 8
  constructor
  · intro e
    have oy' : Orb f y (leastTo f x 8) := by
      have : leastTo f x 8 = leastTo f y 8 := e
      rw [this]; exact oy
    exact orb_trans ox (orb_symm h hy oy')
  · intro k
    have a := ringL_le h hn hx (orb_trans k oy)
    have b := ringL_le h hn hy (orb_trans (orb_symm h hx k) ox)
    exact Nat.le_antisymm a b

def ringMs (f : Nat → Nat) (n : Nat) : List Int := (List.range n).map fun x => (ringM f x : Int)
def ringLs (f : Nat → Nat) (n : Nat) : List Int := (List.range n).map fun x => (ringL f x : Int)

theorem ringMs_length (f : Nat → Nat) (n : Nat) : (ringMs f n).length = n := by simp [ringMs]
theorem ringLs_length (f : Nat → Nat) (n : Nat) : (ringLs f n).length = n := by simp [ringLs]
theorem ringMs_getD (f : Nat → Nat) (n k : Nat) (h : k < n) : (ringMs f n).getD k 0 = (ringM f k : Int) := by simp [ringMs, List.getD, h]
theorem ringLs_getD (f : Nat → Nat) (n k : Nat) (h : k < n) : (ringLs f n).getD k 0 = (ringL f k : Int) := by simp [ringLs, List.getD, h]

theorem rings_same {n : Nat} {f : Nat → Nat} (h : Led n f) (hn : n ≤ 8) : kOut (ringMs f n) = kOut (ringLs f n) := by
  refine (kOut_pat _ _ (by rw [ringMs_length, ringLs_length]) fun i j hi hj => ?_).1
  rw [ringLs_length] at hi hj
  rw [ringMs_getD _ _ _ hi, ringMs_getD _ _ _ hj, ringLs_getD _ _ _ hi, ringLs_getD _ _ _ hj, Int.ofNat_inj, Int.ofNat_inj, ringM_pat h hn hi hj, ringL_pat h hn hi hj]

theorem nameFrom_bits (n : Nat) : ∀ (xs : List Int) (s : Nat), nameFrom n s xs = true → (∀ j, j < xs.length → s.testBit (xs.getD j 0).toNat = false) ∧ ∀ i j, i < j → j < xs.length → (xs.getD i 0).toNat ≠ (xs.getD j 0).toNat := by
  intro xs
  induction xs with
  | nil => intro s _; exact ⟨fun j hj => by simp at hj, fun i j _ hj => by simp at hj⟩
  | cons x xs ih =>
    intro s h
    simp only [nameFrom, Bool.and_eq_true, decide_eq_true_eq, Bool.not_eq_true'] at h
    obtain ⟨⟨hx, hs⟩, hr⟩ := h
    obtain ⟨h1, h2⟩ := ih _ hr
    have h3 : ∀ j, j < xs.length → s.testBit (xs.getD j 0).toNat = false ∧ x.toNat ≠ (xs.getD j 0).toNat := by
      intro j hj
      have := h1 j hj
      rw [Nat.testBit_or, Bool.or_eq_false_iff, Nat.testBit_two_pow] at this
      exact ⟨this.1, by simpa using this.2⟩
    constructor
    · intro j hj
      cases j with
      | zero => simpa using hs
      | succ j => simpa using (h3 j (by simpa using hj)).1
    · intro i j hij hj
      cases j with
      | zero => omega
      | succ j =>
        cases i with
        | zero => simpa using (h3 j (by simpa using hj)).2
        | succ i => simpa using h2 i j (by omega) (by simpa using hj)

def nx (xs : List Int) (x : Nat) : Nat := (xs.getD x 0).toNat

theorem led_of_names {n : Nat} {xs : List Int} (h : namesOk n xs = true) : Led n (nx xs) := by
  simp only [namesOk, Bool.and_eq_true, decide_eq_true_eq] at h
  obtain ⟨hl, h⟩ := h
  have hr := nameFrom_range n xs 0 h
  have hb := (nameFrom_bits n xs 0 h).2
  refine ⟨fun x hx => ?_, fun x y hx hy e => ?_⟩
  · have := hr x (by omega)
    unfold nx
    omega
  · rcases Nat.lt_trichotomy x y with h1 | h1 | h1
    · exact absurd e (hb x y h1 (by omega))
    · exact h1
    · exact absurd e.symm (hb y x h1 (by omega))

def ringsOf (xs : List Int) : List Int := kOut (ringLs (nx xs) xs.length)

section
open Go.RowKit

theorem or_gt : ∀ b, b < 256 → ∀ t, t < 8 → b.testBit t = false → b < b ||| 2 ^ t := by decide +kernel

set_option maxHeartbeats 1600000 in
theorem ring_w (bb off n ca t : Nat) (xs : List Int) (w : World) (hn8 : n ≤ 8) (hN : namesOk n xs = true) (hc : ∀ j, j < n → w.cell? ⟨bb, off + j, none⟩ = some (.int .i64 (xs.getD j 0))) (ht : t < n) :
    Calls Tryz.prog 281 #[.agg #[.slice (some ⟨bb, off, none⟩) n ca], .int .i64 t] w fun e w' => e = .returned (.int .u64 (ringM (nx xs) t : Nat)) ∧ Below w.heap.size w w' := by
  have hL := led_of_names hN
  obtain ⟨f, hf⟩ : ∃ f, f = nx xs := ⟨_, rfl⟩
  have hcf : ∀ j, j < n → w.cell? ⟨bb, off + j, none⟩ = some (.int .i64 ((f j : Nat) : Int)) := by
    intro j hj
    have h1 := (namesOk_facts hN).2 j hj
    rw [hc j hj, hf]
    unfold nx
    rw [Int.toNat_of_nonneg h1.1]
  rw [← hf] at hL ⊢
  have HL := Lib.hid hL
  have HC := Lib.hid hcf
  clear hc hN hf hL hcf
  have hbw : Below w.heap.size w (w.alloc (.cells #[.slice (some ⟨bb, off, none⟩) n ca] 168)) := (Below.refl _ _).alloc (Nat.le_refl _) _
  have hg : (w.alloc (.cells #[.slice (some ⟨bb, off, none⟩) n ca] 168)).cell? ⟨w.heap.size, 0, none⟩ = some (.slice (some ⟨bb, off, none⟩) n ca) := by simp
  have hcb : ∀ j, j < n → (w.alloc (.cells #[.slice (some ⟨bb, off, none⟩) n ca] 168)).cell? ⟨bb, off + j, none⟩ = some (.int .i64 ((f j : Nat) : Int)) := by
    intro j hj
    have := HC.out j hj
    rw [hbw.cell (World.block_lt_of_cell? w _ this)]
    exact this
  have HCB := Lib.hid hcb
  have HB := Lib.hid hbw
  clear hcb hbw
  go_enter Tryz.func281, Tryz.ntmps281
  go_wp2
  go_loop [1, 5] (fun u m => ∃ k : Nat, k ≤ n ∧ u = .int .i64 ((itf f k t : Nat) : Int) ∧ m = .int .u64 ((metTo f t k : Nat) : Int)) (fun _ m => 256 - (intOf m).toNat)
  case atStart => exact ⟨0, Nat.zero_le _, rfl, rfl⟩
  case round =>
    obtain ⟨k, hk, rfl, rfl⟩ := hrel
    have hx := itf_lt HL.out ht k
    have hm := metTo_lt HL.out hn8 ht k
    cases hb : (metTo f t k).testBit (itf f k t)
    · have hroom := metTo_room HL.out ht hk hb
      have hgt := or_gt _ hm _ (by omega) hb
      have hnew := metTo_lt HL.out hn8 ht (k + 1)
      have e1 : metTo f t (k + 1) = metTo f t k ||| 2 ^ itf f k t := rfl
      have e2 : itf f (k + 1) t = f (itf f k t) := rfl
      have hcx := HCB.out (itf f k t) hx
      rw [← e2] at hcx
      rw [← e1] at hgt
      obtain ⟨x, hxe⟩ : ∃ x, x = itf f k t := ⟨_, rfl⟩
      obtain ⟨m, hme⟩ : ∃ m, m = metTo f t k := ⟨_, rfl⟩
      obtain ⟨y, hye⟩ : ∃ y, y = itf f (k + 1) t := ⟨_, rfl⟩
      obtain ⟨z, hze⟩ : ∃ z, z = metTo f t (k + 1) := ⟨_, rfl⟩
      rw [← hxe] at hx hb hcx e1
      rw [← hme] at hm hb hgt e1
      rw [← hye] at hcx
      rw [← hze] at hgt hnew e1
      rw [← hxe, ← hme]
      have HBB := Lib.hid hb
      have HE1 := Lib.hid e1
      have HYE := Lib.hid hye
      have HZE := Lib.hid hze
      clear hb e1 e2 hxe hme hye hze
      go_wp2_with fail
      refine (has_any m x _ hm (by omega)).mono ?_
      rintro e w' ⟨rfl, rfl⟩
      rw [HBB.out]
      go_wp2_with fail
      refine (with_any m x _ hm (by omega)).mono ?_
      rintro e w' ⟨rfl, rfl⟩
      go_wp2_with fail
      refine (next_w bb off n ca x y _ hcx hx (by omega)).mono ?_
      rintro e w' ⟨rfl, rfl⟩
      go_wp2
      go_round
      case rel => exact ⟨k + 1, by omega, by rw [HYE.out], by rw [← HE1.out, HZE.out]⟩
      case measure =>
        rw [← HE1.out]
        simp [intOf]
        omega
    · have hdone := metTo_done HL.out hn8 ht hb
      obtain ⟨x, hxe⟩ : ∃ x, x = itf f k t := ⟨_, rfl⟩
      obtain ⟨m, hme⟩ : ∃ m, m = metTo f t k := ⟨_, rfl⟩
      rw [← hxe] at hx hb
      rw [← hme] at hm hb hdone ⊢
      rw [← hxe]
      have HBB := Lib.hid hb
      have HD := Lib.hid hdone
      clear hb hdone hxe hme
      go_wp2_with fail
      refine (has_any m x _ hm (by omega)).mono ?_
      rintro e w' ⟨rfl, rfl⟩
      rw [HBB.out]
      go_wp2
      go_ret
      exact ⟨by rw [HD.out]; rfl, HB.out⟩

set_option maxHeartbeats 1600000 in
theorem rings_w (bb off n ca : Nat) (xs : List Int) (w : World) (hn1 : 1 ≤ n) (hn8 : n ≤ 8) (hN : namesOk n xs = true) (hc : ∀ j, j < n → w.cell? ⟨bb, off + j, none⟩ = some (.int .i64 (xs.getD j 0))) :
    Calls Tryz.prog 239 #[.agg #[.slice (some ⟨bb, off, none⟩) n ca]] w (FreshL w (ringsOf xs)) := by
  have hlen := (namesOk_facts hN).1
  have hL := led_of_names hN
  have he : ringsOf xs = kOut (ringMs (nx xs) n) := by rw [ringsOf, hlen, rings_same hL hn8]
  rw [he]
  have HC := Lib.hid hc
  have HN := Lib.hid hN
  have HL := Lib.hid hL
  clear he hlen hN hL hc
  have hbw : Below w.heap.size w (w.alloc (.cells #[.slice (some ⟨bb, off, none⟩) n ca] 168)) := (Below.refl _ _).alloc (Nat.le_refl _) _
  have hg : (w.alloc (.cells #[.slice (some ⟨bb, off, none⟩) n ca] 168)).cell? ⟨w.heap.size, 0, none⟩ = some (.slice (some ⟨bb, off, none⟩) n ca) := by simp
  have hsz : (w.alloc (.cells #[.slice (some ⟨bb, off, none⟩) n ca] 168)).heap.size = w.heap.size + 1 := by simp
  have HB := Lib.hid hbw
  have HG := Lib.hid hg
  have HSZ := Lib.hid hsz
  clear hbw hg hsz
  obtain ⟨i0, hi, hz0, hz1, hz2⟩ := info_parts Tryz.infoInt
  go_enter Tryz.func239, Tryz.ntmps239
  go_wp2_with (first | (go_at_call 280; refine (things_w _ _ _ _ (by omega)).mono ?_; rintro e w' ⟨rfl, rfl⟩) | (at_make; refine wpList_make_full _ rfl _ _ 26 rfl (w.heap.size + 1) 3 i0 (.int .i64 0) 1 Tryz.underlying26 hi hz0 hz1 _ _ _ _ n rfl rfl rfl rfl (by rw [hz2]; omega) (by unfold maxLen; omega) (by rw [HSZ.out]; exact Nat.le_refl _) ?_))
  intro w3 hown3 hgrow3
  obtain ⟨w1, hw1⟩ : ∃ w1, w1 = w.alloc (.cells #[.slice (some ⟨bb, off, none⟩) n ca] 168) := ⟨_, rfl⟩
  have hb0 := HB.out
  have hg0 := HG.out
  have hs0 := HSZ.out
  rw [← hw1] at hb0 hg0 hs0 hgrow3
  have hb5 : Below (w.heap.size + 1) w1 w3 := (Below.refl _ _).grown hgrow3 (by omega) (fun k h => by cases h)
  have hown := own_made hown3
  clear hown3 hgrow3 HB HG HSZ hs0 hw1
  have HB0 := Lib.hid hb0
  have HG0 := Lib.hid hg0
  clear hb0 hg0
  obtain ⟨m, hm⟩ : ∃ m, m = w.heap.size + 1 := ⟨_, rfl⟩
  obtain ⟨q1, hq1⟩ : ∃ q1, q1 = w.heap.size := ⟨_, rfl⟩
  rw [← hm] at hown hb5 ⊢
  have hqm : q1 < m := by omega
  have HM : Hid (m = w.heap.size + 1) := Lib.hid hm
  have HQ : Hid (q1 = w.heap.size) := Lib.hid hq1
  have HG1 : Hid (w1.cell? ⟨q1, 0, none⟩ = some (.slice (some ⟨bb, off, none⟩) n ca)) := Lib.hid (by rw [hq1]; exact HG0.out)
  clear HG0 hm
  rw [← hq1]
  clear hq1
  go_wp2
  go_loopw [11] (fun i wr => ∃ k : Nat, k ≤ n ∧ i = .int .i64 k ∧ Own wr m (.slice (some ⟨m, 0, none⟩) n n) ((ringMs (nx xs) n).take k ++ List.replicate (n - k) 0) ∧ Below m w1 wr)
    (fun i _ => n - (intOf i).toNat)
  case atStart => exact ⟨0, Nat.zero_le _, rfl, by simpa using hown, hb5⟩
  case round =>
    obtain ⟨k, hk, rfl, hown, hbel⟩ := hrel
    have hbelw : Below w.heap.size w wr := HB0.out.trans (hbel.mono (by have := HM.out; omega))
    by_cases hlt : k < n
    · have hcw : ∀ j, j < n → wr.cell? ⟨bb, off + j, none⟩ = some (.int .i64 (xs.getD j 0)) := fun j hj => by
        have := HC.out j hj
        rw [hbelw.cell (World.block_lt_of_cell? w _ this)]
        exact this
      have hgr : wr.cell? ⟨q1, 0, none⟩ = some (.slice (some ⟨bb, off, none⟩) n ca) := by
        rw [hbel.cell (by simpa using hqm)]; exact HG1.out
      have HCW := Lib.hid hcw
      have HO := Lib.hid hown
      have hmw : m ≤ wr.heap.size := by have := (own_lt hown m rfl).2; omega
      clear hcw hown
      go_wp2_with fail
      refine (ring_w bb off n ca k xs _ hn8 HN.out HCW.out hlt).mono ?_
      rintro e w4 ⟨rfl, hb⟩
      have hr8 : ringM (nx xs) k < 256 := metTo_lt HL.out hn8 hlt 8
      have hown4 := own_below HO.out hb
      have hbel4 : Below m w1 w4 := hbel.trans (hb.mono hmw)
      obtain ⟨x, hx⟩ : ∃ x, x = ringM (nx xs) k := ⟨_, rfl⟩
      rw [← hx] at hr8 ⊢
      have hll : n = ((ringMs (nx xs) n).take k ++ List.replicate (n - k) 0).length := by simp [ringMs_length]; omega
      have hfz := own_frozen hown4 k
      obtain ⟨v0, hv0⟩ : ∃ v0, w4.cell? ⟨m, k, none⟩ = some v0 := ⟨_, own_cell hown4 k (by omega)⟩
      obtain ⟨hst, hgst⟩ := own_stored hown4 hll k x
      have hst' : Own (w4.setCell ⟨m, k, none⟩ (.int .i64 x)) m (.slice (some ⟨m, 0, none⟩) n n) ((ringMs (nx xs) n).take (k + 1) ++ List.replicate (n - (k + 1)) 0) := by
        have hse := set_stage (ringMs (nx xs) n) k (by rw [ringMs_length]; omega) (x : Int) (by rw [ringMs_getD _ _ _ hlt, hx])
        rw [ringMs_length] at hse
        rw [← hse]
        exact hst
      have HST := Lib.hid hst'
      clear hst hgst hst' hx hown4 hll hgr
      go_wp2
      go_roundw
      case rel => exact ⟨k + 1, by omega, by go_num, HST.out, hbel4.setCell (Nat.le_refl _) _⟩
      case measure => simp [intOf]; omega
    · have hkn : k = n := by omega
      subst hkn
      rw [show (ringMs (nx xs) k).take k ++ List.replicate (k - k) 0 = ringMs (nx xs) k by
        rw [Nat.sub_self, List.replicate_zero, List.append_nil]
        exact List.take_of_length_le (by rw [ringMs_length]; exact Nat.le_refl _)] at hown
      have hrd := own_rdv hown
      have HRD := Lib.hid hrd
      have hmw : w.heap.size ≤ m := by have := HM.out; omega
      clear hown hrd
      go_wp2_with fail
      refine (kernel_v _ _ _ HRD.out (by rw [ringMs_length]; omega)).mono ?_
      rintro e w5 ⟨u, rfl, ho, hb2⟩
      go_wp2
      go_ret
      exact ⟨_, rfl, own_mono ho hbelw.size, below_step hbelw hb2⟩

def ringPart (xs : List Int) : List Int × Bool := if ringIn xs then (ringsOf xs, true) else ([], false)

set_option maxHeartbeats 1600000 in
theorem iRingPart_v (v : Value) (xs : List Int) (w : World) (hE : ErrAt w) (hv : RdV w v xs) : Calls Tryz.prog 188 #[v] w (FreshLB w (ringPart xs)) := by
  have hv0 := hv
  obtain ⟨ao, ca, rfl, h, h1, h2⟩ := hv
  unfold maxLen at h2
  have HV := Lib.hid hv0
  clear hv0
  by_cases hr : ringIn xs = true
  · have he : ringPart xs = (ringsOf xs, true) := by simp [ringPart, hr]
    rw [he]
    have HR := Lib.hid (show permOk xs.length xs = true from hr)
    obtain ⟨hl1, hl8, hN, _, _⟩ := permOk_facts HR.out
    rcases h with hx | ⟨bb, off, rfl, hcx⟩
    · rw [hx] at hl1
      simp at hl1
    obtain ⟨n, hn⟩ : ∃ n, n = xs.length := ⟨_, rfl⟩
    rw [← hn] at h1 hl1 hl8 HV HR hN ⊢
    have HNN := Lib.hid hN
    have HN := Lib.hid hn
    have HC := Lib.hid hcx
    clear hr he hn hcx hN
    go_enter Tryz.func188, Tryz.ntmps188
    go_wp2_with fail
    refine (toPerm_yes _ _ _ _ xs _ HV.out HR).mono ?_
    rintro e w1 ⟨rfl, hb⟩
    have hb2 := hb.alloc hb.size (.cells #[.slice (some ⟨bb, off, none⟩) n ca] 168)
    have hg1 : (w1.alloc (.cells #[.slice (some ⟨bb, off, none⟩) n ca] 168)).cell? ⟨w1.heap.size, 0, none⟩ = some (.slice (some ⟨bb, off, none⟩) n ca) := by simp
    have hs1 : w.heap.size ≤ w1.heap.size := hb.size
    go_wp2_with fail
    refine (isNone_nil _).mono ?_
    rintro e w2 ⟨rfl, hb3⟩
    have hb4 := below_step hb2 hb3
    have hg2 : w2.cell? ⟨w1.heap.size, 0, none⟩ = some (.slice (some ⟨bb, off, none⟩) n ca) := by
      rw [hb3.cell (World.block_lt_of_cell? _ _ hg1)]; exact hg1
    have hs2 : w1.heap.size < w2.heap.size := by
      have := World.block_lt_of_cell? _ _ hg2
      simpa using this
    clear hb hb2 hb3 hg1
    obtain ⟨q1, hq1⟩ : ∃ q1, q1 = w1.heap.size := ⟨_, rfl⟩
    rw [← hq1] at hg2 hs1 hs2 ⊢
    clear hq1
    have HG2 := Lib.hid hg2
    go_wp2_with fail
    refine (rings_w bb off n ca xs _ hl1 hl8 HNN.out (fun j hj => by
      have := HC.out j (by have := HN.out; omega)
      rw [hb4.cell (World.block_lt_of_cell? w _ this)]; exact this)).mono ?_
    rintro e w3 ⟨u, rfl, ho, hb5⟩
    go_wp2
    go_ret2
    exact ⟨_, rfl, own_mono ho hb4.size, below_step hb4 hb5⟩
  · have hr : ringIn xs = false := by simpa using hr
    have he : ringPart xs = ([], false) := by simp [ringPart, hr]
    rw [he]
    have HR := Lib.hid (show permOk xs.length xs = false from hr)
    clear hr he h
    go_enter Tryz.func188, Tryz.ntmps188
    go_wp2_with fail
    refine (toPerm_no _ _ _ _ xs _ (by omega) HV.out HR).mono ?_
    rintro e w1 ⟨rfl, hb⟩
    have hb2 := hb.alloc hb.size (.cells #[.slice none 0 0] 168)
    go_wp2_with fail
    refine (isNone_hit _ _ (errAt_below hE hb2)).mono ?_
    rintro e w2 ⟨rfl, hb3⟩
    have hb4 := below_step hb2 hb3
    go_wp2
    go_ret2
    exact ⟨_, rfl, own_nil _ _, hb4⟩

def left (f : Nat → Nat) (i : Nat) : Nat → Nat → Nat
  | 0, _ => 0
  | N + 1, x => if x = i then 0 else 1 + left f i N (f x)
end

theorem mem_part {xs : List Int} (h : partIn xs = true) (v : Int) : v ∈ xs ↔ 0 ≤ v ∧ v < pSize xs := by
  have e := (kOut_of_ok xs (partIn_ok h)).1
  have h1 := kOut_all xs v
  have h2 := pSize_kOut xs
  rw [e] at h1 h2
  rw [h1, h2]

def under (xs ys : List Int) (y v : Nat) : Bool := decide (ys.getD (xs.idxOf (v : Int)) 0 = (y : Int))
def innerTo (xs ys : List Int) (q k : Nat) : List Int := (List.range q).map fun y => (((List.range k).filter (under xs ys y)).length : Int)
def inner (xs ys : List Int) : List Int := innerTo xs ys (pSize ys).toNat (pSize xs).toNat

theorem innerTo_length (xs ys : List Int) (q k : Nat) : (innerTo xs ys q k).length = q := by simp [innerTo]
theorem inner_length (xs ys : List Int) : (inner xs ys).length = (pSize ys).toNat := innerTo_length _ _ _ _
theorem innerTo_zero (xs ys : List Int) (q : Nat) : innerTo xs ys q 0 = List.replicate q 0 := by
  apply List.ext_getElem <;> simp [innerTo]
theorem innerTo_getD (xs ys : List Int) (q k y : Nat) (h : y < q) : (innerTo xs ys q k).getD y 0 = (((List.range k).filter (under xs ys y)).length : Int) := by
  simp [innerTo, List.getD, h]
theorem under_len_succ (xs ys : List Int) (y k : Nat) : ((List.range (k + 1)).filter (under xs ys y)).length = ((List.range k).filter (under xs ys y)).length + if ys.getD (xs.idxOf (k : Int)) 0 = (y : Int) then 1 else 0 := by
  rw [List.range_succ, List.filter_append, List.length_append]
  congr 1
  by_cases h : ys.getD (xs.idxOf (k : Int)) 0 = (y : Int)
  · have hu : under xs ys y k = true := decide_eq_true h
    rw [if_pos h]
    simp [List.filter, hu]
  · have hu : under xs ys y k = false := decide_eq_false h
    rw [if_neg h]
    simp [List.filter, hu]

theorem innerTo_step (xs ys : List Int) (q k z : Nat) (hz : z < q) (h : ys.getD (xs.idxOf (k : Int)) 0 = (z : Int)) : (innerTo xs ys q k).set z ((innerTo xs ys q k).getD z 0 + 1) = innerTo xs ys q (k + 1) := by
  apply List.ext_getElem
  · simp [innerTo_length]
  · intro j h1 h2
    simp [innerTo_length] at h1 h2
    rw [List.getElem_set]
    by_cases e : z = j
    · subst e
      rw [if_pos rfl, innerTo_getD _ _ _ _ _ hz]
      simp only [innerTo, List.getElem_map, List.getElem_range, under_len_succ, if_pos h]
      omega
    · rw [if_neg e]
      have : ¬ ys.getD (xs.idxOf (k : Int)) 0 = (j : Int) := by omega
      simp only [innerTo, List.getElem_map, List.getElem_range, under_len_succ, if_neg this]
      omega

theorem innerTo_bd (xs ys : List Int) (q k y : Nat) (h : y < q) : 0 ≤ (innerTo xs ys q k).getD y 0 ∧ (innerTo xs ys q k).getD y 0 ≤ k := by
  rw [innerTo_getD _ _ _ _ _ h]
  have := List.length_filter_le (under xs ys y) (List.range k)
  rw [List.length_range] at this
  omega

section
open Go.RowKit

set_option maxHeartbeats 1600000 in
theorem countsWithin_v (v u : Value) (xs ys : List Int) (w : World) (hv : RdV w v xs) (hu : RdV w u ys) (hx : partIn xs = true) (hy : partIn ys = true) (hl : ys.length = xs.length) :
    Calls Tryz.prog 241 #[v, u] w (FreshL w (inner xs ys)) := by
  have HV := Lib.hid hv
  have HU := Lib.hid hu
  obtain ⟨hl1, hl8⟩ := partIn_len hx
  have HSX := Lib.hid (partIn_small hx)
  have HSY := Lib.hid (partIn_small hy)
  have hbx := pSize_bd HSX.out
  have hby := pSize_bd HSY.out
  obtain ⟨p, hp⟩ := Int.eq_ofNat_of_zero_le hbx.1
  obtain ⟨q, hq⟩ := Int.eq_ofNat_of_zero_le hby.1
  have hr : inner xs ys = innerTo xs ys q p := by unfold inner; rw [hp, hq, Int.toNat_natCast, Int.toNat_natCast]
  rw [hr]
  rw [hp] at hbx
  rw [hq] at hby
  have HP := Lib.hid hp
  have HQ := Lib.hid hq
  have HX := Lib.hid hx
  obtain ⟨bx, ox, cx, rfl, hcx, hbx', hcx1, hcx2⟩ := rdv_cells hv hl1
  obtain ⟨by', oy, cy, rfl, hcy, hby', hcy1, hcy2⟩ := rdv_cells hu (by omega)
  obtain ⟨n, hn⟩ : ∃ n, n = xs.length := ⟨_, rfl⟩
  have HN := Lib.hid hn
  have HLY := Lib.hid hl
  rw [hl] at HU ⊢
  rw [← hn] at HV HU hl1 hl8 HLY ⊢
  obtain ⟨i0, hi, hz0, hz1, hz2⟩ := info_parts Tryz.infoInt
  clear hr hv hu hn hl hx hy hp hq hcx1 hcx2 hcy1 hcy2
  go_enter Tryz.func241, Tryz.ntmps241
  go_wp2_with fail
  refine (blockCount_v _ ys _ HU.out (by rw [HLY.out]; exact hl1) HSY.out).mono ?_
  rintro e w' ⟨rfl, rfl⟩
  rw [HQ.out]
  go_wp2_with (at_make; refine wpList_make_full _ rfl _ _ 26 rfl w.heap.size 3 i0 (.int .i64 0) 1 Tryz.underlying26 hi hz0 hz1 _ _ _ _ q rfl rfl rfl rfl (by rw [hz2]; omega) (by unfold maxLen; omega) (Nat.le_refl _) ?_)
  intro w1 hown1 hgrow1
  have hb1 : Below w.heap.size w w1 := (Below.refl _ _).grown hgrow1 (Nat.le_refl _) (fun k h => by cases h)
  have hown := own_made hown1
  clear hown1 hgrow1
  go_wp2_with fail
  refine (blockCount_v _ xs _ (rdv_below HV.out hb1) (by rw [← HN.out]; exact hl1) HSX.out).mono ?_
  rintro e w' ⟨rfl, rfl⟩
  rw [HP.out]
  go_wp2
  go_loopw [12] (fun i wr => ∃ k : Nat, k ≤ p ∧ i = .int .i64 k ∧ Own wr w.heap.size (.slice (some ⟨w.heap.size, 0, none⟩) q q) (innerTo xs ys q k) ∧ Below w.heap.size w wr) (fun i _ => p - (intOf i).toNat)
  case atStart => exact ⟨0, Nat.zero_le _, rfl, by rw [innerTo_zero]; exact hown, hb1⟩
  case round =>
    obtain ⟨k, hk, rfl, hown, hbel⟩ := hrel
    by_cases hlt : k < p
    · have hm : (k : Int) ∈ xs := (mem_part HX.out _).2 (by rw [HP.out]; omega)
      have hix := List.idxOf_lt_length_of_mem hm
      have hc1 := cells_at (cells_below hcy hbel) (xs.idxOf (k : Int)) (by have := HLY.out; have := HN.out; omega)
      have hz0' := (HSY.out (xs.idxOf (k : Int)) (by have := HLY.out; have := HN.out; omega)).1
      have hzq := lt_pSize ys (xs.idxOf (k : Int)) (by have := HLY.out; have := HN.out; omega)
      rw [HQ.out] at hzq
      obtain ⟨z, hz⟩ := Int.eq_ofNat_of_zero_le hz0'
      have hst0 := innerTo_step xs ys q k z (by omega) hz
      have hbd := innerTo_bd xs ys q k z (by omega)
      rw [hz] at hc1 hzq
      have hc2 := own_cell hown z (by rw [innerTo_length]; omega)
      have hfz := own_frozen hown z
      obtain ⟨hst, hgs⟩ := own_stored hown (innerTo_length _ _ _ _).symm z ((innerTo xs ys q k).getD z 0 + 1)
      rw [hst0] at hst
      obtain ⟨s, hs⟩ : ∃ s, s = (innerTo xs ys q k).getD z 0 := ⟨_, rfl⟩
      rw [← hs] at hst hbd hc2
      obtain ⟨r, hre⟩ : ∃ r, r = xs.idxOf (k : Int) := ⟨_, rfl⟩
      rw [← hre] at hc1 hix
      have HST := Lib.hid hst
      have HRE := Lib.hid hre
      have HM := Lib.hid hm
      have hixn : r < n := by have := HN.out; omega
      have HRV := Lib.hid (rdv_below HV.out hbel)
      clear hst0 hst hgs hz hz0' hs hre hm hown hix
      go_wp2_with fail
      refine (slicesIndex_v _ xs _ _ HRV.out HM.out).mono ?_
      rintro e w' ⟨rfl, rfl⟩
      rw [← HRE.out]
      go_wp2
      go_roundw
      case rel => exact ⟨k + 1, by omega, by go_num, HST.out, hbel.setCell (Nat.le_refl _) _⟩
      case measure => simp [intOf]; omega
    · have hkn : k = p := by omega
      subst hkn
      go_wp2
      go_ret
      exact ⟨_, rfl, hown, hbel⟩

def bellNext (last : Int) : List Int → List Int
  | [] => []
  | x :: xs => (last + x) :: bellNext (last + x) xs
def bellRow : Nat → List Int
  | 0 => [1]
  | n + 1 => (bellRow n).getD n 0 :: bellNext ((bellRow n).getD n 0) (bellRow n)

theorem bell_len : ∀ n, n < 8 → (bellRow n).length = n + 1 := by decide +kernel
theorem bell_bd : ∀ n, n < 8 → ∀ k, k < 9 → 0 ≤ (bellRow n).getD k 0 ∧ (bellRow n).getD k 0 ≤ 5000 := by decide +kernel
theorem bell_step : ∀ n, n < 7 → ∀ k, k < n + 1 → (bellRow (n + 1)).getD (k + 1) 0 = (bellRow (n + 1)).getD k 0 + (bellRow n).getD k 0 := by decide +kernel
theorem bell_head : ∀ n, n < 7 → (bellRow (n + 1)).take 1 = [(bellRow n).getD n 0] ∧ (bellRow (n + 1)).getD 0 0 = (bellRow n).getD n 0 := by decide +kernel
def bellN (n : Nat) : Int := (bellRow (n - 1)).getD (n - 1) 0

theorem own_lit1 (w : World) (B : Nat) (hB : B ≤ w.heap.size) (x : Int) : Own (w.alloc (.cells #[.int .i64 x] 3)) B (.slice (some ⟨w.heap.size, 0, none⟩) 1 1) [x] :=
  ⟨by simp, .inr ⟨w.heap.size, 1, #[.int .i64 x], rfl, hB, heap_alloc_new w _, Nat.le_refl _, by unfold maxLen; simp, rfl, by simp⟩⟩

def sliceLen : Value → Nat
  | .slice _ n _ => n
  | _ => 0

theorem bell_take (n k : Nat) (h : n < 7) (hk : k < n + 1) : (bellRow (n + 1)).take (k + 2) = (bellRow (n + 1)).take (k + 1) ++ [(bellRow (n + 1)).getD k 0 + (bellRow n).getD k 0] := by
  rw [take_snoc _ (k + 1) (by rw [bell_len _ (by omega)]; omega), bell_step n h k hk]

set_option maxHeartbeats 1600000 in
theorem partitionCount_v (n : Int) (w : World) (h0 : 0 ≤ n) (h8 : n ≤ 8) :
    Calls Tryz.prog 242 #[.int .i64 n] w (GivesI w (bellN n.toNat)) := by
  obtain ⟨c, rfl⟩ := Int.eq_ofNat_of_zero_le h0
  rw [Int.toNat_natCast]
  go_enter Tryz.func242, Tryz.ntmps242
  go_wp2
  go_loopw [3] (fun u wr => ∃ r m g cap : Nat, (r = 0 ∨ m ≤ c) ∧ r < 8 ∧ m = r + 1 ∧ u = .slice (some ⟨g, 0, none⟩) m cap ∧ Own wr w.heap.size (.slice (some ⟨g, 0, none⟩) m cap) (bellRow r) ∧ Below w.heap.size w wr)
    (fun u _ => 10 - sliceLen u)
  case atStart => exact ⟨0, 1, w.heap.size, 1, .inl rfl, by omega, rfl, rfl, own_lit1 w _ (Nat.le_refl _) 1, (Below.refl _ _).alloc (Nat.le_refl _) _⟩
  case round =>
    obtain ⟨r, m, g, cap, hr, hr8, hm, rfl, hown, hbel⟩ := hrel
    have HM := Lib.hid hm
    have hm1 : 1 ≤ m := by omega
    have hm9 : m < 9 := by omega
    have hir : (m : Int) - 1 = (r : Int) := by omega
    have hbl := bell_len r hr8
    have hlast := own_cell hown r (by rw [hbl]; omega)
    by_cases hlt : m < c
    · have hr7 : r < 7 := by omega
      obtain ⟨hh1, hh2⟩ := bell_head r hr7
      have HH1 := Lib.hid hh1
      have HH2 := Lib.hid hh2
      obtain ⟨x, hx⟩ : ∃ x, x = (bellRow r).getD r 0 := ⟨_, rfl⟩
      have hxb := bell_bd r hr8 r (by omega)
      rw [← hx] at hlast hxb
      have HX := Lib.hid hx
      have HBL := Lib.hid hbl
      have HO := Lib.hid hown
      have hB := hbel.size
      have hgl := own_lt hown g rfl
      have b1 : (m : Int) < (c : Int) := by omega
      clear hown hx hh1 hh2 hbl hm
      obtain ⟨wo, hwo⟩ : ∃ wo : World, wo = wr := ⟨_, rfl⟩
      subst hwo
      go_wp2
      go_loopw [4, 5, 23] (fun l u i wr => ∃ k g' cap' : Nat, k ≤ m ∧ i = .int .i64 k ∧ l = .int .i64 ((bellRow (r + 1)).getD k 0) ∧ u = .slice (some ⟨g', 0, none⟩) ((k + 1 : Nat)) cap' ∧ Own wr w.heap.size (.slice (some ⟨g', 0, none⟩) (k + 1) cap') ((bellRow (r + 1)).take (k + 1)) ∧ Own wr w.heap.size (.slice (some ⟨g, 0, none⟩) m cap) (bellRow r) ∧ Below w.heap.size w wr ∧ g < g')
        (fun _ _ i _ => m - (intOf i).toNat)
      case atStart =>
        refine ⟨0, wo.heap.size, 1, Nat.zero_le _, rfl, by rw [HH2.out, ← HX.out], rfl, ?_, own_alloc HO.out _, hbel.alloc hB _, hgl.2⟩
        rw [HH1.out, ← HX.out]
        exact own_lit1 wo _ hB x
      case round =>
        obtain ⟨k, g', cap', hk, rfl, rfl, rfl, hown', hown, hbel', hgg⟩ := hrel
        by_cases hkr : k < m
        · have hck := own_cell hown k (by rw [HBL.out, ← HM.out]; omega)
          have hyb := bell_bd r hr8 k (by have := HM.out; omega)
          have hlb := bell_bd (r + 1) (by omega) k (by have := HM.out; omega)
          have htk := bell_take r k hr7 (by have := HM.out; omega)
          have hst := bell_step r hr7 k (by have := HM.out; omega)
          obtain ⟨y, hy⟩ : ∃ y, y = (bellRow r).getD k 0 := ⟨_, rfl⟩
          obtain ⟨l, hl⟩ : ∃ l, l = (bellRow (r + 1)).getD k 0 := ⟨_, rfl⟩
          rw [← hy] at hck hyb htk hst
          rw [← hl] at hlb htk hst ⊢
          have HTK := Lib.hid htk
          have HST := Lib.hid hst
          have HO' := Lib.hid hown'
          have HOr := Lib.hid hown
          have hB' := hbel'.size
          have hgl' := own_lt hown' g' rfl
          have htl : ((bellRow (r + 1)).take (k + 1)).length = k + 1 := by rw [List.length_take, bell_len _ (by omega)]; have := HM.out; omega
          have HTL := Lib.hid htl
          have b2 : (k : Int) < (m : Int) := by omega
          clear hy hl htk hst hown' hown htl
          go_wp2_with (at_builtin; refine wpList_push rfl _ _ rfl w.heap.size g' (k + 1) cap' ((bellRow (r + 1)).take (k + 1)) rfl (own_alloc HO'.out _) (by rw [HTL.out]) ⟨wr.heap.size, 0, none⟩ rfl (l + y) (cell_new1 _ _ _) (by omega) (by simp; omega) ?_)
          intro g3 cap3 w3 hown3 hgr3 hg3
          have hbel3 : Below w.heap.size w w3 := (hbel'.alloc hB' _).grown hgr3 (by simp; omega) (fun q hq => by cases hq; exact hgl'.1)
          have hor3 : Own w3 w.heap.size (.slice (some ⟨g, 0, none⟩) m cap) (bellRow r) := own_grown (own_alloc HOr.out _) hgr3 (.inr (by simp [Value.ownBlock]; omega))
          have hg3' : g < g3 := by
            have := own_lt HOr.out g rfl
            first | omega | (simp at hg3; omega)
          have HO3 := Lib.hid hown3
          have HOr3 := Lib.hid hor3
          clear hown3 hgr3 hg3 hor3
          go_wp2
          go_roundw
          case rel => exact ⟨k + 1, g3, cap3, by omega, by go_num, by rw [HST.out], rfl, by rw [HTK.out]; exact HO3.out, HOr3.out, hbel3, hg3'⟩
          case measure => simp [intOf]; omega
        · have hkr : k = m := by omega
          have hbl2 := bell_len (r + 1) (by omega)
          rw [hkr, List.take_of_length_le (by have := HM.out; omega)] at hown'
          have HBL2 := Lib.hid hbl2
          clear hbl2
          subst hkr
          go_wp2
          go_roundw
          case rel => exact ⟨r + 1, k + 1, g', cap', by omega, by have := HM.out; omega, by rw [HM.out], rfl, hown', hbel'⟩
          case measure => simp [sliceLen]; omega
    · have hrc : r = c - 1 := by omega
      have HRC := Lib.hid hrc
      have b1 : ¬ (m : Int) < (c : Int) := by omega
      obtain ⟨x, hx⟩ : ∃ x, x = (bellRow r).getD r 0 := ⟨_, rfl⟩
      rw [← hx] at hlast
      have HX := Lib.hid hx
      clear hrc hm hbl hx
      go_wp2
      go_ret
      have he : bellN c = x := by rw [HX.out]; unfold bellN; rw [← HRC.out]
      exact ⟨ret_int he.symm, hbel⟩
end

section
open Go.RowKit

theorem sum_set (l : List Int) (z : Nat) (h : z < l.length) : (l.set z (l.getD z 0 + 1)).sum = l.sum + 1 := by
  induction l generalizing z with
  | nil => simp at h
  | cons x l ih =>
    cases z with
    | zero => simp; omega
    | succ z =>
      have := ih z (by simpa using h)
      simp only [List.set_cons_succ, List.sum_cons, List.getD_cons_succ, this]
      omega

theorem sum_zeros (n : Nat) : (List.replicate n (0 : Int)).sum = 0 := by
  induction n with
  | zero => rfl
  | succ n ih => simp [List.replicate_succ, ih]

theorem innerTo_sum {xs ys : List Int} (hx : partIn xs = true) (hy : partIn ys = true) (hl : ys.length = xs.length) (q p : Nat) (hp : pSize xs = p) (hq : pSize ys = q) : ∀ k, k ≤ p → (innerTo xs ys q k).sum = k := by
  intro k
  induction k with
  | zero => intro _; rw [innerTo_zero, sum_zeros]; rfl
  | succ k ih =>
    intro hk
    have hm : (k : Int) ∈ xs := (mem_part hx _).2 (by rw [hp]; omega)
    have hix := List.idxOf_lt_length_of_mem hm
    have hz0 := (partIn_small hy (xs.idxOf (k : Int)) (by omega)).1
    have hzq := lt_pSize ys (xs.idxOf (k : Int)) (by omega)
    obtain ⟨z, hz⟩ := Int.eq_ofNat_of_zero_le hz0
    rw [← innerTo_step xs ys q k z (by omega) hz, sum_set _ _ (by rw [innerTo_length]; omega), ih (by omega)]
    omega

theorem inner_facts {xs ys : List Int} (h : finerIn xs ys = true) : (inner xs ys).sum ≤ 8 ∧ ∀ y, y < (inner xs ys).length → 1 ≤ (inner xs ys).getD y 0 := by
  simp only [finerIn, Bool.and_eq_true] at h
  obtain ⟨ha, hf⟩ := h
  obtain ⟨hx, hy, hl⟩ := alike_iff.1 ha
  have bx := pSize_bd (partIn_small hx)
  have by' := pSize_bd (partIn_small hy)
  obtain ⟨p, hp⟩ := Int.eq_ofNat_of_zero_le bx.1
  obtain ⟨q, hq⟩ := Int.eq_ofNat_of_zero_le by'.1
  have e : inner xs ys = innerTo xs ys q p := by unfold inner; rw [hp, hq, Int.toNat_natCast, Int.toNat_natCast]
  rw [e]
  refine ⟨by rw [innerTo_sum hx hy hl.symm q p hp hq p (Nat.le_refl _)]; omega, fun y hyq => ?_⟩
  rw [innerTo_length] at hyq
  rw [innerTo_getD _ _ _ _ _ hyq]
  have hm : (y : Int) ∈ ys := (mem_part hy _).2 (by omega)
  have hi := List.idxOf_lt_length_of_mem hm
  have hg := getD_idxOf hm
  have hv0 := (partIn_small hx (ys.idxOf (y : Int)) (by omega)).1
  have hvp := lt_pSize xs (ys.idxOf (y : Int)) (by omega)
  obtain ⟨v, hv⟩ := Int.eq_ofNat_of_zero_le hv0
  have hmv : (v : Int) ∈ xs := mem_of_getD (by omega) hv
  have hu : under xs ys y v = true := by
    simp only [under, decide_eq_true_eq]
    rw [← hg]
    exact (finer_iff.1 hf _ _ (List.idxOf_lt_length_of_mem hmv) (by omega) (by rw [getD_idxOf hmv, hv]))
  have : v ∈ (List.range p).filter (under xs ys y) := by
    rw [List.mem_filter]
    exact ⟨by simp; omega, hu⟩
  have := List.length_pos_of_mem this
  omega

def prodOf (f : Nat → Int) (l : List Int) : Int := l.foldl (fun w c => w * f c.toNat) 1

theorem prodOf_snoc (f : Nat → Int) (l : List Int) (c : Int) : prodOf f (l ++ [c]) = prodOf f l * f c.toNat := by simp [prodOf, List.foldl_append]

theorem prodOf_bd (f : Nat → Int) (F : Nat → Nat) (h0 : F 0 = 1) (hm : ∀ s, s < 9 → ∀ c, c < 9 → s + c ≤ 8 → F s * (f c).natAbs ≤ F (s + c)) :
    ∀ l : List Int, (∀ c ∈ l, 0 ≤ c) → l.sum ≤ 8 → 0 ≤ l.sum ∧ (prodOf f l).natAbs ≤ F l.sum.toNat := by
  refine snoc_induction (fun _ _ => ⟨Int.le_refl _, by simp [prodOf, h0]⟩) fun l c ih hc hs => ?_
  have hsum : (l ++ [c]).sum = l.sum + c := by simp [List.sum_append]
  have hc0 := hc c (by simp)
  rw [hsum] at hs ⊢
  have hl0 : 0 ≤ l.sum ∧ (prodOf f l).natAbs ≤ F l.sum.toNat := by
    refine ih (fun d hd => hc d (by simp [hd])) (by omega)
  refine ⟨by omega, ?_⟩
  rw [prodOf_snoc, Int.natAbs_mul]
  have h1 := hm l.sum.toNat (by omega) c.toNat (by omega) (by omega)
  have h2 : (l.sum + c).toNat = l.sum.toNat + c.toNat := by omega
  rw [h2]
  exact Nat.le_trans (Nat.mul_le_mul_right _ hl0.2) h1

theorem sum_take_le : ∀ (l : List Int) (k : Nat), (∀ c ∈ l, 0 ≤ c) → (l.take k).sum ≤ l.sum := by
  intro l
  induction l with
  | nil => intro k _; simp
  | cons x l ih =>
    intro k h
    cases k with
    | zero =>
      have : ∀ m : List Int, (∀ c ∈ m, 0 ≤ c) → 0 ≤ m.sum := by
        intro m
        induction m with
        | nil => intro _; exact Int.le_refl _
        | cons y m ih2 =>
          intro h2
          have a1 := h2 y (by simp)
          have a2 := ih2 fun c hc => h2 c (by simp [hc])
          simp; omega
      exact this _ h
    | succ k =>
      have := ih k fun c hc => h c (by simp [hc])
      simp; omega

theorem getD_le_sum : ∀ (l : List Int) (k : Nat), (∀ c ∈ l, 0 ≤ c) → k < l.length → l.getD k 0 ≤ l.sum := by
  intro l k h hk
  have h1 := sum_take_le l (k + 1) h
  rw [take_snoc l k hk, List.sum_append] at h1
  have h2 : 0 ≤ (l.take k).sum := by
    have := sum_take_le (l.take k) 0 fun c hc => h c (List.mem_of_mem_take hc)
    simpa using this
  simp at h1 ⊢
  omega

def fA : Nat → Nat
  | 0 => 1
  | n + 1 => (n + 1) * fA n
def sgp : Nat → Int
  | 0 => 1
  | f + 1 => sgp f * (-((f + 1 : Nat) : Int))
def sgn (c : Nat) : Int := sgp (c - 1)

theorem bell_mul : ∀ s, s < 9 → ∀ c, c < 9 → s + c ≤ 8 → (bellN s).toNat * (bellN c).natAbs ≤ (bellN (s + c)).toNat := by decide +kernel
theorem sgn_mul : ∀ s, s < 9 → ∀ c, c < 9 → s + c ≤ 8 → fA s * (sgn c).natAbs ≤ fA (s + c) := by decide +kernel
theorem sgp_mul : ∀ s, s < 9 → ∀ c, c < 9 → s + c ≤ 8 → ∀ f, f < c → fA s * (sgp f).natAbs ≤ 40320 := by decide +kernel
theorem bell_le : ∀ s, s < 9 → (bellN s).toNat ≤ 40320 := by decide +kernel
theorem fA_le : ∀ s, s < 9 → fA s ≤ 40320 := by decide +kernel

theorem prod_way (f : Nat → Int) (F : Nat → Nat) (h0 : F 0 = 1) (hm : ∀ s, s < 9 → ∀ c, c < 9 → s + c ≤ 8 → F s * (f c).natAbs ≤ F (s + c)) (hF : ∀ s, s < 9 → F s ≤ 40320)
    (l : List Int) (hl : l.sum ≤ 8) (hp : ∀ y, y < l.length → 1 ≤ l.getD y 0) (k : Nat) :
    -40320 ≤ prodOf f (l.take k) ∧ prodOf f (l.take k) ≤ 40320 ∧ (k < l.length → (1 ≤ l.getD k 0 ∧ l.getD k 0 ≤ 8) ∧ prodOf f (l.take (k + 1)) = prodOf f (l.take k) * f (l.getD k 0).toNat ∧
      ∃ s : Nat, s < 9 ∧ s + (l.getD k 0).toNat ≤ 8 ∧ (prodOf f (l.take k)).natAbs ≤ F s) := by
  have hnn : ∀ c ∈ l, 0 ≤ c := fun c hc => by
    obtain ⟨j, hj, e⟩ := mem_iff_getD.1 hc
    have := hp j hj
    omega
  have hs := sum_take_le l k hnn
  obtain ⟨h1, h2⟩ := prodOf_bd f F h0 hm (l.take k) (fun c hc => hnn c (List.mem_of_mem_take hc)) (by omega)
  have h3 := hF (l.take k).sum.toNat (by omega)
  refine ⟨by omega, by omega, fun hk => ⟨⟨hp k hk, ?_⟩, ?_, ?_⟩⟩
  · have := getD_le_sum l k hnn hk
    omega
  · rw [take_snoc l k hk, prodOf_snoc]
  · have h4 := sum_take_le l (k + 1) hnn
    rw [take_snoc l k hk, List.sum_append] at h4
    have h5 := hp k hk
    refine ⟨(l.take k).sum.toNat, by omega, ?_, h2⟩
    have e : ([l.getD k 0] : List Int).sum = l.getD k 0 := by simp
    rw [e] at h4
    omega

def finerInterval (xs ys : List Int) : Int × Bool := if finerIn xs ys then (prodOf bellN (inner xs ys), true) else (0, false)
def finerSign (xs ys : List Int) : Int × Bool := if finerIn xs ys then (prodOf sgn (inner xs ys), true) else (0, false)

theorem iFinerIn_is (b : Bool) (v u : Value) (xs ys : List Int) (w : World) (hv : RdV w v xs) (hu : RdV w u ys) (h : Hid (finerIn xs ys = b)) :
    Calls Tryz.prog 189 #[v, u] w (QB w b) := by
  rw [← h.out]; exact iFinerIn_q v u xs ys w hv hu
theorem own_slice {w : World} {B : Nat} {v : Value} {xs : List Int} (h : Own w B v xs) (hl : 1 ≤ xs.length) : ∃ g cap, v = .slice (some ⟨g, 0, none⟩) xs.length cap ∧ g < w.heap.size := by
  rcases own_view h with ⟨_, hn⟩ | ⟨g, cap, hv, _, hg, _⟩
  · rw [hn] at hl; simp at hl
  · exact ⟨g, cap, hv, hg⟩

set_option maxHeartbeats 1600000 in
theorem iFinerInterval_v (v u : Value) (xs ys : List Int) (w : World) (hv : RdV w v xs) (hu : RdV w u ys) :
    Calls Tryz.prog 192 #[v, u] w (GivesIB w (finerInterval xs ys)) := by
  have HV := Lib.hid hv
  have HU := Lib.hid hu
  clear hv hu
  cases hf : finerIn xs ys
  · have HF := Lib.hid hf
    have hr : finerInterval xs ys = (0, false) := by simp [finerInterval, hf]
    rw [hr]
    clear hf hr
    go_enter Tryz.func192, Tryz.ntmps192
    go_wp2_with fail
    refine (iFinerIn_is false _ _ _ _ _ HV.out HU.out HF).mono ?_
    rintro e w1 ⟨rfl, hq⟩
    have hb := hq.below
    clear hq
    go_wp2
    go_ret2
    exact ⟨rfl, hb⟩
  · have HF := Lib.hid hf
    have hr : finerInterval xs ys = (prodOf bellN (inner xs ys), true) := by simp [finerInterval, hf]
    rw [hr]
    obtain ⟨hsum, hpos⟩ := inner_facts hf
    have ha : alike xs ys = true ∧ finerB xs ys = true := by simpa [finerIn] using hf
    obtain ⟨hx, hy, hl⟩ := alike_iff.1 ha.1
    have HPX := Lib.hid hx
    have HPY := Lib.hid hy
    have HLL := Lib.hid hl.symm
    have HFB := Lib.hid ha.2
    have HW := Lib.hid (prod_way bellN (fun s => (bellN s).toNat) (by decide) bell_mul bell_le (inner xs ys) hsum hpos)
    have hil : 1 ≤ (inner xs ys).length := by
      have := pSize_pos (partIn_small hy) (partIn_len hy).1
      rw [inner_length]; omega
    have hil8 : (inner xs ys).length ≤ 8 := by
      have := pSize_bd (partIn_small hy)
      rw [inner_length]; omega
    clear hf hr hsum hpos ha hx hy hl
    go_enter Tryz.func192, Tryz.ntmps192
    go_wp2_with fail
    refine (iFinerIn_is true _ _ _ _ _ HV.out HU.out HF).mono ?_
    rintro e w1 ⟨rfl, hq⟩
    have hb1 := hq.below
    have HV1 := Lib.hid (rdv_below HV.out hb1)
    have HU1 := Lib.hid (rdv_below HU.out hb1)
    clear hq
    go_wp2_with fail
    refine (countsWithin_v _ _ xs ys _ HV1.out HU1.out HPX.out HPY.out HLL.out).mono ?_
    rintro e w2 ⟨uv, rfl, ho, hb2⟩
    obtain ⟨g, cap, rfl, hg⟩ := own_slice ho hil
    have hbel := below_step hb1 hb2
    have HO := Lib.hid ho
    obtain ⟨n, hn⟩ : ∃ n, n = (inner xs ys).length := ⟨_, rfl⟩
    rw [← hn] at HO hil hil8 ⊢
    have HN := Lib.hid hn
    clear ho hb1 hb2 hn
    go_wp2
    go_loopw [6, 17] (fun u i wr => ∃ k : Nat, k ≤ n ∧ i = .int .i64 k ∧ u = .int .i64 (prodOf bellN ((inner xs ys).take k)) ∧ Own wr w1.heap.size (.slice (some ⟨g, 0, none⟩) n cap) (inner xs ys) ∧ Below w.heap.size w wr) (fun _ i _ => n - (intOf i).toNat)
    case atStart => exact ⟨0, Nat.zero_le _, rfl, rfl, HO.out, hbel⟩
    case round =>
      obtain ⟨k, hk, rfl, rfl, hown, hbelr⟩ := hrel
      obtain ⟨hp1, hp2, hp3⟩ := HW.out k
      by_cases hlt : k < n
      · obtain ⟨⟨hc1, hc2⟩, hst, s, hs9, hsc, hsF⟩ := hp3 (by rw [← HN.out]; exact hlt)
        have hck := own_cell hown k (by rw [← HN.out]; exact hlt)
        have hbl := bell_mul s hs9 ((inner xs ys).getD k 0).toNat (by omega) hsc
        have hbF := bell_le (s + ((inner xs ys).getD k 0).toNat) (by omega)
        obtain ⟨c, hc⟩ : ∃ c, c = (inner xs ys).getD k 0 := ⟨_, rfl⟩
        obtain ⟨x, hx⟩ : ∃ x, x = prodOf bellN ((inner xs ys).take k) := ⟨_, rfl⟩
        rw [← hc] at hc1 hc2 hst hsc hck hbl hbF
        rw [← hx] at hp1 hp2 hst hsF ⊢
        have hmul : (x * bellN c.toNat).natAbs ≤ 40320 := by
          rw [Int.natAbs_mul]
          exact Nat.le_trans (Nat.le_trans (Nat.mul_le_mul_right _ hsF) hbl) hbF
        obtain ⟨b, hb⟩ : ∃ b, b = bellN c.toNat := ⟨_, rfl⟩
        rw [← hb] at hst hmul
        have HB := Lib.hid hb
        have HST := Lib.hid hst
        have HO2 := Lib.hid hown
        have b1 : (k : Int) < n := by omega
        have b2 : IntKind.i64.wrap (x * b) = x * b := IntWalk.i64_in _ (by omega)
        have b3 : wrap64 (x * b) = x * b := by rw [← IntWalk.i64_left]; exact b2
        clear hc hx hb hst hown hp3 hsc hbl hbF hsF hmul
        go_wp2_with fail
        refine (partitionCount_v c _ (by omega) hc2).mono ?_
        rintro e w3 ⟨rfl, hb3⟩
        rw [← HB.out]
        have hbel3 := below_step hbelr hb3
        have HO3 := Lib.hid (own_below HO2.out hb3)
        clear hb3
        go_wp2
        go_roundw
        case rel => exact ⟨k + 1, by omega, by go_num, by rw [HST.out], HO3.out, hbel3⟩
        case measure => simp [intOf]; omega
      · have hkn : k = n := by omega
        subst hkn
        have he : prodOf bellN ((inner xs ys).take k) = prodOf bellN (inner xs ys) := by rw [List.take_of_length_le (by rw [← HN.out]; omega)]
        rw [he]
        clear hp3 he
        go_wp2
        go_ret2
        exact ⟨rfl, hbelr⟩

set_option maxHeartbeats 1600000 in
theorem iFinerSign_v (v u : Value) (xs ys : List Int) (w : World) (hv : RdV w v xs) (hu : RdV w u ys) :
    Calls Tryz.prog 191 #[v, u] w (GivesIB w (finerSign xs ys)) := by
  have HV := Lib.hid hv
  have HU := Lib.hid hu
  clear hv hu
  cases hf : finerIn xs ys
  · have HF := Lib.hid hf
    have hr : finerSign xs ys = (0, false) := by simp [finerSign, hf]
    rw [hr]
    clear hf hr
    go_enter Tryz.func191, Tryz.ntmps191
    go_wp2_with fail
    refine (iFinerIn_is false _ _ _ _ _ HV.out HU.out HF).mono ?_
    rintro e w1 ⟨rfl, hq⟩
    have hb := hq.below
    clear hq
    go_wp2
    go_ret2
    exact ⟨rfl, hb⟩
  · have HF := Lib.hid hf
    have hr : finerSign xs ys = (prodOf sgn (inner xs ys), true) := by simp [finerSign, hf]
    rw [hr]
    obtain ⟨hsum, hpos⟩ := inner_facts hf
    have ha : alike xs ys = true ∧ finerB xs ys = true := by simpa [finerIn] using hf
    obtain ⟨hx, hy, hl⟩ := alike_iff.1 ha.1
    have HPX := Lib.hid hx
    have HPY := Lib.hid hy
    have HLL := Lib.hid hl.symm
    have HFB := Lib.hid ha.2
    have HW := Lib.hid (prod_way sgn fA rfl sgn_mul fA_le (inner xs ys) hsum hpos)
    have hil : 1 ≤ (inner xs ys).length := by
      have := pSize_pos (partIn_small hy) (partIn_len hy).1
      rw [inner_length]; omega
    have hil8 : (inner xs ys).length ≤ 8 := by
      have := pSize_bd (partIn_small hy)
      rw [inner_length]; omega
    clear hf hr hsum hpos ha hx hy hl
    go_enter Tryz.func191, Tryz.ntmps191
    go_wp2_with fail
    refine (iFinerIn_is true _ _ _ _ _ HV.out HU.out HF).mono ?_
    rintro e w1 ⟨rfl, hq⟩
    have hb1 := hq.below
    have HV1 := Lib.hid (rdv_below HV.out hb1)
    have HU1 := Lib.hid (rdv_below HU.out hb1)
    clear hq
    go_wp2_with fail
    refine (countsWithin_v _ _ xs ys _ HV1.out HU1.out HPX.out HPY.out HLL.out).mono ?_
    rintro e w2 ⟨uv, rfl, ho, hb2⟩
    obtain ⟨g, cap, rfl, hg⟩ := own_slice ho hil
    have hbel := below_step hb1 hb2
    have HO := Lib.hid ho
    obtain ⟨n, hn⟩ : ∃ n, n = (inner xs ys).length := ⟨_, rfl⟩
    rw [← hn] at HO hil hil8 ⊢
    have HN := Lib.hid hn
    clear ho hb1 hb2 hn
    go_wp2
    go_loopw [6, 18] (fun u i wr => ∃ k : Nat, k ≤ n ∧ i = .int .i64 k ∧ u = .int .i64 (prodOf sgn ((inner xs ys).take k)) ∧ Own wr w1.heap.size (.slice (some ⟨g, 0, none⟩) n cap) (inner xs ys) ∧ Below w.heap.size w wr) (fun _ i _ => n - (intOf i).toNat)
    case atStart => exact ⟨0, Nat.zero_le _, rfl, rfl, HO.out, hbel⟩
    case round =>
      obtain ⟨k, hk, rfl, rfl, hown, hbelr⟩ := hrel
      obtain ⟨hp1, hp2, hp3⟩ := HW.out k
      by_cases hlt : k < n
      · obtain ⟨⟨hc1, hc2⟩, hst, s, hs9, hsc, hsF⟩ := hp3 (by rw [← HN.out]; exact hlt)
        have hck := own_cell hown k (by rw [← HN.out]; exact hlt)
        have hbl := sgn_mul s hs9 ((inner xs ys).getD k 0).toNat (by omega) hsc
        have hbF := fA_le (s + ((inner xs ys).getD k 0).toNat) (by omega)
        obtain ⟨c, hc⟩ : ∃ c, c = (inner xs ys).getD k 0 := ⟨_, rfl⟩
        obtain ⟨x, hx⟩ : ∃ x, x = prodOf sgn ((inner xs ys).take k) := ⟨_, rfl⟩
        rw [← hc] at hc1 hc2 hst hsc hck hbl hbF
        rw [← hx] at hp1 hp2 hst hsF ⊢
        have hmul : (x * sgn c.toNat).natAbs ≤ 40320 := by
          rw [Int.natAbs_mul]
          exact Nat.le_trans (Nat.le_trans (Nat.mul_le_mul_right _ hsF) hbl) hbF
        obtain ⟨m, hm⟩ := Int.eq_ofNat_of_zero_le (show 0 ≤ c by omega)
        subst hm
        rw [Int.toNat_natCast] at hst hsc hbl hbF hmul
        have hway : ∀ f, f < m → (x * sgp f).natAbs ≤ 40320 := fun f hf => by
          rw [Int.natAbs_mul]
          exact Nat.le_trans (Nat.mul_le_mul_right _ hsF) (sgp_mul s hs9 m (by omega) hsc f hf)
        have HWAY := Lib.hid hway
        have HST := Lib.hid hst
        have HO2 := Lib.hid hown
        have HX := Lib.hid hx
        have b1 : (k : Int) < n := by omega
        clear hc hx hst hown hp3 hsc hbl hbF hsF hmul hway
        obtain ⟨wo, hwo⟩ : ∃ wo : World, wo = wr := ⟨_, rfl⟩
        subst hwo
        go_wp2
        go_loop [6, 9] (fun u i => ∃ f : Nat, 1 ≤ f ∧ f ≤ m ∧ i = .int .i64 f ∧ u = .int .i64 (x * sgp (f - 1))) (fun _ i => m - (intOf i).toNat)
        case atStart => exact ⟨1, by omega, by omega, rfl, by simp [sgp]⟩
        case round =>
          obtain ⟨f, hf1, hfm, rfl, rfl⟩ := hrel
          have hw0 := HWAY.out (f - 1) (by omega)
          by_cases hlt2 : f < m
          · have hw1 := HWAY.out f hlt2
            have hsf : x * sgp f = x * sgp (f - 1) * -(f : Int) := by
              obtain ⟨e, rfl⟩ : ∃ e, f = e + 1 := ⟨f - 1, by omega⟩
              rw [sgp, Int.mul_assoc]
              rfl
            rw [hsf] at hw1
            obtain ⟨y, hy⟩ : ∃ y, y = x * sgp (f - 1) := ⟨_, rfl⟩
            rw [← hy] at hw0 hw1 hsf ⊢
            have HSF := Lib.hid hsf
            have b4 : wrap64 (y * -(f : Int)) = y * -(f : Int) := IntWalk.wrap64_in _ (by omega)
            clear hy hsf
            go_wp2
            go_round
            case rel => exact ⟨f + 1, by omega, by omega, by go_num, by rw [Nat.add_sub_cancel, HSF.out]⟩
            case measure => simp [intOf]; omega
          · have hfm : f = m := by omega
            subst hfm
            go_wp2
            go_roundw
            case rel => exact ⟨k + 1, by omega, by go_num, by rw [HST.out]; rfl, HO2.out, hbelr⟩
            case measure => simp [intOf]; omega
      · have hkn : k = n := by omega
        subst hkn
        have he : prodOf sgn ((inner xs ys).take k) = prodOf sgn (inner xs ys) := by rw [List.take_of_length_le (by rw [← HN.out]; omega)]
        rw [he]
        clear hp3 he
        go_wp2
        go_ret2
        exact ⟨rfl, hbelr⟩
end

def dif (a b : List Int) (i k : Nat) : Nat := if decide (a.getD i 0 = a.getD k 0) = decide (b.getD i 0 = b.getD k 0) then 0 else 1
def qRow (a b : List Int) (i : Nat) : Nat → Nat
  | 0 => 0
  | k + 1 => qRow a b i k + dif a b i k
def quarTo (a b : List Int) : Nat → Nat
  | 0 => 0
  | i + 1 => quarTo a b i + qRow a b i i
def quar (a b : List Int) : Nat := quarTo a b a.length

theorem dif_le (a b : List Int) (i k : Nat) : dif a b i k ≤ 1 := by unfold dif; split <;> omega
theorem dif_zero {a b : List Int} {i k : Nat} : dif a b i k = 0 ↔ (a.getD i 0 = a.getD k 0 ↔ b.getD i 0 = b.getD k 0) := by
  unfold dif
  by_cases h1 : a.getD i 0 = a.getD k 0 <;> by_cases h2 : b.getD i 0 = b.getD k 0 <;> simp [h1, h2]

theorem qRow_le (a b : List Int) (i k : Nat) : qRow a b i k ≤ k := by
  induction k with
  | zero => exact Nat.le_refl _
  | succ k ih => have := dif_le a b i k; unfold qRow; omega
theorem quarTo_le (a b : List Int) (n : Nat) : quarTo a b n ≤ n * n := by
  induction n with
  | zero => exact Nat.le_refl _
  | succ n ih =>
    have h1 := qRow_le a b n n
    have h2 : (n + 1) * (n + 1) = n * n + n + n + 1 := by rw [Nat.succ_mul, Nat.mul_succ]; omega
    unfold quarTo
    omega

section
open Go.RowKit

theorem dif_sym (a b : List Int) (i k : Nat) : dif a b i k = dif a b k i := by
  unfold dif
  have e1 : decide (a.getD i 0 = a.getD k 0) = decide (a.getD k 0 = a.getD i 0) := decide_eq_decide.2 ⟨Eq.symm, Eq.symm⟩
  have e2 : decide (b.getD i 0 = b.getD k 0) = decide (b.getD k 0 = b.getD i 0) := decide_eq_decide.2 ⟨Eq.symm, Eq.symm⟩
  rw [e1, e2]

theorem agree_v (v u : Value) (xs ys : List Int) (i k : Nat) (w : World) (hv : RdV w v xs) (hu : RdV w u ys) (hl : ys.length = xs.length) (hi : i < xs.length) (hk : k < xs.length) :
    Calls Tryz.prog 282 #[v, u, .int .i64 i, .int .i64 k] w (QB w (decide (dif xs ys i k = 0))) := by
  obtain ⟨bx, ox, cx, rfl, hcx, hbx, hcx1, hcx2⟩ := rdv_cells hv (by omega)
  obtain ⟨by', oy, cy, rfl, hcy, hby, hcy1, hcy2⟩ := rdv_cells hu (by omega)
  clear hv hu hcx1 hcx2 hcy1 hcy2
  have hc1 := cells_at hcx i hi
  have hc2 := cells_at hcx k hk
  have hc3 := cells_at hcy i (by omega)
  have hc4 := cells_at hcy k (by omega)
  obtain ⟨n, hn⟩ : ∃ n, n = xs.length := ⟨_, rfl⟩
  rw [hl, ← hn]
  rw [← hn] at hi hk
  have b1 : (i : Int) < n := by omega
  have b2 : (k : Int) < n := by omega
  have hr : decide (dif xs ys i k = 0) = ((xs.getD i 0 == xs.getD k 0) == (ys.getD i 0 == ys.getD k 0)) := by
    have e1 : (xs.getD i 0 == xs.getD k 0) = decide (xs.getD i 0 = xs.getD k 0) := rfl
    have e2 : (ys.getD i 0 == ys.getD k 0) = decide (ys.getD i 0 = ys.getD k 0) := rfl
    rw [e1, e2]
    unfold dif
    cases decide (xs.getD i 0 = xs.getD k 0) <;> cases decide (ys.getD i 0 = ys.getD k 0) <;> rfl
  rw [hr]
  clear hr hl hn
  obtain ⟨x, hx⟩ : ∃ x, x = xs.getD i 0 := ⟨_, rfl⟩
  obtain ⟨y, hy⟩ : ∃ y, y = xs.getD k 0 := ⟨_, rfl⟩
  obtain ⟨s, hs⟩ : ∃ s, s = ys.getD i 0 := ⟨_, rfl⟩
  obtain ⟨z, hz⟩ : ∃ z, z = ys.getD k 0 := ⟨_, rfl⟩
  rw [← hx] at hc1 ⊢
  rw [← hy] at hc2 ⊢
  rw [← hs] at hc3 ⊢
  rw [← hz] at hc4 ⊢
  clear hx hy hs hz hcx hcy
  go_enter Tryz.func282, Tryz.ntmps282
  go_wp2
  go_quiet (fail)
  go_wp2
  go_ret
  exact ⟨rfl, (Quiet.refl w).drewN _⟩

set_option maxHeartbeats 1600000 in
theorem quarrel_v (v u : Value) (xs ys : List Int) (w : World) (hv : RdV w v xs) (hu : RdV w u ys) (h1 : 1 ≤ xs.length) (h8 : xs.length ≤ 8) (hlen : ys.length = xs.length) :
    Calls Tryz.prog 243 #[v, u] w (QI w (quar xs ys)) := by
  have HV := Lib.hid hv
  have HU := Lib.hid hu
  have hlv : ∃ ao ca, v = .slice ao xs.length ca := by obtain ⟨ao, ca, h, _⟩ := hv; exact ⟨ao, ca, h⟩
  obtain ⟨ao, ca, rfl⟩ := hlv
  clear hv hu
  obtain ⟨n, hn⟩ : ∃ n, n = xs.length := ⟨_, rfl⟩
  have HN := Lib.hid hn
  have HLY := Lib.hid hlen
  rw [← hn] at HV h1 h8 ⊢
  clear hn hlen
  go_enter Tryz.func243, Tryz.ntmps243
  go_wp2
  go_loopw [5, 10] (fun c i wr => ∃ (k s : Nat), k ≤ n ∧ i = .int .i64 k ∧ c = .int .i64 s ∧ Hid (s = quarTo xs ys k) ∧ Quiet w wr) (fun _ i _ => n - (intOf i).toNat)
  case atStart => exact ⟨0, 0, Nat.zero_le _, rfl, rfl, Lib.hid rfl, Quiet.refl _⟩
  case round =>
    obtain ⟨k, s, hk, rfl, rfl, HS, hq⟩ := hrel
    by_cases hlt : k < n
    · go_wp2
      go_loopw [5, 14] (fun c i wr => ∃ (j s2 : Nat), j ≤ k ∧ i = .int .i64 j ∧ c = .int .i64 s2 ∧ Hid (s2 = s + qRow xs ys k j) ∧ Quiet w wr) (fun _ i _ => k - (intOf i).toNat)
      case atStart => exact ⟨0, s, Nat.zero_le _, rfl, rfl, Lib.hid rfl, hq⟩
      case round =>
        obtain ⟨j, s2, hj, rfl, rfl, HS2, hq2⟩ := hrel
        have hs2 : s2 ≤ 1000 := by
          have e1 := HS2.out
          have e2 := HS.out
          have e3 := qRow_le xs ys k j
          have e4 := quarTo_le xs ys k
          have e5 := Nat.mul_le_mul (show k ≤ 8 by omega) (show k ≤ 8 by omega)
          omega
        by_cases hjk : j < k
        · have HC := Lib.hid (agree_v (.slice ao n ca) u xs ys j k wr (rdv_quiet HV.out hq2) (rdv_quiet HU.out hq2) HLY.out (by have := HN.out; omega) (by have := HN.out; omega))
          rw [dif_sym] at HC
          by_cases hd : dif xs ys k j = 0
          · rw [decide_eq_true hd] at HC
            have HD := Lib.hid hd
            clear hd
            go_wp2_with fail
            refine HC.out.mono ?_
            rintro e w5 ⟨rfl, hq5⟩
            have HQ := Lib.hid (hq2.trans hq5)
            clear HC hq5
            go_wp2
            go_roundw
            case rel => exact ⟨j + 1, s2, by omega, by go_num, rfl, Lib.hid (by rw [HS2.out]; show _ = s + (qRow xs ys k j + dif xs ys k j); rw [HD.out]; rfl), HQ.out⟩
            case measure => simp [intOf]; omega
          · rw [decide_eq_false hd] at HC
            have HD := Lib.hid hd
            clear hd
            go_wp2_with fail
            refine HC.out.mono ?_
            rintro e w5 ⟨rfl, hq5⟩
            have HQ := Lib.hid (hq2.trans hq5)
            clear HC hq5
            go_wp2
            go_roundw
            case rel => exact ⟨j + 1, s2 + 1, by omega, by go_num, by go_num, Lib.hid (by have e1 := dif_le xs ys k j; have e2 := HD.out; rw [HS2.out]; show _ = s + (qRow xs ys k j + dif xs ys k j); omega), HQ.out⟩
            case measure => simp [intOf]; omega
        · have hjk : j = k := by omega
          subst hjk
          go_wp2
          go_roundw
          case rel => exact ⟨j + 1, s2, by omega, by go_num, rfl, Lib.hid (by rw [HS2.out, HS.out]; rfl), hq2⟩
          case measure => simp [intOf]; omega
    · have hkn : k = n := by omega
      subst hkn
      go_wp2
      go_ret
      exact ⟨ret_int (by rw [HS.out, HN.out]; rfl), hq⟩

def viewQuarrel (xs ys : List Int) : Int × Bool := if alike xs ys then ((quar xs ys : Int), true) else (0, false)

theorem iViewQuarrel_q (v u : Value) (xs ys : List Int) (w : World) (hv : RdV w v xs) (hu : RdV w u ys) :
    Calls Tryz.prog 193 #[v, u] w (QIB w (viewQuarrel xs ys)) := by
  have HV := Lib.hid hv
  have HU := Lib.hid hu
  clear hv hu
  cases ha : alike xs ys
  · have HA := Lib.hid ha
    have hr : viewQuarrel xs ys = (0, false) := by rw [viewQuarrel, ha]; rfl
    rw [hr]
    clear ha hr
    go_enter Tryz.func193, Tryz.ntmps193
    go_wp2_with fail
    refine (areAlike_is false _ _ _ _ _ HV.out HU.out HA).mono ?_
    rintro e w' ⟨rfl, rfl⟩
    go_wp2
    go_ret2
    exact ⟨rfl, Quiet.refl _⟩
  · have HA := Lib.hid ha
    obtain ⟨h1, h8, hl⟩ := alike_lens ha
    have HL := Lib.hid hl
    have hr : viewQuarrel xs ys = ((quar xs ys : Int), true) := by rw [viewQuarrel, ha]; rfl
    rw [hr]
    clear ha hr hl
    go_enter Tryz.func193, Tryz.ntmps193
    go_wp2_with fail
    refine (areAlike_is true _ _ _ _ _ HV.out HU.out HA).mono ?_
    rintro e w' ⟨rfl, rfl⟩
    go_wp2_with fail
    refine (quarrel_v _ _ _ _ _ HV.out HU.out h1 h8 HL.out).mono ?_
    rintro e w' ⟨rfl, hq⟩
    go_wp2
    go_ret2
    exact ⟨rfl, hq⟩

theorem iViewQuarrel_v (v u : Value) (xs ys : List Int) (w : World) (hv : RdV w v xs) (hu : RdV w u ys) :
    Calls Tryz.prog 193 #[v, u] w (GivesIB w (viewQuarrel xs ys)) := (iViewQuarrel_q v u xs ys w hv hu).mono fun _ _ h => h.gives
end

section
open Go.RowKit

theorem blockCount_p (v : Value) (xs : List Int) (w : World) (hv : RdV w v xs) (hp : Hid (partIn xs = true)) :
    Calls Tryz.prog 229 #[v] w fun e w' => e = .returned (.int .i64 (pSize xs)) ∧ w = w' := by
  obtain ⟨ao, ca, rfl, h, h1, h2⟩ := hv
  have hl := partIn_len hp.out
  exact blockCount_any ao ca xs w h hl.1 (by omega) (partIn_small hp.out)
end

section
open Go.RowKit

def toPtr (C : Nat) (par : Nat → Nat) (j : Nat) : Option Addr := if par j = j then none else some ⟨C + par j, 0, none⟩

def Links (w : World) (B C n : Nat) (par : Nat → Nat) : Prop := B < C ∧ ∀ j, j < n →
  w.cell? ⟨B, j, none⟩ = some (.pointer (some ⟨C + j, 0, none⟩)) ∧ w.cell? ⟨C + j, 0, none⟩ = some (.int .i64 (j : Int)) ∧
  w.cell? ⟨C + j, 1, none⟩ = some (.pointer (toPtr C par j)) ∧ w.frozen? ⟨C + j, 1, none⟩ = false

theorem links_quiet {w w' : World} {B C n : Nat} {par : Nat → Nat} (h : Links w B C n par) (hq : Quiet w w') : Links w' B C n par := by
  obtain ⟨m, rfl⟩ := hq
  exact h

theorem links_below {w w' : World} {B C n : Nat} {par : Nat → Nat} (h : Links w B C n par) (hb : Below w.heap.size w w') : Links w' B C n par := ⟨h.1, fun j hj => by
  obtain ⟨h1, h2, h3, h4⟩ := h.2 j hj
  refine ⟨by rw [hb.cell (World.block_lt_of_cell? w _ h1)]; exact h1, by rw [hb.cell (World.block_lt_of_cell? w _ h2)]; exact h2, by rw [hb.cell (World.block_lt_of_cell? w _ h3)]; exact h3, ?_⟩
  rw [hb.frozen (World.block_lt_of_cell? w _ h3)]
  exact h4⟩

theorem cell_set_other {w : World} {p q : Addr} {v : Value} (h : p ≠ q) : (w.setCell p v).cell? q = w.cell? q := by
  first | exact World.cell?_setCell_other h | exact World.cell?_setCell_other _ h | exact World.cell?_setCell_other _ _ h | exact World.cell?_setCell_other _ _ _ h | exact World.cell?_setCell_other _ _ _ _ h
theorem cell_set_same {w : World} {p : Addr} {u v : Value} (h : w.cell? p = some u) : (w.setCell p v).cell? p = some v := by
  first | exact World.cell?_setCell_same h | exact World.cell?_setCell_same _ h | exact World.cell?_setCell_same _ _ h | exact World.cell?_setCell_same _ _ _ h

theorem links_set {w : World} {B C n : Nat} {par : Nat → Nat} (h : Links w B C n par) (g o : Nat) (v : Value) (hg : g ≠ B ∧ (g < C ∨ C + n ≤ g)) : Links (w.setCell ⟨g, o, none⟩ v) B C n par := ⟨h.1, fun j hj => by
  obtain ⟨h1, h2, h3, h4⟩ := h.2 j hj
  refine ⟨?_, ?_, ?_, by rw [World.frozen?_setCell]; exact h4⟩
  · rw [cell_set_other (by intro e; simp at e <;> omega)]; exact h1
  · rw [cell_set_other (by intro e; simp at e <;> omega)]; exact h2
  · rw [cell_set_other (by intro e; simp at e <;> omega)]; exact h3⟩

theorem links_hang {w : World} {B C n : Nat} {par : Nat → Nat} (h : Links w B C n par) {a b : Nat} (hb : b < n) (hab : a < b) :
    Links (w.setCell ⟨C + b, 1, none⟩ (.pointer (some ⟨C + a, 0, none⟩))) B C n (hang par b a) := ⟨h.1, fun j hj => by
  have hBC := h.1
  obtain ⟨h1, h2, h3, h4⟩ := h.2 j hj
  refine ⟨?_, ?_, ?_, by rw [World.frozen?_setCell]; exact h4⟩
  · rw [cell_set_other (by intro e; simp at e <;> omega)]; exact h1
  · rw [cell_set_other (by intro e; simp at e)]; exact h2
  · by_cases e : j = b
    · subst e
      rw [cell_set_same h3]
      unfold toPtr hang
      rw [if_pos rfl, if_neg (by omega)]
    · rw [cell_set_other (by intro e2; simp at e2 <;> omega), h3]
      unfold toPtr hang
      rw [if_neg e]⟩

def ptrBlock : Value → Nat
  | .pointer (some a) => a.block
  | _ => 0

set_option maxHeartbeats 800000 in
theorem least_any (B C n j : Nat) (par rt : Nat → Nat) (w : World) (hl : Links w B C n par) (hf : Forest n par rt) (hj : j < n) :
    Calls Tryz.prog 277 #[.pointer (some ⟨C + j, 0, none⟩)] w fun e w' => e = .returned (.pointer (some ⟨C + rt j, 0, none⟩)) ∧ w = w' := by
  have HL := Lib.hid hl
  have HF := Lib.hid hf
  clear hl hf
  go_enter Tryz.func277, Tryz.ntmps277
  go_wp2
  go_loop [0] (fun u => ∃ c, c < n ∧ u = .pointer (some ⟨C + c, 0, none⟩) ∧ rt c = rt j) (fun u => ptrBlock u)
  case atStart => exact ⟨j, hj, rfl, rfl⟩
  case round =>
    obtain ⟨c, hc, rfl, hrt⟩ := hrel
    have HR := Lib.hid hrt
    obtain ⟨h1, h2, h3, h4⟩ := HL.out.2 c hc
    clear hrt
    rcases (HF.out c hc).2 with ⟨hp, hr⟩ | ⟨hp, hr⟩
    · have e : toPtr C par c = none := by unfold toPtr; rw [if_pos hp]
      rw [e] at h3
      have HRC := Lib.hid hr
      clear e hp hr h4
      go_wp2
      go_ret
      exact ⟨by rw [← HR.out, HRC.out]; rfl, rfl⟩
    · have e : toPtr C par c = some ⟨C + par c, 0, none⟩ := by unfold toPtr; rw [if_neg (by omega)]
      rw [e] at h3
      obtain ⟨d, hd⟩ : ∃ d, d = par c := ⟨_, rfl⟩
      rw [← hd] at h3 hp hr
      have HRC := Lib.hid hr
      clear e hr h4 hd
      go_wp2
      go_round
      case rel => exact ⟨d, by omega, rfl, by rw [HRC.out, HR.out]⟩
      case measure => simp [ptrBlock]; omega

theorem rt_le {n : Nat} {par rt : Nat → Nat} (h : Forest n par rt) {j : Nat} (hj : j < n) : rt j < n ∧ rt (rt j) = rt j := ⟨(h j hj).1, forest_root h hj⟩

def Tied (w : World) (B C n : Nat) (rt : Nat → Nat) (e : Ending) (w' : World) : Prop := e = .returned (.tuple #[]) ∧ ∃ par', Links w' B C n par' ∧ Forest n par' rt ∧ Below C w w'

set_option maxHeartbeats 1600000 in
theorem tie_any (B C n i k : Nat) (par rt : Nat → Nat) (w : World) (hl : Links w B C n par) (hf : Forest n par rt) (hi : i < n) (hk : k < n) :
    Calls Tryz.prog 235 #[.pointer (some ⟨C + i, 0, none⟩), .pointer (some ⟨C + k, 0, none⟩)] w (Tied w B C n (tied rt i k)) := by
  have HL := Lib.hid hl
  have HF := Lib.hid hf
  obtain ⟨ha, har⟩ := rt_le hf hi
  obtain ⟨hb, hbr⟩ := rt_le hf hk
  have hres : tied rt i k = if rt i < rt k then rehang rt (rt k) (rt i) else if rt k < rt i then rehang rt (rt i) (rt k) else rt := rfl
  have HI := Lib.hid (fun w0 => least_any B C n i par rt w0)
  have HK := Lib.hid (fun w0 => least_any B C n k par rt w0)
  obtain ⟨a, hae⟩ : ∃ a, a = rt i := ⟨_, rfl⟩
  obtain ⟨b, hbe⟩ : ∃ b, b = rt k := ⟨_, rfl⟩
  rw [← hae] at ha har hres HI
  rw [← hbe] at hb hbr hres HK
  have HRES := Lib.hid hres
  have HAR := Lib.hid har
  have HBR := Lib.hid hbr
  obtain ⟨ha1, ha2, ha3, ha4⟩ := hl.2 a ha
  obtain ⟨hb1, hb2, hb3, hb4⟩ := hl.2 b hb
  have b1 : ((a : Nat) : Int) = (a : Int) := rfl
  clear hl hf hres hae hbe har hbr b1
  rcases Nat.lt_trichotomy a b with hab | hab | hab
  · have hc : ((a : Int) < (b : Int)) := by omega
    go_enter Tryz.func235, Tryz.ntmps235
    go_wp2_with fail
    refine (HI.out _ HL.out HF.out hi).mono ?_
    rintro e w' ⟨rfl, rfl⟩
    go_wp2_with fail
    refine (HK.out _ HL.out HF.out hk).mono ?_
    rintro e w' ⟨rfl, rfl⟩
    go_wp2
    go_quiet (fail)
    go_wp2
    go_end0
    refine ⟨rfl, hang par b a, links_hang (links_quiet HL.out (Quiet.mk _ _)) hb hab, ?_, (below_drewN (Below.refl _ _) _).setCell (by simp <;> omega) _⟩
    rw [HRES.out, if_pos hab]
    exact forest_hang HF.out hb hab HAR.out HBR.out
  · have HE := Lib.hid hab
    obtain ⟨c, hc⟩ : ∃ c : Int, c = (a : Int) := ⟨_, rfl⟩
    have hcb : c = (b : Int) := by omega
    rw [← hc] at ha2
    rw [← hcb] at hb2
    clear hc hcb hab
    go_enter Tryz.func235, Tryz.ntmps235
    go_wp2_with fail
    refine (HI.out _ HL.out HF.out hi).mono ?_
    rintro e w' ⟨rfl, rfl⟩
    go_wp2_with fail
    refine (HK.out _ HL.out HF.out hk).mono ?_
    rintro e w' ⟨rfl, rfl⟩
    go_wp2
    go_quiet (fail)
    go_wp2
    go_quiet (fail)
    go_wp2
    go_end0
    refine ⟨rfl, par, links_quiet HL.out (by first | exact Quiet.mk _ _ | exact (Quiet.mk _ _).drewN _), ?_, by first | exact below_drewN (Below.refl _ _) _ | exact below_drewN (below_drewN (Below.refl _ _) _) _⟩
    have hab := HE.out
    rw [HRES.out, if_neg (by omega), if_neg (by omega)]
    exact HF.out
  · have hc : ((b : Int) < (a : Int)) := by omega
    have hc2 : ¬ ((a : Int) < (b : Int)) := by omega
    go_enter Tryz.func235, Tryz.ntmps235
    go_wp2_with fail
    refine (HI.out _ HL.out HF.out hi).mono ?_
    rintro e w' ⟨rfl, rfl⟩
    go_wp2_with fail
    refine (HK.out _ HL.out HF.out hk).mono ?_
    rintro e w' ⟨rfl, rfl⟩
    go_wp2
    go_quiet (fail)
    go_wp2
    go_quiet (fail)
    go_wp2
    go_end0
    refine ⟨rfl, hang par a b, links_hang (links_quiet HL.out (by first | exact Quiet.mk _ _ | exact (Quiet.mk _ _).drewN _)) ha hab, ?_, Below.setCell (by first | exact below_drewN (Below.refl _ _) _ | exact below_drewN (below_drewN (Below.refl _ _) _) _) (by simp <;> omega) _⟩
    rw [HRES.out, if_neg (by omega), if_pos hab]
    exact forest_hang HF.out ha hab HBR.out HAR.out

theorem Tryz.infoLink : (Tryz.prog.info? 163).map (fun i => (i.zero, i.size, i.bytes)) = some (some (.pointer none), 1, 8) := by kernel_rfl

def ptrsTo (C n k : Nat) : List Value := (List.range n).map fun j => if j < k then .pointer (some ⟨C + j, 0, none⟩) else .pointer none

theorem ptrsTo_len (C n k : Nat) : (ptrsTo C n k).length = n := by simp [ptrsTo]
theorem ptrsTo_step (C n k : Nat) (h : k < n) : (ptrsTo C n k).set k (.pointer (some ⟨C + k, 0, none⟩)) = ptrsTo C n (k + 1) := by
  apply List.ext_getElem
  · simp [ptrsTo]
  · intro j h1 h2
    simp [ptrsTo] at h1 h2
    rw [List.getElem_set]
    by_cases e : k = j
    · subst e
      simp [ptrsTo]
    · rw [if_neg e]
      simp only [ptrsTo, List.getElem_map, List.getElem_range]
      by_cases h3 : j < k
      · rw [if_pos h3, if_pos (by omega)]
      · rw [if_neg h3, if_neg (by omega)]
theorem ptrsTo_zero (C n : Nat) : ptrsTo C n 0 = List.replicate n (.pointer none) := by
  apply List.ext_getElem <;> simp [ptrsTo]

def Things (w : World) (C k : Nat) : Prop := ∀ j, j < k → w.cell? ⟨C + j, 0, none⟩ = some (.int .i64 (j : Int)) ∧ w.cell? ⟨C + j, 1, none⟩ = some (.pointer none) ∧ w.frozen? ⟨C + j, 1, none⟩ = false

theorem things_step {wr : World} {C k B : Nat} (hth : Things wr C k) (hsz : wr.heap.size = C + k) (hBC : B < C) (o : Nat) (v : Value) :
    Things ((wr.alloc (.cells #[.int .i64 (k : Int), .pointer none] 198)).setCell ⟨B, o, none⟩ v) C (k + 1) := fun j hj => by
  rw [cell_set_other (by intro e; simp at e <;> omega), cell_set_other (by intro e; simp at e <;> omega), World.frozen?_setCell]
  by_cases e : j = k
  · subst e
    rw [← hsz]
    have hn := heap_alloc_new wr (.cells #[.int .i64 (j : Int), .pointer none] 198)
    unfold World.cell? World.frozen?
    simp only [hn]
    exact ⟨rfl, rfl, rfl⟩
  · have hb : Below wr.heap.size wr (wr.alloc (.cells #[.int .i64 (k : Int), .pointer none] 198)) := (Below.refl _ _).alloc (Nat.le_refl _) _
    obtain ⟨h1, h2, h3⟩ := hth j (by omega)
    have hlt : C + j < wr.heap.size := by omega
    exact ⟨by rw [hb.cell (p := ⟨C + j, 0, none⟩) hlt]; exact h1, by rw [hb.cell (p := ⟨C + j, 1, none⟩) hlt]; exact h2, by rw [hb.frozen (p := ⟨C + j, 1, none⟩) hlt]; exact h3⟩

theorem toPtr_id (C j : Nat) : toPtr C id j = none := by simp [toPtr]

def Loose (w : World) (n : Nat) (e : Ending) (w' : World) : Prop := e = .returned (.slice (some ⟨w.heap.size, 0, none⟩) n n) ∧ Below w.heap.size w w' ∧ ∃ C, Links w' w.heap.size C n id

set_option maxHeartbeats 1600000 in
theorem looseLinks_any (n : Nat) (w : World) (h1 : 1 ≤ n) (h8 : n ≤ 8) :
    Calls Tryz.prog 234 #[.int .i64 n] w (Loose w n) := by
  obtain ⟨i0, hi, hz0, hz1, hz2⟩ := info_parts Tryz.infoLink
  go_enter Tryz.func234, Tryz.ntmps234
  go_wp2_with (at_make; refine wpList_make_full _ rfl _ _ 161 rfl w.heap.size 163 i0 (.pointer none) 1 Tryz.underlying161 hi hz0 hz1 _ _ _ _ n rfl rfl rfl rfl (by rw [hz2]; omega) (by unfold maxLen; omega) (Nat.le_refl _) ?_)
  intro w1 hown1 hgrow1
  have hb1 : Below w.heap.size w w1 := (Below.refl _ _).grown hgrow1 (Nat.le_refl _) (fun k h => by cases h)
  obtain ⟨C, hC⟩ : ∃ C, C = w1.heap.size := ⟨_, rfl⟩
  have hBC : w.heap.size < C := by rw [hC]; exact (World.ownsRow.lt hown1 _ rfl).2
  have hrow : w1.ownsRow w.heap.size 163 1 (.slice (some ⟨w.heap.size, 0, none⟩) n n) n (ptrsTo C n 0) := by
    rw [ptrsTo_zero]
    rw [toList_madeCells_one] at hown1
    simpa using hown1
  have HC := Lib.hid hC
  clear hown1 hgrow1 hC
  go_wp2
  go_loopw [9] (fun i wr => ∃ k : Nat, k ≤ n ∧ i = .int .i64 k ∧ wr.ownsRow w.heap.size 163 1 (.slice (some ⟨w.heap.size, 0, none⟩) n n) n (ptrsTo C n k) ∧ Things wr C k ∧ wr.heap.size = C + k ∧ Below w.heap.size w wr) (fun i _ => n - (intOf i).toNat)
  case atStart => exact ⟨0, Nat.zero_le _, rfl, hrow, fun j hj => by omega, HC.out.symm, hb1⟩
  case round =>
    obtain ⟨k, hk, rfl, hown, hth, hsz, hbel⟩ := hrel
    by_cases hlt : k < n
    · have hown2 := World.ownsRow.alloc hown (.cells #[.int .i64 (k : Int), .pointer none] 198)
      have hfz := World.ownsRow.frozenAt hown2 k
      have hv0 := World.ownsRow.cellAt hown2 k (by omega)
      obtain ⟨v0, hv0'⟩ : ∃ v0, (ptrsTo C n k)[k]? = some v0 := ⟨_, List.getElem?_eq_getElem (by rw [ptrsTo_len]; exact hlt)⟩
      rw [hv0'] at hv0
      have hst := (World.ownsRow.stored hown2 k (.pointer (some ⟨wr.heap.size, 0, none⟩))).1
      have hth2 := things_step hth hsz hBC k (.pointer (some ⟨wr.heap.size, 0, none⟩))
      have e1 : (ptrsTo C n k).set k (.pointer (some ⟨wr.heap.size, 0, none⟩)) = ptrsTo C n (k + 1) := by rw [hsz, ptrsTo_step C n k hlt]
      rw [e1] at hst
      have HST := Lib.hid hst
      have HTH := Lib.hid hth2
      have HSZ := Lib.hid hsz
      have b1 : (k : Int) < n := by omega
      have hB := hbel.size
      clear hown hown2 hst hth hth2 hsz hv0' e1
      go_wp2
      go_roundw
      case rel => exact ⟨k + 1, by omega, by go_num, HST.out, HTH.out, by simp [World.setCell]; have := HSZ.out; omega, (hbel.alloc hB _).setCell (Nat.le_refl _) _⟩
      case measure => simp [intOf]; omega
    · have hkn : k = n := by omega
      subst hkn
      have hfin : Links wr w.heap.size C k id := by
        refine ⟨hBC, fun j hj => ?_⟩
        have hc := World.ownsRow.cellAt hown j (by omega)
        obtain ⟨h1, h2, h3⟩ := hth j hj
        refine ⟨?_, h1, by rw [toPtr_id]; exact h2, h3⟩
        rw [hc]
        simp [ptrsTo, hj]
      have HFIN := Lib.hid hfin
      clear hown hth hfin hsz
      go_wp2
      go_ret
      exact ⟨rfl, hbel, C, HFIN.out⟩

theorem forest_id (n : Nat) : Forest n id id := fun j hj => ⟨hj, .inl ⟨rfl, rfl⟩⟩

def Joined (xs ys : List Int) (n : Nat) (rt : Nat → Nat) (k : Nat) : Prop :=
  (∀ j, j < k → rt j = rt (xs.idxOf (xs.getD j 0)) ∧ rt j = rt (ys.idxOf (ys.getD j 0))) ∧
  ∀ g : Nat → Int, (∀ i k, i < n → k < n → tog xs ys i k = true → g i = g k) → ∀ j, j < n → g (rt j) = g j

theorem joined_id (xs ys : List Int) (n : Nat) : Joined xs ys n id 0 := ⟨fun j hj => by omega, fun g _ j _ => rfl⟩

def rootList (rt : Nat → Nat) (n : Nat) : List Int := (List.range n).map fun j => (rt j : Int)
theorem rootList_length (rt : Nat → Nat) (n : Nat) : (rootList rt n).length = n := by simp [rootList]
theorem rootList_getD (rt : Nat → Nat) (n j : Nat) (h : j < n) : (rootList rt n).getD j 0 = (rt j : Int) := by simp [rootList, List.getD, h]

theorem idx_of {xs : List Int} {j : Nat} (h : j < xs.length) : xs.getD j 0 ∈ xs ∧ xs.idxOf (xs.getD j 0) < xs.length ∧ xs.getD (xs.idxOf (xs.getD j 0)) 0 = xs.getD j 0 := by
  have hm : xs.getD j 0 ∈ xs := mem_of_getD h rfl
  exact ⟨hm, List.idxOf_lt_length_of_mem hm, getD_idxOf hm⟩

theorem joined_step {xs ys : List Int} {n : Nat} {rt : Nat → Nat} (hx : xs.length = n) (hy : ys.length = n) {k : Nat} (hk : k < n) (h : Joined xs ys n rt k) :
    Joined xs ys n (tied (tied rt k (xs.idxOf (xs.getD k 0))) k (ys.idxOf (ys.getD k 0))) (k + 1) := by
  obtain ⟨hmx, hix, hgx⟩ := idx_of (xs := xs) (j := k) (by omega)
  obtain ⟨hmy, hiy, hgy⟩ := idx_of (xs := ys) (j := k) (by omega)
  refine ⟨fun j hj => ?_, fun g hg => ?_⟩
  · by_cases e : j = k
    · subst e
      exact ⟨tied_keeps _ _ _ (tied_eq _ _ _), tied_eq _ _ _⟩
    · obtain ⟨h1, h2⟩ := h.1 j (by omega)
      exact ⟨tied_keeps _ _ _ (tied_keeps _ _ _ h1), tied_keeps _ _ _ (tied_keeps _ _ _ h2)⟩
  · have h1 := tied_good g (h.2 g hg) hk (k := xs.idxOf (xs.getD k 0)) (by omega) (hg _ _ hk (by omega) (tog_iff.2 (.inl hgx.symm)))
    exact tied_good g h1 hk (k := ys.idxOf (ys.getD k 0)) (by omega) (hg _ _ hk (by omega) (tog_iff.2 (.inr hgy.symm)))

theorem joined_end {xs ys : List Int} {n : Nat} {par rt : Nat → Nat} (hx : xs.length = n) (hy : ys.length = n) (hf : Forest n par rt) (h : Joined xs ys n rt n) : kOut (rootList rt n) = kOut (joinAll xs ys n n) := by
  refine join_tells xs ys n (rootList rt n) (rootList_length _ _) (fun i k hi hk ht => ?_) fun g hg => ⟨rootList_length _ _, fun i hi => ?_⟩
  · rw [rootList_getD _ _ _ hi, rootList_getD _ _ _ hk]
    have h1 := h.1 i hi
    have h2 := h.1 k hk
    rcases tog_iff.1 ht with e | e
    · rw [h1.1, h2.1, e]
    · rw [h1.2, h2.2, e]
  · rw [rootList_getD _ _ _ hi]
    refine ⟨by omega, by have := (hf i hi).1; omega, ?_⟩
    rw [Int.toNat_natCast]
    exact h.2 g hg i hi

set_option maxHeartbeats 1600000 in
theorem tiedOut_any (B C n : Nat) (par rt : Nat → Nat) (w : World) (hl : Links w B C n par) (hf : Forest n par rt) (h1 : 1 ≤ n) (h8 : n ≤ 8) :
    Calls Tryz.prog 236 #[.slice (some ⟨B, 0, none⟩) n n] w (FreshL w (kOut (rootList rt n))) := by
  have HL := Lib.hid hl
  have HF := Lib.hid hf
  have hBC := hl.1
  have hlo : C + n ≤ w.heap.size := by
    have h2 := (hl.2 (n - 1) (by omega)).2.1
    have := World.block_lt_of_cell? w _ h2
    simp at this
    omega
  obtain ⟨L, hL⟩ : ∃ L, L = rootList rt n := ⟨_, rfl⟩
  rw [← hL]
  have hLl : L.length = n := by rw [hL, rootList_length]
  have hLg : ∀ j, j < n → L.getD j 0 = (rt j : Int) := fun j hj => by rw [hL]; exact rootList_getD _ _ _ hj
  have HLL := Lib.hid hLl
  have HLG := Lib.hid hLg
  obtain ⟨i0, hi, hz0, hz1, hz2⟩ := info_parts Tryz.infoInt
  clear hl hf hL hLl hLg
  go_enter Tryz.func236, Tryz.ntmps236
  go_wp2_with (at_make; refine wpList_make_full _ rfl _ _ 26 rfl w.heap.size 3 i0 (.int .i64 0) 1 Tryz.underlying26 hi hz0 hz1 _ _ _ _ n rfl rfl rfl rfl (by rw [hz2]; omega) (by unfold maxLen; omega) (Nat.le_refl _) ?_)
  intro w4 hown4 hgrow4
  have hb4 : Below w.heap.size w w4 := (Below.refl _ _).grown hgrow4 (Nat.le_refl _) (fun k h => by cases h)
  have HO4 := Lib.hid (own_made hown4)
  have HL4 := Lib.hid (links_below HL.out hb4)
  clear hown4 hgrow4
  go_wp2
  go_loopw [11] (fun i wz => ∃ j : Nat, j ≤ n ∧ i = .int .i64 j ∧ Own wz w.heap.size (.slice (some ⟨w.heap.size, 0, none⟩) n n) (L.take j ++ List.replicate (n - j) 0) ∧ Links wz B C n par ∧ Below w.heap.size w wz) (fun i _ => n - (intOf i).toNat)
  case atStart => exact ⟨0, Nat.zero_le _, rfl, by simpa using HO4.out, HL4.out, hb4⟩
  case round =>
    obtain ⟨j, hj, rfl, hown, hlk, hbelz⟩ := hrel
    by_cases hlt : j < n
    · have hp1 := (hlk.2 j hlt).1
      have hr := rt_le HF.out hlt
      obtain ⟨r, hre⟩ : ∃ r, r = rt j := ⟨_, rfl⟩
      rw [← hre] at hr
      have hp2 := (hlk.2 r hr.1).2.1
      have hml : (L.take j ++ List.replicate (n - j) 0).length = n := by have := HLL.out; simp; omega
      have hfz := own_frozen hown j
      obtain ⟨v0, hv0⟩ : ∃ v0, wr.cell? ⟨w.heap.size, j, none⟩ = some v0 := ⟨_, own_cell hown j (by rw [hml]; omega)⟩
      obtain ⟨hst, hgs⟩ := own_stored hown hml.symm j (r : Int)
      rw [← HLL.out, set_stage L j (by rw [HLL.out]; exact hlt) (r : Int) (by rw [HLG.out j hlt, hre]), HLL.out] at hst
      have HST := Lib.hid hst
      have HLS := Lib.hid (links_set hlk w.heap.size j (.int .i64 (r : Int)) ⟨by omega, .inr hlo⟩)
      have HLE := Lib.hid (least_any B C n j par rt wr hlk HF.out hlt)
      rw [← hre] at HLE
      have b1 : (j : Int) < n := by omega
      clear hml hst hgs hown hlk hre hr
      go_wp2_with fail
      refine (HLE.out).mono ?_
      rintro e w' ⟨rfl, rfl⟩
      go_wp2
      go_roundw
      case rel => exact ⟨j + 1, by omega, by go_num, HST.out, HLS.out, hbelz.setCell (by simp) _⟩
      case measure => simp [intOf]; omega
    · have hjk : j = n := by omega
      subst hjk
      rw [Nat.sub_self, List.replicate_zero, List.append_nil, List.take_of_length_le (by rw [HLL.out]; omega)] at hown
      have HRD := Lib.hid (own_rdv hown)
      clear hown
      go_wp2_with fail
      refine (kernel_v _ _ _ HRD.out (by rw [HLL.out]; omega)).mono ?_
      rintro e w6 ⟨u, rfl, ho, hb⟩
      go_wp2
      go_ret
      exact ⟨_, rfl, own_mono ho hbelz.size, below_step hbelz hb⟩

set_option maxHeartbeats 4000000 in
theorem iFinerJoin_v (v u : Value) (xs ys : List Int) (w : World) (hv : RdV w v xs) (hu : RdV w u ys) :
    Calls Tryz.prog 187 #[v, u] w (FreshLB w (finerJoin xs ys)) := by
  have HV := Lib.hid hv
  have HU := Lib.hid hu
  cases ha : alike xs ys
  · have HA := Lib.hid ha
    have hr : finerJoin xs ys = ([], false) := by simp [finerJoin, ha]
    rw [hr]
    clear ha hr hv hu
    go_enter Tryz.func187, Tryz.ntmps187
    go_wp2_with fail
    refine (areAlike_is false _ _ _ _ _ HV.out HU.out HA).mono ?_
    rintro e w' ⟨rfl, rfl⟩
    go_wp2
    go_ret2
    exact ⟨_, rfl, own_nil _ _, Below.refl _ _⟩
  · have HA := Lib.hid ha
    obtain ⟨h1, h8, hl⟩ := alike_lens ha
    have hr : finerJoin xs ys = (kOut (joinAll xs ys xs.length xs.length), true) := by simp [finerJoin, ha]
    rw [hr]
    obtain ⟨bx, ox, cx, rfl, hcx, hbx, hcx1, hcx2⟩ := rdv_cells hv h1
    obtain ⟨by', oy, cy, rfl, hcy, hby, hcy1, hcy2⟩ := rdv_cells hu (by omega)
    obtain ⟨n, hn⟩ : ∃ n, n = xs.length := ⟨_, rfl⟩
    have HN := Lib.hid hn
    have HLY := Lib.hid hl
    rw [hl] at HU ⊢
    rw [← hn] at HV HU h1 h8 HLY ⊢
    clear ha hr hv hu hn hl hcx1 hcx2 hcy1 hcy2
    go_enter Tryz.func187, Tryz.ntmps187
    go_wp2_with fail
    refine (areAlike_is true _ _ _ _ _ HV.out HU.out HA).mono ?_
    rintro e w' ⟨rfl, rfl⟩
    go_wp2_with fail
    refine (looseLinks_any n _ h1 h8).mono ?_
    rintro e w1 ⟨rfl, hb1, C, hl1⟩
    have HL1 := Lib.hid hl1
    clear hl1
    go_wp2
    go_loopw [18] (fun i wr => ∃ (k : Nat) (par rt : Nat → Nat), k ≤ n ∧ i = .int .i64 k ∧ Links wr w.heap.size C n par ∧ Forest n par rt ∧ Joined xs ys n rt k ∧ Below w.heap.size w wr) (fun i _ => n - (intOf i).toNat)
    case atStart => exact ⟨0, id, id, Nat.zero_le _, rfl, HL1.out, forest_id n, joined_id _ _ _, hb1⟩
    case round =>
      obtain ⟨k, par, rt, hk, rfl, hlk, hfo, hjo, hbel⟩ := hrel
      have hBC := hlk.1
      by_cases hlt : k < n
      · have hjs := joined_step HN.out.symm HLY.out hlt hjo
        obtain ⟨hmx, hix, _⟩ := idx_of (xs := xs) (j := k) (by rw [← HN.out]; exact hlt)
        obtain ⟨hmy, hiy, _⟩ := idx_of (xs := ys) (j := k) (by rw [HLY.out]; exact hlt)
        have hc1 := cells_at (cells_below hcx hbel) k (by rw [← HN.out]; exact hlt)
        have hp1 := (hlk.2 k hlt).1
        obtain ⟨x, hx⟩ : ∃ x, x = xs.getD k 0 := ⟨_, rfl⟩
        obtain ⟨y, hy⟩ : ∃ y, y = ys.getD k 0 := ⟨_, rfl⟩
        rw [← hx] at hjs hmx hix hc1
        rw [← hy] at hjs hmy hiy
        obtain ⟨p, hp⟩ : ∃ p, p = xs.idxOf x := ⟨_, rfl⟩
        obtain ⟨q, hq⟩ : ∃ q, q = ys.idxOf y := ⟨_, rfl⟩
        rw [← hp] at hjs hix
        rw [← hq] at hjs hiy
        rw [← HN.out] at hix
        rw [HLY.out] at hiy
        have hp2 := (hlk.2 p hix).1
        have HMX := Lib.hid hmx
        have HMY := Lib.hid hmy
        have HP := Lib.hid hp
        have HQ := Lib.hid hq
        have HY := Lib.hid hy
        have HJS := Lib.hid hjs
        have HLK := Lib.hid hlk
        have HFO := Lib.hid hfo
        have HVr := Lib.hid (rdv_below HV.out hbel)
        have b1 : (k : Int) < n := by omega
        have b2 : (p : Int) < n := by omega
        have b3 : (q : Int) < n := by omega
        clear hx hy hp hq hjs hmx hmy hlk hfo hjo
        go_wp2_with fail
        refine (slicesIndex_v _ xs x _ HVr.out HMX.out).mono ?_
        rintro e w' ⟨rfl, rfl⟩
        rw [← HP.out]
        go_wp2_with fail
        refine (tie_any w.heap.size C n k p par rt _ HLK.out HFO.out hlt hix).mono ?_
        rintro e w2 ⟨rfl, par2, hl2, hf2, hb2⟩
        have hbel2 : Below w.heap.size w w2 := hbel.trans (hb2.mono (Nat.le_of_lt hBC))
        have hc2 := cells_at (cells_below hcy hbel2) k (by rw [HLY.out]; exact hlt)
        rw [← HY.out] at hc2
        have hp3 := (hl2.2 q hiy).1
        have HL2 := Lib.hid hl2
        have HF2 := Lib.hid hf2
        have HUr := Lib.hid (rdv_below HU.out hbel2)
        clear hl2 hf2 hb2
        go_wp2_with fail
        refine (slicesIndex_v _ ys y _ HUr.out HMY.out).mono ?_
        rintro e w' ⟨rfl, rfl⟩
        rw [← HQ.out]
        go_wp2_with fail
        refine (tie_any w.heap.size C n k q par2 _ _ HL2.out HF2.out hlt hiy).mono ?_
        rintro e w3 ⟨rfl, par3, hl3, hf3, hb3⟩
        have hbel3 : Below w.heap.size w w3 := hbel2.trans (hb3.mono (Nat.le_of_lt hBC))
        have HL3 := Lib.hid hl3
        have HF3 := Lib.hid hf3
        clear hl3 hf3 hb3
        go_wp2
        go_roundw
        case rel => exact ⟨k + 1, par3, _, by omega, by go_num, HL3.out, HF3.out, HJS.out, hbel3⟩
        case measure => simp [intOf]; omega
      · have hkn : k = n := by omega
        subst hkn
        have hend := joined_end HN.out.symm HLY.out hfo hjo
        have HLK := Lib.hid hlk
        have HFO := Lib.hid hfo
        have hB := hbel.size
        clear hjo hlk hfo
        go_wp2_with fail
        refine (tiedOut_any w.heap.size C k par rt wr HLK.out HFO.out h1 h8).mono ?_
        rintro e w6 ⟨u, rfl, ho, hb⟩
        have HOU := Lib.hid (own_mono ho hbel.size)
        have HBU := Lib.hid (below_step hbel hb)
        rw [hend] at HOU
        clear ho hb hend
        go_wp2
        go_ret2
        exact ⟨_, rfl, HOU.out, HBU.out⟩
end

section
open Go.RowKit

def finerRank (xs : List Int) : Int × Bool := if partIn xs then ((xs.length : Int) - pSize xs, true) else (0, false)

theorem iFinerRank_v (v : Value) (xs : List Int) (w : World) (hv : RdV w v xs) : Calls Tryz.prog 208 #[v] w (GivesIB w (finerRank xs)) := by
  have hv0 := hv
  obtain ⟨ao, ca, rfl, h, h1, h2⟩ := hv
  unfold maxLen at h2
  have HV := Lib.hid hv0
  clear hv0
  by_cases hp : partIn xs = true
  · have hr : finerRank xs = ((xs.length : Int) - pSize xs, true) := by simp [finerRank, hp]
    rw [hr]
    have hs := partIn_small hp
    have hl := partIn_len hp
    have hb := pSize_bd hs
    have HP := Lib.hid hp
    have HS := Lib.hid hs
    clear hp hr hs
    go_enter Tryz.func208, Tryz.ntmps208
    go_wp2_with fail
    refine (iPartIn_w _ _ _ HV.out).mono ?_
    rintro e w' ⟨rfl, rfl⟩
    rw [HP.out]
    go_wp2_with fail
    refine (blockCount_any _ _ _ _ h hl.1 (by omega) HS.out).mono ?_
    rintro e w' ⟨rfl, rfl⟩
    go_wp2
    go_ret2
    exact ⟨rfl, Below.refl _ _⟩
  · have hp : partIn xs = false := by simpa using hp
    have hr : finerRank xs = (0, false) := by simp [finerRank, hp]
    rw [hr]
    have HP := Lib.hid hp
    clear hp hr
    go_enter Tryz.func208, Tryz.ntmps208
    go_wp2_with fail
    refine (iPartIn_w _ _ _ HV.out).mono ?_
    rintro e w' ⟨rfl, rfl⟩
    rw [HP.out]
    go_wp2
    go_ret2
    exact ⟨rfl, Below.refl _ _⟩

theorem pairCount_any (c : Nat) (w : World) (hc : c ≤ 8) : Calls Tryz.prog 265 #[.int .i64 c] w fun e w' => e = .returned (.int .i64 ((c * (c - 1) / 2 : Nat) : Int)) ∧ w = w' := by
  have h : c = 0 ∨ c = 1 ∨ c = 2 ∨ c = 3 ∨ c = 4 ∨ c = 5 ∨ c = 6 ∨ c = 7 ∨ c = 8 := by omega
  rcases h with rfl | rfl | rfl | rfl | rfl | rfl | rfl | rfl | rfl
  all_goals
    go_enter Tryz.func265, Tryz.ntmps265
    go_wp2
    go_ret
    exact ⟨rfl, rfl⟩

def chD (p : Nat) : Nat → Int
  | 0 => 1
  | d + 1 => chD p d * (((p - d) * (p - d - 1) / 2 : Nat) : Int)

theorem chD_bd : ∀ p, p < 9 → ∀ d, d < 9 → 0 ≤ chD p d ∧ chD p d ≤ 2000000 := by decide +kernel

def finerChains (xs : List Int) : Int × Bool := if partIn xs then (chD (pSize xs).toNat ((pSize xs).toNat - 1), true) else (0, false)

set_option maxHeartbeats 1600000 in
theorem iFinerChains_v (v : Value) (xs : List Int) (w : World) (hv : RdV w v xs) : Calls Tryz.prog 211 #[v] w (GivesIB w (finerChains xs)) := by
  have hv0 := hv
  obtain ⟨ao, ca, rfl, h, h1, h2⟩ := hv
  unfold maxLen at h2
  have HV := Lib.hid hv0
  clear hv0
  by_cases hp : partIn xs = true
  · have hr : finerChains xs = (chD (pSize xs).toNat ((pSize xs).toNat - 1), true) := by simp [finerChains, hp]
    rw [hr]
    have hs := partIn_small hp
    have hl := partIn_len hp
    have hb := pSize_bd hs
    have hpos := pSize_pos hs hl.1
    have HP := Lib.hid hp
    have HS := Lib.hid hs
    obtain ⟨p, hpe⟩ := Int.eq_ofNat_of_zero_le hb.1
    have HPE := Lib.hid hpe
    rw [hpe] at hb hpos ⊢
    rw [Int.toNat_natCast]
    clear hp hr hs hpe
    go_enter Tryz.func211, Tryz.ntmps211
    go_wp2_with fail
    refine (iPartIn_w _ _ _ HV.out).mono ?_
    rintro e w' ⟨rfl, rfl⟩
    rw [HP.out]
    go_wp2_with fail
    refine (blockCount_any _ _ _ _ h hl.1 (by omega) HS.out).mono ?_
    rintro e w' ⟨rfl, rfl⟩
    rw [HPE.out]
    go_wp2
    go_loop [4, 5] (fun u i => ∃ d : Nat, d + 1 ≤ p ∧ i = .int .i64 ((p - d : Nat) : Int) ∧ u = .int .i64 (chD p d)) (fun _ i => (intOf i).toNat)
    case atStart => exact ⟨0, by omega, rfl, rfl⟩
    case round =>
      obtain ⟨d, hd, rfl, rfl⟩ := hrel
      obtain ⟨hc0, hc1⟩ := chD_bd p (by omega) d (by omega)
      have hst : chD p (d + 1) = chD p d * (((p - d) * (p - d - 1) / 2 : Nat) : Int) := rfl
      obtain ⟨c, hc⟩ : ∃ c, c = p - d := ⟨_, rfl⟩
      obtain ⟨x, hx⟩ : ∃ x, x = chD p d := ⟨_, rfl⟩
      rw [← hc] at hst ⊢
      rw [← hx] at hst hc0 hc1 ⊢
      have HC := Lib.hid hc
      have HX := Lib.hid hx
      have HST := Lib.hid hst
      have hc1' : 1 ≤ c := by omega
      have hc8 : c ≤ 8 := by omega
      clear hc hx hst
      by_cases hlt : 1 < c
      · have hq : c * (c - 1) / 2 ≤ 28 := by
          have h : c = 2 ∨ c = 3 ∨ c = 4 ∨ c = 5 ∨ c = 6 ∨ c = 7 ∨ c = 8 := by omega
          rcases h with rfl | rfl | rfl | rfl | rfl | rfl | rfl <;> decide
        obtain ⟨q, hqe⟩ : ∃ q, q = c * (c - 1) / 2 := ⟨_, rfl⟩
        have HQ := Lib.hid hqe
        rw [← hqe] at hq
        have hm : IntKind.i64.wrap (x * (q : Int)) = x * (q : Int) := by
          refine IntWalk.i64_in _ ?_
          have h1 : 0 ≤ x * (q : Int) := Int.mul_nonneg hc0 (by omega)
          have h2 : x * (q : Int) ≤ 2000000 * 28 := Int.mul_le_mul hc1 (by omega) (by omega) (by omega)
          omega
        clear hqe
        go_wp2_with fail
        refine (pairCount_any _ _ hc8).mono ?_
        rintro e w' ⟨rfl, rfl⟩
        rw [← HQ.out]
        go_wp2
        go_round
        case rel => exact ⟨d + 1, by have := HC.out; omega, by have := HC.out; congr 1; omega, by rw [HST.out, ← HQ.out]⟩
        case measure => simp [intOf]; omega
      · have HD : Hid (d = p - 1) := by
          have hd : d = p - 1 := by have := HC.out; omega
          exact Lib.hid hd
        go_wp2
        go_ret2
        exact ⟨ret_ib (by rw [HX.out, HD.out]), Below.refl _ _⟩
  · have hp : partIn xs = false := by simpa using hp
    have hr : finerChains xs = (0, false) := by simp [finerChains, hp]
    rw [hr]
    have HP := Lib.hid hp
    clear hp hr
    go_enter Tryz.func211, Tryz.ntmps211
    go_wp2_with fail
    refine (iPartIn_w _ _ _ HV.out).mono ?_
    rintro e w' ⟨rfl, rfl⟩
    rw [HP.out]
    go_wp2
    go_ret2
    exact ⟨rfl, Below.refl _ _⟩
end

section
open Go.RowKit

theorem own_slice' {w : World} {B : Nat} {v : Value} {xs : List Int} (h : Own w B v xs) : ∃ ao cap, v = .slice ao xs.length cap := by
  obtain ⟨ao, cap, hv, _⟩ := own_rd h
  exact ⟨ao, cap, hv⟩

theorem ownM_slot {w : World} {B S g n cap : Nat} {xss : List (List Int)} (h : OwnM w B S (.slice (some ⟨g, 0, none⟩) n cap) xss) : B ≤ g ∧ g < S ∧ g < w.heap.size := by
  obtain ⟨vs, _, hv, _⟩ := ownM_parts h
  rcases hv with ⟨h, _⟩ | ⟨g', cap', h, hb, hs, hg, _⟩
  · cases h
  · simp only [Value.slice.injEq, Option.some.injEq, Addr.mk.injEq, and_true, true_and] at h
    omega

theorem wpList_row {w : World} {ops : Array Oper} {rest : List Oper} {o : Oper} {a : Act} {Q : Exit → Act → World → Prop} (hgd : o.guard = none) (s x : Operand)
    (ho : o.op = .call { callee := .builtin .append, args := #[s, x], argTypes := #[91, 91] })
    (w0 wq : World) (u : Value) (hw : w = wq.alloc (.cells #[u] 26)) (S g n cap : Nat) (xss : List (List Int)) (hs : a.eval s = .slice (some ⟨g, 0, none⟩) n cap) (hown : OwnM wq w0.heap.size S (.slice (some ⟨g, 0, none⟩) n cap) xss) (hn : n = xss.length)
    (hx : a.eval x = .slice (some ⟨wq.heap.size, 0, none⟩) 1 1) (ys : List Int) (hu : Own wq w0.heap.size u ys) (hui : InB u S wq.heap.size) (hSw : w0.heap.size ≤ S ∧ S ≤ wq.heap.size) (hl : n ≤ 1000000000) (hbel : Below w0.heap.size w0 wq)
    (h : ∀ g' cap' w', OwnM w' w0.heap.size w'.heap.size (.slice (some ⟨g', 0, none⟩) (n + 1) cap') (xss ++ [ys]) → Below w0.heap.size w0 w' → wq.heap.size < w'.heap.size → wpList Tryz.prog ops Q rest (a.put o.dst (.slice (some ⟨g', 0, none⟩) (n + 1) cap')) w') :
    wpList Tryz.prog ops Q (o :: rest) a w := by
  subst hw
  have hsl := ownM_slot hown
  refine wpList_pushM hgd s x ho w0.heap.size S g n cap xss hs (ownM_below hown ((Below.refl _ _).alloc (Nat.le_refl _) _)) hn ⟨wq.heap.size, 0, none⟩ hx u ys (cell_new1 _ _ _) (own_alloc hu _) (fun q hq => by have := hui q hq; simp; omega) hSw.1 (by simp; omega) hl (n + 1) rfl ?_
  intro g' cap' w' h1 h2
  refine h g' cap' w' h1 ?_ ?_
  · exact (hbel.alloc (by omega) _).grown h2 (by simp; omega) (fun q hq => by cases hq; exact hsl.1)
  · have := h2.size
    simp at this
    omega
end

section
open Go.RowKit

def retold (xs : List Int) (l g : Int) : List Int := xs.map fun x => if x = g then l else x

theorem retold_length (xs : List Int) (l g : Int) : (retold xs l g).length = xs.length := by simp [retold]
theorem retold_getD (xs : List Int) (l g : Int) (k : Nat) (h : k < xs.length) : (retold xs l g).getD k 0 = if xs.getD k 0 = g then l else xs.getD k 0 := by
  simp [retold, List.getD, h]

theorem retold_stage (xs : List Int) (l g : Int) (k : Nat) (h : k < xs.length) (v : Int) (hv : v = (retold xs l g).getD k 0) :
    ((retold xs l g).take k ++ xs.drop k).set k v = (retold xs l g).take (k + 1) ++ xs.drop (k + 1) := by
  have hk : ((retold xs l g).take k).length = k := by simp [retold_length]; omega
  rw [hv, List.set_append_right _ _ (by omega), hk, Nat.sub_self, List.drop_eq_getElem_cons h, List.set_cons_zero, take_snoc _ k (by rw [retold_length]; exact h), List.append_assoc]
  rfl
theorem retold_keep (xs : List Int) (l g : Int) (k : Nat) (h : k < xs.length) (hv : xs.getD k 0 = (retold xs l g).getD k 0) :
    (retold xs l g).take k ++ xs.drop k = (retold xs l g).take (k + 1) ++ xs.drop (k + 1) := by
  rw [take_snoc _ k (by rw [retold_length]; exact h), drop_cons xs k h, hv, List.append_assoc]
  rfl

set_option maxHeartbeats 1600000 in
theorem merged_v (v : Value) (xs : List Int) (l g : Int) (w : World) (hv : RdV w v xs) (h1 : 1 ≤ xs.length) (h8 : xs.length ≤ 8) :
    Calls Tryz.prog 266 #[v, .int .i64 l, .int .i64 g] w (FreshL w (kOut (retold xs l g))) := by
  obtain ⟨bx, ox, cx, rfl, hcx, hbx, hcx1, hcx2⟩ := rdv_cells hv h1
  obtain ⟨n, hn⟩ : ∃ n, n = xs.length := ⟨_, rfl⟩
  have HN := Lib.hid hn
  have HCL := Lib.hid (slicesClone_any bx ox cx xs w (by omega) hcx)
  rw [← hn] at HCL h1 h8 ⊢
  clear hv hn hcx1 hcx2
  go_enter Tryz.func266, Tryz.ntmps266
  go_wp2_with fail
  refine (HCL.out).mono ?_
  rintro e w1 ⟨gs, cap, rfl, ho, hb⟩
  have HO := Lib.hid ho
  clear ho
  go_wp2
  go_loopw [14] (fun i wr => ∃ k : Nat, k ≤ n ∧ i = .int .i64 k ∧ Own wr w.heap.size (.slice (some ⟨gs, 0, none⟩) n cap) ((retold xs l g).take k ++ xs.drop k) ∧ Below w.heap.size w wr) (fun i _ => n - (intOf i).toNat)
  case atStart => exact ⟨0, Nat.zero_le _, rfl, by simpa using HO.out, hb⟩
  case round =>
    obtain ⟨k, hk, rfl, hown, hbel⟩ := hrel
    by_cases hlt : k < n
    · have hck := cells_at (cells_below hcx hbel) k (by rw [← HN.out]; exact hlt)
      have hml : ((retold xs l g).take k ++ xs.drop k).length = n := by simp [retold_length, ← HN.out]; omega
      have hrg := retold_getD xs l g k (by rw [← HN.out]; exact hlt)
      have hstage := retold_stage xs l g k (by rw [← HN.out]; exact hlt)
      have hkeep := retold_keep xs l g k (by rw [← HN.out]; exact hlt)
      have hgl := own_lt hown gs rfl
      obtain ⟨x, hx⟩ : ∃ x, x = xs.getD k 0 := ⟨_, rfl⟩
      rw [← hx] at hck hrg hkeep
      have b1 : (k : Int) < n := by omega
      by_cases hxg : x = g
      · subst hxg
        rw [if_pos rfl] at hrg
        have hfz := own_frozen hown k
        obtain ⟨v0, hv0⟩ : ∃ v0, wr.cell? ⟨gs, k, none⟩ = some v0 := ⟨_, own_cell hown k (by rw [hml]; omega)⟩
        obtain ⟨hst, hgs⟩ := own_stored hown hml.symm k l
        rw [hstage l hrg.symm] at hst
        have HST := Lib.hid hst
        clear hml hrg hstage hkeep hx hst hgs hown
        go_wp2
        go_roundw
        case rel => exact ⟨k + 1, by omega, by go_num, HST.out, hbel.setCell hgl.1 _⟩
        case measure => simp [intOf]; omega
      · rw [if_neg hxg] at hrg
        rw [hkeep hrg.symm] at hown
        have HO2 := Lib.hid hown
        have hb : (x == g) = false := by simpa using hxg
        clear hml hrg hstage hkeep hx hown
        go_wp2
        go_roundw
        case rel => exact ⟨k + 1, by omega, by go_num, HO2.out, hbel⟩
        case measure => simp [intOf]; omega
    · have hkn : k = n := by omega
      subst hkn
      rw [List.take_of_length_le (by rw [retold_length, ← HN.out]; omega), List.drop_of_length_le (by rw [← HN.out]; omega), List.append_nil] at hown
      have HRD := Lib.hid (own_rdv hown)
      clear hown
      go_wp2_with fail
      refine (kernel_v _ _ _ HRD.out (by rw [retold_length, ← HN.out]; omega)).mono ?_
      rintro e w2 ⟨u, rfl, ho, hb2⟩
      go_wp2
      go_ret
      exact ⟨_, rfl, own_mono ho hbel.size, below_step hbel hb2⟩

def mrow (xs : List Int) (x j : Nat) : List (List Int) := (List.range j).map fun i => kOut (retold xs (x : Int) ((x + 1 + i : Nat) : Int))
def mergesTo (xs : List Int) (p k : Nat) : List (List Int) := (List.range k).flatMap fun x => mrow xs x (p - 1 - x)
def finerMerges (xs : List Int) : List (List Int) × Bool := if partIn xs then (mergesTo xs (pSize xs).toNat (pSize xs).toNat, true) else ([], false)

theorem mrow_length (xs : List Int) (x j : Nat) : (mrow xs x j).length = j := by simp [mrow]
theorem mrow_succ (xs : List Int) (x j : Nat) : mrow xs x (j + 1) = mrow xs x j ++ [kOut (retold xs (x : Int) ((x + 1 + j : Nat) : Int))] := by simp [mrow, List.range_succ]
theorem mergesTo_succ (xs : List Int) (p k : Nat) : mergesTo xs p (k + 1) = mergesTo xs p k ++ mrow xs k (p - 1 - k) := by simp [mergesTo, List.range_succ]

theorem total_append (a b : List (List Int)) : total (a ++ b) = total a + total b := by
  induction a with
  | nil => simp [total]
  | cons x a ih => rw [List.cons_append, total_cons, total_cons, ih]; omega

theorem mrow_total (xs : List Int) (x j : Nat) : total (mrow xs x j) = j * xs.length := by
  induction j with
  | zero => simp [mrow, total]
  | succ j ih => rw [mrow_succ, total_append, ih, total_cons, kOut_length, retold_length, Nat.succ_mul]; simp [total]

theorem mergesTo_bd (xs : List Int) (p : Nat) (hp : p ≤ 8) (hl : xs.length ≤ 8) : ∀ k, (mergesTo xs p k).length ≤ 8 * k ∧ total (mergesTo xs p k) ≤ 64 * k := by
  intro k
  induction k with
  | zero => simp [mergesTo, total]
  | succ k ih =>
    rw [mergesTo_succ, List.length_append, mrow_length, total_append, mrow_total]
    have h1 : p - 1 - k ≤ 8 := by omega
    have h2 : (p - 1 - k) * xs.length ≤ 8 * 8 := Nat.mul_le_mul h1 hl
    omega

set_option maxHeartbeats 1600000 in
theorem iFinerMerges_v (v : Value) (xs : List Int) (w : World) (hv : RdV w v xs) : Calls Tryz.prog 209 #[v] w (FreshMB w (finerMerges xs)) := by
  have HV := Lib.hid hv
  clear hv
  by_cases hp : partIn xs = true
  · obtain ⟨p, hps⟩ := Int.eq_ofNat_of_zero_le (pSize_bd (partIn_small hp)).1
    have hbd := pSize_bd (partIn_small hp)
    rw [hps] at hbd
    have hr : finerMerges xs = (mergesTo xs p p, true) := by simp [finerMerges, hp, hps]
    rw [hr]
    have HP := Lib.hid hp
    have HSM := Lib.hid (partIn_small hp)
    have HPS := Lib.hid hps
    obtain ⟨hl1, hl8⟩ := partIn_len hp
    have hpos := pSize_pos HSM.out hl1
    rw [hps] at hpos
    have hp8 : p ≤ 8 := by omega
    have HBD := Lib.hid (mergesTo_bd xs p hp8 hl8)
    obtain ⟨i0, hi, hz0, hz1, hz2⟩ := info_parts Tryz.infoInts
    clear hp hr hps
    have hq28 : p * (p - 1) / 2 ≤ 64 := by
      have : p * (p - 1) ≤ 8 * 8 := Nat.mul_le_mul hp8 (by omega)
      omega
    obtain ⟨q, hq⟩ : ∃ q, q = p * (p - 1) / 2 := ⟨_, rfl⟩
    rw [← hq] at hq28
    have HQ := Lib.hid hq
    clear hq
    go_enter Tryz.func209, Tryz.ntmps209
    go_wp2_with fail
    refine (iPartIn_is true _ _ _ HV.out HP).mono ?_
    rintro e w' ⟨rfl, rfl⟩
    go_wp2_with fail
    refine (blockCount_v _ xs _ HV.out hl1 HSM.out).mono ?_
    rintro e w' ⟨rfl, rfl⟩
    rw [HPS.out]
    go_wp2_with fail
    refine (pairCount_any p _ hp8).mono ?_
    rintro e w' ⟨rfl, rfl⟩
    rw [← HQ.out]
    go_wp2_with (at_make; refine wpList_make_own _ rfl _ _ 91 rfl w.heap.size 26 i0 (.slice none 0 0) 1 Tryz.underlying91 hi hz0 hz1 _ _ _ q rfl rfl rfl (by rw [hz2]; omega) (by unfold maxLen; omega) (Nat.le_refl _) ?_)
    intro w1 hown1 hgrow1
    have hb1 : Below w.heap.size w w1 := (Below.refl _ _).grown hgrow1 (Nat.le_refl _) (fun k h => by cases h)
    have hlt1 := (World.ownsRow.lt hown1 w.heap.size rfl).2
    have HO1 : Hid (OwnM w1 w.heap.size w1.heap.size (.slice (some ⟨w.heap.size, 0, none⟩) 0 q) []) := by
      refine Lib.hid (⟨[], rfl, hown1, fun k hk => by simp [Value.ownBlock] at hk; omega, fun i hi => by simp at hi, fun i j _ hj => by simp at hj⟩ : OwnM w1 w.heap.size w1.heap.size (.slice (some ⟨w.heap.size, 0, none⟩) 0 q) [])
    clear hown1 hgrow1
    go_wp2
    go_loopw [5, 17] (fun u i wr => ∃ k m g cap : Nat, k ≤ p ∧ i = .int .i64 k ∧ u = .slice (some ⟨g, 0, none⟩) m cap ∧ m = (mergesTo xs p k).length ∧ OwnM wr w.heap.size wr.heap.size (.slice (some ⟨g, 0, none⟩) m cap) (mergesTo xs p k) ∧ Below w.heap.size w wr)
      (fun _ i _ => p - (intOf i).toNat)
    case atStart => exact ⟨0, 0, w.heap.size, q, Nat.zero_le _, rfl, rfl, rfl, HO1.out, hb1⟩
    case round =>
      obtain ⟨k, m, g, cap, hk, rfl, rfl, hm, hown, hbel⟩ := hrel
      have HM := Lib.hid hm
      have HO := Lib.hid hown
      clear hm hown
      by_cases hlt : k < p
      · obtain ⟨wo, hwo⟩ : ∃ wo : World, wo = wr := ⟨_, rfl⟩
        subst hwo
        go_wp2
        go_loopw [5, 7] (fun u i wr => ∃ j m g cap : Nat, j ≤ p - 1 - k ∧ i = .int .i64 ((k + 1 + j : Nat) : Int) ∧ u = .slice (some ⟨g, 0, none⟩) m cap ∧ m = (mergesTo xs p k ++ mrow xs k j).length ∧ OwnM wr w.heap.size wr.heap.size (.slice (some ⟨g, 0, none⟩) m cap) (mergesTo xs p k ++ mrow xs k j) ∧ Below w.heap.size w wr)
          (fun _ i _ => p - (intOf i).toNat)
        case atStart => exact ⟨0, m, g, cap, Nat.zero_le _, by go_num, rfl, by simpa [mrow] using HM.out, by simpa [mrow] using HO.out, hbel⟩
        case round =>
          obtain ⟨j, m2, g2, cap2, hj, rfl, rfl, hm2, hown2, hbel2⟩ := hrel
          have HM2 := Lib.hid hm2
          have HO2 := Lib.hid hown2
          have hml : m2 ≤ 1000 := by
            have := (HBD.out k).1
            rw [hm2, List.length_append, mrow_length]
            omega
          obtain ⟨y, hy⟩ : ∃ y, y = k + 1 + j := ⟨_, rfl⟩
          rw [← hy]
          have HY := Lib.hid hy
          clear hm2 hown2
          by_cases hyp : y < p
          · have HV2 := Lib.hid (rdv_below HV.out hbel2)
            have hj2 : j + 1 ≤ p - 1 - k := by omega
            clear hy
            go_wp2_with fail
            refine (merged_v _ xs k y _ HV2.out hl1 hl8).mono ?_
            rintro e w3 ⟨u, rfl, ho, hb3⟩
            obtain ⟨gu, cu, rfl⟩ := own_slice' ho
            have hbel3 := below_step hbel2 hb3
            have hin := inB_of_own ho
            have HO3 := Lib.hid (own_mono ho hbel2.size)
            have HOM := Lib.hid (ownM_below HO2.out hb3)
            have hs23 := hb3.size
            have hs02 := hbel2.size
            clear ho hb3
            go_wp2_with (at_builtin; refine wpList_row rfl _ _ rfl w w3 _ rfl wr.heap.size g2 m2 cap2 (mergesTo xs p k ++ mrow xs k j) rfl HOM.out HM2.out rfl (kOut (retold xs (k : Int) (y : Int))) HO3.out hin ⟨hs02, hs23⟩ (by omega) hbel3 ?_)
            intro g4 cap4 w4 hown4 hbel4 hs4
            have HO4 := Lib.hid hown4
            clear hown4
            go_wp2
            go_roundw
            case rel => exact ⟨j + 1, m2 + 1, g4, cap4, hj2, by have := HY.out; congr 1; omega, rfl, by rw [mrow_succ, ← List.append_assoc, List.length_append, ← HM2.out]; rfl, by rw [mrow_succ, ← HY.out]; first | exact HO4.out | (rw [← List.append_assoc]; exact HO4.out), hbel4⟩
            case measure => simp [intOf]; omega
          · have hj2 : j = p - 1 - k := by omega
            have hyp2 : y = p := by omega
            have HJ2 := Lib.hid hj2
            clear hj2 hy hyp2
            go_wp2
            go_roundw
            case rel => exact ⟨k + 1, m2, g2, cap2, by omega, by go_num, rfl, by rw [mergesTo_succ, ← HJ2.out]; exact HM2.out, by rw [mergesTo_succ, ← HJ2.out]; exact HO2.out, hbel2⟩
            case measure => simp [intOf]; omega
      · have hkp : k = p := by omega
        subst hkp
        go_wp2
        go_ret2
        exact ⟨_, rfl, HO.out, hbel⟩
  · have hp : partIn xs = false := by simpa using hp
    have hr : finerMerges xs = ([], false) := by simp [finerMerges, hp]
    rw [hr]
    have HP := Lib.hid hp
    clear hp hr
    go_enter Tryz.func209, Tryz.ntmps209
    go_wp2_with fail
    refine (iPartIn_is false _ _ _ HV.out HP).mono ?_
    rintro e w' ⟨rfl, rfl⟩
    go_wp2
    go_ret2
    exact ⟨_, rfl, ownM_nil _ _ _, Below.refl _ _⟩
end

theorem finer_parts {xs ys : List Int} (h : finerIn xs ys = true) : partIn xs = true ∧ partIn ys = true ∧ xs.length = ys.length ∧ finerB xs ys = true ∧ alike xs ys = true := by
  simp only [finerIn, Bool.and_eq_true] at h
  obtain ⟨ha, hf⟩ := h
  obtain ⟨h1, h2, h3⟩ := alike_iff.1 ha
  exact ⟨h1, h2, h3, hf, ha⟩

theorem finer_mk {xs ys : List Int} (h1 : partIn xs = true) (h2 : partIn ys = true) (h3 : xs.length = ys.length) (h4 : ∀ i k, i < xs.length → k < xs.length → xs.getD i 0 = xs.getD k 0 → ys.getD i 0 = ys.getD k 0) : finerIn xs ys = true := by
  simp only [finerIn, Bool.and_eq_true]
  exact ⟨alike_iff.2 ⟨h1, h2, h3⟩, finer_iff.2 h4⟩

theorem join_finer {xs ys : List Int} (ha : alike xs ys = true) : finerIn xs (kOut (joinAll xs ys xs.length xs.length)) = true ∧ finerIn ys (kOut (joinAll xs ys xs.length xs.length)) = true := by
  obtain ⟨hx, hy, hl⟩ := alike_iff.1 ha
  have hlen := partIn_len hx
  have hjl := joinAll_len xs ys xs.length xs.length
  have hml : (kOut (joinAll xs ys xs.length xs.length)).length = xs.length := by rw [kOut_length, hjl]
  have hp : partIn (kOut (joinAll xs ys xs.length xs.length)) = true := partIn_kOut (by rw [hjl]; exact hlen.1) (by rw [hjl]; exact hlen.2)
  have hk : ∀ i k, i < xs.length → k < xs.length → tog xs ys i k = true → (kOut (joinAll xs ys xs.length xs.length)).getD i 0 = (kOut (joinAll xs ys xs.length xs.length)).getD k 0 := by
    intro i k hi hk ht
    exact ((kOut_inv _).2 i k (by rw [hjl]; exact hi) (by rw [hjl]; exact hk)).1 (join_eq xs ys xs.length hi hk ht)
  exact ⟨finer_mk hx hp hml.symm fun i k hi hk' e => hk i k hi hk' (tog_iff.2 (.inl e)), finer_mk hy hp (by omega) fun i k hi hk' e => hk i k (by omega) (by omega) (tog_iff.2 (.inr e))⟩

theorem merges_len (xs : List Int) (p : Nat) (hp : p ≤ 8) : (mergesTo xs p p).length = p * (p - 1) / 2 := by
  have h : ∀ k, (mergesTo xs p k).length = ((List.range k).map fun x => p - 1 - x).sum := by
    intro k
    induction k with
    | zero => rfl
    | succ k ih =>
      rw [mergesTo_succ, List.length_append, mrow_length, ih, List.range_succ, List.map_append, List.sum_append]
      simp
  rw [h]
  have : ∀ p, p < 9 → ((List.range p).map fun x => p - 1 - x).sum = p * (p - 1) / 2 := by decide
  exact this p (by omega)

theorem merges_each (xs : List Int) (p : Nat) (r : List Int) : ∀ k, r ∈ mergesTo xs p k → ∃ x y : Nat, x < y ∧ y < p ∧ r = kOut (retold xs (x : Int) (y : Int)) := by
  intro k h
  unfold mergesTo mrow at h
  rw [List.mem_flatMap] at h
  obtain ⟨x, hx, h⟩ := h
  rw [List.mem_map] at h
  obtain ⟨i, hi, e⟩ := h
  have : i < p - 1 - x := by simpa using hi
  exact ⟨x, x + 1 + i, by omega, by omega, e.symm⟩

section
open Go.RowKit

def spl : Nat → Int
  | 0 => 0
  | n + 1 => if n = 0 then 0 else 2 * spl n + 1

theorem spl_bd : ∀ n, n < 9 → 0 ≤ spl n ∧ spl n ≤ 127 := by decide +kernel

theorem splits_any (b : Nat) : ∀ (k c : Nat) (w : World), c ≤ k → 1 ≤ c → c ≤ 8 → w.cell? ⟨b, 0, none⟩ = some (.func (.func 267) #[] #[.pointer (some ⟨b, 0, none⟩)]) →
    Calls Tryz.prog 267 #[.int .i64 c, .pointer (some ⟨b, 0, none⟩)] w fun e w' => e = .returned (.int .i64 (spl c)) ∧ w = w' := by
  intro k
  induction k with
  | zero => intro c w h1 h2; omega
  | succ k ih =>
    intro c w hck hc1 hc8 hcell
    by_cases h1 : c = 1
    · subst h1
      go_enter Tryz.func267, Tryz.ntmps267
      go_wp2_with fail
      go_ret
      exact ⟨rfl, rfl⟩
    · obtain ⟨m, hm⟩ : ∃ m, m = c - 1 := ⟨_, rfl⟩
      have hmi : (c : Int) - 1 = (m : Int) := by omega
      have hst : spl c = 2 * spl m + 1 := by
        obtain ⟨d, rfl⟩ : ∃ d, c = d + 1 := ⟨c - 1, by omega⟩
        rw [hm, Nat.add_sub_cancel, spl, if_neg (by omega)]
      have hb := spl_bd m (by omega)
      have hne : ((c : Int) == 1) = false := by simp; omega
      have HST := Lib.hid hst
      have HIH := Lib.hid (ih m w (by omega) (by omega) (by omega) hcell)
      have HMI := Lib.hid hmi
      obtain ⟨x, hx⟩ : ∃ x, x = spl m := ⟨_, rfl⟩
      rw [← hx] at HIH HST hb
      clear ih hm hst hx hmi h1
      go_enter Tryz.func267, Tryz.ntmps267
      go_wp2_with fail
      rw [HMI.out]
      refine (HIH.out).mono ?_
      rintro e w' ⟨rfl, rfl⟩
      go_wp2_with fail
      go_ret
      exact ⟨ret_int HST.out.symm, rfl⟩

def sumOf (f : Nat → Int) (l : List Int) : Int := l.foldl (fun w c => w + f c.toNat) 0
def finerSplits (xs : List Int) : Int × Bool := if partIn xs then (sumOf spl (sizes xs), true) else (0, false)

theorem sumOf_snoc (f : Nat → Int) (l : List Int) (c : Int) : sumOf f (l ++ [c]) = sumOf f l + f c.toNat := by simp [sumOf, List.foldl_append]
theorem sumOf_bd : ∀ l : List Int, (∀ c ∈ l, 0 ≤ c ∧ c ≤ 8) → 0 ≤ sumOf spl l ∧ sumOf spl l ≤ 127 * l.length := by
  refine snoc_induction (fun _ => by simp [sumOf]) fun l c ih h => ?_
  have h1 := ih fun d hd => h d (by simp [hd])
  have h2 := h c (by simp)
  have h3 := spl_bd c.toNat (by omega)
  rw [sumOf_snoc, List.length_append]
  simp
  omega

theorem cntAt_pos (xs : List Int) (b : Nat) : ∀ k i, i < k → xs.getD i 0 = (b : Int) → 1 ≤ cntAt xs b k := by
  intro k
  induction k with
  | zero => intro i hi; omega
  | succ k ih =>
    intro i hi e
    unfold cntAt
    by_cases h : i = k
    · subst h
      rw [if_pos e]
      omega
    · have := ih i (by omega) e
      split <;> omega

theorem sizes_bd {xs : List Int} (h : partIn xs = true) : ∀ c ∈ sizes xs, 1 ≤ c ∧ c ≤ 8 := by
  intro c hc
  obtain ⟨b, hb, rfl⟩ := List.mem_map.1 hc
  have hb2 : b < (pSize xs).toNat := by simpa using hb
  have hm : (b : Int) ∈ xs := (mem_part h _).2 (by omega)
  obtain ⟨i, hi, e⟩ := mem_iff_getD.1 hm
  have h1 := cntAt_pos xs b xs.length i hi e
  have h2 := cntAt_le xs b xs.length
  have h3 := (partIn_len h).2
  omega

set_option maxHeartbeats 1600000 in
theorem iFinerSplits_v (v : Value) (xs : List Int) (w : World) (hv : RdV w v xs) : Calls Tryz.prog 210 #[v] w (GivesIB w (finerSplits xs)) := by
  have HV := Lib.hid hv
  clear hv
  by_cases hp : partIn xs = true
  · have hr : finerSplits xs = (sumOf spl (sizes xs), true) := by simp [finerSplits, hp]
    rw [hr]
    have HP := Lib.hid hp
    have HSM := Lib.hid (partIn_small hp)
    have hbd := pSize_bd HSM.out
    obtain ⟨p, hps⟩ := Int.eq_ofNat_of_zero_le hbd.1
    rw [hps] at hbd
    have HPS := Lib.hid hps
    have hl8 := (partIn_len hp).2
    clear hp hr hps
    have hmf : ∀ (fn : Fn) (first cap : Array Value) (w : World), (Instr.makeFunc fn first cap).run Tryz.prog w = .ok (.func fn first cap) w := fun _ _ _ _ => rfl
    go_enter Tryz.func210, Tryz.ntmps210
    go_wp2_with fail
    refine (iPartIn_is true _ _ _ HV.out HP).mono ?_
    rintro e w' ⟨rfl, rfl⟩
    go_wp2_with fail
    obtain ⟨w0, hw0⟩ : ∃ w0, w0 = w.alloc (.cells #[.func (.func 267) #[] #[.pointer (some ⟨w.heap.size, 0, none⟩)]] 35) := ⟨_, rfl⟩
    have hb0 : Below w.heap.size w w0 := by rw [hw0]; exact (Below.refl _ _).alloc (Nat.le_refl _) _
    have hs0 : w0.heap.size = w.heap.size + 1 := by rw [hw0]; simp
    have hc0 : w0.cell? ⟨w.heap.size, 0, none⟩ = some (.func (.func 267) #[] #[.pointer (some ⟨w.heap.size, 0, none⟩)]) := by rw [hw0]; simp
    rw [← hw0]
    clear hw0
    have HS0 := Lib.hid hs0
    have HC0 := Lib.hid hc0
    clear hs0 hc0
    refine (blocksOf_v _ xs p _ (rdv_below HV.out hb0) HP.out HPS.out).mono ?_
    rintro e w1 ⟨rfl, hu1, hb1⟩
    have hbel := below_step hb0 hb1
    have HC1 := Lib.hid ((hb1.cell (p := ⟨w.heap.size, 0, none⟩) (by rw [HS0.out]; exact Nat.lt_succ_self _)).trans HC0.out)
    have HU := Lib.hid hu1
    clear hb0 hb1 hu1 HC0
    have HSL := Lib.hid (show (sizes xs).length = p by rw [sizes_length]; have := HPS.out; omega)
    have HSB := Lib.hid (sizes_bd HP.out)
    go_wp2
    go_loopw [5, 15] (fun u i wr => ∃ k : Nat, k ≤ p ∧ i = .int .i64 k ∧ u = .int .i64 (sumOf spl ((sizes xs).take k)) ∧ Quiet w1 wr) (fun _ i _ => p - (intOf i).toNat)
    case atStart => exact ⟨0, Nat.zero_le _, rfl, rfl, Quiet.refl _⟩
    case round =>
      obtain ⟨k, hk, rfl, rfl, hq⟩ := hrel
      have hbs := sumOf_bd ((sizes xs).take k) fun c hc => by have := HSB.out c (List.mem_of_mem_take hc); omega
      have hlk : ((sizes xs).take k).length ≤ 8 := by rw [List.length_take]; have := HSL.out; omega
      by_cases hlt : k < p
      · have hml : (masks xs xs.length p).length = p := by simp [masks]
        have hcm := ownU_cell (ownU_below HU.out hq.below) hml.symm k (by omega)
        have hgm : (masks xs xs.length p).getD k 0 = maskAt xs k xs.length := by simp [masks, List.getD, hlt]
        rw [hgm] at hcm
        have hm256 := maskAt_256 xs k xs.length (by omega)
        have hcnt := cnt_mask xs k xs.length (by omega)
        have hts := sizes_take xs p k HPS.out hlt
        rw [← hcnt] at hts
        have hsz := HSB.out (cnt (maskAt xs k xs.length) : Int) (by
          have h2 : (cnt (maskAt xs k xs.length) : Int) ∈ (sizes xs).take (k + 1) := by rw [hts]; simp
          exact List.mem_of_mem_take h2)
        obtain ⟨m, hm⟩ : ∃ m, m = maskAt xs k xs.length := ⟨_, rfl⟩
        rw [← hm] at hcm hm256 hts hsz
        have hfin : sumOf spl ((sizes xs).take (k + 1)) = sumOf spl ((sizes xs).take k) + spl (cnt m) := by rw [hts, sumOf_snoc, Int.toNat_natCast]
        obtain ⟨c, hc⟩ : ∃ c, c = cnt m := ⟨_, rfl⟩
        obtain ⟨x, hx⟩ : ∃ x, x = sumOf spl ((sizes xs).take k) := ⟨_, rfl⟩
        rw [← hc] at hfin hsz
        rw [← hx] at hfin hbs ⊢
        have hspb := spl_bd c (by omega)
        have hcf : wr.cell? ⟨w.heap.size, 0, none⟩ = some (.func (.func 267) #[] #[.pointer (some ⟨w.heap.size, 0, none⟩)]) := by
          obtain ⟨m0, rfl⟩ := hq
          exact HC1.out
        have hsp : ∀ q, Calls Tryz.prog 267 #[.int .i64 c, .pointer (some ⟨w.heap.size, 0, none⟩)] (wr.drewN q) fun e w' => e = .returned (.int .i64 (spl c)) ∧ w' = wr.drewN q := fun q =>
          (splits_any w.heap.size c c (wr.drewN q) (Nat.le_refl _) (by omega) (by omega) hcf).mono fun _ _ ⟨a, b⟩ => ⟨a, b.symm⟩
        have hsi : ∀ q, Calls Tryz.prog 244 #[.int .u64 m] (wr.drewN q) fun e w' => e = .returned (.int .i64 c) ∧ w' = wr.drewN q := fun q => by
          rw [hc]
          exact (size_any m (wr.drewN q) hm256).mono fun _ _ ⟨a, b⟩ => ⟨a, b.symm⟩
        obtain ⟨y, hy⟩ : ∃ y, y = spl c := ⟨_, rfl⟩
        rw [← hy] at hfin hspb hsp
        have HFIN := Lib.hid hfin
        have HSP := Lib.hid hsp
        have HSI := Lib.hid hsi
        have b1 : (k : Int) < p := by omega
        have b2 : IntKind.i64.wrap (x + y) = x + y := IntWalk.i64_in _ (by omega)
        clear hml hgm hcnt hts hm hfin hsp hsi hc hx hy
        go_wp2
        go_quiet (first | (go_at_call 244; exact Calls.quiet_of_same (HSI.out _)) | (go_at_call 267; exact Calls.quiet_of_same (HSP.out _)))
        go_wp2
        go_roundw
        case rel => exact ⟨k + 1, by omega, by go_num, by rw [HFIN.out], hq.drewN _⟩
        case measure => simp [intOf]; omega
      · have hkp : k = p := by omega
        subst hkp
        have he : sumOf spl ((sizes xs).take k) = sumOf spl (sizes xs) := by rw [List.take_of_length_le (by rw [HSL.out]; omega)]
        rw [he]
        clear he hbs
        go_wp2
        go_ret2
        exact ⟨rfl, below_step hbel hq.below⟩
  · have hp : partIn xs = false := by simpa using hp
    have hr : finerSplits xs = (0, false) := by simp [finerSplits, hp]
    rw [hr]
    have HP := Lib.hid hp
    clear hp hr
    go_enter Tryz.func210, Tryz.ntmps210
    go_wp2_with fail
    refine (iPartIn_is false _ _ _ HV.out HP).mono ?_
    rintro e w' ⟨rfl, rfl⟩
    go_wp2
    go_ret2
    exact ⟨rfl, Below.refl _ _⟩
end

theorem finerJoin_yes {xs ys : List Int} (h : alike xs ys = true) : finerJoin xs ys = (kOut (joinAll xs ys xs.length xs.length), true) := by simp [finerJoin, h]
theorem finerJoin_no {xs ys : List Int} (h : alike xs ys = false) : finerJoin xs ys = ([], false) := by simp [finerJoin, h]

theorem pSize_end {xs : List Int} (h : partIn xs = true) : pSize xs = endFrom 0 xs := by
  have e := kOut_of_ok xs (partIn_ok h)
  have h2 := pSize_kOut xs
  rw [e.1] at h2
  rw [h2, e.2]

theorem put_part {xs : List Int} {k : Int} (h : partIn xs = true) (hl : xs.length ≠ 8) (h0 : 0 ≤ k) (h1 : k ≤ pSize xs) : partIn (xs ++ [k]) = true := by
  have hlen := partIn_len h
  have ha := okFrom_append xs 0 k
  have ho := partIn_ok h
  rw [pSize_end h] at h1
  unfold partIn
  rw [ha.1, ho]
  simp [h0, h1]
  omega

theorem fresh : ∀ r : List Int, ∃ w : Int, ∀ t ∈ r, t < w
  | [] => ⟨0, fun t h => by cases h⟩
  | a :: r => by
    obtain ⟨w, h⟩ := fresh r
    refine ⟨max (a + 1) w, fun t ht => ?_⟩
    rcases List.mem_cons.1 ht with rfl | ht
    · omega
    · have := h t ht; omega

section
open Go.RowKit

def viewPath (xs ys : List Int) : Int × Bool := if alike xs ys then (pSize xs + pSize ys - 2 * pSize (kOut (joinAll xs ys xs.length xs.length)), true) else (0, false)

set_option maxHeartbeats 1600000 in
theorem iViewPath_v (v u : Value) (xs ys : List Int) (w : World) (hv : RdV w v xs) (hu : RdV w u ys) :
    Calls Tryz.prog 194 #[v, u] w (GivesIB w (viewPath xs ys)) := by
  have HV := Lib.hid hv
  have HU := Lib.hid hu
  clear hv hu
  have hJ := iFinerJoin_v v u xs ys w HV.out HU.out
  cases ha : alike xs ys
  · have hr : viewPath xs ys = (0, false) := by rw [viewPath, ha]; rfl
    rw [finerJoin_no ha] at hJ
    have HJ := Lib.hid hJ
    rw [hr]
    clear ha hr hJ
    go_enter Tryz.func194, Tryz.ntmps194
    go_wp2_with fail
    refine HJ.out.mono ?_
    rintro e w1 ⟨vj, rfl, o, hb⟩
    have HB := Lib.hid hb
    clear hb HJ o
    go_wp2
    go_ret2
    exact ⟨rfl, HB.out⟩
  · obtain ⟨hx, hy, hl⟩ := alike_iff.1 ha
    have hj := (finer_parts (join_finer ha).1).2.1
    have hr : viewPath xs ys = (pSize xs + pSize ys - 2 * pSize (kOut (joinAll xs ys xs.length xs.length)), true) := by rw [viewPath, ha]; rfl
    rw [finerJoin_yes ha] at hJ
    rw [hr]
    obtain ⟨js, hjs⟩ : ∃ js, js = kOut (joinAll xs ys xs.length xs.length) := ⟨_, rfl⟩
    rw [← hjs] at hj hJ ⊢
    have HJ := Lib.hid hJ
    have b1 := pSize_bd (partIn_small hx)
    have b2 := pSize_bd (partIn_small hy)
    have b3 := pSize_bd (partIn_small hj)
    have PX := Lib.hid hx
    have PY := Lib.hid hy
    have PJ := Lib.hid hj
    obtain ⟨a, hae⟩ : ∃ a, a = pSize xs := ⟨_, rfl⟩
    obtain ⟨b, hbe⟩ : ∃ b, b = pSize ys := ⟨_, rfl⟩
    obtain ⟨j, hje⟩ : ∃ j, j = pSize js := ⟨_, rfl⟩
    rw [← hae] at b1 ⊢
    rw [← hbe] at b2 ⊢
    rw [← hje] at b3 ⊢
    have HAE := Lib.hid hae
    have HBE := Lib.hid hbe
    have HJE := Lib.hid hje
    clear ha hr hJ hx hy hl hj hjs hae hbe hje
    go_enter Tryz.func194, Tryz.ntmps194
    go_wp2_with fail
    refine HJ.out.mono ?_
    rintro e w1 ⟨vj, rfl, o, hb⟩
    have HB := Lib.hid hb
    have HVJ := Lib.hid (own_rdv o)
    clear hb HJ o
    go_wp2_with fail
    refine (blockCount_p _ xs _ (rdv_below HV.out HB.out) PX).mono ?_
    rintro e w' ⟨rfl, rfl⟩
    rw [← HAE.out]
    go_wp2_with fail
    refine (blockCount_p _ js _ HVJ.out PJ).mono ?_
    rintro e w' ⟨rfl, rfl⟩
    rw [← HJE.out]
    go_wp2_with fail
    refine (blockCount_p _ ys _ (rdv_below HU.out HB.out) PY).mono ?_
    rintro e w' ⟨rfl, rfl⟩
    rw [← HBE.out]
    go_wp2_with fail
    refine (blockCount_p _ js _ HVJ.out PJ).mono ?_
    rintro e w' ⟨rfl, rfl⟩
    rw [← HJE.out]
    go_wp2
    go_ret2
    exact ⟨ret_ib (by omega), HB.out⟩
end

section
open Go.RowKit

def tz (b : Nat) : Nat := ((List.range 8).find? fun t => b.testBit t).getD 64

def tzTab : List Int := [0, 1, 56, 2, 57, 49, 28, 3, 61, 58, 42, 50, 38, 29, 17, 4, 62, 47, 59, 36, 45, 43, 51, 22, 53, 39, 33, 30, 24, 18, 12, 5, 63, 55, 48, 27, 60, 41, 37, 16, 46, 35, 44, 21, 52, 32, 23, 11, 54, 26, 40, 15, 34, 20, 31, 10, 25, 14, 19, 9, 13, 8, 7, 6]

def Tab (w : World) : Prop := 5 + 1 ≤ w.heap.size ∧ ∀ j, j < 64 → w.cell? ⟨5, j, none⟩ = some (.int .u8 (tzTab.getD j 0))

theorem tab_below {w w' : World} (h : Tab w) (hb : Below w.heap.size w w') : Tab w' :=
  ⟨Nat.le_trans h.1 hb.size, fun j hj => by rw [hb.cell (World.block_lt_of_cell? w _ (h.2 j hj))]; exact h.2 j hj⟩

def tzAt (b : Nat) : Nat := (IntKind.u64.wrap (bits BinOp.and IntKind.u64 (b : Int) (IntKind.u64.wrap (-(b : Int))) * 285870213051353865) / 288230376151711744).toNat

theorem tz_fact : ∀ b, b < 256 → 0 < b → tzAt b < 64 ∧ tzTab.getD (tzAt b) 0 = (tz b : Int) ∧ tz b < 8 ∧ IntKind.u64.wrap (bits BinOp.and IntKind.u64 (b : Int) (IntKind.u64.wrap (-(b : Int))) * 285870213051353865) / 288230376151711744 = (tzAt b : Int) := by decide +kernel

set_option maxHeartbeats 800000 in
theorem tz64_any (b : Nat) (w : World) (hT : Tab w) (hb : b < 256) (h0 : 0 < b) : Calls Tryz.prog 273 #[.int .u64 b] w fun e w' => e = .returned (.int .i64 (tz b)) ∧ w = w' := by
  obtain ⟨h1, h2, h3, h4⟩ := tz_fact b hb h0
  have hc := hT.2 _ h1
  rw [h2] at hc
  have hz : ((b : Int) == 0) = false := by simp; omega
  obtain ⟨i, hi⟩ : ∃ i, i = tzAt b := ⟨_, rfl⟩
  obtain ⟨r, hr⟩ : ∃ r, r = tz b := ⟨_, rfl⟩
  rw [← hi] at hc h1 h4
  rw [← hr] at hc h3 ⊢
  have hi64 : (i : Int) < 64 := by omega
  clear h2 hi hr
  go_enter Tryz.func273, Tryz.ntmps273
  go_wp2
  go_ret
  exact ⟨rfl, rfl⟩

theorem tz_any (b : Nat) (w : World) (hT : Tab w) (hb : b < 256) (h0 : 0 < b) : Calls Tryz.prog 222 #[.int .u64 b] w fun e w' => e = .returned (.int .i64 (tz b)) ∧ w = w' := by
  go_enter Tryz.func222, Tryz.ntmps222
  go_wp2_with fail
  refine (tz64_any b _ hT hb h0).mono ?_
  rintro e w' ⟨rfl, rfl⟩
  go_wp2
  go_ret
  exact ⟨rfl, rfl⟩
end

section
open Go.RowKit Go.Shelf

attribute [local go_sem] Oper.semAt_some

def bitsL (b : Nat) : List Int := ((List.range 8).filter fun t => b.testBit t).map fun (t : Nat) => (t : Int)

theorem bits_step : ∀ r, r < 256 → 0 < r → bitsL r = (tz r : Int) :: bitsL (r &&& (r - 1)) ∧ bits BinOp.and IntKind.u64 (r : Int) ((r : Int) - 1) = ((r &&& (r - 1) : Nat) : Int) ∧ (r &&& (r - 1)) < r := by decide +kernel
theorem bits_len : ∀ b, b < 256 → (bitsL b).length = cnt b ∧ cnt b ≤ 8 := by decide +kernel

theorem tab_belowN {n₀ : Nat} {w w' : World} (h : Tab w) (hn : 5 + 1 ≤ n₀) (hb : Below n₀ w w') : Tab w' :=
  ⟨Nat.le_trans h.1 hb.size, fun j hj => (hb.cell (p := ⟨5, j, none⟩) (by simp; omega)).trans (h.2 j hj)⟩

set_option maxHeartbeats 1600000 in
theorem things1_in (n : Nat) (hn : 1 ≤ n) (l Bn n₀ b : Nat) (hb : b < 256) (hn₀ : 5 + 1 ≤ n₀) (J Jx : List Int → World → Prop)
    (hY : ∀ pre x W, J pre W → pre.length < (bitsL b).length → YieldAt Fence.wide (n - 1) Tryz.prog l #[.int .i64 x] W fun e W' =>
      (e = .returned (.bool true) ∧ J (pre ++ [x]) W' ∧ Below n₀ W W') ∨ (e = .returned (.bool false) ∧ Jx (pre ++ [x]) W'))
    (W : World) (hT : Tab W) (hBn : W.cell? ⟨Bn, 0, none⟩ = some (.int .u64 b)) (h0 : J [] W) :
    CallsIn Fence.wide n Tryz.prog 303 #[.func (.yield l) #[] #[], .pointer (some ⟨Bn, 0, none⟩)] W fun e W' => (∃ v, e = .returned v) ∧
      ((∃ ys, ys = bitsL b ∧ J ys W') ∨ (∃ pre, pre <+: bitsL b ∧ Jx pre W')) := by
  refine callsIn_of_wp Tryz.func303 rfl trivial ?_ rfl
  simp only [Tryz.ntmps303, List.size_toArray, List.length_cons, List.length_nil, Nat.reduceAdd, Nat.reduceSub, Array.replicate_succ, Array.replicate_zero, List.push_toArray, List.append_toArray, List.nil_append, List.cons_append]
  gi_wp2
  gi_loopw [3] (fun p wr => ∃ (pre : List Int) (r : Nat), p = .int .u64 r ∧ r < 256 ∧ bitsL b = pre ++ bitsL r ∧ Tab wr ∧ J pre wr)
    (fun p wr => (intOf p).toNat)
  case atStart => exact ⟨[], b, rfl, hb, rfl, hT, h0⟩
  case round =>
    obtain ⟨pre, r, rfl, hr, hx, hTr, hJs⟩ := hrel
    by_cases hr0 : r = 0
    · subst hr0
      have he : bitsL 0 = [] := by decide
      rw [he, List.append_nil] at hx
      gi_wp2
      go_end0
      exact ⟨⟨_, rfl⟩, .inl ⟨pre, hx.symm, hJs⟩⟩
    · obtain ⟨h1, h2, h3⟩ := bits_step r hr (by omega)
      rw [h1] at hx
      obtain ⟨s, hs⟩ : ∃ s, s = r &&& (r - 1) := ⟨_, rfl⟩
      rw [← hs] at h2 h3 hx
      obtain ⟨x, hxe⟩ : ∃ x : Nat, x = tz r := ⟨_, rfl⟩
      have HC := Lib.hid (tz_any r wr hTr hr (by omega))
      rw [← hxe] at hx HC
      have HX := Lib.hid hx
      have hlen : pre.length < (bitsL b).length := by rw [hx]; simp
      obtain ⟨fn, tmps, assign, body, hy, hR⟩ := hY pre x wr hJs hlen
      have hz : ((r : Int) != 0) = true := by simp; omega
      clear h1 hs hxe hx hlen
      gi_wp2_with (refine ⟨trivial, ?_⟩; gi_at_call 222; refine (callsIn_wide.2 HC.out).mono ?_; rintro e w' ⟨rfl, rfl⟩)
      refine hR.mono ?_
      rintro e W3 (⟨rfl, hJ3, hk3⟩ | ⟨rfl, hJx3⟩)
      · have hT3 := tab_belowN hTr hn₀ hk3
        gi_wp2
        go_roundw
        case rel => exact ⟨pre ++ [(x : Int)], s, by go_num, by omega, by rw [HX.out]; simp, hT3, hJ3⟩
        case measure => simp [intOf]; omega
      · gi_wp2
        refine bodyPost_ret (results_none rfl _ _ _) rfl ?_
        exact ⟨⟨_, rfl⟩, .inr ⟨pre ++ [(x : Int)], ⟨bitsL s, by rw [HX.out]; simp⟩, hJx3⟩⟩

theorem things_in (n : Nat) (b : Nat) (w : World) :
    CallsIn Fence.wide n Tryz.prog 284 #[.int .u64 b] w fun e w' => e = .returned (.func (.func 303) #[] #[.pointer (some ⟨w.heap.size, 0, none⟩)]) ∧ w' = w.alloc (.cells #[.int .u64 b] 172) := by
  refine callsIn_of_wp Tryz.func284 rfl trivial ?_ rfl
  simp only [Tryz.ntmps284, List.size_toArray, List.length_cons, List.length_nil, Nat.reduceAdd, Nat.reduceSub, Array.replicate_succ, Array.replicate_zero, List.push_toArray, List.append_toArray, List.nil_append, List.cons_append]
  gi_wp2
  go_ret
  exact ⟨rfl, rfl⟩

theorem things_stops (n : Nat) (hn : 1 ≤ n) (Bn n₀ b : Nat) (hb : b < 256) (w : World) (hT : Tab w) (h2 : 5 + 1 ≤ n₀) (hBn : Bn < w.heap.size) (hn₀ : n₀ ≤ w.heap.size) (hc : w.cell? ⟨Bn, 0, none⟩ = some (.int .u64 b)) :
    SeqStopsK Fence.wide n Tryz.prog 303 #[.pointer (some ⟨Bn, 0, none⟩)] (fun x : Int => #[Value.int .i64 x]) (Below n₀) (fun ys => ys = bitsL b) (fun pre => pre <+: bitsL b) (bitsL b).length w := fun l J Jx W hW _ _ hY h0 =>
  things1_in n hn l Bn n₀ b hb h2 J Jx hY W (tab_below hT hW) ((hW.cell (p := ⟨Bn, 0, none⟩) hBn).trans hc) h0

set_option maxHeartbeats 3200000 in
theorem list_in (n : Nat) (hn : 3 ≤ n) (b : Nat) (w : World) (hT : Tab w) (hb : b < 256) :
    CallsIn Fence.wide n Tryz.prog 262 #[.int .u64 b] w (FreshL w (bitsL b)) := by
  have h1 : 1 ≤ n := by omega
  obtain ⟨i0, hi, hz0, hz1, hz2⟩ := info_parts Tryz.infoInt
  obtain ⟨hbl, hb8⟩ := bits_len b hb
  have hC := Lib.hid (size_any b w hb)
  obtain ⟨m, hm⟩ : ∃ m, m = cnt b := ⟨_, rfl⟩
  rw [← hm] at hbl hb8 hC
  clear hm
  have hT2 := hT.1
  refine callsIn_of_wp_marks Tryz.func262 rfl trivial ?_ rfl
  simp only [Tryz.ntmps262, List.size_toArray, List.length_cons, List.length_nil, Nat.reduceAdd, Nat.reduceSub, Array.replicate_succ, Array.replicate_zero, List.push_toArray, List.append_toArray, List.nil_append, List.cons_append]
  gi_wp2_with (first | (gi_at_make; refine wpListIn_make_own _ rfl _ _ 26 rfl w.heap.size 3 i0 (.int .i64 0) 1 Tryz.underlying26 hi hz0 hz1 _ _ _ m rfl rfl rfl (by rw [hz2]; omega) (by unfold maxLen; omega) (Nat.le_refl _) ?_; intro w1 hown1 hgrow1) | (refine ⟨trivial, ?_⟩; gi_at_call 244; refine (callsIn_wide.2 hC.out).mono ?_; rintro e w' ⟨rfl, rfl⟩))
  have hs1 : w.heap.size < w1.heap.size := by
    have := World.ownsRow.lt hown1 w.heap.size rfl
    omega
  have hb1 : Below w.heap.size w w1 := (Below.refl _ _).grown hgrow1 (Nat.le_refl _) (fun k h => by cases h)
  clear hgrow1
  gi_wp2_with (refine ⟨trivial, ?_⟩; gi_at_call 284; refine (things_in _ b _).mono ?_; rintro e w' ⟨rfl, rfl⟩)
  have bO := Boxed.new w1 26 (.slice (some ⟨w.heap.size, 0, none⟩) 0 m)
  obtain ⟨W2, hW2⟩ : ∃ W2, W2 = w1.alloc (.cells #[.slice (some ⟨w.heap.size, 0, none⟩) 0 m] 26) := ⟨_, rfl⟩
  have hsz2 : W2.heap.size = w1.heap.size + 1 := by rw [hW2]; simp
  have hB2 : Below w.heap.size w W2 := by rw [hW2]; exact hb1.alloc hb1.size _
  have hrow2 : W2.ownsRow w.heap.size 3 1 (.slice (some ⟨w.heap.size, 0, none⟩) 0 m) 0 [] := by
    rw [hW2]
    exact hown1.alloc _
  rw [← hW2] at bO ⊢
  have bN := Boxed.new W2 172 (.int .u64 b)
  rw [hsz2] at bN
  have hB3 : Below w.heap.size w (W2.alloc (.cells #[.int .u64 b] 172)) := hB2.alloc hB2.size _
  have hT3 : Tab (W2.alloc (.cells #[.int .u64 b] 172)) := tab_belowN hT hT2 hB3
  clear hW2 hown1 hb1
  refine wpIn_rangeFunc_ownG rfl h1 (gf := 303) (lb := #[.pointer (some ⟨w1.heap.size + 1, 0, none⟩)]) rfl trivial (enters_of Tryz.func303 (by kernel_rfl) rfl)
    (things_stops (n - 1) (by omega) (w1.heap.size + 1) w.heap.size b hb _ hT3 hT2 (by simp; omega) (by simp; omega) bN.cell) belowK_t (belowK_b (by simp; omega)) (Below.refl _ _) (fun _ => rfl)
    (fun pre W => (∃ v, Boxed W w1.heap.size 26 v ∧ W.ownsRow w.heap.size 3 1 v pre.length (pre.map (Value.int .i64)) ∧ True) ∧ Below w.heap.size w W)
    (fun _ _ _ => False)
    (OwnFrom.and (Own.from (holdsRow_own w.heap.size w1.heap.size 26 3 1 (fun pre : List Int => pre.length) (fun pre => pre.map (Value.int .i64)) (fun _ _ => True)) _) (ownFrom_below (Nat.le_refl _) (by simp; omega)))
    (fun _ _ _ _ _ hs _ _ => hs)
    ⟨⟨_, bO.alloc _, hrow2.alloc _, trivial⟩, hB3⟩
    (fun x => { tmps := #[.int .u64 b, undef, .slice none 0 0, .pointer (some ⟨w1.heap.size, 0, none⟩), .int .i64 x, .int .u64 b, .int .i64 m, .slice (some ⟨w.heap.size, 0, none⟩) 0 m, .int .u64 b, .func (.func 303) #[] #[.pointer (some ⟨w1.heap.size + 1, 0, none⟩)], .int .i64 x, undef, undef, undef, undef, undef], defers := [] }) ?assign ?body ?done ?stop
  case assign =>
    intro l x W K hK
    gi_wp2
    exact hK
  case body =>
    rintro l pre x W ⟨⟨v, hv, hrow, _⟩, hB⟩ hlt
    have hc := hv.cell
    gi_wp2_with (gi_at_builtin; refine wpListIn_append_own _ rfl _ _ 26 rfl w.heap.size 3 i0 (.int .i64 0) 1 8 Tryz.underlying26 hi hz0 hz1 hz2 rfl (by decide) _ _ _ rfl (hrow.alloc _) ⟨W.heap.size, 0, none⟩ 1 1 [.int .i64 x] rfl rfl (cell_one_new _ _ _) (by simp [Value.oneCell']) (by unfold maxLen; omega) (by omega) (by have := hB.size; simp; omega) ?_; intro v' w2 hown' hgrow _; obtain ⟨g', cap', rfl⟩ := ownsRow_succ hown'; obtain ⟨hv1, hv2, hr2, hk2, hb2⟩ := hv.appended (by decide) hrow hB.size (by omega) hown' hgrow; have hc1 := hv1.cell; have hf1 := hv1.frozen)
    exact ⟨hk2.from _, hb2, ⟨_, hv2, by simpa using hr2, trivial⟩, hB.trans hb2⟩
  case done =>
    rintro D ys W hD rfl ⟨⟨v, hv, hrow, _⟩, hB⟩ hK
    have hc := hv.cell
    gi_wp2
    refine ⟨by simp, .inl ⟨_, _, rfl, run_takeDeferred hK, ?_⟩⟩
    exact ⟨_, results_tmp rfl _ _ _, v, rfl, ownsRow_putObj hrow _ hK rfl, hB.trans (belowK_b (w := w) (Nat.le_refl _) W D _ _ (by simp at hD; omega) hK rfl rfl)⟩
  case stop =>
    rintro D c pre W _ _ h _
    exact h.elim

theorem list_any (b : Nat) (w : World) (hT : Tab w) (hb : b < 256) : Calls Tryz.prog 262 #[.int .u64 b] w (FreshL w (bitsL b)) :=
  callsIn_wide.1 (list_in 5 (by omega) b w hT hb)
end

section
open Go.RowKit Go.Shelf

attribute [local go_sem] Oper.semAt_some

set_option maxHeartbeats 1600000 in
theorem things1_at (n : Nat) (hn : 1 ≤ n) (l Bn n₀ b : Nat) (hb : b < 256) (hn₀ : 5 + 1 ≤ n₀) (J Jx : List Int → World → Prop)
    (hY : ∀ pre x W, J pre W → pre ++ [x] <+: bitsL b → YieldAt Fence.wide (n - 1) Tryz.prog l #[.int .i64 x] W fun e W' =>
      (e = .returned (.bool true) ∧ J (pre ++ [x]) W' ∧ Below n₀ W W') ∨ (e = .returned (.bool false) ∧ Jx (pre ++ [x]) W'))
    (W : World) (hT : Tab W) (hBn : W.cell? ⟨Bn, 0, none⟩ = some (.int .u64 b)) (h0 : J [] W) :
    CallsIn Fence.wide n Tryz.prog 303 #[.func (.yield l) #[] #[], .pointer (some ⟨Bn, 0, none⟩)] W fun e W' => (∃ v, e = .returned v) ∧
      ((∃ ys, ys = bitsL b ∧ J ys W') ∨ (∃ pre, pre <+: bitsL b ∧ Jx pre W')) := by
  refine callsIn_of_wp Tryz.func303 rfl trivial ?_ rfl
  simp only [Tryz.ntmps303, List.size_toArray, List.length_cons, List.length_nil, Nat.reduceAdd, Nat.reduceSub, Array.replicate_succ, Array.replicate_zero, List.push_toArray, List.append_toArray, List.nil_append, List.cons_append]
  gi_wp2
  gi_loopw [3] (fun p wr => ∃ (pre : List Int) (r : Nat), p = .int .u64 r ∧ r < 256 ∧ bitsL b = pre ++ bitsL r ∧ Tab wr ∧ J pre wr)
    (fun p wr => (intOf p).toNat)
  case atStart => exact ⟨[], b, rfl, hb, rfl, hT, h0⟩
  case round =>
    obtain ⟨pre, r, rfl, hr, hx, hTr, hJs⟩ := hrel
    by_cases hr0 : r = 0
    · subst hr0
      have he : bitsL 0 = [] := by decide
      rw [he, List.append_nil] at hx
      gi_wp2
      go_end0
      exact ⟨⟨_, rfl⟩, .inl ⟨pre, hx.symm, hJs⟩⟩
    · obtain ⟨h1, h2, h3⟩ := bits_step r hr (by omega)
      rw [h1] at hx
      obtain ⟨s, hs⟩ : ∃ s, s = r &&& (r - 1) := ⟨_, rfl⟩
      rw [← hs] at h2 h3 hx
      obtain ⟨x, hxe⟩ : ∃ x : Nat, x = tz r := ⟨_, rfl⟩
      have HC := Lib.hid (tz_any r wr hTr hr (by omega))
      rw [← hxe] at hx HC
      have HX := Lib.hid hx
      have hpre : pre ++ [(x : Int)] <+: bitsL b := ⟨bitsL s, by rw [hx]; simp⟩
      obtain ⟨fn, tmps, assign, body, hy, hR⟩ := hY pre x wr hJs hpre
      have hz : ((r : Int) != 0) = true := by simp; omega
      clear h1 hs hxe hx hpre
      gi_wp2_with (refine ⟨trivial, ?_⟩; gi_at_call 222; refine (callsIn_wide.2 HC.out).mono ?_; rintro e w' ⟨rfl, rfl⟩)
      refine hR.mono ?_
      rintro e W3 (⟨rfl, hJ3, hk3⟩ | ⟨rfl, hJx3⟩)
      · have hT3 := tab_belowN hTr hn₀ hk3
        gi_wp2
        go_roundw
        case rel => exact ⟨pre ++ [(x : Int)], s, by go_num, by omega, by rw [HX.out]; simp, hT3, hJ3⟩
        case measure => simp [intOf]; omega
      · gi_wp2
        refine bodyPost_ret (results_none rfl _ _ _) rfl ?_
        exact ⟨⟨_, rfl⟩, .inr ⟨pre ++ [(x : Int)], ⟨bitsL s, by rw [HX.out]; simp⟩, hJx3⟩⟩

theorem things_at (n : Nat) (hn : 1 ≤ n) (Bn n₀ b : Nat) (hb : b < 256) (w : World) (hT : Tab w) (h2 : 5 + 1 ≤ n₀) (hBn : Bn < w.heap.size) (hn₀ : n₀ ≤ w.heap.size) (hc : w.cell? ⟨Bn, 0, none⟩ = some (.int .u64 b)) :
    SeqStopsK Fence.wide n Tryz.prog 303 #[.pointer (some ⟨Bn, 0, none⟩)] (fun x : { x : Int // x ∈ bitsL b } => #[Value.int .i64 x.1]) (Below n₀) (fun ys => ys.map Subtype.val = bitsL b) (fun pre => pre.map Subtype.val <+: bitsL b) (bitsL b).length w := by
  intro l J Jx W hW hJo hJxo hY h0
  refine (things1_at n hn l Bn n₀ b hb h2 (fun pre W' => ∃ ps : List ({ x : Int // x ∈ bitsL b }), ps.map Subtype.val = pre ∧ J ps W') (fun pre W' => ∃ ps : List ({ x : Int // x ∈ bitsL b }), ps.map Subtype.val = pre ∧ Jx ps W') ?_ W (tab_below hT hW) ((hW.cell (p := ⟨Bn, 0, none⟩) hBn).trans hc) ⟨[], rfl, h0⟩).mono ?_
  · rintro pre x W' ⟨ps, rfl, hJ⟩ hpre
    have hx : x ∈ bitsL b := hpre.subset (by simp)
    have hl : ps.length < (bitsL b).length := by
      have := hpre.length_le
      rw [List.length_append, List.length_map, List.length_singleton] at this
      omega
    refine (hY ps ⟨x, hx⟩ W' hJ hl).mono ?_
    rintro e W2 (⟨rfl, h1, h3⟩ | ⟨rfl, h1⟩)
    · exact .inl ⟨rfl, ⟨ps ++ [⟨x, hx⟩], by rw [List.map_append]; rfl, h1⟩, h3⟩
    · exact .inr ⟨rfl, ⟨ps ++ [⟨x, hx⟩], by rw [List.map_append]; rfl, h1⟩⟩
  · rintro e W2 ⟨hv, (⟨ys, rfl, ps, hps, hJ⟩ | ⟨pre, hpre, ps, rfl, hJ⟩)⟩
    · exact ⟨hv, .inl ⟨ps, hps, hJ⟩⟩
    · exact ⟨hv, .inr ⟨ps, hpre, hJ⟩⟩

def sameOn (xs ys : List Int) (m : Nat) : Bool := decide (∀ x ∈ bitsL m, ∀ y ∈ bitsL m, dif xs ys x.toNat y.toNat = 0)

theorem bit_mem {m : Nat} {x : Int} (h : x ∈ bitsL m) : ∃ t : Nat, x = (t : Int) ∧ t < 8 ∧ m.testBit t = true := by
  unfold bitsL at h
  obtain ⟨t, ht, rfl⟩ := List.mem_map.1 h
  obtain ⟨h1, h2⟩ := List.mem_filter.1 ht
  exact ⟨t, rfl, List.mem_range.1 h1, h2⟩

theorem keepsFrom_b {W W' : World} (B : Nat) (h : Below W.heap.size W W') : KeepsFrom B W W' :=
  ⟨h.size, fun k o _ hk _ => by rw [h.block k (Array.getElem?_eq_some_iff.1 hk).1]; exact hk⟩
theorem boxed_b {W W' : World} {b : Nat} {t : TypeId} {v : Value} (h : Boxed W b t v) (hb : Below W.heap.size W W') : Boxed W' b t v := (hb.block b h.lt).trans h

set_option maxHeartbeats 8000000 in
theorem areSameOn_in (n : Nat) (hn : 8 ≤ n) (m : Nat) (hm : m < 256) (ao bo : Option Addr) (len ca cb : Nat) (xs ys : List Int) (w : World) (hT : Tab w) (hv : RdV w (.slice ao len ca) xs) (hu : RdV w (.slice bo len cb) ys) (hl : ys.length = xs.length) (hbit : ∀ t, m.testBit t = true → t < 8 → t < xs.length) :
    CallsIn Fence.wide n Tryz.prog 245 #[.int .u64 m, .slice ao len ca, .slice bo len cb] w fun e W' => e = .returned (.bool (sameOn xs ys m)) ∧ Below w.heap.size w W' := by
  have h1 : 1 ≤ n := by omega
  have HV := Lib.hid hv
  have HU := Lib.hid hu
  have HL := Lib.hid hl
  have hT2 := hT.1
  have hbm : ∀ x ∈ bitsL m, ∃ t : Nat, x = (t : Int) ∧ t < xs.length := fun x hx => by
    obtain ⟨t, e, h8, hb⟩ := bit_mem hx
    exact ⟨t, e, hbit t hb h8⟩
  have HBM := Lib.hid hbm
  clear hv hu hl hbit hbm
  refine callsIn_of_wp_marks Tryz.func245 rfl trivial ?_ rfl
  simp only [Tryz.ntmps245, List.size_toArray, List.length_cons, List.length_nil, Nat.reduceAdd, Nat.reduceSub, Array.replicate_succ, Array.replicate_zero, List.push_toArray, List.append_toArray, List.nil_append, List.cons_append]
  gi_wp2_with (refine ⟨trivial, ?_⟩; gi_at_call 284; refine (things_in _ m _).mono ?_; rintro e w' ⟨rfl, rfl⟩)
  obtain ⟨N, hN⟩ : ∃ N, N = w.heap.size := ⟨_, rfl⟩
  have bM := ((Boxed.new w 172 (.int .u64 m)).alloc (.cells #[.slice ao len ca] 26)).alloc (.cells #[.slice bo len cb] 26) |>.alloc (.cells #[.bool false] 4) |>.alloc (.cells #[.int .u64 m] 172)
  have bA := ((Boxed.new (w.alloc (.cells #[.int .u64 m] 172)) 26 (.slice ao len ca)).alloc (.cells #[.slice bo len cb] 26)).alloc (.cells #[.bool false] 4) |>.alloc (.cells #[.int .u64 m] 172)
  have bB := (Boxed.new ((w.alloc (.cells #[.int .u64 m] 172)).alloc (.cells #[.slice ao len ca] 26)) 26 (.slice bo len cb)).alloc (.cells #[.bool false] 4) |>.alloc (.cells #[.int .u64 m] 172)
  have bR := (Boxed.new (((w.alloc (.cells #[.int .u64 m] 172)).alloc (.cells #[.slice ao len ca] 26)).alloc (.cells #[.slice bo len cb] 26)) 4 (.bool false)).alloc (.cells #[.int .u64 m] 172)
  have bF := Boxed.new ((((w.alloc (.cells #[.int .u64 m] 172)).alloc (.cells #[.slice ao len ca] 26)).alloc (.cells #[.slice bo len cb] 26)).alloc (.cells #[.bool false] 4)) 172 (.int .u64 m)
  have hB0 : Below w.heap.size w (((((w.alloc (.cells #[.int .u64 m] 172)).alloc (.cells #[.slice ao len ca] 26)).alloc (.cells #[.slice bo len cb] 26)).alloc (.cells #[.bool false] 4)).alloc (.cells #[.int .u64 m] 172)) :=
    (((((Below.refl _ w).alloc (Nat.le_refl _) _).alloc (by simp) _).alloc (by simp; omega) _).alloc (by simp; omega) _).alloc (by simp; omega) _
  obtain ⟨W0, hW0⟩ : ∃ W0, (((((w.alloc (.cells #[.int .u64 m] 172)).alloc (.cells #[.slice ao len ca] 26)).alloc (.cells #[.slice bo len cb] 26)).alloc (.cells #[.bool false] 4)).alloc (.cells #[.int .u64 m] 172)) = W0 := ⟨_, rfl⟩
  have hsz : W0.heap.size = w.heap.size + 5 := by rw [← hW0]; simp
  simp only [World.size_alloc] at bA bB bR bF
  rw [hW0] at bM bA bB bR bF hB0 ⊢
  clear hW0
  have hT0 := tab_below hT hB0
  refine wpIn_rangeFunc_ownH rfl h1 (gf := 303) (lb := #[.pointer (some ⟨w.heap.size + 1 + 1 + 1 + 1, 0, none⟩)]) rfl trivial (enters_of Tryz.func303 (by kernel_rfl) rfl)
    (things_at (n - 1) (by omega) (w.heap.size + 1 + 1 + 1 + 1) w.heap.size m hm W0 hT0 hT2 (by omega) (by omega) bF.cell) belowK_t (belowK_b (by omega)) (Below.refl _ _) (fun _ => rfl)
    (fun pre W => (((((∀ x ∈ pre, ∀ y ∈ bitsL m, dif xs ys x.1.toNat y.toNat = 0) ∧ Boxed W (w.heap.size + 1 + 1 + 1) 4 (.bool false)) ∧ Boxed W w.heap.size 172 (.int .u64 m)) ∧ Boxed W (w.heap.size + 1) 26 (.slice ao len ca)) ∧ Boxed W (w.heap.size + 1 + 1) 26 (.slice bo len cb)) ∧ Below w.heap.size w W)
    (fun c pre W => ((c = .ret ∧ ∃ x ∈ pre, ∃ y ∈ bitsL m, dif xs ys x.1.toNat y.toNat ≠ 0) ∧ Boxed W (w.heap.size + 1 + 1 + 1) 4 (.bool false)) ∧ Below w.heap.size w W)
    (OwnFrom.and (OwnFrom.and (OwnFrom.and (OwnFrom.and (OwnFrom.and (ownFrom_pure _ _) (Own.from (boxed_own _ _ _) _)) (Own.from (boxed_own _ _ _) _)) (Own.from (boxed_own _ _ _) _)) (Own.from (boxed_own _ _ _) _)) (ownFrom_below (Nat.le_refl _) (by omega)))
    (fun c => OwnFrom.and (OwnFrom.and (ownFrom_pure _ _) (Own.from (boxed_own _ _ _) _)) (ownFrom_below (Nat.le_refl _) (by omega)))
    ⟨⟨⟨⟨⟨by simp, bR⟩, bM⟩, bA⟩, bB⟩, hB0⟩
    (fun x a' W => ∃ Bx, w.heap.size + 1 + 1 + 1 < Bx ∧ Boxed W Bx 3 (.int .i64 x.1) ∧ a' = { tmps := #[.int .u64 m, .slice ao len ca, .slice bo len cb, .pointer (some ⟨w.heap.size, 0, none⟩), .pointer (some ⟨w.heap.size + 1, 0, none⟩), .pointer (some ⟨w.heap.size + 1 + 1, 0, none⟩), .pointer (some ⟨w.heap.size + 1 + 1 + 1, 0, none⟩), .pointer (some ⟨Bx, 0, none⟩), undef, .int .u64 m, .func (.func 303) #[] #[.pointer (some ⟨w.heap.size + 1 + 1 + 1 + 1, 0, none⟩)], .int .i64 x.1, undef, undef, undef, undef, undef, undef, undef, undef, undef], defers := [] })
    (fun x a' _ X Y row hs hg hr => by obtain ⟨Bx, e1, e2, e3⟩ := hs; exact ⟨Bx, e1, boxed_own Bx 3 (fun (_ : Unit) => Value.int .i64 x.1) () X Y row e2 hg (fun r e => (hr r e).2), e3⟩)
    ?assign ?body ?done ?stop
  case assign =>
    rintro l pre x W K ⟨⟨⟨⟨⟨hp, bR1⟩, bM1⟩, bA1⟩, bB1⟩, hB1⟩ hK
    gi_wp2
    exact hK _ _ ((KeepsOthers.alloc _ _).from _) ((Below.refl _ W).alloc hB1.size _) ⟨⟨⟨⟨⟨hp, bR1.alloc _⟩, bM1.alloc _⟩, bA1.alloc _⟩, bB1.alloc _⟩, hB1.alloc hB1.size _⟩ ⟨W.heap.size, bR1.lt, Boxed.new W 3 _, rfl⟩
  case body =>
    rintro l pre x a' W hl ⟨r, hr⟩ ⟨⟨⟨⟨⟨hp, bR1⟩, bM1⟩, bA1⟩, bB1⟩, hB1⟩ ⟨Bx, hBx, bX, rfl⟩ hlt
    have cM := bM1.cell
    have h1' : 1 ≤ n - 1 - 1 := by omega
    gi_wp2_with (refine ⟨trivial, ?_⟩; gi_at_call 284; refine (CallsIn.inRound l (things_in (n - 1 - 1 - 1) m _)).mono ?_; rintro e w' ⟨rfl, rfl⟩)
    have hsW := hB1.size
    have bN := Boxed.new W 172 (.int .u64 m)
    have hr' : (W.alloc (.cells #[.int .u64 m] 172)).heap[l]? = some (.loop r) := (Below.heap_alloc W _ l (Array.getElem?_eq_some_iff.1 hr).1).trans hr
    have hT1 : Tab (W.alloc (.cells #[.int .u64 m] 172)) := tab_belowN hT hT2 (hB1.alloc hsW _)
    refine wpIn_rangeFunc_ownN (l₀ := l) (r₀ := r) rfl hr' h1' (gf := 303) (lb := #[.pointer (some ⟨W.heap.size, 0, none⟩)]) rfl trivial (enters_of Tryz.func303 (by kernel_rfl) rfl)
      ((things_at (n - 1 - 1 - 1) (by omega) W.heap.size w.heap.size m hm _ hT1 hT2 (by simp) (by simp; omega) bN.cell).inRound l) belowK_t (belowK_b (by simp; omega)) (Below.refl _ _) (fun _ => rfl)
      (fun pre' W' => ((((((∀ y ∈ pre', dif xs ys x.1.toNat y.1.toNat = 0) ∧ Boxed W' (w.heap.size + 1 + 1 + 1) 4 (.bool false)) ∧ Boxed W' w.heap.size 172 (.int .u64 m)) ∧ Boxed W' (w.heap.size + 1) 26 (.slice ao len ca)) ∧ Boxed W' (w.heap.size + 1 + 1) 26 (.slice bo len cb)) ∧ Boxed W' Bx 3 (.int .i64 x.1)) ∧ (Below w.heap.size W W' ∧ KeepsFrom W0.heap.size W W'))
      (fun c pre' W' => ((c = .ret ∧ ∃ y ∈ pre', dif xs ys x.1.toNat y.1.toNat ≠ 0) ∧ Boxed W' (w.heap.size + 1 + 1 + 1) 4 (.bool false)) ∧ (Below w.heap.size W W' ∧ KeepsFrom W0.heap.size W W'))
      (OwnFrom.and (OwnFrom.and (OwnFrom.and (OwnFrom.and (OwnFrom.and (OwnFrom.and (ownFrom_pure _ _) (Own.from (boxed_own _ _ _) _)) (Own.from (boxed_own _ _ _) _)) (Own.from (boxed_own _ _ _) _)) (Own.from (boxed_own _ _ _) _)) (Own.from (boxed_own _ _ _) _)) (OwnFrom.and (ownFrom_below hsW (by simp; omega)) (ownFrom_keepsFrom (by simp))))
      (fun c => OwnFrom.and (OwnFrom.and (ownFrom_pure _ _) (Own.from (boxed_own _ _ _) _)) (OwnFrom.and (ownFrom_below hsW (by simp; omega)) (ownFrom_keepsFrom (by simp))))
      ⟨⟨⟨⟨⟨⟨by simp, bR1.alloc _⟩, bM1.alloc _⟩, bA1.alloc _⟩, bB1.alloc _⟩, bX.alloc _⟩, (Below.refl _ W).alloc hsW _, (KeepsOthers.alloc _ _).from _⟩
      (fun y a'' _ => a'' = { tmps := #[.int .u64 m, .slice ao len ca, .slice bo len cb, .pointer (some ⟨w.heap.size, 0, none⟩), .pointer (some ⟨w.heap.size + 1, 0, none⟩), .pointer (some ⟨w.heap.size + 1 + 1, 0, none⟩), .pointer (some ⟨w.heap.size + 1 + 1 + 1, 0, none⟩), .pointer (some ⟨Bx, 0, none⟩), .int .i64 y.1, .int .u64 m, .func (.func 303) #[] #[.pointer (some ⟨w.heap.size + 1 + 1 + 1 + 1, 0, none⟩)], .int .i64 x.1, .int .u64 m, .func (.func 303) #[] #[.pointer (some ⟨W.heap.size, 0, none⟩)], .int .i64 y.1, undef, undef, undef, undef, undef, undef], defers := [] })
      (fun _ _ _ _ _ _ hs _ _ => hs)
      ?assign2 ?body2 ?done2 ?stop2
    case assign2 =>
      rintro l2 pre' y W' K hi hK
      gi_wp2
      exact hK _ _ (KeepsFrom.refl _ _) (Below.refl _ _) hi rfl
    case body2 =>
      rintro l2 pre' y a'' W' _ _ ⟨⟨⟨⟨⟨⟨hq, bR2⟩, bM2⟩, bA2⟩, bB2⟩, bX2⟩, hBW, hKF⟩ rfl _
      have h1'' : 1 ≤ n - 1 - 1 - 1 - 1 := by omega
      have cA := bA2.cell
      have cB := bB2.cell
      have cX := bX2.cell
      obtain ⟨i, hi, hin⟩ := HBM.out x.1 x.2
      obtain ⟨k, hk, hkn⟩ := HBM.out y.1 y.2
      have hBW' : Below w.heap.size w W' := hB1.trans hBW
      have HC := Lib.hid (agree_v (.slice ao len ca) (.slice bo len cb) xs ys i k W' (rdv_below HV.out hBW') (rdv_below HU.out hBW') HL.out hin hkn)
      have e1 : i = x.1.toNat := by omega
      have e2 : k = y.1.toNat := by omega
      rw [← hi, ← hk, e1, e2] at HC
      clear hi hin hk hkn e1 e2
      by_cases hd : dif xs ys x.1.toNat y.1.toNat = 0
      · rw [decide_eq_true hd] at HC
        gi_wp2_with (refine ⟨trivial, ?_⟩; gi_at_call 282; refine (CallsIn.inRound l2 (CallsIn.inRound l (callsIn_wide.2 HC.out))).mono ?_; rintro e w' ⟨rfl, hq5⟩)
        have hb5 := hq5.below
        exact ⟨keepsFrom_b _ hb5, hb5.mono (by have := hBW'.size; omega), ⟨⟨⟨⟨⟨fun z hz => (List.mem_append.1 hz).elim (hq z) (fun e => by simp at e; subst e; exact hd), boxed_b bR2 hb5⟩, boxed_b bM2 hb5⟩, boxed_b bA2 hb5⟩, boxed_b bB2 hb5⟩, boxed_b bX2 hb5⟩, hBW.trans (hb5.mono (by have := hBW'.size; omega)), hKF.trans (keepsFrom_b _ hb5)⟩
      · rw [decide_eq_false hd] at HC
        gi_wp2_with (refine ⟨trivial, ?_⟩; gi_at_call 282; refine (CallsIn.inRound l2 (CallsIn.inRound l (callsIn_wide.2 HC.out))).mono ?_; rintro e w' ⟨rfl, hq5⟩; have hb5 := hq5.below; have bR5 := boxed_b bR2 hb5; have cR := bR5.cell; have fR := bR5.frozen)
        refine ⟨(keepsFrom_b _ hb5).trans ((KeepsOthers.setCell _ _ _).from _), ⟨⟨rfl, y, by simp, hd⟩, bR5.set _⟩, ?_, hKF.trans ((keepsFrom_b _ hb5).trans ((KeepsOthers.setCell _ _ _).from _))⟩
        exact (hBW.trans (hb5.mono (by have := hBW'.size; omega))).setCell (p := ⟨w.heap.size + 1 + 1 + 1, 0, none⟩) (by simp; omega) _
    case done2 =>
      rintro ys' W' hys ⟨⟨⟨⟨⟨⟨hq, bR2⟩, bM2⟩, bA2⟩, bB2⟩, bX2⟩, hBW, hKF⟩
      gi_wp2
      refine ⟨hKF, hBW, ⟨⟨⟨⟨fun z hz => (List.mem_append.1 hz).elim (hp z) (fun e y hy => ?_), bR2⟩, bM2⟩, bA2⟩, bB2⟩, hB1.trans hBW⟩
      simp at e
      subst e
      rw [← hys] at hy
      obtain ⟨y', hy', rfl⟩ := List.mem_map.1 hy
      exact hq y' hy'
    case stop2 =>
      rintro c pre' W' hpre ⟨⟨⟨rfl, y, hy, hd⟩, bR2⟩, hBW, hKF⟩
      gi_wp2
      exact ⟨hKF, ⟨⟨rfl, x, by simp, y.1, y.2, hd⟩, bR2⟩, hB1.trans hBW⟩
  case done =>
    rintro D zs W hD hzs ⟨⟨⟨⟨⟨hp, bR1⟩, bM1⟩, bA1⟩, bB1⟩, hB1⟩ hK
    have cR := bR1.cell
    have fR := bR1.frozen
    have hs : sameOn xs ys m = true := by
      unfold sameOn
      refine decide_eq_true fun x hx y hy => ?_
      rw [← hzs] at hx
      obtain ⟨x', hx', rfl⟩ := List.mem_map.1 hx
      exact hp x' hx' y hy
    have HS := Lib.hid hs
    gi_wp2
    have hK' := (KeepsOthers.setCell W ⟨w.heap.size + 1 + 1 + 1, 0, none⟩ (.bool true)).same D _ hK rfl
    refine ⟨by simp, .inl ⟨_, _, rfl, run_takeDeferred hK', ?_⟩⟩
    have hc5 := cell_kept (bR1.set (.bool true)).cell (grownBy_putObj' _ D (.deferred none)) (fun r e => by cases e; exact ⟨_, hK', rfl⟩)
    refine ⟨.bool true, ?_, by rw [HS.out], (hB1.setCell (p := ⟨w.heap.size + 1 + 1 + 1, 0, none⟩) (by simp; omega) _).trans (belowK_b (w := w) (Nat.le_refl _) _ D _ _ (by omega) hK' rfl rfl)⟩
    simp [results, Tryz.f245, go_sem, hc5]
  case stop =>
    rintro D c pre W hD hpre ⟨⟨⟨rfl, x, hx, y, hy, hd⟩, bR1⟩, hB1⟩ hK
    have hs : sameOn xs ys m = false := by
      unfold sameOn
      exact decide_eq_false fun h => hd (h x.1 x.2 y hy)
    have HS := Lib.hid hs
    gi_wp2
    refine ⟨by simp, .inl ⟨_, _, rfl, run_takeDeferred hK, ?_⟩⟩
    have hc5 := cell_kept bR1.cell (grownBy_putObj' _ D (.deferred none)) (fun r e => by cases e; exact ⟨_, hK, rfl⟩)
    refine ⟨.bool false, ?_, by rw [HS.out], hB1.trans (belowK_b (w := w) (Nat.le_refl _) W D _ _ (by omega) hK rfl rfl)⟩
    simp [results, Tryz.f245, go_sem, hc5]

theorem areSameOn_any (m : Nat) (hm : m < 256) (v u : Value) (xs ys : List Int) (w : World) (hT : Tab w) (hv : RdV w v xs) (hu : RdV w u ys) (hl : ys.length = xs.length) (hbit : ∀ t, m.testBit t = true → t < 8 → t < xs.length) :
    Calls Tryz.prog 245 #[.int .u64 m, v, u] w fun e W' => e = .returned (.bool (sameOn xs ys m)) ∧ Below w.heap.size w W' := by
  have h1 := hv
  have h2 := hu
  obtain ⟨ao, ca, rfl, _⟩ := h1
  obtain ⟨bo, cb, rfl, _⟩ := h2
  rw [hl] at hu ⊢
  exact callsIn_wide.1 (areSameOn_in 10 (by omega) m hm ao bo xs.length ca cb xs ys w hT hv hu hl hbit)
end

def cntB (p : Nat → Bool) : Nat → Nat
  | 0 => 0
  | n + 1 => cntB p n + if p n then 1 else 0

theorem cntB_congr {p q : Nat → Bool} {n : Nat} (h : ∀ i, i < n → p i = q i) : cntB p n = cntB q n := by
  induction n with
  | zero => rfl
  | succ n ih => unfold cntB; rw [ih (fun i hi => h i (by omega)), h n (by omega)]
theorem cntB_mono {p q : Nat → Bool} {n : Nat} (h : ∀ i, i < n → p i = true → q i = true) : cntB p n ≤ cntB q n := by
  induction n with
  | zero => exact Nat.le_refl _
  | succ n ih =>
    have h1 := ih (fun i hi => h i (by omega))
    have h2 := h n (by omega)
    unfold cntB
    by_cases e : p n = true
    · rw [if_pos e, if_pos (h2 e)]; omega
    · rw [if_neg e]; omega
theorem cntB_le (p : Nat → Bool) (n : Nat) : cntB p n ≤ n := by
  induction n with
  | zero => exact Nat.le_refl _
  | succ n ih => unfold cntB; split <;> omega
theorem cntB_none {p : Nat → Bool} {n : Nat} (h : ∀ i, i < n → p i = false) : cntB p n = 0 := by
  induction n with
  | zero => rfl
  | succ n ih => unfold cntB; rw [ih (fun i hi => h i (by omega)), h n (by omega)]; rfl
theorem cntB_add {p q r : Nat → Bool} {n : Nat} (h : ∀ i, i < n → (r i = (p i || q i)) ∧ ¬ (p i = true ∧ q i = true)) : cntB r n = cntB p n + cntB q n := by
  induction n with
  | zero => rfl
  | succ n ih =>
    obtain ⟨h1, h2⟩ := h n (by omega)
    unfold cntB
    rw [ih (fun i hi => h i (by omega)), h1]
    cases hp : p n <;> cases hq : q n <;> simp [hp, hq] at h2 ⊢ <;> omega
def bestR (T : Nat → Nat → Nat) (Q : Nat) : Nat → Nat → Nat → Nat
  | 0, _, _ => 0
  | d + 1, row, used => (List.range Q).foldl (fun m c => if used.testBit c then m else max m (T row c + bestR T Q d (row + 1) (used ||| 2 ^ c))) (bestR T Q d (row + 1) used)

theorem fold_ge (p : Nat → Bool) (h : Nat → Nat) : ∀ (l : List Nat) (m : Nat), m ≤ l.foldl (fun m c => if p c then m else max m (h c)) m ∧ (∀ c ∈ l, p c = false → h c ≤ l.foldl (fun m c => if p c then m else max m (h c)) m) ∧
    (l.foldl (fun m c => if p c then m else max m (h c)) m = m ∨ ∃ c ∈ l, p c = false ∧ l.foldl (fun m c => if p c then m else max m (h c)) m = h c) := by
  intro l
  induction l with
  | nil => intro m; exact ⟨Nat.le_refl _, fun c hc => by simp at hc, .inl rfl⟩
  | cons x l ih =>
    intro m
    obtain ⟨h1, h2, h3⟩ := ih (if p x then m else max m (h x))
    simp only [List.foldl_cons]
    refine ⟨Nat.le_trans ?_ h1, fun c hc hp => ?_, ?_⟩
    · split <;> omega
    · rcases List.mem_cons.1 hc with rfl | hc
      · refine Nat.le_trans ?_ h1
        rw [hp]
        exact Nat.le_max_right _ _
      · exact h2 c hc hp
    · rcases h3 with h3 | ⟨c, hc, hp, h3⟩
      · rw [h3]
        by_cases e : p x = true
        · rw [if_pos e]; exact .inl rfl
        · rw [if_neg e]
          by_cases hm : h x ≤ m
          · left; exact Nat.max_eq_left hm
          · right; exact ⟨x, by simp, by simpa using e, Nat.max_eq_right (by omega)⟩
      · exact .inr ⟨c, by simp [hc], hp, h3⟩

def sumG (T : Nat → Nat → Nat) (Q : Nat) (g : Nat → Nat) : Nat → Nat → Nat
  | 0, _ => 0
  | d + 1, row => (if g row < Q then T row (g row) else 0) + sumG T Q g d (row + 1)

def okG (Q : Nat) (g : Nat → Nat) (d row used : Nat) : Prop :=
  (∀ r, row ≤ r → r < row + d → g r < Q → used.testBit (g r) = false) ∧ ∀ r s, row ≤ r → r < s → s < row + d → g r < Q → g r ≠ g s

theorem best_ge (T : Nat → Nat → Nat) (Q : Nat) (g : Nat → Nat) : ∀ d row used, okG Q g d row used → sumG T Q g d row ≤ bestR T Q d row used := by
  intro d
  induction d with
  | zero => intro row used _; exact Nat.le_refl _
  | succ d ih =>
    rintro row used ⟨h1, h2⟩
    unfold sumG bestR
    obtain ⟨f1, f2, _⟩ := fold_ge (fun c => used.testBit c) (fun c => T row c + bestR T Q d (row + 1) (used ||| 2 ^ c)) (List.range Q) (bestR T Q d (row + 1) used)
    by_cases e : g row < Q
    · rw [if_pos e]
      have hu := h1 row (Nat.le_refl _) (by omega) e
      refine Nat.le_trans (Nat.add_le_add_left (ih (row + 1) (used ||| 2 ^ g row) ⟨fun r a b c => ?_, fun r s a b c => h2 r s (by omega) b (by omega)⟩) _) (f2 (g row) (List.mem_range.2 e) hu)
      rw [Nat.testBit_or, Bool.or_eq_false_iff, Nat.testBit_two_pow]
      exact ⟨h1 r (by omega) (by omega) c, by simpa using h2 row r (Nat.le_refl _) (by omega) (by omega) e⟩
    · rw [if_neg e, Nat.zero_add]
      exact Nat.le_trans (ih (row + 1) used ⟨fun r a b c => h1 r (by omega) (by omega) c, fun r s a b c => h2 r s (by omega) b (by omega)⟩) f1

theorem sumG_congr {T : Nat → Nat → Nat} {Q : Nat} {g g' : Nat → Nat} : ∀ d row, (∀ r, row ≤ r → r < row + d → g r = g' r) → sumG T Q g d row = sumG T Q g' d row := by
  intro d
  induction d with
  | zero => intro row _; rfl
  | succ d ih =>
    intro row h
    unfold sumG
    rw [h row (Nat.le_refl _) (by omega), ih (row + 1) (fun r a b => h r (by omega) (by omega))]

theorem best_some (T : Nat → Nat → Nat) (Q : Nat) : ∀ d row used, ∃ g, okG Q g d row used ∧ sumG T Q g d row = bestR T Q d row used := by
  intro d
  induction d with
  | zero => intro row used; exact ⟨fun _ => Q, ⟨fun r a b => by omega, fun r s a b c => by omega⟩, rfl⟩
  | succ d ih =>
    intro row used
    obtain ⟨_, _, f3⟩ := fold_ge (fun c => used.testBit c) (fun c => T row c + bestR T Q d (row + 1) (used ||| 2 ^ c)) (List.range Q) (bestR T Q d (row + 1) used)
    rcases f3 with f3 | ⟨c, hc, hp, f3⟩
    · obtain ⟨g, ⟨o1, o2⟩, hs⟩ := ih (row + 1) used
      refine ⟨fun r => if r = row then Q else g r, ⟨fun r a b h => ?_, fun r s a b h h' => ?_⟩, ?_⟩
      · by_cases e : r = row
        · simp [e] at h
        · simp only [if_neg e] at h ⊢
          exact o1 r (by omega) (by omega) h
      · by_cases e : r = row
        · simp [e] at h'
        · simp only [if_neg e, if_neg (show ¬ s = row by omega)] at h' ⊢
          exact o2 r s (by omega) b (by omega) h'
      · unfold sumG bestR
        rw [f3, ← hs, if_neg (by simp), Nat.zero_add]
        exact sumG_congr d (row + 1) fun r a b => if_neg (by omega)
    · have hcQ := List.mem_range.1 hc
      obtain ⟨g, ⟨o1, o2⟩, hs⟩ := ih (row + 1) (used ||| 2 ^ c)
      refine ⟨fun r => if r = row then c else g r, ⟨fun r a b h => ?_, fun r s a b h h' => ?_⟩, ?_⟩
      · by_cases e : r = row
        · simp only [if_pos e]; exact hp
        · simp only [if_neg e] at h ⊢
          have := o1 r (by omega) (by omega) h
          rw [Nat.testBit_or, Bool.or_eq_false_iff] at this
          exact this.1
      · have hsn : ¬ s = row := by omega
        by_cases e : r = row
        · simp only [if_pos e, if_neg hsn] at h' ⊢
          intro e2
          have := o1 s (by omega) (by omega) (by omega)
          rw [← e2, Nat.testBit_or, Bool.or_eq_false_iff, Nat.testBit_two_pow] at this
          simp at this
        · simp only [if_neg e, if_neg hsn] at h' ⊢
          exact o2 r s (by omega) b (by omega) h'
      · unfold sumG bestR
        rw [f3, ← hs]
        simp only [if_pos rfl, if_pos hcQ]
        rw [sumG_congr (g := fun r => if r = row then c else g r) (g' := g) d (row + 1) fun r a b => if_neg (by omega)]
        simp
        intro h
        omega

def cellN (A B : Nat → Nat) (n x y : Nat) : Nat := cntB (fun i => decide (A i = x) && decide (B i = y)) n

theorem sumG_cells (A B : Nat → Nat) (n Q : Nat) (g : Nat → Nat) : ∀ d row, sumG (cellN A B n) Q g d row = cntB (fun i => decide (row ≤ A i ∧ A i < row + d) && decide (g (A i) < Q) && decide (B i = g (A i))) n := by
  intro d
  induction d with
  | zero =>
    intro row
    symm
    exact cntB_none fun i _ => by
      have : ¬ (row ≤ A i ∧ A i < row + 0) := by omega
      rw [decide_eq_false this]; rfl
  | succ d ih =>
    intro row
    unfold sumG
    rw [ih (row + 1)]
    have h1 : (if g row < Q then cellN A B n row (g row) else 0) = cntB (fun i => decide (A i = row) && decide (g (A i) < Q) && decide (B i = g (A i))) n := by
      by_cases e : g row < Q
      · rw [if_pos e]
        exact cntB_congr fun i _ => by
          by_cases ea : A i = row
          · simp [ea, e]
          · simp [ea]
      · rw [if_neg e]
        symm
        exact cntB_none fun i _ => by
          by_cases ea : A i = row
          · simp [ea, e]
          · simp [ea]
    rw [h1]
    symm
    refine cntB_add fun i _ => ?_
    constructor
    · by_cases ea : A i = row
      · have h2 : row ≤ A i ∧ A i < row + (d + 1) := by omega
        have h3 : ¬ (row + 1 ≤ A i ∧ A i < row + 1 + d) := by omega
        rw [decide_eq_true h2, decide_eq_true ea, decide_eq_false h3]
        simp
      · have h2 : (row ≤ A i ∧ A i < row + (d + 1)) ↔ (row + 1 ≤ A i ∧ A i < row + 1 + d) := by omega
        rw [show decide (row ≤ A i ∧ A i < row + (d + 1)) = decide (row + 1 ≤ A i ∧ A i < row + 1 + d) from decide_eq_decide.2 h2, decide_eq_false ea]
        simp
    · rintro ⟨h2, h3⟩
      simp only [Bool.and_eq_true, decide_eq_true_eq] at h2 h3
      omega

def agreeS (A B : Nat → Nat) (n : Nat) (S : Nat → Bool) : Prop := ∀ i k, i < n → k < n → S i = true → S k = true → (A i = A k ↔ B i = B k)

theorem best_sets {A B : Nat → Nat} {n P Q : Nat} (hA : ∀ i, i < n → A i < P) (hB : ∀ i, i < n → B i < Q) :
    (∀ S, agreeS A B n S → cntB S n ≤ bestR (cellN A B n) Q P 0 0) ∧ ∃ S, agreeS A B n S ∧ cntB S n = bestR (cellN A B n) Q P 0 0 := by
  constructor
  · intro S hS
    have hg : ∀ r, ∃ c, (∀ i, i < n → S i = true → A i = r → B i = c) ∧ (c < Q → ∃ i, i < n ∧ S i = true ∧ A i = r ∧ B i = c) := by
      intro r
      by_cases h : ∃ i, i < n ∧ S i = true ∧ A i = r
      · obtain ⟨i, hi, hs, ha⟩ := h
        exact ⟨B i, fun j hj hsj haj => (hS j i hj hi hsj hs).1 (haj.trans ha.symm), fun _ => ⟨i, hi, hs, ha, rfl⟩⟩
      · exact ⟨Q, fun i hi hs ha => absurd ⟨i, hi, hs, ha⟩ h, fun hh => absurd hh (Nat.lt_irrefl _)⟩
    obtain ⟨g, hg⟩ : ∃ g : Nat → Nat, ∀ r, (∀ i, i < n → S i = true → A i = r → B i = g r) ∧ (g r < Q → ∃ i, i < n ∧ S i = true ∧ A i = r ∧ B i = g r) := ⟨fun r => (hg r).choose, fun r => (hg r).choose_spec⟩
    refine Nat.le_trans ?_ (best_ge (cellN A B n) Q g P 0 0 ⟨fun r _ _ _ => by simp, fun r s _ hrs _ hq e => ?_⟩)
    · rw [sumG_cells]
      refine cntB_mono fun i hi hs => ?_
      have h1 := (hg (A i)).1 i hi hs rfl
      have h2 := hA i hi
      have h3 := hB i hi
      simp only [Bool.and_eq_true, decide_eq_true_eq]
      exact ⟨⟨by omega, by omega⟩, h1⟩
    · obtain ⟨i, hi, hsi, hai, hbi⟩ := (hg r).2 hq
      obtain ⟨k, hk, hsk, hak, hbk⟩ := (hg s).2 (by omega)
      have := (hS i k hi hk hsi hsk).2 (by rw [hbi, hbk, e])
      omega
  · obtain ⟨g, ⟨_, o2⟩, hs⟩ := best_some (cellN A B n) Q P 0 0
    refine ⟨fun i => decide (0 ≤ A i ∧ A i < 0 + P) && decide (g (A i) < Q) && decide (B i = g (A i)), fun i k hi hk h1 h2 => ?_, by rw [← hs, sumG_cells]⟩
    simp only [Bool.and_eq_true, decide_eq_true_eq] at h1 h2
    obtain ⟨⟨ha1, hq1⟩, hb1⟩ := h1
    obtain ⟨⟨ha2, hq2⟩, hb2⟩ := h2
    constructor
    · intro e; rw [hb1, hb2, e]
    · intro e
      rw [hb1, hb2] at e
      rcases Nat.lt_trichotomy (A i) (A k) with hlt | heq | hgt
      · exact absurd e (o2 (A i) (A k) (Nat.zero_le _) hlt (by omega) hq1)
      · exact heq
      · exact absurd e.symm (o2 (A k) (A i) (Nat.zero_le _) hgt (by omega) hq2)

def isMost (A B : Nat → Nat) (n m : Nat) : Prop := (∀ S, agreeS A B n S → cntB S n ≤ m) ∧ ∃ S, agreeS A B n S ∧ cntB S n = m

theorem isMost_one {A B : Nat → Nat} {n m m' : Nat} (h : isMost A B n m) (h' : isMost A B n m') : m = m' := by
  obtain ⟨S, hS, e⟩ := h.2
  obtain ⟨S', hS', e'⟩ := h'.2
  have a := h.1 S' hS'
  have b := h'.1 S hS
  omega
theorem isMost_le {A B : Nat → Nat} {n m : Nat} (h : isMost A B n m) : m ≤ n := by
  obtain ⟨S, _, e⟩ := h.2
  rw [← e]
  exact cntB_le S n

section
open Go.RowKit

theorem part_num {xs : List Int} (hp : partIn xs = true) {k : Nat} (hk : k < xs.length) : 0 ≤ xs.getD k 0 ∧ xs.getD k 0 < pSize xs := by
  have h := (kOut_inv xs).1 k hk
  have e := (kOut_of_ok xs (partIn_ok hp)).1
  have e2 := pSize_kOut xs
  rw [e] at h e2
  rw [e2]
  exact h

def numAtN (xs : List Int) (i : Nat) : Nat := (xs.getD i 0).toNat
theorem numAtN_int {xs : List Int} (hp : partIn xs = true) {k : Nat} (hk : k < xs.length) : xs.getD k 0 = (numAtN xs k : Int) ∧ numAtN xs k < (pSize xs).toNat := by
  have := part_num hp hk
  unfold numAtN
  omega
end

section
open Go.RowKit

def mostTo (xs ys : List Int) : Nat → Nat
  | 0 => 0
  | k + 1 => if mostTo xs ys k < cnt k ∧ sameOn xs ys k = true then cnt k else mostTo xs ys k

theorem cnt_bits : ∀ n, n < 9 → ∀ m, m < 2 ^ n → cnt m = cntB (fun i => m.testBit i) n := by decide +kernel
theorem cnt_le : ∀ m, m < 256 → cnt m ≤ 8 := by decide +kernel
theorem pow_wrap : ∀ n, n < 9 → IntKind.u64.wrap (2 ^ n) = ((2 ^ n : Nat) : Int) ∧ 2 ^ n ≤ 256 := by decide +kernel

theorem mask_of (S : Nat → Bool) : ∀ n, ∃ m, m < 2 ^ n ∧ ∀ i, i < n → m.testBit i = S i := by
  intro n
  induction n with
  | zero => exact ⟨0, by simp, fun i hi => by omega⟩
  | succ n ih =>
    obtain ⟨m, hm, h⟩ := ih
    cases hs : S n
    · refine ⟨m, by rw [Nat.pow_succ]; omega, fun i hi => ?_⟩
      by_cases e : i = n
      · subst e; rw [hs]; exact Nat.testBit_lt_two_pow hm
      · exact h i (by omega)
    · refine ⟨2 ^ n + m, by rw [Nat.pow_succ]; omega, fun i hi => ?_⟩
      by_cases e : i = n
      · subst e; rw [hs, Nat.testBit_two_pow_add_eq, Nat.testBit_lt_two_pow hm]; rfl
      · rw [Nat.testBit_two_pow_add_gt (by omega)]; exact h i (by omega)

theorem mostTo_ge (xs ys : List Int) : ∀ k j, j < k → sameOn xs ys j = true → cnt j ≤ mostTo xs ys k := by
  intro k
  induction k with
  | zero => intro j hj; omega
  | succ k ih =>
    intro j hj hs
    unfold mostTo
    by_cases e : j = k
    · subst e
      split
      · exact Nat.le_refl _
      · rename_i h
        by_cases h2 : mostTo xs ys j < cnt j
        · exact absurd ⟨h2, hs⟩ h
        · omega
    · have := ih j (by omega) hs
      split
      · rename_i h; omega
      · exact this
theorem mostTo_is (xs ys : List Int) : ∀ k, mostTo xs ys k = 0 ∨ ∃ j, j < k ∧ sameOn xs ys j = true ∧ cnt j = mostTo xs ys k := by
  intro k
  induction k with
  | zero => exact .inl rfl
  | succ k ih =>
    unfold mostTo
    split
    · rename_i h
      exact .inr ⟨k, by omega, h.2, rfl⟩
    · rcases ih with h | ⟨j, h1, h2, h3⟩
      · exact .inl h
      · exact .inr ⟨j, by omega, h2, h3⟩
theorem mostTo_le (xs ys : List Int) : ∀ k, k ≤ 256 → mostTo xs ys k ≤ 8 := by
  intro k
  induction k with
  | zero => intro _; exact Nat.zero_le _
  | succ k ih =>
    intro hk
    unfold mostTo
    split
    · exact cnt_le k (by omega)
    · exact ih (by omega)

theorem same_agree {xs ys : List Int} {m : Nat} (hx : partIn xs = true) (hy : partIn ys = true) (hl : ys.length = xs.length) (hm : m < 2 ^ xs.length) :
    sameOn xs ys m = true ↔ agreeS (numAtN xs) (numAtN ys) xs.length (fun i => m.testBit i) := by
  have hl8 := partIn_len hx
  have key : ∀ i k, i < xs.length → k < xs.length → (dif xs ys i k = 0 ↔ (numAtN xs i = numAtN xs k ↔ numAtN ys i = numAtN ys k)) := by
    intro i k hi hk
    have a1 := (numAtN_int hx hi).1
    have a2 := (numAtN_int hx hk).1
    have a3 := (numAtN_int hy (k := i) (by omega)).1
    have a4 := (numAtN_int hy (k := k) (by omega)).1
    rw [dif_zero, a1, a2, a3, a4]
    constructor <;> intro h <;> omega
  have mem : ∀ t : Nat, (t : Int) ∈ bitsL m ↔ t < xs.length ∧ m.testBit t = true := by
    intro t
    unfold bitsL
    constructor
    · intro h
      obtain ⟨s, hs, e⟩ := List.mem_map.1 h
      obtain ⟨h1, h2⟩ := List.mem_filter.1 hs
      have e : s = t := by omega
      subst e
      refine ⟨?_, h2⟩
      by_cases hlt : s < xs.length
      · exact hlt
      · have := Nat.testBit_lt_two_pow (Nat.lt_of_lt_of_le hm (Nat.pow_le_pow_right (by omega) (show xs.length ≤ s by omega)))
        rw [this] at h2
        cases h2
    · rintro ⟨h1, h2⟩
      exact List.mem_map.2 ⟨t, List.mem_filter.2 ⟨List.mem_range.2 (by omega), h2⟩, rfl⟩
  unfold sameOn
  rw [decide_eq_true_eq]
  constructor
  · intro h i k hi hk hs hs'
    have := h (i : Int) ((mem i).2 ⟨hi, hs⟩) (k : Int) ((mem k).2 ⟨hk, hs'⟩)
    exact (key i k hi hk).1 this
  · intro h x hx1 y hy1
    obtain ⟨i, rfl, _, hb⟩ := bit_mem hx1
    obtain ⟨k, rfl, _, hb'⟩ := bit_mem hy1
    have h1 := ((mem i).1 hx1).1
    have h2 := ((mem k).1 hy1).1
    exact (key i k h1 h2).2 (h i k h1 h2 hb hb')

theorem most_isMost {xs ys : List Int} (ha : alike xs ys = true) : isMost (numAtN xs) (numAtN ys) xs.length (mostTo xs ys (2 ^ xs.length)) := by
  obtain ⟨hx, hy, hl⟩ := alike_iff.1 ha
  have hl8 := partIn_len hx
  constructor
  · intro S hS
    obtain ⟨m, hm, hb⟩ := mask_of S xs.length
    have e : cntB S xs.length = cnt m := by
      rw [cnt_bits xs.length (by omega) m hm]
      exact cntB_congr fun i hi => (hb i hi).symm
    rw [e]
    refine mostTo_ge xs ys _ m hm ((same_agree hx hy hl.symm hm).2 fun i k hi hk h1 h2 => ?_)
    dsimp only at h1 h2
    rw [hb i hi] at h1
    rw [hb k hk] at h2
    exact hS i k hi hk h1 h2
  · rcases mostTo_is xs ys (2 ^ xs.length) with h | ⟨j, h1, h2, h3⟩
    · refine ⟨fun _ => false, fun i k _ _ h1 _ => absurd h1 (by simp), ?_⟩
      rw [h]
      exact cntB_none fun i _ => rfl
    · exact ⟨_, (same_agree hx hy hl.symm h1).1 h2, by rw [← h3, cnt_bits xs.length (by omega) j h1]⟩

def movesN (xs ys : List Int) : Nat := bestR (cellN (numAtN xs) (numAtN ys) xs.length) (pSize ys).toNat (pSize xs).toNat 0 0
def viewMoves (xs ys : List Int) : Int × Bool := if alike xs ys then ((xs.length : Int) - (movesN xs ys : Nat), true) else (0, false)

theorem moves_isMost {xs ys : List Int} (ha : alike xs ys = true) : isMost (numAtN xs) (numAtN ys) xs.length (movesN xs ys) := by
  obtain ⟨hx, hy, hl⟩ := alike_iff.1 ha
  exact best_sets (fun i hi => (numAtN_int hx hi).2) (fun i hi => (numAtN_int hy (by omega)).2)
theorem most_moves {xs ys : List Int} (ha : alike xs ys = true) : mostTo xs ys (2 ^ xs.length) = movesN xs ys := isMost_one (most_isMost ha) (moves_isMost ha)

set_option maxHeartbeats 1600000 in
theorem iViewMoves_v (v u : Value) (xs ys : List Int) (w : World) (hT : Tab w) (hv : RdV w v xs) (hu : RdV w u ys) :
    Calls Tryz.prog 195 #[v, u] w (GivesIB w (viewMoves xs ys)) := by
  have HV := Lib.hid hv
  have HU := Lib.hid hu
  cases ha : alike xs ys
  · have HA := Lib.hid ha
    have hr : viewMoves xs ys = (0, false) := by rw [viewMoves, ha]; rfl
    rw [hr]
    clear ha hr hv hu hT
    go_enter Tryz.func195, Tryz.ntmps195
    go_wp2_with fail
    refine (areAlike_is false _ _ _ _ _ HV.out HU.out HA).mono ?_
    rintro e w' ⟨rfl, rfl⟩
    go_wp2
    go_ret2
    exact ⟨rfl, Below.refl _ _⟩
  · have HA := Lib.hid ha
    obtain ⟨hx, hy, hl⟩ := alike_iff.1 ha
    have hl8 := partIn_len hx
    have hr : viewMoves xs ys = ((xs.length : Int) - (mostTo xs ys (2 ^ xs.length) : Nat), true) := by rw [viewMoves, ha, most_moves ha]; rfl
    rw [hr]
    have HT := Lib.hid hT
    have HSM := Lib.hid fun (m : Nat) (hm : m < 2 ^ xs.length) (hm2 : m < 256) (w1 : World) (h1 : Below w.heap.size w w1) => areSameOn_any m hm2 v u xs ys w1 (tab_below HT.out h1) (rdv_below HV.out h1) (rdv_below HU.out h1) hl.symm (fun t hb _ => by
      by_cases hlt : t < xs.length
      · exact hlt
      · have := Nat.testBit_lt_two_pow (Nat.lt_of_lt_of_le hm (Nat.pow_le_pow_right (by omega) (show xs.length ≤ t by omega)))
        rw [this] at hb
        cases hb)
    obtain ⟨ao, ca, rfl, _⟩ := hv
    obtain ⟨n, hn⟩ : ∃ n, n = xs.length := ⟨_, rfl⟩
    rw [← hn] at HV hl8 HSM ⊢
    obtain ⟨hp1, hp2⟩ := pow_wrap n (by omega)
    obtain ⟨q, hq⟩ : ∃ q, q = 2 ^ n := ⟨_, rfl⟩
    rw [← hq] at hp1 hp2 HSM ⊢
    have he2 : (2 : Int) ^ n = (q : Int) := by rw [hq, Int.natCast_pow]; rfl
    have HE2 := Lib.hid he2
    clear ha hr hx hy hl hn hu hT he2 hq
    go_enter Tryz.func195, Tryz.ntmps195
    go_wp2_with fail
    refine (areAlike_is true _ _ _ _ _ HV.out HU.out HA).mono ?_
    rintro e w' ⟨rfl, rfl⟩
    go_wp2
    go_loopw [6, 15] (fun m i wr => ∃ (k s : Nat), k ≤ q ∧ i = .int .u64 k ∧ m = .int .i64 s ∧ Hid (s = mostTo xs ys k) ∧ Below w.heap.size w wr) (fun _ i _ => q - (intOf i).toNat)
    case atStart => exact ⟨0, 0, Nat.zero_le _, rfl, rfl, Lib.hid rfl, Below.refl _ _⟩
    case round =>
      obtain ⟨k, s, hk, rfl, rfl, HS, hbel⟩ := hrel
      have hs8 : s ≤ 8 := by have := HS.out; have := mostTo_le xs ys k (by omega); omega
      by_cases hlt : k < q
      · have hk256 : k < 256 := by omega
        have hst : mostTo xs ys (k + 1) = if mostTo xs ys k < cnt k ∧ sameOn xs ys k = true then cnt k else mostTo xs ys k := rfl
        have hc8 := cnt_le k hk256
        have HSZ := Lib.hid fun (w1 : World) => size_any k w1 hk256
        have HSA := Lib.hid (HSM.out k hlt hk256 wr hbel)
        obtain ⟨c, hc⟩ : ∃ c, c = cnt k := ⟨_, rfl⟩
        rw [← hc] at hst hc8 HSZ
        rw [← HS.out] at hst
        clear hc
        by_cases hg : s < c
        · cases hsm : sameOn xs ys k
          · rw [hsm] at hst HSA
            rw [if_neg (by simp)] at hst
            have HST := Lib.hid hst
            clear hst hsm
            go_wp2_with fail
            refine (HSZ.out _).mono ?_
            rintro e w' ⟨rfl, rfl⟩
            go_wp2_with fail
            refine HSA.out.mono ?_
            rintro e w2 ⟨rfl, hb2⟩
            have HB2 := Lib.hid (below_step hbel hb2)
            clear hb2
            go_wp2
            go_roundw
            case rel => exact ⟨k + 1, s, by omega, by go_num, rfl, Lib.hid HST.out.symm, HB2.out⟩
            case measure => simp [intOf]; omega
          · rw [hsm] at hst HSA
            rw [if_pos ⟨hg, rfl⟩] at hst
            have HST := Lib.hid hst
            clear hst hsm
            go_wp2_with fail
            refine (HSZ.out _).mono ?_
            rintro e w' ⟨rfl, rfl⟩
            go_wp2_with fail
            refine HSA.out.mono ?_
            rintro e w2 ⟨rfl, hb2⟩
            have HB2 := Lib.hid (below_step hbel hb2)
            clear hb2
            go_wp2_with fail
            refine (HSZ.out _).mono ?_
            rintro e w' ⟨rfl, rfl⟩
            go_wp2
            go_roundw
            case rel => exact ⟨k + 1, c, by omega, by go_num, rfl, Lib.hid HST.out.symm, HB2.out⟩
            case measure => simp [intOf]; omega
        · rw [if_neg (by omega)] at hst
          have HST := Lib.hid hst
          clear hst
          go_wp2_with fail
          refine (HSZ.out _).mono ?_
          rintro e w' ⟨rfl, rfl⟩
          go_wp2
          go_roundw
          case rel => exact ⟨k + 1, s, by omega, by go_num, rfl, Lib.hid HST.out.symm, hbel⟩
          case measure => simp [intOf]; omega
      · have hkq : k = q := by omega
        subst hkq
        go_wp2
        go_ret2
        exact ⟨ret_ib (by rw [HS.out]), hbel⟩
end

end Go.Proofs.YtmflecemkodklaaGreatDoor
