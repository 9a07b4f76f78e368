/-
  What the laws of this claim lean on: what functions of the program and of the model answer, one after another, and plain mathematics. No condition.
-/
import Derived.Test.YtbmpchpcihnbdaaMgA
import Derived.Test.YtbmpchpcihnbdaaMgB
import Derived.Test.YtbmpchpcihnbdaaMgC
import Derived.Test.YtbmpchpcihnbdaaMgD
import Derived.Test.YtbmpchpcihnbdaaMgE
import Derived.StillTailTactics
import Derived.Deep.LoopGhost
import Derived.Laws.CopyOwn
import Derived.WalkKit

/-
  Small words for the plain laws: what the functions tell for partitions and for other lists.
-/
namespace Go.Proofs.Ytbmpchpcihnbdaa
set_option linter.unusedSimpArgs false
set_option linter.unusedVariables false
set_option linter.unnecessarySimpa false

theorem partSize_yes {xs : List Int} (h : partIn xs = true) : partSize xs = (pSize xs, true) := by simp [partSize, h]
theorem partSize_no {xs : List Int} (h : ¬ partIn xs = true) : partSize xs = (0, false) := by simp [partSize, h]
theorem partType_yes {xs : List Int} (h : partIn xs = true) : partType xs = (desc (sizes xs), true) := by simp [partType, h]
theorem partType_no {xs : List Int} (h : ¬ partIn xs = true) : partType xs = ([], false) := by simp [partType, h]
theorem finerMeet_yes {xs ys : List Int} (h : alike xs ys = true) : finerMeet xs ys = (kOut (mix 8 xs ys), true) := by simp [finerMeet, h]
theorem finerMeet_no {xs ys : List Int} (h : alike xs ys = false) : finerMeet xs ys = ([], false) := by simp [finerMeet, h]
theorem finerJoin_yes {xs ys : List Int} (h : alike xs ys = true) : finerJoin xs ys = (kOut (joinAll xs ys xs.length xs.length), true) := by simp [finerJoin, h]
theorem finerJoin_no {xs ys : List Int} (h : alike xs ys = false) : finerJoin xs ys = ([], false) := by simp [finerJoin, h]

theorem finerRank_yes {xs : List Int} (h : partIn xs = true) : finerRank xs = ((xs.length : Int) - pSize xs, true) := by simp [finerRank, h]
theorem finerRank_no {xs : List Int} (h : ¬ partIn xs = true) : finerRank xs = (0, false) := by simp [finerRank, h]
theorem finerMerges_yes {xs : List Int} (h : partIn xs = true) {p : Nat} (hp : pSize xs = p) : finerMerges xs = (mergesTo xs p p, true) := by simp [finerMerges, h, hp]
theorem finerMerges_no {xs : List Int} (h : ¬ partIn xs = true) : finerMerges xs = ([], false) := by simp [finerMerges, h]
theorem finerSplits_yes {xs : List Int} (h : partIn xs = true) : finerSplits xs = (sumOf spl (sizes xs), true) := by simp [finerSplits, h]
theorem finerSplits_no {xs : List Int} (h : ¬ partIn xs = true) : finerSplits xs = (0, false) := by simp [finerSplits, h]
theorem finerChains_yes {xs : List Int} (h : partIn xs = true) {p : Nat} (hp : pSize xs = p) : finerChains xs = (chD p (p - 1), true) := by simp [finerChains, h, hp]
theorem finerChains_no {xs : List Int} (h : ¬ partIn xs = true) : finerChains xs = (0, false) := by simp [finerChains, h]
theorem finerInterval_yes {xs ys : List Int} (h : finerIn xs ys = true) : finerInterval xs ys = (prodOf bellN (inner xs ys), true) := by simp [finerInterval, h]
theorem finerInterval_no {xs ys : List Int} (h : finerIn xs ys = false) : finerInterval xs ys = (0, false) := by simp [finerInterval, h]

/-- What an interval tells of both partitions. -/
theorem interval_facts {xs ys : List Int} (h : finerIn xs ys = true) : (prodOf bellN (inner xs ys) = 1 ↔ xs = ys) ∧ (prodOf bellN (inner xs ys) = 2 ↔ pSize xs = pSize ys + 1) := by
  have h1 := inner_facts h
  have h2 := inner_sum h
  have h3 := inner_length xs ys
  have hnn : ∀ c ∈ inner xs ys, 0 ≤ c := fun c hc => by
    obtain ⟨j, hj, e⟩ := mem_iff_getD.1 hc
    have := h1.2 j hj
    omega
  have h4 := prod_small (inner xs ys) fun y hy => ⟨h1.2 y hy, by have := getD_le_sum (inner xs ys) y hnn hy; omega⟩
  have h5 := (pSize_bd (partIn_small (finer_parts h).2.1)).1
  refine ⟨?_, by omega⟩
  rw [h4.2.2.1]
  constructor
  · intro e
    exact under_both h (by omega)
  · intro e
    rw [h2, h3, e]
    omega

/-- A merge, by its place. -/
theorem merge_at {xs : List Int} (hx : partIn xs = true) (p : Nat) {k : Nat} (hk : k < (mergesTo xs p p).length) : ∃ x y : Nat, x < y ∧ y < p ∧ (mergesTo xs p p).getD k [] = kOut (retold xs (x : Int) (y : Int)) := by
  refine merges_each xs p _ p ?_
  simp [List.getD, hk]

theorem chains_step : ∀ p, p < 9 → 2 ≤ p → chD p (p - 1) = ((p * (p - 1) / 2 : Nat) : Int) * chD (p - 1) (p - 2) := by decide +kernel

theorem halves_zero : ∀ p, p < 9 → 1 ≤ p → (p * (p - 1) / 2 = 0 ↔ p = 1) := by decide

theorem wf_small {i : Int} (h0 : -100000 ≤ i) (h1 : i ≤ 100000) : (Lit.int .i64 i).wf = true := by
  simp [Lit.wf, IntKind.min, IntKind.max, IntKind.bits, IntKind.signed]
  omega

theorem pSize_end {xs : List Int} (h : partIn xs = true) : pSize xs = endFrom 0 xs := by
  have e := kOut_of_ok xs (partIn_ok h)
  have h2 := pSize_kOut xs
  rw [e.1] at h2
  rw [h2, e.2]

theorem put_part {xs : List Int} {k : Int} (h : partIn xs = true) (hl : xs.length ≠ 8) (h0 : 0 ≤ k) (h1 : k ≤ pSize xs) : partIn (xs ++ [k]) = true := by
  have hlen := partIn_len h
  have ha := okFrom_append xs 0 k
  have ho := partIn_ok h
  rw [pSize_end h] at h1
  unfold partIn
  rw [ha.1, ho]
  simp [h0, h1]
  omega

theorem put_drop {xs : List Int} {k : Int} (h : partIn xs = true) (hl : xs.length ≠ 8) (h0 : 0 ≤ k) (h1 : k ≤ pSize xs) : partDrop (xs ++ [k]) (xs.length : Int) = (xs, true) := by
  have hlen := partIn_len h
  have e : dropAt (xs ++ [k]) xs.length = xs := by
    unfold dropAt
    rw [List.take_left, List.drop_of_length_le (by simp)]
    simp
  unfold partDrop
  rw [if_pos ⟨put_part h hl h0 h1, by rw [List.length_append]; show xs.length + 1 ≠ 1; omega, by omega, by rw [List.length_append]; show (xs.length : Int) < ((xs.length + 1 : Nat) : Int); omega⟩, Int.toNat_natCast, e, kOut_part h]

theorem together_facts {xs : List Int} {i k : Int} (h : partTogether xs i k = true) : partTogether xs k i = true ∧ partTogether xs i i = true := by
  simp only [partTogether, Bool.and_eq_true, decide_eq_true_eq] at h ⊢
  obtain ⟨⟨⟨h1, h2⟩, h3⟩, h4⟩ := h
  exact ⟨⟨⟨⟨h1, h3⟩, h2⟩, h4.symm⟩, ⟨⟨⟨h1, h2⟩, h2⟩, trivial⟩⟩

theorem kernel_ends {xs : List Int} (h1 : 1 ≤ xs.length) (h8 : xs.length ≤ 8) : partTogether (kOut xs) 0 ((xs.length : Int) - 1) = decide (xs.getD 0 0 = xs.getD (xs.length - 1) 0) := by
  have hp := partIn_kOut h1 h8
  have e : ((xs.length : Int) - 1).toNat = xs.length - 1 := by omega
  unfold partTogether
  rw [hp, kOut_length, e, decide_eq_true (by omega : (0 : Int) ≤ 0 ∧ (0 : Int) < xs.length), decide_eq_true (by omega : 0 ≤ (xs.length : Int) - 1 ∧ (xs.length : Int) - 1 < xs.length)]
  simp only [Bool.true_and]
  rw [Bool.eq_iff_iff, decide_eq_true_eq, decide_eq_true_eq]
  exact ((kOut_inv xs).2 0 (xs.length - 1) (by omega) (by omega)).symm

end Go.Proofs.Ytbmpchpcihnbdaa

/-
  The contract of impl.arcTold: an arc that a list tells.
-/
namespace Go.Proofs.Ytbmpchpcihnbdaa
set_option linter.unusedSimpArgs false
set_option linter.unusedVariables false
set_option linter.unnecessarySimpa false
open Go.RowKit
set_option maxRecDepth 100000

/-- A function hands an arc, out of its variable, and a bool back. -/
theorem results_arc {fn : Func} {p q : Tmp} (h : fn.results = #[.cell p 84, .tmp q]) (tmps : Array Value) (w : World) (g : Nat) (x y : Int) (b : Bool)
    (hp : tmps.getD p undef = .pointer (some ⟨g, 0, none⟩)) (hq : tmps.getD q undef = .bool b) (hg : w.heap[g]? = some (.cells #[.int .i64 x, .int .i64 y] 84 (0, 0))) : (results fn tmps).run Try.prog w = .ok (.tuple #[.agg #[.int .i64 x, .int .i64 y], .bool b]) w := by
  have hp' : tmps[p]?.getD undef = .pointer (some ⟨g, 0, none⟩) := by simpa using hp
  have hq' : tmps[q]?.getD undef = .bool b := by simpa using hq
  obtain ⟨i0, hi, hz0, hz1, hz2⟩ := info_parts Try.infoArc
  have hr := run_loadVar_row (P := Try.prog) w g 84 84 #[.int .i64 x, .int .i64 y] (0, 0) _ hg Try.underlying84 rfl (by rw [hi]; simpa using hz1)
  simp [results, h, hp', hq', asAddr, hr]

/-- An arc is written into its variable. -/
theorem wpList_storeA {ops : Array Oper} {rest : List Oper} {o : Oper} {a : Act} {w : World} {Q : Exit → Act → World → Prop} (hgd : o.guard = none) (x y : Operand) (ho : o.op = .store 84 x y)
    (g : Nat) (hx : a.eval x = .pointer (some ⟨g, 0, none⟩)) (p q p0 q0 : Int) (hy : a.eval y = .agg #[.int .i64 p, .int .i64 q]) (hg : w.heap[g]? = some (.cells #[.int .i64 p0, .int .i64 q0] 84 (0, 0)))
    (h : ∀ w', w'.heap[g]? = some (.cells #[.int .i64 p, .int .i64 q] 84 (0, 0)) → Touch w w' g (g + 1) → wpList Try.prog ops Q rest (a.put o.dst undef) w') : wpList Try.prog ops Q (o :: rest) a w := by
  obtain ⟨i0, hi, hz0, hz1, hz2⟩ := info_parts Try.infoArc
  exact wpList_store_row hgd _ x y ho g #[.int .i64 p, .int .i64 q] hx hy _ #[.int .i64 p0, .int .i64 q0] hg (by rw [hi]; simpa using hz1) rfl (by simp [Value.oneCell']) (h _ (setRow_heap w g _ _ _ _ hg) (touch_row w g _))

set_option maxHeartbeats 1600000 in
theorem arcTold_yes (n : Int) (v : Value) (row : List Int) (w : World) (hv : RdV w v row) (hok : toldOk n row = true) :
    Calls Try.prog 94 #[.int .i64 n, v] w fun e w' => e = .returned (.tuple #[.agg #[.int .i64 (row.getD 0 0), .int .i64 (row.getD 1 0)], .bool true]) ∧ Below w.heap.size w w' := by
  simp only [toldOk, decide_eq_true_eq] at hok
  obtain ⟨hl, ⟨h0, h0n⟩, h01, h1n⟩ := hok
  obtain ⟨ao, ca, rfl, hx, hlc, hcm⟩ := hv
  rcases hx with hx | ⟨bb, off, rfl, hc⟩
  · rw [hx] at hl; simp at hl
  have hc0 := hc 0 (by omega)
  have hc1 := hc 1 (by omega)
  rw [Nat.add_zero] at hc0
  rw [hl] at hlc ⊢
  obtain ⟨x, hx⟩ : ∃ x, x = row.getD 0 0 := ⟨_, rfl⟩
  obtain ⟨y, hy⟩ : ∃ y, y = row.getD 1 0 := ⟨_, rfl⟩
  rw [← hx] at hc0 h0 h0n h01 ⊢
  rw [← hy] at hc1 h01 h1n ⊢
  have h10 : 0 ≤ y := by omega
  have hbb : bb < w.heap.size := World.block_lt_of_cell? w _ hc0
  have hne : ¬ (x ≥ y) := by omega
  clear hc hx hy hl
  go_enter Try.func94, Try.ntmps94
  go_wp2
  go_quiet (first | (go_at_call_of 74 (Value.int IntKind.i64 x); exact quiet_left (isThing_yes n x _ h0 h0n)) | (go_at_call_of 74 (Value.int IntKind.i64 y); exact quiet_left (isThing_yes n y _ h10 h1n)))
  go_wp2
  obtain ⟨W1, hW1⟩ : ∃ W1, W1 = (w.alloc (.cells #[.int .i64 0, .int .i64 0] 84)).drewN nq := ⟨_, rfl⟩
  have hg1 : W1.drew.heap[w.heap.size]? = some (.cells #[.int .i64 0, .int .i64 0] 84 (0, 0)) := by rw [hW1]; exact heap_alloc_new w _
  have hb1 : Below w.heap.size w W1 := by rw [hW1]; exact below_drewN ((Below.refl _ _).alloc (Nat.le_refl _) _) _
  have hd0 : W1.cell? ⟨bb, off, none⟩ = some (.int .i64 x) := by rw [hb1.cell hbb]; exact hc0
  have hd1 : W1.cell? ⟨bb, off + 1, none⟩ = some (.int .i64 y) := by rw [hb1.cell hbb]; exact hc1
  rw [← hW1]
  have HG1 := Lib.hid hg1
  have HB1 := Lib.hid (below_drewN hb1 1)
  clear hc0 hc1 hW1 hg1 hb1
  go_still_tail 7, (by kernel_rfl)
  change wpList _ _ _ _ _ (World.drew _)
  go_wp2_with (refine wpList_storeA rfl _ _ rfl w.heap.size rfl x y 0 0 rfl HG1.out ?_; intro w3 hg3 ht3; have HG3 := Lib.hid hg3; have HB3 := Lib.hid (HB1.out.trans (touch_below ht3 (Nat.le_refl _))); clear hg3 ht3)
  exact bodyPost_ret (results_arc rfl _ _ w.heap.size x y true rfl rfl HG3.out) rfl ⟨rfl, HB3.out⟩

set_option maxHeartbeats 3200000 in
theorem arcTold_no (n : Int) (v : Value) (row : List Int) (w : World) (hv : RdV w v row) (hok : toldOk n row = false) :
    Calls Try.prog 94 #[.int .i64 n, v] w fun e w' => e = .returned (.tuple #[.agg #[.int .i64 0, .int .i64 0], .bool false]) ∧ Below w.heap.size w w' := by
  simp only [toldOk, decide_eq_false_iff_not] at hok
  obtain ⟨ao, ca, rfl, hx, hlc, hcm⟩ := hv
  by_cases hl : row.length = 2
  · rcases hx with hx | ⟨bb, off, rfl, hc⟩
    · rw [hx] at hl; simp at hl
    have hc0 := hc 0 (by omega)
    have hc1 := hc 1 (by omega)
    rw [Nat.add_zero] at hc0
    have hok2 : ¬ ((0 ≤ row.getD 0 0 ∧ row.getD 0 0 < n) ∧ row.getD 0 0 < row.getD 1 0 ∧ row.getD 1 0 < n) := fun h => hok ⟨hl, h⟩
    rw [hl] at hlc ⊢
    obtain ⟨x, hx⟩ : ∃ x, x = row.getD 0 0 := ⟨_, rfl⟩
    obtain ⟨y, hy⟩ : ∃ y, y = row.getD 1 0 := ⟨_, rfl⟩
    rw [← hx] at hc0 hok2
    rw [← hy] at hc1 hok2
    have hbb : bb < w.heap.size := World.block_lt_of_cell? w _ hc0
    clear hc hx hy hl hok
    by_cases h0 : 0 ≤ x ∧ x < n
    · obtain ⟨h00, h0n⟩ := h0
      by_cases h1 : 0 ≤ y ∧ y < n
      · obtain ⟨h10, h1n⟩ := h1
        have hge : y ≤ x := by omega
        have hd : decide (y ≤ x) = true := by simpa using hge
        clear hok2
        go_enter Try.func94, Try.ntmps94
        go_wp2
        go_quiet (first | (go_at_call_of 74 (Value.int IntKind.i64 x); exact quiet_left (isThing_yes n x _ h00 h0n)) | (go_at_call_of 74 (Value.int IntKind.i64 y); exact quiet_left (isThing_yes n y _ h10 h1n)))
        obtain ⟨W1, hW1⟩ : ∃ W1, W1 = (w.alloc (.cells #[.int .i64 0, .int .i64 0] 84)).drewN nq := ⟨_, rfl⟩
        have hg1 : W1.heap[w.heap.size]? = some (.cells #[.int .i64 0, .int .i64 0] 84 (0, 0)) := by rw [hW1]; exact heap_alloc_new w _
        have hb1 : Below w.heap.size w W1 := by rw [hW1]; exact below_drewN ((Below.refl _ _).alloc (Nat.le_refl _) _) _
        rw [← hW1]
        have HG1 := Lib.hid hg1
        have HB1 := Lib.hid hb1
        clear hW1 hg1 hb1
        go_wp2_with (refine wpList_storeA rfl _ _ rfl w.heap.size rfl 0 0 0 0 rfl HG1.out ?_; intro w3 hg3 ht3; have HG3 := Lib.hid hg3; have HB3 := Lib.hid (HB1.out.trans (touch_below ht3 (Nat.le_refl _))); clear hg3 ht3)
        exact bodyPost_ret (results_arc rfl _ _ w.heap.size 0 0 false rfl rfl HG3.out) rfl ⟨rfl, HB3.out⟩
      · have h1' : y < 0 ∨ n ≤ y := by omega
        have H1 := Lib.hid h1'
        clear h1 h1' hok2
        go_enter Try.func94, Try.ntmps94
        go_wp2
        go_quiet (first | (go_at_call_of 74 (Value.int IntKind.i64 x); exact quiet_left (isThing_yes n x _ h00 h0n)) | (go_at_call_of 74 (Value.int IntKind.i64 y); exact quiet_left (isThing_no n y _ H1.out)))
        obtain ⟨W1, hW1⟩ : ∃ W1, W1 = (w.alloc (.cells #[.int .i64 0, .int .i64 0] 84)).drewN nq := ⟨_, rfl⟩
        have hg1 : W1.heap[w.heap.size]? = some (.cells #[.int .i64 0, .int .i64 0] 84 (0, 0)) := by rw [hW1]; exact heap_alloc_new w _
        have hb1 : Below w.heap.size w W1 := by rw [hW1]; exact below_drewN ((Below.refl _ _).alloc (Nat.le_refl _) _) _
        rw [← hW1]
        have HG1 := Lib.hid hg1
        have HB1 := Lib.hid hb1
        clear hW1 hg1 hb1
        go_wp2_with (refine wpList_storeA rfl _ _ rfl w.heap.size rfl 0 0 0 0 rfl HG1.out ?_; intro w3 hg3 ht3; have HG3 := Lib.hid hg3; have HB3 := Lib.hid (HB1.out.trans (touch_below ht3 (Nat.le_refl _))); clear hg3 ht3)
        exact bodyPost_ret (results_arc rfl _ _ w.heap.size 0 0 false rfl rfl HG3.out) rfl ⟨rfl, HB3.out⟩
    · have h0' : x < 0 ∨ n ≤ x := by omega
      have H0 := Lib.hid h0'
      clear h0 h0' hok2
      go_enter Try.func94, Try.ntmps94
      go_wp2
      go_quiet ((go_at_call_of 74 (Value.int IntKind.i64 x); exact quiet_left (isThing_no n x _ H0.out)))
      obtain ⟨W1, hW1⟩ : ∃ W1, W1 = (w.alloc (.cells #[.int .i64 0, .int .i64 0] 84)).drewN nq := ⟨_, rfl⟩
      have hg1 : W1.heap[w.heap.size]? = some (.cells #[.int .i64 0, .int .i64 0] 84 (0, 0)) := by rw [hW1]; exact heap_alloc_new w _
      have hb1 : Below w.heap.size w W1 := by rw [hW1]; exact below_drewN ((Below.refl _ _).alloc (Nat.le_refl _) _) _
      rw [← hW1]
      have HG1 := Lib.hid hg1
      have HB1 := Lib.hid hb1
      clear hW1 hg1 hb1
      go_wp2_with (refine wpList_storeA rfl _ _ rfl w.heap.size rfl 0 0 0 0 rfl HG1.out ?_; intro w3 hg3 ht3; have HG3 := Lib.hid hg3; have HB3 := Lib.hid (HB1.out.trans (touch_below ht3 (Nat.le_refl _))); clear hg3 ht3)
      exact bodyPost_ret (results_arc rfl _ _ w.heap.size 0 0 false rfl rfl HG3.out) rfl ⟨rfl, HB3.out⟩
  · obtain ⟨m, hm⟩ : ∃ m, m = row.length := ⟨_, rfl⟩
    rw [← hm] at hl hlc ⊢
    have hd : ((m : Int) != 2) = true := by simp; omega
    clear hm hok hx
    go_enter Try.func94, Try.ntmps94
    go_wp2
    go_quiet (fail)
    obtain ⟨W1, hW1⟩ : ∃ W1, W1 = (w.alloc (.cells #[.int .i64 0, .int .i64 0] 84)).drewN nq := ⟨_, rfl⟩
    have hg1 : W1.heap[w.heap.size]? = some (.cells #[.int .i64 0, .int .i64 0] 84 (0, 0)) := by rw [hW1]; exact heap_alloc_new w _
    have hb1 : Below w.heap.size w W1 := by rw [hW1]; exact below_drewN ((Below.refl _ _).alloc (Nat.le_refl _) _) _
    rw [← hW1]
    have HG1 := Lib.hid hg1
    have HB1 := Lib.hid hb1
    clear hW1 hg1 hb1
    go_wp2_with (refine wpList_storeA rfl _ _ rfl w.heap.size rfl 0 0 0 0 rfl HG1.out ?_; intro w3 hg3 ht3; have HG3 := Lib.hid hg3; have HB3 := Lib.hid (HB1.out.trans (touch_below ht3 (Nat.le_refl _))); clear hg3 ht3)
    exact bodyPost_ret (results_arc rfl _ _ w.heap.size 0 0 false rfl rfl HG3.out) rfl ⟨rfl, HB3.out⟩

end Go.Proofs.Ytbmpchpcihnbdaa

/-
  The contracts of pairsTold and of PairIn.
-/
namespace Go.Proofs.Ytbmpchpcihnbdaa
set_option linter.unusedSimpArgs false
set_option linter.unusedVariables false
set_option linter.unnecessarySimpa false
open Go.RowKit
set_option maxRecDepth 100000

theorem cmpI_lt (a b : Nat) : cmpI a b < 0 ↔ a < b := by unfold cmpI; split <;> (try split) <;> omega
theorem cmpI_zero (a b : Nat) : cmpI a b = 0 ↔ a = b := by unfold cmpI; split <;> (try split) <;> omega
theorem cmpP_lt (p q : Nat × Nat) : cmpP p q < 0 ↔ ltP p q := by
  unfold cmpP ltP
  have h1 := cmpI_lt p.1 q.1
  have h2 := cmpI_zero p.1 q.1
  have h3 := cmpI_lt p.2 q.2
  by_cases h : cmpI p.1 q.1 = 0
  · rw [if_neg (by simp [h])]
    omega
  · rw [if_pos h]
    omega

theorem okPair_told {n : Int} {e : List Int} : okPair n e = toldOk n e := by
  unfold okPair toldOk
  rw [Bool.eq_iff_iff, decide_eq_true_eq, decide_eq_true_eq]
  omega

/-- The pairs that a list tells. -/
def decP (e : List Int) : Nat × Nat := ((e.getD 0 0).toNat, (e.getD 1 0).toNat)
def decL (ps : List (List Int)) : List (Nat × Nat) := ps.map decP
theorem decL_length (ps : List (List Int)) : (decL ps).length = ps.length := by simp [decL]
theorem decL_getD (ps : List (List Int)) {k : Nat} (h : k < ps.length) : (decL ps).getD k (0, 0) = decP (ps.getD k []) := by simp [decL, List.getD, h]
theorem decP_enc (p : Nat × Nat) : decP (encP p) = p := rfl
theorem decL_enc (L : List (Nat × Nat)) : decL (encPs L) = L := by
  unfold decL encPs
  rw [List.map_map]
  exact List.map_id' _
theorem take_snocP (L : List (Nat × Nat)) (k : Nat) (h : k < L.length) : L.take (k + 1) = L.take k ++ [L.getD k (0, 0)] := by
  rw [List.take_add_one, List.getElem?_eq_getElem h]
  simp [List.getD, h]

theorem pairTo_le {n : Int} {ps : List (List Int)} {k m : Nat} (h : k ≤ m) (hf : pairTo n ps k = false) : pairTo n ps m = false := by
  rw [Bool.eq_false_iff] at hf ⊢
  intro ht
  exact hf ((pairTo_iff k).2 fun x hx => (pairTo_iff m).1 ht x (by omega))

theorem less_dec {n : Int} {e f : List Int} (he : okPair n e = true) (hf : okPair n f = true) : lessI e f = decide (ltP (decP e) (decP f)) := by
  unfold lessI
  rw [Bool.eq_iff_iff, decide_eq_true_eq, decide_eq_true_eq]
  unfold okPair at he hf
  simp only [decide_eq_true_eq] at he hf
  unfold ltP decP
  omega

/-- One more pair is told. -/
theorem pairTo_next {n : Int} {ps : List (List Int)} {k : Nat} (hk : k < ps.length) (ht : pairTo n ps k = true) (hok : okPair n (ps.getD k []) = true) :
    pairTo n ps (k + 1) = true ↔ ((decL ps).take k = [] ∨ cmpP (((decL ps).take k).getD (((decL ps).take k).length - 1) (0, 0)) (decP (ps.getD k [])) < 0) := by
  have hl : ((decL ps).take k).length = k := by rw [List.length_take, decL_length]; omega
  have hs : pairTo n ps (k + 1) = (pairTo n ps k && okPair n (ps.getD k []) && (decide (k = 0) || lessI (ps.getD (k - 1) []) (ps.getD k []))) := rfl
  rw [hs, ht, hok, Bool.true_and, Bool.true_and, Bool.or_eq_true, decide_eq_true_eq, hl]
  by_cases h0 : k = 0
  · subst h0
    simp
  · have hne : ¬ (decL ps).take k = [] := fun e => h0 (by rw [← hl, e]; rfl)
    have hg : ((decL ps).take k).getD (k - 1) (0, 0) = decP (ps.getD (k - 1) []) := by
      rw [← decL_getD ps (show k - 1 < ps.length by omega)]
      simp only [List.getD, List.getElem?_take, if_pos (show k - 1 < k by omega)]
    have hok2 := ((pairTo_iff k).1 ht (k - 1) (by omega)).1
    rw [hg, cmpP_lt, less_dec hok2 hok, decide_eq_true_eq]
    constructor
    · rintro (h | h)
      · exact absurd h h0
      · exact .inr h
    · rintro (h | h)
      · exact absurd h hne
      · exact .inr h

theorem allP_le (m : Nat) (h : m ≤ 6) : (allP m).length ≤ 15 := by
  have : ∀ m, m < 7 → (allP m).length ≤ 15 := by decide +kernel
  exact this m (by omega)

/-- No pair list is long. -/
theorem pairTo_len {n : Int} {ps : List (List Int)} {k : Nat} (n1 : 1 ≤ n) (n6 : n ≤ 6) (hk : k ≤ ps.length) (ht : pairTo n ps k = true) : k ≤ 15 := by
  have hl : (ps.take k).length = k := by rw [List.length_take]; omega
  have hg : ∀ x, x < k → (ps.take k).getD x [] = ps.getD x [] := fun x hx => by simp only [List.getD, List.getElem?_take, if_pos hx]
  have h : pairIn n (ps.take k) = true := by
    simp only [pairIn, Bool.and_eq_true, decide_eq_true_eq]
    refine ⟨⟨n1, n6⟩, (pairTo_iff _).2 fun x hx => ?_⟩
    rw [hl] at hx
    rw [hg x hx, hg (x - 1) (by omega)]
    exact (pairTo_iff k).1 ht x hx
  obtain ⟨m, L, e, h1, h6, hs, he⟩ := pairIn_sub h
  have := hs.length_le
  have h15 := allP_le m h6
  have h2 := congrArg List.length he
  rw [hl, encPs_length] at h2
  omega

/-- What pairsTold leaves. -/
def ToldP (w : World) (n : Int) (ps : List (List Int)) (e : Ending) (w' : World) : Prop :=
  ∃ v', e = .returned (.tuple #[v', .bool (pairIn n ps)]) ∧ OwnP w' w.heap.size v' (if pairIn n ps then decL ps else []) ∧ Below w.heap.size w w'

set_option maxHeartbeats 4000000 in
theorem pairsTold_any (n : Int) (v : Value) (ps : List (List Int)) (w : World) (hv : RdM w v ps) :
    Calls Try.prog 59 #[.int .i64 n, v] w (ToldP w n ps) := by
  obtain ⟨ao, ca, vs, hvl, rfl, h1, h2, h3, h4⟩ := hv
  unfold maxLen at h2
  by_cases hn : 1 ≤ n ∧ n ≤ 6
  · obtain ⟨n1, n6⟩ := hn
    have hpi : pairIn n ps = pairTo n ps ps.length := by simp [pairIn, n1, n6]
    unfold ToldP
    rw [hpi]
    obtain ⟨m, hm⟩ : ∃ m, m = ps.length := ⟨_, rfl⟩
    rw [← hm] at h1 hvl ⊢
    have HM := Lib.hid hm
    obtain ⟨R, hR⟩ : ∃ R, R = pairTo n ps m := ⟨_, rfl⟩
    obtain ⟨LR, hLR⟩ : ∃ LR, LR = if R then decL ps else [] := ⟨_, rfl⟩
    rw [← hR, ← hLR]
    have RNO : Hid (pairTo n ps m = false → R = false ∧ LR = []) := Lib.hid fun h => by rw [hLR, hR, h]; exact ⟨rfl, rfl⟩
    have RYES : Hid (pairTo n ps m = true → R = true ∧ LR = decL ps) := Lib.hid fun h => by rw [hLR, hR, h]; exact ⟨rfl, rfl⟩
    have H3 := Lib.hid h3
    have H4 := Lib.hid h4
    clear hm h3 h4 hpi hvl hR hLR
    go_enter Try.func59, Try.ntmps59
    go_wp2
    go_loopw [6, 19] (fun u i wr => ∃ k : Nat, k ≤ m ∧ i = .int .i64 k ∧ pairTo n ps k = true ∧ OwnP wr w.heap.size u ((decL ps).take k) ∧ Below w.heap.size w wr) (fun _ i _ => m - (intOf i).toNat)
    case atStart => exact ⟨0, Nat.zero_le _, rfl, rfl, ownP_nil _ _, Below.refl _ _⟩
    case round =>
      obtain ⟨k, hk, rfl, ht, hown, hbel⟩ := hrel
      have HT := Lib.hid ht
      have HO := Lib.hid hown
      clear ht hown
      by_cases hlt : k < m
      · rcases H3.out with h3 | ⟨bb, off, rfl, hc⟩
        · have := HM.out
          rw [h3] at this
          simp at this
          omega
        have hck := cellSt (hc k (by have := HM.out; omega)) hbel
        have hrow := rdv_below (H4.out k (by have := HM.out; omega)) hbel
        obtain ⟨row, hrw⟩ : ∃ row, row = ps.getD k [] := ⟨_, rfl⟩
        obtain ⟨z, hz⟩ : ∃ z, z = vs.getD k undef := ⟨_, rfl⟩
        rw [← hz] at hck hrow
        rw [← hrw] at hrow
        have HROW := Lib.hid hrow
        have HRW := Lib.hid hrw
        obtain ⟨zo, zc, rfl, _⟩ := hrow
        have hBr := hbel.size
        clear hc hz hrw
        cases hok : toldOk n row with
        | false =>
          have HTOLD := Lib.hid (arcTold_no n _ row wr HROW.out hok)
          have HF : Hid (pairTo n ps m = false) := Lib.hid (pairTo_le (k := k + 1) (by omega) (by
            have hs : pairTo n ps (k + 1) = (pairTo n ps k && okPair n (ps.getD k []) && (decide (k = 0) || lessI (ps.getD (k - 1) []) (ps.getD k []))) := rfl
            rw [hs, ← HRW.out, okPair_told, hok]
            simp))
          clear hok
          go_wp2_with fail
          refine HTOLD.out.mono ?_
          rintro e w5 ⟨rfl, hb5⟩
          have HB5 := Lib.hid (below_step hbel hb5)
          clear hb5
          go_wp2
          go_ret2
          obtain ⟨e1, e2⟩ := RNO.out HF.out
          rw [e1, e2]
          exact ⟨_, rfl, ownP_nil _ _, HB5.out.alloc HB5.out.size _⟩
        | true =>
          have HTOLD := Lib.hid (arcTold_yes n _ row wr HROW.out hok)
          have hnx := pairTo_next (n := n) (ps := ps) (k := k) (by have := HM.out; omega) HT.out (by rw [← HRW.out, okPair_told]; exact hok)
          rw [← HRW.out] at hnx
          simp only [toldOk, decide_eq_true_eq] at hok
          obtain ⟨hl2, ⟨h00, h0n⟩, h01, h1n⟩ := hok
          have hdp : decP row = ((row.getD 0 0).toNat, (row.getD 1 0).toNat) := rfl
          obtain ⟨x, hx⟩ := Int.eq_ofNat_of_zero_le h00
          obtain ⟨y, hy⟩ := Int.eq_ofNat_of_zero_le (show 0 ≤ row.getD 1 0 by omega)
          rw [hx, hy] at HTOLD
          rw [hx, hy, Int.toNat_natCast, Int.toNat_natCast] at hdp
          rw [hdp] at hnx
          have HDP : Hid ((decL ps).take (k + 1) = (decL ps).take k ++ [(x, y)]) := Lib.hid (by
            rw [take_snocP _ _ (by rw [decL_length]; have := HM.out; omega), decL_getD ps (by have := HM.out; omega), ← HRW.out, hdp])
          have hlk : ((decL ps).take k).length ≤ 15 := by have := pairTo_len n1 n6 (by have := HM.out; omega) HT.out; rw [List.length_take]; omega
          obtain ⟨LK, hLK⟩ : ∃ LK, LK = (decL ps).take k := ⟨_, rfl⟩
          rw [← hLK] at hnx HO HDP hlk
          have HNX := Lib.hid hnx
          clear hnx hdp hx hy hl2 h00 h0n h01 h1n hLK
          go_wp2_with fail
          refine HTOLD.out.mono ?_
          rintro e w5 ⟨rfl, hb5⟩
          have hb6 : Below wr.heap.size wr (w5.alloc (.cells #[.int .i64 x, .int .i64 y] 84)) := hb5.alloc hb5.size _
          have HO5 := Lib.hid (ownP_below HO.out hb6)
          have HB5 := Lib.hid (below_step hbel hb6)
          clear hb5 hb6
          have f1 : (w5.alloc (.cells #[.int .i64 x, .int .i64 y] 84)).cell? ⟨w5.heap.size, 0, none⟩ = some (.int .i64 x) := (cells_two rfl).1
          have f2 : (w5.alloc (.cells #[.int .i64 x, .int .i64 y] 84)).cell? ⟨w5.heap.size, 1, none⟩ = some (.int .i64 y) := (cells_two rfl).2
          by_cases hc : LK = [] ∨ cmpP (LK.getD (LK.length - 1) (0, 0)) (x, y) < 0
          · have HW := Lib.hid (with_yes u6 w.heap.size LK (x, y) _ HO5.out HB5.out.size (by omega) hc)
            have HT2 := Lib.hid (HNX.out.2 hc)
            clear hc
            go_wp2_with fail
            refine HW.out.mono ?_
            rintro e w7 ⟨v', rfl, ho7, hb7⟩
            have HO7 := Lib.hid ho7
            have HB7 := Lib.hid (HB5.out.trans (hb7.mono (Nat.le_refl _)))
            clear ho7 hb7
            go_wp2
            go_roundw
            case rel => exact ⟨k + 1, by omega, by go_num, HT2.out, by rw [HDP.out]; exact HO7.out, HB7.out⟩
            case measure => simp [intOf]; omega
          · have HW := Lib.hid (with_no u6 w.heap.size LK (x, y) _ HO5.out HB5.out.size (by omega) (fun e => hc (.inl e)) (fun e => hc (.inr e)))
            have HF : Hid (pairTo n ps m = false) := Lib.hid (pairTo_le (k := k + 1) (by omega) (by rw [Bool.eq_false_iff]; exact fun e => hc (HNX.out.1 e)))
            clear hc
            go_wp2_with fail
            refine HW.out.mono ?_
            rintro e w7 ⟨rfl, hb7⟩
            have HB7 := Lib.hid (HB5.out.trans (hb7.mono (Nat.le_refl _)))
            clear hb7
            go_wp2
            go_ret2
            obtain ⟨e1, e2⟩ := RNO.out HF.out
            rw [e1, e2]
            exact ⟨_, rfl, ownP_nil _ _, HB7.out⟩
      · have hkm : k = m := by omega
        subst hkm
        go_wp2
        go_ret2
        obtain ⟨e1, e2⟩ := RYES.out HT.out
        rw [e1, e2]
        have ho := HO.out
        rw [List.take_of_length_le (by rw [decL_length]; have := HM.out; omega)] at ho
        exact ⟨_, rfl, ho, hbel⟩
  · have hpi : pairIn n ps = false := by
      rw [Bool.eq_false_iff]
      intro h
      simp only [pairIn, Bool.and_eq_true, decide_eq_true_eq] at h
      exact hn h.1
    unfold ToldP
    rw [hpi]
    by_cases h1' : n < 1
    · go_enter Try.func59, Try.ntmps59
      go_wp2
      go_ret2
      exact ⟨_, rfl, ownP_nil _ _, Below.refl _ _⟩
    · have h6' : n > 6 := by omega
      go_enter Try.func59, Try.ntmps59
      go_wp2
      go_ret2
      exact ⟨_, rfl, ownP_nil _ _, Below.refl _ _⟩

theorem iPairIn_v (v : Value) (n : Int) (ps : List (List Int)) (w : World) (hv : RdM w v ps) (_ : (Lit.int .i64 n).wf = true) :
    Calls Try.prog 17 #[.int .i64 n, v] w (GivesB w (pairIn n ps)) := by
  have HP := Lib.hid (pairsTold_any n v ps w hv)
  clear hv
  go_enter Try.func17, Try.ntmps17
  go_wp2_with fail
  refine HP.out.mono ?_
  rintro e w1 ⟨u, rfl, ho, hb⟩
  go_wp2
  go_ret
  exact ⟨rfl, hb⟩

end Go.Proofs.Ytbmpchpcihnbdaa

/-
  The contract of the model's PairIn.
-/
namespace Go.Proofs.Ytbmpchpcihnbdaa
set_option linter.unusedSimpArgs false
set_option linter.unusedVariables false
set_option linter.unnecessarySimpa false
open Go.RowKit
set_option maxRecDepth 100000

theorem pairTo_succ (n : Int) (ps : List (List Int)) (k : Nat) : pairTo n ps (k + 1) = (pairTo n ps k && okPair n (ps.getD k []) && (decide (k = 0) || lessI (ps.getD (k - 1) []) (ps.getD k []))) := rfl

/-- A row of two numbers, by its cells. -/
theorem rdv_two {w : World} {v : Value} {row : List Int} (h : RdV w v row) (hl : row.length = 2) : ∃ b o c, v = .slice (some ⟨b, o, none⟩) 2 c ∧ 2 ≤ c ∧ c ≤ maxLen ∧ w.cell? ⟨b, o, none⟩ = some (.int .i64 (row.getD 0 0)) ∧ w.cell? ⟨b, o + 1, none⟩ = some (.int .i64 (row.getD 1 0)) := by
  obtain ⟨b, o, c, rfl, hc, _, h1, h2⟩ := rdv_cells h (by omega)
  have c0 := hc 0 (by omega)
  have c1 := hc 1 (by omega)
  rw [Nat.add_zero] at c0
  rw [hl] at h1 ⊢
  exact ⟨b, o, c, rfl, h1, h2, c0, c1⟩

set_option maxHeartbeats 4000000 in
theorem sPairIn_v (v : Value) (n : Int) (ps : List (List Int)) (w : World) (hv : RdM w v ps) (_ : (Lit.int .i64 n).wf = true) :
    Calls Try.prog 18 #[.int .i64 n, v] w (GivesB w (pairIn n ps)) := by
  obtain ⟨ao, ca, vs, hvl, rfl, h1, h2, h3, h4⟩ := hv
  unfold maxLen at h2
  by_cases hn : 1 ≤ n ∧ n ≤ 6
  · obtain ⟨n1, n6⟩ := hn
    have hpi : pairIn n ps = pairTo n ps ps.length := by simp [pairIn, n1, n6]
    rw [hpi]
    obtain ⟨m, hm⟩ : ∃ m, m = ps.length := ⟨_, rfl⟩
    rw [← hm] at h1 hvl ⊢
    have HM := Lib.hid hm
    obtain ⟨R, hR⟩ : ∃ R, R = pairTo n ps m := ⟨_, rfl⟩
    rw [← hR]
    have HR := Lib.hid hR
    have H3 := Lib.hid h3
    have H4 := Lib.hid h4
    have N1 := Lib.hid n1
    have N6 := Lib.hid n6
    clear hm h3 h4 hpi hvl hR
    go_enter Try.func18, Try.ntmps18
    go_wp2_with fail
    refine (l6In_yes n 1 6 _ N1.out N6.out).mono ?_
    rintro e w' ⟨rfl, rfl⟩
    go_wp2
    go_loopw [5] (fun i wr => ∃ k : Nat, k ≤ m ∧ i = .int .i64 k ∧ Hid (pairTo n ps k = true) ∧ Below w.heap.size w wr) (fun i _ => m - (intOf i).toNat)
    case atStart => exact ⟨0, Nat.zero_le _, rfl, Lib.hid rfl, Below.refl _ _⟩
    case round =>
      obtain ⟨k, hk, rfl, HT, hbel⟩ := hrel
      by_cases hlt : k < m
      · have HB := Lib.hid hbel
        rcases H3.out with h3 | ⟨bb, off, rfl, hc⟩
        · have := HM.out
          rw [h3] at this
          simp at this
          omega
        have hck := cellSt (hc k (by have := HM.out; omega)) hbel
        have hrow := rdv_below (H4.out k (by have := HM.out; omega)) hbel
        have hstep := pairTo_succ n ps k
        rw [HT.out, Bool.true_and] at hstep
        obtain ⟨row, hrw⟩ : ∃ row, row = ps.getD k [] := ⟨_, rfl⟩
        obtain ⟨z, hz⟩ : ∃ z, z = vs.getD k undef := ⟨_, rfl⟩
        rw [← hz] at hck hrow
        rw [← hrw] at hrow hstep
        have HFAIL : Hid (pairTo n ps (k + 1) = false → R = false) := Lib.hid fun h => by rw [HR.out]; exact pairTo_le (by omega) h
        have HSTEP := Lib.hid hstep
        have HRW := Lib.hid hrw
        have hBr := hbel.size
        have hnw : IntKind.i64.wrap (n - 1) = n - 1 := IntWalk.i64_in _ (by have := N1.out; have := N6.out; omega)
        clear hstep hz hrw
        by_cases hl2 : row.length = 2
        · obtain ⟨zb, zo, zc, rfl, hz1, hz2, c0, c1⟩ := rdv_two hrow hl2
          have htold : okPair n row = decide ((0 ≤ row.getD 0 0 ∧ row.getD 0 0 ≤ n - 1) ∧ (row.getD 0 0 + 1 ≤ row.getD 1 0 ∧ row.getD 1 0 ≤ n - 1)) := by unfold okPair; simp [hl2]
          have hxg : Hid (row.getD 0 0 = row.getD 0 0) := rfl
          obtain ⟨x, hx⟩ : ∃ x, x = row.getD 0 0 := ⟨_, rfl⟩
          obtain ⟨y, hy⟩ : ∃ y, y = row.getD 1 0 := ⟨_, rfl⟩
          rw [← hx] at c0 htold
          rw [← hy] at c1 htold
          have HX := Lib.hid hx
          have HY := Lib.hid hy
          have HOK := Lib.hid htold
          clear htold hl2 hrow hxg hx hy
          by_cases hxr : 0 ≤ x ∧ x ≤ n - 1
          · by_cases hyr : x + 1 ≤ y ∧ y ≤ n - 1
            · have hok : Hid (okPair n row = true) := Lib.hid (by rw [HOK.out]; simp [hxr, hyr])
              obtain ⟨hx0, hxn⟩ := hxr
              obtain ⟨hy0, hyn⟩ := hyr
              have X0 := Lib.hid hx0
              have XN := Lib.hid hxn
              have Y0 := Lib.hid hy0
              have YN := Lib.hid hyn
              have hxw : IntKind.i64.wrap (x + 1) = x + 1 := IntWalk.i64_in _ (by have := N6.out; omega)
              cases k with
              | zero =>
                have HT1 : Hid (pairTo n ps 1 = true) := Lib.hid (by have := HSTEP.out; rw [hok.out] at this; simpa using this)
                simp only [Nat.add_zero] at hck
                clear hx0 hxn hy0 hyn
                go_wp2_with fail
                go_quiet (first | (go_at_call_of 60 (Value.int IntKind.i64 x); exact quiet_left (l6In_yes x 0 (n - 1) _ X0.out XN.out)) | (go_at_call_of 60 (Value.int IntKind.i64 y); exact quiet_left (l6In_yes y (x + 1) (n - 1) _ Y0.out YN.out)))
                go_wp2_with fail
                go_quiet (fail)
                go_wp2
                go_roundw
                case rel => exact ⟨1, by omega, by go_num, HT1, by first | exact below_drewN HB.out _ | exact below_drewN (below_drewN HB.out _) _⟩
                case measure => simp [intOf]; omega
              | succ j =>
                have hokj := ((pairTo_iff (j + 1)).1 HT.out j (by omega)).1
                have hl2j : (ps.getD j []).length = 2 := by unfold okPair at hokj; simp only [decide_eq_true_eq] at hokj; exact hokj.1
                have hcj := cellSt (hc j (by have := HM.out; omega)) hbel
                have hrowj := rdv_below (H4.out j (by have := HM.out; omega)) hbel
                have hless : lessI (ps.getD j []) row = decide ((ps.getD j []).getD 0 0 < row.getD 0 0 ∨ ((ps.getD j []).getD 0 0 = row.getD 0 0 ∧ (ps.getD j []).getD 1 0 < row.getD 1 0)) := rfl
                rw [← HX.out, ← HY.out] at hless
                have hst : pairTo n ps (j + 1 + 1) = lessI (ps.getD j []) row := by have := HSTEP.out; rw [hok.out] at this; simpa using this
                rw [hless] at hst
                obtain ⟨pb, po, pc, hpv, hp1, hp2, d0, d1⟩ := rdv_two hrowj hl2j
                rw [hpv] at hcj
                obtain ⟨p0, hp0⟩ : ∃ p0, p0 = (ps.getD j []).getD 0 0 := ⟨_, rfl⟩
                obtain ⟨p1, hp1'⟩ : ∃ p1, p1 = (ps.getD j []).getD 1 0 := ⟨_, rfl⟩
                rw [← hp0] at d0 hst
                rw [← hp1'] at d1 hst
                have HST := Lib.hid hst
                have hjw : IntKind.i64.wrap ((j : Int) + 1 - 1) = (j : Int) := by rw [IntWalk.i64_in _ (by omega)]; omega
                have hj0 : (0 : Int) ≤ (j : Int) := by omega
                have hjm : (j : Int) < (m : Int) := by omega
                have hjm1 : (j : Int) + 1 < (m : Int) := by omega
                have hj01 : (0 : Int) ≤ (j : Int) + 1 := by omega
                have hgt : (0 : Int) < (j : Int) + 1 := by omega
                clear hokj hl2j hrowj hless hst hpv hp0 hp1' hc hx0 hxn hy0 hyn
                by_cases hA : x < p0
                · have HF : Hid (R = false) := Lib.hid (HFAIL.out (by rw [HST.out]; exact decide_eq_false (by omega)))
                  go_wp2_with fail
                  go_quiet (first | (go_at_call_of 60 (Value.int IntKind.i64 x); exact quiet_left (l6In_yes x 0 (n - 1) _ X0.out XN.out)) | (go_at_call_of 60 (Value.int IntKind.i64 y); exact quiet_left (l6In_yes y (x + 1) (n - 1) _ Y0.out YN.out)))
                  go_wp2_with fail
                  go_quiet (fail)
                  go_wp2
                  go_ret
                  rw [HF.out]
                  exact ⟨rfl, by first | exact below_drewN HB.out _ | exact below_drewN (below_drewN HB.out _) _⟩
                · by_cases hB : x = p0
                  · subst hB
                    have he : (x == x) = true := by simp
                    by_cases hC : y ≤ p1
                    · have HF : Hid (R = false) := Lib.hid (HFAIL.out (by rw [HST.out]; exact decide_eq_false (by omega)))
                      go_wp2_with fail
                      go_quiet (first | (go_at_call_of 60 (Value.int IntKind.i64 x); exact quiet_left (l6In_yes x 0 (n - 1) _ X0.out XN.out)) | (go_at_call_of 60 (Value.int IntKind.i64 y); exact quiet_left (l6In_yes y (x + 1) (n - 1) _ Y0.out YN.out)))
                      go_wp2_with fail
                      go_quiet (fail)
                      go_wp2
                      go_ret
                      rw [HF.out]
                      exact ⟨rfl, by first | exact below_drewN HB.out _ | exact below_drewN (below_drewN HB.out _) _⟩
                    · have HT1 : Hid (pairTo n ps (j + 1 + 1) = true) := Lib.hid (by rw [HST.out]; exact decide_eq_true (by omega))
                      go_wp2_with fail
                      go_quiet (first | (go_at_call_of 60 (Value.int IntKind.i64 x); exact quiet_left (l6In_yes x 0 (n - 1) _ X0.out XN.out)) | (go_at_call_of 60 (Value.int IntKind.i64 y); exact quiet_left (l6In_yes y (x + 1) (n - 1) _ Y0.out YN.out)))
                      go_wp2_with fail
                      go_quiet (fail)
                      go_wp2
                      go_roundw
                      case rel => exact ⟨j + 1 + 1, by omega, by go_num, HT1, by first | exact below_drewN HB.out _ | exact below_drewN (below_drewN HB.out _) _⟩
                      case measure => simp [intOf]; omega
                  · have HT1 : Hid (pairTo n ps (j + 1 + 1) = true) := Lib.hid (by rw [HST.out]; exact decide_eq_true (by omega))
                    have he : (x == p0) = false := by simp; omega
                    have hA2 : decide (x < p0) = false := decide_eq_false hA
                    have he2 : ¬ x = p0 := hB
                    clear hA hB
                    go_wp2_with fail
                    go_quiet (first | (go_at_call_of 60 (Value.int IntKind.i64 x); exact quiet_left (l6In_yes x 0 (n - 1) _ X0.out XN.out)) | (go_at_call_of 60 (Value.int IntKind.i64 y); exact quiet_left (l6In_yes y (x + 1) (n - 1) _ Y0.out YN.out)))
                    go_wp2_with fail
                    go_quiet (fail)
                    go_wp2
                    go_roundw
                    case rel => exact ⟨j + 1 + 1, by omega, by go_num, HT1, by first | exact below_drewN HB.out _ | exact below_drewN (below_drewN HB.out _) _⟩
                    case measure => simp [intOf]; omega
            · have HF : Hid (R = false) := Lib.hid (HFAIL.out (by rw [HSTEP.out, HOK.out]; simp [hyr]))
              obtain ⟨hx0, hxn⟩ := hxr
              have X0 := Lib.hid hx0
              have XN := Lib.hid hxn
              have HY2 := Lib.hid (show y < x + 1 ∨ n - 1 < y by omega)
              have hxw : IntKind.i64.wrap (x + 1) = x + 1 := IntWalk.i64_in _ (by have := N6.out; omega)
              clear hx0 hxn hyr hc
              go_wp2_with fail
              go_quiet (first | (go_at_call_of 60 (Value.int IntKind.i64 x); exact quiet_left (l6In_yes x 0 (n - 1) _ X0.out XN.out)) | (go_at_call_of 60 (Value.int IntKind.i64 y); exact quiet_left (l6In_no y (x + 1) (n - 1) _ HY2.out)))
              go_wp2
              go_ret
              rw [HF.out]
              exact ⟨rfl, below_drewN HB.out _⟩
          · have HF : Hid (R = false) := Lib.hid (HFAIL.out (by rw [HSTEP.out, HOK.out]; simp [hxr]))
            have HX2 := Lib.hid (show x < 0 ∨ n - 1 < x by omega)
            clear hxr hc
            go_wp2_with fail
            go_quiet ((go_at_call_of 60 (Value.int IntKind.i64 x); exact quiet_left (l6In_no x 0 (n - 1) _ HX2.out)))
            go_wp2
            go_ret
            rw [HF.out]
            exact ⟨rfl, below_drewN HB.out _⟩
        · have HF : Hid (R = false) := Lib.hid (HFAIL.out (by rw [HSTEP.out]; simp [okPair, hl2]))
          obtain ⟨zo, zc, rfl, _⟩ := hrow
          obtain ⟨q, hq⟩ : ∃ q, q = row.length := ⟨_, rfl⟩
          rw [← hq] at hck hl2
          have hd : ((q : Int) != 2) = true := by simp; omega
          clear hq hl2 hc
          go_wp2_with fail
          go_quiet (fail)
          go_wp2
          go_ret
          rw [HF.out]
          exact ⟨rfl, below_drewN HB.out _⟩
      · have hkm : k = m := by omega
        subst hkm
        go_wp2
        go_ret
        rw [HR.out, HT.out]
        exact ⟨rfl, hbel⟩
  · have hpi : pairIn n ps = false := by
      rw [Bool.eq_false_iff]
      intro h
      simp only [pairIn, Bool.and_eq_true, decide_eq_true_eq] at h
      exact hn h.1
    rw [hpi]
    go_enter Try.func18, Try.ntmps18
    go_wp2_with fail
    refine (l6In_no n 1 6 _ (by omega)).mono ?_
    rintro e w' ⟨rfl, rfl⟩
    go_wp2
    go_ret
    exact ⟨rfl, Below.refl _ _⟩

end Go.Proofs.Ytbmpchpcihnbdaa

/-
  A pair list opened; what tells that a list is one.
-/
namespace Go.Proofs.Ytbmpchpcihnbdaa
set_option linter.unusedSimpArgs false
set_option linter.unusedVariables false
set_option linter.unnecessarySimpa false
open Go.RowKit
set_option maxRecDepth 100000

theorem encPs_at {w : World} {v : Value} {L : List (Nat × Nat)} (hv : RdM w v (encPs L)) : ∃ ao ca, ∃ vs : List Value, v = .slice ao L.length ca ∧ L.length ≤ ca ∧ ca ≤ maxLen ∧
    (L = [] ∨ ∃ b off, ao = some ⟨b, off, none⟩ ∧ ∀ k, k < L.length → ∃ zb zo zc, w.cell? ⟨b, off + k, none⟩ = some (.slice (some ⟨zb, zo, none⟩) 2 zc) ∧ 2 ≤ zc ∧ zc ≤ maxLen ∧ w.cell? ⟨zb, zo, none⟩ = some (.int .i64 (L.getD k (0, 0)).1) ∧ w.cell? ⟨zb, zo + 1, none⟩ = some (.int .i64 (L.getD k (0, 0)).2)) := by
  obtain ⟨ao, ca, vs, hvl, rfl, h1, h2, h3, h4⟩ := hv
  rw [encPs_length] at h1 h4 hvl ⊢
  refine ⟨ao, ca, vs, rfl, h1, h2, ?_⟩
  rcases h3 with h3 | ⟨b, off, ha, hc⟩
  · have := congrArg List.length h3
    rw [encPs_length] at this
    exact .inl (List.eq_nil_of_length_eq_zero this)
  · refine .inr ⟨b, off, ha, fun k hk => ?_⟩
    have hr := h4 k hk
    rw [encPs_getD L hk] at hr
    obtain ⟨zb, zo, zc, hz, z1, z2, c0, c1⟩ := rdv_two hr rfl
    refine ⟨zb, zo, zc, ?_, z1, z2, c0, c1⟩
    have := hc k (by rw [encPs_length]; exact hk)
    rw [hz] at this
    exact this

/-- A pair list, opened. -/
theorem pair_open {n : Int} {ps : List (List Int)} (h : pairIn n ps = true) : ∃ (m : Nat) (L : List (Nat × Nat)), n = (m : Int) ∧ 1 ≤ m ∧ m ≤ 6 ∧ L.Sublist (allP m) ∧ ps = encPs L ∧ InN m L ∧ L.length ≤ 15 ∧ decL ps = L := by
  obtain ⟨m, L, e, h1, h6, hs, he⟩ := pairIn_sub h
  have := hs.length_le
  have h15 := allP_le m h6
  exact ⟨m, L, e, h1, h6, hs, he, inN_of_sub hs, by omega, by rw [he, decL_enc]⟩

theorem told_yes {n : Int} {v : Value} {ps : List (List Int)} {w : World} {L : List (Nat × Nat)} (hv : RdM w v ps) (h : pairIn n ps = true) (hd : decL ps = L) :
    Calls Try.prog 59 #[.int .i64 n, v] w fun e w' => ∃ v', e = .returned (.tuple #[v', .bool true]) ∧ OwnP w' w.heap.size v' L ∧ Below w.heap.size w w' :=
  (pairsTold_any n v ps w hv).mono fun e w' ⟨v', he, ho, hb⟩ => ⟨v', by rw [he, h], by rw [h, if_pos rfl, hd] at ho; exact ho, hb⟩
theorem told_no {n : Int} {v : Value} {ps : List (List Int)} {w : World} (hv : RdM w v ps) (h : pairIn n ps = false) :
    Calls Try.prog 59 #[.int .i64 n, v] w fun e w' => ∃ v', e = .returned (.tuple #[v', .bool false]) ∧ OwnP w' w.heap.size v' [] ∧ Below w.heap.size w w' :=
  (pairsTold_any n v ps w hv).mono fun e w' ⟨v', he, ho, hb⟩ => ⟨v', by rw [he, h], by rw [h] at ho; exact ho, hb⟩
theorem sIn_is (b : Bool) {n : Int} {v : Value} {ps : List (List Int)} {w : World} (hv : RdM w v ps) (h : pairIn n ps = b) (hw : (Lit.int .i64 n).wf = true) :
    Calls Try.prog 18 #[.int .i64 n, v] w fun e w' => e = .returned (.bool b) ∧ Below w.heap.size w w' := by
  subst h
  exact sPairIn_v v n ps w hv hw

end Go.Proofs.Ytbmpchpcihnbdaa

/-
  Pairs chosen out of all pairs, row by row. No program is named here.
-/
namespace Go.Proofs.Ytbmpchpcihnbdaa
set_option linter.unusedSimpArgs false
set_option linter.unusedVariables false

/-- The chosen pairs (i, j) with j below k; those with the first thing below i. -/
def selRow (f : Nat × Nat → Bool) (i k : Nat) : List (Nat × Nat) := ((List.range k).filter fun j => decide (i < j) && f (i, j)).map fun j => (i, j)
def selRows (f : Nat × Nat → Bool) (n i : Nat) : List (Nat × Nat) := (List.range i).flatMap fun r => selRow f r n

theorem selRow_start (f : Nat × Nat → Bool) (i k : Nat) (h : k ≤ i + 1) : selRow f i k = [] := by
  unfold selRow
  rw [List.map_eq_nil_iff, List.filter_eq_nil_iff]
  intro j hj
  rw [List.mem_range] at hj
  simp
  omega
theorem selRow_next (f : Nat × Nat → Bool) (i k : Nat) (h : i < k) : selRow f i (k + 1) = selRow f i k ++ if f (i, k) then [(i, k)] else [] := by
  unfold selRow
  rw [List.range_succ, List.filter_append, List.map_append]
  congr 1
  simp only [List.filter_cons, List.filter_nil, decide_eq_true h, Bool.true_and]
  cases f (i, k) <;> rfl
theorem selRows_next (f : Nat × Nat → Bool) (n i : Nat) : selRows f n (i + 1) = selRows f n i ++ selRow f i n := by
  unfold selRows
  rw [List.range_succ, List.flatMap_append]
  simp
theorem sel_all (f : Nat × Nat → Bool) (n : Nat) : (allP n).filter f = selRows f n n := by
  unfold allP selRows selRow
  rw [List.filter_flatMap]
  congr 1
  funext i
  rw [List.filter_map, List.filter_filter]
  congr 1
  apply List.filter_congr
  intro j _
  simp only [Function.comp]
  rw [Bool.and_comm]
theorem selRow_len (f : Nat × Nat → Bool) (i k : Nat) : (selRow f i k).length ≤ k := by
  unfold selRow
  rw [List.length_map]
  have := List.length_filter_le (fun j => decide (i < j) && f (i, j)) (List.range k)
  rw [List.length_range] at this
  exact this
theorem selRows_len (f : Nat × Nat → Bool) (n i : Nat) : (selRows f n i).length ≤ i * n := by
  induction i with
  | zero => simp [selRows]
  | succ i ih =>
    rw [selRows_next, List.length_append, Nat.succ_mul]
    have := selRow_len f i n
    omega
theorem sel_len (f : Nat × Nat → Bool) {n i k : Nat} (hn : n ≤ 100) (hi : i ≤ n) (hk : k ≤ n) : (selRows f n i ++ selRow f i k).length ≤ 10100 := by
  rw [List.length_append]
  have h1 := selRows_len f n i
  have h2 := selRow_len f i k
  have h3 := Nat.mul_le_mul (Nat.le_trans hi hn) hn
  omega
theorem otherP_sel (n : Nat) (L : List (Nat × Nat)) : otherP n L = selRows (fun p => !L.contains p) n n := sel_all _ n
theorem ofP_sel (xs : List Int) : ofP xs = selRows (fun p => xs.getD p.1 0 == xs.getD p.2 0) xs.length xs.length := sel_all _ _
theorem encPs_append (L M : List (Nat × Nat)) : encPs (L ++ M) = encPs L ++ encPs M := by simp [encPs]

end Go.Proofs.Ytbmpchpcihnbdaa

/-
  The contracts of l8Of, pairsOf, pairLists and of PairOf of both sides.
-/
namespace Go.Proofs.Ytbmpchpcihnbdaa
set_option linter.unusedSimpArgs false
set_option linter.unusedVariables false
set_option linter.unnecessarySimpa false
open Go.RowKit
set_option maxRecDepth 100000

set_option maxHeartbeats 4000000 in
theorem l8Of_any (v : Value) (xs : List Int) (w : World) (hv : RdV w v xs) (hl8 : xs.length ≤ 8) : Calls Try.prog 69 #[v] w (FreshM w (encPs (ofP xs))) := by
  rw [ofP_sel]
  obtain ⟨ao, ca, rfl, hx, hlc, hcm⟩ := hv
  obtain ⟨n, hn⟩ : ∃ n, n = xs.length := ⟨_, rfl⟩
  obtain ⟨f, hf⟩ : ∃ f : Nat × Nat → Bool, f = fun p => xs.getD p.1 0 == xs.getD p.2 0 := ⟨_, rfl⟩
  have HF : Hid (∀ i k, f (i, k) = (xs.getD i 0 == xs.getD k 0)) := Lib.hid fun i k => by rw [hf]
  rw [← hn] at hl8 hlc ⊢
  rw [← hf]
  have HN := Lib.hid hn
  have HX := Lib.hid hx
  clear hn hx hf
  go_enter Try.func69, Try.ntmps69
  go_wp2
  go_loopw [3, 4] (fun u i wr => ∃ (k : Nat), k ≤ n ∧ i = .int .i64 k ∧ OwnM wr w.heap.size wr.heap.size u (encPs (selRows f n k)) ∧ Below w.heap.size w wr) (fun _ i _ => n - (intOf i).toNat)
  case atStart => exact ⟨0, Nat.zero_le _, rfl, by simpa [selRows, encPs] using ownM_empty w _ (Nat.le_refl _), (Below.refl _ _).alloc (Nat.le_refl _) _⟩
  case round =>
    obtain ⟨k, hk, rfl, hown, hbel⟩ := hrel
    by_cases hlt : k < n
    · have HO1 := Lib.hid hown
      have HB1 := Lib.hid hbel
      obtain ⟨wo, hwo⟩ : ∃ wo : World, wo = wr := ⟨_, rfl⟩
      have HWO := Lib.hid hwo
      clear hown hbel
      go_wp2
      go_loopw [3, 5] (fun u i wr => ∃ (t : Nat), k + 1 ≤ t ∧ t ≤ n ∧ i = .int .i64 t ∧ OwnM wr w.heap.size wr.heap.size u (encPs (selRows f n k ++ selRow f k t)) ∧ Below w.heap.size w wr) (fun _ i _ => n - (intOf i).toNat)
      case atStart => exact ⟨k + 1, Nat.le_refl _, by omega, by go_num, by rw [selRow_start f k (k + 1) (Nat.le_refl _), List.append_nil]; exact HO1.out, HB1.out⟩
      case round =>
        obtain ⟨t, ht1, ht, rfl, hown, hbel⟩ := hrel
        have HO := Lib.hid hown
        have hbs := hbel.size
        clear hown
        by_cases htn : t < n
        · rcases HX.out with hx | ⟨bb, off, rfl, hcx⟩
          · have := HN.out
            rw [hx] at this
            simp at this
            omega
          have hc1 := cellSt (hcx k (by have := HN.out; omega)) hbel
          have hc2 := cellSt (hcx t (by have := HN.out; omega)) hbel
          have hst := selRow_next f k t (by omega)
          rw [HF.out] at hst
          have hll := sel_len f (n := n) (i := k) (k := t) (by omega) hk ht
          obtain ⟨x, hx⟩ : ∃ x, x = xs.getD k 0 := ⟨_, rfl⟩
          obtain ⟨y, hy⟩ : ∃ y, y = xs.getD t 0 := ⟨_, rfl⟩
          rw [← hx] at hc1 hst
          rw [← hy] at hc2 hst
          obtain ⟨A, hA⟩ : ∃ A, A = selRows f n k ++ selRow f k t := ⟨_, rfl⟩
          have hst2 : selRows f n k ++ selRow f k (t + 1) = A ++ if x == y then [(k, t)] else [] := by rw [hA, hst, List.append_assoc]
          rw [← hA] at HO hll
          obtain ⟨m, hm⟩ : ∃ m, m = A.length := ⟨_, rfl⟩
          rw [← hm] at hll
          have HM := Lib.hid hm
          have HST := Lib.hid hst2
          have b0 : (k : Int) < n := by omega
          have b1 : (t : Int) < n := by omega
          clear hcx hst hst2 hx hy hA hm
          by_cases hxy : x = y
          · have hd : (x == y) = true := by simpa using hxy
            have HSE : Hid (selRows f n k ++ selRow f k (t + 1) = A ++ [(k, t)]) := Lib.hid (by rw [HST.out, if_pos hd])
            clear hxy
            go_wp2
            go_quiet (fail)
            have hcell := cell_new1 ((wr.drewN nq).alloc (.cells #[.int .i64 k, .int .i64 t] 3)) (.slice (some ⟨wr.heap.size, 0, none⟩) 2 2) 30
            rw [show ((wr.drewN nq).alloc (.cells #[.int .i64 k, .int .i64 t] 3)).heap.size = wr.heap.size + 1 by simp] at hcell
            have hou : Own (((wr.drewN nq).alloc (.cells #[.int .i64 k, .int .i64 t] 3)).alloc (.cells #[.slice (some ⟨wr.heap.size, 0, none⟩) 2 2] 30)) w.heap.size (.slice (some ⟨wr.heap.size, 0, none⟩) 2 2) [(k : Int), (t : Int)] := own_alloc (own_two (wr.drewN nq) w.heap.size k t (by simp; omega)) _
            have hb3 := ((below_drewN (Below.refl wr.heap.size wr) nq).alloc (by simp) (.cells #[.int .i64 k, .int .i64 t] 3)).alloc (by simp) (.cells #[.slice (some ⟨wr.heap.size, 0, none⟩) 2 2] 30)
            have HOM := Lib.hid (ownM_below HO.out hb3)
            have HBQ := Lib.hid (below_step hbel hb3)
            have HCE := Lib.hid hcell
            have HOU := Lib.hid hou
            clear hcell hou hb3
            go_wp2_with (at_builtin; refine wpList_pushV rfl _ _ rfl w.heap.size wr.heap.size m _ (encPs A) rfl HOM.out (by rw [HM.out, encPs_length]) ⟨wr.heap.size + 1, 0, none⟩ rfl _ _ HCE.out HOU.out (fun q hq => by simp [Value.ownBlock] at hq; simp; omega) hbs (by simp; omega) (by omega) ?_; intro g4 cap4 w4 hown4 hgr4)
            have hbel4 : Below w.heap.size w w4 := HBQ.out.grown hgr4 (by simp; omega) (fun q hq => by
              obtain ⟨vs, hr⟩ := ownM_row0 HOM.out
              exact (World.ownsRow.lt hr q hq).1)
            have HO4 := Lib.hid hown4
            clear hown4 hgr4
            go_wp2
            go_roundw
            case rel => exact ⟨t + 1, by omega, by omega, by go_num, by rw [HSE.out, encPs_append]; exact HO4.out, hbel4⟩
            case measure => simp [intOf]; omega
          · have hd : (x == y) = false := by simpa using hxy
            have HSE : Hid (selRows f n k ++ selRow f k (t + 1) = A) := Lib.hid (by rw [HST.out, hd]; simp)
            clear hxy
            go_wp2
            go_quiet (fail)
            go_wp2
            go_roundw
            case rel => exact ⟨t + 1, by omega, by omega, by go_num, by rw [HSE.out]; exact ownM_mono (ownM_below HO.out (below_drewN (Below.refl _ _) _)) (Nat.le_refl _) (by simp), below_drewN hbel _⟩
            case measure => simp [intOf]; omega
        · have htn' : t = n := by omega
          subst htn'
          go_wp2
          go_roundw
          case rel => exact ⟨k + 1, by omega, by go_num, by rw [selRows_next]; exact HO.out, hbel⟩
          case measure => simp [intOf]; omega
    · have hkn : k = n := by omega
      subst hkn
      go_wp2
      go_ret
      exact ⟨_, rfl, hown, hbel⟩

set_option maxHeartbeats 4000000 in
theorem pairsOf_any (v : Value) (xs : List Int) (w : World) (hv : RdV w v xs) (hl8 : xs.length ≤ 8) : Calls Try.prog 67 #[v] w (FreshP w (ofP xs)) := by
  rw [ofP_sel]
  obtain ⟨ao, ca, rfl, hx, hlc, hcm⟩ := hv
  obtain ⟨n, hn⟩ : ∃ n, n = xs.length := ⟨_, rfl⟩
  obtain ⟨f, hf⟩ : ∃ f : Nat × Nat → Bool, f = fun p => xs.getD p.1 0 == xs.getD p.2 0 := ⟨_, rfl⟩
  have HF : Hid (∀ i k, f (i, k) = (xs.getD i 0 == xs.getD k 0)) := Lib.hid fun i k => by rw [hf]
  rw [← hn] at hl8 hlc ⊢
  rw [← hf]
  have HN := Lib.hid hn
  have HX := Lib.hid hx
  clear hn hx hf
  go_enter Try.func67, Try.ntmps67
  go_wp2
  go_loopw [3, 9] (fun u i wr => ∃ (k : Nat), k ≤ n ∧ i = .int .i64 k ∧ OwnP wr w.heap.size u (selRows f n k) ∧ Below w.heap.size w wr) (fun _ i _ => n - (intOf i).toNat)
  case atStart => exact ⟨0, Nat.zero_le _, rfl, ownP_nil _ _, Below.refl _ _⟩
  case round =>
    obtain ⟨k, hk, rfl, hown, hbel⟩ := hrel
    by_cases hlt : k < n
    · have HO1 := Lib.hid hown
      have HB1 := Lib.hid hbel
      rcases HX.out with hx | ⟨bb, off, rfl, hcx⟩
      · have := HN.out
        rw [hx] at this
        simp at this
        omega
      have hc1 := cellSt (hcx k (by have := HN.out; omega)) hbel
      obtain ⟨x, hx⟩ : ∃ x, x = xs.getD k 0 := ⟨_, rfl⟩
      rw [← hx] at hc1
      have HXK := Lib.hid hx
      have HCX := Lib.hid hcx
      have b0 : (k : Int) < n := by omega
      clear hown hbel hx hcx
      go_wp2
      go_loopw [3, 6] (fun u i wr => ∃ (t : Nat), k + 1 ≤ t ∧ t ≤ n ∧ i = .int .i64 t ∧ OwnP wr w.heap.size u (selRows f n k ++ selRow f k t) ∧ Below w.heap.size w wr) (fun _ i _ => n - (intOf i).toNat)
      case atStart => exact ⟨k + 1, Nat.le_refl _, by omega, by go_num, by rw [selRow_start f k (k + 1) (Nat.le_refl _), List.append_nil]; exact HO1.out, HB1.out⟩
      case round =>
        obtain ⟨t, ht1, ht, rfl, hown, hbel⟩ := hrel
        have HO := Lib.hid hown
        have hbs := hbel.size
        clear hown
        by_cases htn : t < n
        · have hc2 := cellSt (HCX.out t (by have := HN.out; omega)) hbel
          have hst := selRow_next f k t (by omega)
          rw [HF.out, ← HXK.out] at hst
          have hll := sel_len f (n := n) (i := k) (k := t) (by omega) hk ht
          obtain ⟨y, hy⟩ : ∃ y, y = xs.getD t 0 := ⟨_, rfl⟩
          rw [← hy] at hc2 hst
          obtain ⟨A, hA⟩ : ∃ A, A = selRows f n k ++ selRow f k t := ⟨_, rfl⟩
          have hst2 : selRows f n k ++ selRow f k (t + 1) = A ++ if x == y then [(k, t)] else [] := by rw [hA, hst, List.append_assoc]
          rw [← hA] at HO hll
          have HLL := Lib.hid hll
          have HST := Lib.hid hst2
          have b1 : (t : Int) < n := by omega
          clear hst hst2 hy hA hll
          by_cases hxy : x = y
          · have hd : (y == x) = true := by simpa using hxy.symm
            have HSE : Hid (selRows f n k ++ selRow f k (t + 1) = A ++ [(k, t)]) := Lib.hid (by rw [HST.out, if_pos (by simpa using hxy)])
            have HBQ := Lib.hid (hbel.alloc hbs (.cells #[.int .i64 k, .int .i64 t] 62))
            clear hxy
            go_wp2_with (at_builtin; refine wpList_pushP rfl _ _ rfl w.heap.size _ A rfl (ownP_alloc HO.out _) wr.heap.size rfl (k, t) (cells_two rfl).1 (cells_two rfl).2 (by have := HLL.out; omega) (by simp; omega) ?_; intro v9 w9 ho9 hg9)
            have hbel9 : Below w.heap.size w w9 := HBQ.out.grown hg9 (by simp; omega) fun j hj => (World.ownsRow.lt HO.out j hj).1
            have HO9 := Lib.hid ho9
            clear ho9 hg9
            go_wp2
            go_roundw
            case rel => exact ⟨t + 1, by omega, by omega, by go_num, by rw [HSE.out]; exact HO9.out, hbel9⟩
            case measure => simp [intOf]; omega
          · have hd : (y == x) = false := by simpa using fun e : y = x => hxy e.symm
            have HSE : Hid (selRows f n k ++ selRow f k (t + 1) = A) := Lib.hid (by rw [HST.out, if_neg (by simpa using hxy)]; simp)
            have hne : ¬ (y = x) := fun e => hxy e.symm
            clear hxy
            go_wp2
            go_roundw
            case rel => exact ⟨t + 1, by omega, by omega, by go_num, by rw [HSE.out]; exact HO.out, hbel⟩
            case measure => simp [intOf]; omega
        · have htn' : t = n := by omega
          subst htn'
          go_wp2
          go_roundw
          case rel => exact ⟨k + 1, by omega, by go_num, by rw [selRows_next]; exact HO.out, hbel⟩
          case measure => simp [intOf]; omega
    · have hkn : k = n := by omega
      subst hkn
      go_wp2
      go_ret
      exact ⟨_, rfl, hown, hbel⟩

theorem ownM_made0 {w : World} {B S g n : Nat} (h : w.ownsRow B 30 1 (.slice (some ⟨g, 0, none⟩) 0 n) 0 []) (hg : B ≤ g ∧ g < S) : OwnM w B S (.slice (some ⟨g, 0, none⟩) 0 n) [] :=
  ⟨[], rfl, h, fun k hk => by simp [Value.ownBlock] at hk; omega, fun i hi => by simp at hi, fun i j _ hj => by simp at hj⟩
theorem encPs_take (L : List (Nat × Nat)) (k : Nat) (h : k < L.length) : encPs (L.take (k + 1)) = encPs (L.take k) ++ [encP (L.getD k (0, 0))] := by
  rw [take_snocP L k h, encPs_append]
  rfl

set_option maxHeartbeats 4000000 in
theorem pairLists_any (v : Value) (L : List (Nat × Nat)) (w : World) (hv : RdP w v L) (hl : L.length ≤ 1000) : Calls Try.prog 61 #[v] w (FreshM w (encPs L)) := by
  obtain ⟨ao, ca, rfl, hlc, hcm, hx⟩ := hv
  obtain ⟨n, hn⟩ : ∃ n, n = L.length := ⟨_, rfl⟩
  rw [← hn] at hlc hl ⊢
  have HN := Lib.hid hn
  have HX := Lib.hid hx
  obtain ⟨i0, hi, hz0, hz1, hz2⟩ := info_parts Try.infoInts
  clear hn hx
  go_enter Try.func61, Try.ntmps61
  go_wp2_with (at_make; refine wpList_make_own _ rfl _ _ 23 rfl w.heap.size 30 i0 (.slice none 0 0) 1 Try.underlying23 hi hz0 hz1 _ _ _ n rfl rfl rfl (by rw [hz2]; omega) (by unfold maxLen; omega) (Nat.le_refl _) ?_)
  intro w0 hown0 hgrow0
  have hb0 : Below w.heap.size w w0 := (Below.refl _ _).grown hgrow0 (Nat.le_refl _) (fun k h => by cases h)
  have hom0 : OwnM w0 w.heap.size w0.heap.size (.slice (some ⟨w.heap.size, 0, none⟩) 0 n) [] := ownM_made0 hown0 ⟨Nat.le_refl _, (World.ownsRow.lt hown0 _ rfl).2⟩
  have HM0 := Lib.hid hom0
  clear hown0 hgrow0 hom0
  go_wp2
  go_loopw [3, 11] (fun u i wr => ∃ k : Nat, k ≤ n ∧ i = .int .i64 k ∧ OwnM wr w.heap.size wr.heap.size u (encPs (L.take k)) ∧ Below w.heap.size w wr) (fun _ i _ => n - (intOf i).toNat)
  case atStart => exact ⟨0, Nat.zero_le _, rfl, by simpa [encPs] using HM0.out, hb0⟩
  case round =>
    obtain ⟨k, hk, rfl, hown, hbel⟩ := hrel
    have hbs := hbel.size
    have HO := Lib.hid hown
    clear hown
    by_cases hlt : k < n
    · rcases HX.out with hx | ⟨bb, off, rfl, hcx⟩
      · have := HN.out
        rw [hx] at this
        simp at this
        omega
      have hcx' := hcx k (by have := HN.out; omega)
      have hc1 := cellSt hcx'.1 hbel
      have hc2 := cellSt hcx'.2 hbel
      have HT := Lib.hid (encPs_take L k (by have := HN.out; omega))
      have hkl : (encPs (L.take k)).length = k := by rw [encPs_length, List.length_take]; have := HN.out; omega
      have HKL := Lib.hid hkl
      obtain ⟨⟨a, b⟩, hy⟩ : ∃ y, y = L.getD k (0, 0) := ⟨_, rfl⟩
      rw [← hy] at hc1 hc2 HT
      unfold encP at HT
      dsimp only at hc1 hc2 HT
      have b0 : (k : Int) < n := by omega
      clear hy hcx hcx' hkl
      have e1 : (wr.alloc (.cells #[.int .i64 a, .int .i64 b] 62)).heap.size = wr.heap.size + 1 := by simp
      have e2 : ((wr.alloc (.cells #[.int .i64 a, .int .i64 b] 62)).alloc (.cells #[.int .i64 a, .int .i64 b] 3)).heap.size = wr.heap.size + 1 + 1 := by simp
      have hcell := cell_new1 ((wr.alloc (.cells #[.int .i64 a, .int .i64 b] 62)).alloc (.cells #[.int .i64 a, .int .i64 b] 3)) (.slice (some ⟨wr.heap.size + 1, 0, none⟩) 2 2) 30
      rw [e2] at hcell
      have hou0 := own_two (wr.alloc (.cells #[.int .i64 a, .int .i64 b] 62)) w.heap.size a b (by rw [e1]; omega)
      rw [e1] at hou0
      have HCE := Lib.hid hcell
      have HOU := Lib.hid (own_alloc hou0 (.cells #[.slice (some ⟨wr.heap.size + 1, 0, none⟩) 2 2] 30))
      have hb3 : Below wr.heap.size wr (((wr.alloc (.cells #[.int .i64 a, .int .i64 b] 62)).alloc (.cells #[.int .i64 a, .int .i64 b] 3)).alloc (.cells #[.slice (some ⟨wr.heap.size + 1, 0, none⟩) 2 2] 30)) := (((Below.refl _ _).alloc (Nat.le_refl _) _).alloc (by rw [e1]; omega) _).alloc (by rw [e2]; omega) _
      have HOM := Lib.hid (ownM_below HO.out hb3)
      have HBQ := Lib.hid (hbel.trans (hb3.mono hbs))
      clear hcell hou0 hb3 e1 e2
      go_wp2_with (at_builtin; refine wpList_pushV rfl _ _ rfl w.heap.size wr.heap.size k _ (encPs (L.take k)) rfl HOM.out HKL.out.symm ⟨wr.heap.size + 1 + 1, 0, none⟩ rfl _ _ HCE.out HOU.out (fun q hq => by simp [Value.ownBlock] at hq; simp; omega) (by omega) (by simp; omega) (by omega) ?_; intro g4 cap4 w4 hown4 hgr4)
      have hbel4 : Below w.heap.size w w4 := HBQ.out.grown hgr4 (by simp; omega) (fun q hq => by
        obtain ⟨vs, hr⟩ := ownM_row0 HO.out
        exact (World.ownsRow.lt hr q hq).1)
      rw [← HT.out] at hown4
      have HO4 := Lib.hid hown4
      clear hown4 hgr4
      go_wp2
      go_roundw
      case rel => exact ⟨k + 1, by omega, by go_num, HO4.out, hbel4⟩
      case measure => simp [intOf]; omega
    · have hkn : k = n := by omega
      subst hkn
      have HE2 := Lib.hid (show encPs (L.take k) = encPs L by rw [HN.out, List.take_length])
      go_wp2
      go_ret
      rw [← HE2.out]
      exact ⟨_, rfl, HO.out, hbel⟩

/-- What PairOf answers. -/
def pairOf (xs : List Int) : List (List Int) × Bool := if partIn xs && decide (xs.length ≤ 6) then (encPs (ofP xs), true) else ([], false)
theorem ofP_len (xs : List Int) (h : xs.length ≤ 8) : (ofP xs).length ≤ 100 := by
  rw [ofP_sel]
  have := selRows_len (fun p => xs.getD p.1 0 == xs.getD p.2 0) xs.length xs.length
  have h2 := Nat.mul_le_mul h h
  omega

theorem total_encPs (L : List (Nat × Nat)) : total (encPs L) = 2 * L.length := by
  induction L with
  | nil => rfl
  | cons p L ih =>
    show total ([(p.1 : Int), (p.2 : Int)] :: encPs L) = _
    rw [total_cons, ih]
    simp
    omega
theorem pairOf_len (xs : List Int) (_ : xs.length ≤ 1048576) : (pairOf xs).1.length ≤ 1000000 ∧ total (pairOf xs).1 ≤ 1000000 := by
  unfold pairOf
  split
  · rename_i h
    simp only [Bool.and_eq_true, decide_eq_true_eq] at h
    have := ofP_len xs (by omega)
    simp only [total_encPs, encPs_length]
    omega
  · simp [total]

set_option maxHeartbeats 1600000 in
theorem sPairOf_v (v : Value) (xs : List Int) (w : World) (hv : RdV w v xs) : Calls Try.prog 22 #[v] w (FreshMB w (pairOf xs)) := by
  have HV := Lib.hid hv
  by_cases hp : partIn xs = true
  · have HP := Lib.hid hp
    have hl8 := partIn_len hp
    have HO := Lib.hid fun (h : xs.length ≤ 6) => l8Of_any v xs w hv (by omega)
    obtain ⟨ao, ca, rfl, hx, hlc, hcm⟩ := hv
    obtain ⟨n, hn⟩ : ∃ n, n = xs.length := ⟨_, rfl⟩
    have HN := Lib.hid hn
    by_cases h6 : n ≤ 6
    · have hr : pairOf xs = (encPs (ofP xs), true) := by unfold pairOf; rw [hp, ← hn]; simp [h6]
      rw [hr]
      rw [← hn] at HO HV ⊢
      clear hr hn hp hx hlc hl8
      go_enter Try.func22, Try.ntmps22
      go_wp2_with fail
      refine (sPartIn_is true _ _ _ HV.out HP).mono ?_
      rintro e w' ⟨rfl, rfl⟩
      go_wp2_with fail
      refine (HO.out h6).mono ?_
      rintro e w1 ⟨u, rfl, ho, hb⟩
      go_wp2
      go_ret2
      exact ⟨_, rfl, ho, hb⟩
    · have hr : pairOf xs = ([], false) := by unfold pairOf; rw [hp, ← hn]; simp [h6]
      rw [hr]
      rw [← hn] at HV ⊢
      clear hr hn hp hx hlc hl8
      go_enter Try.func22, Try.ntmps22
      go_wp2_with fail
      refine (sPartIn_is true _ _ _ HV.out HP).mono ?_
      rintro e w' ⟨rfl, rfl⟩
      go_wp2
      go_ret2
      exact ⟨_, rfl, by simpa using ownM_empty w _ (Nat.le_refl _), (Below.refl _ _).alloc (Nat.le_refl _) _⟩
  · have hp : partIn xs = false := by simpa using hp
    have hr : pairOf xs = ([], false) := by simp [pairOf, hp]
    rw [hr]
    have HP := Lib.hid hp
    clear hp hr
    go_enter Try.func22, Try.ntmps22
    go_wp2_with fail
    refine (sPartIn_is false _ _ _ HV.out HP).mono ?_
    rintro e w' ⟨rfl, rfl⟩
    go_wp2
    go_ret2
    exact ⟨_, rfl, by simpa using ownM_empty w _ (Nat.le_refl _), (Below.refl _ _).alloc (Nat.le_refl _) _⟩

set_option maxHeartbeats 1600000 in
theorem iPairOf_v (v : Value) (xs : List Int) (w : World) (hv : RdV w v xs) : Calls Try.prog 21 #[v] w (FreshMB w (pairOf xs)) := by
  have HV := Lib.hid hv
  by_cases hp : partIn xs = true
  · have HP := Lib.hid hp
    have hl8 := partIn_len hp
    have hll := ofP_len xs hl8.2
    have HO := Lib.hid fun (h : xs.length ≤ 6) => pairsOf_any v xs w hv (by omega)
    obtain ⟨ao, ca, rfl, hx, hlc, hcm⟩ := hv
    obtain ⟨n, hn⟩ : ∃ n, n = xs.length := ⟨_, rfl⟩
    have HN := Lib.hid hn
    by_cases h6 : n ≤ 6
    · have hr : pairOf xs = (encPs (ofP xs), true) := by unfold pairOf; rw [hp, ← hn]; simp [h6]
      rw [hr]
      rw [← hn] at HO HV ⊢
      obtain ⟨L, hL⟩ : ∃ L, L = ofP xs := ⟨_, rfl⟩
      rw [← hL] at HO hll ⊢
      have HLL := Lib.hid hll
      clear hr hn hp hx hlc hl8 hL hll
      go_enter Try.func21, Try.ntmps21
      go_wp2_with fail
      refine (iPartIn_is true _ _ _ HV.out HP).mono ?_
      rintro e w' ⟨rfl, rfl⟩
      go_wp2_with fail
      refine (HO.out h6).mono ?_
      rintro e w1 ⟨u, rfl, ho, hb⟩
      have HRD := Lib.hid (ownP_rd ho)
      clear ho
      go_wp2_with fail
      refine (pairLists_any u L _ HRD.out (by have := HLL.out; omega)).mono ?_
      rintro e w2 ⟨u2, rfl, ho2, hb2⟩
      go_wp2
      go_ret2
      exact ⟨_, rfl, ownM_mono ho2 hb.size (Nat.le_refl _), below_step hb hb2⟩
    · have hr : pairOf xs = ([], false) := by unfold pairOf; rw [hp, ← hn]; simp [h6]
      rw [hr]
      rw [← hn] at HV ⊢
      clear hr hn hp hx hlc hl8
      go_enter Try.func21, Try.ntmps21
      go_wp2_with fail
      refine (iPartIn_is true _ _ _ HV.out HP).mono ?_
      rintro e w' ⟨rfl, rfl⟩
      go_wp2
      go_ret2
      exact ⟨_, rfl, ownM_nil _ _ _, Below.refl _ _⟩
  · have hp : partIn xs = false := by simpa using hp
    have hr : pairOf xs = ([], false) := by simp [pairOf, hp]
    rw [hr]
    have HP := Lib.hid hp
    clear hp hr
    go_enter Try.func21, Try.ntmps21
    go_wp2_with fail
    refine (iPartIn_is false _ _ _ HV.out HP).mono ?_
    rintro e w' ⟨rfl, rfl⟩
    go_wp2
    go_ret2
    exact ⟨_, rfl, ownM_nil _ _ _, Below.refl _ _⟩

end Go.Proofs.Ytbmpchpcihnbdaa

/-
  The contracts of (sorted[pair]).ahead, unlike, without, of slices.Equal on lists of pairs.
-/
namespace Go.Proofs.Ytbmpchpcihnbdaa
set_option linter.unusedSimpArgs false
set_option linter.unusedVariables false
set_option linter.unnecessarySimpa false
open Go.RowKit
set_option maxRecDepth 100000

/-- How many pairs stand ahead of p. -/
def aheadN (p : Nat × Nat) : List (Nat × Nat) → Nat
  | [] => 0
  | q :: l => if cmpP q p < 0 then aheadN p l + 1 else 0
theorem aheadN_le (p : Nat × Nat) : ∀ L, aheadN p L ≤ L.length := by
  intro L
  induction L with
  | nil => exact Nat.le_refl _
  | cons q l ih => unfold aheadN; split <;> simp <;> omega
theorem drop_consP (L : List (Nat × Nat)) (k : Nat) (h : k < L.length) : L.drop k = L.getD k (0, 0) :: L.drop (k + 1) := by
  rw [List.drop_eq_getElem_cons h]
  simp [List.getD, h]

set_option maxHeartbeats 1600000 in
theorem ahead_any (v : Value) (L : List (Nat × Nat)) (p : Nat × Nat) (w : World) (hv : RdP w v L) (hl : L.length ≤ 1000000) :
    Calls Try.prog 99 #[v, arcV p] w (GivesI w (aheadN p L : Nat)) := by
  obtain ⟨ao, cap, rfl, h1, h2, hx⟩ := hv
  obtain ⟨n, hn⟩ : ∃ n, n = L.length := ⟨_, rfl⟩
  rw [← hn] at h1 hl ⊢
  have HN := Lib.hid hn
  have HX := Lib.hid hx
  obtain ⟨a, b⟩ := p
  obtain ⟨res, hres⟩ : ∃ res, res = aheadN (a, b) L := ⟨_, rfl⟩
  rw [← hres]
  have HR := Lib.hid hres
  clear hn hx hres
  unfold arcV
  go_enter Try.func99, Try.ntmps99
  go_wp2
  obtain ⟨W, hW⟩ : ∃ W, W = (w.alloc (.cells #[.int .i64 a, .int .i64 b] 62)) := ⟨_, rfl⟩
  have f1 : W.cell? ⟨w.heap.size, 0, none⟩ = some (.int .i64 a) := by rw [hW]; exact (cells_two rfl).1
  have f2 : W.cell? ⟨w.heap.size, 1, none⟩ = some (.int .i64 b) := by rw [hW]; exact (cells_two rfl).2
  have hbW : Below w.heap.size w W := by rw [hW]; exact (Below.refl _ _).alloc (Nat.le_refl _) _
  rw [← hW]
  clear hW
  go_loopw [5] (fun i wr => ∃ k : Nat, k ≤ n ∧ i = .int .i64 k ∧ Hid (res = k + aheadN (a, b) (L.drop k)) ∧ Below W.heap.size W wr) (fun i _ => n - (intOf i).toNat)
  case atStart => exact ⟨0, Nat.zero_le _, rfl, Lib.hid (by rw [HR.out]; simp), Below.refl _ _⟩
  case round =>
    obtain ⟨k, hk, rfl, HE, hbel⟩ := hrel
    have g1 := cellSt f1 hbel
    have g2 := cellSt f2 hbel
    by_cases hlt : k < n
    · rcases HX.out with hx | ⟨bb, off, rfl, hcx⟩
      · have := HN.out
        rw [hx] at this
        simp at this
        omega
      have hck := hcx k (by have := HN.out; omega)
      have hdc := drop_consP L k (by have := HN.out; omega)
      obtain ⟨⟨c, d⟩, hy⟩ : ∃ y, y = L.getD k (0, 0) := ⟨_, rfl⟩
      rw [← hy] at hck hdc
      have HDC := Lib.hid hdc
      have hbwr := below_step hbW hbel
      have g3 := cellSt (cellSt hck.1 hbW) hbel
      have g4 := cellSt (cellSt hck.2 hbW) hbel
      dsimp only at g3 g4
      clear hck hcx hy hdc
      have hm : ∀ w1 : World, (method 234 62 (.agg #[.int .i64 c, .int .i64 d]) "loop.example/setparts/impl.compare").run Try.prog w1 = .ok (138, .agg #[.int .i64 c, .int .i64 d]) w1 := fun w1 => method_pair (c, d) w1
      have HC := Lib.hid fun (w1 : World) => compare_any (c, d) (a, b) w1
      have HST : Hid (aheadN (a, b) ((c, d) :: L.drop (k + 1)) = if cmpP (c, d) (a, b) < 0 then aheadN (a, b) (L.drop (k + 1)) + 1 else 0) := rfl
      obtain ⟨r, hr⟩ : ∃ r, r = cmpP (c, d) (a, b) := ⟨_, rfl⟩
      rw [← hr] at HC HST
      clear hr
      unfold arcV at HC
      have b0 : (0 : Int) ≤ (k : Int) := by omega
      have b1 : (k : Int) < (n : Int) := by omega
      have hs1 := hbel.size
      go_wp2_with fail
      go_region_held3 (fun w' => w'.cell? ⟨w.heap.size, 0, none⟩ = some (.int .i64 a) ∧ w'.cell? ⟨w.heap.size, 1, none⟩ = some (.int .i64 b) ∧ w'.cell? ⟨bb, off + k * 2, none⟩ = some (.int .i64 c) ∧ w'.cell? ⟨bb, off + k * 2 + 1, none⟩ = some (.int .i64 d)) (first | exact ⟨g1, g2, g3, g4⟩ | exact ⟨d1, d2, d3, d4⟩) (first | (go_at_call 138; refine (HC.out _).mono ?_; rintro e W5 ⟨rfl, hb5⟩; have d1 := cellSt (w := wr.drew) g1 hb5; have d2 := cellSt (w := wr.drew) g2 hb5; have d3 := cellSt (w := wr.drew) g3 hb5; have d4 := cellSt (w := wr.drew) g4 hb5))
      have hb6 : Below wr.heap.size wr W5 := below_step (below_drewN (Below.refl _ wr) 1) hb5
      have hbel5 := below_step hbel hb6
      clear hb5 hb6 d1 d2 d3 d4 g1 g2 g3 g4
      by_cases hr : r < 0
      · have hd : decide (r < 0) = true := decide_eq_true hr
        try rw [hd]
        have HSE : Hid (aheadN (a, b) (L.drop k) = aheadN (a, b) (L.drop (k + 1)) + 1) := Lib.hid (by rw [HDC.out, HST.out, if_pos hr])
        clear hr hd
        go_wp2
        go_roundw
        case rel => exact ⟨k + 1, by omega, by go_num, Lib.hid (by rw [HE.out, HSE.out]; omega), hbel5⟩
        case measure => simp [intOf]; omega
      · have hd : decide (r < 0) = false := decide_eq_false hr
        try rw [hd]
        have HSE : Hid (aheadN (a, b) (L.drop k) = 0) := Lib.hid (by rw [HDC.out, HST.out, if_neg hr])
        clear hr hd
        go_wp2
        go_ret
        refine ⟨ret_int ?_, below_step hbW hbel5⟩
        rw [HE.out, HSE.out]
        omega
    · have hkn : k = n := by omega
      subst hkn
      have hd : decide ((k : Int) < (k : Int)) = false := by simp
      go_wp2_with fail
      go_quiet (fail)
      go_wp2
      go_ret
      refine ⟨ret_int ?_, below_step hbW (below_drewN hbel _)⟩
      rw [HE.out, HN.out, List.drop_length]
      rfl

/-- How many pairs are just in one of two ascending lists, told by going along both. -/
def unlikeN : List (Nat × Nat) → List (Nat × Nat) → Nat
  | [], M => M.length
  | p :: L, [] => L.length + 1
  | p :: L, q :: M => if cmpP p q < 0 then unlikeN L (q :: M) + 1 else if 0 < cmpP p q then unlikeN (p :: L) M + 1 else unlikeN L M
termination_by L M => L.length + M.length

theorem unlikeN_nil (M : List (Nat × Nat)) : unlikeN [] M = M.length := by simp [unlikeN]
theorem unlikeN_nil2 (L : List (Nat × Nat)) : unlikeN L [] = L.length := by cases L <;> simp [unlikeN]
theorem unlikeN_cons (p q : Nat × Nat) (L M : List (Nat × Nat)) : unlikeN (p :: L) (q :: M) = if cmpP p q < 0 then unlikeN L (q :: M) + 1 else if 0 < cmpP p q then unlikeN (p :: L) M + 1 else unlikeN L M := by rw [unlikeN]

theorem rdP_cons {w : World} {v : Value} {p : Nat × Nat} {L : List (Nat × Nat)} (h : RdP w v (p :: L)) : ∃ b off cap, v = .slice (some ⟨b, off, none⟩) (L.length + 1) cap ∧ L.length + 1 ≤ cap ∧ cap ≤ maxLen ∧ CellsP w b off (p :: L) := by
  obtain ⟨ao, cap, rfl, h1, h2, h3⟩ := h
  rcases h3 with h3 | ⟨b, off, rfl, hc⟩
  · cases h3
  · exact ⟨b, off, cap, rfl, h1, h2, hc⟩
theorem rdP_nil (w : World) {ao : Option Addr} {cap : Nat} (h : cap ≤ maxLen) : RdP w (.slice ao 0 cap) [] := ⟨ao, cap, rfl, Nat.zero_le _, h, .inl rfl⟩
theorem rdP_tail {w : World} {b off cap : Nat} {p : Nat × Nat} {L : List (Nat × Nat)} (hc : CellsP w b off (p :: L)) (h1 : L.length + 1 ≤ cap) (h2 : cap ≤ maxLen) {m : Nat} (hm : m = L.length) {cap' : Nat} (hcap : cap' = cap - 1) : RdP w (.slice (some ⟨b, off + 2, none⟩) m cap') L := by
  subst hm hcap
  refine ⟨_, cap - 1, rfl, by omega, by omega, .inr ⟨b, off + 2, rfl, ?_⟩⟩
  have := cellsP_drop hc 1
  simpa using this

set_option maxHeartbeats 3200000 in
theorem unlike_any (v u : Value) (L M : List (Nat × Nat)) (w : World) (hv : RdP w v L) (hu : RdP w u M) (hl : L.length ≤ 1000000) (hm : M.length ≤ 1000000) :
    Calls Try.prog 105 #[v, u] w (GivesI w (unlikeN L M : Nat)) := by
  obtain ⟨res, hres⟩ : ∃ res, res = unlikeN L M := ⟨_, rfl⟩
  rw [← hres]
  have HV := Lib.hid hv
  have HU := Lib.hid hu
  have HR := Lib.hid hres
  have HL := Lib.hid hl
  have HM := Lib.hid hm
  clear hv hu hres hl hm
  go_enter Try.func105, Try.ntmps105
  go_wp2
  go_loopg [0, 1, 5] (L.length + M.length) (fun g x y c wr => ∃ (X Y : List (Nat × Nat)) (k : Nat), RdP w x X ∧ RdP w y Y ∧ c = .int .i64 k ∧ Hid (res = k + unlikeN X Y) ∧ g = X.length + Y.length ∧ k + g ≤ 2000000 ∧ Below w.heap.size w wr)
  case atStart => exact ⟨L, M, 0, HV.out, HU.out, rfl, Lib.hid (by rw [HR.out]; omega), rfl, by have := HL.out; have := HM.out; omega, Below.refl _ _⟩
  case round =>
    obtain ⟨X, Y, k, hx, hy, rfl, HE, hg, hk, hbel⟩ := hrel
    cases X with
    | nil =>
      obtain ⟨ao, ca, rfl, _, hca, _⟩ := hx
      obtain ⟨bo, cb, rfl, _, hcb, _⟩ := hy
      obtain ⟨m, hm⟩ : ∃ m, m = Y.length := ⟨_, rfl⟩
      rw [unlikeN_nil] at HE
      rw [← hm] at HE ⊢
      simp only [List.length_nil, Nat.zero_add] at hg ⊢
      have hkm : k + m ≤ 2000000 := by omega
      clear hm hg hk
      go_wp2
      go_ret
      exact ⟨ret_int (by rw [HE.out]; omega), hbel⟩
    | cons p X =>
      cases Y with
      | nil =>
        obtain ⟨ao, ca, rfl, _, hca, _⟩ := hx
        obtain ⟨bo, cb, rfl, _, hcb, _⟩ := hy
        obtain ⟨m, hm⟩ : ∃ m, m = (p :: X).length := ⟨_, rfl⟩
        rw [unlikeN_nil2] at HE
        rw [← hm] at HE hg ⊢
        simp only [List.length_nil, Nat.add_zero] at hg ⊢
        have hm0 : (0 : Int) < (m : Int) := by simp only [List.length_cons] at hm; omega
        have hkm : k + m ≤ 2000000 := by omega
        clear hm hg hk
        go_wp2
        go_ret
        exact ⟨ret_int (by rw [HE.out]; omega), hbel⟩
      | cons q Y =>
        obtain ⟨b1, o1, c1, rfl, hx1, hx2, hcx⟩ := rdP_cons hx
        obtain ⟨b2, o2, c2, rfl, hy1, hy2, hcy⟩ := rdP_cons hy
        have HCX := Lib.hid hcx
        have HCY := Lib.hid hcy
        have g1 := cellSt (hcx 0 (by simp)).1 hbel
        have g2 := cellSt (hcx 0 (by simp)).2 hbel
        have g3 := cellSt (hcy 0 (by simp)).1 hbel
        have g4 := cellSt (hcy 0 (by simp)).2 hbel
        obtain ⟨a, b⟩ := p
        obtain ⟨c, d⟩ := q
        simp only [Nat.zero_mul, Nat.add_zero, List.getD_cons_zero] at g1 g2 g3 g4
        have HXX := Lib.hid hx
        have HYY := Lib.hid hy
        have HSE := Lib.hid (unlikeN_cons (a, b) (c, d) X Y)
        have hm : ∀ w1 : World, (method 234 62 (.agg #[.int .i64 a, .int .i64 b]) "loop.example/setparts/impl.compare").run Try.prog w1 = .ok (138, .agg #[.int .i64 a, .int .i64 b]) w1 := fun w1 => method_pair (a, b) w1
        have HC := Lib.hid fun (w1 : World) => compare_any (a, b) (c, d) w1
        obtain ⟨r, hr⟩ : ∃ r, r = cmpP (a, b) (c, d) := ⟨_, rfl⟩
        rw [← hr] at HC HSE
        unfold arcV at HC
        obtain ⟨m1, hm1⟩ : ∃ m1, m1 = X.length := ⟨_, rfl⟩
        obtain ⟨m2, hm2⟩ : ∃ m2, m2 = Y.length := ⟨_, rfl⟩
        simp only [List.length_cons] at hg
        rw [← hm1] at hx1 hg ⊢
        rw [← hm2] at hy1 hg ⊢
        have HM1 := Lib.hid hm1
        have HM2 := Lib.hid hm2
        have bm1 : (0 : Int) < (m1 : Int) + 1 := by omega
        have bm2 : (0 : Int) < (m2 : Int) + 1 := by omega
        have HG := Lib.hid hg
        have hk1 : (k : Int) ≤ 1999999 := by omega
        have TX := Lib.hid (fun (cc : Nat) (e : cc = c1 - 1) => rdP_tail hcx (by omega) hx2 (show m1 = X.length from hm1) e)
        have TY := Lib.hid (fun (cc : Nat) (e : cc = c2 - 1) => rdP_tail hcy (by omega) hy2 (show m2 = Y.length from hm2) e)
        have TX1 : Hid (c1 = 1 → RdP w (.slice (some ⟨b1, o1, none⟩) m1 0) X) := Lib.hid fun e => by
          have : m1 = 0 := by omega
          subst this
          have : X = [] := List.eq_nil_of_length_eq_zero hm1.symm
          subst this
          exact rdP_nil w (Nat.zero_le _)
        have TY1 : Hid (c2 = 1 → RdP w (.slice (some ⟨b2, o2, none⟩) m2 0) Y) := Lib.hid fun e => by
          have : m2 = 0 := by omega
          subst this
          have : Y = [] := List.eq_nil_of_length_eq_zero hm2.symm
          subst this
          exact rdP_nil w (Nat.zero_le _)
        clear hcx hcy hx hy hr hm1 hm2 hg
        go_wp2_with fail
        go_region_held3 (fun w' => w'.cell? ⟨b1, o1, none⟩ = some (.int .i64 a) ∧ w'.cell? ⟨b1, o1 + 1, none⟩ = some (.int .i64 b) ∧ w'.cell? ⟨b2, o2, none⟩ = some (.int .i64 c) ∧ w'.cell? ⟨b2, o2 + 1, none⟩ = some (.int .i64 d)) (first | exact ⟨g1, g2, g3, g4⟩ | exact ⟨d1, d2, d3, d4⟩) (first | (go_at_call 138; refine (HC.out _).mono ?_; rintro e W5 ⟨rfl, hb5⟩; have d1 := cellSt (w := wr.drew) g1 hb5; have d2 := cellSt (w := wr.drew) g2 hb5; have d3 := cellSt (w := wr.drew) g3 hb5; have d4 := cellSt (w := wr.drew) g4 hb5))
        have hb6 : Below wr.heap.size wr W5 := below_step (below_drewN (Below.refl _ wr) 1) hb5
        have hbel5 := below_step hbel hb6
        clear hb5 hb6 d1 d2 d3 d4 g1 g2 g3 g4 hbel hm HC
        by_cases hr : r < 0
        · have HS2 : Hid (unlikeN ((a, b) :: X) ((c, d) :: Y) = unlikeN X ((c, d) :: Y) + 1) := Lib.hid (by rw [HSE.out, if_pos hr])
          have hr1 : (r != 0) = true := by simp; omega
          have hr2 : r ≤ 0 := by omega
          have hr3 : ¬ (r ≥ 0) := by omega
          have HW : Hid (w = w) := rfl
          by_cases hc1 : c1 = 1
          · have HT := Lib.hid (TX1.out hc1)
            go_wp2
            go_roundg (m1 + (m2 + 1))
            case rel => exact ⟨X, (c, d) :: Y, k + 1, HT.out, by rw [HM2.out]; exact HYY.out, by go_num, Lib.hid (by rw [HE.out, HS2.out]; omega), by rw [HM1.out, HM2.out]; rfl, by have := HG.out; omega, hbel5⟩
            case measure => have := HG.out; omega
          · have HT := Lib.hid (TX.out (c1 - 1) rfl)
            go_wp2
            go_roundg (m1 + (m2 + 1))
            case rel => exact ⟨X, (c, d) :: Y, k + 1, HT.out, by rw [HM2.out]; exact HYY.out, by go_num, Lib.hid (by rw [HE.out, HS2.out]; omega), by rw [HM1.out, HM2.out]; rfl, by have := HG.out; omega, hbel5⟩
            case measure => have := HG.out; omega
        · by_cases hr0 : 0 < r
          · have HS2 : Hid (unlikeN ((a, b) :: X) ((c, d) :: Y) = unlikeN ((a, b) :: X) Y + 1) := Lib.hid (by rw [HSE.out, if_neg hr, if_pos hr0])
            have hr1 : (r != 0) = true := by simp; omega
            have hr2 : ¬ r ≤ 0 := by omega
            have hr3 : r ≥ 0 := by omega
            by_cases hc2 : c2 = 1
            · have HT := Lib.hid (TY1.out hc2)
              go_wp2
              go_roundg (m1 + 1 + m2)
              case rel => exact ⟨(a, b) :: X, Y, k + 1, by rw [HM1.out]; exact HXX.out, HT.out, by go_num, Lib.hid (by rw [HE.out, HS2.out]; omega), by rw [HM1.out, HM2.out]; rfl, by have := HG.out; omega, hbel5⟩
              case measure => have := HG.out; omega
            · have HT := Lib.hid (TY.out (c2 - 1) rfl)
              go_wp2
              go_roundg (m1 + 1 + m2)
              case rel => exact ⟨(a, b) :: X, Y, k + 1, by rw [HM1.out]; exact HXX.out, HT.out, by go_num, Lib.hid (by rw [HE.out, HS2.out]; omega), by rw [HM1.out, HM2.out]; rfl, by have := HG.out; omega, hbel5⟩
              case measure => have := HG.out; omega
          · have hr00 : r = 0 := by omega
            have HS2 : Hid (unlikeN ((a, b) :: X) ((c, d) :: Y) = unlikeN X Y) := Lib.hid (by rw [HSE.out, if_neg hr, if_neg hr0])
            rw [hr00]
            clear hr hr0 hr00
            by_cases hc1 : c1 = 1
            · by_cases hc2 : c2 = 1
              · have HT := Lib.hid (TX1.out hc1)
                have HU := Lib.hid (TY1.out hc2)
                go_wp2
                go_roundg (m1 + m2)
                case rel => exact ⟨X, Y, k, HT.out, HU.out, rfl, Lib.hid (by rw [HE.out, HS2.out]), by rw [HM1.out, HM2.out], by have := HG.out; omega, hbel5⟩
                case measure => have := HG.out; omega
              · have HT := Lib.hid (TX1.out hc1)
                have HU := Lib.hid (TY.out (c2 - 1) rfl)
                go_wp2
                go_roundg (m1 + m2)
                case rel => exact ⟨X, Y, k, HT.out, HU.out, rfl, Lib.hid (by rw [HE.out, HS2.out]), by rw [HM1.out, HM2.out], by have := HG.out; omega, hbel5⟩
                case measure => have := HG.out; omega
            · by_cases hc2 : c2 = 1
              · have HT := Lib.hid (TX.out (c1 - 1) rfl)
                have HU := Lib.hid (TY1.out hc2)
                go_wp2
                go_roundg (m1 + m2)
                case rel => exact ⟨X, Y, k, HT.out, HU.out, rfl, Lib.hid (by rw [HE.out, HS2.out]), by rw [HM1.out, HM2.out], by have := HG.out; omega, hbel5⟩
                case measure => have := HG.out; omega
              · have HT := Lib.hid (TX.out (c1 - 1) rfl)
                have HU := Lib.hid (TY.out (c2 - 1) rfl)
                go_wp2
                go_roundg (m1 + m2)
                case rel => exact ⟨X, Y, k, HT.out, HU.out, rfl, Lib.hid (by rw [HE.out, HS2.out]), by rw [HM1.out, HM2.out], by have := HG.out; omega, hbel5⟩
                case measure => have := HG.out; omega

theorem take_succP {L M : List (Nat × Nat)} {k : Nat} (h : L.take k = M.take k) (hx : k < L.length) (hy : k < M.length) (e : L.getD k (0, 0) = M.getD k (0, 0)) : L.take (k + 1) = M.take (k + 1) := by
  rw [List.take_succ_eq_append_getElem hx, List.take_succ_eq_append_getElem hy, h]
  simp [List.getD, hx, hy] at e
  rw [e]

set_option maxHeartbeats 1600000 in
theorem equal_any (v u : Value) (L M : List (Nat × Nat)) (w : World) (hv : RdP w v L) (hu : RdP w u M) (hl : L.length ≤ 1000000) (hlm : M.length ≤ 1000000) :
    Calls Try.prog 71 #[v, u] w (GivesB w (decide (L = M))) := by
  obtain ⟨ao, ca, rfl, h1, h2, hx⟩ := hv
  obtain ⟨bo, cb, rfl, h3, h4, hy⟩ := hu
  obtain ⟨n, hn⟩ : ∃ n, n = L.length := ⟨_, rfl⟩
  obtain ⟨m, hm⟩ : ∃ m, m = M.length := ⟨_, rfl⟩
  have HN := Lib.hid hn
  have HM := Lib.hid hm
  have HX := Lib.hid hx
  have HY := Lib.hid hy
  rw [← hn] at hl ⊢
  rw [← hm] at hlm ⊢
  clear hn hm hx hy h1 h2 h3 h4
  by_cases hnm : n = m
  · subst hnm
    go_enter Try.func71, Try.ntmps71
    go_wp2
    go_loopw [13] (fun i wr => ∃ k : Nat, k ≤ n ∧ i = .int .i64 k ∧ Hid (L.take k = M.take k) ∧ Same w wr) (fun i _ => n - (intOf i).toNat)
    case atStart => exact ⟨0, Nat.zero_le _, rfl, Lib.hid rfl, Same.refl w⟩
    case round =>
      obtain ⟨k, hk, rfl, HT, hsr⟩ := hrel
      by_cases hlt : k < n
      · rcases HX.out with hx | ⟨b1, o1, rfl, hcx⟩
        · have := HN.out
          rw [hx] at this
          simp at this
          omega
        rcases HY.out with hy | ⟨b2, o2, rfl, hcy⟩
        · have := HM.out
          rw [hy] at this
          simp at this
          omega
        have hc1 := hcx k (by have := HN.out; omega)
        have hc2 := hcy k (by have := HM.out; omega)
        obtain ⟨⟨a, b⟩, hp⟩ : ∃ p, p = L.getD k (0, 0) := ⟨_, rfl⟩
        obtain ⟨⟨c, d⟩, hq⟩ : ∃ q, q = M.getD k (0, 0) := ⟨_, rfl⟩
        rw [← hp] at hc1
        rw [← hq] at hc2
        dsimp only at hc1 hc2
        have g1 := cellSt hc1.1 (hsr _)
        have g2 := cellSt hc1.2 (hsr _)
        have g3 := cellSt hc2.1 (hsr _)
        have g4 := cellSt hc2.2 (hsr _)
        have HP := Lib.hid hp
        have HQ := Lib.hid hq
        clear hp hq hc1 hc2 hcx hcy
        have b0 : (0 : Int) ≤ (k : Int) := by omega
        have b1' : (k : Int) < (n : Int) := by omega
        by_cases e1 : a = c
        · by_cases e2 : b = d
          · have HE : Hid (L.getD k (0, 0) = M.getD k (0, 0)) := Lib.hid (by rw [← HP.out, ← HQ.out, e1, e2])
            subst e1 e2
            go_wp2
            go_region
            go_wp2
            go_roundw
            case rel => exact ⟨k + 1, by omega, by go_num, Lib.hid (take_succP HT.out (by have := HN.out; omega) (by have := HM.out; omega) HE.out), hsr.drewN 1⟩
            case measure => simp [intOf]; omega
          · have HE : Hid (¬ L = M) := Lib.hid fun e => by
              have := HQ.out
              rw [← e, ← HP.out, Prod.mk.injEq] at this
              exact e2 this.2.symm
            have e3 : ¬ ((b : Int) = (d : Int)) := by omega
            subst e1
            clear e2
            go_wp2
            go_region
            go_wp2
            go_ret
            exact ⟨by simp [HE.out], (hsr.drewN 1) _⟩
        · have HE : Hid (¬ L = M) := Lib.hid fun e => by
            have := HQ.out
            rw [← e, ← HP.out, Prod.mk.injEq] at this
            exact e1 this.1.symm
          have e3 : ¬ ((a : Int) = (c : Int)) := by omega
          clear e1
          go_wp2
          go_region
          go_wp2
          go_ret
          exact ⟨by simp [HE.out], (hsr.drewN 1) _⟩
      · have hkn : k = n := by omega
        subst hkn
        go_wp2
        go_ret
        have he : L = M := by
          have := HT.out
          rwa [List.take_of_length_le (by have := HN.out; omega), List.take_of_length_le (by have := HM.out; omega)] at this
        exact ⟨by simp [he], hsr _⟩
  · go_enter Try.func71, Try.ntmps71
    go_wp2
    go_ret
    have hne : ¬ L = M := fun e => hnm (by rw [HN.out, HM.out, e])
    exact ⟨by simp [hne], Below.refl _ _⟩

end Go.Proofs.Ytbmpchpcihnbdaa

/-
  Facts on pair lists: others, costs, the best partition. No program is named here.
-/
namespace Go.Proofs.Ytbmpchpcihnbdaa
set_option linter.unusedSimpArgs false
set_option linter.unusedVariables false
set_option maxRecDepth 100000

theorem sorted_nodup {l : List (Nat × Nat)} (h : l.Pairwise ltP) : l.Nodup := h.imp fun {a b} hab e => by rw [e] at hab; exact ltP_irrefl _ hab

theorem sub_filter : ∀ {L l : List (Nat × Nat)}, L.Sublist l → l.Nodup → l.filter (fun p => L.contains p) = L := by
  intro L l h
  induction h with
  | slnil => intro _; rfl
  | @cons L l a h ih =>
    intro hn
    obtain ⟨ha, hn'⟩ := List.nodup_cons.1 hn
    have hc : L.contains a = false := by
      rw [Bool.eq_false_iff]
      intro hc
      exact ha (h.subset (by simpa using hc))
    rw [List.filter_cons, hc]
    simp only [Bool.false_eq_true, if_false]
    exact ih hn'
  | @cons_cons L l a h ih =>
    intro hn
    obtain ⟨ha, hn'⟩ := List.nodup_cons.1 hn
    rw [List.filter_cons]
    simp only [List.contains_cons, BEq.rfl, Bool.true_or, if_true]
    congr 1
    have e := ih hn'
    refine Eq.trans (List.filter_congr fun p hp => ?_) e
    have hne : (p == a) = false := by
      rw [Bool.eq_false_iff]
      intro hc
      have := eq_of_beq hc
      subst this
      exact ha hp
    rw [hne, Bool.false_or]

theorem filter_len (f : Nat × Nat → Bool) : ∀ l : List (Nat × Nat), (l.filter fun p => !f p).length + (l.filter f).length = l.length := by
  intro l
  induction l with
  | nil => rfl
  | cons a l ih =>
    rw [List.filter_cons, List.filter_cons]
    cases f a <;> simp <;> omega

theorem other_len {n : Nat} {L : List (Nat × Nat)} (hn : n < 7) (h : L.Sublist (allP n)) : (otherP n L).length + L.length = n * (n - 1) / 2 := by
  have h1 := filter_len (fun p => L.contains p) (allP n)
  rw [sub_filter h (sorted_nodup (allP_sorted n hn)), allP_length n hn] at h1
  exact h1
theorem other_mem {n : Nat} {L : List (Nat × Nat)} {p : Nat × Nat} (hp : p ∈ allP n) : (otherP n L).contains p = !L.contains p := by
  rw [Bool.eq_iff_iff]
  simp [otherP, hp]
theorem other_other {n : Nat} {L : List (Nat × Nat)} (hn : n < 7) (h : L.Sublist (allP n)) : otherP n (otherP n L) = L := by
  have e : otherP n (otherP n L) = (allP n).filter fun p => L.contains p := by
    refine List.filter_congr fun p hp => ?_
    rw [other_mem hp, Bool.not_not]
  rw [e, sub_filter h (sorted_nodup (allP_sorted n hn))]

/-- Is a pair in just one of both? -/
def outP (xs : List Int) (L : List (Nat × Nat)) (p : Nat × Nat) : Bool := (xs.getD p.1 0 == xs.getD p.2 0) != L.contains p

theorem cost_aux (xs : List Int) (f : Nat × Nat → Bool) : ∀ l : List (Nat × Nat),
    ((l.filter fun p => xs.getD p.1 0 == xs.getD p.2 0).length : Int) + ((l.filter f).map fun p => if xs.getD p.1 0 == xs.getD p.2 0 then (-1 : Int) else 1).sum = (l.countP fun p => (xs.getD p.1 0 == xs.getD p.2 0) != f p : Nat) := by
  intro l
  induction l with
  | nil => rfl
  | cons a l ih =>
    have h1 : (((a :: l).filter fun p => xs.getD p.1 0 == xs.getD p.2 0).length : Int) = ((l.filter fun p => xs.getD p.1 0 == xs.getD p.2 0).length : Int) + if (xs.getD a.1 0 == xs.getD a.2 0) then 1 else 0 := by
      rw [List.filter_cons]
      cases (xs.getD a.1 0 == xs.getD a.2 0) <;> simp
    have h2 : (((a :: l).filter f).map fun p => if xs.getD p.1 0 == xs.getD p.2 0 then (-1 : Int) else 1).sum = ((l.filter f).map fun p => if xs.getD p.1 0 == xs.getD p.2 0 then (-1 : Int) else 1).sum + if f a then (if xs.getD a.1 0 == xs.getD a.2 0 then (-1 : Int) else 1) else 0 := by
      rw [List.filter_cons]
      cases f a
      · simp
      · rw [if_pos rfl, if_pos rfl, List.map_cons, List.sum_cons, Int.add_comm]
    have h3 : (((a :: l).countP fun p => (xs.getD p.1 0 == xs.getD p.2 0) != f p : Nat) : Int) = ((l.countP fun p => (xs.getD p.1 0 == xs.getD p.2 0) != f p : Nat) : Int) + if ((xs.getD a.1 0 == xs.getD a.2 0) != f a) then 1 else 0 := by
      rw [List.countP_cons]
      cases ((xs.getD a.1 0 == xs.getD a.2 0) != f a) <;> simp
    rw [h1, h2, h3, ← ih]
    cases (xs.getD a.1 0 == xs.getD a.2 0) <;> cases f a <;> simp <;> omega

/-- The cost counts the pairs that are in just one of both. -/
theorem cost_count {n : Nat} {L : List (Nat × Nat)} {xs : List Int} (hn : n < 7) (h : L.Sublist (allP n)) (hx : xs.length = n) : costP xs L = ((allP n).countP (outP xs L) : Nat) := by
  have e := cost_aux xs (fun p => L.contains p) (allP n)
  rw [sub_filter h (sorted_nodup (allP_sorted n hn))] at e
  unfold costP ofP
  rw [hx]
  exact e

theorem cost_nonneg {n : Nat} {L : List (Nat × Nat)} {xs : List Int} (hn : n < 7) (h : L.Sublist (allP n)) (hx : xs.length = n) : 0 ≤ costP xs L ∧ costP xs L ≤ 15 := by
  rw [cost_count hn h hx]
  have h1 := List.countP_le_length (p := outP xs L) (l := allP n)
  rw [allP_length n hn] at h1
  have h2 : n * (n - 1) / 2 ≤ 15 := by
    have : n = 0 ∨ n = 1 ∨ n = 2 ∨ n = 3 ∨ n = 4 ∨ n = 5 ∨ n = 6 := by omega
    rcases this with rfl | rfl | rfl | rfl | rfl | rfl | rfl <;> decide
  omega

theorem cost_zero {n : Nat} {L : List (Nat × Nat)} {xs : List Int} (hn : n < 7) (h : L.Sublist (allP n)) (hx : xs.length = n) : costP xs L = 0 ↔ L = ofP xs := by
  rw [cost_count hn h hx]
  have e : ((allP n).countP (outP xs L) : Nat) = 0 ↔ ∀ p ∈ allP n, (xs.getD p.1 0 == xs.getD p.2 0) = L.contains p := by
    rw [List.countP_eq_zero]
    constructor
    · intro hh p hp
      have := hh p hp
      unfold outP at this
      generalize (xs.getD p.1 0 == xs.getD p.2 0) = g at *
      generalize L.contains p = c at *
      revert this
      cases g <;> cases c <;> simp
    · intro hh p hp
      unfold outP
      rw [hh p hp]
      simp
  constructor
  · intro h0
    have h1 := e.1 (by omega)
    rw [← sub_filter h (sorted_nodup (allP_sorted n hn))]
    unfold ofP
    rw [hx]
    exact List.filter_congr fun p hp => (h1 p hp).symm
  · intro h0
    have h1 : ∀ p ∈ allP n, (xs.getD p.1 0 == xs.getD p.2 0) = L.contains p := by
      intro p hp
      rw [h0, Bool.eq_iff_iff]
      simp [ofP, hx, hp]
    have := e.2 h1
    omega

theorem best_mem (L : List (Nat × Nat)) : ∀ (l : List (List Int)) (b : List Int), bestIn L b l ∈ b :: l := by
  intro l
  induction l with
  | nil => intro b; simp [bestIn]
  | cons x l ih =>
    intro b
    unfold bestIn
    split
    · have := ih x; simp at this ⊢; rcases this with h | h
      · exact .inr (.inl h)
      · exact .inr (.inr h)
    · have := ih b; simp at this ⊢; rcases this with h | h
      · exact .inl h
      · exact .inr (.inr h)
theorem best_le (L : List (Nat × Nat)) : ∀ (l : List (List Int)) (b : List Int), ∀ x ∈ b :: l, costP (bestIn L b l) L ≤ costP x L := by
  intro l
  induction l with
  | nil => intro b x hx; simp at hx; subst hx; exact Int.le_refl _
  | cons y l ih =>
    intro b x hx
    unfold bestIn
    split
    · rename_i hlt
      rcases List.mem_cons.1 hx with rfl | hx
      · have := ih y y (by simp); omega
      · exact ih y x hx
    · rename_i hge
      rcases List.mem_cons.1 hx with rfl | hx
      · exact ih _ _ (by simp)
      · rcases List.mem_cons.1 hx with rfl | hx
        · have := ih b b (by simp); omega
        · exact ih b x (by simp [hx])

theorem cost_one {n : Nat} {L : List (Nat × Nat)} (hn : n < 7) (h : L.Sublist (allP n)) : costP (List.replicate n 0) L = (otherP n L).length := by
  rw [cost_count hn h (by simp)]
  congr 1
  unfold otherP
  rw [← List.countP_eq_length_filter]
  refine List.countP_congr fun p hp => ?_
  have hm := mem_allP.1 (show (p.1, p.2) ∈ allP n from hp)
  have e1 : (List.replicate n (0 : Int)).getD p.1 0 = 0 := by simp [List.getD, List.getElem?_replicate, show p.1 < n by omega]
  have e2 : (List.replicate n (0 : Int)).getD p.2 0 = 0 := by simp [List.getD, List.getElem?_replicate, hm.2]
  unfold outP
  rw [e1, e2]
  cases L.contains p <;> simp

theorem cost_single {n : Nat} {L : List (Nat × Nat)} (hn : n < 7) (h : L.Sublist (allP n)) : costP (iota 0 n) L = L.length := by
  have hl : (iota 0 n).length = n := by simp [iota]
  rw [cost_count hn h hl]
  congr 1
  rw [← sub_filter h (sorted_nodup (allP_sorted n hn)), ← List.countP_eq_length_filter]
  rw [sub_filter h (sorted_nodup (allP_sorted n hn))]
  refine List.countP_congr fun p hp => ?_
  have hm := mem_allP.1 (show (p.1, p.2) ∈ allP n from hp)
  have e1 : (iota 0 n).getD p.1 0 = (p.1 : Int) := by simp [iota, List.getD, show p.1 < n by omega]
  have e2 : (iota 0 n).getD p.2 0 = (p.2 : Int) := by simp [iota, List.getD, hm.2]
  unfold outP
  rw [e1, e2]
  have : (((p.1 : Nat) : Int) == (p.2 : Int)) = false := by simp; omega
  rw [this]
  cases L.contains p <;> simp

/-- How many pairs both have. -/
theorem cost_both {n : Nat} {L : List (Nat × Nat)} {xs : List Int} (hn : n < 7) (h : L.Sublist (allP n)) (hx : xs.length = n) :
    costP xs L = (L.length : Int) + (ofP xs).length - 2 * (L.countP fun p => (ofP xs).contains p : Nat) := by
  unfold costP
  have e : ∀ l : List (Nat × Nat), (∀ p ∈ l, p ∈ allP n) → (l.map fun p => if xs.getD p.1 0 == xs.getD p.2 0 then (-1 : Int) else 1).sum = (l.length : Int) - 2 * (l.countP fun p => (ofP xs).contains p : Nat) := by
    intro l
    induction l with
    | nil => intro _; rfl
    | cons a l ih =>
      intro hl
      have h1 := ih fun p hp => hl p (by simp [hp])
      have ha : (ofP xs).contains a = (xs.getD a.1 0 == xs.getD a.2 0) := by
        rw [Bool.eq_iff_iff]
        simp [ofP, hx, hl a (by simp)]
      rw [List.map_cons, List.sum_cons, h1, List.countP_cons, ha, List.length_cons]
      cases (xs.getD a.1 0 == xs.getD a.2 0) <;> simp <;> omega
  rw [e L fun p hp => h.subset hp]
  omega

end Go.Proofs.Ytbmpchpcihnbdaa

/-
  copy of elements of more than one cell, into a row that is known whole. No program is named here.
-/
namespace Go.Proofs.Ytbmpchpcihnbdaa
set_option linter.unusedSimpArgs false
set_option linter.unusedVariables false
open Go.RowKit

theorem run_copy_rows {P : Program} (w : World) (dT sT ty elem : TypeId) (g o dLen dCap : Nat) (a : Addr) (sLen sCap sz : Nat) (cur : Array Value) (t : TypeId) (cs : List Value)
    (hu : P.underlying dT = some (.slice elem)) (hs : (P.info? elem).map (·.size) = some sz)
    (hg : w.heap[g]? = some (.cells cur t (0, 0))) (hn : cs.length = Nat.min sLen dLen * sz)
    (hsrc : ∀ j v, cs[j]? = some v → w.cell? (a.add j) = some v) (hfit : o + cs.length ≤ cur.size) (h1 : ∀ v ∈ cs, v.oneCell' = true) :
    (Builtin.copy_ #[dT, sT] ty #[.slice (some ⟨g, o, none⟩) dLen dCap, .slice (some a) sLen sCap]).run P w =
      .ok (goInt (Nat.min sLen dLen)) (w.setRow g (cur.toList.take o ++ cs ++ cur.toList.drop (o + cs.length)).toArray) := by
  have hl := run_loadCells_list (P := P) w a cs hsrc
  have hst := run_storeCells_at P g o t cs 0 cur w hg (by simpa using hfit) h1
  rw [hn] at hl
  cases hq : P.info? elem with
  | none => simp [hq] at hs
  | some i =>
    have hi : i.size = sz := by simpa [hq] using hs
    simp [Builtin.copy_, run_underlying hu, Builtin.lenOf, Builtin.firstCells, sizeOf, typeInfo, hq, hi, hl, hst]

theorem run_copy_zero {P : Program} (w : World) (dT sT ty elem : TypeId) (d a : Option Addr) (dLen dCap sLen sCap sz : Nat) (hu : P.underlying dT = some (.slice elem)) (hs : (P.info? elem).map (·.size) = some sz) (hn : Nat.min sLen dLen = 0) :
    (Builtin.copy_ #[dT, sT] ty #[.slice d dLen dCap, .slice a sLen sCap]).run P w = .ok (goInt 0) w := by
  cases hq : P.info? elem with
  | none => simp [hq] at hs
  | some i =>
    cases d <;> cases a <;> simp [Builtin.copy_, run_underlying hu, Builtin.lenOf, Builtin.firstCells, sizeOf, typeInfo, hq, hn, storeCells, loadCells, loadCellsFrom]

theorem wpList_copy_rows {P : Program} {w : World} {ops : Array Oper} {rest : List Oper} {o : Oper} {a : Act} {Q : Exit → Act → World → Prop} (hgd : o.guard = none) (d s : Operand) (dT sT : TypeId)
    (ho : o.op = .call { callee := .builtin .copy, args := #[d, s], argTypes := #[dT, sT] }) (elem : TypeId) (sz : Nat) (hu : P.underlying dT = some (.slice elem)) (hsz : (P.info? elem).map (·.size) = some sz)
    (dp sp : Option Addr) (dLen dCap sLen sCap : Nat) (hd : a.eval d = .slice dp dLen dCap) (hs : a.eval s = .slice sp sLen sCap)
    (g off : Nat) (cur : List Value) (t : TypeId) (hg : w.heap[g]? = some (.cells cur.toArray t (0, 0))) (cs : List Value) (hn : cs.length = Nat.min sLen dLen * sz) (hsz0 : 0 < sz)
    (hpos : 0 < cs.length → dp = some ⟨g, off, none⟩ ∧ ∃ ad, sp = some ad ∧ ∀ j v, cs[j]? = some v → w.cell? (ad.add j) = some v)
    (hfit : off + cs.length ≤ cur.length) (h1 : ∀ v ∈ cs, v.oneCell' = true) (B : Nat) (w0 : World) (hb : Below B w0 w) (hBg : B ≤ g)
    (h : ∀ w', Hid (w'.heap[g]? = some (.cells (splice cur off cs).toArray t (0, 0))) → Below B w0 w' → wpList P ops Q rest (a.put o.dst (goInt (Nat.min sLen dLen))) w') :
    wpList P ops Q (o :: rest) a w := by
  by_cases h0 : cs.length = 0
  · have hm : Nat.min sLen dLen = 0 := by
      rw [h0] at hn
      rcases Nat.mul_eq_zero.1 hn.symm with h2 | h2
      · exact h2
      · omega
    obtain rfl : cs = [] := List.eq_nil_of_length_eq_zero h0
    refine wpList_plain hgd fun K hK => ?_
    have hrun := run_copy_zero (P := P) w dT sT o.type elem dp sp dLen dCap sLen sCap sz hu hsz hm
    unfold Oper.wp
    simp [execOp, ho, resolve, invoke, builtin, hd, hs, hrun, Result.andThen]
    have := h w (show _ = _ by simpa [splice] using hg) hb
    rw [hm] at this
    exact hK _ _ this
  · obtain ⟨rfl, ad, rfl, hsrc⟩ := hpos (by omega)
    refine wpList_plain hgd fun K hK => ?_
    have hrun := run_copy_rows (P := P) w dT sT o.type elem g off dLen dCap ad sLen sCap sz cur.toArray t cs hu hsz hg hn hsrc (by simpa using hfit) h1
    unfold Oper.wp
    simp [execOp, ho, resolve, invoke, builtin, hd, hs, hrun, Result.andThen]
    exact hK _ _ (h _ (show _ = _ by simpa [splice] using setRow_heap w g _ _ t _ hg) (below_setRow hb hBg _))

end Go.Proofs.Ytbmpchpcihnbdaa

