/-
  The contract of impl.arcTold: an arc that a list tells.
-/
import Derived.Test.YtieldehghmikkaaArcs
import Derived.Test.YtieldehghmikkaaTogether
import Derived.StillTailTactics
namespace Go.Proofs.Ytieldehghmikkaa
set_option linter.unusedSimpArgs false
set_option linter.unusedVariables false
set_option linter.unnecessarySimpa false
open Go.RowKit
set_option maxRecDepth 100000

/-- A function hands an arc, out of its variable, and a bool back. -/
theorem results_arc {fn : Func} {p q : Tmp} (h : fn.results = #[.cell p 71, .tmp q]) (tmps : Array Value) (w : World) (g : Nat) (x y : Int) (b : Bool)
    (hp : tmps.getD p undef = .pointer (some ⟨g, 0, none⟩)) (hq : tmps.getD q undef = .bool b) (hg : w.heap[g]? = some (.cells #[.int .i64 x, .int .i64 y] 71 (0, 0))) : (results fn tmps).run Try.prog w = .ok (.tuple #[.agg #[.int .i64 x, .int .i64 y], .bool b]) w := by
  have hp' : tmps[p]?.getD undef = .pointer (some ⟨g, 0, none⟩) := by simpa using hp
  have hq' : tmps[q]?.getD undef = .bool b := by simpa using hq
  obtain ⟨i0, hi, hz0, hz1, hz2⟩ := info_parts Try.infoArc
  have hr := run_loadVar_row (P := Try.prog) w g 71 71 #[.int .i64 x, .int .i64 y] (0, 0) _ hg Try.underlying71 rfl (by rw [hi]; simpa using hz1)
  simp [results, h, hp', hq', asAddr, hr]

/-- An arc is written into its variable. -/
theorem wpList_storeA {ops : Array Oper} {rest : List Oper} {o : Oper} {a : Act} {w : World} {Q : Exit → Act → World → Prop} (hgd : o.guard = none) (x y : Operand) (ho : o.op = .store 71 x y)
    (g : Nat) (hx : a.eval x = .pointer (some ⟨g, 0, none⟩)) (p q p0 q0 : Int) (hy : a.eval y = .agg #[.int .i64 p, .int .i64 q]) (hg : w.heap[g]? = some (.cells #[.int .i64 p0, .int .i64 q0] 71 (0, 0)))
    (h : ∀ w', w'.heap[g]? = some (.cells #[.int .i64 p, .int .i64 q] 71 (0, 0)) → Touch w w' g (g + 1) → wpList Try.prog ops Q rest (a.put o.dst undef) w') : wpList Try.prog ops Q (o :: rest) a w := by
  obtain ⟨i0, hi, hz0, hz1, hz2⟩ := info_parts Try.infoArc
  exact wpList_store_row hgd _ x y ho g #[.int .i64 p, .int .i64 q] hx hy _ #[.int .i64 p0, .int .i64 q0] hg (by rw [hi]; simpa using hz1) rfl (by simp [Value.oneCell']) (h _ (setRow_heap w g _ _ _ _ hg) (touch_row w g _))

set_option maxHeartbeats 1600000 in
theorem arcTold_yes (n : Int) (v : Value) (row : List Int) (w : World) (hv : RdV w v row) (hok : toldOk n row = true) :
    Calls Try.prog 70 #[.int .i64 n, v] w fun e w' => e = .returned (.tuple #[.agg #[.int .i64 (row.getD 0 0), .int .i64 (row.getD 1 0)], .bool true]) ∧ Below w.heap.size w w' := by
  simp only [toldOk, decide_eq_true_eq] at hok
  obtain ⟨hl, ⟨h0, h0n⟩, h01, h1n⟩ := hok
  obtain ⟨ao, ca, rfl, hx, hlc, hcm⟩ := hv
  rcases hx with hx | ⟨bb, off, rfl, hc⟩
  · rw [hx] at hl; simp at hl
  have hc0 := hc 0 (by omega)
  have hc1 := hc 1 (by omega)
  rw [Nat.add_zero] at hc0
  rw [hl] at hlc ⊢
  obtain ⟨x, hx⟩ : ∃ x, x = row.getD 0 0 := ⟨_, rfl⟩
  obtain ⟨y, hy⟩ : ∃ y, y = row.getD 1 0 := ⟨_, rfl⟩
  rw [← hx] at hc0 h0 h0n h01 ⊢
  rw [← hy] at hc1 h01 h1n ⊢
  have h10 : 0 ≤ y := by omega
  have hbb : bb < w.heap.size := World.block_lt_of_cell? w _ hc0
  have hne : ¬ (x ≥ y) := by omega
  clear hc hx hy hl
  go_enter Try.func70, Try.ntmps70
  go_wp2
  go_quiet (first | (go_at_call_of 85 (Value.int IntKind.i64 x); exact quiet_left (isThing_yes n x _ h0 h0n)) | (go_at_call_of 85 (Value.int IntKind.i64 y); exact quiet_left (isThing_yes n y _ h10 h1n)))
  go_wp2
  obtain ⟨W1, hW1⟩ : ∃ W1, W1 = (w.alloc (.cells #[.int .i64 0, .int .i64 0] 71)).drewN nq := ⟨_, rfl⟩
  have hg1 : W1.drew.heap[w.heap.size]? = some (.cells #[.int .i64 0, .int .i64 0] 71 (0, 0)) := by rw [hW1]; exact heap_alloc_new w _
  have hb1 : Below w.heap.size w W1 := by rw [hW1]; exact below_drewN ((Below.refl _ _).alloc (Nat.le_refl _) _) _
  have hd0 : W1.cell? ⟨bb, off, none⟩ = some (.int .i64 x) := by rw [hb1.cell hbb]; exact hc0
  have hd1 : W1.cell? ⟨bb, off + 1, none⟩ = some (.int .i64 y) := by rw [hb1.cell hbb]; exact hc1
  rw [← hW1]
  have HG1 := Lib.hid hg1
  have HB1 := Lib.hid (below_drewN hb1 1)
  clear hc0 hc1 hW1 hg1 hb1
  go_still_tail 7, (by kernel_rfl)
  change wpList _ _ _ _ _ (World.drew _)
  go_wp2_with (refine wpList_storeA rfl _ _ rfl w.heap.size rfl x y 0 0 rfl HG1.out ?_; intro w3 hg3 ht3; have HG3 := Lib.hid hg3; have HB3 := Lib.hid (HB1.out.trans (touch_below ht3 (Nat.le_refl _))); clear hg3 ht3)
  exact bodyPost_ret (results_arc rfl _ _ w.heap.size x y true rfl rfl HG3.out) rfl ⟨rfl, HB3.out⟩

set_option maxHeartbeats 3200000 in
theorem arcTold_no (n : Int) (v : Value) (row : List Int) (w : World) (hv : RdV w v row) (hok : toldOk n row = false) :
    Calls Try.prog 70 #[.int .i64 n, v] w fun e w' => e = .returned (.tuple #[.agg #[.int .i64 0, .int .i64 0], .bool false]) ∧ Below w.heap.size w w' := by
  simp only [toldOk, decide_eq_false_iff_not] at hok
  obtain ⟨ao, ca, rfl, hx, hlc, hcm⟩ := hv
  by_cases hl : row.length = 2
  · rcases hx with hx | ⟨bb, off, rfl, hc⟩
    · rw [hx] at hl; simp at hl
    have hc0 := hc 0 (by omega)
    have hc1 := hc 1 (by omega)
    rw [Nat.add_zero] at hc0
    have hok2 : ¬ ((0 ≤ row.getD 0 0 ∧ row.getD 0 0 < n) ∧ row.getD 0 0 < row.getD 1 0 ∧ row.getD 1 0 < n) := fun h => hok ⟨hl, h⟩
    rw [hl] at hlc ⊢
    obtain ⟨x, hx⟩ : ∃ x, x = row.getD 0 0 := ⟨_, rfl⟩
    obtain ⟨y, hy⟩ : ∃ y, y = row.getD 1 0 := ⟨_, rfl⟩
    rw [← hx] at hc0 hok2
    rw [← hy] at hc1 hok2
    have hbb : bb < w.heap.size := World.block_lt_of_cell? w _ hc0
    clear hc hx hy hl hok
    by_cases h0 : 0 ≤ x ∧ x < n
    · obtain ⟨h00, h0n⟩ := h0
      by_cases h1 : 0 ≤ y ∧ y < n
      · obtain ⟨h10, h1n⟩ := h1
        have hge : y ≤ x := by omega
        have hd : decide (y ≤ x) = true := by simpa using hge
        clear hok2
        go_enter Try.func70, Try.ntmps70
        go_wp2
        go_quiet (first | (go_at_call_of 85 (Value.int IntKind.i64 x); exact quiet_left (isThing_yes n x _ h00 h0n)) | (go_at_call_of 85 (Value.int IntKind.i64 y); exact quiet_left (isThing_yes n y _ h10 h1n)))
        obtain ⟨W1, hW1⟩ : ∃ W1, W1 = (w.alloc (.cells #[.int .i64 0, .int .i64 0] 71)).drewN nq := ⟨_, rfl⟩
        have hg1 : W1.heap[w.heap.size]? = some (.cells #[.int .i64 0, .int .i64 0] 71 (0, 0)) := by rw [hW1]; exact heap_alloc_new w _
        have hb1 : Below w.heap.size w W1 := by rw [hW1]; exact below_drewN ((Below.refl _ _).alloc (Nat.le_refl _) _) _
        rw [← hW1]
        have HG1 := Lib.hid hg1
        have HB1 := Lib.hid hb1
        clear hW1 hg1 hb1
        go_wp2_with (refine wpList_storeA rfl _ _ rfl w.heap.size rfl 0 0 0 0 rfl HG1.out ?_; intro w3 hg3 ht3; have HG3 := Lib.hid hg3; have HB3 := Lib.hid (HB1.out.trans (touch_below ht3 (Nat.le_refl _))); clear hg3 ht3)
        exact bodyPost_ret (results_arc rfl _ _ w.heap.size 0 0 false rfl rfl HG3.out) rfl ⟨rfl, HB3.out⟩
      · have h1' : y < 0 ∨ n ≤ y := by omega
        have H1 := Lib.hid h1'
        clear h1 h1' hok2
        go_enter Try.func70, Try.ntmps70
        go_wp2
        go_quiet (first | (go_at_call_of 85 (Value.int IntKind.i64 x); exact quiet_left (isThing_yes n x _ h00 h0n)) | (go_at_call_of 85 (Value.int IntKind.i64 y); exact quiet_left (isThing_no n y _ H1.out)))
        obtain ⟨W1, hW1⟩ : ∃ W1, W1 = (w.alloc (.cells #[.int .i64 0, .int .i64 0] 71)).drewN nq := ⟨_, rfl⟩
        have hg1 : W1.heap[w.heap.size]? = some (.cells #[.int .i64 0, .int .i64 0] 71 (0, 0)) := by rw [hW1]; exact heap_alloc_new w _
        have hb1 : Below w.heap.size w W1 := by rw [hW1]; exact below_drewN ((Below.refl _ _).alloc (Nat.le_refl _) _) _
        rw [← hW1]
        have HG1 := Lib.hid hg1
        have HB1 := Lib.hid hb1
        clear hW1 hg1 hb1
        go_wp2_with (refine wpList_storeA rfl _ _ rfl w.heap.size rfl 0 0 0 0 rfl HG1.out ?_; intro w3 hg3 ht3; have HG3 := Lib.hid hg3; have HB3 := Lib.hid (HB1.out.trans (touch_below ht3 (Nat.le_refl _))); clear hg3 ht3)
        exact bodyPost_ret (results_arc rfl _ _ w.heap.size 0 0 false rfl rfl HG3.out) rfl ⟨rfl, HB3.out⟩
    · have h0' : x < 0 ∨ n ≤ x := by omega
      have H0 := Lib.hid h0'
      clear h0 h0' hok2
      go_enter Try.func70, Try.ntmps70
      go_wp2
      go_quiet ((go_at_call_of 85 (Value.int IntKind.i64 x); exact quiet_left (isThing_no n x _ H0.out)))
      obtain ⟨W1, hW1⟩ : ∃ W1, W1 = (w.alloc (.cells #[.int .i64 0, .int .i64 0] 71)).drewN nq := ⟨_, rfl⟩
      have hg1 : W1.heap[w.heap.size]? = some (.cells #[.int .i64 0, .int .i64 0] 71 (0, 0)) := by rw [hW1]; exact heap_alloc_new w _
      have hb1 : Below w.heap.size w W1 := by rw [hW1]; exact below_drewN ((Below.refl _ _).alloc (Nat.le_refl _) _) _
      rw [← hW1]
      have HG1 := Lib.hid hg1
      have HB1 := Lib.hid hb1
      clear hW1 hg1 hb1
      go_wp2_with (refine wpList_storeA rfl _ _ rfl w.heap.size rfl 0 0 0 0 rfl HG1.out ?_; intro w3 hg3 ht3; have HG3 := Lib.hid hg3; have HB3 := Lib.hid (HB1.out.trans (touch_below ht3 (Nat.le_refl _))); clear hg3 ht3)
      exact bodyPost_ret (results_arc rfl _ _ w.heap.size 0 0 false rfl rfl HG3.out) rfl ⟨rfl, HB3.out⟩
  · obtain ⟨m, hm⟩ : ∃ m, m = row.length := ⟨_, rfl⟩
    rw [← hm] at hl hlc ⊢
    have hd : ((m : Int) != 2) = true := by simp; omega
    clear hm hok hx
    go_enter Try.func70, Try.ntmps70
    go_wp2
    go_quiet (fail)
    obtain ⟨W1, hW1⟩ : ∃ W1, W1 = (w.alloc (.cells #[.int .i64 0, .int .i64 0] 71)).drewN nq := ⟨_, rfl⟩
    have hg1 : W1.heap[w.heap.size]? = some (.cells #[.int .i64 0, .int .i64 0] 71 (0, 0)) := by rw [hW1]; exact heap_alloc_new w _
    have hb1 : Below w.heap.size w W1 := by rw [hW1]; exact below_drewN ((Below.refl _ _).alloc (Nat.le_refl _) _) _
    rw [← hW1]
    have HG1 := Lib.hid hg1
    have HB1 := Lib.hid hb1
    clear hW1 hg1 hb1
    go_wp2_with (refine wpList_storeA rfl _ _ rfl w.heap.size rfl 0 0 0 0 rfl HG1.out ?_; intro w3 hg3 ht3; have HG3 := Lib.hid hg3; have HB3 := Lib.hid (HB1.out.trans (touch_below ht3 (Nat.le_refl _))); clear hg3 ht3)
    exact bodyPost_ret (results_arc rfl _ _ w.heap.size 0 0 false rfl rfl HG3.out) rfl ⟨rfl, HB3.out⟩

end Go.Proofs.Ytieldehghmikkaa
