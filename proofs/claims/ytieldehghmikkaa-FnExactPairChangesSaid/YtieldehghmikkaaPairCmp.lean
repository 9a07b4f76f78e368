/-
  The contracts of cmp.Compare, cmp.Or and (pair).compare; slices of pairs: what reads as a list of pairs, what owns one.
-/
import Derived.Test.YtieldehghmikkaaArcs
import Derived.Test.YtieldehghmikkaaPairMath
import Derived.Deep.RegionHeld3
import Derived.BigRegion
namespace Go.Proofs.Ytieldehghmikkaa
set_option linter.unusedSimpArgs false
set_option linter.unusedVariables false
set_option linter.unnecessarySimpa false
open Go.RowKit
set_option maxRecDepth 100000

def cmpI (a b : Int) : Int := if a < b then -1 else if b < a then 1 else 0
def cmpP (p q : Nat × Nat) : Int := if cmpI p.1 q.1 ≠ 0 then cmpI p.1 q.1 else cmpI p.2 q.2

theorem cmpCompare_any (a b : Int) (w : World) : Calls Try.prog 117 #[.int .i64 a, .int .i64 b] w fun e w' => e = .returned (.int .i64 (cmpI a b)) ∧ w = w' := by
  unfold cmpI
  by_cases h1 : a < b
  · rw [if_pos h1]
    go_enter Try.func117, Try.ntmps117
    go_wp2_with ((go_at_call 118; refine (isNaN_any _ _).mono ?_; rintro e w' ⟨rfl, rfl⟩))
    go_ret
    exact ⟨rfl, rfl⟩
  · rw [if_neg h1]
    by_cases h2 : b < a
    · rw [if_pos h2]
      go_enter Try.func117, Try.ntmps117
      go_wp2_with ((go_at_call 118; refine (isNaN_any _ _).mono ?_; rintro e w' ⟨rfl, rfl⟩))
      go_ret
      exact ⟨rfl, rfl⟩
    · rw [if_neg h2]
      go_enter Try.func117, Try.ntmps117
      go_wp2_with ((go_at_call 118; refine (isNaN_any _ _).mono ?_; rintro e w' ⟨rfl, rfl⟩))
      go_ret
      exact ⟨rfl, rfl⟩

theorem cmpOr_any (a b : Int) (g : Nat) (w : World) (h0 : w.cell? ⟨g, 0, none⟩ = some (.int .i64 a)) (h1 : w.cell? ⟨g, 1, none⟩ = some (.int .i64 b)) :
    Calls Try.prog 116 #[.slice (some ⟨g, 0, none⟩) 2 2] w fun e w' => e = .returned (.int .i64 (if a ≠ 0 then a else b)) ∧ w = w' := by
  by_cases ha : a = 0
  · have ha' : (a != 0) = false := by simp [ha]
    by_cases hb : b = 0
    · have hb' : (b != 0) = false := by simp [hb]
      rw [if_neg (by simp [ha]), hb]
      rw [hb] at h1 hb'
      rw [ha] at h0 ha'
      clear ha hb
      go_enter Try.func116, Try.ntmps116
      go_wp2
      refine wp_loop_rounds 3 ?_
      rw [rounds_succ]
      go_wp2
      rw [rounds_succ]
      go_wp2
      rw [rounds_succ]
      go_wp2
      go_ret
      exact ⟨rfl, rfl⟩
    · have hb' : (b != 0) = true := by simp [hb]
      rw [if_neg (by simp [ha])]
      rw [ha] at h0 ha'
      clear ha hb
      go_enter Try.func116, Try.ntmps116
      go_wp2
      refine wp_loop_rounds 3 ?_
      rw [rounds_succ]
      go_wp2
      rw [rounds_succ]
      go_wp2
      go_ret
      exact ⟨rfl, rfl⟩
  · have ha' : (a != 0) = true := by simp [ha]
    rw [if_pos ha]
    clear ha
    go_enter Try.func116, Try.ntmps116
    go_wp2
    refine wp_loop_rounds 3 ?_
    rw [rounds_succ]
    go_wp2
    go_ret
    exact ⟨rfl, rfl⟩

theorem cells_two {w : World} {x y : Value} {t : TypeId} {n : Nat} (hn : n = w.heap.size) : (w.alloc (.cells #[x, y] t)).cell? ⟨n, 0, none⟩ = some x ∧ (w.alloc (.cells #[x, y] t)).cell? ⟨n, 1, none⟩ = some y := by
  subst hn
  have h := heap_alloc_new w (.cells #[x, y] t)
  simp only [World.cell?, h]
  exact ⟨rfl, rfl⟩

theorem cells_twoD {w : World} {x y : Value} {t : TypeId} {n : Nat} (hn : n = w.heap.size) : (w.alloc (.cells #[x, y] t)).drew.cell? ⟨n, 0, none⟩ = some x ∧ (w.alloc (.cells #[x, y] t)).drew.cell? ⟨n, 1, none⟩ = some y := cells_two hn

theorem cellAl {w : World} {p : Addr} {v : Value} (h : w.cell? p = some v) (o : Obj) : (w.alloc o).cell? p = some v := by
  have hb : Below w.heap.size w (w.alloc o) := (Below.refl _ _).alloc (Nat.le_refl _) _
  rw [hb.cell (World.block_lt_of_cell? w _ h)]
  exact h

set_option maxHeartbeats 1600000 in
theorem compare_any (p q : Nat × Nat) (w : World) : Calls Try.prog 115 #[arcV p, arcV q] w fun e w' => e = .returned (.int .i64 (cmpP p q)) ∧ Below w.heap.size w w' := by
  obtain ⟨a, b⟩ := p
  obtain ⟨c, d⟩ := q
  unfold arcV cmpP
  obtain ⟨x, hx⟩ : ∃ x, x = cmpI (a : Int) c := ⟨_, rfl⟩
  obtain ⟨y, hy⟩ : ∃ y, y = cmpI (b : Int) d := ⟨_, rfl⟩
  rw [← hx, ← hy]
  have HX := Lib.hid fun (w0 : World) => cmpCompare_any a c w0
  have HY := Lib.hid fun (w0 : World) => cmpCompare_any b d w0
  rw [← hx] at HX
  rw [← hy] at HY
  have HO := Lib.hid fun (g : Nat) (w0 : World) (h0 : w0.cell? ⟨g, 0, none⟩ = some (.int .i64 x)) (h1 : w0.cell? ⟨g, 1, none⟩ = some (.int .i64 y)) => cmpOr_any x y g w0 h0 h1
  obtain ⟨r, hr⟩ : ∃ r, r = if x ≠ 0 then x else y := ⟨_, rfl⟩
  rw [← hr] at HO ⊢
  clear hx hy hr
  have g1 : ∀ w0 : World, ∀ A1 A2 A3 A4 : Value, ((w0.alloc (.cells #[A1, A2] 53)).alloc (.cells #[A3, A4] 53)).cell? ⟨w0.heap.size, 0, none⟩ = some A1 ∧ ((w0.alloc (.cells #[A1, A2] 53)).alloc (.cells #[A3, A4] 53)).cell? ⟨w0.heap.size, 1, none⟩ = some A2 ∧ ((w0.alloc (.cells #[A1, A2] 53)).alloc (.cells #[A3, A4] 53)).cell? ⟨w0.heap.size + 1, 0, none⟩ = some A3 ∧ ((w0.alloc (.cells #[A1, A2] 53)).alloc (.cells #[A3, A4] 53)).cell? ⟨w0.heap.size + 1, 1, none⟩ = some A4 := fun w0 A1 A2 A3 A4 => by
    have c1 := cells_two (w := w0) (x := A1) (y := A2) (t := 53) rfl
    have c2 := cells_two (w := w0.alloc (.cells #[A1, A2] 53)) (x := A3) (y := A4) (t := 53) (n := w0.heap.size + 1) (by simp)
    exact ⟨cellAl c1.1 _, cellAl c1.2 _, c2.1, c2.2⟩
  obtain ⟨f1, f2, f3, f4⟩ := g1 w (.int .i64 a) (.int .i64 b) (.int .i64 c) (.int .i64 d)
  clear g1
  go_enter Try.func115, Try.ntmps115
  go_wp2
  obtain ⟨W, hW⟩ : ∃ W, W = (w.alloc (.cells #[.int .i64 a, .int .i64 b] 53)).alloc (.cells #[.int .i64 c, .int .i64 d] 53) := ⟨_, rfl⟩
  have hb : Below w.heap.size w W := by rw [hW]; exact ((Below.refl _ _).alloc (Nat.le_refl _) _).alloc (by simp) _
  have hs : W.heap.size = w.heap.size + 1 + 1 := by rw [hW]; simp
  rw [← hW] at f1 f2 f3 f4 ⊢
  clear hW
  go_region_held3 (fun w' => w'.cell? ⟨w.heap.size, 0, none⟩ = some (.int .i64 a) ∧ w'.cell? ⟨w.heap.size, 1, none⟩ = some (.int .i64 b) ∧ w'.cell? ⟨w.heap.size + 1, 0, none⟩ = some (.int .i64 c) ∧ w'.cell? ⟨w.heap.size + 1, 1, none⟩ = some (.int .i64 d)) (first | exact ⟨f1, f2, f3, f4⟩ | exact ⟨cellAl f1 (.cells #[.int .i64 x, .int .i64 y] 3), cellAl f2 (.cells #[.int .i64 x, .int .i64 y] 3), cellAl f3 (.cells #[.int .i64 x, .int .i64 y] 3), cellAl f4 (.cells #[.int .i64 x, .int .i64 y] 3)⟩) (first | (go_at_call_of 117 (Value.int IntKind.i64 (a : Int)); refine (HX.out _).mono ?_; rintro e w' ⟨rfl, rfl⟩) | (go_at_call_of 117 (Value.int IntKind.i64 (b : Int)); refine (HY.out _).mono ?_; rintro e w' ⟨rfl, rfl⟩) | (go_at_call 116; (first | refine (HO.out _ _ (cells_two hs.symm).1 (cells_two hs.symm).2).mono ?_ | refine (HO.out _ _ (cells_twoD hs.symm).1 (cells_twoD hs.symm).2).mono ?_); rintro e w' ⟨rfl, rfl⟩))
  all_goals go_wp2
  all_goals go_ret
  all_goals (first | exact ⟨rfl, hb.alloc hb.size _⟩ | exact ⟨rfl, (hb.alloc hb.size _).drew⟩)

end Go.Proofs.Ytieldehghmikkaa
