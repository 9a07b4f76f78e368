/-
  The contract of impl.pairsThat: a labelled loop over pairs of arcs, and a function value that is asked of each pair.
-/
import Derived.Test.YtdeeeiimlcggpaaDoorArcs
import Derived.Deep.LoopGhost
namespace Go.Proofs.YtdeeeiimlcggpaaDoor
set_option linter.unusedSimpArgs false
set_option linter.unusedVariables false
set_option linter.unnecessarySimpa false
open Go.RowKit

/-- The function f, asked of two arcs, tells pr. -/
def ArcFn (f : FuncId) (pr : Nat × Nat → Nat × Nat → Bool) : Prop :=
  ∀ (p q : Nat × Nat) (w : World), Calls Tryd.prog f #[arcV p, arcV q] w fun e w' => e = .returned (.bool (pr p q)) ∧ Below w.heap.size w w'
def IsFn (f : FuncId) : Prop := ∀ (args : Array Value) (w : World), (callFunc f args).run Tryd.prog w = .ok (.enter f args) w

theorem take_snocA (L : List (Nat × Nat)) (k : Nat) (h : k < L.length) : L.take (k + 1) = L.take k ++ [L.getD k (0, 0)] := by
  rw [List.take_add_one, List.getElem?_eq_getElem h]
  simp [List.getD, h]

theorem pairwise_lt {L : List (Nat × Nat)} (h : L.Pairwise (fun p q => p.1 < q.1)) (k j : Nat) (hk : k < j) (hj : j < L.length) : (L.getD k (0, 0)).1 < (L.getD j (0, 0)).1 := by
  have := List.pairwise_iff_getElem.1 h k j (by omega) hj hk
  simpa [List.getD, hj, show k < L.length by omega] using this

set_option maxHeartbeats 4000000 in
theorem pairsThat_any (f : FuncId) (pr : Nat × Nat → Nat × Nat → Bool) (hf : ArcFn f pr) (hi : IsFn f) (v : Value) (L : List (Nat × Nat)) (w : World) (hv : RdA w v L)
    (hp : L.Pairwise (fun p q => p.1 < q.1)) (hl : L.length ≤ 990) : Calls Tryd.prog 54 #[.func (.func f) #[] #[], v] w (GivesI w (pairsL pr L)) := by
  obtain ⟨ao, ca, rfl, hlc, hcm, hx⟩ := hv
  obtain ⟨n, hn⟩ : ∃ n, n = L.length := ⟨_, rfl⟩
  rw [← hn] at hl hlc ⊢
  have HN := Lib.hid hn
  clear hn
  have HX := Lib.hid hx
  have HF := Lib.hid hf
  have HP := Lib.hid hp
  clear hp
  have HI := Lib.hid hi
  clear hx hf hi
  go_enter Tryd.func54, Tryd.ntmps54
  go_wp2
  go_step3
  go_wp2
  go_step3
  go_wp2
  go_loopg [5, 12] n (fun g c i wr => ∃ (j s : Nat), j + g = n ∧ i = .int .i64 j ∧ c = .int .i64 s ∧ Hid (s = pairsL pr (L.take j)) ∧ Below w.heap.size w wr)
  case atStart => exact ⟨0, 0, by omega, rfl, rfl, Lib.hid (by simp [pairsL]), Below.refl _ _⟩
  case round =>
    obtain ⟨j, s, hjg, rfl, rfl, HS, hbel⟩ := hrel
    cases gk with
    | zero =>
      have hjn : j = n := by omega
      have hr : pairsL pr L = s := by rw [HS.out, hjn, HN.out, List.take_length]
      go_wp2
      rw [Exit.noGoto_ret]
      go_ret
      rw [hr]
      exact ⟨rfl, hbel⟩
    | succ g =>
      have hlt : j < n := by omega
      rcases HX.out with hx | ⟨bb, rfl, hcx⟩
      · have := HN.out
        rw [hx] at this
        simp at this
        omega
      obtain ⟨hc1, hc2⟩ := hcx j (by have := HN.out; omega)
      rw [← hbel.cell (World.block_lt_of_cell? w _ hc1)] at hc1
      rw [← hbel.cell (World.block_lt_of_cell? w _ hc2)] at hc2
      obtain ⟨⟨a, b⟩, hy⟩ : ∃ y, y = L.getD j (0, 0) := ⟨_, rfl⟩
      rw [← hy] at hc1 hc2
      have HY := Lib.hid hy
      dsimp only at hc1 hc2
      clear hy
      have HCX := Lib.hid hcx
      clear hcx
      go_wp2
      obtain ⟨W, hW⟩ : ∃ W, W = wr.alloc (.cells #[.int .i64 a, .int .i64 b] 62) := ⟨_, rfl⟩
      have hWs : W.heap.size = wr.heap.size + 1 := by rw [hW]; simp
      have hb0 : W.heap[wr.heap.size]? = some (.cells #[.int .i64 a, .int .i64 b] 62 (0, 0)) := by rw [hW]; exact heap_alloc_new _ _
      have hbW : Below w.heap.size w W := by rw [hW]; exact hbel.alloc hbel.size _
      have HWB := Lib.hid hbW
      have hrs : w.heap.size ≤ wr.heap.size := hbel.size
      obtain ⟨B, hB⟩ : ∃ B, B = wr.heap.size := ⟨_, rfl⟩
      rw [← hW]
      rw [← hB] at hb0 hWs hrs ⊢
      have HB0 := Lib.hid hb0
      clear hW hbW hbel hb0 hc1 hc2 hB
      go_loopg [5, 18] j (fun g2 c i wx => ∃ (k s2 : Nat), k + g2 = j ∧ i = .int .i64 k ∧ c = .int .i64 s2 ∧ Hid (s2 = s + (L.take k).countP fun x => pr x (L.getD j (0, 0))) ∧ Below W.heap.size W wx)
      case atStart => exact ⟨0, s, by omega, rfl, rfl, Lib.hid (by simp), Below.refl _ _⟩
      case round =>
        obtain ⟨k, s2, hkg, rfl, rfl, HS2, hbel2⟩ := hrel
        have hbx := HWB.out.trans (hbel2.mono (by omega))
        have hkj : k ≤ j := by omega
        obtain ⟨hc1, hc2⟩ := HCX.out k (by have := HN.out; omega)
        rw [← hbx.cell (World.block_lt_of_cell? w _ hc1)] at hc1
        rw [← hbx.cell (World.block_lt_of_cell? w _ hc2)] at hc2
        have hBc : wr.heap[B]? = some (.cells #[.int .i64 a, .int .i64 b] 62 (0, 0)) := (hbel2.block B (by omega)).trans HB0.out
        have hB1 : wr.cell? ⟨B, 0, none⟩ = some (.int .i64 a) := by simp [World.cell?, hBc]
        have hB2 : wr.cell? ⟨B, 1, none⟩ = some (.int .i64 b) := by simp [World.cell?, hBc]
        have hBl : B < wr.heap.size := (Array.getElem?_eq_some_iff.1 hBc).1
        clear hBc
        cases gk with
        | zero =>
          have hkj : k = j := by omega
          subst hkj
          rw [← HY.out] at hc1 hc2
          dsimp only at hc1 hc2
          go_wp2
          go_roundg g
          case measure => omega
          case rel =>
            refine ⟨k + 1, s2, by omega, by go_num, rfl, Lib.hid ?_, hbx.alloc hbx.size _⟩
            rw [HS2.out, take_snocA L k (by have := HN.out; omega), pairsL_snoc, HS.out]
        | succ g2 =>
          have hlt2 := pairwise_lt HP.out k j (by omega) (by have := HN.out; omega)
          rw [← HY.out] at hlt2
          obtain ⟨⟨c, d⟩, hz⟩ : ∃ y, y = L.getD k (0, 0) := ⟨_, rfl⟩
          rw [← hz] at hc1 hc2 hlt2
          have HZ := Lib.hid hz
          dsimp only at hc1 hc2 hlt2
          clear hz
          have hne : ¬ (c = a) := by omega
          have hcf : ∀ (args : Array Value) (w : World), (callFunc f args).run Tryd.prog w = .ok (.enter f args) w := HI.out
          have HXS := Lib.hid hbx
          have hbs := hbx.size
          clear hbx
          cases hpr : pr (c, d) (a, b) with
          | false =>
            have HC := Lib.hid fun (w1 : World) => HF.out (c, d) (a, b) w1
            rw [hpr] at HC
            have HPR := Lib.hid hpr
            clear hpr
            go_wp2_with fail
            refine (HC.out _).mono ?_
            rintro e w5 ⟨rfl, hb5⟩
            have hb6 : Below W.heap.size W w5 := (hbel2.alloc hbel2.size (.cells #[.int .i64 c, .int .i64 d] 62)).trans (hb5.mono (by have := hbel2.size; simp; omega))
            have HB6 := Lib.hid hb6
            clear hb5 hb6
            go_wp2
            go_roundg g2
            case measure => omega
            case rel =>
              refine ⟨k + 1, s2, by omega, by go_num, rfl, Lib.hid ?_, HB6.out⟩
              rw [take_snocA L k (by have := HN.out; omega), List.countP_append, HS2.out, ← HZ.out, ← HY.out]
              simp [HPR.out]
          | true =>
            have hs2 : s2 ≤ 1000000 := by
              have h1 := HS2.out
              have h2 := HS.out
              have h3 := pairsL_le pr (L.take j)
              have h4 : (L.take k).countP (fun x => pr x (L.getD j (0, 0))) ≤ 990 := Nat.le_trans List.countP_le_length (by simp; omega)
              have h5 : (L.take j).length ≤ 990 := by simp; omega
              have h6 := Nat.mul_le_mul h5 h5
              omega
            have HC := Lib.hid fun (w1 : World) => HF.out (c, d) (a, b) w1
            rw [hpr] at HC
            have HPR := Lib.hid hpr
            clear hpr
            go_wp2_with fail
            refine (HC.out _).mono ?_
            rintro e w5 ⟨rfl, hb5⟩
            have hb6 : Below W.heap.size W w5 := (hbel2.alloc hbel2.size (.cells #[.int .i64 c, .int .i64 d] 62)).trans (hb5.mono (by have := hbel2.size; simp; omega))
            have HB6 := Lib.hid hb6
            clear hb5 hb6
            go_wp2
            go_roundg g2
            case measure => omega
            case rel =>
              refine ⟨k + 1, s2 + 1, by omega, by go_num, by go_num, Lib.hid ?_, HB6.out⟩
              rw [take_snocA L k (by have := HN.out; omega), List.countP_append, HS2.out, ← HZ.out, ← HY.out]
              simp [HPR.out]
              omega

/-- What pairsThat tells of functions that tell of arcs by their numbers. -/
theorem cross_fn : IsFn 55 := fun args w => by kernel_rfl
theorem cross_arc : ArcFn 55 crossB := crosses_any
end Go.Proofs.YtdeeeiimlcggpaaDoor
