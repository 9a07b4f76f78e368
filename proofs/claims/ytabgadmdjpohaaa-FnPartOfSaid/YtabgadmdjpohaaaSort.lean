/-
  The contracts of the library's sort and reverse on a list of at most twelve integers of the call's own.
-/
import Derived.Test.YtabgadmdjpohaaaPut
import Derived.BigRegion
import Derived.Deep.RegionHeld3
namespace Go.Proofs.Ytabgadmdjpohaaa
set_option linter.unusedSimpArgs false
set_option linter.unusedVariables false
set_option linter.unnecessarySimpa false
open Go.RowKit

theorem grown_drewN {w w' : World} {r : Option Nat} (h : w.grownBy w' r) (n : Nat) : w.grownBy (w'.drewN n) r := ⟨h.os, h.tape, h.output, h.size, h.block⟩
theorem grown_drew {w w' : World} {r : Option Nat} (h : w.grownBy w' r) : w.grownBy w'.drew r := ⟨h.os, h.tape, h.output, h.size, h.block⟩
theorem own_drewN {w : World} {B : Nat} {v : Value} {xs : List Int} (h : Own w B v xs) (n : Nat) : Own (w.drewN n) B v xs := h
theorem own_drew1 {w : World} {B : Nat} {v : Value} {xs : List Int} (h : Own w B v xs) : Own w.drew B v xs := h

/-- The places j and j + 1 exchanged. -/
def swapAt (xs : List Int) (i j : Nat) : List Int := (xs.set i (xs.getD j 0)).set j (xs.getD i 0)

theorem swapAt_length (xs : List Int) (i j : Nat) : (swapAt xs i j).length = xs.length := by simp [swapAt]

/-- The number at place j moves down as long as it is less than the one ahead of it. -/
def sink (xs : List Int) : Nat → List Int
  | 0 => xs
  | j + 1 => if xs.getD (j + 1) 0 < xs.getD j 0 then sink (swapAt xs (j + 1) j) j else xs

theorem sink_length : ∀ (j : Nat) (xs : List Int), (sink xs j).length = xs.length := by
  intro j
  induction j with
  | zero => intro xs; rfl
  | succ j ih =>
    intro xs
    unfold sink
    split
    · rw [ih, swapAt_length]
    · rfl

/-- The first k numbers sorted by insertion. -/
def isort (xs : List Int) : Nat → List Int
  | 0 => xs
  | k + 1 => sink (isort xs k) k

theorem isort_length (xs : List Int) (k : Nat) : (isort xs k).length = xs.length := by
  induction k with
  | zero => rfl
  | succ k ih => rw [isort, sink_length, ih]

theorem isNaN_any (x : Int) (w : World) : Calls Try.prog 112 #[.int .i64 x] w fun e w' => e = .returned (.bool false) ∧ w = w' := by
  go_enter Try.func112, Try.ntmps112
  go_wp2
  go_ret
  exact ⟨by simp, rfl⟩

theorem less_yes (x y : Int) (w : World) (h : x < y) : Calls Try.prog 102 #[.int .i64 x, .int .i64 y] w fun e w' => e = .returned (.bool true) ∧ w = w' := by
  go_enter Try.func102, Try.ntmps102
  go_wp2_with (go_at_call 112; refine (isNaN_any _ _).mono ?_; rintro e w' ⟨rfl, rfl⟩)
  go_ret
  exact ⟨by simp [h], rfl⟩
theorem less_no (x y : Int) (w : World) (h : y ≤ x) : Calls Try.prog 102 #[.int .i64 x, .int .i64 y] w fun e w' => e = .returned (.bool false) ∧ w = w' := by
  go_enter Try.func102, Try.ntmps102
  go_wp2_with (go_at_call 112; refine (isNaN_any _ _).mono ?_; rintro e w' ⟨rfl, rfl⟩)
  go_ret
  exact ⟨by simp; omega, rfl⟩

theorem own_swapped {w : World} {B g n cap : Nat} {xs : List Int} (h : Own w B (.slice (some ⟨g, 0, none⟩) n cap) xs) (hn : n = xs.length) (i j : Nat) (x y : Int) (hx : x = xs.getD j 0) (hy : y = xs.getD i 0) :
    Own ((w.setCell ⟨g, i, none⟩ (.int .i64 x)).setCell ⟨g, j, none⟩ (.int .i64 y)) B (.slice (some ⟨g, 0, none⟩) n cap) (swapAt xs i j) ∧ w.grownBy ((w.setCell ⟨g, i, none⟩ (.int .i64 x)).setCell ⟨g, j, none⟩ (.int .i64 y)) (some g) := by
  subst hx hy
  have h1 := own_stored h hn i (xs.getD j 0)
  have h2 := own_stored h1.1 (by rw [hn, List.length_set]) j (xs.getD i 0)
  exact ⟨h2.1, grown_trans h1.2 h2.2⟩

set_option maxRecDepth 100000 in
set_option maxHeartbeats 4000000 in
theorem insertion_any (g n cap B : Nat) (xs : List Int) (w : World) (ho : Own w B (.slice (some ⟨g, 0, none⟩) n cap) xs) (hn : n = xs.length) (hl : n ≤ 12) :
    Calls Try.prog 96 #[.slice (some ⟨g, 0, none⟩) n cap, .int .i64 0, .int .i64 n] w fun e w' => e = .returned (.tuple #[]) ∧ Own w' B (.slice (some ⟨g, 0, none⟩) n cap) (isort xs n) ∧ w.grownBy w' (some g) ∧ w'.heap.size = w.heap.size := by
  have HN := Lib.hid hn
  clear hn
  have hcap : n ≤ cap := by
    rcases own_view ho with ⟨h, _⟩ | ⟨g', cap', h, _, _, h3, _⟩
    · cases h
    · simp only [Value.slice.injEq] at h
      omega
  go_enter Try.func96, Try.ntmps96
  go_wp2
  go_loopw [6] (fun i wr => ∃ k : Nat, 1 ≤ k ∧ (k ≤ n ∨ n = 0 ∧ k = 1) ∧ i = .int .i64 k ∧ Own wr B (.slice (some ⟨g, 0, none⟩) n cap) (isort xs k) ∧ w.grownBy wr (some g) ∧ wr.heap.size = w.heap.size)
    (fun i _ => n - (intOf i).toNat)
  case atStart =>
    refine ⟨1, by omega, by omega, by simp, ?_, World.grownBy.refl _ _, rfl⟩
    simpa [isort, sink] using ho
  case round =>
    obtain ⟨k, hk1, hk, rfl, hown, hgr, hsz⟩ := hrel
    have HSZ := Lib.hid hsz
    clear hsz
    by_cases hlt : k < n
    · obtain ⟨wo, hwo⟩ : ∃ wo : World, wo = wr := ⟨_, rfl⟩
      subst hwo
      go_wp2
      go_loopw [7] (fun i wi => ∃ (j : Nat) (L : List Int), j ≤ k ∧ i = .int .i64 j ∧ L.length = n ∧ sink L j = isort xs (k + 1) ∧ Own wi B (.slice (some ⟨g, 0, none⟩) n cap) L ∧ wo.grownBy wi (some g) ∧ wi.heap.size = wo.heap.size)
        (fun i _ => (intOf i).toNat)
      case atStart => exact ⟨k, isort xs k, Nat.le_refl _, rfl, by rw [isort_length, HN.out], rfl, hown, World.grownBy.refl _ _, rfl⟩
      case round =>
        obtain ⟨j, L, hj, rfl, hL, hsink, hownL, hgrL, hszL⟩ := hrel
        have HL := Lib.hid hL
        have HS := Lib.hid hsink
        have HSZL := Lib.hid hszL
        clear hL hsink hszL
        by_cases hj0 : j = 0
        · subst hj0
          have hd : decide ((0 : Int) < ((0 : Nat) : Int)) = false := by simp
          go_wp2
          go_quiet (fail)
          go_wp2
          go_roundw
          case rel => exact ⟨k + 1, by omega, by omega, by go_num, by rw [← HS.out]; exact own_drewN hownL _, grown_drewN (grown_trans hgr hgrL) _, by have := HSZL.out; have := HSZ.out; simp [World.drewN]; omega⟩
          case measure => simp [intOf]; omega
        · obtain ⟨q, rfl⟩ : ∃ q, j = q + 1 := ⟨j - 1, by omega⟩
          have hc1 := own_cell hownL (q + 1) (by rw [HL.out]; omega)
          have hc2 := own_cell hownL q (by rw [HL.out]; omega)
          obtain ⟨x, hx⟩ : ∃ x, x = L.getD (q + 1) 0 := ⟨_, rfl⟩
          obtain ⟨y, hy⟩ : ∃ y, y = L.getD q 0 := ⟨_, rfl⟩
          rw [← hx] at hc1
          rw [← hy] at hc2
          have hf1 := own_frozen hownL (q + 1)
          have hf2 := own_frozen hownL q
          have HX := Lib.hid hx
          have HY := Lib.hid hy
          clear hx hy hj0
          have b0 : (0 : Int) < (q : Int) + 1 := by omega
          have b1 : (0 : Int) ≤ (q : Int) + 1 := by omega
          have b2 : (q : Int) + 1 < (n : Int) := by omega
          have b3 : (0 : Int) ≤ (q : Int) := by omega
          have b4 : (q : Int) < (n : Int) := by omega
          have b5 : IntKind.i64.wrap ((q : Int) + 1 - 1) = (q : Int) := by rw [show (q : Int) + 1 - 1 = q by omega]; exact IntWalk.i64_in _ (by omega)
          have b6 : ((q : Int) + 1).toNat = q + 1 := by omega
          have b7 : IntKind.i64.wrap (q : Int) = (q : Int) := IntWalk.i64_in _ (by omega)
          by_cases hxy : x < y
          · have HSW := Lib.hid (fun nq : Nat => own_swapped (own_drewN hownL nq) (by rw [HL.out]) (q + 1) q y x HY.out HX.out)
            go_wp2
            go_quiet ((go_at_call 102; exact quiet_left (less_yes _ _ _ hxy)))
            go_wp2
            go_region
            go_wp2
            go_roundw
            case rel =>
              refine ⟨q, swapAt L (q + 1) q, by omega, rfl, by rw [swapAt_length, HL.out], ?_, (HSW.out _).1, grown_trans (grown_drewN hgrL _) (HSW.out _).2, ?_⟩
              · rw [← HS.out, sink, if_pos (by rw [← HX.out, ← HY.out]; exact hxy)]
              · have := HSZL.out
                simp [World.setCell, World.drewN]
                omega
            case measure => simp [intOf] <;> omega
          · have HXY := Lib.hid hxy
            clear hxy
            go_wp2
            go_quiet ((go_at_call 102; exact quiet_left (less_no _ _ _ HXY.out)))
            go_wp2
            go_roundw
            case rel =>
              refine ⟨k + 1, by omega, by omega, by go_num, ?_, grown_drewN (grown_trans hgr hgrL) _, by have := HSZL.out; have := HSZ.out; simp [World.drewN]; omega⟩
              rw [← HS.out, sink, if_neg (by rw [← HX.out, ← HY.out]; have := HXY.out; omega)]
              exact own_drewN hownL _
            case measure => simp [intOf]; omega
    · have hkn : isort xs k = isort xs n := by
        rcases hk with h | ⟨h1, h2⟩
        · rw [show k = n by omega]
        · subst h1
          subst h2
          rfl
      rw [hkn] at hown
      go_wp2
      go_end0
      exact ⟨rfl, hown, hgr, HSZ.out⟩

set_option maxRecDepth 100000 in
theorem len_any (n : Nat) (hl : n ≤ 12) (w : World) : Calls Try.prog 92 #[.int .u64 n] w fun e w' => (∃ m : Int, e = .returned (.int .i64 m)) ∧ w = w' := by
  have h : n = 0 ∨ n = 1 ∨ n = 2 ∨ n = 3 ∨ n = 4 ∨ n = 5 ∨ n = 6 ∨ n = 7 ∨ n = 8 ∨ n = 9 ∨ n = 10 ∨ n = 11 ∨ n = 12 := by omega
  rcases h with rfl | rfl | rfl | rfl | rfl | rfl | rfl | rfl | rfl | rfl | rfl | rfl | rfl
  all_goals
    go_enter Try.func92, Try.ntmps92
    go_wp2
    go_ret
    exact ⟨⟨_, rfl⟩, rfl⟩

theorem pdq_any (g n cap B : Nat) (m : Int) (xs : List Int) (w : World) (ho : Own w B (.slice (some ⟨g, 0, none⟩) n cap) xs) (hn : n = xs.length) (hl : n ≤ 12) :
    Calls Try.prog 91 #[.slice (some ⟨g, 0, none⟩) n cap, .int .i64 0, .int .i64 n, .int .i64 m] w fun e w' => e = .returned (.tuple #[]) ∧ Own w' B (.slice (some ⟨g, 0, none⟩) n cap) (isort xs n) ∧ w.grownBy w' (some g) ∧ w'.heap.size = w.heap.size := by
  have HO := Lib.hid ho
  have HN := Lib.hid hn
  clear hn ho
  have h12 : (n : Int) - 0 ≤ 12 := by omega
  go_enter Try.func91, Try.ntmps91
  go_wp2
  refine wp_loop_rounds 1 ?_
  rw [rounds_succ]
  go_wp2_with fail
  refine (insertion_any g n cap B xs _ HO.out HN.out hl).mono ?_
  rintro e w' ⟨rfl, h1, h2, h3⟩
  have H1 := Lib.hid h1
  have H2 := Lib.hid h2
  have H3 := Lib.hid h3
  clear h1 h2 h3
  go_wp2
  refine bodyPost_ret (results_none rfl _ _ _) rfl ?_
  exact ⟨rfl, H1.out, H2.out, H3.out⟩

theorem sort_any (g n cap B : Nat) (xs : List Int) (w : World) (ho : Own w B (.slice (some ⟨g, 0, none⟩) n cap) xs) (hn : n = xs.length) (hl : n ≤ 12) :
    Calls Try.prog 68 #[.slice (some ⟨g, 0, none⟩) n cap] w fun e w' => e = .returned (.tuple #[]) ∧ Own w' B (.slice (some ⟨g, 0, none⟩) n cap) (isort xs n) ∧ w.grownBy w' (some g) ∧ w'.heap.size = w.heap.size := by
  have HO := Lib.hid ho
  have HN := Lib.hid hn
  clear hn ho
  go_enter Try.func68, Try.ntmps68
  go_wp2_with fail
  refine (len_any n hl _).mono ?_
  rintro e w' ⟨⟨m, rfl⟩, rfl⟩
  go_wp2_with fail
  refine (pdq_any g n cap B m xs _ HO.out HN.out hl).mono ?_
  rintro e w' ⟨rfl, h1, h2, h3⟩
  have H1 := Lib.hid h1
  have H2 := Lib.hid h2
  have H3 := Lib.hid h3
  clear h1 h2 h3
  go_wp2
  go_end0
  exact ⟨rfl, H1.out, H2.out, H3.out⟩

end Go.Proofs.Ytabgadmdjpohaaa
