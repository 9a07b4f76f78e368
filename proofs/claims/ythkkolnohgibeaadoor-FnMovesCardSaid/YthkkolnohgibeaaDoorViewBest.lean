/-
  The contract of l7Best, and of ViewMoves of the model.
-/
import Derived.Test.YthkkolnohgibeaaDoorViewShare
import Derived.Test.YthkkolnohgibeaaDoorMoves
namespace Go.Proofs.YthkkolnohgibeaaDoor
set_option linter.unusedSimpArgs false
set_option linter.unusedVariables false
set_option linter.unnecessarySimpa false
open Go.RowKit
set_option maxRecDepth 100000

theorem bestR_le {T : Nat → Nat → Nat} {Q : Nat} (hT : ∀ x y, T x y ≤ 8) : ∀ d row used, bestR T Q d row used ≤ 8 * d := by
  intro d
  induction d with
  | zero => intro row used; exact Nat.le_refl _
  | succ d ih =>
    intro row used
    unfold bestR
    obtain ⟨_, _, h⟩ := fold_ge (fun c => used.testBit c) (fun c => T row c + bestR T Q d (row + 1) (used ||| 2 ^ c)) (List.range Q) (bestR T Q d (row + 1) used)
    have h0 := ih (row + 1) used
    rcases h with h | ⟨c, _, _, h⟩
    · rw [h]; omega
    · have h1 := ih (row + 1) (used ||| 2 ^ c)
      have h2 := hT row c
      rw [h]; omega

/-- The best of the first c columns. -/
def bestTo (T : Nat → Nat → Nat) (Q d row used c : Nat) : Nat := (List.range c).foldl (fun m c => if used.testBit c then m else max m (T row c + bestR T Q d (row + 1) (used ||| 2 ^ c))) (bestR T Q d (row + 1) used)
theorem bestTo_zero (T : Nat → Nat → Nat) (Q d row used : Nat) : bestTo T Q d row used 0 = bestR T Q d (row + 1) used := rfl
theorem bestTo_end (T : Nat → Nat → Nat) (Q d row used : Nat) : bestTo T Q d row used Q = bestR T Q (d + 1) row used := rfl
theorem bestTo_succ (T : Nat → Nat → Nat) (Q d row used c : Nat) : bestTo T Q d row used (c + 1) = if used.testBit c then bestTo T Q d row used c else max (bestTo T Q d row used c) (T row c + bestR T Q d (row + 1) (used ||| 2 ^ c)) := by
  unfold bestTo
  rw [List.range_succ, List.foldl_append]
  rfl
theorem bestTo_le {T : Nat → Nat → Nat} {Q : Nat} (hT : ∀ x y, T x y ≤ 8) (d row used c : Nat) : bestTo T Q d row used c ≤ 8 * d + 8 := by
  obtain ⟨_, _, h⟩ := fold_ge (fun c => used.testBit c) (fun c => T row c + bestR T Q d (row + 1) (used ||| 2 ^ c)) (List.range c) (bestR T Q d (row + 1) used)
  have h0 := bestR_le hT (Q := Q) d (row + 1) used
  unfold bestTo
  rcases h with h | ⟨c', _, _, h⟩
  · rw [h]; omega
  · have h1 := bestR_le hT (Q := Q) d (row + 1) (used ||| 2 ^ c')
    have h2 := hT row c'
    rw [h]; omega

theorem shift_fact : ∀ b, b < 256 → ∀ t, t < 8 → (bits BinOp.and IntKind.i64 ((b : Nat) / 2 ^ t : Int) 1 == 0) = !b.testBit t := by decide +kernel
theorem or64_fact : ∀ b, b < 256 → ∀ t, t < 8 → bits BinOp.or IntKind.i64 ((b : Nat) : Int) (IntKind.i64.wrap (2 ^ t)) = ((b ||| 2 ^ t : Nat) : Int) := by decide +kernel

theorem quiet_mk {P : Program} {f : FuncId} {args : Array Value} {w : World} {n : Nat} {r : Int} (h : Calls P f args (w.drewN n) (QI (w.drewN n) r)) : Calls P f args (w.drewN n) fun e w'' => e = .returned (.int .i64 r) ∧ ∃ m, w'' = w.drewN m :=
  h.mono fun _ _ ⟨he, m, hm⟩ => ⟨he, n + m, by rw [hm, World.drewN_drewN]⟩
theorem rdM_quiet {w w' : World} {v : Value} {xss : List (List Int)} (h : RdM w v xss) (hq : Quiet w w') : RdM w' v xss := rdM_below h hq.below

set_option maxHeartbeats 4000000 in
theorem l7Best_v (v : Value) (T : Nat → Nat → Nat) (xss : List (List Int)) (P Q : Nat) (hP : P ≤ 8) (hQ : Q ≤ 8) (hT : ∀ x y, T x y ≤ 8) (hl : xss.length = P) (hr : ∀ x, x < P → (xss.getD x []).length = Q ∧ ∀ y, y < Q → (xss.getD x []).getD y 0 = (T x y : Int)) :
    ∀ d row used, row + d = P → used < 256 → ∀ w, RdM w v xss → Calls Tryd.prog 30 #[v, .int .i64 (row : Nat), .int .i64 (used : Nat)] w (QI w (bestR T Q d row used)) := by
  intro d
  induction d with
  | zero =>
    intro row used hd hu w hv
    obtain ⟨ao, ca, vs, hvl, rfl, h1, h2, h3, h4⟩ := hv
    have he : row = xss.length := by omega
    clear h3 h4 hr
    subst he
    go_enter Tryd.func30, Tryd.ntmps30
    go_wp2
    go_ret
    exact ⟨rfl, Quiet.refl _⟩
  | succ d ih =>
    intro row used hd hu w hv
    have HV := Lib.hid hv
    have HIH := Lib.hid ih
    clear ih
    obtain ⟨ao, ca, vs, hvl, rfl, h1, h2, h3, h4⟩ := hv
    rcases h3 with h3 | ⟨b, off, rfl, hc⟩
    · rw [h3] at hl; simp at hl; omega
    · have hrow := hr row (by omega)
      have hck := hc row (by omega)
      have hrk := h4 row (by omega)
      obtain ⟨u, hu0⟩ : ∃ u, u = vs.getD row undef := ⟨_, rfl⟩
      obtain ⟨ys, hys⟩ : ∃ ys, ys = xss.getD row [] := ⟨_, rfl⟩
      rw [← hu0] at hck hrk
      rw [← hys] at hrk hrow
      obtain ⟨hyl, hyv⟩ := hrow
      have HYV := Lib.hid hyv
      have HRK := Lib.hid hrk
      obtain ⟨uo, uc, rfl, hrd, _, _⟩ := hrk
      rw [hyl] at hck HRK
      have HRD := Lib.hid hrd
      have HYL := Lib.hid hyl
      obtain ⟨p, hp⟩ : ∃ p, p = xss.length := ⟨_, rfl⟩
      rw [← hp] at HV HIH hl ⊢
      have hne : ((row : Int) == (p : Int)) = false := by simp; omega
      have brow : (row : Int) < p := by omega
      have HC := Lib.hid hck
      have HIH1 := Lib.hid (HIH.out (row + 1) used (by omega) hu _ HV.out)
      have hb0 := bestR_le hT (Q := Q) d (row + 1) used
      have HL := Lib.hid hl
      clear hu0 hys hyl hyv hrd hp hc h4 hr hl
      go_enter Tryd.func30, Tryd.ntmps30
      go_wp2_with fail
      refine HIH1.out.mono ?_
      rintro e w1 ⟨rfl, hq1⟩
      have HQ1 := Lib.hid hq1
      clear hq1
      go_wp2
      go_loopw [7, 8] (fun m c wr => ∃ (k s : Nat), k ≤ Q ∧ c = .int .i64 k ∧ m = .int .i64 s ∧ Hid (s = bestTo T Q d row used k) ∧ Quiet w wr) (fun _ c _ => Q - (intOf c).toNat)
      case atStart => exact ⟨0, _, Nat.zero_le _, rfl, rfl, Lib.hid rfl, HQ1.out⟩
      case round =>
        obtain ⟨k, s, hk, rfl, rfl, HS, hq⟩ := hrel
        have hck : wr.cell? ⟨b, off + row, none⟩ = some (.slice uo Q uc) := by obtain ⟨n, rfl⟩ := hq; exact HC.out
        have hs : s ≤ 1000 := by have := HS.out; have := bestTo_le hT (Q := Q) d row used k; omega
        by_cases hkQ : k < Q
        · have hsh := shift_fact used hu k (by omega)
          have hor := or64_fact used hu k (by omega)
          have hol := or_lt used hu k (by omega)
          have hst := bestTo_succ T Q d row used k
          cases htb : used.testBit k
          · rw [htb] at hsh hst
            have hsh : (bits BinOp.and IntKind.i64 ((used : Int) / 2 ^ k) 1 == 0) = true := hsh
            rw [if_neg (by simp)] at hst
            have HIH2 := Lib.hid fun (n : Nat) => quiet_mk (HIH.out (row + 1) (used ||| 2 ^ k) (by omega) hol (wr.drewN n) (rdM_quiet HV.out (hq.drewN n)))
            rcases HRD.out with h0 | ⟨bb, oo, rfl, hcr⟩
            · have := HYL.out; rw [h0] at this; simp at this; omega
            have hcz : wr.cell? ⟨bb, oo + k, none⟩ = some (.int .i64 (T row k : Nat)) := by
              have e1 := hcr k (by rw [HYL.out]; exact hkQ)
              rw [HYV.out k hkQ] at e1
              obtain ⟨n, rfl⟩ := hq
              exact e1
            have hr1 := bestR_le hT (Q := Q) d (row + 1) (used ||| 2 ^ k)
            have ht1 := hT row k
            obtain ⟨r, hre⟩ : ∃ r, r = bestR T Q d (row + 1) (used ||| 2 ^ k) := ⟨_, rfl⟩
            obtain ⟨t, hte⟩ : ∃ t, t = T row k := ⟨_, rfl⟩
            obtain ⟨o, hoe⟩ : ∃ o, o = used ||| 2 ^ k := ⟨_, rfl⟩
            rw [← hre] at hr1 HIH2 hst
            rw [← hte] at ht1 hcz hst
            rw [← hoe] at hor hol HIH2
            have bk : (k : Int) < Q := by omega
            have HST := Lib.hid hst
            have he1 : IntKind.i64.wrap ((row : Int) + 1) = (row : Int) + 1 := IntWalk.i64_in _ (by omega)
            have he2 : bits BinOp.or IntKind.i64 (used : Int) (wrap64 (2 ^ k)) = (o : Int) := by rw [← IntWalk.i64_left]; exact hor
            rw [show ((row + 1 : Nat) : Int) = (row : Int) + 1 by omega] at HIH2
            clear hst hcr hre hte hoe
            go_wp2
            go_quiet ((go_at_call 30; (first | rw [he1] | rw [he2] | skip); exact HIH2.out _))
            go_wp2
            go_roundw
            case rel => exact ⟨k + 1, max s (t + r), by omega, by go_num, by go_num, Lib.hid (by rw [HST.out, ← HS.out]), hq.drewN _⟩
            case measure => simp [intOf]; omega
          · rw [htb] at hsh hst
            have hsh : (bits BinOp.and IntKind.i64 ((used : Int) / 2 ^ k) 1 == 0) = false := hsh
            rw [if_pos rfl] at hst
            have HST := Lib.hid hst
            clear hst
            go_wp2
            go_roundw
            case rel => exact ⟨k + 1, s, by omega, by go_num, rfl, Lib.hid (by rw [HST.out]; exact HS.out), hq⟩
            case measure => simp [intOf]; omega
        · have hkQ : k = Q := by omega
          subst hkQ
          go_wp2
          go_ret
          exact ⟨ret_int (by rw [HS.out, bestTo_end]), hq⟩

end Go.Proofs.YthkkolnohgibeaaDoor
