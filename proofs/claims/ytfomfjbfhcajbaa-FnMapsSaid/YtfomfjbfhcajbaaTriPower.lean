/-
  The contracts of NumberPower (impl and spec).
-/
import Derived.Test.YtfomfjbfhcajbaaTriAll
namespace Go.Proofs.Ytfomfjbfhcajbaa
set_option linter.unusedSimpArgs false
set_option linter.unusedVariables false
set_option linter.unnecessarySimpa false
open Go.RowKit
open Go.ChangeMaps (setBlock heap_setBlock_same heap_setBlock_other)
set_option maxRecDepth 100000

theorem tri_grown_set (w : World) (b i : Nat) (v : Value) : w.grownBy (w.setCell ⟨b, i, none⟩ v) (some b) :=
  ⟨rfl, rfl, rfl, by simp [World.setCell], fun k _ hk => RowKit.Below.heap_setCell _ _ _ _ (fun e => hk (by rw [e]))⟩

set_option maxHeartbeats 800000 in
theorem turn_more (tb mb fid : Nat) (G : Int → Int → Int) (w : World) (h : TriAt w tb mb) :
    Calls Try.prog 65 #[.pointer (some ⟨tb, 0, none⟩), .func (.func fid) #[] #[]] w fun e w' => e = .returned (.tuple #[]) ∧ TriOk w' tb mb fid G 0 ∧ TriAt w' tb mb ∧ (∀ B, B ≤ tb → B ≤ mb → B ≤ w.heap.size → Below B w w') ∧ ∃ wm, w.grownBy wm (some mb) ∧ wm.grownBy w' (some tb) := by
  obtain ⟨hne, hlt, ⟨v0, hv0⟩, hc1, hfz, es, clock, hes⟩ := h
  obtain ⟨w1, hrun, hM, hg⟩ := map_clear hes 0 G
  have hc1' := hg.cell hc1 (fun e => hne (by simpa using e))
  have hv0' := hg.cell hv0 (fun e => hne (by simpa using e))
  have hfz' : w1.frozen? ⟨tb, 0, none⟩ = false := by rw [hg.frozen_far _ hlt (fun e => hne (by simpa using e))]; exact hfz
  have HM := Lib.hid hM
  have HG := Lib.hid hg
  have HES := Lib.hid hes
  clear hM hg
  have hcl : ∀ ty, (Builtin.clear_ #[52] ty #[.map (some mb)]).run Try.prog w = .ok (.tuple #[]) w1 := fun ty => hrun
  go_enter Try.func65, Try.ntmps65
  go_wp2
  go_end0
  have hMs : MapOk (w1.setCell ⟨tb, 0, none⟩ (.func (.func fid) #[] #[])) mb G 0 := by
    obtain ⟨es', clock', hb, r⟩ := HM.out
    exact ⟨es', clock', by rw [RowKit.Below.heap_setCell _ _ _ _ (fun e => hne (by simpa using e.symm))]; exact hb, r⟩
  refine ⟨rfl, ⟨hne, tri_set_same hv0', ?_, hMs⟩, ⟨hne, ?_, ⟨_, tri_set_same hv0'⟩, ?_, by rw [World.frozen?_setCell]; exact hfz', ?_⟩, ?_⟩
  · rw [tri_set_other (by simp)]
    exact hc1'
  · simp [World.setCell]
    exact Nat.lt_of_lt_of_le hlt HG.out.size
  · rw [tri_set_other (by simp)]
    exact hc1'
  · obtain ⟨es', clock', hb, r⟩ := hMs
    exact ⟨es', clock', hb⟩
  · refine ⟨?_, w1, HG.out, tri_grown_set _ _ _ _⟩
    intro B h1 h2 h3
    exact ((Below.refl _ _).grown HG.out h3 (fun k hk => by cases hk; exact h2)).setCell h1 _


/-- The product of x, x - 1 and so on, j factors. -/
def fallP (x : Int) : Nat → Int
  | 0 => 1
  | j + 1 => fallP x j * (x - j)

/-- The sum over the first c numbers j. -/
def powTo (x n : Int) : Nat → Int
  | 0 => 0
  | c + 1 => powTo x n c + ext fB n c * ext fP x c

def inPow (x n : Int) : Bool := decide (0 ≤ x ∧ x ≤ 9) && decide (0 ≤ n ∧ n ≤ 9)
def numPower (x n : Int) : Int × Bool := if inPow x n then (powTo x n (n.toNat + 1), true) else (0, false)

theorem fall_is : ∀ x : Nat, x < 10 → ∀ j : Nat, j < 10 → ext fP x j = fallP x j := by decide +kernel
theorem fall_bd : ∀ x : Nat, x < 10 → ∀ j : Nat, j < 11 → 0 ≤ fallP x j ∧ fallP x j ≤ 362880 := by decide +kernel
theorem fall_bd2 : ∀ x : Nat, x < 10 → ∀ j : Nat, j < 10 → 0 ≤ ext fP x j ∧ ext fP x j ≤ 362880 := by decide +kernel
theorem blk_bd : ∀ n : Nat, n < 10 → ∀ j : Nat, j < 10 → 0 ≤ ext fB n j ∧ ext fB n j ≤ 10000 := by decide +kernel
theorem pow_bd : ∀ x : Nat, x < 10 → ∀ n : Nat, n < 10 → ∀ c : Nat, c < 11 → 0 ≤ powTo x n c ∧ powTo x n c ≤ 1099511627776 := by decide +kernel

set_option maxHeartbeats 3200000 in
theorem iNumberPower_v (x n : Int) (w : World) (_h0 : (Lit.int .i64 x).wf = true) (_h1 : (Lit.int .i64 n).wf = true) : Calls Try.prog 35 #[.int .i64 x, .int .i64 n] w (GivesIB w (numPower x n)) := by
  have HI := Lib.hid (isUpTo_any 9 x w)
  have HJ := Lib.hid (isUpTo_any 9 n w)
  by_cases hx : 0 ≤ x ∧ x ≤ 9
  · have hdx : decide (0 ≤ x ∧ x ≤ 9) = true := decide_eq_true hx
    rw [hdx] at HI
    by_cases hn : 0 ≤ n ∧ n ≤ 9
    · have hdn : decide (0 ≤ n ∧ n ≤ 9) = true := decide_eq_true hn
      rw [hdn] at HJ
      have hr : numPower x n = (powTo x n (n.toNat + 1), true) := by unfold numPower inPow; rw [hdx, hdn]; rfl
      rw [hr]
      obtain ⟨p, rfl⟩ := Int.eq_ofNat_of_zero_le hn.1
      obtain ⟨y, rfl⟩ := Int.eq_ofNat_of_zero_le hx.1
      rw [Int.toNat_natCast]
      have hle := triMore_le (n := (p : Int)) (by omega)
      have hle2 := triMore_le (n := (y : Int)) (by omega)
      obtain ⟨q, hq⟩ : ∃ q, q = triMore y := ⟨_, rfl⟩
      rw [← hq] at hle2
      have HQ := Lib.hid hq
      obtain ⟨m, hm⟩ : ∃ m, m = p + 1 := ⟨_, rfl⟩
      rw [← hm]
      have HM := Lib.hid hm
      have hm11 : m ≤ 10 := by omega
      obtain ⟨xs, hxs⟩ : ∃ xs, xs = rowTo (ext fB) p (p + 1) := ⟨_, rfl⟩
      have hxl : xs.length = m := by rw [hxs, rowTo_length, hm]
      have hxg : ∀ k, k < m → xs.getD k 0 = ext fB p k := fun k hk => by
        rw [hxs]
        have hk' : k < p + 1 := by omega
        simp [rowTo, List.getD, hk']
      have HX := Lib.hid hxs
      have HXL := Lib.hid hxl
      have HXG := Lib.hid hxg
      clear hr hdx hdn hxs hxl hq hm hxg
      go_enter Try.func35, Try.ntmps35
      go_wp2_with fail
      refine HI.out.mono ?_
      rintro e w' ⟨rfl, rfl⟩
      go_wp2_with fail
      refine HJ.out.mono ?_
      rintro e w' ⟨rfl, rfl⟩
      go_wp2_with fail
      refine (newTriangle_any 40 (ext fB) w).mono ?_
      rintro e w1 ⟨tb, mb, rfl, ht, hmb, hT, hAt, hb1⟩
      have HT := Lib.hid hT
      have HAt := Lib.hid hAt
      have HB1 := Lib.hid hb1
      have hmb1 : mb < w1.heap.size := by
        obtain ⟨_, _, _, es, cl, hb, _⟩ := hT
        exact (Array.getElem?_eq_some_iff.1 hb).1
      have htb1 : tb < w1.heap.size := hAt.2.1
      clear hT hAt hb1
      go_wp2_with fail
      refine (row_any 40 tb mb 0 p (ext fB) all_blocks w1 HT.out HAt.out (by omega) (by unfold maxLen; omega)).mono ?_
      rintro e w2 ⟨v, rfl, hown, _, hAt2, hg⟩
      rw [← HX.out] at hown
      have HAt2 := Lib.hid hAt2
      have HB2 := Lib.hid (HB1.out.grown hg HB1.out.size (fun j hj => by cases hj; exact hmb))
      rcases own_view hown with ⟨_, hnil⟩ | ⟨gb, cap, rfl, hgb, hgl, _⟩
      · have := HXL.out
        rw [hnil] at this
        simp at this
        have := HM.out
        omega
      rw [HXL.out] at hown ⊢
      have HO := Lib.hid hown
      have hsz2 := HB2.out.size
      clear hown hg hAt2
      go_wp2_with fail
      refine (turn_more tb mb 66 (ext fP) w2 HAt2.out).mono ?_
      rintro e w3 ⟨rfl, hT3, _, hb3, wm, hgm, hgt⟩
      have HB3 := Lib.hid (HB2.out.trans (hb3 w.heap.size ht hmb hsz2))
      have HO3 := Lib.hid (own_grown (own_grown HO.out hgm (.inr (by simp [Value.ownBlock]; omega))) hgt (.inr (by simp [Value.ownBlock]; omega)))
      have HT3 := Lib.hid hT3
      clear hT3 hb3 hgm hgt HT HAt HAt2 HO
      have hsz3 := HB3.out.size
      go_wp2
      go_loopw [8, 27] (fun s i wr => ∃ k : Nat, k ≤ m ∧ i = .int .i64 k ∧ s = .int .i64 (powTo y p k) ∧ Own wr w1.heap.size (.slice (some ⟨gb, 0, none⟩) m cap) xs ∧ TriOk wr tb mb 66 (ext fP) (k * q) ∧ Below w.heap.size w wr) (fun _ i _ => m - (intOf i).toNat)
      case atStart => exact ⟨0, Nat.zero_le _, rfl, rfl, HO3.out, by simpa using HT3.out, HB3.out⟩
      case round =>
        obtain ⟨k, hk, rfl, rfl, hownr, hTr, hbr⟩ := hrel
        have hpb := pow_bd y (by omega) p (by omega) k (by omega)
        by_cases hlt : k < m
        · have hck := own_cell hownr k (by rw [HXL.out]; exact hlt)
          rw [HXG.out k hlt] at hck
          have hbb := blk_bd p (by omega) k (by omega)
          have hfb := fall_bd2 y (by omega) k (by omega)
          have hmm := mul_bd hbb.1 hbb.2 hfb.1 hfb.2
          have hpn := pow_bd y (by omega) p (by omega) (k + 1) (by omega)
          have hst : powTo y p (k + 1) = powTo y p k + ext fB p k * ext fP y k := rfl
          have hkq : k * q ≤ 10 * q := Nat.mul_le_mul_right _ (by omega)
          have hsucc : (k + 1) * q = k * q + q := Nat.succ_mul k q
          have HC := Lib.hid (all_falling.2 y (by omega) (by omega) tb mb (k * q) k wr (by omega) (by omega) hTr (by rw [← HQ.out]; unfold maxLen; omega))
          rw [← HQ.out, ← hsucc] at HC
          obtain ⟨b, hb⟩ : ∃ b, b = ext fB p k := ⟨_, rfl⟩
          obtain ⟨f, hf⟩ : ∃ f, f = ext fP y k := ⟨_, rfl⟩
          obtain ⟨s, hs⟩ : ∃ s, s = powTo y p k := ⟨_, rfl⟩
          rw [← hb] at hck hbb hmm hst
          rw [← hf] at HC hfb hmm hst
          rw [← hs] at hpb hst ⊢
          rw [hst] at hpn
          have HST := Lib.hid hst
          have HO := Lib.hid hownr
          have HBR := Lib.hid hbr
          have b1 : wrap64 (b * f) = b * f := IntWalk.wrap64_in _ (by omega)
          have b2 : wrap64 (s + b * f) = s + b * f := IntWalk.wrap64_in _ (by omega)
          clear hownr hTr hbr hb hf hs hst hkq hsucc
          go_wp2_with fail
          refine HC.out.mono ?_
          rintro e w4 ⟨rfl, hT4, hg4⟩
          have HT4 := Lib.hid hT4
          have HO4 := Lib.hid (own_grown HO.out hg4 (.inr (by simp [Value.ownBlock]; omega)))
          have HB4 := Lib.hid (HBR.out.grown hg4 HBR.out.size (fun j hj => by cases hj; exact hmb))
          clear hT4 hg4
          go_wp2
          go_roundw
          case rel => exact ⟨k + 1, by omega, by go_num, by rw [HST.out], HO4.out, HT4.out, HB4.out⟩
          case measure => simp [intOf]; omega
        · have hkm : k = m := by omega
          subst hkm
          have HBR := Lib.hid hbr
          clear hownr hTr hbr
          go_wp2
          go_ret2
          exact ⟨rfl, HBR.out⟩
    · have hdn : decide (0 ≤ n ∧ n ≤ 9) = false := decide_eq_false hn
      rw [hdn] at HJ
      have hr : numPower x n = (0, false) := by unfold numPower inPow; rw [hdx, hdn]; rfl
      rw [hr]
      clear hr hdx hdn hn
      go_enter Try.func35, Try.ntmps35
      go_wp2_with fail
      refine HI.out.mono ?_
      rintro e w' ⟨rfl, rfl⟩
      go_wp2_with fail
      refine HJ.out.mono ?_
      rintro e w' ⟨rfl, rfl⟩
      go_wp2
      go_ret2
      exact ⟨rfl, Below.refl _ _⟩
  · have hdx : decide (0 ≤ x ∧ x ≤ 9) = false := decide_eq_false hx
    rw [hdx] at HI
    have hr : numPower x n = (0, false) := by unfold numPower inPow; rw [hdx]; rfl
    rw [hr]
    clear hr hdx hx
    go_enter Try.func35, Try.ntmps35
    go_wp2_with fail
    refine HI.out.mono ?_
    rintro e w' ⟨rfl, rfl⟩
    go_wp2
    go_ret2
    exact ⟨rfl, Below.refl _ _⟩

set_option maxHeartbeats 3200000 in
theorem sNumberPower_v (x n : Int) (w : World) (_h0 : (Lit.int .i64 x).wf = true) (_h1 : (Lit.int .i64 n).wf = true) : Calls Try.prog 37 #[.int .i64 x, .int .i64 n] w (GivesIB w (numPower x n)) := by
  have HI := Lib.hid (sIn_any x 0 9 w)
  have HJ := Lib.hid (sIn_any n 0 9 w)
  by_cases hx : 0 ≤ x ∧ x ≤ 9
  · have hdx : decide (0 ≤ x ∧ x ≤ 9) = true := decide_eq_true hx
    rw [hdx] at HI
    by_cases hn : 0 ≤ n ∧ n ≤ 9
    · have hdn : decide (0 ≤ n ∧ n ≤ 9) = true := decide_eq_true hn
      rw [hdn] at HJ
      have hr : numPower x n = (powTo x n (n.toNat + 1), true) := by unfold numPower inPow; rw [hdx, hdn]; rfl
      rw [hr]
      obtain ⟨p, rfl⟩ := Int.eq_ofNat_of_zero_le hn.1
      obtain ⟨y, rfl⟩ := Int.eq_ofNat_of_zero_le hx.1
      rw [Int.toNat_natCast]
      obtain ⟨m, hm⟩ : ∃ m, m = p + 1 := ⟨_, rfl⟩
      rw [← hm]
      have HM := Lib.hid hm
      have hm11 : m ≤ 10 := by omega
      clear hr hdx hdn hm
      go_enter Try.func37, Try.ntmps37
      go_wp2_with fail
      refine HI.out.mono ?_
      rintro e w' ⟨rfl, rfl⟩
      go_wp2_with fail
      refine HJ.out.mono ?_
      rintro e w' ⟨rfl, rfl⟩
      go_wp2
      go_loop [6, 7] (fun s i => ∃ k : Nat, k ≤ m ∧ i = .int .i64 k ∧ s = .int .i64 (powTo y p k)) (fun _ i => m - (intOf i).toNat)
      case atStart => exact ⟨0, Nat.zero_le _, rfl, rfl⟩
      case round =>
        obtain ⟨k, hk, rfl, rfl⟩ := hrel
        have hpb := pow_bd y (by omega) p (by omega) k (by omega)
        by_cases hlt : k < m
        · have hle : (k : Int) ≤ (p : Int) := by have := HM.out; omega
          have hbb := blk_bd p (by omega) k (by omega)
          have hfb := fall_bd y (by omega) k (by omega)
          have hmm := mul_bd hbb.1 hbb.2 hfb.1 hfb.2
          have hpn := pow_bd y (by omega) p (by omega) (k + 1) (by omega)
          have hst : powTo y p (k + 1) = powTo y p k + ext fB p k * fallP y k := by rw [← fall_is y (by omega) k (by omega)]; rfl
          have HC := Lib.hid (l3Blocks_v p k w (by omega) (by omega) (by omega) (by omega))
          obtain ⟨b, hb⟩ : ∃ b, b = ext fB p k := ⟨_, rfl⟩
          obtain ⟨s, hs⟩ : ∃ s, s = powTo y p k := ⟨_, rfl⟩
          rw [← hb] at HC hbb hmm hst
          rw [← hs] at hpb hst ⊢
          rw [hst] at hpn
          have HST := Lib.hid hst
          have b1 : wrap64 (b * fallP y k) = b * fallP y k := IntWalk.wrap64_in _ (by omega)
          have b2 : wrap64 (s + b * fallP y k) = s + b * fallP y k := IntWalk.wrap64_in _ (by omega)
          clear hb hs hst
          go_wp2
          go_loop [8, 9] (fun s i => ∃ j : Nat, j ≤ k ∧ i = .int .i64 j ∧ s = .int .i64 (fallP y j)) (fun _ i => k - (intOf i).toNat)
          case atStart => exact ⟨0, Nat.zero_le _, rfl, rfl⟩
          case round =>
            obtain ⟨j, hj, rfl, rfl⟩ := hrel
            by_cases hjk : j < k
            · have hf1 := fall_bd y (by omega) (j + 1) (by omega)
              have hfs : fallP y (j + 1) = fallP y j * ((y : Int) - (j : Int)) := rfl
              obtain ⟨f, hf⟩ : ∃ f, f = fallP y j := ⟨_, rfl⟩
              rw [← hf] at hfs ⊢
              rw [hfs] at hf1
              have HFS := Lib.hid hfs
              have b3 : wrap64 ((y : Int) - (j : Int)) = (y : Int) - (j : Int) := IntWalk.wrap64_in _ (by omega)
              have b4 : wrap64 (f * ((y : Int) - (j : Int))) = f * ((y : Int) - (j : Int)) := IntWalk.wrap64_in _ (by omega)
              have b5 : (j : Int) < (k : Int) := by omega
              clear hf hfs
              go_wp2
              go_round
              case rel => exact ⟨j + 1, by omega, by go_num, by rw [HFS.out]⟩
              case measure => simp [intOf]; omega
            · have hjk : j = k := by omega
              subst hjk
              obtain ⟨f, hf⟩ : ∃ f, f = fallP y j := ⟨_, rfl⟩
              rw [← hf] at hfb hmm hpn b1 b2 HST ⊢
              clear hf
              go_wp2_with fail
              refine HC.out.mono ?_
              rintro e w' ⟨rfl, rfl⟩
              go_wp2
              go_round
              case rel => exact ⟨j + 1, by omega, by go_num, by rw [HST.out]⟩
              case measure => simp [intOf]; omega
        · have hkm : k = m := by omega
          subst hkm
          have hle : ¬ (k : Int) ≤ (p : Int) := by have := HM.out; omega
          go_wp2
          go_ret2
          exact ⟨rfl, Below.refl _ _⟩
    · have hdn : decide (0 ≤ n ∧ n ≤ 9) = false := decide_eq_false hn
      rw [hdn] at HJ
      have hr : numPower x n = (0, false) := by unfold numPower inPow; rw [hdx, hdn]; rfl
      rw [hr]
      clear hr hdx hdn hn
      go_enter Try.func37, Try.ntmps37
      go_wp2_with fail
      refine HI.out.mono ?_
      rintro e w' ⟨rfl, rfl⟩
      go_wp2_with fail
      refine HJ.out.mono ?_
      rintro e w' ⟨rfl, rfl⟩
      go_wp2
      go_ret2
      exact ⟨rfl, Below.refl _ _⟩
  · have hdx : decide (0 ≤ x ∧ x ≤ 9) = false := decide_eq_false hx
    rw [hdx] at HI
    have hr : numPower x n = (0, false) := by unfold numPower inPow; rw [hdx]; rfl
    rw [hr]
    clear hr hdx hx
    go_enter Try.func37, Try.ntmps37
    go_wp2_with fail
    refine HI.out.mono ?_
    rintro e w' ⟨rfl, rfl⟩
    go_wp2
    go_ret2
    exact ⟨rfl, Below.refl _ _⟩

end Go.Proofs.Ytfomfjbfhcajbaa
