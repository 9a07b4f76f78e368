/-
  Best partitions have as many pairs to change. For every input the Go text of laws.FnBest returns true, and its argument reads afterwards as before. No condition.
-/
import Derived.Test.YtbmpchpcihnbdaaMgB
import Derived.Test.YtbmpchpcihnbdaaMgA
import Derived.Test.YtbmpchpcihnbdaaMgE
import Derived.Test.YtbmpchpcihnbdaaMgF
import Derived.Test.YtbmpchpcihnbdaaMgI
import Derived.Test.YtbmpchpcihnbdaaQPairFacts2
import Derived.Test.YtbmpchpcihnbdaaRows
import Derived.WalkKit
import Derived.ProofKit
import Derived.OpenShut
import Derived.ShutString
import Derived.ChangeOld
import Derived.Below
import Derived.Deep.RegionHeld3
namespace Go.Proofs.Ytbmpchpcihnbdaa.fnBest
open Go.ChangeShapes Go.WideShapes Go.ChangeAt Go.RowKit
open Go.ChangeMaps (open_string shut_string)
set_option linter.unusedVariables false
set_option linter.unusedSimpArgs false
set_option linter.unnecessarySimpa false

theorem own : ownKnob Try.prog.godebug = none := by kernel_rfl
theorem laidOut : laidOutB Try.prog = true := by kernel_rfl

theorem sameInts_t (v u : Value) (xs : List Int) (w : World) (hv : RdV w v xs) (hu : RdV w u xs) : Calls Try.prog 25 #[v, u] w fun e w' => e = .returned (.bool true) ∧ Same w w' :=
  (sameInts_v v u xs xs w hv hu).mono fun e w' ⟨he, hw⟩ => ⟨by rw [he]; simp, hw⟩

theorem sameInts_b (v u : Value) (xs ys : List Int) (w : World) (hv : RdV w v xs) (hu : RdV w u ys) : Calls Try.prog 25 #[v, u] w fun e w' => e = .returned (.bool (decide (xs = ys))) ∧ Below w.heap.size w w' :=
  (sameInts_v v u xs ys w hv hu).mono fun e w' ⟨he, hw⟩ => ⟨he, hw _⟩

set_option maxRecDepth 100000 in
set_option maxHeartbeats 4000000 in
theorem small (a0 : Option Addr) (len0 cap0 : Nat) (w : World) (hB : Bytes w a0 len0) (hc : len0 ≤ cap0) (hcm : cap0 ≤ maxLen) (hs0 : len0 ≤ 1048576) :
    Calls Try.prog 8 #[.slice a0 len0 cap0] w fun e w' => e = .returned (.bool true) ∧ Below w.heap.size w w' := by
  have bel : Below w.heap.size w w := Below.refl _ _
  go_enter Try.func8, Try.ntmps8
  go_wp2_with fail
  refine (drawPairBest_any a0 len0 cap0 _ hB hs0 hc hcm).mono ?_
  rintro e W1 ⟨m, v_b, ps, rfl, ⟨hn1, hn5⟩, rb, hx31, hb⟩
  have bel := below_step bel hb
  clear hb
  have rb0 := rb
  obtain ⟨ab, cb, vb, _, rfl, _⟩ := rb0
  have o_b := rb
  clear rb
  have wn : (Lit.int .i64 (m : Int)).wf = true := WalkArith.wf_i64 ⟨by omega, by omega⟩
  obtain ⟨K, hK⟩ : ∃ K, K = ps.length := ⟨_, rfl⟩
  rw [← hK] at hx31 o_b ⊢
  have HK := Lib.hid hK
  clear hK
  by_cases hp : pairIn (m : Int) ps = true
  · obtain ⟨m1, L, hm1, n1, n6, hs, hps, hi, hl15, hd⟩ := pair_open hp
    have hmm : m = m1 := by omega
    subst hmm
    have hKL : K = L.length := by rw [HK.out, hps, encPs_length]
    have e1 : pairBest (m : Int) ps = (bestP m L, true) := by simp [pairBest, hp, hd]
    have e3 : pairChanges (m : Int) ps = (costP (bestP m L) L, true) := by simp [pairChanges, hp, hd]
    obtain ⟨_, hbp, hbl⟩ := best_in hn1 n6 L
    have e4 : pairOf (bestP m L) = (encPs (ofP (bestP m L)), true) := by simp [pairOf, hbp, hbl, n6]
    have hcb := cost_both (by omega) hs hbl
    have hnd : (ofP (bestP m L)).Nodup := sorted_nodup ((allP_sorted m (by omega)).sublist (by have := ofP_sub (bestP m L); rw [hbl] at this; exact this))
    have hNl := ofP_len (bestP m L) (by omega)
    generalize ofP (bestP m L) = M at *
    generalize costP (bestP m L) L = c at *
    generalize bestP m L = ys at *
    rw [← bothTo_end, ← hKL] at hcb
    have HI := Lib.hid (fun (wx : World) (v0 : Value) (k0 : RdM wx v0 ps) => e1 ▸ iPairBest_v v0 (m : Int) ps wx k0 wn)
    have HS := Lib.hid (fun (wx : World) (v0 : Value) (k0 : RdM wx v0 ps) => e1 ▸ sPairBest_v v0 (m : Int) ps wx k0 wn)
    have HC := Lib.hid (fun (wx : World) (v0 : Value) (k0 : RdM wx v0 ps) => e3 ▸ iPairChanges_v v0 (m : Int) ps wx k0 wn)
    have HL := Lib.hid (fun (wx : World) (v0 : Value) (k0 : RdV wx v0 ys) => e4 ▸ iPairOf_v v0 ys wx k0)
    subst hps
    have HKL := Lib.hid hKL
    have HND := Lib.hid hnd
    have HCB := Lib.hid hcb
    clear hp e1 e3 e4 hm1 hs hi hd hbp hbl hKL hnd hcb HK
    go_wp2_with fail
    refine (HI.out _ _ o_b).mono ?_
    rintro e W2 ⟨v_o, rfl, o, hb⟩
    have bel := below_step bel hb
    have o_b := rdM_below o_b hb
    clear hb
    have o_o := o
    clear o
    go_wp2_with fail
    refine (HS.out _ _ o_b).mono ?_
    rintro e W3 ⟨v_w, rfl, o, hb⟩
    have bel := below_step bel hb
    have o_b := rdM_below o_b hb
    have o_o := own_below o_o hb
    clear hb
    have o_w := o
    clear o
    go_wp2_with fail
    refine (sameInts_t _ _ ys _ (own_rdv o_o) (own_rdv o_w)).mono ?_
    rintro e W4 ⟨rfl, hq⟩
    have hb := hq W3.heap.size
    clear hq
    have bel := below_step bel hb
    have o_b := rdM_below o_b hb
    have o_o := own_below o_o hb
    have o_w := own_below o_w hb
    clear hb
    clear o_w
    go_wp2_with fail
    refine (HC.out _ _ o_b).mono ?_
    rintro e W5 ⟨rfl, hb⟩
    have bel := below_step bel hb
    have o_b := rdM_below o_b hb
    have o_o := own_below o_o hb
    clear hb
    go_wp2_with fail
    refine (HL.out _ _ (own_rdv o_o)).mono ?_
    rintro e W6 ⟨v_l, rfl, o, hb⟩
    have bel := below_step bel hb
    have o_b := rdM_below o_b hb
    have o_o := own_below o_o hb
    clear hb
    have o_l := o
    clear o
    have hl2 := ownM_rdM o_l
    dsimp only at hl2
    have hl3 := hl2
    obtain ⟨lo, lc, lv, _, rfl, _⟩ := hl3
    rw [encPs_length] at hl2
    dsimp only
    rw [encPs_length]
    obtain ⟨N, hN⟩ : ∃ N, N = M.length := ⟨_, rfl⟩
    rw [← hN] at hl2 HCB hNl ⊢
    have HN := Lib.hid hN
    have HRL := Lib.hid hl2
    have HRB := Lib.hid o_b
    clear o_o o_b o_l HI HS HC HL hN hl2
    go_wp2
    go_loopw [13, 14] (fun u i wr => ∃ k : Nat, k ≤ K ∧ i = .int .i64 k ∧ u = .int .i64 ((bothTo M L k : Nat) : Int) ∧ Below W6.heap.size W6 wr) (fun _ i _ => K - (intOf i).toNat)
    case atStart => exact ⟨0, Nat.zero_le _, rfl, by rw [bothTo_zero]; rfl, Below.refl _ _⟩
    case round =>
      obtain ⟨k, hk, rfl, rfl, hbr⟩ := hrel
      have bel2 := below_step bel hbr
      have hbk := bothTo_le M L k
      by_cases hlt : k < K
      · have hnx := bothTo_next M L k (by have := HKL.out; omega)
        rw [← HN.out] at hnx
        obtain ⟨p, hpp⟩ : ∃ p, p = L.getD k (0, 0) := ⟨_, rfl⟩
        rw [← hpp] at hnx
        have HPP := Lib.hid hpp
        have HNX := Lib.hid hnx
        obtain ⟨f, hf⟩ : ∃ f, f = bothTo M L k := ⟨_, rfl⟩
        rw [← hf] at HNX hbk ⊢
        have HBR := Lib.hid hbr
        clear hpp hnx hf hbr bel2
        go_wp2
        go_loopw [13, 15] (fun u i wr => ∃ t : Nat, t ≤ N ∧ i = .int .i64 t ∧ u = .int .i64 ((f + hitTo M p t : Nat) : Int) ∧ Below W6.heap.size W6 wr) (fun _ i _ => N - (intOf i).toNat)
        case atStart => exact ⟨0, Nat.zero_le _, rfl, by rw [hitTo_zero]; rfl, HBR.out⟩
        case round =>
          obtain ⟨t, ht, rfl, rfl, hbr⟩ := hrel
          have hht := hitTo_le M p t
          by_cases htn : t < N
          · obtain ⟨b1, o1, c1, a1, z1, ev1, g1, q1⟩ := rdM_enc (k := k) (rdM_below HRB.out hbr) (by have := HKL.out; omega)
            obtain ⟨rfl, -, rfl⟩ : ab = some ⟨b1, o1, none⟩ ∧ K = L.length ∧ cb = c1 := by simpa using ev1
            obtain ⟨b2, o2, c2, a2, z2, ev2, g2, q2⟩ := rdM_enc (k := t) (rdM_below HRL.out hbr) (by have := HN.out; omega)
            obtain ⟨rfl, -, rfl⟩ : lo = some ⟨b2, o2, none⟩ ∧ N = M.length ∧ lc = c2 := by simpa using ev2
            have hhn := hitTo_next M HND.out p t (by have := HN.out; omega)
            rw [← HPP.out] at q1
            obtain ⟨q, hqq⟩ : ∃ q, q = M.getD t (0, 0) := ⟨_, rfl⟩
            rw [← hqq] at q2 hhn
            obtain ⟨e, he⟩ : ∃ e, e = hitTo M p t := ⟨_, rfl⟩
            rw [← he] at hhn hht ⊢
            have HA := Lib.hid (rdv_below q1 (below_drewN (Below.refl _ wr) 1))
            have HB := Lib.hid (rdv_below q2 (below_drewN (Below.refl _ wr) 1))
            obtain ⟨r, hr⟩ : ∃ r, r = decide (encP p = encP q) := ⟨_, rfl⟩
            have hrr : r = decide (p = q) := by
              rw [hr, Bool.eq_iff_iff, decide_eq_true_eq, decide_eq_true_eq]
              exact ⟨encP_inj, fun h => by rw [h]⟩
            have HQ := Lib.hid (fun (w1 : World) (h1 : RdV w1 (.slice a1 2 z1) (encP p)) (h2 : RdV w1 (.slice a2 2 z2) (encP q)) => hr ▸ sameInts_b (.slice a1 2 z1) (.slice a2 2 z2) (encP p) (encP q) w1 h1 h2)
            have HHN := Lib.hid hhn
            have b0 : (k : Int) < (K : Int) := by omega
            have b1x : (t : Int) < (N : Int) := by omega
            clear hhn hqq he q1 q2 hr ev1 ev2
            by_cases hpq : p = q
            · obtain rfl : r = true := by rw [hrr]; simpa using hpq
              have HSE : Hid (hitTo M p (t + 1) = e + 1) := Lib.hid (by rw [HHN.out, if_pos hpq])
              clear hrr hpq
              go_wp2_with fail
              go_region_held3 (fun w' => w'.cell? ⟨b1, o1 + k, none⟩ = some (.slice a1 2 z1) ∧ w'.cell? ⟨b2, o2 + t, none⟩ = some (.slice a2 2 z2)) (first | exact ⟨g1, g2⟩ | exact ⟨d1, d2⟩) (first | (go_at_call 25; refine (HQ.out _ HA.out HB.out).mono ?_; rintro e W9 ⟨rfl, hb5⟩; have d1 := cellSt (w := wr.drew) g1 hb5; have d2 := cellSt (w := wr.drew) g2 hb5))
              have hbr9 := below_step hbr (below_step (below_drewN (Below.refl _ wr) 1) hb5)
              clear hb5 d1 d2 g1 g2
              go_wp2
              go_roundw
              case rel => exact ⟨t + 1, by omega, by go_num, by rw [HSE.out]; first | rfl | (congr 1; omega) | (congr 1; push_cast; omega), hbr9⟩
              case measure => simp [intOf]; omega
            · obtain rfl : r = false := by rw [hrr]; simpa using hpq
              have HSE : Hid (hitTo M p (t + 1) = e) := Lib.hid (by rw [HHN.out, if_neg hpq, Nat.add_zero])
              clear hrr hpq
              go_wp2_with fail
              go_region_held3 (fun w' => w'.cell? ⟨b1, o1 + k, none⟩ = some (.slice a1 2 z1) ∧ w'.cell? ⟨b2, o2 + t, none⟩ = some (.slice a2 2 z2)) (first | exact ⟨g1, g2⟩ | exact ⟨d1, d2⟩) (first | (go_at_call 25; refine (HQ.out _ HA.out HB.out).mono ?_; rintro e W9 ⟨rfl, hb5⟩; have d1 := cellSt (w := wr.drew) g1 hb5; have d2 := cellSt (w := wr.drew) g2 hb5))
              have hbr9 := below_step hbr (below_step (below_drewN (Below.refl _ wr) 1) hb5)
              clear hb5 d1 d2 g1 g2
              go_wp2
              go_roundw
              case rel => exact ⟨t + 1, by omega, by go_num, by rw [HSE.out]; first | rfl | (congr 1; omega), hbr9⟩
              case measure => simp [intOf]; omega
          · have htn2 : t = N := by omega
            subst htn2
            go_wp2
            go_roundw
            case rel => exact ⟨k + 1, by omega, by go_num, by rw [HNX.out], hbr⟩
            case measure => simp [intOf]; omega
      · have hkn : k = K := by omega
        subst hkn
        have hcb := HCB.out
        generalize bothTo M L k = z at *
        have hfin : (k : Int) + (N : Int) - 2 * (z : Int) = c := by omega
        have hfb : ((k : Int) + (N : Int) - 2 * (z : Int) == c) = true := by simpa using hfin
        clear hcb HCB
        go_wp2
        go_ret
        exact ⟨by first | rfl | exact ret_bool (by simp <;> omega), bel2⟩
  · have hp : pairIn (m : Int) ps = false := by simpa using hp
    have e1 : pairBest (m : Int) ps = ([], false) := by simp [pairBest, hp]
    have HI := Lib.hid (fun (wx : World) (v0 : Value) (k0 : RdM wx v0 ps) => e1 ▸ iPairBest_v v0 (m : Int) ps wx k0 wn)
    have HS := Lib.hid (fun (wx : World) (v0 : Value) (k0 : RdM wx v0 ps) => e1 ▸ sPairBest_v v0 (m : Int) ps wx k0 wn)
    clear hp e1
    go_wp2_with fail
    refine (HI.out _ _ o_b).mono ?_
    rintro e W2 ⟨v_o, rfl, o, hb⟩
    have bel := below_step bel hb
    have o_b := rdM_below o_b hb
    clear hb
    have o_o := o
    clear o
    go_wp2_with fail
    refine (HS.out _ _ o_b).mono ?_
    rintro e W3 ⟨v_w, rfl, o, hb⟩
    have bel := below_step bel hb
    have o_b := rdM_below o_b hb
    have o_o := own_below o_o hb
    clear hb
    have o_w := o
    clear o
    go_wp2_with fail
    refine (sameInts_t _ _ [] _ (own_rdv o_o) (own_rdv o_w)).mono ?_
    rintro e W4 ⟨rfl, hq⟩
    have hb := hq W3.heap.size
    clear hq
    have bel := below_step bel hb
    have o_b := rdM_below o_b hb
    have o_o := own_below o_o hb
    have o_w := own_below o_w hb
    clear hb
    go_wp2_with fail
    refine (sameInts_t _ _ [] _ (own_rdv o_o) (own_rdv o_w)).mono ?_
    rintro e W5 ⟨rfl, hq⟩
    have hb := hq W4.heap.size
    clear hq
    have bel := below_step bel hb
    have o_b := rdM_below o_b hb
    have o_o := own_below o_o hb
    have o_w := own_below o_w hb
    clear hb
    go_wp2
    go_ret
    exact ⟨rfl, bel⟩

theorem walk (a0 : Option Addr) (len0 cap0 : Nat) (z0 : List Int) (w : World) (w0 : IsRow .u8 w a0 len0 cap0 z0) :
    Calls Try.prog 8 #[.slice a0 len0 cap0] w fun e w' => e = .returned (.bool true) ∧ Below w.heap.size w w' := by
  obtain ⟨hB, hc, hcm⟩ := bytes_of_row w0
  refine (Nat.lt_or_ge 1048576 len0).elim (fun hs0 => ?_) (fun hs0 => ?_)
  · go_enter Try.func8, Try.ntmps8
    go_wp2
    go_ret
    exact ⟨rfl, Below.refl _ _⟩
  exact small a0 len0 cap0 w hB hc hcm hs0

set_option maxRecDepth 100000 in
theorem lifted (os : Os) (started : os.Started) (H : Type) (enc : TypeId × Value → H) :
    ReturnsInHanded {} Try.checked os 8 .any (Rows.fnBestSpec.pre6 enc Try.prog Try.f8 Rows.fnBestRow.domain false) (Rows.fnBestSpec.post enc Try.prog Try.f8 false true false false) := by
  refine returnsInHanded_of_change (C := Try.checked) own started (by kernel_rfl) Try.func8
    (ChangeSpec.witness6 (enc := enc) (C := Try.checked) false ⟨#[], #[.slice none 0 0], []⟩ 8 (by kernel_rfl) (by kernel_rfl) (by kernel_rfl) (by kernel_rfl)) ?_
  intro W base args ds gs before hval0 hW hcnd _
  have hval : ∀ (j : Nat) t v, Try.f8.params[j]? = some t → args[j]? = some v → Value.okWide Try.prog W .any base t v := hval0
  have hW' := hW
  obtain ⟨p, q, hA0, hV, rfl, hfz, hnd⟩ := hW
  have hA : DataW.TrodAll enc Try.prog W 0 (fun _ => true) true Try.f8.params.toList args.toList ds p := hA0
  rw [Try.params8] at hA hval
  obtain ⟨v0, vs0, d0, ds0, p0, q0, hargs, rfl, rfl, h0, r0⟩ := trodAll_cons hA
  obtain ⟨rfl, rfl, rfl⟩ := trodAll_nil r0
  obtain rfl : args = #[v0] := by cases args; simp_all
  obtain ⟨rfl, rfl⟩ := trodVars_none hV
  obtain ⟨a0, len0, cap0, rfl⟩ := okWide_slice Try.underlying22 (hval 0 22 v0 rfl rfl)
  have k0 := h0
  have lt0 : ∀ x ∈ p0, x.block < W.heap.size := by obtain ⟨m, hm⟩ := k0; exact DataW.trod_lt m _ _ _ hm
  obtain ⟨z0, w0⟩ : ∃ zs, IsRow .u8 W a0 len0 cap0 zs := by
    obtain ⟨fuel, hf⟩ := h0
    rcases open_ints Try.underlying22 Try.underlying5 (by kernel_rfl) hf with ⟨hcs, _⟩ | ⟨x, l, c, zs, hcs, _, hl, hm, hz, _, hcell, hwz⟩
    · simp [Value.cells] at hcs
      obtain ⟨rfl, rfl, rfl⟩ := hcs
      exact ⟨[], .inl ⟨rfl, rfl, rfl, rfl⟩⟩
    · simp [Value.cells] at hcs
      obtain ⟨rfl, rfl, rfl⟩ := hcs
      exact ⟨zs, .inr ⟨_, rfl, hl, hm, by simpa using hz, hcell, hwz⟩⟩
  clear hA0 hval0
  refine (walk a0 len0 cap0 z0 W w0).mono fun e W' ⟨he, bel⟩ => ?_
  subst he
  exact ⟨_, rfl, _, _, _, [], _, [], hW', trodAll_mk1 (shut_bool Try.underlying4 _), (trodAll_cons_mk (Below.trod laidOut (by kernel_rfl) (of_decide_eq_true (by kernel_rfl)) k0 bel lt0) trodAll_mk0), rfl, bel.frame _, fun h => by cases h⟩

theorem over : Rows.fnBestRow.holds Try.pinned (OpenSpec.ofChange Rows.fnBestSpec) :=
  OpenClaim.holds_of_wide 8 Try.f8 rfl rfl rfl rfl rfl rfl rfl ⟨rfl, rfl, rfl, rfl, rfl⟩ rfl rfl rfl rfl rfl (by kernel_rfl) Try.func8 (by kernel_rfl)
    (of_decide_eq_true (by kernel_rfl)) (by unfold Func.isWrapper; first | (rw [if_pos (by decide +kernel)]; kernel_rfl) | (rw [if_neg (by decide +kernel)]; exact ⟨rfl, rfl⟩))
    (fun os started H enc _ => lifted os started H enc)

/-- The statement. -/
theorem proved : Rows.FnBestSaid := over
end Go.Proofs.Ytbmpchpcihnbdaa.fnBest
