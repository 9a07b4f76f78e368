/-
  Pairs lead within blocks. For every input the Go text of laws.FnPairPart returns true, and its argument reads afterwards as before. No condition.
-/
import Derived.Test.YtbmpchpcihnbdaaMgB
import Derived.Test.YtbmpchpcihnbdaaMgA
import Derived.Test.YtbmpchpcihnbdaaMgE
import Derived.Test.YtbmpchpcihnbdaaMgF
import Derived.Test.YtbmpchpcihnbdaaMgH
import Derived.Test.YtbmpchpcihnbdaaQPairFacts2
import Derived.Test.YtbmpchpcihnbdaaRows
import Derived.WalkKit
import Derived.ProofKit
import Derived.OpenShut
import Derived.ShutString
import Derived.ChangeOld
import Derived.Below
import Derived.Deep.RegionHeld3
namespace Go.Proofs.Ytbmpchpcihnbdaa.fnPairPart
open Go.ChangeShapes Go.WideShapes Go.ChangeAt Go.RowKit
open Go.ChangeMaps (open_string shut_string)
set_option linter.unusedVariables false
set_option linter.unusedSimpArgs false
set_option linter.unnecessarySimpa false

theorem own : ownKnob Try.prog.godebug = none := by kernel_rfl
theorem laidOut : laidOutB Try.prog = true := by kernel_rfl

theorem sameInts_t (v u : Value) (xs : List Int) (w : World) (hv : RdV w v xs) (hu : RdV w u xs) : Calls Try.prog 25 #[v, u] w fun e w' => e = .returned (.bool true) ∧ Same w w' :=
  (sameInts_v v u xs xs w hv hu).mono fun e w' ⟨he, hw⟩ => ⟨by rw [he]; simp, hw⟩

theorem wf_small {i : Int} (h0 : -100000 ≤ i) (h1 : i ≤ 100000) : (Lit.int .i64 i).wf = true := by
  simp [Lit.wf, IntKind.min, IntKind.max, IntKind.bits, IntKind.signed]
  omega


set_option maxRecDepth 100000 in
set_option maxHeartbeats 4000000 in
theorem small (a0 : Option Addr) (len0 cap0 : Nat) (w : World) (hB : Bytes w a0 len0) (hc : len0 ≤ cap0) (hcm : cap0 ≤ maxLen) (hs0 : len0 ≤ 1048576) :
    Calls Try.prog 5 #[.slice a0 len0 cap0] w fun e w' => e = .returned (.bool true) ∧ Below w.heap.size w w' := by
  have bel : Below w.heap.size w w := Below.refl _ _
  go_enter Try.func5, Try.ntmps5
  go_wp2_with fail
  refine (drawPairPart_any a0 len0 cap0 _ hB hs0 hc hcm).mono ?_
  rintro e W1 ⟨m, v_b, ps, rfl, ⟨hn1, hn5⟩, rb, hx31, hb⟩
  have bel := below_step bel hb
  clear hb
  have rb0 := rb
  obtain ⟨ab, cb, vb, _, rfl, _⟩ := rb0
  have o_b := rb
  clear rb
  have wn : (Lit.int .i64 (m : Int)).wf = true := WalkArith.wf_i64 ⟨by omega, by omega⟩
  obtain ⟨K, hK⟩ : ∃ K, K = ps.length := ⟨_, rfl⟩
  rw [← hK] at hx31 o_b ⊢
  have HK := Lib.hid hK
  clear hK
  by_cases hp : pairIn (m : Int) ps = true
  · obtain ⟨m1, L, hm1, n1, n6, hs, hps, hi, hl15, hd⟩ := pair_open hp
    have hmm : m = m1 := by omega
    subst hmm
    have hKL : K = L.length := by rw [HK.out, hps, encPs_length]
    have e1 : pairPart (m : Int) ps = (partP m L, true) := by simp [pairPart, hp, hd]
    obtain ⟨_, hpl, hpi, heq, hsz⟩ := pair_chk hn1 hn5 hs
    have e2 : partSize (partP m L) = (pSize (partP m L), true) := by simp [partSize, hpi]
    have HT := Lib.hid (fun (x : Nat) (hx : x < L.length) => show partTogether (partP m L) ((L.getD x (0, 0)).1 : Nat) ((L.getD x (0, 0)).2 : Nat) = true ∧ (L.getD x (0, 0)).1 < 100 ∧ (L.getD x (0, 0)).2 < 100 by
      have hm : L.getD x (0, 0) ∈ L := by simp [List.getD, hx]
      have h2 := hi _ hm
      have h3 := heq _ hm
      refine ⟨?_, by omega, by omega⟩
      simp only [partTogether, hpi, hpl, Bool.true_and, Bool.and_eq_true, decide_eq_true_eq, Int.toNat_natCast]
      exact ⟨⟨⟨by omega, by omega⟩, ⟨by omega, by omega⟩⟩, h3⟩)
    have hbd := pSize_bd (partIn_small hpi)
    rw [← hKL] at hsz hl15 HT
    generalize partP m L = ys at *
    generalize pSize ys = p at *
    have HI := Lib.hid (fun (wx : World) (v0 : Value) (k0 : RdM wx v0 ps) => e1 ▸ iPairPart_v v0 (m : Int) ps wx k0 wn)
    have HS := Lib.hid (fun (wx : World) (v0 : Value) (k0 : RdM wx v0 ps) => e1 ▸ sPairPart_v v0 (m : Int) ps wx k0 wn)
    have HZ := Lib.hid (fun (wx : World) (v0 : Value) (k0 : RdV wx v0 ys) => e2 ▸ iPartSize_v v0 ys wx k0)
    subst hps
    have HKL := Lib.hid hKL
    clear hp e1 e2 hm1 hs hi hd hpi heq hKL
    go_wp2_with fail
    refine (HI.out _ _ o_b).mono ?_
    rintro e W2 ⟨v_o, rfl, o, hb⟩
    have bel := below_step bel hb
    have o_b := rdM_below o_b hb
    clear hb
    have o_o := o
    clear o
    go_wp2_with fail
    refine (HS.out _ _ o_b).mono ?_
    rintro e W3 ⟨v_w, rfl, o, hb⟩
    have bel := below_step bel hb
    have o_b := rdM_below o_b hb
    have o_o := own_below o_o hb
    clear hb
    have o_w := o
    clear o
    go_wp2_with fail
    refine (sameInts_t _ _ ys _ (own_rdv o_o) (own_rdv o_w)).mono ?_
    rintro e W4 ⟨rfl, hq⟩
    have hb := hq W3.heap.size
    clear hq
    have bel := below_step bel hb
    have o_b := rdM_below o_b hb
    have o_o := own_below o_o hb
    have o_w := own_below o_w hb
    clear hb
    clear o_w
    go_wp2_with fail
    refine (HZ.out _ _ (own_rdv o_o)).mono ?_
    rintro e W5 ⟨rfl, hb⟩
    have bel := below_step bel hb
    have o_b := rdM_below o_b hb
    have o_o := own_below o_o hb
    clear hb
    obtain ⟨ao, ca, rfl⟩ := own_slice' o_o
    rw [hpl] at o_o ⊢
    have HO := Lib.hid (own_rdv o_o)
    have HRB := Lib.hid o_b
    have hgo : (m : Int) - (K : Int) ≤ p := by omega
    clear o_o o_b HI HS HZ hpl hsz
    go_wp2
    go_loopw [11] (fun i wr => ∃ k : Nat, k ≤ K ∧ i = .int .i64 k ∧ Below W5.heap.size W5 wr) (fun i _ => K - (intOf i).toNat)
    case atStart => exact ⟨0, Nat.zero_le _, rfl, Below.refl _ _⟩
    case round =>
      obtain ⟨k, hk, rfl, hbr⟩ := hrel
      have bel2 := below_step bel hbr
      by_cases hlt : k < K
      · have hrbk := rdM_below HRB.out hbr
        obtain ⟨ab2, cb2, us, hab, hub1, hub2, hcell⟩ := encPs_at hrbk
        obtain ⟨rfl, -, rfl⟩ : ab = ab2 ∧ K = L.length ∧ cb = cb2 := by simpa using hab
        obtain ⟨hT, ht1, ht2⟩ := HT.out k hlt
        rcases hcell with hL0 | ⟨bb, off, rfl, hcs⟩
        · have := HKL.out
          rw [hL0] at this
          simp at this
          omega
        obtain ⟨zb, zo, zc, g1, zc1, zc2, g2, g3⟩ := hcs k (by have := HKL.out; omega)
        obtain ⟨pr, hpr⟩ : ∃ pr, pr = L.getD k (0, 0) := ⟨_, rfl⟩
        rw [← hpr] at g2 g3 hT ht1 ht2
        obtain ⟨x, y⟩ := pr
        dsimp only at g2 g3 hT ht1 ht2
        have HC := Lib.hid (fun (w1 : World) (v0 : Value) (q0 : RdV w1 v0 ys) => hT ▸ iPartTogether_v v0 ys (x : Nat) (y : Nat) w1 q0 (wf_small (by omega) (by omega)) (wf_small (by omega) (by omega)))
        have HRK := Lib.hid (rdv_below (rdv_below HO.out hbr) (below_drewN (Below.refl _ wr) 1))
        have b0 : (k : Int) < (K : Int) := by omega
        clear hcs hT hpr hub1 hub2 hab hrbk ht1 ht2
        go_wp2_with fail
        go_region_held3 (fun w' => w'.cell? ⟨bb, off + k, none⟩ = some (.slice (some ⟨zb, zo, none⟩) 2 zc) ∧ w'.cell? ⟨zb, zo, none⟩ = some (.int .i64 (x : Nat)) ∧ w'.cell? ⟨zb, zo + 1, none⟩ = some (.int .i64 (y : Nat))) (first | exact ⟨g1, g2, g3⟩ | exact ⟨d1, d2, d3⟩) (first | (go_at_call 30; refine (HC.out _ _ HRK.out).mono ?_; rintro e W9 ⟨rfl, hb5⟩; have d1 := cellSt (w := wr.drew) g1 hb5; have d2 := cellSt (w := wr.drew) g2 hb5; have d3 := cellSt (w := wr.drew) g3 hb5))
        have hbr9 := below_step hbr (below_step (below_drewN (Below.refl _ wr) 1) hb5)
        clear hb5 d1 d2 d3 g1 g2 g3
        go_wp2
        go_roundw
        case rel => exact ⟨k + 1, by omega, by go_num, by first | exact hbr9 | exact below_drewN hbr9 _⟩
        case measure => simp [intOf]; omega
      · have hkn : k = K := by omega
        subst hkn
        go_wp2
        go_ret
        exact ⟨rfl, bel2⟩
  · have hp : pairIn (m : Int) ps = false := by simpa using hp
    have e1 : pairPart (m : Int) ps = ([], false) := by simp [pairPart, hp]
    have HI := Lib.hid (fun (wx : World) (v0 : Value) (k0 : RdM wx v0 ps) => e1 ▸ iPairPart_v v0 (m : Int) ps wx k0 wn)
    have HS := Lib.hid (fun (wx : World) (v0 : Value) (k0 : RdM wx v0 ps) => e1 ▸ sPairPart_v v0 (m : Int) ps wx k0 wn)
    clear hp e1
    go_wp2_with fail
    refine (HI.out _ _ o_b).mono ?_
    rintro e W2 ⟨v_o, rfl, o, hb⟩
    have bel := below_step bel hb
    have o_b := rdM_below o_b hb
    clear hb
    have o_o := o
    clear o
    go_wp2_with fail
    refine (HS.out _ _ o_b).mono ?_
    rintro e W3 ⟨v_w, rfl, o, hb⟩
    have bel := below_step bel hb
    have o_b := rdM_below o_b hb
    have o_o := own_below o_o hb
    clear hb
    have o_w := o
    clear o
    go_wp2_with fail
    refine (sameInts_t _ _ [] _ (own_rdv o_o) (own_rdv o_w)).mono ?_
    rintro e W4 ⟨rfl, hq⟩
    have hb := hq W3.heap.size
    clear hq
    have bel := below_step bel hb
    have o_b := rdM_below o_b hb
    have o_o := own_below o_o hb
    have o_w := own_below o_w hb
    clear hb
    go_wp2_with fail
    refine (sameInts_t _ _ [] _ (own_rdv o_o) (own_rdv o_w)).mono ?_
    rintro e W5 ⟨rfl, hq⟩
    have hb := hq W4.heap.size
    clear hq
    have bel := below_step bel hb
    have o_b := rdM_below o_b hb
    have o_o := own_below o_o hb
    have o_w := own_below o_w hb
    clear hb
    go_wp2
    go_ret
    exact ⟨rfl, bel⟩

theorem walk (a0 : Option Addr) (len0 cap0 : Nat) (z0 : List Int) (w : World) (w0 : IsRow .u8 w a0 len0 cap0 z0) :
    Calls Try.prog 5 #[.slice a0 len0 cap0] w fun e w' => e = .returned (.bool true) ∧ Below w.heap.size w w' := by
  obtain ⟨hB, hc, hcm⟩ := bytes_of_row w0
  refine (Nat.lt_or_ge 1048576 len0).elim (fun hs0 => ?_) (fun hs0 => ?_)
  · go_enter Try.func5, Try.ntmps5
    go_wp2
    go_ret
    exact ⟨rfl, Below.refl _ _⟩
  exact small a0 len0 cap0 w hB hc hcm hs0

set_option maxRecDepth 100000 in
theorem lifted (os : Os) (started : os.Started) (H : Type) (enc : TypeId × Value → H) :
    ReturnsInHanded {} Try.checked os 5 .any (Rows.fnPairPartSpec.pre6 enc Try.prog Try.f5 Rows.fnPairPartRow.domain false) (Rows.fnPairPartSpec.post enc Try.prog Try.f5 false true false false) := by
  refine returnsInHanded_of_change (C := Try.checked) own started (by kernel_rfl) Try.func5
    (ChangeSpec.witness6 (enc := enc) (C := Try.checked) false ⟨#[], #[.slice none 0 0], []⟩ 8 (by kernel_rfl) (by kernel_rfl) (by kernel_rfl) (by kernel_rfl)) ?_
  intro W base args ds gs before hval0 hW hcnd _
  have hval : ∀ (j : Nat) t v, Try.f5.params[j]? = some t → args[j]? = some v → Value.okWide Try.prog W .any base t v := hval0
  have hW' := hW
  obtain ⟨p, q, hA0, hV, rfl, hfz, hnd⟩ := hW
  have hA : DataW.TrodAll enc Try.prog W 0 (fun _ => true) true Try.f5.params.toList args.toList ds p := hA0
  rw [Try.params5] at hA hval
  obtain ⟨v0, vs0, d0, ds0, p0, q0, hargs, rfl, rfl, h0, r0⟩ := trodAll_cons hA
  obtain ⟨rfl, rfl, rfl⟩ := trodAll_nil r0
  obtain rfl : args = #[v0] := by cases args; simp_all
  obtain ⟨rfl, rfl⟩ := trodVars_none hV
  obtain ⟨a0, len0, cap0, rfl⟩ := okWide_slice Try.underlying22 (hval 0 22 v0 rfl rfl)
  have k0 := h0
  have lt0 : ∀ x ∈ p0, x.block < W.heap.size := by obtain ⟨m, hm⟩ := k0; exact DataW.trod_lt m _ _ _ hm
  obtain ⟨z0, w0⟩ : ∃ zs, IsRow .u8 W a0 len0 cap0 zs := by
    obtain ⟨fuel, hf⟩ := h0
    rcases open_ints Try.underlying22 Try.underlying5 (by kernel_rfl) hf with ⟨hcs, _⟩ | ⟨x, l, c, zs, hcs, _, hl, hm, hz, _, hcell, hwz⟩
    · simp [Value.cells] at hcs
      obtain ⟨rfl, rfl, rfl⟩ := hcs
      exact ⟨[], .inl ⟨rfl, rfl, rfl, rfl⟩⟩
    · simp [Value.cells] at hcs
      obtain ⟨rfl, rfl, rfl⟩ := hcs
      exact ⟨zs, .inr ⟨_, rfl, hl, hm, by simpa using hz, hcell, hwz⟩⟩
  clear hA0 hval0
  refine (walk a0 len0 cap0 z0 W w0).mono fun e W' ⟨he, bel⟩ => ?_
  subst he
  exact ⟨_, rfl, _, _, _, [], _, [], hW', trodAll_mk1 (shut_bool Try.underlying4 _), (trodAll_cons_mk (Below.trod laidOut (by kernel_rfl) (of_decide_eq_true (by kernel_rfl)) k0 bel lt0) trodAll_mk0), rfl, bel.frame _, fun h => by cases h⟩

theorem over : Rows.fnPairPartRow.holds Try.pinned (OpenSpec.ofChange Rows.fnPairPartSpec) :=
  OpenClaim.holds_of_wide 5 Try.f5 rfl rfl rfl rfl rfl rfl rfl ⟨rfl, rfl, rfl, rfl, rfl⟩ rfl rfl rfl rfl rfl (by kernel_rfl) Try.func5 (by kernel_rfl)
    (of_decide_eq_true (by kernel_rfl)) (by unfold Func.isWrapper; first | (rw [if_pos (by decide +kernel)]; kernel_rfl) | (rw [if_neg (by decide +kernel)]; exact ⟨rfl, rfl⟩))
    (fun os started H enc _ => lifted os started H enc)

/-- The statement. -/
theorem proved : Rows.FnPairPartSaid := over
end Go.Proofs.Ytbmpchpcihnbdaa.fnPairPart
