/-
  The law of signs. For every input the Go text of laws.FnSign returns true, and its argument reads afterwards as before. No condition.
-/
import Derived.Test.YtipmafplpoadjaaDrawPart
import Derived.Test.YtipmafplpoadjaaSame
import Derived.Test.YtipmafplpoadjaaRows
import Derived.Test.YtipmafplpoadjaaPure
import Derived.Test.YtipmafplpoadjaaHelp
import Derived.Test.YtipmafplpoadjaaDrawTwo
import Derived.Test.YtipmafplpoadjaaFinSign
import Derived.Test.YtipmafplpoadjaaListAll
import Derived.Test.YtipmafplpoadjaaSignSum
import Derived.Test.YtipmafplpoadjaaHeldMat
import Derived.Test.YtipmafplpoadjaaSameRows
import Derived.Test.YtipmafplpoadjaaLists
import Derived.WalkKit
import Derived.ProofKit
import Derived.OpenShut
import Derived.ShutString
import Derived.ChangeOld
import Derived.Below
namespace Go.Proofs.Ytipmafplpoadjaa.fnSign
open Go.ChangeShapes Go.WideShapes Go.ChangeAt Go.RowKit
open Go.ChangeMaps (open_string shut_string)
set_option linter.unusedVariables false
set_option linter.unusedSimpArgs false
set_option linter.unnecessarySimpa false

theorem own : ownKnob Try.prog.godebug = none := by kernel_rfl
theorem laidOut : laidOutB Try.prog = true := by kernel_rfl


theorem finerSign_yes {xs ys : List Int} (h : finerIn xs ys = true) : finerSign xs ys = (prodOf sgn (inner xs ys), true) := by simp [finerSign, h]
theorem finerSign_no {xs ys : List Int} (h : finerIn xs ys = false) : finerSign xs ys = (0, false) := by simp [finerSign, h]

theorem cell_below {w w' : World} {b off : Nat} {v : Value} (h : w.cell? ⟨b, off, none⟩ = some v) (hb : Below w.heap.size w w') : w'.cell? ⟨b, off, none⟩ = some v := by
  rw [hb.cell (World.block_lt_of_cell? w _ h)]
  exact h

theorem listAll_row {n : Int} (h : 1 ≤ n ∧ n ≤ 7) : listAll n = (allL n.toNat, true) := by unfold listAll; rw [if_pos h]
theorem wf_small {i : Int} (h0 : -100000 ≤ i) (h1 : i ≤ 100000) : (Lit.int .i64 i).wf = true := by
  simp [Lit.wf, IntKind.min, IntKind.max, IntKind.bits, IntKind.signed]
  omega

theorem draw_any (a : Option Addr) (len cap : Nat) (w : World) (hby : Bytes w a len) (hlen : len ≤ 1048576) (hc : len ≤ cap) (hcm : cap ≤ maxLen) :
    Calls Try.prog 10 #[.slice a len cap] w (TwoDrawn w) := by
  go_enter Try.func10, Try.ntmps10
  go_wp2_with fail
  refine (l91Two_any a len cap w hby hlen hc hcm).mono ?_
  rintro e w1 ⟨v, u, xs, ys, rfl, h⟩
  go_wp2
  go_ret2
  exact ⟨v, u, xs, ys, rfl, h⟩

set_option maxRecDepth 100000 in
set_option maxHeartbeats 2000000 in
theorem small (a0 : Option Addr) (len0 cap0 : Nat) (w : World) (hB : Bytes w a0 len0) (hc : len0 ≤ cap0) (hcm : cap0 ≤ maxLen) (hs0 : len0 ≤ 1048576) :
    Calls Try.prog 3 #[.slice a0 len0 cap0] w fun e w' => e = .returned (.bool true) ∧ Below w.heap.size w w' := by
  have bel : Below w.heap.size w w := Below.refl _ _
  go_enter Try.func3, Try.ntmps3
  go_wp2_with fail
  refine (draw_any a0 len0 cap0 _ hB hs0 hc hcm).mono ?_
  rintro e W1 ⟨v_a, v_b, xs, ys, rfl, o, o2, hl9, hl9b, hb⟩
  have bel := below_step bel hb
  clear hb
  have o_a := o
  have o_b := o2
  clear o o2
  cases hf : finerIn xs ys
  · have e1 := finerSign_no hf
    have HI := Lib.hid (fun (wx : World) (v0 : Value) (v1 : Value) (k0 : RdV wx v0 xs) (k1 : RdV wx v1 ys) => e1 ▸ iFinerSign_v v0 v1 xs ys wx k0 k1)
    have HS := Lib.hid (fun (wx : World) (v0 : Value) (v1 : Value) (k0 : RdV wx v0 xs) (k1 : RdV wx v1 ys) => e1 ▸ sFinerSign_v v0 v1 xs ys wx k0 k1)
    clear hf e1
    go_wp2_with fail
    refine (HI.out _ _ _ (own_rdv o_a) (own_rdv o_b)).mono ?_
    rintro e W2 ⟨rfl, hb⟩
    have bel := below_step bel hb
    have o_a := own_below o_a hb
    have o_b := own_below o_b hb
    clear hb
    go_wp2_with fail
    refine (HS.out _ _ _ (own_rdv o_a) (own_rdv o_b)).mono ?_
    rintro e W3 ⟨rfl, hb⟩
    have bel := below_step bel hb
    have o_a := own_below o_a hb
    have o_b := own_below o_b hb
    clear hb
    go_wp2
    go_ret
    exact ⟨rfl, bel⟩
  · have e1 := finerSign_yes hf
    have hne := prod_ne (inner xs ys)
    have hsb := sign_bd hf
    obtain ⟨hx, hy, hll⟩ := alike_iff.1 (by have := hf; simp only [finerIn, Bool.and_eq_true] at this; exact this.1)
    have hl := partIn_len hx
    have HSUM := Lib.hid (sign_sum hf)
    obtain ⟨v, hv⟩ : ∃ v : Int, v = prodOf sgn (inner xs ys) := ⟨_, rfl⟩
    rw [← hv] at e1 hne hsb
    have HI := Lib.hid (fun (wx : World) (v0 : Value) (v1 : Value) (k0 : RdV wx v0 xs) (k1 : RdV wx v1 ys) => e1 ▸ iFinerSign_v v0 v1 xs ys wx k0 k1)
    have HS := Lib.hid (fun (wx : World) (v0 : Value) (v1 : Value) (k0 : RdV wx v0 xs) (k1 : RdV wx v1 ys) => e1 ▸ sFinerSign_v v0 v1 xs ys wx k0 k1)
    obtain ⟨n, hn⟩ : ∃ n, n = xs.length := ⟨_, rfl⟩
    rw [← hn] at hl hll HSUM
    have HNN := Lib.hid hn
    have wn := wf_small (i := (n : Int)) (by omega) (by omega)
    have HM := Lib.hid (fun (wx : World) => iListAll_v (n : Int) wx wn)
    have hv1 : (v != 0) = true := by simpa using hne
    obtain ⟨hl1, hl8⟩ := hl
    clear e1 hf hx hy hv wn hn hll
    go_wp2_with fail
    refine (HI.out _ _ _ (own_rdv o_a) (own_rdv o_b)).mono ?_
    rintro e W2 ⟨rfl, hb⟩
    have bel := below_step bel hb
    have o_a := own_below o_a hb
    have o_b := own_below o_b hb
    clear hb
    go_wp2_with fail
    refine (HS.out _ _ _ (own_rdv o_a) (own_rdv o_b)).mono ?_
    rintro e W3 ⟨rfl, hb⟩
    have bel := below_step bel hb
    have o_a := own_below o_a hb
    have o_b := own_below o_b hb
    clear hb
    obtain ⟨ao, ca, rfl⟩ := own_slice' o_a
    have HA := Lib.hid o_a
    have HB := Lib.hid o_b
    rw [← HNN.out] at HA ⊢
    clear o_a o_b HI HS
    by_cases h6 : 6 < n
    · have b1 : (6 : Int) < (n : Int) := by omega
      obtain ⟨r, hr⟩ : ∃ r, r = listAll (n : Int) := ⟨_, rfl⟩
      rw [← hr] at HM
      clear hr HSUM
      obtain ⟨rows, ok⟩ := r
      go_wp2_with fail
      have q := HM.out W3
      refine Calls.mono q ?_
      clear q
      rintro e W4 ⟨v_m, rfl, o_m, hb⟩
      have bel := below_step bel hb
      clear hb o_m HM
      go_wp2
      go_ret
      exact ⟨rfl, bel⟩
    · have b1 : ¬ (6 : Int) < (n : Int) := by omega
      rw [listAll_row (by omega), Int.toNat_natCast] at HM
      have hsum := HSUM.out (by omega)
      have hL := allL_length n
      have hob := opn_bd n 0 (by omega) (by omega)
      clear HSUM
      generalize allL n = ms at *
      obtain ⟨L, hLL⟩ : ∃ L, L = ms.length := ⟨_, rfl⟩
      have hmb : L ≤ 5000 := by omega
      have HL := Lib.hid hLL
      have HSUM := Lib.hid hsum
      clear hsum hL hob hLL
      go_wp2_with fail
      have q := HM.out W3
      refine Calls.mono q ?_
      clear q
      rintro e W4 ⟨v_m, rfl, o_m, hb⟩
      have bel := below_step bel hb
      have HA := Lib.hid (own_below HA.out hb)
      have HB := Lib.hid (own_below HB.out hb)
      clear hb HM
      obtain ⟨am, cm, rfl⟩ := ownM_slice' o_m
      rw [← HL.out] at o_m ⊢
      have HO := Lib.hid o_m
      clear o_m
      go_wp2
      go_loopw [11, 12] (fun s i wr => ∃ k : Nat, k ≤ L ∧ i = .int .i64 k ∧ s = .int .i64 (signSum xs ys (ms.take k)) ∧ Below W4.heap.size W4 wr) (fun _ i _ => L - (intOf i).toNat)
      case atStart => exact ⟨0, Nat.zero_le _, rfl, rfl, Below.refl _ _⟩
      case round =>
        obtain ⟨k, hk, rfl, rfl, hbr⟩ := hrel
        have bel2 := below_step bel hbr
        by_cases hlt : k < L
        · have hkl : k < ms.length := by have := HL.out; omega
          obtain ⟨g, u, rfl, hcu, hru⟩ := ownM_at (ownM_below HO.out hbr) k hkl
          have hst := signSum_step xs ys ms k hkl
          have hsb := signSum_bd xs ys (ms.take k)
          have hso := signOf_bd xs ys (ms.getD k [])
          have htl : (ms.take k).length = k := by simp; omega
          rw [htl] at hsb
          have hsd : signOf xs ys (ms.getD k []) = if (finerIn xs (ms.getD k []) && finerIn (ms.getD k []) ys) = true then prodOf sgn (inner xs (ms.getD k [])) else 0 := rfl
          have hsy : finerIn xs (ms.getD k []) = true → finerSign xs (ms.getD k []) = (prodOf sgn (inner xs (ms.getD k [])), true) := finerSign_yes
          generalize ms.getD k [] = R at *
          generalize prodOf sgn (inner xs R) = z at *
          obtain ⟨t, ht⟩ : ∃ t : Int, t = signOf xs ys R := ⟨_, rfl⟩
          rw [← ht] at hst hso hsd
          obtain ⟨s, hs⟩ : ∃ s : Int, s = signSum xs ys (ms.take k) := ⟨_, rfl⟩
          rw [← hs] at hst hsb ⊢
          have HST := Lib.hid hst
          have b3 : (k : Int) < (L : Int) := by omega
          have b4 : (0 : Int) ≤ (k : Int) := by omega
          have HRU := Lib.hid hru
          have HAA := Lib.hid (own_rdv (own_below HA.out hbr))
          have HBB := Lib.hid (own_rdv (own_below HB.out hbr))
          obtain ⟨f1, hf1⟩ : ∃ f1, f1 = finerIn xs R := ⟨_, rfl⟩
          obtain ⟨f2, hf2⟩ : ∃ f2, f2 = finerIn R ys := ⟨_, rfl⟩
          have H1 := Lib.hid (fun (wx : World) (v v2 : Value) (q : RdV wx v xs) (q2 : RdV wx v2 R) => hf1.symm ▸ iFinerIn_v v v2 xs R wx q q2)
          have H2 := Lib.hid (fun (wx : World) (v v2 : Value) (q : RdV wx v R) (q2 : RdV wx v2 ys) => hf2.symm ▸ iFinerIn_v v v2 R ys wx q q2)
          rw [← hf1, ← hf2] at hsd
          rw [← hf1] at hsy
          have hadd : -1000000000 ≤ s + t ∧ s + t ≤ 1000000000 := by omega
          clear hst hru hf1 hf2 htl hs ht
          have HAD := Lib.hid hadd
          clear hadd
          cases f1 with
          | false =>
            have ht0 : t = 0 := by rw [hsd]; simp
            subst ht0
            clear hsd hsy
            go_wp2_with fail
            refine (H1.out _ _ _ HAA.out HRU.out).mono ?_
            rintro e W5 ⟨rfl, hb5⟩
            have HB5 := Lib.hid (below_step hbr hb5)
            clear hb5
            go_wp2
            go_roundw
            case rel => exact ⟨k + 1, by omega, by go_num, by rw [HST.out, Int.add_zero], HB5.out⟩
            case measure => simp [intOf]; omega
          | true =>
            cases f2 with
            | false =>
              have ht0 : t = 0 := by rw [hsd]; simp
              subst ht0
              clear hsd hsy
              go_wp2_with fail
              refine (H1.out _ _ _ HAA.out HRU.out).mono ?_
              rintro e W5 ⟨rfl, hb5⟩
              have HB5 := Lib.hid (below_step hbr hb5)
              have HRU5 := Lib.hid (rdv_below HRU.out hb5)
              have HBB5 := Lib.hid (rdv_below HBB.out hb5)
              have hcu5 := cell_below hcu hb5
              clear hb5
              go_wp2_with fail
              refine (H2.out _ _ _ HRU5.out HBB5.out).mono ?_
              rintro e W6 ⟨rfl, hb6⟩
              have HB6 := Lib.hid (below_step HB5.out hb6)
              clear hb6
              go_wp2
              go_roundw
              case rel => exact ⟨k + 1, by omega, by go_num, by rw [HST.out, Int.add_zero], HB6.out⟩
              case measure => simp [intOf]; omega
            | true =>
              have htz : t = z := by rw [hsd]; simp
              subst htz
              have HSG := Lib.hid (fun (wx : World) (v0 v1 : Value) (k0 : RdV wx v0 xs) (k1 : RdV wx v1 R) => hsy rfl ▸ iFinerSign_v v0 v1 xs R wx k0 k1)
              clear hsd hsy
              go_wp2_with fail
              refine (H1.out _ _ _ HAA.out HRU.out).mono ?_
              rintro e W5 ⟨rfl, hb5⟩
              have HB5 := Lib.hid (below_step hbr hb5)
              have HRU5 := Lib.hid (rdv_below HRU.out hb5)
              have HBB5 := Lib.hid (rdv_below HBB.out hb5)
              have HAA5 := Lib.hid (rdv_below HAA.out hb5)
              have hcu5 := cell_below hcu hb5
              clear hb5
              go_wp2_with fail
              refine (H2.out _ _ _ HRU5.out HBB5.out).mono ?_
              rintro e W6 ⟨rfl, hb6⟩
              have HB6 := Lib.hid (below_step HB5.out hb6)
              have HRU6 := Lib.hid (rdv_below HRU5.out hb6)
              have HAA6 := Lib.hid (rdv_below HAA5.out hb6)
              have hcu6 := cell_below hcu5 hb6
              clear hb6
              go_wp2_with fail
              refine (HSG.out _ _ _ HAA6.out HRU6.out).mono ?_
              rintro e W7 ⟨rfl, hb7⟩
              have HB7 := Lib.hid (below_step HB6.out hb7)
              clear hb7
              have had := HAD.out
              go_wp2
              go_roundw
              case rel => exact ⟨k + 1, by omega, by go_num, by rw [HST.out], HB7.out⟩
              case measure => simp [intOf]; omega
        · have hkL : k = L := by omega
          have htk : ms.take k = ms := List.take_of_length_le (by rw [← HL.out]; omega)
          rw [htk, HSUM.out]
          have HAA := Lib.hid (own_rdv (own_below HA.out hbr))
          have HBB := Lib.hid (own_rdv (own_below HB.out hbr))
          by_cases hxy : xs = ys
          · rw [if_pos hxy]
            have HQ := Lib.hid (sameInts_v _ _ xs ys wr HAA.out HBB.out)
            have hd : decide (xs = ys) = true := by simpa using hxy
            rw [hd] at HQ
            clear hxy hd
            go_wp2_with fail
            refine HQ.out.mono ?_
            rintro e W5 ⟨rfl, hq⟩
            have hb5 := below_step bel2 (hq wr.heap.size)
            go_wp2
            go_ret
            exact ⟨rfl, hb5⟩
          · rw [if_neg hxy]
            have HQ := Lib.hid (sameInts_v _ _ xs ys wr HAA.out HBB.out)
            have hd : decide (xs = ys) = false := by simpa using hxy
            rw [hd] at HQ
            clear hxy hd
            go_wp2_with fail
            refine HQ.out.mono ?_
            rintro e W5 ⟨rfl, hq⟩
            have hb5 := below_step bel2 (hq wr.heap.size)
            go_wp2
            go_ret
            exact ⟨rfl, hb5⟩

theorem walk (a0 : Option Addr) (len0 cap0 : Nat) (z0 : List Int) (w : World) (w0 : IsRow .u8 w a0 len0 cap0 z0) :
    Calls Try.prog 3 #[.slice a0 len0 cap0] w fun e w' => e = .returned (.bool true) ∧ Below w.heap.size w w' := by
  obtain ⟨hB, hc, hcm⟩ := bytes_of_row w0
  refine (Nat.lt_or_ge 1048576 len0).elim (fun hs0 => ?_) (fun hs0 => ?_)
  · go_enter Try.func3, Try.ntmps3
    go_wp2
    go_ret
    exact ⟨rfl, Below.refl _ _⟩
  exact small a0 len0 cap0 w hB hc hcm hs0

set_option maxRecDepth 100000 in
theorem lifted (os : Os) (started : os.Started) (H : Type) (enc : TypeId × Value → H) :
    ReturnsInHanded {} Try.checked os 3 .any (Rows.fnSignSpec.pre6 enc Try.prog Try.f3 Rows.fnSignRow.domain false) (Rows.fnSignSpec.post enc Try.prog Try.f3 false true false false) := by
  refine returnsInHanded_of_change (C := Try.checked) own started (by kernel_rfl) Try.func3
    (ChangeSpec.witness6 (enc := enc) (C := Try.checked) false ⟨#[], #[.slice none 0 0], []⟩ 8 (by kernel_rfl) (by kernel_rfl) (by kernel_rfl) (by kernel_rfl)) ?_
  intro W base args ds gs before hval0 hW hcnd _
  have hval : ∀ (j : Nat) t v, Try.f3.params[j]? = some t → args[j]? = some v → Value.okWide Try.prog W .any base t v := hval0
  have hW' := hW
  obtain ⟨p, q, hA0, hV, rfl, hfz, hnd⟩ := hW
  have hA : DataW.TrodAll enc Try.prog W 0 (fun _ => true) true Try.f3.params.toList args.toList ds p := hA0
  rw [Try.params3] at hA hval
  obtain ⟨v0, vs0, d0, ds0, p0, q0, hargs, rfl, rfl, h0, r0⟩ := trodAll_cons hA
  obtain ⟨rfl, rfl, rfl⟩ := trodAll_nil r0
  obtain rfl : args = #[v0] := by cases args; simp_all
  obtain ⟨rfl, rfl⟩ := trodVars_none hV
  obtain ⟨a0, len0, cap0, rfl⟩ := okWide_slice Try.underlying22 (hval 0 22 v0 rfl rfl)
  have k0 := h0
  have lt0 : ∀ x ∈ p0, x.block < W.heap.size := by obtain ⟨m, hm⟩ := k0; exact DataW.trod_lt m _ _ _ hm
  obtain ⟨z0, w0⟩ : ∃ zs, IsRow .u8 W a0 len0 cap0 zs := by
    obtain ⟨fuel, hf⟩ := h0
    rcases open_ints Try.underlying22 Try.underlying5 (by kernel_rfl) hf with ⟨hcs, _⟩ | ⟨x, l, c, zs, hcs, _, hl, hm, hz, _, hcell, hwz⟩
    · simp [Value.cells] at hcs
      obtain ⟨rfl, rfl, rfl⟩ := hcs
      exact ⟨[], .inl ⟨rfl, rfl, rfl, rfl⟩⟩
    · simp [Value.cells] at hcs
      obtain ⟨rfl, rfl, rfl⟩ := hcs
      exact ⟨zs, .inr ⟨_, rfl, hl, hm, by simpa using hz, hcell, hwz⟩⟩
  clear hA0 hval0
  refine (walk a0 len0 cap0 z0 W w0).mono fun e W' ⟨he, bel⟩ => ?_
  subst he
  exact ⟨_, rfl, _, _, _, [], _, [], hW', trodAll_mk1 (shut_bool Try.underlying4 _), (trodAll_cons_mk (Below.trod laidOut (by kernel_rfl) (of_decide_eq_true (by kernel_rfl)) k0 bel lt0) trodAll_mk0), rfl, bel.frame _, fun h => by cases h⟩

theorem over : Rows.fnSignRow.holds Try.pinned (OpenSpec.ofChange Rows.fnSignSpec) :=
  OpenClaim.holds_of_wide 3 Try.f3 rfl rfl rfl rfl rfl rfl rfl ⟨rfl, rfl, rfl, rfl, rfl⟩ rfl rfl rfl rfl rfl (by kernel_rfl) Try.func3 (by kernel_rfl)
    (of_decide_eq_true (by kernel_rfl)) (by unfold Func.isWrapper; first | (rw [if_pos (by decide +kernel)]; kernel_rfl) | (rw [if_neg (by decide +kernel)]; exact ⟨rfl, rfl⟩))
    (fun os started H enc _ => lifted os started H enc)

/-- The statement. -/
theorem proved : Rows.FnSignSaid := over
end Go.Proofs.Ytipmafplpoadjaa.fnSign
