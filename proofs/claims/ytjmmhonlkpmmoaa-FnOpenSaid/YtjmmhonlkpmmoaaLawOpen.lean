/-
  The law of beginnings. For every input the Go text of laws.FnOpen returns true, and its argument reads afterwards as before. No condition.
-/
import Derived.Test.YtjmmhonlkpmmoaaDrawPart
import Derived.Test.YtjmmhonlkpmmoaaSame
import Derived.Test.YtjmmhonlkpmmoaaRows
import Derived.Test.YtjmmhonlkpmmoaaPure
import Derived.Test.YtjmmhonlkpmmoaaHelp
import Derived.Test.YtjmmhonlkpmmoaaPlainKit
import Derived.Test.YtjmmhonlkpmmoaaListsT
import Derived.Test.YtjmmhonlkpmmoaaDrawList
import Derived.Test.YtjmmhonlkpmmoaaPut
import Derived.WalkKit
import Derived.ProofKit
import Derived.OpenShut
import Derived.ShutString
import Derived.ChangeOld
import Derived.Below
namespace Go.Proofs.Ytjmmhonlkpmmoaa.fnOpen
open Go.ChangeShapes Go.WideShapes Go.ChangeAt Go.RowKit
open Go.ChangeMaps (open_string shut_string)
set_option linter.unusedVariables false
set_option linter.unusedSimpArgs false
set_option linter.unnecessarySimpa false

theorem own : ownKnob Try.prog.godebug = none := by kernel_rfl
theorem laidOut : laidOutB Try.prog = true := by kernel_rfl

theorem sameInts_t (v u : Value) (xs : List Int) (w : World) (hv : RdV w v xs) (hu : RdV w u xs) : Calls Try.prog 16 #[v, u] w fun e w' => e = .returned (.bool true) ∧ Same w w' :=
  (sameInts_v v u xs xs w hv hu).mono fun e w' ⟨he, hw⟩ => ⟨by rw [he]; simp, hw⟩

/-- Beginnings go on by one thing. -/
theorem open_round {n : Int} {xs : List Int} {m : Nat} (hp : partIn xs = true) (hn8 : n ≤ 8) (hm : n = (xs.length : Int) + (m + 1 : Nat)) (b : Nat) (hb : (b : Int) ≤ pSize xs) :
    partPut xs (b : Int) = (xs ++ [(b : Int)], true) ∧ listOpen n (xs ++ [(b : Int)]) = (opn m (max (pSize xs) ((b : Int) + 1)), true) := by
  have hl := partIn_len hp
  refine ⟨by unfold partPut; rw [if_pos ⟨hp, by omega, by omega, hb⟩], ?_⟩
  have h1 := put_part hp (k := (b : Int)) (by omega) (by omega) hb
  have h2 : pSize (xs ++ [(b : Int)]) = max (pSize xs) ((b : Int) + 1) := sizeFrom_snoc xs (b : Int) 0
  have h3 : (xs ++ [(b : Int)]).length = xs.length + 1 := by simp
  unfold listOpen
  rw [if_pos ⟨h1, by rw [h3]; omega, hn8⟩, h2, h3, show n.toNat - (xs.length + 1) = m by omega]

/-- The sum of the first j rounds. -/
def upTo (k o1 o2 : Int) (j : Nat) : Int := if (j : Int) ≤ k then (j : Int) * o1 else k * o1 + o2

theorem upTo_step {k : Int} {m : Nat} (b : Nat) (hb : (b : Int) ≤ k) : upTo k (opn m k) (opn m (k + 1)) (b + 1) = upTo k (opn m k) (opn m (k + 1)) b + opn m (max k ((b : Int) + 1)) := by
  unfold upTo
  rw [if_pos hb]
  by_cases h : (b : Int) + 1 ≤ k
  · rw [if_pos (by omega), show max k ((b : Int) + 1) = k by omega, Int.natCast_add, Int.add_mul]
    simp
  · have e : k = (b : Int) := by omega
    rw [if_neg (by omega), e, show max (b : Int) ((b : Int) + 1) = (b : Int) + 1 by omega]

theorem upTo_bd {k : Int} {m : Nat} (hk : 0 ≤ k) (hm : (m : Int) + 1 + k ≤ 8) (j : Nat) : 0 ≤ upTo k (opn m k) (opn m (k + 1)) j ∧ upTo k (opn m k) (opn m (k + 1)) j ≤ 40000 := by
  unfold upTo
  have h1 := opn_bd m (k + 1) (by omega) (by omega)
  split
  · exact ⟨(opn_mul_bd m k j hk (by omega) (by omega) (by omega)).1, by have := (opn_mul_bd m k j hk (by omega) (by omega) (by omega)).2; omega⟩
  · have := opn_mul_bd m k k hk (by omega) (by omega) (by omega)
    omega

set_option maxRecDepth 100000 in
set_option maxHeartbeats 4000000 in
theorem small (a0 : Option Addr) (len0 cap0 : Nat) (w : World) (hB : Bytes w a0 len0) (hc : len0 ≤ cap0) (hcm : cap0 ≤ maxLen) (hs0 : len0 ≤ 1048576) :
    Calls Try.prog 10 #[.slice a0 len0 cap0] w fun e w' => e = .returned (.bool true) ∧ Below w.heap.size w w' := by
  have bel : Below w.heap.size w w := Below.refl _ _
  go_enter Try.func10, Try.ntmps10
  go_wp2_with fail
  refine (drawListOpen_any a0 len0 cap0 _ hB hs0 hc hcm).mono ?_
  rintro e W1 ⟨n, v_a, xs, rfl, hn, o, hl9, hx9, hb⟩
  have bel := below_step bel hb
  clear hb
  have o_a := o
  clear o
  have wn := wf_small (i := n) (by omega) (by omega)
  by_cases hp : partIn xs = true ∧ (xs.length : Int) ≤ n ∧ n ≤ 8
  · have hl := partIn_len hp.1
    have e1 : listOpen n xs = (opn (n.toNat - xs.length) (pSize xs), true) := by unfold listOpen; rw [if_pos hp]
    have e2 : partSize xs = (pSize xs, true) := partSize_yes hp.1
    have hbd := pSize_bd (partIn_small hp.1)
    have hps := size_le_len xs 0 (by omega) (partIn_ok hp.1)
    have hps : pSize xs ≤ xs.length := by show sizeFrom 0 xs ≤ _; omega
    have hob := opn_bd (n.toNat - xs.length) (pSize xs) hbd.1 (by omega)
    have HP1 := Lib.hid hp.1
    have HI := Lib.hid (fun (wx : World) (v0 : Value) (k0 : RdV wx v0 xs) => e1 ▸ iListOpen_v v0 n xs wx k0 wn)
    have HS := Lib.hid (fun (wx : World) (v0 : Value) (k0 : RdV wx v0 xs) => e1 ▸ sListOpen_v v0 n xs wx k0 wn)
    have HZ := Lib.hid (fun (wx : World) (v0 : Value) (k0 : RdV wx v0 xs) => e2 ▸ iPartSize_v v0 xs wx k0)
    have HR := Lib.hid (fun (m : Nat) (hm : n = (xs.length : Int) + (m + 1 : Nat)) (j : Nat) (hj : (j : Int) ≤ pSize xs) => open_round hp.1 hp.2.2 hm j hj)
    obtain ⟨L, hL⟩ : ∃ L, L = xs.length := ⟨_, rfl⟩
    rw [← hL] at HI HS HR hp hl hps hob
    have HL := Lib.hid hL
    obtain ⟨r, hr⟩ : ∃ r : Int, r = opn (n.toNat - L) (pSize xs) := ⟨_, rfl⟩
    rw [← hr] at HI HS hob
    have HRR := Lib.hid hr
    obtain ⟨k, hk⟩ : ∃ k : Int, k = pSize xs := ⟨_, rfl⟩
    rw [← hk] at HZ HR hbd hps
    have HK := Lib.hid hk
    rw [← hk] at HRR
    have hp2 := hp.2
    clear e1 e2 hp hL hr hk hx9 hl9
    go_wp2_with fail
    refine (HI.out _ _ (own_rdv o_a)).mono ?_
    rintro e W2 ⟨rfl, hb⟩
    have bel := below_step bel hb
    have o_a := own_below o_a hb
    clear hb
    go_wp2_with fail
    refine (HS.out _ _ (own_rdv o_a)).mono ?_
    rintro e W3 ⟨rfl, hb⟩
    have bel := below_step bel hb
    have o_a := own_below o_a hb
    clear hb
    go_wp2_with fail
    refine (HZ.out _ _ (own_rdv o_a)).mono ?_
    rintro e W4 ⟨rfl, hb⟩
    have bel := below_step bel hb
    have o_a := own_below o_a hb
    clear hb
    obtain ⟨ao, ca, rfl⟩ := own_slice' o_a
    rw [← HL.out]
    have HA := Lib.hid o_a
    clear o_a HI HS HZ
    by_cases hln : (L : Int) = n
    · have hr1 : r = 1 := by rw [HRR.out, show n.toNat - L = 0 by omega]; rfl
      have b1 : ((L : Int) == n) = true := by simpa using hln
      subst hr1
      clear HRR HR
      go_wp2
      go_ret
      exact ⟨rfl, bel⟩
    · have b1 : ((L : Int) == n) = false := by simpa using hln
      obtain ⟨m, hm⟩ : ∃ m : Nat, n.toNat - L = m + 1 := ⟨n.toNat - L - 1, by omega⟩
      have hm2 : n = (L : Int) + (m + 1 : Nat) := by omega
      have HRM := Lib.hid (HR.out m hm2)
      have hub := fun j => upTo_bd (k := k) (m := m) hbd.1 (by omega) j
      have hust := fun (j : Nat) (hj : (j : Int) ≤ k) => upTo_step (k := k) (m := m) j hj
      have hen : r = upTo k (opn m k) (opn m (k + 1)) (k.toNat + 1) := by rw [HRR.out, hm, upTo, if_neg (by omega)]; rfl
      have hmb := fun (j : Nat) (hj : (j : Int) ≤ k) => opn_bd m (max k ((j : Int) + 1)) (by omega) (by omega)
      have h00 : upTo k (opn m k) (opn m (k + 1)) 0 = 0 := by rw [upTo, if_pos (by omega)]; simp
      generalize upTo k (opn m k) (opn m (k + 1)) = S at *
      have HUS := Lib.hid hust
      have HUB := Lib.hid hub
      have HEN := Lib.hid hen
      have HMB := Lib.hid hmb
      have wm : ∀ j : Nat, (j : Int) ≤ k → (Lit.int .i64 (j : Int)).wf = true := fun j hj => wf_small (by omega) (by omega)
      have HW := Lib.hid wm
      have HWN := Lib.hid wn
      clear HR HRR hm hm2 hust hub hen hmb wm wn
      go_wp2
      go_loopw [11, 12] (fun s i wr => ∃ j : Nat, (j : Int) ≤ k + 1 ∧ i = .int .i64 j ∧ s = .int .i64 (S j) ∧ Below W4.heap.size W4 wr) (fun _ i _ => k.toNat + 1 - (intOf i).toNat)
      case atStart => exact ⟨0, by omega, rfl, by rw [h00], Below.refl _ _⟩
      case round =>
        obtain ⟨j, hj, rfl, rfl, hbr⟩ := hrel
        have bel2 := below_step bel hbr
        have hsb := HUB.out j
        by_cases hlt : (j : Int) ≤ k
        · obtain ⟨f1, f2⟩ := HRM.out j hlt
          have hst := HUS.out j hlt
          have hmb := HMB.out j hlt
          have wj := HW.out j hlt
          obtain ⟨y, hy⟩ : ∃ y : Int, y = opn m (max k ((j : Int) + 1)) := ⟨_, rfl⟩
          rw [← hy] at f2 hst hmb
          obtain ⟨ys, hys⟩ : ∃ ys, ys = xs ++ [(j : Int)] := ⟨_, rfl⟩
          rw [← hys] at f1 f2
          have F1 := Lib.hid (fun (wx : World) (v0 : Value) (k0 : RdV wx v0 xs) => f1 ▸ iPartPut_v v0 xs (j : Int) wx k0 wj)
          have F2 := Lib.hid (fun (wx : World) (v0 : Value) (k0 : RdV wx v0 ys) => f2 ▸ iListOpen_v v0 n ys wx k0 HWN.out)
          obtain ⟨s, hs⟩ : ∃ s : Int, s = S j := ⟨_, rfl⟩
          rw [← hs] at hst hsb ⊢
          have HST := Lib.hid hst
          have HAA := Lib.hid (own_rdv (own_below HA.out hbr))
          have b2 : (0 : Int) ≤ (j : Int) := by omega
          clear f1 f2 hst hy hys hs wj
          go_wp2_with fail
          rw [HL.out]
          refine (F1.out _ _ HAA.out).mono ?_
          rintro e V1 ⟨v1, rfl, o1, hb⟩
          have hbr1 := below_step hbr hb
          clear hb
          rw [← HL.out]
          go_wp2_with fail
          refine (F2.out _ _ (own_rdv o1)).mono ?_
          rintro e V2 ⟨rfl, hb⟩
          have hbr2 := below_step hbr1 hb
          clear hb
          go_wp2
          go_roundw
          case rel => exact ⟨j + 1, by omega, by go_num, by rw [HST.out], hbr2⟩
          case measure => simp [intOf]; omega
        · have he : S j = r := by rw [HEN.out, show j = k.toNat + 1 by omega]
          rw [he]
          clear he hsb h00
          go_wp2
          go_ret
          exact ⟨rfl, bel2⟩
  · have e1 : listOpen n xs = (0, false) := by unfold listOpen; rw [if_neg hp]
    have HI := Lib.hid (fun (wx : World) (v0 : Value) (k0 : RdV wx v0 xs) => e1 ▸ iListOpen_v v0 n xs wx k0 wn)
    have HS := Lib.hid (fun (wx : World) (v0 : Value) (k0 : RdV wx v0 xs) => e1 ▸ sListOpen_v v0 n xs wx k0 wn)
    clear e1 hp wn
    go_wp2_with fail
    refine (HI.out _ _ (own_rdv o_a)).mono ?_
    rintro e W2 ⟨rfl, hb⟩
    have bel := below_step bel hb
    have o_a := own_below o_a hb
    clear hb
    go_wp2_with fail
    refine (HS.out _ _ (own_rdv o_a)).mono ?_
    rintro e W3 ⟨rfl, hb⟩
    have bel := below_step bel hb
    have o_a := own_below o_a hb
    clear hb
    go_wp2
    go_ret
    exact ⟨rfl, bel⟩

theorem walk (a0 : Option Addr) (len0 cap0 : Nat) (z0 : List Int) (w : World) (w0 : IsRow .u8 w a0 len0 cap0 z0) :
    Calls Try.prog 10 #[.slice a0 len0 cap0] w fun e w' => e = .returned (.bool true) ∧ Below w.heap.size w w' := by
  obtain ⟨hB, hc, hcm⟩ := bytes_of_row w0
  refine (Nat.lt_or_ge 1048576 len0).elim (fun hs0 => ?_) (fun hs0 => ?_)
  · go_enter Try.func10, Try.ntmps10
    go_wp2
    go_ret
    exact ⟨rfl, Below.refl _ _⟩
  exact small a0 len0 cap0 w hB hc hcm hs0

set_option maxRecDepth 100000 in
theorem lifted (os : Os) (started : os.Started) (H : Type) (enc : TypeId × Value → H) :
    ReturnsInHanded {} Try.checked os 10 .any (Rows.fnOpenSpec.pre6 enc Try.prog Try.f10 Rows.fnOpenRow.domain false) (Rows.fnOpenSpec.post enc Try.prog Try.f10 false true false false) := by
  refine returnsInHanded_of_change (C := Try.checked) own started (by kernel_rfl) Try.func10
    (ChangeSpec.witness6 (enc := enc) (C := Try.checked) false ⟨#[], #[.slice none 0 0], []⟩ 8 (by kernel_rfl) (by kernel_rfl) (by kernel_rfl) (by kernel_rfl)) ?_
  intro W base args ds gs before hval0 hW hcnd _
  have hval : ∀ (j : Nat) t v, Try.f10.params[j]? = some t → args[j]? = some v → Value.okWide Try.prog W .any base t v := hval0
  have hW' := hW
  obtain ⟨p, q, hA0, hV, rfl, hfz, hnd⟩ := hW
  have hA : DataW.TrodAll enc Try.prog W 0 (fun _ => true) true Try.f10.params.toList args.toList ds p := hA0
  rw [Try.params10] at hA hval
  obtain ⟨v0, vs0, d0, ds0, p0, q0, hargs, rfl, rfl, h0, r0⟩ := trodAll_cons hA
  obtain ⟨rfl, rfl, rfl⟩ := trodAll_nil r0
  obtain rfl : args = #[v0] := by cases args; simp_all
  obtain ⟨rfl, rfl⟩ := trodVars_none hV
  obtain ⟨a0, len0, cap0, rfl⟩ := okWide_slice Try.underlying22 (hval 0 22 v0 rfl rfl)
  have k0 := h0
  have lt0 : ∀ x ∈ p0, x.block < W.heap.size := by obtain ⟨m, hm⟩ := k0; exact DataW.trod_lt m _ _ _ hm
  obtain ⟨z0, w0⟩ : ∃ zs, IsRow .u8 W a0 len0 cap0 zs := by
    obtain ⟨fuel, hf⟩ := h0
    rcases open_ints Try.underlying22 Try.underlying5 (by kernel_rfl) hf with ⟨hcs, _⟩ | ⟨x, l, c, zs, hcs, _, hl, hm, hz, _, hcell, hwz⟩
    · simp [Value.cells] at hcs
      obtain ⟨rfl, rfl, rfl⟩ := hcs
      exact ⟨[], .inl ⟨rfl, rfl, rfl, rfl⟩⟩
    · simp [Value.cells] at hcs
      obtain ⟨rfl, rfl, rfl⟩ := hcs
      exact ⟨zs, .inr ⟨_, rfl, hl, hm, by simpa using hz, hcell, hwz⟩⟩
  clear hA0 hval0
  refine (walk a0 len0 cap0 z0 W w0).mono fun e W' ⟨he, bel⟩ => ?_
  subst he
  exact ⟨_, rfl, _, _, _, [], _, [], hW', trodAll_mk1 (shut_bool Try.underlying4 _), (trodAll_cons_mk (Below.trod laidOut (by kernel_rfl) (of_decide_eq_true (by kernel_rfl)) k0 bel lt0) trodAll_mk0), rfl, bel.frame _, fun h => by cases h⟩

theorem over : Rows.fnOpenRow.holds Try.pinned (OpenSpec.ofChange Rows.fnOpenSpec) :=
  OpenClaim.holds_of_wide 10 Try.f10 rfl rfl rfl rfl rfl rfl rfl ⟨rfl, rfl, rfl, rfl, rfl⟩ rfl rfl rfl rfl rfl (by kernel_rfl) Try.func10 (by kernel_rfl)
    (of_decide_eq_true (by kernel_rfl)) (by unfold Func.isWrapper; first | (rw [if_pos (by decide +kernel)]; kernel_rfl) | (rw [if_neg (by decide +kernel)]; exact ⟨rfl, rfl⟩))
    (fun os started H enc _ => lifted os started H enc)

/-- The statement. -/
theorem proved : Rows.FnOpenSaid := over
end Go.Proofs.Ytjmmhonlkpmmoaa.fnOpen
