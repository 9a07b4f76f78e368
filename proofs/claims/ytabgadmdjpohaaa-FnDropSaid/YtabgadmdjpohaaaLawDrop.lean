/-
  The law of one thing less. For every input the Go text of laws.FnDrop returns true, and its argument reads afterwards as before. No condition.
-/
import Derived.Test.YtabgadmdjpohaaaDrawPart
import Derived.Test.YtabgadmdjpohaaaSame
import Derived.Test.YtabgadmdjpohaaaRows
import Derived.Test.YtabgadmdjpohaaaPure
import Derived.Test.YtabgadmdjpohaaaHelp
import Derived.Test.YtabgadmdjpohaaaRds
import Derived.Test.YtabgadmdjpohaaaPlainKit
import Derived.Test.YtabgadmdjpohaaaDrop
import Derived.Test.YtabgadmdjpohaaaSize
import Derived.Test.YtabgadmdjpohaaaDropMath
import Derived.Test.YtabgadmdjpohaaaFinSign
import Derived.WalkKit
import Derived.ProofKit
import Derived.OpenShut
import Derived.ShutString
import Derived.ChangeOld
import Derived.Below
namespace Go.Proofs.Ytabgadmdjpohaaa.fnDrop
open Go.ChangeShapes Go.WideShapes Go.ChangeAt Go.RowKit
open Go.ChangeMaps (open_string shut_string)
set_option linter.unusedVariables false
set_option linter.unusedSimpArgs false
set_option linter.unnecessarySimpa false

theorem own : ownKnob Try.prog.godebug = none := by kernel_rfl
theorem laidOut : laidOutB Try.prog = true := by kernel_rfl

theorem sameInts_t (v u : Value) (xs : List Int) (w : World) (hv : RdV w v xs) (hu : RdV w u xs) : Calls Try.prog 18 #[v, u] w fun e w' => e = .returned (.bool true) ∧ Same w w' :=
  (sameInts_v v u xs xs w hv hu).mono fun e w' ⟨he, hw⟩ => ⟨by rw [he]; simp, hw⟩


set_option maxRecDepth 100000 in
set_option maxHeartbeats 4000000 in
theorem small (a0 : Option Addr) (len0 cap0 : Nat) (w : World) (hB : Bytes w a0 len0) (hc : len0 ≤ cap0) (hcm : cap0 ≤ maxLen) (hs0 : len0 ≤ 1048576) :
    Calls Try.prog 7 #[.slice a0 len0 cap0] w fun e w' => e = .returned (.bool true) ∧ Below w.heap.size w w' := by
  have bel : Below w.heap.size w w := Below.refl _ _
  go_enter Try.func7, Try.ntmps7
  go_wp2_with fail
  refine (drawPartDrop_any a0 len0 cap0 _ hB hs0 hc hcm).mono ?_
  rintro e W1 ⟨v_a, xs, i, rfl, o, hl9, hi0, hi1, hb⟩
  have bel := below_step bel hb
  clear hb
  have o_a := o
  clear o
  have wi := wf_small (i := i) (by omega) (by omega)
  by_cases hp : partIn xs = true ∧ xs.length ≠ 1 ∧ 0 ≤ i ∧ i < xs.length
  · obtain ⟨q, rfl⟩ := Int.eq_ofNat_of_zero_le hp.2.2.1
    have hq : q < xs.length := by omega
    have e1 : partDrop xs (q : Int) = (kOut (dropAt xs q), true) := by unfold partDrop; rw [if_pos hp]; rfl
    obtain ⟨f0, f1, f2, f3⟩ := drop_facts hp.1 hp.2.1 hq
    have e2 := partSize_yes hp.1
    have e3 := partSize_yes f0
    have hbd := pSize_bd (partIn_small hp.1)
    have hle := pSize_le' hp.1
    have hyl : (kOut (dropAt xs q)).length = xs.length - 1 := by rw [kOut_length, dropAt_length _ _ hq]
    obtain ⟨n, hn⟩ : ∃ n, n = xs.length := ⟨_, rfl⟩
    obtain ⟨L, hL⟩ : ∃ L, L = (kOut (dropAt xs q)).length := ⟨_, rfl⟩
    have hnL : n = L + 1 := by omega
    obtain ⟨x, hx⟩ : ∃ x, x = xs.getD q 0 := ⟨_, rfl⟩
    obtain ⟨M, hM⟩ : ∃ M, M = pSize (kOut (dropAt xs q)) := ⟨_, rfl⟩
    obtain ⟨P, hP⟩ : ∃ P, P = pSize xs := ⟨_, rfl⟩
    rw [← hx] at f1 f2 f3
    rw [← hM] at f2 f3 e3
    rw [← hP] at f2 f3 e2 hbd hle
    rw [← hn] at hl9 hq hle
    have HI := Lib.hid (fun (wx : World) (v0 : Value) (k0 : RdV wx v0 xs) => e1 ▸ iPartDrop_v v0 xs (q : Int) wx k0 wi)
    have HS := Lib.hid (fun (wx : World) (v0 : Value) (k0 : RdV wx v0 xs) => e1 ▸ sPartDrop_v v0 xs (q : Int) wx k0 wi)
    have HP := Lib.hid (fun (wx : World) (v0 : Value) (k0 : RdV wx v0 xs) => e2 ▸ iPartSize_v v0 xs wx k0)
    have HCT := Lib.hid (fun (k : Nat) (hk : k < xs.length) => count_take_succ x hk)
    generalize kOut (dropAt xs q) = ys at *
    have HQ := Lib.hid (fun (wx : World) (v0 : Value) (k0 : RdV wx v0 ys) => e3 ▸ iPartSize_v v0 ys wx k0)
    have HF := Lib.hid (And.intro f1 (And.intro f2 f3))
    have HN := Lib.hid hn
    have HX := Lib.hid hx
    have HL := Lib.hid hL
    have HBP := Lib.hid (And.intro hbd hle)
    have HNL := Lib.hid hnL
    clear hnL e1 e2 e3 f0 f1 f2 f3 hM hP hn hx hL hyl hp hbd hle wi
    go_wp2_with fail
    refine (HI.out _ _ (own_rdv o_a)).mono ?_
    rintro e W2 ⟨v_o, rfl, o, hb⟩
    have bel := below_step bel hb
    have o_a := own_below o_a hb
    clear hb
    have o_o := o
    clear o
    go_wp2_with fail
    refine (HS.out _ _ (own_rdv o_a)).mono ?_
    rintro e W3 ⟨v_w, rfl, o, hb⟩
    have bel := below_step bel hb
    have o_a := own_below o_a hb
    have o_o := own_below o_o hb
    clear hb
    have o_w := o
    clear o
    go_wp2_with fail
    refine (sameInts_t _ _ ys _ (own_rdv o_o) (own_rdv o_w)).mono ?_
    rintro e W4 ⟨rfl, hq'⟩
    have hb := hq' W3.heap.size
    clear hq'
    have bel := below_step bel hb
    have o_a := own_below o_a hb
    have o_o := own_below o_o hb
    clear hb
    clear o_w
    obtain ⟨ao, ca, rfl⟩ := own_slice' o_o
    rw [← HL.out] at o_o ⊢
    obtain ⟨g, cp, rfl, hg⟩ := own_slice o_a (by rw [← HN.out]; omega)
    rw [← HN.out] at o_a ⊢
    go_wp2_with fail
    refine (HP.out _ _ (own_rdv o_a)).mono ?_
    rintro e W5 ⟨rfl, hb⟩
    have bel := below_step bel hb
    have o_a := own_below o_a hb
    have o_o := own_below o_o hb
    clear hb
    go_wp2_with fail
    refine (HQ.out _ _ (own_rdv o_o)).mono ?_
    rintro e W6 ⟨rfl, hb⟩
    have bel := below_step bel hb
    have o_a := own_below o_a hb
    clear hb o_o
    have HA := Lib.hid o_a
    have hcx := own_cell o_a q (by rw [← HN.out]; omega)
    rw [← HX.out] at hcx
    have q0 : (0 : Int) ≤ (q : Int) := by omega
    have q1 : (q : Int) < (n : Int) := by omega
    have n0 : n ≤ 9 := by omega
    clear o_a HI HS HP HQ
    go_wp2
    go_loopw [13, 14] (fun al i wr => ∃ k : Nat, k ≤ n ∧ i = .int .i64 k ∧ al = .int .i64 ((xs.take k).count x : Nat) ∧ Below W6.heap.size W6 wr) (fun _ i _ => n - (intOf i).toNat)
    case atStart => exact ⟨0, Nat.zero_le _, rfl, rfl, Below.refl _ _⟩
    case round =>
      obtain ⟨k, hk, rfl, rfl, hbr⟩ := hrel
      have bel2 := below_step bel hbr
      by_cases hlt : k < n
      · have hck := own_cell (own_below HA.out hbr) k (by rw [← HN.out]; omega)
        have hcq : wr.cell? ⟨g, q, none⟩ = some (.int .i64 x) := by rw [hbr.cell (World.block_lt_of_cell? W6 _ hcx)]; exact hcx
        have hct := HCT.out k (by rw [← HN.out]; omega)
        obtain ⟨y, hy⟩ : ∃ y, y = xs.getD k 0 := ⟨_, rfl⟩
        rw [← hy] at hck hct
        obtain ⟨c, hcc⟩ : ∃ c, c = (xs.take k).count x := ⟨_, rfl⟩
        have hcb : c ≤ k := by rw [hcc]; exact Nat.le_trans List.count_le_length (by simp; omega)
        rw [← hcc] at hct ⊢
        have b1 : (k : Int) < (n : Int) := by omega
        have b2 : (0 : Int) ≤ (k : Int) := by omega
        have b3 : IntKind.i64.wrap ((c : Int) + 1) = ((c + 1 : Nat) : Int) := by rw [IntWalk.i64_in _ (by omega)]; omega
        by_cases hyx : y = x
        · rw [if_pos hyx] at hct
          have HCC := Lib.hid hct
          have c1 : (y == x) = true := by simpa using hyx
          clear hct hyx hy hcc
          go_wp2
          go_quiet (fail)
          go_wp2
          go_roundw
          case rel => exact ⟨k + 1, by omega, by go_num, by (have := HCC.out; congr 1; omega), by first | exact hbr | exact below_drewN hbr _⟩
          case measure => simp [intOf]; omega
        · rw [if_neg hyx] at hct
          have HCC := Lib.hid hct
          have c1 : (y == x) = false := by simpa using hyx
          clear hct hyx hy hcc
          go_wp2
          go_quiet (fail)
          go_wp2
          go_roundw
          case rel => exact ⟨k + 1, by omega, by go_num, by (have := HCC.out; congr 1; omega), by first | exact hbr | exact below_drewN hbr _⟩
          case measure => simp [intOf]; omega
      · have hkn : k = n := by omega
        subst hkn
        have htk : xs.take k = xs := List.take_of_length_le (by rw [← HN.out]; omega)
        rw [htk]
        obtain ⟨f1, f2, f3⟩ := HF.out
        obtain ⟨c, hcc⟩ : ∃ c, c = xs.count x := ⟨_, rfl⟩
        rw [← hcc] at f1 f2 f3 ⊢
        have b3 : IntKind.i64.wrap ((k : Int) - 1) = (L : Int) := by have := HNL.out; rw [IntWalk.i64_in _ (by omega)]; omega
        have hP := HBP.out
        by_cases h1 : c = 1
        · have hM := f2 h1
          have b5 : IntKind.i64.wrap (P - 1) = M := by rw [IntWalk.i64_in _ (by omega)]; omega
          subst h1
          clear f1 f2 f3 hcc htk hM hP
          go_wp2
          go_ret
          exact ⟨rfl, bel2⟩
        · have hM := f3 h1
          have c1 : ((c : Int) == 1) = false := by simp; omega
          have c2 : (1 : Int) < (c : Int) := by omega
          subst hM
          clear f1 f2 f3 hcc htk hP
          go_wp2
          go_ret
          exact ⟨rfl, bel2⟩
  · have e1 : partDrop xs i = ([], false) := by unfold partDrop; rw [if_neg hp]
    have HI := Lib.hid (fun (wx : World) (v0 : Value) (k0 : RdV wx v0 xs) => e1 ▸ iPartDrop_v v0 xs i wx k0 wi)
    have HS := Lib.hid (fun (wx : World) (v0 : Value) (k0 : RdV wx v0 xs) => e1 ▸ sPartDrop_v v0 xs i wx k0 wi)
    clear e1 hp
    go_wp2_with fail
    refine (HI.out _ _ (own_rdv o_a)).mono ?_
    rintro e W2 ⟨v_o, rfl, o, hb⟩
    have bel := below_step bel hb
    have o_a := own_below o_a hb
    clear hb
    have o_o := o
    clear o
    go_wp2_with fail
    refine (HS.out _ _ (own_rdv o_a)).mono ?_
    rintro e W3 ⟨v_w, rfl, o, hb⟩
    have bel := below_step bel hb
    have o_a := own_below o_a hb
    have o_o := own_below o_o hb
    clear hb
    have o_w := o
    clear o
    go_wp2_with fail
    refine (sameInts_t _ _ [] _ (own_rdv o_o) (own_rdv o_w)).mono ?_
    rintro e W4 ⟨rfl, hq⟩
    have hb := hq W3.heap.size
    clear hq
    have bel := below_step bel hb
    have o_a := own_below o_a hb
    have o_o := own_below o_o hb
    have o_w := own_below o_w hb
    clear hb
    go_wp2_with fail
    refine (sameInts_t _ _ [] _ (own_rdv o_o) (own_rdv o_w)).mono ?_
    rintro e W5 ⟨rfl, hq⟩
    have hb := hq W4.heap.size
    clear hq
    have bel := below_step bel hb
    have o_a := own_below o_a hb
    have o_o := own_below o_o hb
    have o_w := own_below o_w hb
    clear hb
    go_wp2
    go_ret
    exact ⟨rfl, bel⟩

theorem walk (a0 : Option Addr) (len0 cap0 : Nat) (z0 : List Int) (w : World) (w0 : IsRow .u8 w a0 len0 cap0 z0) :
    Calls Try.prog 7 #[.slice a0 len0 cap0] w fun e w' => e = .returned (.bool true) ∧ Below w.heap.size w w' := by
  obtain ⟨hB, hc, hcm⟩ := bytes_of_row w0
  refine (Nat.lt_or_ge 1048576 len0).elim (fun hs0 => ?_) (fun hs0 => ?_)
  · go_enter Try.func7, Try.ntmps7
    go_wp2
    go_ret
    exact ⟨rfl, Below.refl _ _⟩
  exact small a0 len0 cap0 w hB hc hcm hs0

set_option maxRecDepth 100000 in
theorem lifted (os : Os) (started : os.Started) (H : Type) (enc : TypeId × Value → H) :
    ReturnsInHanded {} Try.checked os 7 .any (Rows.fnDropSpec.pre6 enc Try.prog Try.f7 Rows.fnDropRow.domain false) (Rows.fnDropSpec.post enc Try.prog Try.f7 false true false false) := by
  refine returnsInHanded_of_change (C := Try.checked) own started (by kernel_rfl) Try.func7
    (ChangeSpec.witness6 (enc := enc) (C := Try.checked) false ⟨#[], #[.slice none 0 0], []⟩ 8 (by kernel_rfl) (by kernel_rfl) (by kernel_rfl) (by kernel_rfl)) ?_
  intro W base args ds gs before hval0 hW hcnd _
  have hval : ∀ (j : Nat) t v, Try.f7.params[j]? = some t → args[j]? = some v → Value.okWide Try.prog W .any base t v := hval0
  have hW' := hW
  obtain ⟨p, q, hA0, hV, rfl, hfz, hnd⟩ := hW
  have hA : DataW.TrodAll enc Try.prog W 0 (fun _ => true) true Try.f7.params.toList args.toList ds p := hA0
  rw [Try.params7] at hA hval
  obtain ⟨v0, vs0, d0, ds0, p0, q0, hargs, rfl, rfl, h0, r0⟩ := trodAll_cons hA
  obtain ⟨rfl, rfl, rfl⟩ := trodAll_nil r0
  obtain rfl : args = #[v0] := by cases args; simp_all
  obtain ⟨rfl, rfl⟩ := trodVars_none hV
  obtain ⟨a0, len0, cap0, rfl⟩ := okWide_slice Try.underlying22 (hval 0 22 v0 rfl rfl)
  have k0 := h0
  have lt0 : ∀ x ∈ p0, x.block < W.heap.size := by obtain ⟨m, hm⟩ := k0; exact DataW.trod_lt m _ _ _ hm
  obtain ⟨z0, w0⟩ : ∃ zs, IsRow .u8 W a0 len0 cap0 zs := by
    obtain ⟨fuel, hf⟩ := h0
    rcases open_ints Try.underlying22 Try.underlying5 (by kernel_rfl) hf with ⟨hcs, _⟩ | ⟨x, l, c, zs, hcs, _, hl, hm, hz, _, hcell, hwz⟩
    · simp [Value.cells] at hcs
      obtain ⟨rfl, rfl, rfl⟩ := hcs
      exact ⟨[], .inl ⟨rfl, rfl, rfl, rfl⟩⟩
    · simp [Value.cells] at hcs
      obtain ⟨rfl, rfl, rfl⟩ := hcs
      exact ⟨zs, .inr ⟨_, rfl, hl, hm, by simpa using hz, hcell, hwz⟩⟩
  clear hA0 hval0
  refine (walk a0 len0 cap0 z0 W w0).mono fun e W' ⟨he, bel⟩ => ?_
  subst he
  exact ⟨_, rfl, _, _, _, [], _, [], hW', trodAll_mk1 (shut_bool Try.underlying4 _), (trodAll_cons_mk (Below.trod laidOut (by kernel_rfl) (of_decide_eq_true (by kernel_rfl)) k0 bel lt0) trodAll_mk0), rfl, bel.frame _, fun h => by cases h⟩

theorem over : Rows.fnDropRow.holds Try.pinned (OpenSpec.ofChange Rows.fnDropSpec) :=
  OpenClaim.holds_of_wide 7 Try.f7 rfl rfl rfl rfl rfl rfl rfl ⟨rfl, rfl, rfl, rfl, rfl⟩ rfl rfl rfl rfl rfl (by kernel_rfl) Try.func7 (by kernel_rfl)
    (of_decide_eq_true (by kernel_rfl)) (by unfold Func.isWrapper; first | (rw [if_pos (by decide +kernel)]; kernel_rfl) | (rw [if_neg (by decide +kernel)]; exact ⟨rfl, rfl⟩))
    (fun os started H enc _ => lifted os started H enc)

/-- The statement. -/
theorem proved : Rows.FnDropSaid := over
end Go.Proofs.Ytabgadmdjpohaaa.fnDrop
