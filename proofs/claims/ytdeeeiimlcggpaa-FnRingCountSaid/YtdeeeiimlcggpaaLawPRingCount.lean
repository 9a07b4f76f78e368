/-
  Permutations are counted by their partitions. For every input the Go text of laws.FnRingCount returns true, and its argument reads afterwards as before. No condition.
-/
import Derived.Test.YtdeeeiimlcggpaaDrawPart
import Derived.Test.YtdeeeiimlcggpaaRows
import Derived.Test.YtdeeeiimlcggpaaPure
import Derived.Test.YtdeeeiimlcggpaaHelp
import Derived.Test.YtdeeeiimlcggpaaRingCnt
import Derived.Test.YtdeeeiimlcggpaaSize
import Derived.Test.YtdeeeiimlcggpaaSameRows
import Derived.Test.YtdeeeiimlcggpaaListBlk
import Derived.Test.YtdeeeiimlcggpaaListsU
import Derived.Test.YtdeeeiimlcggpaaDrawList
import Derived.Test.YtdeeeiimlcggpaaTriUse
import Derived.Test.YtdeeeiimlcggpaaTriSpec
import Derived.Test.YtdeeeiimlcggpaaHeldMat
import Derived.Test.YtdeeeiimlcggpaaLists
import Derived.WalkKit
import Derived.ProofKit
import Derived.OpenShut
import Derived.ShutString
import Derived.ChangeOld
import Derived.Below
namespace Go.Proofs.Ytdeeeiimlcggpaa.fnRingCount
open Go.ChangeShapes Go.WideShapes Go.ChangeAt Go.RowKit
open Go.ChangeMaps (open_string shut_string)
set_option linter.unusedVariables false
set_option linter.unusedSimpArgs false
set_option linter.unnecessarySimpa false

theorem own : ownKnob Try.prog.godebug = none := by kernel_rfl
theorem laidOut : laidOutB Try.prog = true := by kernel_rfl


theorem wf_small {i : Int} (h0 : -100000 ≤ i) (h1 : i ≤ 100000) : (Lit.int .i64 i).wf = true := by
  simp [Lit.wf, IntKind.min, IntKind.max, IntKind.bits, IntKind.signed]
  omega

theorem partSize_yes {xs : List Int} (h : partIn xs = true) : partSize xs = (pSize xs, true) := by simp [partSize, h]

def sumRC (l : List (List Int)) : Nat := l.foldr (fun xs a => facP (sizes xs) + a) 0
theorem sumRC_append (l m : List (List Int)) : sumRC (l ++ m) = sumRC l + sumRC m := by
  induction l with
  | nil => simp [sumRC]
  | cons x l ih =>
    show facP (sizes x) + sumRC (l ++ m) = facP (sizes x) + sumRC l + sumRC m
    rw [ih, Nat.add_assoc]
theorem sumRC_step (l : List (List Int)) (k : Nat) (h : k < l.length) : sumRC (l.take (k + 1)) = sumRC (l.take k) + facP (sizes (l.getD k [])) := by
  rw [List.take_succ_eq_append_getElem h, sumRC_append]
  simp [sumRC, List.getD, h]
theorem sumRC_take (l : List (List Int)) (k : Nat) : sumRC (l.take k) ≤ sumRC l := by
  have := sumRC_append (l.take k) (l.drop k)
  rw [List.take_append_drop] at this
  omega
theorem facP_pos (l : List Int) : 1 ≤ facP l := by
  induction l with
  | nil => exact Nat.le_refl _
  | cons x l ih => exact Nat.mul_le_mul (facR_pos _) ih

theorem ring_sum : ∀ n : Nat, n < 7 → 1 ≤ n → ∀ k : Nat, k < 8 → 1 ≤ k → numBy (ext fR) (n : Int) (k : Int) = ((sumRC ((allL n).filter fun xs => pSize xs == (k : Int)) : Int), true) := by decide +kernel
theorem ring_sum_bd : ∀ n : Nat, n < 7 → ∀ k : Nat, k < 8 → sumRC ((allL n).filter fun xs => pSize xs == (k : Int)) ≤ 10000 := by decide +kernel

theorem ring_row (n : Nat) (hn : 1 ≤ n) (h8 : n ≤ 7) (k : Int) (i : Nat) (hi : i < ((allL n).filter fun xs => pSize xs == k).length) : ringCount (((allL n).filter fun xs => pSize xs == k).getD i []) = (((facP (sizes (((allL n).filter fun xs => pSize xs == k).getD i [])) : Nat) : Int), true) := by
  have hm : ((allL n).filter fun xs => pSize xs == k).getD i [] ∈ (allL n).filter fun xs => pSize xs == k := by
    simp only [List.getD, List.getElem?_eq_getElem hi, Option.getD_some]
    exact List.getElem_mem hi
  generalize ((allL n).filter fun xs => pSize xs == k).getD i [] = R at hm
  obtain ⟨h1, h2⟩ := List.mem_filter.1 hm
  have h3 : partIn R = true := by
    unfold allL at h1
    simp at h1
    obtain ⟨p, hp, rfl⟩ := h1
    exact atL_partIn n (p : Int) hn (by omega) (by omega) (by omega)
  simp [ringCount, h3]
theorem draw_any (a : Option Addr) (len cap : Nat) (w : World) (hby : Bytes w a len) (hlen : len ≤ 1048576) (hc : len ≤ cap) (hcm : cap ≤ maxLen) :
    Calls Try.prog 4 #[.slice a len cap] w fun e w' => ∃ v xs, e = .returned v ∧ Own w' w.heap.size v xs ∧ xs.length ≤ 9 ∧ (∀ x ∈ xs, 0 ≤ x ∧ x ≤ 9) ∧ Below w.heap.size w w' := by
  go_enter Try.func4, Try.ntmps4
  go_wp2_with fail
  refine (l91Some_any a len cap w hby hlen hc hcm).mono ?_
  rintro e w1 ⟨v, xs, rfl, h⟩
  go_wp2
  go_ret
  exact ⟨v, xs, rfl, h⟩

set_option maxRecDepth 100000 in
set_option maxHeartbeats 4000000 in
theorem small (a0 : Option Addr) (len0 cap0 : Nat) (w : World) (hB : Bytes w a0 len0) (hc : len0 ≤ cap0) (hcm : cap0 ≤ maxLen) (hs0 : len0 ≤ 1048576) :
    Calls Try.prog 3 #[.slice a0 len0 cap0] w fun e w' => e = .returned (.bool true) ∧ Below w.heap.size w w' := by
  have bel : Below w.heap.size w w := Below.refl _ _
  go_enter Try.func3, Try.ntmps3
  go_wp2_with fail
  refine (draw_any a0 len0 cap0 _ hB hs0 hc hcm).mono ?_
  rintro e W1 ⟨v_a, xs, rfl, o, hl9, _, hb⟩
  have bel := below_step bel hb
  clear hb
  have o_a := o
  clear o
  by_cases hp : partIn xs = true
  · have hl := partIn_len hp
    have hps := pSize_bd (partIn_small hp)
    have hp1 := pSize_pos (partIn_small hp) hl.1
    have hkn : pSize xs ≤ xs.length := by have h1 := pSize_kOut xs; rw [(kOut_of_ok xs (partIn_ok hp)).1] at h1; rw [h1]; exact (kNext_bd xs).2
    have e1 : ringCount xs = (((facP (sizes xs) : Nat) : Int), true) := by simp [ringCount, hp]
    have e2 := partSize_yes hp
    have hfp := facP_pos (sizes xs)
    have hfb : facP (sizes xs) ≤ 40320 := by rw [← facR8]; exact Nat.le_trans (facP_le _) (facR_mono (by rw [sizes_sumN hp]; exact hl.2))
    obtain ⟨k, hk⟩ := Int.eq_ofNat_of_zero_le hps.1
    rw [hk] at e2 hps hp1 hkn
    generalize facP (sizes xs) = f at *
    have HI := Lib.hid (fun (wx : World) (v0 : Value) (k0 : RdV wx v0 xs) => e1 ▸ iRingCount_v v0 xs wx k0)
    have HS := Lib.hid (fun (wx : World) (v0 : Value) (k0 : RdV wx v0 xs) => e1 ▸ sRingCount_v v0 xs wx k0)
    have HP := Lib.hid (fun (wx : World) (v0 : Value) (k0 : RdV wx v0 xs) => e2 ▸ iPartSize_v v0 xs wx k0)
    obtain ⟨ao, ca, rfl⟩ := own_slice' o_a
    obtain ⟨n, hn⟩ : ∃ n, n = xs.length := ⟨_, rfl⟩
    rw [← hn] at hl hl9 hkn o_a ⊢
    have HK := Lib.hid (show 1 ≤ k ∧ k ≤ n by omega)
    have HNL := Lib.hid hl
    clear hp e1 e2 hk hn hkn hps hp1 hl hl9
    go_wp2_with fail
    refine (HI.out _ _ (own_rdv o_a)).mono ?_
    rintro e W2 ⟨rfl, hb⟩
    have bel := below_step bel hb
    have o_a := own_below o_a hb
    clear hb
    go_wp2_with fail
    refine (HS.out _ _ (own_rdv o_a)).mono ?_
    rintro e W3 ⟨rfl, hb⟩
    have bel := below_step bel hb
    have o_a := own_below o_a hb
    clear hb
    obtain ⟨hk1, hkn⟩ := HK.out
    obtain ⟨hl1, hl8⟩ := HNL.out
    clear HI HS
    by_cases h6 : 6 < n
    · have b1 : (6 : Int) < (n : Int) := by omega
      have b2 : (0 : Int) < (f : Int) := by omega
      clear HP
      go_wp2
      go_ret
      exact ⟨by first | rfl | exact ret_bool (by simp <;> omega), bel⟩
    · have b1 : ¬ (6 : Int) < (n : Int) := by omega
      have hsum := ring_sum n (by omega) (by omega) k (by omega) (by omega)
      have hsb := ring_sum_bd n (by omega) k (by omega)
      have e3 : listBlocks (n : Int) (k : Int) = ((allL n).filter fun xs => pSize xs == (k : Int), true) := by unfold listBlocks; rw [if_pos (by omega)]; rfl
      have wn := wf_small (i := (n : Int)) (by omega) (by omega)
      have wk := wf_small (i := (k : Int)) (by omega) (by omega)
      have hob := opn_bd n 0 (by omega) (by omega)
      have hL := allL_length n
      have hfl := List.length_filter_le (fun xs => pSize xs == (k : Int)) (allL n)
      have HROW := Lib.hid (ring_row n (by omega) (by omega) (k : Int))
      have HM := Lib.hid (fun (wx : World) => e3 ▸ iListBlocks_v (n : Int) (k : Int) wx wn wk)
      have HN := Lib.hid (fun (wx : World) => hsum ▸ iNumberRings_v (n : Int) (k : Int) wx wn wk)
      generalize (allL n).filter (fun xs => pSize xs == (k : Int)) = ms at *
      obtain ⟨L, hLL⟩ : ∃ L, L = ms.length := ⟨_, rfl⟩
      have hmb : L ≤ 5000 := by omega
      have HL := Lib.hid hLL
      clear e3 hsum wn wk hL hob hLL hfl
      go_wp2_with fail
      refine (HP.out _ _ (own_rdv o_a)).mono ?_
      rintro e W4 ⟨rfl, hb⟩
      have bel := below_step bel hb
      have o_a := own_below o_a hb
      clear hb
      go_wp2_with fail
      refine (HM.out _).mono ?_
      rintro e W5 ⟨v_o, rfl, o, hb⟩
      have bel := below_step bel hb
      have o_a := own_below o_a hb
      clear hb
      have o_o := o
      clear o
      go_wp2_with fail
      refine (HN.out _).mono ?_
      rintro e W6 ⟨rfl, hb⟩
      have bel := below_step bel hb
      have o_a := own_below o_a hb
      have o_o := ownM_below o_o hb
      clear hb
      obtain ⟨am, cm, rfl⟩ := ownM_slice' o_o
      rw [← HL.out] at o_o ⊢
      have HO := Lib.hid o_o
      clear o_o o_a HP HM HN
      go_wp2
      go_loopw [14, 15] (fun s i wr => ∃ j : Nat, j ≤ L ∧ i = .int .i64 j ∧ s = .int .i64 ((sumRC (ms.take j) : Nat) : Int) ∧ Below W6.heap.size W6 wr) (fun _ i _ => L - (intOf i).toNat)
      case atStart => exact ⟨0, Nat.zero_le _, rfl, rfl, Below.refl _ _⟩
      case round =>
        obtain ⟨j, hj, rfl, rfl, hbr⟩ := hrel
        have bel2 := below_step bel hbr
        by_cases hlt : j < L
        · have hkl : j < ms.length := by have := HL.out; omega
          obtain ⟨g, u, rfl, hcu, hru⟩ := ownM_at (ownM_below HO.out hbr) j hkl
          have h1 := HROW.out j hkl
          have hst := sumRC_step ms j hkl
          have hs1 := sumRC_take ms j
          have hs2 := sumRC_take ms (j + 1)
          generalize ms.getD j [] = R at *
          obtain ⟨s, hs⟩ : ∃ s, s = sumRC (ms.take j) := ⟨_, rfl⟩
          obtain ⟨c, hc⟩ : ∃ c, c = facP (sizes R) := ⟨_, rfl⟩
          rw [← hs] at hst hs1 ⊢
          rw [← hc] at h1 hst
          have hsc : s + c ≤ 10000 := by omega
          have b3 : (j : Int) < (L : Int) := by omega
          have b2 : (0 : Int) ≤ (j : Int) := by omega
          have hs0 : s ≤ 10000 := by omega
          have hc0 : c ≤ 10000 := by omega
          have H1 := Lib.hid (fun (wx : World) (v : Value) (q : RdV wx v R) => h1 ▸ iRingCount_v v R wx q)
          have HRU := Lib.hid hru
          have HST := Lib.hid hst
          clear h1 hru hst hs hc hs1 hs2
          go_wp2_with fail
          refine (H1.out _ _ HRU.out).mono ?_
          rintro e V1 ⟨rfl, hb⟩
          have hbr1 := below_step hbr hb
          clear hb
          go_wp2
          go_roundw
          case rel => exact ⟨j + 1, by omega, by go_num, by first | (rw [HST.out]; go_num) | (rw [HST.out]; rfl) | (rw [HST.out]; simp), by first | exact hbr1 | exact below_drewN hbr1 _⟩
          case measure => simp [intOf]; omega
        · have hkL : j = L := by omega
          have htk : ms.take j = ms := List.take_of_length_le (by have := HL.out; omega)
          rw [htk]
          subst hkL
          go_wp2
          go_ret
          exact ⟨by first | rfl | simp, bel2⟩
  · have e1 : ringCount xs = (0, false) := by simp [ringCount, hp]
    have HI := Lib.hid (fun (wx : World) (v0 : Value) (k0 : RdV wx v0 xs) => e1 ▸ iRingCount_v v0 xs wx k0)
    have HS := Lib.hid (fun (wx : World) (v0 : Value) (k0 : RdV wx v0 xs) => e1 ▸ sRingCount_v v0 xs wx k0)
    clear hp e1
    go_wp2_with fail
    refine (HI.out _ _ (own_rdv o_a)).mono ?_
    rintro e W2 ⟨rfl, hb⟩
    have bel := below_step bel hb
    have o_a := own_below o_a hb
    clear hb
    go_wp2_with fail
    refine (HS.out _ _ (own_rdv o_a)).mono ?_
    rintro e W3 ⟨rfl, hb⟩
    have bel := below_step bel hb
    have o_a := own_below o_a hb
    clear hb
    go_wp2
    go_ret
    exact ⟨rfl, bel⟩

theorem walk (a0 : Option Addr) (len0 cap0 : Nat) (z0 : List Int) (w : World) (w0 : IsRow .u8 w a0 len0 cap0 z0) :
    Calls Try.prog 3 #[.slice a0 len0 cap0] w fun e w' => e = .returned (.bool true) ∧ Below w.heap.size w w' := by
  obtain ⟨hB, hc, hcm⟩ := bytes_of_row w0
  refine (Nat.lt_or_ge 1048576 len0).elim (fun hs0 => ?_) (fun hs0 => ?_)
  · go_enter Try.func3, Try.ntmps3
    go_wp2
    go_ret
    exact ⟨rfl, Below.refl _ _⟩
  exact small a0 len0 cap0 w hB hc hcm hs0

set_option maxRecDepth 100000 in
theorem lifted (os : Os) (started : os.Started) (H : Type) (enc : TypeId × Value → H) :
    ReturnsInHanded {} Try.checked os 3 .any (Rows.fnRingCountSpec.pre6 enc Try.prog Try.f3 Rows.fnRingCountRow.domain false) (Rows.fnRingCountSpec.post enc Try.prog Try.f3 false true false false) := by
  refine returnsInHanded_of_change (C := Try.checked) own started (by kernel_rfl) Try.func3
    (ChangeSpec.witness6 (enc := enc) (C := Try.checked) false ⟨#[], #[.slice none 0 0], []⟩ 8 (by kernel_rfl) (by kernel_rfl) (by kernel_rfl) (by kernel_rfl)) ?_
  intro W base args ds gs before hval0 hW hcnd _
  have hval : ∀ (j : Nat) t v, Try.f3.params[j]? = some t → args[j]? = some v → Value.okWide Try.prog W .any base t v := hval0
  have hW' := hW
  obtain ⟨p, q, hA0, hV, rfl, hfz, hnd⟩ := hW
  have hA : DataW.TrodAll enc Try.prog W 0 (fun _ => true) true Try.f3.params.toList args.toList ds p := hA0
  rw [Try.params3] at hA hval
  obtain ⟨v0, vs0, d0, ds0, p0, q0, hargs, rfl, rfl, h0, r0⟩ := trodAll_cons hA
  obtain ⟨rfl, rfl, rfl⟩ := trodAll_nil r0
  obtain rfl : args = #[v0] := by cases args; simp_all
  obtain ⟨rfl, rfl⟩ := trodVars_none hV
  obtain ⟨a0, len0, cap0, rfl⟩ := okWide_slice Try.underlying22 (hval 0 22 v0 rfl rfl)
  have k0 := h0
  have lt0 : ∀ x ∈ p0, x.block < W.heap.size := by obtain ⟨m, hm⟩ := k0; exact DataW.trod_lt m _ _ _ hm
  obtain ⟨z0, w0⟩ : ∃ zs, IsRow .u8 W a0 len0 cap0 zs := by
    obtain ⟨fuel, hf⟩ := h0
    rcases open_ints Try.underlying22 Try.underlying5 (by kernel_rfl) hf with ⟨hcs, _⟩ | ⟨x, l, c, zs, hcs, _, hl, hm, hz, _, hcell, hwz⟩
    · simp [Value.cells] at hcs
      obtain ⟨rfl, rfl, rfl⟩ := hcs
      exact ⟨[], .inl ⟨rfl, rfl, rfl, rfl⟩⟩
    · simp [Value.cells] at hcs
      obtain ⟨rfl, rfl, rfl⟩ := hcs
      exact ⟨zs, .inr ⟨_, rfl, hl, hm, by simpa using hz, hcell, hwz⟩⟩
  clear hA0 hval0
  refine (walk a0 len0 cap0 z0 W w0).mono fun e W' ⟨he, bel⟩ => ?_
  subst he
  exact ⟨_, rfl, _, _, _, [], _, [], hW', trodAll_mk1 (shut_bool Try.underlying4 _), (trodAll_cons_mk (Below.trod laidOut (by kernel_rfl) (of_decide_eq_true (by kernel_rfl)) k0 bel lt0) trodAll_mk0), rfl, bel.frame _, fun h => by cases h⟩

theorem over : Rows.fnRingCountRow.holds Try.pinned (OpenSpec.ofChange Rows.fnRingCountSpec) :=
  OpenClaim.holds_of_wide 3 Try.f3 rfl rfl rfl rfl rfl rfl rfl ⟨rfl, rfl, rfl, rfl, rfl⟩ rfl rfl rfl rfl rfl (by kernel_rfl) Try.func3 (by kernel_rfl)
    (of_decide_eq_true (by kernel_rfl)) (by unfold Func.isWrapper; first | (rw [if_pos (by decide +kernel)]; kernel_rfl) | (rw [if_neg (by decide +kernel)]; exact ⟨rfl, rfl⟩))
    (fun os started H enc _ => lifted os started H enc)

/-- The statement. -/
theorem proved : Rows.FnRingCountSaid := over
end Go.Proofs.Ytdeeeiimlcggpaa.fnRingCount
