/-
  The law of partitions of so many blocks. For every input the Go text of laws.FnListBlocks returns true, and its argument reads afterwards as before. No condition.
-/
import Derived.Test.YtjmmhonlkpmmoaaDrawPart
import Derived.Test.YtjmmhonlkpmmoaaSame
import Derived.Test.YtjmmhonlkpmmoaaRows
import Derived.Test.YtjmmhonlkpmmoaaPure
import Derived.Test.YtjmmhonlkpmmoaaHelp
import Derived.Test.YtjmmhonlkpmmoaaListsU
import Derived.Test.YtjmmhonlkpmmoaaListBlk
import Derived.Test.YtjmmhonlkpmmoaaDrawList
import Derived.Test.YtjmmhonlkpmmoaaTriUse
import Derived.Test.YtjmmhonlkpmmoaaTriSpec
import Derived.Test.YtjmmhonlkpmmoaaHeldMat
import Derived.Test.YtjmmhonlkpmmoaaSameRows
import Derived.Test.YtjmmhonlkpmmoaaLists
import Derived.WalkKit
import Derived.ProofKit
import Derived.OpenShut
import Derived.ShutString
import Derived.ChangeOld
import Derived.Below
namespace Go.Proofs.Ytjmmhonlkpmmoaa.fnListBlocks
open Go.ChangeShapes Go.WideShapes Go.ChangeAt Go.RowKit
open Go.ChangeMaps (open_string shut_string)
set_option linter.unusedVariables false
set_option linter.unusedSimpArgs false
set_option linter.unnecessarySimpa false

theorem own : ownKnob Try.prog.godebug = none := by kernel_rfl
theorem laidOut : laidOutB Try.prog = true := by kernel_rfl


theorem wf_small {i : Int} (h0 : -100000 ≤ i) (h1 : i ≤ 100000) : (Lit.int .i64 i).wf = true := by
  simp [Lit.wf, IntKind.min, IntKind.max, IntKind.bits, IntKind.signed]
  omega

theorem partSize_yes {xs : List Int} (h : partIn xs = true) : partSize xs = (pSize xs, true) := by simp [partSize, h]

theorem blocks_count : ∀ n : Nat, n < 8 → 1 ≤ n → ∀ k : Nat, k < 8 → 1 ≤ k → numBy (ext fB) (n : Int) (k : Int) = ((((allL n).filter fun xs => pSize xs == (k : Int)).length : Int), true) := by decide +kernel

theorem listBlk_row (n : Nat) (hn : 1 ≤ n) (h8 : n ≤ 7) (k : Int) (i : Nat) (hi : i < ((allL n).filter fun xs => pSize xs == k).length) : partSize (((allL n).filter fun xs => pSize xs == k).getD i []) = (k, true) := by
  have hm : ((allL n).filter fun xs => pSize xs == k).getD i [] ∈ (allL n).filter fun xs => pSize xs == k := by
    simp only [List.getD, List.getElem?_eq_getElem hi, Option.getD_some]
    exact List.getElem_mem hi
  generalize ((allL n).filter fun xs => pSize xs == k).getD i [] = R at hm
  obtain ⟨h1, h2⟩ := List.mem_filter.1 hm
  have h3 : partIn R = true := by
    unfold allL at h1
    simp at h1
    obtain ⟨p, hp, rfl⟩ := h1
    exact atL_partIn n (p : Int) hn (by omega) (by omega) (by omega)
  rw [partSize_yes h3]
  simp at h2
  rw [h2]

set_option maxRecDepth 100000 in
set_option maxHeartbeats 4000000 in
theorem small (a0 : Option Addr) (len0 cap0 : Nat) (w : World) (hB : Bytes w a0 len0) (hc : len0 ≤ cap0) (hcm : cap0 ≤ maxLen) (hs0 : len0 ≤ 1048576) :
    Calls Try.prog 9 #[.slice a0 len0 cap0] w fun e w' => e = .returned (.bool true) ∧ Below w.heap.size w w' := by
  have bel : Below w.heap.size w w := Below.refl _ _
  go_enter Try.func9, Try.ntmps9
  go_wp2_with fail
  refine (drawListBlocks_any a0 len0 cap0 _ hB hs0 hc hcm).mono ?_
  rintro e W1 ⟨n, k, rfl, hn, hk, hb⟩
  have bel := below_step bel hb
  clear hb
  have wn := wf_small (i := n) (by omega) (by omega)
  have wk := wf_small (i := k) (by omega) (by omega)
  by_cases hp : (1 ≤ n ∧ n ≤ 7) ∧ 1 ≤ k ∧ k ≤ 7
  · have e1 : listBlocks n k = ((allL n.toNat).filter fun xs => pSize xs == k, true) := by unfold listBlocks; rw [if_pos hp]
    have e2 := blocks_count n.toNat (by omega) (by omega) k.toNat (by omega) (by omega)
    rw [show ((n.toNat : Nat) : Int) = n by omega, show ((k.toNat : Nat) : Int) = k by omega] at e2
    have hob := opn_bd n.toNat 0 (by omega) (by omega)
    have hL := allL_length n.toNat
    have hfl := List.length_filter_le (fun xs => pSize xs == k) (allL n.toNat)
    have HROW := Lib.hid (listBlk_row n.toNat (by omega) (by omega) k)
    have HI := Lib.hid (fun (wx : World) => e1 ▸ iListBlocks_v n k wx wn wk)
    have HS := Lib.hid (fun (wx : World) => e1 ▸ sListBlocks_v n k wx wn wk)
    have HN := Lib.hid (fun (wx : World) => e2 ▸ iNumberBlocks_v n k wx wn wk)
    generalize (allL n.toNat).filter (fun xs => pSize xs == k) = ms at *
    obtain ⟨L, hLL⟩ : ∃ L, L = ms.length := ⟨_, rfl⟩
    rw [← hLL] at HN
    have hmb : L ≤ 5000 := by omega
    have HL := Lib.hid hLL
    clear e1 e2 wn wk hL hob hLL hfl
    go_wp2_with fail
    refine (HI.out _).mono ?_
    rintro e W2 ⟨v_o, rfl, o, hb⟩
    have bel := below_step bel hb
    clear hb
    have o_o := o
    clear o
    go_wp2_with fail
    refine (HS.out _).mono ?_
    rintro e W3 ⟨v_w, rfl, o, hb⟩
    have bel := below_step bel hb
    have o_o := ownM_below o_o hb
    clear hb
    have o_w := o
    clear o
    go_wp2_with fail
    refine (sameRows_v _ _ ms _ (ownM_rdM o_o) (ownM_rdM o_w)).mono ?_
    rintro e W4 ⟨rfl, hq⟩
    have hb := hq W3.heap.size
    clear hq
    have bel := below_step bel hb
    have o_o := ownM_below o_o hb
    have o_w := ownM_below o_w hb
    clear hb
    clear o_w
    go_wp2_with fail
    refine (HN.out _).mono ?_
    rintro e W5 ⟨rfl, hb⟩
    have bel := below_step bel hb
    have o_o := ownM_below o_o hb
    clear hb
    obtain ⟨am, cm, rfl⟩ := ownM_slice' o_o
    rw [← HL.out] at o_o ⊢
    have HO := Lib.hid o_o
    clear o_o HI HS HN
    go_wp2
    go_loopw [11] (fun i wr => ∃ j : Nat, j ≤ L ∧ i = .int .i64 j ∧ Below W5.heap.size W5 wr) (fun i _ => L - (intOf i).toNat)
    case atStart => exact ⟨0, Nat.zero_le _, rfl, Below.refl _ _⟩
    case round =>
      obtain ⟨j, hj, rfl, hbr⟩ := hrel
      have bel2 := below_step bel hbr
      by_cases hlt : j < L
      · have hkl : j < ms.length := by have := HL.out; omega
        obtain ⟨g, u, rfl, hcu, hru⟩ := ownM_at (ownM_below HO.out hbr) j hkl
        have h1 := HROW.out j hkl
        generalize ms.getD j [] = R at *
        have b1 : (j : Int) < (L : Int) := by omega
        have b2 : (0 : Int) ≤ (j : Int) := by omega
        have H1 := Lib.hid (fun (wx : World) (v : Value) (q : RdV wx v R) => h1 ▸ iPartSize_v v R wx q)
        have HRU := Lib.hid hru
        clear h1 hru
        go_wp2_with fail
        refine (H1.out _ _ HRU.out).mono ?_
        rintro e V1 ⟨rfl, hb⟩
        have hbr1 := below_step hbr hb
        clear hb
        go_wp2
        go_roundw
        case rel => exact ⟨j + 1, by omega, by go_num, by first | exact hbr1 | exact below_drewN hbr1 _⟩
        case measure => simp [intOf]; omega
      · have hkL : j = L := by omega
        subst hkL
        go_wp2
        go_ret
        exact ⟨rfl, bel2⟩
  · have e1 : listBlocks n k = ([], false) := by unfold listBlocks; rw [if_neg hp]
    have HI := Lib.hid (fun (wx : World) => e1 ▸ iListBlocks_v n k wx wn wk)
    have HS := Lib.hid (fun (wx : World) => e1 ▸ sListBlocks_v n k wx wn wk)
    clear e1 hp wn wk
    go_wp2_with fail
    refine (HI.out _).mono ?_
    rintro e W2 ⟨v_o, rfl, o, hb⟩
    have bel := below_step bel hb
    clear hb
    have o_o := o
    clear o
    go_wp2_with fail
    refine (HS.out _).mono ?_
    rintro e W3 ⟨v_w, rfl, o, hb⟩
    have bel := below_step bel hb
    have o_o := ownM_below o_o hb
    clear hb
    have o_w := o
    clear o
    go_wp2_with fail
    refine (sameRows_v _ _ [] _ (ownM_rdM o_o) (ownM_rdM o_w)).mono ?_
    rintro e W4 ⟨rfl, hq⟩
    have hb := hq W3.heap.size
    clear hq
    have bel := below_step bel hb
    have o_o := ownM_below o_o hb
    have o_w := ownM_below o_w hb
    clear hb
    go_wp2_with fail
    refine (sameRows_v _ _ [] _ (ownM_rdM o_o) (ownM_rdM o_w)).mono ?_
    rintro e W5 ⟨rfl, hq⟩
    have hb := hq W4.heap.size
    clear hq
    have bel := below_step bel hb
    have o_o := ownM_below o_o hb
    have o_w := ownM_below o_w hb
    clear hb
    go_wp2
    go_ret
    exact ⟨rfl, bel⟩

theorem walk (a0 : Option Addr) (len0 cap0 : Nat) (z0 : List Int) (w : World) (w0 : IsRow .u8 w a0 len0 cap0 z0) :
    Calls Try.prog 9 #[.slice a0 len0 cap0] w fun e w' => e = .returned (.bool true) ∧ Below w.heap.size w w' := by
  obtain ⟨hB, hc, hcm⟩ := bytes_of_row w0
  refine (Nat.lt_or_ge 1048576 len0).elim (fun hs0 => ?_) (fun hs0 => ?_)
  · go_enter Try.func9, Try.ntmps9
    go_wp2
    go_ret
    exact ⟨rfl, Below.refl _ _⟩
  exact small a0 len0 cap0 w hB hc hcm hs0

set_option maxRecDepth 100000 in
theorem lifted (os : Os) (started : os.Started) (H : Type) (enc : TypeId × Value → H) :
    ReturnsInHanded {} Try.checked os 9 .any (Rows.fnListBlocksSpec.pre6 enc Try.prog Try.f9 Rows.fnListBlocksRow.domain false) (Rows.fnListBlocksSpec.post enc Try.prog Try.f9 false true false false) := by
  refine returnsInHanded_of_change (C := Try.checked) own started (by kernel_rfl) Try.func9
    (ChangeSpec.witness6 (enc := enc) (C := Try.checked) false ⟨#[], #[.slice none 0 0], []⟩ 8 (by kernel_rfl) (by kernel_rfl) (by kernel_rfl) (by kernel_rfl)) ?_
  intro W base args ds gs before hval0 hW hcnd _
  have hval : ∀ (j : Nat) t v, Try.f9.params[j]? = some t → args[j]? = some v → Value.okWide Try.prog W .any base t v := hval0
  have hW' := hW
  obtain ⟨p, q, hA0, hV, rfl, hfz, hnd⟩ := hW
  have hA : DataW.TrodAll enc Try.prog W 0 (fun _ => true) true Try.f9.params.toList args.toList ds p := hA0
  rw [Try.params9] at hA hval
  obtain ⟨v0, vs0, d0, ds0, p0, q0, hargs, rfl, rfl, h0, r0⟩ := trodAll_cons hA
  obtain ⟨rfl, rfl, rfl⟩ := trodAll_nil r0
  obtain rfl : args = #[v0] := by cases args; simp_all
  obtain ⟨rfl, rfl⟩ := trodVars_none hV
  obtain ⟨a0, len0, cap0, rfl⟩ := okWide_slice Try.underlying22 (hval 0 22 v0 rfl rfl)
  have k0 := h0
  have lt0 : ∀ x ∈ p0, x.block < W.heap.size := by obtain ⟨m, hm⟩ := k0; exact DataW.trod_lt m _ _ _ hm
  obtain ⟨z0, w0⟩ : ∃ zs, IsRow .u8 W a0 len0 cap0 zs := by
    obtain ⟨fuel, hf⟩ := h0
    rcases open_ints Try.underlying22 Try.underlying5 (by kernel_rfl) hf with ⟨hcs, _⟩ | ⟨x, l, c, zs, hcs, _, hl, hm, hz, _, hcell, hwz⟩
    · simp [Value.cells] at hcs
      obtain ⟨rfl, rfl, rfl⟩ := hcs
      exact ⟨[], .inl ⟨rfl, rfl, rfl, rfl⟩⟩
    · simp [Value.cells] at hcs
      obtain ⟨rfl, rfl, rfl⟩ := hcs
      exact ⟨zs, .inr ⟨_, rfl, hl, hm, by simpa using hz, hcell, hwz⟩⟩
  clear hA0 hval0
  refine (walk a0 len0 cap0 z0 W w0).mono fun e W' ⟨he, bel⟩ => ?_
  subst he
  exact ⟨_, rfl, _, _, _, [], _, [], hW', trodAll_mk1 (shut_bool Try.underlying4 _), (trodAll_cons_mk (Below.trod laidOut (by kernel_rfl) (of_decide_eq_true (by kernel_rfl)) k0 bel lt0) trodAll_mk0), rfl, bel.frame _, fun h => by cases h⟩

theorem over : Rows.fnListBlocksRow.holds Try.pinned (OpenSpec.ofChange Rows.fnListBlocksSpec) :=
  OpenClaim.holds_of_wide 9 Try.f9 rfl rfl rfl rfl rfl rfl rfl ⟨rfl, rfl, rfl, rfl, rfl⟩ rfl rfl rfl rfl rfl (by kernel_rfl) Try.func9 (by kernel_rfl)
    (of_decide_eq_true (by kernel_rfl)) (by unfold Func.isWrapper; first | (rw [if_pos (by decide +kernel)]; kernel_rfl) | (rw [if_neg (by decide +kernel)]; exact ⟨rfl, rfl⟩))
    (fun os started H enc _ => lifted os started H enc)

/-- The statement. -/
theorem proved : Rows.FnListBlocksSaid := over
end Go.Proofs.Ytjmmhonlkpmmoaa.fnListBlocks
