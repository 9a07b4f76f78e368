/-
  The law of all partitions. For every input the Go text of laws.FnListAll returns true, and its argument reads afterwards as before. No condition.
-/
import Derived.Test.YtjmmhonlkpmmoaaDrawPart
import Derived.Test.YtjmmhonlkpmmoaaSame
import Derived.Test.YtjmmhonlkpmmoaaRows
import Derived.Test.YtjmmhonlkpmmoaaPure
import Derived.Test.YtjmmhonlkpmmoaaHelp
import Derived.Test.YtjmmhonlkpmmoaaListsU
import Derived.Test.YtjmmhonlkpmmoaaListAll
import Derived.Test.YtjmmhonlkpmmoaaDrawList
import Derived.Test.YtjmmhonlkpmmoaaTriAll
import Derived.Test.YtjmmhonlkpmmoaaHeldMat
import Derived.Test.YtjmmhonlkpmmoaaSameRows
import Derived.Test.YtjmmhonlkpmmoaaLists
import Derived.WalkKit
import Derived.ProofKit
import Derived.OpenShut
import Derived.ShutString
import Derived.ChangeOld
import Derived.Below
namespace Go.Proofs.Ytjmmhonlkpmmoaa.fnListAll
open Go.ChangeShapes Go.WideShapes Go.ChangeAt Go.RowKit
open Go.ChangeMaps (open_string shut_string)
set_option linter.unusedVariables false
set_option linter.unusedSimpArgs false
set_option linter.unnecessarySimpa false

theorem own : ownKnob Try.prog.godebug = none := by kernel_rfl
theorem laidOut : laidOutB Try.prog = true := by kernel_rfl


theorem wf_small {i : Int} (h0 : -100000 ≤ i) (h1 : i ≤ 100000) : (Lit.int .i64 i).wf = true := by
  simp [Lit.wf, IntKind.min, IntKind.max, IntKind.bits, IntKind.signed]
  omega

theorem bel_opnN : ∀ c : Nat, c < 8 → belN c = (opnN c 0 : Int) := by decide +kernel
theorem numAll_opn (c : Nat) (h : c < 8) : numAll (c : Int) = (opn c 0, true) := by
  unfold numAll
  rw [if_pos (by omega), Int.toNat_natCast, bell_fact c (by omega), bel_opnN c h, ← opn_nat c 0]
  rfl

theorem allL_row (n : Nat) (hn : 1 ≤ n) (h8 : n ≤ 8) (k : Nat) (hk : k < (allL n).length) : listPlace ((allL n).getD k []) = ((k : Int), true) := by
  have hk' : (k : Int) < opn n 0 := by rw [allL_length] at hk; omega
  have e : (allL n).getD k [] = atL n (k : Int) := by
    unfold allL at hk ⊢
    simp [List.getD] at hk ⊢
    simp [hk]
  have h1 := plc_atL n (k : Int) (by omega) hk'
  have h2 := atL_partIn n (k : Int) hn h8 (by omega) hk'
  rw [e]
  unfold listPlace
  rw [if_pos h2, h1.2]

set_option maxRecDepth 100000 in
set_option maxHeartbeats 4000000 in
theorem small (a0 : Option Addr) (len0 cap0 : Nat) (w : World) (hB : Bytes w a0 len0) (hc : len0 ≤ cap0) (hcm : cap0 ≤ maxLen) (hs0 : len0 ≤ 1048576) :
    Calls Try.prog 4 #[.slice a0 len0 cap0] w fun e w' => e = .returned (.bool true) ∧ Below w.heap.size w w' := by
  have bel : Below w.heap.size w w := Below.refl _ _
  go_enter Try.func4, Try.ntmps4
  go_wp2_with fail
  refine (drawListAll_any a0 len0 cap0 _ hB hs0 hc hcm).mono ?_
  rintro e W1 ⟨n, rfl, hn, hb⟩
  have bel := below_step bel hb
  clear hb
  have wn := wf_small (i := n) (by omega) (by omega)
  by_cases hp : 1 ≤ n ∧ n ≤ 7
  · obtain ⟨c, rfl⟩ : ∃ c : Nat, n = c := ⟨n.toNat, by omega⟩
    have e1 : listAll (c : Int) = (allL c, true) := by unfold listAll; rw [if_pos hp]; rfl
    have e2 := numAll_opn c (by omega)
    have hL := allL_length c
    have hob := opn_bd c 0 (by omega) (by omega)
    have HROW := Lib.hid (allL_row c (by omega) (by omega))
    have HI := Lib.hid (fun (wx : World) => e1 ▸ iListAll_v (c : Int) wx wn)
    have HS := Lib.hid (fun (wx : World) => e1 ▸ sListAll_v (c : Int) wx wn)
    have HN := Lib.hid (fun (wx : World) => e2 ▸ iNumberAll_v (c : Int) wx wn)
    generalize allL c = ms at *
    obtain ⟨L, hLL⟩ : ∃ L, L = ms.length := ⟨_, rfl⟩
    have ho : opn c 0 = (L : Int) := by omega
    rw [ho] at HN
    have hmb : L ≤ 5000 := by omega
    have HL := Lib.hid hLL
    clear e1 e2 wn hp hL hob ho hLL
    go_wp2_with fail
    refine (HI.out _).mono ?_
    rintro e W2 ⟨v_o, rfl, o, hb⟩
    have bel := below_step bel hb
    clear hb
    have o_o := o
    clear o
    go_wp2_with fail
    refine (HS.out _).mono ?_
    rintro e W3 ⟨v_w, rfl, o, hb⟩
    have bel := below_step bel hb
    have o_o := ownM_below o_o hb
    clear hb
    have o_w := o
    clear o
    go_wp2_with fail
    refine (sameRows_v _ _ ms _ (ownM_rdM o_o) (ownM_rdM o_w)).mono ?_
    rintro e W4 ⟨rfl, hq⟩
    have hb := hq W3.heap.size
    clear hq
    have bel := below_step bel hb
    have o_o := ownM_below o_o hb
    have o_w := ownM_below o_w hb
    clear hb
    clear o_w
    go_wp2_with fail
    refine (HN.out _).mono ?_
    rintro e W5 ⟨rfl, hb⟩
    have bel := below_step bel hb
    have o_o := ownM_below o_o hb
    clear hb
    obtain ⟨am, cm, rfl⟩ := ownM_slice' o_o
    rw [← HL.out] at o_o ⊢
    have HO := Lib.hid o_o
    clear o_o HI HS HN
    go_wp2
    go_loopw [10] (fun i wr => ∃ k : Nat, k ≤ L ∧ i = .int .i64 k ∧ Below W5.heap.size W5 wr) (fun i _ => L - (intOf i).toNat)
    case atStart => exact ⟨0, Nat.zero_le _, rfl, Below.refl _ _⟩
    case round =>
      obtain ⟨k, hk, rfl, hbr⟩ := hrel
      have bel2 := below_step bel hbr
      by_cases hlt : k < L
      · have hkl : k < ms.length := by have := HL.out; omega
        obtain ⟨g, u, rfl, hcu, hru⟩ := ownM_at (ownM_below HO.out hbr) k hkl
        have h1 := HROW.out k hkl
        generalize ms.getD k [] = R at *
        have b1 : (k : Int) < (L : Int) := by omega
        have b2 : (0 : Int) ≤ (k : Int) := by omega
        have H1 := Lib.hid (fun (wx : World) (v : Value) (q : RdV wx v R) => h1 ▸ iListPlace_v v R wx q)
        have HRU := Lib.hid hru
        clear h1 hru
        go_wp2_with fail
        refine (H1.out _ _ HRU.out).mono ?_
        rintro e V1 ⟨rfl, hb⟩
        have hbr1 := below_step hbr hb
        clear hb
        go_wp2
        go_roundw
        case rel => exact ⟨k + 1, by omega, by go_num, by first | exact hbr1 | exact below_drewN hbr1 _⟩
        case measure => simp [intOf]; omega
      · have hkL : k = L := by omega
        subst hkL
        go_wp2
        go_ret
        exact ⟨rfl, bel2⟩
  · have e1 : listAll n = ([], false) := by unfold listAll; rw [if_neg hp]
    have HI := Lib.hid (fun (wx : World) => e1 ▸ iListAll_v n wx wn)
    have HS := Lib.hid (fun (wx : World) => e1 ▸ sListAll_v n wx wn)
    clear e1 hp wn
    go_wp2_with fail
    refine (HI.out _).mono ?_
    rintro e W2 ⟨v_o, rfl, o, hb⟩
    have bel := below_step bel hb
    clear hb
    have o_o := o
    clear o
    go_wp2_with fail
    refine (HS.out _).mono ?_
    rintro e W3 ⟨v_w, rfl, o, hb⟩
    have bel := below_step bel hb
    have o_o := ownM_below o_o hb
    clear hb
    have o_w := o
    clear o
    go_wp2_with fail
    refine (sameRows_v _ _ [] _ (ownM_rdM o_o) (ownM_rdM o_w)).mono ?_
    rintro e W4 ⟨rfl, hq⟩
    have hb := hq W3.heap.size
    clear hq
    have bel := below_step bel hb
    have o_o := ownM_below o_o hb
    have o_w := ownM_below o_w hb
    clear hb
    go_wp2_with fail
    refine (sameRows_v _ _ [] _ (ownM_rdM o_o) (ownM_rdM o_w)).mono ?_
    rintro e W5 ⟨rfl, hq⟩
    have hb := hq W4.heap.size
    clear hq
    have bel := below_step bel hb
    have o_o := ownM_below o_o hb
    have o_w := ownM_below o_w hb
    clear hb
    go_wp2
    go_ret
    exact ⟨rfl, bel⟩

theorem walk (a0 : Option Addr) (len0 cap0 : Nat) (z0 : List Int) (w : World) (w0 : IsRow .u8 w a0 len0 cap0 z0) :
    Calls Try.prog 4 #[.slice a0 len0 cap0] w fun e w' => e = .returned (.bool true) ∧ Below w.heap.size w w' := by
  obtain ⟨hB, hc, hcm⟩ := bytes_of_row w0
  refine (Nat.lt_or_ge 1048576 len0).elim (fun hs0 => ?_) (fun hs0 => ?_)
  · go_enter Try.func4, Try.ntmps4
    go_wp2
    go_ret
    exact ⟨rfl, Below.refl _ _⟩
  exact small a0 len0 cap0 w hB hc hcm hs0

set_option maxRecDepth 100000 in
theorem lifted (os : Os) (started : os.Started) (H : Type) (enc : TypeId × Value → H) :
    ReturnsInHanded {} Try.checked os 4 .any (Rows.fnListAllSpec.pre6 enc Try.prog Try.f4 Rows.fnListAllRow.domain false) (Rows.fnListAllSpec.post enc Try.prog Try.f4 false true false false) := by
  refine returnsInHanded_of_change (C := Try.checked) own started (by kernel_rfl) Try.func4
    (ChangeSpec.witness6 (enc := enc) (C := Try.checked) false ⟨#[], #[.slice none 0 0], []⟩ 8 (by kernel_rfl) (by kernel_rfl) (by kernel_rfl) (by kernel_rfl)) ?_
  intro W base args ds gs before hval0 hW hcnd _
  have hval : ∀ (j : Nat) t v, Try.f4.params[j]? = some t → args[j]? = some v → Value.okWide Try.prog W .any base t v := hval0
  have hW' := hW
  obtain ⟨p, q, hA0, hV, rfl, hfz, hnd⟩ := hW
  have hA : DataW.TrodAll enc Try.prog W 0 (fun _ => true) true Try.f4.params.toList args.toList ds p := hA0
  rw [Try.params4] at hA hval
  obtain ⟨v0, vs0, d0, ds0, p0, q0, hargs, rfl, rfl, h0, r0⟩ := trodAll_cons hA
  obtain ⟨rfl, rfl, rfl⟩ := trodAll_nil r0
  obtain rfl : args = #[v0] := by cases args; simp_all
  obtain ⟨rfl, rfl⟩ := trodVars_none hV
  obtain ⟨a0, len0, cap0, rfl⟩ := okWide_slice Try.underlying22 (hval 0 22 v0 rfl rfl)
  have k0 := h0
  have lt0 : ∀ x ∈ p0, x.block < W.heap.size := by obtain ⟨m, hm⟩ := k0; exact DataW.trod_lt m _ _ _ hm
  obtain ⟨z0, w0⟩ : ∃ zs, IsRow .u8 W a0 len0 cap0 zs := by
    obtain ⟨fuel, hf⟩ := h0
    rcases open_ints Try.underlying22 Try.underlying5 (by kernel_rfl) hf with ⟨hcs, _⟩ | ⟨x, l, c, zs, hcs, _, hl, hm, hz, _, hcell, hwz⟩
    · simp [Value.cells] at hcs
      obtain ⟨rfl, rfl, rfl⟩ := hcs
      exact ⟨[], .inl ⟨rfl, rfl, rfl, rfl⟩⟩
    · simp [Value.cells] at hcs
      obtain ⟨rfl, rfl, rfl⟩ := hcs
      exact ⟨zs, .inr ⟨_, rfl, hl, hm, by simpa using hz, hcell, hwz⟩⟩
  clear hA0 hval0
  refine (walk a0 len0 cap0 z0 W w0).mono fun e W' ⟨he, bel⟩ => ?_
  subst he
  exact ⟨_, rfl, _, _, _, [], _, [], hW', trodAll_mk1 (shut_bool Try.underlying4 _), (trodAll_cons_mk (Below.trod laidOut (by kernel_rfl) (of_decide_eq_true (by kernel_rfl)) k0 bel lt0) trodAll_mk0), rfl, bel.frame _, fun h => by cases h⟩

theorem over : Rows.fnListAllRow.holds Try.pinned (OpenSpec.ofChange Rows.fnListAllSpec) :=
  OpenClaim.holds_of_wide 4 Try.f4 rfl rfl rfl rfl rfl rfl rfl ⟨rfl, rfl, rfl, rfl, rfl⟩ rfl rfl rfl rfl rfl (by kernel_rfl) Try.func4 (by kernel_rfl)
    (of_decide_eq_true (by kernel_rfl)) (by unfold Func.isWrapper; first | (rw [if_pos (by decide +kernel)]; kernel_rfl) | (rw [if_neg (by decide +kernel)]; exact ⟨rfl, rfl⟩))
    (fun os started H enc _ => lifted os started H enc)

/-- The statement. -/
theorem proved : Rows.FnListAllSaid := over
end Go.Proofs.Ytjmmhonlkpmmoaa.fnListAll
