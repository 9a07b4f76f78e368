/-
  The law of merges. For every input the Go text of laws.FnMerges returns true, and its argument reads afterwards as before. No condition.
-/
import Derived.Test.YtabgadmdjpohaabDrawPart
import Derived.Test.YtabgadmdjpohaabSame
import Derived.Test.YtabgadmdjpohaabRows
import Derived.Test.YtabgadmdjpohaabPure
import Derived.Test.YtabgadmdjpohaabHelp
import Derived.Test.YtabgadmdjpohaabPlainKit
import Derived.Test.YtabgadmdjpohaabFinRank
import Derived.Test.YtabgadmdjpohaabFinMerges
import Derived.Test.YtabgadmdjpohaabSpecType
import Derived.Test.YtabgadmdjpohaabBruteKit
import Derived.Test.YtabgadmdjpohaabHeldMat
import Derived.Test.YtabgadmdjpohaabSameRows
import Derived.WalkKit
import Derived.ProofKit
import Derived.OpenShut
import Derived.ShutString
import Derived.ChangeOld
import Derived.Below
namespace Go.Proofs.Ytabgadmdjpohaab.fnMerges
open Go.ChangeShapes Go.WideShapes Go.ChangeAt Go.RowKit
open Go.ChangeMaps (open_string shut_string)
set_option linter.unusedVariables false
set_option linter.unusedSimpArgs false
set_option linter.unnecessarySimpa false

theorem own : ownKnob Try.prog.godebug = none := by kernel_rfl
theorem laidOut : laidOutB Try.prog = true := by kernel_rfl

theorem sameInts_t (v u : Value) (xs : List Int) (w : World) (hv : RdV w v xs) (hu : RdV w u xs) : Calls Try.prog 23 #[v, u] w fun e w' => e = .returned (.bool true) ∧ Same w w' :=
  (sameInts_v v u xs xs w hv hu).mono fun e w' ⟨he, hw⟩ => ⟨by rw [he]; simp, hw⟩

theorem draw_any (a : Option Addr) (len cap : Nat) (w : World) (hby : Bytes w a len) (hlen : len ≤ 1048576) (hc : len ≤ cap) (hcm : cap ≤ maxLen) :
    Calls Try.prog 13 #[.slice a len cap] w fun e w' => ∃ v xs, e = .returned v ∧ Own w' w.heap.size v xs ∧ xs.length ≤ 9 ∧ (∀ x ∈ xs, 0 ≤ x ∧ x ≤ 9) ∧ Below w.heap.size w w' := by
  go_enter Try.func13, Try.ntmps13
  go_wp2_with fail
  refine (l91Some_any a len cap w hby hlen hc hcm).mono ?_
  rintro e w1 ⟨v, xs, rfl, h⟩
  go_wp2
  go_ret
  exact ⟨v, xs, rfl, h⟩

set_option maxRecDepth 100000 in
set_option maxHeartbeats 4000000 in
theorem small (a0 : Option Addr) (len0 cap0 : Nat) (w : World) (hB : Bytes w a0 len0) (hc : len0 ≤ cap0) (hcm : cap0 ≤ maxLen) (hs0 : len0 ≤ 1048576) :
    Calls Try.prog 4 #[.slice a0 len0 cap0] w fun e w' => e = .returned (.bool true) ∧ Below w.heap.size w w' := by
  have bel : Below w.heap.size w w := Below.refl _ _
  go_enter Try.func4, Try.ntmps4
  go_wp2_with fail
  refine (draw_any a0 len0 cap0 _ hB hs0 hc hcm).mono ?_
  rintro e W1 ⟨v_a, xs, rfl, o, hl9, _, hb⟩
  have bel := below_step bel hb
  clear hb
  have o_a := o
  clear o
  by_cases hp : partIn xs = true
  · obtain ⟨p, hpe⟩ := Int.eq_ofNat_of_zero_le (pSize_bd (partIn_small hp)).1
    have hbd := pSize_bd (partIn_small hp)
    have hpos := pSize_pos (partIn_small hp) (partIn_len hp).1
    have hle := pSize_le hp
    have hl8 := (partIn_len hp).2
    have e1 := finerMerges_yes hp hpe
    rw [hpe] at hbd hpos hle
    have hml := merges_len xs p (by omega)
    have e2 := finerRank_yes hp
    rw [hpe] at e2
    obtain ⟨r, hr⟩ : ∃ r : Int, r = (xs.length : Int) - p := ⟨_, rfl⟩
    rw [← hr] at e2
    have hr0 : 0 ≤ r := by omega
    have hr8 : r ≤ 8 := by omega
    have HROW := Lib.hid (fun (k : Nat) (hk : k < (mergesTo xs p p).length) => show finerRank ((mergesTo xs p p).getD k []) = (r + 1, true) ∧ finerIn xs ((mergesTo xs p p).getD k []) = true by
      obtain ⟨x, y, h1, h2, e⟩ := merge_at hp p hk
      have h3 := merge_size hp h1 (by omega)
      have h4 := merge_finer hp (x : Int) (y : Int)
      rw [e]
      refine ⟨?_, h4⟩
      rw [finerRank_yes (finer_parts h4).2.1, h3, kOut_length, retold_length, hpe, hr]
      congr 1
      omega)
    have HI := Lib.hid (fun (wx : World) (v0 : Value) (k0 : RdV wx v0 xs) => e1 ▸ iFinerMerges_v v0 xs wx k0)
    have HS := Lib.hid (fun (wx : World) (v0 : Value) (k0 : RdV wx v0 xs) => e1 ▸ sFinerMerges_v v0 xs wx k0)
    have HR := Lib.hid (fun (wx : World) (v0 : Value) (k0 : RdV wx v0 xs) => e2 ▸ iFinerRank_v v0 xs wx k0)
    generalize mergesTo xs p p = ms at *
    have hmb : ms.length ≤ 64 := by have h : p * (p - 1) ≤ 8 * 8 := Nat.mul_le_mul (by omega) (by omega); omega
    clear e1 e2 hpe hp hr hml
    go_wp2_with fail
    refine (HI.out _ _ (own_rdv o_a)).mono ?_
    rintro e W2 ⟨v_o, rfl, o, hb⟩
    have bel := below_step bel hb
    have o_a := own_below o_a hb
    clear hb
    have o_o := o
    clear o
    go_wp2_with fail
    refine (HS.out _ _ (own_rdv o_a)).mono ?_
    rintro e W3 ⟨v_w, rfl, o, hb⟩
    have bel := below_step bel hb
    have o_a := own_below o_a hb
    have o_o := ownM_below o_o hb
    clear hb
    have o_w := o
    clear o
    go_wp2_with fail
    refine (sameRows_v _ _ ms _ (ownM_rdM o_o) (ownM_rdM o_w)).mono ?_
    rintro e W4 ⟨rfl, hq⟩
    have hb := hq W3.heap.size
    clear hq
    have bel := below_step bel hb
    have o_a := own_below o_a hb
    have o_o := ownM_below o_o hb
    have o_w := ownM_below o_w hb
    clear hb
    clear o_w
    go_wp2_with fail
    refine (HR.out _ _ (own_rdv o_a)).mono ?_
    rintro e W5 ⟨rfl, hb⟩
    have bel := below_step bel hb
    have o_a := own_below o_a hb
    have o_o := ownM_below o_o hb
    clear hb
    obtain ⟨am, cm, rfl⟩ := ownM_slice' o_o
    obtain ⟨L, hL⟩ : ∃ L, L = ms.length := ⟨_, rfl⟩
    rw [← hL] at o_o hmb ⊢
    have HL := Lib.hid hL
    have HO := Lib.hid o_o
    have HA := Lib.hid o_a
    clear o_o o_a hL HI HS HR
    go_wp2
    go_loopw [10] (fun i wr => ∃ k : Nat, k ≤ L ∧ i = .int .i64 k ∧ Below W5.heap.size W5 wr) (fun i _ => L - (intOf i).toNat)
    case atStart => exact ⟨0, Nat.zero_le _, rfl, Below.refl _ _⟩
    case round =>
      obtain ⟨k, hk, rfl, hbr⟩ := hrel
      have bel2 := below_step bel hbr
      by_cases hlt : k < L
      · have hkl : k < ms.length := by have := HL.out; omega
        obtain ⟨g, u, rfl, hcu, hru⟩ := ownM_at (ownM_below HO.out hbr) k hkl
        obtain ⟨h1, h2⟩ := HROW.out k hkl
        have HA2 := Lib.hid (own_rdv (own_below HA.out hbr))
        generalize ms.getD k [] = R at *
        have H1 := Lib.hid (fun (wx : World) (v : Value) (q : RdV wx v R) => h1 ▸ iFinerRank_v v R wx q)
        have H2 := Lib.hid (fun (wx : World) (v v2 : Value) (q : RdV wx v xs) (q2 : RdV wx v2 R) => h2 ▸ iFinerIn_v v v2 xs R wx q q2)
        have HRU := Lib.hid hru
        clear h1 h2 hru
        go_wp2_with fail
        refine (H1.out _ _ HRU.out).mono ?_
        rintro e V1 ⟨rfl, hb⟩
        have hcu1 : V1.cell? ⟨g, k, none⟩ = some u := by rw [hb.cell (World.block_lt_of_cell? wr _ hcu)]; exact hcu
        have HRU1 := Lib.hid (rdv_below HRU.out hb)
        have HA3 := Lib.hid (rdv_below HA2.out hb)
        have hbr1 := below_step hbr hb
        clear hb
        go_wp2_with fail
        refine (H2.out _ _ _ HA3.out HRU1.out).mono ?_
        rintro e V2 ⟨rfl, hb⟩
        have hbr2 := below_step hbr1 hb
        clear hb
        go_wp2
        go_roundw
        case rel => exact ⟨k + 1, by omega, by go_num, hbr2⟩
        case measure => simp [intOf]; omega
      · have hkL : k = L := by omega
        subst hkL
        go_wp2
        go_ret
        exact ⟨rfl, bel2⟩
  · have e1 := finerMerges_no hp
    have HI := Lib.hid (fun (wx : World) (v0 : Value) (k0 : RdV wx v0 xs) => e1 ▸ iFinerMerges_v v0 xs wx k0)
    have HS := Lib.hid (fun (wx : World) (v0 : Value) (k0 : RdV wx v0 xs) => e1 ▸ sFinerMerges_v v0 xs wx k0)
    clear hp e1
    go_wp2_with fail
    refine (HI.out _ _ (own_rdv o_a)).mono ?_
    rintro e W2 ⟨v_o, rfl, o, hb⟩
    have bel := below_step bel hb
    have o_a := own_below o_a hb
    clear hb
    have o_o := o
    clear o
    go_wp2_with fail
    refine (HS.out _ _ (own_rdv o_a)).mono ?_
    rintro e W3 ⟨v_w, rfl, o, hb⟩
    have bel := below_step bel hb
    have o_a := own_below o_a hb
    have o_o := ownM_below o_o hb
    clear hb
    have o_w := o
    clear o
    go_wp2_with fail
    refine (sameRows_v _ _ [] _ (ownM_rdM o_o) (ownM_rdM o_w)).mono ?_
    rintro e W4 ⟨rfl, hq⟩
    have hb := hq W3.heap.size
    clear hq
    have bel := below_step bel hb
    have o_a := own_below o_a hb
    have o_o := ownM_below o_o hb
    have o_w := ownM_below o_w hb
    clear hb
    go_wp2_with fail
    refine (sameRows_v _ _ [] _ (ownM_rdM o_o) (ownM_rdM o_w)).mono ?_
    rintro e W5 ⟨rfl, hq⟩
    have hb := hq W4.heap.size
    clear hq
    have bel := below_step bel hb
    have o_a := own_below o_a hb
    have o_o := ownM_below o_o hb
    have o_w := ownM_below o_w hb
    clear hb
    go_wp2
    go_ret
    exact ⟨rfl, bel⟩

theorem walk (a0 : Option Addr) (len0 cap0 : Nat) (z0 : List Int) (w : World) (w0 : IsRow .u8 w a0 len0 cap0 z0) :
    Calls Try.prog 4 #[.slice a0 len0 cap0] w fun e w' => e = .returned (.bool true) ∧ Below w.heap.size w w' := by
  obtain ⟨hB, hc, hcm⟩ := bytes_of_row w0
  refine (Nat.lt_or_ge 1048576 len0).elim (fun hs0 => ?_) (fun hs0 => ?_)
  · go_enter Try.func4, Try.ntmps4
    go_wp2
    go_ret
    exact ⟨rfl, Below.refl _ _⟩
  exact small a0 len0 cap0 w hB hc hcm hs0

set_option maxRecDepth 100000 in
theorem lifted (os : Os) (started : os.Started) (H : Type) (enc : TypeId × Value → H) :
    ReturnsInHanded {} Try.checked os 4 .any (Rows.fnMergesSpec.pre6 enc Try.prog Try.f4 Rows.fnMergesRow.domain false) (Rows.fnMergesSpec.post enc Try.prog Try.f4 false true false false) := by
  refine returnsInHanded_of_change (C := Try.checked) own started (by kernel_rfl) Try.func4
    (ChangeSpec.witness6 (enc := enc) (C := Try.checked) false ⟨#[], #[.slice none 0 0], []⟩ 8 (by kernel_rfl) (by kernel_rfl) (by kernel_rfl) (by kernel_rfl)) ?_
  intro W base args ds gs before hval0 hW hcnd _
  have hval : ∀ (j : Nat) t v, Try.f4.params[j]? = some t → args[j]? = some v → Value.okWide Try.prog W .any base t v := hval0
  have hW' := hW
  obtain ⟨p, q, hA0, hV, rfl, hfz, hnd⟩ := hW
  have hA : DataW.TrodAll enc Try.prog W 0 (fun _ => true) true Try.f4.params.toList args.toList ds p := hA0
  rw [Try.params4] at hA hval
  obtain ⟨v0, vs0, d0, ds0, p0, q0, hargs, rfl, rfl, h0, r0⟩ := trodAll_cons hA
  obtain ⟨rfl, rfl, rfl⟩ := trodAll_nil r0
  obtain rfl : args = #[v0] := by cases args; simp_all
  obtain ⟨rfl, rfl⟩ := trodVars_none hV
  obtain ⟨a0, len0, cap0, rfl⟩ := okWide_slice Try.underlying22 (hval 0 22 v0 rfl rfl)
  have k0 := h0
  have lt0 : ∀ x ∈ p0, x.block < W.heap.size := by obtain ⟨m, hm⟩ := k0; exact DataW.trod_lt m _ _ _ hm
  obtain ⟨z0, w0⟩ : ∃ zs, IsRow .u8 W a0 len0 cap0 zs := by
    obtain ⟨fuel, hf⟩ := h0
    rcases open_ints Try.underlying22 Try.underlying5 (by kernel_rfl) hf with ⟨hcs, _⟩ | ⟨x, l, c, zs, hcs, _, hl, hm, hz, _, hcell, hwz⟩
    · simp [Value.cells] at hcs
      obtain ⟨rfl, rfl, rfl⟩ := hcs
      exact ⟨[], .inl ⟨rfl, rfl, rfl, rfl⟩⟩
    · simp [Value.cells] at hcs
      obtain ⟨rfl, rfl, rfl⟩ := hcs
      exact ⟨zs, .inr ⟨_, rfl, hl, hm, by simpa using hz, hcell, hwz⟩⟩
  clear hA0 hval0
  refine (walk a0 len0 cap0 z0 W w0).mono fun e W' ⟨he, bel⟩ => ?_
  subst he
  exact ⟨_, rfl, _, _, _, [], _, [], hW', trodAll_mk1 (shut_bool Try.underlying4 _), (trodAll_cons_mk (Below.trod laidOut (by kernel_rfl) (of_decide_eq_true (by kernel_rfl)) k0 bel lt0) trodAll_mk0), rfl, bel.frame _, fun h => by cases h⟩

theorem over : Rows.fnMergesRow.holds Try.pinned (OpenSpec.ofChange Rows.fnMergesSpec) :=
  OpenClaim.holds_of_wide 4 Try.f4 rfl rfl rfl rfl rfl rfl rfl ⟨rfl, rfl, rfl, rfl, rfl⟩ rfl rfl rfl rfl rfl (by kernel_rfl) Try.func4 (by kernel_rfl)
    (of_decide_eq_true (by kernel_rfl)) (by unfold Func.isWrapper; first | (rw [if_pos (by decide +kernel)]; kernel_rfl) | (rw [if_neg (by decide +kernel)]; exact ⟨rfl, rfl⟩))
    (fun os started H enc _ => lifted os started H enc)

/-- The statement. -/
theorem proved : Rows.FnMergesSaid := over
end Go.Proofs.Ytabgadmdjpohaab.fnMerges
