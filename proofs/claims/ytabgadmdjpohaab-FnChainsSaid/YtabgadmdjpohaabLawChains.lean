/-
  The law of chains. For every input the Go text of laws.FnChains returns true, and its argument reads afterwards as before. No condition.
-/
import Derived.Test.YtabgadmdjpohaabDrawPart
import Derived.Test.YtabgadmdjpohaabSame
import Derived.Test.YtabgadmdjpohaabRows
import Derived.Test.YtabgadmdjpohaabPure
import Derived.Test.YtabgadmdjpohaabHelp
import Derived.Test.YtabgadmdjpohaabPlainKit
import Derived.Test.YtabgadmdjpohaabFinRank
import Derived.Test.YtabgadmdjpohaabFinMerges
import Derived.Test.YtabgadmdjpohaabSpecType
import Derived.Test.YtabgadmdjpohaabBruteKit
import Derived.Test.YtabgadmdjpohaabHeldMat
import Derived.Test.YtabgadmdjpohaabSameRows
import Derived.WalkKit
import Derived.ProofKit
import Derived.OpenShut
import Derived.ShutString
import Derived.ChangeOld
import Derived.Below
namespace Go.Proofs.Ytabgadmdjpohaab.fnChains
open Go.ChangeShapes Go.WideShapes Go.ChangeAt Go.RowKit
open Go.ChangeMaps (open_string shut_string)
set_option linter.unusedVariables false
set_option linter.unusedSimpArgs false
set_option linter.unnecessarySimpa false

theorem own : ownKnob Try.prog.godebug = none := by kernel_rfl
theorem laidOut : laidOutB Try.prog = true := by kernel_rfl

theorem sameInts_t (v u : Value) (xs : List Int) (w : World) (hv : RdV w v xs) (hu : RdV w u xs) : Calls Try.prog 23 #[v, u] w fun e w' => e = .returned (.bool true) ∧ Same w w' :=
  (sameInts_v v u xs xs w hv hu).mono fun e w' ⟨he, hw⟩ => ⟨by rw [he]; simp, hw⟩

theorem draw_any (a : Option Addr) (len cap : Nat) (w : World) (hby : Bytes w a len) (hlen : len ≤ 1048576) (hc : len ≤ cap) (hcm : cap ≤ maxLen) :
    Calls Try.prog 24 #[.slice a len cap] w fun e w' => ∃ v xs, e = .returned v ∧ Own w' w.heap.size v xs ∧ xs.length ≤ 9 ∧ (∀ x ∈ xs, 0 ≤ x ∧ x ≤ 9) ∧ Below w.heap.size w w' := by
  go_enter Try.func24, Try.ntmps24
  go_wp2_with fail
  refine (l91Some_any a len cap w hby hlen hc hcm).mono ?_
  rintro e w1 ⟨v, xs, rfl, h⟩
  go_wp2
  go_ret
  exact ⟨v, xs, rfl, h⟩

set_option maxRecDepth 100000 in
set_option maxHeartbeats 4000000 in
theorem small (a0 : Option Addr) (len0 cap0 : Nat) (w : World) (hB : Bytes w a0 len0) (hc : len0 ≤ cap0) (hcm : cap0 ≤ maxLen) (hs0 : len0 ≤ 1048576) :
    Calls Try.prog 7 #[.slice a0 len0 cap0] w fun e w' => e = .returned (.bool true) ∧ Below w.heap.size w w' := by
  have bel : Below w.heap.size w w := Below.refl _ _
  go_enter Try.func7, Try.ntmps7
  go_wp2_with fail
  refine (draw_any a0 len0 cap0 _ hB hs0 hc hcm).mono ?_
  rintro e W1 ⟨v_a, xs, rfl, o, hl9, _, hb⟩
  have bel := below_step bel hb
  clear hb
  have o_a := o
  clear o
  by_cases hp : partIn xs = true
  · obtain ⟨p, hpe⟩ := Int.eq_ofNat_of_zero_le (pSize_bd (partIn_small hp)).1
    have hbd := pSize_bd (partIn_small hp)
    have hpos := pSize_pos (partIn_small hp) (partIn_len hp).1
    have hle := pSize_le hp
    have hl8 := (partIn_len hp).2
    have e1 := finerMerges_yes hp hpe
    rw [hpe] at hbd hpos hle
    have hml := merges_len xs p (by omega)
    have e2 := finerChains_yes hp hpe
    have hcb := chD_bd p (by omega) (p - 1) (by omega)
    have hcb2 := chD_bd (p - 1) (by omega) (p - 2) (by omega)
    have hst := chains_step p (by omega)
    have hone : p = 1 → chD p (p - 1) = 1 := fun e => by rw [e]; rfl
    have HROW := Lib.hid (fun (k : Nat) (hk : k < (mergesTo xs p p).length) => show finerChains ((mergesTo xs p p).getD k []) = (chD (p - 1) (p - 2), true) by
      obtain ⟨x, y, h1, h2, e⟩ := merge_at hp p hk
      have h3 := merge_size hp h1 (by omega)
      have h4 := merge_finer hp (x : Int) (y : Int)
      rw [e]
      have h5 : pSize (kOut (retold xs (x : Int) (y : Int))) = ((p - 1 : Nat) : Int) := by rw [h3, hpe]; omega
      rw [finerChains_yes (finer_parts h4).2.1 h5]
      rfl)
    have HI := Lib.hid (fun (wx : World) (v0 : Value) (k0 : RdV wx v0 xs) => e2 ▸ iFinerChains_v v0 xs wx k0)
    have HS := Lib.hid (fun (wx : World) (v0 : Value) (k0 : RdV wx v0 xs) => e2 ▸ sFinerChains_v v0 xs wx k0)
    have HM := Lib.hid (fun (wx : World) (v0 : Value) (k0 : RdV wx v0 xs) => e1 ▸ iFinerMerges_v v0 xs wx k0)
    generalize mergesTo xs p p = ms at *
    have hmb : ms.length ≤ 64 := by have h : p * (p - 1) ≤ 8 * 8 := Nat.mul_le_mul (by omega) (by omega); omega
    obtain ⟨s, hs⟩ : ∃ s : Int, s = chD p (p - 1) := ⟨_, rfl⟩
    rw [← hs] at HI HS hcb hst hone
    obtain ⟨c, hc⟩ : ∃ c : Int, c = chD (p - 1) (p - 2) := ⟨_, rfl⟩
    rw [← hc] at HROW hcb2 hst
    rw [← hml] at hst
    have hm0 : ms.length = 0 ↔ p = 1 := by rw [hml]; exact tri_zero p (by omega) (by omega)
    have HST := Lib.hid hst
    have HM0 := Lib.hid hm0
    have HONE := Lib.hid hone
    clear e1 e2 hpe hp hml hs hc hst hm0 hone
    go_wp2_with fail
    refine (HI.out _ _ (own_rdv o_a)).mono ?_
    rintro e W2 ⟨rfl, hb⟩
    have bel := below_step bel hb
    have o_a := own_below o_a hb
    clear hb
    go_wp2_with fail
    refine (HS.out _ _ (own_rdv o_a)).mono ?_
    rintro e W3 ⟨rfl, hb⟩
    have bel := below_step bel hb
    have o_a := own_below o_a hb
    clear hb
    go_wp2_with fail
    refine (HM.out _ _ (own_rdv o_a)).mono ?_
    rintro e W4 ⟨v_o, rfl, o, hb⟩
    have bel := below_step bel hb
    have o_a := own_below o_a hb
    clear hb
    have o_o := o
    clear o
    obtain ⟨am, cm, rfl⟩ := ownM_slice' o_o
    obtain ⟨L, hL⟩ : ∃ L, L = ms.length := ⟨_, rfl⟩
    rw [← hL] at o_o hmb HST HM0 ⊢
    have HL := Lib.hid hL
    have HO := Lib.hid o_o
    clear o_o o_a hL HI HS HM
    go_wp2
    go_loopw [10, 11] (fun u i wr => ∃ k : Nat, k ≤ L ∧ i = .int .i64 k ∧ u = .int .i64 ((k : Int) * c) ∧ Below W4.heap.size W4 wr) (fun _ i _ => L - (intOf i).toNat)
    case atStart => exact ⟨0, Nat.zero_le _, rfl, by simp, Below.refl _ _⟩
    case round =>
      obtain ⟨k, hk, rfl, rfl, hbr⟩ := hrel
      have bel2 := below_step bel hbr
      by_cases hlt : k < L
      · have hkl : k < ms.length := by have := HL.out; omega
        obtain ⟨g, u, rfl, hcu, hru⟩ := ownM_at (ownM_below HO.out hbr) k hkl
        have h1 := HROW.out k hkl
        generalize ms.getD k [] = R at *
        have H1 := Lib.hid (fun (wx : World) (v : Value) (q : RdV wx v R) => h1 ▸ iFinerChains_v v R wx q)
        have HRU := Lib.hid hru
        have hk0 : 0 ≤ (k : Int) * c := Int.mul_nonneg (by omega) hcb2.1
        have hk1 : (k : Int) * c ≤ 64 * 2000000 := Int.mul_le_mul (by omega) hcb2.2 hcb2.1 (by omega)
        obtain ⟨z, hz⟩ : ∃ z : Int, z = (k : Int) * c := ⟨_, rfl⟩
        rw [← hz] at hk0 hk1 ⊢
        have HZ := Lib.hid hz
        clear h1 hru hz
        go_wp2_with fail
        refine (H1.out _ _ HRU.out).mono ?_
        rintro e V1 ⟨rfl, hb⟩
        have hbr1 := below_step hbr hb
        clear hb
        go_wp2
        go_roundw
        case rel => exact ⟨k + 1, by omega, by go_num, by rw [HZ.out]; congr 1; rw [Int.natCast_add, Int.add_mul]; simp, hbr1⟩
        case measure => simp [intOf]; omega
      · have hkL : k = L := by omega
        subst hkL
        obtain ⟨z, hz⟩ : ∃ z : Int, z = (k : Int) * c := ⟨_, rfl⟩
        have hst := HST.out
        rw [← hz] at hst ⊢
        by_cases hk0 : k = 0
        · have hs1 := HONE.out (HM0.out.1 hk0)
          have c1 : (s == 1) = true := by simpa using hs1
          have c2 : ((k : Int) == 0) = true := by simpa using hk0
          clear hst hz hs1 hk0 hlt
          go_wp2
          go_ret
          exact ⟨rfl, bel2⟩
        · have hsz := hst (by have := HM0.out; omega)
          have c1 : (z == s) = true := by simpa using hsz.symm
          have c2 : ((k : Int) == 0) = false := by simpa using hk0
          have c3 : 0 < (k : Int) := by omega
          clear hst hz hsz hk0 hlt
          go_wp2
          go_ret
          exact ⟨rfl, bel2⟩
  · have e1 := finerChains_no hp
    have HI := Lib.hid (fun (wx : World) (v0 : Value) (k0 : RdV wx v0 xs) => e1 ▸ iFinerChains_v v0 xs wx k0)
    have HS := Lib.hid (fun (wx : World) (v0 : Value) (k0 : RdV wx v0 xs) => e1 ▸ sFinerChains_v v0 xs wx k0)
    clear hp e1
    go_wp2_with fail
    refine (HI.out _ _ (own_rdv o_a)).mono ?_
    rintro e W2 ⟨rfl, hb⟩
    have bel := below_step bel hb
    have o_a := own_below o_a hb
    clear hb
    go_wp2_with fail
    refine (HS.out _ _ (own_rdv o_a)).mono ?_
    rintro e W3 ⟨rfl, hb⟩
    have bel := below_step bel hb
    have o_a := own_below o_a hb
    clear hb
    go_wp2
    go_ret
    exact ⟨rfl, bel⟩

theorem walk (a0 : Option Addr) (len0 cap0 : Nat) (z0 : List Int) (w : World) (w0 : IsRow .u8 w a0 len0 cap0 z0) :
    Calls Try.prog 7 #[.slice a0 len0 cap0] w fun e w' => e = .returned (.bool true) ∧ Below w.heap.size w w' := by
  obtain ⟨hB, hc, hcm⟩ := bytes_of_row w0
  refine (Nat.lt_or_ge 1048576 len0).elim (fun hs0 => ?_) (fun hs0 => ?_)
  · go_enter Try.func7, Try.ntmps7
    go_wp2
    go_ret
    exact ⟨rfl, Below.refl _ _⟩
  exact small a0 len0 cap0 w hB hc hcm hs0

set_option maxRecDepth 100000 in
theorem lifted (os : Os) (started : os.Started) (H : Type) (enc : TypeId × Value → H) :
    ReturnsInHanded {} Try.checked os 7 .any (Rows.fnChainsSpec.pre6 enc Try.prog Try.f7 Rows.fnChainsRow.domain false) (Rows.fnChainsSpec.post enc Try.prog Try.f7 false true false false) := by
  refine returnsInHanded_of_change (C := Try.checked) own started (by kernel_rfl) Try.func7
    (ChangeSpec.witness6 (enc := enc) (C := Try.checked) false ⟨#[], #[.slice none 0 0], []⟩ 8 (by kernel_rfl) (by kernel_rfl) (by kernel_rfl) (by kernel_rfl)) ?_
  intro W base args ds gs before hval0 hW hcnd _
  have hval : ∀ (j : Nat) t v, Try.f7.params[j]? = some t → args[j]? = some v → Value.okWide Try.prog W .any base t v := hval0
  have hW' := hW
  obtain ⟨p, q, hA0, hV, rfl, hfz, hnd⟩ := hW
  have hA : DataW.TrodAll enc Try.prog W 0 (fun _ => true) true Try.f7.params.toList args.toList ds p := hA0
  rw [Try.params7] at hA hval
  obtain ⟨v0, vs0, d0, ds0, p0, q0, hargs, rfl, rfl, h0, r0⟩ := trodAll_cons hA
  obtain ⟨rfl, rfl, rfl⟩ := trodAll_nil r0
  obtain rfl : args = #[v0] := by cases args; simp_all
  obtain ⟨rfl, rfl⟩ := trodVars_none hV
  obtain ⟨a0, len0, cap0, rfl⟩ := okWide_slice Try.underlying22 (hval 0 22 v0 rfl rfl)
  have k0 := h0
  have lt0 : ∀ x ∈ p0, x.block < W.heap.size := by obtain ⟨m, hm⟩ := k0; exact DataW.trod_lt m _ _ _ hm
  obtain ⟨z0, w0⟩ : ∃ zs, IsRow .u8 W a0 len0 cap0 zs := by
    obtain ⟨fuel, hf⟩ := h0
    rcases open_ints Try.underlying22 Try.underlying5 (by kernel_rfl) hf with ⟨hcs, _⟩ | ⟨x, l, c, zs, hcs, _, hl, hm, hz, _, hcell, hwz⟩
    · simp [Value.cells] at hcs
      obtain ⟨rfl, rfl, rfl⟩ := hcs
      exact ⟨[], .inl ⟨rfl, rfl, rfl, rfl⟩⟩
    · simp [Value.cells] at hcs
      obtain ⟨rfl, rfl, rfl⟩ := hcs
      exact ⟨zs, .inr ⟨_, rfl, hl, hm, by simpa using hz, hcell, hwz⟩⟩
  clear hA0 hval0
  refine (walk a0 len0 cap0 z0 W w0).mono fun e W' ⟨he, bel⟩ => ?_
  subst he
  exact ⟨_, rfl, _, _, _, [], _, [], hW', trodAll_mk1 (shut_bool Try.underlying4 _), (trodAll_cons_mk (Below.trod laidOut (by kernel_rfl) (of_decide_eq_true (by kernel_rfl)) k0 bel lt0) trodAll_mk0), rfl, bel.frame _, fun h => by cases h⟩

theorem over : Rows.fnChainsRow.holds Try.pinned (OpenSpec.ofChange Rows.fnChainsSpec) :=
  OpenClaim.holds_of_wide 7 Try.f7 rfl rfl rfl rfl rfl rfl rfl ⟨rfl, rfl, rfl, rfl, rfl⟩ rfl rfl rfl rfl rfl (by kernel_rfl) Try.func7 (by kernel_rfl)
    (of_decide_eq_true (by kernel_rfl)) (by unfold Func.isWrapper; first | (rw [if_pos (by decide +kernel)]; kernel_rfl) | (rw [if_neg (by decide +kernel)]; exact ⟨rfl, rfl⟩))
    (fun os started H enc _ => lifted os started H enc)

/-- The statement. -/
theorem proved : Rows.FnChainsSaid := over
end Go.Proofs.Ytabgadmdjpohaab.fnChains
