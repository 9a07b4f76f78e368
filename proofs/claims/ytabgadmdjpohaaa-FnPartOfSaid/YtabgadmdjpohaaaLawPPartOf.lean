/-
  The law of blocks that are told. For every input the Go text of laws.FnPartOf returns true, and its argument reads afterwards as before. No condition.
-/
import Derived.Test.YtabgadmdjpohaaaDrawPart
import Derived.Test.YtabgadmdjpohaaaSame
import Derived.Test.YtabgadmdjpohaaaRows
import Derived.Test.YtabgadmdjpohaaaPure
import Derived.Test.YtabgadmdjpohaaaHelp
import Derived.Test.YtabgadmdjpohaaaRds
import Derived.Test.YtabgadmdjpohaaaPlainKit
import Derived.Test.YtabgadmdjpohaaaPartOf
import Derived.Test.YtabgadmdjpohaaaPartOfMath
import Derived.Test.YtabgadmdjpohaaaDrawOf
import Derived.Test.YtabgadmdjpohaaaSize
import Derived.Test.YtabgadmdjpohaaaTogether
import Derived.Test.YtabgadmdjpohaaaFinSign
import Derived.WalkKit
import Derived.ProofKit
import Derived.OpenShut
import Derived.ShutString
import Derived.ChangeOld
import Derived.Below
namespace Go.Proofs.Ytabgadmdjpohaaa.fnPartOf
open Go.ChangeShapes Go.WideShapes Go.ChangeAt Go.RowKit
open Go.ChangeMaps (open_string shut_string)
set_option linter.unusedVariables false
set_option linter.unusedSimpArgs false
set_option linter.unnecessarySimpa false

theorem cell_below {w w' : World} {b off : Nat} {v : Value} (h : w.cell? ⟨b, off, none⟩ = some v) (hb : Below w.heap.size w w') : w'.cell? ⟨b, off, none⟩ = some v := by
  rw [hb.cell (World.block_lt_of_cell? w _ h)]
  exact h

theorem own : ownKnob Try.prog.godebug = none := by kernel_rfl
theorem laidOut : laidOutB Try.prog = true := by kernel_rfl

theorem sameInts_t (v u : Value) (xs : List Int) (w : World) (hv : RdV w v xs) (hu : RdV w u xs) : Calls Try.prog 18 #[v, u] w fun e w' => e = .returned (.bool true) ∧ Same w w' :=
  (sameInts_v v u xs xs w hv hu).mono fun e w' ⟨he, hw⟩ => ⟨by rw [he]; simp, hw⟩


set_option maxRecDepth 100000 in
set_option maxHeartbeats 4000000 in
theorem small (a0 : Option Addr) (len0 cap0 : Nat) (w : World) (hB : Bytes w a0 len0) (hc : len0 ≤ cap0) (hcm : cap0 ≤ maxLen) (hs0 : len0 ≤ 1048576) :
    Calls Try.prog 3 #[.slice a0 len0 cap0] w fun e w' => e = .returned (.bool true) ∧ Below w.heap.size w w' := by
  have bel : Below w.heap.size w w := Below.refl _ _
  go_enter Try.func3, Try.ntmps3
  go_wp2_with fail
  refine (drawPartOf_any a0 len0 cap0 _ hB hs0 hc hcm).mono ?_
  rintro e W1 ⟨n, v_b, xss, rfl, hn10, rb, hx9, hb⟩
  have bel := below_step bel hb
  clear hb
  have wn := wf_small (i := (n : Int)) (by omega) (by omega)
  obtain ⟨out, ok, hp⟩ : ∃ out ok, partOf (n : Int) xss = (out, ok) := ⟨_, _, rfl⟩
  have HI := Lib.hid (fun (wx : World) (v0 : Value) (k0 : RdM wx v0 xss) => hp ▸ iPartOf_v v0 (n : Int) xss wx k0 wn)
  have HS := Lib.hid (fun (wx : World) (v0 : Value) (k0 : RdM wx v0 xss) => hp ▸ sPartOf_v v0 (n : Int) xss wx k0 wn)
  cases ok
  · clear hp wn
    go_wp2_with fail
    refine (HI.out _ _ rb).mono ?_
    rintro e W2 ⟨v_o, rfl, o_o, hb⟩
    have bel := below_step bel hb
    have rb := rdM_below rb hb
    clear hb
    go_wp2_with fail
    refine (HS.out _ _ rb).mono ?_
    rintro e W3 ⟨v_w, rfl, o_w, hb⟩
    have bel := below_step bel hb
    have o_o := own_below o_o hb
    clear hb rb
    go_wp2_with fail
    refine (sameInts_t _ _ out _ (own_rdv o_o) (own_rdv o_w)).mono ?_
    rintro e W4 ⟨rfl, hq⟩
    have hb := hq W3.heap.size
    clear hq
    have bel := below_step bel hb
    have o_o := own_below o_o hb
    have o_w := own_below o_w hb
    clear hb
    go_wp2_with fail
    refine (sameInts_t _ _ out _ (own_rdv o_o) (own_rdv o_w)).mono ?_
    rintro e W5 ⟨rfl, hq⟩
    have hb := hq W4.heap.size
    clear hq
    have bel := below_step bel hb
    clear hb
    go_wp2
    go_ret
    exact ⟨rfl, bel⟩
  · obtain ⟨f0, f1, f2, f3, f4, f5⟩ := partOf_facts hp
    have e2 := partSize_yes f0
    rw [f1] at e2
    have HP := Lib.hid (fun (wx : World) (v0 : Value) (k0 : RdV wx v0 out) => e2 ▸ iPartSize_v v0 out wx k0)
    obtain ⟨row, hrow⟩ : ∃ row, row = xss.getD 0 [] := ⟨_, rfl⟩
    rw [← hrow] at f3 f5
    have HROW := Lib.hid hrow
    have HT := Lib.hid (fun (k : Nat) (hk : k < row.length) (wx : World) (v0 : Value) (k0 : RdV wx v0 out) => (f5 0 k (by omega) hk).2 ▸ iPartTogether_v v0 out (row.getD 0 0) (row.getD k 0) wx k0 (wf_small (by have := (f5 0 k (by omega) hk).1; omega) (by have := (f5 0 k (by omega) hk).1; omega)) (wf_small (by have := (f5 k k hk hk).1; omega) (by have := (f5 k k hk hk).1; omega)))
    obtain ⟨L, hL⟩ : ∃ L, L = xss.length := ⟨_, rfl⟩
    have HF2 := Lib.hid f2
    have HL := Lib.hid hL
    obtain ⟨q, hq⟩ : ∃ q, q = row.length := ⟨_, rfl⟩
    rw [← hq] at f3
    have HQ := Lib.hid hq
    clear hp wn f0 f1 f2 f4 f5 e2 hrow hL hq
    go_wp2_with fail
    refine (HI.out _ _ rb).mono ?_
    rintro e W2 ⟨v_o, rfl, o_o, hb⟩
    have bel := below_step bel hb
    have rb := rdM_below rb hb
    clear hb
    go_wp2_with fail
    refine (HS.out _ _ rb).mono ?_
    rintro e W3 ⟨v_w, rfl, o_w, hb⟩
    have bel := below_step bel hb
    have rb := rdM_below rb hb
    have o_o := own_below o_o hb
    clear hb
    go_wp2_with fail
    refine (sameInts_t _ _ out _ (own_rdv o_o) (own_rdv o_w)).mono ?_
    rintro e W4 ⟨rfl, hqq⟩
    have hb := hqq W3.heap.size
    clear hqq
    have bel := below_step bel hb
    have rb := rdM_below rb hb
    have o_o := own_below o_o hb
    clear hb o_w
    go_wp2_with fail
    refine (HP.out _ _ (own_rdv o_o)).mono ?_
    rintro e W5 ⟨rfl, hb⟩
    have bel := below_step bel hb
    have rb := rdM_below rb hb
    have o_o := own_below o_o hb
    clear hb
    obtain ⟨ao, ca, vs, hvl, rfl, h2, h3, h4, h5⟩ := rb
    rcases h4 with h4 | ⟨b, off, rfl, hcell⟩
    · have := HF2.out
      rw [h4] at this
      simp at this
    have hz := hcell 0 HF2.out
    have hr0 := h5 0 HF2.out
    rw [Nat.add_zero] at hz
    rw [← HROW.out] at hr0
    obtain ⟨z, hze⟩ : ∃ z, z = vs.getD 0 undef := ⟨_, rfl⟩
    rw [← hze] at hz hr0
    obtain ⟨ro, rc, rfl, hrd, hrc, hrm⟩ := hr0
    rw [← HQ.out] at hz hrc
    rcases hrd with hrd | ⟨rb, roff, rfl, hrcell⟩
    · have := HQ.out
      rw [hrd] at this
      simp at this
      omega
    rw [← HL.out] at h2 ⊢
    have hL1 : 0 < L := by rw [HL.out]; exact HF2.out
    have HO := Lib.hid (own_rdv o_o)
    have HRC := Lib.hid hrcell
    have HZ := Lib.hid hz
    have hqm : q ≤ 9223372036854775807 := by unfold maxLen at hrm; omega
    have hq1 : 0 < q := by omega
    have hL0 : (0 : Int) < (L : Int) := by omega
    have hq0 : (0 : Int) < (q : Int) := by omega
    clear hze hvl h3 h5 hcell hrcell hz o_o HI HS HP hrc hrm h2
    go_wp2
    go_loopw [11] (fun i wr => ∃ k : Nat, 1 ≤ k ∧ k ≤ q ∧ i = .int .i64 k ∧ Below W5.heap.size W5 wr) (fun i _ => q - (intOf i).toNat)
    case atStart => exact ⟨1, Nat.le_refl _, f3, rfl, Below.refl _ _⟩
    case round =>
      obtain ⟨k, hk1, hk, rfl, hbr⟩ := hrel
      have bel2 := below_step bel hbr
      have hz := HZ.out
      have hz : wr.cell? ⟨b, off, none⟩ = some (.slice (some ⟨rb, roff, none⟩) q rc) := by rw [hbr.cell (World.block_lt_of_cell? W5 _ hz)]; exact hz
      by_cases hlt : k < q
      · have hx0 := HRC.out 0 (by have := HQ.out; omega)
        have hxk := HRC.out k (by have := HQ.out; omega)
        rw [Nat.add_zero] at hx0
        have hx0 : wr.cell? ⟨rb, roff, none⟩ = some (.int .i64 (row.getD 0 0)) := by rw [hbr.cell (World.block_lt_of_cell? W5 _ hx0)]; exact hx0
        have hxk : wr.cell? ⟨rb, roff + k, none⟩ = some (.int .i64 (row.getD k 0)) := by rw [hbr.cell (World.block_lt_of_cell? W5 _ hxk)]; exact hxk
        have HTK := Lib.hid (HT.out k (by have := HQ.out; omega))
        have HOR := Lib.hid (rdv_below HO.out hbr)
        generalize row.getD 0 0 = x at *
        generalize row.getD k 0 = y at *
        have b1 : (k : Int) < (q : Int) := by omega
        have b2 : (0 : Int) ≤ (k : Int) := by omega
        go_wp2
        go_region_held3 (fun w' => w'.cell? ⟨b, off, none⟩ = some (.slice (some ⟨rb, roff, none⟩) q rc) ∧ w'.cell? ⟨rb, roff, none⟩ = some (.int .i64 x) ∧ w'.cell? ⟨rb, roff + k, none⟩ = some (.int .i64 y)) (first | exact ⟨hz, hx0, hxk⟩ | exact ⟨hd0, hd1, hd2⟩) (first | (go_at_call 20; refine (HTK.out _ _ ?_).mono ?_; (first | exact HOR.out | exact rdv_drewN HOR.out 1 | exact rdv_drewN HOR.out 2); rintro e w8 ⟨rfl, hb⟩; have hbr2 := below_step (by first | exact hbr | exact below_drewN hbr 1 | exact below_drewN hbr 2) hb; have hd0 := cell_below (b := b) (off := off) (v := .slice (some ⟨rb, roff, none⟩) q rc) (by exact hz) hb; have hd1 := cell_below (b := rb) (off := roff) (v := .int .i64 x) (by exact hx0) hb; have hd2 := cell_below (b := rb) (off := roff + k) (v := .int .i64 y) (by exact hxk) hb; clear hb))
        all_goals
          go_wp2
          go_roundw
          case rel => exact ⟨k + 1, by omega, by omega, by go_num, by first | exact hbr2 | exact below_drewN hbr2 _⟩
          case measure => simp [intOf]; omega
      · have hkq : k = q := by omega
        subst hkq
        go_wp2
        go_ret
        exact ⟨rfl, bel2⟩

theorem walk (a0 : Option Addr) (len0 cap0 : Nat) (z0 : List Int) (w : World) (w0 : IsRow .u8 w a0 len0 cap0 z0) :
    Calls Try.prog 3 #[.slice a0 len0 cap0] w fun e w' => e = .returned (.bool true) ∧ Below w.heap.size w w' := by
  obtain ⟨hB, hc, hcm⟩ := bytes_of_row w0
  refine (Nat.lt_or_ge 1048576 len0).elim (fun hs0 => ?_) (fun hs0 => ?_)
  · go_enter Try.func3, Try.ntmps3
    go_wp2
    go_ret
    exact ⟨rfl, Below.refl _ _⟩
  exact small a0 len0 cap0 w hB hc hcm hs0

set_option maxRecDepth 100000 in
theorem lifted (os : Os) (started : os.Started) (H : Type) (enc : TypeId × Value → H) :
    ReturnsInHanded {} Try.checked os 3 .any (Rows.fnPartOfSpec.pre6 enc Try.prog Try.f3 Rows.fnPartOfRow.domain false) (Rows.fnPartOfSpec.post enc Try.prog Try.f3 false true false false) := by
  refine returnsInHanded_of_change (C := Try.checked) own started (by kernel_rfl) Try.func3
    (ChangeSpec.witness6 (enc := enc) (C := Try.checked) false ⟨#[], #[.slice none 0 0], []⟩ 8 (by kernel_rfl) (by kernel_rfl) (by kernel_rfl) (by kernel_rfl)) ?_
  intro W base args ds gs before hval0 hW hcnd _
  have hval : ∀ (j : Nat) t v, Try.f3.params[j]? = some t → args[j]? = some v → Value.okWide Try.prog W .any base t v := hval0
  have hW' := hW
  obtain ⟨p, q, hA0, hV, rfl, hfz, hnd⟩ := hW
  have hA : DataW.TrodAll enc Try.prog W 0 (fun _ => true) true Try.f3.params.toList args.toList ds p := hA0
  rw [Try.params3] at hA hval
  obtain ⟨v0, vs0, d0, ds0, p0, q0, hargs, rfl, rfl, h0, r0⟩ := trodAll_cons hA
  obtain ⟨rfl, rfl, rfl⟩ := trodAll_nil r0
  obtain rfl : args = #[v0] := by cases args; simp_all
  obtain ⟨rfl, rfl⟩ := trodVars_none hV
  obtain ⟨a0, len0, cap0, rfl⟩ := okWide_slice Try.underlying22 (hval 0 22 v0 rfl rfl)
  have k0 := h0
  have lt0 : ∀ x ∈ p0, x.block < W.heap.size := by obtain ⟨m, hm⟩ := k0; exact DataW.trod_lt m _ _ _ hm
  obtain ⟨z0, w0⟩ : ∃ zs, IsRow .u8 W a0 len0 cap0 zs := by
    obtain ⟨fuel, hf⟩ := h0
    rcases open_ints Try.underlying22 Try.underlying5 (by kernel_rfl) hf with ⟨hcs, _⟩ | ⟨x, l, c, zs, hcs, _, hl, hm, hz, _, hcell, hwz⟩
    · simp [Value.cells] at hcs
      obtain ⟨rfl, rfl, rfl⟩ := hcs
      exact ⟨[], .inl ⟨rfl, rfl, rfl, rfl⟩⟩
    · simp [Value.cells] at hcs
      obtain ⟨rfl, rfl, rfl⟩ := hcs
      exact ⟨zs, .inr ⟨_, rfl, hl, hm, by simpa using hz, hcell, hwz⟩⟩
  clear hA0 hval0
  refine (walk a0 len0 cap0 z0 W w0).mono fun e W' ⟨he, bel⟩ => ?_
  subst he
  exact ⟨_, rfl, _, _, _, [], _, [], hW', trodAll_mk1 (shut_bool Try.underlying4 _), (trodAll_cons_mk (Below.trod laidOut (by kernel_rfl) (of_decide_eq_true (by kernel_rfl)) k0 bel lt0) trodAll_mk0), rfl, bel.frame _, fun h => by cases h⟩

theorem over : Rows.fnPartOfRow.holds Try.pinned (OpenSpec.ofChange Rows.fnPartOfSpec) :=
  OpenClaim.holds_of_wide 3 Try.f3 rfl rfl rfl rfl rfl rfl rfl ⟨rfl, rfl, rfl, rfl, rfl⟩ rfl rfl rfl rfl rfl (by kernel_rfl) Try.func3 (by kernel_rfl)
    (of_decide_eq_true (by kernel_rfl)) (by unfold Func.isWrapper; first | (rw [if_pos (by decide +kernel)]; kernel_rfl) | (rw [if_neg (by decide +kernel)]; exact ⟨rfl, rfl⟩))
    (fun os started H enc _ => lifted os started H enc)

/-- The statement. -/
theorem proved : Rows.FnPartOfSaid := over
end Go.Proofs.Ytabgadmdjpohaaa.fnPartOf
