/-
  The law of names. For every input the Go text of laws.FnNamed returns true, and its argument reads afterwards as before. No condition.
-/
import Derived.Test.YtabgadmdjpohaaaDrawPart
import Derived.Test.YtabgadmdjpohaaaSame
import Derived.Test.YtabgadmdjpohaaaRows
import Derived.Test.YtabgadmdjpohaaaPure
import Derived.Test.YtabgadmdjpohaaaHelp
import Derived.Test.YtabgadmdjpohaaaRds
import Derived.Test.YtabgadmdjpohaaaPlainKit
import Derived.Test.YtabgadmdjpohaaaNamed
import Derived.Test.YtabgadmdjpohaaaNamedMath
import Derived.Test.YtabgadmdjpohaaaNames
import Derived.Test.YtabgadmdjpohaaaTogether
import Derived.Test.YtabgadmdjpohaaaFinSign
import Derived.WalkKit
import Derived.ProofKit
import Derived.OpenShut
import Derived.ShutString
import Derived.ChangeOld
import Derived.Below
namespace Go.Proofs.Ytabgadmdjpohaaa.fnNamed
open Go.ChangeShapes Go.WideShapes Go.ChangeAt Go.RowKit
open Go.ChangeMaps (open_string shut_string)
set_option linter.unusedVariables false
set_option linter.unusedSimpArgs false
set_option linter.unnecessarySimpa false

theorem cell_below {w w' : World} {b off : Nat} {v : Value} (h : w.cell? ⟨b, off, none⟩ = some v) (hb : Below w.heap.size w w') : w'.cell? ⟨b, off, none⟩ = some v := by
  rw [hb.cell (World.block_lt_of_cell? w _ h)]
  exact h

theorem own : ownKnob Try.prog.godebug = none := by kernel_rfl
theorem laidOut : laidOutB Try.prog = true := by kernel_rfl

theorem sameInts_t (v u : Value) (xs : List Int) (w : World) (hv : RdV w v xs) (hu : RdV w u xs) : Calls Try.prog 18 #[v, u] w fun e w' => e = .returned (.bool true) ∧ Same w w' :=
  (sameInts_v v u xs xs w hv hu).mono fun e w' ⟨he, hw⟩ => ⟨by rw [he]; simp, hw⟩


set_option maxRecDepth 100000 in
set_option maxHeartbeats 4000000 in
theorem small (a0 : Option Addr) (len0 cap0 : Nat) (w : World) (hB : Bytes w a0 len0) (hc : len0 ≤ cap0) (hcm : cap0 ≤ maxLen) (hs0 : len0 ≤ 1048576) :
    Calls Try.prog 6 #[.slice a0 len0 cap0] w fun e w' => e = .returned (.bool true) ∧ Below w.heap.size w w' := by
  have bel : Below w.heap.size w w := Below.refl _ _
  go_enter Try.func6, Try.ntmps6
  go_wp2_with fail
  refine (drawPartNamed_any a0 len0 cap0 _ hB hs0 hc hcm).mono ?_
  rintro e W1 ⟨v_a, v_p, xs, ps, rfl, o, o2, hl9, hpl, hb⟩
  have bel := below_step bel hb
  clear hb
  have o_a := o
  have o_p := o2
  clear o o2
  by_cases hp : partIn xs = true ∧ namesOk xs.length ps = true
  · have e1 : partNamed xs ps = (kOut (putTo xs ps xs.length), true) := by unfold partNamed; rw [if_pos hp]
    have hlen := partIn_len hp.1
    obtain ⟨hpl2, hpr⟩ := namesOk_facts hp.2
    obtain ⟨e2, e3⟩ := named_together hp.1 hp.2 (i := 0) (k := xs.length - 1) (by omega) (by omega)
    obtain ⟨n, hn⟩ : ∃ n, n = xs.length := ⟨_, rfl⟩
    rw [← hn] at e1 e2 e3 hl9 hlen hpl2 hpr
    obtain ⟨m, hm⟩ : ∃ m, m = n - 1 := ⟨_, rfl⟩
    rw [← hm] at e3
    have hp0 := hpr 0 (by omega)
    have hpm := hpr m (by omega)
    obtain ⟨x, hx⟩ : ∃ x, x = ps.getD 0 0 := ⟨_, rfl⟩
    obtain ⟨y, hy⟩ : ∃ y, y = ps.getD m 0 := ⟨_, rfl⟩
    rw [← hx] at e3 hp0
    rw [← hy] at e3 hpm
    generalize kOut (putTo xs ps n) = ys at *
    have wfx := wf_small (i := x) (by omega) (by omega)
    have wfy := wf_small (i := y) (by omega) (by omega)
    have wf0 := wf_small (i := 0) (by omega) (by omega)
    have wfm := wf_small (i := (m : Int)) (by omega) (by omega)
    obtain ⟨c, hcc⟩ : ∃ c, c = partTogether xs ((0 : Nat) : Int) (m : Int) := ⟨_, rfl⟩
    have e4 : partTogether xs 0 (m : Int) = c := hcc.symm
    rw [← hcc] at e3
    have HI := Lib.hid (fun (wx : World) (v0 v1 : Value) (k0 : RdV wx v0 xs) (k1 : RdV wx v1 ps) => e1 ▸ iPartNamed_v v0 v1 xs ps wx k0 k1)
    have HS := Lib.hid (fun (wx : World) (v0 v1 : Value) (k0 : RdV wx v0 xs) (k1 : RdV wx v1 ps) => e1 ▸ sPartNamed_v v0 v1 xs ps wx k0 k1)
    have HP := Lib.hid (fun (wx : World) (v0 : Value) (k0 : RdV wx v0 ys) => e2 ▸ iPartIn_v v0 ys wx k0)
    have HN := Lib.hid hn
    have HX := Lib.hid hx
    have HY := Lib.hid hy
    have HPL := Lib.hid hpl2
    have hmi : (n : Int) - 1 = (m : Int) := by omega
    have b1 : (m : Int) < (n : Int) := by omega
    have b2 : (0 : Int) < (n : Int) := by omega
    have b3 : (0 : Int) ≤ (m : Int) := by omega
    have b4 : 0 < n := by omega
    have hmn : m < n := by omega
    clear e1 e2 hn hm hx hy hp hpl2 hpr hpl hcc
    have HE := Lib.hid (And.intro e3 e4)
    clear e3 e4
    go_wp2_with fail
    refine (HI.out _ _ _ (own_rdv o_a) (own_rdv o_p)).mono ?_
    rintro e W2 ⟨v_o, rfl, o, hb⟩
    have bel := below_step bel hb
    have o_a := own_below o_a hb
    have o_p := own_below o_p hb
    clear hb
    have o_o := o
    clear o
    go_wp2_with fail
    refine (HS.out _ _ _ (own_rdv o_a) (own_rdv o_p)).mono ?_
    rintro e W3 ⟨v_w, rfl, o, hb⟩
    have bel := below_step bel hb
    have o_a := own_below o_a hb
    have o_p := own_below o_p hb
    have o_o := own_below o_o hb
    clear hb
    have o_w := o
    clear o
    go_wp2_with fail
    refine (sameInts_t _ _ ys _ (own_rdv o_o) (own_rdv o_w)).mono ?_
    rintro e W4 ⟨rfl, hq⟩
    have hb := hq W3.heap.size
    clear hq
    have bel := below_step bel hb
    have o_a := own_below o_a hb
    have o_p := own_below o_p hb
    have o_o := own_below o_o hb
    clear hb
    clear o_w
    obtain ⟨aa, ca, rfl⟩ := own_slice' o_a
    rw [← HN.out] at o_a ⊢
    obtain ⟨g, cp, rfl, hg⟩ := own_slice o_p (by rw [HPL.out]; omega)
    rw [HPL.out] at o_p ⊢
    have hc0 := own_cell o_p 0 (by rw [HPL.out]; omega)
    have hc1 := own_cell o_p m (by rw [HPL.out]; omega)
    rw [← HX.out] at hc0
    rw [← HY.out] at hc1
    have HO := Lib.hid (own_rdv o_o)
    have HA := Lib.hid (own_rdv o_a)
    clear o_o o_a o_p HI HS HN HX HY HPL
    obtain ⟨e3, e4⟩ := HE.out
    clear HE
    cases c
    · have HQ := Lib.hid (fun (wx : World) (v0 : Value) (k0 : RdV wx v0 ys) => e3 ▸ iPartTogether_v v0 ys x y wx k0 wfx wfy)
      have HR := Lib.hid (fun (wx : World) (v0 : Value) (k0 : RdV wx v0 xs) => e4 ▸ iPartTogether_v v0 xs 0 (m : Int) wx k0 wf0 wfm)
      clear e3 e4
      go_wp2_with fail
      go_region_held3 (fun w' => w'.cell? ⟨g, 0, none⟩ = some (.int .i64 x) ∧ w'.cell? ⟨g, m, none⟩ = some (.int .i64 y)) (first | exact ⟨hc0, hc1⟩ | exact ⟨hd0, hd1⟩ | exact ⟨he0, he1⟩ | exact ⟨hf0, hf1⟩) (first | (go_at_call 27; refine (HP.out W4.drew v_o (rdv_drewN HO.out 1)).mono ?_; rintro e W5 ⟨rfl, hb⟩; have bel5 := below_step (below_drewN bel 1) hb; have hd0 := cell_below (w := W4.drew) hc0 hb; have hd1 := cell_below (w := W4.drew) hc1 hb; have HO5 := Lib.hid (rdv_below (rdv_drewN HO.out 1) hb); have HA5 := Lib.hid (rdv_below (rdv_drewN HA.out 1) hb); clear hb) | (go_at_call_of 20 v_o; refine (HQ.out _ _ ?_).mono ?_; (first | exact HO6.out | exact rdv_drewN HO6.out 1 | exact rdv_drewN HO6.out 2); rintro e W7 ⟨rfl, hb⟩; have bel7 := below_step (by first | exact bel6 | exact below_drewN bel6 1 | exact below_drewN bel6 2) hb; have hf0 := cell_below (b := g) (off := 0) (v := .int .i64 x) (by exact he0) hb; have hf1 := cell_below (b := g) (off := m) (v := .int .i64 y) (by exact he1) hb; clear hb) | (go_at_call_of 20 (Value.slice aa n ca); refine (HR.out _ _ ?_).mono ?_; (first | exact HA6.out | exact rdv_drewN HA6.out 1 | exact rdv_drewN HA6.out 2); rintro e W7 ⟨rfl, hb⟩; have bel7 := below_step (by first | exact bel6 | exact below_drewN bel6 1 | exact below_drewN bel6 2) hb; have hf0 := cell_below (b := g) (off := 0) (v := .int .i64 x) (by exact he0) hb; have hf1 := cell_below (b := g) (off := m) (v := .int .i64 y) (by exact he1) hb; clear hb) | (go_at_call_of 20 v_o; refine (HQ.out _ _ ?_).mono ?_; (first | exact HO5.out | exact rdv_drewN HO5.out 1 | exact rdv_drewN HO5.out 2); rintro e W6 ⟨rfl, hb⟩; have bel6 := below_step (by first | exact bel5 | exact below_drewN bel5 1 | exact below_drewN bel5 2) hb; have he0 := cell_below (b := g) (off := 0) (v := .int .i64 x) (by exact hd0) hb; have he1 := cell_below (b := g) (off := m) (v := .int .i64 y) (by exact hd1) hb; have HA6 := Lib.hid (rdv_below (by first | exact HA5.out | exact rdv_drewN HA5.out 1 | exact rdv_drewN HA5.out 2) hb); clear hb) | (go_at_call_of 20 (Value.slice aa n ca); refine (HR.out _ _ ?_).mono ?_; (first | exact HA5.out | exact rdv_drewN HA5.out 1 | exact rdv_drewN HA5.out 2); rintro e W6 ⟨rfl, hb⟩; have bel6 := below_step (by first | exact bel5 | exact below_drewN bel5 1 | exact below_drewN bel5 2) hb; have he0 := cell_below (b := g) (off := 0) (v := .int .i64 x) (by exact hd0) hb; have he1 := cell_below (b := g) (off := m) (v := .int .i64 y) (by exact hd1) hb; have HO6 := Lib.hid (rdv_below (by first | exact HO5.out | exact rdv_drewN HO5.out 1 | exact rdv_drewN HO5.out 2) hb); clear hb))
      all_goals
        go_wp2
        go_ret
        exact ⟨rfl, bel7⟩
    · have HQ := Lib.hid (fun (wx : World) (v0 : Value) (k0 : RdV wx v0 ys) => e3 ▸ iPartTogether_v v0 ys x y wx k0 wfx wfy)
      have HR := Lib.hid (fun (wx : World) (v0 : Value) (k0 : RdV wx v0 xs) => e4 ▸ iPartTogether_v v0 xs 0 (m : Int) wx k0 wf0 wfm)
      clear e3 e4
      go_wp2_with fail
      go_region_held3 (fun w' => w'.cell? ⟨g, 0, none⟩ = some (.int .i64 x) ∧ w'.cell? ⟨g, m, none⟩ = some (.int .i64 y)) (first | exact ⟨hc0, hc1⟩ | exact ⟨hd0, hd1⟩ | exact ⟨he0, he1⟩ | exact ⟨hf0, hf1⟩) (first | (go_at_call 27; refine (HP.out W4.drew v_o (rdv_drewN HO.out 1)).mono ?_; rintro e W5 ⟨rfl, hb⟩; have bel5 := below_step (below_drewN bel 1) hb; have hd0 := cell_below (w := W4.drew) hc0 hb; have hd1 := cell_below (w := W4.drew) hc1 hb; have HO5 := Lib.hid (rdv_below (rdv_drewN HO.out 1) hb); have HA5 := Lib.hid (rdv_below (rdv_drewN HA.out 1) hb); clear hb) | (go_at_call_of 20 v_o; refine (HQ.out _ _ ?_).mono ?_; (first | exact HO6.out | exact rdv_drewN HO6.out 1 | exact rdv_drewN HO6.out 2); rintro e W7 ⟨rfl, hb⟩; have bel7 := below_step (by first | exact bel6 | exact below_drewN bel6 1 | exact below_drewN bel6 2) hb; have hf0 := cell_below (b := g) (off := 0) (v := .int .i64 x) (by exact he0) hb; have hf1 := cell_below (b := g) (off := m) (v := .int .i64 y) (by exact he1) hb; clear hb) | (go_at_call_of 20 (Value.slice aa n ca); refine (HR.out _ _ ?_).mono ?_; (first | exact HA6.out | exact rdv_drewN HA6.out 1 | exact rdv_drewN HA6.out 2); rintro e W7 ⟨rfl, hb⟩; have bel7 := below_step (by first | exact bel6 | exact below_drewN bel6 1 | exact below_drewN bel6 2) hb; have hf0 := cell_below (b := g) (off := 0) (v := .int .i64 x) (by exact he0) hb; have hf1 := cell_below (b := g) (off := m) (v := .int .i64 y) (by exact he1) hb; clear hb) | (go_at_call_of 20 v_o; refine (HQ.out _ _ ?_).mono ?_; (first | exact HO5.out | exact rdv_drewN HO5.out 1 | exact rdv_drewN HO5.out 2); rintro e W6 ⟨rfl, hb⟩; have bel6 := below_step (by first | exact bel5 | exact below_drewN bel5 1 | exact below_drewN bel5 2) hb; have he0 := cell_below (b := g) (off := 0) (v := .int .i64 x) (by exact hd0) hb; have he1 := cell_below (b := g) (off := m) (v := .int .i64 y) (by exact hd1) hb; have HA6 := Lib.hid (rdv_below (by first | exact HA5.out | exact rdv_drewN HA5.out 1 | exact rdv_drewN HA5.out 2) hb); clear hb) | (go_at_call_of 20 (Value.slice aa n ca); refine (HR.out _ _ ?_).mono ?_; (first | exact HA5.out | exact rdv_drewN HA5.out 1 | exact rdv_drewN HA5.out 2); rintro e W6 ⟨rfl, hb⟩; have bel6 := below_step (by first | exact bel5 | exact below_drewN bel5 1 | exact below_drewN bel5 2) hb; have he0 := cell_below (b := g) (off := 0) (v := .int .i64 x) (by exact hd0) hb; have he1 := cell_below (b := g) (off := m) (v := .int .i64 y) (by exact hd1) hb; have HO6 := Lib.hid (rdv_below (by first | exact HO5.out | exact rdv_drewN HO5.out 1 | exact rdv_drewN HO5.out 2) hb); clear hb))
      all_goals
        go_wp2
        go_ret
        exact ⟨rfl, bel7⟩
  · have e1 : partNamed xs ps = ([], false) := by unfold partNamed; rw [if_neg hp]
    have HI := Lib.hid (fun (wx : World) (v0 v1 : Value) (k0 : RdV wx v0 xs) (k1 : RdV wx v1 ps) => e1 ▸ iPartNamed_v v0 v1 xs ps wx k0 k1)
    have HS := Lib.hid (fun (wx : World) (v0 v1 : Value) (k0 : RdV wx v0 xs) (k1 : RdV wx v1 ps) => e1 ▸ sPartNamed_v v0 v1 xs ps wx k0 k1)
    clear e1 hp
    go_wp2_with fail
    refine (HI.out _ _ _ (own_rdv o_a) (own_rdv o_p)).mono ?_
    rintro e W2 ⟨v_o, rfl, o, hb⟩
    have bel := below_step bel hb
    have o_a := own_below o_a hb
    have o_p := own_below o_p hb
    clear hb
    have o_o := o
    clear o
    go_wp2_with fail
    refine (HS.out _ _ _ (own_rdv o_a) (own_rdv o_p)).mono ?_
    rintro e W3 ⟨v_w, rfl, o, hb⟩
    have bel := below_step bel hb
    have o_a := own_below o_a hb
    have o_p := own_below o_p hb
    have o_o := own_below o_o hb
    clear hb
    have o_w := o
    clear o
    go_wp2_with fail
    refine (sameInts_t _ _ [] _ (own_rdv o_o) (own_rdv o_w)).mono ?_
    rintro e W4 ⟨rfl, hq⟩
    have hb := hq W3.heap.size
    clear hq
    have bel := below_step bel hb
    have o_a := own_below o_a hb
    have o_p := own_below o_p hb
    have o_o := own_below o_o hb
    have o_w := own_below o_w hb
    clear hb
    go_wp2_with fail
    refine (sameInts_t _ _ [] _ (own_rdv o_o) (own_rdv o_w)).mono ?_
    rintro e W5 ⟨rfl, hq⟩
    have hb := hq W4.heap.size
    clear hq
    have bel := below_step bel hb
    have o_a := own_below o_a hb
    have o_p := own_below o_p hb
    have o_o := own_below o_o hb
    have o_w := own_below o_w hb
    clear hb
    go_wp2
    go_ret
    exact ⟨rfl, bel⟩

theorem walk (a0 : Option Addr) (len0 cap0 : Nat) (z0 : List Int) (w : World) (w0 : IsRow .u8 w a0 len0 cap0 z0) :
    Calls Try.prog 6 #[.slice a0 len0 cap0] w fun e w' => e = .returned (.bool true) ∧ Below w.heap.size w w' := by
  obtain ⟨hB, hc, hcm⟩ := bytes_of_row w0
  refine (Nat.lt_or_ge 1048576 len0).elim (fun hs0 => ?_) (fun hs0 => ?_)
  · go_enter Try.func6, Try.ntmps6
    go_wp2
    go_ret
    exact ⟨rfl, Below.refl _ _⟩
  exact small a0 len0 cap0 w hB hc hcm hs0

set_option maxRecDepth 100000 in
theorem lifted (os : Os) (started : os.Started) (H : Type) (enc : TypeId × Value → H) :
    ReturnsInHanded {} Try.checked os 6 .any (Rows.fnNamedSpec.pre6 enc Try.prog Try.f6 Rows.fnNamedRow.domain false) (Rows.fnNamedSpec.post enc Try.prog Try.f6 false true false false) := by
  refine returnsInHanded_of_change (C := Try.checked) own started (by kernel_rfl) Try.func6
    (ChangeSpec.witness6 (enc := enc) (C := Try.checked) false ⟨#[], #[.slice none 0 0], []⟩ 8 (by kernel_rfl) (by kernel_rfl) (by kernel_rfl) (by kernel_rfl)) ?_
  intro W base args ds gs before hval0 hW hcnd _
  have hval : ∀ (j : Nat) t v, Try.f6.params[j]? = some t → args[j]? = some v → Value.okWide Try.prog W .any base t v := hval0
  have hW' := hW
  obtain ⟨p, q, hA0, hV, rfl, hfz, hnd⟩ := hW
  have hA : DataW.TrodAll enc Try.prog W 0 (fun _ => true) true Try.f6.params.toList args.toList ds p := hA0
  rw [Try.params6] at hA hval
  obtain ⟨v0, vs0, d0, ds0, p0, q0, hargs, rfl, rfl, h0, r0⟩ := trodAll_cons hA
  obtain ⟨rfl, rfl, rfl⟩ := trodAll_nil r0
  obtain rfl : args = #[v0] := by cases args; simp_all
  obtain ⟨rfl, rfl⟩ := trodVars_none hV
  obtain ⟨a0, len0, cap0, rfl⟩ := okWide_slice Try.underlying22 (hval 0 22 v0 rfl rfl)
  have k0 := h0
  have lt0 : ∀ x ∈ p0, x.block < W.heap.size := by obtain ⟨m, hm⟩ := k0; exact DataW.trod_lt m _ _ _ hm
  obtain ⟨z0, w0⟩ : ∃ zs, IsRow .u8 W a0 len0 cap0 zs := by
    obtain ⟨fuel, hf⟩ := h0
    rcases open_ints Try.underlying22 Try.underlying5 (by kernel_rfl) hf with ⟨hcs, _⟩ | ⟨x, l, c, zs, hcs, _, hl, hm, hz, _, hcell, hwz⟩
    · simp [Value.cells] at hcs
      obtain ⟨rfl, rfl, rfl⟩ := hcs
      exact ⟨[], .inl ⟨rfl, rfl, rfl, rfl⟩⟩
    · simp [Value.cells] at hcs
      obtain ⟨rfl, rfl, rfl⟩ := hcs
      exact ⟨zs, .inr ⟨_, rfl, hl, hm, by simpa using hz, hcell, hwz⟩⟩
  clear hA0 hval0
  refine (walk a0 len0 cap0 z0 W w0).mono fun e W' ⟨he, bel⟩ => ?_
  subst he
  exact ⟨_, rfl, _, _, _, [], _, [], hW', trodAll_mk1 (shut_bool Try.underlying4 _), (trodAll_cons_mk (Below.trod laidOut (by kernel_rfl) (of_decide_eq_true (by kernel_rfl)) k0 bel lt0) trodAll_mk0), rfl, bel.frame _, fun h => by cases h⟩

theorem over : Rows.fnNamedRow.holds Try.pinned (OpenSpec.ofChange Rows.fnNamedSpec) :=
  OpenClaim.holds_of_wide 6 Try.f6 rfl rfl rfl rfl rfl rfl rfl ⟨rfl, rfl, rfl, rfl, rfl⟩ rfl rfl rfl rfl rfl (by kernel_rfl) Try.func6 (by kernel_rfl)
    (of_decide_eq_true (by kernel_rfl)) (by unfold Func.isWrapper; first | (rw [if_pos (by decide +kernel)]; kernel_rfl) | (rw [if_neg (by decide +kernel)]; exact ⟨rfl, rfl⟩))
    (fun os started H enc _ => lifted os started H enc)

/-- The statement. -/
theorem proved : Rows.FnNamedSaid := over
end Go.Proofs.Ytabgadmdjpohaaa.fnNamed
