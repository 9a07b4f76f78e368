/-
  The law of kernels. For every input the Go text of laws.FnKernel returns true, and its argument reads afterwards as before. No condition.
-/
import Derived.Test.YtabgadmdjpohaaaDrawPart
import Derived.Test.YtabgadmdjpohaaaSame
import Derived.Test.YtabgadmdjpohaaaRows
import Derived.Test.YtabgadmdjpohaaaPure
import Derived.Test.YtabgadmdjpohaaaHelp
import Derived.Test.YtabgadmdjpohaaaRds
import Derived.Test.YtabgadmdjpohaaaPlainKit
import Derived.Test.YtabgadmdjpohaaaKernel
import Derived.Test.YtabgadmdjpohaaaTogether
import Derived.Test.YtabgadmdjpohaaaFinSign
import Derived.WalkKit
import Derived.ProofKit
import Derived.OpenShut
import Derived.ShutString
import Derived.ChangeOld
import Derived.Below
namespace Go.Proofs.Ytabgadmdjpohaaa.fnKernel
open Go.ChangeShapes Go.WideShapes Go.ChangeAt Go.RowKit
open Go.ChangeMaps (open_string shut_string)
set_option linter.unusedVariables false
set_option linter.unusedSimpArgs false
set_option linter.unnecessarySimpa false

theorem cell_below {w w' : World} {b off : Nat} {v : Value} (h : w.cell? ⟨b, off, none⟩ = some v) (hb : Below w.heap.size w w') : w'.cell? ⟨b, off, none⟩ = some v := by
  rw [hb.cell (World.block_lt_of_cell? w _ h)]
  exact h

theorem own : ownKnob Try.prog.godebug = none := by kernel_rfl
theorem laidOut : laidOutB Try.prog = true := by kernel_rfl

theorem sameInts_t (v u : Value) (xs : List Int) (w : World) (hv : RdV w v xs) (hu : RdV w u xs) : Calls Try.prog 18 #[v, u] w fun e w' => e = .returned (.bool true) ∧ Same w w' :=
  (sameInts_v v u xs xs w hv hu).mono fun e w' ⟨he, hw⟩ => ⟨by rw [he]; simp, hw⟩


set_option maxRecDepth 100000 in
set_option maxHeartbeats 4000000 in
theorem small (a0 : Option Addr) (len0 cap0 : Nat) (w : World) (hB : Bytes w a0 len0) (hc : len0 ≤ cap0) (hcm : cap0 ≤ maxLen) (hs0 : len0 ≤ 1048576) :
    Calls Try.prog 5 #[.slice a0 len0 cap0] w fun e w' => e = .returned (.bool true) ∧ Below w.heap.size w w' := by
  have bel : Below w.heap.size w w := Below.refl _ _
  go_enter Try.func5, Try.ntmps5
  go_wp2_with fail
  refine (drawPartKernel_any a0 len0 cap0 _ hB hs0 hc hcm).mono ?_
  rintro e W1 ⟨v_a, xs, rfl, o, hl9, hb⟩
  have bel := below_step bel hb
  clear hb
  have o_a := o
  clear o
  by_cases hp : 1 ≤ xs.length ∧ xs.length ≤ 8
  · have e1 : partKernel xs = (kOut xs, true) := by unfold partKernel; rw [if_pos hp]
    have e2 := partIn_kOut hp.1 hp.2
    have e3 := kernel_ends hp.1 hp.2
    obtain ⟨n, hn⟩ : ∃ n, n = xs.length := ⟨_, rfl⟩
    rw [← hn] at e3 hp hl9
    generalize kOut xs = ys at *
    have wn := wf_small (i := (n : Int) - 1) (by omega) (by omega)
    have w0 := wf_small (i := 0) (by omega) (by omega)
    have HI := Lib.hid (fun (wx : World) (v0 : Value) (k0 : RdV wx v0 xs) => e1 ▸ iPartKernel_v v0 xs wx k0)
    have HS := Lib.hid (fun (wx : World) (v0 : Value) (k0 : RdV wx v0 xs) => e1 ▸ sPartKernel_v v0 xs wx k0)
    have HP := Lib.hid (fun (wx : World) (v0 : Value) (k0 : RdV wx v0 ys) => e2 ▸ iPartIn_v v0 ys wx k0)
    obtain ⟨x, hx⟩ : ∃ x, x = xs.getD 0 0 := ⟨_, rfl⟩
    obtain ⟨y, hy⟩ : ∃ y, y = xs.getD (n - 1) 0 := ⟨_, rfl⟩
    rw [← hx, ← hy] at e3
    have HQ := Lib.hid (fun (wx : World) (v0 : Value) (k0 : RdV wx v0 ys) => e3 ▸ iPartTogether_v v0 ys 0 ((n : Int) - 1) wx k0 w0 wn)
    have HN := Lib.hid hn
    have HX := Lib.hid hx
    have HY := Lib.hid hy
    clear e1 e2 e3 hn hx hy
    go_wp2_with fail
    refine (HI.out _ _ (own_rdv o_a)).mono ?_
    rintro e W2 ⟨v_o, rfl, o, hb⟩
    have bel := below_step bel hb
    have o_a := own_below o_a hb
    clear hb
    have o_o := o
    clear o
    go_wp2_with fail
    refine (HS.out _ _ (own_rdv o_a)).mono ?_
    rintro e W3 ⟨v_w, rfl, o, hb⟩
    have bel := below_step bel hb
    have o_a := own_below o_a hb
    have o_o := own_below o_o hb
    clear hb
    have o_w := o
    clear o
    go_wp2_with fail
    refine (sameInts_t _ _ ys _ (own_rdv o_o) (own_rdv o_w)).mono ?_
    rintro e W4 ⟨rfl, hq⟩
    have hb := hq W3.heap.size
    clear hq
    have bel := below_step bel hb
    have o_a := own_below o_a hb
    have o_o := own_below o_o hb
    have o_w := own_below o_w hb
    clear hb
    clear o_w
    obtain ⟨g, cp, rfl, hg⟩ := own_slice o_a (by rw [← HN.out]; exact hp.1)
    rw [← HN.out] at o_a ⊢
    have hc0 := own_cell o_a 0 (by rw [← HN.out]; omega)
    have hc1 := own_cell o_a (n - 1) (by rw [← HN.out]; omega)
    rw [← HX.out] at hc0
    rw [← HY.out] at hc1
    obtain ⟨m, hm⟩ : ∃ m, m = n - 1 := ⟨_, rfl⟩
    have hmi : (n : Int) - 1 = (m : Int) := by omega
    rw [← hm] at hc1
    have b1 : (m : Int) < (n : Int) := by omega
    have b2 : (0 : Int) < (n : Int) := by omega
    have b3 : (0 : Int) ≤ (m : Int) := by omega
    have b4 : 0 < n := by omega
    have HO := Lib.hid (own_rdv o_o)
    clear o_o o_a HI HS HN HX HY hm
    by_cases hxy : x = y
    · have c1 : (x == y) = true := by simpa using hxy
      have c2 : decide (x = y) = true := by simpa using hxy
      rw [c2] at HQ
      clear hxy c2
      rw [hmi] at HQ
      go_wp2_with fail
      go_region_held3 (fun w' => w'.cell? ⟨g, 0, none⟩ = some (.int .i64 x) ∧ w'.cell? ⟨g, m, none⟩ = some (.int .i64 y)) (first | exact ⟨hc0, hc1⟩ | exact ⟨hd0, hd1⟩ | exact ⟨he0, he1⟩) (first | (go_at_call 27; refine (HP.out W4.drew v_o (rdv_drewN HO.out 1)).mono ?_; rintro e W5 ⟨rfl, hb⟩; have bel5 := below_step (below_drewN bel 1) hb; have hd0 := cell_below (w := W4.drew) hc0 hb; have hd1 := cell_below (w := W4.drew) hc1 hb; have HO5 := Lib.hid (rdv_below (rdv_drewN HO.out 1) hb); clear hb) | (go_at_call 20; refine (HQ.out _ _ (by first | exact HO5.out | exact rdv_drewN HO5.out 1)).mono ?_; rintro e W6 ⟨rfl, hb⟩; have bel6 := below_step (by first | exact bel5 | exact below_drewN bel5 1) hb; have he0 := cell_below (by first | exact hd0 | exact cell_keepdn hd0) hb; have he1 := cell_below hd1 hb; clear hb))
      all_goals
        go_wp2
        go_ret
        exact ⟨rfl, bel6⟩
    · have c1 : (x == y) = false := by simpa using hxy
      have c2 : decide (x = y) = false := by simpa using hxy
      rw [c2] at HQ
      clear hxy c2
      rw [hmi] at HQ
      go_wp2_with fail
      go_region_held3 (fun w' => w'.cell? ⟨g, 0, none⟩ = some (.int .i64 x) ∧ w'.cell? ⟨g, m, none⟩ = some (.int .i64 y)) (first | exact ⟨hc0, hc1⟩ | exact ⟨hd0, hd1⟩ | exact ⟨he0, he1⟩) (first | (go_at_call 27; refine (HP.out W4.drew v_o (rdv_drewN HO.out 1)).mono ?_; rintro e W5 ⟨rfl, hb⟩; have bel5 := below_step (below_drewN bel 1) hb; have hd0 := cell_below (w := W4.drew) hc0 hb; have hd1 := cell_below (w := W4.drew) hc1 hb; have HO5 := Lib.hid (rdv_below (rdv_drewN HO.out 1) hb); clear hb) | (go_at_call 20; refine (HQ.out _ _ (by first | exact HO5.out | exact rdv_drewN HO5.out 1)).mono ?_; rintro e W6 ⟨rfl, hb⟩; have bel6 := below_step (by first | exact bel5 | exact below_drewN bel5 1) hb; have he0 := cell_below (by first | exact hd0 | exact cell_keepdn hd0) hb; have he1 := cell_below hd1 hb; clear hb))
      all_goals
        go_wp2
        go_ret
        exact ⟨rfl, bel6⟩
  · have e1 : partKernel xs = ([], false) := by unfold partKernel; rw [if_neg hp]
    have HI := Lib.hid (fun (wx : World) (v0 : Value) (k0 : RdV wx v0 xs) => e1 ▸ iPartKernel_v v0 xs wx k0)
    have HS := Lib.hid (fun (wx : World) (v0 : Value) (k0 : RdV wx v0 xs) => e1 ▸ sPartKernel_v v0 xs wx k0)
    clear e1 hp
    go_wp2_with fail
    refine (HI.out _ _ (own_rdv o_a)).mono ?_
    rintro e W2 ⟨v_o, rfl, o, hb⟩
    have bel := below_step bel hb
    have o_a := own_below o_a hb
    clear hb
    have o_o := o
    clear o
    go_wp2_with fail
    refine (HS.out _ _ (own_rdv o_a)).mono ?_
    rintro e W3 ⟨v_w, rfl, o, hb⟩
    have bel := below_step bel hb
    have o_a := own_below o_a hb
    have o_o := own_below o_o hb
    clear hb
    have o_w := o
    clear o
    go_wp2_with fail
    refine (sameInts_t _ _ [] _ (own_rdv o_o) (own_rdv o_w)).mono ?_
    rintro e W4 ⟨rfl, hq⟩
    have hb := hq W3.heap.size
    clear hq
    have bel := below_step bel hb
    have o_a := own_below o_a hb
    have o_o := own_below o_o hb
    have o_w := own_below o_w hb
    clear hb
    go_wp2_with fail
    refine (sameInts_t _ _ [] _ (own_rdv o_o) (own_rdv o_w)).mono ?_
    rintro e W5 ⟨rfl, hq⟩
    have hb := hq W4.heap.size
    clear hq
    have bel := below_step bel hb
    have o_a := own_below o_a hb
    have o_o := own_below o_o hb
    have o_w := own_below o_w hb
    clear hb
    go_wp2
    go_ret
    exact ⟨rfl, bel⟩

theorem walk (a0 : Option Addr) (len0 cap0 : Nat) (z0 : List Int) (w : World) (w0 : IsRow .u8 w a0 len0 cap0 z0) :
    Calls Try.prog 5 #[.slice a0 len0 cap0] w fun e w' => e = .returned (.bool true) ∧ Below w.heap.size w w' := by
  obtain ⟨hB, hc, hcm⟩ := bytes_of_row w0
  refine (Nat.lt_or_ge 1048576 len0).elim (fun hs0 => ?_) (fun hs0 => ?_)
  · go_enter Try.func5, Try.ntmps5
    go_wp2
    go_ret
    exact ⟨rfl, Below.refl _ _⟩
  exact small a0 len0 cap0 w hB hc hcm hs0

set_option maxRecDepth 100000 in
theorem lifted (os : Os) (started : os.Started) (H : Type) (enc : TypeId × Value → H) :
    ReturnsInHanded {} Try.checked os 5 .any (Rows.fnKernelSpec.pre6 enc Try.prog Try.f5 Rows.fnKernelRow.domain false) (Rows.fnKernelSpec.post enc Try.prog Try.f5 false true false false) := by
  refine returnsInHanded_of_change (C := Try.checked) own started (by kernel_rfl) Try.func5
    (ChangeSpec.witness6 (enc := enc) (C := Try.checked) false ⟨#[], #[.slice none 0 0], []⟩ 8 (by kernel_rfl) (by kernel_rfl) (by kernel_rfl) (by kernel_rfl)) ?_
  intro W base args ds gs before hval0 hW hcnd _
  have hval : ∀ (j : Nat) t v, Try.f5.params[j]? = some t → args[j]? = some v → Value.okWide Try.prog W .any base t v := hval0
  have hW' := hW
  obtain ⟨p, q, hA0, hV, rfl, hfz, hnd⟩ := hW
  have hA : DataW.TrodAll enc Try.prog W 0 (fun _ => true) true Try.f5.params.toList args.toList ds p := hA0
  rw [Try.params5] at hA hval
  obtain ⟨v0, vs0, d0, ds0, p0, q0, hargs, rfl, rfl, h0, r0⟩ := trodAll_cons hA
  obtain ⟨rfl, rfl, rfl⟩ := trodAll_nil r0
  obtain rfl : args = #[v0] := by cases args; simp_all
  obtain ⟨rfl, rfl⟩ := trodVars_none hV
  obtain ⟨a0, len0, cap0, rfl⟩ := okWide_slice Try.underlying22 (hval 0 22 v0 rfl rfl)
  have k0 := h0
  have lt0 : ∀ x ∈ p0, x.block < W.heap.size := by obtain ⟨m, hm⟩ := k0; exact DataW.trod_lt m _ _ _ hm
  obtain ⟨z0, w0⟩ : ∃ zs, IsRow .u8 W a0 len0 cap0 zs := by
    obtain ⟨fuel, hf⟩ := h0
    rcases open_ints Try.underlying22 Try.underlying5 (by kernel_rfl) hf with ⟨hcs, _⟩ | ⟨x, l, c, zs, hcs, _, hl, hm, hz, _, hcell, hwz⟩
    · simp [Value.cells] at hcs
      obtain ⟨rfl, rfl, rfl⟩ := hcs
      exact ⟨[], .inl ⟨rfl, rfl, rfl, rfl⟩⟩
    · simp [Value.cells] at hcs
      obtain ⟨rfl, rfl, rfl⟩ := hcs
      exact ⟨zs, .inr ⟨_, rfl, hl, hm, by simpa using hz, hcell, hwz⟩⟩
  clear hA0 hval0
  refine (walk a0 len0 cap0 z0 W w0).mono fun e W' ⟨he, bel⟩ => ?_
  subst he
  exact ⟨_, rfl, _, _, _, [], _, [], hW', trodAll_mk1 (shut_bool Try.underlying4 _), (trodAll_cons_mk (Below.trod laidOut (by kernel_rfl) (of_decide_eq_true (by kernel_rfl)) k0 bel lt0) trodAll_mk0), rfl, bel.frame _, fun h => by cases h⟩

theorem over : Rows.fnKernelRow.holds Try.pinned (OpenSpec.ofChange Rows.fnKernelSpec) :=
  OpenClaim.holds_of_wide 5 Try.f5 rfl rfl rfl rfl rfl rfl rfl ⟨rfl, rfl, rfl, rfl, rfl⟩ rfl rfl rfl rfl rfl (by kernel_rfl) Try.func5 (by kernel_rfl)
    (of_decide_eq_true (by kernel_rfl)) (by unfold Func.isWrapper; first | (rw [if_pos (by decide +kernel)]; kernel_rfl) | (rw [if_neg (by decide +kernel)]; exact ⟨rfl, rfl⟩))
    (fun os started H enc _ => lifted os started H enc)

/-- The statement. -/
theorem proved : Rows.FnKernelSaid := over
end Go.Proofs.Ytabgadmdjpohaaa.fnKernel
