/-
  The law of the next one. For every input the Go text of laws.FnNext returns true, and its argument reads afterwards as before. No condition.
-/
import Derived.Test.YtjmmhonlkpmmoaaDrawPart
import Derived.Test.YtjmmhonlkpmmoaaSame
import Derived.Test.YtjmmhonlkpmmoaaRows
import Derived.Test.YtjmmhonlkpmmoaaPure
import Derived.Test.YtjmmhonlkpmmoaaHelp
import Derived.Test.YtjmmhonlkpmmoaaPlainKit
import Derived.Test.YtjmmhonlkpmmoaaListsT
import Derived.Test.YtjmmhonlkpmmoaaDrawList
import Derived.WalkKit
import Derived.ProofKit
import Derived.OpenShut
import Derived.ShutString
import Derived.ChangeOld
import Derived.Below
namespace Go.Proofs.Ytjmmhonlkpmmoaa.fnNext
open Go.ChangeShapes Go.WideShapes Go.ChangeAt Go.RowKit
open Go.ChangeMaps (open_string shut_string)
set_option linter.unusedVariables false
set_option linter.unusedSimpArgs false
set_option linter.unnecessarySimpa false

theorem own : ownKnob Try.prog.godebug = none := by kernel_rfl
theorem laidOut : laidOutB Try.prog = true := by kernel_rfl

theorem sameInts_t (v u : Value) (xs : List Int) (w : World) (hv : RdV w v xs) (hu : RdV w u xs) : Calls Try.prog 16 #[v, u] w fun e w' => e = .returned (.bool true) ∧ Same w w' :=
  (sameInts_v v u xs xs w hv hu).mono fun e w' ⟨he, hw⟩ => ⟨by rw [he]; simp, hw⟩

theorem sameInts_b (v u : Value) (xs : List Int) (w : World) (hv : RdV w v xs) (hu : RdV w u xs) : Calls Try.prog 16 #[v, u] w fun e w' => e = .returned (.bool true) ∧ Below w.heap.size w w' :=
  (sameInts_t v u xs w hv hu).mono fun e w' ⟨he, hw⟩ => ⟨he, hw _⟩

theorem cell_below {w w' : World} {b off : Nat} {v : Value} (h : w.cell? ⟨b, off, none⟩ = some v) (hb : Below w.heap.size w w') : w'.cell? ⟨b, off, none⟩ = some v := by
  rw [hb.cell (World.block_lt_of_cell? w _ h)]
  exact h

set_option maxRecDepth 100000 in
set_option maxHeartbeats 4000000 in
theorem small (a0 : Option Addr) (len0 cap0 : Nat) (w : World) (hB : Bytes w a0 len0) (hc : len0 ≤ cap0) (hcm : cap0 ≤ maxLen) (hs0 : len0 ≤ 1048576) :
    Calls Try.prog 7 #[.slice a0 len0 cap0] w fun e w' => e = .returned (.bool true) ∧ Below w.heap.size w w' := by
  have bel : Below w.heap.size w w := Below.refl _ _
  go_enter Try.func7, Try.ntmps7
  go_wp2_with fail
  refine (drawListNext_any a0 len0 cap0 _ hB hs0 hc hcm).mono ?_
  rintro e W1 ⟨v_a, xs, rfl, o, hl9, hx9, hb⟩
  have bel := below_step bel hb
  clear hb
  have o_a := o
  clear o
  by_cases hp : partIn xs = true ∧ plc xs + 1 < opn xs.length 0
  · have e1 : listNext xs = (atL xs.length (plc xs + 1), true) := by unfold listNext; rw [if_pos hp]
    have hl := partIn_len hp.1
    have hb0 := plc_bd (partIn_ok hp.1)
    have hq := atL_partIn xs.length (plc xs + 1) hl.1 hl.2 (by omega) (by omega)
    have hpl := (plc_atL xs.length (plc xs + 1) (by omega) (by omega)).2
    have hll := atL_length xs.length (plc xs + 1)
    have e2 : listBefore (atL xs.length (plc xs + 1)) = (xs, true) := by unfold listBefore; rw [if_pos ⟨hq, by rw [hpl]; omega⟩, hpl, hll, show plc xs + 1 - 1 = plc xs by omega, atL_plc (partIn_ok hp.1)]
    generalize atL xs.length (plc xs + 1) = ys at *
    obtain ⟨t, ht, hsm, hgr⟩ := plc_less xs ys 0 (by omega) (partIn_ok hp.1) (partIn_ok hq) hll.symm (by show plc xs < plc ys; omega)
    have HI := Lib.hid (fun (wx : World) (v0 : Value) (k0 : RdV wx v0 xs) => e1 ▸ iListNext_v v0 xs wx k0)
    have HS := Lib.hid (fun (wx : World) (v0 : Value) (k0 : RdV wx v0 xs) => e1 ▸ sListNext_v v0 xs wx k0)
    have HX := Lib.hid (fun (wx : World) (v0 : Value) (k0 : RdV wx v0 ys) => e2 ▸ iListBefore_v v0 ys wx k0)
    obtain ⟨n, hn⟩ : ∃ n, n = xs.length := ⟨_, rfl⟩
    rw [← hn] at hll hl ht
    have HN := Lib.hid hn
    have HLL := Lib.hid hll
    have HSM := Lib.hid hsm
    obtain ⟨hl1, hl8⟩ := hl
    clear e1 e2 hp hb0 hq hpl hn hll hsm hx9
    go_wp2_with fail
    refine (HI.out _ _ (own_rdv o_a)).mono ?_
    rintro e W2 ⟨v_o, rfl, o, hb⟩
    have bel := below_step bel hb
    have o_a := own_below o_a hb
    clear hb
    have o_o := o
    clear o
    go_wp2_with fail
    refine (HS.out _ _ (own_rdv o_a)).mono ?_
    rintro e W3 ⟨v_w, rfl, o, hb⟩
    have bel := below_step bel hb
    have o_a := own_below o_a hb
    have o_o := own_below o_o hb
    clear hb
    have o_w := o
    clear o
    go_wp2_with fail
    refine (sameInts_t _ _ ys _ (own_rdv o_o) (own_rdv o_w)).mono ?_
    rintro e W4 ⟨rfl, hq⟩
    have hb := hq W3.heap.size
    clear hq
    have bel := below_step bel hb
    have o_a := own_below o_a hb
    have o_o := own_below o_o hb
    have o_w := own_below o_w hb
    clear hb
    clear o_w
    go_wp2_with fail
    refine (HX.out _ _ (own_rdv o_o)).mono ?_
    rintro e W5 ⟨v_x, rfl, o, hb⟩
    have bel := below_step bel hb
    have o_a := own_below o_a hb
    have o_o := own_below o_o hb
    clear hb
    have o_x := o
    clear o
    obtain ⟨ga, ca, rfl, _⟩ := own_slice o_a (by rw [← HN.out]; omega)
    obtain ⟨go, co, rfl, _⟩ := own_slice o_o (by rw [HLL.out]; omega)
    rw [← HN.out, HLL.out]
    have HX0 := Lib.hid o_x
    have HO := Lib.hid o_o
    have HA := Lib.hid o_a
    clear o_x o_o o_a HI HS HX
    go_wp2
    go_loopw [10] (fun i wr => ∃ k : Nat, k ≤ t ∧ i = .int .i64 k ∧ Below W5.heap.size W5 wr) (fun i _ => t - (intOf i).toNat)
    case atStart => exact ⟨0, Nat.zero_le _, rfl, Below.refl _ _⟩
    case round =>
      obtain ⟨k, hk, rfl, hbr⟩ := hrel
      have bel2 := below_step bel hbr
      have b1 : (k : Int) < (n : Int) := by omega
      have b2 : (0 : Int) ≤ (k : Int) := by omega
      have hca := own_cell (own_below HA.out hbr) k (by rw [← HN.out]; omega)
      have hco := own_cell (own_below HO.out hbr) k (by rw [HLL.out]; omega)
      by_cases hlt : k < t
      · have hs := HSM.out k hlt
        rw [← hs] at hco
        generalize xs.getD k 0 = x at *
        clear hs hgr
        go_wp2
        go_quiet (fail)
        go_wp2
        go_roundw
        case rel => exact ⟨k + 1, by omega, by go_num, by first | exact hbr | exact below_drewN hbr _⟩
        case measure => simp [intOf]; omega
      · have hkt : k = t := by omega
        subst hkt
        obtain ⟨x, hx⟩ : ∃ x, x = xs.getD k 0 := ⟨_, rfl⟩
        obtain ⟨y, hy⟩ : ∃ y, y = ys.getD k 0 := ⟨_, rfl⟩
        rw [← hx] at hca hgr
        rw [← hy] at hco hgr
        have hne : (x == y) = false := by simpa using Int.ne_of_lt hgr
        have HXX := Lib.hid (own_below HX0.out hbr)
        have HAA := Lib.hid (own_below HA.out hbr)
        clear hx hy
        go_wp2
        go_quiet (fail)
        have HR1 := Lib.hid (own_rdv HXX.out)
        have HR2 := Lib.hid (own_rdv HAA.out)
        rw [← HN.out] at HR2
        clear HXX HAA HX0 HO HA HLL HN HSM
        go_wp2
        go_region_held3 (fun w1 => w1.cell? ⟨ga, k, none⟩ = some (.int .i64 x) ∧ w1.cell? ⟨go, k, none⟩ = some (.int .i64 y)) (first | exact ⟨hca, hco⟩ | exact ⟨hd0, hd1⟩) (first | (go_at_call 16; refine (sameInts_b _ _ xs _ ?_ ?_).mono ?_; (first | exact HR1.out | exact rdv_drewN HR1.out _); (first | exact HR2.out | exact rdv_drewN HR2.out _); rintro e w8 ⟨rfl, hb⟩; have hbr2 := below_step (by first | exact hbr | exact below_drewN hbr _) hb; have hd0 := cell_below (b := ga) (off := k) (v := .int .i64 x) (by exact hca) hb; have hd1 := cell_below (b := go) (off := k) (v := .int .i64 y) (by exact hco) hb; clear hb))
        all_goals
          go_wp2
          go_ret
          exact ⟨rfl, below_step bel (by first | exact hbr2 | exact below_drewN hbr2 _)⟩
  · have e1 : listNext xs = ([], false) := by unfold listNext; rw [if_neg hp]
    have HI := Lib.hid (fun (wx : World) (v0 : Value) (k0 : RdV wx v0 xs) => e1 ▸ iListNext_v v0 xs wx k0)
    have HS := Lib.hid (fun (wx : World) (v0 : Value) (k0 : RdV wx v0 xs) => e1 ▸ sListNext_v v0 xs wx k0)
    clear hp e1
    go_wp2_with fail
    refine (HI.out _ _ (own_rdv o_a)).mono ?_
    rintro e W2 ⟨v_o, rfl, o, hb⟩
    have bel := below_step bel hb
    have o_a := own_below o_a hb
    clear hb
    have o_o := o
    clear o
    go_wp2_with fail
    refine (HS.out _ _ (own_rdv o_a)).mono ?_
    rintro e W3 ⟨v_w, rfl, o, hb⟩
    have bel := below_step bel hb
    have o_a := own_below o_a hb
    have o_o := own_below o_o hb
    clear hb
    have o_w := o
    clear o
    go_wp2_with fail
    refine (sameInts_t _ _ [] _ (own_rdv o_o) (own_rdv o_w)).mono ?_
    rintro e W4 ⟨rfl, hq⟩
    have hb := hq W3.heap.size
    clear hq
    have bel := below_step bel hb
    have o_a := own_below o_a hb
    have o_o := own_below o_o hb
    have o_w := own_below o_w hb
    clear hb
    go_wp2_with fail
    refine (sameInts_t _ _ [] _ (own_rdv o_o) (own_rdv o_w)).mono ?_
    rintro e W5 ⟨rfl, hq⟩
    have hb := hq W4.heap.size
    clear hq
    have bel := below_step bel hb
    have o_a := own_below o_a hb
    have o_o := own_below o_o hb
    have o_w := own_below o_w hb
    clear hb
    go_wp2
    go_ret
    exact ⟨rfl, bel⟩

theorem walk (a0 : Option Addr) (len0 cap0 : Nat) (z0 : List Int) (w : World) (w0 : IsRow .u8 w a0 len0 cap0 z0) :
    Calls Try.prog 7 #[.slice a0 len0 cap0] w fun e w' => e = .returned (.bool true) ∧ Below w.heap.size w w' := by
  obtain ⟨hB, hc, hcm⟩ := bytes_of_row w0
  refine (Nat.lt_or_ge 1048576 len0).elim (fun hs0 => ?_) (fun hs0 => ?_)
  · go_enter Try.func7, Try.ntmps7
    go_wp2
    go_ret
    exact ⟨rfl, Below.refl _ _⟩
  exact small a0 len0 cap0 w hB hc hcm hs0

set_option maxRecDepth 100000 in
theorem lifted (os : Os) (started : os.Started) (H : Type) (enc : TypeId × Value → H) :
    ReturnsInHanded {} Try.checked os 7 .any (Rows.fnNextSpec.pre6 enc Try.prog Try.f7 Rows.fnNextRow.domain false) (Rows.fnNextSpec.post enc Try.prog Try.f7 false true false false) := by
  refine returnsInHanded_of_change (C := Try.checked) own started (by kernel_rfl) Try.func7
    (ChangeSpec.witness6 (enc := enc) (C := Try.checked) false ⟨#[], #[.slice none 0 0], []⟩ 8 (by kernel_rfl) (by kernel_rfl) (by kernel_rfl) (by kernel_rfl)) ?_
  intro W base args ds gs before hval0 hW hcnd _
  have hval : ∀ (j : Nat) t v, Try.f7.params[j]? = some t → args[j]? = some v → Value.okWide Try.prog W .any base t v := hval0
  have hW' := hW
  obtain ⟨p, q, hA0, hV, rfl, hfz, hnd⟩ := hW
  have hA : DataW.TrodAll enc Try.prog W 0 (fun _ => true) true Try.f7.params.toList args.toList ds p := hA0
  rw [Try.params7] at hA hval
  obtain ⟨v0, vs0, d0, ds0, p0, q0, hargs, rfl, rfl, h0, r0⟩ := trodAll_cons hA
  obtain ⟨rfl, rfl, rfl⟩ := trodAll_nil r0
  obtain rfl : args = #[v0] := by cases args; simp_all
  obtain ⟨rfl, rfl⟩ := trodVars_none hV
  obtain ⟨a0, len0, cap0, rfl⟩ := okWide_slice Try.underlying22 (hval 0 22 v0 rfl rfl)
  have k0 := h0
  have lt0 : ∀ x ∈ p0, x.block < W.heap.size := by obtain ⟨m, hm⟩ := k0; exact DataW.trod_lt m _ _ _ hm
  obtain ⟨z0, w0⟩ : ∃ zs, IsRow .u8 W a0 len0 cap0 zs := by
    obtain ⟨fuel, hf⟩ := h0
    rcases open_ints Try.underlying22 Try.underlying5 (by kernel_rfl) hf with ⟨hcs, _⟩ | ⟨x, l, c, zs, hcs, _, hl, hm, hz, _, hcell, hwz⟩
    · simp [Value.cells] at hcs
      obtain ⟨rfl, rfl, rfl⟩ := hcs
      exact ⟨[], .inl ⟨rfl, rfl, rfl, rfl⟩⟩
    · simp [Value.cells] at hcs
      obtain ⟨rfl, rfl, rfl⟩ := hcs
      exact ⟨zs, .inr ⟨_, rfl, hl, hm, by simpa using hz, hcell, hwz⟩⟩
  clear hA0 hval0
  refine (walk a0 len0 cap0 z0 W w0).mono fun e W' ⟨he, bel⟩ => ?_
  subst he
  exact ⟨_, rfl, _, _, _, [], _, [], hW', trodAll_mk1 (shut_bool Try.underlying4 _), (trodAll_cons_mk (Below.trod laidOut (by kernel_rfl) (of_decide_eq_true (by kernel_rfl)) k0 bel lt0) trodAll_mk0), rfl, bel.frame _, fun h => by cases h⟩

theorem over : Rows.fnNextRow.holds Try.pinned (OpenSpec.ofChange Rows.fnNextSpec) :=
  OpenClaim.holds_of_wide 7 Try.f7 rfl rfl rfl rfl rfl rfl rfl ⟨rfl, rfl, rfl, rfl, rfl⟩ rfl rfl rfl rfl rfl (by kernel_rfl) Try.func7 (by kernel_rfl)
    (of_decide_eq_true (by kernel_rfl)) (by unfold Func.isWrapper; first | (rw [if_pos (by decide +kernel)]; kernel_rfl) | (rw [if_neg (by decide +kernel)]; exact ⟨rfl, rfl⟩))
    (fun os started H enc _ => lifted os started H enc)

/-- The statement. -/
theorem proved : Rows.FnNextSaid := over
end Go.Proofs.Ytjmmhonlkpmmoaa.fnNext
