/-
  ArcPart: what it answers; the contracts of impl.arcTold and of ArcPart of both sides.
-/
import Derived.Test.YtipmafplpoadjaaArcPMath
import Derived.Test.YtipmafplpoadjaaArcs
import Derived.Test.YtipmafplpoadjaaPartOf
import Derived.StillTailTactics
namespace Go.Proofs.Ytipmafplpoadjaa
set_option linter.unusedSimpArgs false
set_option linter.unusedVariables false
set_option linter.unnecessarySimpa false
open Go.RowKit
set_option maxRecDepth 100000

/-- A function hands an arc, out of its variable, and a bool back. -/
theorem results_arc {fn : Func} {p q : Tmp} (h : fn.results = #[.cell p 61, .tmp q]) (tmps : Array Value) (w : World) (g : Nat) (x y : Int) (b : Bool)
    (hp : tmps.getD p undef = .pointer (some ⟨g, 0, none⟩)) (hq : tmps.getD q undef = .bool b) (hg : w.heap[g]? = some (.cells #[.int .i64 x, .int .i64 y] 61 (0, 0))) : (results fn tmps).run Try.prog w = .ok (.tuple #[.agg #[.int .i64 x, .int .i64 y], .bool b]) w := by
  have hp' : tmps[p]?.getD undef = .pointer (some ⟨g, 0, none⟩) := by simpa using hp
  have hq' : tmps[q]?.getD undef = .bool b := by simpa using hq
  obtain ⟨i0, hi, hz0, hz1, hz2⟩ := info_parts Try.infoArc
  have hr := run_loadVar_row (P := Try.prog) w g 61 61 #[.int .i64 x, .int .i64 y] (0, 0) _ hg Try.underlying61 rfl (by rw [hi]; simpa using hz1)
  simp [results, h, hp', hq', asAddr, hr]

/-- An arc is written into its variable. -/
theorem wpList_storeA {ops : Array Oper} {rest : List Oper} {o : Oper} {a : Act} {w : World} {Q : Exit → Act → World → Prop} (hgd : o.guard = none) (x y : Operand) (ho : o.op = .store 61 x y)
    (g : Nat) (hx : a.eval x = .pointer (some ⟨g, 0, none⟩)) (p q p0 q0 : Int) (hy : a.eval y = .agg #[.int .i64 p, .int .i64 q]) (hg : w.heap[g]? = some (.cells #[.int .i64 p0, .int .i64 q0] 61 (0, 0)))
    (h : ∀ w', w'.heap[g]? = some (.cells #[.int .i64 p, .int .i64 q] 61 (0, 0)) → Touch w w' g (g + 1) → wpList Try.prog ops Q rest (a.put o.dst undef) w') : wpList Try.prog ops Q (o :: rest) a w := by
  obtain ⟨i0, hi, hz0, hz1, hz2⟩ := info_parts Try.infoArc
  exact wpList_store_row hgd _ x y ho g #[.int .i64 p, .int .i64 q] hx hy _ #[.int .i64 p0, .int .i64 q0] hg (by rw [hi]; simpa using hz1) rfl (by simp [Value.oneCell']) (h _ (setRow_heap w g _ _ _ _ hg) (touch_row w g _))

set_option maxHeartbeats 1600000 in
theorem arcTold_yes (n : Int) (v : Value) (row : List Int) (w : World) (hv : RdV w v row) (hok : toldOk n row = true) :
    Calls Try.prog 54 #[.int .i64 n, v] w fun e w' => e = .returned (.tuple #[.agg #[.int .i64 (row.getD 0 0), .int .i64 (row.getD 1 0)], .bool true]) ∧ Below w.heap.size w w' := by
  simp only [toldOk, decide_eq_true_eq] at hok
  obtain ⟨hl, ⟨h0, h0n⟩, h01, h1n⟩ := hok
  obtain ⟨ao, ca, rfl, hx, hlc, hcm⟩ := hv
  rcases hx with hx | ⟨bb, off, rfl, hc⟩
  · rw [hx] at hl; simp at hl
  have hc0 := hc 0 (by omega)
  have hc1 := hc 1 (by omega)
  rw [Nat.add_zero] at hc0
  rw [hl] at hlc ⊢
  obtain ⟨x, hx⟩ : ∃ x, x = row.getD 0 0 := ⟨_, rfl⟩
  obtain ⟨y, hy⟩ : ∃ y, y = row.getD 1 0 := ⟨_, rfl⟩
  rw [← hx] at hc0 h0 h0n h01 ⊢
  rw [← hy] at hc1 h01 h1n ⊢
  have h10 : 0 ≤ y := by omega
  have hbb : bb < w.heap.size := World.block_lt_of_cell? w _ hc0
  have hne : ¬ (x ≥ y) := by omega
  clear hc hx hy hl
  go_enter Try.func54, Try.ntmps54
  go_wp2
  go_quiet (first | (go_at_call_of 83 (Value.int IntKind.i64 x); exact quiet_left (isThing_yes n x _ h0 h0n)) | (go_at_call_of 83 (Value.int IntKind.i64 y); exact quiet_left (isThing_yes n y _ h10 h1n)))
  go_wp2
  obtain ⟨W1, hW1⟩ : ∃ W1, W1 = (w.alloc (.cells #[.int .i64 0, .int .i64 0] 61)).drewN nq := ⟨_, rfl⟩
  have hg1 : W1.drew.heap[w.heap.size]? = some (.cells #[.int .i64 0, .int .i64 0] 61 (0, 0)) := by rw [hW1]; exact heap_alloc_new w _
  have hb1 : Below w.heap.size w W1 := by rw [hW1]; exact below_drewN ((Below.refl _ _).alloc (Nat.le_refl _) _) _
  have hd0 : W1.cell? ⟨bb, off, none⟩ = some (.int .i64 x) := by rw [hb1.cell hbb]; exact hc0
  have hd1 : W1.cell? ⟨bb, off + 1, none⟩ = some (.int .i64 y) := by rw [hb1.cell hbb]; exact hc1
  rw [← hW1]
  have HG1 := Lib.hid hg1
  have HB1 := Lib.hid (below_drewN hb1 1)
  clear hc0 hc1 hW1 hg1 hb1
  go_still_tail 7, (by kernel_rfl)
  change wpList _ _ _ _ _ (World.drew _)
  go_wp2_with (refine wpList_storeA rfl _ _ rfl w.heap.size rfl x y 0 0 rfl HG1.out ?_; intro w3 hg3 ht3; have HG3 := Lib.hid hg3; have HB3 := Lib.hid (HB1.out.trans (touch_below ht3 (Nat.le_refl _))); clear hg3 ht3)
  exact bodyPost_ret (results_arc rfl _ _ w.heap.size x y true rfl rfl HG3.out) rfl ⟨rfl, HB3.out⟩

set_option maxHeartbeats 3200000 in
theorem arcTold_no (n : Int) (v : Value) (row : List Int) (w : World) (hv : RdV w v row) (hok : toldOk n row = false) :
    Calls Try.prog 54 #[.int .i64 n, v] w fun e w' => e = .returned (.tuple #[.agg #[.int .i64 0, .int .i64 0], .bool false]) ∧ Below w.heap.size w w' := by
  simp only [toldOk, decide_eq_false_iff_not] at hok
  obtain ⟨ao, ca, rfl, hx, hlc, hcm⟩ := hv
  by_cases hl : row.length = 2
  · rcases hx with hx | ⟨bb, off, rfl, hc⟩
    · rw [hx] at hl; simp at hl
    have hc0 := hc 0 (by omega)
    have hc1 := hc 1 (by omega)
    rw [Nat.add_zero] at hc0
    have hok2 : ¬ ((0 ≤ row.getD 0 0 ∧ row.getD 0 0 < n) ∧ row.getD 0 0 < row.getD 1 0 ∧ row.getD 1 0 < n) := fun h => hok ⟨hl, h⟩
    rw [hl] at hlc ⊢
    obtain ⟨x, hx⟩ : ∃ x, x = row.getD 0 0 := ⟨_, rfl⟩
    obtain ⟨y, hy⟩ : ∃ y, y = row.getD 1 0 := ⟨_, rfl⟩
    rw [← hx] at hc0 hok2
    rw [← hy] at hc1 hok2
    have hbb : bb < w.heap.size := World.block_lt_of_cell? w _ hc0
    clear hc hx hy hl hok
    by_cases h0 : 0 ≤ x ∧ x < n
    · obtain ⟨h00, h0n⟩ := h0
      by_cases h1 : 0 ≤ y ∧ y < n
      · obtain ⟨h10, h1n⟩ := h1
        have hge : y ≤ x := by omega
        have hd : decide (y ≤ x) = true := by simpa using hge
        clear hok2
        go_enter Try.func54, Try.ntmps54
        go_wp2
        go_quiet (first | (go_at_call_of 83 (Value.int IntKind.i64 x); exact quiet_left (isThing_yes n x _ h00 h0n)) | (go_at_call_of 83 (Value.int IntKind.i64 y); exact quiet_left (isThing_yes n y _ h10 h1n)))
        obtain ⟨W1, hW1⟩ : ∃ W1, W1 = (w.alloc (.cells #[.int .i64 0, .int .i64 0] 61)).drewN nq := ⟨_, rfl⟩
        have hg1 : W1.heap[w.heap.size]? = some (.cells #[.int .i64 0, .int .i64 0] 61 (0, 0)) := by rw [hW1]; exact heap_alloc_new w _
        have hb1 : Below w.heap.size w W1 := by rw [hW1]; exact below_drewN ((Below.refl _ _).alloc (Nat.le_refl _) _) _
        rw [← hW1]
        have HG1 := Lib.hid hg1
        have HB1 := Lib.hid hb1
        clear hW1 hg1 hb1
        go_wp2_with (refine wpList_storeA rfl _ _ rfl w.heap.size rfl 0 0 0 0 rfl HG1.out ?_; intro w3 hg3 ht3; have HG3 := Lib.hid hg3; have HB3 := Lib.hid (HB1.out.trans (touch_below ht3 (Nat.le_refl _))); clear hg3 ht3)
        exact bodyPost_ret (results_arc rfl _ _ w.heap.size 0 0 false rfl rfl HG3.out) rfl ⟨rfl, HB3.out⟩
      · have h1' : y < 0 ∨ n ≤ y := by omega
        have H1 := Lib.hid h1'
        clear h1 h1' hok2
        go_enter Try.func54, Try.ntmps54
        go_wp2
        go_quiet (first | (go_at_call_of 83 (Value.int IntKind.i64 x); exact quiet_left (isThing_yes n x _ h00 h0n)) | (go_at_call_of 83 (Value.int IntKind.i64 y); exact quiet_left (isThing_no n y _ H1.out)))
        obtain ⟨W1, hW1⟩ : ∃ W1, W1 = (w.alloc (.cells #[.int .i64 0, .int .i64 0] 61)).drewN nq := ⟨_, rfl⟩
        have hg1 : W1.heap[w.heap.size]? = some (.cells #[.int .i64 0, .int .i64 0] 61 (0, 0)) := by rw [hW1]; exact heap_alloc_new w _
        have hb1 : Below w.heap.size w W1 := by rw [hW1]; exact below_drewN ((Below.refl _ _).alloc (Nat.le_refl _) _) _
        rw [← hW1]
        have HG1 := Lib.hid hg1
        have HB1 := Lib.hid hb1
        clear hW1 hg1 hb1
        go_wp2_with (refine wpList_storeA rfl _ _ rfl w.heap.size rfl 0 0 0 0 rfl HG1.out ?_; intro w3 hg3 ht3; have HG3 := Lib.hid hg3; have HB3 := Lib.hid (HB1.out.trans (touch_below ht3 (Nat.le_refl _))); clear hg3 ht3)
        exact bodyPost_ret (results_arc rfl _ _ w.heap.size 0 0 false rfl rfl HG3.out) rfl ⟨rfl, HB3.out⟩
    · have h0' : x < 0 ∨ n ≤ x := by omega
      have H0 := Lib.hid h0'
      clear h0 h0' hok2
      go_enter Try.func54, Try.ntmps54
      go_wp2
      go_quiet ((go_at_call_of 83 (Value.int IntKind.i64 x); exact quiet_left (isThing_no n x _ H0.out)))
      obtain ⟨W1, hW1⟩ : ∃ W1, W1 = (w.alloc (.cells #[.int .i64 0, .int .i64 0] 61)).drewN nq := ⟨_, rfl⟩
      have hg1 : W1.heap[w.heap.size]? = some (.cells #[.int .i64 0, .int .i64 0] 61 (0, 0)) := by rw [hW1]; exact heap_alloc_new w _
      have hb1 : Below w.heap.size w W1 := by rw [hW1]; exact below_drewN ((Below.refl _ _).alloc (Nat.le_refl _) _) _
      rw [← hW1]
      have HG1 := Lib.hid hg1
      have HB1 := Lib.hid hb1
      clear hW1 hg1 hb1
      go_wp2_with (refine wpList_storeA rfl _ _ rfl w.heap.size rfl 0 0 0 0 rfl HG1.out ?_; intro w3 hg3 ht3; have HG3 := Lib.hid hg3; have HB3 := Lib.hid (HB1.out.trans (touch_below ht3 (Nat.le_refl _))); clear hg3 ht3)
      exact bodyPost_ret (results_arc rfl _ _ w.heap.size 0 0 false rfl rfl HG3.out) rfl ⟨rfl, HB3.out⟩
  · obtain ⟨m, hm⟩ : ∃ m, m = row.length := ⟨_, rfl⟩
    rw [← hm] at hl hlc ⊢
    have hd : ((m : Int) != 2) = true := by simp; omega
    clear hm hok hx
    go_enter Try.func54, Try.ntmps54
    go_wp2
    go_quiet (fail)
    obtain ⟨W1, hW1⟩ : ∃ W1, W1 = (w.alloc (.cells #[.int .i64 0, .int .i64 0] 61)).drewN nq := ⟨_, rfl⟩
    have hg1 : W1.heap[w.heap.size]? = some (.cells #[.int .i64 0, .int .i64 0] 61 (0, 0)) := by rw [hW1]; exact heap_alloc_new w _
    have hb1 : Below w.heap.size w W1 := by rw [hW1]; exact below_drewN ((Below.refl _ _).alloc (Nat.le_refl _) _) _
    rw [← hW1]
    have HG1 := Lib.hid hg1
    have HB1 := Lib.hid hb1
    clear hW1 hg1 hb1
    go_wp2_with (refine wpList_storeA rfl _ _ rfl w.heap.size rfl 0 0 0 0 rfl HG1.out ?_; intro w3 hg3 ht3; have HG3 := Lib.hid hg3; have HB3 := Lib.hid (HB1.out.trans (touch_below ht3 (Nat.le_refl _))); clear hg3 ht3)
    exact bodyPost_ret (results_arc rfl _ _ w.heap.size 0 0 false rfl rfl HG3.out) rfl ⟨rfl, HB3.out⟩

theorem arcPart_no {n : Nat} {xss : List (List Int)} (hn : 1 ≤ n ∧ n ≤ 8) (h : fillArcs n (List.replicate n (-1)) 0 0 xss = none) : arcPart (n : Int) xss = ([], false) := by
  unfold arcPart
  rw [if_pos (by omega), Int.toNat_natCast, h]

theorem arcPart_yes {n : Nat} {xss : List (List Int)} {up : List Int} (hn : 1 ≤ n ∧ n ≤ 8) (h : fillArcs n (List.replicate n (-1)) 0 0 xss = some up) : arcPart (n : Int) xss = (kOut (rootsTo up n), true) := by
  unfold arcPart
  rw [if_pos (by omega), Int.toNat_natCast, h]

set_option maxHeartbeats 1600000 in
theorem iArcPart_v (v : Value) (n : Int) (xss : List (List Int)) (w : World) (hv : RdM w v xss) (_ : (Lit.int .i64 n).wf = true) : Calls Try.prog 20 #[.int .i64 n, v] w (FreshLB w (arcPart n xss)) := by
  obtain ⟨ao, ca, vs, hvl, rfl, h1, h2, h3, h4⟩ := hv
  unfold maxLen at h2
  by_cases hn : 1 ≤ n ∧ n ≤ 8
  · obtain ⟨n, rfl⟩ := Int.eq_ofNat_of_zero_le (show 0 ≤ n by omega)
    have hn' : 1 ≤ n ∧ n ≤ 8 := by omega
    have HN := Lib.hid hn'
    obtain ⟨hn1, hn8⟩ := hn
    obtain ⟨m, hm⟩ : ∃ m, m = xss.length := ⟨_, rfl⟩
    rw [← hm] at h1 ⊢
    have HM := Lib.hid hm
    have H3 := Lib.hid h3
    have H4 := Lib.hid h4
    clear hm h3 h4 hvl hn'
    have h256 := pow_256 n (by omega)
    obtain ⟨i0, hi, hz0, hz1, hz2⟩ := info_parts Try.infoInt
    go_enter Try.func20, Try.ntmps20
    go_wp2_with fail
    refine (countFits_yes _ _ hn1 hn8).mono ?_
    rintro e w' ⟨rfl, rfl⟩
    go_wp2_with (at_make; refine wpList_make_full _ rfl _ _ 23 rfl w.heap.size 3 i0 (.int .i64 0) 1 Try.underlying23 hi hz0 hz1 _ _ _ _ n rfl rfl rfl rfl (by rw [hz2]; omega) (by unfold maxLen; omega) (Nat.le_refl _) ?_)
    intro w1 hown1 hgrow1
    have hb1 : Below w.heap.size w w1 := (Below.refl _ _).grown hgrow1 (Nat.le_refl _) (fun k h => by cases h)
    have hown := own_made hown1
    rw [← countTo_zero] at hown
    clear hown1 hgrow1
    go_wp2
    go_loopw [23] (fun i wr => ∃ k : Nat, k ≤ n ∧ i = .int .i64 k ∧ Own wr w.heap.size (.slice (some ⟨w.heap.size, 0, none⟩) n n) (countTo n k) ∧ Below w.heap.size w wr)
      (fun i _ => n - (intOf i).toNat)
    case atStart => exact ⟨0, Nat.zero_le _, rfl, hown, hb1⟩
    case round =>
      obtain ⟨k, hk, rfl, hown, hbel⟩ := hrel
      by_cases hlt : k < n
      · have hfz := own_frozen hown k
        obtain ⟨v0, hv0⟩ : ∃ v0, wr.cell? ⟨w.heap.size, k, none⟩ = some v0 := ⟨_, own_cell hown k (by rw [countTo_length n k hk]; exact hlt)⟩
        have hst := (own_stored hown (by rw [countTo_length n k hk]) k (k : Int)).1
        rw [countTo_step n k hlt] at hst
        have HST := Lib.hid hst
        clear hst hown
        go_wp2
        go_roundw
        case rel => exact ⟨k + 1, by omega, by go_num, HST.out, hbel.setCell (Nat.le_refl _) _⟩
        case measure => simp [intOf]; omega
      · have hkn : k = n := by omega
        subst hkn
        rw [countTo_end] at hown
        have HO1 := Lib.hid hown
        clear hown
        go_wp2
        go_loopw [8, 9, 33] (fun u t i wr => ∃ (b F T : Nat) (up : List Int), b ≤ m ∧ i = .int .i64 b ∧ u = .int .u64 F ∧ t = .int .u64 T ∧ F < 2 ^ k ∧ T < 2 ^ k ∧ up.length = k ∧ Hid (UpOk up) ∧ Hid (fillArcs k (List.replicate k (-1)) 0 0 xss = fillArcs k up F T (xss.drop b)) ∧ Own wr w.heap.size (.slice (some ⟨w.heap.size, 0, none⟩) k k) (lstOf up) ∧ Below w.heap.size w wr)
          (fun _ _ i _ => m - (intOf i).toNat)
        case atStart => exact ⟨0, 0, 0, _, Nat.zero_le _, rfl, rfl, rfl, Nat.pos_of_ne_zero (by simp), Nat.pos_of_ne_zero (by simp), by simp, Lib.hid (upOk_start k), Lib.hid rfl, HO1.out, hbel⟩
        case round =>
          obtain ⟨b, F, T, up, hb, rfl, rfl, rfl, hF, hT, hul, HU, HE, hown, hbel⟩ := hrel
          have HUL := Lib.hid hul
          have HO := Lib.hid hown
          clear hown hul
          have hbs := hbel.size
          by_cases hlt : b < m
          · rcases H3.out with hx | ⟨bb, off, rfl, hc⟩
            · have := HM.out
              rw [hx] at this
              simp at this
              omega
            have hcb := hc b (by have := HM.out; omega)
            rw [← hbel.cell (World.block_lt_of_cell? w _ hcb)] at hcb
            have hrow := rdv_below (H4.out b (by have := HM.out; omega)) (hbel.mono (Nat.le_refl _))
            have hdr := drop_consM xss b (by have := HM.out; omega)
            obtain ⟨row, hrw⟩ : ∃ row, row = xss.getD b [] := ⟨_, rfl⟩
            obtain ⟨z, hz⟩ : ∃ z, z = vs.getD b undef := ⟨_, rfl⟩
            rw [← hz] at hcb hrow
            rw [← hrw] at hrow hdr
            have he := HE.out
            rw [hdr, fillArcs] at he
            have HE2 := Lib.hid he
            clear he hc hdr hz hrw
            have HROW := Lib.hid hrow
            obtain ⟨zo, zc, rfl, _⟩ := hrow
            cases hok : toldOk (k : Int) row with
            | false =>
              have HTOLD := Lib.hid (arcTold_no (k : Int) _ row wr HROW.out hok)
              have hre : fillArcs k (List.replicate k (-1)) 0 0 xss = none := by rw [HE2.out, if_neg (by simp [hok])]
              have HRE := Lib.hid (arcPart_no HN.out hre)
              clear hok hre
              go_wp2_with fail
              refine HTOLD.out.mono ?_
              rintro e w5 ⟨rfl, hb5⟩
              have HB5 := Lib.hid (below_step hbel hb5)
              go_wp2
              go_ret2
              rw [HRE.out]
              exact ⟨_, rfl, own_nil _ _, HB5.out.alloc HB5.out.size _⟩
            | true =>
              have HTOLD := Lib.hid (arcTold_yes (k : Int) _ row wr HROW.out hok)
              have hok2 := hok
              simp only [toldOk, decide_eq_true_eq] at hok2
              obtain ⟨hl2, ⟨h00, h0n⟩, h01, h1n⟩ := hok2
              clear hl2
              obtain ⟨x, hx⟩ := Int.eq_ofNat_of_zero_le h00
              obtain ⟨y, hy⟩ := Int.eq_ofNat_of_zero_le (show 0 ≤ row.getD 1 0 by omega)
              rw [hx, hy] at HTOLD
              rw [hx, hy, Int.toNat_natCast, Int.toNat_natCast] at HE2
              rw [hx] at h01 h0n
              rw [hy] at h01 h1n
              have HOK := Lib.hid hok
              clear hok hx hy h00
              have hx8 : x < 8 := by omega
              have hy8 : y < 8 := by omega
              have hF256 : F < 256 := by omega
              have hT256 : T < 256 := by omega
              have hHF := fun (w1 : World) => has_any F x w1 hF256 hx8
              have hHT := fun (w1 : World) => has_any T y w1 hT256 hy8
              have HWF := Lib.hid fun (w1 : World) => with_any F x w1 hF256 hx8
              have HWT := Lib.hid fun (w1 : World) => with_any T y w1 hT256 hy8
              cases hbf : F.testBit x with
              | true =>
                rw [hbf] at hHF
                have HHF := Lib.hid hHF
                have hre : fillArcs k (List.replicate k (-1)) 0 0 xss = none := by rw [HE2.out, if_neg (by simp [hbf])]
                have HRE := Lib.hid (arcPart_no HN.out hre)
                clear hbf hre hHF hHT
                go_wp2_with fail
                refine HTOLD.out.mono ?_
                rintro e w5 ⟨rfl, hb5⟩
                have HB5 := Lib.hid (below_step hbel hb5)
                go_wp2_with fail
                refine (HHF.out _).mono ?_
                rintro e w6 ⟨rfl, rfl⟩
                go_wp2
                go_ret2
                rw [HRE.out]
                exact ⟨_, rfl, own_nil _ _, HB5.out.alloc HB5.out.size _⟩
              | false =>
                rw [hbf] at hHF
                have HHF := Lib.hid hHF
                cases hbt : T.testBit y with
                | true =>
                  rw [hbt] at hHT
                  have HHT := Lib.hid hHT
                  have hre : fillArcs k (List.replicate k (-1)) 0 0 xss = none := by rw [HE2.out, if_neg (by simp [hbt])]
                  have HRE := Lib.hid (arcPart_no HN.out hre)
                  clear hbf hbt hre hHF hHT
                  go_wp2_with fail
                  refine HTOLD.out.mono ?_
                  rintro e w5 ⟨rfl, hb5⟩
                  have HB5 := Lib.hid (below_step hbel hb5)
                  go_wp2_with fail
                  refine (HHF.out _).mono ?_
                  rintro e w6 ⟨rfl, rfl⟩
                  go_wp2_with fail
                  refine (HHT.out _).mono ?_
                  rintro e w6 ⟨rfl, rfl⟩
                  go_wp2
                  go_ret2
                  rw [HRE.out]
                  exact ⟨_, rfl, own_nil _ _, HB5.out.alloc HB5.out.size _⟩
                | false =>
                  rw [hbt] at hHT
                  have HHT := Lib.hid hHT
                  rw [if_pos ⟨HOK.out, hbf, hbt⟩] at HE2
                  have HOF := Lib.hid (or_lt_pow k (by omega) F hF x (by omega))
                  have HOT := Lib.hid (or_lt_pow k (by omega) T hT y (by omega))
                  clear hbf hbt hHF hHT
                  go_wp2_with fail
                  refine HTOLD.out.mono ?_
                  rintro e w5 ⟨rfl, hb5⟩
                  have hb5' := below_step hbel hb5
                  have hbs5 := hb5'.size
                  have hal : Below w5.heap.size w5 (w5.alloc (.cells #[.int .i64 x, .int .i64 y] 61)) := (Below.refl _ _).alloc (Nat.le_refl _) _
                  have hob := own_below (own_below HO.out hb5) hal
                  have hfz := own_frozen hob y
                  obtain ⟨v0, hv0⟩ : ∃ v0, (w5.alloc (.cells #[.int .i64 x, .int .i64 y] 61)).cell? ⟨w.heap.size, y, none⟩ = some v0 := ⟨_, own_cell hob y (by rw [lstOf_length, HUL.out]; omega)⟩
                  have hst := (own_stored hob (by rw [lstOf_length, HUL.out]) y (x : Int)).1
                  rw [← lstOf_set up y x (by rw [HUL.out]; omega) (by omega)] at hst
                  have HST := Lib.hid hst
                  have HB5 := Lib.hid (hb5'.alloc hbs5 (.cells #[.int .i64 x, .int .i64 y] 61))
                  clear hst hob hal hb5 hb5'
                  go_wp2_with fail
                  refine (HHF.out _).mono ?_
                  rintro e w6 ⟨rfl, rfl⟩
                  go_wp2_with fail
                  refine (HHT.out _).mono ?_
                  rintro e w6 ⟨rfl, rfl⟩
                  go_wp2_with fail
                  refine (HWF.out _).mono ?_
                  rintro e w6 ⟨rfl, rfl⟩
                  go_wp2_with fail
                  refine (HWT.out _).mono ?_
                  rintro e w6 ⟨rfl, rfl⟩
                  go_wp2
                  go_roundw
                  case rel =>
                    exact ⟨b + 1, F ||| 2 ^ x, T ||| 2 ^ y, up.set y (x : Int), by omega, by go_num, rfl, rfl, HOF.out, HOT.out, by rw [List.length_set, HUL.out], Lib.hid (upOk_set HU.out y x (by omega)), Lib.hid HE2.out, HST.out, HB5.out.setCell (Nat.le_refl _) _⟩
                  case measure => simp [intOf]; omega
          · have hbm : b = m := by omega
            subst hbm
            have he := HE.out
            rw [HM.out, List.drop_length, fillArcs] at he
            have HRE := Lib.hid (arcPart_yes HN.out he)
            rw [← stageU_zero] at HO
            clear he
            go_wp2
            go_loopw [74] (fun i wr => ∃ j : Nat, j ≤ k ∧ i = .int .i64 j ∧ Own wr w.heap.size (.slice (some ⟨w.heap.size, 0, none⟩) k k) (stageU up j) ∧ Below w.heap.size w wr)
              (fun i _ => k - (intOf i).toNat)
            case atStart => exact ⟨0, Nat.zero_le _, rfl, HO.out, hbel⟩
            case round =>
              obtain ⟨j, hj, rfl, hown, hbel⟩ := hrel
              by_cases hlt : j < k
              · have hjl : j < up.length := by rw [HUL.out]; exact hlt
                have hsl := stageU_length up j (by omega)
                have hat := stageU_at up j hjl
                have hst0 := stageU_step up HU.out j hjl
                have hfz := own_frozen hown j
                have hcj := own_cell hown j (by rw [hsl]; exact hjl)
                rw [hat] at hcj
                have hz : 0 ≤ (if up.getD j 0 < 0 then (j : Int) else up.getD j 0) ∧ (if up.getD j 0 < 0 then (j : Int) else up.getD j 0) ≤ j := by
                  have := HU.out j hjl
                  split <;> omega
                obtain ⟨z, hzz⟩ : ∃ z : Nat, (if up.getD j 0 < 0 then (j : Int) else up.getD j 0) = z := Int.eq_ofNat_of_zero_le hz.1
                rw [hzz] at hcj hz hst0
                rw [Int.toNat_natCast] at hst0
                have hzj : z ≤ j := by omega
                have hcz := own_cell hown z (by rw [hsl]; omega)
                obtain ⟨q, hq⟩ : ∃ q, q = (stageU up j).getD z 0 := ⟨_, rfl⟩
                rw [← hq] at hcz hst0
                have hst := (own_stored hown (by rw [hsl, HUL.out]) j q).1
                rw [hst0] at hst
                have HST := Lib.hid hst
                clear hst hown hq hst0 hz hzz hat hsl hjl
                go_wp2
                go_roundw
                case rel => exact ⟨j + 1, by omega, by go_num, HST.out, hbel.setCell (Nat.le_refl _) _⟩
                case measure => simp [intOf]; omega
              · have hjk : j = k := by omega
                subst hjk
                have hfin : stageU up j = rootsTo up j := by
                  have := stageU_end up
                  rw [HUL.out] at this
                  exact this
                rw [hfin] at hown
                have hrl := rootsTo_length up j
                have HK := Lib.hid (kernel_v _ _ wr (own_rdv hown) (by rw [hrl]; omega))
                have hbs := hbel.size
                clear hfin hown hrl
                go_wp2_with fail
                refine HK.out.mono ?_
                rintro e w5 ⟨u5, rfl, hou, hb5⟩
                have HB5 := Lib.hid (below_step hbel hb5)
                have HOU := Lib.hid (own_mono hou hbs)
                clear hou hb5
                go_wp2
                go_ret2
                rw [HRE.out]
                exact ⟨_, rfl, HOU.out, HB5.out⟩
  · have hr : arcPart n xss = ([], false) := by unfold arcPart; rw [if_neg hn]
    rw [hr]
    clear hr h3 h4 hvl
    go_enter Try.func20, Try.ntmps20
    go_wp2_with fail
    refine (countFits_no _ _ (by omega)).mono ?_
    rintro e w' ⟨rfl, rfl⟩
    go_wp2
    go_ret2
    exact ⟨_, rfl, own_nil _ _, Below.refl _ _⟩

end Go.Proofs.Ytipmafplpoadjaa
