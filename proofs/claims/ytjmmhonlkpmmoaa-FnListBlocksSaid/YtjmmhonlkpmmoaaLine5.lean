/-
  The contracts of (line).place and impl.lineAt. (Made by wip/gen/mkline5.py.)
-/
import Derived.Test.YtjmmhonlkpmmoaaLine4
namespace Go.Proofs.Ytjmmhonlkpmmoaa
set_option linter.unusedSimpArgs false
set_option linter.unusedVariables false
set_option linter.unnecessarySimpa false
open Go.RowKit

/-- One number of the place of a list. -/
theorem plc_drop {xs : List Int} (k : Nat) (hk : k < xs.length) (s : Int) : plcFrom s (xs.drop k) = xs.getD k 0 * opn (xs.length - (k + 1)) s + plcFrom (max s (xs.getD k 0 + 1)) (xs.drop (k + 1)) := by
  rw [drop_cons xs k hk, plcFrom, List.length_drop]

theorem size_succ {xs : List Int} (k : Nat) (hk : k < xs.length) : sizeFrom 0 (xs.take (k + 1)) = max (sizeFrom 0 (xs.take k)) (xs.getD k 0 + 1) := by
  rw [take_snocI xs k hk, sizeFrom_snoc]

theorem okFrom_drop {xs : List Int} (h : okFrom 0 xs = true) (k : Nat) : okFrom (sizeFrom 0 (xs.take k)) (xs.drop k) = true := by
  have := (okFrom_app (xs.take k) (xs.drop k) 0).1 (by rw [List.take_append_drop]; exact h)
  exact this.2

set_option maxHeartbeats 1600000 in
theorem place_any (xs : List Int) (w : World) (hp : partIn xs = true) :
    Calls Try.prog 65 #[.agg (rowC (ln xs))] w (GivesI w (plc xs)) := by
  have hs := partIn_small hp
  have hlen := partIn_len hp
  have hok := partIn_ok hp
  have hL := ln_length hlen.2
  have hpb := plc_bd hok
  have hob := opn_bd xs.length 0 (by omega) (by omega)
  have hpl : plc xs ≤ 4140 := by omega
  obtain ⟨W, hW⟩ : ∃ W, W = w.alloc (.cells (rowC (ln xs)) 57) := ⟨_, rfl⟩
  have hr0 : RowAt W w.heap.size (ln xs) := by rw [hW]; exact rowAt_new w _
  have hB : Below w.heap.size w W := by rw [hW]; exact (Below.refl _ _).alloc (Nat.le_refl _) _
  have HT := Lib.hid fun (w1 : World) => things_any xs w1 hs hlen.2
  have HTR := HT
  have HBA : Hid (∀ (t : Nat) (w1 : World), t ≤ xs.length → Calls Try.prog 90 #[.agg (rowC (ln xs)), .int .i64 t] w1 fun e w' => e = .returned (.int .i64 (sizeFrom 0 (xs.take t))) ∧ w' = w1.alloc (.cells (rowC (ln xs)) 57)) := fun t w1 ht => blocksAhead_any xs t w1 hs hlen.2 ht
  have hsl := fun (w1 : World) => run_sliceL w1 w.heap.size xs.length hlen.2
  obtain ⟨a0, a1, a2, a3, a4, a5, a6, a7, he, h8s⟩ := row_eight hL
  have H8S := Lib.hid h8s
  have HR0 := Lib.hid hr0
  have HB := Lib.hid hB
  have HOK := Lib.hid hok
  have HS := Lib.hid hs
  have HL := Lib.hid hL
  rw [he] at HT HBA
  have HWR := Lib.hid hW
  obtain ⟨n, hn⟩ : ∃ n, n = xs.length := ⟨_, rfl⟩
  rw [← hn] at HT HTR hlen hsl
  obtain ⟨hn1, hn8⟩ := hlen
  have HN := Lib.hid hn
  clear hp hs hok hL hpb hr0 hB h8s he hn hob
  have HP : Hid (∃ P, P = plc xs) := ⟨_, rfl⟩
  obtain ⟨P, hP⟩ := HP.out
  rw [← hP] at hpl ⊢
  have HPE := Lib.hid hP
  clear HP hP hW
  go_enter Try.func65, Try.ntmps65
  go_wp2_with (first | (refine wpList_loadL rfl _ rfl w.heap.size rfl (ln xs) HL.out (HWR.out ▸ HR0.out) ?_) | (go_at_call 87; rw [← HWR.out]; refine (HTR.out _).mono ?_; rintro e w' ⟨rfl, rfl⟩))
  have HR1 := Lib.hid (rowAt_alloc HR0.out (.cells (rowC (ln xs)) 57))
  have HB1 := Lib.hid (HB.out.alloc HB.out.size (.cells (rowC (ln xs)) 57))
  clear hsl
  go_loopw [3, 10] (fun u v wr => ∃ (k : Nat) (p : Int), k ≤ n ∧ v = .int .i64 k ∧ u = .int .i64 p ∧ 0 ≤ p ∧ P = p + plcFrom (sizeFrom 0 (xs.take k)) (xs.drop k) ∧ RowAt wr w.heap.size (ln xs) ∧ Below w.heap.size w wr)
    (fun _ v _ => n - (intOf v).toNat)
  case atStart => exact ⟨0, 0, Nat.zero_le _, rfl, rfl, by omega, by rw [HPE.out]; simp [plc, sizeFrom], HR1.out, HB1.out⟩
  case round =>
    obtain ⟨k, p, hk, rfl, rfl, hp0, hpe, hr, hb⟩ := hrel
    by_cases hlt : k < n
    · have hkl : k < xs.length := HN.out ▸ hlt
      have hat := okFrom_at HOK.out k hkl
      have hx7 := HS.out k hkl
      have hst := size_le_len (xs.take k) 0 (by omega) (okFrom_take HOK.out k)
      rw [List.length_take] at hst
      have hpd := plc_drop k hkl (sizeFrom 0 (xs.take k))
      rw [← size_succ k hkl] at hpd
      have hrest := plcFrom_bd (xs.drop (k + 1)) (sizeFrom 0 (xs.take (k + 1))) (sizeFrom_nonneg _ _) (okFrom_drop HOK.out (k + 1))
      rw [hpd] at hpe
      have hcx : wr.cell? ⟨w.heap.size, k, none⟩ = some (.int .i64 (xs.getD k 0)) := by rw [rowAt_cell hr k (by have := HL.out; omega), ln_lt hkl]
      have hgr : w.heap.size < wr.heap.size := rowAt_lt hr
      have e1 := H8S.out wr _ hr
      have HBT := Lib.hid fun (w1 : World) => HBA.out k w1 (Nat.le_of_lt hkl)
      obtain ⟨x, hx⟩ : ∃ x, x = xs.getD k 0 := ⟨_, rfl⟩
      obtain ⟨s, hsd⟩ : ∃ s, s = sizeFrom 0 (xs.take k) := ⟨_, rfl⟩
      rw [← hx] at hcx hat hx7 hpe
      rw [← hsd] at hat HBT hpe hst
      rw [← HN.out] at hpe hst
      obtain ⟨hx0, hx7⟩ := hx7
      obtain ⟨_, hxs⟩ := hat
      have hs0 : 0 ≤ s := by omega
      have hsk : s ≤ k := by omega
      have HE := Lib.hid fun (w1 : World) => endings_any (n - (k + 1)) ((n : Int) - (k : Int) - 1) s w1 (by omega) hs0 (by omega)
      have hmb := opn_mul_bd (n - (k + 1)) s x hs0 (by omega) hx0 (by omega)
      obtain ⟨o, ho⟩ : ∃ o, o = opn (n - (k + 1)) s := ⟨_, rfl⟩
      rw [← ho] at HE hmb hpe
      obtain ⟨hmb0, hmb1⟩ := hmb
      obtain ⟨q, hq⟩ : ∃ q, q = x * o := ⟨_, rfl⟩
      rw [← hq] at hmb0 hmb1 hpe
      have hq1 : p + q ≤ 4140 := by omega
      have HPEK := Lib.hid hpe
      have hw1 : IntKind.i64.wrap ((n : Int) - (k : Int)) = (n : Int) - (k : Int) := IntWalk.i64_in _ (by omega)
      have hw2 : IntKind.i64.wrap ((n : Int) - (k : Int) - 1) = (n : Int) - (k : Int) - 1 := IntWalk.i64_in _ (by omega)
      have hw3 : IntKind.i64.wrap (x * o) = q := by rw [← hq]; exact IntWalk.i64_in _ (by omega)
      have hw4 : IntKind.i64.wrap (p + q) = p + q := IntWalk.i64_in _ (by omega)
      have hbs := hb.size
      have HR2 := Lib.hid (rowAt_alloc (rowAt_alloc hr (.cells #[.int .i64 a0, .int .i64 a1, .int .i64 a2, .int .i64 a3, .int .i64 a4, .int .i64 a5, .int .i64 a6, .int .i64 a7] 57)) (.cells #[.int .i64 a0, .int .i64 a1, .int .i64 a2, .int .i64 a3, .int .i64 a4, .int .i64 a5, .int .i64 a6, .int .i64 a7] 57))
      have HB2 := Lib.hid ((hb.alloc hb.size (.cells #[.int .i64 a0, .int .i64 a1, .int .i64 a2, .int .i64 a3, .int .i64 a4, .int .i64 a5, .int .i64 a6, .int .i64 a7] 57)).alloc (by simp; omega) (.cells #[.int .i64 a0, .int .i64 a1, .int .i64 a2, .int .i64 a3, .int .i64 a4, .int .i64 a5, .int .i64 a6, .int .i64 a7] 57))
      clear hpd hrest hpe hx hsd ho hr hb hkl hst hq
      go_wp2
      go_region_held3 (fun w' => w'.cell? ⟨w.heap.size, 0, none⟩ = some (.int .i64 a0) ∧ w'.cell? ⟨w.heap.size, 1, none⟩ = some (.int .i64 a1) ∧ w'.cell? ⟨w.heap.size, 2, none⟩ = some (.int .i64 a2) ∧ w'.cell? ⟨w.heap.size, 3, none⟩ = some (.int .i64 a3) ∧ w'.cell? ⟨w.heap.size, 4, none⟩ = some (.int .i64 a4) ∧ w'.cell? ⟨w.heap.size, 5, none⟩ = some (.int .i64 a5) ∧ w'.cell? ⟨w.heap.size, 6, none⟩ = some (.int .i64 a6) ∧ w'.cell? ⟨w.heap.size, 7, none⟩ = some (.int .i64 a7)) (first | exact e1 | exact eight_alloc (w := wr.drew) e1 hgr _ | exact eight_alloc (eight_alloc (w := wr.drew) e1 hgr _) (by simp; omega) _) (first | (go_at_call 87; refine (HT.out _).mono ?_; rintro e w' ⟨rfl, rfl⟩) | (go_at_call 90; refine (HBT.out _).mono ?_; rintro e w' ⟨rfl, rfl⟩) | (go_at_call 48; refine (HE.out _).mono ?_; rintro e w' ⟨rfl, rfl⟩))
      all_goals (rename_i hHeld; clear hHeld)
      all_goals clear hw1 hw2 hw3 hw4
      all_goals go_wp2
      all_goals
        go_roundw
        case rel => exact ⟨k + 1, p + q, by omega, by go_num, rfl, by omega, by rw [HPEK.out]; omega, rowAt_drew HR2.out, below_drewN HB2.out 1⟩
        case measure => simp [intOf]; omega
    · obtain rfl : k = n := by omega
      rw [List.drop_of_length_le (by rw [← HN.out]; exact Nat.le_refl _), plcFrom, Int.add_zero] at hpe
      have HPEK := Lib.hid hpe
      clear hpe
      go_wp2
      go_ret
      exact ⟨ret_int HPEK.out.symm, hb⟩

/-- The lists that lineAt has, one place after the other. -/
structure AtStage (n : Nat) (P : Int) (i : Nat) (pre : List Int) (q : Int) : Prop where
  le : i ≤ n
  len : pre.length = i
  ok : okFrom 0 pre = true
  q0 : 0 ≤ q
  q1 : q < opn (n - i) (sizeFrom 0 pre)
  eq : atL n P = pre ++ atFrom (n - i) (sizeFrom 0 pre) q

theorem atStage_start (n : Nat) (P : Int) (h0 : 0 ≤ P) (h1 : P < opn n 0) : AtStage n P 0 [] P := ⟨Nat.zero_le _, rfl, rfl, h0, h1, rfl⟩

theorem atStage_step {n i : Nat} {P q : Int} {pre : List Int} (h : AtStage n P i pre q) (hi : i < n) (x : Int) (hx : x = min (q / opn (n - (i + 1)) (sizeFrom 0 pre)) (sizeFrom 0 pre)) :
    AtStage n P (i + 1) (pre ++ [x]) (q - x * opn (n - (i + 1)) (sizeFrom 0 pre)) ∧ 0 ≤ x ∧ x ≤ sizeFrom 0 pre := by
  have hn : n - i = (n - (i + 1)) + 1 := by omega
  have hs := sizeFrom_nonneg pre 0
  have hq1 := h.q1
  have heq := h.eq
  rw [hn] at hq1 heq
  obtain ⟨e1, e2, e3, e4⟩ := at_head (n - (i + 1)) (sizeFrom 0 pre) q hs h.q0 hq1
  rw [atFrom] at heq
  rw [← hx] at e1 e2 e3 e4 heq
  refine ⟨⟨by omega, by rw [List.length_append, h.len]; rfl, ?_, e3, ?_, ?_⟩, e1, e2⟩
  · rw [okFrom_app]
    refine ⟨h.ok, ?_⟩
    rw [okFrom_step _ e1 e2]
    rfl
  · rw [sizeFrom_snoc]; exact e4
  · rw [sizeFrom_snoc, heq]; simp

theorem atStage_end {n : Nat} {P q : Int} {pre : List Int} (h : AtStage n P n pre q) : atL n P = pre := by
  have := h.eq
  rw [Nat.sub_self, atFrom, List.append_nil] at this
  exact this

theorem pre_set (pre : List Int) (n i : Nat) (h : pre.length = i) (hi : i < n) (x : Int) : (pre ++ List.replicate (n - i) 0).set i x = (pre ++ [x]) ++ List.replicate (n - (i + 1)) 0 := by
  rw [List.set_append_right _ _ (by omega), h, Nat.sub_self, show n - i = (n - (i + 1)) + 1 by omega, List.replicate_succ, List.set_cons_zero]
  simp

theorem pre_take (pre : List Int) (n i : Nat) (h : pre.length = i) : (pre ++ List.replicate (n - i) 0).take i = pre := by
  rw [List.take_append_of_le_length (by omega), List.take_of_length_le (by omega)]

theorem pre_small {pre : List Int} {n : Nat} (h : okFrom 0 pre = true) (hl : pre.length ≤ 8) (m : Nat) : Small (pre ++ List.replicate m 0) := fun j hj => by
  simp only [List.getD, List.getElem?_append]
  by_cases h1 : j < pre.length
  · rw [if_pos h1]
    have := okFrom_small pre 0 (by omega) h j h1
    simp only [List.getD] at this
    omega
  · rw [if_neg h1, List.getElem?_replicate]
    split <;> simp

set_option maxHeartbeats 1600000 in
theorem lineAt_any (n : Nat) (P : Int) (w : World) (h1 : 1 ≤ n) (h8 : n ≤ 8) (hP0 : 0 ≤ P) (hP1 : P < opn n 0) :
    Calls Try.prog 70 #[.int .i64 n, .int .i64 P] w (GivesL w (atL n P)) := by
  have hr0 : RowAt (w.alloc (.cells #[.int .i64 0, .int .i64 0, .int .i64 0, .int .i64 0, .int .i64 0, .int .i64 0, .int .i64 0, .int .i64 0] 57)) w.heap.size (List.replicate 8 0) := heap_alloc_new w _
  have HF := Lib.hid (firstLine_any n (w.alloc (.cells #[.int .i64 0, .int .i64 0, .int .i64 0, .int .i64 0, .int .i64 0, .int .i64 0, .int .i64 0, .int .i64 0] 57)) h1 h8)
  have HR0 := Lib.hid hr0
  have HST := Lib.hid (atStage_start n P hP0 hP1)
  have HL0 := Lib.hid (ln_length (xs := List.replicate n 0) (by simp; exact h8))
  clear hr0 hP1 hP0
  go_enter Try.func70, Try.ntmps70
  go_wp2_with fail
  refine HF.out.mono ?_
  rintro e w1 ⟨rfl, hb1⟩
  have hz1 : RowAt (w1.alloc (.cells #[.int .i64 0, .int .i64 0, .int .i64 0, .int .i64 0, .int .i64 0, .int .i64 0, .int .i64 0, .int .i64 0] 57)) w1.heap.size (List.replicate 8 0) := heap_alloc_new w1 _
  have hsz0 : w.heap.size < w1.heap.size := by
    have := hb1.size
    simp at this
    omega
  have hb2 : Below w.heap.size w w1 := below_step ((Below.refl w.heap.size w).alloc (Nat.le_refl _) _) hb1
  have hr1 := rowAt_alloc (rowAt_below HR0.out hb1) (.cells #[.int .i64 0, .int .i64 0, .int .i64 0, .int .i64 0, .int .i64 0, .int .i64 0, .int .i64 0, .int .i64 0] 57)
  have hb3 := hb2.alloc hb2.size (.cells #[.int .i64 0, .int .i64 0, .int .i64 0, .int .i64 0, .int .i64 0, .int .i64 0, .int .i64 0, .int .i64 0] 57)
  have HZ1 := Lib.hid hz1
  have HR1 := Lib.hid hr1
  have HB3 := Lib.hid hb3
  obtain ⟨g, hg⟩ : ∃ g, g = w1.heap.size := ⟨_, rfl⟩
  clear hb1 hz1 hb2 hr1 hb3
  go_wp2_with (first | (refine wpList_storeL rfl _ _ rfl w1.heap.size _ rfl rfl (List.replicate 8 0) rfl HL0.out HZ1.out ?_; intro w3 hg3 ht3; have HG3 := Lib.hid hg3; have HR3 := Lib.hid (rowAt_touch HR1.out ht3 (by omega)); have HB4 := Lib.hid (HB3.out.trans (touch_below ht3 (by omega : w.heap.size ≤ w1.heap.size))); clear hg3 ht3))
  have hlt0 : w.heap.size < g := by omega
  rw [← hg] at HG3
  rw [← hg]
  clear HZ1 HR1 HB3 HF HR0 hsz0 hg
  go_loopw [1, 12] (fun u v wr => ∃ (i : Nat) (q : Int) (pre : List Int), v = .int .i64 i ∧ u = .int .i64 q ∧ AtStage n P i pre q ∧ RowAt wr g (ln (pre ++ List.replicate (n - i) 0)) ∧ RowAt wr w.heap.size (List.replicate 8 0) ∧ Below w.heap.size w wr)
    (fun _ v _ => n - (intOf v).toNat)
  case atStart => exact ⟨0, P, [], rfl, rfl, HST.out, HG3.out, HR3.out, HB4.out⟩
  case round =>
    obtain ⟨i, q, pre, rfl, rfl, hst, hr, hr0, hb⟩ := hrel
    have hys : (pre ++ List.replicate (n - i) 0).length = n := by have := hst.le; simp [hst.len]; omega
    have hsm : Small (pre ++ List.replicate (n - i) 0) := pre_small (n := n) hst.ok (by have := hst.le; rw [hst.len]; omega) _
    have HLN := Lib.hid (ln_length (xs := pre ++ List.replicate (n - i) 0) (by omega))
    by_cases hlt : i < n
    · have hba := blocksAhead_any (pre ++ List.replicate (n - i) 0) i wr hsm (by omega) (by omega)
      rw [pre_take pre n i hst.len] at hba
      have hsl := size_le_len pre 0 (by omega) hst.ok
      rw [hst.len] at hsl
      have hs0 := sizeFrom_nonneg pre 0
      have hq0 := hst.q0
      have hob0 := opn_bd (n - i) (sizeFrom 0 pre) hs0 (by omega)
      have hob := opn_bd (n - (i + 1)) (sizeFrom 0 pre) hs0 (by omega)
      have hq1 := hst.q1
      have hn1 : n - i = (n - (i + 1)) + 1 := by omega
      have hq2 := hq1
      rw [hn1] at hq2
      obtain ⟨d1, d2, d3, d4⟩ := at_head (n - (i + 1)) (sizeFrom 0 pre) q hs0 hq0 hq2
      have hstep := atStage_step hst hlt
      have hset := pre_set pre n i hst.len hlt
      obtain ⟨o, ho⟩ : ∃ o, o = Obj.cells (rowC (ln (pre ++ List.replicate (n - i) 0))) 57 := ⟨_, rfl⟩
      rw [← ho] at hba
      have hr2 := rowAt_alloc hr o
      have hr02 := rowAt_alloc hr0 o
      have hb2 := hb.alloc hb.size o
      obtain ⟨s, hsd⟩ : ∃ s, s = sizeFrom 0 pre := ⟨_, rfl⟩
      rw [← hsd] at hba hsl hs0 hob0 hob hq1 d1 d2 d3 d4 hstep
      have HE := Lib.hid fun (w1 : World) => endings_any (n - (i + 1)) ((n : Int) - (i : Int) - 1) s w1 (by omega) hs0 (by omega)
      obtain ⟨c, hc⟩ : ∃ c, c = opn (n - (i + 1)) s := ⟨_, rfl⟩
      rw [← hc] at HE hob d1 d2 d3 d4 hstep
      obtain ⟨hc1, hc2⟩ := hob
      have hq4 : q ≤ 4140 := by omega
      have hdq : 0 ≤ q / c := Int.ediv_nonneg hq0 (by omega)
      have hdl : q / c ≤ q := Int.ediv_le_self _ hq0
      have HLN2 := Lib.hid hys
      have hi8 : i < 8 := by omega
      have hf := rowAt_frozen hr2 i
      obtain ⟨v0, hv0⟩ : ∃ v0, (wr.alloc o).cell? ⟨g, i, none⟩ = some v0 := ⟨_, rowAt_cell hr2 i (by rw [ln_length (by omega)]; omega)⟩
      have hcl : ∀ x : Int, ((wr.alloc o).setCell ⟨g, i, none⟩ (.int .i64 x)).cell? ⟨g, i, none⟩ = some (.int .i64 x) := fun x => World.cell?_setCell_same _ _ _ hv0
      have hset2 : ∀ x : Int, RowAt ((wr.alloc o).setCell ⟨g, i, none⟩ (.int .i64 x)) g (ln (pre ++ [x] ++ List.replicate (n - (i + 1)) 0)) := fun x => by
        have := rowAt_setCell hr2 i x
        rw [ln_set (by omega), hset x] at this
        exact this
      have hset0 : ∀ x : Int, RowAt ((wr.alloc o).setCell ⟨g, i, none⟩ (.int .i64 x)) w.heap.size (List.replicate 8 0) := fun x => rowAt_touch hr02 (touch_cell _ _ _ _) (by omega)
      have hsetb : ∀ x : Int, Below w.heap.size w ((wr.alloc o).setCell ⟨g, i, none⟩ (.int .i64 x)) := fun x => hb2.trans (touch_below (touch_cell _ _ _ _) (by omega))
      have HBA := Lib.hid hba
      have HR := Lib.hid hr
      have HSTEP := Lib.hid hstep
      have HSET2 := Lib.hid hset2
      have HSET0 := Lib.hid hset0
      have HSETB := Lib.hid hsetb
      have hcx := hcl (min (q / c) s)
      have hm0 : 0 ≤ min (q / c) s * c := Int.mul_nonneg d1 (by omega)
      have hm1 : min (q / c) s * c ≤ 4140 := by omega
      clear hcl hset hset0 hset2 hsetb hba hstep hr hr0 hb hr2 hr02 hb2 hc hsd ho hst hsm hys d2 d4 hq1 hq2 hn1 hob0
      go_wp2_with (first | (refine wpList_loadL rfl _ rfl g rfl _ HLN.out HR.out ?_) | (go_at_call 90; refine HBA.out.mono ?_; rintro e w' ⟨rfl, rfl⟩) | (go_at_call 48; refine (HE.out _).mono ?_; rintro e w' ⟨rfl, rfl⟩))
      go_roundw
      case rel => exact ⟨i + 1, q - min (q / c) s * c, pre ++ [min (q / c) s], by go_num, rfl, (HSTEP.out _ rfl).1, HSET2.out _, HSET0.out _, HSETB.out _⟩
      case measure => simp [intOf]; omega
    · obtain rfl : i = n := by have := hst.le; omega
      have hend := atStage_end hst
      rw [Nat.sub_self, List.replicate_zero, List.append_nil] at hr HLN
      have HEND := Lib.hid hend
      have HR := Lib.hid hr
      have HR0 := Lib.hid hr0
      have HB := Lib.hid hb
      clear hr hr0 hb hend hst hys hsm
      go_wp2_with (first | (refine wpList_loadL rfl _ rfl g rfl _ HLN.out HR.out ?_) | (refine wpList_storeL rfl _ _ rfl w.heap.size _ rfl rfl (List.replicate 8 0) rfl HLN.out HR0.out ?_; intro w4 hg4 ht4; have HG4 := Lib.hid hg4; have HB5 := Lib.hid (HB.out.trans (touch_below ht4 (Nat.le_refl _))); clear hg4 ht4))
      exact bodyPost_ret (results_line rfl _ _ w.heap.size _ HLN.out rfl HG4.out) rfl ⟨by rw [HEND.out], HB5.out⟩

end Go.Proofs.Ytjmmhonlkpmmoaa
