/-
  The contracts of (line).next and (line).before. (Made by wip/gen/mkline4.py.)
-/
import Derived.Test.YtieldehghmikkaaLine3
import Derived.Test.YtieldehghmikkaaCells
import Derived.Laws.StructEq
namespace Go.Proofs.Ytieldehghmikkaa
set_option linter.unusedSimpArgs false
set_option linter.unusedVariables false
set_option linter.unnecessarySimpa false
open Go.RowKit

theorem all_range_row : ∀ (xs ys : List Int), xs.length = ys.length → ((List.range xs.length).all fun i => xs.getD i 0 == ys.getD i 0) = (xs == ys)
  | [], [], _ => rfl
  | x :: xs, y :: ys, h => by
    have ih := all_range_row xs ys (by simpa using h)
    rw [List.length_cons, List.range_succ_eq_map, List.all_cons, List.all_map]
    simp only [List.getD_cons_zero, Function.comp_def, List.getD_cons_succ, ih]
    simp [List.cons_beq_cons]
  | [], _ :: _, h => by simp at h
  | _ :: _, [], h => by simp at h

/-- '==' on lines. -/
theorem run_equalIn_row (w : World) (L K : List Int) (hL : L.length = 8) (hK : K.length = 8) :
    (Op.equalIn 10000 82 (.agg (rowC L)) (.agg (rowC K))).run Try.prog w = .ok (L == K) w := by
  rw [← all_range_row L K (hL.trans hK.symm), hL, List.range_eq_range', show (10000 : Nat) = 9998 + 2 from rfl, Op.equalIn]
  simp only [Sem.run_bind, run_underlying Try.underlying82, Result.andThen_ok, Try.sizeOf3, Std.Legacy.Range.forIn_eq_forIn_range', Std.Legacy.Range.size, Nat.sub_zero, Nat.add_sub_cancel, Nat.div_one]
  have hl : ∀ i ∈ List.range' 0 8 1, i < 8 := fun i hi => by simpa using (List.mem_range'_1.1 hi).2
  generalize List.range' 0 8 1 = l at hl ⊢
  induction l with
  | nil => simp
  | cons i l ih =>
    have hi : i < 8 := hl i (by simp)
    have px : (part 3 (rowC L) (i * 1)).run Try.prog w = .ok (.int .i64 (L.getD i 0)) w := by
      simp [part, isAgg, run_underlying Try.underlying3, rowC, List.getD, List.getElem?_eq_getElem (show i < L.length by omega)]
    have py : (part 3 (rowC K) (i * 1)).run Try.prog w = .ok (.int .i64 (K.getD i 0)) w := by
      simp [part, isAgg, run_underlying Try.underlying3, rowC, List.getD, List.getElem?_eq_getElem (show i < K.length by omega)]
    have pe : (Op.equalIn (9998 + 1) 3 (.int .i64 (L.getD i 0)) (.int .i64 (K.getD i 0))).run Try.prog w = .ok (L.getD i 0 == K.getD i 0) w :=
      run_equalIn_int w 9998 3 .i64 .i64 _ _ Try.underlying3
    simp only [List.forIn_cons, Sem.run_bind, px, py, pe, Result.andThen_ok, List.all_cons]
    cases hb : (L.getD i 0 == K.getD i 0)
    · simp
    · simp only [Bool.not_true, Bool.false_eq_true, if_false, Sem.run_pure, Result.andThen_ok, Bool.true_and]
      exact ih fun j hj => hl j (by simp [hj])

theorem ln_inj {xs ys : List Int} (hl : xs.length = ys.length) (h : ln xs = ln ys) : xs = ys := by
  have h2 : (ln xs).take xs.length = (ln ys).take ys.length := by rw [h, hl]
  rwa [ln_take (Nat.le_refl _), ln_take (Nat.le_refl _), List.take_length, List.take_length] at h2

theorem ln_beq {xs ys : List Int} (hl : xs.length = ys.length) : (ln xs == ln ys) = decide (xs = ys) := by
  rw [Bool.eq_iff_iff]
  simp
  exact ⟨ln_inj hl, fun h => by rw [h]⟩

/-- What a function that hands a line and a bool back leaves. -/
def GivesLB (w : World) (r : List Int × Bool) (e : Ending) (w' : World) : Prop := e = .returned (.tuple #[.agg (rowC (ln r.1)), .bool r.2]) ∧ Below w.heap.size w w'

theorem results_line2 {fn : Func} {p q : Tmp} (h : fn.results = #[.cell p 82, .tmp q]) (tmps : Array Value) (w : World) (g : Nat) (L : List Int) (hL : L.length = 8) (b : Bool)
    (hp : tmps.getD p undef = .pointer (some ⟨g, 0, none⟩)) (hq : tmps.getD q undef = .bool b) (hg : RowAt w g L) : (results fn tmps).run Try.prog w = .ok (.tuple #[.agg (rowC L), .bool b]) w := by
  have hp' : tmps[p]?.getD undef = .pointer (some ⟨g, 0, none⟩) := by simpa using hp
  have hq' : tmps[q]?.getD undef = .bool b := by simpa using hq
  have hr := run_loadVar_row (P := Try.prog) w g 82 82 (rowC L) (0, 0) _ hg Try.underlying82 rfl (by rw [rowC_size, hL]; exact Try.infoLine)
  simp [results, h, hp', hq', asAddr, hr]

theorem below_new2 (w : World) (o o2 : Obj) : Below w.heap.size w ((w.alloc o).alloc o2) := ((Below.refl _ _).alloc (Nat.le_refl _) _).alloc (by simp) _

/-- The partition behind another one, and whether there is one. -/
def nextR (xs : List Int) : List Int × Bool := if plc xs + 1 < opn xs.length 0 then (atL xs.length (plc xs + 1), true) else (xs, false)
/-- The partition ahead of another one, and whether there is one. -/
def beforeR (xs : List Int) : List Int × Bool := if 0 < plc xs then (atL xs.length (plc xs - 1), true) else (xs, false)

theorem small_set {xs : List Int} (h : Small xs) (t : Nat) (x : Int) (h0 : 0 ≤ x) (h7 : x ≤ 7) : Small (xs.set t x) := fun j hj => by
  simp at hj
  have := h j hj
  simp only [List.getD, List.getElem?_set]
  by_cases e : t = j
  · subst e; simp [hj]; omega
  · simp only [List.getD] at this; simpa [e] using this

theorem take_set_succ (xs : List Int) (t : Nat) (x : Int) (h : t < xs.length) : (xs.set t x).take (t + 1) = xs.take t ++ [x] := by
  rw [List.take_succ_eq_append_getElem (by simp; omega), List.take_set_of_le (Nat.le_refl _)]
  simp

set_option maxHeartbeats 800000 in
/-- What stands at the beginning of next and of before: is it the last one, the first one? -/
theorem eq_last (xs : List Int) (hp : partIn xs = true) : (ln xs == ln (iota 0 xs.length)) = decide (plc xs + 1 = opn xs.length 0) := by
  rw [ln_beq (by rw [iota_length]), Bool.eq_iff_iff]
  simp only [decide_eq_true_eq]
  rw [is_last (partIn_ok hp)]
  omega

theorem eq_first (xs : List Int) (hp : partIn xs = true) : (ln xs == ln (List.replicate xs.length 0)) = decide (plc xs = 0) := by
  rw [ln_beq (by simp), Bool.eq_iff_iff]
  simp only [decide_eq_true_eq]
  rw [is_first (partIn_ok hp)]

set_option maxHeartbeats 1600000 in
theorem next_any (xs : List Int) (w : World) (hp : partIn xs = true) :
    Calls Try.prog 89 #[.agg (rowC (ln xs))] w (GivesLB w (nextR xs)) := by
  have hs := partIn_small hp
  have hlen := partIn_len hp
  have hok := partIn_ok hp
  have hL := ln_length hlen.2
  have hpb := plc_bd hok
  obtain ⟨W, hW⟩ : ∃ W, W = (w.alloc (.cells (rowC (ln xs)) 82)).alloc (.cells #[.int .i64 0, .int .i64 0, .int .i64 0, .int .i64 0, .int .i64 0, .int .i64 0, .int .i64 0, .int .i64 0] 82) := ⟨_, rfl⟩
  have hr0 : RowAt W w.heap.size (ln xs) := by rw [hW]; exact rowAt_alloc (rowAt_new w _) _
  have hr1 : RowAt W (w.heap.size + 1) (List.replicate 8 0) := by
    rw [hW]
    exact heap_alloc2_new w _ _
  have hB : Below w.heap.size w W := by rw [hW]; exact below_new2 w _ _
  have HT := Lib.hid fun (w1 : World) => things_any xs w1 hs hlen.2
  have HF := Lib.hid fun (w1 : World) => lastLine_any xs.length w1 hlen.1 hlen.2
  have hgW : w.heap.size < W.heap.size := rowAt_lt hr0
  have heq := fun (w1 : World) => run_equalIn_row w1 (ln xs) (ln (iota 0 xs.length)) hL (ln_length (by rw [iota_length]; exact hlen.2))
  rw [eq_last xs hp] at heq
  have HBA : Hid (∀ (t : Nat) (w1 : World), t ≤ xs.length → Calls Try.prog 97 #[.agg (rowC (ln xs)), .int .i64 t] w1 fun e w' => e = .returned (.int .i64 (sizeFrom 0 (xs.take t))) ∧ w' = w1.alloc (.cells (rowC (ln xs)) 82)) := fun t w1 ht => blocksAhead_any xs t w1 hs hlen.2 ht
  have HTR := HT
  obtain ⟨a0, a1, a2, a3, a4, a5, a6, a7, he, h8s⟩ := row_eight hL
  have e0 := h8s _ _ hr0
  have H8S := Lib.hid h8s
  have HE := Lib.hid he
  have HR0 := Lib.hid hr0
  have HR1 := Lib.hid hr1
  have HB := Lib.hid hB
  have HP := Lib.hid hp
  have HS := Lib.hid hs
  have HOK := Lib.hid hok
  have HL := Lib.hid hL
  have HPB := Lib.hid hpb
  rw [he] at HT heq hW ⊢
  obtain ⟨n, hn⟩ : ∃ n, n = xs.length := ⟨_, rfl⟩
  rw [← hn] at HT HTR HF heq hlen
  obtain ⟨hn1, hn8⟩ := hlen
  have HN := Lib.hid hn
  have HW := Lib.hid hW
  clear hp hs hok hL hpb hr0 hr1 hB h8s he hn
  by_cases hend : plc xs + 1 = opn n 0
  · have hres : nextR xs = (xs, false) := by
      unfold nextR
      rw [if_neg (by rw [← HN.out]; omega)]
    rw [hres]
    rw [decide_eq_true hend] at heq
    clear hend hres
    go_enter Try.func89, Try.ntmps89
    go_wp2
    rw [← HW.out]
    clear hW
    go_region_held3 (fun w' => w'.cell? ⟨w.heap.size, 0, none⟩ = some (.int .i64 a0) ∧ w'.cell? ⟨w.heap.size, 1, none⟩ = some (.int .i64 a1) ∧ w'.cell? ⟨w.heap.size, 2, none⟩ = some (.int .i64 a2) ∧ w'.cell? ⟨w.heap.size, 3, none⟩ = some (.int .i64 a3) ∧ w'.cell? ⟨w.heap.size, 4, none⟩ = some (.int .i64 a4) ∧ w'.cell? ⟨w.heap.size, 5, none⟩ = some (.int .i64 a5) ∧ w'.cell? ⟨w.heap.size, 6, none⟩ = some (.int .i64 a6) ∧ w'.cell? ⟨w.heap.size, 7, none⟩ = some (.int .i64 a7)) (first | exact e0 | exact eight_alloc (w := W.drew) e0 hgW _ | exact e2) (first | (go_at_call 91; refine (HT.out _).mono ?_; rintro e w' ⟨rfl, rfl⟩) | (go_at_call 96; refine (HF.out _).mono ?_; rintro e w2 ⟨rfl, hb2⟩; have e2 := eight_below (eight_alloc (w := W.drew) e0 hgW _) (by simp; omega) hb2; have HR2 := Lib.hid (rowAt_below (rowAt_alloc (rowAt_drew HR1.out) _) hb2); have HR20 := Lib.hid (rowAt_below (rowAt_alloc (rowAt_drew HR0.out) _) hb2); have HB2 := Lib.hid (below_step ((below_drewN HB.out 1).alloc HB.out.size _) hb2); clear hb2))
    all_goals (clear heq e0)
    all_goals go_wp2_with (first | (refine wpList_loadL rfl _ rfl w.heap.size rfl (ln xs) HL.out HR20.out ?_) | (refine wpList_storeL rfl _ _ rfl (w.heap.size + 1) (ln xs) rfl rfl (List.replicate 8 0) rfl HL.out HR2.out ?_; intro w3 hg3 ht3; have HG3 := Lib.hid hg3; have HB3 := Lib.hid (HB2.out.trans (touch_below ht3 (by omega : w.heap.size ≤ w.heap.size + 1))); clear hg3 ht3))
    all_goals exact bodyPost_ret (results_line2 rfl _ _ (w.heap.size + 1) (ln xs) HL.out false rfl rfl HG3.out) rfl ⟨rfl, HB3.out⟩
  · have hres : nextR xs = (atL xs.length (plc xs + 1), true) := by
      unfold nextR
      rw [if_pos (by have := HPB.out; rw [← HN.out] at this ⊢; omega)]
    rw [hres]
    have hnl : ¬ xs = iota 0 n := fun e => hend (by
      have := (is_last HOK.out).1 (by rw [← HN.out]; exact e)
      rw [← HN.out] at this
      omega)
    rw [decide_eq_false hend] at heq
    have HNL := Lib.hid hnl
    clear hend hres hnl
    have HBE := HBA
    rw [HE.out] at HBE
    have HTG : Hid (∀ (ys : List Int) (t : Nat) (w1 : World), ys.length = n → Small ys → t ≤ n → Calls Try.prog 98 #[.agg (rowC (ln ys)), .int .i64 t] w1 (GivesL w1 (ys.take t ++ List.replicate (n - t) 0))) := fun ys t w1 hl hsm ht => by
      have := together_any ys t w1 hsm (by omega) (by omega)
      rw [hl] at this
      exact this
    go_enter Try.func89, Try.ntmps89
    go_wp2
    rw [← HW.out]
    clear hW
    go_region_held3 (fun w' => w'.cell? ⟨w.heap.size, 0, none⟩ = some (.int .i64 a0) ∧ w'.cell? ⟨w.heap.size, 1, none⟩ = some (.int .i64 a1) ∧ w'.cell? ⟨w.heap.size, 2, none⟩ = some (.int .i64 a2) ∧ w'.cell? ⟨w.heap.size, 3, none⟩ = some (.int .i64 a3) ∧ w'.cell? ⟨w.heap.size, 4, none⟩ = some (.int .i64 a4) ∧ w'.cell? ⟨w.heap.size, 5, none⟩ = some (.int .i64 a5) ∧ w'.cell? ⟨w.heap.size, 6, none⟩ = some (.int .i64 a6) ∧ w'.cell? ⟨w.heap.size, 7, none⟩ = some (.int .i64 a7)) (first | exact e0 | exact eight_alloc (w := W.drew) e0 hgW _ | exact e2) (first | (go_at_call 91; refine (HT.out _).mono ?_; rintro e w' ⟨rfl, rfl⟩) | (go_at_call 96; refine (HF.out _).mono ?_; rintro e w2 ⟨rfl, hb2⟩; have e2 := eight_below (eight_alloc (w := W.drew) e0 hgW _) (by simp; omega) hb2; have HR2 := Lib.hid (rowAt_below (rowAt_alloc (rowAt_drew HR1.out) _) hb2); have HR20 := Lib.hid (rowAt_below (rowAt_alloc (rowAt_drew HR0.out) _) hb2); have HB2 := Lib.hid (below_step ((below_drewN HB.out 1).alloc HB.out.size _) hb2); clear hb2))
    clear heq e0 HT HF
    rename_i hHeld
    clear hHeld
    go_wp2_with (first | (refine wpList_loadL rfl _ rfl w.heap.size rfl (ln xs) HL.out HR20.out ?_) | (go_at_call 91; refine (HTR.out _).mono ?_; rintro e w' ⟨rfl, rfl⟩))
    have HR3 := Lib.hid (rowAt_alloc HR20.out (.cells (rowC (ln xs)) 82))
    have HR4 := Lib.hid (rowAt_alloc HR2.out (.cells (rowC (ln xs)) 82))
    have HB3 := Lib.hid (HB2.out.alloc HB2.out.size (.cells (rowC (ln xs)) 82))
    clear e2 hgW
    go_loopw [4] (fun u wr => ∃ t : Nat, t < n ∧ u = .int .i64 t ∧ xs.drop (t + 1) = iota (sizeFrom 0 (xs.take (t + 1))) (n - (t + 1)) ∧ RowAt wr w.heap.size (ln xs) ∧ RowAt wr (w.heap.size + 1) (List.replicate 8 0) ∧ Below w.heap.size w wr)
      (fun u _ => (intOf u).toNat)
    case atStart => exact ⟨n - 1, by omega, by congr 1; omega, by rw [show n - 1 + 1 = n by omega, HN.out, List.drop_length, Nat.sub_self]; rfl, HR3.out, HR4.out, HB3.out⟩
    case round =>
      obtain ⟨t, ht, rfl, hd, hr, hr1, hb⟩ := hrel
      have htl : t < xs.length := HN.out ▸ ht
      have hat := okFrom_at HOK.out t htl
      have hx7 := HS.out t htl
      have hcx : wr.cell? ⟨w.heap.size, t, none⟩ = some (.int .i64 (xs.getD t 0)) := by rw [rowAt_cell hr t (by have := HL.out; omega), ln_lt htl]
      have hgr : w.heap.size < wr.heap.size := rowAt_lt hr
      have e1 := H8S.out wr _ hr
      have HBT := Lib.hid fun (w1 : World) => HBE.out t w1 (Nat.le_of_lt htl)
      obtain ⟨x, hx⟩ : ∃ x, x = xs.getD t 0 := ⟨_, rfl⟩
      obtain ⟨s, hsd⟩ : ∃ s, s = sizeFrom 0 (xs.take t) := ⟨_, rfl⟩
      rw [← hx] at hcx hat hx7
      rw [← hsd] at hat HBT
      have hsz := hb.size
      have HX := Lib.hid hx
      have HSD := Lib.hid hsd
      have HD := Lib.hid hd
      have ht8 : t < 8 := by omega
      have ht0i : (0 : Int) ≤ (t : Int) := by omega
      have ht8i : (t : Int) < 8 := by omega
      obtain ⟨W5, hW5⟩ : ∃ W5, W5 = (wr.alloc (.cells #[.int .i64 a0, .int .i64 a1, .int .i64 a2, .int .i64 a3, .int .i64 a4, .int .i64 a5, .int .i64 a6, .int .i64 a7] 82)).drew := ⟨_, rfl⟩
      have hr5 : RowAt W5 w.heap.size (ln xs) := by rw [hW5]; exact rowAt_drew (rowAt_alloc hr _)
      have hr15 : RowAt W5 (w.heap.size + 1) (List.replicate 8 0) := by rw [hW5]; exact rowAt_drew (rowAt_alloc hr1 _)
      have hb5 : Below w.heap.size w W5 := by rw [hW5]; exact below_drewN (hb.alloc hb.size _) 1
      have HR5 := Lib.hid hr5
      have HR15 := Lib.hid hr15
      have HB5 := Lib.hid hb5
      have HW5 := Lib.hid hW5
      obtain ⟨hx0, hx7⟩ := hx7
      obtain ⟨_, hxs⟩ := hat
      by_cases he : x = s
      · have ht1 : 1 ≤ t := by
          rcases Nat.eq_zero_or_pos t with h0 | h0
          · subst h0
            have hm := next_more 0 htl (by rw [← HN.out]; exact HD.out) (by rw [← HX.out, ← HSD.out]; exact he)
            rw [List.drop_zero, Nat.sub_zero, ← HN.out] at hm
            exact absurd hm HNL.out
          · exact h0
        have hm := next_more t htl (by rw [← HN.out]; exact HD.out) (by rw [← HX.out, ← HSD.out]; exact he)
        have HM := Lib.hid hm
        have hxe : (x == s) = true := by simp; exact he
        clear hm hd hx hsd he hr hr1 hb hr5 hr15 hb5 hW5 HD
        go_wp2
        go_region_held3 (fun w' => w'.cell? ⟨w.heap.size, t, none⟩ = some (.int .i64 x) ∧ w'.cell? ⟨w.heap.size, 0, none⟩ = some (.int .i64 a0) ∧ w'.cell? ⟨w.heap.size, 1, none⟩ = some (.int .i64 a1) ∧ w'.cell? ⟨w.heap.size, 2, none⟩ = some (.int .i64 a2) ∧ w'.cell? ⟨w.heap.size, 3, none⟩ = some (.int .i64 a3) ∧ w'.cell? ⟨w.heap.size, 4, none⟩ = some (.int .i64 a4) ∧ w'.cell? ⟨w.heap.size, 5, none⟩ = some (.int .i64 a5) ∧ w'.cell? ⟨w.heap.size, 6, none⟩ = some (.int .i64 a6) ∧ w'.cell? ⟨w.heap.size, 7, none⟩ = some (.int .i64 a7)) (first | exact ⟨hcx, e1⟩ | exact ⟨cell_keep (w := wr.drew) _ hcx, eight_alloc (w := wr.drew) e1 hgr _⟩) (first | (go_at_call 97; refine (HBT.out _).mono ?_; rintro e w' ⟨rfl, rfl⟩))
        rename_i hHeld
        clear hHeld hcx e1
        go_wp2_with fail
        rw [← HW5.out]
        go_roundw
        case rel => exact ⟨t - 1, by omega, by congr 1; omega, by rw [show t - 1 + 1 = t by omega, HM.out, HN.out], HR5.out, HR15.out, HB5.out⟩
        case measure => simp [intOf]; omega
      · have hxlt : x < s := by omega
        have hs8 : s ≤ 8 := by rw [HSD.out]; exact (size_take_bd HS.out t).2
        have hx6 : x ≤ 6 := by
          have := size_le_len (xs.take t) 0 (by omega) (okFrom_take HOK.out t)
          rw [← HSD.out, List.length_take] at this
          omega
        have hfd := next_found HOK.out t htl (by rw [← HN.out]; exact HD.out) (by rw [← HX.out, ← HSD.out]; exact he)
        rw [← HX.out, ← HN.out] at hfd
        have HFD := Lib.hid hfd.2.1
        have hxe : (x == s) = false := by simp; exact he
        have hc5 : W5.cell? ⟨w.heap.size, t, none⟩ = some (.int .i64 x) := by rw [rowAt_cell hr5 t (by have := HL.out; omega), ln_lt htl, ← hx]
        have hf5 := rowAt_frozen hr5 t
        have hs5 := rowAt_setCell hr5 t (x + 1)
        rw [ln_set htl] at hs5
        have ht5 := touch_cell W5 w.heap.size t (.int .i64 (x + 1))
        have HS5 := Lib.hid hs5
        have hr16 := rowAt_touch hr15 ht5 (by omega)
        have hb6 := hb5.trans (touch_below ht5 (Nat.le_refl _))
        have hsm := small_set HS.out t (x + 1) (by omega) (by omega)
        have hln : (xs.set t (x + 1)).length = n := by rw [List.length_set, HN.out]
        have HCT := Lib.hid (HTG.out (xs.set t (x + 1)) (t + 1) (W5.setCell ⟨w.heap.size, t, none⟩ (.int .i64 (x + 1))) hln hsm (by omega))
        have HLS := Lib.hid (ln_length (xs := xs.set t (x + 1)) (by rw [hln]; exact hn8))
        have HLZ := Lib.hid (ln_length (xs := atL n (plc xs + 1)) (by rw [atL_length]; exact hn8))
        have heqz : (xs.set t (x + 1)).take (t + 1) ++ List.replicate (n - (t + 1)) 0 = atL n (plc xs + 1) := by rw [take_set_succ xs t _ htl, ← HFD.out]; simp
        rw [heqz] at HCT
        have HR16 := Lib.hid hr16
        have HB6 := Lib.hid hb6
        obtain ⟨zs, hzs⟩ : ∃ zs, zs = atL n (plc xs + 1) := ⟨_, rfl⟩
        rw [← hzs] at HCT HLZ
        have HZS := Lib.hid hzs
        obtain ⟨ys, hys⟩ : ∃ ys, ys = xs.set t (x + 1) := ⟨_, rfl⟩
        rw [← hys] at HCT HLS HS5
        clear hfd hd hx hsd he hr hr1 hb hr5 hr15 hb5 hW5 HD hs5 ht5 hr16 hb6 hsm hln heqz hzs hys
        go_wp2
        go_region_held3 (fun w' => w'.cell? ⟨w.heap.size, t, none⟩ = some (.int .i64 x) ∧ w'.cell? ⟨w.heap.size, 0, none⟩ = some (.int .i64 a0) ∧ w'.cell? ⟨w.heap.size, 1, none⟩ = some (.int .i64 a1) ∧ w'.cell? ⟨w.heap.size, 2, none⟩ = some (.int .i64 a2) ∧ w'.cell? ⟨w.heap.size, 3, none⟩ = some (.int .i64 a3) ∧ w'.cell? ⟨w.heap.size, 4, none⟩ = some (.int .i64 a4) ∧ w'.cell? ⟨w.heap.size, 5, none⟩ = some (.int .i64 a5) ∧ w'.cell? ⟨w.heap.size, 6, none⟩ = some (.int .i64 a6) ∧ w'.cell? ⟨w.heap.size, 7, none⟩ = some (.int .i64 a7)) (first | exact ⟨hcx, e1⟩ | exact ⟨cell_keep (w := wr.drew) _ hcx, eight_alloc (w := wr.drew) e1 hgr _⟩) (first | (go_at_call 97; refine (HBT.out _).mono ?_; rintro e w' ⟨rfl, rfl⟩))
        rename_i hHeld
        clear hHeld hcx e1
        have hxw : IntKind.i64.wrap (x + 1) = x + 1 := IntWalk.i64_in _ (by omega)
        rw [← HW5.out]
        go_wp2_with (first | (refine wpList_loadL rfl _ rfl w.heap.size rfl (ln ys) HLS.out HS5.out ?_) | (go_at_call 98; refine HCT.out.mono ?_; rintro e w6 ⟨rfl, hb7⟩; have HR7 := Lib.hid (rowAt_below HR16.out hb7); have HB7 := Lib.hid (below_step HB6.out hb7); clear hb7) | (refine wpList_storeL rfl _ _ rfl (w.heap.size + 1) _ rfl rfl (List.replicate 8 0) rfl HLZ.out HR7.out ?_; intro w3 hg3 ht3; have HG3 := Lib.hid hg3; have HB8 := Lib.hid (HB7.out.trans (touch_below ht3 (by omega : w.heap.size ≤ w.heap.size + 1))); clear hg3 ht3))
        exact bodyPost_ret (results_line2 rfl _ _ (w.heap.size + 1) _ HLZ.out true rfl rfl HG3.out) rfl ⟨by rw [HZS.out, HN.out], HB8.out⟩

end Go.Proofs.Ytieldehghmikkaa
