/-
  The contracts of impl.firstLine, impl.lastLine, (line).togetherFrom, (line).aloneFrom.
-/
import Derived.Test.YtieldehghmikkaaLine2
namespace Go.Proofs.Ytieldehghmikkaa
set_option linter.unusedSimpArgs false
set_option linter.unusedVariables false
set_option linter.unnecessarySimpa false
open Go.RowKit

theorem touch_zeros (g : Nat) (z : Value) : ∀ (m t : Nat) (w : World), Touch w (w.setCells g t (List.replicate m z)) g (g + 1) := by
  intro m
  induction m with
  | zero => intro t w; exact Touch.refl _ _ _
  | succ m ih =>
    intro t w
    rw [List.replicate_succ, World.setCells]
    exact (touch_cell w g t z).trans (ih (t + 1) _)

theorem rowAt_zeros (g : Nat) : ∀ (m t : Nat) (w : World) (L : List Int), t + m ≤ L.length → RowAt w g L →
    RowAt (w.setCells g t (List.replicate m (.int .i64 0))) g (L.take t ++ List.replicate m 0 ++ L.drop (t + m)) := by
  intro m
  induction m with
  | zero => intro t w L _ h; simpa [World.setCells] using h
  | succ m ih =>
    intro t w L hl h
    rw [List.replicate_succ, World.setCells]
    have := ih (t + 1) _ (L.set t 0) (by simp; omega) (rowAt_setCell h t 0)
    have e : (L.set t 0).take (t + 1) ++ List.replicate m 0 ++ (L.set t 0).drop (t + 1 + m) = L.take t ++ (List.replicate (m + 1) 0) ++ L.drop (t + (m + 1)) := by
      rw [List.drop_set_of_lt (by omega), show t + 1 + m = t + (m + 1) by omega, List.take_succ_eq_append_getElem (by simp; omega), List.take_set_of_le (Nat.le_refl _)]
      simp [List.replicate_succ]
    rw [e] at this
    exact this

theorem clear_some (w : World) (ty : TypeId) (g t m c : Nat) (L : List Int) (hm : 0 < m) (hl : t + m ≤ L.length) (h : RowAt w g L) :
    (Builtin.clear_ #[27] ty #[.slice (some ⟨g, t, none⟩) m c]).run Try.prog w = .ok (.tuple #[]) (w.setCells g t (List.replicate m (.int .i64 0))) :=
  Lib.run_clear_slice w _ 3 ty (.int .i64 0) Try.underlying27 (fun w => by simp [Try.zeroValue3]) rfl rfl g t m c hm
    (fun j hj => by rw [rowAt_cell h _ (by omega)]; rfl) (fun j _ => rowAt_frozen h _)

theorem clear_none (w : World) (ty : TypeId) (a : Option Addr) (c : Nat) : (Builtin.clear_ #[27] ty #[.slice a 0 c]).run Try.prog w = .ok (.tuple #[]) w := by
  cases a <;> simp [Builtin.clear_, run_underlying Try.underlying27]

theorem wp_clearL {o : Oper} {a : Act} {w : World} {K : Act → World → Prop} {Q : Exit → Act → World → Prop} (s : Operand)
    (ho : o.op = .call { callee := .builtin .clear, args := #[s], argTypes := #[27] }) (g t n : Nat) (L : List Int) (hL : L.length = 8) (ht : t ≤ n) (hn : n ≤ 8) (hg : RowAt w g L)
    (hs : a.eval s = .slice (some (if 8 = t then ⟨g, 0, none⟩ else ⟨g, t, none⟩)) (n - t) (8 - t))
    (h : ∀ w', RowAt w' g (L.take t ++ List.replicate (n - t) 0 ++ L.drop n) → Touch w w' g (g + 1) → K (a.put o.dst (.tuple #[])) w') : o.wp Try.prog a w K Q := by
  by_cases h0 : n - t = 0
  · have hr := clear_none w o.type (some (if 8 = t then ⟨g, 0, none⟩ else ⟨g, t, none⟩)) (8 - t)
    have htn : t = n := by omega
    have hk := h w (by rw [h0, htn]; simpa using hg) (Touch.refl _ _ _)
    rw [h0] at hs
    unfold Oper.wp execOp
    simp only [ho, resolve, invoke, builtin, Sem.run_bind, Sem.run_pure, Result.andThen_ok, List.map_toArray, List.map_cons, List.map_nil, hs, hr]
    exact hk
  · have h8 : ¬ 8 = t := by omega
    rw [if_neg h8] at hs
    have hr := clear_some w o.type g t (n - t) (8 - t) L (by omega) (by omega) hg
    have hk := h _ (by have := rowAt_zeros g (n - t) t w L (by omega) hg; rwa [show t + (n - t) = n by omega] at this) (touch_zeros g _ (n - t) t w)
    unfold Oper.wp execOp
    simp only [ho, resolve, invoke, builtin, Sem.run_bind, Sem.run_pure, Result.andThen_ok, List.map_toArray, List.map_cons, List.map_nil, hs, hr]
    exact hk

theorem wpList_clearL {ops : Array Oper} {rest : List Oper} {o : Oper} {a : Act} {w : World} {Q : Exit → Act → World → Prop} (hgd : o.guard = none) (s : Operand)
    (ho : o.op = .call { callee := .builtin .clear, args := #[s], argTypes := #[27] }) (g t n : Nat) (L : List Int) (hL : L.length = 8) (ht : t ≤ n) (hn : n ≤ 8) (hg : RowAt w g L)
    (A : Addr) (hA : A = (if 8 = t then ⟨g, 0, none⟩ else ⟨g, t, none⟩)) (hs : a.eval s = .slice (some A) (n - t) (8 - t))
    (h : ∀ w', RowAt w' g (L.take t ++ List.replicate (n - t) 0 ++ L.drop n) → Touch w w' g (g + 1) → wpList Try.prog ops Q rest (a.put o.dst (.tuple #[])) w') : wpList Try.prog ops Q (o :: rest) a w :=
  wpList_plain hgd fun _ hK => wp_clearL s ho g t n L hL ht hn hg (hA ▸ hs) fun w' h1 h2 => hK _ _ (h w' h1 h2)

theorem together_rows (xs : List Int) (t : Nat) (ht : t ≤ xs.length) (h8 : xs.length ≤ 8) :
    (ln xs).take t ++ List.replicate (xs.length - t) 0 ++ (ln xs).drop xs.length = ln (xs.take t ++ List.replicate (xs.length - t) 0) := by
  rw [ln_take ht]
  unfold ln
  rw [List.drop_left]
  congr 2
  simp
  omega

set_option maxHeartbeats 1600000 in
theorem together_any (xs : List Int) (t : Nat) (w : World) (hs : Small xs) (h8 : xs.length ≤ 8) (ht : t ≤ xs.length) :
    Calls Try.prog 98 #[.agg (rowC (ln xs)), .int .i64 t] w (GivesL w (xs.take t ++ List.replicate (xs.length - t) 0)) := by
  have hL := ln_length h8
  have hLt : (ln (xs.take t ++ List.replicate (xs.length - t) 0)).length = 8 := ln_length (by simp; omega)
  obtain ⟨W, hW⟩ : ∃ W, W = (w.alloc (.cells (rowC (ln xs)) 82)).alloc (.cells #[.int .i64 0, .int .i64 0, .int .i64 0, .int .i64 0, .int .i64 0, .int .i64 0, .int .i64 0, .int .i64 0] 82) := ⟨_, rfl⟩
  have hr0 : RowAt W w.heap.size (ln xs) := by rw [hW]; exact rowAt_alloc (rowAt_new w _) _
  have hr1 : RowAt W (w.heap.size + 1) (List.replicate 8 0) := by
    rw [hW]
    exact heap_alloc2_new w _ _
  have hB : Below w.heap.size w W := by rw [hW]; exact ((Below.refl _ _).alloc (Nat.le_refl _) _).alloc (by simp) _
  have hB1 := (hB.alloc hB.size (.cells (rowC (ln xs)) 82))
  have HT := Lib.hid (things_any xs W hs h8)
  have HR0 := Lib.hid hr0
  have HR0' := Lib.hid (rowAt_alloc hr0 (.cells (rowC (ln xs)) 82))
  have HR1' := Lib.hid (rowAt_alloc hr1 (.cells (rowC (ln xs)) 82))
  have HB1 := Lib.hid hB1
  have hsl := fun (w1 : World) => run_sliceL2 w1 w.heap.size t xs.length ht h8
  have HE := Lib.hid (together_rows xs t ht h8)
  have HL := Lib.hid hL
  have HLt := Lib.hid hLt
  obtain ⟨n, hn⟩ : ∃ n, n = xs.length := ⟨_, rfl⟩
  rw [← hn] at HT hsl ht h8 HE HLt ⊢
  obtain ⟨A, hA⟩ : ∃ A : Addr, A = (if 8 = t then ⟨w.heap.size, 0, none⟩ else ⟨w.heap.size, t, none⟩) := ⟨_, rfl⟩
  rw [← hA] at hsl
  have HA := Lib.hid hA
  have HW := Lib.hid hW
  clear hW hr0 hr1 hB hB1 hL hLt hs hn hA
  go_enter Try.func98, Try.ntmps98
  go_wp2_with (first | (refine wpList_loadL rfl _ rfl w.heap.size rfl (ln xs) HL.out (HW.out ▸ HR0.out) ?_) | (go_at_call 91; rw [← HW.out]; refine HT.out.mono ?_; rintro e w' ⟨rfl, rfl⟩) | (with_reducible refine wpList_clearL rfl (.tmp 8) rfl w.heap.size t n (ln xs) HL.out ht h8 HR0'.out A HA.out rfl ?_; intro w2 hg2 ht2; rw [HE.out] at hg2; have HG2 := Lib.hid hg2; have HR2 := Lib.hid (rowAt_touch HR1'.out ht2 (by omega)); have HB2 := Lib.hid (HB1.out.trans (touch_below ht2 (Nat.le_refl _))); clear hg2 ht2) | (refine wpList_loadL rfl _ rfl w.heap.size rfl _ HLt.out HG2.out ?_) | (refine wpList_storeL rfl _ _ rfl (w.heap.size + 1) _ rfl rfl (List.replicate 8 0) rfl HLt.out HR2.out ?_; intro w3 hg3 ht3; have HG3 := Lib.hid hg3; have HB3 := Lib.hid (HB2.out.trans (touch_below ht3 (by omega : w.heap.size ≤ w.heap.size + 1))); clear hg3 ht3))
  exact bodyPost_ret (results_line rfl _ _ (w.heap.size + 1) _ HLt.out rfl HG3.out) rfl ⟨rfl, HB3.out⟩

/-- The list with single things from place t up to place i. -/
def stageA (xs : List Int) (t : Nat) (s : Int) (i : Nat) : List Int := xs.take t ++ iota s (i - t) ++ xs.drop i

theorem stageA_length (xs : List Int) (t : Nat) (s : Int) (i : Nat) (h : t ≤ i) (hi : i ≤ xs.length) : (stageA xs t s i).length = xs.length := by
  simp [stageA, iota_length]; omega

theorem stageA_start (xs : List Int) (t : Nat) (s : Int) : stageA xs t s t = xs := by
  simp [stageA, iota]

theorem stageA_end (xs : List Int) (t : Nat) (s : Int) : stageA xs t s xs.length = xs.take t ++ iota s (xs.length - t) := by
  simp [stageA]

theorem stageA_step (xs : List Int) (t : Nat) (s : Int) (i : Nat) (h : t ≤ i) (hi : i < xs.length) : (stageA xs t s i).set i (s + ((i - t : Nat) : Int)) = stageA xs t s (i + 1) := by
  have hl : (xs.take t ++ iota s (i - t)).length = i := by simp [iota_length]; omega
  unfold stageA
  rw [List.set_append_right _ _ (by omega), hl, Nat.sub_self, drop_cons xs i hi, List.set_cons_zero, show i + 1 - t = (i - t) + 1 by omega]
  have e : iota s (i - t + 1) = iota s (i - t) ++ [s + ((i - t : Nat) : Int)] := by
    unfold iota
    rw [List.range_succ, List.map_append]
    rfl
  rw [e]
  simp

theorem stageA_small (xs : List Int) (t : Nat) (s : Int) (i : Nat) (hs : Small xs) (h : t ≤ i) (hi : i ≤ xs.length) (h8 : xs.length ≤ 8) (h0 : 0 ≤ s) (hst : s ≤ t) : Small (stageA xs t s i) := fun j hj => by
  rw [stageA_length xs t s i h hi] at hj
  unfold stageA
  simp only [List.getD, List.getElem?_append]
  have hl : (xs.take t).length = t := by simp; omega
  have hl2 : (xs.take t ++ iota s (i - t)).length = i := by simp [iota_length]; omega
  have hx := hs j hj
  simp only [List.getD] at hx
  by_cases h1 : j < i
  · rw [if_pos (by omega)]
    by_cases h2 : j < t
    · rw [if_pos (by omega), List.getElem?_take, if_pos h2]
      exact hx
    · rw [if_neg (by omega), hl]
      have := iota_getD s (i - t) (j - t) (by omega)
      simp only [List.getD] at this
      rw [this]
      omega
  · rw [if_neg (by omega), hl2, List.getElem?_drop, show i + (j - i) = j by omega]
    exact hx

theorem ln_set {xs : List Int} {i : Nat} {x : Int} (h : i < xs.length) : (ln xs).set i x = ln (xs.set i x) := by
  unfold ln
  rw [List.set_append_left _ _ h, List.length_set]

set_option maxHeartbeats 1600000 in
theorem alone_any (xs : List Int) (t : Nat) (w : World) (hs : Small xs) (h8 : xs.length ≤ 8) (ht : t ≤ xs.length) (hst : sizeFrom 0 (xs.take t) ≤ t) :
    Calls Try.prog 99 #[.agg (rowC (ln xs)), .int .i64 t] w (GivesL w (xs.take t ++ iota (sizeFrom 0 (xs.take t)) (xs.length - t))) := by
  have hL := ln_length h8
  have hsb := size_take_bd hs t
  obtain ⟨W, hW⟩ : ∃ W, W = (w.alloc (.cells (rowC (ln xs)) 82)).alloc (.cells #[.int .i64 0, .int .i64 0, .int .i64 0, .int .i64 0, .int .i64 0, .int .i64 0, .int .i64 0, .int .i64 0] 82) := ⟨_, rfl⟩
  have hr0 : RowAt W w.heap.size (ln xs) := by rw [hW]; exact rowAt_alloc (rowAt_new w _) _
  have hr1 : RowAt W (w.heap.size + 1) (List.replicate 8 0) := by
    rw [hW]
    exact heap_alloc2_new w _ _
  have hB : Below w.heap.size w W := by rw [hW]; exact ((Below.refl _ _).alloc (Nat.le_refl _) _).alloc (by simp) _
  have hW2 : w.heap.size + 2 = W.heap.size := by rw [hW]; simp
  have hsz : w.heap.size + 2 ≤ W.heap.size := by omega
  clear hW2
  have hB1 := (hB.alloc hB.size (.cells (rowC (ln xs)) 82))
  have HA := Lib.hid (blocksAhead_any xs t W hs h8 ht)
  have HR0 := Lib.hid hr0
  have HR0' := Lib.hid (rowAt_alloc hr0 (.cells (rowC (ln xs)) 82))
  have HR1' := Lib.hid (rowAt_alloc hr1 (.cells (rowC (ln xs)) 82))
  have HB1 := Lib.hid hB1
  have HL := Lib.hid hL
  have HW := Lib.hid hW
  obtain ⟨s, hsd⟩ : ∃ s, s = sizeFrom 0 (xs.take t) := ⟨_, rfl⟩
  rw [← hsd] at HA hsb hst ⊢
  obtain ⟨hs0, hs8⟩ := hsb
  have HT : Hid (∀ (i : Nat) (w1 : World), t ≤ i → i ≤ xs.length → Calls Try.prog 91 #[.agg (rowC (ln (stageA xs t s i)))] w1 fun e w' => e = .returned (.int .i64 xs.length) ∧ w' = w1.alloc (.cells (rowC (ln (stageA xs t s i))) 82)) := by
    intro i w1 h1 h2
    have := things_any (stageA xs t s i) w1 (stageA_small xs t s i hs h1 h2 h8 hs0 hst) (by rw [stageA_length xs t s i h1 h2]; exact h8)
    rw [stageA_length xs t s i h1 h2] at this
    exact this
  obtain ⟨n, hn⟩ : ∃ n, n = xs.length := ⟨_, rfl⟩
  rw [← hn] at HT ht h8 ⊢
  have HN := Lib.hid hn
  clear hW hr0 hr1 hB hB1 hL hn hs hsd
  go_enter Try.func99, Try.ntmps99
  go_wp2_with (first | (refine wpList_loadL rfl _ rfl w.heap.size rfl (ln xs) HL.out (HW.out ▸ HR0.out) ?_) | (go_at_call 97; rw [← HW.out]; refine HA.out.mono ?_; rintro e w' ⟨rfl, rfl⟩))
  go_loopw [1, 5] (fun u v wr => ∃ i : Nat, t ≤ i ∧ i ≤ n ∧ u = .int .i64 i ∧ v = .int .i64 (s + ((i - t : Nat) : Int)) ∧ RowAt wr w.heap.size (ln (stageA xs t s i)) ∧ RowAt wr (w.heap.size + 1) (List.replicate 8 0) ∧ Below w.heap.size w wr)
    (fun u _ _ => n - (intOf u).toNat)
  case atStart => exact ⟨t, Nat.le_refl _, ht, rfl, by simp, by rw [stageA_start]; exact HR0'.out, HR1'.out, HB1.out⟩
  case round =>
    obtain ⟨i, hti, hin, rfl, rfl, hr, hr1, hb⟩ := hrel
    have hlen : (ln (stageA xs t s i)).length = 8 := ln_length (by rw [stageA_length xs t s i hti (HN.out ▸ hin), ← HN.out]; exact h8)
    have HLEN := Lib.hid hlen
    have HR := Lib.hid hr
    have HTI := Lib.hid (HT.out i wr hti hin)
    obtain ⟨o, ho⟩ : ∃ o, o = Obj.cells (rowC (ln (stageA xs t s i))) 82 := ⟨_, rfl⟩
    obtain ⟨L, hLd⟩ : ∃ L, L = ln (stageA xs t s i) := ⟨_, rfl⟩
    have HO := Lib.hid ho
    have hb2 := hb.alloc hb.size o
    have hr2 := rowAt_alloc hr o
    have hr12 := rowAt_alloc hr1 o
    rw [← ho] at HTI
    rw [← hLd] at HTI hr2 HR HLEN
    have HLD := Lib.hid hLd
    obtain ⟨x, hx⟩ : ∃ x, x = s + ((i - t : Nat) : Int) := ⟨_, rfl⟩
    have hx0 : 0 ≤ x := by omega
    have hx8 : x ≤ 8 := by omega
    rw [← hx]
    have HX := Lib.hid hx
    by_cases hlt : i < n
    · have hf := rowAt_frozen hr2 i
      obtain ⟨v0, hv0⟩ : ∃ v0, (wr.alloc o).cell? ⟨w.heap.size, i, none⟩ = some v0 := ⟨_, rowAt_cell hr2 i (by have := HLEN.out; omega)⟩
      have hst2 := rowAt_setCell hr2 i x
      rw [hLd, ln_set (by rw [stageA_length xs t s i hti (HN.out ▸ hin), ← HN.out]; exact hlt), hx, stageA_step xs t s i hti (HN.out ▸ hlt), ← hx] at hst2
      have ht2 := touch_cell (wr.alloc o) w.heap.size i (.int .i64 x)
      have HS := Lib.hid hst2
      have HR12 := Lib.hid (rowAt_touch hr12 ht2 (by omega))
      have HB2 := Lib.hid (hb2.trans (touch_below ht2 (Nat.le_refl _)))
      have hi8 : i < 8 := by omega
      clear hst2 ht2 hr2 hr12 hr1 hr hb hb2 hlen hx ho hLd
      go_wp2_with (first | (refine wpList_loadL rfl _ rfl w.heap.size rfl L HLEN.out HR.out ?_) | (go_at_call 91; refine HTI.out.mono ?_; rintro e w' ⟨rfl, rfl⟩))
      go_roundw
      case rel => exact ⟨i + 1, by omega, by omega, by go_num, by rw [HX.out]; congr 1; omega, HS.out, HR12.out, HB2.out⟩
      case measure => simp [intOf]; omega
    · obtain rfl : i = n := by omega
      have hend : L = ln (xs.take t ++ iota s (i - t)) := by rw [hLd, HN.out, stageA_end]
      rw [hend] at hr2 HLEN HTI HR
      have HR2 := Lib.hid hr2
      have HR12 := Lib.hid hr12
      have HB2 := Lib.hid hb2
      clear hr2 hr12 hr1 hr hb hb2 hlen hx ho hLd hend hlt HLD
      go_wp2_with (first | (refine wpList_loadL rfl _ rfl w.heap.size rfl _ HLEN.out HR.out ?_) | (go_at_call 91; refine HTI.out.mono ?_; rintro e w' ⟨rfl, rfl⟩) | (refine wpList_loadL rfl _ rfl w.heap.size rfl _ HLEN.out HR2.out ?_) | (refine wpList_storeL rfl _ _ rfl (w.heap.size + 1) _ rfl rfl (List.replicate 8 0) rfl HLEN.out HR12.out ?_; intro w3 hg3 ht3; have HG3 := Lib.hid hg3; have HB3 := Lib.hid (HB2.out.trans (touch_below ht3 (by omega : w.heap.size ≤ w.heap.size + 1))); clear hg3 ht3))
      exact bodyPost_ret (results_line rfl _ _ (w.heap.size + 1) _ HLEN.out rfl HG3.out) rfl ⟨rfl, HB3.out⟩

set_option maxHeartbeats 800000 in
theorem firstLine_any (n : Nat) (w : World) (h1 : 1 ≤ n) (h8 : n ≤ 8) :
    Calls Try.prog 78 #[.int .i64 n] w (GivesL w (List.replicate n 0)) := by
  obtain ⟨i0, hi, hz0, hz1, hz2⟩ := info_parts Try.infoInt
  have hr1 : RowAt (w.alloc (.cells #[.int .i64 0, .int .i64 0, .int .i64 0, .int .i64 0, .int .i64 0, .int .i64 0, .int .i64 0, .int .i64 0] 82)) w.heap.size (List.replicate 8 0) := heap_alloc_new w _
  have HR1 := Lib.hid hr1
  have HLEN := Lib.hid (ln_length (xs := List.replicate n 0) (by simp; exact h8))
  go_enter Try.func78, Try.ntmps78
  go_wp2_with (first | (at_make; refine wpList_make_full _ rfl _ _ 27 rfl (w.heap.size + 1) 3 i0 (.int .i64 0) 1 Try.underlying27 hi hz0 hz1 _ _ _ _ n rfl rfl rfl rfl (by rw [hz2]; omega) (by unfold maxLen; omega) (by simp) ?_))
  intro w1 hown1 hgrow1
  have hown := own_made hown1
  have hb1 : Below (w.alloc (.cells #[.int .i64 0, .int .i64 0, .int .i64 0, .int .i64 0, .int .i64 0, .int .i64 0, .int .i64 0, .int .i64 0] 82)).heap.size (w.alloc (.cells #[.int .i64 0, .int .i64 0, .int .i64 0, .int .i64 0, .int .i64 0, .int .i64 0, .int .i64 0, .int .i64 0] 82)) w1 := (Below.refl _ _).grown hgrow1 (Nat.le_refl _) (fun k h => by cases h)
  have HC1 := Lib.hid (lineOf_any _ _ w1 (own_rdv hown) (by simp; exact h1) (by simp; exact h8))
  have HR2 := Lib.hid (rowAt_below hr1 hb1)
  have HB2 := Lib.hid (((Below.refl w.heap.size w).alloc (Nat.le_refl _) _).trans (hb1.mono (by simp)))
  clear hown1 hgrow1 hown hb1
  go_wp2_with (first | (go_at_call 92; refine HC1.out.mono ?_; rintro e w2 ⟨rfl, hb2⟩; have HR3 := Lib.hid (rowAt_below HR2.out hb2); have HB3 := Lib.hid (below_step HB2.out hb2); clear hb2) | (refine wpList_storeL rfl _ _ rfl w.heap.size _ rfl rfl (List.replicate 8 0) rfl HLEN.out HR3.out ?_; intro w3 hg3 ht3; have HG3 := Lib.hid hg3; have HB4 := Lib.hid (HB3.out.trans (touch_below ht3 (Nat.le_refl _))); clear hg3 ht3))
  exact bodyPost_ret (results_line rfl _ _ w.heap.size _ HLEN.out rfl HG3.out) rfl ⟨rfl, HB4.out⟩

set_option maxHeartbeats 800000 in
theorem lastLine_any (n : Nat) (w : World) (h1 : 1 ≤ n) (h8 : n ≤ 8) :
    Calls Try.prog 96 #[.int .i64 n] w (GivesL w (iota 0 n)) := by
  have hr1 : RowAt (w.alloc (.cells #[.int .i64 0, .int .i64 0, .int .i64 0, .int .i64 0, .int .i64 0, .int .i64 0, .int .i64 0, .int .i64 0] 82)) w.heap.size (List.replicate 8 0) := heap_alloc_new w _
  have HLEN := Lib.hid (ln_length (xs := iota 0 n) (by rw [iota_length]; exact h8))
  have HF := Lib.hid (firstLine_any n (w.alloc (.cells #[.int .i64 0, .int .i64 0, .int .i64 0, .int .i64 0, .int .i64 0, .int .i64 0, .int .i64 0, .int .i64 0] 82)) h1 h8)
  have HA : Hid (∀ w1 : World, Calls Try.prog 99 #[.agg (rowC (ln (List.replicate n 0))), .int .i64 0] w1 (GivesL w1 (iota 0 n))) := by
    intro w1
    have := alone_any (List.replicate n 0) 0 w1 (fun j hj => by simp at hj; simp [List.getD, List.getElem?_replicate, hj]) (by simp; exact h8) (Nat.zero_le _) (by simp [sizeFrom])
    simpa [sizeFrom] using this
  have HR1 := Lib.hid hr1
  clear hr1
  go_enter Try.func96, Try.ntmps96
  go_wp2_with (first | (go_at_call 78; refine HF.out.mono ?_; rintro e w1 ⟨rfl, hb1⟩; have HR2 := Lib.hid (rowAt_below HR1.out hb1); have HB2 := Lib.hid (((Below.refl w.heap.size w).alloc (Nat.le_refl _) _).trans (hb1.mono (by simp))); clear hb1) | (go_at_call 99; refine (HA.out _).mono ?_; rintro e w2 ⟨rfl, hb2⟩; have HR3 := Lib.hid (rowAt_below HR2.out hb2); have HB3 := Lib.hid (below_step HB2.out hb2); clear hb2) | (refine wpList_storeL rfl _ _ rfl w.heap.size _ rfl rfl (List.replicate 8 0) rfl HLEN.out HR3.out ?_; intro w3 hg3 ht3; have HG3 := Lib.hid hg3; have HB4 := Lib.hid (HB3.out.trans (touch_below ht3 (Nat.le_refl _))); clear hg3 ht3))
  exact bodyPost_ret (results_line rfl _ _ w.heap.size _ HLEN.out rfl HG3.out) rfl ⟨rfl, HB4.out⟩

end Go.Proofs.Ytieldehghmikkaa
