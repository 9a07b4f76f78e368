/-
  The contract of areSameOn: two loops over the things of a block, one within the other, left by a return.
-/
import Derived.Test.YthkkolnohgibeaaDoorIter
import Derived.Test.YthkkolnohgibeaaDoorViewQ
namespace Go.Proofs.YthkkolnohgibeaaDoor
set_option linter.unusedSimpArgs false
set_option linter.unusedVariables false
set_option linter.unnecessarySimpa false
open Go.RowKit Go.Shelf
set_option maxRecDepth 100000

attribute [local go_sem] Oper.semAt_some

set_option maxHeartbeats 1600000 in
/-- As things1_in; a round is asked only of a thing that comes next. -/
theorem things1_at (n : Nat) (hn : 1 ≤ n) (l Bn n₀ b : Nat) (hb : b < 256) (hn₀ : 1 + 1 ≤ n₀) (J Jx : List Int → World → Prop)
    (hY : ∀ pre x W, J pre W → pre ++ [x] <+: bitsL b → YieldAt Fence.wide (n - 1) Tryd.prog l #[.int .i64 x] W fun e W' =>
      (e = .returned (.bool true) ∧ J (pre ++ [x]) W' ∧ Below n₀ W W') ∨ (e = .returned (.bool false) ∧ Jx (pre ++ [x]) W'))
    (W : World) (hT : Tab W) (hBn : W.cell? ⟨Bn, 0, none⟩ = some (.int .u64 b)) (h0 : J [] W) :
    CallsIn Fence.wide n Tryd.prog 61 #[.func (.yield l) #[] #[], .pointer (some ⟨Bn, 0, none⟩)] W fun e W' => (∃ v, e = .returned v) ∧
      ((∃ ys, ys = bitsL b ∧ J ys W') ∨ (∃ pre, pre <+: bitsL b ∧ Jx pre W')) := by
  refine callsIn_of_wp Tryd.func61 rfl trivial ?_ rfl
  simp only [Tryd.ntmps61, List.size_toArray, List.length_cons, List.length_nil, Nat.reduceAdd, Nat.reduceSub, Array.replicate_succ, Array.replicate_zero, List.push_toArray, List.append_toArray, List.nil_append, List.cons_append]
  gi_wp2
  gi_loopw [3] (fun p wr => ∃ (pre : List Int) (r : Nat), p = .int .u64 r ∧ r < 256 ∧ bitsL b = pre ++ bitsL r ∧ Tab wr ∧ J pre wr)
    (fun p wr => (intOf p).toNat)
  case atStart => exact ⟨[], b, rfl, hb, rfl, hT, h0⟩
  case round =>
    obtain ⟨pre, r, rfl, hr, hx, hTr, hJs⟩ := hrel
    by_cases hr0 : r = 0
    · subst hr0
      have he : bitsL 0 = [] := by decide
      rw [he, List.append_nil] at hx
      gi_wp2
      go_end0
      exact ⟨⟨_, rfl⟩, .inl ⟨pre, hx.symm, hJs⟩⟩
    · obtain ⟨h1, h2, h3⟩ := bits_step r hr (by omega)
      rw [h1] at hx
      obtain ⟨s, hs⟩ : ∃ s, s = r &&& (r - 1) := ⟨_, rfl⟩
      rw [← hs] at h2 h3 hx
      obtain ⟨x, hxe⟩ : ∃ x : Nat, x = tz r := ⟨_, rfl⟩
      have HC := Lib.hid (tz_any r wr hTr hr (by omega))
      rw [← hxe] at hx HC
      have HX := Lib.hid hx
      have hpre : pre ++ [(x : Int)] <+: bitsL b := ⟨bitsL s, by rw [hx]; simp⟩
      obtain ⟨fn, tmps, assign, body, hy, hR⟩ := hY pre x wr hJs hpre
      have hz : ((r : Int) != 0) = true := by simp; omega
      clear h1 hs hxe hx hpre
      gi_wp2_with (refine ⟨trivial, ?_⟩; gi_at_call 62; refine (callsIn_wide.2 HC.out).mono ?_; rintro e w' ⟨rfl, rfl⟩)
      refine hR.mono ?_
      rintro e W3 (⟨rfl, hJ3, hk3⟩ | ⟨rfl, hJx3⟩)
      · have hT3 := tab_belowN hTr hn₀ hk3
        gi_wp2
        go_roundw
        case rel => exact ⟨pre ++ [(x : Int)], s, by go_num, by omega, by rw [HX.out]; simp, hT3, hJ3⟩
        case measure => simp [intOf]; omega
      · gi_wp2
        refine bodyPost_ret (results_none rfl _ _ _) rfl ?_
        exact ⟨⟨_, rfl⟩, .inr ⟨pre ++ [(x : Int)], ⟨bitsL s, by rw [HX.out]; simp⟩, hJx3⟩⟩

theorem things_at (n : Nat) (hn : 1 ≤ n) (Bn n₀ b : Nat) (hb : b < 256) (w : World) (hT : Tab w) (h2 : 1 + 1 ≤ n₀) (hBn : Bn < w.heap.size) (hn₀ : n₀ ≤ w.heap.size) (hc : w.cell? ⟨Bn, 0, none⟩ = some (.int .u64 b)) :
    SeqStopsK Fence.wide n Tryd.prog 61 #[.pointer (some ⟨Bn, 0, none⟩)] (fun x : { x : Int // x ∈ bitsL b } => #[Value.int .i64 x.1]) (Below n₀) (fun ys => ys.map Subtype.val = bitsL b) (fun pre => pre.map Subtype.val <+: bitsL b) (bitsL b).length w := by
  intro l J Jx W hW hJo hJxo hY h0
  refine (things1_at n hn l Bn n₀ b hb h2 (fun pre W' => ∃ ps : List ({ x : Int // x ∈ bitsL b }), ps.map Subtype.val = pre ∧ J ps W') (fun pre W' => ∃ ps : List ({ x : Int // x ∈ bitsL b }), ps.map Subtype.val = pre ∧ Jx ps W') ?_ W (tab_below hT hW) ((hW.cell (p := ⟨Bn, 0, none⟩) hBn).trans hc) ⟨[], rfl, h0⟩).mono ?_
  · rintro pre x W' ⟨ps, rfl, hJ⟩ hpre
    have hx : x ∈ bitsL b := hpre.subset (by simp)
    have hl : ps.length < (bitsL b).length := by
      have := hpre.length_le
      rw [List.length_append, List.length_map, List.length_singleton] at this
      omega
    refine (hY ps ⟨x, hx⟩ W' hJ hl).mono ?_
    rintro e W2 (⟨rfl, h1, h3⟩ | ⟨rfl, h1⟩)
    · exact .inl ⟨rfl, ⟨ps ++ [⟨x, hx⟩], by rw [List.map_append]; rfl, h1⟩, h3⟩
    · exact .inr ⟨rfl, ⟨ps ++ [⟨x, hx⟩], by rw [List.map_append]; rfl, h1⟩⟩
  · rintro e W2 ⟨hv, (⟨ys, rfl, ps, hps, hJ⟩ | ⟨pre, hpre, ps, rfl, hJ⟩)⟩
    · exact ⟨hv, .inl ⟨ps, hps, hJ⟩⟩
    · exact ⟨hv, .inr ⟨ps, hpre, hJ⟩⟩

/-- Two partitions have the things of a block together alike. -/
def sameOn (xs ys : List Int) (m : Nat) : Bool := decide (∀ x ∈ bitsL m, ∀ y ∈ bitsL m, dif xs ys x.toNat y.toNat = 0)

theorem bit_mem {m : Nat} {x : Int} (h : x ∈ bitsL m) : ∃ t : Nat, x = (t : Int) ∧ t < 8 ∧ m.testBit t = true := by
  unfold bitsL at h
  obtain ⟨t, ht, rfl⟩ := List.mem_map.1 h
  obtain ⟨h1, h2⟩ := List.mem_filter.1 ht
  exact ⟨t, rfl, List.mem_range.1 h1, h2⟩

theorem keepsFrom_b {W W' : World} (B : Nat) (h : Below W.heap.size W W') : KeepsFrom B W W' :=
  ⟨h.size, fun k o _ hk _ => by rw [h.block k (Array.getElem?_eq_some_iff.1 hk).1]; exact hk⟩
theorem boxed_b {W W' : World} {b : Nat} {t : TypeId} {v : Value} (h : Boxed W b t v) (hb : Below W.heap.size W W') : Boxed W' b t v := (hb.block b h.lt).trans h

set_option maxHeartbeats 8000000 in
theorem areSameOn_in (n : Nat) (hn : 8 ≤ n) (m : Nat) (hm : m < 256) (ao bo : Option Addr) (len ca cb : Nat) (xs ys : List Int) (w : World) (hT : Tab w) (hv : RdV w (.slice ao len ca) xs) (hu : RdV w (.slice bo len cb) ys) (hl : ys.length = xs.length) (hbit : ∀ t, m.testBit t = true → t < 8 → t < xs.length) :
    CallsIn Fence.wide n Tryd.prog 28 #[.int .u64 m, .slice ao len ca, .slice bo len cb] w fun e W' => e = .returned (.bool (sameOn xs ys m)) ∧ Below w.heap.size w W' := by
  have h1 : 1 ≤ n := by omega
  have HV := Lib.hid hv
  have HU := Lib.hid hu
  have HL := Lib.hid hl
  have hT2 := hT.1
  have hbm : ∀ x ∈ bitsL m, ∃ t : Nat, x = (t : Int) ∧ t < xs.length := fun x hx => by
    obtain ⟨t, e, h8, hb⟩ := bit_mem hx
    exact ⟨t, e, hbit t hb h8⟩
  have HBM := Lib.hid hbm
  clear hv hu hl hbit hbm
  refine callsIn_of_wp_marks Tryd.func28 rfl trivial ?_ rfl
  simp only [Tryd.ntmps28, List.size_toArray, List.length_cons, List.length_nil, Nat.reduceAdd, Nat.reduceSub, Array.replicate_succ, Array.replicate_zero, List.push_toArray, List.append_toArray, List.nil_append, List.cons_append]
  gi_wp2_with (refine ⟨trivial, ?_⟩; gi_at_call 41; refine (things_in _ m _).mono ?_; rintro e w' ⟨rfl, rfl⟩)
  obtain ⟨N, hN⟩ : ∃ N, N = w.heap.size := ⟨_, rfl⟩
  have bM := ((Boxed.new w 45 (.int .u64 m)).alloc (.cells #[.slice ao len ca] 23)).alloc (.cells #[.slice bo len cb] 23) |>.alloc (.cells #[.bool false] 4) |>.alloc (.cells #[.int .u64 m] 45)
  have bA := ((Boxed.new (w.alloc (.cells #[.int .u64 m] 45)) 23 (.slice ao len ca)).alloc (.cells #[.slice bo len cb] 23)).alloc (.cells #[.bool false] 4) |>.alloc (.cells #[.int .u64 m] 45)
  have bB := (Boxed.new ((w.alloc (.cells #[.int .u64 m] 45)).alloc (.cells #[.slice ao len ca] 23)) 23 (.slice bo len cb)).alloc (.cells #[.bool false] 4) |>.alloc (.cells #[.int .u64 m] 45)
  have bR := (Boxed.new (((w.alloc (.cells #[.int .u64 m] 45)).alloc (.cells #[.slice ao len ca] 23)).alloc (.cells #[.slice bo len cb] 23)) 4 (.bool false)).alloc (.cells #[.int .u64 m] 45)
  have bF := Boxed.new ((((w.alloc (.cells #[.int .u64 m] 45)).alloc (.cells #[.slice ao len ca] 23)).alloc (.cells #[.slice bo len cb] 23)).alloc (.cells #[.bool false] 4)) 45 (.int .u64 m)
  have hB0 : Below w.heap.size w (((((w.alloc (.cells #[.int .u64 m] 45)).alloc (.cells #[.slice ao len ca] 23)).alloc (.cells #[.slice bo len cb] 23)).alloc (.cells #[.bool false] 4)).alloc (.cells #[.int .u64 m] 45)) :=
    (((((Below.refl _ w).alloc (Nat.le_refl _) _).alloc (by simp) _).alloc (by simp; omega) _).alloc (by simp; omega) _).alloc (by simp; omega) _
  obtain ⟨W0, hW0⟩ : ∃ W0, (((((w.alloc (.cells #[.int .u64 m] 45)).alloc (.cells #[.slice ao len ca] 23)).alloc (.cells #[.slice bo len cb] 23)).alloc (.cells #[.bool false] 4)).alloc (.cells #[.int .u64 m] 45)) = W0 := ⟨_, rfl⟩
  have hsz : W0.heap.size = w.heap.size + 5 := by rw [← hW0]; simp
  simp only [World.size_alloc] at bA bB bR bF
  rw [hW0] at bM bA bB bR bF hB0 ⊢
  clear hW0
  have hT0 := tab_below hT hB0
  refine wpIn_rangeFunc_ownH rfl h1 (gf := 61) (lb := #[.pointer (some ⟨w.heap.size + 1 + 1 + 1 + 1, 0, none⟩)]) rfl trivial (enters_of Tryd.func61 (by kernel_rfl) rfl)
    (things_at (n - 1) (by omega) (w.heap.size + 1 + 1 + 1 + 1) w.heap.size m hm W0 hT0 hT2 (by omega) (by omega) bF.cell) belowK_t (belowK_b (by omega)) (Below.refl _ _) (fun _ => rfl)
    (fun pre W => (((((∀ x ∈ pre, ∀ y ∈ bitsL m, dif xs ys x.1.toNat y.toNat = 0) ∧ Boxed W (w.heap.size + 1 + 1 + 1) 4 (.bool false)) ∧ Boxed W w.heap.size 45 (.int .u64 m)) ∧ Boxed W (w.heap.size + 1) 23 (.slice ao len ca)) ∧ Boxed W (w.heap.size + 1 + 1) 23 (.slice bo len cb)) ∧ Below w.heap.size w W)
    (fun c pre W => ((c = .ret ∧ ∃ x ∈ pre, ∃ y ∈ bitsL m, dif xs ys x.1.toNat y.toNat ≠ 0) ∧ Boxed W (w.heap.size + 1 + 1 + 1) 4 (.bool false)) ∧ Below w.heap.size w W)
    (OwnFrom.and (OwnFrom.and (OwnFrom.and (OwnFrom.and (OwnFrom.and (ownFrom_pure _ _) (Own.from (boxed_own _ _ _) _)) (Own.from (boxed_own _ _ _) _)) (Own.from (boxed_own _ _ _) _)) (Own.from (boxed_own _ _ _) _)) (ownFrom_below (Nat.le_refl _) (by omega)))
    (fun c => OwnFrom.and (OwnFrom.and (ownFrom_pure _ _) (Own.from (boxed_own _ _ _) _)) (ownFrom_below (Nat.le_refl _) (by omega)))
    ⟨⟨⟨⟨⟨by simp, bR⟩, bM⟩, bA⟩, bB⟩, hB0⟩
    (fun x a' W => ∃ Bx, w.heap.size + 1 + 1 + 1 < Bx ∧ Boxed W Bx 3 (.int .i64 x.1) ∧ a' = { tmps := #[.int .u64 m, .slice ao len ca, .slice bo len cb, .pointer (some ⟨w.heap.size, 0, none⟩), .pointer (some ⟨w.heap.size + 1, 0, none⟩), .pointer (some ⟨w.heap.size + 1 + 1, 0, none⟩), .pointer (some ⟨w.heap.size + 1 + 1 + 1, 0, none⟩), .pointer (some ⟨Bx, 0, none⟩), undef, .int .u64 m, .func (.func 61) #[] #[.pointer (some ⟨w.heap.size + 1 + 1 + 1 + 1, 0, none⟩)], .int .i64 x.1, undef, undef, undef, undef, undef, undef, undef, undef, undef], defers := [] })
    (fun x a' _ X Y row hs hg hr => by obtain ⟨Bx, e1, e2, e3⟩ := hs; exact ⟨Bx, e1, boxed_own Bx 3 (fun (_ : Unit) => Value.int .i64 x.1) () X Y row e2 hg (fun r e => (hr r e).2), e3⟩)
    ?assign ?body ?done ?stop
  case assign =>
    rintro l pre x W K ⟨⟨⟨⟨⟨hp, bR1⟩, bM1⟩, bA1⟩, bB1⟩, hB1⟩ hK
    gi_wp2
    exact hK _ _ ((KeepsOthers.alloc _ _).from _) ((Below.refl _ W).alloc hB1.size _) ⟨⟨⟨⟨⟨hp, bR1.alloc _⟩, bM1.alloc _⟩, bA1.alloc _⟩, bB1.alloc _⟩, hB1.alloc hB1.size _⟩ ⟨W.heap.size, bR1.lt, Boxed.new W 3 _, rfl⟩
  case body =>
    rintro l pre x a' W hl ⟨r, hr⟩ ⟨⟨⟨⟨⟨hp, bR1⟩, bM1⟩, bA1⟩, bB1⟩, hB1⟩ ⟨Bx, hBx, bX, rfl⟩ hlt
    have cM := bM1.cell
    have h1' : 1 ≤ n - 1 - 1 := by omega
    gi_wp2_with (refine ⟨trivial, ?_⟩; gi_at_call 41; refine (CallsIn.inRound l (things_in (n - 1 - 1 - 1) m _)).mono ?_; rintro e w' ⟨rfl, rfl⟩)
    have hsW := hB1.size
    have bN := Boxed.new W 45 (.int .u64 m)
    have hr' : (W.alloc (.cells #[.int .u64 m] 45)).heap[l]? = some (.loop r) := (Below.heap_alloc W _ l (Array.getElem?_eq_some_iff.1 hr).1).trans hr
    have hT1 : Tab (W.alloc (.cells #[.int .u64 m] 45)) := tab_belowN hT hT2 (hB1.alloc hsW _)
    refine wpIn_rangeFunc_ownN (l₀ := l) (r₀ := r) rfl hr' h1' (gf := 61) (lb := #[.pointer (some ⟨W.heap.size, 0, none⟩)]) rfl trivial (enters_of Tryd.func61 (by kernel_rfl) rfl)
      ((things_at (n - 1 - 1 - 1) (by omega) W.heap.size w.heap.size m hm _ hT1 hT2 (by simp) (by simp; omega) bN.cell).inRound l) belowK_t (belowK_b (by simp; omega)) (Below.refl _ _) (fun _ => rfl)
      (fun pre' W' => ((((((∀ y ∈ pre', dif xs ys x.1.toNat y.1.toNat = 0) ∧ Boxed W' (w.heap.size + 1 + 1 + 1) 4 (.bool false)) ∧ Boxed W' w.heap.size 45 (.int .u64 m)) ∧ Boxed W' (w.heap.size + 1) 23 (.slice ao len ca)) ∧ Boxed W' (w.heap.size + 1 + 1) 23 (.slice bo len cb)) ∧ Boxed W' Bx 3 (.int .i64 x.1)) ∧ (Below w.heap.size W W' ∧ KeepsFrom W0.heap.size W W'))
      (fun c pre' W' => ((c = .ret ∧ ∃ y ∈ pre', dif xs ys x.1.toNat y.1.toNat ≠ 0) ∧ Boxed W' (w.heap.size + 1 + 1 + 1) 4 (.bool false)) ∧ (Below w.heap.size W W' ∧ KeepsFrom W0.heap.size W W'))
      (OwnFrom.and (OwnFrom.and (OwnFrom.and (OwnFrom.and (OwnFrom.and (OwnFrom.and (ownFrom_pure _ _) (Own.from (boxed_own _ _ _) _)) (Own.from (boxed_own _ _ _) _)) (Own.from (boxed_own _ _ _) _)) (Own.from (boxed_own _ _ _) _)) (Own.from (boxed_own _ _ _) _)) (OwnFrom.and (ownFrom_below hsW (by simp; omega)) (ownFrom_keepsFrom (by simp))))
      (fun c => OwnFrom.and (OwnFrom.and (ownFrom_pure _ _) (Own.from (boxed_own _ _ _) _)) (OwnFrom.and (ownFrom_below hsW (by simp; omega)) (ownFrom_keepsFrom (by simp))))
      ⟨⟨⟨⟨⟨⟨by simp, bR1.alloc _⟩, bM1.alloc _⟩, bA1.alloc _⟩, bB1.alloc _⟩, bX.alloc _⟩, (Below.refl _ W).alloc hsW _, (KeepsOthers.alloc _ _).from _⟩
      (fun y a'' _ => a'' = { tmps := #[.int .u64 m, .slice ao len ca, .slice bo len cb, .pointer (some ⟨w.heap.size, 0, none⟩), .pointer (some ⟨w.heap.size + 1, 0, none⟩), .pointer (some ⟨w.heap.size + 1 + 1, 0, none⟩), .pointer (some ⟨w.heap.size + 1 + 1 + 1, 0, none⟩), .pointer (some ⟨Bx, 0, none⟩), .int .i64 y.1, .int .u64 m, .func (.func 61) #[] #[.pointer (some ⟨w.heap.size + 1 + 1 + 1 + 1, 0, none⟩)], .int .i64 x.1, .int .u64 m, .func (.func 61) #[] #[.pointer (some ⟨W.heap.size, 0, none⟩)], .int .i64 y.1, undef, undef, undef, undef, undef, undef], defers := [] })
      (fun _ _ _ _ _ _ hs _ _ => hs)
      ?assign2 ?body2 ?done2 ?stop2
    case assign2 =>
      rintro l2 pre' y W' K hi hK
      gi_wp2
      exact hK _ _ (KeepsFrom.refl _ _) (Below.refl _ _) hi rfl
    case body2 =>
      rintro l2 pre' y a'' W' _ _ ⟨⟨⟨⟨⟨⟨hq, bR2⟩, bM2⟩, bA2⟩, bB2⟩, bX2⟩, hBW, hKF⟩ rfl _
      have h1'' : 1 ≤ n - 1 - 1 - 1 - 1 := by omega
      have cA := bA2.cell
      have cB := bB2.cell
      have cX := bX2.cell
      obtain ⟨i, hi, hin⟩ := HBM.out x.1 x.2
      obtain ⟨k, hk, hkn⟩ := HBM.out y.1 y.2
      have hBW' : Below w.heap.size w W' := hB1.trans hBW
      have HC := Lib.hid (agree_v (.slice ao len ca) (.slice bo len cb) xs ys i k W' (rdv_below HV.out hBW') (rdv_below HU.out hBW') HL.out hin hkn)
      have e1 : i = x.1.toNat := by omega
      have e2 : k = y.1.toNat := by omega
      rw [← hi, ← hk, e1, e2] at HC
      clear hi hin hk hkn e1 e2
      by_cases hd : dif xs ys x.1.toNat y.1.toNat = 0
      · rw [decide_eq_true hd] at HC
        gi_wp2_with (refine ⟨trivial, ?_⟩; gi_at_call 53; refine (CallsIn.inRound l2 (CallsIn.inRound l (callsIn_wide.2 HC.out))).mono ?_; rintro e w' ⟨rfl, hq5⟩)
        have hb5 := hq5.below
        exact ⟨keepsFrom_b _ hb5, hb5.mono (by have := hBW'.size; omega), ⟨⟨⟨⟨⟨fun z hz => (List.mem_append.1 hz).elim (hq z) (fun e => by simp at e; subst e; exact hd), boxed_b bR2 hb5⟩, boxed_b bM2 hb5⟩, boxed_b bA2 hb5⟩, boxed_b bB2 hb5⟩, boxed_b bX2 hb5⟩, hBW.trans (hb5.mono (by have := hBW'.size; omega)), hKF.trans (keepsFrom_b _ hb5)⟩
      · rw [decide_eq_false hd] at HC
        gi_wp2_with (refine ⟨trivial, ?_⟩; gi_at_call 53; refine (CallsIn.inRound l2 (CallsIn.inRound l (callsIn_wide.2 HC.out))).mono ?_; rintro e w' ⟨rfl, hq5⟩; have hb5 := hq5.below; have bR5 := boxed_b bR2 hb5; have cR := bR5.cell; have fR := bR5.frozen)
        refine ⟨(keepsFrom_b _ hb5).trans ((KeepsOthers.setCell _ _ _).from _), ⟨⟨rfl, y, by simp, hd⟩, bR5.set _⟩, ?_, hKF.trans ((keepsFrom_b _ hb5).trans ((KeepsOthers.setCell _ _ _).from _))⟩
        exact (hBW.trans (hb5.mono (by have := hBW'.size; omega))).setCell (p := ⟨w.heap.size + 1 + 1 + 1, 0, none⟩) (by simp; omega) _
    case done2 =>
      rintro ys' W' hys ⟨⟨⟨⟨⟨⟨hq, bR2⟩, bM2⟩, bA2⟩, bB2⟩, bX2⟩, hBW, hKF⟩
      gi_wp2
      refine ⟨hKF, hBW, ⟨⟨⟨⟨fun z hz => (List.mem_append.1 hz).elim (hp z) (fun e y hy => ?_), bR2⟩, bM2⟩, bA2⟩, bB2⟩, hB1.trans hBW⟩
      simp at e
      subst e
      rw [← hys] at hy
      obtain ⟨y', hy', rfl⟩ := List.mem_map.1 hy
      exact hq y' hy'
    case stop2 =>
      rintro c pre' W' hpre ⟨⟨⟨rfl, y, hy, hd⟩, bR2⟩, hBW, hKF⟩
      gi_wp2
      exact ⟨hKF, ⟨⟨rfl, x, by simp, y.1, y.2, hd⟩, bR2⟩, hB1.trans hBW⟩
  case done =>
    rintro D zs W hD hzs ⟨⟨⟨⟨⟨hp, bR1⟩, bM1⟩, bA1⟩, bB1⟩, hB1⟩ hK
    have cR := bR1.cell
    have fR := bR1.frozen
    have hs : sameOn xs ys m = true := by
      unfold sameOn
      refine decide_eq_true fun x hx y hy => ?_
      rw [← hzs] at hx
      obtain ⟨x', hx', rfl⟩ := List.mem_map.1 hx
      exact hp x' hx' y hy
    have HS := Lib.hid hs
    gi_wp2
    have hK' := (KeepsOthers.setCell W ⟨w.heap.size + 1 + 1 + 1, 0, none⟩ (.bool true)).same D _ hK rfl
    refine ⟨by simp, .inl ⟨_, _, rfl, run_takeDeferred hK', ?_⟩⟩
    have hc5 := cell_kept (bR1.set (.bool true)).cell (grownBy_putObj' _ D (.deferred none)) (fun r e => by cases e; exact ⟨_, hK', rfl⟩)
    refine ⟨.bool true, ?_, by rw [HS.out], (hB1.setCell (p := ⟨w.heap.size + 1 + 1 + 1, 0, none⟩) (by simp; omega) _).trans (belowK_b (w := w) (Nat.le_refl _) _ D _ _ (by omega) hK' rfl rfl)⟩
    simp [results, Tryd.f28, go_sem, hc5]
  case stop =>
    rintro D c pre W hD hpre ⟨⟨⟨rfl, x, hx, y, hy, hd⟩, bR1⟩, hB1⟩ hK
    have hs : sameOn xs ys m = false := by
      unfold sameOn
      exact decide_eq_false fun h => hd (h x.1 x.2 y hy)
    have HS := Lib.hid hs
    gi_wp2
    refine ⟨by simp, .inl ⟨_, _, rfl, run_takeDeferred hK, ?_⟩⟩
    have hc5 := cell_kept bR1.cell (grownBy_putObj' _ D (.deferred none)) (fun r e => by cases e; exact ⟨_, hK, rfl⟩)
    refine ⟨.bool false, ?_, by rw [HS.out], hB1.trans (belowK_b (w := w) (Nat.le_refl _) W D _ _ (by omega) hK rfl rfl)⟩
    simp [results, Tryd.f28, go_sem, hc5]

theorem areSameOn_any (m : Nat) (hm : m < 256) (v u : Value) (xs ys : List Int) (w : World) (hT : Tab w) (hv : RdV w v xs) (hu : RdV w u ys) (hl : ys.length = xs.length) (hbit : ∀ t, m.testBit t = true → t < 8 → t < xs.length) :
    Calls Tryd.prog 28 #[.int .u64 m, v, u] w fun e W' => e = .returned (.bool (sameOn xs ys m)) ∧ Below w.heap.size w W' := by
  have h1 := hv
  have h2 := hu
  obtain ⟨ao, ca, rfl, _⟩ := h1
  obtain ⟨bo, cb, rfl, _⟩ := h2
  rw [hl] at hu ⊢
  exact callsIn_wide.1 (areSameOn_in 10 (by omega) m hm ao bo xs.length ca cb xs ys w hT hv hu hl hbit)

end Go.Proofs.YthkkolnohgibeaaDoor
