/-
  Slices of pairs: what reads as a list of pairs, what owns one; the contract of (sorted[pair]).with.
-/
import Derived.Test.YtieldehghmikkaaPairCmp
namespace Go.Proofs.Ytieldehghmikkaa
set_option linter.unusedSimpArgs false
set_option linter.unusedVariables false
set_option linter.unnecessarySimpa false
open Go.RowKit
set_option maxRecDepth 100000

/-- The slice value v, made since the heap had B blocks, holds the pairs L. -/
def OwnP (w : World) (B : Nat) (v : Value) (L : List (Nat × Nat)) : Prop := w.ownsRow B 53 2 v L.length (arcC L)

theorem ownP_nil (w : World) (B : Nat) : OwnP w B (.slice none 0 0) [] := World.ownsRow_nil _ _ _ _
theorem ownP_alloc {w : World} {B : Nat} {v : Value} {L : List (Nat × Nat)} (h : OwnP w B v L) (o : Obj) : OwnP (w.alloc o) B v L := World.ownsRow.alloc h o
theorem ownP_grown {w w' : World} {B : Nat} {v : Value} {L : List (Nat × Nat)} {row : Option Nat} (h : OwnP w B v L) (hg : w.grownBy w' row) (hne : v.ownBlock = none ∨ v.ownBlock ≠ row) : OwnP w' B v L := World.ownsRow.kept h hg hne
theorem ownP_below {w w' : World} {B : Nat} {v : Value} {L : List (Nat × Nat)} (h : OwnP w B v L) (hb : Below w.heap.size w w') : OwnP w' B v L :=
  ownP_grown h (grown_of_below hb) (by cases hv : v.ownBlock <;> simp)
theorem ownP_mono {w : World} {B B' : Nat} {v : Value} {L : List (Nat × Nat)} (h : OwnP w B v L) (hB : B' ≤ B) : OwnP w B' v L := by
  refine ⟨h.1, ?_⟩
  rcases h.2 with h2 | ⟨g, cap, cur, hv, hb, r⟩
  · exact .inl h2
  · exact .inr ⟨g, cap, cur, hv, by omega, r⟩

/-- The cells from (b, off) on read as the pairs L. -/
def CellsP (w : World) (b off : Nat) (L : List (Nat × Nat)) : Prop := ∀ j, j < L.length → w.cell? ⟨b, off + j * 2, none⟩ = some (.int .i64 (L.getD j (0, 0)).1) ∧ w.cell? ⟨b, off + j * 2 + 1, none⟩ = some (.int .i64 (L.getD j (0, 0)).2)
theorem cellsP_below {w w' : World} {b off : Nat} {L : List (Nat × Nat)} (h : CellsP w b off L) (hb : Below w.heap.size w w') : CellsP w' b off L := fun j hj => by
  obtain ⟨c1, c2⟩ := h j hj
  rw [hb.cell (World.block_lt_of_cell? w _ c1), hb.cell (World.block_lt_of_cell? w _ c2)]
  exact ⟨c1, c2⟩
theorem cellsP_drop {w : World} {b off : Nat} {L : List (Nat × Nat)} (h : CellsP w b off L) (k : Nat) : CellsP w b (off + k * 2) (L.drop k) := fun j hj => by
  simp at hj
  have := h (k + j) (by omega)
  rw [show off + k * 2 + j * 2 = off + (k + j) * 2 by omega]
  rw [show (L.drop k).getD j (0, 0) = L.getD (k + j) (0, 0) by simp [List.getD]]
  exact this

/-- The value v is a slice that reads as the pairs L. -/
def RdP (w : World) (v : Value) (L : List (Nat × Nat)) : Prop :=
  ∃ ao cap, v = .slice ao L.length cap ∧ L.length ≤ cap ∧ cap ≤ maxLen ∧ (L = [] ∨ ∃ b off, ao = some ⟨b, off, none⟩ ∧ CellsP w b off L)
theorem rdP_below {w w' : World} {v : Value} {L : List (Nat × Nat)} (h : RdP w v L) (hb : Below w.heap.size w w') : RdP w' v L := by
  obtain ⟨ao, cap, h1, h2, h3, h4⟩ := h
  refine ⟨ao, cap, h1, h2, h3, ?_⟩
  rcases h4 with h4 | ⟨b, off, ha, hc⟩
  · exact .inl h4
  · exact .inr ⟨b, off, ha, cellsP_below hc hb⟩

theorem ownP_view {w : World} {B : Nat} {v : Value} {L : List (Nat × Nat)} (h : OwnP w B v L) :
    (v = .slice none 0 0 ∧ L = []) ∨ ∃ g cap, v = .slice (some ⟨g, 0, none⟩) L.length cap ∧ B ≤ g ∧ g < w.heap.size ∧ L.length ≤ cap ∧ cap ≤ maxLen ∧ CellsP w g 0 L := by
  have h0 := h
  rcases h.2 with ⟨hv, hn⟩ | ⟨g, cap, cur, hv, hb, hg, hnc, hcm, hcs, htk⟩
  · exact .inl ⟨hv, List.eq_nil_of_length_eq_zero hn⟩
  · refine .inr ⟨g, cap, hv, hb, (Array.getElem?_eq_some_iff.1 hg).1, hnc, hcm, fun j hj => ?_⟩
    obtain ⟨h1, h2⟩ := arcC_at L j hj
    have hc := fun j u h => World.ownsRow.cells h0 (g := g) (by rw [hv]; rfl) j u h
    have e1 := hc _ _ h1
    have e2 := hc _ _ h2
    rw [Addr.add_lit] at e1 e2
    exact ⟨e1, by rw [show 0 + j * 2 + 1 = 0 + (j * 2 + 1) by omega]; exact e2⟩

theorem ownP_rd {w : World} {B : Nat} {v : Value} {L : List (Nat × Nat)} (h : OwnP w B v L) : RdP w v L := by
  rcases ownP_view h with ⟨rfl, rfl⟩ | ⟨g, cap, rfl, _, _, h1, h2, h3⟩
  · exact ⟨none, 0, rfl, Nat.le_refl _, Nat.zero_le _, .inl rfl⟩
  · exact ⟨_, cap, rfl, h1, h2, .inr ⟨g, 0, rfl, h3⟩⟩

theorem Try.infoPair : (Try.prog.info? 53).map (fun i => (i.zero, i.size, i.bytes)) = some (some (.agg #[.int .i64 0, .int .i64 0]), 2, 16) := by kernel_rfl

/-- 'append(pairs, x)' onto a slice of the call's own. -/
theorem wpList_pushP {w : World} {ops : Array Oper} {rest : List Oper} {o : Oper} {a : Act} {Q : Exit → Act → World → Prop} (hgd : o.guard = none) (s x : Operand)
    (ho : o.op = .call { callee := .builtin .append, args := #[s, x], argTypes := #[43, 43] })
    (B : Nat) (v : Value) (L : List (Nat × Nat)) (hs : a.eval s = v) (hown : OwnP w B v L)
    (g : Nat) (hx : a.eval x = .slice (some ⟨g, 0, none⟩) 1 1) (p : Nat × Nat) (hc1 : w.cell? ⟨g, 0, none⟩ = some (.int .i64 p.1)) (hc2 : w.cell? ⟨g, 1, none⟩ = some (.int .i64 p.2)) (hl : L.length ≤ 1000000000) (hB : B ≤ w.heap.size)
    (h : ∀ v' w', OwnP w' B v' (L ++ [p]) → w.grownBy w' v.ownBlock → wpList Try.prog ops Q rest (a.put o.dst v') w') :
    wpList Try.prog ops Q (o :: rest) a w := by
  obtain ⟨i0, hi, hz0, hz1, hz2⟩ := info_parts Try.infoPair
  refine wpList_append_own w hgd s x 43 ho B 53 i0 (.agg #[.int .i64 0, .int .i64 0]) 2 16 Try.underlying43 hi hz0 hz1 hz2 rfl (by decide) v L.length (arcC L) hs hown ⟨g, 0, none⟩ 1 1 [.int .i64 p.1, .int .i64 p.2] hx rfl ?_ ?_ (by unfold maxLen; omega) (by omega) hB ?_
  · intro j u hj
    match j, hj with
    | 0, hj =>
      simp at hj
      subst hj
      simpa [Addr.add] using hc1
    | 1, hj =>
      simp at hj
      subst hj
      simpa [Addr.add] using hc2
  · intro u hu
    simp at hu
    rcases hu with rfl | rfl <;> rfl
  · intro v' w' ho' hg' _
    refine h v' w' ?_ hg'
    unfold OwnP
    rw [arcC_append, List.length_append]
    exact ho'

/-- What a function leaves that hands back a new slice of pairs. -/
def FreshP (w : World) (L : List (Nat × Nat)) (e : Ending) (w' : World) : Prop := ∃ v, e = .returned v ∧ OwnP w' w.heap.size v L ∧ Below w.heap.size w w'

theorem method_pair (p : Nat × Nat) (w : World) : (method 220 53 (arcV p) "loop.example/setparts/impl.compare").run Try.prog w = .ok (115, arcV p) w := by kernel_rfl

theorem cellSt {w w' : World} {p : Addr} {v : Value} (h : w.cell? p = some v) (hb : Below w.heap.size w w') : w'.cell? p = some v := by
  rw [hb.cell (World.block_lt_of_cell? w _ h)]
  exact h

set_option maxHeartbeats 1600000 in
theorem with_yes (v : Value) (B : Nat) (L : List (Nat × Nat)) (p : Nat × Nat) (w : World) (ho : OwnP w B v L) (hB : B ≤ w.heap.size) (hl : L.length ≤ 100000000)
    (hp : L = [] ∨ cmpP (L.getD (L.length - 1) (0, 0)) p < 0) :
    Calls Try.prog 71 #[v, arcV p] w fun e w' => ∃ v', e = .returned (.tuple #[v', .bool true]) ∧ OwnP w' B v' (L ++ [p]) ∧ Below B w w' := by
  have HO := Lib.hid ho
  obtain ⟨a, b⟩ := p
  unfold arcV
  rcases L.eq_nil_or_concat with rfl | ⟨M, q, rfl⟩
  · obtain ⟨ao, cap, hv⟩ : ∃ ao cap, v = .slice ao 0 cap := by
      rcases ownP_view ho with ⟨h, _⟩ | ⟨g, cap, h, _⟩
      · exact ⟨_, _, h⟩
      · exact ⟨_, _, h⟩
    subst hv
    clear ho
    go_enter Try.func71, Try.ntmps71
    go_wp2
    go_quiet (fail)
    obtain ⟨W, hW⟩ : ∃ W, W = (w.alloc (.cells #[.int .i64 a, .int .i64 b] 53)).drewN nq := ⟨_, rfl⟩
    have f1 : W.cell? ⟨w.heap.size, 0, none⟩ = some (.int .i64 a) := by rw [hW]; exact (cells_two rfl).1
    have f2 : W.cell? ⟨w.heap.size, 1, none⟩ = some (.int .i64 b) := by rw [hW]; exact (cells_two rfl).2
    have hbW : Below B w W := by rw [hW]; exact below_drewN ((Below.refl _ _).alloc hB _) _
    have HOW : Hid (OwnP W B (.slice ao 0 cap) []) := Lib.hid (by rw [hW]; exact ownP_below HO.out (below_drewN ((Below.refl _ _).alloc (Nat.le_refl _) _) _))
    have hBW : B ≤ W.heap.size := by have := hbW.size; omega
    rw [← hW]
    clear hW
    go_wp2_with (at_builtin; refine wpList_pushP rfl _ _ rfl B _ [] rfl (ownP_alloc HOW.out _) W.heap.size rfl (a, b) (cells_two rfl).1 (cells_two rfl).2 (by simp) (by simp; omega) ?_; intro v9 w9 ho9 hg9)
    go_ret2
    refine ⟨_, rfl, ho9, (hbW.alloc hBW _).grown hg9 (by simp; omega) fun j hj => (World.ownsRow.lt HOW.out j hj).1⟩
  · obtain ⟨c, d⟩ := q
    rw [List.concat_eq_append] at HO ho hp ⊢
    have hlm : M.length ≤ 100000000 := by simp at hl; omega
    have hlen : (M ++ [(c, d)]).length = M.length + 1 := by simp
    have hlast : (M ++ [(c, d)]).getD M.length (0, 0) = (c, d) := by simp [List.getD]
    obtain ⟨g, cap, rfl, hg1, hg2, hg3, hg4, hc⟩ : ∃ g cap, v = .slice (some ⟨g, 0, none⟩) (M ++ [(c, d)]).length cap ∧ B ≤ g ∧ g < w.heap.size ∧ (M ++ [(c, d)]).length ≤ cap ∧ cap ≤ maxLen ∧ CellsP w g 0 (M ++ [(c, d)]) := by
      rcases ownP_view ho with ⟨_, h⟩ | h
      · simp at h
      · exact h
    have hcl := hc M.length (by rw [hlen]; omega)
    rw [hlast] at hcl
    obtain ⟨e1, e2⟩ := hcl
    rw [hlen, Nat.add_sub_cancel, hlast] at hp
    have hp2 : cmpP (c, d) (a, b) < 0 := by
      rcases hp with h | h
      · simp at h
      · exact h
    have hm : ∀ w1 : World, (method 220 53 (.agg #[.int .i64 c, .int .i64 d]) "loop.example/setparts/impl.compare").run Try.prog w1 = .ok (115, .agg #[.int .i64 c, .int .i64 d]) w1 := fun w1 => method_pair (c, d) w1
    have HC := Lib.hid fun (w1 : World) => compare_any (c, d) (a, b) w1
    obtain ⟨r, hr⟩ : ∃ r, r = cmpP (c, d) (a, b) := ⟨_, rfl⟩
    rw [← hr] at HC hp2
    obtain ⟨m, hm2⟩ : ∃ m, m = M.length := ⟨_, rfl⟩
    rw [hlen] at HO ⊢
    rw [← hm2] at HO e1 e2 hlm ⊢
    dsimp only at e1 e2
    rw [Nat.zero_add] at e1 e2
    have w1 : IntKind.i64.wrap ((m : Int)) = (m : Int) := IntWalk.i64_in _ (by omega)
    have b1 : (0 : Int) ≤ (m : Int) := by omega
    have b2 : (m : Int) < (m : Int) + 1 := by omega
    have HM := Lib.hid hm2
    clear hc hlast hp hr hm2 hlen hl hg3 ho
    unfold arcV at HC
    go_enter Try.func71, Try.ntmps71
    go_wp2
    obtain ⟨W, hW⟩ : ∃ W, W = (w.alloc (.cells #[.int .i64 a, .int .i64 b] 53)) := ⟨_, rfl⟩
    have f1 : W.cell? ⟨w.heap.size, 0, none⟩ = some (.int .i64 a) := by rw [hW]; exact (cells_two rfl).1
    have f2 : W.cell? ⟨w.heap.size, 1, none⟩ = some (.int .i64 b) := by rw [hW]; exact (cells_two rfl).2
    have f3 : W.cell? ⟨g, m * 2, none⟩ = some (.int .i64 c) := by rw [hW]; exact cellAl e1 _
    have f4 : W.cell? ⟨g, m * 2 + 1, none⟩ = some (.int .i64 d) := by rw [hW]; exact cellAl e2 _
    have hbW : Below w.heap.size w W := by rw [hW]; exact (Below.refl _ _).alloc (Nat.le_refl _) _
    rw [← hW]
    clear hW e1 e2
    go_region_held3 (fun w' => w'.cell? ⟨w.heap.size, 0, none⟩ = some (.int .i64 a) ∧ w'.cell? ⟨w.heap.size, 1, none⟩ = some (.int .i64 b) ∧ w'.cell? ⟨g, m * 2, none⟩ = some (.int .i64 c) ∧ w'.cell? ⟨g, m * 2 + 1, none⟩ = some (.int .i64 d)) (first | exact ⟨f1, f2, f3, f4⟩ | exact ⟨d1, d2, d3, d4⟩) (first | (go_at_call 115; refine (HC.out _).mono ?_; rintro e W5 ⟨rfl, hb5⟩; have d1 := cellSt (w := W.drew) f1 hb5; have d2 := cellSt (w := W.drew) f2 hb5; have d3 := cellSt (w := W.drew) f3 hb5; have d4 := cellSt (w := W.drew) f4 hb5))
    have hd : decide (0 ≤ r) = false := decide_eq_false (by omega)
    have hb6 : Below W.heap.size W W5 := below_step (below_drewN (Below.refl _ W) 1) hb5
    have HOW : Hid (OwnP W5 B (.slice (some ⟨g, 0, none⟩) (m + 1) cap) (M ++ [(c, d)])) := Lib.hid (ownP_below HO.out (below_step hbW hb6))
    have hbB : Below B w W5 := (below_step hbW hb6).mono hB
    have hBW : B ≤ W5.heap.size := by have := hbB.size; omega
    clear hb5 hb6 hbW d3 d4 f1 f2 f3 f4
    try rw [hd]
    clear hd hp2
    go_wp2_with (at_builtin; refine wpList_pushP rfl _ _ rfl B _ (M ++ [(c, d)]) rfl (ownP_alloc HOW.out _) W5.heap.size rfl (a, b) (cells_two rfl).1 (cells_two rfl).2 (by have := HM.out; simp; omega) (by simp; omega) ?_; intro v9 w9 ho9 hg9)
    go_ret2
    refine ⟨_, rfl, ho9, (hbB.alloc hBW _).grown hg9 (by simp; omega) fun j hj => (World.ownsRow.lt HOW.out j hj).1⟩

set_option maxHeartbeats 1600000 in
theorem with_no (v : Value) (B : Nat) (L : List (Nat × Nat)) (p : Nat × Nat) (w : World) (ho : OwnP w B v L) (hB : B ≤ w.heap.size) (hl : L.length ≤ 100000000)
    (hn : L ≠ []) (hp : ¬ cmpP (L.getD (L.length - 1) (0, 0)) p < 0) :
    Calls Try.prog 71 #[v, arcV p] w fun e w' => e = .returned (.tuple #[.slice none 0 0, .bool false]) ∧ Below B w w' := by
  have HO := Lib.hid ho
  obtain ⟨a, b⟩ := p
  unfold arcV
  rcases L.eq_nil_or_concat with rfl | ⟨M, q, rfl⟩
  · exact absurd rfl hn
  · obtain ⟨c, d⟩ := q
    rw [List.concat_eq_append] at HO ho hp hl
    have hlm : M.length ≤ 100000000 := by simp at hl; omega
    have hlen : (M ++ [(c, d)]).length = M.length + 1 := by simp
    have hlast : (M ++ [(c, d)]).getD M.length (0, 0) = (c, d) := by simp [List.getD]
    obtain ⟨g, cap, rfl, hg1, hg2, hg3, hg4, hc⟩ : ∃ g cap, v = .slice (some ⟨g, 0, none⟩) (M ++ [(c, d)]).length cap ∧ B ≤ g ∧ g < w.heap.size ∧ (M ++ [(c, d)]).length ≤ cap ∧ cap ≤ maxLen ∧ CellsP w g 0 (M ++ [(c, d)]) := by
      rcases ownP_view ho with ⟨_, h⟩ | h
      · simp at h
      · exact h
    have hcl := hc M.length (by rw [hlen]; omega)
    rw [hlast] at hcl
    obtain ⟨e1, e2⟩ := hcl
    rw [hlen, Nat.add_sub_cancel, hlast] at hp
    have hp2 : 0 ≤ cmpP (c, d) (a, b) := by omega
    have hm : ∀ w1 : World, (method 220 53 (.agg #[.int .i64 c, .int .i64 d]) "loop.example/setparts/impl.compare").run Try.prog w1 = .ok (115, .agg #[.int .i64 c, .int .i64 d]) w1 := fun w1 => method_pair (c, d) w1
    have HC := Lib.hid fun (w1 : World) => compare_any (c, d) (a, b) w1
    obtain ⟨r, hr⟩ : ∃ r, r = cmpP (c, d) (a, b) := ⟨_, rfl⟩
    rw [← hr] at HC hp2
    obtain ⟨m, hm2⟩ : ∃ m, m = M.length := ⟨_, rfl⟩
    rw [hlen] at HO ⊢
    rw [← hm2] at HO e1 e2 hlm ⊢
    dsimp only at e1 e2
    rw [Nat.zero_add] at e1 e2
    have w1 : IntKind.i64.wrap ((m : Int)) = (m : Int) := IntWalk.i64_in _ (by omega)
    have b1 : (0 : Int) ≤ (m : Int) := by omega
    have b2 : (m : Int) < (m : Int) + 1 := by omega
    have HM := Lib.hid hm2
    clear hc hlast hp hn hr hm2 hlen hl hg3 ho
    unfold arcV at HC
    go_enter Try.func71, Try.ntmps71
    go_wp2
    obtain ⟨W, hW⟩ : ∃ W, W = (w.alloc (.cells #[.int .i64 a, .int .i64 b] 53)) := ⟨_, rfl⟩
    have f1 : W.cell? ⟨w.heap.size, 0, none⟩ = some (.int .i64 a) := by rw [hW]; exact (cells_two rfl).1
    have f2 : W.cell? ⟨w.heap.size, 1, none⟩ = some (.int .i64 b) := by rw [hW]; exact (cells_two rfl).2
    have f3 : W.cell? ⟨g, m * 2, none⟩ = some (.int .i64 c) := by rw [hW]; exact cellAl e1 _
    have f4 : W.cell? ⟨g, m * 2 + 1, none⟩ = some (.int .i64 d) := by rw [hW]; exact cellAl e2 _
    have hbW : Below w.heap.size w W := by rw [hW]; exact (Below.refl _ _).alloc (Nat.le_refl _) _
    rw [← hW]
    clear hW e1 e2
    go_region_held3 (fun w' => w'.cell? ⟨w.heap.size, 0, none⟩ = some (.int .i64 a) ∧ w'.cell? ⟨w.heap.size, 1, none⟩ = some (.int .i64 b) ∧ w'.cell? ⟨g, m * 2, none⟩ = some (.int .i64 c) ∧ w'.cell? ⟨g, m * 2 + 1, none⟩ = some (.int .i64 d)) (first | exact ⟨f1, f2, f3, f4⟩ | exact ⟨d1, d2, d3, d4⟩) (first | (go_at_call 115; refine (HC.out _).mono ?_; rintro e W5 ⟨rfl, hb5⟩; have d1 := cellSt (w := W.drew) f1 hb5; have d2 := cellSt (w := W.drew) f2 hb5; have d3 := cellSt (w := W.drew) f3 hb5; have d4 := cellSt (w := W.drew) f4 hb5))
    have hd : decide (0 ≤ r) = true := decide_eq_true (by omega)
    have hb6 : Below W.heap.size W W5 := below_step (below_drewN (Below.refl _ W) 1) hb5
    have hbB : Below B w W5 := (below_step hbW hb6).mono hB
    clear hb5 hb6 hbW d1 d2 d3 d4 f1 f2 f3 f4
    try rw [hd]
    clear hd hp2
    go_wp2
    go_ret2
    exact ⟨rfl, hbB⟩

end Go.Proofs.Ytieldehghmikkaa
