/-
  Slices of arcs: what reads as a list of arcs, what owns one; the contracts of (arc).crosses, (arc).nests.
-/
import Derived.Test.YtdeeeiimlcggpaaDoorKernel
import Derived.Test.YtdeeeiimlcggpaaDoorLine
import Derived.Test.YtdeeeiimlcggpaaDoorArcMath
namespace Go.Proofs.YtdeeeiimlcggpaaDoor
set_option linter.unusedSimpArgs false
set_option linter.unusedVariables false
set_option linter.unnecessarySimpa false
open Go.RowKit

/-- An arc as a value. -/
def arcV (p : Nat × Nat) : Value := .agg #[.int .i64 p.1, .int .i64 p.2]

theorem crosses_any (p q : Nat × Nat) (w : World) : Calls Tryd.prog 55 #[arcV p, arcV q] w fun e w' => e = .returned (.bool (crossB p q)) ∧ Below w.heap.size w w' := by
  obtain ⟨a, b⟩ := p
  obtain ⟨c, d⟩ := q
  unfold arcV
  by_cases h1 : a < c
  · by_cases h2 : c < b
    · have hr : crossB (a, b) (c, d) = decide (b < d) := by simp [crossB, h1, h2]
      rw [hr]
      go_enter Tryd.func55, Tryd.ntmps55
      go_wp2
      go_ret
      exact ⟨rfl, ((Below.refl _ _).alloc (Nat.le_refl _) _).alloc (by simp) _⟩
    · have hr : crossB (a, b) (c, d) = false := by simp [crossB, h2]
      rw [hr]
      go_enter Tryd.func55, Tryd.ntmps55
      go_wp2
      go_ret
      exact ⟨rfl, ((Below.refl _ _).alloc (Nat.le_refl _) _).alloc (by simp) _⟩
  · have hr : crossB (a, b) (c, d) = false := by simp [crossB, h1]
    rw [hr]
    go_enter Tryd.func55, Tryd.ntmps55
    go_wp2
    go_ret
    exact ⟨rfl, ((Below.refl _ _).alloc (Nat.le_refl _) _).alloc (by simp) _⟩

/-- The cells of a list of arcs. -/
def arcC (L : List (Nat × Nat)) : List Value := L.flatMap fun p => [.int .i64 p.1, .int .i64 p.2]

theorem arcC_length : ∀ L, (arcC L).length = L.length * 2 := by
  intro L
  induction L with
  | nil => rfl
  | cons p L ih => simp [arcC] at ih ⊢; omega

theorem arcC_append (L M : List (Nat × Nat)) : arcC (L ++ M) = arcC L ++ arcC M := by simp [arcC]

theorem arcC_at : ∀ (L : List (Nat × Nat)) (j : Nat), j < L.length → (arcC L)[j * 2]? = some (.int .i64 (L.getD j (0, 0)).1) ∧ (arcC L)[j * 2 + 1]? = some (.int .i64 (L.getD j (0, 0)).2) := by
  intro L
  induction L with
  | nil => intro j h; simp at h
  | cons p L ih =>
    intro j h
    have e : arcC (p :: L) = .int .i64 p.1 :: .int .i64 p.2 :: arcC L := rfl
    match j with
    | 0 => rw [e]; simp
    | j + 1 =>
      obtain ⟨h1, h2⟩ := ih j (by simp at h; omega)
      rw [e, show (j + 1) * 2 = j * 2 + 1 + 1 by omega]
      simp only [List.getElem?_cons_succ, List.getD_cons_succ]
      exact ⟨h1, h2⟩

/-- The slice value v, made since the heap had B blocks, holds the arcs L. -/
def OwnA (w : World) (B : Nat) (v : Value) (L : List (Nat × Nat)) : Prop := w.ownsRow B 62 2 v L.length (arcC L)

theorem ownA_nil (w : World) (B : Nat) : OwnA w B (.slice none 0 0) [] := World.ownsRow_nil _ _ _ _
theorem ownA_alloc {w : World} {B : Nat} {v : Value} {L : List (Nat × Nat)} (h : OwnA w B v L) (o : Obj) : OwnA (w.alloc o) B v L := World.ownsRow.alloc h o
theorem ownA_grown {w w' : World} {B : Nat} {v : Value} {L : List (Nat × Nat)} {row : Option Nat} (h : OwnA w B v L) (hg : w.grownBy w' row) (hne : v.ownBlock = none ∨ v.ownBlock ≠ row) : OwnA w' B v L := World.ownsRow.kept h hg hne
theorem ownA_below {w w' : World} {B : Nat} {v : Value} {L : List (Nat × Nat)} (h : OwnA w B v L) (hb : Below w.heap.size w w') : OwnA w' B v L :=
  ownA_grown h (grown_of_below hb) (by cases hv : v.ownBlock <;> simp)

/-- The value v is a slice that reads as the arcs L. -/
def RdA (w : World) (v : Value) (L : List (Nat × Nat)) : Prop :=
  ∃ ao cap, v = .slice ao L.length cap ∧ L.length ≤ cap ∧ cap ≤ maxLen ∧ (L = [] ∨ ∃ b, ao = some ⟨b, 0, none⟩ ∧
    ∀ j, j < L.length → w.cell? ⟨b, j * 2, none⟩ = some (.int .i64 (L.getD j (0, 0)).1) ∧ w.cell? ⟨b, j * 2 + 1, none⟩ = some (.int .i64 (L.getD j (0, 0)).2))

theorem ownA_rd {w : World} {B : Nat} {v : Value} {L : List (Nat × Nat)} (h : OwnA w B v L) : RdA w v L := by
  have h0 := h
  rcases h.2 with ⟨hv, hn⟩ | ⟨g, cap, cur, hv, hb, hg, hnc, hcm, hcs, htk⟩
  · have hL := List.eq_nil_of_length_eq_zero hn
    subst hL
    exact ⟨none, 0, hv, Nat.le_refl _, Nat.zero_le _, .inl rfl⟩
  · refine ⟨_, cap, hv, hnc, hcm, .inr ⟨g, rfl, fun j hj => ?_⟩⟩
    obtain ⟨h1, h2⟩ := arcC_at L j hj
    have hc := fun j u h => World.ownsRow.cells h0 (g := g) (by rw [hv]; rfl) j u h
    have e1 := hc _ _ h1
    have e2 := hc _ _ h2
    rw [Addr.add_lit, Nat.zero_add] at e1 e2
    exact ⟨e1, e2⟩

theorem rdA_below {w w' : World} {v : Value} {L : List (Nat × Nat)} (h : RdA w v L) (hb : Below w.heap.size w w') : RdA w' v L := by
  obtain ⟨ao, cap, h1, h2, h3, h4⟩ := h
  refine ⟨ao, cap, h1, h2, h3, ?_⟩
  rcases h4 with h4 | ⟨b, ha, hc⟩
  · exact .inl h4
  · refine .inr ⟨b, ha, fun j hj => ?_⟩
    obtain ⟨c1, c2⟩ := hc j hj
    rw [hb.cell (World.block_lt_of_cell? w _ c1), hb.cell (World.block_lt_of_cell? w _ c2)]
    exact ⟨c1, c2⟩

theorem Tryd.infoArc : (Tryd.prog.info? 62).map (fun i => (i.zero, i.size, i.bytes)) = some (some (.agg #[.int .i64 0, .int .i64 0]), 2, 16) := by kernel_rfl

/-- 'append(arcs, x)' onto a slice of the call's own. -/
theorem wpList_pushA {w : World} {ops : Array Oper} {rest : List Oper} {o : Oper} {a : Act} {Q : Exit → Act → World → Prop} (hgd : o.guard = none) (s x : Operand)
    (ho : o.op = .call { callee := .builtin .append, args := #[s, x], argTypes := #[63, 63] })
    (B : Nat) (v : Value) (L : List (Nat × Nat)) (hs : a.eval s = v) (hown : OwnA w B v L)
    (g : Nat) (hx : a.eval x = .slice (some ⟨g, 0, none⟩) 1 1) (p : Nat × Nat) (hc1 : w.cell? ⟨g, 0, none⟩ = some (.int .i64 p.1)) (hc2 : w.cell? ⟨g, 1, none⟩ = some (.int .i64 p.2)) (hl : L.length ≤ 1000000000) (hB : B ≤ w.heap.size)
    (h : ∀ v' w', OwnA w' B v' (L ++ [p]) → w.grownBy w' v.ownBlock → wpList Tryd.prog ops Q rest (a.put o.dst v') w') :
    wpList Tryd.prog ops Q (o :: rest) a w := by
  obtain ⟨i0, hi, hz0, hz1, hz2⟩ := info_parts Tryd.infoArc
  refine wpList_append_own w hgd s x 63 ho B 62 i0 (.agg #[.int .i64 0, .int .i64 0]) 2 16 Tryd.underlying63 hi hz0 hz1 hz2 rfl (by decide) v L.length (arcC L) hs hown ⟨g, 0, none⟩ 1 1 [.int .i64 p.1, .int .i64 p.2] hx rfl ?_ ?_ (by unfold maxLen; omega) (by omega) hB ?_
  · intro j u hj
    match j, hj with
    | 0, hj =>
      simp at hj
      subst hj
      simpa [Addr.add] using hc1
    | 1, hj =>
      simp at hj
      subst hj
      simpa [Addr.add] using hc2
  · intro u hu
    simp at hu
    rcases hu with rfl | rfl <;> rfl
  · intro v' w' ho' hg' _
    refine h v' w' ?_ hg'
    unfold OwnA
    rw [arcC_append, List.length_append]
    exact ho'

/-- What a function leaves that hands back a new slice of arcs. -/
def FreshA (w : World) (L : List (Nat × Nat)) (e : Ending) (w' : World) : Prop := ∃ v, e = .returned v ∧ OwnA w' w.heap.size v L ∧ Below w.heap.size w w'

theorem rd_drop {w : World} {b off : Nat} {xs : List Int} (h : ∀ j, j < xs.length → w.cell? ⟨b, off + j, none⟩ = some (.int .i64 (xs.getD j 0))) (k : Nat) : Rd w (some ⟨b, off + k, none⟩) (xs.drop k) := by
  refine .inr ⟨b, off + k, rfl, fun j hj => ?_⟩
  simp at hj
  have := h (k + j) (by omega)
  rw [← Nat.add_assoc] at this
  rw [this]
  simp [List.getD]

theorem slicesIndex_nil (ao : Option Addr) (m ca : Nat) (x : Int) (w : World) (hm : m = 0) : Calls Tryd.prog 75 #[.slice ao m ca, .int .i64 x] w fun e w' => e = .returned (.int .i64 (-1)) ∧ w = w' := by
  subst hm
  have := slicesIndex_no ao ca [] x w (.inl rfl) (by simp) (by simp)
  simpa using this

set_option maxHeartbeats 800000 in
theorem arcsOf_any (v : Value) (xs : List Int) (w : World) (hv : RdV w v xs) (hl8 : xs.length ≤ 1000000) : Calls Tryd.prog 56 #[v] w (FreshA w (arcsOf xs)) := by
  obtain ⟨ao, ca, rfl, hx, hlc, hcm⟩ := hv
  obtain ⟨n, hn⟩ : ∃ n, n = xs.length := ⟨_, rfl⟩
  rw [← hn] at hl8 hlc ⊢
  have HN := Lib.hid hn
  clear hn
  have HX := Lib.hid hx
  clear hx
  go_enter Tryd.func56, Tryd.ntmps56
  go_wp2
  go_loopw [3, 10] (fun u i wr => ∃ (k : Nat) (L : List (Nat × Nat)), k ≤ n ∧ i = .int .i64 k ∧ Hid (arcsOf xs = L ++ arcsFrom k (xs.drop k)) ∧ L.length ≤ k ∧ OwnA wr w.heap.size u L ∧ Below w.heap.size w wr)
    (fun _ i _ => n - (intOf i).toNat)
  case atStart => exact ⟨0, [], Nat.zero_le _, rfl, Lib.hid (by simp [arcsOf]), Nat.le_refl _, ownA_nil _ _, Below.refl _ _⟩
  case round =>
    obtain ⟨k, L, hk, rfl, HE, hLk, hown, hbel⟩ := hrel
    by_cases hlt : k < n
    · rcases HX.out with hx | ⟨bb, off, rfl, hcx⟩
      · have := HN.out
        rw [hx] at this
        simp at this
        omega
      have hcx' : ∀ j, j < xs.length → wr.cell? ⟨bb, off + j, none⟩ = some (.int .i64 (xs.getD j 0)) := fun j hj => by
        have := hcx j hj
        rw [hbel.cell (World.block_lt_of_cell? w _ this)]
        exact this
      have hck := hcx' k (by have := HN.out; omega)
      have HD := Lib.hid (rd_drop hcx' (k + 1))
      clear hcx hcx'
      have HDC := Lib.hid (drop_cons xs k (by have := HN.out; omega))
      obtain ⟨x, hx⟩ : ∃ x, x = xs.getD k 0 := ⟨_, rfl⟩
      rw [← hx] at hck HDC
      clear hx
      have HO := Lib.hid hown
      clear hown
      have HL := Lib.hid (show n - (k + 1) = (xs.drop (k + 1)).length by rw [HN.out, List.length_drop])
      by_cases hm : x ∈ xs.drop (k + 1)
      · have hil := List.idxOf_lt_length_of_mem hm
        have HST := Lib.hid (arcsFrom_yes (i := k) hm)
        have hk1 : k + 1 < n := by have := HL.out; omega
        have HM := Lib.hid hm
        rw [← HL.out] at hil
        clear hm
        go_wp2_with fail
        rw [HL.out]
        refine (slicesIndex_any _ _ _ _ _ HD.out (by have := HL.out; omega) HM.out).mono ?_
        rintro e w' ⟨rfl, rfl⟩
        rw [← HL.out]
        obtain ⟨s, hs⟩ : ∃ s, s = (xs.drop (k + 1)).idxOf x := ⟨_, rfl⟩
        rw [← hs] at hil HST ⊢
        clear hs
        have hs0 : (0 : Int) ≤ (s : Int) := by omega
        go_wp2_with (at_builtin; refine wpList_pushA rfl _ _ rfl w.heap.size u3 L rfl (ownA_alloc HO.out _) wr.heap.size rfl (k, k + 1 + s) (by simp) (by simp) (by omega) (by have := hbel.size; simp; omega) ?_; intro v9 w9 ho9 hg9)
        have hb9 : Below w.heap.size w w9 := (hbel.alloc hbel.size _).grown hg9 (by have := hbel.size; simp; omega) fun j hj => (World.ownsRow.lt HO.out j hj).1
        go_roundw
        case rel => exact ⟨k + 1, L ++ [(k, k + 1 + s)], by omega, by go_num, Lib.hid (by rw [HE.out, HDC.out, HST.out, List.append_assoc]; rfl), by simp; omega, ho9, hb9⟩
        case measure => simp [intOf]; omega
      · have HST := Lib.hid (arcsFrom_no (i := k) hm)
        have HM := Lib.hid (show ∀ j, j < (xs.drop (k + 1)).length → (xs.drop (k + 1)).getD j 0 ≠ x from fun j hj e => hm (mem_of_getD hj e))
        clear hm
        by_cases hk1 : k + 1 < n
        · go_wp2_with fail
          rw [HL.out]
          refine (slicesIndex_no _ _ _ _ _ HD.out (by have := HL.out; omega) HM.out).mono ?_
          rintro e w' ⟨rfl, rfl⟩
          rw [← HL.out]
          go_wp2
          go_roundw
          case rel => exact ⟨k + 1, L, by omega, by go_num, Lib.hid (by rw [HE.out, HDC.out, HST.out]), by omega, HO.out, hbel⟩
          case measure => simp [intOf]; omega
        · by_cases hca : ca = k + 1
          · subst hca
            go_wp2_with fail
            refine (slicesIndex_nil _ _ _ _ _ (by omega)).mono ?_
            rintro e w' ⟨rfl, rfl⟩
            go_wp2
            go_roundw
            case rel => exact ⟨k + 1, L, by omega, by go_num, Lib.hid (by rw [HE.out, HDC.out, HST.out]), by omega, HO.out, hbel⟩
            case measure => simp [intOf]; omega
          · go_wp2_with fail
            refine (slicesIndex_nil _ _ _ _ _ (by omega)).mono ?_
            rintro e w' ⟨rfl, rfl⟩
            go_wp2
            go_roundw
            case rel => exact ⟨k + 1, L, by omega, by go_num, Lib.hid (by rw [HE.out, HDC.out, HST.out]), by omega, HO.out, hbel⟩
            case measure => simp [intOf]; omega
    · have hkn : k = n := by omega
      subst hkn
      go_wp2
      go_ret
      have he := HE.out
      rw [HN.out, List.drop_length] at he
      rw [he]
      simp only [arcsFrom, List.append_nil]
      exact ⟨_, rfl, hown, hbel⟩

end Go.Proofs.YtdeeeiimlcggpaaDoor
