/-
  The contracts of PairThree of both sides.
-/
import Derived.Test.YtieldehghmikkaaPairOther
import Derived.Test.YtieldehghmikkaaPairNear
import Derived.Laws.BitsAllLaws
import Derived.StillTailTactics
import Derived.Test.YtieldehghmikkaaBits
namespace Go.Proofs.Ytieldehghmikkaa
set_option linter.unusedSimpArgs false
set_option linter.unusedVariables false
set_option linter.unnecessarySimpa false
open Go.RowKit
set_option maxRecDepth 100000

/-- What PairThree answers. -/
def pairThree (n : Int) (ps : List (List Int)) : Int × Bool := if pairIn n ps then ((threeP n.toNat (decL ps) : Int), true) else (0, false)

theorem c3_step (L : List (Nat × Nat)) (a b c : Nat) (x1 x2 x3 : Bool) (h1 : x1 = L.contains (a, b)) (h2 : x2 = L.contains (a, c)) (h3 : x3 = L.contains (b, c)) (h : b < c) :
    c3 L (tripsC a b (c + 1)) = c3 L (tripsC a b c) + if ((if x1 then 1 else 0) + (if x2 then 1 else 0) + (if x3 then 1 else 0) == (2 : Nat)) then 1 else 0 := by
  subst h1 h2 h3
  rw [tripsC_next a b c h, c3_append, c3_one]
  rfl

set_option maxHeartbeats 8000000 in
theorem sPairThree_v (v : Value) (n : Int) (ps : List (List Int)) (w : World) (hv : RdM w v ps) (hw : (Lit.int .i64 n).wf = true) :
    Calls Try.prog 34 #[.int .i64 n, v] w (GivesIB w (pairThree n ps)) := by
  cases h : pairIn n ps with
  | true =>
    have hr : pairThree n ps = ((threeP n.toNat (decL ps) : Int), true) := by simp [pairThree, h]
    have HT := Lib.hid (sIn_is true hv h hw)
    obtain ⟨m, L, rfl, h1, h6, hs, he, hin, hl, hd⟩ := pair_open h
    rw [hr, hd, Int.toNat_natCast, ← c3_all]
    have HH := Lib.hid fun (i k : Nat) (w1 : World) (hb : Below w.heap.size w w1) => l8Has_any v L i k w1 (by rw [← he]; exact rdM_below hv hb)
    have HBD := Lib.hid fun (a b c : Nat) (ha : a ≤ m) (hb : b ≤ m) (hc : c ≤ m) => c3_bd (n := m) (by omega) ha hb hc L
    clear hr h he hin hl hd hs hv
    go_enter Try.func34, Try.ntmps34
    go_wp2_with fail
    refine HT.out.mono ?_
    rintro e w1 ⟨rfl, hb⟩
    go_wp2
    go_loopw [6, 7] (fun u i wr => ∃ (a : Nat), a ≤ m ∧ i = .int .i64 a ∧ u = .int .i64 ((c3 L (tripsA m a) : Nat) : Int) ∧ Below w.heap.size w wr) (fun _ i _ => m - (intOf i).toNat)
    case atStart => exact ⟨0, Nat.zero_le _, rfl, rfl, hb⟩
    case round =>
      obtain ⟨a, ha, rfl, rfl, hbel⟩ := hrel
      by_cases hlt : a < m
      · have HB1 := Lib.hid hbel
        obtain ⟨A0, hA0⟩ : ∃ A0, A0 = c3 L (tripsA m a) := ⟨_, rfl⟩
        have HA0 := Lib.hid hA0
        rw [← hA0]
        clear hbel hA0
        go_wp2
        go_loopw [6, 8] (fun u i wr => ∃ (b : Nat), a + 1 ≤ b ∧ b ≤ m ∧ i = .int .i64 b ∧ u = .int .i64 ((A0 + c3 L (tripsB m a b) : Nat) : Int) ∧ Below w.heap.size w wr) (fun _ i _ => m - (intOf i).toNat)
        case atStart => exact ⟨a + 1, Nat.le_refl _, by omega, by go_num, by rw [tripsB_start m a (a + 1) (Nat.le_refl _)]; rfl, HB1.out⟩
        case round =>
          obtain ⟨b, hb1, hb, rfl, rfl, hbel⟩ := hrel
          by_cases hbm : b < m
          · have HB2 := Lib.hid hbel
            obtain ⟨B0, hB0⟩ : ∃ B0, B0 = A0 + c3 L (tripsB m a b) := ⟨_, rfl⟩
            have HB0 := Lib.hid hB0
            rw [← hB0]
            clear hbel hB0
            go_wp2
            go_loopw [6, 9] (fun u i wr => ∃ (c : Nat), b + 1 ≤ c ∧ c ≤ m ∧ i = .int .i64 c ∧ u = .int .i64 ((B0 + c3 L (tripsC a b c) : Nat) : Int) ∧ Below w.heap.size w wr) (fun _ i _ => m - (intOf i).toNat)
            case atStart => exact ⟨b + 1, Nat.le_refl _, by omega, by go_num, by rw [tripsC_start a b (b + 1) (Nat.le_refl _)]; rfl, HB2.out⟩
            case round =>
              obtain ⟨c, hc1, hc, rfl, rfl, hbel⟩ := hrel
              by_cases hcm : c < m
              · have hbd := HBD.out a b c ha hb hc
                rw [← HA0.out, ← HB0.out] at hbd
                obtain ⟨x1, hx1⟩ : ∃ x1, x1 = L.contains (a, b) := ⟨_, rfl⟩
                obtain ⟨x2, hx2⟩ : ∃ x2, x2 = L.contains (a, c) := ⟨_, rfl⟩
                obtain ⟨x3, hx3⟩ : ∃ x3, x3 = L.contains (b, c) := ⟨_, rfl⟩
                have HST := Lib.hid (c3_step L a b c x1 x2 x3 hx1 hx2 hx3 (by omega))
                have H1 := Lib.hid fun (w1 : World) (hb : Below w.heap.size w w1) => hx1 ▸ HH.out a b w1 hb
                have H2 := Lib.hid fun (w1 : World) (hb : Below w.heap.size w w1) => hx2 ▸ HH.out a c w1 hb
                have H3 := Lib.hid fun (w1 : World) (hb : Below w.heap.size w w1) => hx3 ▸ HH.out b c w1 hb
                obtain ⟨q, hq⟩ : ∃ q, q = c3 L (tripsC a b c) := ⟨_, rfl⟩
                rw [← hq] at HST hbd ⊢
                obtain ⟨s, hs⟩ : ∃ s, s = B0 + q := ⟨_, rfl⟩
                rw [← hs] at hbd ⊢
                have HS := Lib.hid hs
                have hs0 : (0 : Int) ≤ (s : Int) := by omega
                have hs1 : (s : Int) ≤ 1000 := by omega
                clear hx1 hx2 hx3 hq hs hbd
                cases x1 <;> cases x2 <;> cases x3
                all_goals
                  go_wp2_with fail
                  refine (H1.out _ hbel).mono ?_
                  rintro e w2 ⟨rfl, hb2⟩
                  have HB3 := Lib.hid (below_step hbel hb2)
                  clear hb2
                  go_wp2_with fail
                  refine (H2.out _ HB3.out).mono ?_
                  rintro e w3 ⟨rfl, hb3⟩
                  have HB4 := Lib.hid (below_step HB3.out hb3)
                  clear hb3
                  go_wp2_with fail
                  refine (H3.out _ HB4.out).mono ?_
                  rintro e w4 ⟨rfl, hb4⟩
                  have HB5 := Lib.hid (below_step HB4.out hb4)
                  clear hb4
                  go_wp2
                  go_roundw
                  case rel => exact ⟨c + 1, by omega, by omega, by go_num, by rw [HST.out, HS.out]; simp <;> omega, HB5.out⟩
                  case measure => simp [intOf]; omega
              · have hcm' : c = m := by omega
                subst hcm'
                have hnx : c3 L (tripsB c a (b + 1)) = c3 L (tripsB c a b) + c3 L (tripsC a b c) := by rw [tripsB_next c a b (by omega), c3_append]
                have HNX := Lib.hid hnx
                have HB6 := Lib.hid hbel
                clear hnx hbel
                go_wp2
                go_roundw
                case rel => exact ⟨b + 1, by omega, by omega, by go_num, by rw [HNX.out, HB0.out, Nat.add_assoc], HB6.out⟩
                case measure => simp [intOf]; omega
          · have hbm' : b = m := by omega
            subst hbm'
            have hnx : c3 L (tripsA b (a + 1)) = c3 L (tripsA b a) + c3 L (tripsB b a b) := by rw [tripsA_next, c3_append]
            have HNX := Lib.hid hnx
            have HB6 := Lib.hid hbel
            clear hnx hbel
            go_wp2
            go_roundw
            case rel => exact ⟨a + 1, by omega, by go_num, by rw [HNX.out, HA0.out], HB6.out⟩
            case measure => simp [intOf]; omega
      · have ham : a = m := by omega
        subst ham
        go_wp2
        go_ret2
        exact ⟨rfl, hbel⟩
  | false =>
    have hr : pairThree n ps = (0, false) := by simp [pairThree, h]
    rw [hr]
    have HT := Lib.hid (sIn_is false hv h hw)
    clear hr h hv
    go_enter Try.func34, Try.ntmps34
    go_wp2_with fail
    refine HT.out.mono ?_
    rintro e w1 ⟨rfl, hb⟩
    go_wp2
    go_ret2
    exact ⟨rfl, hb⟩

/-- The slice value v, made since the heap had B blocks, holds sets of bits. -/
def OwnB (w : World) (B : Nat) (v : Value) (ns : List Nat) : Prop := w.ownsRow B 60 1 v ns.length (ns.map fun b => Value.int .u64 (b : Nat))
theorem ownB_cell {w : World} {B g n cap : Nat} {ns : List Nat} (h : OwnB w B (.slice (some ⟨g, 0, none⟩) n cap) ns) (j : Nat) (hj : j < ns.length) : w.cell? ⟨g, j, none⟩ = some (.int .u64 ((ns.getD j 0 : Nat) : Int)) := by
  have h0 := h
  unfold OwnB at h0
  rcases h.2 with ⟨h1, _⟩ | ⟨g', cap', cur, hv, _⟩
  · cases h1
  · simp only [Value.slice.injEq, Option.some.injEq, Addr.mk.injEq, and_true, true_and] at hv
    obtain ⟨rfl, rfl, rfl⟩ := hv
    have := World.ownsRow.cellAt h0 j (by omega)
    rw [this]
    simp [List.getD, hj]
theorem ownB_stored {w : World} {B g n cap : Nat} {ns : List Nat} (h : OwnB w B (.slice (some ⟨g, 0, none⟩) n cap) ns) (hn : n = ns.length) (j x : Nat) :
    OwnB (w.setCell ⟨g, j, none⟩ (.int .u64 (x : Int))) B (.slice (some ⟨g, 0, none⟩) n cap) (ns.set j x) := by
  subst hn
  have := (World.ownsRow.stored h j (.int .u64 (x : Int))).1
  unfold OwnB
  rw [List.length_set, List.map_set]
  exact this
theorem ownB_frozen {w : World} {B g n cap : Nat} {ns : List Nat} (h : OwnB w B (.slice (some ⟨g, 0, none⟩) n cap) ns) (hn : n = ns.length) (j : Nat) : w.frozen? ⟨g, j, none⟩ = false := by
  subst hn
  exact World.ownsRow.frozenAt h j
theorem ownB_below {w w' : World} {B : Nat} {v : Value} {ns : List Nat} (h : OwnB w B v ns) (hb : Below w.heap.size w w') : OwnB w' B v ns :=
  World.ownsRow.kept h (grown_of_below hb) (by cases hv : v.ownBlock <;> simp)
theorem ownB_made {w1 : World} {B g n : Nat} (h : w1.ownsRow B 60 1 (.slice (some ⟨g, 0, none⟩) n n) n (madeCells #[Value.int .u64 0] n).toList) : OwnB w1 B (.slice (some ⟨g, 0, none⟩) n n) (List.replicate n 0) := by
  unfold OwnB
  rw [toList_madeCells_one] at h
  simpa using h

theorem cellSetO {w : World} {p q : Addr} {v : Value} (h : p ≠ q) : (w.setCell p v).cell? q = w.cell? q := by
  first | exact World.cell?_setCell_other h | exact World.cell?_setCell_other _ h | exact World.cell?_setCell_other _ _ h | exact World.cell?_setCell_other _ _ _ h | exact World.cell?_setCell_other _ _ _ _ h

theorem with_still (b t : Nat) (w : World) (hb : b < 256) (ht : t < 8) : Calls Try.prog 57 #[.int .u64 b, .int .i64 t] w fun e w' => e = .returned (.int .u64 ((b ||| 2 ^ t : Nat) : Int)) ∧ w' = w :=
  (with_any b t w hb ht).mono fun e w' ⟨h1, h2⟩ => ⟨h1, h2.symm⟩

set_option maxHeartbeats 8000000 in
theorem iPairThree_v (v : Value) (n : Int) (ps : List (List Int)) (w : World) (hv : RdM w v ps) (hwf : (Lit.int .i64 n).wf = true) :
    Calls Try.prog 35 #[.int .i64 n, v] w (GivesIB w (pairThree n ps)) := by
  cases h : pairIn n ps with
  | true =>
    have hr : pairThree n ps = ((threeP n.toNat (decL ps) : Int), true) := by simp [pairThree, h]
    obtain ⟨m, L, rfl, h1, h6, hs, he, hin, hl, hd⟩ := pair_open h
    have hord : ∀ p ∈ L, p.1 < p.2 ∧ p.2 < m := fun q hq => mem_allP.1 (show (q.1, q.2) ∈ allP m from hs.subset hq)
    have hN := Lib.hid (near_lt m (by omega) L hord)
    rw [hr, hd, Int.toNat_natCast, ← three_near (by omega) hs]
    have HT := Lib.hid (told_yes hv h hd)
    have HOT := Lib.hid fun (w1 : World) (u : Value) (hu : RdP w1 u L) => othersOf_any m u L w1 hu hs h1 h6
    have HORD := Lib.hid hord
    have hlt15 := hl
    have HOL := Lib.hid (otherP_len h6 L)
    have HOIN := Lib.hid (inN_of_sub (otherP_sub m L))
    obtain ⟨i0, hi, hz0, hz1, hz2⟩ := info_parts Try.infoBlock
    clear hr h he hin hd hs hv hord hl
    go_enter Try.func35, Try.ntmps35
    go_wp2_with fail
    refine HT.out.mono ?_
    rintro e w1 ⟨u, rfl, ho, hb⟩
    obtain ⟨ao, ca, rfl, hlc, hcm, hx⟩ := ownP_rd ho
    unfold maxLen at hcm
    obtain ⟨l, hle⟩ : ∃ l, l = L.length := ⟨_, rfl⟩
    rw [← hle] at hlc hlt15 ⊢
    have HLE := Lib.hid hle
    have HX := Lib.hid hx
    have HRD : Hid (RdP w1 (.slice ao l ca) L) := Lib.hid (by rw [hle]; exact ownP_rd ho)
    clear ho hle hx
    go_wp2_with (at_make; refine wpList_make_full _ rfl _ _ 58 rfl w1.heap.size 60 i0 (.int .u64 0) 1 Try.underlying58 hi hz0 hz1 _ _ _ _ m rfl rfl rfl rfl (by rw [hz2]; omega) (by unfold maxLen; omega) (Nat.le_refl _) ?_)
    intro w2 hown2 hgrow2
    have hb2 : Below w1.heap.size w1 w2 := (Below.refl _ _).grown hgrow2 (Nat.le_refl _) (fun k h => by cases h)
    have HO2 := Lib.hid (ownB_made hown2)
    have hg2 := (World.ownsRow.lt hown2 _ rfl).2
    clear hown2 hgrow2
    go_wp2
    go_loopw [26] (fun i wr => ∃ k : Nat, k ≤ l ∧ i = .int .i64 k ∧ OwnB wr w1.heap.size (.slice (some ⟨w1.heap.size, 0, none⟩) m m) (nearTo m L k) ∧ Below w1.heap.size w1 wr) (fun i _ => l - (intOf i).toNat)
    case atStart => exact ⟨0, Nat.zero_le _, rfl, by simpa [nearTo] using HO2.out, hb2⟩
    case round =>
      obtain ⟨k, hk, rfl, hown, hbel⟩ := hrel
      have HO := Lib.hid hown
      have hbs := hbel.size
      by_cases hlt : k < l
      · rcases HX.out with hx | ⟨bb, off, rfl, hcx⟩
        · have := HLE.out
          rw [hx] at this
          simp at this
          omega
        have hcx' := hcx k (by have := HLE.out; omega)
        have hc1 := cellSt hcx'.1 hbel
        have hc2 := cellSt hcx'.2 hbel
        have hpn := HORD.out (L.getD k (0, 0)) (by have h : k < L.length := (by have := HLE.out; omega); rw [show L.getD k (0, 0) = L[k] by simp [List.getD, h]]; exact List.getElem_mem h)
        have hnx := nearTo_next m L k (by have := HLE.out; omega)
        have hnl := nearTo_len m L k
        have hn256 := hN.out k
        obtain ⟨⟨a, b⟩, hy⟩ : ∃ y, y = L.getD k (0, 0) := ⟨_, rfl⟩
        rw [← hy] at hc1 hc2 hpn hnx
        dsimp only at hc1 hc2 hpn
        obtain ⟨hab, hbm⟩ := hpn
        obtain ⟨ns, hns⟩ : ∃ ns, ns = nearTo m L k := ⟨_, rfl⟩
        rw [← hns] at hnx hnl hn256 HO
        have hst : nearStep ns (a, b) = (ns.set a (ns.getD a 0 ||| 2 ^ b)).set b (ns.getD b 0 ||| 2 ^ a) := rfl
        rw [hst] at hnx
        have hna := hn256 a
        have hnb := hn256 b
        obtain ⟨p, hp⟩ : ∃ p, p = ns.getD a 0 := ⟨_, rfl⟩
        obtain ⟨q, hq⟩ : ∃ q, q = ns.getD b 0 := ⟨_, rfl⟩
        rw [← hp] at hnx hna
        rw [← hq] at hnx hnb
        have HNX := Lib.hid hnx
        have HNL := Lib.hid hnl
        have b0 : (k : Int) < l := by omega
        have b1 : (a : Int) < m := by omega
        have b2 : (b : Int) < m := by omega
        have b3 : (0 : Int) ≤ (a : Int) := by omega
        have b4 : (0 : Int) ≤ (b : Int) := by omega
        have e1 := ownB_cell HO.out a (by rw [HNL.out]; omega)
        have e2 := ownB_cell HO.out b (by rw [HNL.out]; omega)
        rw [← hp] at e1
        rw [← hq] at e2
        have hbk : bb < w1.heap.size := World.block_lt_of_cell? w1 _ hcx'.1
        clear hcx hcx' hy hns hst hnx hnl hn256 hp hq
        go_wp2
        obtain ⟨W, hW⟩ : ∃ W, W = wr.alloc (.cells #[.int .i64 a, .int .i64 b] 53) := ⟨_, rfl⟩
        have f1 : W.cell? ⟨wr.heap.size, 0, none⟩ = some (.int .i64 a) := by rw [hW]; exact (cells_two rfl).1
        have f2 : W.cell? ⟨wr.heap.size, 1, none⟩ = some (.int .i64 b) := by rw [hW]; exact (cells_two rfl).2
        have f3 : W.cell? ⟨w1.heap.size, a, none⟩ = some (.int .u64 (p : Int)) := by rw [hW]; exact cellAl e1 _
        have f4 : W.cell? ⟨w1.heap.size, b, none⟩ = some (.int .u64 (q : Int)) := by rw [hW]; exact cellAl e2 _
        have hbW : Below w1.heap.size w1 W := by rw [hW]; exact hbel.alloc hbs _
        have HOW : Hid (OwnB W w1.heap.size (.slice (some ⟨w1.heap.size, 0, none⟩) m m) ns) := Lib.hid (by rw [hW]; exact ownB_below HO.out ((Below.refl _ _).alloc (Nat.le_refl _) _))
        rw [← hW]
        have hgw : w1.heap.size < wr.heap.size := by
          have := World.block_lt_of_cell? wr _ e1
          exact this
        clear hW e1 e2 hc1 hc2 hown
        refine wp_region_still_tail 12 (by kernel_rfl) (by kernel_rfl) ?_
        simp only [List.take_succ_cons, List.take_zero, List.drop_succ_cons, List.drop_zero]
        repeat still_step
        still_call (with_still p b _ hna (by omega))
        repeat still_step
        refine wpStill_nil ?_
        change wpList _ _ _ _ _ W.drew
        obtain ⟨r, hr⟩ : ∃ r, r = p ||| 2 ^ b := ⟨_, rfl⟩
        obtain ⟨r2, hr2⟩ : ∃ r2, r2 = q ||| 2 ^ a := ⟨_, rfl⟩
        rw [← hr]
        rw [← hr, ← hr2] at HNX
        obtain ⟨W5, hW5⟩ : ∃ W5, W5 = W.drew := ⟨_, rfl⟩
        have g1 : W5.cell? ⟨wr.heap.size, 0, none⟩ = some (.int .i64 a) := by rw [hW5]; exact f1
        have g2 : W5.cell? ⟨wr.heap.size, 1, none⟩ = some (.int .i64 b) := by rw [hW5]; exact f2
        have g3 : W5.cell? ⟨w1.heap.size, a, none⟩ = some (.int .u64 (p : Int)) := by rw [hW5]; exact f3
        have g4 : W5.cell? ⟨w1.heap.size, b, none⟩ = some (.int .u64 (q : Int)) := by rw [hW5]; exact f4
        have hb5 : Below w1.heap.size w1 W5 := by rw [hW5]; exact hbW.drew
        have ho5 : OwnB W5 w1.heap.size (.slice (some ⟨w1.heap.size, 0, none⟩) m m) ns := by rw [hW5]; exact ownB_below HOW.out (Below.refl _ _).drew
        have hf5 := ownB_frozen ho5 HNL.out.symm a
        rw [← hW5]
        obtain ⟨W6, hW6⟩ : ∃ W6, W6 = W5.setCell ⟨w1.heap.size, a, none⟩ (.int .u64 (r : Int)) := ⟨_, rfl⟩
        have j1 : W6.cell? ⟨wr.heap.size, 0, none⟩ = some (.int .i64 a) := by rw [hW6, cellSetO (by intro e; simp at e <;> omega)]; exact g1
        have j2 : W6.cell? ⟨wr.heap.size, 1, none⟩ = some (.int .i64 b) := by rw [hW6, cellSetO (by intro e; simp at e <;> omega)]; exact g2
        have j4 : W6.cell? ⟨w1.heap.size, b, none⟩ = some (.int .u64 (q : Int)) := by rw [hW6, cellSetO (by intro e; simp at e <;> omega)]; exact g4
        have ho6 : OwnB W6 w1.heap.size (.slice (some ⟨w1.heap.size, 0, none⟩) m m) (ns.set a r) := by rw [hW6]; exact ownB_stored ho5 HNL.out.symm a r
        have hb6 : Below w1.heap.size w1 W6 := by rw [hW6]; exact hb5.setCell (Nat.le_refl _) _
        have HO6 := Lib.hid ho6
        have HB6 := Lib.hid hb6
        have HR2 := Lib.hid hr2
        clear hW5 f1 f2 f3 f4 hbW hb5 ho5 g1 g2 g4 ho6 hb6 hr hr2
        go_wp2
        rw [← hW6]
        clear hW6 g3 hf5
        have hbk : w1.heap.size < W6.heap.size := World.block_lt_of_cell? W6 _ j4
        refine wp_region_still_tail 12 (by kernel_rfl) (by kernel_rfl) ?_
        simp only [List.take_succ_cons, List.take_zero, List.drop_succ_cons, List.drop_zero]
        repeat still_step
        still_call (with_still q a _ hnb (by omega))
        repeat still_step
        refine wpStill_nil ?_
        change wpList _ _ _ _ _ W6.drew
        rw [← HR2.out]
        obtain ⟨W7, hW7⟩ : ∃ W7, W7 = W6.drew := ⟨_, rfl⟩
        have g4 : W7.cell? ⟨w1.heap.size, b, none⟩ = some (.int .u64 (q : Int)) := by rw [hW7]; exact j4
        have ho7 : OwnB W7 w1.heap.size (.slice (some ⟨w1.heap.size, 0, none⟩) m m) (ns.set a r) := by rw [hW7]; exact ownB_below HO6.out (Below.refl _ _).drew
        have hf7 := ownB_frozen ho7 (by rw [List.length_set, HNL.out]) b
        have HB7 : Hid (Below w1.heap.size w1 W7) := Lib.hid (by rw [hW7]; exact HB6.out.drew)
        have HO8 := Lib.hid (ownB_stored ho7 (by rw [List.length_set, HNL.out]) b r2)
        rw [← hW7]
        clear hW7 j1 j2 j4 ho7
        go_wp2
        go_roundw
        case rel => exact ⟨k + 1, by omega, by go_num, by rw [HNX.out]; exact HO8.out, HB7.out.setCell (Nat.le_refl _) _⟩
        case measure => simp [intOf]; omega
      · have hkl : k = l := by omega
        have hbw := below_step hb hbel
        have HRD2 := Lib.hid (rdP_below HRD.out hbel)
        subst hkl
        obtain ⟨ns, hns⟩ : ∃ ns, ns = nearTo m L k := ⟨_, rfl⟩
        have hnl : ns.length = m := by rw [hns]; exact nearTo_len m L k
        have hn256 : ∀ i, ns.getD i 0 < 256 := by rw [hns]; exact hN.out k
        rw [← hns] at HO
        have HBO : Hid (∀ p : Nat × Nat, both m L p = cnt (ns.getD p.1 0 &&& ns.getD p.2 0)) := Lib.hid fun p => by rw [hns, HLE.out]; rfl
        have HNL := Lib.hid hnl
        have HN2 := Lib.hid hn256
        clear hns hown hnl hn256
        go_wp2_with fail
        refine (HOT.out _ _ HRD2.out).mono ?_
        rintro e w3 ⟨u3, rfl, hr3, hb3⟩
        obtain ⟨X, hX⟩ : ∃ X, X = otherP m L := ⟨_, rfl⟩
        rw [← hX] at hr3 HOL HOIN ⊢
        obtain ⟨xo, xc, rfl, hxc, hxm, hxx⟩ := hr3
        unfold maxLen at hxm
        obtain ⟨t, htl⟩ : ∃ t, t = X.length := ⟨_, rfl⟩
        have htb := HOL.out
        rw [← htl] at hxc htb ⊢
        have HTL := Lib.hid htl
        have HXX := Lib.hid hxx
        have HB3 := Lib.hid (below_step hbw hb3)
        have HO3 := Lib.hid (ownB_below HO.out hb3)
        obtain ⟨F, hF⟩ : ∃ F, F = both m L := ⟨_, rfl⟩
        rw [← hF] at HBO ⊢
        have HEND : Hid (((X.take t).map F).sum = (X.map F).sum) := Lib.hid (by rw [htl, List.take_length])
        have HXE := Lib.hid hX
        have HFE := Lib.hid hF
        clear hX hxx hb3 htl hF
        go_wp2
        go_loopw [11, 59] (fun u i wr => ∃ j : Nat, j ≤ t ∧ i = .int .i64 j ∧ u = .int .i64 ((((X.take j).map F).sum : Nat) : Int) ∧ ((X.take j).map F).sum ≤ j * 8 ∧ OwnB wr w1.heap.size (.slice (some ⟨w1.heap.size, 0, none⟩) m m) ns ∧ Below w3.heap.size w3 wr) (fun _ i _ => t - (intOf i).toNat)
        case atStart => exact ⟨0, Nat.zero_le _, rfl, rfl, by simp, HO3.out, Below.refl _ _⟩
        case round =>
          obtain ⟨j, hj, rfl, rfl, hsum, hown, hbel⟩ := hrel
          by_cases hjt : j < t
          · rcases HXX.out with hx | ⟨bb, off, rfl, hcx⟩
            · have := HTL.out
              rw [hx] at this
              simp at this
              omega
            have hcx' := hcx j (by have := HTL.out; omega)
            have hc1 := cellSt hcx'.1 hbel
            have hc2 := cellSt hcx'.2 hbel
            have hlj : j < X.length := by have := HTL.out; omega
            have hpn := HOIN.out (X.getD j (0, 0)) (by rw [show X.getD j (0, 0) = X[j] by simp [List.getD, hlj]]; exact List.getElem_mem hlj)
            have hts : ((X.take (j + 1)).map F).sum = ((X.take j).map F).sum + F (X.getD j (0, 0)) := by
              rw [take_snocP X j hlj, List.map_append, List.sum_append]
              simp
            obtain ⟨⟨a, b⟩, hy⟩ : ∃ y, y = X.getD j (0, 0) := ⟨_, rfl⟩
            rw [← hy] at hc1 hc2 hpn hts
            dsimp only at hc1 hc2 hpn
            obtain ⟨ha, hb'⟩ := hpn
            have e1 := ownB_cell hown a (by rw [HNL.out]; omega)
            have e2 := ownB_cell hown b (by rw [HNL.out]; omega)
            have hna := HN2.out a
            have hnb := HN2.out b
            have hbo := HBO.out (a, b)
            dsimp only at hbo
            obtain ⟨p, hp⟩ : ∃ p, p = ns.getD a 0 := ⟨_, rfl⟩
            obtain ⟨q, hq⟩ : ∃ q, q = ns.getD b 0 := ⟨_, rfl⟩
            rw [← hp] at e1 hna hbo
            rw [← hq] at e2 hnb hbo
            have hand := u64_and_nat p q (by omega) (by omega)
            have hpq : p &&& q < 256 := Nat.lt_of_le_of_lt Nat.and_le_left hna
            obtain ⟨s, hs⟩ : ∃ s, s = ((X.take j).map F).sum := ⟨_, rfl⟩
            rw [← hs] at hts hsum ⊢
            obtain ⟨d, hd⟩ : ∃ d, d = p &&& q := ⟨_, rfl⟩
            rw [← hd] at hand hpq hbo
            have hcd : cnt d ≤ 8 := by
              unfold cnt
              have := List.length_filter_le (fun t => d.testBit t) (List.range 8)
              simpa using this
            have HSZ := Lib.hid fun (w5 : World) => size_any d w5 hpq
            obtain ⟨z, hz⟩ : ∃ z, z = cnt d := ⟨_, rfl⟩
            rw [← hz] at HSZ hbo hcd
            rw [hbo] at hts
            have HTS := Lib.hid hts
            have HOW := Lib.hid hown
            have b0 : (j : Int) < t := by omega
            have b1 : (a : Int) < m := by omega
            have b2 : (b : Int) < m := by omega
            have b3 : (0 : Int) ≤ (a : Int) := by omega
            have b4 : (0 : Int) ≤ (b : Int) := by omega
            have hbs3 := hbel.size
            have s0 : (0 : Int) ≤ (s : Int) := by omega
            have s1 : (s : Int) ≤ 1000 := by omega
            have z1 : (z : Int) ≤ 8 := by omega
            have z0 : (0 : Int) ≤ (z : Int) := by omega
            clear hcx hcx' hy hlj hts hbo hp hq hs hd hz hown
            go_wp2
            obtain ⟨W, hW⟩ : ∃ W, W = wr.alloc (.cells #[.int .i64 a, .int .i64 b] 53) := ⟨_, rfl⟩
            have f1 : W.cell? ⟨wr.heap.size, 0, none⟩ = some (.int .i64 a) := by rw [hW]; exact (cells_two rfl).1
            have f2 : W.cell? ⟨wr.heap.size, 1, none⟩ = some (.int .i64 b) := by rw [hW]; exact (cells_two rfl).2
            have f3 : W.cell? ⟨w1.heap.size, a, none⟩ = some (.int .u64 (p : Int)) := by rw [hW]; exact cellAl e1 _
            have f4 : W.cell? ⟨w1.heap.size, b, none⟩ = some (.int .u64 (q : Int)) := by rw [hW]; exact cellAl e2 _
            have hbW : Below w3.heap.size w3 W := by rw [hW]; exact hbel.alloc hbs3 _
            have HOW2 : Hid (OwnB W w1.heap.size (.slice (some ⟨w1.heap.size, 0, none⟩) m m) ns) := Lib.hid (by rw [hW]; exact ownB_below HOW.out ((Below.refl _ _).alloc (Nat.le_refl _) _))
            rw [← hW]
            clear hW e1 e2 hc1 hc2
            go_quiet ((go_at_call 59; exact quiet_left (HSZ.out _)))
            have hbq := below_drewN hbW nq
            have HBQ := Lib.hid hbq
            have HOQ := Lib.hid (ownB_below HOW2.out (below_drewN (Below.refl _ W) nq))
            clear hbq hbW
            go_wp2
            go_roundw
            case rel => exact ⟨j + 1, by omega, by go_num, by rw [HTS.out]; go_num, by rw [HTS.out]; omega, HOQ.out, HBQ.out⟩
            case measure => simp [intOf]; omega
          · have hjt' : j = t := by omega
            subst hjt'
            rw [HEND.out]
            go_wp2
            go_ret2
            rw [HXE.out, HFE.out]
            exact ⟨rfl, below_step HB3.out hbel⟩
  | false =>
    have hr : pairThree n ps = (0, false) := by simp [pairThree, h]
    rw [hr]
    have HT := Lib.hid (told_no hv h)
    clear hr h hv
    go_enter Try.func35, Try.ntmps35
    go_wp2_with fail
    refine HT.out.mono ?_
    rintro e w1 ⟨u, rfl, ho, hb⟩
    go_wp2
    go_ret2
    exact ⟨rfl, hb⟩

end Go.Proofs.Ytieldehghmikkaa
