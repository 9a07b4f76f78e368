/-
  The contracts of ArcPlain and ArcCount of both sides.
-/
import Derived.Test.YtipmafplpoadjaaLinesThat
import Derived.Test.YtipmafplpoadjaaArcNum
import Derived.Test.YtipmafplpoadjaaListsU
import Derived.Laws.EntriesVeiled
namespace Go.Proofs.Ytipmafplpoadjaa
set_option linter.unusedSimpArgs false
set_option linter.unusedVariables false
set_option linter.unnecessarySimpa false
open Go.RowKit
set_option maxRecDepth 100000

theorem cell_stays {w w' : World} {b off : Nat} {v : Value} (h : w.cell? ⟨b, off, none⟩ = some v) (hb : Below w.heap.size w w') : w'.cell? ⟨b, off, none⟩ = some v := by
  rw [hb.cell (World.block_lt_of_cell? w _ h)]
  exact h

def plainP (L : List (Nat × Nat)) : Bool := (pairsL crossB L : Int) == 0
def countP2 (c m : Int) (L : List (Nat × Nat)) : Bool := ((pairsL crossB L : Int) == c) && ((pairsL nestB L : Int) == m)

theorem pairs_arcs (g : Nat × Nat → Nat × Nat → Bool) (f : FuncId) (hf : ArcFn f g) (hi : IsFn f) (xs : List Int) (hp : partIn xs = true) (u : Value) (W : World) (hu : RdA W u (arcsOf xs)) :
    Calls Try.prog 59 #[.func (.func f) #[] #[], u] W (GivesI W (pairsL g (arcsOf xs) : Nat)) :=
  pairsThat_any f g hf hi u (arcsOf xs) W hu ((arcsFrom_sorted xs 0).imp fun h => h.1) (by have := arcsOf_len xs; have := partIn_len hp; omega)

theorem plain_fn : IsFn 68 := fun args w => by kernel_rfl
theorem count_fn : IsFn 71 := fun args w => by kernel_rfl

theorem plain_fit (w0 : World) : FitFn 68 #[] w0 plainP := by
  intro xs W u hp hb hu
  have HQ := Lib.hid (pairs_arcs crossB _ cross_arc cross_fn xs hp u W hu)
  unfold plainP
  obtain ⟨c, hc⟩ : ∃ c, c = pairsL crossB (arcsOf xs) := ⟨_, rfl⟩
  rw [← hc] at HQ ⊢
  clear hp hu hc hb
  show Calls _ _ #[u] _ _
  go_enter Try.func68, Try.ntmps68
  go_wp2_with fail
  refine HQ.out.mono ?_
  rintro e w1 ⟨rfl, hb1⟩
  go_wp2
  go_ret
  exact ⟨rfl, hb1⟩

set_option maxHeartbeats 1600000 in
theorem count_fit (w0 : World) (bc bm : Nat) (c m : Int) (h1 : w0.cell? ⟨bc, 0, none⟩ = some (.int .i64 c)) (h2 : w0.cell? ⟨bm, 0, none⟩ = some (.int .i64 m)) :
    FitFn 71 #[.pointer (some ⟨bc, 0, none⟩), .pointer (some ⟨bm, 0, none⟩)] w0 (countP2 c m) := by
  intro xs W u hp hb hu
  have HX := Lib.hid fun (W1 : World) (hu1 : RdA W1 u (arcsOf xs)) => pairs_arcs crossB _ cross_arc cross_fn xs hp u W1 hu1
  have HY := Lib.hid fun (W1 : World) (hu1 : RdA W1 u (arcsOf xs)) => pairs_arcs nestB _ nest_arc nest_fn xs hp u W1 hu1
  have hc0 := cell_stays h1 hb
  have hc1 := cell_stays h2 hb
  unfold countP2
  obtain ⟨x, hx⟩ : ∃ x, x = pairsL crossB (arcsOf xs) := ⟨_, rfl⟩
  obtain ⟨y, hy⟩ : ∃ y, y = pairsL nestB (arcsOf xs) := ⟨_, rfl⟩
  rw [← hx] at HX ⊢
  rw [← hy] at HY ⊢
  have HU := Lib.hid hu
  clear hp hu hx hy hb h1 h2
  show Calls _ _ #[u, .pointer (some ⟨bc, 0, none⟩), .pointer (some ⟨bm, 0, none⟩)] _ _
  by_cases e1 : (x : Int) = c
  · have hr : (((x : Int) == c) && ((y : Int) == m)) = ((y : Int) == m) := by simp [e1]
    have hd : ((x : Int) == c) = true := by simpa using e1
    rw [hr]
    clear e1 hr
    go_enter Try.func71, Try.ntmps71
    go_wp2_with fail
    go_region_held3 (fun w' => w'.cell? ⟨bc, 0, none⟩ = some (.int .i64 c) ∧ w'.cell? ⟨bm, 0, none⟩ = some (.int .i64 m)) (first | exact ⟨hc0, hc1⟩ | exact ⟨hd0, hd1⟩ | exact ⟨he0, he1⟩) (first | (go_at_call 59; have bel5x := bel5; clear bel5x; refine (HY.out _ (by first | exact HU5.out | exact rdA_below HU5.out (below_drewN (Below.refl _ W5) 1))).mono ?_; rintro e W6 ⟨rfl, hb⟩; have bel6 := below_step (by first | exact bel5 | exact below_drewN bel5 1) hb; have he0 := cell_stays (by first | exact hd0) hb; have he1 := cell_stays (by exact hd1) hb; clear hb) | (go_at_call 59; refine (HX.out W.drew (rdA_below HU.out (below_drewN (Below.refl _ W) 1))).mono ?_; rintro e W5 ⟨rfl, hb⟩; have bel5 := below_step (below_drewN (Below.refl _ W) 1) hb; have hd0 := cell_stays (w := W.drew) hc0 hb; have hd1 := cell_stays (w := W.drew) hc1 hb; have HU5 := Lib.hid (rdA_below (rdA_below HU.out (below_drewN (Below.refl _ W) 1)) hb); clear hb))
    all_goals go_wp2
    all_goals go_ret
    all_goals (first | exact ⟨rfl, bel6⟩ | exact ⟨rfl, below_drewN bel6 _⟩)
  · have hr : (((x : Int) == c) && ((y : Int) == m)) = false := by simp [e1]
    have hd : ((x : Int) == c) = false := by simpa using e1
    rw [hr]
    clear e1 hr
    go_enter Try.func71, Try.ntmps71
    go_wp2_with fail
    first | (go_region_with ((go_at_call 59; refine (HX.out W.drew (rdA_below HU.out (below_drewN (Below.refl _ W) 1))).mono ?_; rintro e W5 ⟨rfl, hb⟩; have bel5 := below_step (below_drewN (Below.refl _ W) 1) hb; have hd0 := cell_stays (w := W.drew) hc0 hb; have hd1 := cell_stays (w := W.drew) hc1 hb; have HU5 := Lib.hid (rdA_below (rdA_below HU.out (below_drewN (Below.refl _ W) 1)) hb); clear hb))) | fail
    all_goals go_wp2
    all_goals go_ret
    all_goals (first | exact ⟨rfl, bel5⟩ | exact ⟨rfl, below_drewN bel5 _⟩)

theorem cntP_all (p : List (Nat × Nat) → Bool) (c : Nat) : cntP p c (List.range (opn c 0).toNat) = (allL c).countP fun xs => p (arcsOf xs) := rfl

theorem linesThat_any (c : Nat) (f : FuncId) (caps : Array Value) (p : List (Nat × Nat) → Bool) (w : World) (hc1 : 1 ≤ c) (hc7 : c ≤ 7) (hfit : FitFn f caps w p) (hfe : IsFn f) :
    Calls Try.prog 69 #[.func (.func f) #[] caps, .int .i64 c] w (GivesI w ((allL c).countP (fun xs => p (arcsOf xs)) : Nat)) :=
  callsIn_wide.1 (linesThat_in 6 (by omega) c f caps p w hc1 hc7 hfit hfe)

def arcPlain (n : Int) : Int × Bool := if 1 ≤ n ∧ n ≤ 7 then (((allL n.toNat).countP (fun xs => plainP (arcsOf xs)) : Nat), true) else (0, false)
def arcCount (n c m : Int) : Int × Bool := if (1 ≤ n ∧ n ≤ 6) ∧ 0 ≤ c ∧ 0 ≤ m then (((allL n.toNat).countP (fun xs => countP2 c m (arcsOf xs)) : Nat), true) else (0, false)

theorem iArcPlain_v (n : Int) (w : World) (_ : (Lit.int .i64 n).wf = true) : Calls Try.prog 32 #[.int .i64 n] w (GivesIB w (arcPlain n)) := by
  by_cases h : 1 ≤ n ∧ n ≤ 7
  · have hr : arcPlain n = ((((allL n.toNat).countP (fun xs => plainP (arcsOf xs)) : Nat) : Int), true) := by simp [arcPlain, h]
    rw [hr]
    obtain ⟨c, rfl⟩ : ∃ c : Nat, n = c := ⟨n.toNat, by omega⟩
    rw [Int.toNat_natCast]
    have HL := Lib.hid fun (w1 : World) => linesThat_any c _ #[] plainP w1 (by omega) (by omega) (plain_fit w1) plain_fn
    obtain ⟨q, hq⟩ : ∃ q, q = (allL c).countP (fun xs => plainP (arcsOf xs)) := ⟨_, rfl⟩
    rw [← hq] at HL ⊢
    clear hr hq
    obtain ⟨h1, h2⟩ := h
    go_enter Try.func32, Try.ntmps32
    go_wp2_with fail
    refine (HL.out _).mono ?_
    rintro e w1 ⟨rfl, hb1⟩
    go_wp2
    go_ret2
    exact ⟨rfl, hb1⟩
  · have hr : arcPlain n = (0, false) := by simp [arcPlain, h]
    rw [hr]
    clear hr
    by_cases h1 : n < 1
    · go_enter Try.func32, Try.ntmps32
      go_wp2
      go_ret2
      exact ⟨rfl, Below.refl _ _⟩
    · have h2 : n > 7 := by omega
      go_enter Try.func32, Try.ntmps32
      go_wp2
      go_ret2
      exact ⟨rfl, Below.refl _ _⟩

set_option maxHeartbeats 1600000 in
theorem iArcCount_v (n c m : Int) (w : World) (_ : (Lit.int .i64 n).wf = true) (_ : (Lit.int .i64 c).wf = true) (_ : (Lit.int .i64 m).wf = true) : Calls Try.prog 35 #[.int .i64 n, .int .i64 c, .int .i64 m] w (GivesIB w (arcCount n c m)) := by
  have hmf : ∀ (fn : Fn) (first cap : Array Value) (w : World), (Instr.makeFunc fn first cap).run Try.prog w = .ok (.func fn first cap) w := fun _ _ _ _ => rfl
  have hb0 : Below w.heap.size w ((w.alloc (.cells #[.int .i64 c] 3)).alloc (.cells #[.int .i64 m] 3)) := ((Below.refl _ _).alloc (Nat.le_refl _) _).alloc (by simp) _
  have HB0 := Lib.hid hb0
  clear hb0
  by_cases h : (1 ≤ n ∧ n ≤ 6) ∧ 0 ≤ c ∧ 0 ≤ m
  · have hr : arcCount n c m = ((((allL n.toNat).countP (fun xs => countP2 c m (arcsOf xs)) : Nat) : Int), true) := by unfold arcCount; rw [if_pos h]
    rw [hr]
    obtain ⟨k, rfl⟩ : ∃ k : Nat, n = k := ⟨n.toNat, by omega⟩
    rw [Int.toNat_natCast]
    have HL := Lib.hid (linesThat_any k _ #[.pointer (some ⟨w.heap.size, 0, none⟩), .pointer (some ⟨w.heap.size + 1, 0, none⟩)] (countP2 c m) ((w.alloc (.cells #[.int .i64 c] 3)).alloc (.cells #[.int .i64 m] 3)) (by omega) (by omega)
      (count_fit _ w.heap.size (w.heap.size + 1) c m (by simp) (by simp)) count_fn)
    obtain ⟨q, hq⟩ : ∃ q, q = (allL k).countP (fun xs => countP2 c m (arcsOf xs)) := ⟨_, rfl⟩
    rw [← hq] at HL ⊢
    clear hr hq
    obtain ⟨⟨h1, h2⟩, h3, h4⟩ := h
    go_enter Try.func35, Try.ntmps35
    go_wp2_with fail
    refine HL.out.mono ?_
    rintro e w1 ⟨rfl, hb1⟩
    go_wp2
    go_ret2
    exact ⟨rfl, HB0.out.trans (hb1.mono (by simp; omega))⟩
  · have hr : arcCount n c m = (0, false) := by unfold arcCount; rw [if_neg h]
    rw [hr]
    clear hr
    by_cases h1 : n < 1
    · go_enter Try.func35, Try.ntmps35
      go_wp2
      go_ret2
      exact ⟨rfl, HB0.out⟩
    · by_cases h2 : n > 6
      · go_enter Try.func35, Try.ntmps35
        go_wp2
        go_ret2
        exact ⟨rfl, HB0.out⟩
      · by_cases h3 : c < 0
        · go_enter Try.func35, Try.ntmps35
          go_wp2
          go_ret2
          exact ⟨rfl, HB0.out⟩
        · have h4 : m < 0 := by omega
          go_enter Try.func35, Try.ntmps35
          go_wp2
          go_ret2
          exact ⟨rfl, HB0.out⟩

set_option maxHeartbeats 1600000 in
theorem sArcPlain_v (n : Int) (w : World) (_ : (Lit.int .i64 n).wf = true) : Calls Try.prog 33 #[.int .i64 n] w (GivesIB w (arcPlain n)) := by
  have HA := Lib.hid (sListAll_w n w)
  by_cases h : 1 ≤ n ∧ n ≤ 7
  · have hr : arcPlain n = ((((allL n.toNat).countP (fun xs => plainP (arcsOf xs)) : Nat) : Int), true) := by simp [arcPlain, h]
    rw [hr]
    have hra : listAll n = (allL n.toNat, true) := by unfold listAll; rw [if_pos h]
    rw [hra] at HA
    obtain ⟨c, rfl⟩ : ∃ c : Nat, n = c := ⟨n.toNat, by omega⟩
    rw [Int.toNat_natCast] at HA ⊢
    have hc7 : c ≤ 7 := by omega
    have hal : (allL c).length ≤ 4140 := by
      have h1 := opn_bd c 0 (by omega) (by omega)
      have h2 := allL_length c
      omega
    obtain ⟨q, hq⟩ : ∃ q, q = (allL c).countP (fun xs => plainP (arcsOf xs)) := ⟨_, rfl⟩
    rw [← hq]
    have HQ := Lib.hid hq
    clear hr hq hra h
    go_enter Try.func33, Try.ntmps33
    go_wp2_with fail
    refine HA.out.mono ?_
    rintro e w1 ⟨va, rfl, ho, hb1⟩
    obtain ⟨ao, ca, vs, hvl, rfl, hlc, hcm, hx, hrows⟩ := ownM_rdM ho
    obtain ⟨n, hn⟩ : ∃ n, n = (allL c).length := ⟨_, rfl⟩
    rw [← hn] at hal
    have HN := Lib.hid hn
    have HX := Lib.hid hx
    have HR := Lib.hid hrows
    have hs1 := hb1.size
    rw [← hn] at hlc
    have HVL := Lib.hid hvl
    clear ho hx hrows hvl
    rw [← hn]
    clear hn
    go_wp2
    go_loopw [6, 7] (fun u i wr => ∃ k s : Nat, k ≤ n ∧ i = .int .i64 k ∧ u = .int .i64 s ∧ s ≤ k ∧ Hid (q = s + ((allL c).drop k).countP (fun xs => plainP (arcsOf xs))) ∧ Below w1.heap.size w1 wr)
      (fun _ i _ => n - (intOf i).toNat)
    case atStart => exact ⟨0, 0, Nat.zero_le _, rfl, rfl, by omega, Lib.hid (by simpa using HQ.out), Below.refl _ _⟩
    case round =>
      obtain ⟨k, s, hk, rfl, rfl, hsk, HS, hbel⟩ := hrel
      have hbs := hbel.size
      by_cases hlt : k < n
      · rcases HX.out with hx | ⟨bb, off, rfl, hcx⟩
        · have := HN.out
          rw [hx] at this
          simp at this
          omega
        have hck := hcx k (by have := HN.out; omega)
        rw [← hbel.cell (World.block_lt_of_cell? w1 _ hck)] at hck
        have hrk := rdv_below (HR.out k (by have := HN.out; omega)) hbel
        have hd : (allL c).drop k = (allL c).getD k [] :: (allL c).drop (k + 1) := by
          rw [List.drop_eq_getElem_cons (by have := HN.out; omega)]
          simp [List.getD, show k < (allL c).length by have := HN.out; omega]
        have hrl := allL_rows c ((allL c).getD k []) (by simp [List.getD, show k < (allL c).length by have := HN.out; omega])
        rw [hd, List.countP_cons] at HS
        obtain ⟨row, hrow⟩ : ∃ row, row = (allL c).getD k [] := ⟨_, rfl⟩
        rw [← hrow] at HS hrk hrl
        obtain ⟨vk, hvk⟩ : ∃ vk, vk = vs.getD k undef := ⟨_, rfl⟩
        rw [← hvk] at hck hrk
        have HP := Lib.hid (l5Pairs_any vk row wr hrk (by omega))
        obtain ⟨ak, mk, rfl, _⟩ := rdv_len hrk
        obtain ⟨x, hxx⟩ : ∃ x, x = crossings row := ⟨_, rfl⟩
        obtain ⟨y, hyy⟩ : ∃ y, y = nestings row := ⟨_, rfl⟩
        rw [← hxx, ← hyy] at HP
        have HXX := Lib.hid hxx
        have HYY := Lib.hid hyy
        clear hd hrow hvk hcx hrk hxx hyy hrl
        by_cases hx0 : x = 0
        · have hd0 : ((x : Int) == 0) = true := by simp [hx0]
          have HPP := Lib.hid (show plainP (arcsOf row) = true by show ((pairsL crossB (arcsOf row) : Int) == 0) = _; rw [show pairsL crossB (arcsOf row) = x from HXX.out.symm]; simp [*])
          go_wp2_with fail
          refine HP.out.mono ?_
          rintro e w5 ⟨rfl, hb5⟩
          have HB5 := Lib.hid (below_step hbel hb5)
          clear hb5
          go_wp2
          go_roundw
          case rel =>
            have e1 := HS.out
            rw [HPP.out] at e1
            simp at e1
            exact ⟨k + 1, s + 1, by omega, by go_num, by go_num, by omega, Lib.hid (by omega), HB5.out⟩
          case measure => simp [intOf]; omega
        · have hd0 : ((x : Int) == 0) = false := by simp [hx0]
          have HPP := Lib.hid (show plainP (arcsOf row) = false by show ((pairsL crossB (arcsOf row) : Int) == 0) = _; rw [show pairsL crossB (arcsOf row) = x from HXX.out.symm]; simp [*])
          go_wp2_with fail
          refine HP.out.mono ?_
          rintro e w5 ⟨rfl, hb5⟩
          have HB5 := Lib.hid (below_step hbel hb5)
          clear hb5
          go_wp2
          go_roundw
          case rel =>
            have e1 := HS.out
            rw [HPP.out] at e1
            simp at e1
            exact ⟨k + 1, s + 0, by omega, by go_num, rfl, by omega, Lib.hid (by omega), HB5.out⟩
          case measure => simp [intOf]; omega
      · have hkn : k = n := by omega
        subst hkn
        have hdn : (allL c).drop k = [] := by rw [HN.out, List.drop_length]
        rw [hdn, List.countP_nil] at HS
        go_wp2
        go_ret2
        rw [HS.out]
        exact ⟨rfl, hb1.trans (hbel.mono hs1)⟩
  · have hr : arcPlain n = (0, false) := by simp [arcPlain, h]
    rw [hr]
    have hra : listAll n = ([], false) := by unfold listAll; rw [if_neg h]
    rw [hra] at HA
    clear hr hra h
    go_enter Try.func33, Try.ntmps33
    go_wp2_with fail
    refine HA.out.mono ?_
    rintro e w1 ⟨va, rfl, ho, hb1⟩
    obtain ⟨ao, ca, vs, hvl, rfl, hlc, hcm, hx, hrows⟩ := ownM_rdM ho
    clear ho hx hrows hvl
    simp only [List.length_nil] at *
    go_wp2
    go_loopw [6, 7] (fun u i wr => u = .int .i64 0 ∧ i = .int .i64 0 ∧ wr = w1) (fun _ _ _ => 0)
    case atStart => exact ⟨rfl, rfl, rfl⟩
    case round =>
      obtain ⟨rfl, rfl, rfl⟩ := hrel
      go_wp2
      go_ret2
      exact ⟨rfl, hb1⟩

set_option maxHeartbeats 3200000 in
theorem sArcCount_v (n a b : Int) (w : World) (_ : (Lit.int .i64 n).wf = true) (_ : (Lit.int .i64 a).wf = true) (_ : (Lit.int .i64 b).wf = true) : Calls Try.prog 36 #[.int .i64 n, .int .i64 a, .int .i64 b] w (GivesIB w (arcCount n a b)) := by
  have HA := Lib.hid fun (w1 : World) => sListAll_w n w1
  by_cases h : (1 ≤ n ∧ n ≤ 6) ∧ 0 ≤ a ∧ 0 ≤ b
  · have hr : arcCount n a b = ((((allL n.toNat).countP (fun xs => countP2 a b (arcsOf xs)) : Nat) : Int), true) := by unfold arcCount; rw [if_pos h]
    rw [hr]
    have hra : listAll n = (allL n.toNat, true) := by unfold listAll; rw [if_pos (by omega)]
    rw [hra] at HA
    obtain ⟨c, rfl⟩ : ∃ c : Nat, n = c := ⟨n.toNat, by omega⟩
    rw [Int.toNat_natCast] at HA ⊢
    have HC := Lib.hid fun (w1 : World) => l6In_is true (c : Int) 1 6 w1 (by simpa using h.1)
    have hc7 : c ≤ 7 := by omega
    have hal : (allL c).length ≤ 4140 := by
      have h1 := opn_bd c 0 (by omega) (by omega)
      have h2 := allL_length c
      omega
    obtain ⟨q, hq⟩ : ∃ q, q = (allL c).countP (fun xs => countP2 a b (arcsOf xs)) := ⟨_, rfl⟩
    rw [← hq]
    have HQ := Lib.hid hq
    obtain ⟨_, ha, hb⟩ := h
    clear hr hq hra
    go_enter Try.func36, Try.ntmps36
    go_wp2_with fail
    refine (HC.out _).mono ?_
    rintro e w' ⟨rfl, rfl⟩
    go_wp2_with fail
    refine (HA.out _).mono ?_
    rintro e w1 ⟨va, rfl, ho, hb1⟩
    obtain ⟨ao, ca, vs, hvl, rfl, hlc, hcm, hx, hrows⟩ := ownM_rdM ho
    obtain ⟨n, hn⟩ : ∃ n, n = (allL c).length := ⟨_, rfl⟩
    rw [← hn] at hal
    have HN := Lib.hid hn
    have HX := Lib.hid hx
    have HR := Lib.hid hrows
    have hs1 := hb1.size
    rw [← hn] at hlc
    have HVL := Lib.hid hvl
    clear ho hx hrows hvl
    rw [← hn]
    clear hn
    go_wp2
    go_loopw [10, 11] (fun u i wr => ∃ k s : Nat, k ≤ n ∧ i = .int .i64 k ∧ u = .int .i64 s ∧ s ≤ k ∧ Hid (q = s + ((allL c).drop k).countP (fun xs => countP2 a b (arcsOf xs))) ∧ Below w1.heap.size w1 wr)
      (fun _ i _ => n - (intOf i).toNat)
    case atStart => exact ⟨0, 0, Nat.zero_le _, rfl, rfl, by omega, Lib.hid (by simpa using HQ.out), Below.refl _ _⟩
    case round =>
      obtain ⟨k, s, hk, rfl, rfl, hsk, HS, hbel⟩ := hrel
      have hbs := hbel.size
      by_cases hlt : k < n
      · rcases HX.out with hx | ⟨bb, off, rfl, hcx⟩
        · have := HN.out
          rw [hx] at this
          simp at this
          omega
        have hck := hcx k (by have := HN.out; omega)
        rw [← hbel.cell (World.block_lt_of_cell? w1 _ hck)] at hck
        have hrk := rdv_below (HR.out k (by have := HN.out; omega)) hbel
        have hd : (allL c).drop k = (allL c).getD k [] :: (allL c).drop (k + 1) := by
          rw [List.drop_eq_getElem_cons (by have := HN.out; omega)]
          simp [List.getD, show k < (allL c).length by have := HN.out; omega]
        have hrl := allL_rows c ((allL c).getD k []) (by simp [List.getD, show k < (allL c).length by have := HN.out; omega])
        rw [hd, List.countP_cons] at HS
        obtain ⟨row, hrow⟩ : ∃ row, row = (allL c).getD k [] := ⟨_, rfl⟩
        rw [← hrow] at HS hrk hrl
        obtain ⟨vk, hvk⟩ : ∃ vk, vk = vs.getD k undef := ⟨_, rfl⟩
        rw [← hvk] at hck hrk
        have HP := Lib.hid (l5Pairs_any vk row wr hrk (by omega))
        obtain ⟨ak, mk, rfl, _⟩ := rdv_len hrk
        obtain ⟨x, hxx⟩ : ∃ x, x = crossings row := ⟨_, rfl⟩
        obtain ⟨y, hyy⟩ : ∃ y, y = nestings row := ⟨_, rfl⟩
        rw [← hxx, ← hyy] at HP
        have HXX := Lib.hid hxx
        have HYY := Lib.hid hyy
        clear hd hrow hvk hcx hrk hxx hyy hrl
        by_cases hx0 : (x : Int) = a
        · have hd0 : ((x : Int) == a) = true := by simp [hx0]
          have HX0 := Lib.hid hx0
          clear hx0
          by_cases hy0 : (y : Int) = b
          · have hd1 : ((y : Int) == b) = true := by simp [hy0]
            have HY0 := Lib.hid hy0
            clear hy0
            have HPP := Lib.hid (show countP2 a b (arcsOf row) = true by show (((pairsL crossB (arcsOf row) : Int) == a) && ((pairsL nestB (arcsOf row) : Int) == b)) = _; rw [show pairsL crossB (arcsOf row) = x from HXX.out.symm, show pairsL nestB (arcsOf row) = y from HYY.out.symm]; simp [*])
            go_wp2_with fail
            refine HP.out.mono ?_
            rintro e w5 ⟨rfl, hb5⟩
            have HB5 := Lib.hid (below_step hbel hb5)
            clear hb5
            go_wp2
            go_roundw
            case rel =>
              have e1 := HS.out
              rw [HPP.out] at e1
              simp at e1
              exact ⟨k + 1, s + 1, by omega, by go_num, by go_num, by omega, Lib.hid (by omega), HB5.out⟩
            case measure => simp [intOf]; omega
          · have hd1 : ((y : Int) == b) = false := by simp [hy0]
            have HY0 := Lib.hid hy0
            clear hy0
            have HPP := Lib.hid (show countP2 a b (arcsOf row) = false by show (((pairsL crossB (arcsOf row) : Int) == a) && ((pairsL nestB (arcsOf row) : Int) == b)) = _; rw [show pairsL crossB (arcsOf row) = x from HXX.out.symm, show pairsL nestB (arcsOf row) = y from HYY.out.symm]; simp [*])
            go_wp2_with fail
            refine HP.out.mono ?_
            rintro e w5 ⟨rfl, hb5⟩
            have HB5 := Lib.hid (below_step hbel hb5)
            clear hb5
            go_wp2
            go_roundw
            case rel =>
              have e1 := HS.out
              rw [HPP.out] at e1
              simp at e1
              exact ⟨k + 1, s + 0, by omega, by go_num, rfl, by omega, Lib.hid (by omega), HB5.out⟩
            case measure => simp [intOf]; omega
        · have hd0 : ((x : Int) == a) = false := by simp [hx0]
          have HX0 := Lib.hid hx0
          clear hx0
          have HPP := Lib.hid (show countP2 a b (arcsOf row) = false by show (((pairsL crossB (arcsOf row) : Int) == a) && ((pairsL nestB (arcsOf row) : Int) == b)) = _; rw [show pairsL crossB (arcsOf row) = x from HXX.out.symm, show pairsL nestB (arcsOf row) = y from HYY.out.symm]; simp [*])
          go_wp2_with fail
          refine HP.out.mono ?_
          rintro e w5 ⟨rfl, hb5⟩
          have HB5 := Lib.hid (below_step hbel hb5)
          clear hb5
          go_wp2
          go_roundw
          case rel =>
            have e1 := HS.out
            rw [HPP.out] at e1
            simp at e1
            exact ⟨k + 1, s + 0, by omega, by go_num, rfl, by omega, Lib.hid (by omega), HB5.out⟩
          case measure => simp [intOf]; omega
      · have hkn : k = n := by omega
        subst hkn
        have hdn : (allL c).drop k = [] := by rw [HN.out, List.drop_length]
        rw [hdn, List.countP_nil] at HS
        go_wp2
        go_ret2
        rw [HS.out]
        exact ⟨rfl, hb1.trans (hbel.mono hs1)⟩
  · have hr : arcCount n a b = (0, false) := by unfold arcCount; rw [if_neg h]
    rw [hr]
    clear hr HA
    by_cases h1 : 1 ≤ n ∧ n ≤ 6
    · have HC := Lib.hid fun (w1 : World) => l6In_is true n 1 6 w1 (by simpa using h1)
      have h2 : a < 0 ∨ b < 0 := by omega
      clear h h1
      by_cases h3 : a < 0
      · go_enter Try.func36, Try.ntmps36
        go_wp2_with (go_at_call 66; refine (HC.out _).mono ?_; rintro e w' ⟨rfl, rfl⟩)
        go_ret2
        exact ⟨rfl, Below.refl _ _⟩
      · have h4 : b < 0 := by omega
        clear h2
        go_enter Try.func36, Try.ntmps36
        go_wp2_with (go_at_call 66; refine (HC.out _).mono ?_; rintro e w' ⟨rfl, rfl⟩)
        go_ret2
        exact ⟨rfl, Below.refl _ _⟩
    · have HC := Lib.hid fun (w1 : World) => l6In_is false n 1 6 w1 (by simpa using h1)
      clear h h1
      go_enter Try.func36, Try.ntmps36
      go_wp2_with (go_at_call 66; refine (HC.out _).mono ?_; rintro e w' ⟨rfl, rfl⟩)
      go_ret2
      exact ⟨rfl, Below.refl _ _⟩

end Go.Proofs.Ytipmafplpoadjaa
