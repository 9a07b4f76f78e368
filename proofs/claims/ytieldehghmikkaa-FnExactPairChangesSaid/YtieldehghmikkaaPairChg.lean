/-
  The contracts of l8Cost, l8Best, and of PairChanges, PairBest of both sides.
-/
import Derived.Test.YtieldehghmikkaaPairBest
import Derived.Test.YtieldehghmikkaaPairOpen
import Derived.Test.YtieldehghmikkaaListsU
namespace Go.Proofs.Ytieldehghmikkaa
set_option linter.unusedSimpArgs false
set_option linter.unusedVariables false
set_option linter.unnecessarySimpa false
open Go.RowKit
set_option maxRecDepth 100000

/-- The cost after the first k pairs. -/
def cstTo (xs : List Int) (L : List (Nat × Nat)) (k : Nat) : Int := ((ofP xs).length : Int) + ((L.take k).map fun p => if xs.getD p.1 0 == xs.getD p.2 0 then (-1 : Int) else 1).sum
theorem cstTo_end (xs : List Int) (L : List (Nat × Nat)) : cstTo xs L L.length = costP xs L := by unfold cstTo costP; rw [List.take_length]
theorem cstTo_next (xs : List Int) (L : List (Nat × Nat)) (k : Nat) (h : k < L.length) : cstTo xs L (k + 1) = cstTo xs L k + if xs.getD (L.getD k (0, 0)).1 0 == xs.getD (L.getD k (0, 0)).2 0 then (-1 : Int) else 1 := by
  unfold cstTo
  rw [take_snocP L k h, List.map_append, List.sum_append]
  simp only [List.map_cons, List.map_nil, List.sum_cons, List.sum_nil]
  omega
theorem cstTo_bd (xs : List Int) (L : List (Nat × Nat)) (hx : xs.length ≤ 8) : ∀ k, k ≤ L.length → -(k : Int) ≤ cstTo xs L k ∧ cstTo xs L k ≤ 100 + k := by
  intro k
  induction k with
  | zero =>
    intro _
    have := ofP_len xs hx
    unfold cstTo
    simp
    omega
  | succ k ih =>
    intro hk
    have h := ih (by omega)
    rw [cstTo_next xs L k (by omega)]
    split <;> omega

set_option maxHeartbeats 4000000 in
theorem l8Cost_any (v u : Value) (xs : List Int) (L : List (Nat × Nat)) (w : World) (hv : RdV w v xs) (hu : RdM w u (encPs L)) (hL : InN xs.length L) (hx8 : xs.length ≤ 8) (hl : L.length ≤ 1000) :
    Calls Try.prog 53 #[v, u] w (GivesI w (costP xs L)) := by
  have HO := Lib.hid (l8Of_any v xs w hv hx8)
  have hbd := fun k (h : k ≤ L.length) => cstTo_bd xs L hx8 k h
  have h0 : cstTo xs L 0 = ((ofP xs).length : Int) := by unfold cstTo; simp
  rw [← cstTo_end]
  obtain ⟨ao, ca, rfl, hx, hlc, hcm⟩ := hv
  obtain ⟨bo, cb, vs, rfl, h1, h2, hy⟩ := encPs_at hu
  unfold maxLen at h2
  have HNX := Lib.hid fun (k : Nat) (h : k < L.length) => cstTo_next xs L k h
  obtain ⟨n, hn⟩ : ∃ n, n = xs.length := ⟨_, rfl⟩
  obtain ⟨m, hm⟩ : ∃ m, m = L.length := ⟨_, rfl⟩
  rw [← hn] at hlc hL hx8 HO ⊢
  rw [← hm] at h1 hl hbd HNX ⊢
  have HN := Lib.hid hn
  have HM := Lib.hid hm
  have HX := Lib.hid hx
  have HY := Lib.hid hy
  have HIN := Lib.hid hL
  have HBD := Lib.hid hbd
  obtain ⟨X, hX⟩ : ∃ X, X = ofP xs := ⟨_, rfl⟩
  rw [← hX] at HO h0
  obtain ⟨q, hq⟩ : ∃ q, q = X.length := ⟨_, rfl⟩
  rw [← hq] at h0
  have HQ := Lib.hid hq
  have H0 := Lib.hid h0
  clear hn hm hx hy hL hu hbd hX hq h0
  go_enter Try.func53, Try.ntmps53
  go_wp2_with fail
  refine HO.out.mono ?_
  rintro e w1 ⟨uo, rfl, ho, hb1⟩
  obtain ⟨go, gc, rfl⟩ : ∃ go gc, uo = .slice go q gc := by
    obtain ⟨q1, q2, _, _, e, _⟩ := ownM_rdM ho
    rw [encPs_length, ← HQ.out] at e
    exact ⟨_, _, e⟩
  clear ho
  go_wp2
  go_loopw [5, 6] (fun c i wr => ∃ k : Nat, k ≤ m ∧ i = .int .i64 k ∧ c = .int .i64 (cstTo xs L k) ∧ Below w.heap.size w wr) (fun _ i _ => m - (intOf i).toNat)
  case atStart => exact ⟨0, Nat.zero_le _, rfl, by rw [H0.out], hb1⟩
  case round =>
    obtain ⟨k, hk, rfl, rfl, hbel⟩ := hrel
    have hbd := HBD.out k hk
    by_cases hlt : k < m
    · rcases HY.out with hy | ⟨bb, off, rfl, hcy⟩
      · have := HM.out
        rw [hy] at this
        simp at this
        omega
      obtain ⟨zb, zo, zc, d0, z1, z2, d1, d2⟩ := hcy k (by have := HM.out; omega)
      have e0 := cellSt d0 hbel
      have e1 := cellSt d1 hbel
      have e2 := cellSt d2 hbel
      have hlk : k < L.length := by have := HM.out; omega
      have hpn := HIN.out (L.getD k (0, 0)) (by rw [show L.getD k (0, 0) = L[k] by simp [List.getD, hlk]]; exact List.getElem_mem hlk)
      have hnx := HNX.out k hlt
      obtain ⟨⟨a, b⟩, hy⟩ : ∃ y, y = L.getD k (0, 0) := ⟨_, rfl⟩
      rw [← hy] at e1 e2 hpn hnx
      dsimp only at e1 e2 hpn hnx
      obtain ⟨ha, hb⟩ := hpn
      rcases HX.out with hx | ⟨xb, xo, rfl, hcx⟩
      · have := HN.out
        rw [hx] at this
        simp at this
        omega
      have g1 := cellSt (hcx a (by have := HN.out; omega)) hbel
      have g2 := cellSt (hcx b (by have := HN.out; omega)) hbel
      obtain ⟨x, hx⟩ : ∃ x, x = xs.getD a 0 := ⟨_, rfl⟩
      obtain ⟨y, hy2⟩ : ∃ y, y = xs.getD b 0 := ⟨_, rfl⟩
      rw [← hx] at g1 hnx
      rw [← hy2] at g2 hnx
      obtain ⟨s, hs⟩ : ∃ s, s = cstTo xs L k := ⟨_, rfl⟩
      rw [← hs] at hnx hbd ⊢
      have HNE := Lib.hid hnx
      have b0 : (k : Int) < m := by omega
      have b1 : (a : Int) < n := by omega
      have b2 : (b : Int) < n := by omega
      have b3 : (0 : Int) ≤ (a : Int) := by omega
      have b4 : (0 : Int) ≤ (b : Int) := by omega
      have b5 : (0 : Int) ≤ (k : Int) := by omega
      have s1 : -1000 ≤ s := by omega
      have s2 : s ≤ 2000 := by omega
      clear hcy hcx d0 d1 d2 hy hx hy2 hs hnx hlk hbd
      by_cases hxy : x = y
      · have hd : (x == y) = true := by simpa using hxy
        have HST : Hid (cstTo xs L (k + 1) = s - 1) := Lib.hid (by rw [HNE.out, if_pos hd]; omega)
        clear hxy
        go_wp2
        go_quiet (fail)
        go_wp2
        go_roundw
        case rel => exact ⟨k + 1, by omega, by go_num, by rw [HST.out], below_drewN hbel _⟩
        case measure => simp [intOf]; omega
      · have hd : (x == y) = false := by simpa using hxy
        have HST : Hid (cstTo xs L (k + 1) = s + 1) := Lib.hid (by rw [HNE.out, hd]; simp)
        clear hxy
        go_wp2
        go_quiet (fail)
        go_wp2
        go_roundw
        case rel => exact ⟨k + 1, by omega, by go_num, by rw [HST.out], below_drewN hbel _⟩
        case measure => simp [intOf]; omega
    · have hkm : k = m := by omega
      subst hkm
      go_wp2
      go_ret
      exact ⟨rfl, hbel⟩

theorem bestIn_snoc (L : List (Nat × Nat)) (x : List Int) : ∀ (l : List (List Int)) (b : List Int), bestIn L b (l ++ [x]) = if costP x L < costP (bestIn L b l) L then x else bestIn L b l := by
  intro l
  induction l with
  | nil => intro b; rfl
  | cons y l ih =>
    intro b
    show bestIn L (if costP y L < costP b L then y else b) (l ++ [x]) = _
    rw [ih]
    rfl

/-- The best of the first i partitions. -/
def bestTo (n : Nat) (L : List (Nat × Nat)) (i : Nat) : List Int := bestIn L ((allL n).getD 0 []) ((allL n).tail.take i)
theorem bestTo_next (n : Nat) (L : List (Nat × Nat)) (i : Nat) (h : i + 1 < (allL n).length) : bestTo n L (i + 1) = if costP ((allL n).getD (i + 1) []) L < costP (bestTo n L i) L then (allL n).getD (i + 1) [] else bestTo n L i := by
  unfold bestTo
  have hl : i < (allL n).tail.length := by rw [List.length_tail]; omega
  have e : (allL n).tail.take (i + 1) = (allL n).tail.take i ++ [(allL n).getD (i + 1) []] := by
    rw [List.take_add_one, List.getElem?_eq_getElem hl]
    simp [List.getD, h]
  rw [e, bestIn_snoc]
theorem bestTo_end (n : Nat) (L : List (Nat × Nat)) : bestTo n L ((allL n).length - 1) = bestP n L := by
  unfold bestTo bestP
  rw [List.take_of_length_le (by rw [List.length_tail]; omega)]
theorem bestTo_in {n : Nat} (h1 : 1 ≤ n) (h6 : n ≤ 6) (L : List (Nat × Nat)) (i : Nat) : (bestTo n L i).length = n := by
  have h := best_mem L ((allL n).tail.take i) ((allL n).getD 0 [])
  refine allL_len ?_
  rw [← all_cons h1 h6]
  rcases List.mem_cons.1 h with e | e
  · unfold bestTo
    rw [e]
    simp
  · exact List.mem_cons_of_mem _ (List.mem_of_mem_take e)

theorem rdM_at {w : World} {v : Value} {R : List (List Int)} (h : RdM w v R) : ∃ ao ca, ∃ vs : List Value, v = .slice ao R.length ca ∧ R.length ≤ ca ∧ ca ≤ maxLen ∧ (R = [] ∨ ∃ b off, ao = some ⟨b, off, none⟩ ∧ ∀ k, k < R.length → w.cell? ⟨b, off + k, none⟩ = some (vs.getD k undef)) ∧ ∀ k, k < R.length → RdV w (vs.getD k undef) (R.getD k []) := by
  obtain ⟨ao, ca, vs, _, h1, h2, h3, h4, h5⟩ := h
  exact ⟨ao, ca, vs, h1, h2, h3, h4, h5⟩

set_option maxHeartbeats 4000000 in
theorem l8Best_any (n : Nat) (v : Value) (L : List (Nat × Nat)) (w : World) (hv : RdM w v (encPs L)) (hs : L.Sublist (allP n)) (h1 : 1 ≤ n) (h6 : n ≤ 6) :
    Calls Try.prog 54 #[.int .i64 n, v] w (FreshL w (bestP n L)) := by
  have hl15 : L.length ≤ 15 := by have := hs.length_le; have := allP_le n h6; omega
  have hin := inN_of_sub hs
  have hlr : listAll (n : Int) = (allL n, true) := by unfold listAll; rw [if_pos (by omega)]; simp
  have HLA := Lib.hid (hlr ▸ sListAll_w (n : Int) w)
  have HCO := Lib.hid fun (w1 : World) (u : Value) (xs : List Int) (hb : Below w.heap.size w w1) (hu : RdV w1 u xs) (hx : xs.length = n) => l8Cost_any u v xs L w1 hu (rdM_below hv hb) (by rw [hx]; exact hin) (by omega) (by omega)
  have HLN := Lib.hid fun (x : List Int) (hx : x ∈ allL n) => allL_len hx
  have HBL := Lib.hid fun (i : Nat) => bestTo_in h1 h6 L i
  have hT := allL_length n
  have hTp := opn_bd n 0 (by omega) (by omega)
  have HNX := Lib.hid fun (i : Nat) (h : i + 1 < (allL n).length) => bestTo_next n L i h
  have HEND := Lib.hid (bestTo_end n L)
  have H0 : Hid (bestTo n L 0 = (allL n).getD 0 []) := rfl
  obtain ⟨R, hR⟩ : ∃ R, R = allL n := ⟨_, rfl⟩
  rw [← hR] at HLA HNX HLN HEND H0 hT
  obtain ⟨T, hTe⟩ : ∃ T, T = R.length := ⟨_, rfl⟩
  rw [← hTe] at HNX HEND hT
  have hT1 : 1 ≤ T := by omega
  have hT2 : T ≤ 4140 := by omega
  have HTE := Lib.hid hTe
  clear hv hin hlr hl15 hT hTp hR hTe hs
  go_enter Try.func54, Try.ntmps54
  go_wp2_with fail
  refine HLA.out.mono ?_
  rintro e w1 ⟨ul, rfl, hom, hb1⟩
  have hom : OwnM w1 w.heap.size w1.heap.size ul R := hom
  obtain ⟨lo, lc, vs, rfl, _, hlm, hcells, hrows⟩ := rdM_at (ownM_rdM hom)
  rw [← HTE.out]
  have HROW := Lib.hid hrows
  rcases hcells with hc | ⟨bb, off, rfl, hc⟩
  · have := HTE.out
    rw [hc] at this
    simp at this
    omega
  have HC := Lib.hid hc
  have hc0 := hc 0 (by have := HTE.out; omega)
  rw [Nat.add_zero] at hc0
  have HR0 : Hid (RdV w1 (vs.getD 0 undef) (bestTo n L 0)) := Lib.hid (by rw [H0.out]; exact hrows 0 (by have := HTE.out; omega))
  have bT : (0 : Int) < (T : Int) := by omega
  obtain ⟨z0, hz0⟩ : ∃ z0, z0 = vs.getD 0 undef := ⟨_, rfl⟩
  rw [← hz0] at hc0 HR0
  have hzs : ∃ a b c, z0 = .slice a b c := by
    obtain ⟨a, c, e, _⟩ := HR0.out
    exact ⟨a, _, c, e⟩
  obtain ⟨za, zb, zc, rfl⟩ := hzs
  clear hom hc hrows hz0
  go_wp2
  go_loopw [7, 8] (fun u i wr => ∃ k : Nat, 1 ≤ k ∧ k ≤ T ∧ i = .int .i64 k ∧ RdV w1 u (bestTo n L (k - 1)) ∧ Below w1.heap.size w1 wr) (fun _ i _ => T - (intOf i).toNat)
  case atStart => exact ⟨1, Nat.le_refl _, hT1, rfl, HR0.out, Below.refl _ _⟩
  case round =>
    obtain ⟨k, hk1, hk, rfl, hru, hbel⟩ := hrel
    have HRU := Lib.hid hru
    by_cases hlt : k < T
    · have hck := cellSt (HC.out k (by have := HTE.out; omega)) hbel
      have hrk := HROW.out k (by have := HTE.out; omega)
      have hnx := HNX.out (k - 1) (by omega)
      rw [show k - 1 + 1 = k by omega] at hnx
      obtain ⟨x, hx⟩ : ∃ x, x = R.getD k [] := ⟨_, rfl⟩
      have hxl : x.length = n := HLN.out x (by have h : k < R.length := (by have := HTE.out; omega); rw [hx, show R.getD k [] = R[k] by simp [List.getD, h]]; exact List.getElem_mem h)
      have hyl := HBL.out (k - 1)
      rw [← hx] at hrk hnx
      obtain ⟨y, hy⟩ : ∃ y, y = bestTo n L (k - 1) := ⟨_, rfl⟩
      rw [← hy] at hnx hyl HRU
      obtain ⟨z, hz⟩ : ∃ z, z = vs.getD k undef := ⟨_, rfl⟩
      rw [← hz] at hck hrk
      have HRK := Lib.hid hrk
      have HC1 := Lib.hid fun (w4 : World) (hb : Below w1.heap.size w1 w4) => HCO.out w4 z x (below_step hb1 hb) (rdv_below HRK.out hb) hxl
      have HC2 := Lib.hid fun (w4 : World) (hb : Below w1.heap.size w1 w4) => HCO.out w4 u7 y (below_step hb1 hb) (rdv_below HRU.out hb) hyl
      obtain ⟨p, hp⟩ : ∃ p, p = costP x L := ⟨_, rfl⟩
      obtain ⟨q, hq⟩ : ∃ q, q = costP y L := ⟨_, rfl⟩
      rw [← hp] at HC1 hnx
      rw [← hq] at HC2 hnx
      have HNE := Lib.hid hnx
      have b0 : (0 : Int) ≤ (k : Int) := by omega
      have b1 : (k : Int) < (T : Int) := by omega
      have hzs : ∃ a b c, z = .slice a b c := by
        obtain ⟨a, c, e, _⟩ := HRK.out
        exact ⟨a, _, c, e⟩
      obtain ⟨za', zb', zc', rfl⟩ := hzs
      have HBR := Lib.hid hbel
      have hkey : ∀ w4 : World, Below wr.heap.size wr w4 → w4.cell? ⟨bb, off + k, none⟩ = some (.slice za' zb' zc') := fun w4 hb => cellSt hck hb
      have HKEY := Lib.hid hkey
      clear hx hy hz hp hq hnx hrk hxl hyl hru hkey
      go_wp2_with fail
      refine (HC1.out _ HBR.out).mono ?_
      rintro e w5 ⟨rfl, hb5⟩
      have HB5 := Lib.hid (below_step HBR.out hb5)
      have hc5 := HKEY.out w5 hb5
      go_wp2_with fail
      refine (HC2.out _ HB5.out).mono ?_
      rintro e w6 ⟨rfl, hb6⟩
      have HB6 := Lib.hid (below_step HB5.out hb6)
      have hc6 := HKEY.out w6 (below_step hb5 hb6)
      clear hb5 hb6 hc5 hck hbel
      by_cases hpq : p < q
      · have HBN : Hid (bestTo n L (k + 1 - 1) = x) := Lib.hid (by rw [Nat.add_sub_cancel, HNE.out, if_pos hpq])
        go_wp2
        go_roundw
        case rel => exact ⟨k + 1, by omega, by omega, by go_num, by rw [HBN.out]; exact HRK.out, HB6.out⟩
        case measure => simp [intOf]; omega
      · have HBN : Hid (bestTo n L (k + 1 - 1) = y) := Lib.hid (by rw [Nat.add_sub_cancel, HNE.out, if_neg hpq])
        go_wp2
        go_roundw
        case rel => exact ⟨k + 1, by omega, by omega, by go_num, by rw [HBN.out]; exact HRU.out, HB6.out⟩
        case measure => simp [intOf]; omega
    · have hkT : k = T := by omega
      subst hkT
      rw [HEND.out] at HRU
      have hyl : (bestP n L).length = n := by rw [← HEND.out]; exact HBL.out _
      obtain ⟨y, hy⟩ : ∃ y, y = bestP n L := ⟨_, rfl⟩
      rw [← hy] at HRU hyl
      have HYE := Lib.hid hy
      obtain ⟨yb, yo, yc, rfl, hcy, hyw, hy1, hy2⟩ := rdv_cells HRU.out (by omega)
      have HCY := Lib.hid (cells_below hcy hbel)
      rw [hyl] at hy1 ⊢
      have HYL := Lib.hid hyl
      have hbw := below_step hb1 hbel
      have hws := hbw.size
      have HOE := Lib.hid (own_empty wr w.heap.size hws)
      have HBW := Lib.hid (hbw.alloc hws (.cells #[] 3))
      clear hy hcy hyl hru
      go_wp2_with (at_builtin; refine wpList_cat rfl _ _ rfl w.heap.size wr.heap.size 0 0 [] rfl HOE.out rfl ⟨yb, yo, none⟩ n yc rfl y HYL.out.symm (fun j hj => by rw [Addr.add_lit]; exact cells_at (cells_below HCY.out ((Below.refl _ _).alloc (Nat.le_refl _) _)) j hj) (by omega) (by simp; omega) n (by omega) ?_)
      intro g' cap' w9 ho9 hg9 _
      have hb9 : Below w.heap.size w w9 := HBW.out.grown hg9 (by simp; omega) (fun q hq => by cases hq; exact hws)
      have HO9 : Hid (Own w9 w.heap.size (.slice (some ⟨g', 0, none⟩) n cap') (bestP n L)) := Lib.hid (by rw [← HYE.out]; simpa using ho9)
      clear ho9 hg9
      go_wp2
      go_ret
      exact ⟨_, rfl, HO9.out, hb9⟩

/-- What PairChanges, PairBest answer. -/
def pairChanges (n : Int) (ps : List (List Int)) : Int × Bool := if pairIn n ps then (costP (bestP n.toNat (decL ps)) (decL ps), true) else (0, false)
def pairBest (n : Int) (ps : List (List Int)) : List Int × Bool := if pairIn n ps then (bestP n.toNat (decL ps), true) else ([], false)

theorem bestP_len {n : Nat} (h1 : 1 ≤ n) (h6 : n ≤ 6) (L : List (Nat × Nat)) : (bestP n L).length = n := by
  rw [← bestTo_end]
  exact bestTo_in h1 h6 L _
theorem pairBest_len (n : Int) (ps : List (List Int)) : (pairBest n ps).1.length ≤ 2305843009213693952 := by
  unfold pairBest
  split
  · rename_i h
    obtain ⟨m, L, rfl, h1, h6, hs, rfl⟩ := pairIn_sub h
    rw [Int.toNat_natCast, bestP_len h1 h6]
    omega
  · simp

set_option maxHeartbeats 1600000 in
theorem iPairChanges_v (v : Value) (n : Int) (ps : List (List Int)) (w : World) (hv : RdM w v ps) (_ : (Lit.int .i64 n).wf = true) :
    Calls Try.prog 31 #[.int .i64 n, v] w (GivesIB w (pairChanges n ps)) := by
  cases h : pairIn n ps with
  | true =>
    have hr : pairChanges n ps = (costP (bestP n.toNat (decL ps)) (decL ps), true) := by simp [pairChanges, h]
    obtain ⟨m, L, rfl, h1, h6, hs, he, hin, hl, hd⟩ := pair_open h
    rw [hr, hd, Int.toNat_natCast]
    have HT := Lib.hid (told_yes hv h hd)
    have HC := Lib.hid fun (w1 : World) (u : Value) (hu : RdP w1 u L) => nearest_any m u L w1 hu hs h1 h6
    obtain ⟨C, hC⟩ : ∃ C, C = costP (bestP m L) L := ⟨_, rfl⟩
    rw [← hC] at HC ⊢
    clear hr h he hin hl hd hs hv hC
    go_enter Try.func31, Try.ntmps31
    go_wp2_with fail
    refine HT.out.mono ?_
    rintro e w1 ⟨u, rfl, ho, hb⟩
    have HRD := Lib.hid (ownP_rd ho)
    clear ho
    go_wp2_with fail
    refine (HC.out _ _ HRD.out).mono ?_
    rintro e w2 ⟨u2, rfl, ho2, hb2⟩
    go_wp2
    go_ret2
    exact ⟨rfl, below_step hb hb2⟩
  | false =>
    have hr : pairChanges n ps = (0, false) := by simp [pairChanges, h]
    rw [hr]
    have HT := Lib.hid (told_no hv h)
    clear hr h hv
    go_enter Try.func31, Try.ntmps31
    go_wp2_with fail
    refine HT.out.mono ?_
    rintro e w1 ⟨u, rfl, ho, hb⟩
    go_wp2
    go_ret2
    exact ⟨rfl, hb⟩

set_option maxHeartbeats 1600000 in
theorem iPairBest_v (v : Value) (n : Int) (ps : List (List Int)) (w : World) (hv : RdM w v ps) (_ : (Lit.int .i64 n).wf = true) :
    Calls Try.prog 33 #[.int .i64 n, v] w (FreshLB w (pairBest n ps)) := by
  cases h : pairIn n ps with
  | true =>
    have hr : pairBest n ps = (bestP n.toNat (decL ps), true) := by simp [pairBest, h]
    obtain ⟨m, L, rfl, h1, h6, hs, he, hin, hl, hd⟩ := pair_open h
    rw [hr, hd, Int.toNat_natCast]
    have HT := Lib.hid (told_yes hv h hd)
    have HC := Lib.hid fun (w1 : World) (u : Value) (hu : RdP w1 u L) => nearest_any m u L w1 hu hs h1 h6
    obtain ⟨C, hC⟩ : ∃ C, C = costP (bestP m L) L := ⟨_, rfl⟩
    rw [← hC] at HC
    clear hr h he hin hl hd hs hv hC
    go_enter Try.func33, Try.ntmps33
    go_wp2_with fail
    refine HT.out.mono ?_
    rintro e w1 ⟨u, rfl, ho, hb⟩
    have HRD := Lib.hid (ownP_rd ho)
    clear ho
    go_wp2_with fail
    refine (HC.out _ _ HRD.out).mono ?_
    rintro e w2 ⟨u2, rfl, ho2, hb2⟩
    go_wp2
    go_ret2
    exact ⟨_, rfl, own_mono ho2 hb.size, below_step hb hb2⟩
  | false =>
    have hr : pairBest n ps = ([], false) := by simp [pairBest, h]
    rw [hr]
    have HT := Lib.hid (told_no hv h)
    clear hr h hv
    go_enter Try.func33, Try.ntmps33
    go_wp2_with fail
    refine HT.out.mono ?_
    rintro e w1 ⟨u, rfl, ho, hb⟩
    go_wp2
    go_ret2
    exact ⟨_, rfl, own_nil _ _, hb⟩

set_option maxHeartbeats 1600000 in
theorem sPairBest_v (v : Value) (n : Int) (ps : List (List Int)) (w : World) (hv : RdM w v ps) (hw : (Lit.int .i64 n).wf = true) :
    Calls Try.prog 32 #[.int .i64 n, v] w (FreshLB w (pairBest n ps)) := by
  cases h : pairIn n ps with
  | true =>
    have hr : pairBest n ps = (bestP n.toNat (decL ps), true) := by simp [pairBest, h]
    have HT := Lib.hid (sIn_is true hv h hw)
    obtain ⟨m, L, rfl, h1, h6, hs, he, hin, hl, hd⟩ := pair_open h
    rw [hr, hd, Int.toNat_natCast]
    have HC := Lib.hid fun (w1 : World) (hb : Below w.heap.size w w1) => l8Best_any m v L w1 (by rw [← he]; exact rdM_below hv hb) hs h1 h6
    clear hr h he hin hl hd hs hv
    go_enter Try.func32, Try.ntmps32
    go_wp2_with fail
    refine HT.out.mono ?_
    rintro e w1 ⟨rfl, hb⟩
    go_wp2_with fail
    refine (HC.out _ hb).mono ?_
    rintro e w2 ⟨u2, rfl, ho2, hb2⟩
    go_wp2
    go_ret2
    exact ⟨_, rfl, own_mono ho2 hb.size, below_step hb hb2⟩
  | false =>
    have hr : pairBest n ps = ([], false) := by simp [pairBest, h]
    rw [hr]
    have HT := Lib.hid (sIn_is false hv h hw)
    clear hr h hv
    go_enter Try.func32, Try.ntmps32
    go_wp2_with fail
    refine HT.out.mono ?_
    rintro e w1 ⟨rfl, hb⟩
    go_wp2
    go_ret2
    exact ⟨_, rfl, own_mono (own_empty w1 w1.heap.size (Nat.le_refl _)) hb.size, hb.alloc hb.size _⟩

set_option maxHeartbeats 1600000 in
theorem sPairChanges_v (v : Value) (n : Int) (ps : List (List Int)) (w : World) (hv : RdM w v ps) (hw : (Lit.int .i64 n).wf = true) :
    Calls Try.prog 30 #[.int .i64 n, v] w (GivesIB w (pairChanges n ps)) := by
  cases h : pairIn n ps with
  | true =>
    have hr : pairChanges n ps = (costP (bestP n.toNat (decL ps)) (decL ps), true) := by simp [pairChanges, h]
    have HT := Lib.hid (sIn_is true hv h hw)
    obtain ⟨m, L, rfl, h1, h6, hs, he, hin, hl, hd⟩ := pair_open h
    rw [hr, hd, Int.toNat_natCast]
    have hbl := bestP_len h1 h6 L
    have HC := Lib.hid fun (w1 : World) (hb : Below w.heap.size w w1) => l8Best_any m v L w1 (by rw [← he]; exact rdM_below hv hb) hs h1 h6
    obtain ⟨X, hX⟩ : ∃ X, X = bestP m L := ⟨_, rfl⟩
    rw [← hX] at HC hbl ⊢
    have HD := Lib.hid fun (w1 : World) (u : Value) (hb : Below w.heap.size w w1) (hu : RdV w1 u X) => l8Cost_any u v X L w1 hu (by rw [← he]; exact rdM_below hv hb) (by rw [hbl]; exact hin) (by omega) (by omega)
    obtain ⟨C, hC⟩ : ∃ C, C = costP X L := ⟨_, rfl⟩
    rw [← hC] at HD ⊢
    clear hr h he hin hl hd hs hv hX hC hbl
    go_enter Try.func30, Try.ntmps30
    go_wp2_with fail
    refine HT.out.mono ?_
    rintro e w1 ⟨rfl, hb⟩
    go_wp2_with fail
    refine (HC.out _ hb).mono ?_
    rintro e w2 ⟨u2, rfl, ho2, hb2⟩
    have HB2 := Lib.hid (below_step hb hb2)
    have HRV := Lib.hid (own_rdv ho2)
    clear ho2 hb2
    go_wp2_with fail
    refine (HD.out _ _ HB2.out HRV.out).mono ?_
    rintro e w3 ⟨rfl, hb3⟩
    go_wp2
    go_ret2
    exact ⟨rfl, below_step HB2.out hb3⟩
  | false =>
    have hr : pairChanges n ps = (0, false) := by simp [pairChanges, h]
    rw [hr]
    have HT := Lib.hid (sIn_is false hv h hw)
    clear hr h hv
    go_enter Try.func30, Try.ntmps30
    go_wp2_with fail
    refine HT.out.mono ?_
    rintro e w1 ⟨rfl, hb⟩
    go_wp2
    go_ret2
    exact ⟨rfl, hb⟩

end Go.Proofs.Ytieldehghmikkaa
