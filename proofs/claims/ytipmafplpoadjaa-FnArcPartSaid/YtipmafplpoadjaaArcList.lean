/-
  The contracts of spec.l5Arcs, and of ArcList of both sides.
-/
import Derived.Test.YtipmafplpoadjaaMatIn
import Derived.Test.YtipmafplpoadjaaMatHelp
import Derived.Test.YtipmafplpoadjaaPairs
import Derived.Test.YtipmafplpoadjaaPartIn
namespace Go.Proofs.Ytipmafplpoadjaa
set_option linter.unusedSimpArgs false
set_option linter.unusedVariables false
set_option linter.unnecessarySimpa false
open Go.RowKit

/-- 'append(out, row)' onto a list of lists of the call's own, nil or not. -/
theorem wpList_pushV {w : World} {ops : Array Oper} {rest : List Oper} {o : Oper} {a : Act} {Q : Exit → Act → World → Prop} (hgd : o.guard = none) (s x : Operand)
    (ho : o.op = .call { callee := .builtin .append, args := #[s, x], argTypes := #[28, 28] })
    (B S m : Nat) (v : Value) (xss : List (List Int)) (hs : a.eval s = v) (hown : OwnM w B S v xss) (hn : m = xss.length)
    (ad : Addr) (hx : a.eval x = .slice (some ad) 1 1) (u : Value) (ys : List Int) (hc : w.cell? ad = some u) (hu : Own w B u ys) (hui : InB u S w.heap.size) (hBS : B ≤ S) (hSw : S ≤ w.heap.size) (hl : m ≤ 1000000000)
    (h : ∀ g' cap' w', OwnM w' B w'.heap.size (.slice (some ⟨g', 0, none⟩) (m + 1) cap') (xss ++ [ys]) → w.grownBy w' v.ownBlock → wpList Try.prog ops Q rest (a.put o.dst (.slice (some ⟨g', 0, none⟩) (m + 1) cap')) w') :
    wpList Try.prog ops Q (o :: rest) a w :=
  wpList_plain hgd fun _ hK => by
    obtain ⟨g', cap', w', hru, h1, h2⟩ := run_pushV o.type B S m v xss hown hn ad u ys hc hu hui hBS hSw hl
    unfold Oper.wp execOp
    simp only [ho, resolve, invoke, builtin, Sem.run_bind, Sem.run_pure, Result.andThen_ok, List.map_toArray, List.map_cons, List.map_nil, hs, hx, hru]
    exact hK _ _ (h g' cap' w' h1 h2)

theorem own_two (w : World) (B : Nat) (x y : Int) (hB : B ≤ w.heap.size) : Own (w.alloc (.cells #[.int .i64 x, .int .i64 y] 3)) B (.slice (some ⟨w.heap.size, 0, none⟩) 2 2) [x, y] :=
  ⟨rfl, .inr ⟨w.heap.size, 2, _, rfl, hB, heap_alloc_new w _, Nat.le_refl _, by decide, rfl, rfl⟩⟩

theorem rowsOf_append (L M : List (Nat × Nat)) : rowsOf (L ++ M) = rowsOf L ++ rowsOf M := by simp [rowsOf]
theorem rowsOf_length (L : List (Nat × Nat)) : (rowsOf L).length = L.length := by simp [rowsOf]

theorem idx_first {x : Int} {ys : List Int} {t : Nat} (ht : t < ys.length) (he : ys.getD t 0 = x) (hn : ∀ j, j < t → ys.getD j 0 ≠ x) : x ∈ ys ∧ ys.idxOf x = t := by
  have hm : x ∈ ys := mem_of_getD ht he
  refine ⟨hm, ?_⟩
  have hil := List.idxOf_lt_length_of_mem hm
  have hig := getD_idxOf hm
  rcases Nat.lt_trichotomy (ys.idxOf x) t with h | h | h
  · exact absurd hig (hn _ h)
  · exact h
  · have := List.not_of_lt_findIdx (p := (· == x)) (xs := ys) (i := t) (by simpa [List.idxOf] using h)
    simp [List.getD, ht] at he
    simp [he] at this

set_option maxHeartbeats 4000000 in
theorem l5Arcs_any (v : Value) (xs : List Int) (w : World) (hv : RdV w v xs) (hl8 : xs.length ≤ 1000000) : Calls Try.prog 52 #[v] w (FreshM w (rowsOf (arcsOf xs))) := by
  obtain ⟨ao, ca, rfl, hx, hlc, hcm⟩ := hv
  obtain ⟨n, hn⟩ : ∃ n, n = xs.length := ⟨_, rfl⟩
  rw [← hn] at hl8 hlc ⊢
  have HN := Lib.hid hn
  clear hn
  have HX := Lib.hid hx
  clear hx
  go_enter Try.func52, Try.ntmps52
  go_wp2
  go_loopw [3, 4] (fun u i wr => ∃ (k g m cap : Nat) (L : List (Nat × Nat)), k ≤ n ∧ i = .int .i64 k ∧ u = .slice (some ⟨g, 0, none⟩) m cap ∧ Hid (m = L.length) ∧ m ≤ k ∧ Hid (arcsOf xs = L ++ arcsFrom k (xs.drop k)) ∧ OwnM wr w.heap.size wr.heap.size (.slice (some ⟨g, 0, none⟩) m cap) (rowsOf L) ∧ Below w.heap.size w wr)
    (fun _ i _ => n - (intOf i).toNat)
  case atStart => exact ⟨0, w.heap.size, 0, 0, [], Nat.zero_le _, rfl, rfl, Lib.hid rfl, Nat.le_refl _, Lib.hid (by simp [arcsOf]), by simpa [rowsOf] using ownM_empty w _ (Nat.le_refl _), (Below.refl _ _).alloc (Nat.le_refl _) _⟩
  case round =>
    obtain ⟨k, g, m, cap, L, hk, rfl, rfl, HM, hmk, HE, hown, hbel⟩ := hrel
    have HO := Lib.hid hown
    have hB := hbel.size
    clear hown
    by_cases hlt : k < n
    · rcases HX.out with hx | ⟨bb, off, rfl, hcx⟩
      · have := HN.out
        rw [hx] at this
        simp at this
        omega
      obtain ⟨wo, hwo⟩ : ∃ wo : World, wo = wr := ⟨_, rfl⟩
      subst hwo
      have HC := Lib.hid (fun j (hj : j < n) => show wo.cell? ⟨bb, off + j, none⟩ = some (.int .i64 (xs.getD j 0)) by
        have := hcx j (by have := HN.out; omega)
        rw [hbel.cell (World.block_lt_of_cell? w _ this)]
        exact this)
      clear hcx
      have hck := HC.out k hlt
      have HDC := Lib.hid (drop_cons xs k (by have := HN.out; omega))
      obtain ⟨x, hx⟩ : ∃ x, x = xs.getD k 0 := ⟨_, rfl⟩
      rw [← hx] at hck HDC
      clear hx
      go_wp2
      go_loopw [3, 5] (fun u i wi => ∃ t : Nat, u = .slice (some ⟨g, 0, none⟩) m cap ∧ k < t ∧ t ≤ n ∧ i = .int .i64 t ∧ Hid (∀ j, k < j → j < t → xs.getD j 0 ≠ x) ∧ Below wo.heap.size wo wi)
        (fun _ i _ => n - (intOf i).toNat)
      case atStart => exact ⟨k + 1, rfl, by omega, by omega, by go_num, Lib.hid (fun j h1 h2 => by omega), Below.refl _ _⟩
      case round =>
        obtain ⟨t, rfl, hkt, htn, rfl, HNE, hbi⟩ := hrel
        have hBi := hbi.size
        have hbw : Below w.heap.size w wr := below_step hbel hbi
        by_cases htl : t < n
        · have hct := HC.out t htl
          rw [← hbi.cell (World.block_lt_of_cell? wo _ hct)] at hct
          have hck2 := hck
          rw [← hbi.cell (World.block_lt_of_cell? wo _ hck)] at hck2
          obtain ⟨y, hy⟩ : ∃ y, y = xs.getD t 0 := ⟨_, rfl⟩
          rw [← hy] at hct
          have HY := Lib.hid hy
          clear hy
          by_cases hyx : y = x
          · have hd : (y == x) = true := by simpa using hyx
            have HYX := Lib.hid hyx
            clear hyx
            go_wp2
            go_quiet (fail)
            have hcell := cell_new1 ((wr.drewN nq).alloc (.cells #[.int .i64 k, .int .i64 t] 3)) (.slice (some ⟨wr.heap.size, 0, none⟩) 2 2) 23
            rw [show ((wr.drewN nq).alloc (.cells #[.int .i64 k, .int .i64 t] 3)).heap.size = wr.heap.size + 1 by simp] at hcell
            have hou : Own (((wr.drewN nq).alloc (.cells #[.int .i64 k, .int .i64 t] 3)).alloc (.cells #[.slice (some ⟨wr.heap.size, 0, none⟩) 2 2] 23)) w.heap.size (.slice (some ⟨wr.heap.size, 0, none⟩) 2 2) [(k : Int), (t : Int)] := own_alloc (own_two (wr.drewN nq) w.heap.size k t (by simp; omega)) _
            have hom : OwnM (((wr.drewN nq).alloc (.cells #[.int .i64 k, .int .i64 t] 3)).alloc (.cells #[.slice (some ⟨wr.heap.size, 0, none⟩) 2 2] 23)) w.heap.size wo.heap.size (.slice (some ⟨g, 0, none⟩) m cap) (rowsOf L) := ownM_below HO.out (((below_drewN hbi nq).alloc (by simp; omega) _).alloc (by simp; omega) _)
            have HCE := Lib.hid hcell
            have HOU := Lib.hid hou
            have HOM := Lib.hid hom
            have hbq := ((below_drewN hbw nq).alloc (by simp; omega) (.cells #[.int .i64 k, .int .i64 t] 3)).alloc (by simp; omega) (.cells #[.slice (some ⟨wr.heap.size, 0, none⟩) 2 2] 23)
            have HBQ := Lib.hid hbq
            clear hcell hou hom hbq
            go_wp2_with (at_builtin; refine wpList_pushV rfl _ _ rfl w.heap.size wo.heap.size m _ (rowsOf L) rfl HOM.out (by rw [HM.out, rowsOf_length]) ⟨wr.heap.size + 1, 0, none⟩ rfl _ _ HCE.out HOU.out (fun q hq => by simp [Value.ownBlock] at hq; simp; omega) hB (by simp; omega) (by omega) ?_; intro g4 cap4 w4 hown4 hgr4)
            have hbel4 : Below w.heap.size w w4 := HBQ.out.grown hgr4 (by simp; omega) (fun q hq => by
              obtain ⟨vs, hr⟩ := ownM_row0 HOM.out
              exact (World.ownsRow.lt hr q hq).1)
            have HO4 := Lib.hid hown4
            clear hown4 hgr4
            have hid := idx_first (x := x) (ys := xs.drop (k + 1)) (t := t - (k + 1)) (by rw [List.length_drop]; have := HN.out; omega)
              (by rw [← HYX.out, HY.out]; simp [List.getD, show k + 1 + (t - (k + 1)) = t by omega])
              (fun j hj => by
                have := HNE.out (k + 1 + j) (by omega) (by omega)
                simpa [List.getD] using this)
            have HST := Lib.hid (arcsFrom_yes (i := k) hid.1)
            rw [hid.2, show k + 1 + (t - (k + 1)) = t by omega] at HST
            clear hid
            go_wp2
            go_roundw
            case rel => exact ⟨k + 1, g4, m + 1, cap4, L ++ [(k, t)], by omega, by go_num, rfl, Lib.hid (by rw [HM.out]; simp), by omega, Lib.hid (by rw [HE.out, HDC.out, HST.out, List.append_assoc]; rfl), by rw [rowsOf_append]; exact HO4.out, hbel4⟩
            case measure => simp [intOf]; omega
          · have hd : (y == x) = false := by simpa using hyx
            have HYX := Lib.hid hyx
            clear hyx
            go_wp2
            go_quiet (fail)
            go_wp2
            go_roundw
            case rel => 
              refine ⟨t + 1, rfl, by omega, by omega, by go_num, Lib.hid fun j h1 h2 => ?_, below_drewN hbi _⟩
              by_cases hjt : j = t
              · subst hjt; rw [← HY.out]; exact HYX.out
              · exact HNE.out j h1 (by omega)
            case measure => simp [intOf]; omega
        · have htn' : t = n := by omega
          subst htn'
          have hno : x ∉ xs.drop (k + 1) := fun hm => by
            obtain ⟨j, hj, he⟩ := List.getElem_of_mem hm
            rw [List.getElem_drop] at he
            simp at hj
            refine HNE.out (k + 1 + j) (by omega) (by have := HN.out; omega) ?_
            simp [List.getD, show k + 1 + j < xs.length by omega, he]
          have HST := Lib.hid (arcsFrom_no (i := k) hno)
          clear hno
          go_wp2
          go_roundw
          case rel => exact ⟨k + 1, g, m, cap, L, by omega, by go_num, rfl, HM, by omega, Lib.hid (by rw [HE.out, HDC.out, HST.out]), ownM_mono (ownM_below HO.out hbi) (Nat.le_refl _) hBi, hbw⟩
          case measure => simp [intOf]; omega
    · have hkn : k = n := by omega
      subst hkn
      have HE2 := Lib.hid (show rowsOf (arcsOf xs) = rowsOf L by
        rw [HE.out, HN.out, List.drop_length]
        simp [arcsFrom])
      go_wp2
      go_ret
      rw [HE2.out]
      exact ⟨_, rfl, HO.out, hbel⟩

def arcList (xs : List Int) : List (List Int) × Bool := if partIn xs then (rowsOf (arcsOf xs), true) else ([], false)

theorem sArcList_v (v : Value) (xs : List Int) (w : World) (hv : RdV w v xs) : Calls Try.prog 18 #[v] w (FreshMB w (arcList xs)) := by
  have HV := Lib.hid hv
  clear hv
  by_cases hp : partIn xs = true
  · have hr : arcList xs = (rowsOf (arcsOf xs), true) := by simp [arcList, hp]
    rw [hr]
    have hl := partIn_len hp
    have HA := Lib.hid (l5Arcs_any v xs w HV.out (by omega))
    have HP := Lib.hid hp
    clear hp hr hl
    go_enter Try.func18, Try.ntmps18
    go_wp2_with fail
    refine (sPartIn_is true _ _ _ HV.out HP).mono ?_
    rintro e w' ⟨rfl, rfl⟩
    go_wp2_with fail
    refine HA.out.mono ?_
    rintro e w' ⟨u, rfl, ho, hb⟩
    go_wp2
    go_ret2
    exact ⟨_, rfl, ho, hb⟩
  · have hp : partIn xs = false := by simpa using hp
    have hr : arcList xs = ([], false) := by simp [arcList, hp]
    rw [hr]
    have HP := Lib.hid hp
    clear hp hr
    go_enter Try.func18, Try.ntmps18
    go_wp2_with fail
    refine (sPartIn_is false _ _ _ HV.out HP).mono ?_
    rintro e w' ⟨rfl, rfl⟩
    go_wp2
    go_ret2
    exact ⟨_, rfl, by simpa using ownM_empty w _ (Nat.le_refl _), (Below.refl _ _).alloc (Nat.le_refl _) _⟩

theorem rowsOf_take (L : List (Nat × Nat)) (k : Nat) (h : k < L.length) : rowsOf (L.take (k + 1)) = rowsOf (L.take k) ++ [[((L.getD k (0, 0)).1 : Int), ((L.getD k (0, 0)).2 : Int)]] := by
  rw [take_snocA L k h, rowsOf_append]
  rfl

set_option maxHeartbeats 4000000 in
theorem iArcList_v (v : Value) (xs : List Int) (w : World) (hv : RdV w v xs) : Calls Try.prog 17 #[v] w (FreshMB w (arcList xs)) := by
  have HV := Lib.hid hv
  clear hv
  by_cases hp : partIn xs = true
  · have hr : arcList xs = (rowsOf (arcsOf xs), true) := by simp [arcList, hp]
    rw [hr]
    have hl := partIn_len hp
    have HA := Lib.hid (arcsOf_any v xs w HV.out (by omega))
    have hal := arcsOf_len xs
    obtain ⟨L, hL⟩ : ∃ L, L = arcsOf xs := ⟨_, rfl⟩
    rw [← hL] at HA hal ⊢
    have HP := Lib.hid hp
    have hL8 : L.length ≤ 8 := by omega
    clear hp hr hl hL hal
    go_enter Try.func17, Try.ntmps17
    go_wp2_with fail
    refine (iPartIn_is true _ _ _ HV.out HP).mono ?_
    rintro e w' ⟨rfl, rfl⟩
    go_wp2_with fail
    refine HA.out.mono ?_
    rintro e w1 ⟨va, rfl, ho, hb1⟩
    obtain ⟨ao, ca, rfl, hlc, hcm, hx⟩ := ownA_rd ho
    obtain ⟨n, hn⟩ : ∃ n, n = L.length := ⟨_, rfl⟩
    rw [← hn] at hlc hL8 ⊢
    have HN := Lib.hid hn
    have HX := Lib.hid hx
    clear ho hn hx
    have hs1 := hb1.size
    go_wp2
    go_loopw [4, 13] (fun u i wr => ∃ k : Nat, k ≤ n ∧ i = .int .i64 k ∧ OwnM wr w1.heap.size wr.heap.size u (rowsOf (L.take k)) ∧ Below w1.heap.size w1 wr)
      (fun _ i _ => n - (intOf i).toNat)
    case atStart => exact ⟨0, Nat.zero_le _, rfl, by simpa [rowsOf] using ownM_nil w1 w1.heap.size w1.heap.size, Below.refl _ _⟩
    case round =>
      obtain ⟨k, hk, rfl, hown, hbel⟩ := hrel
      have hbs := hbel.size
      have HO := Lib.hid hown
      clear hown
      by_cases hlt : k < n
      · rcases HX.out with hx | ⟨bb, rfl, hcx⟩
        · have := HN.out
          rw [hx] at this
          simp at this
          omega
        obtain ⟨hc1, hc2⟩ := hcx k (by have := HN.out; omega)
        rw [← hbel.cell (World.block_lt_of_cell? w1 _ hc1)] at hc1
        rw [← hbel.cell (World.block_lt_of_cell? w1 _ hc2)] at hc2
        have HT := Lib.hid (rowsOf_take L k (by have := HN.out; omega))
        have hkl : (rowsOf (L.take k)).length = k := by rw [rowsOf_length]; have := HN.out; simp; omega
        have HKL := Lib.hid hkl
        obtain ⟨⟨a, b⟩, hy⟩ : ∃ y, y = L.getD k (0, 0) := ⟨_, rfl⟩
        rw [← hy] at hc1 hc2 HT
        dsimp only at hc1 hc2 HT
        clear hy hcx hkl
        have e1 : (wr.alloc (.cells #[.int .i64 a, .int .i64 b] 61)).heap.size = wr.heap.size + 1 := by simp
        have e2 : ((wr.alloc (.cells #[.int .i64 a, .int .i64 b] 61)).alloc (.cells #[.int .i64 a, .int .i64 b] 3)).heap.size = wr.heap.size + 1 + 1 := by simp
        have hcell := cell_new1 ((wr.alloc (.cells #[.int .i64 a, .int .i64 b] 61)).alloc (.cells #[.int .i64 a, .int .i64 b] 3)) (.slice (some ⟨wr.heap.size + 1, 0, none⟩) 2 2) 23
        rw [e2] at hcell
        have hou0 := own_two (wr.alloc (.cells #[.int .i64 a, .int .i64 b] 61)) w1.heap.size a b (by rw [e1]; omega)
        rw [e1] at hou0
        have HCE := Lib.hid hcell
        have HOU := Lib.hid (own_alloc hou0 (.cells #[.slice (some ⟨wr.heap.size + 1, 0, none⟩) 2 2] 23))
        have hb3 : Below wr.heap.size wr (((wr.alloc (.cells #[.int .i64 a, .int .i64 b] 61)).alloc (.cells #[.int .i64 a, .int .i64 b] 3)).alloc (.cells #[.slice (some ⟨wr.heap.size + 1, 0, none⟩) 2 2] 23)) := (((Below.refl _ _).alloc (Nat.le_refl _) _).alloc (by rw [e1]; omega) _).alloc (by rw [e2]; omega) _
        have HOM := Lib.hid (ownM_below HO.out hb3)
        have HBQ := Lib.hid (hbel.trans (hb3.mono hbs))
        clear hcell hou0 hb3 e1 e2
        go_wp2_with (at_builtin; refine wpList_pushV rfl _ _ rfl w1.heap.size wr.heap.size k _ (rowsOf (L.take k)) rfl HOM.out HKL.out.symm ⟨wr.heap.size + 1 + 1, 0, none⟩ rfl _ _ HCE.out HOU.out (fun q hq => by simp [Value.ownBlock] at hq; simp; omega) (by omega) (by simp; omega) (by omega) ?_; intro g4 cap4 w4 hown4 hgr4)
        have hbel4 : Below w1.heap.size w1 w4 := HBQ.out.grown hgr4 (by simp; omega) (fun q hq => by
          obtain ⟨vs, hr⟩ := ownM_row0 HO.out
          exact (World.ownsRow.lt hr q hq).1)
        rw [← HT.out] at hown4
        have HO4 := Lib.hid hown4
        clear hown4 hgr4
        go_wp2
        go_roundw
        case rel => exact ⟨k + 1, by omega, by go_num, HO4.out, hbel4⟩
        case measure => simp [intOf]; omega
      · have hkn : k = n := by omega
        subst hkn
        have HE2 := Lib.hid (show rowsOf (L.take k) = rowsOf L by rw [HN.out, List.take_length])
        go_wp2
        go_ret2
        rw [← HE2.out]
        exact ⟨_, rfl, ownM_mono HO.out hs1 (Nat.le_refl _), hb1.trans (hbel.mono hs1)⟩
  · have hp : partIn xs = false := by simpa using hp
    have hr : arcList xs = ([], false) := by simp [arcList, hp]
    rw [hr]
    have HP := Lib.hid hp
    clear hp hr
    go_enter Try.func17, Try.ntmps17
    go_wp2_with fail
    refine (iPartIn_is false _ _ _ HV.out HP).mono ?_
    rintro e w' ⟨rfl, rfl⟩
    go_wp2
    go_ret2
    exact ⟨_, rfl, ownM_nil _ _ _, Below.refl _ _⟩

theorem total_rowsOf (L : List (Nat × Nat)) : total (rowsOf L) = 2 * L.length := by
  induction L with
  | nil => rfl
  | cons p L ih =>
    show total ([(p.1 : Int), (p.2 : Int)] :: rowsOf L) = _
    rw [total_cons, ih]
    simp
    omega

theorem arcList_len (xs : List Int) (_ : xs.length ≤ 1048576) : (arcList xs).1.length ≤ 1000000 ∧ total (arcList xs).1 ≤ 1000000 := by
  by_cases hp : partIn xs = true
  · have hl := partIn_len hp
    have := arcsOf_len xs
    simp [arcList, hp, rowsOf_length, total_rowsOf]
    omega
  · simp [arcList, hp, total]

end Go.Proofs.Ytipmafplpoadjaa
