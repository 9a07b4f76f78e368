/-
  The model's contracts: spec.ListAll, ListBlocks.
-/
import Derived.Test.YtjmmhonlkpmmoaaListsT
import Derived.Test.YtjmmhonlkpmmoaaListAll
import Derived.Test.YtjmmhonlkpmmoaaHeldMat
import Derived.Test.YtjmmhonlkpmmoaaRowsCat
namespace Go.Proofs.Ytjmmhonlkpmmoaa
set_option linter.unusedSimpArgs false
set_option linter.unusedVariables false
set_option linter.unnecessarySimpa false
open Go.RowKit

theorem l6In7_is (b : Bool) (n : Int) (w : World) (h : decide (1 ≤ n ∧ n ≤ 7) = b) : Calls Try.prog 55 #[.int .i64 n, .int .i64 1, .int .i64 7] w fun e w' => e = .returned (.bool b) ∧ w = w' := l6In_is b n 1 7 w h

set_option maxHeartbeats 1600000 in
theorem sListAll_w (a : Int) (w : World) : Calls Try.prog 18 #[.int .i64 a] w (FreshMB w (listAll a)) := by
  have HO0 := Lib.hid (ownM_empty w w.heap.size (Nat.le_refl _))
  by_cases h : 1 ≤ a ∧ a ≤ 7
  · have hr : listAll a = (allL a.toNat, true) := by unfold listAll; rw [if_pos h]
    rw [hr]
    obtain ⟨c, rfl⟩ : ∃ c : Nat, a = c := ⟨a.toNat, by omega⟩
    rw [Int.toNat_natCast]
    have hc8 : c ≤ 8 := by omega
    have hc7 : c ≤ 7 := by omega
    have hc1 : 1 ≤ c := by omega
    have HC := Lib.hid fun (w1 : World) => l6In7_is true (c : Int) w1 (by simpa using h)
    have hob := opn_bd c 0 (by omega) (by omega)
    have hbl := fun (w1 : World) => l2Bell_v (c : Int) w1 (by omega) (by omega)
    rw [Int.toNat_natCast, bell_opn c hc8] at hbl
    obtain ⟨T, hT⟩ : ∃ T : Nat, T = (opn c 0).toNat := ⟨_, rfl⟩
    have hTi : opn c 0 = (T : Int) := by omega
    have hT2 : T ≤ 4140 := by omega
    rw [hTi] at hbl
    have HB := Lib.hid hbl
    have HAL : Hid (allL c = (List.range T).map fun p => atL c (p : Nat)) := by show _ = _; unfold allL; rw [hT]
    have HL := Lib.hid fun (p : Nat) (w1 : World) (hp : p < T) => l4At_any c (p : Int) w1 hc8 (by omega) (by omega)
    clear hr h hbl hT hTi hob
    go_enter Try.func18, Try.ntmps18
    go_wp2_with fail
    refine (HC.out _).mono ?_
    rintro e w' ⟨rfl, rfl⟩
    go_wp2_with fail
    go_loopw [4, 5] (fun u v wr => ∃ p g cap : Nat, p ≤ T ∧ v = .int .i64 p ∧ u = .slice (some ⟨g, 0, none⟩) p cap ∧ OwnM wr w.heap.size wr.heap.size (.slice (some ⟨g, 0, none⟩) p cap) ((List.range p).map fun p => atL c (p : Nat)) ∧ Below w.heap.size w wr)
      (fun _ v _ => T - (intOf v).toNat)
    case atStart => exact ⟨0, w.heap.size, 0, Nat.zero_le _, rfl, rfl, ownM_mono HO0.out (Nat.le_refl _) (by simp), (Below.refl _ _).alloc (Nat.le_refl _) _⟩
    case round =>
      obtain ⟨p, g, cap, hp, rfl, rfl, hom, hb⟩ := hrel
      have HOM := Lib.hid hom
      have HBB := Lib.hid hb
      clear hom hb
      go_wp2_with fail
      refine (HB.out _).mono ?_
      rintro e w1 ⟨rfl, hb1⟩
      have HOM1 := Lib.hid (ownM_below HOM.out hb1)
      have hs1 := hb1.size
      have hbel1 := below_step HBB.out hb1
      have HB1 := Lib.hid hbel1
      clear hb1 hbel1
      by_cases hlt : p < T
      · have HLP := Lib.hid fun (w2 : World) => HL.out p w2 hlt
        have hsw := HBB.out.size
        have HRS := Lib.hid (List.range_succ (n := p))
        go_wp2_with fail
        refine (HLP.out _).mono ?_
        rintro e w5 ⟨u, rfl, ho5, hb5⟩
        obtain ⟨gu, cu, rfl⟩ := own_slice' ho5
        have hbel5 := below_step HB1.out hb5
        have hin := inB_of_own ho5
        have HO5 := Lib.hid (own_mono ho5 HB1.out.size)
        have HOM5 := Lib.hid (ownM_below HOM1.out hb5)
        have hs35 := hb5.size
        clear ho5 hb5
        go_wp2_with (at_builtin; refine wpList_row rfl _ _ rfl w w5 _ rfl w1.heap.size g p cap ((List.range p).map fun p => atL c (p : Nat)) rfl (ownM_mono HOM5.out (Nat.le_refl _) (by omega)) (by simp) rfl (atL c (p : Nat)) HO5.out hin ⟨HB1.out.size, hs35⟩ (by omega) hbel5 ?_)
        intro g6 cap6 w6 hown6 hbel6 hs6
        have HO6 := Lib.hid hown6
        clear hown6
        go_wp2
        go_roundw
        case rel => exact ⟨p + 1, g6, cap6, by omega, by go_num, rfl, by rw [HRS.out, List.map_append]; exact HO6.out, hbel6⟩
        case measure => simp [intOf]; omega
      · obtain rfl : p = T := by omega
        go_wp2
        go_ret2
        exact ⟨_, rfl, by rw [HAL.out]; exact ownM_mono HOM1.out (Nat.le_refl _) hs1, HB1.out⟩
  · have hr : listAll a = ([], false) := by unfold listAll; rw [if_neg h]
    rw [hr]
    have HC := Lib.hid fun (w1 : World) => l6In7_is false a w1 (by simpa using h)
    clear hr h
    go_enter Try.func18, Try.ntmps18
    go_wp2_with fail
    refine (HC.out _).mono ?_
    rintro e w' ⟨rfl, rfl⟩
    go_wp2
    go_ret2
    exact ⟨_, rfl, ownM_mono HO0.out (Nat.le_refl _) (by simp), (Below.refl _ _).alloc (Nat.le_refl _) _⟩

theorem sListAll_v (a : Int) (w : World) (_ : (Lit.int .i64 a).wf = true) : Calls Try.prog 18 #[.int .i64 a] w (FreshMB w (listAll a)) := sListAll_w a w

theorem wpList_catV' {w : World} {ops : Array Oper} {rest : List Oper} {o : Oper} {a : Act} {Q : Exit → Act → World → Prop} (hgd : o.guard = none) (s x : Operand)
    (ho : o.op = .call { callee := .builtin .append, args := #[s, x], argTypes := #[28, 28] })
    (B g n cap : Nat) (vs : List Value) (hs : a.eval s = .slice (some ⟨g, 0, none⟩) n cap) (hown : OwnV w B (.slice (some ⟨g, 0, none⟩) n cap) vs) (hn : n = vs.length)
    (ad : Addr) (hx : a.eval x = .slice (some ad) 1 1) (u : Value) (hc : w.cell? ad = some u) (hu : u.oneCell' = true) (hl : n + 1 ≤ 1000000000) (hB : B ≤ w.heap.size)
    (h : ∀ g' cap' w', OwnV w' B (.slice (some ⟨g', 0, none⟩) (n + 1) cap') (vs ++ [u]) → w.grownBy w' (some g) → (g' = g ∨ g' = w.heap.size) → wpList Try.prog ops Q rest (a.put o.dst (.slice (some ⟨g', 0, none⟩) (n + 1) cap')) w') :
    wpList Try.prog ops Q (o :: rest) a w :=
  wpList_plain hgd fun _ hK => wp_catV s x ho B g n cap vs hs hown hn ad 1 1 hx [u] rfl (fun j hj => by
    obtain rfl : j = 0 := by simpa using hj
    simpa [Addr.add] using hc) (fun z hz => by simp at hz; subst hz; exact hu) hl hB (n + 1) rfl fun g' cap' w' h1 h2 h3 => hK _ _ (h g' cap' w' h1 h2 h3)

theorem ownV_later {w w' : World} {B : Nat} {v : Value} {vs : List Value} (h : OwnV w B v vs) (hb : Below w.heap.size w w') : OwnV w' B v vs := World.ownsRow.kept h (grown_of_below hb) (by
  cases ho : v.ownBlock with
  | none => exact .inl rfl
  | some z => exact .inr (by simp))

/-- The places up to i at which a list with k blocks stands. -/
def isOf (k : Int) (xss : List (List Int)) (i : Nat) : List Nat := (List.range i).filter fun j => pSize (xss.getD j []) == k

theorem isOf_succ (k : Int) (xss : List (List Int)) (i : Nat) : isOf k xss (i + 1) = isOf k xss i ++ (if (pSize (xss.getD i []) == k) = true then [i] else []) := by
  unfold isOf
  rw [List.range_succ, List.filter_append]
  congr 1
  simp only [List.filter_cons, List.filter_nil]

theorem isOf_lt {k : Int} {xss : List (List Int)} {i j : Nat} (h : j ∈ isOf k xss i) : j < i := by
  unfold isOf at h
  simp at h
  exact h.1

theorem isOf_sorted (k : Int) (xss : List (List Int)) (i : Nat) : (isOf k xss i).Pairwise (· < ·) := by
  unfold isOf
  exact List.Pairwise.filter _ List.pairwise_lt_range

theorem isOf_filter (k : Int) (xss : List (List Int)) : (isOf k xss xss.length).map (fun j => xss.getD j []) = xss.filter fun xs => pSize xs == k := by
  have e : xss = (List.range xss.length).map (fun j => xss.getD j []) := by
    apply List.ext_getElem?
    intro j
    by_cases hj : j < xss.length
    · simp [hj, List.getD]
    · simp [hj, List.getElem?_eq_none (show xss.length ≤ j by omega)]
  unfold isOf
  conv => rhs; rw [e]
  rw [List.filter_map]
  rfl

/-- Rows of a list of lists of the call's own, picked in order, in a new slice of the call's own. -/
theorem ownM_pick {w : World} {B B0 S S' : Nat} {u : Value} {xss : List (List Int)} {vs : List Value} (hvl : vs.length = xss.length)
    (hrows : ∀ i, i < xss.length → Own w B (vs.getD i undef) (xss.getD i []) ∧ InB (vs.getD i undef) B S) (hap : ∀ i j, i < j → j < xss.length → apart (vs.getD i undef) (vs.getD j undef)) (hB0 : B0 ≤ B) (hS : S ≤ S')
    (is : List Nat) (hlt : ∀ j, j ∈ is → j < xss.length) (hso : is.Pairwise (· < ·)) (ho : OwnV w B0 u (is.map fun j => vs.getD j undef)) (hu : InB u B0 S') : OwnM w B0 S' u (is.map fun j => xss.getD j []) := by
  have hg : ∀ i, i < is.length → (is.map fun j => vs.getD j undef).getD i undef = vs.getD (is.getD i 0) undef ∧ (is.map fun j => xss.getD j []).getD i [] = xss.getD (is.getD i 0) [] ∧ is.getD i 0 < xss.length := fun i hi => by
    refine ⟨by simp [List.getD, hi], by simp [List.getD, hi], ?_⟩
    have : is.getD i 0 ∈ is := by simp [List.getD, hi]
    exact hlt _ this
  refine ⟨is.map fun j => vs.getD j undef, by simp, ?_, hu, ?_, ?_⟩
  · have h2 := ho
    unfold OwnV at h2
    simpa using h2
  · intro i hi
    simp at hi
    obtain ⟨e1, e2, e3⟩ := hg i hi
    rw [e1, e2]
    exact ⟨own_mono (hrows _ e3).1 hB0, inB_mono (hrows _ e3).2 hB0 hS⟩
  · intro i j hij hj
    simp at hj
    obtain ⟨e1, _, e3⟩ := hg i (by omega)
    obtain ⟨f1, _, f3⟩ := hg j hj
    rw [e1, f1]
    refine hap _ _ ?_ f3
    have := List.pairwise_iff_getElem.1 hso i j (by omega) hj hij
    simpa [List.getD, hj, show i < is.length by omega] using this

set_option maxHeartbeats 1600000 in
theorem sListBlocks_v (a b : Int) (w : World) (_ : (Lit.int .i64 a).wf = true) (_ : (Lit.int .i64 b).wf = true) : Calls Try.prog 35 #[.int .i64 a, .int .i64 b] w (FreshMB w (listBlocks a b)) := by
  have HO0 := Lib.hid (ownV_empty w w.heap.size (Nat.le_refl _))
  have HOM0 := Lib.hid (ownM_empty w w.heap.size (Nat.le_refl _))
  have HA := Lib.hid (sListAll_w a (w.alloc (.cells #[] 23)))
  by_cases h : 1 ≤ a ∧ a ≤ 7
  · by_cases h2 : 1 ≤ b ∧ b ≤ 7
    · have hr : listBlocks a b = ((allL a.toNat).filter fun xs => pSize xs == b, true) := by unfold listBlocks; rw [if_pos ⟨h, h2⟩]
      rw [hr]
      have hra : listAll a = (allL a.toNat, true) := by unfold listAll; rw [if_pos h]
      rw [hra] at HA
      have HC := Lib.hid fun (w1 : World) => l6In7_is true b w1 (by simpa using h2)
      have hsm : ∀ i, i < (allL a.toNat).length → Small ((allL a.toNat).getD i []) := fun i hi => by
        have e : (allL a.toNat).getD i [] = atL a.toNat (i : Nat) := by
          rw [allL_length] at hi
          simp [allL, List.getD, hi]
        rw [e]
        exact partIn_small (atL_partIn_any _ _ (by omega) (by omega))
      have hlen : (allL a.toNat).length ≤ 4140 := by
        rw [allL_length]
        have := opn_bd a.toNat 0 (by omega) (by omega)
        omega
      obtain ⟨xss, hxs⟩ : ∃ xss, xss = allL a.toNat := ⟨_, rfl⟩
      rw [← hxs] at HA hsm hlen ⊢
      have HSM := Lib.hid hsm
      obtain ⟨N, hN⟩ : ∃ N, N = xss.length := ⟨_, rfl⟩
      rw [← hN] at hlen
      have HN := Lib.hid hN
      clear hr hra hsm hxs h h2 hN HOM0
      go_enter Try.func35, Try.ntmps35
      go_wp2_with fail
      refine HA.out.mono ?_
      rintro e w1 ⟨va, rfl, homa, hb1⟩
      have hs1 := hb1.size
      simp at hs1
      have hbel1 : Below w.heap.size w w1 := ((Below.refl w.heap.size w).alloc (Nat.le_refl _) _).trans (hb1.mono (by simp))
      have HOV1 := Lib.hid (ownV_later HO0.out hb1)
      have hhs : (w.alloc (.cells #[] 23)).heap.size = w.heap.size + 1 := by simp
      rw [hhs] at homa
      change OwnM w1 (w.heap.size + 1) w1.heap.size va xss at homa
      have HOMA := Lib.hid homa
      obtain ⟨vsA, hvl, hv, hrows, hap⟩ := ownM_parts homa
      have HVL := Lib.hid hvl
      have HROWS := Lib.hid hrows
      have HAP := Lib.hid hap
      clear hb1 hhs hvl hrows hap homa
      have hva : ∃ ga capa, va = .slice ga N capa ∧ capa ≤ maxLen ∧ (∀ i, i < N → ∃ gb, ga = some ⟨gb, 0, none⟩ ∧ w.heap.size + 1 ≤ gb ∧ gb < w1.heap.size ∧ w1.cell? ⟨gb, i, none⟩ = some (vsA.getD i undef)) := by
        rcases hv with ⟨e1, e2⟩ | ⟨g, cap, e1, e2, e3, e4, e5, e6, e7, e8⟩
        · exact ⟨none, 0, by rw [e1]; have := HN.out; rw [e2] at this; simp at this; rw [this], Nat.zero_le _, fun i hi => by have := HN.out; rw [e2] at this; simp at this; omega⟩
        · exact ⟨some ⟨g, 0, none⟩, cap, by rw [e1, HN.out], e6, fun i hi => ⟨g, rfl, e2, e4, e7 i (by rw [← HN.out]; exact hi)⟩⟩
      obtain ⟨ga, capa, rfl, hcapm, hcells⟩ := hva
      unfold maxLen at hcapm
      have HCELL := Lib.hid hcells
      clear hv hcells
      go_wp2_with (go_at_call 55; refine (HC.out _).mono ?_; rintro e w' ⟨rfl, rfl⟩)
      go_loopw [6, 9] (fun u v wr => ∃ i m g cap : Nat, i ≤ N ∧ v = .int .i64 i ∧ u = .slice (some ⟨g, 0, none⟩) m cap ∧ m = (isOf b xss i).length ∧ OwnV wr w.heap.size (.slice (some ⟨g, 0, none⟩) m cap) ((isOf b xss i).map fun j => vsA.getD j undef) ∧ (g = w.heap.size ∨ w1.heap.size ≤ g) ∧ (∀ z, w.heap.size + 1 ≤ z → z < w1.heap.size → wr.heap[z]? = w1.heap[z]?) ∧ w1.heap.size ≤ wr.heap.size ∧ Below w.heap.size w wr)
        (fun _ v _ => N - (intOf v).toNat)
      case atStart => exact ⟨0, 0, w.heap.size, 0, Nat.zero_le _, rfl, rfl, rfl, HOV1.out, .inl rfl, fun _ _ _ => rfl, Nat.le_refl _, hbel1⟩
      case round =>
        obtain ⟨i, m, g, cap, hi, rfl, rfl, hm, hov, hg, hkeep, hwr, hb⟩ := hrel
        have HOV := Lib.hid hov
        have HK := Lib.hid hkeep
        have HM := Lib.hid hm
        have hmi : m ≤ 4140 := by
          have := List.length_filter_le (fun j => pSize (xss.getD j []) == b) (List.range i)
          rw [List.length_range] at this
          have h3 : m ≤ i := by rw [hm]; exact this
          omega
        by_cases hlt : i < N
        · obtain ⟨gb, rfl, hgb1, hgb2, hcell⟩ := HCELL.out i hlt
          have hcw : wr.cell? ⟨gb, i, none⟩ = some (vsA.getD i undef) := by
            rw [World.cell?_of_block (w := w1) (w' := wr) (a := ⟨gb, i, none⟩) (hkeep gb hgb1 hgb2)]
            exact hcell
          have hil : i < xss.length := HN.out ▸ hlt
          have hrow := (HROWS.out i hil).1
          have hrow2 : Own wr (w.heap.size + 1) (vsA.getD i undef) (xss.getD i []) := by
            have hin := (HROWS.out i hil).2
            refine ⟨hrow.1, ?_⟩
            rcases hrow.2 with h2 | ⟨gz, cz, cur, ez, hb', hgz, rest⟩
            · exact .inl h2
            · have := hin gz (by rw [ez]; rfl)
              exact .inr ⟨gz, cz, cur, ez, hb', by rw [hkeep gz this.1 this.2]; exact hgz, rest⟩
          have HSZ := Lib.hid (l1Size_v (vsA.getD i undef) (xss.getD i []) wr (own_rdv hrow2) (HSM.out i hil))
          have hsucc := isOf_succ b xss i
          obtain ⟨ux, hux⟩ : ∃ ux, ux = vsA.getD i undef := ⟨_, rfl⟩
          rw [← hux] at HSZ hcw hrow2
          obtain ⟨ao, cu, hus⟩ := own_slice' hrow2
          have hone : ux.oneCell' = true := by rw [hus]; rfl
          have HUX := Lib.hid hux
          obtain ⟨lx, hlx⟩ : ∃ lx, lx = (xss.getD i []).length := ⟨_, rfl⟩
          rw [← hlx] at hus
          subst hus
          obtain ⟨z, hz⟩ : ∃ z, z = pSize (xss.getD i []) := ⟨_, rfl⟩
          rw [← hz] at HSZ hsucc
          clear hkeep hm hov hcell hrow hrow2 hux hlx hz
          have hbs := hb.size
          obtain ⟨VS, hVS⟩ : ∃ VS, VS = (isOf b xss i).map fun j => vsA.getD j undef := ⟨_, rfl⟩
          rw [← hVS] at HOV
          have HVS := Lib.hid hVS
          have HVL2 : Hid (m = VS.length) := by
            show m = VS.length
            rw [hVS, List.length_map]
            exact HM.out
          by_cases hzb : (z == b) = true
          · rw [if_pos hzb] at hsucc
            have HSUCC := Lib.hid hsucc
            have hov0 := (ownV_later HOV.out ((Below.refl wr.heap.size wr).alloc (Nat.le_refl _) (.cells #[.slice ao lx cu] 23)))
            have HOVA := Lib.hid hov0
            have hB0 : Below w.heap.size w (wr.alloc (.cells #[.slice ao lx cu] 23)) := hb.alloc hbs _
            have HB0 := Lib.hid hB0
            clear hov0 hVS hsucc hB0 hb
            go_wp2_with (first | (go_at_call 75; refine HSZ.out.mono ?_; rintro e w' ⟨rfl, rfl⟩) | (at_builtin; refine wpList_catV' rfl _ _ rfl w.heap.size g m cap VS rfl HOVA.out HVL2.out ⟨wr.heap.size, 0, none⟩ rfl (.slice ao lx cu) (cell_new1 _ _ _) hone (by omega) (by simp; omega) ?_))
            intro g' cap' w3 hov3 hgr3 hg3
            have hov3' : OwnV w3 w.heap.size (.slice (some ⟨g', 0, none⟩) (m + 1) cap') ((isOf b xss (i + 1)).map fun j => vsA.getD j undef) := by
              rw [HSUCC.out, List.map_append, ← HVS.out]
              rw [HUX.out] at hov3
              exact hov3
            have hb3 : Below w.heap.size w w3 := HB0.out.grown hgr3 (by simp; omega) (fun q hq => by cases hq; omega)
            have hk3 : ∀ y, w.heap.size + 1 ≤ y → y < w1.heap.size → w3.heap[y]? = w1.heap[y]? := fun y h1 h2 => by
              rw [hgr3.block y (by simp; omega) (by intro e; cases e; omega)]
              rw [((Below.refl wr.heap.size wr).alloc (Nat.le_refl _) (.cells #[.slice ao lx cu] 23)).block y (by omega)]
              exact HK.out y h1 h2
            have hs3 : w1.heap.size ≤ w3.heap.size := by
              have := hgr3.size
              simp at this
              omega
            have hg3' : g' = w.heap.size ∨ w1.heap.size ≤ g' := by
              rcases hg3 with h | h
              · rw [h]; exact hg
              · right; omega
            have HOV3 := Lib.hid hov3'
            have HB3 := Lib.hid hb3
            have HK3 := Lib.hid hk3
            clear hov3 hov3' hgr3 hg3 hb3 hk3
            go_wp2
            go_roundw
            case rel => exact ⟨i + 1, m + 1, g', cap', by omega, by go_num, rfl, by rw [HSUCC.out, List.length_append, ← HM.out]; rfl, HOV3.out, hg3', HK3.out, hs3, HB3.out⟩
            case measure => simp [intOf]; omega
          · have hzb : (z == b) = false := by simpa using hzb
            rw [hzb, if_neg (by decide), List.append_nil] at hsucc
            have HSUCC := Lib.hid hsucc
            have HBH := Lib.hid hb
            clear hVS hsucc hb
            go_wp2_with (go_at_call 75; refine HSZ.out.mono ?_; rintro e w' ⟨rfl, rfl⟩)
            go_roundw
            case rel => exact ⟨i + 1, m, g, cap, by omega, by go_num, rfl, by rw [HSUCC.out]; exact HM.out, by rw [HSUCC.out, ← HVS.out]; exact HOV.out, hg, HK.out, hwr, HBH.out⟩
            case measure => simp [intOf]; omega
        · obtain rfl : i = N := by omega
          have HBH := Lib.hid hb
          have hbs := hb.size
          have hgw : g < wr.heap.size := by
            have := World.ownsRow.lt HOV.out g rfl
            omega
          have hgw2 := hgw
          clear hkeep hov hb hm
          go_wp2
          go_ret2
          refine ⟨_, rfl, ?_, HBH.out⟩
          have hp := ownM_pick (w := wr) (B := w.heap.size + 1) (B0 := w.heap.size) (S := w1.heap.size) (S' := wr.heap.size) (u := .slice (some ⟨g, 0, none⟩) m cap) HVL.out (fun y hy => by
            have hrow := (HROWS.out y hy).1
            have hin := (HROWS.out y hy).2
            refine ⟨⟨hrow.1, ?_⟩, hin⟩
            rcases hrow.2 with h2 | ⟨gz, cz, cur, ez, hb', hgz, rest⟩
            · exact .inl h2
            · have := hin gz (by rw [ez]; rfl)
              exact .inr ⟨gz, cz, cur, ez, hb', by rw [HK.out gz this.1 this.2]; exact hgz, rest⟩) HAP.out (by omega) hwr (isOf b xss i) (fun y hy => by have := isOf_lt hy; rw [HN.out] at this; exact this) (isOf_sorted _ _ _) HOV.out (fun q hq => by simp [Value.ownBlock] at hq; omega)
          have hfin := isOf_filter b xss
          rw [← HN.out] at hfin
          rw [hfin] at hp
          exact hp
    · have hr : listBlocks a b = ([], false) := by unfold listBlocks; rw [if_neg (fun x => h2 x.2)]
      rw [hr]
      have hra : listAll a = (allL a.toNat, true) := by unfold listAll; rw [if_pos h]
      rw [hra] at HA
      have HC := Lib.hid fun (w1 : World) => l6In7_is false b w1 (by simpa using h2)
      clear hr hra h h2
      go_enter Try.func35, Try.ntmps35
      go_wp2_with fail
      refine HA.out.mono ?_
      rintro e w1 ⟨va, rfl, homa, hb1⟩
      have hom1 := ownM_below HOM0.out hb1
      have hs1 := hb1.size
      simp at hs1
      have hbel1 : Below w.heap.size w w1 := ((Below.refl w.heap.size w).alloc (Nat.le_refl _) _).trans (hb1.mono (by simp))
      have HOM1 := Lib.hid (ownM_mono hom1 (Nat.le_refl _) hs1)
      clear hom1 homa hb1
      go_wp2_with (go_at_call 55; refine (HC.out _).mono ?_; rintro e w' ⟨rfl, rfl⟩)
      go_ret2
      exact ⟨_, rfl, HOM1.out, hbel1⟩
  · have hr : listBlocks a b = ([], false) := by unfold listBlocks; rw [if_neg (fun x => h x.1)]
    rw [hr]
    have hra : listAll a = ([], false) := by unfold listAll; rw [if_neg h]
    rw [hra] at HA
    clear hr hra h
    go_enter Try.func35, Try.ntmps35
    go_wp2_with fail
    refine HA.out.mono ?_
    rintro e w1 ⟨va, rfl, homa, hb1⟩
    have hom1 := ownM_below HOM0.out hb1
    have hs1 := hb1.size
    simp at hs1
    have hbel1 : Below w.heap.size w w1 := ((Below.refl w.heap.size w).alloc (Nat.le_refl _) _).trans (hb1.mono (by simp))
    have HOM1 := Lib.hid (ownM_mono hom1 (Nat.le_refl _) hs1)
    clear hom1 homa hb1
    go_wp2
    go_ret2
    exact ⟨_, rfl, HOM1.out, hbel1⟩

end Go.Proofs.Ytjmmhonlkpmmoaa
