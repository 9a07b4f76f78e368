/-
  The model's contracts: spec.ListAll, ListBlocks.
-/
import Derived.Test.YtieldehghmikkaaListsT
import Derived.Test.YtieldehghmikkaaListAll
import Derived.Test.YtieldehghmikkaaHeldMat
import Derived.Test.YtieldehghmikkaaRowsCat
namespace Go.Proofs.Ytieldehghmikkaa
set_option linter.unusedSimpArgs false
set_option linter.unusedVariables false
set_option linter.unnecessarySimpa false
open Go.RowKit

theorem l6In7_is (b : Bool) (n : Int) (w : World) (h : decide (1 ≤ n ∧ n ≤ 7) = b) : Calls Try.prog 43 #[.int .i64 n, .int .i64 1, .int .i64 7] w fun e w' => e = .returned (.bool b) ∧ w = w' := l6In_is b n 1 7 w h

set_option maxHeartbeats 1600000 in
theorem sListAll_w (a : Int) (w : World) : Calls Try.prog 73 #[.int .i64 a] w (FreshMB w (listAll a)) := by
  have HO0 := Lib.hid (ownM_empty w w.heap.size (Nat.le_refl _))
  by_cases h : 1 ≤ a ∧ a ≤ 7
  · have hr : listAll a = (allL a.toNat, true) := by unfold listAll; rw [if_pos h]
    rw [hr]
    obtain ⟨c, rfl⟩ : ∃ c : Nat, a = c := ⟨a.toNat, by omega⟩
    rw [Int.toNat_natCast]
    have hc8 : c ≤ 8 := by omega
    have hc7 : c ≤ 7 := by omega
    have hc1 : 1 ≤ c := by omega
    have HC := Lib.hid fun (w1 : World) => l6In7_is true (c : Int) w1 (by simpa using h)
    have hob := opn_bd c 0 (by omega) (by omega)
    have hbl := fun (w1 : World) => l2Bell_v (c : Int) w1 (by omega) (by omega)
    rw [Int.toNat_natCast, bell_opn c hc8] at hbl
    obtain ⟨T, hT⟩ : ∃ T : Nat, T = (opn c 0).toNat := ⟨_, rfl⟩
    have hTi : opn c 0 = (T : Int) := by omega
    have hT2 : T ≤ 4140 := by omega
    rw [hTi] at hbl
    have HB := Lib.hid hbl
    have HAL : Hid (allL c = (List.range T).map fun p => atL c (p : Nat)) := by show _ = _; unfold allL; rw [hT]
    have HL := Lib.hid fun (p : Nat) (w1 : World) (hp : p < T) => l4At_any c (p : Int) w1 hc8 (by omega) (by omega)
    clear hr h hbl hT hTi hob
    go_enter Try.func73, Try.ntmps73
    go_wp2_with fail
    refine (HC.out _).mono ?_
    rintro e w' ⟨rfl, rfl⟩
    go_wp2_with fail
    go_loopw [4, 5] (fun u v wr => ∃ p g cap : Nat, p ≤ T ∧ v = .int .i64 p ∧ u = .slice (some ⟨g, 0, none⟩) p cap ∧ OwnM wr w.heap.size wr.heap.size (.slice (some ⟨g, 0, none⟩) p cap) ((List.range p).map fun p => atL c (p : Nat)) ∧ Below w.heap.size w wr)
      (fun _ v _ => T - (intOf v).toNat)
    case atStart => exact ⟨0, w.heap.size, 0, Nat.zero_le _, rfl, rfl, ownM_mono HO0.out (Nat.le_refl _) (by simp), (Below.refl _ _).alloc (Nat.le_refl _) _⟩
    case round =>
      obtain ⟨p, g, cap, hp, rfl, rfl, hom, hb⟩ := hrel
      have HOM := Lib.hid hom
      have HBB := Lib.hid hb
      clear hom hb
      go_wp2_with fail
      refine (HB.out _).mono ?_
      rintro e w1 ⟨rfl, hb1⟩
      have HOM1 := Lib.hid (ownM_below HOM.out hb1)
      have hs1 := hb1.size
      have hbel1 := below_step HBB.out hb1
      have HB1 := Lib.hid hbel1
      clear hb1 hbel1
      by_cases hlt : p < T
      · have HLP := Lib.hid fun (w2 : World) => HL.out p w2 hlt
        have hsw := HBB.out.size
        have HRS := Lib.hid (List.range_succ (n := p))
        go_wp2_with fail
        refine (HLP.out _).mono ?_
        rintro e w5 ⟨u, rfl, ho5, hb5⟩
        obtain ⟨gu, cu, rfl⟩ := own_slice' ho5
        have hbel5 := below_step HB1.out hb5
        have hin := inB_of_own ho5
        have HO5 := Lib.hid (own_mono ho5 HB1.out.size)
        have HOM5 := Lib.hid (ownM_below HOM1.out hb5)
        have hs35 := hb5.size
        clear ho5 hb5
        go_wp2_with (at_builtin; refine wpList_row rfl _ _ rfl w w5 _ rfl w1.heap.size g p cap ((List.range p).map fun p => atL c (p : Nat)) rfl (ownM_mono HOM5.out (Nat.le_refl _) (by omega)) (by simp) rfl (atL c (p : Nat)) HO5.out hin ⟨HB1.out.size, hs35⟩ (by omega) hbel5 ?_)
        intro g6 cap6 w6 hown6 hbel6 hs6
        have HO6 := Lib.hid hown6
        clear hown6
        go_wp2
        go_roundw
        case rel => exact ⟨p + 1, g6, cap6, by omega, by go_num, rfl, by rw [HRS.out, List.map_append]; exact HO6.out, hbel6⟩
        case measure => simp [intOf]; omega
      · obtain rfl : p = T := by omega
        go_wp2
        go_ret2
        exact ⟨_, rfl, by rw [HAL.out]; exact ownM_mono HOM1.out (Nat.le_refl _) hs1, HB1.out⟩
  · have hr : listAll a = ([], false) := by unfold listAll; rw [if_neg h]
    rw [hr]
    have HC := Lib.hid fun (w1 : World) => l6In7_is false a w1 (by simpa using h)
    clear hr h
    go_enter Try.func73, Try.ntmps73
    go_wp2_with fail
    refine (HC.out _).mono ?_
    rintro e w' ⟨rfl, rfl⟩
    go_wp2
    go_ret2
    exact ⟨_, rfl, ownM_mono HO0.out (Nat.le_refl _) (by simp), (Below.refl _ _).alloc (Nat.le_refl _) _⟩

theorem sListAll_v (a : Int) (w : World) (_ : (Lit.int .i64 a).wf = true) : Calls Try.prog 73 #[.int .i64 a] w (FreshMB w (listAll a)) := sListAll_w a w

theorem wpList_catV' {w : World} {ops : Array Oper} {rest : List Oper} {o : Oper} {a : Act} {Q : Exit → Act → World → Prop} (hgd : o.guard = none) (s x : Operand)
    (ho : o.op = .call { callee := .builtin .append, args := #[s, x], argTypes := #[22, 22] })
    (B g n cap : Nat) (vs : List Value) (hs : a.eval s = .slice (some ⟨g, 0, none⟩) n cap) (hown : OwnV w B (.slice (some ⟨g, 0, none⟩) n cap) vs) (hn : n = vs.length)
    (ad : Addr) (hx : a.eval x = .slice (some ad) 1 1) (u : Value) (hc : w.cell? ad = some u) (hu : u.oneCell' = true) (hl : n + 1 ≤ 1000000000) (hB : B ≤ w.heap.size)
    (h : ∀ g' cap' w', OwnV w' B (.slice (some ⟨g', 0, none⟩) (n + 1) cap') (vs ++ [u]) → w.grownBy w' (some g) → (g' = g ∨ g' = w.heap.size) → wpList Try.prog ops Q rest (a.put o.dst (.slice (some ⟨g', 0, none⟩) (n + 1) cap')) w') :
    wpList Try.prog ops Q (o :: rest) a w :=
  wpList_plain hgd fun _ hK => wp_catV s x ho B g n cap vs hs hown hn ad 1 1 hx [u] rfl (fun j hj => by
    obtain rfl : j = 0 := by simpa using hj
    simpa [Addr.add] using hc) (fun z hz => by simp at hz; subst hz; exact hu) hl hB (n + 1) rfl fun g' cap' w' h1 h2 h3 => hK _ _ (h g' cap' w' h1 h2 h3)

theorem ownV_later {w w' : World} {B : Nat} {v : Value} {vs : List Value} (h : OwnV w B v vs) (hb : Below w.heap.size w w') : OwnV w' B v vs := World.ownsRow.kept h (grown_of_below hb) (by
  cases ho : v.ownBlock with
  | none => exact .inl rfl
  | some z => exact .inr (by simp))

/-- The places up to i at which a list with k blocks stands. -/
def isOf (k : Int) (xss : List (List Int)) (i : Nat) : List Nat := (List.range i).filter fun j => pSize (xss.getD j []) == k

theorem isOf_succ (k : Int) (xss : List (List Int)) (i : Nat) : isOf k xss (i + 1) = isOf k xss i ++ (if (pSize (xss.getD i []) == k) = true then [i] else []) := by
  unfold isOf
  rw [List.range_succ, List.filter_append]
  congr 1
  simp only [List.filter_cons, List.filter_nil]

theorem isOf_lt {k : Int} {xss : List (List Int)} {i j : Nat} (h : j ∈ isOf k xss i) : j < i := by
  unfold isOf at h
  simp at h
  exact h.1

theorem isOf_sorted (k : Int) (xss : List (List Int)) (i : Nat) : (isOf k xss i).Pairwise (· < ·) := by
  unfold isOf
  exact List.Pairwise.filter _ List.pairwise_lt_range

theorem isOf_filter (k : Int) (xss : List (List Int)) : (isOf k xss xss.length).map (fun j => xss.getD j []) = xss.filter fun xs => pSize xs == k := by
  have e : xss = (List.range xss.length).map (fun j => xss.getD j []) := by
    apply List.ext_getElem?
    intro j
    by_cases hj : j < xss.length
    · simp [hj, List.getD]
    · simp [hj, List.getElem?_eq_none (show xss.length ≤ j by omega)]
  unfold isOf
  conv => rhs; rw [e]
  rw [List.filter_map]
  rfl

/-- Rows of a list of lists of the call's own, picked in order, in a new slice of the call's own. -/
theorem ownM_pick {w : World} {B B0 S S' : Nat} {u : Value} {xss : List (List Int)} {vs : List Value} (hvl : vs.length = xss.length)
    (hrows : ∀ i, i < xss.length → Own w B (vs.getD i undef) (xss.getD i []) ∧ InB (vs.getD i undef) B S) (hap : ∀ i j, i < j → j < xss.length → apart (vs.getD i undef) (vs.getD j undef)) (hB0 : B0 ≤ B) (hS : S ≤ S')
    (is : List Nat) (hlt : ∀ j, j ∈ is → j < xss.length) (hso : is.Pairwise (· < ·)) (ho : OwnV w B0 u (is.map fun j => vs.getD j undef)) (hu : InB u B0 S') : OwnM w B0 S' u (is.map fun j => xss.getD j []) := by
  have hg : ∀ i, i < is.length → (is.map fun j => vs.getD j undef).getD i undef = vs.getD (is.getD i 0) undef ∧ (is.map fun j => xss.getD j []).getD i [] = xss.getD (is.getD i 0) [] ∧ is.getD i 0 < xss.length := fun i hi => by
    refine ⟨by simp [List.getD, hi], by simp [List.getD, hi], ?_⟩
    have : is.getD i 0 ∈ is := by simp [List.getD, hi]
    exact hlt _ this
  refine ⟨is.map fun j => vs.getD j undef, by simp, ?_, hu, ?_, ?_⟩
  · have h2 := ho
    unfold OwnV at h2
    simpa using h2
  · intro i hi
    simp at hi
    obtain ⟨e1, e2, e3⟩ := hg i hi
    rw [e1, e2]
    exact ⟨own_mono (hrows _ e3).1 hB0, inB_mono (hrows _ e3).2 hB0 hS⟩
  · intro i j hij hj
    simp at hj
    obtain ⟨e1, _, e3⟩ := hg i (by omega)
    obtain ⟨f1, _, f3⟩ := hg j hj
    rw [e1, f1]
    refine hap _ _ ?_ f3
    have := List.pairwise_iff_getElem.1 hso i j (by omega) hj hij
    simpa [List.getD, hj, show i < is.length by omega] using this

end Go.Proofs.Ytieldehghmikkaa
