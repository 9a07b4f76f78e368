/-
  The contracts of isUpTo, (*triangle).turn, newTriangle, numberBy, (*triangle).row, sumOf.
-/
import Derived.Test.YtdeeeiimlcggpaaTriSpec
import Derived.Deep.AppendLies
namespace Go.Proofs.Ytdeeeiimlcggpaa
set_option linter.unusedSimpArgs false
set_option linter.unusedVariables false
set_option linter.unnecessarySimpa false
open Go.RowKit
open Go.ChangeMaps (setBlock heap_setBlock_same heap_setBlock_other)
set_option maxRecDepth 100000

theorem isUpTo_any (g n : Int) (w : World) : Calls Try.prog 39 #[.int .i64 g, .int .i64 n] w fun e w' => e = .returned (.bool (decide (0 ≤ n ∧ n ≤ g))) ∧ w = w' := by
  by_cases h1 : 0 ≤ n
  · by_cases h2 : n ≤ g
    · go_enter Try.func39, Try.ntmps39
      go_wp2
      go_ret
      exact ⟨ret_bool (by simp [h1, h2]), rfl⟩
    · go_enter Try.func39, Try.ntmps39
      go_wp2
      go_ret
      exact ⟨ret_bool (by simp [h1, h2]), rfl⟩
  · go_enter Try.func39, Try.ntmps39
    go_wp2
    go_ret
    exact ⟨ret_bool (by simp; omega), rfl⟩

theorem tri_set_other {w : World} {p q : Addr} {v : Value} (h : p ≠ q) : (w.setCell p v).cell? q = w.cell? q := by
  first | exact World.cell?_setCell_other h | exact World.cell?_setCell_other _ h | exact World.cell?_setCell_other _ _ h | exact World.cell?_setCell_other _ _ _ h | exact World.cell?_setCell_other _ _ _ _ h
theorem tri_set_same {w : World} {p : Addr} {u v : Value} (h : w.cell? p = some u) : (w.setCell p v).cell? p = some v := by
  first | exact World.cell?_setCell_same h | exact World.cell?_setCell_same _ h | exact World.cell?_setCell_same _ _ h | exact World.cell?_setCell_same _ _ _ h

/-- A triangle at block tb whose map is block mb; its rule may be turned. -/
def TriAt (w : World) (tb mb : Nat) : Prop := tb ≠ mb ∧ tb < w.heap.size ∧ (∃ v, w.cell? ⟨tb, 0, none⟩ = some v) ∧ w.cell? ⟨tb, 1, none⟩ = some (.map (some mb)) ∧ w.frozen? ⟨tb, 0, none⟩ = false ∧ ∃ es clock, w.heap[mb]? = some (.map es clock)

theorem triAt_of {w w' : World} {tb mb fid : Nat} {G : Int → Int → Int} {m : Nat} (h : TriAt w tb mb) (hT : TriOk w' tb mb fid G m) (hg : w.grownBy w' (some mb)) : TriAt w' tb mb := by
  obtain ⟨h1, h2, h3, h4, h5, h6⟩ := h
  obtain ⟨k1, k2, k3, es, clock, k4, _⟩ := hT
  exact ⟨h1, Nat.lt_of_lt_of_le h2 hg.size, ⟨_, k2⟩, k3, by rw [hg.frozen_far _ h2 (fun e => h1 (by simpa using e))]; exact h5, es, clock, k4⟩

set_option maxHeartbeats 800000 in
theorem turn_any (tb mb fid : Nat) (G : Int → Int → Int) (w : World) (h : TriAt w tb mb) :
    Calls Try.prog 49 #[.pointer (some ⟨tb, 0, none⟩), .func (.func fid) #[] #[]] w fun e w' => e = .returned (.tuple #[]) ∧ TriOk w' tb mb fid G 0 ∧ TriAt w' tb mb ∧ (∀ B, B ≤ tb → B ≤ mb → B ≤ w.heap.size → Below B w w') := by
  obtain ⟨hne, hlt, ⟨v0, hv0⟩, hc1, hfz, es, clock, hes⟩ := h
  obtain ⟨w1, hrun, hM, hg⟩ := map_clear hes 0 G
  have hc1' := hg.cell hc1 (fun e => hne (by simpa using e))
  have hv0' := hg.cell hv0 (fun e => hne (by simpa using e))
  have hfz' : w1.frozen? ⟨tb, 0, none⟩ = false := by rw [hg.frozen_far _ hlt (fun e => hne (by simpa using e))]; exact hfz
  have HM := Lib.hid hM
  have HG := Lib.hid hg
  have HES := Lib.hid hes
  clear hM hg
  have hcl : ∀ ty, (Builtin.clear_ #[74] ty #[.map (some mb)]).run Try.prog w = .ok (.tuple #[]) w1 := fun ty => hrun
  go_enter Try.func49, Try.ntmps49
  go_wp2
  go_end0
  have hMs : MapOk (w1.setCell ⟨tb, 0, none⟩ (.func (.func fid) #[] #[])) mb G 0 := by
    obtain ⟨es', clock', hb, r⟩ := HM.out
    exact ⟨es', clock', by rw [RowKit.Below.heap_setCell _ _ _ _ (fun e => hne (by simpa using e.symm))]; exact hb, r⟩
  refine ⟨rfl, ⟨hne, tri_set_same hv0', ?_, hMs⟩, ⟨hne, ?_, ⟨_, tri_set_same hv0'⟩, ?_, by rw [World.frozen?_setCell]; exact hfz', ?_⟩, ?_⟩
  · rw [tri_set_other (by simp)]
    exact hc1'
  · simp [World.setCell]
    exact Nat.lt_of_lt_of_le hlt HG.out.size
  · rw [tri_set_other (by simp)]
    exact hc1'
  · obtain ⟨es', clock', hb, r⟩ := hMs
    exact ⟨es', clock', hb⟩
  · intro B h1 h2 h3
    exact ((Below.refl _ _).grown HG.out h3 (fun k hk => by cases hk; exact h2)).setCell h1 _

set_option maxHeartbeats 800000 in
theorem newTriangle_any (fid : Nat) (G : Int → Int → Int) (w : World) :
    Calls Try.prog 40 #[.func (.func fid) #[] #[]] w fun e w' => ∃ tb mb, e = .returned (.pointer (some ⟨tb, 0, none⟩)) ∧ w.heap.size ≤ tb ∧ w.heap.size ≤ mb ∧ TriOk w' tb mb fid G 0 ∧ TriAt w' tb mb ∧ Below w.heap.size w w' := by
  have hmm := @run_makeMap Try.prog
  go_enter Try.func40, Try.ntmps40
  go_wp2_with fail
  refine (turn_any (w.heap.size + 1) w.heap.size fid G _ ⟨by omega, by simp, ⟨_, by simp; rfl⟩, by simp, by simp, #[], 0, ?_⟩).mono ?_
  · exact ((MapKept.heap_alloc _ _).2 _ (by simp)).trans (MapKept.heap_alloc _ _).1
  · rintro e w1 ⟨rfl, hT, hA, hb⟩
    have hb1 := hb w.heap.size (by omega) (by omega) (by simp <;> omega)
    have HT := Lib.hid hT
    have HA := Lib.hid hA
    have HB := Lib.hid hb1
    clear hT hA hb hb1
    go_wp2
    go_ret
    exact ⟨w.heap.size + 1, w.heap.size, rfl, by omega, by omega, HT.out, HA.out, (((Below.refl _ _).alloc (Nat.le_refl _) _).alloc (by simp) _).trans HB.out⟩

def AtAll (fid : Nat) (G : Int → Int → Int) : Prop := Numbers G ∧ ∀ n, -1 ≤ n → n ≤ 12 → AtOk fid G n

theorem triMore_le {n : Int} (h : n ≤ 12) : triMore n ≤ 1594323 := by
  unfold triMore
  exact Nat.le_trans (Nat.pow_le_pow_right (by omega) (show (n + 1).toNat ≤ 13 by omega)) (by decide)

set_option maxHeartbeats 1600000 in
theorem numberBy_any (fid : Nat) (G : Int → Int → Int) (hA : AtAll fid G) (n k : Int) (w : World) :
    Calls Try.prog 22 #[.func (.func fid) #[] #[], .int .i64 n, .int .i64 k] w (GivesIB w (numBy G n k)) := by
  have HA := Lib.hid hA
  obtain ⟨x, hx⟩ : ∃ x, x = decide (0 ≤ n ∧ n ≤ 12) := ⟨_, rfl⟩
  obtain ⟨y, hy⟩ : ∃ y, y = decide (0 ≤ k ∧ k ≤ 12) := ⟨_, rfl⟩
  have HI := Lib.hid (fun w0 => isUpTo_any 12 n w0)
  have HJ := Lib.hid (fun w0 => isUpTo_any 12 k w0)
  have hr : numBy G n k = if (x && y) = true then (G n k, true) else (0, false) := by rw [hx, hy]; rfl
  rw [← hx] at HI
  rw [← hy] at HJ
  rw [hr]
  have HX := Lib.hid hx
  have HY := Lib.hid hy
  clear hr hx hy hA
  cases x
  · go_enter Try.func22, Try.ntmps22
    go_wp2_with fail
    refine (HI.out w).mono ?_
    rintro e w' ⟨rfl, rfl⟩
    go_wp2
    go_ret2
    exact ⟨rfl, Below.refl _ _⟩
  · cases y
    · go_enter Try.func22, Try.ntmps22
      go_wp2_with fail
      refine (HI.out w).mono ?_
      rintro e w' ⟨rfl, rfl⟩
      go_wp2_with fail
      refine (HJ.out w).mono ?_
      rintro e w' ⟨rfl, rfl⟩
      go_wp2
      go_ret2
      exact ⟨rfl, Below.refl _ _⟩
    · have hn : 0 ≤ n ∧ n ≤ 12 := by simpa using HX.out.symm
      have hk : 0 ≤ k ∧ k ≤ 12 := by simpa using HY.out.symm
      have hle := triMore_le hn.2
      rw [show (if (true && true) = true then (G n k, true) else ((0 : Int), false)) = (G n k, true) from rfl]
      obtain ⟨g, hg⟩ : ∃ g, g = G n k := ⟨_, rfl⟩
      rw [← hg]
      have HG := Lib.hid hg
      clear hg HX HY
      go_enter Try.func22, Try.ntmps22
      go_wp2_with fail
      refine (HI.out w).mono ?_
      rintro e w' ⟨rfl, rfl⟩
      go_wp2_with fail
      refine (HJ.out w).mono ?_
      rintro e w' ⟨rfl, rfl⟩
      go_wp2_with fail
      refine (newTriangle_any fid G w).mono ?_
      rintro e w1 ⟨tb, mb, rfl, ht, hm, hT, hAt, hb1⟩
      have HT := Lib.hid hT
      have HB1 := Lib.hid hb1
      clear hT hAt hb1
      go_wp2_with fail
      refine (HA.out.2 n (by omega) hn.2 tb mb 0 k w1 (by omega) (by omega) HT.out (by unfold maxLen; omega)).mono ?_
      rintro e w2 ⟨rfl, hT2, hg2⟩
      have HG2 := Lib.hid hg2
      rw [← HG.out]
      clear hT2 hg2
      go_wp2
      go_ret2
      exact ⟨rfl, HB1.out.grown HG2.out HB1.out.size (fun j hj => by cases hj; exact hm)⟩

theorem all_rings : AtAll 23 (ext fR) := ⟨numbers_R, at_rings⟩
set_option maxHeartbeats 800000 in
theorem iNumberRings_v (n k : Int) (w : World) (_h0 : (Lit.int .i64 n).wf = true) (_h1 : (Lit.int .i64 k).wf = true) : Calls Try.prog 9 #[.int .i64 n, .int .i64 k] w (GivesIB w (numBy (ext fR) n k)) := by
  have HI := Lib.hid (numberBy_any _ _ all_rings n k w)
  obtain ⟨x, b, hx⟩ : ∃ (x : Int) (b : Bool), (x, b) = numBy (ext fR) n k := ⟨_, _, rfl⟩
  rw [← hx] at HI ⊢
  clear hx
  go_enter Try.func9, Try.ntmps9
  go_wp2_with fail
  refine HI.out.mono ?_
  rintro e w' ⟨rfl, hb⟩
  have HB := Lib.hid hb
  clear hb
  go_wp2
  go_ret2
  exact ⟨rfl, HB.out⟩

end Go.Proofs.Ytdeeeiimlcggpaa
