/-
  What the laws of this claim lean on: what functions of the program and of the model answer, one after another, and plain mathematics. No condition.
-/
import Derived.Test.YtmflecemkodklaaGreatDoorMgA
import Derived.Test.YtmflecemkodklaaGreatDoorMgB
import Derived.Test.YtmflecemkodklaaGreatDoorMgC
import Derived.StillTailTactics
import Derived.Laws.EntriesVeiled
import Derived.RangeFuncBox
import Derived.RangeFuncNested
import Derived.RangeFuncBound
import Derived.RangeFuncCalls
import Derived.RangeFuncLeaves
import Derived.Shelf.Abstract
import Derived.WalkKit
import Derived.OwnWalkIn
import Derived.TacticsInMore
import Derived.LoopNIn
import Derived.LoopIn
import Derived.Maps.AppendAt
import Derived.Lib.BufferWrite

set_option linter.unusedVariables false
set_option linter.unusedSimpArgs false
set_option linter.unnecessarySimpa false
set_option maxRecDepth 100000

namespace Go.Proofs.YtmflecemkodklaaGreatDoor

section
open Go.RowKit

def toPtr (C : Nat) (par : Nat → Nat) (j : Nat) : Option Addr := if par j = j then none else some ⟨C + par j, 0, none⟩

def Links (w : World) (B C n : Nat) (par : Nat → Nat) : Prop := B < C ∧ ∀ j, j < n →
  w.cell? ⟨B, j, none⟩ = some (.pointer (some ⟨C + j, 0, none⟩)) ∧ w.cell? ⟨C + j, 0, none⟩ = some (.int .i64 (j : Int)) ∧
  w.cell? ⟨C + j, 1, none⟩ = some (.pointer (toPtr C par j)) ∧ w.frozen? ⟨C + j, 1, none⟩ = false

theorem links_quiet {w w' : World} {B C n : Nat} {par : Nat → Nat} (h : Links w B C n par) (hq : Quiet w w') : Links w' B C n par := by
  obtain ⟨m, rfl⟩ := hq
  exact h

theorem links_below {w w' : World} {B C n : Nat} {par : Nat → Nat} (h : Links w B C n par) (hb : Below w.heap.size w w') : Links w' B C n par := ⟨h.1, fun j hj => by
  obtain ⟨h1, h2, h3, h4⟩ := h.2 j hj
  refine ⟨by rw [hb.cell (World.block_lt_of_cell? w _ h1)]; exact h1, by rw [hb.cell (World.block_lt_of_cell? w _ h2)]; exact h2, by rw [hb.cell (World.block_lt_of_cell? w _ h3)]; exact h3, ?_⟩
  rw [hb.frozen (World.block_lt_of_cell? w _ h3)]
  exact h4⟩

theorem cell_set_other {w : World} {p q : Addr} {v : Value} (h : p ≠ q) : (w.setCell p v).cell? q = w.cell? q := by
  first | exact World.cell?_setCell_other h | exact World.cell?_setCell_other _ h | exact World.cell?_setCell_other _ _ h | exact World.cell?_setCell_other _ _ _ h | exact World.cell?_setCell_other _ _ _ _ h
theorem cell_set_same {w : World} {p : Addr} {u v : Value} (h : w.cell? p = some u) : (w.setCell p v).cell? p = some v := by
  first | exact World.cell?_setCell_same h | exact World.cell?_setCell_same _ h | exact World.cell?_setCell_same _ _ h | exact World.cell?_setCell_same _ _ _ h

theorem links_set {w : World} {B C n : Nat} {par : Nat → Nat} (h : Links w B C n par) (g o : Nat) (v : Value) (hg : g ≠ B ∧ (g < C ∨ C + n ≤ g)) : Links (w.setCell ⟨g, o, none⟩ v) B C n par := ⟨h.1, fun j hj => by
  obtain ⟨h1, h2, h3, h4⟩ := h.2 j hj
  refine ⟨?_, ?_, ?_, by rw [World.frozen?_setCell]; exact h4⟩
  · rw [cell_set_other (by intro e; simp at e <;> omega)]; exact h1
  · rw [cell_set_other (by intro e; simp at e <;> omega)]; exact h2
  · rw [cell_set_other (by intro e; simp at e <;> omega)]; exact h3⟩

theorem links_hang {w : World} {B C n : Nat} {par : Nat → Nat} (h : Links w B C n par) {a b : Nat} (hb : b < n) (hab : a < b) :
    Links (w.setCell ⟨C + b, 1, none⟩ (.pointer (some ⟨C + a, 0, none⟩))) B C n (hang par b a) := ⟨h.1, fun j hj => by
  have hBC := h.1
  obtain ⟨h1, h2, h3, h4⟩ := h.2 j hj
  refine ⟨?_, ?_, ?_, by rw [World.frozen?_setCell]; exact h4⟩
  · rw [cell_set_other (by intro e; simp at e <;> omega)]; exact h1
  · rw [cell_set_other (by intro e; simp at e)]; exact h2
  · by_cases e : j = b
    · subst e
      rw [cell_set_same h3]
      unfold toPtr hang
      rw [if_pos rfl, if_neg (by omega)]
    · rw [cell_set_other (by intro e2; simp at e2 <;> omega), h3]
      unfold toPtr hang
      rw [if_neg e]⟩

def ptrBlock : Value → Nat
  | .pointer (some a) => a.block
  | _ => 0

set_option maxHeartbeats 800000 in
theorem least_any (B C n j : Nat) (par rt : Nat → Nat) (w : World) (hl : Links w B C n par) (hf : Forest n par rt) (hj : j < n) :
    Calls Tryz.prog 277 #[.pointer (some ⟨C + j, 0, none⟩)] w fun e w' => e = .returned (.pointer (some ⟨C + rt j, 0, none⟩)) ∧ w = w' := by
  have HL := Lib.hid hl
  have HF := Lib.hid hf
  clear hl hf
  go_enter Tryz.func277, Tryz.ntmps277
  go_wp2
  go_loop [0] (fun u => ∃ c, c < n ∧ u = .pointer (some ⟨C + c, 0, none⟩) ∧ rt c = rt j) (fun u => ptrBlock u)
  case atStart => exact ⟨j, hj, rfl, rfl⟩
  case round =>
    obtain ⟨c, hc, rfl, hrt⟩ := hrel
    have HR := Lib.hid hrt
    obtain ⟨h1, h2, h3, h4⟩ := HL.out.2 c hc
    clear hrt
    rcases (HF.out c hc).2 with ⟨hp, hr⟩ | ⟨hp, hr⟩
    · have e : toPtr C par c = none := by unfold toPtr; rw [if_pos hp]
      rw [e] at h3
      have HRC := Lib.hid hr
      clear e hp hr h4
      go_wp2
      go_ret
      exact ⟨by rw [← HR.out, HRC.out]; rfl, rfl⟩
    · have e : toPtr C par c = some ⟨C + par c, 0, none⟩ := by unfold toPtr; rw [if_neg (by omega)]
      rw [e] at h3
      obtain ⟨d, hd⟩ : ∃ d, d = par c := ⟨_, rfl⟩
      rw [← hd] at h3 hp hr
      have HRC := Lib.hid hr
      clear e hr h4 hd
      go_wp2
      go_round
      case rel => exact ⟨d, by omega, rfl, by rw [HRC.out, HR.out]⟩
      case measure => simp [ptrBlock]; omega

theorem rt_le {n : Nat} {par rt : Nat → Nat} (h : Forest n par rt) {j : Nat} (hj : j < n) : rt j < n ∧ rt (rt j) = rt j := ⟨(h j hj).1, forest_root h hj⟩

def Tied (w : World) (B C n : Nat) (rt : Nat → Nat) (e : Ending) (w' : World) : Prop := e = .returned (.tuple #[]) ∧ ∃ par', Links w' B C n par' ∧ Forest n par' rt ∧ Below C w w'

set_option maxHeartbeats 1600000 in
theorem tie_any (B C n i k : Nat) (par rt : Nat → Nat) (w : World) (hl : Links w B C n par) (hf : Forest n par rt) (hi : i < n) (hk : k < n) :
    Calls Tryz.prog 235 #[.pointer (some ⟨C + i, 0, none⟩), .pointer (some ⟨C + k, 0, none⟩)] w (Tied w B C n (tied rt i k)) := by
  have HL := Lib.hid hl
  have HF := Lib.hid hf
  obtain ⟨ha, har⟩ := rt_le hf hi
  obtain ⟨hb, hbr⟩ := rt_le hf hk
  have hres : tied rt i k = if rt i < rt k then rehang rt (rt k) (rt i) else if rt k < rt i then rehang rt (rt i) (rt k) else rt := rfl
  have HI := Lib.hid (fun w0 => least_any B C n i par rt w0)
  have HK := Lib.hid (fun w0 => least_any B C n k par rt w0)
  obtain ⟨a, hae⟩ : ∃ a, a = rt i := ⟨_, rfl⟩
  obtain ⟨b, hbe⟩ : ∃ b, b = rt k := ⟨_, rfl⟩
  rw [← hae] at ha har hres HI
  rw [← hbe] at hb hbr hres HK
  have HRES := Lib.hid hres
  have HAR := Lib.hid har
  have HBR := Lib.hid hbr
  obtain ⟨ha1, ha2, ha3, ha4⟩ := hl.2 a ha
  obtain ⟨hb1, hb2, hb3, hb4⟩ := hl.2 b hb
  have b1 : ((a : Nat) : Int) = (a : Int) := rfl
  clear hl hf hres hae hbe har hbr b1
  rcases Nat.lt_trichotomy a b with hab | hab | hab
  · have hc : ((a : Int) < (b : Int)) := by omega
    go_enter Tryz.func235, Tryz.ntmps235
    go_wp2_with fail
    refine (HI.out _ HL.out HF.out hi).mono ?_
    rintro e w' ⟨rfl, rfl⟩
    go_wp2_with fail
    refine (HK.out _ HL.out HF.out hk).mono ?_
    rintro e w' ⟨rfl, rfl⟩
    go_wp2
    go_quiet (fail)
    go_wp2
    go_end0
    refine ⟨rfl, hang par b a, links_hang (links_quiet HL.out (Quiet.mk _ _)) hb hab, ?_, (below_drewN (Below.refl _ _) _).setCell (by simp <;> omega) _⟩
    rw [HRES.out, if_pos hab]
    exact forest_hang HF.out hb hab HAR.out HBR.out
  · have HE := Lib.hid hab
    obtain ⟨c, hc⟩ : ∃ c : Int, c = (a : Int) := ⟨_, rfl⟩
    have hcb : c = (b : Int) := by omega
    rw [← hc] at ha2
    rw [← hcb] at hb2
    clear hc hcb hab
    go_enter Tryz.func235, Tryz.ntmps235
    go_wp2_with fail
    refine (HI.out _ HL.out HF.out hi).mono ?_
    rintro e w' ⟨rfl, rfl⟩
    go_wp2_with fail
    refine (HK.out _ HL.out HF.out hk).mono ?_
    rintro e w' ⟨rfl, rfl⟩
    go_wp2
    go_quiet (fail)
    go_wp2
    go_quiet (fail)
    go_wp2
    go_end0
    refine ⟨rfl, par, links_quiet HL.out (by first | exact Quiet.mk _ _ | exact (Quiet.mk _ _).drewN _), ?_, by first | exact below_drewN (Below.refl _ _) _ | exact below_drewN (below_drewN (Below.refl _ _) _) _⟩
    have hab := HE.out
    rw [HRES.out, if_neg (by omega), if_neg (by omega)]
    exact HF.out
  · have hc : ((b : Int) < (a : Int)) := by omega
    have hc2 : ¬ ((a : Int) < (b : Int)) := by omega
    go_enter Tryz.func235, Tryz.ntmps235
    go_wp2_with fail
    refine (HI.out _ HL.out HF.out hi).mono ?_
    rintro e w' ⟨rfl, rfl⟩
    go_wp2_with fail
    refine (HK.out _ HL.out HF.out hk).mono ?_
    rintro e w' ⟨rfl, rfl⟩
    go_wp2
    go_quiet (fail)
    go_wp2
    go_quiet (fail)
    go_wp2
    go_end0
    refine ⟨rfl, hang par a b, links_hang (links_quiet HL.out (by first | exact Quiet.mk _ _ | exact (Quiet.mk _ _).drewN _)) ha hab, ?_, Below.setCell (by first | exact below_drewN (Below.refl _ _) _ | exact below_drewN (below_drewN (Below.refl _ _) _) _) (by simp <;> omega) _⟩
    rw [HRES.out, if_neg (by omega), if_pos hab]
    exact forest_hang HF.out ha hab HBR.out HAR.out

theorem Tryz.infoLink : (Tryz.prog.info? 163).map (fun i => (i.zero, i.size, i.bytes)) = some (some (.pointer none), 1, 8) := by kernel_rfl

def ptrsTo (C n k : Nat) : List Value := (List.range n).map fun j => if j < k then .pointer (some ⟨C + j, 0, none⟩) else .pointer none

theorem ptrsTo_len (C n k : Nat) : (ptrsTo C n k).length = n := by simp [ptrsTo]
theorem ptrsTo_step (C n k : Nat) (h : k < n) : (ptrsTo C n k).set k (.pointer (some ⟨C + k, 0, none⟩)) = ptrsTo C n (k + 1) := by
  apply List.ext_getElem
  · simp [ptrsTo]
  · intro j h1 h2
    simp [ptrsTo] at h1 h2
    rw [List.getElem_set]
    by_cases e : k = j
    · subst e
      simp [ptrsTo]
    · rw [if_neg e]
      simp only [ptrsTo, List.getElem_map, List.getElem_range]
      by_cases h3 : j < k
      · rw [if_pos h3, if_pos (by omega)]
      · rw [if_neg h3, if_neg (by omega)]
theorem ptrsTo_zero (C n : Nat) : ptrsTo C n 0 = List.replicate n (.pointer none) := by
  apply List.ext_getElem <;> simp [ptrsTo]

def Things (w : World) (C k : Nat) : Prop := ∀ j, j < k → w.cell? ⟨C + j, 0, none⟩ = some (.int .i64 (j : Int)) ∧ w.cell? ⟨C + j, 1, none⟩ = some (.pointer none) ∧ w.frozen? ⟨C + j, 1, none⟩ = false

theorem things_step {wr : World} {C k B : Nat} (hth : Things wr C k) (hsz : wr.heap.size = C + k) (hBC : B < C) (o : Nat) (v : Value) :
    Things ((wr.alloc (.cells #[.int .i64 (k : Int), .pointer none] 198)).setCell ⟨B, o, none⟩ v) C (k + 1) := fun j hj => by
  rw [cell_set_other (by intro e; simp at e <;> omega), cell_set_other (by intro e; simp at e <;> omega), World.frozen?_setCell]
  by_cases e : j = k
  · subst e
    rw [← hsz]
    have hn := heap_alloc_new wr (.cells #[.int .i64 (j : Int), .pointer none] 198)
    unfold World.cell? World.frozen?
    simp only [hn]
    exact ⟨rfl, rfl, rfl⟩
  · have hb : Below wr.heap.size wr (wr.alloc (.cells #[.int .i64 (k : Int), .pointer none] 198)) := (Below.refl _ _).alloc (Nat.le_refl _) _
    obtain ⟨h1, h2, h3⟩ := hth j (by omega)
    have hlt : C + j < wr.heap.size := by omega
    exact ⟨by rw [hb.cell (p := ⟨C + j, 0, none⟩) hlt]; exact h1, by rw [hb.cell (p := ⟨C + j, 1, none⟩) hlt]; exact h2, by rw [hb.frozen (p := ⟨C + j, 1, none⟩) hlt]; exact h3⟩

theorem toPtr_id (C j : Nat) : toPtr C id j = none := by simp [toPtr]

def Loose (w : World) (n : Nat) (e : Ending) (w' : World) : Prop := e = .returned (.slice (some ⟨w.heap.size, 0, none⟩) n n) ∧ Below w.heap.size w w' ∧ ∃ C, Links w' w.heap.size C n id

set_option maxHeartbeats 1600000 in
theorem looseLinks_any (n : Nat) (w : World) (h1 : 1 ≤ n) (h8 : n ≤ 8) :
    Calls Tryz.prog 234 #[.int .i64 n] w (Loose w n) := by
  obtain ⟨i0, hi, hz0, hz1, hz2⟩ := info_parts Tryz.infoLink
  go_enter Tryz.func234, Tryz.ntmps234
  go_wp2_with (at_make; refine wpList_make_full _ rfl _ _ 161 rfl w.heap.size 163 i0 (.pointer none) 1 Tryz.underlying161 hi hz0 hz1 _ _ _ _ n rfl rfl rfl rfl (by rw [hz2]; omega) (by unfold maxLen; omega) (Nat.le_refl _) ?_)
  intro w1 hown1 hgrow1
  have hb1 : Below w.heap.size w w1 := (Below.refl _ _).grown hgrow1 (Nat.le_refl _) (fun k h => by cases h)
  obtain ⟨C, hC⟩ : ∃ C, C = w1.heap.size := ⟨_, rfl⟩
  have hBC : w.heap.size < C := by rw [hC]; exact (World.ownsRow.lt hown1 _ rfl).2
  have hrow : w1.ownsRow w.heap.size 163 1 (.slice (some ⟨w.heap.size, 0, none⟩) n n) n (ptrsTo C n 0) := by
    rw [ptrsTo_zero]
    rw [toList_madeCells_one] at hown1
    simpa using hown1
  have HC := Lib.hid hC
  clear hown1 hgrow1 hC
  go_wp2
  go_loopw [9] (fun i wr => ∃ k : Nat, k ≤ n ∧ i = .int .i64 k ∧ wr.ownsRow w.heap.size 163 1 (.slice (some ⟨w.heap.size, 0, none⟩) n n) n (ptrsTo C n k) ∧ Things wr C k ∧ wr.heap.size = C + k ∧ Below w.heap.size w wr) (fun i _ => n - (intOf i).toNat)
  case atStart => exact ⟨0, Nat.zero_le _, rfl, hrow, fun j hj => by omega, HC.out.symm, hb1⟩
  case round =>
    obtain ⟨k, hk, rfl, hown, hth, hsz, hbel⟩ := hrel
    by_cases hlt : k < n
    · have hown2 := World.ownsRow.alloc hown (.cells #[.int .i64 (k : Int), .pointer none] 198)
      have hfz := World.ownsRow.frozenAt hown2 k
      have hv0 := World.ownsRow.cellAt hown2 k (by omega)
      obtain ⟨v0, hv0'⟩ : ∃ v0, (ptrsTo C n k)[k]? = some v0 := ⟨_, List.getElem?_eq_getElem (by rw [ptrsTo_len]; exact hlt)⟩
      rw [hv0'] at hv0
      have hst := (World.ownsRow.stored hown2 k (.pointer (some ⟨wr.heap.size, 0, none⟩))).1
      have hth2 := things_step hth hsz hBC k (.pointer (some ⟨wr.heap.size, 0, none⟩))
      have e1 : (ptrsTo C n k).set k (.pointer (some ⟨wr.heap.size, 0, none⟩)) = ptrsTo C n (k + 1) := by rw [hsz, ptrsTo_step C n k hlt]
      rw [e1] at hst
      have HST := Lib.hid hst
      have HTH := Lib.hid hth2
      have HSZ := Lib.hid hsz
      have b1 : (k : Int) < n := by omega
      have hB := hbel.size
      clear hown hown2 hst hth hth2 hsz hv0' e1
      go_wp2
      go_roundw
      case rel => exact ⟨k + 1, by omega, by go_num, HST.out, HTH.out, by simp [World.setCell]; have := HSZ.out; omega, (hbel.alloc hB _).setCell (Nat.le_refl _) _⟩
      case measure => simp [intOf]; omega
    · have hkn : k = n := by omega
      subst hkn
      have hfin : Links wr w.heap.size C k id := by
        refine ⟨hBC, fun j hj => ?_⟩
        have hc := World.ownsRow.cellAt hown j (by omega)
        obtain ⟨h1, h2, h3⟩ := hth j hj
        refine ⟨?_, h1, by rw [toPtr_id]; exact h2, h3⟩
        rw [hc]
        simp [ptrsTo, hj]
      have HFIN := Lib.hid hfin
      clear hown hth hfin hsz
      go_wp2
      go_ret
      exact ⟨rfl, hbel, C, HFIN.out⟩

theorem forest_id (n : Nat) : Forest n id id := fun j hj => ⟨hj, .inl ⟨rfl, rfl⟩⟩

def Joined (xs ys : List Int) (n : Nat) (rt : Nat → Nat) (k : Nat) : Prop :=
  (∀ j, j < k → rt j = rt (xs.idxOf (xs.getD j 0)) ∧ rt j = rt (ys.idxOf (ys.getD j 0))) ∧
  ∀ g : Nat → Int, (∀ i k, i < n → k < n → tog xs ys i k = true → g i = g k) → ∀ j, j < n → g (rt j) = g j

theorem joined_id (xs ys : List Int) (n : Nat) : Joined xs ys n id 0 := ⟨fun j hj => by omega, fun g _ j _ => rfl⟩

def rootList (rt : Nat → Nat) (n : Nat) : List Int := (List.range n).map fun j => (rt j : Int)
theorem rootList_length (rt : Nat → Nat) (n : Nat) : (rootList rt n).length = n := by simp [rootList]
theorem rootList_getD (rt : Nat → Nat) (n j : Nat) (h : j < n) : (rootList rt n).getD j 0 = (rt j : Int) := by simp [rootList, List.getD, h]

theorem idx_of {xs : List Int} {j : Nat} (h : j < xs.length) : xs.getD j 0 ∈ xs ∧ xs.idxOf (xs.getD j 0) < xs.length ∧ xs.getD (xs.idxOf (xs.getD j 0)) 0 = xs.getD j 0 := by
  have hm : xs.getD j 0 ∈ xs := mem_of_getD h rfl
  exact ⟨hm, List.idxOf_lt_length_of_mem hm, getD_idxOf hm⟩

theorem joined_step {xs ys : List Int} {n : Nat} {rt : Nat → Nat} (hx : xs.length = n) (hy : ys.length = n) {k : Nat} (hk : k < n) (h : Joined xs ys n rt k) :
    Joined xs ys n (tied (tied rt k (xs.idxOf (xs.getD k 0))) k (ys.idxOf (ys.getD k 0))) (k + 1) := by
  obtain ⟨hmx, hix, hgx⟩ := idx_of (xs := xs) (j := k) (by omega)
  obtain ⟨hmy, hiy, hgy⟩ := idx_of (xs := ys) (j := k) (by omega)
  refine ⟨fun j hj => ?_, fun g hg => ?_⟩
  · by_cases e : j = k
    · subst e
      exact ⟨tied_keeps _ _ _ (tied_eq _ _ _), tied_eq _ _ _⟩
    · obtain ⟨h1, h2⟩ := h.1 j (by omega)
      exact ⟨tied_keeps _ _ _ (tied_keeps _ _ _ h1), tied_keeps _ _ _ (tied_keeps _ _ _ h2)⟩
  · have h1 := tied_good g (h.2 g hg) hk (k := xs.idxOf (xs.getD k 0)) (by omega) (hg _ _ hk (by omega) (tog_iff.2 (.inl hgx.symm)))
    exact tied_good g h1 hk (k := ys.idxOf (ys.getD k 0)) (by omega) (hg _ _ hk (by omega) (tog_iff.2 (.inr hgy.symm)))

theorem joined_end {xs ys : List Int} {n : Nat} {par rt : Nat → Nat} (hx : xs.length = n) (hy : ys.length = n) (hf : Forest n par rt) (h : Joined xs ys n rt n) : kOut (rootList rt n) = kOut (joinAll xs ys n n) := by
  refine join_tells xs ys n (rootList rt n) (rootList_length _ _) (fun i k hi hk ht => ?_) fun g hg => ⟨rootList_length _ _, fun i hi => ?_⟩
  · rw [rootList_getD _ _ _ hi, rootList_getD _ _ _ hk]
    have h1 := h.1 i hi
    have h2 := h.1 k hk
    rcases tog_iff.1 ht with e | e
    · rw [h1.1, h2.1, e]
    · rw [h1.2, h2.2, e]
  · rw [rootList_getD _ _ _ hi]
    refine ⟨by omega, by have := (hf i hi).1; omega, ?_⟩
    rw [Int.toNat_natCast]
    exact h.2 g hg i hi

set_option maxHeartbeats 1600000 in
theorem tiedOut_any (B C n : Nat) (par rt : Nat → Nat) (w : World) (hl : Links w B C n par) (hf : Forest n par rt) (h1 : 1 ≤ n) (h8 : n ≤ 8) :
    Calls Tryz.prog 236 #[.slice (some ⟨B, 0, none⟩) n n] w (FreshL w (kOut (rootList rt n))) := by
  have HL := Lib.hid hl
  have HF := Lib.hid hf
  have hBC := hl.1
  have hlo : C + n ≤ w.heap.size := by
    have h2 := (hl.2 (n - 1) (by omega)).2.1
    have := World.block_lt_of_cell? w _ h2
    simp at this
    omega
  obtain ⟨L, hL⟩ : ∃ L, L = rootList rt n := ⟨_, rfl⟩
  rw [← hL]
  have hLl : L.length = n := by rw [hL, rootList_length]
  have hLg : ∀ j, j < n → L.getD j 0 = (rt j : Int) := fun j hj => by rw [hL]; exact rootList_getD _ _ _ hj
  have HLL := Lib.hid hLl
  have HLG := Lib.hid hLg
  obtain ⟨i0, hi, hz0, hz1, hz2⟩ := info_parts Tryz.infoInt
  clear hl hf hL hLl hLg
  go_enter Tryz.func236, Tryz.ntmps236
  go_wp2_with (at_make; refine wpList_make_full _ rfl _ _ 26 rfl w.heap.size 3 i0 (.int .i64 0) 1 Tryz.underlying26 hi hz0 hz1 _ _ _ _ n rfl rfl rfl rfl (by rw [hz2]; omega) (by unfold maxLen; omega) (Nat.le_refl _) ?_)
  intro w4 hown4 hgrow4
  have hb4 : Below w.heap.size w w4 := (Below.refl _ _).grown hgrow4 (Nat.le_refl _) (fun k h => by cases h)
  have HO4 := Lib.hid (own_made hown4)
  have HL4 := Lib.hid (links_below HL.out hb4)
  clear hown4 hgrow4
  go_wp2
  go_loopw [11] (fun i wz => ∃ j : Nat, j ≤ n ∧ i = .int .i64 j ∧ Own wz w.heap.size (.slice (some ⟨w.heap.size, 0, none⟩) n n) (L.take j ++ List.replicate (n - j) 0) ∧ Links wz B C n par ∧ Below w.heap.size w wz) (fun i _ => n - (intOf i).toNat)
  case atStart => exact ⟨0, Nat.zero_le _, rfl, by simpa using HO4.out, HL4.out, hb4⟩
  case round =>
    obtain ⟨j, hj, rfl, hown, hlk, hbelz⟩ := hrel
    by_cases hlt : j < n
    · have hp1 := (hlk.2 j hlt).1
      have hr := rt_le HF.out hlt
      obtain ⟨r, hre⟩ : ∃ r, r = rt j := ⟨_, rfl⟩
      rw [← hre] at hr
      have hp2 := (hlk.2 r hr.1).2.1
      have hml : (L.take j ++ List.replicate (n - j) 0).length = n := by have := HLL.out; simp; omega
      have hfz := own_frozen hown j
      obtain ⟨v0, hv0⟩ : ∃ v0, wr.cell? ⟨w.heap.size, j, none⟩ = some v0 := ⟨_, own_cell hown j (by rw [hml]; omega)⟩
      obtain ⟨hst, hgs⟩ := own_stored hown hml.symm j (r : Int)
      rw [← HLL.out, set_stage L j (by rw [HLL.out]; exact hlt) (r : Int) (by rw [HLG.out j hlt, hre]), HLL.out] at hst
      have HST := Lib.hid hst
      have HLS := Lib.hid (links_set hlk w.heap.size j (.int .i64 (r : Int)) ⟨by omega, .inr hlo⟩)
      have HLE := Lib.hid (least_any B C n j par rt wr hlk HF.out hlt)
      rw [← hre] at HLE
      have b1 : (j : Int) < n := by omega
      clear hml hst hgs hown hlk hre hr
      go_wp2_with fail
      refine (HLE.out).mono ?_
      rintro e w' ⟨rfl, rfl⟩
      go_wp2
      go_roundw
      case rel => exact ⟨j + 1, by omega, by go_num, HST.out, HLS.out, hbelz.setCell (by simp) _⟩
      case measure => simp [intOf]; omega
    · have hjk : j = n := by omega
      subst hjk
      rw [Nat.sub_self, List.replicate_zero, List.append_nil, List.take_of_length_le (by rw [HLL.out]; omega)] at hown
      have HRD := Lib.hid (own_rdv hown)
      clear hown
      go_wp2_with fail
      refine (kernel_v _ _ _ HRD.out (by rw [HLL.out]; omega)).mono ?_
      rintro e w6 ⟨u, rfl, ho, hb⟩
      go_wp2
      go_ret
      exact ⟨_, rfl, own_mono ho hbelz.size, below_step hbelz hb⟩

set_option maxHeartbeats 4000000 in
theorem iFinerJoin_v (v u : Value) (xs ys : List Int) (w : World) (hv : RdV w v xs) (hu : RdV w u ys) :
    Calls Tryz.prog 187 #[v, u] w (FreshLB w (finerJoin xs ys)) := by
  have HV := Lib.hid hv
  have HU := Lib.hid hu
  cases ha : alike xs ys
  · have HA := Lib.hid ha
    have hr : finerJoin xs ys = ([], false) := by simp [finerJoin, ha]
    rw [hr]
    clear ha hr hv hu
    go_enter Tryz.func187, Tryz.ntmps187
    go_wp2_with fail
    refine (areAlike_is false _ _ _ _ _ HV.out HU.out HA).mono ?_
    rintro e w' ⟨rfl, rfl⟩
    go_wp2
    go_ret2
    exact ⟨_, rfl, own_nil _ _, Below.refl _ _⟩
  · have HA := Lib.hid ha
    obtain ⟨h1, h8, hl⟩ := alike_lens ha
    have hr : finerJoin xs ys = (kOut (joinAll xs ys xs.length xs.length), true) := by simp [finerJoin, ha]
    rw [hr]
    obtain ⟨bx, ox, cx, rfl, hcx, hbx, hcx1, hcx2⟩ := rdv_cells hv h1
    obtain ⟨by', oy, cy, rfl, hcy, hby, hcy1, hcy2⟩ := rdv_cells hu (by omega)
    obtain ⟨n, hn⟩ : ∃ n, n = xs.length := ⟨_, rfl⟩
    have HN := Lib.hid hn
    have HLY := Lib.hid hl
    rw [hl] at HU ⊢
    rw [← hn] at HV HU h1 h8 HLY ⊢
    clear ha hr hv hu hn hl hcx1 hcx2 hcy1 hcy2
    go_enter Tryz.func187, Tryz.ntmps187
    go_wp2_with fail
    refine (areAlike_is true _ _ _ _ _ HV.out HU.out HA).mono ?_
    rintro e w' ⟨rfl, rfl⟩
    go_wp2_with fail
    refine (looseLinks_any n _ h1 h8).mono ?_
    rintro e w1 ⟨rfl, hb1, C, hl1⟩
    have HL1 := Lib.hid hl1
    clear hl1
    go_wp2
    go_loopw [18] (fun i wr => ∃ (k : Nat) (par rt : Nat → Nat), k ≤ n ∧ i = .int .i64 k ∧ Links wr w.heap.size C n par ∧ Forest n par rt ∧ Joined xs ys n rt k ∧ Below w.heap.size w wr) (fun i _ => n - (intOf i).toNat)
    case atStart => exact ⟨0, id, id, Nat.zero_le _, rfl, HL1.out, forest_id n, joined_id _ _ _, hb1⟩
    case round =>
      obtain ⟨k, par, rt, hk, rfl, hlk, hfo, hjo, hbel⟩ := hrel
      have hBC := hlk.1
      by_cases hlt : k < n
      · have hjs := joined_step HN.out.symm HLY.out hlt hjo
        obtain ⟨hmx, hix, _⟩ := idx_of (xs := xs) (j := k) (by rw [← HN.out]; exact hlt)
        obtain ⟨hmy, hiy, _⟩ := idx_of (xs := ys) (j := k) (by rw [HLY.out]; exact hlt)
        have hc1 := cells_at (cells_below hcx hbel) k (by rw [← HN.out]; exact hlt)
        have hp1 := (hlk.2 k hlt).1
        obtain ⟨x, hx⟩ : ∃ x, x = xs.getD k 0 := ⟨_, rfl⟩
        obtain ⟨y, hy⟩ : ∃ y, y = ys.getD k 0 := ⟨_, rfl⟩
        rw [← hx] at hjs hmx hix hc1
        rw [← hy] at hjs hmy hiy
        obtain ⟨p, hp⟩ : ∃ p, p = xs.idxOf x := ⟨_, rfl⟩
        obtain ⟨q, hq⟩ : ∃ q, q = ys.idxOf y := ⟨_, rfl⟩
        rw [← hp] at hjs hix
        rw [← hq] at hjs hiy
        rw [← HN.out] at hix
        rw [HLY.out] at hiy
        have hp2 := (hlk.2 p hix).1
        have HMX := Lib.hid hmx
        have HMY := Lib.hid hmy
        have HP := Lib.hid hp
        have HQ := Lib.hid hq
        have HY := Lib.hid hy
        have HJS := Lib.hid hjs
        have HLK := Lib.hid hlk
        have HFO := Lib.hid hfo
        have HVr := Lib.hid (rdv_below HV.out hbel)
        have b1 : (k : Int) < n := by omega
        have b2 : (p : Int) < n := by omega
        have b3 : (q : Int) < n := by omega
        clear hx hy hp hq hjs hmx hmy hlk hfo hjo
        go_wp2_with fail
        refine (slicesIndex_v _ xs x _ HVr.out HMX.out).mono ?_
        rintro e w' ⟨rfl, rfl⟩
        rw [← HP.out]
        go_wp2_with fail
        refine (tie_any w.heap.size C n k p par rt _ HLK.out HFO.out hlt hix).mono ?_
        rintro e w2 ⟨rfl, par2, hl2, hf2, hb2⟩
        have hbel2 : Below w.heap.size w w2 := hbel.trans (hb2.mono (Nat.le_of_lt hBC))
        have hc2 := cells_at (cells_below hcy hbel2) k (by rw [HLY.out]; exact hlt)
        rw [← HY.out] at hc2
        have hp3 := (hl2.2 q hiy).1
        have HL2 := Lib.hid hl2
        have HF2 := Lib.hid hf2
        have HUr := Lib.hid (rdv_below HU.out hbel2)
        clear hl2 hf2 hb2
        go_wp2_with fail
        refine (slicesIndex_v _ ys y _ HUr.out HMY.out).mono ?_
        rintro e w' ⟨rfl, rfl⟩
        rw [← HQ.out]
        go_wp2_with fail
        refine (tie_any w.heap.size C n k q par2 _ _ HL2.out HF2.out hlt hiy).mono ?_
        rintro e w3 ⟨rfl, par3, hl3, hf3, hb3⟩
        have hbel3 : Below w.heap.size w w3 := hbel2.trans (hb3.mono (Nat.le_of_lt hBC))
        have HL3 := Lib.hid hl3
        have HF3 := Lib.hid hf3
        clear hl3 hf3 hb3
        go_wp2
        go_roundw
        case rel => exact ⟨k + 1, par3, _, by omega, by go_num, HL3.out, HF3.out, HJS.out, hbel3⟩
        case measure => simp [intOf]; omega
      · have hkn : k = n := by omega
        subst hkn
        have hend := joined_end HN.out.symm HLY.out hfo hjo
        have HLK := Lib.hid hlk
        have HFO := Lib.hid hfo
        have hB := hbel.size
        clear hjo hlk hfo
        go_wp2_with fail
        refine (tiedOut_any w.heap.size C k par rt wr HLK.out HFO.out h1 h8).mono ?_
        rintro e w6 ⟨u, rfl, ho, hb⟩
        have HOU := Lib.hid (own_mono ho hbel.size)
        have HBU := Lib.hid (below_step hbel hb)
        rw [hend] at HOU
        clear ho hb hend
        go_wp2
        go_ret2
        exact ⟨_, rfl, HOU.out, HBU.out⟩
end

section
open Go.RowKit

theorem iota_snoc (n : Nat) : iota 0 (n + 1) = iota 0 n ++ [(n : Int)] := by simp [iota, List.range_succ]

theorem row_len (xs ys f : List Int) (n : Nat) (hf : f.length = n) (i : Nat) (hi : i < n) (k : Nat) (hk : k ≤ n) : (joinRow xs ys f i k).length = n := (row_le xs ys n f hf i hi k hk).1
theorem pass_len (xs ys f : List Int) (n : Nat) (hf : f.length = n) (i : Nat) (hi : i ≤ n) : (joinPass xs ys f n i).length = n := (pass_le xs ys n f hf i hi).1

theorem own_quiet {w w' : World} {B : Nat} {v : Value} {xs : List Int} (h : Own w B v xs) (hq : Quiet w w') : Own w' B v xs := own_below h hq.below

set_option maxRecDepth 100000 in
set_option maxHeartbeats 4000000 in
theorem sFinerJoin_v (v u : Value) (xs ys : List Int) (w : World) (hv : RdV w v xs) (hu : RdV w u ys) :
    Calls Tryz.prog 83 #[v, u] w (FreshLB w (finerJoin xs ys)) := by
  have HV := Lib.hid hv
  have HU := Lib.hid hu
  cases ha : alike xs ys
  · have HA := Lib.hid ha
    have hr : finerJoin xs ys = ([], false) := by simp [finerJoin, ha]
    rw [hr]
    clear ha hr hv hu
    go_enter Tryz.func83, Tryz.ntmps83
    go_wp2_with fail
    refine (l2Two_is false _ _ _ _ _ HV.out HU.out HA).mono ?_
    rintro e w' ⟨rfl, rfl⟩
    go_wp2
    go_ret2
    exact ⟨_, rfl, own_empty _ _ (Nat.le_refl _), (Below.refl _ _).alloc (Nat.le_refl _) _⟩
  · have HA := Lib.hid ha
    obtain ⟨h1, h8, hl⟩ := alike_lens ha
    have hr : finerJoin xs ys = (kOut (joinAll xs ys xs.length xs.length), true) := by simp [finerJoin, ha]
    rw [hr]
    obtain ⟨bx, ox, cx, rfl, hcx, hbx, hcx1, hcx2⟩ := rdv_cells hv h1
    obtain ⟨by', oy, cy, rfl, hcy, hby, hcy1, hcy2⟩ := rdv_cells hu (by omega)
    obtain ⟨n, hn⟩ : ∃ n, n = xs.length := ⟨_, rfl⟩
    have HN := Lib.hid hn
    have HLY := Lib.hid hl
    rw [hl] at HU ⊢
    rw [← hn] at HV HU h1 h8 HLY ⊢
    clear ha hr hv hu hn hl hcx1 hcx2 hcy1 hcy2
    go_enter Tryz.func83, Tryz.ntmps83
    go_wp2_with fail
    refine (l2Two_is true _ _ _ _ _ HV.out HU.out HA).mono ?_
    rintro e w' ⟨rfl, rfl⟩
    go_wp2
    go_loopw [6, 7] (fun u i wr => ∃ k g cap : Nat, k ≤ n ∧ i = .int .i64 k ∧ u = .slice (some ⟨g, 0, none⟩) k cap ∧ Own wr w.heap.size (.slice (some ⟨g, 0, none⟩) k cap) (iota 0 k) ∧ Below w.heap.size w wr) (fun _ i _ => n - (intOf i).toNat)
    case atStart => exact ⟨0, w.heap.size, 0, Nat.zero_le _, rfl, rfl, own_empty w _ (Nat.le_refl _), (Below.refl _ _).alloc (Nat.le_refl _) _⟩
    case round =>
      obtain ⟨k, g, cap, hk, rfl, rfl, hown, hbel⟩ := hrel
      have HO := Lib.hid hown
      have hB := hbel.size
      by_cases hlt : k < n
      · clear hown
        go_wp2_with (at_builtin; refine wpList_push rfl _ _ rfl w.heap.size g k cap (iota 0 k) rfl (own_alloc HO.out _) (by rw [iota_length]) ⟨wr.heap.size, 0, none⟩ rfl (k : Int) (cell_new1 _ _ _) (by omega) (by simp; omega) ?_)
        intro g' cap' w2 hown2 hgr2 hg2
        have hbel2 : Below w.heap.size w w2 := (hbel.alloc hB _).grown hgr2 (by simp; omega) (fun q hq => by cases hq; exact (own_lt HO.out g rfl).1)
        have HO2 := Lib.hid hown2
        clear hown2 hgr2 hg2
        go_wp2
        go_roundw
        case rel => exact ⟨k + 1, g', cap', by omega, by go_num, rfl, by rw [iota_snoc]; exact HO2.out, hbel2⟩
        case measure => simp [intOf]; omega
      · have hkn : k = n := by omega
        subst hkn
        obtain ⟨wo, hwo⟩ : ∃ wo : World, wo = wr := ⟨_, rfl⟩
        subst hwo
        have hgl := own_lt hown g rfl
        clear hown
        go_wp2
        go_loopw [8] (fun i wr => ∃ t : Nat, t ≤ k ∧ i = .int .i64 t ∧ Own wr w.heap.size (.slice (some ⟨g, 0, none⟩) k cap) (joinAll xs ys k t) ∧ Below w.heap.size w wr) (fun i _ => k - (intOf i).toNat)
        case atStart => exact ⟨0, Nat.zero_le _, rfl, HO.out, hbel⟩
        case round =>
          obtain ⟨t, ht, rfl, hown, hbel⟩ := hrel
          have HOt := Lib.hid hown
          by_cases htk : t < k
          · obtain ⟨F, hF⟩ : ∃ F, F = joinAll xs ys k t := ⟨_, rfl⟩
            have hFl : F.length = k := by rw [hF]; exact joinAll_len xs ys k t
            rw [← hF] at HOt
            have HF := Lib.hid hF
            have HFL := Lib.hid hFl
            clear hown hF hFl
            go_wp2
            go_loopw [9] (fun i wr => ∃ a : Nat, a ≤ k ∧ i = .int .i64 a ∧ Own wr w.heap.size (.slice (some ⟨g, 0, none⟩) k cap) (joinPass xs ys F k a) ∧ Below w.heap.size w wr) (fun i _ => k - (intOf i).toNat)
            case atStart => exact ⟨0, Nat.zero_le _, rfl, HOt.out, hbel⟩
            case round =>
              obtain ⟨a, ha, rfl, hown, hbel⟩ := hrel
              have HOa := Lib.hid hown
              by_cases hak : a < k
              · obtain ⟨G, hG⟩ : ∃ G, G = joinPass xs ys F k a := ⟨_, rfl⟩
                have hGl : G.length = k := by rw [hG]; exact pass_len xs ys F k HFL.out a ha
                rw [← hG] at HOa
                have HG := Lib.hid hG
                have HGL := Lib.hid hGl
                clear hown hG hGl
                go_wp2
                go_loopw [10] (fun i wr => ∃ b : Nat, b ≤ k ∧ i = .int .i64 b ∧ Own wr w.heap.size (.slice (some ⟨g, 0, none⟩) k cap) (joinRow xs ys G a b) ∧ Below w.heap.size w wr) (fun i _ => k - (intOf i).toNat)
                case atStart => exact ⟨0, Nat.zero_le _, rfl, HOa.out, hbel⟩
                case round =>
                  obtain ⟨b, hb, rfl, hown, hbel⟩ := hrel
                  by_cases hbk : b < k
                  · have hc1 := cells_at (cells_below hcx hbel) a (by rw [← HN.out]; exact hak)
                    have hc2 := cells_at (cells_below hcx hbel) b (by rw [← HN.out]; exact hbk)
                    have hc3 := cells_at (cells_below hcy hbel) a (by rw [HLY.out]; exact hak)
                    have hc4 := cells_at (cells_below hcy hbel) b (by rw [HLY.out]; exact hbk)
                    have hHl := row_len xs ys G k HGL.out a hak b hb
                    have hstep : joinRow xs ys G a (b + 1) = joinK xs ys (joinRow xs ys G a b) a b := rfl
                    obtain ⟨H, hH⟩ : ∃ H, H = joinRow xs ys G a b := ⟨_, rfl⟩
                    rw [← hH] at hHl hstep hown
                    have hfa := own_cell hown a (by rw [hHl]; exact hak)
                    have hfb := own_cell hown b (by rw [hHl]; exact hbk)
                    have hfz := own_frozen hown a
                    have htog : tog xs ys a b = (decide (xs.getD a 0 = xs.getD b 0) || decide (ys.getD a 0 = ys.getD b 0)) := rfl
                    obtain ⟨x1, hx1⟩ : ∃ x1, x1 = xs.getD a 0 := ⟨_, rfl⟩
                    obtain ⟨x2, hx2⟩ : ∃ x2, x2 = xs.getD b 0 := ⟨_, rfl⟩
                    obtain ⟨y1, hy1⟩ : ∃ y1, y1 = ys.getD a 0 := ⟨_, rfl⟩
                    obtain ⟨y2, hy2⟩ : ∃ y2, y2 = ys.getD b 0 := ⟨_, rfl⟩
                    obtain ⟨p1, hp1⟩ : ∃ p1, p1 = H.getD a 0 := ⟨_, rfl⟩
                    obtain ⟨p2, hp2⟩ : ∃ p2, p2 = H.getD b 0 := ⟨_, rfl⟩
                    have hset : (tog xs ys a b = true → joinRow xs ys G a (b + 1) = H.set a (min p1 p2)) ∧ (tog xs ys a b = false → joinRow xs ys G a (b + 1) = H) := by
                      rw [hstep, hp1, hp2]
                      unfold joinK
                      exact ⟨fun h => by rw [if_pos h], fun h => by rw [h]; rfl⟩
                    rw [← hx1] at hc1 htog
                    rw [← hx2] at hc2 htog
                    rw [← hy1] at hc3 htog
                    rw [← hy2] at hc4 htog
                    rw [← hp1] at hfa
                    rw [← hp2] at hfb
                    have HTOG := Lib.hid htog
                    have HSET := Lib.hid hset
                    have HOH := Lib.hid hown
                    have HHL := Lib.hid hHl
                    have b1 : (a : Int) < k := by omega
                    have b2 : (b : Int) < k := by omega
                    clear hx1 hx2 hy1 hy2 hp1 hp2 hstep htog hset hown hH hHl
                    by_cases hxx : x1 = x2
                    · have HT : Hid (tog xs ys a b = true) := by
                        have h : tog xs ys a b = true := by rw [HTOG.out]; simp [hxx]
                        exact Lib.hid h
                      have hbx : (x1 == x2) = true := by simpa using hxx
                      clear hxx
                      by_cases hpp : p1 ≤ p2
                      · have HM : Hid (min p1 p2 = p1) := Lib.hid (Int.min_eq_left hpp)
                        go_wp2
                        go_quiet (fail)
                        have hq5 : Quiet wr (wr.drewN nq) := Quiet.mk _ _
                        generalize wr.drewN nq = w5 at hq5 ⊢
                        have hfa5 : w5.cell? ⟨g, a, none⟩ = some (.int .i64 p1) := by obtain ⟨m, rfl⟩ := hq5; exact hfa
                        have hfb5 : w5.cell? ⟨g, b, none⟩ = some (.int .i64 p2) := by obtain ⟨m, rfl⟩ := hq5; exact hfb
                        have hfz5 : w5.frozen? ⟨g, a, none⟩ = false := by obtain ⟨m, rfl⟩ := hq5; exact hfz
                        have hbel5 : Below w.heap.size w w5 := by obtain ⟨m, rfl⟩ := hq5; exact below_drewN hbel m
                        have HST := Lib.hid (own_stored (own_quiet HOH.out hq5) HHL.out.symm a p1).1
                        clear hq5
                        go_wp2
                        go_still_tail 12, (by kernel_rfl)
                        change wpList _ _ _ _ _ w5.drew
                        go_wp2
                        go_roundw
                        case rel => exact ⟨b + 1, by omega, by go_num, by rw [HSET.out.1 HT.out, HM.out]; exact own_drew1 HST.out, (hbel5.setCell hgl.1 _).drew⟩
                        case measure => simp [intOf]; omega
                      · have HM : Hid (min p1 p2 = p2) := Lib.hid (Int.min_eq_right (by omega))
                        go_wp2
                        go_quiet (fail)
                        have hq5 : Quiet wr (wr.drewN nq) := Quiet.mk _ _
                        generalize wr.drewN nq = w5 at hq5 ⊢
                        have hfa5 : w5.cell? ⟨g, a, none⟩ = some (.int .i64 p1) := by obtain ⟨m, rfl⟩ := hq5; exact hfa
                        have hfb5 : w5.cell? ⟨g, b, none⟩ = some (.int .i64 p2) := by obtain ⟨m, rfl⟩ := hq5; exact hfb
                        have hfz5 : w5.frozen? ⟨g, a, none⟩ = false := by obtain ⟨m, rfl⟩ := hq5; exact hfz
                        have hbel5 : Below w.heap.size w w5 := by obtain ⟨m, rfl⟩ := hq5; exact below_drewN hbel m
                        have HST := Lib.hid (own_stored (own_quiet HOH.out hq5) HHL.out.symm a p2).1
                        clear hq5
                        go_wp2
                        go_still_tail 12, (by kernel_rfl)
                        change wpList _ _ _ _ _ w5.drew
                        go_wp2
                        go_roundw
                        case rel => exact ⟨b + 1, by omega, by go_num, by rw [HSET.out.1 HT.out, HM.out]; exact own_drew1 HST.out, (hbel5.setCell hgl.1 _).drew⟩
                        case measure => simp [intOf]; omega
                    · have hbx : (x1 == x2) = false := by simpa using hxx
                      by_cases hyy : y1 = y2
                      · have HT : Hid (tog xs ys a b = true) := by
                          have h : tog xs ys a b = true := by rw [HTOG.out]; simp [hyy]
                          exact Lib.hid h
                        have hby : (y1 == y2) = true := by simpa using hyy
                        clear hxx hyy
                        by_cases hpp : p1 ≤ p2
                        · have HM : Hid (min p1 p2 = p1) := Lib.hid (Int.min_eq_left hpp)
                          go_wp2
                          go_quiet (fail)
                          have hq5 : Quiet wr (wr.drewN nq) := Quiet.mk _ _
                          generalize wr.drewN nq = w5 at hq5 ⊢
                          have hfa5 : w5.cell? ⟨g, a, none⟩ = some (.int .i64 p1) := by obtain ⟨m, rfl⟩ := hq5; exact hfa
                          have hfb5 : w5.cell? ⟨g, b, none⟩ = some (.int .i64 p2) := by obtain ⟨m, rfl⟩ := hq5; exact hfb
                          have hfz5 : w5.frozen? ⟨g, a, none⟩ = false := by obtain ⟨m, rfl⟩ := hq5; exact hfz
                          have hbel5 : Below w.heap.size w w5 := by obtain ⟨m, rfl⟩ := hq5; exact below_drewN hbel m
                          have HST := Lib.hid (own_stored (own_quiet HOH.out hq5) HHL.out.symm a p1).1
                          clear hq5
                          go_wp2
                          go_still_tail 12, (by kernel_rfl)
                          change wpList _ _ _ _ _ w5.drew
                          go_wp2
                          go_roundw
                          case rel => exact ⟨b + 1, by omega, by go_num, by rw [HSET.out.1 HT.out, HM.out]; exact own_drew1 HST.out, (hbel5.setCell hgl.1 _).drew⟩
                          case measure => simp [intOf]; omega
                        · have HM : Hid (min p1 p2 = p2) := Lib.hid (Int.min_eq_right (by omega))
                          go_wp2
                          go_quiet (fail)
                          have hq5 : Quiet wr (wr.drewN nq) := Quiet.mk _ _
                          generalize wr.drewN nq = w5 at hq5 ⊢
                          have hfa5 : w5.cell? ⟨g, a, none⟩ = some (.int .i64 p1) := by obtain ⟨m, rfl⟩ := hq5; exact hfa
                          have hfb5 : w5.cell? ⟨g, b, none⟩ = some (.int .i64 p2) := by obtain ⟨m, rfl⟩ := hq5; exact hfb
                          have hfz5 : w5.frozen? ⟨g, a, none⟩ = false := by obtain ⟨m, rfl⟩ := hq5; exact hfz
                          have hbel5 : Below w.heap.size w w5 := by obtain ⟨m, rfl⟩ := hq5; exact below_drewN hbel m
                          have HST := Lib.hid (own_stored (own_quiet HOH.out hq5) HHL.out.symm a p2).1
                          clear hq5
                          go_wp2
                          go_still_tail 12, (by kernel_rfl)
                          change wpList _ _ _ _ _ w5.drew
                          go_wp2
                          go_roundw
                          case rel => exact ⟨b + 1, by omega, by go_num, by rw [HSET.out.1 HT.out, HM.out]; exact own_drew1 HST.out, (hbel5.setCell hgl.1 _).drew⟩
                          case measure => simp [intOf]; omega
                      · have HT : Hid (tog xs ys a b = false) := by
                          have h : tog xs ys a b = false := by rw [HTOG.out]; simp [hxx, hyy]
                          exact Lib.hid h
                        have hby : (y1 == y2) = false := by simpa using hyy
                        clear hxx hyy
                        go_wp2
                        go_quiet (fail)
                        go_wp2
                        go_roundw
                        case rel => exact ⟨b + 1, by omega, by go_num, by rw [HSET.out.2 HT.out]; exact own_quiet HOH.out (Quiet.mk _ _), below_drewN hbel _⟩
                        case measure => simp [intOf]; omega
                  · have hbk : b = k := by omega
                    have HOb := Lib.hid hown
                    clear hown
                    rw [hbk] at HOb
                    subst hbk
                    go_wp2
                    go_roundw
                    case rel => exact ⟨a + 1, by omega, by go_num, by rw [joinPass, ← HG.out]; exact HOb.out, hbel⟩
                    case measure => simp [intOf]; omega
              · have hak : a = k := by omega
                clear hown
                rw [hak] at HOa
                subst hak
                go_wp2
                go_roundw
                case rel => exact ⟨t + 1, by omega, by go_num, by rw [joinAll, ← HF.out]; exact HOa.out, hbel⟩
                case measure => simp [intOf]; omega
          · have htk : t = k := by omega
            clear hown
            rw [htk] at HOt
            subst htk
            have HRD := Lib.hid (own_rdv HOt.out)
            go_wp2_with fail
            refine (l1Kernel_v _ _ _ HRD.out (by rw [joinAll_len]; omega)).mono ?_
            rintro e w6 ⟨u, rfl, ho, hb⟩
            go_wp2
            go_ret2
            exact ⟨_, rfl, own_mono ho hbel.size, below_step hbel hb⟩
end

section
open Go.RowKit

def finerRank (xs : List Int) : Int × Bool := if partIn xs then ((xs.length : Int) - pSize xs, true) else (0, false)

theorem iFinerRank_v (v : Value) (xs : List Int) (w : World) (hv : RdV w v xs) : Calls Tryz.prog 208 #[v] w (GivesIB w (finerRank xs)) := by
  have hv0 := hv
  obtain ⟨ao, ca, rfl, h, h1, h2⟩ := hv
  unfold maxLen at h2
  have HV := Lib.hid hv0
  clear hv0
  by_cases hp : partIn xs = true
  · have hr : finerRank xs = ((xs.length : Int) - pSize xs, true) := by simp [finerRank, hp]
    rw [hr]
    have hs := partIn_small hp
    have hl := partIn_len hp
    have hb := pSize_bd hs
    have HP := Lib.hid hp
    have HS := Lib.hid hs
    clear hp hr hs
    go_enter Tryz.func208, Tryz.ntmps208
    go_wp2_with fail
    refine (iPartIn_w _ _ _ HV.out).mono ?_
    rintro e w' ⟨rfl, rfl⟩
    rw [HP.out]
    go_wp2_with fail
    refine (blockCount_any _ _ _ _ h hl.1 (by omega) HS.out).mono ?_
    rintro e w' ⟨rfl, rfl⟩
    go_wp2
    go_ret2
    exact ⟨rfl, Below.refl _ _⟩
  · have hp : partIn xs = false := by simpa using hp
    have hr : finerRank xs = (0, false) := by simp [finerRank, hp]
    rw [hr]
    have HP := Lib.hid hp
    clear hp hr
    go_enter Tryz.func208, Tryz.ntmps208
    go_wp2_with fail
    refine (iPartIn_w _ _ _ HV.out).mono ?_
    rintro e w' ⟨rfl, rfl⟩
    rw [HP.out]
    go_wp2
    go_ret2
    exact ⟨rfl, Below.refl _ _⟩

theorem pairCount_any (c : Nat) (w : World) (hc : c ≤ 8) : Calls Tryz.prog 265 #[.int .i64 c] w fun e w' => e = .returned (.int .i64 ((c * (c - 1) / 2 : Nat) : Int)) ∧ w = w' := by
  have h : c = 0 ∨ c = 1 ∨ c = 2 ∨ c = 3 ∨ c = 4 ∨ c = 5 ∨ c = 6 ∨ c = 7 ∨ c = 8 := by omega
  rcases h with rfl | rfl | rfl | rfl | rfl | rfl | rfl | rfl | rfl
  all_goals
    go_enter Tryz.func265, Tryz.ntmps265
    go_wp2
    go_ret
    exact ⟨rfl, rfl⟩

def chD (p : Nat) : Nat → Int
  | 0 => 1
  | d + 1 => chD p d * (((p - d) * (p - d - 1) / 2 : Nat) : Int)

theorem chD_bd : ∀ p, p < 9 → ∀ d, d < 9 → 0 ≤ chD p d ∧ chD p d ≤ 2000000 := by decide +kernel

def finerChains (xs : List Int) : Int × Bool := if partIn xs then (chD (pSize xs).toNat ((pSize xs).toNat - 1), true) else (0, false)

set_option maxHeartbeats 1600000 in
theorem iFinerChains_v (v : Value) (xs : List Int) (w : World) (hv : RdV w v xs) : Calls Tryz.prog 211 #[v] w (GivesIB w (finerChains xs)) := by
  have hv0 := hv
  obtain ⟨ao, ca, rfl, h, h1, h2⟩ := hv
  unfold maxLen at h2
  have HV := Lib.hid hv0
  clear hv0
  by_cases hp : partIn xs = true
  · have hr : finerChains xs = (chD (pSize xs).toNat ((pSize xs).toNat - 1), true) := by simp [finerChains, hp]
    rw [hr]
    have hs := partIn_small hp
    have hl := partIn_len hp
    have hb := pSize_bd hs
    have hpos := pSize_pos hs hl.1
    have HP := Lib.hid hp
    have HS := Lib.hid hs
    obtain ⟨p, hpe⟩ := Int.eq_ofNat_of_zero_le hb.1
    have HPE := Lib.hid hpe
    rw [hpe] at hb hpos ⊢
    rw [Int.toNat_natCast]
    clear hp hr hs hpe
    go_enter Tryz.func211, Tryz.ntmps211
    go_wp2_with fail
    refine (iPartIn_w _ _ _ HV.out).mono ?_
    rintro e w' ⟨rfl, rfl⟩
    rw [HP.out]
    go_wp2_with fail
    refine (blockCount_any _ _ _ _ h hl.1 (by omega) HS.out).mono ?_
    rintro e w' ⟨rfl, rfl⟩
    rw [HPE.out]
    go_wp2
    go_loop [4, 5] (fun u i => ∃ d : Nat, d + 1 ≤ p ∧ i = .int .i64 ((p - d : Nat) : Int) ∧ u = .int .i64 (chD p d)) (fun _ i => (intOf i).toNat)
    case atStart => exact ⟨0, by omega, rfl, rfl⟩
    case round =>
      obtain ⟨d, hd, rfl, rfl⟩ := hrel
      obtain ⟨hc0, hc1⟩ := chD_bd p (by omega) d (by omega)
      have hst : chD p (d + 1) = chD p d * (((p - d) * (p - d - 1) / 2 : Nat) : Int) := rfl
      obtain ⟨c, hc⟩ : ∃ c, c = p - d := ⟨_, rfl⟩
      obtain ⟨x, hx⟩ : ∃ x, x = chD p d := ⟨_, rfl⟩
      rw [← hc] at hst ⊢
      rw [← hx] at hst hc0 hc1 ⊢
      have HC := Lib.hid hc
      have HX := Lib.hid hx
      have HST := Lib.hid hst
      have hc1' : 1 ≤ c := by omega
      have hc8 : c ≤ 8 := by omega
      clear hc hx hst
      by_cases hlt : 1 < c
      · have hq : c * (c - 1) / 2 ≤ 28 := by
          have h : c = 2 ∨ c = 3 ∨ c = 4 ∨ c = 5 ∨ c = 6 ∨ c = 7 ∨ c = 8 := by omega
          rcases h with rfl | rfl | rfl | rfl | rfl | rfl | rfl <;> decide
        obtain ⟨q, hqe⟩ : ∃ q, q = c * (c - 1) / 2 := ⟨_, rfl⟩
        have HQ := Lib.hid hqe
        rw [← hqe] at hq
        have hm : IntKind.i64.wrap (x * (q : Int)) = x * (q : Int) := by
          refine IntWalk.i64_in _ ?_
          have h1 : 0 ≤ x * (q : Int) := Int.mul_nonneg hc0 (by omega)
          have h2 : x * (q : Int) ≤ 2000000 * 28 := Int.mul_le_mul hc1 (by omega) (by omega) (by omega)
          omega
        clear hqe
        go_wp2_with fail
        refine (pairCount_any _ _ hc8).mono ?_
        rintro e w' ⟨rfl, rfl⟩
        rw [← HQ.out]
        go_wp2
        go_round
        case rel => exact ⟨d + 1, by have := HC.out; omega, by have := HC.out; congr 1; omega, by rw [HST.out, ← HQ.out]⟩
        case measure => simp [intOf]; omega
      · have HD : Hid (d = p - 1) := by
          have hd : d = p - 1 := by have := HC.out; omega
          exact Lib.hid hd
        go_wp2
        go_ret2
        exact ⟨ret_ib (by rw [HX.out, HD.out]), Below.refl _ _⟩
  · have hp : partIn xs = false := by simpa using hp
    have hr : finerChains xs = (0, false) := by simp [finerChains, hp]
    rw [hr]
    have HP := Lib.hid hp
    clear hp hr
    go_enter Tryz.func211, Tryz.ntmps211
    go_wp2_with fail
    refine (iPartIn_w _ _ _ HV.out).mono ?_
    rintro e w' ⟨rfl, rfl⟩
    rw [HP.out]
    go_wp2
    go_ret2
    exact ⟨rfl, Below.refl _ _⟩

theorem sFinerRank_v (v : Value) (xs : List Int) (w : World) (hv : RdV w v xs) : Calls Tryz.prog 91 #[v] w (GivesIB w (finerRank xs)) := by
  have hv0 := hv
  obtain ⟨ao, ca, rfl, h, h1, h2⟩ := hv
  unfold maxLen at h2
  have HV := Lib.hid hv0
  clear hv0
  by_cases hp : partIn xs = true
  · have hr : finerRank xs = ((xs.length : Int) - pSize xs, true) := by simp [finerRank, hp]
    rw [hr]
    have hs := partIn_small hp
    have hl := partIn_len hp
    have hb := pSize_bd hs
    have HP := Lib.hid hp
    have HS := Lib.hid hs
    clear hp hr hs
    go_enter Tryz.func91, Tryz.ntmps91
    go_wp2_with fail
    refine (sPartIn_w _ _ _ HV.out).mono ?_
    rintro e w' ⟨rfl, rfl⟩
    rw [HP.out]
    go_wp2_with fail
    refine (l1Size_any _ _ _ _ h (by omega) HS.out).mono ?_
    rintro e w' ⟨rfl, rfl⟩
    go_wp2
    go_ret2
    exact ⟨rfl, Below.refl _ _⟩
  · have hp : partIn xs = false := by simpa using hp
    have hr : finerRank xs = (0, false) := by simp [finerRank, hp]
    rw [hr]
    have HP := Lib.hid hp
    clear hp hr
    go_enter Tryz.func91, Tryz.ntmps91
    go_wp2_with fail
    refine (sPartIn_w _ _ _ HV.out).mono ?_
    rintro e w' ⟨rfl, rfl⟩
    rw [HP.out]
    go_wp2
    go_ret2
    exact ⟨rfl, Below.refl _ _⟩

set_option maxHeartbeats 1600000 in
theorem sFinerChains_v (v : Value) (xs : List Int) (w : World) (hv : RdV w v xs) : Calls Tryz.prog 94 #[v] w (GivesIB w (finerChains xs)) := by
  have hv0 := hv
  obtain ⟨ao, ca, rfl, h, h1, h2⟩ := hv
  unfold maxLen at h2
  have HV := Lib.hid hv0
  clear hv0
  by_cases hp : partIn xs = true
  · have hr : finerChains xs = (chD (pSize xs).toNat ((pSize xs).toNat - 1), true) := by simp [finerChains, hp]
    rw [hr]
    have hs := partIn_small hp
    have hl := partIn_len hp
    have hb := pSize_bd hs
    have hpos := pSize_pos hs hl.1
    have HP := Lib.hid hp
    have HS := Lib.hid hs
    obtain ⟨p, hpe⟩ := Int.eq_ofNat_of_zero_le hb.1
    have HPE := Lib.hid hpe
    rw [hpe] at hb hpos ⊢
    rw [Int.toNat_natCast]
    clear hp hr hs hpe
    go_enter Tryz.func94, Tryz.ntmps94
    go_wp2_with fail
    refine (sPartIn_w _ _ _ HV.out).mono ?_
    rintro e w' ⟨rfl, rfl⟩
    rw [HP.out]
    go_wp2_with fail
    refine (l1Size_any _ _ _ _ h (by omega) HS.out).mono ?_
    rintro e w' ⟨rfl, rfl⟩
    rw [HPE.out]
    go_wp2
    go_loop [4, 5] (fun u i => ∃ d : Nat, d + 1 ≤ p ∧ i = .int .i64 ((p - d : Nat) : Int) ∧ u = .int .i64 (chD p d)) (fun _ i => (intOf i).toNat)
    case atStart => exact ⟨0, by omega, rfl, rfl⟩
    case round =>
      obtain ⟨d, hd, rfl, rfl⟩ := hrel
      obtain ⟨hc0, hc1⟩ := chD_bd p (by omega) d (by omega)
      have hst : chD p (d + 1) = chD p d * (((p - d) * (p - d - 1) / 2 : Nat) : Int) := rfl
      obtain ⟨c, hc⟩ : ∃ c, c = p - d := ⟨_, rfl⟩
      obtain ⟨x, hx⟩ : ∃ x, x = chD p d := ⟨_, rfl⟩
      rw [← hc] at hst ⊢
      rw [← hx] at hst hc0 hc1 ⊢
      have HC := Lib.hid hc
      have HX := Lib.hid hx
      have HST := Lib.hid hst
      have hc1' : 1 ≤ c := by omega
      have hc8 : c ≤ 8 := by omega
      clear hc hx hst
      by_cases hlt : 1 < c
      · have hq : c * (c - 1) / 2 ≤ 28 := by
          have h : c = 2 ∨ c = 3 ∨ c = 4 ∨ c = 5 ∨ c = 6 ∨ c = 7 ∨ c = 8 := by omega
          rcases h with rfl | rfl | rfl | rfl | rfl | rfl | rfl <;> decide
        obtain ⟨q, hqe⟩ : ∃ q, q = c * (c - 1) / 2 := ⟨_, rfl⟩
        have HQ := Lib.hid hqe
        rw [← hqe] at hq
        have hm : IntKind.i64.wrap (x * (q : Int)) = x * (q : Int) := by
          refine IntWalk.i64_in _ ?_
          have h1 : 0 ≤ x * (q : Int) := Int.mul_nonneg hc0 (by omega)
          have h2 : x * (q : Int) ≤ 2000000 * 28 := Int.mul_le_mul hc1 (by omega) (by omega) (by omega)
          omega
        have b1 : IntKind.i64.wrap ((c : Int) - 1) = ((c - 1 : Nat) : Int) := by rw [IntWalk.i64_in _ (by omega)]; omega
        have b2 : IntKind.i64.wrap ((c : Int) * ((c - 1 : Nat) : Int)) = ((c * (c - 1) : Nat) : Int) := by
          have hq2 : c * (c - 1) ≤ 8 * 7 := Nat.mul_le_mul hc8 (by omega)
          rw [IntWalk.i64_in _ (by rw [← Int.natCast_mul]; omega), Int.natCast_mul]
        have b3 : ((c * (c - 1) : Nat) : Int).tdiv 2 = (q : Int) := by rw [hqe]; rfl
        have b4 : (c : Int) * ((c - 1 : Nat) : Int) / 2 = (q : Int) := by rw [hqe, ← Int.natCast_mul]; rfl
        have b5 : wrap64 (x * (q : Int)) = x * (q : Int) := by rw [← IntWalk.i64_left]; exact hm
        clear hqe
        go_wp2
        go_round
        case rel => exact ⟨d + 1, by have := HC.out; omega, by have := HC.out; congr 1; omega, by rw [HST.out, ← HQ.out]⟩
        case measure => simp [intOf]; omega
      · have HD : Hid (d = p - 1) := by
          have hd : d = p - 1 := by have := HC.out; omega
          exact Lib.hid hd
        go_wp2
        go_ret2
        exact ⟨ret_ib (by rw [HX.out, HD.out]), Below.refl _ _⟩
  · have hp : partIn xs = false := by simpa using hp
    have hr : finerChains xs = (0, false) := by simp [finerChains, hp]
    rw [hr]
    have HP := Lib.hid hp
    clear hp hr
    go_enter Tryz.func94, Tryz.ntmps94
    go_wp2_with fail
    refine (sPartIn_w _ _ _ HV.out).mono ?_
    rintro e w' ⟨rfl, rfl⟩
    rw [HP.out]
    go_wp2
    go_ret2
    exact ⟨rfl, Below.refl _ _⟩
end

section
open Go.RowKit

theorem own_slice' {w : World} {B : Nat} {v : Value} {xs : List Int} (h : Own w B v xs) : ∃ ao cap, v = .slice ao xs.length cap := by
  obtain ⟨ao, cap, hv, _⟩ := own_rd h
  exact ⟨ao, cap, hv⟩

theorem ownM_slot {w : World} {B S g n cap : Nat} {xss : List (List Int)} (h : OwnM w B S (.slice (some ⟨g, 0, none⟩) n cap) xss) : B ≤ g ∧ g < S ∧ g < w.heap.size := by
  obtain ⟨vs, _, hv, _⟩ := ownM_parts h
  rcases hv with ⟨h, _⟩ | ⟨g', cap', h, hb, hs, hg, _⟩
  · cases h
  · simp only [Value.slice.injEq, Option.some.injEq, Addr.mk.injEq, and_true, true_and] at h
    omega

theorem wpList_row {w : World} {ops : Array Oper} {rest : List Oper} {o : Oper} {a : Act} {Q : Exit → Act → World → Prop} (hgd : o.guard = none) (s x : Operand)
    (ho : o.op = .call { callee := .builtin .append, args := #[s, x], argTypes := #[91, 91] })
    (w0 wq : World) (u : Value) (hw : w = wq.alloc (.cells #[u] 26)) (S g n cap : Nat) (xss : List (List Int)) (hs : a.eval s = .slice (some ⟨g, 0, none⟩) n cap) (hown : OwnM wq w0.heap.size S (.slice (some ⟨g, 0, none⟩) n cap) xss) (hn : n = xss.length)
    (hx : a.eval x = .slice (some ⟨wq.heap.size, 0, none⟩) 1 1) (ys : List Int) (hu : Own wq w0.heap.size u ys) (hui : InB u S wq.heap.size) (hSw : w0.heap.size ≤ S ∧ S ≤ wq.heap.size) (hl : n ≤ 1000000000) (hbel : Below w0.heap.size w0 wq)
    (h : ∀ g' cap' w', OwnM w' w0.heap.size w'.heap.size (.slice (some ⟨g', 0, none⟩) (n + 1) cap') (xss ++ [ys]) → Below w0.heap.size w0 w' → wq.heap.size < w'.heap.size → wpList Tryz.prog ops Q rest (a.put o.dst (.slice (some ⟨g', 0, none⟩) (n + 1) cap')) w') :
    wpList Tryz.prog ops Q (o :: rest) a w := by
  subst hw
  have hsl := ownM_slot hown
  refine wpList_pushM hgd s x ho w0.heap.size S g n cap xss hs (ownM_below hown ((Below.refl _ _).alloc (Nat.le_refl _) _)) hn ⟨wq.heap.size, 0, none⟩ hx u ys (cell_new1 _ _ _) (own_alloc hu _) (fun q hq => by have := hui q hq; simp; omega) hSw.1 (by simp; omega) hl (n + 1) rfl ?_
  intro g' cap' w' h1 h2
  refine h g' cap' w' h1 ?_ ?_
  · exact (hbel.alloc (by omega) _).grown h2 (by simp; omega) (fun q hq => by cases hq; exact hsl.1)
  · have := h2.size
    simp at this
    omega
end

section
open Go.RowKit

def retold (xs : List Int) (l g : Int) : List Int := xs.map fun x => if x = g then l else x

theorem retold_length (xs : List Int) (l g : Int) : (retold xs l g).length = xs.length := by simp [retold]
theorem retold_getD (xs : List Int) (l g : Int) (k : Nat) (h : k < xs.length) : (retold xs l g).getD k 0 = if xs.getD k 0 = g then l else xs.getD k 0 := by
  simp [retold, List.getD, h]

theorem retold_stage (xs : List Int) (l g : Int) (k : Nat) (h : k < xs.length) (v : Int) (hv : v = (retold xs l g).getD k 0) :
    ((retold xs l g).take k ++ xs.drop k).set k v = (retold xs l g).take (k + 1) ++ xs.drop (k + 1) := by
  have hk : ((retold xs l g).take k).length = k := by simp [retold_length]; omega
  rw [hv, List.set_append_right _ _ (by omega), hk, Nat.sub_self, List.drop_eq_getElem_cons h, List.set_cons_zero, take_snoc _ k (by rw [retold_length]; exact h), List.append_assoc]
  rfl
theorem retold_keep (xs : List Int) (l g : Int) (k : Nat) (h : k < xs.length) (hv : xs.getD k 0 = (retold xs l g).getD k 0) :
    (retold xs l g).take k ++ xs.drop k = (retold xs l g).take (k + 1) ++ xs.drop (k + 1) := by
  rw [take_snoc _ k (by rw [retold_length]; exact h), drop_cons xs k h, hv, List.append_assoc]
  rfl

set_option maxHeartbeats 1600000 in
theorem merged_v (v : Value) (xs : List Int) (l g : Int) (w : World) (hv : RdV w v xs) (h1 : 1 ≤ xs.length) (h8 : xs.length ≤ 8) :
    Calls Tryz.prog 266 #[v, .int .i64 l, .int .i64 g] w (FreshL w (kOut (retold xs l g))) := by
  obtain ⟨bx, ox, cx, rfl, hcx, hbx, hcx1, hcx2⟩ := rdv_cells hv h1
  obtain ⟨n, hn⟩ : ∃ n, n = xs.length := ⟨_, rfl⟩
  have HN := Lib.hid hn
  have HCL := Lib.hid (slicesClone_any bx ox cx xs w (by omega) hcx)
  rw [← hn] at HCL h1 h8 ⊢
  clear hv hn hcx1 hcx2
  go_enter Tryz.func266, Tryz.ntmps266
  go_wp2_with fail
  refine (HCL.out).mono ?_
  rintro e w1 ⟨gs, cap, rfl, ho, hb⟩
  have HO := Lib.hid ho
  clear ho
  go_wp2
  go_loopw [14] (fun i wr => ∃ k : Nat, k ≤ n ∧ i = .int .i64 k ∧ Own wr w.heap.size (.slice (some ⟨gs, 0, none⟩) n cap) ((retold xs l g).take k ++ xs.drop k) ∧ Below w.heap.size w wr) (fun i _ => n - (intOf i).toNat)
  case atStart => exact ⟨0, Nat.zero_le _, rfl, by simpa using HO.out, hb⟩
  case round =>
    obtain ⟨k, hk, rfl, hown, hbel⟩ := hrel
    by_cases hlt : k < n
    · have hck := cells_at (cells_below hcx hbel) k (by rw [← HN.out]; exact hlt)
      have hml : ((retold xs l g).take k ++ xs.drop k).length = n := by simp [retold_length, ← HN.out]; omega
      have hrg := retold_getD xs l g k (by rw [← HN.out]; exact hlt)
      have hstage := retold_stage xs l g k (by rw [← HN.out]; exact hlt)
      have hkeep := retold_keep xs l g k (by rw [← HN.out]; exact hlt)
      have hgl := own_lt hown gs rfl
      obtain ⟨x, hx⟩ : ∃ x, x = xs.getD k 0 := ⟨_, rfl⟩
      rw [← hx] at hck hrg hkeep
      have b1 : (k : Int) < n := by omega
      by_cases hxg : x = g
      · subst hxg
        rw [if_pos rfl] at hrg
        have hfz := own_frozen hown k
        obtain ⟨v0, hv0⟩ : ∃ v0, wr.cell? ⟨gs, k, none⟩ = some v0 := ⟨_, own_cell hown k (by rw [hml]; omega)⟩
        obtain ⟨hst, hgs⟩ := own_stored hown hml.symm k l
        rw [hstage l hrg.symm] at hst
        have HST := Lib.hid hst
        clear hml hrg hstage hkeep hx hst hgs hown
        go_wp2
        go_roundw
        case rel => exact ⟨k + 1, by omega, by go_num, HST.out, hbel.setCell hgl.1 _⟩
        case measure => simp [intOf]; omega
      · rw [if_neg hxg] at hrg
        rw [hkeep hrg.symm] at hown
        have HO2 := Lib.hid hown
        have hb : (x == g) = false := by simpa using hxg
        clear hml hrg hstage hkeep hx hown
        go_wp2
        go_roundw
        case rel => exact ⟨k + 1, by omega, by go_num, HO2.out, hbel⟩
        case measure => simp [intOf]; omega
    · have hkn : k = n := by omega
      subst hkn
      rw [List.take_of_length_le (by rw [retold_length, ← HN.out]; omega), List.drop_of_length_le (by rw [← HN.out]; omega), List.append_nil] at hown
      have HRD := Lib.hid (own_rdv hown)
      clear hown
      go_wp2_with fail
      refine (kernel_v _ _ _ HRD.out (by rw [retold_length, ← HN.out]; omega)).mono ?_
      rintro e w2 ⟨u, rfl, ho, hb2⟩
      go_wp2
      go_ret
      exact ⟨_, rfl, own_mono ho hbel.size, below_step hbel hb2⟩

def mrow (xs : List Int) (x j : Nat) : List (List Int) := (List.range j).map fun i => kOut (retold xs (x : Int) ((x + 1 + i : Nat) : Int))
def mergesTo (xs : List Int) (p k : Nat) : List (List Int) := (List.range k).flatMap fun x => mrow xs x (p - 1 - x)
def finerMerges (xs : List Int) : List (List Int) × Bool := if partIn xs then (mergesTo xs (pSize xs).toNat (pSize xs).toNat, true) else ([], false)

theorem mrow_length (xs : List Int) (x j : Nat) : (mrow xs x j).length = j := by simp [mrow]
theorem mrow_succ (xs : List Int) (x j : Nat) : mrow xs x (j + 1) = mrow xs x j ++ [kOut (retold xs (x : Int) ((x + 1 + j : Nat) : Int))] := by simp [mrow, List.range_succ]
theorem mergesTo_succ (xs : List Int) (p k : Nat) : mergesTo xs p (k + 1) = mergesTo xs p k ++ mrow xs k (p - 1 - k) := by simp [mergesTo, List.range_succ]

theorem total_append (a b : List (List Int)) : total (a ++ b) = total a + total b := by
  induction a with
  | nil => simp [total]
  | cons x a ih => rw [List.cons_append, total_cons, total_cons, ih]; omega

theorem mrow_total (xs : List Int) (x j : Nat) : total (mrow xs x j) = j * xs.length := by
  induction j with
  | zero => simp [mrow, total]
  | succ j ih => rw [mrow_succ, total_append, ih, total_cons, kOut_length, retold_length, Nat.succ_mul]; simp [total]

theorem mergesTo_bd (xs : List Int) (p : Nat) (hp : p ≤ 8) (hl : xs.length ≤ 8) : ∀ k, (mergesTo xs p k).length ≤ 8 * k ∧ total (mergesTo xs p k) ≤ 64 * k := by
  intro k
  induction k with
  | zero => simp [mergesTo, total]
  | succ k ih =>
    rw [mergesTo_succ, List.length_append, mrow_length, total_append, mrow_total]
    have h1 : p - 1 - k ≤ 8 := by omega
    have h2 : (p - 1 - k) * xs.length ≤ 8 * 8 := Nat.mul_le_mul h1 hl
    omega

set_option maxHeartbeats 1600000 in
theorem iFinerMerges_v (v : Value) (xs : List Int) (w : World) (hv : RdV w v xs) : Calls Tryz.prog 209 #[v] w (FreshMB w (finerMerges xs)) := by
  have HV := Lib.hid hv
  clear hv
  by_cases hp : partIn xs = true
  · obtain ⟨p, hps⟩ := Int.eq_ofNat_of_zero_le (pSize_bd (partIn_small hp)).1
    have hbd := pSize_bd (partIn_small hp)
    rw [hps] at hbd
    have hr : finerMerges xs = (mergesTo xs p p, true) := by simp [finerMerges, hp, hps]
    rw [hr]
    have HP := Lib.hid hp
    have HSM := Lib.hid (partIn_small hp)
    have HPS := Lib.hid hps
    obtain ⟨hl1, hl8⟩ := partIn_len hp
    have hpos := pSize_pos HSM.out hl1
    rw [hps] at hpos
    have hp8 : p ≤ 8 := by omega
    have HBD := Lib.hid (mergesTo_bd xs p hp8 hl8)
    obtain ⟨i0, hi, hz0, hz1, hz2⟩ := info_parts Tryz.infoInts
    clear hp hr hps
    have hq28 : p * (p - 1) / 2 ≤ 64 := by
      have : p * (p - 1) ≤ 8 * 8 := Nat.mul_le_mul hp8 (by omega)
      omega
    obtain ⟨q, hq⟩ : ∃ q, q = p * (p - 1) / 2 := ⟨_, rfl⟩
    rw [← hq] at hq28
    have HQ := Lib.hid hq
    clear hq
    go_enter Tryz.func209, Tryz.ntmps209
    go_wp2_with fail
    refine (iPartIn_is true _ _ _ HV.out HP).mono ?_
    rintro e w' ⟨rfl, rfl⟩
    go_wp2_with fail
    refine (blockCount_v _ xs _ HV.out hl1 HSM.out).mono ?_
    rintro e w' ⟨rfl, rfl⟩
    rw [HPS.out]
    go_wp2_with fail
    refine (pairCount_any p _ hp8).mono ?_
    rintro e w' ⟨rfl, rfl⟩
    rw [← HQ.out]
    go_wp2_with (at_make; refine wpList_make_own _ rfl _ _ 91 rfl w.heap.size 26 i0 (.slice none 0 0) 1 Tryz.underlying91 hi hz0 hz1 _ _ _ q rfl rfl rfl (by rw [hz2]; omega) (by unfold maxLen; omega) (Nat.le_refl _) ?_)
    intro w1 hown1 hgrow1
    have hb1 : Below w.heap.size w w1 := (Below.refl _ _).grown hgrow1 (Nat.le_refl _) (fun k h => by cases h)
    have hlt1 := (World.ownsRow.lt hown1 w.heap.size rfl).2
    have HO1 : Hid (OwnM w1 w.heap.size w1.heap.size (.slice (some ⟨w.heap.size, 0, none⟩) 0 q) []) := by
      refine Lib.hid (⟨[], rfl, hown1, fun k hk => by simp [Value.ownBlock] at hk; omega, fun i hi => by simp at hi, fun i j _ hj => by simp at hj⟩ : OwnM w1 w.heap.size w1.heap.size (.slice (some ⟨w.heap.size, 0, none⟩) 0 q) [])
    clear hown1 hgrow1
    go_wp2
    go_loopw [5, 17] (fun u i wr => ∃ k m g cap : Nat, k ≤ p ∧ i = .int .i64 k ∧ u = .slice (some ⟨g, 0, none⟩) m cap ∧ m = (mergesTo xs p k).length ∧ OwnM wr w.heap.size wr.heap.size (.slice (some ⟨g, 0, none⟩) m cap) (mergesTo xs p k) ∧ Below w.heap.size w wr)
      (fun _ i _ => p - (intOf i).toNat)
    case atStart => exact ⟨0, 0, w.heap.size, q, Nat.zero_le _, rfl, rfl, rfl, HO1.out, hb1⟩
    case round =>
      obtain ⟨k, m, g, cap, hk, rfl, rfl, hm, hown, hbel⟩ := hrel
      have HM := Lib.hid hm
      have HO := Lib.hid hown
      clear hm hown
      by_cases hlt : k < p
      · obtain ⟨wo, hwo⟩ : ∃ wo : World, wo = wr := ⟨_, rfl⟩
        subst hwo
        go_wp2
        go_loopw [5, 7] (fun u i wr => ∃ j m g cap : Nat, j ≤ p - 1 - k ∧ i = .int .i64 ((k + 1 + j : Nat) : Int) ∧ u = .slice (some ⟨g, 0, none⟩) m cap ∧ m = (mergesTo xs p k ++ mrow xs k j).length ∧ OwnM wr w.heap.size wr.heap.size (.slice (some ⟨g, 0, none⟩) m cap) (mergesTo xs p k ++ mrow xs k j) ∧ Below w.heap.size w wr)
          (fun _ i _ => p - (intOf i).toNat)
        case atStart => exact ⟨0, m, g, cap, Nat.zero_le _, by go_num, rfl, by simpa [mrow] using HM.out, by simpa [mrow] using HO.out, hbel⟩
        case round =>
          obtain ⟨j, m2, g2, cap2, hj, rfl, rfl, hm2, hown2, hbel2⟩ := hrel
          have HM2 := Lib.hid hm2
          have HO2 := Lib.hid hown2
          have hml : m2 ≤ 1000 := by
            have := (HBD.out k).1
            rw [hm2, List.length_append, mrow_length]
            omega
          obtain ⟨y, hy⟩ : ∃ y, y = k + 1 + j := ⟨_, rfl⟩
          rw [← hy]
          have HY := Lib.hid hy
          clear hm2 hown2
          by_cases hyp : y < p
          · have HV2 := Lib.hid (rdv_below HV.out hbel2)
            have hj2 : j + 1 ≤ p - 1 - k := by omega
            clear hy
            go_wp2_with fail
            refine (merged_v _ xs k y _ HV2.out hl1 hl8).mono ?_
            rintro e w3 ⟨u, rfl, ho, hb3⟩
            obtain ⟨gu, cu, rfl⟩ := own_slice' ho
            have hbel3 := below_step hbel2 hb3
            have hin := inB_of_own ho
            have HO3 := Lib.hid (own_mono ho hbel2.size)
            have HOM := Lib.hid (ownM_below HO2.out hb3)
            have hs23 := hb3.size
            have hs02 := hbel2.size
            clear ho hb3
            go_wp2_with (at_builtin; refine wpList_row rfl _ _ rfl w w3 _ rfl wr.heap.size g2 m2 cap2 (mergesTo xs p k ++ mrow xs k j) rfl HOM.out HM2.out rfl (kOut (retold xs (k : Int) (y : Int))) HO3.out hin ⟨hs02, hs23⟩ (by omega) hbel3 ?_)
            intro g4 cap4 w4 hown4 hbel4 hs4
            have HO4 := Lib.hid hown4
            clear hown4
            go_wp2
            go_roundw
            case rel => exact ⟨j + 1, m2 + 1, g4, cap4, hj2, by have := HY.out; congr 1; omega, rfl, by rw [mrow_succ, ← List.append_assoc, List.length_append, ← HM2.out]; rfl, by rw [mrow_succ, ← HY.out]; first | exact HO4.out | (rw [← List.append_assoc]; exact HO4.out), hbel4⟩
            case measure => simp [intOf]; omega
          · have hj2 : j = p - 1 - k := by omega
            have hyp2 : y = p := by omega
            have HJ2 := Lib.hid hj2
            clear hj2 hy hyp2
            go_wp2
            go_roundw
            case rel => exact ⟨k + 1, m2, g2, cap2, by omega, by go_num, rfl, by rw [mergesTo_succ, ← HJ2.out]; exact HM2.out, by rw [mergesTo_succ, ← HJ2.out]; exact HO2.out, hbel2⟩
            case measure => simp [intOf]; omega
      · have hkp : k = p := by omega
        subst hkp
        go_wp2
        go_ret2
        exact ⟨_, rfl, HO.out, hbel⟩
  · have hp : partIn xs = false := by simpa using hp
    have hr : finerMerges xs = ([], false) := by simp [finerMerges, hp]
    rw [hr]
    have HP := Lib.hid hp
    clear hp hr
    go_enter Tryz.func209, Tryz.ntmps209
    go_wp2_with fail
    refine (iPartIn_is false _ _ _ HV.out HP).mono ?_
    rintro e w' ⟨rfl, rfl⟩
    go_wp2
    go_ret2
    exact ⟨_, rfl, ownM_nil _ _ _, Below.refl _ _⟩

set_option maxHeartbeats 4000000 in
theorem l2Merges_v (v : Value) (xs : List Int) (p : Nat) (w : World) (hv : RdV w v xs) (hp : partIn xs = true) (hps : pSize xs = p) : Calls Tryz.prog 165 #[v] w (FreshM w (mergesTo xs p p)) := by
  have HV := Lib.hid hv
  have hbd := pSize_bd (partIn_small hp)
  rw [hps] at hbd
  have HSM := Lib.hid (partIn_small hp)
  have HPS := Lib.hid hps
  obtain ⟨hl1, hl8⟩ := partIn_len hp
  have hpos := pSize_pos HSM.out hl1
  rw [hps] at hpos
  have hp8 : p ≤ 8 := by omega
  have HBD := Lib.hid (mergesTo_bd xs p hp8 hl8)
  obtain ⟨bx, ox, cx, rfl, hcx, hbx, hcx1, hcx2⟩ := rdv_cells hv hl1
  obtain ⟨n, hn⟩ : ∃ n, n = xs.length := ⟨_, rfl⟩
  have HN := Lib.hid hn
  rw [← hn] at HV hl1 hl8 ⊢
  clear hv hp hps hn hcx1 hcx2
  go_enter Tryz.func165, Tryz.ntmps165
  go_wp2
  go_loopw [3, 4] (fun u i wr => ∃ k m g cap : Nat, k ≤ p ∧ i = .int .i64 k ∧ u = .slice (some ⟨g, 0, none⟩) m cap ∧ m = (mergesTo xs p k).length ∧ OwnM wr w.heap.size wr.heap.size (.slice (some ⟨g, 0, none⟩) m cap) (mergesTo xs p k) ∧ Below w.heap.size w wr)
    (fun _ i _ => p - (intOf i).toNat)
  case atStart => exact ⟨0, 0, w.heap.size, 0, Nat.zero_le _, rfl, rfl, rfl, by simpa [mergesTo] using ownM_empty w _ (Nat.le_refl _), (Below.refl _ _).alloc (Nat.le_refl _) _⟩
  case round =>
    obtain ⟨k, m, g, cap, hk, rfl, rfl, hm, hown, hbel⟩ := hrel
    have HM := Lib.hid hm
    have HO := Lib.hid hown
    clear hm hown
    have HVk := Lib.hid (rdv_below HV.out hbel)
    by_cases hlt : k < p
    · obtain ⟨wo, hwo⟩ : ∃ wo : World, wo = wr := ⟨_, rfl⟩
      subst hwo
      go_wp2_with fail
      refine (l1Size_v _ xs _ HVk.out HSM.out).mono ?_
      rintro e w' ⟨rfl, rfl⟩
      rw [HPS.out]
      go_wp2
      go_loopw [3, 5] (fun u i wr => ∃ j m g cap : Nat, j ≤ p - 1 - k ∧ i = .int .i64 ((k + 1 + j : Nat) : Int) ∧ u = .slice (some ⟨g, 0, none⟩) m cap ∧ m = (mergesTo xs p k ++ mrow xs k j).length ∧ OwnM wr w.heap.size wr.heap.size (.slice (some ⟨g, 0, none⟩) m cap) (mergesTo xs p k ++ mrow xs k j) ∧ Below w.heap.size w wr)
        (fun _ i _ => p - (intOf i).toNat)
      case atStart => exact ⟨0, m, g, cap, Nat.zero_le _, by go_num, rfl, by simpa [mrow] using HM.out, by simpa [mrow] using HO.out, hbel⟩
      case round =>
        obtain ⟨j, m2, g2, cap2, hj, rfl, rfl, hm2, hown2, hbel2⟩ := hrel
        have HM2 := Lib.hid hm2
        have HO2 := Lib.hid hown2
        have hml : m2 ≤ 1000 := by
          have := (HBD.out k).1
          rw [hm2, List.length_append, mrow_length]
          omega
        obtain ⟨y, hy⟩ : ∃ y, y = k + 1 + j := ⟨_, rfl⟩
        rw [← hy]
        have HY := Lib.hid hy
        clear hm2 hown2
        have HV2 := Lib.hid (rdv_below HV.out hbel2)
        by_cases hyp : y < p
        · have hj2 : j + 1 ≤ p - 1 - k := by omega
          have hcx2 := cells_below hcx hbel2
          obtain ⟨L, hL⟩ : ∃ L, L = retold xs (k : Int) (y : Int) := ⟨_, rfl⟩
          have hLl : L.length = n := by rw [hL, retold_length, HN.out]
          have HLL := Lib.hid hLl
          have HL := Lib.hid hL
          obtain ⟨wp, hwp⟩ : ∃ wp : World, wp = wr := ⟨_, rfl⟩
          subst hwp
          have hBp := hbel2.size
          clear hy hL hLl
          go_wp2_with fail
          refine (l1Size_v _ xs _ HV2.out HSM.out).mono ?_
          rintro e w' ⟨rfl, rfl⟩
          rw [HPS.out]
          go_wp2
          go_loopw [6, 7] (fun u i wi => ∃ t g3 cap3 : Nat, t ≤ n ∧ i = .int .i64 t ∧ u = .slice (some ⟨g3, 0, none⟩) t cap3 ∧ Own wi wp.heap.size (.slice (some ⟨g3, 0, none⟩) t cap3) (L.take t) ∧ Below wp.heap.size wp wi)
            (fun _ i _ => n - (intOf i).toNat)
          case atStart => exact ⟨0, wp.heap.size, 0, Nat.zero_le _, rfl, rfl, own_empty wp _ (Nat.le_refl _), (Below.refl _ _).alloc (Nat.le_refl _) _⟩
          case round =>
            obtain ⟨t, g3, cap3, ht, rfl, rfl, hob, hbi⟩ := hrel
            have HOB := Lib.hid hob
            have hBi := hbi.size
            clear hob
            by_cases htn : t < n
            · have hct := cells_at (cells_below hcx2 hbi) t (by rw [← HN.out]; exact htn)
              have hrg := retold_getD xs (k : Int) (y : Int) t (by rw [← HN.out]; exact htn)
              rw [← HL.out] at hrg
              have hts := take_snoc L t (by rw [HLL.out]; exact htn)
              obtain ⟨x, hx⟩ : ∃ x, x = xs.getD t 0 := ⟨_, rfl⟩
              rw [← hx] at hct hrg
              have htl : t = (L.take t).length := by rw [List.length_take, HLL.out]; omega
              have HTL := Lib.hid htl
              clear hx htl
              by_cases hxy : x = (y : Int)
              · have hb : (x == (y : Int)) = true := by simpa using hxy
                rw [if_pos hxy] at hrg
                rw [hrg] at hts
                have HTS := Lib.hid hts
                clear hxy hrg hts
                go_wp2_with (at_builtin; refine wpList_push rfl _ _ rfl wp.heap.size g3 t cap3 (L.take t) rfl (own_alloc HOB.out _) HTL.out ⟨wr.heap.size, 0, none⟩ rfl (k : Int) (cell_new1 _ _ _) (by omega) (by simp; omega) ?_)
                intro g4 cap4 w4 hown4 hgr4 hg4
                have hbi4 : Below wp.heap.size wp w4 := (hbi.alloc hBi _).grown hgr4 (by simp; omega) (fun q hq => by cases hq; exact (own_lt HOB.out g3 rfl).1)
                have HO4 := Lib.hid hown4
                clear hown4 hgr4 hg4
                go_wp2
                go_roundw
                case rel => exact ⟨t + 1, g4, cap4, by omega, by go_num, rfl, by rw [HTS.out]; exact HO4.out, hbi4⟩
                case measure => simp [intOf]; omega
              · have hb : (x == (y : Int)) = false := by simpa using hxy
                rw [if_neg hxy] at hrg
                rw [hrg] at hts
                have HTS := Lib.hid hts
                clear hxy hrg hts
                go_wp2_with (at_builtin; refine wpList_push rfl _ _ rfl wp.heap.size g3 t cap3 (L.take t) rfl (own_alloc HOB.out _) HTL.out ⟨wr.heap.size, 0, none⟩ rfl x (cell_new1 _ _ _) (by omega) (by simp; omega) ?_)
                intro g4 cap4 w4 hown4 hgr4 hg4
                have hbi4 : Below wp.heap.size wp w4 := (hbi.alloc hBi _).grown hgr4 (by simp; omega) (fun q hq => by cases hq; exact (own_lt HOB.out g3 rfl).1)
                have HO4 := Lib.hid hown4
                clear hown4 hgr4 hg4
                go_wp2
                go_roundw
                case rel => exact ⟨t + 1, g4, cap4, by omega, by go_num, rfl, by rw [HTS.out]; exact HO4.out, hbi4⟩
                case measure => simp [intOf]; omega
            · have htn : t = n := by omega
              have htk : L.take t = L := List.take_of_length_le (by rw [HLL.out]; omega)
              have HOL : Hid (RdV wr (.slice (some ⟨g3, 0, none⟩) t cap3) L) := by
                have h := own_rdv HOB.out
                rw [htk] at h
                exact Lib.hid h
              have hbel3 := below_step hbel2 hbi
              have hs3 := hbel3.size
              have HOM := Lib.hid (ownM_below HO2.out hbi)
              clear htn htk
              go_wp2_with fail
              refine (l1Kernel_v _ _ _ HOL.out (by rw [HLL.out]; omega)).mono ?_
              rintro e w5 ⟨u, rfl, ho5, hb5⟩
              obtain ⟨gu, cu, rfl⟩ := own_slice' ho5
              have hbel5 := below_step hbel3 hb5
              have hin := inB_of_own ho5
              have HO5 := Lib.hid (own_mono ho5 hs3)
              have HOM5 := Lib.hid (ownM_below HOM.out hb5)
              have hs35 := hb5.size
              clear ho5 hb5
              go_wp2_with (at_builtin; refine wpList_row rfl _ _ rfl w w5 _ rfl wr.heap.size g2 m2 cap2 (mergesTo xs p k ++ mrow xs k j) rfl (ownM_mono HOM5.out (Nat.le_refl _) (by omega)) HM2.out rfl (kOut L) HO5.out hin ⟨hs3, hs35⟩ (by omega) hbel5 ?_)
              intro g6 cap6 w6 hown6 hbel6 hs6
              have HO6 := Lib.hid hown6
              clear hown6
              go_wp2
              go_roundw
              case rel => exact ⟨j + 1, m2 + 1, g6, cap6, hj2, by have := HY.out; congr 1; omega, rfl, by rw [mrow_succ, ← List.append_assoc, List.length_append, ← HM2.out]; rfl, by rw [mrow_succ, ← HY.out, ← HL.out]; first | exact HO6.out | (rw [← List.append_assoc]; exact HO6.out), hbel6⟩
              case measure => simp [intOf]; omega
        · have hj2 : j = p - 1 - k := by omega
          have hyp2 : y = p := by omega
          have HJ2 := Lib.hid hj2
          clear hj2 hy hyp2
          go_wp2_with fail
          refine (l1Size_v _ xs _ HV2.out HSM.out).mono ?_
          rintro e w' ⟨rfl, rfl⟩
          rw [HPS.out]
          go_wp2
          go_roundw
          case rel => exact ⟨k + 1, m2, g2, cap2, by omega, by go_num, rfl, by rw [mergesTo_succ, ← HJ2.out]; exact HM2.out, by rw [mergesTo_succ, ← HJ2.out]; exact HO2.out, hbel2⟩
          case measure => simp [intOf]; omega
    · have hkp : k = p := by omega
      subst hkp
      go_wp2_with fail
      refine (l1Size_v _ xs _ HVk.out HSM.out).mono ?_
      rintro e w' ⟨rfl, rfl⟩
      rw [HPS.out]
      go_wp2
      go_ret
      exact ⟨_, rfl, HO.out, hbel⟩

theorem sFinerMerges_v (v : Value) (xs : List Int) (w : World) (hv : RdV w v xs) : Calls Tryz.prog 92 #[v] w (FreshMB w (finerMerges xs)) := by
  have HV := Lib.hid hv
  clear hv
  by_cases hp : partIn xs = true
  · obtain ⟨p, hps⟩ := Int.eq_ofNat_of_zero_le (pSize_bd (partIn_small hp)).1
    have hr : finerMerges xs = (mergesTo xs p p, true) := by simp [finerMerges, hp, hps]
    rw [hr]
    have HP := Lib.hid hp
    have HPS := Lib.hid hps
    clear hp hr hps
    go_enter Tryz.func92, Tryz.ntmps92
    go_wp2_with fail
    refine (sPartIn_is true _ _ _ HV.out HP).mono ?_
    rintro e w' ⟨rfl, rfl⟩
    go_wp2_with fail
    refine (l2Merges_v _ xs p _ HV.out HP.out HPS.out).mono ?_
    rintro e w1 ⟨u, rfl, ho, hb⟩
    go_wp2
    go_ret2
    exact ⟨_, rfl, ho, hb⟩
  · have hp : partIn xs = false := by simpa using hp
    have hr : finerMerges xs = ([], false) := by simp [finerMerges, hp]
    rw [hr]
    have HP := Lib.hid hp
    clear hp hr
    go_enter Tryz.func92, Tryz.ntmps92
    go_wp2_with fail
    refine (sPartIn_is false _ _ _ HV.out HP).mono ?_
    rintro e w' ⟨rfl, rfl⟩
    go_wp2
    go_ret2
    exact ⟨_, rfl, by simpa using ownM_empty w _ (Nat.le_refl _), (Below.refl _ _).alloc (Nat.le_refl _) _⟩
end

theorem finer_parts {xs ys : List Int} (h : finerIn xs ys = true) : partIn xs = true ∧ partIn ys = true ∧ xs.length = ys.length ∧ finerB xs ys = true ∧ alike xs ys = true := by
  simp only [finerIn, Bool.and_eq_true] at h
  obtain ⟨ha, hf⟩ := h
  obtain ⟨h1, h2, h3⟩ := alike_iff.1 ha
  exact ⟨h1, h2, h3, hf, ha⟩

theorem finer_mk {xs ys : List Int} (h1 : partIn xs = true) (h2 : partIn ys = true) (h3 : xs.length = ys.length) (h4 : ∀ i k, i < xs.length → k < xs.length → xs.getD i 0 = xs.getD k 0 → ys.getD i 0 = ys.getD k 0) : finerIn xs ys = true := by
  simp only [finerIn, Bool.and_eq_true]
  exact ⟨alike_iff.2 ⟨h1, h2, h3⟩, finer_iff.2 h4⟩

theorem kOut_part {xs : List Int} (h : partIn xs = true) : kOut xs = xs := (kOut_of_ok xs (partIn_ok h)).1

theorem mix_eq_iff {xs ys : List Int} (hx : partIn xs = true) (hy : partIn ys = true) (hl : xs.length = ys.length) {i j : Nat} (hi : i < xs.length) (hj : j < xs.length) :
    (mix 8 xs ys).getD i 0 = (mix 8 xs ys).getD j 0 ↔ xs.getD i 0 = xs.getD j 0 ∧ ys.getD i 0 = ys.getD j 0 := by
  rw [mix_getD _ _ _ _ hi, mix_getD _ _ _ _ hj]
  have h1 := partIn_small hx i hi
  have h2 := partIn_small hx j hj
  have h3 := partIn_small hy i (by omega)
  have h4 := partIn_small hy j (by omega)
  omega

theorem join_coarse {xs ys r : List Int} (hg : ∀ i k, i < xs.length → k < xs.length → tog xs ys i k = true → r.getD i 0 = r.getD k 0) {i j : Nat} (hi : i < xs.length) (hj : j < xs.length)
    (e : (joinAll xs ys xs.length xs.length).getD i 0 = (joinAll xs ys xs.length xs.length).getD j 0) : r.getD i 0 = r.getD j 0 := by
  have hgd := join_good xs ys xs.length (fun k => r.getD k 0) hg xs.length
  have h1 := (hgd.2 i hi).2.2
  have h2 := (hgd.2 j hj).2.2
  rw [e] at h1
  exact h1.symm.trans h2

theorem meet_finer {xs ys : List Int} (ha : alike xs ys = true) : finerIn (kOut (mix 8 xs ys)) xs = true ∧ finerIn (kOut (mix 8 xs ys)) ys = true := by
  obtain ⟨hx, hy, hl⟩ := alike_iff.1 ha
  have hlen := partIn_len hx
  have hml : (kOut (mix 8 xs ys)).length = xs.length := by rw [kOut_length, mix_length]
  have hp : partIn (kOut (mix 8 xs ys)) = true := partIn_kOut (by rw [mix_length]; exact hlen.1) (by rw [mix_length]; exact hlen.2)
  have hk : ∀ i k, i < (kOut (mix 8 xs ys)).length → k < (kOut (mix 8 xs ys)).length → (kOut (mix 8 xs ys)).getD i 0 = (kOut (mix 8 xs ys)).getD k 0 → xs.getD i 0 = xs.getD k 0 ∧ ys.getD i 0 = ys.getD k 0 := by
    intro i k hi hk e
    rw [hml] at hi hk
    have := ((kOut_inv (mix 8 xs ys)).2 i k (by rw [mix_length]; exact hi) (by rw [mix_length]; exact hk)).2 e
    exact (mix_eq_iff hx hy hl hi hk).1 this
  exact ⟨finer_mk hp hx hml fun i k hi hk' e => (hk i k hi hk' e).1, finer_mk hp hy (hml.trans hl) fun i k hi hk' e => (hk i k hi hk' e).2⟩

theorem join_finer {xs ys : List Int} (ha : alike xs ys = true) : finerIn xs (kOut (joinAll xs ys xs.length xs.length)) = true ∧ finerIn ys (kOut (joinAll xs ys xs.length xs.length)) = true := by
  obtain ⟨hx, hy, hl⟩ := alike_iff.1 ha
  have hlen := partIn_len hx
  have hjl := joinAll_len xs ys xs.length xs.length
  have hml : (kOut (joinAll xs ys xs.length xs.length)).length = xs.length := by rw [kOut_length, hjl]
  have hp : partIn (kOut (joinAll xs ys xs.length xs.length)) = true := partIn_kOut (by rw [hjl]; exact hlen.1) (by rw [hjl]; exact hlen.2)
  have hk : ∀ i k, i < xs.length → k < xs.length → tog xs ys i k = true → (kOut (joinAll xs ys xs.length xs.length)).getD i 0 = (kOut (joinAll xs ys xs.length xs.length)).getD k 0 := by
    intro i k hi hk ht
    exact ((kOut_inv _).2 i k (by rw [hjl]; exact hi) (by rw [hjl]; exact hk)).1 (join_eq xs ys xs.length hi hk ht)
  exact ⟨finer_mk hx hp hml.symm fun i k hi hk' e => hk i k hi hk' (tog_iff.2 (.inl e)), finer_mk hy hp (by omega) fun i k hi hk' e => hk i k (by omega) (by omega) (tog_iff.2 (.inr e))⟩

theorem merges_len (xs : List Int) (p : Nat) (hp : p ≤ 8) : (mergesTo xs p p).length = p * (p - 1) / 2 := by
  have h : ∀ k, (mergesTo xs p k).length = ((List.range k).map fun x => p - 1 - x).sum := by
    intro k
    induction k with
    | zero => rfl
    | succ k ih =>
      rw [mergesTo_succ, List.length_append, mrow_length, ih, List.range_succ, List.map_append, List.sum_append]
      simp
  rw [h]
  have : ∀ p, p < 9 → ((List.range p).map fun x => p - 1 - x).sum = p * (p - 1) / 2 := by decide
  exact this p (by omega)

theorem merges_each (xs : List Int) (p : Nat) (r : List Int) : ∀ k, r ∈ mergesTo xs p k → ∃ x y : Nat, x < y ∧ y < p ∧ r = kOut (retold xs (x : Int) (y : Int)) := by
  intro k h
  unfold mergesTo mrow at h
  rw [List.mem_flatMap] at h
  obtain ⟨x, hx, h⟩ := h
  rw [List.mem_map] at h
  obtain ⟨i, hi, e⟩ := h
  have : i < p - 1 - x := by simpa using hi
  exact ⟨x, x + 1 + i, by omega, by omega, e.symm⟩

section
open Go.RowKit

def spl : Nat → Int
  | 0 => 0
  | n + 1 => if n = 0 then 0 else 2 * spl n + 1

theorem spl_bd : ∀ n, n < 9 → 0 ≤ spl n ∧ spl n ≤ 127 := by decide +kernel

theorem splits_any (b : Nat) : ∀ (k c : Nat) (w : World), c ≤ k → 1 ≤ c → c ≤ 8 → w.cell? ⟨b, 0, none⟩ = some (.func (.func 267) #[] #[.pointer (some ⟨b, 0, none⟩)]) →
    Calls Tryz.prog 267 #[.int .i64 c, .pointer (some ⟨b, 0, none⟩)] w fun e w' => e = .returned (.int .i64 (spl c)) ∧ w = w' := by
  intro k
  induction k with
  | zero => intro c w h1 h2; omega
  | succ k ih =>
    intro c w hck hc1 hc8 hcell
    by_cases h1 : c = 1
    · subst h1
      go_enter Tryz.func267, Tryz.ntmps267
      go_wp2_with fail
      go_ret
      exact ⟨rfl, rfl⟩
    · obtain ⟨m, hm⟩ : ∃ m, m = c - 1 := ⟨_, rfl⟩
      have hmi : (c : Int) - 1 = (m : Int) := by omega
      have hst : spl c = 2 * spl m + 1 := by
        obtain ⟨d, rfl⟩ : ∃ d, c = d + 1 := ⟨c - 1, by omega⟩
        rw [hm, Nat.add_sub_cancel, spl, if_neg (by omega)]
      have hb := spl_bd m (by omega)
      have hne : ((c : Int) == 1) = false := by simp; omega
      have HST := Lib.hid hst
      have HIH := Lib.hid (ih m w (by omega) (by omega) (by omega) hcell)
      have HMI := Lib.hid hmi
      obtain ⟨x, hx⟩ : ∃ x, x = spl m := ⟨_, rfl⟩
      rw [← hx] at HIH HST hb
      clear ih hm hst hx hmi h1
      go_enter Tryz.func267, Tryz.ntmps267
      go_wp2_with fail
      rw [HMI.out]
      refine (HIH.out).mono ?_
      rintro e w' ⟨rfl, rfl⟩
      go_wp2_with fail
      go_ret
      exact ⟨ret_int HST.out.symm, rfl⟩

def sumOf (f : Nat → Int) (l : List Int) : Int := l.foldl (fun w c => w + f c.toNat) 0
def finerSplits (xs : List Int) : Int × Bool := if partIn xs then (sumOf spl (sizes xs), true) else (0, false)

theorem sumOf_snoc (f : Nat → Int) (l : List Int) (c : Int) : sumOf f (l ++ [c]) = sumOf f l + f c.toNat := by simp [sumOf, List.foldl_append]
theorem sumOf_bd : ∀ l : List Int, (∀ c ∈ l, 0 ≤ c ∧ c ≤ 8) → 0 ≤ sumOf spl l ∧ sumOf spl l ≤ 127 * l.length := by
  refine snoc_induction (fun _ => by simp [sumOf]) fun l c ih h => ?_
  have h1 := ih fun d hd => h d (by simp [hd])
  have h2 := h c (by simp)
  have h3 := spl_bd c.toNat (by omega)
  rw [sumOf_snoc, List.length_append]
  simp
  omega

theorem cntAt_pos (xs : List Int) (b : Nat) : ∀ k i, i < k → xs.getD i 0 = (b : Int) → 1 ≤ cntAt xs b k := by
  intro k
  induction k with
  | zero => intro i hi; omega
  | succ k ih =>
    intro i hi e
    unfold cntAt
    by_cases h : i = k
    · subst h
      rw [if_pos e]
      omega
    · have := ih i (by omega) e
      split <;> omega

theorem sizes_bd {xs : List Int} (h : partIn xs = true) : ∀ c ∈ sizes xs, 1 ≤ c ∧ c ≤ 8 := by
  intro c hc
  obtain ⟨b, hb, rfl⟩ := List.mem_map.1 hc
  have hb2 : b < (pSize xs).toNat := by simpa using hb
  have hm : (b : Int) ∈ xs := (mem_part h _).2 (by omega)
  obtain ⟨i, hi, e⟩ := mem_iff_getD.1 hm
  have h1 := cntAt_pos xs b xs.length i hi e
  have h2 := cntAt_le xs b xs.length
  have h3 := (partIn_len h).2
  omega

set_option maxHeartbeats 1600000 in
theorem iFinerSplits_v (v : Value) (xs : List Int) (w : World) (hv : RdV w v xs) : Calls Tryz.prog 210 #[v] w (GivesIB w (finerSplits xs)) := by
  have HV := Lib.hid hv
  clear hv
  by_cases hp : partIn xs = true
  · have hr : finerSplits xs = (sumOf spl (sizes xs), true) := by simp [finerSplits, hp]
    rw [hr]
    have HP := Lib.hid hp
    have HSM := Lib.hid (partIn_small hp)
    have hbd := pSize_bd HSM.out
    obtain ⟨p, hps⟩ := Int.eq_ofNat_of_zero_le hbd.1
    rw [hps] at hbd
    have HPS := Lib.hid hps
    have hl8 := (partIn_len hp).2
    clear hp hr hps
    have hmf : ∀ (fn : Fn) (first cap : Array Value) (w : World), (Instr.makeFunc fn first cap).run Tryz.prog w = .ok (.func fn first cap) w := fun _ _ _ _ => rfl
    go_enter Tryz.func210, Tryz.ntmps210
    go_wp2_with fail
    refine (iPartIn_is true _ _ _ HV.out HP).mono ?_
    rintro e w' ⟨rfl, rfl⟩
    go_wp2_with fail
    obtain ⟨w0, hw0⟩ : ∃ w0, w0 = w.alloc (.cells #[.func (.func 267) #[] #[.pointer (some ⟨w.heap.size, 0, none⟩)]] 35) := ⟨_, rfl⟩
    have hb0 : Below w.heap.size w w0 := by rw [hw0]; exact (Below.refl _ _).alloc (Nat.le_refl _) _
    have hs0 : w0.heap.size = w.heap.size + 1 := by rw [hw0]; simp
    have hc0 : w0.cell? ⟨w.heap.size, 0, none⟩ = some (.func (.func 267) #[] #[.pointer (some ⟨w.heap.size, 0, none⟩)]) := by rw [hw0]; simp
    rw [← hw0]
    clear hw0
    have HS0 := Lib.hid hs0
    have HC0 := Lib.hid hc0
    clear hs0 hc0
    refine (blocksOf_v _ xs p _ (rdv_below HV.out hb0) HP.out HPS.out).mono ?_
    rintro e w1 ⟨rfl, hu1, hb1⟩
    have hbel := below_step hb0 hb1
    have HC1 := Lib.hid ((hb1.cell (p := ⟨w.heap.size, 0, none⟩) (by rw [HS0.out]; exact Nat.lt_succ_self _)).trans HC0.out)
    have HU := Lib.hid hu1
    clear hb0 hb1 hu1 HC0
    have HSL := Lib.hid (show (sizes xs).length = p by rw [sizes_length]; have := HPS.out; omega)
    have HSB := Lib.hid (sizes_bd HP.out)
    go_wp2
    go_loopw [5, 15] (fun u i wr => ∃ k : Nat, k ≤ p ∧ i = .int .i64 k ∧ u = .int .i64 (sumOf spl ((sizes xs).take k)) ∧ Quiet w1 wr) (fun _ i _ => p - (intOf i).toNat)
    case atStart => exact ⟨0, Nat.zero_le _, rfl, rfl, Quiet.refl _⟩
    case round =>
      obtain ⟨k, hk, rfl, rfl, hq⟩ := hrel
      have hbs := sumOf_bd ((sizes xs).take k) fun c hc => by have := HSB.out c (List.mem_of_mem_take hc); omega
      have hlk : ((sizes xs).take k).length ≤ 8 := by rw [List.length_take]; have := HSL.out; omega
      by_cases hlt : k < p
      · have hml : (masks xs xs.length p).length = p := by simp [masks]
        have hcm := ownU_cell (ownU_below HU.out hq.below) hml.symm k (by omega)
        have hgm : (masks xs xs.length p).getD k 0 = maskAt xs k xs.length := by simp [masks, List.getD, hlt]
        rw [hgm] at hcm
        have hm256 := maskAt_256 xs k xs.length (by omega)
        have hcnt := cnt_mask xs k xs.length (by omega)
        have hts := sizes_take xs p k HPS.out hlt
        rw [← hcnt] at hts
        have hsz := HSB.out (cnt (maskAt xs k xs.length) : Int) (by
          have h2 : (cnt (maskAt xs k xs.length) : Int) ∈ (sizes xs).take (k + 1) := by rw [hts]; simp
          exact List.mem_of_mem_take h2)
        obtain ⟨m, hm⟩ : ∃ m, m = maskAt xs k xs.length := ⟨_, rfl⟩
        rw [← hm] at hcm hm256 hts hsz
        have hfin : sumOf spl ((sizes xs).take (k + 1)) = sumOf spl ((sizes xs).take k) + spl (cnt m) := by rw [hts, sumOf_snoc, Int.toNat_natCast]
        obtain ⟨c, hc⟩ : ∃ c, c = cnt m := ⟨_, rfl⟩
        obtain ⟨x, hx⟩ : ∃ x, x = sumOf spl ((sizes xs).take k) := ⟨_, rfl⟩
        rw [← hc] at hfin hsz
        rw [← hx] at hfin hbs ⊢
        have hspb := spl_bd c (by omega)
        have hcf : wr.cell? ⟨w.heap.size, 0, none⟩ = some (.func (.func 267) #[] #[.pointer (some ⟨w.heap.size, 0, none⟩)]) := by
          obtain ⟨m0, rfl⟩ := hq
          exact HC1.out
        have hsp : ∀ q, Calls Tryz.prog 267 #[.int .i64 c, .pointer (some ⟨w.heap.size, 0, none⟩)] (wr.drewN q) fun e w' => e = .returned (.int .i64 (spl c)) ∧ w' = wr.drewN q := fun q =>
          (splits_any w.heap.size c c (wr.drewN q) (Nat.le_refl _) (by omega) (by omega) hcf).mono fun _ _ ⟨a, b⟩ => ⟨a, b.symm⟩
        have hsi : ∀ q, Calls Tryz.prog 244 #[.int .u64 m] (wr.drewN q) fun e w' => e = .returned (.int .i64 c) ∧ w' = wr.drewN q := fun q => by
          rw [hc]
          exact (size_any m (wr.drewN q) hm256).mono fun _ _ ⟨a, b⟩ => ⟨a, b.symm⟩
        obtain ⟨y, hy⟩ : ∃ y, y = spl c := ⟨_, rfl⟩
        rw [← hy] at hfin hspb hsp
        have HFIN := Lib.hid hfin
        have HSP := Lib.hid hsp
        have HSI := Lib.hid hsi
        have b1 : (k : Int) < p := by omega
        have b2 : IntKind.i64.wrap (x + y) = x + y := IntWalk.i64_in _ (by omega)
        clear hml hgm hcnt hts hm hfin hsp hsi hc hx hy
        go_wp2
        go_quiet (first | (go_at_call 244; exact Calls.quiet_of_same (HSI.out _)) | (go_at_call 267; exact Calls.quiet_of_same (HSP.out _)))
        go_wp2
        go_roundw
        case rel => exact ⟨k + 1, by omega, by go_num, by rw [HFIN.out], hq.drewN _⟩
        case measure => simp [intOf]; omega
      · have hkp : k = p := by omega
        subst hkp
        have he : sumOf spl ((sizes xs).take k) = sumOf spl (sizes xs) := by rw [List.take_of_length_le (by rw [HSL.out]; omega)]
        rw [he]
        clear he hbs
        go_wp2
        go_ret2
        exact ⟨rfl, below_step hbel hq.below⟩
  · have hp : partIn xs = false := by simpa using hp
    have hr : finerSplits xs = (0, false) := by simp [finerSplits, hp]
    rw [hr]
    have HP := Lib.hid hp
    clear hp hr
    go_enter Tryz.func210, Tryz.ntmps210
    go_wp2_with fail
    refine (iPartIn_is false _ _ _ HV.out HP).mono ?_
    rintro e w' ⟨rfl, rfl⟩
    go_wp2
    go_ret2
    exact ⟨rfl, Below.refl _ _⟩

theorem sumOf_cons (f : Nat → Int) (c : Int) (l : List Int) : sumOf f (c :: l) = f c.toNat + sumOf f l := by
  revert l
  refine snoc_induction (by simp [sumOf]) fun l d ih => ?_
  have e : c :: (l ++ [d]) = (c :: l) ++ [d] := rfl
  rw [e, sumOf_snoc, ih, sumOf_snoc]
  omega

theorem sumOf_perm (f : Nat → Int) {l m : List Int} (h : l.Perm m) : sumOf f l = sumOf f m := by
  induction h with
  | nil => rfl
  | cons x _ ih => rw [sumOf_cons, sumOf_cons, ih]
  | swap x y l => rw [sumOf_cons, sumOf_cons, sumOf_cons, sumOf_cons]; omega
  | trans _ _ h1 h2 => exact h1.trans h2

set_option maxHeartbeats 1600000 in
theorem sFinerSplits_v (v : Value) (xs : List Int) (w : World) (hv : RdV w v xs) : Calls Tryz.prog 93 #[v] w (GivesIB w (finerSplits xs)) := by
  have HV := Lib.hid hv
  clear hv
  by_cases hp : partIn xs = true
  · have hr : finerSplits xs = (sumOf spl (desc (sizes xs)), true) := by simp [finerSplits, hp, sumOf_perm spl (desc_perm (sizes xs))]
    rw [hr]
    have HP := Lib.hid hp
    have hbd := pSize_bd (partIn_small hp)
    have hpos := pSize_pos (partIn_small hp) (partIn_len hp).1
    obtain ⟨p, hps⟩ := Int.eq_ofNat_of_zero_le hbd.1
    rw [hps] at hbd hpos
    have hdl : (desc (sizes xs)).length = p := by rw [desc_length, sizes_length]; omega
    have hdb : ∀ c ∈ desc (sizes xs), 1 ≤ c ∧ c ≤ 8 := fun c hc => sizes_bd hp c ((desc_perm (sizes xs)).mem_iff.1 hc)
    obtain ⟨L, hL⟩ : ∃ L, L = desc (sizes xs) := ⟨_, rfl⟩
    rw [← hL] at hdl hdb ⊢
    have HL := Lib.hid hL
    have HDL := Lib.hid hdl
    have HDB := Lib.hid hdb
    clear hp hr hps hdl hdb hL
    go_enter Tryz.func93, Tryz.ntmps93
    go_wp2_with fail
    refine (sPartIn_is true _ _ _ HV.out HP).mono ?_
    rintro e w' ⟨rfl, rfl⟩
    go_wp2_with fail
    refine (l1Type_v _ xs _ HV.out HP.out).mono ?_
    rintro e w1 ⟨u, rfl, ho, hb⟩
    rw [← HL.out] at ho
    obtain ⟨g, cap, rfl, hg⟩ := own_slice ho (by rw [HDL.out]; omega)
    have HO := Lib.hid ho
    rw [HDL.out] at HO ⊢
    clear ho hg
    go_wp2
    go_loop [4, 6] (fun u i => ∃ k : Nat, k ≤ p ∧ i = .int .i64 k ∧ u = .int .i64 (sumOf spl (L.take k))) (fun _ i => p - (intOf i).toNat)
    case atStart => exact ⟨0, Nat.zero_le _, rfl, rfl⟩
    case round =>
      obtain ⟨k, hk, rfl, rfl⟩ := hrel
      have hbs := sumOf_bd (L.take k) fun c hc => by have := HDB.out c (List.mem_of_mem_take hc); omega
      have hlk : (L.take k).length ≤ 8 := by rw [List.length_take]; have := HDL.out; omega
      by_cases hlt : k < p
      · have hck := own_cell HO.out k (by rw [HDL.out]; exact hlt)
        have hcb := HDB.out (L.getD k 0) (mem_of_getD (by rw [HDL.out]; exact hlt) rfl)
        have hfin : sumOf spl (L.take (k + 1)) = sumOf spl (L.take k) + spl (L.getD k 0).toNat := by rw [take_snoc L k (by rw [HDL.out]; exact hlt), sumOf_snoc]
        obtain ⟨c, hc⟩ : ∃ c, c = L.getD k 0 := ⟨_, rfl⟩
        obtain ⟨x, hx⟩ : ∃ x, x = sumOf spl (L.take k) := ⟨_, rfl⟩
        rw [← hc] at hfin hck hcb
        rw [← hx] at hfin hbs ⊢
        have HFIN := Lib.hid hfin
        have hcs : c = 1 ∨ c = 2 ∨ c = 3 ∨ c = 4 ∨ c = 5 ∨ c = 6 ∨ c = 7 ∨ c = 8 := by omega
        clear hc hx hfin hcb
        rcases hcs with rfl | rfl | rfl | rfl | rfl | rfl | rfl | rfl
        all_goals
          go_wp2
          go_round
          case rel => exact ⟨k + 1, by omega, by go_num, by rw [HFIN.out]; congr 1; simp [spl] <;> omega⟩
          case measure => simp [intOf]; omega
      · have hkp : k = p := by omega
        subst hkp
        have he : sumOf spl (L.take k) = sumOf spl L := by rw [List.take_of_length_le (by rw [HDL.out]; omega)]
        rw [he]
        clear he hbs
        go_wp2
        go_ret2
        exact ⟨rfl, hb⟩
  · have hp : partIn xs = false := by simpa using hp
    have hr : finerSplits xs = (0, false) := by simp [finerSplits, hp]
    rw [hr]
    have HP := Lib.hid hp
    clear hp hr
    go_enter Tryz.func93, Tryz.ntmps93
    go_wp2_with fail
    refine (sPartIn_is false _ _ _ HV.out HP).mono ?_
    rintro e w' ⟨rfl, rfl⟩
    go_wp2
    go_ret2
    exact ⟨rfl, Below.refl _ _⟩
end

theorem finerMeet_yes {xs ys : List Int} (h : alike xs ys = true) : finerMeet xs ys = (kOut (mix 8 xs ys), true) := by simp [finerMeet, h]
theorem finerJoin_yes {xs ys : List Int} (h : alike xs ys = true) : finerJoin xs ys = (kOut (joinAll xs ys xs.length xs.length), true) := by simp [finerJoin, h]
theorem finerJoin_no {xs ys : List Int} (h : alike xs ys = false) : finerJoin xs ys = ([], false) := by simp [finerJoin, h]

theorem finerRank_yes {xs : List Int} (h : partIn xs = true) : finerRank xs = ((xs.length : Int) - pSize xs, true) := by simp [finerRank, h]
theorem pSize_end {xs : List Int} (h : partIn xs = true) : pSize xs = endFrom 0 xs := by
  have e := kOut_of_ok xs (partIn_ok h)
  have h2 := pSize_kOut xs
  rw [e.1] at h2
  rw [h2, e.2]

theorem put_part {xs : List Int} {k : Int} (h : partIn xs = true) (hl : xs.length ≠ 8) (h0 : 0 ≤ k) (h1 : k ≤ pSize xs) : partIn (xs ++ [k]) = true := by
  have hlen := partIn_len h
  have ha := okFrom_append xs 0 k
  have ho := partIn_ok h
  rw [pSize_end h] at h1
  unfold partIn
  rw [ha.1, ho]
  simp [h0, h1]
  omega

theorem kNext_snoc (f : List Int) (x : Int) : kNext (f ++ [x]) = kNext f + if x ∈ f then 0 else 1 := by
  by_cases h : x ∈ f
  · rw [(kOut_mem h).2, if_pos h]; omega
  · rw [(kOut_new h).2, if_neg h]

theorem pSize_le' {xs : List Int} (hx : partIn xs = true) : pSize xs ≤ xs.length := by
  have e := kOut_part hx
  have h1 := pSize_kOut xs
  rw [e] at h1
  have := (kNext_bd xs).2
  omega

theorem mem_upto {xs : List Int} {k : Nat} (hk : k ≤ xs.length) (x : Int) : x ∈ xs.take k ↔ ∃ i, i < k ∧ xs.getD i 0 = x := by
  constructor
  · intro h
    obtain ⟨i, hi, e⟩ := List.getElem_of_mem h
    have h1 : i < k := by simp at hi; omega
    refine ⟨i, h1, ?_⟩
    rw [List.getElem_take] at e
    simp [List.getD, List.getElem?_eq_getElem (show i < xs.length by omega), e]
  · rintro ⟨i, hi, rfl⟩
    refine mem_of_getD (f := xs.take k) (j := i) (by simp; omega) ?_
    simp [List.getD, List.getElem?_take, hi]

theorem kNext_upto {xs : List Int} {k : Nat} (hk : k < xs.length) : kNext (xs.take (k + 1)) = kNext (xs.take k) + if xs.getD k 0 ∈ xs.take k then 0 else 1 := by
  rw [take_snoc xs k hk, kNext_snoc]

theorem kNext_coarse {p q : List Int} (hl : q.length = p.length) (h : ∀ i j, i < p.length → j < p.length → p.getD i 0 = p.getD j 0 → q.getD i 0 = q.getD j 0) : kNext q ≤ kNext p := by
  have key : ∀ k, k ≤ p.length → kNext (q.take k) ≤ kNext (p.take k) := by
    intro k
    induction k with
    | zero => intro _; simp
    | succ k ih =>
      intro hk
      have ih := ih (by omega)
      rw [kNext_upto (by omega), kNext_upto (xs := p) (by omega)]
      by_cases m : p.getD k 0 ∈ p.take k
      · obtain ⟨i, hi, e⟩ := (mem_upto (by omega) _).1 m
        have m2 : q.getD k 0 ∈ q.take k := (mem_upto (by omega) _).2 ⟨i, hi, h i k (by omega) (by omega) e⟩
        rw [if_pos m, if_pos m2]
        omega
      · rw [if_neg m]
        split <;> omega
  have := key p.length (Nat.le_refl _)
  rwa [List.take_of_length_le (by omega), List.take_of_length_le (Nat.le_refl _)] at this

def told (u v t : Int) : Int := if t = v then u else t

theorem kNext_told {u v : Int} (huv : u ≠ v) : ∀ r : List Int, kNext r ≤ kNext (r.map (told u v)) + if v ∈ r ∧ u ∈ r then 1 else 0 := by
  refine snoc_induction (by simp) fun r t ih => ?_
  rw [List.map_append, List.map_singleton, kNext_snoc, kNext_snoc]
  have hm : ∀ t, t ≠ v → t ≠ u → (told u v t ∈ r.map (told u v) ↔ t ∈ r) := by
    intro t h1 h2
    rw [List.mem_map]
    constructor
    · rintro ⟨s, hs, e⟩
      unfold told at e
      rw [if_neg h1] at e
      split at e
      · exact absurd e.symm h2
      · rwa [e] at hs
    · exact fun h => ⟨t, h, rfl⟩
  have hu : ∀ t, t = u ∨ t = v → (told u v t ∈ r.map (told u v) ↔ u ∈ r ∨ v ∈ r) := by
    intro t ht
    have e0 : told u v t = u := by
      unfold told
      rcases ht with h | h
      · rw [h, if_neg huv]
      · rw [if_pos h]
    rw [e0, List.mem_map]
    constructor
    · rintro ⟨s, hs, e⟩
      unfold told at e
      split at e
      · rename_i h; rw [h] at hs; exact .inr hs
      · rw [e] at hs; exact .inl hs
    · rintro (h | h)
      · exact ⟨u, h, by unfold told; rw [if_neg huv]⟩
      · exact ⟨v, h, by unfold told; rw [if_pos rfl]⟩
  simp only [List.mem_append, List.mem_singleton]
  by_cases h1 : t = v
  · subst h1
    have e1 := hu t (.inr rfl)
    by_cases a : t ∈ r <;> by_cases b : u ∈ r <;> simp only [e1, a, b, true_or, or_true, or_false, false_or, true_and, and_true, and_false, false_and, if_true, if_false, huv] at ih ⊢ <;> omega
  · by_cases h2 : t = u
    · subst h2
      have e1 := hu t (.inl rfl)
      have h1' : ¬ v = t := fun e => h1 e.symm
      by_cases a : v ∈ r <;> by_cases b : t ∈ r <;> simp only [e1, a, b, h1', true_or, or_true, or_false, false_or, true_and, and_true, and_false, false_and, if_true, if_false] at ih ⊢ <;> omega
    · have e1 := hm t h1 h2
      have h1' : ¬ v = t := fun e => h1 e.symm
      have h2' : ¬ u = t := fun e => h2 e.symm
      simp only [e1, h1', h2', or_false]
      omega

theorem fresh : ∀ r : List Int, ∃ w : Int, ∀ t ∈ r, t < w
  | [] => ⟨0, fun t h => by cases h⟩
  | a :: r => by
    obtain ⟨w, h⟩ := fresh r
    refine ⟨max (a + 1) w, fun t ht => ?_⟩
    rcases List.mem_cons.1 ht with rfl | ht
    · omega
    · have := h t ht; omega

def Keeps (xs ys r : List Int) (k : Nat) : Prop := ∀ i j, i < k → j < k → xs.getD i 0 = xs.getD j 0 ∨ ys.getD i 0 = ys.getD j 0 → r.getD i 0 = r.getD j 0

theorem keeps_snoc {xs ys r : List Int} {k : Nat} (hr : r.length = k) (h : Keeps xs ys r k) (w : Int) (hw : ∀ i, i < k → xs.getD i 0 = xs.getD k 0 ∨ ys.getD i 0 = ys.getD k 0 → r.getD i 0 = w) : Keeps xs ys (r ++ [w]) (k + 1) := by
  have A : ∀ i, i < k → (r ++ [w]).getD i 0 = r.getD i 0 := fun i hi => getD_snoc_lt r w i (by omega)
  have L : (r ++ [w]).getD k 0 = w := by rw [← hr]; exact getD_snoc_eq r w
  intro i j hi hj e
  by_cases h1 : i < k <;> by_cases h2 : j < k
  · rw [A i h1, A j h2]; exact h i j h1 h2 e
  · obtain rfl : j = k := by omega
    rw [A i h1, L]; exact hw i h1 e
  · obtain rfl : i = k := by omega
    rw [A j h2, L]; exact (hw j h2 (e.imp Eq.symm Eq.symm)).symm
  · obtain rfl : i = k := by omega
    obtain rfl : j = i := by omega
    rfl

theorem map_at {f : Int → Int} {r : List Int} {i : Nat} (h : i < r.length) : (r.map f).getD i 0 = f (r.getD i 0) := by
  simp [List.getD, List.getElem?_eq_getElem h]

theorem forest {xs ys zs : List Int} (hy : ys.length = xs.length) (hz : zs.length = xs.length)
    (h : ∀ i j, i < xs.length → j < xs.length → (zs.getD i 0 = zs.getD j 0 ↔ xs.getD i 0 = xs.getD j 0 ∧ ys.getD i 0 = ys.getD j 0)) :
    ∀ k, k ≤ xs.length → ∃ r : List Int, r.length = k ∧ Keeps xs ys r k ∧ kNext (xs.take k) + kNext (ys.take k) ≤ kNext (zs.take k) + kNext r := by
  intro k
  induction k with
  | zero => exact fun _ => ⟨[], rfl, fun i j hi => by omega, by simp⟩
  | succ k ih =>
    intro hk
    obtain ⟨r, hr, hg, hle⟩ := ih (by omega)
    rw [kNext_upto (xs := xs) (by omega), kNext_upto (xs := ys) (by omega), kNext_upto (xs := zs) (by omega)]
    have hzx : zs.getD k 0 ∈ zs.take k → ∃ c, c < k ∧ xs.getD c 0 = xs.getD k 0 ∧ ys.getD c 0 = ys.getD k 0 := by
      intro m
      obtain ⟨c, hc, e⟩ := (mem_upto (by omega) _).1 m
      exact ⟨c, hc, (h c k (by omega) (by omega)).1 e⟩
    have hgrow : ∀ w, kNext r ≤ kNext (r ++ [w]) := fun w => by rw [kNext_snoc]; split <;> omega
    by_cases mx : xs.getD k 0 ∈ xs.take k
    · obtain ⟨a, ha, ea⟩ := (mem_upto (by omega) _).1 mx
      rw [if_pos mx]
      by_cases my : ys.getD k 0 ∈ ys.take k
      · obtain ⟨b, hb, eb⟩ := (mem_upto (by omega) _).1 my
        rw [if_pos my]
        by_cases huv : r.getD a 0 = r.getD b 0
        · refine ⟨r ++ [r.getD a 0], by simp [hr], keeps_snoc hr hg _ fun i hi e => ?_, ?_⟩
          · rcases e with e | e
            · exact hg i a hi ha (.inl (e.trans ea.symm))
            · rw [huv]; exact hg i b hi hb (.inr (e.trans eb.symm))
          · have := hgrow (r.getD a 0)
            split <;> omega
        · have mz : zs.getD k 0 ∉ zs.take k := by
            intro m
            obtain ⟨c, hc, e1, e2⟩ := hzx m
            exact huv ((hg a c ha hc (.inl (ea.trans e1.symm))).trans (hg c b hc hb (.inr (e2.trans eb.symm))))
          rw [if_neg mz]
          have ht := kNext_told huv r
          have hs : kNext (r.map (told (r.getD a 0) (r.getD b 0))) ≤ kNext (r.map (told (r.getD a 0) (r.getD b 0)) ++ [r.getD a 0]) := by rw [kNext_snoc]; split <;> omega
          have tu : told (r.getD a 0) (r.getD b 0) (r.getD a 0) = r.getD a 0 := by unfold told; rw [if_neg huv]
          have tv : told (r.getD a 0) (r.getD b 0) (r.getD b 0) = r.getD a 0 := by unfold told; rw [if_pos rfl]
          refine ⟨r.map (told (r.getD a 0) (r.getD b 0)) ++ [r.getD a 0], by simp [hr], keeps_snoc (by simp [hr]) (fun i j hi hj e => ?_) _ fun i hi e => ?_, ?_⟩
          · rw [map_at (by omega), map_at (by omega), hg i j hi hj e]
          · rw [map_at (by omega)]
            rcases e with e | e
            · rw [hg i a hi ha (.inl (e.trans ea.symm)), tu]
            · rw [hg i b hi hb (.inr (e.trans eb.symm)), tv]
          · split at ht <;> omega
      · rw [if_neg my]
        have mz : zs.getD k 0 ∉ zs.take k := by
          intro m
          obtain ⟨c, hc, e1, e2⟩ := hzx m
          exact my ((mem_upto (by omega) _).2 ⟨c, hc, e2⟩)
        rw [if_neg mz]
        refine ⟨r ++ [r.getD a 0], by simp [hr], keeps_snoc hr hg _ fun i hi e => ?_, ?_⟩
        · rcases e with e | e
          · exact hg i a hi ha (.inl (e.trans ea.symm))
          · exact absurd ((mem_upto (by omega) _).2 ⟨i, hi, e⟩) my
        · have := hgrow (r.getD a 0)
          omega
    · rw [if_neg mx]
      have mz : zs.getD k 0 ∉ zs.take k := by
        intro m
        obtain ⟨c, hc, e1, e2⟩ := hzx m
        exact mx ((mem_upto (by omega) _).2 ⟨c, hc, e1⟩)
      rw [if_neg mz]
      by_cases my : ys.getD k 0 ∈ ys.take k
      · obtain ⟨b, hb, eb⟩ := (mem_upto (by omega) _).1 my
        rw [if_pos my]
        refine ⟨r ++ [r.getD b 0], by simp [hr], keeps_snoc hr hg _ fun i hi e => ?_, ?_⟩
        · rcases e with e | e
          · exact absurd ((mem_upto (by omega) _).2 ⟨i, hi, e⟩) mx
          · exact hg i b hi hb (.inr (e.trans eb.symm))
        · have := hgrow (r.getD b 0)
          omega
      · rw [if_neg my]
        obtain ⟨w, hw⟩ := fresh r
        have hn : w ∉ r := fun m => by have := hw w m; omega
        refine ⟨r ++ [w], by simp [hr], keeps_snoc hr hg _ fun i hi e => ?_, ?_⟩
        · rcases e with e | e
          · exact absurd ((mem_upto (by omega) _).2 ⟨i, hi, e⟩) mx
          · exact absurd ((mem_upto (by omega) _).2 ⟨i, hi, e⟩) my
        · rw [kNext_snoc, if_neg hn]
          omega

theorem kNext_part {xs : List Int} (hx : partIn xs = true) : pSize xs = kNext xs := by
  have := pSize_kOut xs
  rw [kOut_part hx] at this
  exact this

theorem ranks_facts {xs ys : List Int} (ha : alike xs ys = true) : ∃ rm rj ra rb : Int,
    finerRank (kOut (mix 8 xs ys)) = (rm, true) ∧ finerRank (kOut (joinAll xs ys xs.length xs.length)) = (rj, true) ∧ finerRank xs = (ra, true) ∧ finerRank ys = (rb, true) ∧
    rm + rj ≤ ra + rb ∧ (0 ≤ rm ∧ rm ≤ 8) ∧ (0 ≤ rj ∧ rj ≤ 8) ∧ (0 ≤ ra ∧ ra ≤ 8) ∧ (0 ≤ rb ∧ rb ≤ 8) := by
  obtain ⟨hx, hy, hl⟩ := alike_iff.1 ha
  have hm := (finer_parts (meet_finer ha).1).1
  have hj := (finer_parts (join_finer ha).1).2.1
  have hml : (kOut (mix 8 xs ys)).length = xs.length := by rw [kOut_length, mix_length]
  have hjl : (kOut (joinAll xs ys xs.length xs.length)).length = xs.length := by rw [kOut_length, joinAll_len]
  have hb := partIn_len hx
  obtain ⟨r, hr, hg, hle⟩ := forest (zs := mix 8 xs ys) hl.symm (mix_length _ _ _) (fun i j hi hj => mix_eq_iff hx hy hl hi hj) xs.length (Nat.le_refl _)
  rw [List.take_of_length_le (Nat.le_refl _), List.take_of_length_le (by omega), List.take_of_length_le (by rw [mix_length]; exact Nat.le_refl _)] at hle
  have hc : kNext r ≤ kNext (joinAll xs ys xs.length xs.length) := kNext_coarse (by rw [joinAll_len, hr]) fun i j hi hj e => by
    rw [joinAll_len] at hi hj
    exact join_coarse (fun i k hi hk ht => hg i k hi hk (tog_iff.1 ht)) hi hj e
  have p1 := pSize_le' hm
  have p2 := pSize_le' hj
  have p3 := pSize_le' hx
  have p4 := pSize_le' hy
  have q1 := pSize_bd (partIn_small hm)
  have q2 := pSize_bd (partIn_small hj)
  have q3 := pSize_bd (partIn_small hx)
  have q4 := pSize_bd (partIn_small hy)
  refine ⟨_, _, _, _, finerRank_yes hm, finerRank_yes hj, finerRank_yes hx, finerRank_yes hy, ?_, ?_, ?_, ?_, ?_⟩
  · rw [pSize_kOut, pSize_kOut, kNext_part hx, kNext_part hy, hml, hjl]
    omega
  all_goals omega

section
open Go.RowKit

def viewPath (xs ys : List Int) : Int × Bool := if alike xs ys then (pSize xs + pSize ys - 2 * pSize (kOut (joinAll xs ys xs.length xs.length)), true) else (0, false)

theorem path_sizes {xs ys : List Int} (ha : alike xs ys = true) : pSize xs + pSize ys ≤ pSize (kOut (mix 8 xs ys)) + pSize (kOut (joinAll xs ys xs.length xs.length)) := by
  obtain ⟨hx, hy, hl⟩ := alike_iff.1 ha
  have hm := (finer_parts (meet_finer ha).1).1
  have hj := (finer_parts (join_finer ha).1).2.1
  have hml : (kOut (mix 8 xs ys)).length = xs.length := by rw [kOut_length, mix_length]
  have hjl : (kOut (joinAll xs ys xs.length xs.length)).length = xs.length := by rw [kOut_length, joinAll_len]
  obtain ⟨rm, rj, ra, rb, e1, e2, e3, e4, hle, _⟩ := ranks_facts ha
  rw [finerRank_yes hm] at e1
  rw [finerRank_yes hj] at e2
  rw [finerRank_yes hx] at e3
  rw [finerRank_yes hy] at e4
  injection e1 with e1
  injection e2 with e2
  injection e3 with e3
  injection e4 with e4
  omega

set_option maxHeartbeats 1600000 in
theorem iViewPath_v (v u : Value) (xs ys : List Int) (w : World) (hv : RdV w v xs) (hu : RdV w u ys) :
    Calls Tryz.prog 194 #[v, u] w (GivesIB w (viewPath xs ys)) := by
  have HV := Lib.hid hv
  have HU := Lib.hid hu
  clear hv hu
  have hJ := iFinerJoin_v v u xs ys w HV.out HU.out
  cases ha : alike xs ys
  · have hr : viewPath xs ys = (0, false) := by rw [viewPath, ha]; rfl
    rw [finerJoin_no ha] at hJ
    have HJ := Lib.hid hJ
    rw [hr]
    clear ha hr hJ
    go_enter Tryz.func194, Tryz.ntmps194
    go_wp2_with fail
    refine HJ.out.mono ?_
    rintro e w1 ⟨vj, rfl, o, hb⟩
    have HB := Lib.hid hb
    clear hb HJ o
    go_wp2
    go_ret2
    exact ⟨rfl, HB.out⟩
  · obtain ⟨hx, hy, hl⟩ := alike_iff.1 ha
    have hj := (finer_parts (join_finer ha).1).2.1
    have hr : viewPath xs ys = (pSize xs + pSize ys - 2 * pSize (kOut (joinAll xs ys xs.length xs.length)), true) := by rw [viewPath, ha]; rfl
    rw [finerJoin_yes ha] at hJ
    rw [hr]
    obtain ⟨js, hjs⟩ : ∃ js, js = kOut (joinAll xs ys xs.length xs.length) := ⟨_, rfl⟩
    rw [← hjs] at hj hJ ⊢
    have HJ := Lib.hid hJ
    have b1 := pSize_bd (partIn_small hx)
    have b2 := pSize_bd (partIn_small hy)
    have b3 := pSize_bd (partIn_small hj)
    have PX := Lib.hid hx
    have PY := Lib.hid hy
    have PJ := Lib.hid hj
    obtain ⟨a, hae⟩ : ∃ a, a = pSize xs := ⟨_, rfl⟩
    obtain ⟨b, hbe⟩ : ∃ b, b = pSize ys := ⟨_, rfl⟩
    obtain ⟨j, hje⟩ : ∃ j, j = pSize js := ⟨_, rfl⟩
    rw [← hae] at b1 ⊢
    rw [← hbe] at b2 ⊢
    rw [← hje] at b3 ⊢
    have HAE := Lib.hid hae
    have HBE := Lib.hid hbe
    have HJE := Lib.hid hje
    clear ha hr hJ hx hy hl hj hjs hae hbe hje
    go_enter Tryz.func194, Tryz.ntmps194
    go_wp2_with fail
    refine HJ.out.mono ?_
    rintro e w1 ⟨vj, rfl, o, hb⟩
    have HB := Lib.hid hb
    have HVJ := Lib.hid (own_rdv o)
    clear hb HJ o
    go_wp2_with fail
    refine (blockCount_p _ xs _ (rdv_below HV.out HB.out) PX).mono ?_
    rintro e w' ⟨rfl, rfl⟩
    rw [← HAE.out]
    go_wp2_with fail
    refine (blockCount_p _ js _ HVJ.out PJ).mono ?_
    rintro e w' ⟨rfl, rfl⟩
    rw [← HJE.out]
    go_wp2_with fail
    refine (blockCount_p _ ys _ (rdv_below HU.out HB.out) PY).mono ?_
    rintro e w' ⟨rfl, rfl⟩
    rw [← HBE.out]
    go_wp2_with fail
    refine (blockCount_p _ js _ HVJ.out PJ).mono ?_
    rintro e w' ⟨rfl, rfl⟩
    rw [← HJE.out]
    go_wp2
    go_ret2
    exact ⟨ret_ib (by omega), HB.out⟩

set_option maxHeartbeats 1600000 in
theorem sViewPath_v (v u : Value) (xs ys : List Int) (w : World) (hv : RdV w v xs) (hu : RdV w u ys) :
    Calls Tryz.prog 105 #[v, u] w (GivesIB w (viewPath xs ys)) := by
  have HV := Lib.hid hv
  have HU := Lib.hid hu
  clear hv hu
  cases ha : alike xs ys
  · have hr : viewPath xs ys = (0, false) := by rw [viewPath, ha]; rfl
    have HA := Lib.hid ha
    rw [hr]
    clear ha hr
    go_enter Tryz.func105, Tryz.ntmps105
    go_wp2_with fail
    refine (l2Two_is false _ _ _ _ _ HV.out HU.out HA).mono ?_
    rintro e w' ⟨rfl, rfl⟩
    go_wp2
    go_ret2
    exact ⟨rfl, Below.refl _ _⟩
  · obtain ⟨hx, hy, hl⟩ := alike_iff.1 ha
    have hm := (finer_parts (meet_finer ha).1).1
    have hj := (finer_parts (join_finer ha).1).2.1
    have hle := path_sizes ha
    have hr : viewPath xs ys = (pSize xs + pSize ys - 2 * pSize (kOut (joinAll xs ys xs.length xs.length)), true) := by rw [viewPath, ha]; rfl
    have hJ : ∀ wx, RdV wx v xs → RdV wx u ys → Calls Tryz.prog 83 #[v, u] wx (FreshLB wx (kOut (joinAll xs ys xs.length xs.length), true)) := fun wx k1 k2 => by
      have := sFinerJoin_v v u xs ys wx k1 k2
      rw [finerJoin_yes ha] at this
      exact this
    have hM : Calls Tryz.prog 82 #[v, u] w (FreshLB w (kOut (mix 8 xs ys), true)) := by
      have := sFinerMeet_v v u xs ys w HV.out HU.out
      rw [finerMeet_yes ha] at this
      exact this
    rw [hr]
    obtain ⟨js, hjs⟩ : ∃ js, js = kOut (joinAll xs ys xs.length xs.length) := ⟨_, rfl⟩
    obtain ⟨ms, hms⟩ : ∃ ms, ms = kOut (mix 8 xs ys) := ⟨_, rfl⟩
    rw [← hjs] at hj hJ hle ⊢
    rw [← hms] at hm hM hle
    have HA := Lib.hid ha
    have HJ := Lib.hid hJ
    have HM := Lib.hid hM
    have b1 := pSize_bd (partIn_small hx)
    have b2 := pSize_bd (partIn_small hy)
    have b3 := pSize_bd (partIn_small hj)
    have b4 := pSize_bd (partIn_small hm)
    have PX := Lib.hid hx
    have PY := Lib.hid hy
    have PJ := Lib.hid hj
    have PM := Lib.hid hm
    obtain ⟨a, hae⟩ : ∃ a, a = pSize xs := ⟨_, rfl⟩
    obtain ⟨b, hbe⟩ : ∃ b, b = pSize ys := ⟨_, rfl⟩
    obtain ⟨j, hje⟩ : ∃ j, j = pSize js := ⟨_, rfl⟩
    obtain ⟨m, hme⟩ : ∃ m, m = pSize ms := ⟨_, rfl⟩
    rw [← hae] at b1 hle ⊢
    rw [← hbe] at b2 hle ⊢
    rw [← hje] at b3 hle ⊢
    rw [← hme] at b4 hle
    have HAE := Lib.hid hae
    have HBE := Lib.hid hbe
    have HJE := Lib.hid hje
    have HME := Lib.hid hme
    have hmin : min (a + b - 2 * j) (2 * m - a - b) = a + b - 2 * j := by omega
    have HMIN := Lib.hid hmin
    clear ha hr hJ hM hx hy hl hj hm hjs hms hae hbe hje hme hmin
    go_enter Tryz.func105, Tryz.ntmps105
    go_wp2_with fail
    refine (l2Two_is true _ _ _ _ _ HV.out HU.out HA).mono ?_
    rintro e w' ⟨rfl, rfl⟩
    go_wp2_with fail
    refine HM.out.mono ?_
    rintro e w1 ⟨vm, rfl, om, hb⟩
    have HB1 := Lib.hid hb
    have OM := Lib.hid om
    clear hb HM om
    go_wp2_with fail
    refine (HJ.out _ (rdv_below HV.out HB1.out) (rdv_below HU.out HB1.out)).mono ?_
    rintro e w2 ⟨vj, rfl, oj, hb⟩
    have HVM := Lib.hid (own_rdv (own_below OM.out hb))
    have HB := Lib.hid (below_step HB1.out hb)
    have HVJ := Lib.hid (own_rdv oj)
    clear hb HJ oj OM HB1
    go_wp2_with fail
    refine (l1Size_p _ ms _ HVM.out PM).mono ?_
    rintro e w' ⟨rfl, rfl⟩
    rw [← HME.out]
    go_wp2_with fail
    refine (l1Size_p _ xs _ (rdv_below HV.out HB.out) PX).mono ?_
    rintro e w' ⟨rfl, rfl⟩
    rw [← HAE.out]
    go_wp2_with fail
    refine (l1Size_p _ ys _ (rdv_below HU.out HB.out) PY).mono ?_
    rintro e w' ⟨rfl, rfl⟩
    rw [← HBE.out]
    go_wp2_with fail
    refine (l1Size_p _ xs _ (rdv_below HV.out HB.out) PX).mono ?_
    rintro e w' ⟨rfl, rfl⟩
    rw [← HAE.out]
    go_wp2_with fail
    refine (l1Size_p _ ys _ (rdv_below HU.out HB.out) PY).mono ?_
    rintro e w' ⟨rfl, rfl⟩
    rw [← HBE.out]
    go_wp2_with fail
    refine (l1Size_p _ js _ HVJ.out PJ).mono ?_
    rintro e w' ⟨rfl, rfl⟩
    rw [← HJE.out]
    go_wp2
    go_ret2
    exact ⟨ret_ib (by omega), HB.out⟩
end

section
open Go.RowKit

def tz (b : Nat) : Nat := ((List.range 8).find? fun t => b.testBit t).getD 64

def tzTab : List Int := [0, 1, 56, 2, 57, 49, 28, 3, 61, 58, 42, 50, 38, 29, 17, 4, 62, 47, 59, 36, 45, 43, 51, 22, 53, 39, 33, 30, 24, 18, 12, 5, 63, 55, 48, 27, 60, 41, 37, 16, 46, 35, 44, 21, 52, 32, 23, 11, 54, 26, 40, 15, 34, 20, 31, 10, 25, 14, 19, 9, 13, 8, 7, 6]

def Tab (w : World) : Prop := 5 + 1 ≤ w.heap.size ∧ ∀ j, j < 64 → w.cell? ⟨5, j, none⟩ = some (.int .u8 (tzTab.getD j 0))

theorem tab_below {w w' : World} (h : Tab w) (hb : Below w.heap.size w w') : Tab w' :=
  ⟨Nat.le_trans h.1 hb.size, fun j hj => by rw [hb.cell (World.block_lt_of_cell? w _ (h.2 j hj))]; exact h.2 j hj⟩

def tzAt (b : Nat) : Nat := (IntKind.u64.wrap (bits BinOp.and IntKind.u64 (b : Int) (IntKind.u64.wrap (-(b : Int))) * 285870213051353865) / 288230376151711744).toNat

theorem tz_fact : ∀ b, b < 256 → 0 < b → tzAt b < 64 ∧ tzTab.getD (tzAt b) 0 = (tz b : Int) ∧ tz b < 8 ∧ IntKind.u64.wrap (bits BinOp.and IntKind.u64 (b : Int) (IntKind.u64.wrap (-(b : Int))) * 285870213051353865) / 288230376151711744 = (tzAt b : Int) := by decide +kernel

set_option maxHeartbeats 800000 in
theorem tz64_any (b : Nat) (w : World) (hT : Tab w) (hb : b < 256) (h0 : 0 < b) : Calls Tryz.prog 273 #[.int .u64 b] w fun e w' => e = .returned (.int .i64 (tz b)) ∧ w = w' := by
  obtain ⟨h1, h2, h3, h4⟩ := tz_fact b hb h0
  have hc := hT.2 _ h1
  rw [h2] at hc
  have hz : ((b : Int) == 0) = false := by simp; omega
  obtain ⟨i, hi⟩ : ∃ i, i = tzAt b := ⟨_, rfl⟩
  obtain ⟨r, hr⟩ : ∃ r, r = tz b := ⟨_, rfl⟩
  rw [← hi] at hc h1 h4
  rw [← hr] at hc h3 ⊢
  have hi64 : (i : Int) < 64 := by omega
  clear h2 hi hr
  go_enter Tryz.func273, Tryz.ntmps273
  go_wp2
  go_ret
  exact ⟨rfl, rfl⟩

theorem tz_any (b : Nat) (w : World) (hT : Tab w) (hb : b < 256) (h0 : 0 < b) : Calls Tryz.prog 222 #[.int .u64 b] w fun e w' => e = .returned (.int .i64 (tz b)) ∧ w = w' := by
  go_enter Tryz.func222, Tryz.ntmps222
  go_wp2_with fail
  refine (tz64_any b _ hT hb h0).mono ?_
  rintro e w' ⟨rfl, rfl⟩
  go_wp2
  go_ret
  exact ⟨rfl, rfl⟩
end

section
open Go.RowKit Go.Shelf

attribute [local go_sem] Oper.semAt_some

def bitsL (b : Nat) : List Int := ((List.range 8).filter fun t => b.testBit t).map fun (t : Nat) => (t : Int)

theorem bits_step : ∀ r, r < 256 → 0 < r → bitsL r = (tz r : Int) :: bitsL (r &&& (r - 1)) ∧ bits BinOp.and IntKind.u64 (r : Int) ((r : Int) - 1) = ((r &&& (r - 1) : Nat) : Int) ∧ (r &&& (r - 1)) < r := by decide +kernel
theorem bits_len : ∀ b, b < 256 → (bitsL b).length = cnt b ∧ cnt b ≤ 8 := by decide +kernel

theorem tab_belowN {n₀ : Nat} {w w' : World} (h : Tab w) (hn : 5 + 1 ≤ n₀) (hb : Below n₀ w w') : Tab w' :=
  ⟨Nat.le_trans h.1 hb.size, fun j hj => (hb.cell (p := ⟨5, j, none⟩) (by simp; omega)).trans (h.2 j hj)⟩

set_option maxHeartbeats 1600000 in
theorem things1_in (n : Nat) (hn : 1 ≤ n) (l Bn n₀ b : Nat) (hb : b < 256) (hn₀ : 5 + 1 ≤ n₀) (J Jx : List Int → World → Prop)
    (hY : ∀ pre x W, J pre W → pre.length < (bitsL b).length → YieldAt Fence.wide (n - 1) Tryz.prog l #[.int .i64 x] W fun e W' =>
      (e = .returned (.bool true) ∧ J (pre ++ [x]) W' ∧ Below n₀ W W') ∨ (e = .returned (.bool false) ∧ Jx (pre ++ [x]) W'))
    (W : World) (hT : Tab W) (hBn : W.cell? ⟨Bn, 0, none⟩ = some (.int .u64 b)) (h0 : J [] W) :
    CallsIn Fence.wide n Tryz.prog 303 #[.func (.yield l) #[] #[], .pointer (some ⟨Bn, 0, none⟩)] W fun e W' => (∃ v, e = .returned v) ∧
      ((∃ ys, ys = bitsL b ∧ J ys W') ∨ (∃ pre, pre <+: bitsL b ∧ Jx pre W')) := by
  refine callsIn_of_wp Tryz.func303 rfl trivial ?_ rfl
  simp only [Tryz.ntmps303, List.size_toArray, List.length_cons, List.length_nil, Nat.reduceAdd, Nat.reduceSub, Array.replicate_succ, Array.replicate_zero, List.push_toArray, List.append_toArray, List.nil_append, List.cons_append]
  gi_wp2
  gi_loopw [3] (fun p wr => ∃ (pre : List Int) (r : Nat), p = .int .u64 r ∧ r < 256 ∧ bitsL b = pre ++ bitsL r ∧ Tab wr ∧ J pre wr)
    (fun p wr => (intOf p).toNat)
  case atStart => exact ⟨[], b, rfl, hb, rfl, hT, h0⟩
  case round =>
    obtain ⟨pre, r, rfl, hr, hx, hTr, hJs⟩ := hrel
    by_cases hr0 : r = 0
    · subst hr0
      have he : bitsL 0 = [] := by decide
      rw [he, List.append_nil] at hx
      gi_wp2
      go_end0
      exact ⟨⟨_, rfl⟩, .inl ⟨pre, hx.symm, hJs⟩⟩
    · obtain ⟨h1, h2, h3⟩ := bits_step r hr (by omega)
      rw [h1] at hx
      obtain ⟨s, hs⟩ : ∃ s, s = r &&& (r - 1) := ⟨_, rfl⟩
      rw [← hs] at h2 h3 hx
      obtain ⟨x, hxe⟩ : ∃ x : Nat, x = tz r := ⟨_, rfl⟩
      have HC := Lib.hid (tz_any r wr hTr hr (by omega))
      rw [← hxe] at hx HC
      have HX := Lib.hid hx
      have hlen : pre.length < (bitsL b).length := by rw [hx]; simp
      obtain ⟨fn, tmps, assign, body, hy, hR⟩ := hY pre x wr hJs hlen
      have hz : ((r : Int) != 0) = true := by simp; omega
      clear h1 hs hxe hx hlen
      gi_wp2_with (refine ⟨trivial, ?_⟩; gi_at_call 222; refine (callsIn_wide.2 HC.out).mono ?_; rintro e w' ⟨rfl, rfl⟩)
      refine hR.mono ?_
      rintro e W3 (⟨rfl, hJ3, hk3⟩ | ⟨rfl, hJx3⟩)
      · have hT3 := tab_belowN hTr hn₀ hk3
        gi_wp2
        go_roundw
        case rel => exact ⟨pre ++ [(x : Int)], s, by go_num, by omega, by rw [HX.out]; simp, hT3, hJ3⟩
        case measure => simp [intOf]; omega
      · gi_wp2
        refine bodyPost_ret (results_none rfl _ _ _) rfl ?_
        exact ⟨⟨_, rfl⟩, .inr ⟨pre ++ [(x : Int)], ⟨bitsL s, by rw [HX.out]; simp⟩, hJx3⟩⟩

theorem things_in (n : Nat) (b : Nat) (w : World) :
    CallsIn Fence.wide n Tryz.prog 284 #[.int .u64 b] w fun e w' => e = .returned (.func (.func 303) #[] #[.pointer (some ⟨w.heap.size, 0, none⟩)]) ∧ w' = w.alloc (.cells #[.int .u64 b] 172) := by
  refine callsIn_of_wp Tryz.func284 rfl trivial ?_ rfl
  simp only [Tryz.ntmps284, List.size_toArray, List.length_cons, List.length_nil, Nat.reduceAdd, Nat.reduceSub, Array.replicate_succ, Array.replicate_zero, List.push_toArray, List.append_toArray, List.nil_append, List.cons_append]
  gi_wp2
  go_ret
  exact ⟨rfl, rfl⟩

theorem things_stops (n : Nat) (hn : 1 ≤ n) (Bn n₀ b : Nat) (hb : b < 256) (w : World) (hT : Tab w) (h2 : 5 + 1 ≤ n₀) (hBn : Bn < w.heap.size) (hn₀ : n₀ ≤ w.heap.size) (hc : w.cell? ⟨Bn, 0, none⟩ = some (.int .u64 b)) :
    SeqStopsK Fence.wide n Tryz.prog 303 #[.pointer (some ⟨Bn, 0, none⟩)] (fun x : Int => #[Value.int .i64 x]) (Below n₀) (fun ys => ys = bitsL b) (fun pre => pre <+: bitsL b) (bitsL b).length w := fun l J Jx W hW _ _ hY h0 =>
  things1_in n hn l Bn n₀ b hb h2 J Jx hY W (tab_below hT hW) ((hW.cell (p := ⟨Bn, 0, none⟩) hBn).trans hc) h0

set_option maxHeartbeats 3200000 in
theorem list_in (n : Nat) (hn : 3 ≤ n) (b : Nat) (w : World) (hT : Tab w) (hb : b < 256) :
    CallsIn Fence.wide n Tryz.prog 262 #[.int .u64 b] w (FreshL w (bitsL b)) := by
  have h1 : 1 ≤ n := by omega
  obtain ⟨i0, hi, hz0, hz1, hz2⟩ := info_parts Tryz.infoInt
  obtain ⟨hbl, hb8⟩ := bits_len b hb
  have hC := Lib.hid (size_any b w hb)
  obtain ⟨m, hm⟩ : ∃ m, m = cnt b := ⟨_, rfl⟩
  rw [← hm] at hbl hb8 hC
  clear hm
  have hT2 := hT.1
  refine callsIn_of_wp_marks Tryz.func262 rfl trivial ?_ rfl
  simp only [Tryz.ntmps262, List.size_toArray, List.length_cons, List.length_nil, Nat.reduceAdd, Nat.reduceSub, Array.replicate_succ, Array.replicate_zero, List.push_toArray, List.append_toArray, List.nil_append, List.cons_append]
  gi_wp2_with (first | (gi_at_make; refine wpListIn_make_own _ rfl _ _ 26 rfl w.heap.size 3 i0 (.int .i64 0) 1 Tryz.underlying26 hi hz0 hz1 _ _ _ m rfl rfl rfl (by rw [hz2]; omega) (by unfold maxLen; omega) (Nat.le_refl _) ?_; intro w1 hown1 hgrow1) | (refine ⟨trivial, ?_⟩; gi_at_call 244; refine (callsIn_wide.2 hC.out).mono ?_; rintro e w' ⟨rfl, rfl⟩))
  have hs1 : w.heap.size < w1.heap.size := by
    have := World.ownsRow.lt hown1 w.heap.size rfl
    omega
  have hb1 : Below w.heap.size w w1 := (Below.refl _ _).grown hgrow1 (Nat.le_refl _) (fun k h => by cases h)
  clear hgrow1
  gi_wp2_with (refine ⟨trivial, ?_⟩; gi_at_call 284; refine (things_in _ b _).mono ?_; rintro e w' ⟨rfl, rfl⟩)
  have bO := Boxed.new w1 26 (.slice (some ⟨w.heap.size, 0, none⟩) 0 m)
  obtain ⟨W2, hW2⟩ : ∃ W2, W2 = w1.alloc (.cells #[.slice (some ⟨w.heap.size, 0, none⟩) 0 m] 26) := ⟨_, rfl⟩
  have hsz2 : W2.heap.size = w1.heap.size + 1 := by rw [hW2]; simp
  have hB2 : Below w.heap.size w W2 := by rw [hW2]; exact hb1.alloc hb1.size _
  have hrow2 : W2.ownsRow w.heap.size 3 1 (.slice (some ⟨w.heap.size, 0, none⟩) 0 m) 0 [] := by
    rw [hW2]
    exact hown1.alloc _
  rw [← hW2] at bO ⊢
  have bN := Boxed.new W2 172 (.int .u64 b)
  rw [hsz2] at bN
  have hB3 : Below w.heap.size w (W2.alloc (.cells #[.int .u64 b] 172)) := hB2.alloc hB2.size _
  have hT3 : Tab (W2.alloc (.cells #[.int .u64 b] 172)) := tab_belowN hT hT2 hB3
  clear hW2 hown1 hb1
  refine wpIn_rangeFunc_ownG rfl h1 (gf := 303) (lb := #[.pointer (some ⟨w1.heap.size + 1, 0, none⟩)]) rfl trivial (enters_of Tryz.func303 (by kernel_rfl) rfl)
    (things_stops (n - 1) (by omega) (w1.heap.size + 1) w.heap.size b hb _ hT3 hT2 (by simp; omega) (by simp; omega) bN.cell) belowK_t (belowK_b (by simp; omega)) (Below.refl _ _) (fun _ => rfl)
    (fun pre W => (∃ v, Boxed W w1.heap.size 26 v ∧ W.ownsRow w.heap.size 3 1 v pre.length (pre.map (Value.int .i64)) ∧ True) ∧ Below w.heap.size w W)
    (fun _ _ _ => False)
    (OwnFrom.and (Own.from (holdsRow_own w.heap.size w1.heap.size 26 3 1 (fun pre : List Int => pre.length) (fun pre => pre.map (Value.int .i64)) (fun _ _ => True)) _) (ownFrom_below (Nat.le_refl _) (by simp; omega)))
    (fun _ _ _ _ _ hs _ _ => hs)
    ⟨⟨_, bO.alloc _, hrow2.alloc _, trivial⟩, hB3⟩
    (fun x => { tmps := #[.int .u64 b, undef, .slice none 0 0, .pointer (some ⟨w1.heap.size, 0, none⟩), .int .i64 x, .int .u64 b, .int .i64 m, .slice (some ⟨w.heap.size, 0, none⟩) 0 m, .int .u64 b, .func (.func 303) #[] #[.pointer (some ⟨w1.heap.size + 1, 0, none⟩)], .int .i64 x, undef, undef, undef, undef, undef], defers := [] }) ?assign ?body ?done ?stop
  case assign =>
    intro l x W K hK
    gi_wp2
    exact hK
  case body =>
    rintro l pre x W ⟨⟨v, hv, hrow, _⟩, hB⟩ hlt
    have hc := hv.cell
    gi_wp2_with (gi_at_builtin; refine wpListIn_append_own _ rfl _ _ 26 rfl w.heap.size 3 i0 (.int .i64 0) 1 8 Tryz.underlying26 hi hz0 hz1 hz2 rfl (by decide) _ _ _ rfl (hrow.alloc _) ⟨W.heap.size, 0, none⟩ 1 1 [.int .i64 x] rfl rfl (cell_one_new _ _ _) (by simp [Value.oneCell']) (by unfold maxLen; omega) (by omega) (by have := hB.size; simp; omega) ?_; intro v' w2 hown' hgrow _; obtain ⟨g', cap', rfl⟩ := ownsRow_succ hown'; obtain ⟨hv1, hv2, hr2, hk2, hb2⟩ := hv.appended (by decide) hrow hB.size (by omega) hown' hgrow; have hc1 := hv1.cell; have hf1 := hv1.frozen)
    exact ⟨hk2.from _, hb2, ⟨_, hv2, by simpa using hr2, trivial⟩, hB.trans hb2⟩
  case done =>
    rintro D ys W hD rfl ⟨⟨v, hv, hrow, _⟩, hB⟩ hK
    have hc := hv.cell
    gi_wp2
    refine ⟨by simp, .inl ⟨_, _, rfl, run_takeDeferred hK, ?_⟩⟩
    exact ⟨_, results_tmp rfl _ _ _, v, rfl, ownsRow_putObj hrow _ hK rfl, hB.trans (belowK_b (w := w) (Nat.le_refl _) W D _ _ (by simp at hD; omega) hK rfl rfl)⟩
  case stop =>
    rintro D c pre W _ _ h _
    exact h.elim

theorem list_any (b : Nat) (w : World) (hT : Tab w) (hb : b < 256) : Calls Tryz.prog 262 #[.int .u64 b] w (FreshL w (bitsL b)) :=
  callsIn_wide.1 (list_in 5 (by omega) b w hT hb)
end

section
open Go.RowKit Go.Shelf

attribute [local go_sem] Oper.semAt_some

set_option maxHeartbeats 1600000 in
theorem things1_at (n : Nat) (hn : 1 ≤ n) (l Bn n₀ b : Nat) (hb : b < 256) (hn₀ : 5 + 1 ≤ n₀) (J Jx : List Int → World → Prop)
    (hY : ∀ pre x W, J pre W → pre ++ [x] <+: bitsL b → YieldAt Fence.wide (n - 1) Tryz.prog l #[.int .i64 x] W fun e W' =>
      (e = .returned (.bool true) ∧ J (pre ++ [x]) W' ∧ Below n₀ W W') ∨ (e = .returned (.bool false) ∧ Jx (pre ++ [x]) W'))
    (W : World) (hT : Tab W) (hBn : W.cell? ⟨Bn, 0, none⟩ = some (.int .u64 b)) (h0 : J [] W) :
    CallsIn Fence.wide n Tryz.prog 303 #[.func (.yield l) #[] #[], .pointer (some ⟨Bn, 0, none⟩)] W fun e W' => (∃ v, e = .returned v) ∧
      ((∃ ys, ys = bitsL b ∧ J ys W') ∨ (∃ pre, pre <+: bitsL b ∧ Jx pre W')) := by
  refine callsIn_of_wp Tryz.func303 rfl trivial ?_ rfl
  simp only [Tryz.ntmps303, List.size_toArray, List.length_cons, List.length_nil, Nat.reduceAdd, Nat.reduceSub, Array.replicate_succ, Array.replicate_zero, List.push_toArray, List.append_toArray, List.nil_append, List.cons_append]
  gi_wp2
  gi_loopw [3] (fun p wr => ∃ (pre : List Int) (r : Nat), p = .int .u64 r ∧ r < 256 ∧ bitsL b = pre ++ bitsL r ∧ Tab wr ∧ J pre wr)
    (fun p wr => (intOf p).toNat)
  case atStart => exact ⟨[], b, rfl, hb, rfl, hT, h0⟩
  case round =>
    obtain ⟨pre, r, rfl, hr, hx, hTr, hJs⟩ := hrel
    by_cases hr0 : r = 0
    · subst hr0
      have he : bitsL 0 = [] := by decide
      rw [he, List.append_nil] at hx
      gi_wp2
      go_end0
      exact ⟨⟨_, rfl⟩, .inl ⟨pre, hx.symm, hJs⟩⟩
    · obtain ⟨h1, h2, h3⟩ := bits_step r hr (by omega)
      rw [h1] at hx
      obtain ⟨s, hs⟩ : ∃ s, s = r &&& (r - 1) := ⟨_, rfl⟩
      rw [← hs] at h2 h3 hx
      obtain ⟨x, hxe⟩ : ∃ x : Nat, x = tz r := ⟨_, rfl⟩
      have HC := Lib.hid (tz_any r wr hTr hr (by omega))
      rw [← hxe] at hx HC
      have HX := Lib.hid hx
      have hpre : pre ++ [(x : Int)] <+: bitsL b := ⟨bitsL s, by rw [hx]; simp⟩
      obtain ⟨fn, tmps, assign, body, hy, hR⟩ := hY pre x wr hJs hpre
      have hz : ((r : Int) != 0) = true := by simp; omega
      clear h1 hs hxe hx hpre
      gi_wp2_with (refine ⟨trivial, ?_⟩; gi_at_call 222; refine (callsIn_wide.2 HC.out).mono ?_; rintro e w' ⟨rfl, rfl⟩)
      refine hR.mono ?_
      rintro e W3 (⟨rfl, hJ3, hk3⟩ | ⟨rfl, hJx3⟩)
      · have hT3 := tab_belowN hTr hn₀ hk3
        gi_wp2
        go_roundw
        case rel => exact ⟨pre ++ [(x : Int)], s, by go_num, by omega, by rw [HX.out]; simp, hT3, hJ3⟩
        case measure => simp [intOf]; omega
      · gi_wp2
        refine bodyPost_ret (results_none rfl _ _ _) rfl ?_
        exact ⟨⟨_, rfl⟩, .inr ⟨pre ++ [(x : Int)], ⟨bitsL s, by rw [HX.out]; simp⟩, hJx3⟩⟩

theorem things_at (n : Nat) (hn : 1 ≤ n) (Bn n₀ b : Nat) (hb : b < 256) (w : World) (hT : Tab w) (h2 : 5 + 1 ≤ n₀) (hBn : Bn < w.heap.size) (hn₀ : n₀ ≤ w.heap.size) (hc : w.cell? ⟨Bn, 0, none⟩ = some (.int .u64 b)) :
    SeqStopsK Fence.wide n Tryz.prog 303 #[.pointer (some ⟨Bn, 0, none⟩)] (fun x : { x : Int // x ∈ bitsL b } => #[Value.int .i64 x.1]) (Below n₀) (fun ys => ys.map Subtype.val = bitsL b) (fun pre => pre.map Subtype.val <+: bitsL b) (bitsL b).length w := by
  intro l J Jx W hW hJo hJxo hY h0
  refine (things1_at n hn l Bn n₀ b hb h2 (fun pre W' => ∃ ps : List ({ x : Int // x ∈ bitsL b }), ps.map Subtype.val = pre ∧ J ps W') (fun pre W' => ∃ ps : List ({ x : Int // x ∈ bitsL b }), ps.map Subtype.val = pre ∧ Jx ps W') ?_ W (tab_below hT hW) ((hW.cell (p := ⟨Bn, 0, none⟩) hBn).trans hc) ⟨[], rfl, h0⟩).mono ?_
  · rintro pre x W' ⟨ps, rfl, hJ⟩ hpre
    have hx : x ∈ bitsL b := hpre.subset (by simp)
    have hl : ps.length < (bitsL b).length := by
      have := hpre.length_le
      rw [List.length_append, List.length_map, List.length_singleton] at this
      omega
    refine (hY ps ⟨x, hx⟩ W' hJ hl).mono ?_
    rintro e W2 (⟨rfl, h1, h3⟩ | ⟨rfl, h1⟩)
    · exact .inl ⟨rfl, ⟨ps ++ [⟨x, hx⟩], by rw [List.map_append]; rfl, h1⟩, h3⟩
    · exact .inr ⟨rfl, ⟨ps ++ [⟨x, hx⟩], by rw [List.map_append]; rfl, h1⟩⟩
  · rintro e W2 ⟨hv, (⟨ys, rfl, ps, hps, hJ⟩ | ⟨pre, hpre, ps, rfl, hJ⟩)⟩
    · exact ⟨hv, .inl ⟨ps, hps, hJ⟩⟩
    · exact ⟨hv, .inr ⟨ps, hpre, hJ⟩⟩

def sameOn (xs ys : List Int) (m : Nat) : Bool := decide (∀ x ∈ bitsL m, ∀ y ∈ bitsL m, dif xs ys x.toNat y.toNat = 0)

theorem bit_mem {m : Nat} {x : Int} (h : x ∈ bitsL m) : ∃ t : Nat, x = (t : Int) ∧ t < 8 ∧ m.testBit t = true := by
  unfold bitsL at h
  obtain ⟨t, ht, rfl⟩ := List.mem_map.1 h
  obtain ⟨h1, h2⟩ := List.mem_filter.1 ht
  exact ⟨t, rfl, List.mem_range.1 h1, h2⟩

theorem keepsFrom_b {W W' : World} (B : Nat) (h : Below W.heap.size W W') : KeepsFrom B W W' :=
  ⟨h.size, fun k o _ hk _ => by rw [h.block k (Array.getElem?_eq_some_iff.1 hk).1]; exact hk⟩
theorem boxed_b {W W' : World} {b : Nat} {t : TypeId} {v : Value} (h : Boxed W b t v) (hb : Below W.heap.size W W') : Boxed W' b t v := (hb.block b h.lt).trans h

set_option maxHeartbeats 8000000 in
theorem areSameOn_in (n : Nat) (hn : 8 ≤ n) (m : Nat) (hm : m < 256) (ao bo : Option Addr) (len ca cb : Nat) (xs ys : List Int) (w : World) (hT : Tab w) (hv : RdV w (.slice ao len ca) xs) (hu : RdV w (.slice bo len cb) ys) (hl : ys.length = xs.length) (hbit : ∀ t, m.testBit t = true → t < 8 → t < xs.length) :
    CallsIn Fence.wide n Tryz.prog 245 #[.int .u64 m, .slice ao len ca, .slice bo len cb] w fun e W' => e = .returned (.bool (sameOn xs ys m)) ∧ Below w.heap.size w W' := by
  have h1 : 1 ≤ n := by omega
  have HV := Lib.hid hv
  have HU := Lib.hid hu
  have HL := Lib.hid hl
  have hT2 := hT.1
  have hbm : ∀ x ∈ bitsL m, ∃ t : Nat, x = (t : Int) ∧ t < xs.length := fun x hx => by
    obtain ⟨t, e, h8, hb⟩ := bit_mem hx
    exact ⟨t, e, hbit t hb h8⟩
  have HBM := Lib.hid hbm
  clear hv hu hl hbit hbm
  refine callsIn_of_wp_marks Tryz.func245 rfl trivial ?_ rfl
  simp only [Tryz.ntmps245, List.size_toArray, List.length_cons, List.length_nil, Nat.reduceAdd, Nat.reduceSub, Array.replicate_succ, Array.replicate_zero, List.push_toArray, List.append_toArray, List.nil_append, List.cons_append]
  gi_wp2_with (refine ⟨trivial, ?_⟩; gi_at_call 284; refine (things_in _ m _).mono ?_; rintro e w' ⟨rfl, rfl⟩)
  obtain ⟨N, hN⟩ : ∃ N, N = w.heap.size := ⟨_, rfl⟩
  have bM := ((Boxed.new w 172 (.int .u64 m)).alloc (.cells #[.slice ao len ca] 26)).alloc (.cells #[.slice bo len cb] 26) |>.alloc (.cells #[.bool false] 4) |>.alloc (.cells #[.int .u64 m] 172)
  have bA := ((Boxed.new (w.alloc (.cells #[.int .u64 m] 172)) 26 (.slice ao len ca)).alloc (.cells #[.slice bo len cb] 26)).alloc (.cells #[.bool false] 4) |>.alloc (.cells #[.int .u64 m] 172)
  have bB := (Boxed.new ((w.alloc (.cells #[.int .u64 m] 172)).alloc (.cells #[.slice ao len ca] 26)) 26 (.slice bo len cb)).alloc (.cells #[.bool false] 4) |>.alloc (.cells #[.int .u64 m] 172)
  have bR := (Boxed.new (((w.alloc (.cells #[.int .u64 m] 172)).alloc (.cells #[.slice ao len ca] 26)).alloc (.cells #[.slice bo len cb] 26)) 4 (.bool false)).alloc (.cells #[.int .u64 m] 172)
  have bF := Boxed.new ((((w.alloc (.cells #[.int .u64 m] 172)).alloc (.cells #[.slice ao len ca] 26)).alloc (.cells #[.slice bo len cb] 26)).alloc (.cells #[.bool false] 4)) 172 (.int .u64 m)
  have hB0 : Below w.heap.size w (((((w.alloc (.cells #[.int .u64 m] 172)).alloc (.cells #[.slice ao len ca] 26)).alloc (.cells #[.slice bo len cb] 26)).alloc (.cells #[.bool false] 4)).alloc (.cells #[.int .u64 m] 172)) :=
    (((((Below.refl _ w).alloc (Nat.le_refl _) _).alloc (by simp) _).alloc (by simp; omega) _).alloc (by simp; omega) _).alloc (by simp; omega) _
  obtain ⟨W0, hW0⟩ : ∃ W0, (((((w.alloc (.cells #[.int .u64 m] 172)).alloc (.cells #[.slice ao len ca] 26)).alloc (.cells #[.slice bo len cb] 26)).alloc (.cells #[.bool false] 4)).alloc (.cells #[.int .u64 m] 172)) = W0 := ⟨_, rfl⟩
  have hsz : W0.heap.size = w.heap.size + 5 := by rw [← hW0]; simp
  simp only [World.size_alloc] at bA bB bR bF
  rw [hW0] at bM bA bB bR bF hB0 ⊢
  clear hW0
  have hT0 := tab_below hT hB0
  refine wpIn_rangeFunc_ownH rfl h1 (gf := 303) (lb := #[.pointer (some ⟨w.heap.size + 1 + 1 + 1 + 1, 0, none⟩)]) rfl trivial (enters_of Tryz.func303 (by kernel_rfl) rfl)
    (things_at (n - 1) (by omega) (w.heap.size + 1 + 1 + 1 + 1) w.heap.size m hm W0 hT0 hT2 (by omega) (by omega) bF.cell) belowK_t (belowK_b (by omega)) (Below.refl _ _) (fun _ => rfl)
    (fun pre W => (((((∀ x ∈ pre, ∀ y ∈ bitsL m, dif xs ys x.1.toNat y.toNat = 0) ∧ Boxed W (w.heap.size + 1 + 1 + 1) 4 (.bool false)) ∧ Boxed W w.heap.size 172 (.int .u64 m)) ∧ Boxed W (w.heap.size + 1) 26 (.slice ao len ca)) ∧ Boxed W (w.heap.size + 1 + 1) 26 (.slice bo len cb)) ∧ Below w.heap.size w W)
    (fun c pre W => ((c = .ret ∧ ∃ x ∈ pre, ∃ y ∈ bitsL m, dif xs ys x.1.toNat y.toNat ≠ 0) ∧ Boxed W (w.heap.size + 1 + 1 + 1) 4 (.bool false)) ∧ Below w.heap.size w W)
    (OwnFrom.and (OwnFrom.and (OwnFrom.and (OwnFrom.and (OwnFrom.and (ownFrom_pure _ _) (Own.from (boxed_own _ _ _) _)) (Own.from (boxed_own _ _ _) _)) (Own.from (boxed_own _ _ _) _)) (Own.from (boxed_own _ _ _) _)) (ownFrom_below (Nat.le_refl _) (by omega)))
    (fun c => OwnFrom.and (OwnFrom.and (ownFrom_pure _ _) (Own.from (boxed_own _ _ _) _)) (ownFrom_below (Nat.le_refl _) (by omega)))
    ⟨⟨⟨⟨⟨by simp, bR⟩, bM⟩, bA⟩, bB⟩, hB0⟩
    (fun x a' W => ∃ Bx, w.heap.size + 1 + 1 + 1 < Bx ∧ Boxed W Bx 3 (.int .i64 x.1) ∧ a' = { tmps := #[.int .u64 m, .slice ao len ca, .slice bo len cb, .pointer (some ⟨w.heap.size, 0, none⟩), .pointer (some ⟨w.heap.size + 1, 0, none⟩), .pointer (some ⟨w.heap.size + 1 + 1, 0, none⟩), .pointer (some ⟨w.heap.size + 1 + 1 + 1, 0, none⟩), .pointer (some ⟨Bx, 0, none⟩), undef, .int .u64 m, .func (.func 303) #[] #[.pointer (some ⟨w.heap.size + 1 + 1 + 1 + 1, 0, none⟩)], .int .i64 x.1, undef, undef, undef, undef, undef, undef, undef, undef, undef], defers := [] })
    (fun x a' _ X Y row hs hg hr => by obtain ⟨Bx, e1, e2, e3⟩ := hs; exact ⟨Bx, e1, boxed_own Bx 3 (fun (_ : Unit) => Value.int .i64 x.1) () X Y row e2 hg (fun r e => (hr r e).2), e3⟩)
    ?assign ?body ?done ?stop
  case assign =>
    rintro l pre x W K ⟨⟨⟨⟨⟨hp, bR1⟩, bM1⟩, bA1⟩, bB1⟩, hB1⟩ hK
    gi_wp2
    exact hK _ _ ((KeepsOthers.alloc _ _).from _) ((Below.refl _ W).alloc hB1.size _) ⟨⟨⟨⟨⟨hp, bR1.alloc _⟩, bM1.alloc _⟩, bA1.alloc _⟩, bB1.alloc _⟩, hB1.alloc hB1.size _⟩ ⟨W.heap.size, bR1.lt, Boxed.new W 3 _, rfl⟩
  case body =>
    rintro l pre x a' W hl ⟨r, hr⟩ ⟨⟨⟨⟨⟨hp, bR1⟩, bM1⟩, bA1⟩, bB1⟩, hB1⟩ ⟨Bx, hBx, bX, rfl⟩ hlt
    have cM := bM1.cell
    have h1' : 1 ≤ n - 1 - 1 := by omega
    gi_wp2_with (refine ⟨trivial, ?_⟩; gi_at_call 284; refine (CallsIn.inRound l (things_in (n - 1 - 1 - 1) m _)).mono ?_; rintro e w' ⟨rfl, rfl⟩)
    have hsW := hB1.size
    have bN := Boxed.new W 172 (.int .u64 m)
    have hr' : (W.alloc (.cells #[.int .u64 m] 172)).heap[l]? = some (.loop r) := (Below.heap_alloc W _ l (Array.getElem?_eq_some_iff.1 hr).1).trans hr
    have hT1 : Tab (W.alloc (.cells #[.int .u64 m] 172)) := tab_belowN hT hT2 (hB1.alloc hsW _)
    refine wpIn_rangeFunc_ownN (l₀ := l) (r₀ := r) rfl hr' h1' (gf := 303) (lb := #[.pointer (some ⟨W.heap.size, 0, none⟩)]) rfl trivial (enters_of Tryz.func303 (by kernel_rfl) rfl)
      ((things_at (n - 1 - 1 - 1) (by omega) W.heap.size w.heap.size m hm _ hT1 hT2 (by simp) (by simp; omega) bN.cell).inRound l) belowK_t (belowK_b (by simp; omega)) (Below.refl _ _) (fun _ => rfl)
      (fun pre' W' => ((((((∀ y ∈ pre', dif xs ys x.1.toNat y.1.toNat = 0) ∧ Boxed W' (w.heap.size + 1 + 1 + 1) 4 (.bool false)) ∧ Boxed W' w.heap.size 172 (.int .u64 m)) ∧ Boxed W' (w.heap.size + 1) 26 (.slice ao len ca)) ∧ Boxed W' (w.heap.size + 1 + 1) 26 (.slice bo len cb)) ∧ Boxed W' Bx 3 (.int .i64 x.1)) ∧ (Below w.heap.size W W' ∧ KeepsFrom W0.heap.size W W'))
      (fun c pre' W' => ((c = .ret ∧ ∃ y ∈ pre', dif xs ys x.1.toNat y.1.toNat ≠ 0) ∧ Boxed W' (w.heap.size + 1 + 1 + 1) 4 (.bool false)) ∧ (Below w.heap.size W W' ∧ KeepsFrom W0.heap.size W W'))
      (OwnFrom.and (OwnFrom.and (OwnFrom.and (OwnFrom.and (OwnFrom.and (OwnFrom.and (ownFrom_pure _ _) (Own.from (boxed_own _ _ _) _)) (Own.from (boxed_own _ _ _) _)) (Own.from (boxed_own _ _ _) _)) (Own.from (boxed_own _ _ _) _)) (Own.from (boxed_own _ _ _) _)) (OwnFrom.and (ownFrom_below hsW (by simp; omega)) (ownFrom_keepsFrom (by simp))))
      (fun c => OwnFrom.and (OwnFrom.and (ownFrom_pure _ _) (Own.from (boxed_own _ _ _) _)) (OwnFrom.and (ownFrom_below hsW (by simp; omega)) (ownFrom_keepsFrom (by simp))))
      ⟨⟨⟨⟨⟨⟨by simp, bR1.alloc _⟩, bM1.alloc _⟩, bA1.alloc _⟩, bB1.alloc _⟩, bX.alloc _⟩, (Below.refl _ W).alloc hsW _, (KeepsOthers.alloc _ _).from _⟩
      (fun y a'' _ => a'' = { tmps := #[.int .u64 m, .slice ao len ca, .slice bo len cb, .pointer (some ⟨w.heap.size, 0, none⟩), .pointer (some ⟨w.heap.size + 1, 0, none⟩), .pointer (some ⟨w.heap.size + 1 + 1, 0, none⟩), .pointer (some ⟨w.heap.size + 1 + 1 + 1, 0, none⟩), .pointer (some ⟨Bx, 0, none⟩), .int .i64 y.1, .int .u64 m, .func (.func 303) #[] #[.pointer (some ⟨w.heap.size + 1 + 1 + 1 + 1, 0, none⟩)], .int .i64 x.1, .int .u64 m, .func (.func 303) #[] #[.pointer (some ⟨W.heap.size, 0, none⟩)], .int .i64 y.1, undef, undef, undef, undef, undef, undef], defers := [] })
      (fun _ _ _ _ _ _ hs _ _ => hs)
      ?assign2 ?body2 ?done2 ?stop2
    case assign2 =>
      rintro l2 pre' y W' K hi hK
      gi_wp2
      exact hK _ _ (KeepsFrom.refl _ _) (Below.refl _ _) hi rfl
    case body2 =>
      rintro l2 pre' y a'' W' _ _ ⟨⟨⟨⟨⟨⟨hq, bR2⟩, bM2⟩, bA2⟩, bB2⟩, bX2⟩, hBW, hKF⟩ rfl _
      have h1'' : 1 ≤ n - 1 - 1 - 1 - 1 := by omega
      have cA := bA2.cell
      have cB := bB2.cell
      have cX := bX2.cell
      obtain ⟨i, hi, hin⟩ := HBM.out x.1 x.2
      obtain ⟨k, hk, hkn⟩ := HBM.out y.1 y.2
      have hBW' : Below w.heap.size w W' := hB1.trans hBW
      have HC := Lib.hid (agree_v (.slice ao len ca) (.slice bo len cb) xs ys i k W' (rdv_below HV.out hBW') (rdv_below HU.out hBW') HL.out hin hkn)
      have e1 : i = x.1.toNat := by omega
      have e2 : k = y.1.toNat := by omega
      rw [← hi, ← hk, e1, e2] at HC
      clear hi hin hk hkn e1 e2
      by_cases hd : dif xs ys x.1.toNat y.1.toNat = 0
      · rw [decide_eq_true hd] at HC
        gi_wp2_with (refine ⟨trivial, ?_⟩; gi_at_call 282; refine (CallsIn.inRound l2 (CallsIn.inRound l (callsIn_wide.2 HC.out))).mono ?_; rintro e w' ⟨rfl, hq5⟩)
        have hb5 := hq5.below
        exact ⟨keepsFrom_b _ hb5, hb5.mono (by have := hBW'.size; omega), ⟨⟨⟨⟨⟨fun z hz => (List.mem_append.1 hz).elim (hq z) (fun e => by simp at e; subst e; exact hd), boxed_b bR2 hb5⟩, boxed_b bM2 hb5⟩, boxed_b bA2 hb5⟩, boxed_b bB2 hb5⟩, boxed_b bX2 hb5⟩, hBW.trans (hb5.mono (by have := hBW'.size; omega)), hKF.trans (keepsFrom_b _ hb5)⟩
      · rw [decide_eq_false hd] at HC
        gi_wp2_with (refine ⟨trivial, ?_⟩; gi_at_call 282; refine (CallsIn.inRound l2 (CallsIn.inRound l (callsIn_wide.2 HC.out))).mono ?_; rintro e w' ⟨rfl, hq5⟩; have hb5 := hq5.below; have bR5 := boxed_b bR2 hb5; have cR := bR5.cell; have fR := bR5.frozen)
        refine ⟨(keepsFrom_b _ hb5).trans ((KeepsOthers.setCell _ _ _).from _), ⟨⟨rfl, y, by simp, hd⟩, bR5.set _⟩, ?_, hKF.trans ((keepsFrom_b _ hb5).trans ((KeepsOthers.setCell _ _ _).from _))⟩
        exact (hBW.trans (hb5.mono (by have := hBW'.size; omega))).setCell (p := ⟨w.heap.size + 1 + 1 + 1, 0, none⟩) (by simp; omega) _
    case done2 =>
      rintro ys' W' hys ⟨⟨⟨⟨⟨⟨hq, bR2⟩, bM2⟩, bA2⟩, bB2⟩, bX2⟩, hBW, hKF⟩
      gi_wp2
      refine ⟨hKF, hBW, ⟨⟨⟨⟨fun z hz => (List.mem_append.1 hz).elim (hp z) (fun e y hy => ?_), bR2⟩, bM2⟩, bA2⟩, bB2⟩, hB1.trans hBW⟩
      simp at e
      subst e
      rw [← hys] at hy
      obtain ⟨y', hy', rfl⟩ := List.mem_map.1 hy
      exact hq y' hy'
    case stop2 =>
      rintro c pre' W' hpre ⟨⟨⟨rfl, y, hy, hd⟩, bR2⟩, hBW, hKF⟩
      gi_wp2
      exact ⟨hKF, ⟨⟨rfl, x, by simp, y.1, y.2, hd⟩, bR2⟩, hB1.trans hBW⟩
  case done =>
    rintro D zs W hD hzs ⟨⟨⟨⟨⟨hp, bR1⟩, bM1⟩, bA1⟩, bB1⟩, hB1⟩ hK
    have cR := bR1.cell
    have fR := bR1.frozen
    have hs : sameOn xs ys m = true := by
      unfold sameOn
      refine decide_eq_true fun x hx y hy => ?_
      rw [← hzs] at hx
      obtain ⟨x', hx', rfl⟩ := List.mem_map.1 hx
      exact hp x' hx' y hy
    have HS := Lib.hid hs
    gi_wp2
    have hK' := (KeepsOthers.setCell W ⟨w.heap.size + 1 + 1 + 1, 0, none⟩ (.bool true)).same D _ hK rfl
    refine ⟨by simp, .inl ⟨_, _, rfl, run_takeDeferred hK', ?_⟩⟩
    have hc5 := cell_kept (bR1.set (.bool true)).cell (grownBy_putObj' _ D (.deferred none)) (fun r e => by cases e; exact ⟨_, hK', rfl⟩)
    refine ⟨.bool true, ?_, by rw [HS.out], (hB1.setCell (p := ⟨w.heap.size + 1 + 1 + 1, 0, none⟩) (by simp; omega) _).trans (belowK_b (w := w) (Nat.le_refl _) _ D _ _ (by omega) hK' rfl rfl)⟩
    simp [results, Tryz.f245, go_sem, hc5]
  case stop =>
    rintro D c pre W hD hpre ⟨⟨⟨rfl, x, hx, y, hy, hd⟩, bR1⟩, hB1⟩ hK
    have hs : sameOn xs ys m = false := by
      unfold sameOn
      exact decide_eq_false fun h => hd (h x.1 x.2 y hy)
    have HS := Lib.hid hs
    gi_wp2
    refine ⟨by simp, .inl ⟨_, _, rfl, run_takeDeferred hK, ?_⟩⟩
    have hc5 := cell_kept bR1.cell (grownBy_putObj' _ D (.deferred none)) (fun r e => by cases e; exact ⟨_, hK, rfl⟩)
    refine ⟨.bool false, ?_, by rw [HS.out], hB1.trans (belowK_b (w := w) (Nat.le_refl _) W D _ _ (by omega) hK rfl rfl)⟩
    simp [results, Tryz.f245, go_sem, hc5]

theorem areSameOn_any (m : Nat) (hm : m < 256) (v u : Value) (xs ys : List Int) (w : World) (hT : Tab w) (hv : RdV w v xs) (hu : RdV w u ys) (hl : ys.length = xs.length) (hbit : ∀ t, m.testBit t = true → t < 8 → t < xs.length) :
    Calls Tryz.prog 245 #[.int .u64 m, v, u] w fun e W' => e = .returned (.bool (sameOn xs ys m)) ∧ Below w.heap.size w W' := by
  have h1 := hv
  have h2 := hu
  obtain ⟨ao, ca, rfl, _⟩ := h1
  obtain ⟨bo, cb, rfl, _⟩ := h2
  rw [hl] at hu ⊢
  exact callsIn_wide.1 (areSameOn_in 10 (by omega) m hm ao bo xs.length ca cb xs ys w hT hv hu hl hbit)
end

def cntB (p : Nat → Bool) : Nat → Nat
  | 0 => 0
  | n + 1 => cntB p n + if p n then 1 else 0

theorem cntB_congr {p q : Nat → Bool} {n : Nat} (h : ∀ i, i < n → p i = q i) : cntB p n = cntB q n := by
  induction n with
  | zero => rfl
  | succ n ih => unfold cntB; rw [ih (fun i hi => h i (by omega)), h n (by omega)]
theorem cntB_mono {p q : Nat → Bool} {n : Nat} (h : ∀ i, i < n → p i = true → q i = true) : cntB p n ≤ cntB q n := by
  induction n with
  | zero => exact Nat.le_refl _
  | succ n ih =>
    have h1 := ih (fun i hi => h i (by omega))
    have h2 := h n (by omega)
    unfold cntB
    by_cases e : p n = true
    · rw [if_pos e, if_pos (h2 e)]; omega
    · rw [if_neg e]; omega
theorem cntB_le (p : Nat → Bool) (n : Nat) : cntB p n ≤ n := by
  induction n with
  | zero => exact Nat.le_refl _
  | succ n ih => unfold cntB; split <;> omega
theorem cntB_none {p : Nat → Bool} {n : Nat} (h : ∀ i, i < n → p i = false) : cntB p n = 0 := by
  induction n with
  | zero => rfl
  | succ n ih => unfold cntB; rw [ih (fun i hi => h i (by omega)), h n (by omega)]; rfl
theorem cntB_add {p q r : Nat → Bool} {n : Nat} (h : ∀ i, i < n → (r i = (p i || q i)) ∧ ¬ (p i = true ∧ q i = true)) : cntB r n = cntB p n + cntB q n := by
  induction n with
  | zero => rfl
  | succ n ih =>
    obtain ⟨h1, h2⟩ := h n (by omega)
    unfold cntB
    rw [ih (fun i hi => h i (by omega)), h1]
    cases hp : p n <;> cases hq : q n <;> simp [hp, hq] at h2 ⊢ <;> omega
def bestR (T : Nat → Nat → Nat) (Q : Nat) : Nat → Nat → Nat → Nat
  | 0, _, _ => 0
  | d + 1, row, used => (List.range Q).foldl (fun m c => if used.testBit c then m else max m (T row c + bestR T Q d (row + 1) (used ||| 2 ^ c))) (bestR T Q d (row + 1) used)

theorem fold_ge (p : Nat → Bool) (h : Nat → Nat) : ∀ (l : List Nat) (m : Nat), m ≤ l.foldl (fun m c => if p c then m else max m (h c)) m ∧ (∀ c ∈ l, p c = false → h c ≤ l.foldl (fun m c => if p c then m else max m (h c)) m) ∧
    (l.foldl (fun m c => if p c then m else max m (h c)) m = m ∨ ∃ c ∈ l, p c = false ∧ l.foldl (fun m c => if p c then m else max m (h c)) m = h c) := by
  intro l
  induction l with
  | nil => intro m; exact ⟨Nat.le_refl _, fun c hc => by simp at hc, .inl rfl⟩
  | cons x l ih =>
    intro m
    obtain ⟨h1, h2, h3⟩ := ih (if p x then m else max m (h x))
    simp only [List.foldl_cons]
    refine ⟨Nat.le_trans ?_ h1, fun c hc hp => ?_, ?_⟩
    · split <;> omega
    · rcases List.mem_cons.1 hc with rfl | hc
      · refine Nat.le_trans ?_ h1
        rw [hp]
        exact Nat.le_max_right _ _
      · exact h2 c hc hp
    · rcases h3 with h3 | ⟨c, hc, hp, h3⟩
      · rw [h3]
        by_cases e : p x = true
        · rw [if_pos e]; exact .inl rfl
        · rw [if_neg e]
          by_cases hm : h x ≤ m
          · left; exact Nat.max_eq_left hm
          · right; exact ⟨x, by simp, by simpa using e, Nat.max_eq_right (by omega)⟩
      · exact .inr ⟨c, by simp [hc], hp, h3⟩

def sumG (T : Nat → Nat → Nat) (Q : Nat) (g : Nat → Nat) : Nat → Nat → Nat
  | 0, _ => 0
  | d + 1, row => (if g row < Q then T row (g row) else 0) + sumG T Q g d (row + 1)

def okG (Q : Nat) (g : Nat → Nat) (d row used : Nat) : Prop :=
  (∀ r, row ≤ r → r < row + d → g r < Q → used.testBit (g r) = false) ∧ ∀ r s, row ≤ r → r < s → s < row + d → g r < Q → g r ≠ g s

theorem best_ge (T : Nat → Nat → Nat) (Q : Nat) (g : Nat → Nat) : ∀ d row used, okG Q g d row used → sumG T Q g d row ≤ bestR T Q d row used := by
  intro d
  induction d with
  | zero => intro row used _; exact Nat.le_refl _
  | succ d ih =>
    rintro row used ⟨h1, h2⟩
    unfold sumG bestR
    obtain ⟨f1, f2, _⟩ := fold_ge (fun c => used.testBit c) (fun c => T row c + bestR T Q d (row + 1) (used ||| 2 ^ c)) (List.range Q) (bestR T Q d (row + 1) used)
    by_cases e : g row < Q
    · rw [if_pos e]
      have hu := h1 row (Nat.le_refl _) (by omega) e
      refine Nat.le_trans (Nat.add_le_add_left (ih (row + 1) (used ||| 2 ^ g row) ⟨fun r a b c => ?_, fun r s a b c => h2 r s (by omega) b (by omega)⟩) _) (f2 (g row) (List.mem_range.2 e) hu)
      rw [Nat.testBit_or, Bool.or_eq_false_iff, Nat.testBit_two_pow]
      exact ⟨h1 r (by omega) (by omega) c, by simpa using h2 row r (Nat.le_refl _) (by omega) (by omega) e⟩
    · rw [if_neg e, Nat.zero_add]
      exact Nat.le_trans (ih (row + 1) used ⟨fun r a b c => h1 r (by omega) (by omega) c, fun r s a b c => h2 r s (by omega) b (by omega)⟩) f1

theorem sumG_congr {T : Nat → Nat → Nat} {Q : Nat} {g g' : Nat → Nat} : ∀ d row, (∀ r, row ≤ r → r < row + d → g r = g' r) → sumG T Q g d row = sumG T Q g' d row := by
  intro d
  induction d with
  | zero => intro row _; rfl
  | succ d ih =>
    intro row h
    unfold sumG
    rw [h row (Nat.le_refl _) (by omega), ih (row + 1) (fun r a b => h r (by omega) (by omega))]

theorem best_some (T : Nat → Nat → Nat) (Q : Nat) : ∀ d row used, ∃ g, okG Q g d row used ∧ sumG T Q g d row = bestR T Q d row used := by
  intro d
  induction d with
  | zero => intro row used; exact ⟨fun _ => Q, ⟨fun r a b => by omega, fun r s a b c => by omega⟩, rfl⟩
  | succ d ih =>
    intro row used
    obtain ⟨_, _, f3⟩ := fold_ge (fun c => used.testBit c) (fun c => T row c + bestR T Q d (row + 1) (used ||| 2 ^ c)) (List.range Q) (bestR T Q d (row + 1) used)
    rcases f3 with f3 | ⟨c, hc, hp, f3⟩
    · obtain ⟨g, ⟨o1, o2⟩, hs⟩ := ih (row + 1) used
      refine ⟨fun r => if r = row then Q else g r, ⟨fun r a b h => ?_, fun r s a b h h' => ?_⟩, ?_⟩
      · by_cases e : r = row
        · simp [e] at h
        · simp only [if_neg e] at h ⊢
          exact o1 r (by omega) (by omega) h
      · by_cases e : r = row
        · simp [e] at h'
        · simp only [if_neg e, if_neg (show ¬ s = row by omega)] at h' ⊢
          exact o2 r s (by omega) b (by omega) h'
      · unfold sumG bestR
        rw [f3, ← hs, if_neg (by simp), Nat.zero_add]
        exact sumG_congr d (row + 1) fun r a b => if_neg (by omega)
    · have hcQ := List.mem_range.1 hc
      obtain ⟨g, ⟨o1, o2⟩, hs⟩ := ih (row + 1) (used ||| 2 ^ c)
      refine ⟨fun r => if r = row then c else g r, ⟨fun r a b h => ?_, fun r s a b h h' => ?_⟩, ?_⟩
      · by_cases e : r = row
        · simp only [if_pos e]; exact hp
        · simp only [if_neg e] at h ⊢
          have := o1 r (by omega) (by omega) h
          rw [Nat.testBit_or, Bool.or_eq_false_iff] at this
          exact this.1
      · have hsn : ¬ s = row := by omega
        by_cases e : r = row
        · simp only [if_pos e, if_neg hsn] at h' ⊢
          intro e2
          have := o1 s (by omega) (by omega) (by omega)
          rw [← e2, Nat.testBit_or, Bool.or_eq_false_iff, Nat.testBit_two_pow] at this
          simp at this
        · simp only [if_neg e, if_neg hsn] at h' ⊢
          exact o2 r s (by omega) b (by omega) h'
      · unfold sumG bestR
        rw [f3, ← hs]
        simp only [if_pos rfl, if_pos hcQ]
        rw [sumG_congr (g := fun r => if r = row then c else g r) (g' := g) d (row + 1) fun r a b => if_neg (by omega)]
        simp
        intro h
        omega

def cellN (A B : Nat → Nat) (n x y : Nat) : Nat := cntB (fun i => decide (A i = x) && decide (B i = y)) n

theorem sumG_cells (A B : Nat → Nat) (n Q : Nat) (g : Nat → Nat) : ∀ d row, sumG (cellN A B n) Q g d row = cntB (fun i => decide (row ≤ A i ∧ A i < row + d) && decide (g (A i) < Q) && decide (B i = g (A i))) n := by
  intro d
  induction d with
  | zero =>
    intro row
    symm
    exact cntB_none fun i _ => by
      have : ¬ (row ≤ A i ∧ A i < row + 0) := by omega
      rw [decide_eq_false this]; rfl
  | succ d ih =>
    intro row
    unfold sumG
    rw [ih (row + 1)]
    have h1 : (if g row < Q then cellN A B n row (g row) else 0) = cntB (fun i => decide (A i = row) && decide (g (A i) < Q) && decide (B i = g (A i))) n := by
      by_cases e : g row < Q
      · rw [if_pos e]
        exact cntB_congr fun i _ => by
          by_cases ea : A i = row
          · simp [ea, e]
          · simp [ea]
      · rw [if_neg e]
        symm
        exact cntB_none fun i _ => by
          by_cases ea : A i = row
          · simp [ea, e]
          · simp [ea]
    rw [h1]
    symm
    refine cntB_add fun i _ => ?_
    constructor
    · by_cases ea : A i = row
      · have h2 : row ≤ A i ∧ A i < row + (d + 1) := by omega
        have h3 : ¬ (row + 1 ≤ A i ∧ A i < row + 1 + d) := by omega
        rw [decide_eq_true h2, decide_eq_true ea, decide_eq_false h3]
        simp
      · have h2 : (row ≤ A i ∧ A i < row + (d + 1)) ↔ (row + 1 ≤ A i ∧ A i < row + 1 + d) := by omega
        rw [show decide (row ≤ A i ∧ A i < row + (d + 1)) = decide (row + 1 ≤ A i ∧ A i < row + 1 + d) from decide_eq_decide.2 h2, decide_eq_false ea]
        simp
    · rintro ⟨h2, h3⟩
      simp only [Bool.and_eq_true, decide_eq_true_eq] at h2 h3
      omega

def agreeS (A B : Nat → Nat) (n : Nat) (S : Nat → Bool) : Prop := ∀ i k, i < n → k < n → S i = true → S k = true → (A i = A k ↔ B i = B k)

theorem best_sets {A B : Nat → Nat} {n P Q : Nat} (hA : ∀ i, i < n → A i < P) (hB : ∀ i, i < n → B i < Q) :
    (∀ S, agreeS A B n S → cntB S n ≤ bestR (cellN A B n) Q P 0 0) ∧ ∃ S, agreeS A B n S ∧ cntB S n = bestR (cellN A B n) Q P 0 0 := by
  constructor
  · intro S hS
    have hg : ∀ r, ∃ c, (∀ i, i < n → S i = true → A i = r → B i = c) ∧ (c < Q → ∃ i, i < n ∧ S i = true ∧ A i = r ∧ B i = c) := by
      intro r
      by_cases h : ∃ i, i < n ∧ S i = true ∧ A i = r
      · obtain ⟨i, hi, hs, ha⟩ := h
        exact ⟨B i, fun j hj hsj haj => (hS j i hj hi hsj hs).1 (haj.trans ha.symm), fun _ => ⟨i, hi, hs, ha, rfl⟩⟩
      · exact ⟨Q, fun i hi hs ha => absurd ⟨i, hi, hs, ha⟩ h, fun hh => absurd hh (Nat.lt_irrefl _)⟩
    obtain ⟨g, hg⟩ : ∃ g : Nat → Nat, ∀ r, (∀ i, i < n → S i = true → A i = r → B i = g r) ∧ (g r < Q → ∃ i, i < n ∧ S i = true ∧ A i = r ∧ B i = g r) := ⟨fun r => (hg r).choose, fun r => (hg r).choose_spec⟩
    refine Nat.le_trans ?_ (best_ge (cellN A B n) Q g P 0 0 ⟨fun r _ _ _ => by simp, fun r s _ hrs _ hq e => ?_⟩)
    · rw [sumG_cells]
      refine cntB_mono fun i hi hs => ?_
      have h1 := (hg (A i)).1 i hi hs rfl
      have h2 := hA i hi
      have h3 := hB i hi
      simp only [Bool.and_eq_true, decide_eq_true_eq]
      exact ⟨⟨by omega, by omega⟩, h1⟩
    · obtain ⟨i, hi, hsi, hai, hbi⟩ := (hg r).2 hq
      obtain ⟨k, hk, hsk, hak, hbk⟩ := (hg s).2 (by omega)
      have := (hS i k hi hk hsi hsk).2 (by rw [hbi, hbk, e])
      omega
  · obtain ⟨g, ⟨_, o2⟩, hs⟩ := best_some (cellN A B n) Q P 0 0
    refine ⟨fun i => decide (0 ≤ A i ∧ A i < 0 + P) && decide (g (A i) < Q) && decide (B i = g (A i)), fun i k hi hk h1 h2 => ?_, by rw [← hs, sumG_cells]⟩
    simp only [Bool.and_eq_true, decide_eq_true_eq] at h1 h2
    obtain ⟨⟨ha1, hq1⟩, hb1⟩ := h1
    obtain ⟨⟨ha2, hq2⟩, hb2⟩ := h2
    constructor
    · intro e; rw [hb1, hb2, e]
    · intro e
      rw [hb1, hb2] at e
      rcases Nat.lt_trichotomy (A i) (A k) with hlt | heq | hgt
      · exact absurd e (o2 (A i) (A k) (Nat.zero_le _) hlt (by omega) hq1)
      · exact heq
      · exact absurd e.symm (o2 (A k) (A i) (Nat.zero_le _) hgt (by omega) hq2)

def isMost (A B : Nat → Nat) (n m : Nat) : Prop := (∀ S, agreeS A B n S → cntB S n ≤ m) ∧ ∃ S, agreeS A B n S ∧ cntB S n = m

theorem isMost_one {A B : Nat → Nat} {n m m' : Nat} (h : isMost A B n m) (h' : isMost A B n m') : m = m' := by
  obtain ⟨S, hS, e⟩ := h.2
  obtain ⟨S', hS', e'⟩ := h'.2
  have a := h.1 S' hS'
  have b := h'.1 S hS
  omega
theorem isMost_le {A B : Nat → Nat} {n m : Nat} (h : isMost A B n m) : m ≤ n := by
  obtain ⟨S, _, e⟩ := h.2
  rw [← e]
  exact cntB_le S n

section
open Go.RowKit

theorem cellN_next (A B : Nat → Nat) (n x y : Nat) : cellN A B (n + 1) x y = cellN A B n x y + if A n = x ∧ B n = y then 1 else 0 := by
  show cellN A B n x y + (if (decide (A n = x) && decide (B n = y)) = true then 1 else 0) = _
  by_cases h1 : A n = x <;> by_cases h2 : B n = y <;> simp [h1, h2]

def tabRow (A B : Nat → Nat) (q k x : Nat) : List Int := (List.range q).map fun y => (cellN A B k x y : Int)
def tabTo (A B : Nat → Nat) (p q k : Nat) : List (List Int) := (List.range p).map (tabRow A B q k)

theorem tabRow_len (A B : Nat → Nat) (q k x : Nat) : (tabRow A B q k x).length = q := by simp [tabRow]
theorem tabTo_len (A B : Nat → Nat) (p q k : Nat) : (tabTo A B p q k).length = p := by simp [tabTo]
theorem tabRow_getD (A B : Nat → Nat) (q k x : Nat) {y : Nat} (h : y < q) : (tabRow A B q k x).getD y 0 = (cellN A B k x y : Int) := by simp [tabRow, List.getD, h]
theorem tabTo_getD (A B : Nat → Nat) (p q k : Nat) {x : Nat} (h : x < p) : (tabTo A B p q k).getD x [] = tabRow A B q k x := by simp [tabTo, List.getD, h]
theorem tabTo_zero (A B : Nat → Nat) (p q : Nat) : tabTo A B p q 0 = List.replicate p (List.replicate q 0) := by
  unfold tabTo
  apply List.ext_getElem (by simp)
  intro x h1 h2
  simp only [List.getElem_map, List.getElem_range, List.getElem_replicate]
  unfold tabRow
  apply List.ext_getElem (by simp)
  intro y h3 h4
  simp [cellN, cntB]
theorem tabTo_step (A B : Nat → Nat) (p q k : Nat) (hA : A k < p) (hB : B k < q) :
    tabTo A B p q (k + 1) = (tabTo A B p q k).set (A k) ((tabRow A B q k (A k)).set (B k) ((cellN A B k (A k) (B k) : Int) + 1)) := by
  unfold tabTo
  apply List.ext_getElem (by simp)
  intro x h1 h2
  simp only [List.length_map, List.length_range] at h1
  rw [List.getElem_set]
  simp only [List.getElem_map, List.getElem_range]
  by_cases e : A k = x
  · subst e
    rw [if_pos rfl]
    unfold tabRow
    apply List.ext_getElem (by simp)
    intro y h3 h4
    simp only [List.length_map, List.length_range] at h3
    rw [List.getElem_set]
    simp only [List.getElem_map, List.getElem_range]
    rw [cellN_next]
    by_cases e2 : B k = y
    · subst e2
      rw [if_pos rfl, if_pos ⟨rfl, rfl⟩]
      omega
    · rw [if_neg e2, if_neg (fun h => e2 h.2)]
      rfl
  · rw [if_neg e]
    unfold tabRow
    apply List.ext_getElem (by simp)
    intro y h3 h4
    simp only [List.getElem_map, List.getElem_range]
    rw [cellN_next, if_neg (fun h => e h.1)]
    rfl
theorem cellN_le (A B : Nat → Nat) (k x y : Nat) : cellN A B k x y ≤ k := cntB_le _ _

theorem part_num {xs : List Int} (hp : partIn xs = true) {k : Nat} (hk : k < xs.length) : 0 ≤ xs.getD k 0 ∧ xs.getD k 0 < pSize xs := by
  have h := (kOut_inv xs).1 k hk
  have e := (kOut_of_ok xs (partIn_ok hp)).1
  have e2 := pSize_kOut xs
  rw [e] at h e2
  rw [e2]
  exact h

def numAtN (xs : List Int) (i : Nat) : Nat := (xs.getD i 0).toNat
theorem numAtN_int {xs : List Int} (hp : partIn xs = true) {k : Nat} (hk : k < xs.length) : xs.getD k 0 = (numAtN xs k : Int) ∧ numAtN xs k < (pSize xs).toNat := by
  have := part_num hp hk
  unfold numAtN
  omega

def shareOf (xs ys : List Int) : List (List Int) := tabTo (numAtN xs) (numAtN ys) (pSize xs).toNat (pSize ys).toNat xs.length
theorem rep_snoc (k q : Nat) : List.replicate k (List.replicate q (0 : Int)) ++ [List.replicate q 0] = List.replicate (k + 1) (List.replicate q 0) := by rw [List.replicate_succ']

set_option maxHeartbeats 4000000 in
theorem l7Table_v (v u : Value) (xs ys : List Int) (w : World) (hv : RdV w v xs) (hu : RdV w u ys) (hp : partIn xs = true) (hpy : partIn ys = true) (hl : ys.length = xs.length) :
    Calls Tryz.prog 172 #[v, u] w (FreshM w (shareOf xs ys)) := by
  have HV := Lib.hid hv
  have HU := Lib.hid hu
  have hl8 := partIn_len hp
  unfold shareOf
  have b1 := pSize_bd (partIn_small hp)
  have b2 := pSize_bd (partIn_small hpy)
  have b3 := pSize_pos (partIn_small hp) hl8.1
  obtain ⟨p, hpe⟩ := Int.eq_ofNat_of_zero_le b1.1
  obtain ⟨q, hq⟩ := Int.eq_ofNat_of_zero_le b2.1
  have hnx : ∀ k, k < xs.length → xs.getD k 0 = (numAtN xs k : Int) ∧ numAtN xs k < p := fun k hk => by have := numAtN_int hp hk; rw [hpe] at this; simpa using this
  have hny : ∀ k, k < xs.length → ys.getD k 0 = (numAtN ys k : Int) ∧ numAtN ys k < q := fun k hk => by have := numAtN_int hpy (k := k) (by omega); rw [hq] at this; simpa using this
  have HP := Lib.hid hpe
  have HQ := Lib.hid hq
  rw [hpe, hq]
  rw [hpe] at b1 b3
  rw [hq] at b2
  simp only [Int.toNat_natCast]
  obtain ⟨bx, ox, cx, rfl, hcx, hbx, hcx1, hcx2⟩ := rdv_cells hv hl8.1
  obtain ⟨by', oy, cy, rfl, hcy, hby, hcy1, hcy2⟩ := rdv_cells hu (by omega)
  obtain ⟨n, hn⟩ : ∃ n, n = xs.length := ⟨_, rfl⟩
  have HN := Lib.hid hn
  have HLY := Lib.hid hl
  have PX := Lib.hid hp
  have PY := Lib.hid hpy
  obtain ⟨A, hA⟩ : ∃ A, A = numAtN xs := ⟨_, rfl⟩
  obtain ⟨B, hB⟩ : ∃ B, B = numAtN ys := ⟨_, rfl⟩
  rw [← hA] at hnx ⊢
  rw [← hB] at hny ⊢
  rw [hl] at HU ⊢
  rw [← hn] at HV HU hnx hny hl8 HLY ⊢
  have HNX := Lib.hid hnx
  have HNY := Lib.hid hny
  obtain ⟨j0, hj, hy0, hy1, hy2⟩ := info_parts Tryz.infoInt
  clear hv hu hn hl hp hpy hpe hq hA hB hnx hny hcx1 hcx2 hcy1 hcy2
  go_enter Tryz.func172, Tryz.ntmps172
  go_wp2
  go_loopw [5, 6] (fun o i wr => ∃ k g cap : Nat, k ≤ p ∧ i = .int .i64 k ∧ o = .slice (some ⟨g, 0, none⟩) k cap ∧ OwnM wr w.heap.size wr.heap.size (.slice (some ⟨g, 0, none⟩) k cap) (List.replicate k (List.replicate q (0 : Int))) ∧ Below w.heap.size w wr) (fun _ i _ => p - (intOf i).toNat)
  case atStart => exact ⟨0, w.heap.size, 0, Nat.zero_le _, rfl, rfl, by have := ownM_empty w w.heap.size (Nat.le_refl _); simpa using this, (Below.refl _ _).alloc (Nat.le_refl _) _⟩
  case round =>
    obtain ⟨k, g, cap, hk, rfl, rfl, hown, hbel⟩ := hrel
    have HO := Lib.hid hown
    have hBsz := hbel.size
    clear hown
    by_cases hlt : k < p
    · go_wp2_with fail
      refine (l1Size_p _ xs _ (rdv_below HV.out hbel) PX).mono ?_
      rintro e w' ⟨rfl, rfl⟩
      rw [HP.out]
      go_wp2_with fail
      refine (l1Size_p _ ys _ (rdv_below HU.out hbel) PY).mono ?_
      rintro e w' ⟨rfl, rfl⟩
      rw [HQ.out]
      go_wp2_with (at_make; refine wpList_make_full _ rfl _ _ 26 rfl wr.heap.size 3 j0 (.int .i64 0) 1 Tryz.underlying26 hj hy0 hy1 _ _ _ _ q rfl rfl rfl rfl (by rw [hy2]; omega) (by unfold maxLen; omega) (Nat.le_refl _) ?_)
      intro w2 hown2 hgrow2
      have hb2 : Below wr.heap.size wr w2 := (Below.refl _ _).grown hgrow2 (Nat.le_refl _) (fun k h => by cases h)
      have hu2 := own_made hown2
      have hiu := inB_of_own hu2
      have hO2 := ownM_below HO.out hb2
      have hbel2 : Below w.heap.size w w2 := below_step hbel hb2
      have hs2 := hb2.size
      have HO2 := Lib.hid hO2
      have HU2 := Lib.hid (own_mono hu2 hBsz)
      have HB2 := Lib.hid hbel2
      clear hown2 hgrow2 hu2 hO2 hb2 hbel2
      go_wp2_with (at_builtin; refine wpList_row rfl _ _ rfl w w2 (.slice (some ⟨wr.heap.size, 0, none⟩) q q) rfl wr.heap.size g k cap _ rfl HO2.out (by simp) rfl (List.replicate q 0) HU2.out hiu ⟨hBsz, hs2⟩ (by omega) HB2.out ?_)
      intro g' cap' w3 hown3 hb3 hs3
      rw [rep_snoc] at hown3
      have HO3 := Lib.hid hown3
      have HB3 := Lib.hid hb3
      clear hown3 hb3
      go_wp2
      go_roundw
      case rel => exact ⟨k + 1, g', cap', by omega, by go_num, rfl, HO3.out, HB3.out⟩
      case measure => simp [intOf]; omega
    · have hkp : k = p := by omega
      subst hkp
      have hown := HO.out
      rw [← tabTo_zero A B] at hown
      obtain ⟨wo, hwo⟩ : ∃ wo : World, wo = wr := ⟨_, rfl⟩
      subst hwo
      have HO2 := Lib.hid hown
      have hgw := (ownM_slot hown).1
      clear hown HO
      go_wp2_with fail
      refine (l1Size_p _ xs _ (rdv_below HV.out hbel) PX).mono ?_
      rintro e w' ⟨rfl, rfl⟩
      rw [HP.out]
      go_wp2
      go_loopw [7] (fun i wx => ∃ t : Nat, t ≤ n ∧ i = .int .i64 t ∧ OwnM wx w.heap.size wo.heap.size (.slice (some ⟨g, 0, none⟩) k cap) (tabTo A B k q t) ∧ Below w.heap.size w wx ∧ wo.heap.size ≤ wx.heap.size) (fun i _ => n - (intOf i).toNat)
      case atStart => exact ⟨0, Nat.zero_le _, rfl, HO2.out, hbel, Nat.le_refl _⟩
      case round =>
        obtain ⟨t, ht, rfl, hown, hbel, hsz⟩ := hrel
        by_cases htn : t < n
        · obtain ⟨hx1, hx2⟩ := HNX.out t htn
          obtain ⟨hy1, hy2⟩ := HNY.out t htn
          have hc1 := cells_at (cells_below hcx hbel) t (by rw [← HN.out]; exact htn)
          have hc2 := cells_at (cells_below hcy hbel) t (by have := HLY.out; omega)
          rw [hx1] at hc1
          rw [hy1] at hc2
          have hst := tabTo_step A B k q t hx2 hy2
          have hcl := cellN_le A B t (A t) (B t)
          have hlr := tabTo_len A B k q t
          obtain ⟨u1, hcu, hou, hiu, hset⟩ := ownM_row hown (A t) (by rw [hlr]; exact hx2)
          rw [tabTo_getD A B k q t hx2] at hou
          obtain ⟨X, hX⟩ : ∃ X, X = A t := ⟨_, rfl⟩
          obtain ⟨Y, hY⟩ : ∃ Y, Y = B t := ⟨_, rfl⟩
          rw [← hX, ← hY] at hst hcl
          rw [← hX] at hx2 hc1 hcu hou hset
          rw [← hY] at hy2 hc2
          rcases own_view hou with ⟨_, h0⟩ | ⟨g2, cap2, hue, hg1, hg2, _, _, hgc, hgf⟩
          · have := tabRow_len A B q t X
            rw [h0] at this
            simp at this
            omega
          · have hz := hgc Y (by rw [tabRow_len]; exact hy2)
            rw [tabRow_getD _ _ _ _ _ hy2] at hz
            have hf := hgf Y
            rw [tabRow_len] at hue
            subst hue
            obtain ⟨z, hze⟩ : ∃ z, z = cellN A B t X Y := ⟨_, rfl⟩
            rw [← hze] at hst hcl hz
            obtain ⟨hs1, hs2⟩ := own_stored hou (by rw [tabRow_len]) Y ((z : Int) + 1)
            have hnew := hset _ _ hs1 hs2
            rw [← hst] at hnew
            have HNEW := Lib.hid hnew
            have b1 : (t : Int) < n := by omega
            have b2 : (X : Int) < k := by omega
            have b3 : (Y : Int) < q := by omega
            have b4 : IntKind.i64.wrap ((z : Int) + 1) = (z : Int) + 1 := IntWalk.i64_in _ (by omega)
            have hgs3 : w.heap.size ≤ g2 := hg1
            have hbel3 : Below w.heap.size w ((wr.setCell ⟨g2, Y, none⟩ (.int .i64 ((z : Int) + 1)))) := hbel.setCell hgs3 _
            have HB3 := Lib.hid hbel3
            have hsz3 : (wr.setCell ⟨g2, Y, none⟩ (.int .i64 ((z : Int) + 1))).heap.size = wr.heap.size := by simp [World.setCell]
            have HSZ := Lib.hid hsz3
            clear hown hou hset hst hnew hs1 hs2 hX hY hx1 hy1 hze hlr hgc hgf hiu hbel3 hsz3
            go_wp2
            go_still_tail 26, (by kernel_rfl)
            change wpList _ _ _ _ _ wr.drew
            go_wp2
            go_roundw
            case rel => exact ⟨t + 1, by omega, by go_num, ownM_below HNEW.out ((Below.refl _ _).drew), HB3.out.drew, by show wo.heap.size ≤ (wr.setCell _ _).heap.size; rw [HSZ.out]; exact hsz⟩
            case measure => simp [intOf]; omega
        · have htn : t = n := by omega
          subst htn
          have HOF := Lib.hid hown
          clear hown
          go_wp2
          go_ret
          exact ⟨_, rfl, ownM_mono HOF.out (Nat.le_refl _) hsz, hbel⟩
end

section
open Go.RowKit

theorem bestR_le {T : Nat → Nat → Nat} {Q : Nat} (hT : ∀ x y, T x y ≤ 8) : ∀ d row used, bestR T Q d row used ≤ 8 * d := by
  intro d
  induction d with
  | zero => intro row used; exact Nat.le_refl _
  | succ d ih =>
    intro row used
    unfold bestR
    obtain ⟨_, _, h⟩ := fold_ge (fun c => used.testBit c) (fun c => T row c + bestR T Q d (row + 1) (used ||| 2 ^ c)) (List.range Q) (bestR T Q d (row + 1) used)
    have h0 := ih (row + 1) used
    rcases h with h | ⟨c, _, _, h⟩
    · rw [h]; omega
    · have h1 := ih (row + 1) (used ||| 2 ^ c)
      have h2 := hT row c
      rw [h]; omega

def bestTo (T : Nat → Nat → Nat) (Q d row used c : Nat) : Nat := (List.range c).foldl (fun m c => if used.testBit c then m else max m (T row c + bestR T Q d (row + 1) (used ||| 2 ^ c))) (bestR T Q d (row + 1) used)
theorem bestTo_end (T : Nat → Nat → Nat) (Q d row used : Nat) : bestTo T Q d row used Q = bestR T Q (d + 1) row used := rfl
theorem bestTo_succ (T : Nat → Nat → Nat) (Q d row used c : Nat) : bestTo T Q d row used (c + 1) = if used.testBit c then bestTo T Q d row used c else max (bestTo T Q d row used c) (T row c + bestR T Q d (row + 1) (used ||| 2 ^ c)) := by
  unfold bestTo
  rw [List.range_succ, List.foldl_append]
  rfl
theorem bestTo_le {T : Nat → Nat → Nat} {Q : Nat} (hT : ∀ x y, T x y ≤ 8) (d row used c : Nat) : bestTo T Q d row used c ≤ 8 * d + 8 := by
  obtain ⟨_, _, h⟩ := fold_ge (fun c => used.testBit c) (fun c => T row c + bestR T Q d (row + 1) (used ||| 2 ^ c)) (List.range c) (bestR T Q d (row + 1) used)
  have h0 := bestR_le hT (Q := Q) d (row + 1) used
  unfold bestTo
  rcases h with h | ⟨c', _, _, h⟩
  · rw [h]; omega
  · have h1 := bestR_le hT (Q := Q) d (row + 1) (used ||| 2 ^ c')
    have h2 := hT row c'
    rw [h]; omega

theorem shift_fact : ∀ b, b < 256 → ∀ t, t < 8 → (bits BinOp.and IntKind.i64 ((b : Nat) / 2 ^ t : Int) 1 == 0) = !b.testBit t := by decide +kernel
theorem or64_factV : ∀ b, b < 256 → ∀ t, t < 8 → bits BinOp.or IntKind.i64 ((b : Nat) : Int) (IntKind.i64.wrap (2 ^ t)) = ((b ||| 2 ^ t : Nat) : Int) := by decide +kernel

theorem quiet_mk {P : Program} {f : FuncId} {args : Array Value} {w : World} {n : Nat} {r : Int} (h : Calls P f args (w.drewN n) (QI (w.drewN n) r)) : Calls P f args (w.drewN n) fun e w'' => e = .returned (.int .i64 r) ∧ ∃ m, w'' = w.drewN m :=
  h.mono fun _ _ ⟨he, m, hm⟩ => ⟨he, n + m, by rw [hm, World.drewN_drewN]⟩
theorem rdM_quiet {w w' : World} {v : Value} {xss : List (List Int)} (h : RdM w v xss) (hq : Quiet w w') : RdM w' v xss := rdM_below h hq.below

set_option maxHeartbeats 4000000 in
theorem l7Best_v (v : Value) (T : Nat → Nat → Nat) (xss : List (List Int)) (P Q : Nat) (hP : P ≤ 8) (hQ : Q ≤ 8) (hT : ∀ x y, T x y ≤ 8) (hl : xss.length = P) (hr : ∀ x, x < P → (xss.getD x []).length = Q ∧ ∀ y, y < Q → (xss.getD x []).getD y 0 = (T x y : Int)) :
    ∀ d row used, row + d = P → used < 256 → ∀ w, RdM w v xss → Calls Tryz.prog 171 #[v, .int .i64 (row : Nat), .int .i64 (used : Nat)] w (QI w (bestR T Q d row used)) := by
  intro d
  induction d with
  | zero =>
    intro row used hd hu w hv
    obtain ⟨ao, ca, vs, hvl, rfl, h1, h2, h3, h4⟩ := hv
    have he : row = xss.length := by omega
    clear h3 h4 hr
    subst he
    go_enter Tryz.func171, Tryz.ntmps171
    go_wp2
    go_ret
    exact ⟨rfl, Quiet.refl _⟩
  | succ d ih =>
    intro row used hd hu w hv
    have HV := Lib.hid hv
    have HIH := Lib.hid ih
    clear ih
    obtain ⟨ao, ca, vs, hvl, rfl, h1, h2, h3, h4⟩ := hv
    rcases h3 with h3 | ⟨b, off, rfl, hc⟩
    · rw [h3] at hl; simp at hl; omega
    · have hrow := hr row (by omega)
      have hck := hc row (by omega)
      have hrk := h4 row (by omega)
      obtain ⟨u, hu0⟩ : ∃ u, u = vs.getD row undef := ⟨_, rfl⟩
      obtain ⟨ys, hys⟩ : ∃ ys, ys = xss.getD row [] := ⟨_, rfl⟩
      rw [← hu0] at hck hrk
      rw [← hys] at hrk hrow
      obtain ⟨hyl, hyv⟩ := hrow
      have HYV := Lib.hid hyv
      have HRK := Lib.hid hrk
      obtain ⟨uo, uc, rfl, hrd, _, _⟩ := hrk
      rw [hyl] at hck HRK
      have HRD := Lib.hid hrd
      have HYL := Lib.hid hyl
      obtain ⟨p, hp⟩ : ∃ p, p = xss.length := ⟨_, rfl⟩
      rw [← hp] at HV HIH hl ⊢
      have hne : ((row : Int) == (p : Int)) = false := by simp; omega
      have brow : (row : Int) < p := by omega
      have HC := Lib.hid hck
      have HIH1 := Lib.hid (HIH.out (row + 1) used (by omega) hu _ HV.out)
      have hb0 := bestR_le hT (Q := Q) d (row + 1) used
      have HL := Lib.hid hl
      clear hu0 hys hyl hyv hrd hp hc h4 hr hl
      go_enter Tryz.func171, Tryz.ntmps171
      go_wp2_with fail
      refine HIH1.out.mono ?_
      rintro e w1 ⟨rfl, hq1⟩
      have HQ1 := Lib.hid hq1
      clear hq1
      go_wp2
      go_loopw [7, 8] (fun m c wr => ∃ (k s : Nat), k ≤ Q ∧ c = .int .i64 k ∧ m = .int .i64 s ∧ Hid (s = bestTo T Q d row used k) ∧ Quiet w wr) (fun _ c _ => Q - (intOf c).toNat)
      case atStart => exact ⟨0, _, Nat.zero_le _, rfl, rfl, Lib.hid rfl, HQ1.out⟩
      case round =>
        obtain ⟨k, s, hk, rfl, rfl, HS, hq⟩ := hrel
        have hck : wr.cell? ⟨b, off + row, none⟩ = some (.slice uo Q uc) := by obtain ⟨n, rfl⟩ := hq; exact HC.out
        have hs : s ≤ 1000 := by have := HS.out; have := bestTo_le hT (Q := Q) d row used k; omega
        by_cases hkQ : k < Q
        · have hsh := shift_fact used hu k (by omega)
          have hor := or64_factV used hu k (by omega)
          have hol := or_lt used hu k (by omega)
          have hst := bestTo_succ T Q d row used k
          cases htb : used.testBit k
          · rw [htb] at hsh hst
            have hsh : (bits BinOp.and IntKind.i64 ((used : Int) / 2 ^ k) 1 == 0) = true := hsh
            rw [if_neg (by simp)] at hst
            have HIH2 := Lib.hid fun (n : Nat) => quiet_mk (HIH.out (row + 1) (used ||| 2 ^ k) (by omega) hol (wr.drewN n) (rdM_quiet HV.out (hq.drewN n)))
            rcases HRD.out with h0 | ⟨bb, oo, rfl, hcr⟩
            · have := HYL.out; rw [h0] at this; simp at this; omega
            have hcz : wr.cell? ⟨bb, oo + k, none⟩ = some (.int .i64 (T row k : Nat)) := by
              have e1 := hcr k (by rw [HYL.out]; exact hkQ)
              rw [HYV.out k hkQ] at e1
              obtain ⟨n, rfl⟩ := hq
              exact e1
            have hr1 := bestR_le hT (Q := Q) d (row + 1) (used ||| 2 ^ k)
            have ht1 := hT row k
            obtain ⟨r, hre⟩ : ∃ r, r = bestR T Q d (row + 1) (used ||| 2 ^ k) := ⟨_, rfl⟩
            obtain ⟨t, hte⟩ : ∃ t, t = T row k := ⟨_, rfl⟩
            obtain ⟨o, hoe⟩ : ∃ o, o = used ||| 2 ^ k := ⟨_, rfl⟩
            rw [← hre] at hr1 HIH2 hst
            rw [← hte] at ht1 hcz hst
            rw [← hoe] at hor hol HIH2
            have bk : (k : Int) < Q := by omega
            have HST := Lib.hid hst
            have he1 : IntKind.i64.wrap ((row : Int) + 1) = (row : Int) + 1 := IntWalk.i64_in _ (by omega)
            have he2 : bits BinOp.or IntKind.i64 (used : Int) (wrap64 (2 ^ k)) = (o : Int) := by rw [← IntWalk.i64_left]; exact hor
            rw [show ((row + 1 : Nat) : Int) = (row : Int) + 1 by omega] at HIH2
            clear hst hcr hre hte hoe
            go_wp2
            go_quiet ((go_at_call 171; (first | rw [he1] | rw [he2] | skip); exact HIH2.out _))
            go_wp2
            go_roundw
            case rel => exact ⟨k + 1, max s (t + r), by omega, by go_num, by go_num, Lib.hid (by rw [HST.out, ← HS.out]), hq.drewN _⟩
            case measure => simp [intOf]; omega
          · rw [htb] at hsh hst
            have hsh : (bits BinOp.and IntKind.i64 ((used : Int) / 2 ^ k) 1 == 0) = false := hsh
            rw [if_pos rfl] at hst
            have HST := Lib.hid hst
            clear hst
            go_wp2
            go_roundw
            case rel => exact ⟨k + 1, s, by omega, by go_num, rfl, Lib.hid (by rw [HST.out]; exact HS.out), hq⟩
            case measure => simp [intOf]; omega
        · have hkQ : k = Q := by omega
          subst hkQ
          go_wp2
          go_ret
          exact ⟨ret_int (by rw [HS.out, bestTo_end]), hq⟩
end

end Go.Proofs.YtmflecemkodklaaGreatDoor
