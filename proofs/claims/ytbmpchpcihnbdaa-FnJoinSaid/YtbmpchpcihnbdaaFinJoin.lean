/-
  The contracts of looseLinks, (*link).least, (*link).tie, impl.FinerJoin.
-/
import Derived.Test.YtbmpchpcihnbdaaJoinMath
import Derived.Test.YtbmpchpcihnbdaaPut
namespace Go.Proofs.Ytbmpchpcihnbdaa
set_option linter.unusedSimpArgs false
set_option linter.unusedVariables false
set_option linter.unnecessarySimpa false
open Go.RowKit
set_option maxRecDepth 100000

def toPtr (C : Nat) (par : Nat → Nat) (j : Nat) : Option Addr := if par j = j then none else some ⟨C + par j, 0, none⟩

/-- The slice at block B holds pointers to n things, in the blocks behind it; each points on as par tells. -/
def Links (w : World) (B C n : Nat) (par : Nat → Nat) : Prop := B < C ∧ ∀ j, j < n →
  w.cell? ⟨B, j, none⟩ = some (.pointer (some ⟨C + j, 0, none⟩)) ∧ w.cell? ⟨C + j, 0, none⟩ = some (.int .i64 (j : Int)) ∧
  w.cell? ⟨C + j, 1, none⟩ = some (.pointer (toPtr C par j)) ∧ w.frozen? ⟨C + j, 1, none⟩ = false

theorem links_quiet {w w' : World} {B C n : Nat} {par : Nat → Nat} (h : Links w B C n par) (hq : Quiet w w') : Links w' B C n par := by
  obtain ⟨m, rfl⟩ := hq
  exact h

theorem links_below {w w' : World} {B C n : Nat} {par : Nat → Nat} (h : Links w B C n par) (hb : Below w.heap.size w w') : Links w' B C n par := ⟨h.1, fun j hj => by
  obtain ⟨h1, h2, h3, h4⟩ := h.2 j hj
  refine ⟨by rw [hb.cell (World.block_lt_of_cell? w _ h1)]; exact h1, by rw [hb.cell (World.block_lt_of_cell? w _ h2)]; exact h2, by rw [hb.cell (World.block_lt_of_cell? w _ h3)]; exact h3, ?_⟩
  rw [hb.frozen (World.block_lt_of_cell? w _ h3)]
  exact h4⟩

theorem cell_set_other {w : World} {p q : Addr} {v : Value} (h : p ≠ q) : (w.setCell p v).cell? q = w.cell? q := by
  first | exact World.cell?_setCell_other h | exact World.cell?_setCell_other _ h | exact World.cell?_setCell_other _ _ h | exact World.cell?_setCell_other _ _ _ h | exact World.cell?_setCell_other _ _ _ _ h
theorem cell_set_same {w : World} {p : Addr} {u v : Value} (h : w.cell? p = some u) : (w.setCell p v).cell? p = some v := by
  first | exact World.cell?_setCell_same h | exact World.cell?_setCell_same _ h | exact World.cell?_setCell_same _ _ h | exact World.cell?_setCell_same _ _ _ h

theorem links_set {w : World} {B C n : Nat} {par : Nat → Nat} (h : Links w B C n par) (g o : Nat) (v : Value) (hg : g ≠ B ∧ (g < C ∨ C + n ≤ g)) : Links (w.setCell ⟨g, o, none⟩ v) B C n par := ⟨h.1, fun j hj => by
  obtain ⟨h1, h2, h3, h4⟩ := h.2 j hj
  refine ⟨?_, ?_, ?_, by rw [World.frozen?_setCell]; exact h4⟩
  · rw [cell_set_other (by intro e; simp at e <;> omega)]; exact h1
  · rw [cell_set_other (by intro e; simp at e <;> omega)]; exact h2
  · rw [cell_set_other (by intro e; simp at e <;> omega)]; exact h3⟩

theorem links_hang {w : World} {B C n : Nat} {par : Nat → Nat} (h : Links w B C n par) {a b : Nat} (hb : b < n) (hab : a < b) :
    Links (w.setCell ⟨C + b, 1, none⟩ (.pointer (some ⟨C + a, 0, none⟩))) B C n (hang par b a) := ⟨h.1, fun j hj => by
  have hBC := h.1
  obtain ⟨h1, h2, h3, h4⟩ := h.2 j hj
  refine ⟨?_, ?_, ?_, by rw [World.frozen?_setCell]; exact h4⟩
  · rw [cell_set_other (by intro e; simp at e <;> omega)]; exact h1
  · rw [cell_set_other (by intro e; simp at e)]; exact h2
  · by_cases e : j = b
    · subst e
      rw [cell_set_same h3]
      unfold toPtr hang
      rw [if_pos rfl, if_neg (by omega)]
    · rw [cell_set_other (by intro e2; simp at e2 <;> omega), h3]
      unfold toPtr hang
      rw [if_neg e]⟩

def ptrBlock : Value → Nat
  | .pointer (some a) => a.block
  | _ => 0

set_option maxHeartbeats 800000 in
theorem least_any (B C n j : Nat) (par rt : Nat → Nat) (w : World) (hl : Links w B C n par) (hf : Forest n par rt) (hj : j < n) :
    Calls Try.prog 107 #[.pointer (some ⟨C + j, 0, none⟩)] w fun e w' => e = .returned (.pointer (some ⟨C + rt j, 0, none⟩)) ∧ w = w' := by
  have HL := Lib.hid hl
  have HF := Lib.hid hf
  clear hl hf
  go_enter Try.func107, Try.ntmps107
  go_wp2
  go_loop [0] (fun u => ∃ c, c < n ∧ u = .pointer (some ⟨C + c, 0, none⟩) ∧ rt c = rt j) (fun u => ptrBlock u)
  case atStart => exact ⟨j, hj, rfl, rfl⟩
  case round =>
    obtain ⟨c, hc, rfl, hrt⟩ := hrel
    have HR := Lib.hid hrt
    obtain ⟨h1, h2, h3, h4⟩ := HL.out.2 c hc
    clear hrt
    rcases (HF.out c hc).2 with ⟨hp, hr⟩ | ⟨hp, hr⟩
    · have e : toPtr C par c = none := by unfold toPtr; rw [if_pos hp]
      rw [e] at h3
      have HRC := Lib.hid hr
      clear e hp hr h4
      go_wp2
      go_ret
      exact ⟨by rw [← HR.out, HRC.out]; rfl, rfl⟩
    · have e : toPtr C par c = some ⟨C + par c, 0, none⟩ := by unfold toPtr; rw [if_neg (by omega)]
      rw [e] at h3
      obtain ⟨d, hd⟩ : ∃ d, d = par c := ⟨_, rfl⟩
      rw [← hd] at h3 hp hr
      have HRC := Lib.hid hr
      clear e hr h4 hd
      go_wp2
      go_round
      case rel => exact ⟨d, by omega, rfl, by rw [HRC.out, HR.out]⟩
      case measure => simp [ptrBlock]; omega

theorem rt_le {n : Nat} {par rt : Nat → Nat} (h : Forest n par rt) {j : Nat} (hj : j < n) : rt j < n ∧ rt (rt j) = rt j := ⟨(h j hj).1, forest_root h hj⟩

/-- What a tie leaves. -/
def Tied (w : World) (B C n : Nat) (rt : Nat → Nat) (e : Ending) (w' : World) : Prop := e = .returned (.tuple #[]) ∧ ∃ par', Links w' B C n par' ∧ Forest n par' rt ∧ Below C w w'

set_option maxHeartbeats 1600000 in
theorem tie_any (B C n i k : Nat) (par rt : Nat → Nat) (w : World) (hl : Links w B C n par) (hf : Forest n par rt) (hi : i < n) (hk : k < n) :
    Calls Try.prog 88 #[.pointer (some ⟨C + i, 0, none⟩), .pointer (some ⟨C + k, 0, none⟩)] w (Tied w B C n (tied rt i k)) := by
  have HL := Lib.hid hl
  have HF := Lib.hid hf
  obtain ⟨ha, har⟩ := rt_le hf hi
  obtain ⟨hb, hbr⟩ := rt_le hf hk
  have hres : tied rt i k = if rt i < rt k then rehang rt (rt k) (rt i) else if rt k < rt i then rehang rt (rt i) (rt k) else rt := rfl
  have HI := Lib.hid (fun w0 => least_any B C n i par rt w0)
  have HK := Lib.hid (fun w0 => least_any B C n k par rt w0)
  obtain ⟨a, hae⟩ : ∃ a, a = rt i := ⟨_, rfl⟩
  obtain ⟨b, hbe⟩ : ∃ b, b = rt k := ⟨_, rfl⟩
  rw [← hae] at ha har hres HI
  rw [← hbe] at hb hbr hres HK
  have HRES := Lib.hid hres
  have HAR := Lib.hid har
  have HBR := Lib.hid hbr
  obtain ⟨ha1, ha2, ha3, ha4⟩ := hl.2 a ha
  obtain ⟨hb1, hb2, hb3, hb4⟩ := hl.2 b hb
  have b1 : ((a : Nat) : Int) = (a : Int) := rfl
  clear hl hf hres hae hbe har hbr b1
  rcases Nat.lt_trichotomy a b with hab | hab | hab
  · have hc : ((a : Int) < (b : Int)) := by omega
    go_enter Try.func88, Try.ntmps88
    go_wp2_with fail
    refine (HI.out _ HL.out HF.out hi).mono ?_
    rintro e w' ⟨rfl, rfl⟩
    go_wp2_with fail
    refine (HK.out _ HL.out HF.out hk).mono ?_
    rintro e w' ⟨rfl, rfl⟩
    go_wp2
    go_quiet (fail)
    go_wp2
    go_end0
    refine ⟨rfl, hang par b a, links_hang (links_quiet HL.out (Quiet.mk _ _)) hb hab, ?_, (below_drewN (Below.refl _ _) _).setCell (by simp <;> omega) _⟩
    rw [HRES.out, if_pos hab]
    exact forest_hang HF.out hb hab HAR.out HBR.out
  · have HE := Lib.hid hab
    obtain ⟨c, hc⟩ : ∃ c : Int, c = (a : Int) := ⟨_, rfl⟩
    have hcb : c = (b : Int) := by omega
    rw [← hc] at ha2
    rw [← hcb] at hb2
    clear hc hcb hab
    go_enter Try.func88, Try.ntmps88
    go_wp2_with fail
    refine (HI.out _ HL.out HF.out hi).mono ?_
    rintro e w' ⟨rfl, rfl⟩
    go_wp2_with fail
    refine (HK.out _ HL.out HF.out hk).mono ?_
    rintro e w' ⟨rfl, rfl⟩
    go_wp2
    go_quiet (fail)
    go_wp2
    go_quiet (fail)
    go_wp2
    go_end0
    refine ⟨rfl, par, links_quiet HL.out (by first | exact Quiet.mk _ _ | exact (Quiet.mk _ _).drewN _), ?_, by first | exact below_drewN (Below.refl _ _) _ | exact below_drewN (below_drewN (Below.refl _ _) _) _⟩
    have hab := HE.out
    rw [HRES.out, if_neg (by omega), if_neg (by omega)]
    exact HF.out
  · have hc : ((b : Int) < (a : Int)) := by omega
    have hc2 : ¬ ((a : Int) < (b : Int)) := by omega
    go_enter Try.func88, Try.ntmps88
    go_wp2_with fail
    refine (HI.out _ HL.out HF.out hi).mono ?_
    rintro e w' ⟨rfl, rfl⟩
    go_wp2_with fail
    refine (HK.out _ HL.out HF.out hk).mono ?_
    rintro e w' ⟨rfl, rfl⟩
    go_wp2
    go_quiet (fail)
    go_wp2
    go_quiet (fail)
    go_wp2
    go_end0
    refine ⟨rfl, hang par a b, links_hang (links_quiet HL.out (by first | exact Quiet.mk _ _ | exact (Quiet.mk _ _).drewN _)) ha hab, ?_, Below.setCell (by first | exact below_drewN (Below.refl _ _) _ | exact below_drewN (below_drewN (Below.refl _ _) _) _) (by simp <;> omega) _⟩
    rw [HRES.out, if_neg (by omega), if_pos hab]
    exact forest_hang HF.out ha hab HBR.out HAR.out

theorem Try.infoLink : (Try.prog.info? 78).map (fun i => (i.zero, i.size, i.bytes)) = some (some (.pointer none), 1, 8) := by kernel_rfl

/-- The pointers that are there after k rounds. -/
def ptrsTo (C n k : Nat) : List Value := (List.range n).map fun j => if j < k then .pointer (some ⟨C + j, 0, none⟩) else .pointer none

theorem ptrsTo_len (C n k : Nat) : (ptrsTo C n k).length = n := by simp [ptrsTo]
theorem ptrsTo_step (C n k : Nat) (h : k < n) : (ptrsTo C n k).set k (.pointer (some ⟨C + k, 0, none⟩)) = ptrsTo C n (k + 1) := by
  apply List.ext_getElem
  · simp [ptrsTo]
  · intro j h1 h2
    simp [ptrsTo] at h1 h2
    rw [List.getElem_set]
    by_cases e : k = j
    · subst e
      simp [ptrsTo]
    · rw [if_neg e]
      simp only [ptrsTo, List.getElem_map, List.getElem_range]
      by_cases h3 : j < k
      · rw [if_pos h3, if_pos (by omega)]
      · rw [if_neg h3, if_neg (by omega)]
theorem ptrsTo_zero (C n : Nat) : ptrsTo C n 0 = List.replicate n (.pointer none) := by
  apply List.ext_getElem <;> simp [ptrsTo]

/-- The first k things lie in the blocks from C on. -/
def Things (w : World) (C k : Nat) : Prop := ∀ j, j < k → w.cell? ⟨C + j, 0, none⟩ = some (.int .i64 (j : Int)) ∧ w.cell? ⟨C + j, 1, none⟩ = some (.pointer none) ∧ w.frozen? ⟨C + j, 1, none⟩ = false

theorem things_keep {w w' : World} {C k : Nat} (h : Things w C k) (hc : ∀ j o, j < k → w'.cell? ⟨C + j, o, none⟩ = w.cell? ⟨C + j, o, none⟩) (hf : ∀ j o, j < k → w'.frozen? ⟨C + j, o, none⟩ = w.frozen? ⟨C + j, o, none⟩) : Things w' C k := fun j hj => by
  rw [hc j 0 hj, hc j 1 hj, hf j 1 hj]
  exact h j hj

theorem things_step {wr : World} {C k B : Nat} (hth : Things wr C k) (hsz : wr.heap.size = C + k) (hBC : B < C) (o : Nat) (v : Value) :
    Things ((wr.alloc (.cells #[.int .i64 (k : Int), .pointer none] 104)).setCell ⟨B, o, none⟩ v) C (k + 1) := fun j hj => by
  rw [cell_set_other (by intro e; simp at e <;> omega), cell_set_other (by intro e; simp at e <;> omega), World.frozen?_setCell]
  by_cases e : j = k
  · subst e
    rw [← hsz]
    have hn := heap_alloc_new wr (.cells #[.int .i64 (j : Int), .pointer none] 104)
    unfold World.cell? World.frozen?
    simp only [hn]
    exact ⟨rfl, rfl, rfl⟩
  · have hb : Below wr.heap.size wr (wr.alloc (.cells #[.int .i64 (k : Int), .pointer none] 104)) := (Below.refl _ _).alloc (Nat.le_refl _) _
    obtain ⟨h1, h2, h3⟩ := hth j (by omega)
    have hlt : C + j < wr.heap.size := by omega
    exact ⟨by rw [hb.cell (p := ⟨C + j, 0, none⟩) hlt]; exact h1, by rw [hb.cell (p := ⟨C + j, 1, none⟩) hlt]; exact h2, by rw [hb.frozen (p := ⟨C + j, 1, none⟩) hlt]; exact h3⟩

theorem toPtr_id (C j : Nat) : toPtr C id j = none := by simp [toPtr]

/-- What the making of loose things leaves. -/
def Loose (w : World) (n : Nat) (e : Ending) (w' : World) : Prop := e = .returned (.slice (some ⟨w.heap.size, 0, none⟩) n n) ∧ Below w.heap.size w w' ∧ ∃ C, Links w' w.heap.size C n id

set_option maxHeartbeats 1600000 in
theorem looseLinks_any (n : Nat) (w : World) (h1 : 1 ≤ n) (h8 : n ≤ 8) :
    Calls Try.prog 87 #[.int .i64 n] w (Loose w n) := by
  obtain ⟨i0, hi, hz0, hz1, hz2⟩ := info_parts Try.infoLink
  go_enter Try.func87, Try.ntmps87
  go_wp2_with (at_make; refine wpList_make_full _ rfl _ _ 76 rfl w.heap.size 78 i0 (.pointer none) 1 Try.underlying76 hi hz0 hz1 _ _ _ _ n rfl rfl rfl rfl (by rw [hz2]; omega) (by unfold maxLen; omega) (Nat.le_refl _) ?_)
  intro w1 hown1 hgrow1
  have hb1 : Below w.heap.size w w1 := (Below.refl _ _).grown hgrow1 (Nat.le_refl _) (fun k h => by cases h)
  obtain ⟨C, hC⟩ : ∃ C, C = w1.heap.size := ⟨_, rfl⟩
  have hBC : w.heap.size < C := by rw [hC]; exact (World.ownsRow.lt hown1 _ rfl).2
  have hrow : w1.ownsRow w.heap.size 78 1 (.slice (some ⟨w.heap.size, 0, none⟩) n n) n (ptrsTo C n 0) := by
    rw [ptrsTo_zero]
    rw [toList_madeCells_one] at hown1
    simpa using hown1
  have HC := Lib.hid hC
  clear hown1 hgrow1 hC
  go_wp2
  go_loopw [9] (fun i wr => ∃ k : Nat, k ≤ n ∧ i = .int .i64 k ∧ wr.ownsRow w.heap.size 78 1 (.slice (some ⟨w.heap.size, 0, none⟩) n n) n (ptrsTo C n k) ∧ Things wr C k ∧ wr.heap.size = C + k ∧ Below w.heap.size w wr) (fun i _ => n - (intOf i).toNat)
  case atStart => exact ⟨0, Nat.zero_le _, rfl, hrow, fun j hj => by omega, HC.out.symm, hb1⟩
  case round =>
    obtain ⟨k, hk, rfl, hown, hth, hsz, hbel⟩ := hrel
    by_cases hlt : k < n
    · have hown2 := World.ownsRow.alloc hown (.cells #[.int .i64 (k : Int), .pointer none] 104)
      have hfz := World.ownsRow.frozenAt hown2 k
      have hv0 := World.ownsRow.cellAt hown2 k (by omega)
      obtain ⟨v0, hv0'⟩ : ∃ v0, (ptrsTo C n k)[k]? = some v0 := ⟨_, List.getElem?_eq_getElem (by rw [ptrsTo_len]; exact hlt)⟩
      rw [hv0'] at hv0
      have hst := (World.ownsRow.stored hown2 k (.pointer (some ⟨wr.heap.size, 0, none⟩))).1
      have hth2 := things_step hth hsz hBC k (.pointer (some ⟨wr.heap.size, 0, none⟩))
      have e1 : (ptrsTo C n k).set k (.pointer (some ⟨wr.heap.size, 0, none⟩)) = ptrsTo C n (k + 1) := by rw [hsz, ptrsTo_step C n k hlt]
      rw [e1] at hst
      have HST := Lib.hid hst
      have HTH := Lib.hid hth2
      have HSZ := Lib.hid hsz
      have b1 : (k : Int) < n := by omega
      have hB := hbel.size
      clear hown hown2 hst hth hth2 hsz hv0' e1
      go_wp2
      go_roundw
      case rel => exact ⟨k + 1, by omega, by go_num, HST.out, HTH.out, by simp [World.setCell]; have := HSZ.out; omega, (hbel.alloc hB _).setCell (Nat.le_refl _) _⟩
      case measure => simp [intOf]; omega
    · have hkn : k = n := by omega
      subst hkn
      have hfin : Links wr w.heap.size C k id := by
        refine ⟨hBC, fun j hj => ?_⟩
        have hc := World.ownsRow.cellAt hown j (by omega)
        obtain ⟨h1, h2, h3⟩ := hth j hj
        refine ⟨?_, h1, by rw [toPtr_id]; exact h2, h3⟩
        rw [hc]
        simp [ptrsTo, hj]
      have HFIN := Lib.hid hfin
      clear hown hth hfin hsz
      go_wp2
      go_ret
      exact ⟨rfl, hbel, C, HFIN.out⟩

theorem forest_id (n : Nat) : Forest n id id := fun j hj => ⟨hj, .inl ⟨rfl, rfl⟩⟩

/-- What is known of the roots when the first k things are tied. -/
def Joined (xs ys : List Int) (n : Nat) (rt : Nat → Nat) (k : Nat) : Prop :=
  (∀ j, j < k → rt j = rt (xs.idxOf (xs.getD j 0)) ∧ rt j = rt (ys.idxOf (ys.getD j 0))) ∧
  ∀ g : Nat → Int, (∀ i k, i < n → k < n → tog xs ys i k = true → g i = g k) → ∀ j, j < n → g (rt j) = g j

theorem joined_id (xs ys : List Int) (n : Nat) : Joined xs ys n id 0 := ⟨fun j hj => by omega, fun g _ j _ => rfl⟩

def rootList (rt : Nat → Nat) (n : Nat) : List Int := (List.range n).map fun j => (rt j : Int)
theorem rootList_length (rt : Nat → Nat) (n : Nat) : (rootList rt n).length = n := by simp [rootList]
theorem rootList_getD (rt : Nat → Nat) (n j : Nat) (h : j < n) : (rootList rt n).getD j 0 = (rt j : Int) := by simp [rootList, List.getD, h]

theorem idx_of {xs : List Int} {j : Nat} (h : j < xs.length) : xs.getD j 0 ∈ xs ∧ xs.idxOf (xs.getD j 0) < xs.length ∧ xs.getD (xs.idxOf (xs.getD j 0)) 0 = xs.getD j 0 := by
  have hm : xs.getD j 0 ∈ xs := mem_of_getD h rfl
  exact ⟨hm, List.idxOf_lt_length_of_mem hm, getD_idxOf hm⟩

theorem joined_step {xs ys : List Int} {n : Nat} {rt : Nat → Nat} (hx : xs.length = n) (hy : ys.length = n) {k : Nat} (hk : k < n) (h : Joined xs ys n rt k) :
    Joined xs ys n (tied (tied rt k (xs.idxOf (xs.getD k 0))) k (ys.idxOf (ys.getD k 0))) (k + 1) := by
  obtain ⟨hmx, hix, hgx⟩ := idx_of (xs := xs) (j := k) (by omega)
  obtain ⟨hmy, hiy, hgy⟩ := idx_of (xs := ys) (j := k) (by omega)
  refine ⟨fun j hj => ?_, fun g hg => ?_⟩
  · by_cases e : j = k
    · subst e
      exact ⟨tied_keeps _ _ _ (tied_eq _ _ _), tied_eq _ _ _⟩
    · obtain ⟨h1, h2⟩ := h.1 j (by omega)
      exact ⟨tied_keeps _ _ _ (tied_keeps _ _ _ h1), tied_keeps _ _ _ (tied_keeps _ _ _ h2)⟩
  · have h1 := tied_good g (h.2 g hg) hk (k := xs.idxOf (xs.getD k 0)) (by omega) (hg _ _ hk (by omega) (tog_iff.2 (.inl hgx.symm)))
    exact tied_good g h1 hk (k := ys.idxOf (ys.getD k 0)) (by omega) (hg _ _ hk (by omega) (tog_iff.2 (.inr hgy.symm)))

theorem joined_end {xs ys : List Int} {n : Nat} {par rt : Nat → Nat} (hx : xs.length = n) (hy : ys.length = n) (hf : Forest n par rt) (h : Joined xs ys n rt n) : kOut (rootList rt n) = kOut (joinAll xs ys n n) := by
  refine join_tells xs ys n (rootList rt n) (rootList_length _ _) (fun i k hi hk ht => ?_) fun g hg => ⟨rootList_length _ _, fun i hi => ?_⟩
  · rw [rootList_getD _ _ _ hi, rootList_getD _ _ _ hk]
    have h1 := h.1 i hi
    have h2 := h.1 k hk
    rcases tog_iff.1 ht with e | e
    · rw [h1.1, h2.1, e]
    · rw [h1.2, h2.2, e]
  · rw [rootList_getD _ _ _ hi]
    refine ⟨by omega, by have := (hf i hi).1; omega, ?_⟩
    rw [Int.toNat_natCast]
    exact h.2 g hg i hi

set_option maxHeartbeats 1600000 in
theorem tiedOut_any (B C n : Nat) (par rt : Nat → Nat) (w : World) (hl : Links w B C n par) (hf : Forest n par rt) (h1 : 1 ≤ n) (h8 : n ≤ 8) :
    Calls Try.prog 90 #[.slice (some ⟨B, 0, none⟩) n n] w (FreshL w (kOut (rootList rt n))) := by
  have HL := Lib.hid hl
  have HF := Lib.hid hf
  have hBC := hl.1
  have hlo : C + n ≤ w.heap.size := by
    have h2 := (hl.2 (n - 1) (by omega)).2.1
    have := World.block_lt_of_cell? w _ h2
    simp at this
    omega
  obtain ⟨L, hL⟩ : ∃ L, L = rootList rt n := ⟨_, rfl⟩
  rw [← hL]
  have hLl : L.length = n := by rw [hL, rootList_length]
  have hLg : ∀ j, j < n → L.getD j 0 = (rt j : Int) := fun j hj => by rw [hL]; exact rootList_getD _ _ _ hj
  have HLL := Lib.hid hLl
  have HLG := Lib.hid hLg
  obtain ⟨i0, hi, hz0, hz1, hz2⟩ := info_parts Try.infoInt
  clear hl hf hL hLl hLg
  go_enter Try.func90, Try.ntmps90
  go_wp2_with (at_make; refine wpList_make_full _ rfl _ _ 30 rfl w.heap.size 3 i0 (.int .i64 0) 1 Try.underlying30 hi hz0 hz1 _ _ _ _ n rfl rfl rfl rfl (by rw [hz2]; omega) (by unfold maxLen; omega) (Nat.le_refl _) ?_)
  intro w4 hown4 hgrow4
  have hb4 : Below w.heap.size w w4 := (Below.refl _ _).grown hgrow4 (Nat.le_refl _) (fun k h => by cases h)
  have HO4 := Lib.hid (own_made hown4)
  have HL4 := Lib.hid (links_below HL.out hb4)
  clear hown4 hgrow4
  go_wp2
  go_loopw [11] (fun i wz => ∃ j : Nat, j ≤ n ∧ i = .int .i64 j ∧ Own wz w.heap.size (.slice (some ⟨w.heap.size, 0, none⟩) n n) (L.take j ++ List.replicate (n - j) 0) ∧ Links wz B C n par ∧ Below w.heap.size w wz) (fun i _ => n - (intOf i).toNat)
  case atStart => exact ⟨0, Nat.zero_le _, rfl, by simpa using HO4.out, HL4.out, hb4⟩
  case round =>
    obtain ⟨j, hj, rfl, hown, hlk, hbelz⟩ := hrel
    by_cases hlt : j < n
    · have hp1 := (hlk.2 j hlt).1
      have hr := rt_le HF.out hlt
      obtain ⟨r, hre⟩ : ∃ r, r = rt j := ⟨_, rfl⟩
      rw [← hre] at hr
      have hp2 := (hlk.2 r hr.1).2.1
      have hml : (L.take j ++ List.replicate (n - j) 0).length = n := by have := HLL.out; simp; omega
      have hfz := own_frozen hown j
      obtain ⟨v0, hv0⟩ : ∃ v0, wr.cell? ⟨w.heap.size, j, none⟩ = some v0 := ⟨_, own_cell hown j (by rw [hml]; omega)⟩
      obtain ⟨hst, hgs⟩ := own_stored hown hml.symm j (r : Int)
      rw [← HLL.out, set_stage L j (by rw [HLL.out]; exact hlt) (r : Int) (by rw [HLG.out j hlt, hre]), HLL.out] at hst
      have HST := Lib.hid hst
      have HLS := Lib.hid (links_set hlk w.heap.size j (.int .i64 (r : Int)) ⟨by omega, .inr hlo⟩)
      have HLE := Lib.hid (least_any B C n j par rt wr hlk HF.out hlt)
      rw [← hre] at HLE
      have b1 : (j : Int) < n := by omega
      clear hml hst hgs hown hlk hre hr
      go_wp2_with fail
      refine (HLE.out).mono ?_
      rintro e w' ⟨rfl, rfl⟩
      go_wp2
      go_roundw
      case rel => exact ⟨j + 1, by omega, by go_num, HST.out, HLS.out, hbelz.setCell (by simp) _⟩
      case measure => simp [intOf]; omega
    · have hjk : j = n := by omega
      subst hjk
      rw [Nat.sub_self, List.replicate_zero, List.append_nil, List.take_of_length_le (by rw [HLL.out]; omega)] at hown
      have HRD := Lib.hid (own_rdv hown)
      clear hown
      go_wp2_with fail
      refine (kernel_v _ _ _ HRD.out (by rw [HLL.out]; omega)).mono ?_
      rintro e w6 ⟨u, rfl, ho, hb⟩
      go_wp2
      go_ret
      exact ⟨_, rfl, own_mono ho hbelz.size, below_step hbelz hb⟩

set_option maxHeartbeats 4000000 in
theorem iFinerJoin_v (v u : Value) (xs ys : List Int) (w : World) (hv : RdV w v xs) (hu : RdV w u ys) :
    Calls Try.prog 48 #[v, u] w (FreshLB w (finerJoin xs ys)) := by
  have HV := Lib.hid hv
  have HU := Lib.hid hu
  cases ha : alike xs ys
  · have HA := Lib.hid ha
    have hr : finerJoin xs ys = ([], false) := by simp [finerJoin, ha]
    rw [hr]
    clear ha hr hv hu
    go_enter Try.func48, Try.ntmps48
    go_wp2_with fail
    refine (areAlike_is false _ _ _ _ _ HV.out HU.out HA).mono ?_
    rintro e w' ⟨rfl, rfl⟩
    go_wp2
    go_ret2
    exact ⟨_, rfl, own_nil _ _, Below.refl _ _⟩
  · have HA := Lib.hid ha
    obtain ⟨h1, h8, hl⟩ := alike_lens ha
    have hr : finerJoin xs ys = (kOut (joinAll xs ys xs.length xs.length), true) := by simp [finerJoin, ha]
    rw [hr]
    obtain ⟨bx, ox, cx, rfl, hcx, hbx, hcx1, hcx2⟩ := rdv_cells hv h1
    obtain ⟨by', oy, cy, rfl, hcy, hby, hcy1, hcy2⟩ := rdv_cells hu (by omega)
    obtain ⟨n, hn⟩ : ∃ n, n = xs.length := ⟨_, rfl⟩
    have HN := Lib.hid hn
    have HLY := Lib.hid hl
    rw [hl] at HU ⊢
    rw [← hn] at HV HU h1 h8 HLY ⊢
    clear ha hr hv hu hn hl hcx1 hcx2 hcy1 hcy2
    go_enter Try.func48, Try.ntmps48
    go_wp2_with fail
    refine (areAlike_is true _ _ _ _ _ HV.out HU.out HA).mono ?_
    rintro e w' ⟨rfl, rfl⟩
    go_wp2_with fail
    refine (looseLinks_any n _ h1 h8).mono ?_
    rintro e w1 ⟨rfl, hb1, C, hl1⟩
    have HL1 := Lib.hid hl1
    clear hl1
    go_wp2
    go_loopw [18] (fun i wr => ∃ (k : Nat) (par rt : Nat → Nat), k ≤ n ∧ i = .int .i64 k ∧ Links wr w.heap.size C n par ∧ Forest n par rt ∧ Joined xs ys n rt k ∧ Below w.heap.size w wr) (fun i _ => n - (intOf i).toNat)
    case atStart => exact ⟨0, id, id, Nat.zero_le _, rfl, HL1.out, forest_id n, joined_id _ _ _, hb1⟩
    case round =>
      obtain ⟨k, par, rt, hk, rfl, hlk, hfo, hjo, hbel⟩ := hrel
      have hBC := hlk.1
      by_cases hlt : k < n
      · have hjs := joined_step HN.out.symm HLY.out hlt hjo
        obtain ⟨hmx, hix, _⟩ := idx_of (xs := xs) (j := k) (by rw [← HN.out]; exact hlt)
        obtain ⟨hmy, hiy, _⟩ := idx_of (xs := ys) (j := k) (by rw [HLY.out]; exact hlt)
        have hc1 := cells_at (cells_below hcx hbel) k (by rw [← HN.out]; exact hlt)
        have hp1 := (hlk.2 k hlt).1
        obtain ⟨x, hx⟩ : ∃ x, x = xs.getD k 0 := ⟨_, rfl⟩
        obtain ⟨y, hy⟩ : ∃ y, y = ys.getD k 0 := ⟨_, rfl⟩
        rw [← hx] at hjs hmx hix hc1
        rw [← hy] at hjs hmy hiy
        obtain ⟨p, hp⟩ : ∃ p, p = xs.idxOf x := ⟨_, rfl⟩
        obtain ⟨q, hq⟩ : ∃ q, q = ys.idxOf y := ⟨_, rfl⟩
        rw [← hp] at hjs hix
        rw [← hq] at hjs hiy
        rw [← HN.out] at hix
        rw [HLY.out] at hiy
        have hp2 := (hlk.2 p hix).1
        have HMX := Lib.hid hmx
        have HMY := Lib.hid hmy
        have HP := Lib.hid hp
        have HQ := Lib.hid hq
        have HY := Lib.hid hy
        have HJS := Lib.hid hjs
        have HLK := Lib.hid hlk
        have HFO := Lib.hid hfo
        have HVr := Lib.hid (rdv_below HV.out hbel)
        have b1 : (k : Int) < n := by omega
        have b2 : (p : Int) < n := by omega
        have b3 : (q : Int) < n := by omega
        clear hx hy hp hq hjs hmx hmy hlk hfo hjo
        go_wp2_with fail
        refine (slicesIndex_v _ xs x _ HVr.out HMX.out).mono ?_
        rintro e w' ⟨rfl, rfl⟩
        rw [← HP.out]
        go_wp2_with fail
        refine (tie_any w.heap.size C n k p par rt _ HLK.out HFO.out hlt hix).mono ?_
        rintro e w2 ⟨rfl, par2, hl2, hf2, hb2⟩
        have hbel2 : Below w.heap.size w w2 := hbel.trans (hb2.mono (Nat.le_of_lt hBC))
        have hc2 := cells_at (cells_below hcy hbel2) k (by rw [HLY.out]; exact hlt)
        rw [← HY.out] at hc2
        have hp3 := (hl2.2 q hiy).1
        have HL2 := Lib.hid hl2
        have HF2 := Lib.hid hf2
        have HUr := Lib.hid (rdv_below HU.out hbel2)
        clear hl2 hf2 hb2
        go_wp2_with fail
        refine (slicesIndex_v _ ys y _ HUr.out HMY.out).mono ?_
        rintro e w' ⟨rfl, rfl⟩
        rw [← HQ.out]
        go_wp2_with fail
        refine (tie_any w.heap.size C n k q par2 _ _ HL2.out HF2.out hlt hiy).mono ?_
        rintro e w3 ⟨rfl, par3, hl3, hf3, hb3⟩
        have hbel3 : Below w.heap.size w w3 := hbel2.trans (hb3.mono (Nat.le_of_lt hBC))
        have HL3 := Lib.hid hl3
        have HF3 := Lib.hid hf3
        clear hl3 hf3 hb3
        go_wp2
        go_roundw
        case rel => exact ⟨k + 1, par3, _, by omega, by go_num, HL3.out, HF3.out, HJS.out, hbel3⟩
        case measure => simp [intOf]; omega
      · have hkn : k = n := by omega
        subst hkn
        have hend := joined_end HN.out.symm HLY.out hfo hjo
        have HLK := Lib.hid hlk
        have HFO := Lib.hid hfo
        have hB := hbel.size
        clear hjo hlk hfo
        go_wp2_with fail
        refine (tiedOut_any w.heap.size C k par rt wr HLK.out HFO.out h1 h8).mono ?_
        rintro e w6 ⟨u, rfl, ho, hb⟩
        have HOU := Lib.hid (own_mono ho hbel.size)
        have HBU := Lib.hid (below_step hbel hb)
        rw [hend] at HOU
        clear ho hb hend
        go_wp2
        go_ret2
        exact ⟨_, rfl, HOU.out, HBU.out⟩

end Go.Proofs.Ytbmpchpcihnbdaa
