/-
  Partitions are the rings of the permutations along their blocks.
-/
import Derived.Test.YtdeeeiimlcggpaaDoorOfBruteA
import Derived.Test.YtdeeeiimlcggpaaDoorOfBruteB
namespace Go.Proofs.YtdeeeiimlcggpaaDoor
set_option linter.unusedSimpArgs false
set_option linter.unusedVariables false
set_option linter.unnecessarySimpa false
set_option maxRecDepth 100000

theorem ofChk_000 : forParts ofChk 5 1 [0, 0, 0] = true := forParts_of fun v hv => by
  match v, hv with
  | 0, _ => exact ⟨by decide +kernel, ofChk_0000⟩
  | 1, _ => exact ⟨by decide +kernel, ofChk_0001⟩
theorem ofChk_001 : forParts ofChk 5 2 [0, 0, 1] = true := forParts_of fun v hv => by
  match v, hv with
  | 0, _ => exact ⟨by decide +kernel, ofChk_0010⟩
  | 1, _ => exact ⟨by decide +kernel, ofChk_0011⟩
  | 2, _ => exact ⟨by decide +kernel, ofChk_0012⟩
theorem ofChk_010 : forParts ofChk 5 2 [0, 1, 0] = true := forParts_of fun v hv => by
  match v, hv with
  | 0, _ => exact ⟨by decide +kernel, ofChk_0100⟩
  | 1, _ => exact ⟨by decide +kernel, ofChk_0101⟩
  | 2, _ => exact ⟨by decide +kernel, ofChk_0102⟩
theorem ofChk_011 : forParts ofChk 5 2 [0, 1, 1] = true := forParts_of fun v hv => by
  match v, hv with
  | 0, _ => exact ⟨by decide +kernel, ofChk_0110⟩
  | 1, _ => exact ⟨by decide +kernel, ofChk_0111⟩
  | 2, _ => exact ⟨by decide +kernel, ofChk_0112⟩
theorem ofChk_012 : forParts ofChk 5 3 [0, 1, 2] = true := forParts_of fun v hv => by
  match v, hv with
  | 0, _ => exact ⟨by decide +kernel, ofChk_0120⟩
  | 1, _ => exact ⟨by decide +kernel, ofChk_0121⟩
  | 2, _ => exact ⟨by decide +kernel, ofChk_0122⟩
  | 3, _ => exact ⟨by decide +kernel, ofChk_0123⟩
theorem ofChk_00 : forParts ofChk 6 1 [0, 0] = true := forParts_of fun v hv => by
  match v, hv with
  | 0, _ => exact ⟨by decide +kernel, ofChk_000⟩
  | 1, _ => exact ⟨by decide +kernel, ofChk_001⟩
theorem ofChk_01 : forParts ofChk 6 2 [0, 1] = true := forParts_of fun v hv => by
  match v, hv with
  | 0, _ => exact ⟨by decide +kernel, ofChk_010⟩
  | 1, _ => exact ⟨by decide +kernel, ofChk_011⟩
  | 2, _ => exact ⟨by decide +kernel, ofChk_012⟩
theorem ofChk_0 : forParts ofChk 7 1 [0] = true := forParts_of fun v hv => by
  match v, hv with
  | 0, _ => exact ⟨by decide +kernel, ofChk_00⟩
  | 1, _ => exact ⟨by decide +kernel, ofChk_01⟩
theorem ofChk_all : forParts ofChk 8 0 [] = true := forParts_of fun v hv => by
  match v, hv with
  | 0, _ => exact ⟨by decide +kernel, ofChk_0⟩

/-- The rings of the permutation along the blocks are the blocks. -/
theorem of_rings {xs : List Int} (hx : partIn xs = true) : ringIn (ofTo xs (pSize xs).toNat) = true ∧ ringsOf (ofTo xs (pSize xs).toNat) = xs := by
  have h := parts_all ofChk ofChk_all hx
  have hl := ofTo_length xs (pSize xs).toNat
  unfold ofChk at h
  generalize ofTo xs (pSize xs).toNat = s at *
  simp only [Bool.and_eq_true] at h
  obtain ⟨hr, hall⟩ := h
  have hL := (ringIn_facts hr).2.2.2
  rw [hl] at hL
  have hi : ∀ i, i < xs.length → xs.getD (nx s i) 0 = xs.getD i 0 ∧ Orb (nx s) i (xs.idxOf (xs.getD i 0)) := by
    intro i hi
    have h1 := (List.all_eq_true.1 hall) i (List.mem_range.2 hi)
    simp only [Bool.and_eq_true, decide_eq_true_eq] at h1
    exact ⟨h1.1, reach_orb _ _ _ _ h1.2⟩
  refine ⟨hr, ?_⟩
  have hk := (kOut_of_ok xs (partIn_ok hx)).1
  conv => rhs; rw [← hk]
  unfold ringsOf
  rw [hl]
  refine (kOut_pat _ _ (by rw [ringLs_length]) fun i j hi' hj' => ?_).1
  have e := ringLs_pat hr (i := i) (j := j) (by omega) (by omega)
  rw [hl] at e
  rw [e]
  constructor
  · intro e2
    have o1 := (hi i hi').2
    have o2 := (hi j hj').2
    rw [e2] at o1
    exact orb_trans o1 (orb_symm hL hj' o2)
  · intro o
    have := orb_closed (f := nx s) (S := fun z => z < xs.length ∧ xs.getD z 0 = xs.getD i 0) (fun z hz => ⟨hL.lt z hz.1, by rw [(hi z hz.1).1]; exact hz.2⟩) ⟨hi', rfl⟩ o
    exact this.2.symm

end Go.Proofs.YtdeeeiimlcggpaaDoor
