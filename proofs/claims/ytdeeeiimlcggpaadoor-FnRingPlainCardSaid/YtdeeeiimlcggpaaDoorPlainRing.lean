/-
  Partitions without crossing part the great ring into as many rings as they can.
-/
import Derived.Test.YtdeeeiimlcggpaaDoorRingBrute
namespace Go.Proofs.YtdeeeiimlcggpaaDoor
set_option linter.unusedSimpArgs false
set_option linter.unusedVariables false
set_option linter.unnecessarySimpa false
set_option maxRecDepth 100000

theorem plainChk_0000 : forParts plainChk 4 1 [0, 0, 0, 0] = true := by decide +kernel
theorem plainChk_0001 : forParts plainChk 4 2 [0, 0, 0, 1] = true := by decide +kernel
theorem plainChk_0010 : forParts plainChk 4 2 [0, 0, 1, 0] = true := by decide +kernel
theorem plainChk_0011 : forParts plainChk 4 2 [0, 0, 1, 1] = true := by decide +kernel
theorem plainChk_0012 : forParts plainChk 4 3 [0, 0, 1, 2] = true := by decide +kernel
theorem plainChk_0100 : forParts plainChk 4 2 [0, 1, 0, 0] = true := by decide +kernel
theorem plainChk_0101 : forParts plainChk 4 2 [0, 1, 0, 1] = true := by decide +kernel
theorem plainChk_0102 : forParts plainChk 4 3 [0, 1, 0, 2] = true := by decide +kernel
theorem plainChk_0110 : forParts plainChk 4 2 [0, 1, 1, 0] = true := by decide +kernel
theorem plainChk_0111 : forParts plainChk 4 2 [0, 1, 1, 1] = true := by decide +kernel
theorem plainChk_0112 : forParts plainChk 4 3 [0, 1, 1, 2] = true := by decide +kernel
theorem plainChk_0120 : forParts plainChk 4 3 [0, 1, 2, 0] = true := by decide +kernel
theorem plainChk_0121 : forParts plainChk 4 3 [0, 1, 2, 1] = true := by decide +kernel
theorem plainChk_0122 : forParts plainChk 4 3 [0, 1, 2, 2] = true := by decide +kernel
theorem plainChk_0123 : forParts plainChk 4 4 [0, 1, 2, 3] = true := by decide +kernel

theorem plainChk_000 : forParts plainChk 5 1 [0, 0, 0] = true := forParts_of fun v hv => by
  match v, hv with
  | 0, _ => exact ⟨by decide +kernel, plainChk_0000⟩
  | 1, _ => exact ⟨by decide +kernel, plainChk_0001⟩
theorem plainChk_001 : forParts plainChk 5 2 [0, 0, 1] = true := forParts_of fun v hv => by
  match v, hv with
  | 0, _ => exact ⟨by decide +kernel, plainChk_0010⟩
  | 1, _ => exact ⟨by decide +kernel, plainChk_0011⟩
  | 2, _ => exact ⟨by decide +kernel, plainChk_0012⟩
theorem plainChk_010 : forParts plainChk 5 2 [0, 1, 0] = true := forParts_of fun v hv => by
  match v, hv with
  | 0, _ => exact ⟨by decide +kernel, plainChk_0100⟩
  | 1, _ => exact ⟨by decide +kernel, plainChk_0101⟩
  | 2, _ => exact ⟨by decide +kernel, plainChk_0102⟩
theorem plainChk_011 : forParts plainChk 5 2 [0, 1, 1] = true := forParts_of fun v hv => by
  match v, hv with
  | 0, _ => exact ⟨by decide +kernel, plainChk_0110⟩
  | 1, _ => exact ⟨by decide +kernel, plainChk_0111⟩
  | 2, _ => exact ⟨by decide +kernel, plainChk_0112⟩
theorem plainChk_012 : forParts plainChk 5 3 [0, 1, 2] = true := forParts_of fun v hv => by
  match v, hv with
  | 0, _ => exact ⟨by decide +kernel, plainChk_0120⟩
  | 1, _ => exact ⟨by decide +kernel, plainChk_0121⟩
  | 2, _ => exact ⟨by decide +kernel, plainChk_0122⟩
  | 3, _ => exact ⟨by decide +kernel, plainChk_0123⟩
theorem plainChk_00 : forParts plainChk 6 1 [0, 0] = true := forParts_of fun v hv => by
  match v, hv with
  | 0, _ => exact ⟨by decide +kernel, plainChk_000⟩
  | 1, _ => exact ⟨by decide +kernel, plainChk_001⟩
theorem plainChk_01 : forParts plainChk 6 2 [0, 1] = true := forParts_of fun v hv => by
  match v, hv with
  | 0, _ => exact ⟨by decide +kernel, plainChk_010⟩
  | 1, _ => exact ⟨by decide +kernel, plainChk_011⟩
  | 2, _ => exact ⟨by decide +kernel, plainChk_012⟩
theorem plainChk_0 : forParts plainChk 7 1 [0] = true := forParts_of fun v hv => by
  match v, hv with
  | 0, _ => exact ⟨by decide +kernel, plainChk_00⟩
  | 1, _ => exact ⟨by decide +kernel, plainChk_01⟩
theorem plainChk_all : forParts plainChk 8 0 [] = true := forParts_of fun v hv => by
  match v, hv with
  | 0, _ => exact ⟨by decide +kernel, plainChk_0⟩

/-- The permutation of a partition parts the great ring into as many rings as it can just if nothing crosses. -/
theorem plain_rings {xs : List Int} (hx : partIn xs = true) : ringIn (backTo (ofTo xs (pSize xs).toNat) xs.length) = true ∧ permOk xs.length (greatL xs.length) = true ∧
    ringIn (prodL (backTo (ofTo xs (pSize xs).toNat) xs.length) (greatL xs.length)) = true ∧
    (pSize (ringsOf (prodL (backTo (ofTo xs (pSize xs).toNat) xs.length) (greatL xs.length))) = (xs.length : Int) - pSize xs + 1 ↔ crossings xs = 0) := by
  obtain ⟨h1, _⟩ := of_rings hx
  have hl := ofTo_length xs (pSize xs).toNat
  have hb := back_ring h1
  rw [hl] at hb
  have hlen := partIn_len hx
  have hg := greatL_ok xs.length (by omega) hlen.1
  have hbl : (backTo (ofTo xs (pSize xs).toNat) xs.length).length = xs.length := by rw [backTo_length, hl]
  have hc := prod_ring hb (ys := greatL xs.length) (by rw [hbl]; exact hg)
  have hcl : (prodL (backTo (ofTo xs (pSize xs).toNat) xs.length) (greatL xs.length)).length = xs.length := by rw [prodL_length, hbl]
  refine ⟨hb, hg, hc, ?_⟩
  rw [cnt_rings hc, hcl]
  have h := parts_all plainChk plainChk_all hx
  unfold plainChk at h
  simp only [beq_iff_eq] at h
  exact decide_eq_decide.1 h

end Go.Proofs.YtdeeeiimlcggpaaDoor
