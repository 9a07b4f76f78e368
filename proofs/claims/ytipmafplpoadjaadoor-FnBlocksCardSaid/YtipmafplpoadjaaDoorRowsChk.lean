/-
  Blocks have all things, each once, in ascending order: over all partitions.
-/
import Derived.Test.YtipmafplpoadjaaDoorParts
import Derived.Test.YtipmafplpoadjaaDoorSpecType
namespace Go.Proofs.YtipmafplpoadjaaDoor
set_option maxRecDepth 100000

/-- How many things the first b blocks have. -/
def tot (xs : List Int) : Nat → Nat
  | 0 => 0
  | b + 1 => tot xs b + (blkAt xs b xs.length).length

def rowUp (xs L : List Int) (b i : Nat) : Bool := decide (0 ≤ L.getD i 0) && decide (L.getD i 0 < xs.length) && decide (xs.getD (L.getD i 0).toNat 0 = b) && (decide (i = 0) || decide (L.getD (i - 1) 0 < L.getD i 0))
def blkUp (xs L : List Int) (b : Nat) : Bool := decide (1 ≤ L.length) && (List.range L.length).all fun i => rowUp xs L b i
def rowsChk (xs : List Int) : Bool := (List.range (pSize xs).toNat).all (fun b => blkUp xs (blkAt xs b xs.length) b) && (List.range ((pSize xs).toNat + 1)).all (fun b => decide (tot xs b ≤ xs.length)) && decide (tot xs (pSize xs).toNat = xs.length)
theorem rowsChk_all : forParts rowsChk 8 0 [] = true := by decide +kernel

theorem rows_facts {xs : List Int} (hx : partIn xs = true) : (∀ b, b < (pSize xs).toNat → 1 ≤ (blkAt xs b xs.length).length ∧ ∀ i, i < (blkAt xs b xs.length).length → (0 ≤ (blkAt xs b xs.length).getD i 0 ∧ (blkAt xs b xs.length).getD i 0 < xs.length) ∧ xs.getD ((blkAt xs b xs.length).getD i 0).toNat 0 = b ∧ (i = 0 ∨ (blkAt xs b xs.length).getD (i - 1) 0 < (blkAt xs b xs.length).getD i 0)) ∧
    (∀ b, b ≤ (pSize xs).toNat → tot xs b ≤ xs.length) ∧ tot xs (pSize xs).toNat = xs.length := by
  have h := parts_all rowsChk rowsChk_all hx
  unfold rowsChk at h
  simp only [Bool.and_eq_true, decide_eq_true_eq, List.all_eq_true, List.mem_range] at h
  obtain ⟨⟨h1, h2⟩, h3⟩ := h
  refine ⟨fun b hb => ?_, fun b hb => h2 b (by omega), h3⟩
  have h4 := h1 b hb
  unfold blkUp at h4
  simp only [Bool.and_eq_true, decide_eq_true_eq, List.all_eq_true, List.mem_range] at h4
  refine ⟨h4.1, fun i hi => ?_⟩
  have h5 := h4.2 i hi
  unfold rowUp at h5
  simp only [Bool.and_eq_true, Bool.or_eq_true, decide_eq_true_eq] at h5
  exact ⟨h5.1.1, h5.1.2, h5.2⟩

end Go.Proofs.YtipmafplpoadjaaDoor
