/-
  The contracts of impl.ListAll and impl.ListBlocks: a range over a function.
-/
import Derived.Test.YtieldehghmikkaaMatIn
import Derived.Test.YtieldehghmikkaaLists
namespace Go.Proofs.Ytieldehghmikkaa
set_option linter.unusedSimpArgs false
set_option linter.unusedVariables false
set_option linter.unnecessarySimpa false
open Go.RowKit Go.Shelf
set_option maxRecDepth 100000

attribute [local go_sem] Oper.semAt_some

def listAll (n : Int) : List (List Int) × Bool := if 1 ≤ n ∧ n ≤ 7 then (allL n.toNat, true) else ([], false)
def listBlocks (n k : Int) : List (List Int) × Bool := if (1 ≤ n ∧ n ≤ 7) ∧ 1 ≤ k ∧ k ≤ 7 then ((allL n.toNat).filter fun xs => pSize xs == k, true) else ([], false)

theorem total_rows (m : Nat) : ∀ l : List (List Int), (∀ r ∈ l, r.length ≤ m) → total l ≤ m * l.length := by
  intro l
  induction l with
  | nil => intro _; simp [total]
  | cons x l ih =>
    intro h
    have h1 := h x (by simp)
    have h2 := ih fun r hr => h r (by simp [hr])
    rw [total_cons, List.length_cons, Nat.mul_add]
    omega

theorem allL_rows (n : Nat) : ∀ r ∈ allL n, r.length ≤ n := fun r hr => by
  simp only [allL, List.mem_map] at hr
  obtain ⟨p, _, rfl⟩ := hr
  rw [atL_length]
  exact Nat.le_refl _

theorem listAll_len (a : Int) : (listAll a).1.length ≤ 1000000 ∧ total (listAll a).1 ≤ 1000000 := by
  unfold listAll
  split
  · have h1 := opn_bd a.toNat 0 (by omega) (by omega)
    have h2 := allL_length a.toNat
    have h3 := total_rows 7 (allL a.toNat) (fun r hr => by have := allL_rows a.toNat r hr; omega)
    dsimp only
    omega
  · simp [total]

theorem listBlocks_len (a b : Int) : (listBlocks a b).1.length ≤ 1000000 ∧ total (listBlocks a b).1 ≤ 1000000 := by
  unfold listBlocks
  split
  · have h1 := opn_bd a.toNat 0 (by omega) (by omega)
    have h2 := allL_length a.toNat
    have h4 := List.length_filter_le (fun xs => pSize xs == b) (allL a.toNat)
    have h3 := total_rows 7 ((allL a.toNat).filter fun xs => pSize xs == b) (fun r hr => by have := allL_rows a.toNat r (List.mem_filter.1 hr).1; omega)
    dsimp only
    omega
  · simp [total]

theorem fresh_some {w : World} {B : Nat} {u : Value} {xs : List Int} (h : Own w B u xs) (h1 : 1 ≤ xs.length) : ∃ g cap, u = .slice (some ⟨g, 0, none⟩) xs.length cap := by
  rcases own_view h with ⟨_, rfl⟩ | ⟨g, cap, rfl, _⟩
  · simp at h1
  · exact ⟨g, cap, rfl⟩

end Go.Proofs.Ytieldehghmikkaa
