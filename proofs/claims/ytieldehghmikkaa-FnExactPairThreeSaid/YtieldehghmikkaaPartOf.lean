/-
  The contracts of PartOf (impl and spec) and of the laws' szIntSS.
-/
import Derived.Test.YtieldehghmikkaaMatHelp
import Derived.Test.YtieldehghmikkaaNamed
namespace Go.Proofs.Ytieldehghmikkaa
set_option linter.unusedSimpArgs false
set_option linter.unusedVariables false
set_option linter.unnecessarySimpa false
open Go.RowKit

def fillRow (n : Nat) (b : Int) : List Int → Nat → List Int → Option (List Int × Nat)
  | f, s, [] => some (f, s)
  | f, s, x :: r => if (0 ≤ x ∧ x < n) ∧ s.testBit x.toNat = false then fillRow n b (f.set x.toNat b) (s ||| 2 ^ x.toNat) r else none

def fillAll (n : Nat) : Int → List Int → Nat → List (List Int) → Option (List Int × Nat)
  | _, f, s, [] => some (f, s)
  | b, f, s, row :: rows => if row = [] then none else match fillRow n b f s row with
    | none => none
    | some (f', s') => fillAll n (b + 1) f' s' rows

def closeOf (n : Nat) : Option (List Int × Nat) → List Int × Bool
  | none => ([], false)
  | some (f, s) => if s = 2 ^ n - 1 then (kOut f, true) else ([], false)

def partOf (n : Int) (xss : List (List Int)) : List Int × Bool := if 1 ≤ n ∧ n ≤ 8 then closeOf n.toNat (fillAll n.toNat 0 (List.replicate n.toNat 0) 0 xss) else ([], false)

theorem fillRow_length (n : Nat) (b : Int) : ∀ (r f : List Int) (s : Nat) (f' : List Int) (s' : Nat), fillRow n b f s r = some (f', s') → f'.length = f.length := by
  intro r
  induction r with
  | nil => intro f s f' s' h; simp [fillRow] at h; rw [h.1]
  | cons x r ih =>
    intro f s f' s' h
    unfold fillRow at h
    split at h
    · rw [ih _ _ _ _ h, List.length_set]
    · cases h

theorem fillAll_length (n : Nat) : ∀ (rows : List (List Int)) (b : Int) (f : List Int) (s : Nat) (f' : List Int) (s' : Nat), fillAll n b f s rows = some (f', s') → f'.length = f.length := by
  intro rows
  induction rows with
  | nil => intro b f s f' s' h; simp [fillAll] at h; rw [h.1]
  | cons row rows ih =>
    intro b f s f' s' h
    unfold fillAll at h
    split at h
    · cases h
    · split at h
      · cases h
      · rename_i f1 s1 h1
        rw [ih _ _ _ _ _ h, fillRow_length n b _ _ _ _ _ h1]

theorem partOf_len (n : Int) (xss : List (List Int)) : (partOf n xss).1.length ≤ 2305843009213693952 := by
  unfold partOf
  split
  · cases h : fillAll n.toNat 0 (List.replicate n.toNat 0) 0 xss with
    | none => simp [closeOf]
    | some r =>
      obtain ⟨f, s⟩ := r
      have := fillAll_length _ _ _ _ _ _ _ h
      unfold closeOf
      dsimp only
      split
      · rw [kOut_length, this]; simp; omega
      · simp
  · simp

theorem pow_256 : ∀ k, k < 9 → 2 ^ k ≤ 256 := by decide

theorem drop_consM (xss : List (List Int)) (k : Nat) (h : k < xss.length) : xss.drop k = xss.getD k [] :: xss.drop (k + 1) := by
  rw [List.drop_eq_getElem_cons h]
  simp [List.getD, h]

theorem shr_fact : ∀ t, t < 256 → ∀ y, y < 8 → (bits BinOp.and IntKind.i64 (((t : Nat) : Int) / 2 ^ (y : Nat)) 1 == 1) = t.testBit y := by decide +kernel

end Go.Proofs.Ytieldehghmikkaa
