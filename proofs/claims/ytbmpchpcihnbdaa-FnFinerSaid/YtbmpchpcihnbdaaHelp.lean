/-
  The contracts of the laws' own helpers on lists of integers: toIntS, eqIntS, markIntS, heldIntS.
-/
import Derived.Test.YtbmpchpcihnbdaaRows
import Derived.Test.YtbmpchpcihnbdaaPure
import Derived.WalkLawsBesides
import Derived.WalkSpells
import Derived.BigQuiet
import Derived.Deep.QuietTactic
namespace Go.Proofs.Ytbmpchpcihnbdaa
set_option linter.unusedSimpArgs false
set_option linter.unusedVariables false
set_option linter.unnecessarySimpa false
open Go.RowKit

theorem Try.infoInt : (Try.prog.info? 3).map (fun i => (i.zero, i.size, i.bytes)) = some (some (.int .i64 0), 1, 8) := by kernel_rfl

theorem own_made {w1 : World} {B g n c : Nat} (h : w1.ownsRow B 3 1 (.slice (some ⟨g, 0, none⟩) n c) n (madeCells #[Value.int .i64 0] n).toList) : Own w1 B (.slice (some ⟨g, 0, none⟩) n c) (List.replicate n 0) := by
  unfold Own
  rw [toList_madeCells_one] at h
  simpa using h

theorem set_stage (xs : List Int) (k : Nat) (h : k < xs.length) (x : Int) (hx : x = xs.getD k 0) : (xs.take k ++ List.replicate (xs.length - k) 0).set k x = xs.take (k + 1) ++ List.replicate (xs.length - (k + 1)) 0 := by
  subst hx
  apply List.ext_getElem?
  intro j
  by_cases h1 : j < k
  · rw [List.getElem?_set_ne (by omega), List.getElem?_append_left (by simp; omega), List.getElem?_append_left (by simp; omega), List.getElem?_take, List.getElem?_take, if_pos h1, if_pos (by omega)]
  · by_cases h2 : j = k
    · subst h2
      rw [List.getElem?_set_self (by simp; omega), List.getElem?_append_left (by simp; omega)]
      simp [List.getD, h]
    · rw [List.getElem?_set_ne (by omega), List.getElem?_append_right (by simp; omega), List.getElem?_append_right (by simp; omega)]
      simp only [List.getElem?_replicate, List.length_take]
      by_cases h3 : j < xs.length
      · rw [if_pos (by omega), if_pos (by omega)]
      · rw [if_neg (by omega), if_neg (by omega)]

theorem own_stored {w : World} {B g n cap : Nat} {xs : List Int} (h : Own w B (.slice (some ⟨g, 0, none⟩) n cap) xs) (hn : n = xs.length) (j : Nat) (x : Int) :
    Own (w.setCell ⟨g, j, none⟩ (.int .i64 x)) B (.slice (some ⟨g, 0, none⟩) n cap) (xs.set j x) ∧ w.grownBy (w.setCell ⟨g, j, none⟩ (.int .i64 x)) (some g) := by
  subst hn
  have := World.ownsRow.stored h j (.int .i64 x)
  refine ⟨?_, this.2⟩
  unfold Own
  rw [List.length_set, List.map_set]
  exact this.1

theorem mark_stage (xs : List Int) (m : Int) (k : Nat) (h : k < xs.length) : (iota m k ++ xs.drop k).set k (m + k) = iota m (k + 1) ++ xs.drop (k + 1) := by
  apply List.ext_getElem?
  intro j
  by_cases h1 : j < k
  · rw [List.getElem?_set_ne (by omega), List.getElem?_append_left (by rw [iota_length]; omega), List.getElem?_append_left (by rw [iota_length]; omega)]
    simp [iota, h1, show j < k + 1 by omega]
  · by_cases h2 : j = k
    · subst h2
      rw [List.getElem?_set_self (by simp [iota_length]; omega), List.getElem?_append_left (by rw [iota_length]; omega)]
      simp [iota]
    · rw [List.getElem?_set_ne (by omega), List.getElem?_append_right (by rw [iota_length]; omega), List.getElem?_append_right (by rw [iota_length]; omega)]
      simp only [iota_length, List.getElem?_drop]
      rw [show k + (j - k) = k + 1 + (j - (k + 1)) by omega]

theorem grown_trans {a b c : World} {r : Option Nat} (h : a.grownBy b r) (k : b.grownBy c r) : a.grownBy c r :=
  ⟨k.os.trans h.os, k.tape.trans h.tape, k.output.trans h.output, Nat.le_trans h.size k.size, fun i hi hr => (k.block i (Nat.lt_of_lt_of_le hi h.size) hr).trans (h.block i hi hr)⟩

end Go.Proofs.Ytbmpchpcihnbdaa
