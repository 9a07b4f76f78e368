/-
  The contracts of spec.l1Kernel, slices.Index, impl.kernel, PartKernel (impl and spec).
-/
import Derived.Test.YtodfaiajlholdaaDoorHelp
import Derived.Test.YtodfaiajlholdaaDoorTogether
import Derived.Test.YtodfaiajlholdaaDoorKernMath
import Derived.Maps.AppendAt
namespace Go.Proofs.YtodfaiajlholdaaDoor
set_option linter.unusedSimpArgs false
set_option linter.unusedVariables false
set_option linter.unnecessarySimpa false
open Go.RowKit

theorem own_alloc {w : World} {B : Nat} {v : Value} {xs : List Int} (h : Own w B v xs) (o : Obj) : Own (w.alloc o) B v xs := World.ownsRow.alloc h o

theorem cell_new1 (w : World) (x : Value) (t : TypeId) : (w.alloc (.cells #[x] t)).cell? ⟨w.heap.size, 0, none⟩ = some x := by
  simp

/-- 'append(out, y)' onto a slice of the call's own that is not nil: what it is behind the step. -/
theorem wpList_push {w : World} {ops : Array Oper} {rest : List Oper} {o : Oper} {a : Act} {Q : Exit → Act → World → Prop} (hgd : o.guard = none) (s x : Operand)
    (ho : o.op = .call { callee := .builtin .append, args := #[s, x], argTypes := #[22, 22] })
    (B g n cap : Nat) (xs : List Int) (hs : a.eval s = .slice (some ⟨g, 0, none⟩) n cap) (hown : Own w B (.slice (some ⟨g, 0, none⟩) n cap) xs) (hn : n = xs.length)
    (ad : Addr) (hx : a.eval x = .slice (some ad) 1 1) (y : Int) (hc : w.cell? ad = some (.int .i64 y)) (hl : n ≤ 1000000000) (hB : B ≤ w.heap.size)
    (h : ∀ g' cap' w', Own w' B (.slice (some ⟨g', 0, none⟩) (n + 1) cap') (xs ++ [y]) → w.grownBy w' (some g) → (g' = g ∨ g' = w.heap.size) → wpList Tryd.prog ops Q rest (a.put o.dst (.slice (some ⟨g', 0, none⟩) (n + 1) cap')) w') :
    wpList Tryd.prog ops Q (o :: rest) a w := by
  obtain ⟨i0, hi, hz0, hz1, hz2⟩ := info_parts Tryd.infoInt
  subst hn
  refine wpList_append_own_at w hgd s x 22 ho B 3 i0 (.int .i64 0) 1 8 Tryd.underlying22 hi hz0 hz1 hz2 rfl (by decide) _ xs.length (xs.map (Value.int .i64)) hs hown ad 1 1 [.int .i64 y] hx rfl ?_ ?_ (by unfold maxLen; omega) (by omega) hB ?_
  · intro j u hj
    match j, hj with
    | 0, hj =>
      simp at hj
      subst hj
      simpa [Addr.add] using hc
  · intro u hu
    simp at hu
    subst hu
    rfl
  · intro v' w' ho' hg' hnil hb'
    have hown' : Own w' B v' (xs ++ [y]) := by
      unfold Own
      simpa using ho'
    rcases own_view hown' with ⟨rfl, h2⟩ | ⟨g', cap', rfl, _⟩
    · simp at h2
    · simp only [List.length_append, List.length_cons, List.length_nil] at hown' ⊢
      refine h g' cap' w' hown' hg' ?_
      simpa [Value.ownBlock] using hb'

/-- A slice literal without elements. -/
theorem own_empty (w : World) (B : Nat) (hB : B ≤ w.heap.size) : Own (w.alloc (.cells #[] 3)) B (.slice (some ⟨w.heap.size, 0, none⟩) 0 0) [] :=
  World.ownsRow_made w #[] 0 hB (Nat.zero_le _) rfl

/-- After k numbers of p, what was met last of those that equal x (-1: none). -/
def seen (p : List Int) (x : Int) (k : Nat) : Int := if x ∈ p.take k then (kOut p).getD (p.idxOf x) 0 else -1

theorem seen_zero (p : List Int) (x : Int) : seen p x 0 = -1 := by simp [seen]

theorem seen_hit (p : List Int) (x : Int) (k : Nat) (hk : k < p.length) (h : p.getD k 0 = x) : seen p x (k + 1) = (kOut p).getD k 0 := by
  have hm : x ∈ p := mem_of_getD hk h
  have hi := List.idxOf_lt_length_of_mem hm
  unfold seen
  rw [take_snoc p k hk, if_pos (by rw [h]; simp), ← (kOut_inv p).2 _ _ hi hk, getD_idxOf hm, h]

theorem seen_miss (p : List Int) (x : Int) (k : Nat) (hk : k < p.length) (h : p.getD k 0 ≠ x) : seen p x (k + 1) = seen p x k := by
  unfold seen
  rw [take_snoc p k hk]
  have : (x ∈ p.take k ++ [p.getD k 0]) ↔ x ∈ p.take k := by
    simp only [List.mem_append, List.mem_singleton]
    exact ⟨fun h' => h'.elim id fun e => absurd e.symm h, .inl⟩
  simp only [this]

theorem seen_bd (p : List Int) (x : Int) (k : Nat) (hk : k ≤ p.length) : -1 ≤ seen p x k ∧ seen p x k ≤ p.length := by
  unfold seen
  split
  · have hm : x ∈ p := List.mem_of_mem_take (by assumption)
    have := (kOut_inv p).1 _ (List.idxOf_lt_length_of_mem hm)
    have := kNext_bd p
    omega
  · omega

theorem seen_end (p : List Int) (x : Int) : seen p x p.length = if x ∈ p then (kOut p).getD (p.idxOf x) 0 else -1 := by
  unfold seen
  rw [List.take_length]

theorem kern_stage_mem (xs : List Int) (k : Nat) (h : k < xs.length) (hm : xs.getD k 0 ∈ xs.take k) :
    (kOut (xs.take k) ++ List.replicate (xs.length - k) 0).set k ((kOut (xs.take k) ++ List.replicate (xs.length - k) 0).getD (xs.idxOf (xs.getD k 0)) 0) = kOut (xs.take (k + 1)) ++ List.replicate (xs.length - (k + 1)) 0 := by
  obtain ⟨h1, h2⟩ := (idxOf_take xs k h).1 hm
  have hl : (xs.take k).length = k := by simp; omega
  have e : (kOut (xs.take k) ++ List.replicate (xs.length - k) 0).getD (xs.idxOf (xs.getD k 0)) 0 = (kOut (xs.take k)).getD ((xs.take k).idxOf (xs.getD k 0)) 0 := by
    rw [← h1]
    rw [List.getD_eq_getElem?_getD, List.getElem?_append_left (by rw [kOut_length]; omega), ← List.getD_eq_getElem?_getD]
  rw [e, take_snoc xs k h, (kOut_mem hm).1]
  have hk : (kOut (xs.take k)).length = k := by rw [kOut_length]; exact hl
  rw [List.set_append_right _ _ (by omega), hk, Nat.sub_self, show xs.length - k = (xs.length - (k + 1)) + 1 by omega, List.replicate_succ, List.set_cons_zero, List.append_assoc]
  rfl

theorem kern_stage_new (xs : List Int) (k : Nat) (h : k < xs.length) (hm : xs.getD k 0 ∉ xs.take k) :
    (kOut (xs.take k) ++ List.replicate (xs.length - k) 0).set k (kNext (xs.take k)) = kOut (xs.take (k + 1)) ++ List.replicate (xs.length - (k + 1)) 0 := by
  have hl : (xs.take k).length = k := by simp; omega
  rw [take_snoc xs k h, (kOut_new hm).1]
  have hk : (kOut (xs.take k)).length = k := by rw [kOut_length]; exact hl
  rw [List.set_append_right _ _ (by omega), hk, Nat.sub_self, show xs.length - k = (xs.length - (k + 1)) + 1 by omega, List.replicate_succ, List.set_cons_zero, List.append_assoc]
  rfl

def partKernel (xs : List Int) : List Int × Bool := if 1 ≤ xs.length ∧ xs.length ≤ 8 then (kOut xs, true) else ([], false)

theorem partKernel_len (xs : List Int) (_ : xs.length ≤ 1048576) : (partKernel xs).1.length ≤ 2305843009213693952 := by
  unfold partKernel
  split
  · rw [kOut_length]; omega
  · simp

theorem own_nil (w : World) (B : Nat) : Own w B (.slice none 0 0) [] := World.ownsRow_nil _ _ _ _

theorem countFits_yes (n : Int) (w : World) (h1 : 1 ≤ n) (h2 : n ≤ 8) : Calls Tryd.prog 36 #[.int .i64 n] w fun e w' => e = .returned (.bool true) ∧ w = w' :=
  (countFits_any n w).mono fun _ _ ⟨he, hw⟩ => ⟨by rw [he]; simp [h1, h2], hw⟩
theorem countFits_no (n : Int) (w : World) (h : n < 1 ∨ 8 < n) : Calls Tryd.prog 36 #[.int .i64 n] w fun e w' => e = .returned (.bool false) ∧ w = w' :=
  (countFits_any n w).mono fun _ _ ⟨he, hw⟩ => ⟨by rw [he, decide_eq_false (by omega)], hw⟩

end Go.Proofs.YtodfaiajlholdaaDoor
