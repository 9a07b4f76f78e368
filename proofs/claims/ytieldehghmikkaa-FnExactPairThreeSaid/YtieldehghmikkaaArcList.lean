/-
  The contracts of spec.l5Arcs, and of ArcList of both sides.
-/
import Derived.Test.YtieldehghmikkaaMatIn
import Derived.Test.YtieldehghmikkaaMatHelp
import Derived.Test.YtieldehghmikkaaPairs
import Derived.Test.YtieldehghmikkaaPartIn
namespace Go.Proofs.Ytieldehghmikkaa
set_option linter.unusedSimpArgs false
set_option linter.unusedVariables false
set_option linter.unnecessarySimpa false
open Go.RowKit

/-- 'append(out, row)' onto a list of lists of the call's own, nil or not. -/
theorem wpList_pushV {w : World} {ops : Array Oper} {rest : List Oper} {o : Oper} {a : Act} {Q : Exit → Act → World → Prop} (hgd : o.guard = none) (s x : Operand)
    (ho : o.op = .call { callee := .builtin .append, args := #[s, x], argTypes := #[22, 22] })
    (B S m : Nat) (v : Value) (xss : List (List Int)) (hs : a.eval s = v) (hown : OwnM w B S v xss) (hn : m = xss.length)
    (ad : Addr) (hx : a.eval x = .slice (some ad) 1 1) (u : Value) (ys : List Int) (hc : w.cell? ad = some u) (hu : Own w B u ys) (hui : InB u S w.heap.size) (hBS : B ≤ S) (hSw : S ≤ w.heap.size) (hl : m ≤ 1000000000)
    (h : ∀ g' cap' w', OwnM w' B w'.heap.size (.slice (some ⟨g', 0, none⟩) (m + 1) cap') (xss ++ [ys]) → w.grownBy w' v.ownBlock → wpList Try.prog ops Q rest (a.put o.dst (.slice (some ⟨g', 0, none⟩) (m + 1) cap')) w') :
    wpList Try.prog ops Q (o :: rest) a w :=
  wpList_plain hgd fun _ hK => by
    obtain ⟨g', cap', w', hru, h1, h2⟩ := run_pushV o.type B S m v xss hown hn ad u ys hc hu hui hBS hSw hl
    unfold Oper.wp execOp
    simp only [ho, resolve, invoke, builtin, Sem.run_bind, Sem.run_pure, Result.andThen_ok, List.map_toArray, List.map_cons, List.map_nil, hs, hx, hru]
    exact hK _ _ (h g' cap' w' h1 h2)

theorem own_two (w : World) (B : Nat) (x y : Int) (hB : B ≤ w.heap.size) : Own (w.alloc (.cells #[.int .i64 x, .int .i64 y] 3)) B (.slice (some ⟨w.heap.size, 0, none⟩) 2 2) [x, y] :=
  ⟨rfl, .inr ⟨w.heap.size, 2, _, rfl, hB, heap_alloc_new w _, Nat.le_refl _, by decide, rfl, rfl⟩⟩

theorem rowsOf_append (L M : List (Nat × Nat)) : rowsOf (L ++ M) = rowsOf L ++ rowsOf M := by simp [rowsOf]
theorem rowsOf_length (L : List (Nat × Nat)) : (rowsOf L).length = L.length := by simp [rowsOf]

theorem idx_first {x : Int} {ys : List Int} {t : Nat} (ht : t < ys.length) (he : ys.getD t 0 = x) (hn : ∀ j, j < t → ys.getD j 0 ≠ x) : x ∈ ys ∧ ys.idxOf x = t := by
  have hm : x ∈ ys := mem_of_getD ht he
  refine ⟨hm, ?_⟩
  have hil := List.idxOf_lt_length_of_mem hm
  have hig := getD_idxOf hm
  rcases Nat.lt_trichotomy (ys.idxOf x) t with h | h | h
  · exact absurd hig (hn _ h)
  · exact h
  · have := List.not_of_lt_findIdx (p := (· == x)) (xs := ys) (i := t) (by simpa [List.idxOf] using h)
    simp [List.getD, ht] at he
    simp [he] at this

def arcList (xs : List Int) : List (List Int) × Bool := if partIn xs then (rowsOf (arcsOf xs), true) else ([], false)

theorem rowsOf_take (L : List (Nat × Nat)) (k : Nat) (h : k < L.length) : rowsOf (L.take (k + 1)) = rowsOf (L.take k) ++ [[((L.getD k (0, 0)).1 : Int), ((L.getD k (0, 0)).2 : Int)]] := by
  rw [take_snocA L k h, rowsOf_append]
  rfl

theorem total_rowsOf (L : List (Nat × Nat)) : total (rowsOf L) = 2 * L.length := by
  induction L with
  | nil => rfl
  | cons p L ih =>
    show total ([(p.1 : Int), (p.2 : Int)] :: rowsOf L) = _
    rw [total_cons, ih]
    simp
    omega

theorem arcList_len (xs : List Int) (_ : xs.length ≤ 1048576) : (arcList xs).1.length ≤ 1000000 ∧ total (arcList xs).1 ≤ 1000000 := by
  by_cases hp : partIn xs = true
  · have hl := partIn_len hp
    have := arcsOf_len xs
    simp [arcList, hp, rowsOf_length, total_rowsOf]
    omega
  · simp [arcList, hp, total]

end Go.Proofs.Ytieldehghmikkaa
