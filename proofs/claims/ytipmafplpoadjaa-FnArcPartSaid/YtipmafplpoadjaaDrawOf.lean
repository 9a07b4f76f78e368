/-
  The contract of spec.DrawPartOf.
-/
import Derived.Test.YtipmafplpoadjaaRds
import Derived.Test.YtipmafplpoadjaaRowsCat
import Derived.Test.YtipmafplpoadjaaFinCount
namespace Go.Proofs.Ytipmafplpoadjaa
set_option linter.unusedSimpArgs false
set_option linter.unusedVariables false
set_option linter.unnecessarySimpa false
open Go.RowKit
set_option maxRecDepth 100000

/-- A small number and drawn rows. -/
def OfDrawn (w : World) (e : Ending) (w' : World) : Prop :=
  ∃ (n : Nat) (v : Value) (xss : List (List Int)), e = .returned (.tuple #[.int .i64 n, v]) ∧ n ≤ 10 ∧ RdM w' v xss ∧ xss.length ≤ 9 ∧ Below w.heap.size w w'

theorem rdM_lit1 (w : World) : RdM ((w.alloc (.cells #[.int .i64 0] 3)).alloc (.cells #[.slice (some ⟨w.heap.size, 0, none⟩) 1 1] 23)) (.slice (some ⟨w.heap.size + 1, 0, none⟩) 1 1) [[0]] := by
  refine ⟨_, 1, [.slice (some ⟨w.heap.size, 0, none⟩) 1 1], rfl, rfl, Nat.le_refl _, by unfold maxLen; omega, .inr ⟨w.heap.size + 1, 0, rfl, fun i hi => ?_⟩, fun i hi => ?_⟩
  · obtain rfl : i = 0 := by simpa using hi
    have := cell_new1 (w.alloc (.cells #[.int .i64 0] 3)) (.slice (some ⟨w.heap.size, 0, none⟩) 1 1) 23
    simpa using this
  · obtain rfl : i = 0 := by simpa using hi
    exact own_rdv (own_alloc (own_lit1 w w.heap.size (Nat.le_refl _) 0) _)

theorem rdM_rows {w : World} {b off n cap : Nat} {vs : List Value} {xss : List (List Int)} (hv : vs.length = xss.length) (hn : n = xss.length) (hc : n ≤ cap) (hm : cap ≤ maxLen)
    (hcell : ∀ i, i < xss.length → w.cell? ⟨b, off + i, none⟩ = some (vs.getD i undef)) (hrow : ∀ i, i < xss.length → RdV w (vs.getD i undef) (xss.getD i [])) : RdM w (.slice (some ⟨b, off, none⟩) n cap) xss := by
  subst hn
  exact ⟨_, cap, vs, hv, rfl, hc, hm, .inr ⟨b, off, rfl, hcell⟩, hrow⟩

theorem ownV_facts {w : World} {B g n cap : Nat} {vs : List Value} (h : OwnV w B (.slice (some ⟨g, 0, none⟩) n cap) vs) : n = vs.length ∧ n ≤ cap ∧ cap ≤ maxLen ∧ B ≤ g ∧ g < w.heap.size ∧ ∀ j, j < vs.length → w.cell? ⟨g, j, none⟩ = some (vs.getD j undef) := by
  have h0 := h
  rcases h.2 with ⟨hv, _⟩ | ⟨g', cap', cur, hv, hb, hg, hnc, hcm, hcs, htk⟩
  · cases hv
  · cases hv
    exact ⟨rfl, hnc, hcm, hb, (Array.getElem?_eq_some_iff.1 hg).1, fun j hj => by rw [World.ownsRow.cellAt h0 j (by omega)]; simp [List.getD, hj]⟩

theorem rdv_one {w : World} {v : Value} {xs : List Int} (h : RdV w v xs) : v.oneCell' = true := by
  obtain ⟨ao, ca, rfl, _⟩ := h
  cases ao <;> rfl

def turnAt {α : Type} (l : List α) (k : Nat) : List α := l.drop k ++ l.take k
theorem turnAt_length {α : Type} (l : List α) (k : Nat) : (turnAt l k).length = l.length := by simp [turnAt]; omega
theorem turnAt_get {α : Type} (l : List α) (k : Nat) (d : α) (hk : k ≤ l.length) (i : Nat) (hi : i < l.length) : (turnAt l k).getD i d = l.getD (if i < l.length - k then k + i else i - (l.length - k)) d := by
  unfold turnAt
  simp only [List.getD, List.getElem?_append, List.length_drop, List.getElem?_drop, List.getElem?_take]
  split
  · rfl
  · rename_i h
    rw [if_pos (by omega)]

theorem rdM_tail {w : World} {b n cap : Nat} {xss : List (List Int)} (h : RdM w (.slice (some ⟨b, 0, none⟩) n cap) xss) (hn : 1 ≤ n) : RdM w (.slice (some ⟨b, 1, none⟩) (n - 1) (cap - 1)) (xss.drop 1) := by
  obtain ⟨ao, ca, vs, hvl, hv, h2, h3, h4, h5⟩ := h
  cases hv
  rcases h4 with h4 | ⟨b', off, ha, hc⟩
  · rw [h4] at hn; simp at hn
  · cases ha
    refine rdM_rows (vs := vs.drop 1) (by simp [hvl]) (by simp) (by omega) (by omega) (fun i hi => ?_) fun i hi => ?_
    · rw [List.length_drop] at hi
      have := hc (1 + i) (by omega)
      rw [Nat.zero_add] at this
      rw [this]
      simp [List.getD, Nat.add_comm]
    · rw [List.length_drop] at hi
      have := h5 (1 + i) (by omega)
      simpa [List.getD, Nat.add_comm] using this

theorem rdM_none {w : World} {ao : Option Addr} {cap : Nat} (h : cap ≤ maxLen) : RdM w (.slice ao 0 cap) [] :=
  ⟨ao, cap, [], rfl, rfl, Nat.zero_le _, h, .inl rfl, fun i hi => by simp at hi⟩

theorem ownV_below {w w' : World} {B : Nat} {v : Value} {vs : List Value} (h : OwnV w B v vs) (hb : Below w.heap.size w w') : OwnV w' B v vs := World.ownsRow.kept h (grown_of_below hb) (by
  cases ho : v.ownBlock with
  | none => exact .inl rfl
  | some z => exact .inr (by simp))

theorem wpList_catV {w : World} {ops : Array Oper} {rest : List Oper} {o : Oper} {a : Act} {Q : Exit → Act → World → Prop} (hgd : o.guard = none) (s x : Operand)
    (ho : o.op = .call { callee := .builtin .append, args := #[s, x], argTypes := #[28, 28] })
    (B g n cap : Nat) (vs : List Value) (hs : a.eval s = .slice (some ⟨g, 0, none⟩) n cap) (hown : OwnV w B (.slice (some ⟨g, 0, none⟩) n cap) vs) (hn : n = vs.length)
    (ad : Addr) (m c : Nat) (hx : a.eval x = .slice (some ad) m c) (us : List Value) (hm : m = us.length) (hc : ∀ j, j < us.length → w.cell? (ad.add j) = some (us.getD j undef)) (hu : ∀ z ∈ us, z.oneCell' = true) (hl : n + m ≤ 1000000000) (hB : B ≤ w.heap.size) (r : Nat) (hr : n + m = r)
    (h : ∀ g' cap' w', OwnV w' B (.slice (some ⟨g', 0, none⟩) r cap') (vs ++ us) → w.grownBy w' (some g) → (g' = g ∨ g' = w.heap.size) → wpList Try.prog ops Q rest (a.put o.dst (.slice (some ⟨g', 0, none⟩) r cap')) w') :
    wpList Try.prog ops Q (o :: rest) a w :=
  wpList_plain hgd fun _ hK => wp_catV s x ho B g n cap vs hs hown hn ad m c hx us hm hc hu hl hB r hr fun g' cap' w' h1 h2 h3 => hK _ _ (h g' cap' w' h1 h2 h3)

theorem rows_take {w : World} {b off p t : Nat} {vs : List Value} (hl : vs.length = p) (h : ∀ i, i < p → w.cell? ⟨b, off + i, none⟩ = some (vs.getD i undef)) : ∀ j, j < (vs.take t).length → w.cell? ((⟨b, off, none⟩ : Addr).add j) = some ((vs.take t).getD j undef) := by
  intro j hj
  rw [List.length_take] at hj
  rw [Addr.add_lit, h j (by omega)]
  simp [List.getD, List.getElem?_take, show j < t by omega]

theorem rows_drop {w : World} {b off p t : Nat} {vs : List Value} (hl : vs.length = p) (h : ∀ i, i < p → w.cell? ⟨b, off + i, none⟩ = some (vs.getD i undef)) : ∀ j, j < (vs.drop t).length → w.cell? ((⟨b, off + t, none⟩ : Addr).add j) = some ((vs.drop t).getD j undef) := by
  intro j hj
  rw [List.length_drop] at hj
  rw [Addr.add_lit, Nat.add_assoc, h (t + j) (by omega)]
  simp [List.getD]

end Go.Proofs.Ytipmafplpoadjaa
