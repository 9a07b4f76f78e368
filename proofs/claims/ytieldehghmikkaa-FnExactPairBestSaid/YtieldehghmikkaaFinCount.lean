/-
  The contracts of countsWithin, l2Inner.
-/
import Derived.Test.YtieldehghmikkaaInnerMath
import Derived.Test.YtieldehghmikkaaPut
import Derived.Test.YtieldehghmikkaaSpecType
import Derived.Deep.RegionLaw
namespace Go.Proofs.Ytieldehghmikkaa
set_option linter.unusedSimpArgs false
set_option linter.unusedVariables false
set_option linter.unnecessarySimpa false
open Go.RowKit
set_option maxRecDepth 100000

theorem shr0_fact : ∀ t, t < 256 → ∀ y, y < 8 → (bits BinOp.and IntKind.i64 (((t : Nat) : Int) / 2 ^ (y : Nat)) 1 == 0) = !t.testBit y := by decide +kernel
theorem or64b_fact : ∀ t, t < 256 → ∀ y, y < 8 → bits BinOp.or IntKind.i64 ((t : Nat) : Int) (wrap64 (2 ^ (y : Nat))) = ((t ||| 2 ^ y : Nat) : Int) := by decide +kernel

/-- Bell's triangle: the rows. -/
def bellNext (last : Int) : List Int → List Int
  | [] => []
  | x :: xs => (last + x) :: bellNext (last + x) xs
def bellRow : Nat → List Int
  | 0 => [1]
  | n + 1 => (bellRow n).getD n 0 :: bellNext ((bellRow n).getD n 0) (bellRow n)

/-- The first k numbers of the row behind the row n. -/
def bellTo (n k : Nat) : List Int := (bellRow (n + 1)).take (k + 1)

theorem bell_len : ∀ n, n < 8 → (bellRow n).length = n + 1 := by decide +kernel
theorem bell_bd : ∀ n, n < 8 → ∀ k, k < 9 → 0 ≤ (bellRow n).getD k 0 ∧ (bellRow n).getD k 0 ≤ 5000 := by decide +kernel
theorem bell_step : ∀ n, n < 7 → ∀ k, k < n + 1 → (bellRow (n + 1)).getD (k + 1) 0 = (bellRow (n + 1)).getD k 0 + (bellRow n).getD k 0 := by decide +kernel
theorem bell_head : ∀ n, n < 7 → (bellRow (n + 1)).take 1 = [(bellRow n).getD n 0] ∧ (bellRow (n + 1)).getD 0 0 = (bellRow n).getD n 0 := by decide +kernel
def bellN (n : Nat) : Int := (bellRow (n - 1)).getD (n - 1) 0

theorem own_lit1 (w : World) (B : Nat) (hB : B ≤ w.heap.size) (x : Int) : Own (w.alloc (.cells #[.int .i64 x] 3)) B (.slice (some ⟨w.heap.size, 0, none⟩) 1 1) [x] :=
  ⟨by simp, .inr ⟨w.heap.size, 1, #[.int .i64 x], rfl, hB, heap_alloc_new w _, Nat.le_refl _, by unfold maxLen; simp, rfl, by simp⟩⟩

def sliceLen : Value → Nat
  | .slice _ n _ => n
  | _ => 0

theorem bell_take (n k : Nat) (h : n < 7) (hk : k < n + 1) : (bellRow (n + 1)).take (k + 2) = (bellRow (n + 1)).take (k + 1) ++ [(bellRow (n + 1)).getD k 0 + (bellRow n).getD k 0] := by
  rw [take_snoc _ (k + 1) (by rw [bell_len _ (by omega)]; omega), bell_step n h k hk]

set_option maxHeartbeats 1600000 in
theorem l2Bell_v (n : Int) (w : World) (h0 : 0 ≤ n) (h8 : n ≤ 8) :
    Calls Try.prog 86 #[.int .i64 n] w (GivesI w (bellN n.toNat)) := by
  obtain ⟨c, rfl⟩ := Int.eq_ofNat_of_zero_le h0
  rw [Int.toNat_natCast]
  go_enter Try.func86, Try.ntmps86
  go_wp2
  go_loopw [3, 4] (fun u i wr => ∃ r m g cap : Nat, (r = 0 ∨ m ≤ c) ∧ r < 8 ∧ m = r + 1 ∧ i = .int .i64 m ∧ u = .slice (some ⟨g, 0, none⟩) m cap ∧ Own wr w.heap.size (.slice (some ⟨g, 0, none⟩) m cap) (bellRow r) ∧ Below w.heap.size w wr)
    (fun _ i _ => c - (intOf i).toNat)
  case atStart => exact ⟨0, 1, w.heap.size, 1, .inl rfl, by omega, rfl, rfl, rfl, own_lit1 w _ (Nat.le_refl _) 1, (Below.refl _ _).alloc (Nat.le_refl _) _⟩
  case round =>
    obtain ⟨r, m, g, cap, hr, hr8, hm, rfl, rfl, hown, hbel⟩ := hrel
    have HM := Lib.hid hm
    have hm1 : 1 ≤ m := by omega
    have hm9 : m < 9 := by omega
    have hir : (m : Int) - 1 = (r : Int) := by omega
    have hbl := bell_len r hr8
    have hlast := own_cell hown r (by rw [hbl]; omega)
    by_cases hlt : m < c
    · have hr7 : r < 7 := by omega
      obtain ⟨hh1, hh2⟩ := bell_head r hr7
      have HH1 := Lib.hid hh1
      have HH2 := Lib.hid hh2
      obtain ⟨x, hx⟩ : ∃ x, x = (bellRow r).getD r 0 := ⟨_, rfl⟩
      have hxb := bell_bd r hr8 r (by omega)
      rw [← hx] at hlast hxb
      have HX := Lib.hid hx
      have HBL := Lib.hid hbl
      have HO := Lib.hid hown
      have hB := hbel.size
      have hgl := own_lt hown g rfl
      have b1 : (m : Int) < (c : Int) := by omega
      clear hown hx hh1 hh2 hbl hm
      obtain ⟨wo, hwo⟩ : ∃ wo : World, wo = wr := ⟨_, rfl⟩
      subst hwo
      go_wp2
      go_loopw [5, 6] (fun u i wr => ∃ k g' cap' : Nat, k ≤ m ∧ i = .int .i64 k ∧ u = .slice (some ⟨g', 0, none⟩) ((k + 1 : Nat)) cap' ∧ Own wr w.heap.size (.slice (some ⟨g', 0, none⟩) (k + 1) cap') ((bellRow (r + 1)).take (k + 1)) ∧ Own wr w.heap.size (.slice (some ⟨g, 0, none⟩) m cap) (bellRow r) ∧ Below w.heap.size w wr ∧ g < g')
        (fun _ i _ => m - (intOf i).toNat)
      case atStart =>
        refine ⟨0, wo.heap.size, 1, Nat.zero_le _, rfl, rfl, ?_, own_alloc HO.out _, hbel.alloc hB _, hgl.2⟩
        rw [HH1.out, ← HX.out]
        exact own_lit1 wo _ hB x
      case round =>
        obtain ⟨k, g', cap', hk, rfl, rfl, hown', hown, hbel', hgg⟩ := hrel
        by_cases hkr : k < m
        · have hck := own_cell hown k (by rw [HBL.out, ← HM.out]; omega)
          have hcl := own_cell hown' k (by rw [List.length_take, bell_len _ (by omega)]; have := HM.out; omega)
          have hgt : ((bellRow (r + 1)).take (k + 1)).getD k 0 = (bellRow (r + 1)).getD k 0 := by simp [List.getD, List.getElem?_take]
          rw [hgt] at hcl
          have hyb := bell_bd r hr8 k (by have := HM.out; omega)
          have hlb := bell_bd (r + 1) (by omega) k (by have := HM.out; omega)
          have htk := bell_take r k hr7 (by have := HM.out; omega)
          have hst := bell_step r hr7 k (by have := HM.out; omega)
          obtain ⟨y, hy⟩ : ∃ y, y = (bellRow r).getD k 0 := ⟨_, rfl⟩
          obtain ⟨l, hl⟩ : ∃ l, l = (bellRow (r + 1)).getD k 0 := ⟨_, rfl⟩
          rw [← hy] at hck hyb htk hst
          rw [← hl] at hlb htk hst hcl
          have HTK := Lib.hid htk
          have HST := Lib.hid hst
          have HO' := Lib.hid hown'
          have HOr := Lib.hid hown
          have hB' := hbel'.size
          have hgl' := own_lt hown' g' rfl
          have htl : ((bellRow (r + 1)).take (k + 1)).length = k + 1 := by rw [List.length_take, bell_len _ (by omega)]; have := HM.out; omega
          have HTL := Lib.hid htl
          have b2 : (k : Int) < (m : Int) := by omega
          clear hy hl htk hst hown' hown htl
          have b3 : IntKind.i64.wrap (l + y) = l + y := IntWalk.i64_in _ (by omega)
          have b4 : (k : Int) < (k : Int) + 1 := by omega
          go_wp2
          go_region_law (first | (refine step_cat rfl _ _ (by rfl) w.heap.size g' (k + 1) cap' ((bellRow (r + 1)).take (k + 1)) (by rfl) (own_drew1 (own_alloc HO'.out _)) (by rw [HTL.out]) ⟨wr.heap.size, 0, none⟩ 1 1 (by rfl) [l + y] rfl (cells_one (cell_new1 _ _ _)) (by omega) (by simp; omega) (k + 1 + 1) rfl ?_; intro g3 cap3 w3 hown3 hgr3 hg3; have hbel3 : Below w.heap.size w w3 := (hbel'.alloc hB' _).drew.grown hgr3 (by simp; omega) (fun q hq => by cases hq; exact hgl'.1); have hor3 : Own w3 w.heap.size (.slice (some ⟨g, 0, none⟩) m cap) (bellRow r) := own_grown (own_drew1 (own_alloc HOr.out _)) hgr3 (.inr (by simp [Value.ownBlock]; omega)); have hg3' : g < g3 := (by have := own_lt HOr.out g rfl; first | omega | (simp at hg3; omega)); have HO3 := Lib.hid hown3; have HOr3 := Lib.hid hor3; clear hown3 hgr3 hg3 hor3))
          all_goals
            go_wp2
            go_roundw
            case rel => exact ⟨k + 1, g3, cap3, by omega, by go_num, rfl, by rw [HTK.out]; exact HO3.out, HOr3.out, hbel3, hg3'⟩
            case measure => simp [intOf]; omega
        · have hkr : k = m := by omega
          have hbl2 := bell_len (r + 1) (by omega)
          rw [hkr, List.take_of_length_le (by have := HM.out; omega)] at hown'
          have HBL2 := Lib.hid hbl2
          clear hbl2
          subst hkr
          go_wp2
          go_roundw
          case rel => exact ⟨r + 1, k + 1, g', cap', by omega, by have := HM.out; omega, by rw [HM.out], by go_num, rfl, hown', hbel'⟩
          case measure => simp [intOf]; omega
    · have hrc : r = c - 1 := by omega
      have HRC := Lib.hid hrc
      have b1 : ¬ (m : Int) < (c : Int) := by omega
      obtain ⟨x, hx⟩ : ∃ x, x = (bellRow r).getD r 0 := ⟨_, rfl⟩
      rw [← hx] at hlast
      have HX := Lib.hid hx
      clear hrc hm hbl hx
      go_wp2
      go_ret
      have he : bellN c = x := by rw [HX.out]; unfold bellN; rw [← HRC.out]
      exact ⟨ret_int he.symm, hbel⟩

end Go.Proofs.Ytieldehghmikkaa
