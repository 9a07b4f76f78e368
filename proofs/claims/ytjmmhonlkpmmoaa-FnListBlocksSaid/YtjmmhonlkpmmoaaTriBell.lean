/-
  The contracts of the model's Bell numbers and factorials, up to twelve.
-/
import Derived.Test.YtjmmhonlkpmmoaaPut
import Derived.Test.YtjmmhonlkpmmoaaSpecType
import Derived.Deep.RegionLaw
namespace Go.Proofs.Ytjmmhonlkpmmoaa
set_option linter.unusedSimpArgs false
set_option linter.unusedVariables false
set_option linter.unnecessarySimpa false
open Go.RowKit
set_option maxRecDepth 100000

def fac : Nat → Nat
  | 0 => 1
  | n + 1 => (n + 1) * fac n

theorem fac_bd : ∀ k, k < 13 → (fac k : Int) ≤ 479001600 := by decide +kernel

set_option maxHeartbeats 1600000 in
theorem l2Fact12_v (c : Nat) (w : World) (h8 : c ≤ 12) : Calls Try.prog 46 #[.int .i64 c] w fun e w' => e = .returned (.int .i64 (fac c)) ∧ w = w' := by
  go_enter Try.func46, Try.ntmps46
  go_wp2
  go_loop [3, 4] (fun u i => ∃ k : Nat, 1 ≤ k ∧ (k ≤ c ∨ k = 1) ∧ i = .int .i64 ((k + 1 : Nat) : Int) ∧ u = .int .i64 (fac k)) (fun _ i => 14 - (intOf i).toNat)
  case atStart => exact ⟨1, by omega, .inr rfl, rfl, rfl⟩
  case round =>
    obtain ⟨k, hk1, hk, rfl, rfl⟩ := hrel
    have hb := fac_bd k (by omega)
    have hst : fac (k + 1) = (k + 1) * fac k := rfl
    obtain ⟨x, hx⟩ : ∃ x, x = fac k := ⟨_, rfl⟩
    rw [← hx] at hb hst ⊢
    have HX := Lib.hid hx
    have HST := Lib.hid hst
    obtain ⟨m, hm⟩ : ∃ m, m = k + 1 := ⟨_, rfl⟩
    rw [← hm] at HST ⊢
    have HM := Lib.hid hm
    by_cases hlt : m ≤ c
    · have hmm : m ≤ 12 := by omega
      have h1 : 0 ≤ (x : Int) * (m : Int) := Int.mul_nonneg (by omega) (by omega)
      have h2 : (x : Int) * (m : Int) ≤ 479001600 * 12 := Int.mul_le_mul hb (by omega) (by omega) (by omega)
      have b1 : wrap64 ((x : Int) * (m : Int)) = (x : Int) * (m : Int) := IntWalk.wrap64_in _ (by omega)
      clear hx hst hm h1 h2
      go_wp2
      go_round
      case rel => exact ⟨m, by have := HM.out; omega, .inl hlt, by go_num, by rw [HST.out, Int.natCast_mul, Int.mul_comm (m : Int)]; first | rfl | rw [b1]⟩
      case measure => simp [intOf]; omega
    · have he : fac k = fac c := by
        by_cases h : k = 1
        · subst h
          have : c = 0 ∨ c = 1 := by omega
          rcases this with rfl | rfl <;> decide
        · congr 1; omega
      have HE := Lib.hid he
      clear hx hst hm he
      go_wp2
      go_ret
      exact ⟨ret_int (by rw [HX.out, HE.out]), rfl⟩

/-- Bell's triangle: the rows. -/
def belNext (last : Int) : List Int → List Int
  | [] => []
  | x :: xs => (last + x) :: belNext (last + x) xs
def belRow : Nat → List Int
  | 0 => [1]
  | n + 1 => (belRow n).getD n 0 :: belNext ((belRow n).getD n 0) (belRow n)

theorem bel_len : ∀ n, n < 12 → (belRow n).length = n + 1 := by decide +kernel
theorem bel_bd : ∀ n, n < 12 → ∀ k, k < 13 → 0 ≤ (belRow n).getD k 0 ∧ (belRow n).getD k 0 ≤ 5000000 := by decide +kernel
theorem bel_step : ∀ n, n < 11 → ∀ k, k < n + 1 → (belRow (n + 1)).getD (k + 1) 0 = (belRow (n + 1)).getD k 0 + (belRow n).getD k 0 := by decide +kernel
theorem bel_head : ∀ n, n < 11 → (belRow (n + 1)).take 1 = [(belRow n).getD n 0] ∧ (belRow (n + 1)).getD 0 0 = (belRow n).getD n 0 := by decide +kernel
def belN (n : Nat) : Int := (belRow (n - 1)).getD (n - 1) 0

theorem own_litA (w : World) (B : Nat) (hB : B ≤ w.heap.size) (x : Int) : Own (w.alloc (.cells #[.int .i64 x] 3)) B (.slice (some ⟨w.heap.size, 0, none⟩) 1 1) [x] :=
  ⟨by simp, .inr ⟨w.heap.size, 1, #[.int .i64 x], rfl, hB, heap_alloc_new w _, Nat.le_refl _, by unfold maxLen; simp, rfl, by simp⟩⟩

def slcLen : Value → Nat
  | .slice _ n _ => n
  | _ => 0

theorem bel_take (n k : Nat) (h : n < 11) (hk : k < n + 1) : (belRow (n + 1)).take (k + 2) = (belRow (n + 1)).take (k + 1) ++ [(belRow (n + 1)).getD k 0 + (belRow n).getD k 0] := by
  rw [take_snoc _ (k + 1) (by rw [bel_len _ (by omega)]; omega), bel_step n h k hk]

set_option maxHeartbeats 1600000 in
theorem l2Bell12_v (n : Int) (w : World) (h0 : 0 ≤ n) (h8 : n ≤ 12) :
    Calls Try.prog 56 #[.int .i64 n] w (GivesI w (belN n.toNat)) := by
  obtain ⟨c, rfl⟩ := Int.eq_ofNat_of_zero_le h0
  rw [Int.toNat_natCast]
  go_enter Try.func56, Try.ntmps56
  go_wp2
  go_loopw [3, 4] (fun u i wr => ∃ r m g cap : Nat, (r = 0 ∨ m ≤ c) ∧ r < 12 ∧ m = r + 1 ∧ i = .int .i64 m ∧ u = .slice (some ⟨g, 0, none⟩) m cap ∧ Own wr w.heap.size (.slice (some ⟨g, 0, none⟩) m cap) (belRow r) ∧ Below w.heap.size w wr)
    (fun _ i _ => c - (intOf i).toNat)
  case atStart => exact ⟨0, 1, w.heap.size, 1, .inl rfl, by omega, rfl, rfl, rfl, own_litA w _ (Nat.le_refl _) 1, (Below.refl _ _).alloc (Nat.le_refl _) _⟩
  case round =>
    obtain ⟨r, m, g, cap, hr, hr8, hm, rfl, rfl, hown, hbel⟩ := hrel
    have HM := Lib.hid hm
    have hm1 : 1 ≤ m := by omega
    have hm9 : m < 13 := by omega
    have hir : (m : Int) - 1 = (r : Int) := by omega
    have hbl := bel_len r hr8
    have hlast := own_cell hown r (by rw [hbl]; omega)
    by_cases hlt : m < c
    · have hr7 : r < 11 := by omega
      obtain ⟨hh1, hh2⟩ := bel_head r hr7
      have HH1 := Lib.hid hh1
      have HH2 := Lib.hid hh2
      obtain ⟨x, hx⟩ : ∃ x, x = (belRow r).getD r 0 := ⟨_, rfl⟩
      have hxb := bel_bd r hr8 r (by omega)
      rw [← hx] at hlast hxb
      have HX := Lib.hid hx
      have HBL := Lib.hid hbl
      have HO := Lib.hid hown
      have hB := hbel.size
      have hgl := own_lt hown g rfl
      have b1 : (m : Int) < (c : Int) := by omega
      clear hown hx hh1 hh2 hbl hm
      obtain ⟨wo, hwo⟩ : ∃ wo : World, wo = wr := ⟨_, rfl⟩
      subst hwo
      go_wp2
      go_loopw [5, 6] (fun u i wr => ∃ k g' cap' : Nat, k ≤ m ∧ i = .int .i64 k ∧ u = .slice (some ⟨g', 0, none⟩) ((k + 1 : Nat)) cap' ∧ Own wr w.heap.size (.slice (some ⟨g', 0, none⟩) (k + 1) cap') ((belRow (r + 1)).take (k + 1)) ∧ Own wr w.heap.size (.slice (some ⟨g, 0, none⟩) m cap) (belRow r) ∧ Below w.heap.size w wr ∧ g < g')
        (fun _ i _ => m - (intOf i).toNat)
      case atStart =>
        refine ⟨0, wo.heap.size, 1, Nat.zero_le _, rfl, rfl, ?_, own_alloc HO.out _, hbel.alloc hB _, hgl.2⟩
        rw [HH1.out, ← HX.out]
        exact own_litA wo _ hB x
      case round =>
        obtain ⟨k, g', cap', hk, rfl, rfl, hown', hown, hbel', hgg⟩ := hrel
        by_cases hkr : k < m
        · have hck := own_cell hown k (by rw [HBL.out, ← HM.out]; omega)
          have hcl := own_cell hown' k (by rw [List.length_take, bel_len _ (by omega)]; have := HM.out; omega)
          have hgt : ((belRow (r + 1)).take (k + 1)).getD k 0 = (belRow (r + 1)).getD k 0 := by simp [List.getD, List.getElem?_take]
          rw [hgt] at hcl
          have hyb := bel_bd r hr8 k (by have := HM.out; omega)
          have hlb := bel_bd (r + 1) (by omega) k (by have := HM.out; omega)
          have htk := bel_take r k hr7 (by have := HM.out; omega)
          have hst := bel_step r hr7 k (by have := HM.out; omega)
          obtain ⟨y, hy⟩ : ∃ y, y = (belRow r).getD k 0 := ⟨_, rfl⟩
          obtain ⟨l, hl⟩ : ∃ l, l = (belRow (r + 1)).getD k 0 := ⟨_, rfl⟩
          rw [← hy] at hck hyb htk hst
          rw [← hl] at hlb htk hst hcl
          have HTK := Lib.hid htk
          have HST := Lib.hid hst
          have HO' := Lib.hid hown'
          have HOr := Lib.hid hown
          have hB' := hbel'.size
          have hgl' := own_lt hown' g' rfl
          have htl : ((belRow (r + 1)).take (k + 1)).length = k + 1 := by rw [List.length_take, bel_len _ (by omega)]; have := HM.out; omega
          have HTL := Lib.hid htl
          have b2 : (k : Int) < (m : Int) := by omega
          clear hy hl htk hst hown' hown htl
          have b3 : IntKind.i64.wrap (l + y) = l + y := IntWalk.i64_in _ (by omega)
          have b4 : (k : Int) < (k : Int) + 1 := by omega
          go_wp2
          go_region_law (first | (refine step_cat rfl _ _ (by rfl) w.heap.size g' (k + 1) cap' ((belRow (r + 1)).take (k + 1)) (by rfl) (own_drew1 (own_alloc HO'.out _)) (by rw [HTL.out]) ⟨wr.heap.size, 0, none⟩ 1 1 (by rfl) [l + y] rfl (cells_one (cell_new1 _ _ _)) (by omega) (by simp; omega) (k + 1 + 1) rfl ?_; intro g3 cap3 w3 hown3 hgr3 hg3; have hbel3 : Below w.heap.size w w3 := (hbel'.alloc hB' _).drew.grown hgr3 (by simp; omega) (fun q hq => by cases hq; exact hgl'.1); have hor3 : Own w3 w.heap.size (.slice (some ⟨g, 0, none⟩) m cap) (belRow r) := own_grown (own_drew1 (own_alloc HOr.out _)) hgr3 (.inr (by simp [Value.ownBlock]; omega)); have hg3' : g < g3 := (by have := own_lt HOr.out g rfl; first | omega | (simp at hg3; omega)); have HO3 := Lib.hid hown3; have HOr3 := Lib.hid hor3; clear hown3 hgr3 hg3 hor3))
          all_goals
            go_wp2
            go_roundw
            case rel => exact ⟨k + 1, g3, cap3, by omega, by go_num, rfl, by rw [HTK.out]; exact HO3.out, HOr3.out, hbel3, hg3'⟩
            case measure => simp [intOf]; omega
        · have hkr : k = m := by omega
          have hbl2 := bel_len (r + 1) (by omega)
          rw [hkr, List.take_of_length_le (by have := HM.out; omega)] at hown'
          have HBL2 := Lib.hid hbl2
          clear hbl2
          subst hkr
          go_wp2
          go_roundw
          case rel => exact ⟨r + 1, k + 1, g', cap', by omega, by have := HM.out; omega, by rw [HM.out], by go_num, rfl, hown', hbel'⟩
          case measure => simp [intOf]; omega
    · have hrc : r = c - 1 := by omega
      have HRC := Lib.hid hrc
      have b1 : ¬ (m : Int) < (c : Int) := by omega
      obtain ⟨x, hx⟩ : ∃ x, x = (belRow r).getD r 0 := ⟨_, rfl⟩
      rw [← hx] at hlast
      have HX := Lib.hid hx
      clear hrc hm hbl hx
      go_wp2
      go_ret
      have he : belN c = x := by rw [HX.out]; unfold belN; rw [← HRC.out]
      exact ⟨ret_int he.symm, hbel⟩

end Go.Proofs.Ytjmmhonlkpmmoaa
