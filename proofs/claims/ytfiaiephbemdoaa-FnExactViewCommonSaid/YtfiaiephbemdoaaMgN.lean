/-
  What the laws of this claim lean on: what functions of the program and of the model answer, one after another, and plain mathematics. No condition.
-/
import Derived.Test.YtfiaiephbemdoaaMgH
import Derived.Test.YtfiaiephbemdoaaMgI
import Derived.Test.YtfiaiephbemdoaaMgK
import Derived.Test.YtfiaiephbemdoaaMgL
import Derived.Test.YtfiaiephbemdoaaMgM
import Derived.Deep.RegionLaw

set_option maxHeartbeats 800000
/-
  The contracts of countsWithin, l2Inner.
-/
namespace Go.Proofs.Ytfiaiephbemdoaa
set_option linter.unusedSimpArgs false
set_option linter.unusedVariables false
set_option linter.unnecessarySimpa false
open Go.RowKit
set_option maxRecDepth 100000

theorem shr0_fact : ∀ t, t < 256 → ∀ y, y < 8 → (bits BinOp.and IntKind.i64 (((t : Nat) : Int) / 2 ^ (y : Nat)) 1 == 0) = !t.testBit y := by decide +kernel
theorem or64b_fact : ∀ t, t < 256 → ∀ y, y < 8 → bits BinOp.or IntKind.i64 ((t : Nat) : Int) (wrap64 (2 ^ (y : Nat))) = ((t ||| 2 ^ y : Nat) : Int) := by decide +kernel

/-- Bell's triangle: the rows. -/
def bellNext (last : Int) : List Int → List Int
  | [] => []
  | x :: xs => (last + x) :: bellNext (last + x) xs
def bellRow : Nat → List Int
  | 0 => [1]
  | n + 1 => (bellRow n).getD n 0 :: bellNext ((bellRow n).getD n 0) (bellRow n)

/-- The first k numbers of the row behind the row n. -/
def bellTo (n k : Nat) : List Int := (bellRow (n + 1)).take (k + 1)

theorem bell_len : ∀ n, n < 8 → (bellRow n).length = n + 1 := by decide +kernel
theorem bell_bd : ∀ n, n < 8 → ∀ k, k < 9 → 0 ≤ (bellRow n).getD k 0 ∧ (bellRow n).getD k 0 ≤ 5000 := by decide +kernel
theorem bell_step : ∀ n, n < 7 → ∀ k, k < n + 1 → (bellRow (n + 1)).getD (k + 1) 0 = (bellRow (n + 1)).getD k 0 + (bellRow n).getD k 0 := by decide +kernel
theorem bell_head : ∀ n, n < 7 → (bellRow (n + 1)).take 1 = [(bellRow n).getD n 0] ∧ (bellRow (n + 1)).getD 0 0 = (bellRow n).getD n 0 := by decide +kernel
def bellN (n : Nat) : Int := (bellRow (n - 1)).getD (n - 1) 0

theorem own_lit1 (w : World) (B : Nat) (hB : B ≤ w.heap.size) (x : Int) : Own (w.alloc (.cells #[.int .i64 x] 3)) B (.slice (some ⟨w.heap.size, 0, none⟩) 1 1) [x] :=
  ⟨by simp, .inr ⟨w.heap.size, 1, #[.int .i64 x], rfl, hB, heap_alloc_new w _, Nat.le_refl _, by unfold maxLen; simp, rfl, by simp⟩⟩

def sliceLen : Value → Nat
  | .slice _ n _ => n
  | _ => 0

theorem bell_take (n k : Nat) (h : n < 7) (hk : k < n + 1) : (bellRow (n + 1)).take (k + 2) = (bellRow (n + 1)).take (k + 1) ++ [(bellRow (n + 1)).getD k 0 + (bellRow n).getD k 0] := by
  rw [take_snoc _ (k + 1) (by rw [bell_len _ (by omega)]; omega), bell_step n h k hk]

set_option maxHeartbeats 1600000 in
theorem l2Bell_v (n : Int) (w : World) (h0 : 0 ≤ n) (h8 : n ≤ 8) :
    Calls (cutP Try.prog) 57 #[.int .i64 n] w (GivesI w (bellN n.toNat)) := by
  obtain ⟨c, rfl⟩ := Int.eq_ofNat_of_zero_le h0
  rw [Int.toNat_natCast]
  go_enter Tryp.func57, Tryp.ntmps57
  go_wp2
  go_loopw [3, 4] (fun u i wr => ∃ r m g cap : Nat, (r = 0 ∨ m ≤ c) ∧ r < 8 ∧ m = r + 1 ∧ i = .int .i64 m ∧ u = .slice (some ⟨g, 0, none⟩) m cap ∧ Own wr w.heap.size (.slice (some ⟨g, 0, none⟩) m cap) (bellRow r) ∧ Below w.heap.size w wr)
    (fun _ i _ => c - (intOf i).toNat)
  case atStart => exact ⟨0, 1, w.heap.size, 1, .inl rfl, by omega, rfl, rfl, rfl, own_lit1 w _ (Nat.le_refl _) 1, (Below.refl _ _).alloc (Nat.le_refl _) _⟩
  case round =>
    obtain ⟨r, m, g, cap, hr, hr8, hm, rfl, rfl, hown, hbel⟩ := hrel
    have HM := Lib.hid hm
    have hm1 : 1 ≤ m := by omega
    have hm9 : m < 9 := by omega
    have hir : (m : Int) - 1 = (r : Int) := by omega
    have hbl := bell_len r hr8
    have hlast := own_cell hown r (by rw [hbl]; omega)
    by_cases hlt : m < c
    · have hr7 : r < 7 := by omega
      obtain ⟨hh1, hh2⟩ := bell_head r hr7
      have HH1 := Lib.hid hh1
      have HH2 := Lib.hid hh2
      obtain ⟨x, hx⟩ : ∃ x, x = (bellRow r).getD r 0 := ⟨_, rfl⟩
      have hxb := bell_bd r hr8 r (by omega)
      rw [← hx] at hlast hxb
      have HX := Lib.hid hx
      have HBL := Lib.hid hbl
      have HO := Lib.hid hown
      have hB := hbel.size
      have hgl := own_lt hown g rfl
      have b1 : (m : Int) < (c : Int) := by omega
      clear hown hx hh1 hh2 hbl hm
      obtain ⟨wo, hwo⟩ : ∃ wo : World, wo = wr := ⟨_, rfl⟩
      subst hwo
      go_wp2
      go_loopw [5, 6] (fun u i wr => ∃ k g' cap' : Nat, k ≤ m ∧ i = .int .i64 k ∧ u = .slice (some ⟨g', 0, none⟩) ((k + 1 : Nat)) cap' ∧ Own wr w.heap.size (.slice (some ⟨g', 0, none⟩) (k + 1) cap') ((bellRow (r + 1)).take (k + 1)) ∧ Own wr w.heap.size (.slice (some ⟨g, 0, none⟩) m cap) (bellRow r) ∧ Below w.heap.size w wr ∧ g < g')
        (fun _ i _ => m - (intOf i).toNat)
      case atStart =>
        refine ⟨0, wo.heap.size, 1, Nat.zero_le _, rfl, rfl, ?_, own_alloc HO.out _, hbel.alloc hB _, hgl.2⟩
        rw [HH1.out, ← HX.out]
        exact own_lit1 wo _ hB x
      case round =>
        obtain ⟨k, g', cap', hk, rfl, rfl, hown', hown, hbel', hgg⟩ := hrel
        by_cases hkr : k < m
        · have hck := own_cell hown k (by rw [HBL.out, ← HM.out]; omega)
          have hcl := own_cell hown' k (by rw [List.length_take, bell_len _ (by omega)]; have := HM.out; omega)
          have hgt : ((bellRow (r + 1)).take (k + 1)).getD k 0 = (bellRow (r + 1)).getD k 0 := by simp [List.getD, List.getElem?_take]
          rw [hgt] at hcl
          have hyb := bell_bd r hr8 k (by have := HM.out; omega)
          have hlb := bell_bd (r + 1) (by omega) k (by have := HM.out; omega)
          have htk := bell_take r k hr7 (by have := HM.out; omega)
          have hst := bell_step r hr7 k (by have := HM.out; omega)
          obtain ⟨y, hy⟩ : ∃ y, y = (bellRow r).getD k 0 := ⟨_, rfl⟩
          obtain ⟨l, hl⟩ : ∃ l, l = (bellRow (r + 1)).getD k 0 := ⟨_, rfl⟩
          rw [← hy] at hck hyb htk hst
          rw [← hl] at hlb htk hst hcl
          have HTK := Lib.hid htk
          have HST := Lib.hid hst
          have HO' := Lib.hid hown'
          have HOr := Lib.hid hown
          have hB' := hbel'.size
          have hgl' := own_lt hown' g' rfl
          have htl : ((bellRow (r + 1)).take (k + 1)).length = k + 1 := by rw [List.length_take, bell_len _ (by omega)]; have := HM.out; omega
          have HTL := Lib.hid htl
          have b2 : (k : Int) < (m : Int) := by omega
          clear hy hl htk hst hown' hown htl
          have b3 : IntKind.i64.wrap (l + y) = l + y := IntWalk.i64_in _ (by omega)
          have b4 : (k : Int) < (k : Int) + 1 := by omega
          go_wp2
          go_region_law (first | (refine step_cat rfl _ _ (by rfl) w.heap.size g' (k + 1) cap' ((bellRow (r + 1)).take (k + 1)) (by rfl) (own_drew1 (own_alloc HO'.out _)) (by rw [HTL.out]) ⟨wr.heap.size, 0, none⟩ 1 1 (by rfl) [l + y] rfl (cells_one (cell_new1 _ _ _)) (by omega) (by simp; omega) (k + 1 + 1) rfl ?_; intro g3 cap3 w3 hown3 hgr3 hg3; have hbel3 : Below w.heap.size w w3 := (hbel'.alloc hB' _).drew.grown hgr3 (by simp; omega) (fun q hq => by cases hq; exact hgl'.1); have hor3 : Own w3 w.heap.size (.slice (some ⟨g, 0, none⟩) m cap) (bellRow r) := own_grown (own_drew1 (own_alloc HOr.out _)) hgr3 (.inr (by simp [Value.ownBlock]; omega)); have hg3' : g < g3 := (by have := own_lt HOr.out g rfl; first | omega | (simp at hg3; omega)); have HO3 := Lib.hid hown3; have HOr3 := Lib.hid hor3; clear hown3 hgr3 hg3 hor3))
          all_goals
            go_wp2
            go_roundw
            case rel => exact ⟨k + 1, g3, cap3, by omega, by go_num, rfl, by rw [HTK.out]; exact HO3.out, HOr3.out, hbel3, hg3'⟩
            case measure => simp [intOf]; omega
        · have hkr : k = m := by omega
          have hbl2 := bell_len (r + 1) (by omega)
          rw [hkr, List.take_of_length_le (by have := HM.out; omega)] at hown'
          have HBL2 := Lib.hid hbl2
          clear hbl2
          subst hkr
          go_wp2
          go_roundw
          case rel => exact ⟨r + 1, k + 1, g', cap', by omega, by have := HM.out; omega, by rw [HM.out], by go_num, rfl, hown', hbel'⟩
          case measure => simp [intOf]; omega
    · have hrc : r = c - 1 := by omega
      have HRC := Lib.hid hrc
      have b1 : ¬ (m : Int) < (c : Int) := by omega
      obtain ⟨x, hx⟩ : ∃ x, x = (bellRow r).getD r 0 := ⟨_, rfl⟩
      rw [← hx] at hlast
      have HX := Lib.hid hx
      clear hrc hm hbl hx
      go_wp2
      go_ret
      have he : bellN c = x := by rw [HX.out]; unfold bellN; rw [← HRC.out]
      exact ⟨ret_int he.symm, hbel⟩

end Go.Proofs.Ytfiaiephbemdoaa

/-
  The model's contracts: spec.l4Place, l4At, ListPlace, ListAt, ListNext, ListBefore, ListOpen.
-/
namespace Go.Proofs.Ytfiaiephbemdoaa
set_option linter.unusedSimpArgs false
set_option linter.unusedVariables false
set_option linter.unnecessarySimpa false
open Go.RowKit

theorem at_stop {q o s : Int} (m : Nat) (ho : 1 ≤ o) (hm : (m : Int) ≤ s) (h0 : 0 ≤ q - m * o) (h1 : (m : Int) < s → q - m * o < o) : min (q / o) s = m := by
  by_cases h : (m : Int) < s
  · have hlt := h1 h
    have e : q = (q - m * o) + m * o := by omega
    have hd : q / o = m := by
      rw [e, Int.add_mul_ediv_right _ _ (by omega), Int.ediv_eq_zero_of_lt h0 hlt]
      omega
    rw [hd]
    omega
  · have he : (m : Int) = s := by omega
    have : s ≤ q / o := Int.le_ediv_of_mul_le (by omega) (by rw [← he]; omega)
    omega

set_option maxHeartbeats 1600000 in
theorem l4At_any (n : Nat) (P : Int) (w : World) (h8 : n ≤ 8) (hP0 : 0 ≤ P) (hP1 : P < opn n 0) :
    Calls (cutP Try.prog) 58 #[.int .i64 n, .int .i64 P] w (FreshL w (atL n P)) := by
  have HST := Lib.hid (atStage_start n P hP0 hP1)
  have HO0 := Lib.hid (own_empty w w.heap.size (Nat.le_refl _))
  clear hP0 hP1
  go_enter Tryp.func58, Tryp.ntmps58
  go_wp2
  go_loopw [1, 5, 6] (fun u o v wr => ∃ (i g cap : Nat) (q : Int) (pre : List Int), v = .int .i64 i ∧ u = .int .i64 q ∧ o = .slice (some ⟨g, 0, none⟩) i cap ∧ AtStage n P i pre q ∧ Own wr w.heap.size (.slice (some ⟨g, 0, none⟩) i cap) pre ∧ Below w.heap.size w wr)
    (fun _ _ v _ => n - (intOf v).toNat)
  case atStart => exact ⟨0, w.heap.size, 0, P, [], rfl, rfl, rfl, HST.out, HO0.out, (Below.refl _ _).alloc (Nat.le_refl _) _⟩
  case round =>
    obtain ⟨i, g, cap, q, pre, rfl, rfl, rfl, hst, hown, hb⟩ := hrel
    have hile := hst.le
    have HO := Lib.hid hown
    have HB := Lib.hid hb
    by_cases hlt : i < n
    · have hsm : Small pre := by
        have := pre_small (n := n) hst.ok (by rw [hst.len]; omega) 0
        simpa using this
      have hsl := size_le_len pre 0 (by omega) hst.ok
      rw [hst.len] at hsl
      have hs0 := sizeFrom_nonneg pre 0
      have hq0 := hst.q0
      have hq1 := hst.q1
      have hn1 : n - i = (n - (i + 1)) + 1 := by omega
      have hq4 := (opn_bd (n - i) (sizeFrom 0 pre) hs0 (by omega)).2
      have hstep := atStage_step hst hlt
      have hl4 := fun (k : Int) (w1 : World) (h1 : sizeFrom 0 pre ≤ k) (h2 : k ≤ sizeFrom 0 pre + 1) => l4Open_any (n - (i + 1)) ((n : Int) - 1 - (i : Int)) k w1 (by omega) (by omega) (by omega)
      have HSZ : Hid (Calls (cutP Try.prog) 61 #[.slice (some ⟨g, 0, none⟩) i cap] wr fun e w' => e = .returned (.int .i64 (sizeFrom 0 pre)) ∧ wr = w') := by
        have hr := own_rdv hown
        obtain ⟨ao, ca, e1, h1, h2, h3⟩ := hr
        unfold maxLen at h3
        have := l1Size_any ao ca pre wr h1 (by omega) hsm
        rw [← e1] at this
        exact this
      have hob := opn_bd (n - (i + 1)) (sizeFrom 0 pre) hs0 (by omega)
      have hq5 : q < sizeFrom 0 pre * opn (n - (i + 1)) (sizeFrom 0 pre) + opn (n - (i + 1)) (sizeFrom 0 pre + 1) := by
        rw [hn1] at hq1
        exact hq1
      have hlen := hst.len
      have hbs := hb.size
      obtain ⟨s, hsd⟩ : ∃ s, s = sizeFrom 0 pre := ⟨_, rfl⟩
      rw [← hsd] at hsl hs0 hq1 hq4 hstep hl4 HSZ hob hq5
      obtain ⟨o, ho⟩ : ∃ o, o = opn (n - (i + 1)) s := ⟨_, rfl⟩
      rw [← ho] at hstep hob hq5
      obtain ⟨ho1, ho2⟩ := hob
      have hq6 : q ≤ 4140 := by omega
      have HL4 := Lib.hid hl4
      have HSTEP := Lib.hid hstep
      have HOE := Lib.hid ho
      have HLEN := Lib.hid hlen
      have HQ5 := Lib.hid hq5
      have HN1 := Lib.hid hn1
      clear hl4 hstep ho hlen hq5 hq1 hq4 hsd hsm hst hown hb hn1
      go_wp2_with (go_at_call 61; refine HSZ.out.mono ?_; rintro e w' ⟨rfl, rfl⟩)
      go_loop [1, 8] (fun u v => ∃ m : Nat, (m : Int) ≤ s ∧ v = .int .i64 m ∧ u = .int .i64 (q - m * o) ∧ 0 ≤ q - m * o) (fun _ v => (s - intOf v).toNat)
      case atStart => exact ⟨0, by omega, rfl, by congr 1; simp, by simp; omega⟩
      case round =>
        obtain ⟨m, hm, rfl, rfl, hr0⟩ := hrel
        have hmo0 : 0 ≤ (m : Int) * o := Int.mul_nonneg (by omega) (by omega)
        have hcall := HL4.out (max s ((m : Int) + 1)) wr (by omega) (by omega)
        have hzb := opn_bd (n - (i + 1)) (max s ((m : Int) + 1)) (by omega) (by omega)
        obtain ⟨z, hz⟩ : ∃ z, z = opn (n - (i + 1)) (max s ((m : Int) + 1)) := ⟨_, rfl⟩
        rw [← hz] at hcall hzb
        obtain ⟨hz1, hz2⟩ := hzb
        have HCALL := Lib.hid hcall
        obtain ⟨r, hr⟩ : ∃ r, r = q - (m : Int) * o := ⟨_, rfl⟩
        have hr4 : r ≤ 4140 := by omega
        rw [← hr] at hr0
        have hzo : (m : Int) < s → z = o := fun h => by rw [hz, HOE.out, show max s ((m : Int) + 1) = s by omega]
        by_cases hstop : r < z
        · have hmin : (m : Int) = min (q / o) s := (at_stop m ho1 hm (by omega) (fun h => by rw [← hr, ← hzo h]; exact hstop)).symm
          obtain ⟨hs2, _, _⟩ := HSTEP.out (m : Int) hmin
          rw [← hr] at hs2 ⊢
          have HS2 := Lib.hid hs2
          clear hs2 hmin hr hz hzo hcall hmo0
          go_wp2_with (first | (go_at_call 76; refine HCALL.out.mono ?_; rintro e w' ⟨rfl, rfl⟩) | (at_builtin; refine wpList_push rfl _ _ rfl w.heap.size g i cap pre rfl (own_alloc HO.out _) HLEN.out.symm ⟨wr.heap.size, 0, none⟩ rfl (m : Int) (cell_new1 _ _ _) (by omega) (by simp; omega) ?_))
          intro g' cap' w3 hown3 hgr3 hg3
          have hbel3 : Below w.heap.size w w3 := (HB.out.alloc hbs _).grown hgr3 (by simp; omega) (fun q hq => by cases hq; exact (own_lt HO.out g rfl).1)
          have HO3 := Lib.hid hown3
          clear hown3 hgr3 hg3
          go_wp2
          go_roundw
          case rel => exact ⟨i + 1, g', cap', r, pre ++ [(m : Int)], by go_num, rfl, rfl, HS2.out, HO3.out, hbel3⟩
          case measure => simp [intOf]; omega
        · have hms : (m : Int) < s := by
            rcases Int.lt_or_le (m : Int) s with h | h
            · exact h
            · have he : (m : Int) = s := by omega
              have hzz : z = opn (n - (i + 1)) (s + 1) := by rw [hz, he, max_new]
              have := HQ5.out
              rw [← hzz, ← he] at this
              omega
          have hze := hzo hms
          have HEQ : Hid (q - ((m + 1 : Nat) : Int) * o = r - z) := by
            show q - ((m + 1 : Nat) : Int) * o = r - z
            rw [hze, hr, show ((m + 1 : Nat) : Int) = (m : Int) + 1 by omega, Int.add_mul, Int.one_mul]
            omega
          rw [← hr]
          have hrz : 0 ≤ r - z := by omega
          clear hr hz hzo hcall hmo0 hze
          go_wp2_with (first | (go_at_call 76; refine HCALL.out.mono ?_; rintro e w' ⟨rfl, rfl⟩))
          go_round
          case rel => exact ⟨m + 1, by omega, by go_num, by rw [HEQ.out], by rw [HEQ.out]; exact hrz⟩
          case measure => simp [intOf]; omega
    · obtain rfl : i = n := by omega
      have hend := atStage_end hst
      have HEND := Lib.hid hend
      have HLEN := Lib.hid hst.len
      clear hend hst hown hb
      go_wp2
      go_ret
      exact ⟨_, rfl, by rw [HEND.out]; exact HO.out, HB.out⟩

end Go.Proofs.Ytfiaiephbemdoaa

/-
  The model's contracts: spec.ListPlace, ListAt, ListNext, ListBefore, ListOpen.
-/
namespace Go.Proofs.Ytfiaiephbemdoaa
set_option linter.unusedSimpArgs false
set_option linter.unusedVariables false
set_option linter.unnecessarySimpa false
open Go.RowKit

theorem bell_opnN : ∀ n, n < 9 → bellN n = (opnN n 0 : Int) := by decide +kernel
theorem bell_opn (n : Nat) (h : n ≤ 8) : bellN n = opn n 0 := by
  have := opn_nat n 0
  rw [bell_opnN n (by omega), ← this]
  rfl

theorem l6In_is (b : Bool) (n lo hi : Int) (w : World) (h : decide (lo ≤ n ∧ n ≤ hi) = b) : Calls (cutP Try.prog) 56 #[.int .i64 n, .int .i64 lo, .int .i64 hi] w fun e w' => e = .returned (.bool b) ∧ w = w' := by
  subst h
  exact l6In_any n lo hi w

theorem next_is_at {xs : List Int} (hp : partIn xs = true) : listNext xs = listAt xs.length (plc xs + 1) := by
  have hl := partIn_len hp
  have hb := plc_bd (partIn_ok hp)
  unfold listNext listAt
  by_cases h : plc xs + 1 < opn xs.length 0
  · rw [if_pos ⟨hp, h⟩, if_pos ⟨by omega, by omega, by simpa using h⟩]
    simp
  · rw [if_neg (fun k => h k.2), if_neg (fun k => h (by simpa using k.2.2))]

theorem before_is_at {xs : List Int} (hp : partIn xs = true) : listBefore xs = listAt xs.length (plc xs - 1) := by
  have hl := partIn_len hp
  have hb := plc_bd (partIn_ok hp)
  unfold listBefore listAt
  by_cases h : 0 < plc xs
  · rw [if_pos ⟨hp, h⟩, if_pos ⟨by omega, by omega, by simp; omega⟩]
    simp
  · rw [if_neg (fun k => h k.2), if_neg (fun k => h (by omega))]

end Go.Proofs.Ytfiaiephbemdoaa

/-
  The contract of the laws' heldIntSS; append of a row that was just made.
-/
namespace Go.Proofs.Ytfiaiephbemdoaa
set_option linter.unusedSimpArgs false
set_option linter.unusedVariables false
set_option linter.unnecessarySimpa false
open Go.RowKit
set_option maxRecDepth 100000

/-- The value of an owned list is a slice. -/
theorem own_slice' {w : World} {B : Nat} {v : Value} {xs : List Int} (h : Own w B v xs) : ∃ ao cap, v = .slice ao xs.length cap := by
  obtain ⟨ao, cap, hv, _⟩ := own_rd h
  exact ⟨ao, cap, hv⟩

/-- A slice of slices of the call's own that is not nil, opened. -/
theorem ownM_slot {w : World} {B S g n cap : Nat} {xss : List (List Int)} (h : OwnM w B S (.slice (some ⟨g, 0, none⟩) n cap) xss) : B ≤ g ∧ g < S ∧ g < w.heap.size := by
  obtain ⟨vs, _, hv, _⟩ := ownM_parts h
  rcases hv with ⟨h, _⟩ | ⟨g', cap', h, hb, hs, hg, _⟩
  · cases h
  · simp only [Value.slice.injEq, Option.some.injEq, Addr.mk.injEq, and_true, true_and] at h
    omega

/-- 'append(out, row)' behind the making of the row: what it is behind the step. -/
theorem wpList_row {w : World} {ops : Array Oper} {rest : List Oper} {o : Oper} {a : Act} {Q : Exit → Act → World → Prop} (hgd : o.guard = none) (s x : Operand)
    (ho : o.op = .call { callee := .builtin .append, args := #[s, x], argTypes := #[23, 23] })
    (w0 wq : World) (u : Value) (hw : w = wq.alloc (.cells #[u] 25)) (S g n cap : Nat) (xss : List (List Int)) (hs : a.eval s = .slice (some ⟨g, 0, none⟩) n cap) (hown : OwnM wq w0.heap.size S (.slice (some ⟨g, 0, none⟩) n cap) xss) (hn : n = xss.length)
    (hx : a.eval x = .slice (some ⟨wq.heap.size, 0, none⟩) 1 1) (ys : List Int) (hu : Own wq w0.heap.size u ys) (hui : InB u S wq.heap.size) (hSw : w0.heap.size ≤ S ∧ S ≤ wq.heap.size) (hl : n ≤ 1000000000) (hbel : Below w0.heap.size w0 wq)
    (h : ∀ g' cap' w', OwnM w' w0.heap.size w'.heap.size (.slice (some ⟨g', 0, none⟩) (n + 1) cap') (xss ++ [ys]) → Below w0.heap.size w0 w' → wq.heap.size < w'.heap.size → wpList (cutP Try.prog) ops Q rest (a.put o.dst (.slice (some ⟨g', 0, none⟩) (n + 1) cap')) w') :
    wpList (cutP Try.prog) ops Q (o :: rest) a w := by
  subst hw
  have hsl := ownM_slot hown
  refine wpList_pushM hgd s x ho w0.heap.size S g n cap xss hs (ownM_below hown ((Below.refl _ _).alloc (Nat.le_refl _) _)) hn ⟨wq.heap.size, 0, none⟩ hx u ys (cell_new1 _ _ _) (own_alloc hu _) (fun q hq => by have := hui q hq; simp; omega) hSw.1 (by simp; omega) hl (n + 1) rfl ?_
  intro g' cap' w' h1 h2
  refine h g' cap' w' h1 ?_ ?_
  · exact (hbel.alloc (by omega) _).grown h2 (by simp; omega) (fun q hq => by cases hq; exact hsl.1)
  · have := h2.size
    simp at this
    omega

end Go.Proofs.Ytfiaiephbemdoaa

/-
  spec.PartBlocks; append of rows of a list of lists onto a list of lists of the call's own.
-/
namespace Go.Proofs.Ytfiaiephbemdoaa
set_option linter.unusedSimpArgs false
set_option linter.unusedVariables false
set_option linter.unnecessarySimpa false
open Go.RowKit
set_option maxRecDepth 100000

def partBlocks (xs : List Int) : List (List Int) × Bool := if partIn xs then (blocksTo xs (pSize xs).toNat, true) else ([], false)

/-- A list of slices' values in a block of the call's own. -/
def OwnV (w : World) (B : Nat) (v : Value) (vs : List Value) : Prop := w.ownsRow B 25 1 v vs.length vs

theorem ownV_empty (w : World) (B : Nat) (hB : B ≤ w.heap.size) : OwnV (w.alloc (.cells #[] 25)) B (.slice (some ⟨w.heap.size, 0, none⟩) 0 0) [] :=
  World.ownsRow_made w #[] 0 hB (Nat.zero_le _) rfl

/-- 'append(out, rows...)' onto a slice of slices of the call's own that is not nil. -/
theorem wp_catV {w : World} {o : Oper} {a : Act} {K : Act → World → Prop} {Q : Exit → Act → World → Prop} (s x : Operand)
    (ho : o.op = .call { callee := .builtin .append, args := #[s, x], argTypes := #[23, 23] })
    (B g n cap : Nat) (vs : List Value) (hs : a.eval s = .slice (some ⟨g, 0, none⟩) n cap) (hown : OwnV w B (.slice (some ⟨g, 0, none⟩) n cap) vs) (hn : n = vs.length)
    (ad : Addr) (m c : Nat) (hx : a.eval x = .slice (some ad) m c) (us : List Value) (hm : m = us.length) (hc : ∀ j, j < us.length → w.cell? (ad.add j) = some (us.getD j undef)) (hu : ∀ z ∈ us, z.oneCell' = true) (hl : n + m ≤ 1000000000) (hB : B ≤ w.heap.size) (r : Nat) (hr : n + m = r)
    (h : ∀ g' cap' w', OwnV w' B (.slice (some ⟨g', 0, none⟩) r cap') (vs ++ us) → w.grownBy w' (some g) → (g' = g ∨ g' = w.heap.size) → K (a.put o.dst (.slice (some ⟨g', 0, none⟩) r cap')) w') :
    o.wp (cutP Try.prog) a w K Q := by
  obtain ⟨i0, hi, hz0, hz1, hz2⟩ := info_parts Try.infoInts
  subst hr
  subst hn
  subst hm
  have hnews : ∀ j u, us[j]? = some u → w.cell? (ad.add j) = some u := by
    intro j u hj
    have hjl : j < us.length := (List.getElem?_eq_some_iff.1 hj).1
    rw [hc j hjl]
    simp [List.getD, hj]
  obtain ⟨v', w', hru, ho', hg', hnil, hb'⟩ := run_append_own_at (P := (cutP Try.prog)) w B 23 o.type 25 i0 (.slice none 0 0) 1 24 Tryp.underlying23 hi hz0 hz1 hz2 rfl (by decide) _ vs.length vs hown ad us.length c us (by simp) hnews hu (by unfold maxLen; omega) (by omega) hB
  unfold Oper.wp execOp
  simp only [ho, resolve, invoke, builtin, Sem.run_bind, Sem.run_pure, Result.andThen_ok, List.map_toArray, List.map_cons, List.map_nil, hs, hx, hru]
  have hown' : OwnV w' B v' (vs ++ us) := by
    unfold OwnV
    simpa using ho'
  rcases ho'.2 with ⟨rfl, h2⟩ | ⟨g', cap', cur, rfl, hB', hg2, rest⟩
  · simp at hnil
  · try simp only [List.length_append] at hown' ⊢
    refine h g' cap' w' hown' hg' ?_
    simpa [Value.ownBlock] using hb'

theorem step_catV {w : World} {ops : Array Oper} {o : Oper} {a : Act} {K : Act → World → Prop} {Q : Exit → Act → World → Prop} {E : Prop} (hgd : o.guard = none) (s x : Operand)
    (ho : o.op = .call { callee := .builtin .append, args := #[s, x], argTypes := #[23, 23] })
    (B g n cap : Nat) (vs : List Value) (hs : a.eval s = .slice (some ⟨g, 0, none⟩) n cap) (hown : OwnV w B (.slice (some ⟨g, 0, none⟩) n cap) vs) (hn : n = vs.length)
    (ad : Addr) (m c : Nat) (hx : a.eval x = .slice (some ad) m c) (us : List Value) (hm : m = us.length) (hc : ∀ j, j < us.length → w.cell? (ad.add j) = some (us.getD j undef)) (hu : ∀ z ∈ us, z.oneCell' = true) (hl : n + m ≤ 1000000000) (hB : B ≤ w.heap.size) (r : Nat) (hr : n + m = r)
    (h : ∀ g' cap' w', OwnV w' B (.slice (some ⟨g', 0, none⟩) r cap') (vs ++ us) → w.grownBy w' (some g) → (g' = g ∨ g' = w.heap.size) → K (a.put o.dst (.slice (some ⟨g', 0, none⟩) r cap')) w') :
    if Region.wanted o (yielded ops a.tmps) = true then Oper.wp (cutP Try.prog) o a w K Q else E := by
  have hw : Region.wanted o (yielded ops a.tmps) = true := by simp [Region.wanted, hgd]
  rw [if_pos hw]
  exact wp_catV s x ho B g n cap vs hs hown hn ad m c hx us hm hc hu hl hB r hr h

end Go.Proofs.Ytfiaiephbemdoaa

/-
  The model's contracts: spec.ListAll, ListBlocks.
-/
namespace Go.Proofs.Ytfiaiephbemdoaa
set_option linter.unusedSimpArgs false
set_option linter.unusedVariables false
set_option linter.unnecessarySimpa false
open Go.RowKit

theorem l6In7_is (b : Bool) (n : Int) (w : World) (h : decide (1 ≤ n ∧ n ≤ 7) = b) : Calls (cutP Try.prog) 56 #[.int .i64 n, .int .i64 1, .int .i64 7] w fun e w' => e = .returned (.bool b) ∧ w = w' := l6In_is b n 1 7 w h

set_option maxHeartbeats 1600000 in
theorem sListAll_w (a : Int) (w : World) : Calls (cutP Try.prog) 36 #[.int .i64 a] w (FreshMB w (listAll a)) := by
  have HO0 := Lib.hid (ownM_empty w w.heap.size (Nat.le_refl _))
  by_cases h : 1 ≤ a ∧ a ≤ 7
  · have hr : listAll a = (allL a.toNat, true) := by unfold listAll; rw [if_pos h]
    rw [hr]
    obtain ⟨c, rfl⟩ : ∃ c : Nat, a = c := ⟨a.toNat, by omega⟩
    rw [Int.toNat_natCast]
    have hc8 : c ≤ 8 := by omega
    have hc7 : c ≤ 7 := by omega
    have hc1 : 1 ≤ c := by omega
    have HC := Lib.hid fun (w1 : World) => l6In7_is true (c : Int) w1 (by simpa using h)
    have hob := opn_bd c 0 (by omega) (by omega)
    have hbl := fun (w1 : World) => l2Bell_v (c : Int) w1 (by omega) (by omega)
    rw [Int.toNat_natCast, bell_opn c hc8] at hbl
    obtain ⟨T, hT⟩ : ∃ T : Nat, T = (opn c 0).toNat := ⟨_, rfl⟩
    have hTi : opn c 0 = (T : Int) := by omega
    have hT2 : T ≤ 4140 := by omega
    rw [hTi] at hbl
    have HB := Lib.hid hbl
    have HAL : Hid (allL c = (List.range T).map fun p => atL c (p : Nat)) := by show _ = _; unfold allL; rw [hT]
    have HL := Lib.hid fun (p : Nat) (w1 : World) (hp : p < T) => l4At_any c (p : Int) w1 hc8 (by omega) (by omega)
    clear hr h hbl hT hTi hob
    go_enter Tryp.func36, Tryp.ntmps36
    go_wp2_with fail
    refine (HC.out _).mono ?_
    rintro e w' ⟨rfl, rfl⟩
    go_wp2_with fail
    go_loopw [4, 5] (fun u v wr => ∃ p g cap : Nat, p ≤ T ∧ v = .int .i64 p ∧ u = .slice (some ⟨g, 0, none⟩) p cap ∧ OwnM wr w.heap.size wr.heap.size (.slice (some ⟨g, 0, none⟩) p cap) ((List.range p).map fun p => atL c (p : Nat)) ∧ Below w.heap.size w wr)
      (fun _ v _ => T - (intOf v).toNat)
    case atStart => exact ⟨0, w.heap.size, 0, Nat.zero_le _, rfl, rfl, ownM_mono HO0.out (Nat.le_refl _) (by simp), (Below.refl _ _).alloc (Nat.le_refl _) _⟩
    case round =>
      obtain ⟨p, g, cap, hp, rfl, rfl, hom, hb⟩ := hrel
      have HOM := Lib.hid hom
      have HBB := Lib.hid hb
      clear hom hb
      go_wp2_with fail
      refine (HB.out _).mono ?_
      rintro e w1 ⟨rfl, hb1⟩
      have HOM1 := Lib.hid (ownM_below HOM.out hb1)
      have hs1 := hb1.size
      have hbel1 := below_step HBB.out hb1
      have HB1 := Lib.hid hbel1
      clear hb1 hbel1
      by_cases hlt : p < T
      · have HLP := Lib.hid fun (w2 : World) => HL.out p w2 hlt
        have hsw := HBB.out.size
        have HRS := Lib.hid (List.range_succ (n := p))
        go_wp2_with fail
        refine (HLP.out _).mono ?_
        rintro e w5 ⟨u, rfl, ho5, hb5⟩
        obtain ⟨gu, cu, rfl⟩ := own_slice' ho5
        have hbel5 := below_step HB1.out hb5
        have hin := inB_of_own ho5
        have HO5 := Lib.hid (own_mono ho5 HB1.out.size)
        have HOM5 := Lib.hid (ownM_below HOM1.out hb5)
        have hs35 := hb5.size
        clear ho5 hb5
        go_wp2_with (at_builtin; refine wpList_row rfl _ _ rfl w w5 _ rfl w1.heap.size g p cap ((List.range p).map fun p => atL c (p : Nat)) rfl (ownM_mono HOM5.out (Nat.le_refl _) (by omega)) (by simp) rfl (atL c (p : Nat)) HO5.out hin ⟨HB1.out.size, hs35⟩ (by omega) hbel5 ?_)
        intro g6 cap6 w6 hown6 hbel6 hs6
        have HO6 := Lib.hid hown6
        clear hown6
        go_wp2
        go_roundw
        case rel => exact ⟨p + 1, g6, cap6, by omega, by go_num, rfl, by rw [HRS.out, List.map_append]; exact HO6.out, hbel6⟩
        case measure => simp [intOf]; omega
      · obtain rfl : p = T := by omega
        go_wp2
        go_ret2
        exact ⟨_, rfl, by rw [HAL.out]; exact ownM_mono HOM1.out (Nat.le_refl _) hs1, HB1.out⟩
  · have hr : listAll a = ([], false) := by unfold listAll; rw [if_neg h]
    rw [hr]
    have HC := Lib.hid fun (w1 : World) => l6In7_is false a w1 (by simpa using h)
    clear hr h
    go_enter Tryp.func36, Tryp.ntmps36
    go_wp2_with fail
    refine (HC.out _).mono ?_
    rintro e w' ⟨rfl, rfl⟩
    go_wp2
    go_ret2
    exact ⟨_, rfl, ownM_mono HO0.out (Nat.le_refl _) (by simp), (Below.refl _ _).alloc (Nat.le_refl _) _⟩

theorem sListAll_v (a : Int) (w : World) (_ : (Lit.int .i64 a).wf = true) : Calls (cutP Try.prog) 36 #[.int .i64 a] w (FreshMB w (listAll a)) := sListAll_w a w

theorem wpList_catV' {w : World} {ops : Array Oper} {rest : List Oper} {o : Oper} {a : Act} {Q : Exit → Act → World → Prop} (hgd : o.guard = none) (s x : Operand)
    (ho : o.op = .call { callee := .builtin .append, args := #[s, x], argTypes := #[23, 23] })
    (B g n cap : Nat) (vs : List Value) (hs : a.eval s = .slice (some ⟨g, 0, none⟩) n cap) (hown : OwnV w B (.slice (some ⟨g, 0, none⟩) n cap) vs) (hn : n = vs.length)
    (ad : Addr) (hx : a.eval x = .slice (some ad) 1 1) (u : Value) (hc : w.cell? ad = some u) (hu : u.oneCell' = true) (hl : n + 1 ≤ 1000000000) (hB : B ≤ w.heap.size)
    (h : ∀ g' cap' w', OwnV w' B (.slice (some ⟨g', 0, none⟩) (n + 1) cap') (vs ++ [u]) → w.grownBy w' (some g) → (g' = g ∨ g' = w.heap.size) → wpList (cutP Try.prog) ops Q rest (a.put o.dst (.slice (some ⟨g', 0, none⟩) (n + 1) cap')) w') :
    wpList (cutP Try.prog) ops Q (o :: rest) a w :=
  wpList_plain hgd fun _ hK => wp_catV s x ho B g n cap vs hs hown hn ad 1 1 hx [u] rfl (fun j hj => by
    obtain rfl : j = 0 := by simpa using hj
    simpa [Addr.add] using hc) (fun z hz => by simp at hz; subst hz; exact hu) hl hB (n + 1) rfl fun g' cap' w' h1 h2 h3 => hK _ _ (h g' cap' w' h1 h2 h3)

theorem ownV_later {w w' : World} {B : Nat} {v : Value} {vs : List Value} (h : OwnV w B v vs) (hb : Below w.heap.size w w') : OwnV w' B v vs := World.ownsRow.kept h (grown_of_below hb) (by
  cases ho : v.ownBlock with
  | none => exact .inl rfl
  | some z => exact .inr (by simp))

/-- The places up to i at which a list with k blocks stands. -/
def isOf (k : Int) (xss : List (List Int)) (i : Nat) : List Nat := (List.range i).filter fun j => pSize (xss.getD j []) == k

theorem isOf_succ (k : Int) (xss : List (List Int)) (i : Nat) : isOf k xss (i + 1) = isOf k xss i ++ (if (pSize (xss.getD i []) == k) = true then [i] else []) := by
  unfold isOf
  rw [List.range_succ, List.filter_append]
  congr 1
  simp only [List.filter_cons, List.filter_nil]

theorem isOf_lt {k : Int} {xss : List (List Int)} {i j : Nat} (h : j ∈ isOf k xss i) : j < i := by
  unfold isOf at h
  simp at h
  exact h.1

theorem isOf_sorted (k : Int) (xss : List (List Int)) (i : Nat) : (isOf k xss i).Pairwise (· < ·) := by
  unfold isOf
  exact List.Pairwise.filter _ List.pairwise_lt_range

theorem isOf_filter (k : Int) (xss : List (List Int)) : (isOf k xss xss.length).map (fun j => xss.getD j []) = xss.filter fun xs => pSize xs == k := by
  have e : xss = (List.range xss.length).map (fun j => xss.getD j []) := by
    apply List.ext_getElem?
    intro j
    by_cases hj : j < xss.length
    · simp [hj, List.getD]
    · simp [hj, List.getElem?_eq_none (show xss.length ≤ j by omega)]
  unfold isOf
  conv => rhs; rw [e]
  rw [List.filter_map]
  rfl

/-- Rows of a list of lists of the call's own, picked in order, in a new slice of the call's own. -/
theorem ownM_pick {w : World} {B B0 S S' : Nat} {u : Value} {xss : List (List Int)} {vs : List Value} (hvl : vs.length = xss.length)
    (hrows : ∀ i, i < xss.length → Own w B (vs.getD i undef) (xss.getD i []) ∧ InB (vs.getD i undef) B S) (hap : ∀ i j, i < j → j < xss.length → apart (vs.getD i undef) (vs.getD j undef)) (hB0 : B0 ≤ B) (hS : S ≤ S')
    (is : List Nat) (hlt : ∀ j, j ∈ is → j < xss.length) (hso : is.Pairwise (· < ·)) (ho : OwnV w B0 u (is.map fun j => vs.getD j undef)) (hu : InB u B0 S') : OwnM w B0 S' u (is.map fun j => xss.getD j []) := by
  have hg : ∀ i, i < is.length → (is.map fun j => vs.getD j undef).getD i undef = vs.getD (is.getD i 0) undef ∧ (is.map fun j => xss.getD j []).getD i [] = xss.getD (is.getD i 0) [] ∧ is.getD i 0 < xss.length := fun i hi => by
    refine ⟨by simp [List.getD, hi], by simp [List.getD, hi], ?_⟩
    have : is.getD i 0 ∈ is := by simp [List.getD, hi]
    exact hlt _ this
  refine ⟨is.map fun j => vs.getD j undef, by simp, ?_, hu, ?_, ?_⟩
  · have h2 := ho
    unfold OwnV at h2
    simpa using h2
  · intro i hi
    simp at hi
    obtain ⟨e1, e2, e3⟩ := hg i hi
    rw [e1, e2]
    exact ⟨own_mono (hrows _ e3).1 hB0, inB_mono (hrows _ e3).2 hB0 hS⟩
  · intro i j hij hj
    simp at hj
    obtain ⟨e1, _, e3⟩ := hg i (by omega)
    obtain ⟨f1, _, f3⟩ := hg j hj
    rw [e1, f1]
    refine hap _ _ ?_ f3
    have := List.pairwise_iff_getElem.1 hso i j (by omega) hj hij
    simpa [List.getD, hj, show i < is.length by omega] using this

end Go.Proofs.Ytfiaiephbemdoaa

/-
  ViewCommon as a pure function; spec.ViewCommon. No condition.
-/
namespace Go.Proofs.Ytfiaiephbemdoaa
open Go.RowKit
set_option linter.unusedVariables false
set_option linter.unusedSimpArgs false
set_option linter.unnecessarySimpa false

/-- Where the first least one of the first k numbers stands. -/
def bst (cs : List Int) : Nat → Nat
  | 0 => 0
  | k + 1 => if cs.getD k 0 < cs.getD (bst cs k) 0 then k else bst cs k
theorem bst_lt (cs : List Int) : ∀ k, 0 < k → bst cs k < k
  | 0, h => by omega
  | 1, _ => by simp [bst]
  | k + 2, _ => by
    have := bst_lt cs (k + 1) (by omega)
    unfold bst
    split <;> omega
theorem bst_min (cs : List Int) : ∀ k, 0 < k → (∀ j, j < k → cs.getD (bst cs k) 0 ≤ cs.getD j 0) ∧ ∀ j, j < bst cs k → cs.getD (bst cs k) 0 < cs.getD j 0
  | 0, h => by omega
  | 1, _ => by
    refine ⟨fun j hj => ?_, fun j hj => ?_⟩
    · obtain rfl : j = 0 := by omega
      simp [bst]
    · simp [bst] at hj
  | k + 2, _ => by
    obtain ⟨h1, h2⟩ := bst_min cs (k + 1) (by omega)
    unfold bst
    split
    · rename_i h
      refine ⟨fun j hj => ?_, fun j hj => ?_⟩
      · by_cases e : j = k + 1
        · subst e; omega
        · have := h1 j (by omega); omega
      · have := h1 j hj; omega
    · rename_i h
      refine ⟨fun j hj => ?_, h2⟩
      by_cases e : j = k + 1
      · subst e; omega
      · exact h1 j (by omega)

def costsL (vs : List (List Int)) (L : Nat) : List Int := (allL L).map fun p => ((costOf p vs : Nat) : Int)
/-- ViewCommon. -/
def viewCommon (vs : List (List Int)) : List Int × Bool :=
  if areV vs then ((allL (vs.getD 0 []).length).getD (bst (costsL vs (vs.getD 0 []).length) (costsL vs (vs.getD 0 []).length).length) [], true) else ([], false)

theorem allL_lenV {n : Nat} {x : List Int} (h : x ∈ allL n) : x.length = n := by
  unfold allL at h
  obtain ⟨p, _, rfl⟩ := List.mem_map.1 h
  exact atL_length _ _

theorem allL_many {L : Nat} (h1 : 1 ≤ L) (h5 : L ≤ 5) : 1 ≤ (allL L).length ∧ (allL L).length ≤ 52 := by
  rw [allL_length]
  obtain rfl | rfl | rfl | rfl | rfl : L = 1 ∨ L = 2 ∨ L = 3 ∨ L = 4 ∨ L = 5 := by omega
  all_goals decide +kernel
theorem listAll_few {L : Nat} (h1 : 1 ≤ L) (h5 : L ≤ 5) : listAll (L : Int) = (allL L, true) := by
  unfold listAll
  rw [if_pos ⟨by omega, by omega⟩]
  simp

theorem costsL_get {vs : List (List Int)} {L k : Nat} (h : k < (allL L).length) : (costsL vs L).getD k 0 = ((costOf ((allL L).getD k []) vs : Nat) : Int) := by
  simp [costsL, List.getD, h]
theorem costsL_len (vs : List (List Int)) (L : Nat) : (costsL vs L).length = (allL L).length := by simp [costsL]

theorem cell_rowK {w : World} {b off n ca : Nat} {vs : List (List Int)} (hv : RdM w (.slice (some ⟨b, off, none⟩) n ca) vs) {k : Nat} (hk : k < vs.length) : ∃ zo zc, w.cell? ⟨b, off + k, none⟩ = some (.slice zo (vs.getD k []).length zc) ∧ RdV w (.slice zo (vs.getD k []).length zc) (vs.getD k []) := by
  obtain ⟨b', off', ca', zo, zc, e, h1, h2⟩ := cell_row hv hk
  injection e with e
  injection e with e
  injection e with e4 e5
  subst e4 e5
  exact ⟨zo, zc, h1, h2⟩

set_option maxHeartbeats 3200000 in
theorem sViewCommon_v (v : Value) (vs : List (List Int)) (w : World) (hv : RdM w v vs) : Calls (cutP Try.prog) 11 #[v] w (FreshLB w (viewCommon vs)) := by
  have HM := Lib.hid hv
  have bel : Below w.heap.size w w := Below.refl _ _
  cases ha : areV vs
  · have hr : viewCommon vs = ([], false) := by simp [viewCommon, ha]
    rw [hr]
    have HA := Lib.hid (fun w' (h : RdM w' v vs) => (by have := l7Views_v v vs w' h; rw [ha] at this; exact this : Calls (cutP Try.prog) 35 #[v] w' (GivesB w' false)))
    clear hr ha hv
    go_enter Tryp.func11, Tryp.ntmps11
    go_wp2_with fail
    refine (HA.out _ HM.out).mono ?_
    rintro e w2 ⟨rfl, hb⟩
    have hsz := hb.size
    go_wp2
    go_ret2
    exact ⟨_, rfl, own_empty _ _ hsz, hb.alloc hsz _⟩
  · have HA := Lib.hid (fun w' (h : RdM w' v vs) => (by have := l7Views_v v vs w' h; rw [ha] at this; exact this : Calls (cutP Try.prog) 35 #[v] w' (GivesB w' true)))
    have hlen := areV_len ha
    obtain ⟨b, off, ca2, zo, zc, rfl, hc1, hrow⟩ := cell_row HM.out (k := 0) (by omega)
    obtain ⟨l0, hl0⟩ : ∃ l0, l0 = (vs.getD 0 []).length := ⟨_, rfl⟩
    obtain ⟨L, hL1, hL5, hL⟩ := areV_row ha
    have e0 : l0 = L := by rw [hl0, (hL 0 (by omega)).1]
    subst e0
    have hr : viewCommon vs = ((allL l0).getD (bst (costsL vs l0) (allL l0).length) [], true) := by
      unfold viewCommon
      rw [if_pos ha, ← hl0, costsL_len]
    rw [hr]
    obtain ⟨n, hn⟩ : ∃ n, n = vs.length := ⟨_, rfl⟩
    have z0 : (0 : Int) < (n : Int) := by rw [hn]; omega
    have z1 : 0 < n := by omega
    rw [← hl0, Nat.add_zero] at hc1
    rw [← hn] at HM HA ⊢
    have HN := Lib.hid hn
    have hn6 : n ≤ 6 := by omega
    obtain ⟨hq1, hq52⟩ := allL_many hL1 hL5
    have hlr : ∀ k, k < (allL l0).length → ((allL l0).getD k []).length = l0 := fun k hk => allL_lenV (by simp [List.getD, hk])
    have HC := Lib.hid (fun w' vx k (hk : k < (allL l0).length) (h1 : RdV w' vx ((allL l0).getD k [])) (h2 : RdM w' (.slice (some ⟨b, off, none⟩) n ca2) vs) => l7Cost_v vx (.slice (some ⟨b, off, none⟩) n ca2) ((allL l0).getD k []) vs w' h1 h2 (by rw [hlr k hk]; exact hL1) (by rw [hlr k hk]; omega) (fun j hj => by rw [(hL j hj).1, hlr k hk]) (by omega))
    have HLA : Hid (∀ w', Calls (cutP Try.prog) 36 #[.int .i64 l0] w' (FreshMB w' (allL l0, true))) := Lib.hid fun w' => by
      rw [← listAll_few hL1 hL5]
      exact sListAll_w _ _
    have HG := Lib.hid (fun k (hk : k < (allL l0).length) => costsL_get (vs := vs) hk)
    obtain ⟨A, hA⟩ : ∃ A, A = allL l0 := ⟨_, rfl⟩
    obtain ⟨C, hC⟩ : ∃ C, C = costsL vs l0 := ⟨_, rfl⟩
    rw [← hA, ← hC] at HG
    rw [← hA] at HC HLA hlr hq1 hq52
    rw [← hA, ← hC]
    obtain ⟨q, hq⟩ : ∃ q, q = A.length := ⟨_, rfl⟩
    rw [← hq] at HC HG hlr hq1 hq52 ⊢
    have HQ := Lib.hid hq
    have HLR := Lib.hid hlr
    have HL5 := Lib.hid (And.intro hL1 hL5)
    clear hr ha hv hrow hl0 hL hn hlen hA hC hq hlr hL1 hL5
    go_enter Tryp.func11, Tryp.ntmps11
    go_wp2_with fail
    refine (HA.out _ HM.out).mono ?_
    rintro e w2 ⟨rfl, hb⟩
    have hc2 := cell_belowV hc1 hb
    go_wp2_with fail
    refine (HLA.out w2).mono ?_
    rintro e w3 ⟨v_all, rfl, o, hb3⟩
    have bel3 := below_step hb hb3
    replace o : OwnM w3 w2.heap.size w3.heap.size v_all A := o
    have r_all := ownM_rdM o
    clear o hb3 hc2 hb bel
    obtain ⟨b2, o2, c2, zo0, zc0, rfl, hk0, hr0⟩ := cell_row r_all (k := 0) (by rw [← HQ.out]; omega)
    rw [HLR.out 0 (by omega), Nat.add_zero] at hk0
    rw [HLR.out 0 (by omega)] at hr0
    rw [← HQ.out] at r_all
    have hq0 : (0 : Int) < (q : Int) := by omega
    have hq0' : 0 < q := by omega
    have HRA := Lib.hid r_all
    have HR0 := Lib.hid hr0
    clear r_all hr0
    rw [← HQ.out]
    go_wp2
    go_loopw [6, 7] (fun bs i wr => ∃ (k bk : Nat) (yo : Option Addr) (yc : Nat), 1 ≤ k ∧ k ≤ q ∧ i = .int .i64 k ∧ bk < q ∧ bs = .slice yo l0 yc ∧ Below w.heap.size w wr ∧ Below w3.heap.size w3 wr ∧ RdV wr (.slice yo l0 yc) (A.getD bk []) ∧ bk = bst C k) (fun _ i _ => q - (intOf i).toNat)
    case atStart => exact ⟨1, 0, _, _, Nat.le_refl 1, hq1, rfl, by omega, rfl, bel3, Below.refl _ _, HR0.out, by simp [bst]⟩
    case round =>
      clear bel3
      obtain ⟨k, bk, yo, yc, hk1, hkq, rfl, hbk, rfl, belw, bel3, hbv, hbs⟩ := hrel
      by_cases hlt : k < q
      · obtain ⟨zo1, zc1, hck, hrk⟩ := cell_rowK HRA.out (k := k) (by rw [← HQ.out]; exact hlt)
        rw [HLR.out k hlt] at hck hrk
        replace hck := cell_belowV hck bel3
        replace hrk := rdv_below hrk bel3
        have H1 := fun w' h1 h2 => HC.out w' (.slice zo1 l0 zc1) k hlt h1 h2
        have H2 := fun w' h1 h2 => HC.out w' (.slice yo l0 yc) bk hbk h1 h2
        have g1 := HG.out k hlt
        have g2 := HG.out bk hbk
        obtain ⟨x1, hx1⟩ : ∃ x, x = costOf (A.getD k []) vs := ⟨_, rfl⟩
        obtain ⟨x2, hx2⟩ : ∃ x, x = costOf (A.getD bk []) vs := ⟨_, rfl⟩
        rw [← hx1] at H1 g1
        rw [← hx2] at H2 g2
        have HH1 := Lib.hid H1
        have HH2 := Lib.hid H2
        have HG1 := Lib.hid g1
        have HG2 := Lib.hid g2
        have HBS := Lib.hid hbs
        have HRK := Lib.hid hrk
        have HBV := Lib.hid hbv
        have hkl : (k : Int) < (q : Int) := by omega
        have hk0 : (0 : Int) ≤ (k : Int) := by omega
        clear H1 H2 g1 g2 hx1 hx2 hbs hrk hbv
        go_wp2_with fail
        refine (HH1.out _ HRK.out (rdM_below HM.out belw)).mono ?_
        rintro e w4 ⟨rfl, hb4⟩
        have belw4 := below_step belw hb4
        have bel4 := below_step bel3 hb4
        have hck4 := cell_belowV hck hb4
        have HBV4 := Lib.hid (rdv_below HBV.out hb4)
        have HRK4 := Lib.hid (rdv_below HRK.out hb4)
        go_wp2_with fail
        refine (HH2.out _ HBV4.out (rdM_below HM.out belw4)).mono ?_
        rintro e w5 ⟨rfl, hb5⟩
        have belw5 := below_step belw4 hb5
        have bel5 := below_step bel4 hb5
        have hck5 := cell_belowV hck4 hb5
        have HBV5 := Lib.hid (rdv_below HBV4.out hb5)
        have HRK5 := Lib.hid (rdv_below HRK4.out hb5)
        clear hb4 hb5 belw4 bel4 hck4 belw bel3 hck HBV HRK HBV4 HRK4
        by_cases hx : (x1 : Int) < (x2 : Int)
        · go_wp2
          go_roundw
          case rel => exact ⟨k + 1, k, _, _, by omega, by omega, by go_num, hlt, rfl, belw5, bel5, HRK5.out, by unfold bst; rw [← HBS.out, HG1.out, HG2.out, if_pos hx]⟩
          case measure => simp [intOf]; omega
        · go_wp2
          go_roundw
          case rel => exact ⟨k + 1, bk, _, _, by omega, by omega, by go_num, hbk, rfl, belw5, bel5, HBV5.out, by unfold bst; rw [← HBS.out, HG1.out, HG2.out, if_neg (by omega)]⟩
          case measure => simp [intOf]; omega
      · have hkn : k = q := by omega
        subst hkn
        have hln := HLR.out bk hbk
        have hl15 := HL5.out
        obtain ⟨ys, hys⟩ : ∃ ys, ys = A.getD bk [] := ⟨_, rfl⟩
        have hfin : A.getD (bst C k) [] = ys := by rw [← hbs, hys]
        have HF := Lib.hid hfin
        rw [← hys] at hbv hln
        obtain ⟨bb, bo, rfl, hcs⟩ : ∃ bb bo, yo = some ⟨bb, bo, none⟩ ∧ ∀ j, j < ys.length → wr.cell? ⟨bb, bo + j, none⟩ = some (.int .i64 (ys.getD j 0)) := by
          obtain ⟨_, _, e, hr, _⟩ := hbv
          injection e with e1 e2 e3
          subst e1
          rcases hr with hr | ⟨bb, bo, e, hr⟩
          · rw [hr] at hln; simp at hln; omega
          · exact ⟨bb, bo, e, hr⟩
        have HCS := Lib.hid hcs
        have HLN := Lib.hid hln.symm
        have hsz := belw.size
        clear hcs hln hbv hys hfin hbs
        go_wp2_with (at_builtin; refine wpList_cat rfl _ _ rfl w.heap.size wr.heap.size 0 0 [] rfl (own_empty wr w.heap.size hsz) rfl ⟨bb, bo, none⟩ l0 yc rfl ys HLN.out (fun j hj => by rw [Addr.add_lit]; exact cell_belowV (HCS.out j hj) (Below.alloc (Below.refl _ _) (Nat.le_refl _) _)) (by omega) (by simp; omega) l0 (by omega) ?_)
        intro g4 cap4 w6 hown4 hgr4 hg4
        have hbw := belw.alloc hsz (.cells #[] 3)
        have hbw6 := hbw.grown hgr4 (by simp; omega) (fun q hq => by cases hq; exact hsz)
        have HO4 := Lib.hid hown4
        clear hown4 hgr4 hg4
        go_wp2
        go_ret2
        refine ⟨.slice (some ⟨g4, 0, none⟩) l0 cap4, rfl, ?_, hbw6⟩
        show Own w6 w.heap.size _ (A.getD (bst C _) [])
        rw [HF.out]
        exact HO4.out
end Go.Proofs.Ytfiaiephbemdoaa

/-
  impl.ViewCommon beside others that only leave. No condition.
-/
namespace Go.Proofs.Ytfiaiephbemdoaa
set_option linter.unusedVariables false
set_option linter.unusedSimpArgs false
open Go.Conc Go.RowKit

theorem minTo_bst (xs : List Int) : ∀ k, 0 < k → k ≤ xs.length → minTo xs k = xs.getD (bst xs k) 0
  | 0, h, _ => by omega
  | 1, _, h => by
    rw [minTo_succ (by omega)]
    simp [bst, minTo]
  | k + 2, _, h => by
    rw [minTo_succ (by omega), minTo_bst xs (k + 1) (by omega) (by omega)]
    conv => rhs; unfold bst
    split <;> omega
theorem idxOf_first : ∀ {xs : List Int} {b : Nat}, b < xs.length → (∀ j, j < b → xs.getD j 0 ≠ xs.getD b 0) → xs.idxOf (xs.getD b 0) = b
  | [], b, h, _ => by simp at h
  | x :: xs, 0, _, _ => by simp
  | x :: xs, b + 1, h, hne => by
    have h0 := hne 0 (by omega)
    simp only [List.getD_cons_zero, List.getD_cons_succ] at h0
    rw [List.getD_cons_succ, List.idxOf_cons, show (x == xs.getD b 0) = false by simpa using h0, cond_false]
    rw [idxOf_first (by simpa using h) (fun j hj => by simpa using hne (j + 1) (by omega))]
theorem idxOf_min {xs : List Int} (h : 0 < xs.length) : minTo xs xs.length ∈ xs ∧ xs.idxOf (minTo xs xs.length) = bst xs xs.length ∧ bst xs xs.length < xs.length := by
  have hb := bst_lt xs _ h
  obtain ⟨m1, m2⟩ := bst_min xs _ h
  rw [minTo_bst xs _ h (Nat.le_refl _)]
  refine ⟨?_, idxOf_first hb fun j hj => ?_, hb⟩
  · rw [List.getD_eq_getElem?_getD, List.getElem?_eq_getElem hb]
    exact List.getElem_mem hb
  · have := m2 j hj
    omega

set_option maxRecDepth 100000 in
set_option maxHeartbeats 1600000 in
theorem iViewCommon_b {X w : World} {v0 : Value} {vs : List (List Int)} (h1 : RdM w v0 vs) :
    CallsB (duo Try.prog X) 10 #[v0] w (fun v w' => ∃ u, v = .tuple #[u, .bool (viewCommon vs).2] ∧ Own w' w.heap.size u (viewCommon vs).1 ∧ Bel w w') := by
  refine CallsB.of_body kit (fn := Try.f10) Tryp.func10 Try.func10 rfl (by kernel_rfl) (by kernel_rfl) ?_
  simp only [Try.ntmps10, List.size_toArray, List.length_cons, List.length_nil, Nat.reduceAdd, Nat.reduceSub, Array.replicate_succ, Array.replicate_zero, List.push_toArray, List.append_toArray, List.nil_append, List.cons_append]
  refine WpB.seq kit (WpB.of_wp kit (fun τ => ?_) (outs_then (outs_body _ _ _)))
  go_wp
  refine WpB.own ?_
  by_cases ha : areV vs = true
  · obtain ⟨L, hL1, hL5, hL⟩ := areV_row ha
    have hlen := areV_len ha
    obtain ⟨vb, vo, vcap, bV, oV, cV, hv1, hV⟩ := rows_at h1 hlen.1 hL1 (fun k hk => (hL k hk).1)
    obtain ⟨hc0, _, hr0⟩ := hV 0 (by omega)
    rw [Nat.add_zero] at hc0
    have z0 : (0 : Int) < (vs.length : Int) := by omega
    have z1 : 0 < vs.length := by omega
    have hl0 := (hL 0 (by omega)).1
    have hr : viewCommon vs = ((allL L).getD (bst (costsL vs L) (allL L).length) [], true) := by
      unfold viewCommon
      rw [if_pos ha, hl0, costsL_len]
    rw [hr]
    have HV := Lib.hid (fun τ => areViews_v v0 vs (ownTape w τ) h1)
    have H1 := Lib.hid h1
    obtain ⟨n, hn⟩ : ∃ n, n = vs.length := ⟨_, rfl⟩
    rw [← hn] at z0 z1 hv1
    have HL := Lib.hid hL
    have HN := Lib.hid hn
    have HE := Lib.hid hlen
    have HL1 := Lib.hid hL1
    have HL5 := Lib.hid hL5
    have HQ := Lib.hid (allL_many hL1 hL5)
    have HIM := Lib.hid (idxOf_min (xs := costsL vs L) (by rw [costsL_len]; have := (allL_many hL1 hL5).1; omega))
    have HCL := Lib.hid (costsL_len vs L)
    have HCC := Lib.hid (show costsL vs L = (allL L).map fun p => ((costOf p vs : Nat) : Int) from rfl)
    have HLA : Hid (∀ w', Calls (cutP Try.prog) 31 #[.int .i64 L] w' (FreshMB w' (allL L, true))) := Lib.hid fun w' => by
      rw [← listAll_few hL1 hL5]
      exact iListAll_v _ _ (by obtain rfl | rfl | rfl | rfl | rfl : L = 1 ∨ L = 2 ∨ L = 3 ∨ L = 4 ∨ L = 5 := (by omega) <;> rfl)
    have HPL : Hid (∀ k, k < (allL L).length → ((allL L).getD k []).length = L) := Lib.hid fun k hk => allL_lenV (by simp [List.getD, hk])
    obtain ⟨A, hA⟩ : ∃ A, A = allL L := ⟨_, rfl⟩
    obtain ⟨C, hC⟩ : ∃ C, C = costsL vs L := ⟨_, rfl⟩
    rw [← hA] at HLA HQ HPL HCL HCC
    rw [← hC] at HIM HCL HCC
    rw [← hA, ← hC]
    obtain ⟨row, hrow⟩ : ∃ r, r = A.getD (bst C A.length) [] := ⟨_, rfl⟩
    rw [← hrow]
    have HROW := Lib.hid hrow
    clear hrow
    rw [ha] at HV
    subst hv1
    clear hV hr hr0 ha hL hlen hL1 hL5 hn hl0 hA hC h1
    refine WpB.seq kit (WpB.of_wp kit (fun τ => ?_) (outs_then (outs_body _ _ _)))
    go_wp2_with fail
    refine (HV.out τ).mono ?_
    rintro e w2 ⟨rfl, rfl⟩
    go_wp2
    refine WpB.own ?_
    refine WpB.seq kit (WpB.of_wp kit (fun τ => ?_) (outs_then (outs_body _ _ _)))
    go_wp2_with fail
    refine (HLA.out _).mono ?_
    rintro e w2 ⟨v_all, rfl, o, hb⟩
    have bel : Bel w w2 := bel_of_below hb
    have o2 : OwnM w2 w.heap.size w2.heap.size v_all A := o
    clear o hb
    have HO := Lib.hid o2
    clear o2
    go_wp2
    refine WpB.seq kit (WpB.region kit ?_)
    simp only [List.size_toArray, List.length_cons, List.length_nil, Nat.reduceAdd, Nat.zero_add, List.range, List.range.loop]
    unfold OpsB
    simp only [List.getElem?_toArray, List.getElem?_cons_zero, List.getElem?_cons_succ]
    rw [if_pos (by rfl)]
    left
    intro _
    unfold Oper.wp
    go_simp
    unfold OpsB
    simp only [List.getElem?_toArray, List.getElem?_cons_zero, List.getElem?_cons_succ]
    rw [if_pos (by rfl)]
    left
    intro _
    unfold Oper.wp
    go_simp
    unfold OpsB
    simp only [List.getElem?_toArray, List.getElem?_cons_zero, List.getElem?_cons_succ]
    rw [if_pos (by rfl)]
    right
    refine ⟨32, #[v_all, .slice (some ⟨vb, vo, none⟩) n vcap], fun W => ⟨by kernel_rfl, by kernel_rfl⟩, ?_⟩
    have hc := costs_v (X := X) (ownM_rdM HO.out) (bel.rdm H1.out) HL1.out (by have := HL5.out; omega) (fun k hk => HPL.out k hk) (fun k hk => (HL.out k hk).1) HQ.out.1 (by have := HQ.out.2; omega) HE.out.1 HE.out.2
    rw [← HCC.out] at hc
    refine CallsB.own (hc.mono fun v w3 h => ?_)
    obtain ⟨ho, hb⟩ := h
    have hbb := bel.trans hb
    have HO3 := Lib.hid (ownM_bel HO.out hb)
    clear hc hb bel hc0
    have hcl : C.length = A.length := HCL.out
    rcases own_view ho with ⟨_, e⟩ | ⟨g, cap, rfl, _, _, _, _, hcC, _⟩
    · rw [e] at hcl
      have := HQ.out.1
      simp at hcl
      omega
    have HNU : Hid (Nums w3 g 0 C) := Lib.hid fun j hj => by rw [Nat.zero_add]; exact hcC j hj
    have HRV : Hid (RdV w3 (.slice (some ⟨g, 0, none⟩) C.length cap) C) := Lib.hid (own_rdv ho)
    clear hcC hcl ho
    unfold OpsB
    simp only [List.getElem?_toArray, List.getElem?_cons_zero, List.getElem?_cons_succ]
    rw [if_pos (by rfl)]
    left
    intro _
    unfold Oper.wp
    go_simp
    unfold OpsB
    refine WpB.own ?_
    refine WpB.seq kit (WpB.region kit ?_)
    simp only [List.size_toArray, List.length_cons, List.length_nil, Nat.reduceAdd, Nat.zero_add, List.range, List.range.loop]
    unfold OpsB
    simp only [List.getElem?_toArray, List.getElem?_cons_zero, List.getElem?_cons_succ]
    rw [if_pos (by rfl)]
    left
    intro _
    unfold Oper.wp
    go_simp
    unfold OpsB
    simp only [List.getElem?_toArray, List.getElem?_cons_zero, List.getElem?_cons_succ]
    rw [if_pos (by rfl)]
    left
    intro _
    unfold Oper.wp
    go_simp
    unfold OpsB
    simp only [List.getElem?_toArray, List.getElem?_cons_zero, List.getElem?_cons_succ]
    rw [if_pos (by rfl)]
    left
    intro _
    unfold Oper.wp
    go_simp
    unfold OpsB
    simp only [List.getElem?_toArray, List.getElem?_cons_zero, List.getElem?_cons_succ]
    rw [if_pos (by rfl)]
    right
    refine ⟨34, #[.slice (some ⟨g, 0, none⟩) C.length cap], fun W => ⟨by kernel_rfl, by kernel_rfl⟩, ?_⟩
    refine CallsB.own ((min_b (X := X) (by rw [HCL.out]; have := HQ.out.1; omega) (by rw [HCL.out]; have := HQ.out.2; omega) HNU.out).mono fun v w4 h => ?_)
    obtain ⟨rfl, rfl⟩ := h
    unfold OpsB
    simp only [List.getElem?_toArray, List.getElem?_cons_zero, List.getElem?_cons_succ]
    rw [if_pos (by rfl)]
    right
    obtain ⟨ci, hci⟩ : ∃ cd, Try.f33.body = some cd := ⟨_, rfl⟩
    refine ⟨33, #[.slice (some ⟨g, 0, none⟩) C.length cap, .int .i64 (minTo C C.length)], fun W => ⟨by kernel_rfl, by kernel_rfl⟩, ?_⟩
    refine ((calls_kept (X := X) (w := w4) (R := fun v w' => v = .int .i64 (C.idxOf (minTo C C.length)) ∧ Bel w4 w') (fn := Try.f33) (cd := ci) Tryp.func33 Try.func33 hci (kept_code (by kernel_rfl) hci) (by kernel_rfl) (fun τ => (slicesIndex_v _ C _ (ownTape w4 τ) HRV.out HIM.out.1).mono fun e w' h => ⟨_, h.1, rfl, by rw [← h.2]; exact ⟨rfl, rfl, Nat.le_refl _, fun _ _ => rfl⟩⟩)).mono fun v w5 h => ?_)
    obtain ⟨rfl, hb5⟩ := h
    have hb6 := hbb.trans hb5
    have HO5 := Lib.hid (ownM_bel HO3.out hb5)
    have hbl : bst C C.length < A.length := by rw [← HCL.out]; exact HIM.out.2.2
    rw [HIM.out.2.1]
    obtain ⟨us, hul, hvv, hrows, _⟩ := ownM_parts HO5.out
    rcases hvv with ⟨_, e⟩ | ⟨g2, cap2, rfl, _, _, _, hnc2, hcm2, hc2, _⟩
    · rw [e] at hbl; simp at hbl
    have hck := hc2 _ hbl
    have hown := (hrows _ hbl).1
    rw [HCL.out] at hck hown hbl ⊢
    obtain ⟨bk, hbk⟩ : ∃ bk, bk = bst C A.length := ⟨_, rfl⟩
    rw [← hbk] at hown
    have hro : row = A.getD bk [] := by rw [hbk]; exact HROW.out
    rw [← hro] at hown
    rw [← hbk] at hck hbl ⊢
    obtain ⟨q, hq⟩ : ∃ q, q = A.length := ⟨_, rfl⟩
    rw [← hq] at hbl ⊢
    obtain ⟨uv, huv⟩ : ∃ uv, uv = us.getD bk undef := ⟨_, rfl⟩
    rw [← huv] at hck hown
    have hbi : (bk : Int) < (q : Int) := by omega
    have hb0 : (0 : Int) ≤ (bk : Int) := by omega
    have HOWN := Lib.hid hown
    clear hro hc2 hrows hown huv hul hq hbk hnc2 hcm2
    unfold OpsB
    simp only [List.getElem?_toArray, List.getElem?_cons_zero, List.getElem?_cons_succ]
    rw [if_pos (by rfl)]
    left
    intro _
    unfold Oper.wp
    go_simp
    unfold OpsB
    simp only [List.getElem?_toArray, List.getElem?_cons_zero, List.getElem?_cons_succ]
    rw [if_pos (by rfl)]
    left
    intro _
    unfold Oper.wp
    go_simp
    unfold OpsB
    simp only [List.getElem?_toArray, List.getElem?_cons_zero, List.getElem?_cons_succ]
    rw [if_pos (by rfl)]
    left
    intro _
    unfold Oper.wp
    go_simp
    unfold OpsB
    simp only [List.getElem?_toArray, List.getElem?_cons_zero, List.getElem?_cons_succ]
    rw [if_pos (by rfl)]
    left
    intro _
    unfold Oper.wp
    go_simp
    unfold OpsB
    refine WpB.own (WpB.ret kit ⟨rfl, _, fun τ => results_tmp2 (t := 2) (u := 3) rfl _ _ _, _, rfl, HOWN.out, hb6⟩)
  · have hf : areV vs = false := by simpa using ha
    have hr : viewCommon vs = ([], false) := by simp [viewCommon, hf]
    rw [hr]
    have HV := Lib.hid (fun τ => areViews_v v0 vs (ownTape w τ) h1)
    rw [hf] at HV
    refine WpB.seq kit (WpB.of_wp kit (fun τ => ?_) (outs_then (outs_body _ _ _)))
    go_wp2_with fail
    refine (HV.out τ).mono ?_
    rintro e w2 ⟨rfl, rfl⟩
    go_wp2
    exact ⟨rfl, _, fun τ => results_tmp2 (t := 2) (u := 3) rfl _ _ _, _, rfl, own_nil _ _, bel_of_below (Below.refl _ _)⟩
end Go.Proofs.Ytfiaiephbemdoaa

