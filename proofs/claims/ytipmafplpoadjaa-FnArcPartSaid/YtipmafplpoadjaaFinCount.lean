/-
  The contracts of countsWithin, l2Inner.
-/
import Derived.Test.YtipmafplpoadjaaInnerMath
import Derived.Test.YtipmafplpoadjaaPut
import Derived.Test.YtipmafplpoadjaaSpecType
import Derived.Deep.RegionLaw
namespace Go.Proofs.Ytipmafplpoadjaa
set_option linter.unusedSimpArgs false
set_option linter.unusedVariables false
set_option linter.unnecessarySimpa false
open Go.RowKit
set_option maxRecDepth 100000

set_option maxHeartbeats 1600000 in
theorem countsWithin_v (v u : Value) (xs ys : List Int) (w : World) (hv : RdV w v xs) (hu : RdV w u ys) (hx : partIn xs = true) (hy : partIn ys = true) (hl : ys.length = xs.length) :
    Calls Try.prog 38 #[v, u] w (FreshL w (inner xs ys)) := by
  have HV := Lib.hid hv
  have HU := Lib.hid hu
  obtain ⟨hl1, hl8⟩ := partIn_len hx
  have HSX := Lib.hid (partIn_small hx)
  have HSY := Lib.hid (partIn_small hy)
  have hbx := pSize_bd HSX.out
  have hby := pSize_bd HSY.out
  obtain ⟨p, hp⟩ := Int.eq_ofNat_of_zero_le hbx.1
  obtain ⟨q, hq⟩ := Int.eq_ofNat_of_zero_le hby.1
  have hr : inner xs ys = innerTo xs ys q p := by unfold inner; rw [hp, hq, Int.toNat_natCast, Int.toNat_natCast]
  rw [hr]
  rw [hp] at hbx
  rw [hq] at hby
  have HP := Lib.hid hp
  have HQ := Lib.hid hq
  have HX := Lib.hid hx
  obtain ⟨bx, ox, cx, rfl, hcx, hbx', hcx1, hcx2⟩ := rdv_cells hv hl1
  obtain ⟨by', oy, cy, rfl, hcy, hby', hcy1, hcy2⟩ := rdv_cells hu (by omega)
  obtain ⟨n, hn⟩ : ∃ n, n = xs.length := ⟨_, rfl⟩
  have HN := Lib.hid hn
  have HLY := Lib.hid hl
  rw [hl] at HU ⊢
  rw [← hn] at HV HU hl1 hl8 HLY ⊢
  obtain ⟨i0, hi, hz0, hz1, hz2⟩ := info_parts Try.infoInt
  clear hr hv hu hn hl hx hy hp hq hcx1 hcx2 hcy1 hcy2
  go_enter Try.func38, Try.ntmps38
  go_wp2_with fail
  refine (blockCount_v _ ys _ HU.out (by rw [HLY.out]; exact hl1) HSY.out).mono ?_
  rintro e w' ⟨rfl, rfl⟩
  rw [HQ.out]
  go_wp2_with (at_make; refine wpList_make_full _ rfl _ _ 23 rfl w.heap.size 3 i0 (.int .i64 0) 1 Try.underlying23 hi hz0 hz1 _ _ _ _ q rfl rfl rfl rfl (by rw [hz2]; omega) (by unfold maxLen; omega) (Nat.le_refl _) ?_)
  intro w1 hown1 hgrow1
  have hb1 : Below w.heap.size w w1 := (Below.refl _ _).grown hgrow1 (Nat.le_refl _) (fun k h => by cases h)
  have hown := own_made hown1
  clear hown1 hgrow1
  go_wp2_with fail
  refine (blockCount_v _ xs _ (rdv_below HV.out hb1) (by rw [← HN.out]; exact hl1) HSX.out).mono ?_
  rintro e w' ⟨rfl, rfl⟩
  rw [HP.out]
  go_wp2
  go_loopw [12] (fun i wr => ∃ k : Nat, k ≤ p ∧ i = .int .i64 k ∧ Own wr w.heap.size (.slice (some ⟨w.heap.size, 0, none⟩) q q) (innerTo xs ys q k) ∧ Below w.heap.size w wr) (fun i _ => p - (intOf i).toNat)
  case atStart => exact ⟨0, Nat.zero_le _, rfl, by rw [innerTo_zero]; exact hown, hb1⟩
  case round =>
    obtain ⟨k, hk, rfl, hown, hbel⟩ := hrel
    by_cases hlt : k < p
    · have hm : (k : Int) ∈ xs := (mem_part HX.out _).2 (by rw [HP.out]; omega)
      have hix := List.idxOf_lt_length_of_mem hm
      have hc1 := cells_at (cells_below hcy hbel) (xs.idxOf (k : Int)) (by have := HLY.out; have := HN.out; omega)
      have hz0' := (HSY.out (xs.idxOf (k : Int)) (by have := HLY.out; have := HN.out; omega)).1
      have hzq := lt_pSize ys (xs.idxOf (k : Int)) (by have := HLY.out; have := HN.out; omega)
      rw [HQ.out] at hzq
      obtain ⟨z, hz⟩ := Int.eq_ofNat_of_zero_le hz0'
      have hst0 := innerTo_step xs ys q k z (by omega) hz
      have hbd := innerTo_bd xs ys q k z (by omega)
      rw [hz] at hc1 hzq
      have hc2 := own_cell hown z (by rw [innerTo_length]; omega)
      have hfz := own_frozen hown z
      obtain ⟨hst, hgs⟩ := own_stored hown (innerTo_length _ _ _ _).symm z ((innerTo xs ys q k).getD z 0 + 1)
      rw [hst0] at hst
      obtain ⟨s, hs⟩ : ∃ s, s = (innerTo xs ys q k).getD z 0 := ⟨_, rfl⟩
      rw [← hs] at hst hbd hc2
      obtain ⟨r, hre⟩ : ∃ r, r = xs.idxOf (k : Int) := ⟨_, rfl⟩
      rw [← hre] at hc1 hix
      have HST := Lib.hid hst
      have HRE := Lib.hid hre
      have HM := Lib.hid hm
      have hixn : r < n := by have := HN.out; omega
      have HRV := Lib.hid (rdv_below HV.out hbel)
      clear hst0 hst hgs hz hz0' hs hre hm hown hix
      go_wp2_with fail
      refine (slicesIndex_v _ xs _ _ HRV.out HM.out).mono ?_
      rintro e w' ⟨rfl, rfl⟩
      rw [← HRE.out]
      go_wp2
      go_roundw
      case rel => exact ⟨k + 1, by omega, by go_num, HST.out, hbel.setCell (Nat.le_refl _) _⟩
      case measure => simp [intOf]; omega
    · have hkn : k = p := by omega
      subst hkn
      go_wp2
      go_ret
      exact ⟨_, rfl, hown, hbel⟩

theorem shr0_fact : ∀ t, t < 256 → ∀ y, y < 8 → (bits BinOp.and IntKind.i64 (((t : Nat) : Int) / 2 ^ (y : Nat)) 1 == 0) = !t.testBit y := by decide +kernel
theorem or64b_fact : ∀ t, t < 256 → ∀ y, y < 8 → bits BinOp.or IntKind.i64 ((t : Nat) : Int) (wrap64 (2 ^ (y : Nat))) = ((t ||| 2 ^ y : Nat) : Int) := by decide +kernel

set_option maxRecDepth 100000 in
set_option maxHeartbeats 4000000 in
theorem l2Inner_v (v u : Value) (xs ys : List Int) (w : World) (hv : RdV w v xs) (hu : RdV w u ys) (hx : partIn xs = true) (hy : partIn ys = true) (hl : ys.length = xs.length) (hf : finerB xs ys = true) :
    Calls Try.prog 40 #[v, u] w (FreshL w (inner xs ys)) := by
  have HV := Lib.hid hv
  have HU := Lib.hid hu
  obtain ⟨hl1, hl8⟩ := partIn_len hx
  have HSX := Lib.hid (partIn_small hx)
  have HSY := Lib.hid (partIn_small hy)
  have hby := pSize_bd HSY.out
  have hby1 := pSize_pos HSY.out (by omega)
  obtain ⟨q, hq⟩ := Int.eq_ofNat_of_zero_le hby.1
  rw [hq] at hby hby1
  have HQ := Lib.hid hq
  have HX := Lib.hid hx
  have HY := Lib.hid hy
  have HG := Lib.hid fun y hy => inner_get hx hl hf y q hq hy
  obtain ⟨bx, ox, cx, rfl, hcx, hbx', hcx1, hcx2⟩ := rdv_cells hv hl1
  obtain ⟨n, hn⟩ : ∃ n, n = xs.length := ⟨_, rfl⟩
  have HN := Lib.hid hn
  have HLY := Lib.hid hl
  rw [← hn] at HV hl1 hl8 HLY ⊢
  have hil : (inner xs ys).length = q := by rw [inner_length, hq, Int.toNat_natCast]
  have HIL := Lib.hid hil
  clear hv hu hn hl hx hy hq hcx1 hcx2 hil hf
  go_enter Try.func40, Try.ntmps40
  go_wp2_with fail
  refine (l1Blocks_v _ ys q _ (rdv_below HU.out ((Below.refl _ _).alloc (Nat.le_refl _) _)) HY.out HQ.out).mono ?_
  rintro e w1 ⟨u, he, hu, hb1⟩
  obtain ⟨vs, hvl, hparts, _⟩ := ownM_parts hu
  rcases hparts with ⟨_, hnil⟩ | ⟨gb, capb, rfl, _⟩
  · have := congrArg List.length hnil
    rw [blocksTo_length] at this
    simp at this
    omega
  subst he
  rw [blocksTo_length] at hu ⊢
  have HO0 := Lib.hid (own_below (own_empty w w.heap.size (Nat.le_refl _)) hb1)
  have hbel1 : Below w.heap.size w w1 := below_step ((Below.refl _ _).alloc (Nat.le_refl _) _) hb1
  have HUM := Lib.hid hu
  simp at hb1
  clear hu hvl
  go_wp2
  go_loopw [5, 7] (fun u i wr => ∃ k g cap : Nat, k ≤ q ∧ i = .int .i64 k ∧ u = .slice (some ⟨g, 0, none⟩) k cap ∧ Own wr w.heap.size (.slice (some ⟨g, 0, none⟩) k cap) ((inner xs ys).take k) ∧ OwnM wr (w.heap.size + 1) w1.heap.size (.slice (some ⟨gb, 0, none⟩) q capb) (blocksTo ys q) ∧ (g = w.heap.size ∨ w1.heap.size ≤ g) ∧ Below w.heap.size w wr ∧ w1.heap.size ≤ wr.heap.size)
    (fun _ i _ => q - (intOf i).toNat)
  case atStart => exact ⟨0, w.heap.size, 0, Nat.zero_le _, rfl, rfl, by simpa using HO0.out, by simpa using HUM.out, .inl rfl, hbel1, Nat.le_refl _⟩
  case round =>
    obtain ⟨k, g, cap, hk, rfl, rfl, hown, hum, hgw, hbel, hsz⟩ := hrel
    by_cases hlt : k < q
    · obtain ⟨z, hz, hoz, hiz⟩ := ownM_cell hum k (by rw [blocksTo_length]; exact hlt)
      obtain ⟨zo, zc, rfl, hrz, _⟩ := own_rd hoz
      have hkg := HG.out k hlt
      have hts := take_snoc (inner xs ys) k (by rw [HIL.out]; exact hlt)
      rw [hkg] at hts
      rw [blocksTo_getD ys q k hlt] at hz hrz
      have hthings := blkAt_things xs ys k (by rw [HLY.out, HN.out])
      obtain ⟨L, hL⟩ : ∃ L, L = blkAt ys k ys.length := ⟨_, rfl⟩
      rw [← hL] at hz hts hrz hthings
      have hm8 : L.length ≤ 8 := by
        have := cntAt_le ys k ys.length
        rw [hL, blkAt_length]
        have := HLY.out
        omega
      obtain ⟨m, hm⟩ : ∃ m, m = L.length := ⟨_, rfl⟩
      rw [← hm] at hz hm8
      have HM := Lib.hid hm
      have HTS := Lib.hid hts
      have HTH := Lib.hid hthings
      have HRZ := Lib.hid hrz
      have HO := Lib.hid hown
      have HUr := Lib.hid hum
      have hcx' := cells_below hcx hbel
      have HC := Lib.hid hcx'
      have hB := hbel.size
      clear hown hum hkg hts hthings hL hm hoz hiz hrz hcx'
      obtain ⟨wo, hwo⟩ : ∃ wo : World, wo = wr := ⟨_, rfl⟩
      subst hwo
      go_wp2
      go_loop [8, 9, 10] (fun s c i => ∃ j t : Nat, j ≤ m ∧ i = .int .i64 j ∧ s = .int .i64 t ∧ c = .int .i64 (cnt t) ∧ t < 256 ∧ t = overL xs (L.take j)) (fun _ _ i => m - (intOf i).toNat)
      case atStart => exact ⟨0, 0, Nat.zero_le _, rfl, rfl, by rw [show cnt 0 = 0 from by decide]; rfl, by omega, rfl⟩
      case round =>
        obtain ⟨j, t, hj, rfl, rfl, rfl, ht, hov⟩ := hrel
        have HOV := Lib.hid hov
        clear hov
        by_cases hjm : j < m
        · rcases HRZ.out with hnil | ⟨bz, oz, rfl, hcz⟩
          · have := HM.out
            rw [hnil] at this
            simp at this
            omega
          · have hcj := hcz j (by have := HM.out; omega)
            have htk := take_snoc L j (by have := HM.out; omega)
            have hth := HTH.out (L.getD j 0) (mem_of_getD (by have := HM.out; omega) rfl)
            clear hcz
            obtain ⟨i, hi⟩ := Int.eq_ofNat_of_zero_le hth.1
            rw [hi] at hcj htk hth
            rw [Int.toNat_natCast] at hth
            have hci := cells_at HC.out i hth.2
            obtain ⟨hx0, hx7⟩ := HSX.out i hth.2
            obtain ⟨x, hx⟩ := Int.eq_ofNat_of_zero_le hx0
            rw [hx] at hci hx7
            have hst : overL xs (L.take (j + 1)) = t ||| 2 ^ x := by rw [htk, overL_snoc, ← HOV.out, Int.toNat_natCast, hx, Int.toNat_natCast]
            have HST := Lib.hid hst
            have hin : (i : Int) < n := by have := HN.out; omega
            have hx8 : x < 8 := by omega
            have hsh := shr0_fact t ht x hx8
            have HOR := Lib.hid (or64b_fact t ht x hx8)
            have HCN := Lib.hid (cnt_or t ht x hx8)
            have HSM := Lib.hid (or_same t ht x hx8)
            have hlt256 := or_lt t ht x hx8
            have hc8 : cnt t ≤ 8 := by
              have := List.length_filter_le (fun y => t.testBit y) (List.range 8)
              rw [List.length_range] at this
              exact this
            clear hi hth hx hx0 hst htk
            cases hbit : t.testBit x
            · have HB := Lib.hid hbit
              rw [hbit] at hsh
              rw [Bool.not_false] at hsh
              clear hbit
              obtain ⟨c, hc⟩ : ∃ c, c = cnt t := ⟨_, rfl⟩
              rw [← hc] at hc8 ⊢
              have HCC := Lib.hid hc
              clear hc
              go_wp2
              go_round
              case rel => exact ⟨j + 1, t ||| 2 ^ x, by omega, by go_num, by rw [HOR.out], by rw [HCN.out, HB.out, ← HCC.out]; go_num, hlt256, HST.out.symm⟩
              case measure => simp [intOf]; omega
            · have HB := Lib.hid hbit
              rw [hbit] at hsh
              rw [Bool.not_true] at hsh
              clear hbit
              go_wp2
              go_round
              case rel => exact ⟨j + 1, t, by omega, by go_num, rfl, rfl, ht, by rw [HST.out, HSM.out HB.out]⟩
              case measure => simp [intOf]; omega
        · have hjm : j = m := by omega
          subst hjm
          have hov := HOV.out
          rw [List.take_of_length_le (by rw [← HM.out]; omega)] at hov
          have HOV2 := Lib.hid hov
          obtain ⟨c, hc⟩ : ∃ c : Int, c = (cnt t : Int) := ⟨_, rfl⟩
          rw [← hc]
          have HCC := Lib.hid hc
          clear hov hc
          go_wp2_with (at_builtin; refine wpList_push rfl _ _ rfl w.heap.size g k cap ((inner xs ys).take k) rfl (own_alloc HO.out _) (by have := HIL.out; rw [List.length_take]; omega) ⟨wo.heap.size, 0, none⟩ rfl c (cell_new1 _ _ _) (by omega) (by simp; omega) ?_)
          intro g' cap' w3 hown3 hgr3 hg3
          have hbel3 : Below w.heap.size w w3 := (hbel.alloc hB _).grown hgr3 (by simp; omega) (fun q hq => by cases hq; exact (own_lt HO.out g rfl).1)
          have hsz3 : w1.heap.size ≤ w3.heap.size := by have := hgr3.size; simp at this; omega
          have hum3 : OwnM w3 (w.heap.size + 1) w1.heap.size (.slice (some ⟨gb, 0, none⟩) q capb) (blocksTo ys q) := by
            refine ownM_keep HUr.out fun b h1 h2 h3 => ?_
            have e1 := hgr3.block b (by simp; omega) (by simp; omega)
            rw [e1]
            exact (((Below.refl _ wo).alloc (Nat.le_refl _) _).block b h3)
          have hg3' : g' = w.heap.size ∨ w1.heap.size ≤ g' := by
            first | omega | (simp at hg3; omega)
          have HO3 := Lib.hid hown3
          have HU3 := Lib.hid hum3
          clear hown3 hgr3 hg3 hum3
          go_wp2
          go_roundw
          case rel => exact ⟨k + 1, g', cap', by omega, by go_num, rfl, by rw [HTS.out, ← HOV2.out, ← HCC.out]; exact HO3.out, HU3.out, hg3', hbel3, hsz3⟩
          case measure => simp [intOf]; omega
    · have hkn : k = q := by omega
      subst hkn
      go_wp2
      go_ret
      rw [List.take_of_length_le (by rw [HIL.out]; omega)] at hown
      exact ⟨_, rfl, hown, hbel⟩

/-- Bell's triangle: the rows. -/
def bellNext (last : Int) : List Int → List Int
  | [] => []
  | x :: xs => (last + x) :: bellNext (last + x) xs
def bellRow : Nat → List Int
  | 0 => [1]
  | n + 1 => (bellRow n).getD n 0 :: bellNext ((bellRow n).getD n 0) (bellRow n)

/-- The first k numbers of the row behind the row n. -/
def bellTo (n k : Nat) : List Int := (bellRow (n + 1)).take (k + 1)

theorem bell_len : ∀ n, n < 8 → (bellRow n).length = n + 1 := by decide +kernel
theorem bell_bd : ∀ n, n < 8 → ∀ k, k < 9 → 0 ≤ (bellRow n).getD k 0 ∧ (bellRow n).getD k 0 ≤ 5000 := by decide +kernel
theorem bell_step : ∀ n, n < 7 → ∀ k, k < n + 1 → (bellRow (n + 1)).getD (k + 1) 0 = (bellRow (n + 1)).getD k 0 + (bellRow n).getD k 0 := by decide +kernel
theorem bell_head : ∀ n, n < 7 → (bellRow (n + 1)).take 1 = [(bellRow n).getD n 0] ∧ (bellRow (n + 1)).getD 0 0 = (bellRow n).getD n 0 := by decide +kernel
def bellN (n : Nat) : Int := (bellRow (n - 1)).getD (n - 1) 0

theorem own_lit1 (w : World) (B : Nat) (hB : B ≤ w.heap.size) (x : Int) : Own (w.alloc (.cells #[.int .i64 x] 3)) B (.slice (some ⟨w.heap.size, 0, none⟩) 1 1) [x] :=
  ⟨by simp, .inr ⟨w.heap.size, 1, #[.int .i64 x], rfl, hB, heap_alloc_new w _, Nat.le_refl _, by unfold maxLen; simp, rfl, by simp⟩⟩

def sliceLen : Value → Nat
  | .slice _ n _ => n
  | _ => 0

theorem bell_take (n k : Nat) (h : n < 7) (hk : k < n + 1) : (bellRow (n + 1)).take (k + 2) = (bellRow (n + 1)).take (k + 1) ++ [(bellRow (n + 1)).getD k 0 + (bellRow n).getD k 0] := by
  rw [take_snoc _ (k + 1) (by rw [bell_len _ (by omega)]; omega), bell_step n h k hk]

set_option maxHeartbeats 1600000 in
theorem l2Bell_v (n : Int) (w : World) (h0 : 0 ≤ n) (h8 : n ≤ 8) :
    Calls Try.prog 85 #[.int .i64 n] w (GivesI w (bellN n.toNat)) := by
  obtain ⟨c, rfl⟩ := Int.eq_ofNat_of_zero_le h0
  rw [Int.toNat_natCast]
  go_enter Try.func85, Try.ntmps85
  go_wp2
  go_loopw [3, 4] (fun u i wr => ∃ r m g cap : Nat, (r = 0 ∨ m ≤ c) ∧ r < 8 ∧ m = r + 1 ∧ i = .int .i64 m ∧ u = .slice (some ⟨g, 0, none⟩) m cap ∧ Own wr w.heap.size (.slice (some ⟨g, 0, none⟩) m cap) (bellRow r) ∧ Below w.heap.size w wr)
    (fun _ i _ => c - (intOf i).toNat)
  case atStart => exact ⟨0, 1, w.heap.size, 1, .inl rfl, by omega, rfl, rfl, rfl, own_lit1 w _ (Nat.le_refl _) 1, (Below.refl _ _).alloc (Nat.le_refl _) _⟩
  case round =>
    obtain ⟨r, m, g, cap, hr, hr8, hm, rfl, rfl, hown, hbel⟩ := hrel
    have HM := Lib.hid hm
    have hm1 : 1 ≤ m := by omega
    have hm9 : m < 9 := by omega
    have hir : (m : Int) - 1 = (r : Int) := by omega
    have hbl := bell_len r hr8
    have hlast := own_cell hown r (by rw [hbl]; omega)
    by_cases hlt : m < c
    · have hr7 : r < 7 := by omega
      obtain ⟨hh1, hh2⟩ := bell_head r hr7
      have HH1 := Lib.hid hh1
      have HH2 := Lib.hid hh2
      obtain ⟨x, hx⟩ : ∃ x, x = (bellRow r).getD r 0 := ⟨_, rfl⟩
      have hxb := bell_bd r hr8 r (by omega)
      rw [← hx] at hlast hxb
      have HX := Lib.hid hx
      have HBL := Lib.hid hbl
      have HO := Lib.hid hown
      have hB := hbel.size
      have hgl := own_lt hown g rfl
      have b1 : (m : Int) < (c : Int) := by omega
      clear hown hx hh1 hh2 hbl hm
      obtain ⟨wo, hwo⟩ : ∃ wo : World, wo = wr := ⟨_, rfl⟩
      subst hwo
      go_wp2
      go_loopw [5, 6] (fun u i wr => ∃ k g' cap' : Nat, k ≤ m ∧ i = .int .i64 k ∧ u = .slice (some ⟨g', 0, none⟩) ((k + 1 : Nat)) cap' ∧ Own wr w.heap.size (.slice (some ⟨g', 0, none⟩) (k + 1) cap') ((bellRow (r + 1)).take (k + 1)) ∧ Own wr w.heap.size (.slice (some ⟨g, 0, none⟩) m cap) (bellRow r) ∧ Below w.heap.size w wr ∧ g < g')
        (fun _ i _ => m - (intOf i).toNat)
      case atStart =>
        refine ⟨0, wo.heap.size, 1, Nat.zero_le _, rfl, rfl, ?_, own_alloc HO.out _, hbel.alloc hB _, hgl.2⟩
        rw [HH1.out, ← HX.out]
        exact own_lit1 wo _ hB x
      case round =>
        obtain ⟨k, g', cap', hk, rfl, rfl, hown', hown, hbel', hgg⟩ := hrel
        by_cases hkr : k < m
        · have hck := own_cell hown k (by rw [HBL.out, ← HM.out]; omega)
          have hcl := own_cell hown' k (by rw [List.length_take, bell_len _ (by omega)]; have := HM.out; omega)
          have hgt : ((bellRow (r + 1)).take (k + 1)).getD k 0 = (bellRow (r + 1)).getD k 0 := by simp [List.getD, List.getElem?_take]
          rw [hgt] at hcl
          have hyb := bell_bd r hr8 k (by have := HM.out; omega)
          have hlb := bell_bd (r + 1) (by omega) k (by have := HM.out; omega)
          have htk := bell_take r k hr7 (by have := HM.out; omega)
          have hst := bell_step r hr7 k (by have := HM.out; omega)
          obtain ⟨y, hy⟩ : ∃ y, y = (bellRow r).getD k 0 := ⟨_, rfl⟩
          obtain ⟨l, hl⟩ : ∃ l, l = (bellRow (r + 1)).getD k 0 := ⟨_, rfl⟩
          rw [← hy] at hck hyb htk hst
          rw [← hl] at hlb htk hst hcl
          have HTK := Lib.hid htk
          have HST := Lib.hid hst
          have HO' := Lib.hid hown'
          have HOr := Lib.hid hown
          have hB' := hbel'.size
          have hgl' := own_lt hown' g' rfl
          have htl : ((bellRow (r + 1)).take (k + 1)).length = k + 1 := by rw [List.length_take, bell_len _ (by omega)]; have := HM.out; omega
          have HTL := Lib.hid htl
          have b2 : (k : Int) < (m : Int) := by omega
          clear hy hl htk hst hown' hown htl
          have b3 : IntKind.i64.wrap (l + y) = l + y := IntWalk.i64_in _ (by omega)
          have b4 : (k : Int) < (k : Int) + 1 := by omega
          go_wp2
          go_region_law (first | (refine step_cat rfl _ _ (by rfl) w.heap.size g' (k + 1) cap' ((bellRow (r + 1)).take (k + 1)) (by rfl) (own_drew1 (own_alloc HO'.out _)) (by rw [HTL.out]) ⟨wr.heap.size, 0, none⟩ 1 1 (by rfl) [l + y] rfl (cells_one (cell_new1 _ _ _)) (by omega) (by simp; omega) (k + 1 + 1) rfl ?_; intro g3 cap3 w3 hown3 hgr3 hg3; have hbel3 : Below w.heap.size w w3 := (hbel'.alloc hB' _).drew.grown hgr3 (by simp; omega) (fun q hq => by cases hq; exact hgl'.1); have hor3 : Own w3 w.heap.size (.slice (some ⟨g, 0, none⟩) m cap) (bellRow r) := own_grown (own_drew1 (own_alloc HOr.out _)) hgr3 (.inr (by simp [Value.ownBlock]; omega)); have hg3' : g < g3 := (by have := own_lt HOr.out g rfl; first | omega | (simp at hg3; omega)); have HO3 := Lib.hid hown3; have HOr3 := Lib.hid hor3; clear hown3 hgr3 hg3 hor3))
          all_goals
            go_wp2
            go_roundw
            case rel => exact ⟨k + 1, g3, cap3, by omega, by go_num, rfl, by rw [HTK.out]; exact HO3.out, HOr3.out, hbel3, hg3'⟩
            case measure => simp [intOf]; omega
        · have hkr : k = m := by omega
          have hbl2 := bell_len (r + 1) (by omega)
          rw [hkr, List.take_of_length_le (by have := HM.out; omega)] at hown'
          have HBL2 := Lib.hid hbl2
          clear hbl2
          subst hkr
          go_wp2
          go_roundw
          case rel => exact ⟨r + 1, k + 1, g', cap', by omega, by have := HM.out; omega, by rw [HM.out], by go_num, rfl, hown', hbel'⟩
          case measure => simp [intOf]; omega
    · have hrc : r = c - 1 := by omega
      have HRC := Lib.hid hrc
      have b1 : ¬ (m : Int) < (c : Int) := by omega
      obtain ⟨x, hx⟩ : ∃ x, x = (bellRow r).getD r 0 := ⟨_, rfl⟩
      rw [← hx] at hlast
      have HX := Lib.hid hx
      clear hrc hm hbl hx
      go_wp2
      go_ret
      have he : bellN c = x := by rw [HX.out]; unfold bellN; rw [← HRC.out]
      exact ⟨ret_int he.symm, hbel⟩

end Go.Proofs.Ytipmafplpoadjaa
