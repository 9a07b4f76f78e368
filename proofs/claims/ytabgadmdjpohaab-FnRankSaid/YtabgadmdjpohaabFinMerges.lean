/-
  The contracts of merged, l2Merges, FinerMerges (impl and spec).
-/
import Derived.Test.YtabgadmdjpohaabHeldMat
import Derived.Test.YtabgadmdjpohaabFinIn
import Derived.Test.YtabgadmdjpohaabFinRank
import Derived.Test.YtabgadmdjpohaabSpecType
namespace Go.Proofs.Ytabgadmdjpohaab
set_option linter.unusedSimpArgs false
set_option linter.unusedVariables false
set_option linter.unnecessarySimpa false
open Go.RowKit
set_option maxRecDepth 100000

/-- The number g told as l. -/
def retold (xs : List Int) (l g : Int) : List Int := xs.map fun x => if x = g then l else x

theorem retold_length (xs : List Int) (l g : Int) : (retold xs l g).length = xs.length := by simp [retold]
theorem retold_getD (xs : List Int) (l g : Int) (k : Nat) (h : k < xs.length) : (retold xs l g).getD k 0 = if xs.getD k 0 = g then l else xs.getD k 0 := by
  simp [retold, List.getD, h]

theorem retold_stage (xs : List Int) (l g : Int) (k : Nat) (h : k < xs.length) (v : Int) (hv : v = (retold xs l g).getD k 0) :
    ((retold xs l g).take k ++ xs.drop k).set k v = (retold xs l g).take (k + 1) ++ xs.drop (k + 1) := by
  have hk : ((retold xs l g).take k).length = k := by simp [retold_length]; omega
  rw [hv, List.set_append_right _ _ (by omega), hk, Nat.sub_self, List.drop_eq_getElem_cons h, List.set_cons_zero, take_snoc _ k (by rw [retold_length]; exact h), List.append_assoc]
  rfl
theorem retold_keep (xs : List Int) (l g : Int) (k : Nat) (h : k < xs.length) (hv : xs.getD k 0 = (retold xs l g).getD k 0) :
    (retold xs l g).take k ++ xs.drop k = (retold xs l g).take (k + 1) ++ xs.drop (k + 1) := by
  rw [take_snoc _ k (by rw [retold_length]; exact h), drop_cons xs k h, hv, List.append_assoc]
  rfl

set_option maxHeartbeats 1600000 in
theorem merged_v (v : Value) (xs : List Int) (l g : Int) (w : World) (hv : RdV w v xs) (h1 : 1 ≤ xs.length) (h8 : xs.length ≤ 8) :
    Calls Try.prog 33 #[v, .int .i64 l, .int .i64 g] w (FreshL w (kOut (retold xs l g))) := by
  obtain ⟨bx, ox, cx, rfl, hcx, hbx, hcx1, hcx2⟩ := rdv_cells hv h1
  obtain ⟨n, hn⟩ : ∃ n, n = xs.length := ⟨_, rfl⟩
  have HN := Lib.hid hn
  have HCL := Lib.hid (slicesClone_any bx ox cx xs w (by omega) hcx)
  rw [← hn] at HCL h1 h8 ⊢
  clear hv hn hcx1 hcx2
  go_enter Try.func33, Try.ntmps33
  go_wp2_with fail
  refine (HCL.out).mono ?_
  rintro e w1 ⟨gs, cap, rfl, ho, hb⟩
  have HO := Lib.hid ho
  clear ho
  go_wp2
  go_loopw [14] (fun i wr => ∃ k : Nat, k ≤ n ∧ i = .int .i64 k ∧ Own wr w.heap.size (.slice (some ⟨gs, 0, none⟩) n cap) ((retold xs l g).take k ++ xs.drop k) ∧ Below w.heap.size w wr) (fun i _ => n - (intOf i).toNat)
  case atStart => exact ⟨0, Nat.zero_le _, rfl, by simpa using HO.out, hb⟩
  case round =>
    obtain ⟨k, hk, rfl, hown, hbel⟩ := hrel
    by_cases hlt : k < n
    · have hck := cells_at (cells_below hcx hbel) k (by rw [← HN.out]; exact hlt)
      have hml : ((retold xs l g).take k ++ xs.drop k).length = n := by simp [retold_length, ← HN.out]; omega
      have hrg := retold_getD xs l g k (by rw [← HN.out]; exact hlt)
      have hstage := retold_stage xs l g k (by rw [← HN.out]; exact hlt)
      have hkeep := retold_keep xs l g k (by rw [← HN.out]; exact hlt)
      have hgl := own_lt hown gs rfl
      obtain ⟨x, hx⟩ : ∃ x, x = xs.getD k 0 := ⟨_, rfl⟩
      rw [← hx] at hck hrg hkeep
      have b1 : (k : Int) < n := by omega
      by_cases hxg : x = g
      · subst hxg
        rw [if_pos rfl] at hrg
        have hfz := own_frozen hown k
        obtain ⟨v0, hv0⟩ : ∃ v0, wr.cell? ⟨gs, k, none⟩ = some v0 := ⟨_, own_cell hown k (by rw [hml]; omega)⟩
        obtain ⟨hst, hgs⟩ := own_stored hown hml.symm k l
        rw [hstage l hrg.symm] at hst
        have HST := Lib.hid hst
        clear hml hrg hstage hkeep hx hst hgs hown
        go_wp2
        go_roundw
        case rel => exact ⟨k + 1, by omega, by go_num, HST.out, hbel.setCell hgl.1 _⟩
        case measure => simp [intOf]; omega
      · rw [if_neg hxg] at hrg
        rw [hkeep hrg.symm] at hown
        have HO2 := Lib.hid hown
        have hb : (x == g) = false := by simpa using hxg
        clear hml hrg hstage hkeep hx hown
        go_wp2
        go_roundw
        case rel => exact ⟨k + 1, by omega, by go_num, HO2.out, hbel⟩
        case measure => simp [intOf]; omega
    · have hkn : k = n := by omega
      subst hkn
      rw [List.take_of_length_le (by rw [retold_length, ← HN.out]; omega), List.drop_of_length_le (by rw [← HN.out]; omega), List.append_nil] at hown
      have HRD := Lib.hid (own_rdv hown)
      clear hown
      go_wp2_with fail
      refine (kernel_v _ _ _ HRD.out (by rw [retold_length, ← HN.out]; omega)).mono ?_
      rintro e w2 ⟨u, rfl, ho, hb2⟩
      go_wp2
      go_ret
      exact ⟨_, rfl, own_mono ho hbel.size, below_step hbel hb2⟩

/-- The first j merges with the block x as the lesser one. -/
def mrow (xs : List Int) (x j : Nat) : List (List Int) := (List.range j).map fun i => kOut (retold xs (x : Int) ((x + 1 + i : Nat) : Int))
/-- The merges with lesser blocks below k, of p blocks. -/
def mergesTo (xs : List Int) (p k : Nat) : List (List Int) := (List.range k).flatMap fun x => mrow xs x (p - 1 - x)
def finerMerges (xs : List Int) : List (List Int) × Bool := if partIn xs then (mergesTo xs (pSize xs).toNat (pSize xs).toNat, true) else ([], false)

theorem mrow_length (xs : List Int) (x j : Nat) : (mrow xs x j).length = j := by simp [mrow]
theorem mrow_succ (xs : List Int) (x j : Nat) : mrow xs x (j + 1) = mrow xs x j ++ [kOut (retold xs (x : Int) ((x + 1 + j : Nat) : Int))] := by simp [mrow, List.range_succ]
theorem mergesTo_succ (xs : List Int) (p k : Nat) : mergesTo xs p (k + 1) = mergesTo xs p k ++ mrow xs k (p - 1 - k) := by simp [mergesTo, List.range_succ]

theorem total_append (a b : List (List Int)) : total (a ++ b) = total a + total b := by
  induction a with
  | nil => simp [total]
  | cons x a ih => rw [List.cons_append, total_cons, total_cons, ih]; omega

theorem mrow_total (xs : List Int) (x j : Nat) : total (mrow xs x j) = j * xs.length := by
  induction j with
  | zero => simp [mrow, total]
  | succ j ih => rw [mrow_succ, total_append, ih, total_cons, kOut_length, retold_length, Nat.succ_mul]; simp [total]

theorem mergesTo_bd (xs : List Int) (p : Nat) (hp : p ≤ 8) (hl : xs.length ≤ 8) : ∀ k, (mergesTo xs p k).length ≤ 8 * k ∧ total (mergesTo xs p k) ≤ 64 * k := by
  intro k
  induction k with
  | zero => simp [mergesTo, total]
  | succ k ih =>
    rw [mergesTo_succ, List.length_append, mrow_length, total_append, mrow_total]
    have h1 : p - 1 - k ≤ 8 := by omega
    have h2 : (p - 1 - k) * xs.length ≤ 8 * 8 := Nat.mul_le_mul h1 hl
    omega

theorem finerMerges_len (xs : List Int) (_ : xs.length ≤ 1048576) : (finerMerges xs).1.length ≤ 1000000 ∧ total (finerMerges xs).1 ≤ 1000000 := by
  unfold finerMerges
  split
  · rename_i h
    have h1 := pSize_bd (partIn_small h)
    have h2 := mergesTo_bd xs (pSize xs).toNat (by omega) (partIn_len h).2 (pSize xs).toNat
    dsimp only
    omega
  · simp [total]

set_option maxHeartbeats 1600000 in
theorem iFinerMerges_v (v : Value) (xs : List Int) (w : World) (hv : RdV w v xs) : Calls Try.prog 12 #[v] w (FreshMB w (finerMerges xs)) := by
  have HV := Lib.hid hv
  clear hv
  by_cases hp : partIn xs = true
  · obtain ⟨p, hps⟩ := Int.eq_ofNat_of_zero_le (pSize_bd (partIn_small hp)).1
    have hbd := pSize_bd (partIn_small hp)
    rw [hps] at hbd
    have hr : finerMerges xs = (mergesTo xs p p, true) := by simp [finerMerges, hp, hps]
    rw [hr]
    have HP := Lib.hid hp
    have HSM := Lib.hid (partIn_small hp)
    have HPS := Lib.hid hps
    obtain ⟨hl1, hl8⟩ := partIn_len hp
    have hpos := pSize_pos HSM.out hl1
    rw [hps] at hpos
    have hp8 : p ≤ 8 := by omega
    have HBD := Lib.hid (mergesTo_bd xs p hp8 hl8)
    obtain ⟨i0, hi, hz0, hz1, hz2⟩ := info_parts Try.infoInts
    clear hp hr hps
    have hq28 : p * (p - 1) / 2 ≤ 64 := by
      have : p * (p - 1) ≤ 8 * 8 := Nat.mul_le_mul hp8 (by omega)
      omega
    obtain ⟨q, hq⟩ : ∃ q, q = p * (p - 1) / 2 := ⟨_, rfl⟩
    rw [← hq] at hq28
    have HQ := Lib.hid hq
    clear hq
    go_enter Try.func12, Try.ntmps12
    go_wp2_with fail
    refine (iPartIn_is true _ _ _ HV.out HP).mono ?_
    rintro e w' ⟨rfl, rfl⟩
    go_wp2_with fail
    refine (blockCount_v _ xs _ HV.out hl1 HSM.out).mono ?_
    rintro e w' ⟨rfl, rfl⟩
    rw [HPS.out]
    go_wp2_with fail
    refine (pairCount_any p _ hp8).mono ?_
    rintro e w' ⟨rfl, rfl⟩
    rw [← HQ.out]
    go_wp2_with (at_make; refine wpList_make_own _ rfl _ _ 27 rfl w.heap.size 23 i0 (.slice none 0 0) 1 Try.underlying27 hi hz0 hz1 _ _ _ q rfl rfl rfl (by rw [hz2]; omega) (by unfold maxLen; omega) (Nat.le_refl _) ?_)
    intro w1 hown1 hgrow1
    have hb1 : Below w.heap.size w w1 := (Below.refl _ _).grown hgrow1 (Nat.le_refl _) (fun k h => by cases h)
    have hlt1 := (World.ownsRow.lt hown1 w.heap.size rfl).2
    have HO1 : Hid (OwnM w1 w.heap.size w1.heap.size (.slice (some ⟨w.heap.size, 0, none⟩) 0 q) []) := by
      refine Lib.hid (⟨[], rfl, hown1, fun k hk => by simp [Value.ownBlock] at hk; omega, fun i hi => by simp at hi, fun i j _ hj => by simp at hj⟩ : OwnM w1 w.heap.size w1.heap.size (.slice (some ⟨w.heap.size, 0, none⟩) 0 q) [])
    clear hown1 hgrow1
    go_wp2
    go_loopw [5, 17] (fun u i wr => ∃ k m g cap : Nat, k ≤ p ∧ i = .int .i64 k ∧ u = .slice (some ⟨g, 0, none⟩) m cap ∧ m = (mergesTo xs p k).length ∧ OwnM wr w.heap.size wr.heap.size (.slice (some ⟨g, 0, none⟩) m cap) (mergesTo xs p k) ∧ Below w.heap.size w wr)
      (fun _ i _ => p - (intOf i).toNat)
    case atStart => exact ⟨0, 0, w.heap.size, q, Nat.zero_le _, rfl, rfl, rfl, HO1.out, hb1⟩
    case round =>
      obtain ⟨k, m, g, cap, hk, rfl, rfl, hm, hown, hbel⟩ := hrel
      have HM := Lib.hid hm
      have HO := Lib.hid hown
      clear hm hown
      by_cases hlt : k < p
      · obtain ⟨wo, hwo⟩ : ∃ wo : World, wo = wr := ⟨_, rfl⟩
        subst hwo
        go_wp2
        go_loopw [5, 7] (fun u i wr => ∃ j m g cap : Nat, j ≤ p - 1 - k ∧ i = .int .i64 ((k + 1 + j : Nat) : Int) ∧ u = .slice (some ⟨g, 0, none⟩) m cap ∧ m = (mergesTo xs p k ++ mrow xs k j).length ∧ OwnM wr w.heap.size wr.heap.size (.slice (some ⟨g, 0, none⟩) m cap) (mergesTo xs p k ++ mrow xs k j) ∧ Below w.heap.size w wr)
          (fun _ i _ => p - (intOf i).toNat)
        case atStart => exact ⟨0, m, g, cap, Nat.zero_le _, by go_num, rfl, by simpa [mrow] using HM.out, by simpa [mrow] using HO.out, hbel⟩
        case round =>
          obtain ⟨j, m2, g2, cap2, hj, rfl, rfl, hm2, hown2, hbel2⟩ := hrel
          have HM2 := Lib.hid hm2
          have HO2 := Lib.hid hown2
          have hml : m2 ≤ 1000 := by
            have := (HBD.out k).1
            rw [hm2, List.length_append, mrow_length]
            omega
          obtain ⟨y, hy⟩ : ∃ y, y = k + 1 + j := ⟨_, rfl⟩
          rw [← hy]
          have HY := Lib.hid hy
          clear hm2 hown2
          by_cases hyp : y < p
          · have HV2 := Lib.hid (rdv_below HV.out hbel2)
            have hj2 : j + 1 ≤ p - 1 - k := by omega
            clear hy
            go_wp2_with fail
            refine (merged_v _ xs k y _ HV2.out hl1 hl8).mono ?_
            rintro e w3 ⟨u, rfl, ho, hb3⟩
            obtain ⟨gu, cu, rfl⟩ := own_slice' ho
            have hbel3 := below_step hbel2 hb3
            have hin := inB_of_own ho
            have HO3 := Lib.hid (own_mono ho hbel2.size)
            have HOM := Lib.hid (ownM_below HO2.out hb3)
            have hs23 := hb3.size
            have hs02 := hbel2.size
            clear ho hb3
            go_wp2_with (at_builtin; refine wpList_row rfl _ _ rfl w w3 _ rfl wr.heap.size g2 m2 cap2 (mergesTo xs p k ++ mrow xs k j) rfl HOM.out HM2.out rfl (kOut (retold xs (k : Int) (y : Int))) HO3.out hin ⟨hs02, hs23⟩ (by omega) hbel3 ?_)
            intro g4 cap4 w4 hown4 hbel4 hs4
            have HO4 := Lib.hid hown4
            clear hown4
            go_wp2
            go_roundw
            case rel => exact ⟨j + 1, m2 + 1, g4, cap4, hj2, by have := HY.out; congr 1; omega, rfl, by rw [mrow_succ, ← List.append_assoc, List.length_append, ← HM2.out]; rfl, by rw [mrow_succ, ← HY.out]; first | exact HO4.out | (rw [← List.append_assoc]; exact HO4.out), hbel4⟩
            case measure => simp [intOf]; omega
          · have hj2 : j = p - 1 - k := by omega
            have hyp2 : y = p := by omega
            have HJ2 := Lib.hid hj2
            clear hj2 hy hyp2
            go_wp2
            go_roundw
            case rel => exact ⟨k + 1, m2, g2, cap2, by omega, by go_num, rfl, by rw [mergesTo_succ, ← HJ2.out]; exact HM2.out, by rw [mergesTo_succ, ← HJ2.out]; exact HO2.out, hbel2⟩
            case measure => simp [intOf]; omega
      · have hkp : k = p := by omega
        subst hkp
        go_wp2
        go_ret2
        exact ⟨_, rfl, HO.out, hbel⟩
  · have hp : partIn xs = false := by simpa using hp
    have hr : finerMerges xs = ([], false) := by simp [finerMerges, hp]
    rw [hr]
    have HP := Lib.hid hp
    clear hp hr
    go_enter Try.func12, Try.ntmps12
    go_wp2_with fail
    refine (iPartIn_is false _ _ _ HV.out HP).mono ?_
    rintro e w' ⟨rfl, rfl⟩
    go_wp2
    go_ret2
    exact ⟨_, rfl, ownM_nil _ _ _, Below.refl _ _⟩

set_option maxHeartbeats 4000000 in
theorem l2Merges_v (v : Value) (xs : List Int) (p : Nat) (w : World) (hv : RdV w v xs) (hp : partIn xs = true) (hps : pSize xs = p) : Calls Try.prog 34 #[v] w (FreshM w (mergesTo xs p p)) := by
  have HV := Lib.hid hv
  have hbd := pSize_bd (partIn_small hp)
  rw [hps] at hbd
  have HSM := Lib.hid (partIn_small hp)
  have HPS := Lib.hid hps
  obtain ⟨hl1, hl8⟩ := partIn_len hp
  have hpos := pSize_pos HSM.out hl1
  rw [hps] at hpos
  have hp8 : p ≤ 8 := by omega
  have HBD := Lib.hid (mergesTo_bd xs p hp8 hl8)
  obtain ⟨bx, ox, cx, rfl, hcx, hbx, hcx1, hcx2⟩ := rdv_cells hv hl1
  obtain ⟨n, hn⟩ : ∃ n, n = xs.length := ⟨_, rfl⟩
  have HN := Lib.hid hn
  rw [← hn] at HV hl1 hl8 ⊢
  clear hv hp hps hn hcx1 hcx2
  go_enter Try.func34, Try.ntmps34
  go_wp2
  go_loopw [3, 4] (fun u i wr => ∃ k m g cap : Nat, k ≤ p ∧ i = .int .i64 k ∧ u = .slice (some ⟨g, 0, none⟩) m cap ∧ m = (mergesTo xs p k).length ∧ OwnM wr w.heap.size wr.heap.size (.slice (some ⟨g, 0, none⟩) m cap) (mergesTo xs p k) ∧ Below w.heap.size w wr)
    (fun _ i _ => p - (intOf i).toNat)
  case atStart => exact ⟨0, 0, w.heap.size, 0, Nat.zero_le _, rfl, rfl, rfl, by simpa [mergesTo] using ownM_empty w _ (Nat.le_refl _), (Below.refl _ _).alloc (Nat.le_refl _) _⟩
  case round =>
    obtain ⟨k, m, g, cap, hk, rfl, rfl, hm, hown, hbel⟩ := hrel
    have HM := Lib.hid hm
    have HO := Lib.hid hown
    clear hm hown
    have HVk := Lib.hid (rdv_below HV.out hbel)
    by_cases hlt : k < p
    · obtain ⟨wo, hwo⟩ : ∃ wo : World, wo = wr := ⟨_, rfl⟩
      subst hwo
      go_wp2_with fail
      refine (l1Size_v _ xs _ HVk.out HSM.out).mono ?_
      rintro e w' ⟨rfl, rfl⟩
      rw [HPS.out]
      go_wp2
      go_loopw [3, 5] (fun u i wr => ∃ j m g cap : Nat, j ≤ p - 1 - k ∧ i = .int .i64 ((k + 1 + j : Nat) : Int) ∧ u = .slice (some ⟨g, 0, none⟩) m cap ∧ m = (mergesTo xs p k ++ mrow xs k j).length ∧ OwnM wr w.heap.size wr.heap.size (.slice (some ⟨g, 0, none⟩) m cap) (mergesTo xs p k ++ mrow xs k j) ∧ Below w.heap.size w wr)
        (fun _ i _ => p - (intOf i).toNat)
      case atStart => exact ⟨0, m, g, cap, Nat.zero_le _, by go_num, rfl, by simpa [mrow] using HM.out, by simpa [mrow] using HO.out, hbel⟩
      case round =>
        obtain ⟨j, m2, g2, cap2, hj, rfl, rfl, hm2, hown2, hbel2⟩ := hrel
        have HM2 := Lib.hid hm2
        have HO2 := Lib.hid hown2
        have hml : m2 ≤ 1000 := by
          have := (HBD.out k).1
          rw [hm2, List.length_append, mrow_length]
          omega
        obtain ⟨y, hy⟩ : ∃ y, y = k + 1 + j := ⟨_, rfl⟩
        rw [← hy]
        have HY := Lib.hid hy
        clear hm2 hown2
        have HV2 := Lib.hid (rdv_below HV.out hbel2)
        by_cases hyp : y < p
        · have hj2 : j + 1 ≤ p - 1 - k := by omega
          have hcx2 := cells_below hcx hbel2
          obtain ⟨L, hL⟩ : ∃ L, L = retold xs (k : Int) (y : Int) := ⟨_, rfl⟩
          have hLl : L.length = n := by rw [hL, retold_length, HN.out]
          have HLL := Lib.hid hLl
          have HL := Lib.hid hL
          obtain ⟨wp, hwp⟩ : ∃ wp : World, wp = wr := ⟨_, rfl⟩
          subst hwp
          have hBp := hbel2.size
          clear hy hL hLl
          go_wp2_with fail
          refine (l1Size_v _ xs _ HV2.out HSM.out).mono ?_
          rintro e w' ⟨rfl, rfl⟩
          rw [HPS.out]
          go_wp2
          go_loopw [6, 7] (fun u i wi => ∃ t g3 cap3 : Nat, t ≤ n ∧ i = .int .i64 t ∧ u = .slice (some ⟨g3, 0, none⟩) t cap3 ∧ Own wi wp.heap.size (.slice (some ⟨g3, 0, none⟩) t cap3) (L.take t) ∧ Below wp.heap.size wp wi)
            (fun _ i _ => n - (intOf i).toNat)
          case atStart => exact ⟨0, wp.heap.size, 0, Nat.zero_le _, rfl, rfl, own_empty wp _ (Nat.le_refl _), (Below.refl _ _).alloc (Nat.le_refl _) _⟩
          case round =>
            obtain ⟨t, g3, cap3, ht, rfl, rfl, hob, hbi⟩ := hrel
            have HOB := Lib.hid hob
            have hBi := hbi.size
            clear hob
            by_cases htn : t < n
            · have hct := cells_at (cells_below hcx2 hbi) t (by rw [← HN.out]; exact htn)
              have hrg := retold_getD xs (k : Int) (y : Int) t (by rw [← HN.out]; exact htn)
              rw [← HL.out] at hrg
              have hts := take_snoc L t (by rw [HLL.out]; exact htn)
              obtain ⟨x, hx⟩ : ∃ x, x = xs.getD t 0 := ⟨_, rfl⟩
              rw [← hx] at hct hrg
              have htl : t = (L.take t).length := by rw [List.length_take, HLL.out]; omega
              have HTL := Lib.hid htl
              clear hx htl
              by_cases hxy : x = (y : Int)
              · have hb : (x == (y : Int)) = true := by simpa using hxy
                rw [if_pos hxy] at hrg
                rw [hrg] at hts
                have HTS := Lib.hid hts
                clear hxy hrg hts
                go_wp2_with (at_builtin; refine wpList_push rfl _ _ rfl wp.heap.size g3 t cap3 (L.take t) rfl (own_alloc HOB.out _) HTL.out ⟨wr.heap.size, 0, none⟩ rfl (k : Int) (cell_new1 _ _ _) (by omega) (by simp; omega) ?_)
                intro g4 cap4 w4 hown4 hgr4 hg4
                have hbi4 : Below wp.heap.size wp w4 := (hbi.alloc hBi _).grown hgr4 (by simp; omega) (fun q hq => by cases hq; exact (own_lt HOB.out g3 rfl).1)
                have HO4 := Lib.hid hown4
                clear hown4 hgr4 hg4
                go_wp2
                go_roundw
                case rel => exact ⟨t + 1, g4, cap4, by omega, by go_num, rfl, by rw [HTS.out]; exact HO4.out, hbi4⟩
                case measure => simp [intOf]; omega
              · have hb : (x == (y : Int)) = false := by simpa using hxy
                rw [if_neg hxy] at hrg
                rw [hrg] at hts
                have HTS := Lib.hid hts
                clear hxy hrg hts
                go_wp2_with (at_builtin; refine wpList_push rfl _ _ rfl wp.heap.size g3 t cap3 (L.take t) rfl (own_alloc HOB.out _) HTL.out ⟨wr.heap.size, 0, none⟩ rfl x (cell_new1 _ _ _) (by omega) (by simp; omega) ?_)
                intro g4 cap4 w4 hown4 hgr4 hg4
                have hbi4 : Below wp.heap.size wp w4 := (hbi.alloc hBi _).grown hgr4 (by simp; omega) (fun q hq => by cases hq; exact (own_lt HOB.out g3 rfl).1)
                have HO4 := Lib.hid hown4
                clear hown4 hgr4 hg4
                go_wp2
                go_roundw
                case rel => exact ⟨t + 1, g4, cap4, by omega, by go_num, rfl, by rw [HTS.out]; exact HO4.out, hbi4⟩
                case measure => simp [intOf]; omega
            · have htn : t = n := by omega
              have htk : L.take t = L := List.take_of_length_le (by rw [HLL.out]; omega)
              have HOL : Hid (RdV wr (.slice (some ⟨g3, 0, none⟩) t cap3) L) := by
                have h := own_rdv HOB.out
                rw [htk] at h
                exact Lib.hid h
              have hbel3 := below_step hbel2 hbi
              have hs3 := hbel3.size
              have HOM := Lib.hid (ownM_below HO2.out hbi)
              clear htn htk
              go_wp2_with fail
              refine (l1Kernel_v _ _ _ HOL.out (by rw [HLL.out]; omega)).mono ?_
              rintro e w5 ⟨u, rfl, ho5, hb5⟩
              obtain ⟨gu, cu, rfl⟩ := own_slice' ho5
              have hbel5 := below_step hbel3 hb5
              have hin := inB_of_own ho5
              have HO5 := Lib.hid (own_mono ho5 hs3)
              have HOM5 := Lib.hid (ownM_below HOM.out hb5)
              have hs35 := hb5.size
              clear ho5 hb5
              go_wp2_with (at_builtin; refine wpList_row rfl _ _ rfl w w5 _ rfl wr.heap.size g2 m2 cap2 (mergesTo xs p k ++ mrow xs k j) rfl (ownM_mono HOM5.out (Nat.le_refl _) (by omega)) HM2.out rfl (kOut L) HO5.out hin ⟨hs3, hs35⟩ (by omega) hbel5 ?_)
              intro g6 cap6 w6 hown6 hbel6 hs6
              have HO6 := Lib.hid hown6
              clear hown6
              go_wp2
              go_roundw
              case rel => exact ⟨j + 1, m2 + 1, g6, cap6, hj2, by have := HY.out; congr 1; omega, rfl, by rw [mrow_succ, ← List.append_assoc, List.length_append, ← HM2.out]; rfl, by rw [mrow_succ, ← HY.out, ← HL.out]; first | exact HO6.out | (rw [← List.append_assoc]; exact HO6.out), hbel6⟩
              case measure => simp [intOf]; omega
        · have hj2 : j = p - 1 - k := by omega
          have hyp2 : y = p := by omega
          have HJ2 := Lib.hid hj2
          clear hj2 hy hyp2
          go_wp2_with fail
          refine (l1Size_v _ xs _ HV2.out HSM.out).mono ?_
          rintro e w' ⟨rfl, rfl⟩
          rw [HPS.out]
          go_wp2
          go_roundw
          case rel => exact ⟨k + 1, m2, g2, cap2, by omega, by go_num, rfl, by rw [mergesTo_succ, ← HJ2.out]; exact HM2.out, by rw [mergesTo_succ, ← HJ2.out]; exact HO2.out, hbel2⟩
          case measure => simp [intOf]; omega
    · have hkp : k = p := by omega
      subst hkp
      go_wp2_with fail
      refine (l1Size_v _ xs _ HVk.out HSM.out).mono ?_
      rintro e w' ⟨rfl, rfl⟩
      rw [HPS.out]
      go_wp2
      go_ret
      exact ⟨_, rfl, HO.out, hbel⟩

theorem sFinerMerges_v (v : Value) (xs : List Int) (w : World) (hv : RdV w v xs) : Calls Try.prog 14 #[v] w (FreshMB w (finerMerges xs)) := by
  have HV := Lib.hid hv
  clear hv
  by_cases hp : partIn xs = true
  · obtain ⟨p, hps⟩ := Int.eq_ofNat_of_zero_le (pSize_bd (partIn_small hp)).1
    have hr : finerMerges xs = (mergesTo xs p p, true) := by simp [finerMerges, hp, hps]
    rw [hr]
    have HP := Lib.hid hp
    have HPS := Lib.hid hps
    clear hp hr hps
    go_enter Try.func14, Try.ntmps14
    go_wp2_with fail
    refine (sPartIn_is true _ _ _ HV.out HP).mono ?_
    rintro e w' ⟨rfl, rfl⟩
    go_wp2_with fail
    refine (l2Merges_v _ xs p _ HV.out HP.out HPS.out).mono ?_
    rintro e w1 ⟨u, rfl, ho, hb⟩
    go_wp2
    go_ret2
    exact ⟨_, rfl, ho, hb⟩
  · have hp : partIn xs = false := by simpa using hp
    have hr : finerMerges xs = ([], false) := by simp [finerMerges, hp]
    rw [hr]
    have HP := Lib.hid hp
    clear hp hr
    go_enter Try.func14, Try.ntmps14
    go_wp2_with fail
    refine (sPartIn_is false _ _ _ HV.out HP).mono ?_
    rintro e w' ⟨rfl, rfl⟩
    go_wp2
    go_ret2
    exact ⟨_, rfl, by simpa using ownM_empty w _ (Nat.le_refl _), (Below.refl _ _).alloc (Nat.le_refl _) _⟩

end Go.Proofs.Ytabgadmdjpohaab
