/-
  The contracts of ViewShare (impl and spec) and of l7Table.
-/
import Derived.Test.YthkkolnohgibeaaDoorViewSize
import Derived.Test.YthkkolnohgibeaaDoorMoves
import Derived.Test.YthkkolnohgibeaaDoorMatHelp
import Derived.Test.YthkkolnohgibeaaDoorHeldMat
import Derived.StillTailTactics
namespace Go.Proofs.YthkkolnohgibeaaDoor
set_option linter.unusedSimpArgs false
set_option linter.unusedVariables false
set_option linter.unnecessarySimpa false
open Go.RowKit
set_option maxRecDepth 100000

theorem cellN_next (A B : Nat → Nat) (n x y : Nat) : cellN A B (n + 1) x y = cellN A B n x y + if A n = x ∧ B n = y then 1 else 0 := by
  show cellN A B n x y + (if (decide (A n = x) && decide (B n = y)) = true then 1 else 0) = _
  by_cases h1 : A n = x <;> by_cases h2 : B n = y <;> simp [h1, h2]

/-- How many of the first k things have numbers x and y: row x. -/
def tabRow (A B : Nat → Nat) (q k x : Nat) : List Int := (List.range q).map fun y => (cellN A B k x y : Int)
def tabTo (A B : Nat → Nat) (p q k : Nat) : List (List Int) := (List.range p).map (tabRow A B q k)

theorem tabRow_len (A B : Nat → Nat) (q k x : Nat) : (tabRow A B q k x).length = q := by simp [tabRow]
theorem tabTo_len (A B : Nat → Nat) (p q k : Nat) : (tabTo A B p q k).length = p := by simp [tabTo]
theorem tabRow_getD (A B : Nat → Nat) (q k x : Nat) {y : Nat} (h : y < q) : (tabRow A B q k x).getD y 0 = (cellN A B k x y : Int) := by simp [tabRow, List.getD, h]
theorem tabTo_getD (A B : Nat → Nat) (p q k : Nat) {x : Nat} (h : x < p) : (tabTo A B p q k).getD x [] = tabRow A B q k x := by simp [tabTo, List.getD, h]
theorem tabTo_zero (A B : Nat → Nat) (p q : Nat) : tabTo A B p q 0 = List.replicate p (List.replicate q 0) := by
  unfold tabTo
  apply List.ext_getElem (by simp)
  intro x h1 h2
  simp only [List.getElem_map, List.getElem_range, List.getElem_replicate]
  unfold tabRow
  apply List.ext_getElem (by simp)
  intro y h3 h4
  simp [cellN, cntB]
theorem tabTo_step (A B : Nat → Nat) (p q k : Nat) (hA : A k < p) (hB : B k < q) :
    tabTo A B p q (k + 1) = (tabTo A B p q k).set (A k) ((tabRow A B q k (A k)).set (B k) ((cellN A B k (A k) (B k) : Int) + 1)) := by
  unfold tabTo
  apply List.ext_getElem (by simp)
  intro x h1 h2
  simp only [List.length_map, List.length_range] at h1
  rw [List.getElem_set]
  simp only [List.getElem_map, List.getElem_range]
  by_cases e : A k = x
  · subst e
    rw [if_pos rfl]
    unfold tabRow
    apply List.ext_getElem (by simp)
    intro y h3 h4
    simp only [List.length_map, List.length_range] at h3
    rw [List.getElem_set]
    simp only [List.getElem_map, List.getElem_range]
    rw [cellN_next]
    by_cases e2 : B k = y
    · subst e2
      rw [if_pos rfl, if_pos ⟨rfl, rfl⟩]
      omega
    · rw [if_neg e2, if_neg (fun h => e2 h.2)]
      rfl
  · rw [if_neg e]
    unfold tabRow
    apply List.ext_getElem (by simp)
    intro y h3 h4
    simp only [List.getElem_map, List.getElem_range]
    rw [cellN_next, if_neg (fun h => e h.1)]
    rfl
theorem cellN_le (A B : Nat → Nat) (k x y : Nat) : cellN A B k x y ≤ k := cntB_le _ _

theorem part_num {xs : List Int} (hp : partIn xs = true) {k : Nat} (hk : k < xs.length) : 0 ≤ xs.getD k 0 ∧ xs.getD k 0 < pSize xs := by
  have h := (kOut_inv xs).1 k hk
  have e := (kOut_of_ok xs (partIn_ok hp)).1
  have e2 := pSize_kOut xs
  rw [e] at h e2
  rw [e2]
  exact h

def numAtN (xs : List Int) (i : Nat) : Nat := (xs.getD i 0).toNat
theorem numAtN_int {xs : List Int} (hp : partIn xs = true) {k : Nat} (hk : k < xs.length) : xs.getD k 0 = (numAtN xs k : Int) ∧ numAtN xs k < (pSize xs).toNat := by
  have := part_num hp hk
  unfold numAtN
  omega

/-- What ViewShare answers. -/
def shareOf (xs ys : List Int) : List (List Int) := tabTo (numAtN xs) (numAtN ys) (pSize xs).toNat (pSize ys).toNat xs.length
def viewShare (xs ys : List Int) : List (List Int) × Bool := if alike xs ys then (shareOf xs ys, true) else ([], false)

theorem total_le {q : Nat} : ∀ l : List (List Int), (∀ r ∈ l, r.length ≤ q) → total l ≤ l.length * q := by
  intro l
  induction l with
  | nil => intro _; simp [total]
  | cons r l ih =>
    intro h
    have h1 := h r (by simp)
    have h2 := ih fun s hs => h s (by simp [hs])
    rw [total_cons, List.length_cons, Nat.succ_mul]
    omega
theorem viewShare_len (xs ys : List Int) (h : xs.length ≤ 1048576) (_ : ys.length ≤ 1048576) : (viewShare xs ys).1.length ≤ 1000000 ∧ total (viewShare xs ys).1 ≤ 1000000 := by
  unfold viewShare
  split
  · rename_i ha
    obtain ⟨hx, hy, hl⟩ := alike_iff.1 ha
    have b1 := pSize_bd (partIn_small hx)
    have b2 := pSize_bd (partIn_small hy)
    have h1 : (shareOf xs ys).length ≤ 8 := by unfold shareOf; rw [tabTo_len]; omega
    have h2 := total_le (q := 8) (shareOf xs ys) (fun r hr => by
      unfold shareOf tabTo at hr
      obtain ⟨x, _, rfl⟩ := List.mem_map.1 hr
      rw [tabRow_len]
      omega)
    have h3 := Nat.mul_le_mul h1 (Nat.le_refl 8)
    dsimp only
    omega
  · simp [total]

/-- One more row of zeros. -/
theorem stage_rep (p q k : Nat) (hk : k < p) : ((List.replicate p (List.replicate q (0 : Int))).take k ++ List.replicate (p - k) []).set k (List.replicate q 0) = (List.replicate p (List.replicate q (0 : Int))).take (k + 1) ++ List.replicate (p - (k + 1)) [] := by
  have h := stageM (List.replicate p (List.replicate q (0 : Int))) k (by simpa using hk)
  rw [List.length_replicate] at h
  rw [show (List.replicate p (List.replicate q (0 : Int))).getD k [] = List.replicate q 0 by simp [List.getD, hk]] at h
  exact h

set_option maxHeartbeats 4000000 in
theorem iViewShare_v (v u : Value) (xs ys : List Int) (w : World) (hv : RdV w v xs) (hu : RdV w u ys) :
    Calls Tryd.prog 12 #[v, u] w (FreshMB w (viewShare xs ys)) := by
  have HV := Lib.hid hv
  have HU := Lib.hid hu
  cases ha : alike xs ys
  · have HA := Lib.hid ha
    have hr : viewShare xs ys = ([], false) := by rw [viewShare, ha]; rfl
    rw [hr]
    clear ha hr hv hu
    go_enter Tryd.func12, Tryd.ntmps12
    go_wp2_with fail
    refine (areAlike_is false _ _ _ _ _ HV.out HU.out HA).mono ?_
    rintro e w' ⟨rfl, rfl⟩
    go_wp2
    go_ret2
    exact ⟨_, rfl, ownM_nil _ _ _, Below.refl _ _⟩
  · have HA := Lib.hid ha
    obtain ⟨hx, hy, hl⟩ := alike_iff.1 ha
    have hl8 := partIn_len hx
    have hr : viewShare xs ys = (shareOf xs ys, true) := by rw [viewShare, ha]; rfl
    rw [hr]
    unfold shareOf
    have b1 := pSize_bd (partIn_small hx)
    have b2 := pSize_bd (partIn_small hy)
    have b3 := pSize_pos (partIn_small hx) hl8.1
    obtain ⟨p, hp⟩ := Int.eq_ofNat_of_zero_le b1.1
    obtain ⟨q, hq⟩ := Int.eq_ofNat_of_zero_le b2.1
    have hnx : ∀ k, k < xs.length → xs.getD k 0 = (numAtN xs k : Int) ∧ numAtN xs k < p := fun k hk => by have := numAtN_int hx hk; rw [hp] at this; simpa using this
    have hny : ∀ k, k < xs.length → ys.getD k 0 = (numAtN ys k : Int) ∧ numAtN ys k < q := fun k hk => by have := numAtN_int hy (k := k) (by omega); rw [hq] at this; simpa using this
    have HP := Lib.hid hp
    have HQ := Lib.hid hq
    rw [hp, hq]
    rw [hp] at b1 b3
    rw [hq] at b2
    simp only [Int.toNat_natCast]
    obtain ⟨bx, ox, cx, rfl, hcx, hbx, hcx1, hcx2⟩ := rdv_cells hv hl8.1
    obtain ⟨by', oy, cy, rfl, hcy, hby, hcy1, hcy2⟩ := rdv_cells hu (by omega)
    obtain ⟨n, hn⟩ : ∃ n, n = xs.length := ⟨_, rfl⟩
    have HN := Lib.hid hn
    have HLY := Lib.hid hl
    have PX := Lib.hid hx
    have PY := Lib.hid hy
    obtain ⟨A, hA⟩ : ∃ A, A = numAtN xs := ⟨_, rfl⟩
    obtain ⟨B, hB⟩ : ∃ B, B = numAtN ys := ⟨_, rfl⟩
    rw [← hA] at hnx ⊢
    rw [← hB] at hny ⊢
    rw [← hl] at HU ⊢
    rw [← hn] at HV HU hnx hny hl8 HLY ⊢
    have HNX := Lib.hid hnx
    have HNY := Lib.hid hny
    obtain ⟨i0, hi, hz0, hz1, hz2⟩ := info_parts Tryd.infoInts
    obtain ⟨j0, hj, hy0, hy1, hy2⟩ := info_parts Tryd.infoInt
    clear ha hr hv hu hn hl hx hy hp hq hA hB hnx hny hcx1 hcx2 hcy1 hcy2
    go_enter Tryd.func12, Tryd.ntmps12
    go_wp2_with fail
    refine (areAlike_is true _ _ _ _ _ HV.out HU.out HA).mono ?_
    rintro e w' ⟨rfl, rfl⟩
    go_wp2_with fail
    refine (blockCount_p _ xs _ HV.out PX).mono ?_
    rintro e w' ⟨rfl, rfl⟩
    rw [HP.out]
    go_wp2_with (at_make; refine wpList_make_full _ rfl _ _ 32 rfl w.heap.size 23 i0 (.slice none 0 0) 1 Tryd.underlying32 hi hz0 hz1 _ _ _ _ p rfl rfl rfl rfl (by rw [hz2]; omega) (by unfold maxLen; omega) (Nat.le_refl _) ?_)
    intro w1 hown1 hgrow1
    have hb1 : Below w.heap.size w w1 := (Below.refl _ _).grown hgrow1 (Nat.le_refl _) (fun k h => by cases h)
    have hgs : w.heap.size < w1.heap.size := (World.ownsRow.lt hown1 _ rfl).2
    have hown := ownM_made (S := w1.heap.size) hown1 ⟨Nat.le_refl _, hgs⟩
    clear hown1 hgrow1
    go_wp2
    go_loopw [19] (fun i wr => ∃ k : Nat, k ≤ p ∧ i = .int .i64 k ∧ OwnM wr w.heap.size wr.heap.size (.slice (some ⟨w.heap.size, 0, none⟩) p p) ((List.replicate p (List.replicate q (0 : Int))).take k ++ List.replicate (p - k) []) ∧ Below w.heap.size w wr) (fun i _ => p - (intOf i).toNat)
    case atStart => exact ⟨0, Nat.zero_le _, rfl, by simpa using hown, hb1⟩
    case round =>
      obtain ⟨k, hk, rfl, hown, hbel⟩ := hrel
      have HO := Lib.hid hown
      have hBsz := hbel.size
      by_cases hlt : k < p
      · have hs := stage_rep p q k hlt
        have hlr : ((List.replicate p (List.replicate q (0 : Int))).take k ++ List.replicate (p - k) []).length = p := by simp; omega
        have HS := Lib.hid hs
        have HLR := Lib.hid hlr
        have HUr := Lib.hid (rdv_below HU.out hbel)
        clear hown hs hlr
        go_wp2_with fail
        refine (blockCount_p _ ys _ HUr.out PY).mono ?_
        rintro e w' ⟨rfl, rfl⟩
        rw [HQ.out]
        go_wp2_with (at_make; refine wpList_make_full _ rfl _ _ 23 rfl wr.heap.size 3 j0 (.int .i64 0) 1 Tryd.underlying23 hj hy0 hy1 _ _ _ _ q rfl rfl rfl rfl (by rw [hy2]; omega) (by unfold maxLen; omega) (Nat.le_refl _) ?_)
        intro w2 hown2 hgrow2
        have hb2 : Below wr.heap.size wr w2 := (Below.refl _ _).grown hgrow2 (Nat.le_refl _) (fun k h => by cases h)
        have hu2 := own_made hown2
        have hO2 := ownM_below HO.out hb2
        obtain ⟨hst, hgs2⟩ := ownM_stored hO2 HLR.out.symm k hlt _ (List.replicate q 0) (own_mono hu2 hBsz) (inB_of_own hu2) hBsz hb2.size
        have hfz := ownM_frozen hO2 k
        obtain ⟨v0, hv0, _⟩ := ownM_cell hO2 k (by have := HLR.out; omega)
        have hbel2 : Below w.heap.size w w2 := below_step hbel hb2
        rw [HS.out] at hst
        have HST := Lib.hid hst
        have hsz : (w2.setCell ⟨w.heap.size, k, none⟩ (.slice (some ⟨wr.heap.size, 0, none⟩) q q)).heap.size = w2.heap.size := by simp [World.setCell]
        have HSZ := Lib.hid hsz
        have bk : (k : Int) < p := by omega
        clear hst hgs2 hO2 hu2 hsz hown2 hgrow2
        go_wp2
        go_roundw
        case rel => exact ⟨k + 1, by omega, by go_num, by rw [HSZ.out]; exact HST.out, hbel2.setCell (Nat.le_refl _) _⟩
        case measure => simp [intOf]; omega
      · have hkn : k = p := by omega
        subst hkn
        have hown := HO.out
        rw [Nat.sub_self, List.replicate_zero, List.append_nil, List.take_of_length_le (by simp), ← tabTo_zero A B] at hown
        obtain ⟨wo, hwo⟩ : ∃ wo : World, wo = wr := ⟨_, rfl⟩
        subst hwo
        have HO2 := Lib.hid hown
        clear hown HO
        go_wp2
        go_loopw [31] (fun i wx => ∃ t : Nat, t ≤ n ∧ i = .int .i64 t ∧ OwnM wx w.heap.size wo.heap.size (.slice (some ⟨w.heap.size, 0, none⟩) k k) (tabTo A B k q t) ∧ Below w.heap.size w wx ∧ wo.heap.size ≤ wx.heap.size) (fun i _ => n - (intOf i).toNat)
        case atStart => exact ⟨0, Nat.zero_le _, rfl, HO2.out, hbel, Nat.le_refl _⟩
        case round =>
          obtain ⟨t, ht, rfl, hown, hbel, hsz⟩ := hrel
          by_cases htn : t < n
          · obtain ⟨hx1, hx2⟩ := HNX.out t htn
            obtain ⟨hy1, hy2⟩ := HNY.out t htn
            have hc1 := cells_at (cells_below hcx hbel) t (by rw [← HN.out]; exact htn)
            have hc2 := cells_at (cells_below hcy hbel) t (by have := HLY.out; omega)
            rw [hx1] at hc1
            rw [hy1] at hc2
            have hst := tabTo_step A B k q t hx2 hy2
            have hcl := cellN_le A B t (A t) (B t)
            have hlr := tabTo_len A B k q t
            obtain ⟨u1, hcu, hou, hiu, hset⟩ := ownM_row hown (A t) (by rw [hlr]; exact hx2)
            rw [tabTo_getD A B k q t hx2] at hou
            obtain ⟨X, hX⟩ : ∃ X, X = A t := ⟨_, rfl⟩
            obtain ⟨Y, hY⟩ : ∃ Y, Y = B t := ⟨_, rfl⟩
            rw [← hX, ← hY] at hst hcl
            rw [← hX] at hx2 hc1 hcu hou hset
            rw [← hY] at hy2 hc2
            rcases own_view hou with ⟨_, h0⟩ | ⟨g, cap, hue, hg1, hg2, _, _, hgc, hgf⟩
            · have := tabRow_len A B q t X
              rw [h0] at this
              simp at this
              omega
            · have hz := hgc Y (by rw [tabRow_len]; exact hy2)
              rw [tabRow_getD _ _ _ _ _ hy2] at hz
              have hf := hgf Y
              rw [tabRow_len] at hue
              subst hue
              obtain ⟨z, hze⟩ : ∃ z, z = cellN A B t X Y := ⟨_, rfl⟩
              rw [← hze] at hst hcl hz
              obtain ⟨hs1, hs2⟩ := own_stored hou (by rw [tabRow_len]) Y ((z : Int) + 1)
              have hnew := hset _ _ hs1 hs2
              rw [← hst] at hnew
              have HNEW := Lib.hid hnew
              have b1 : (t : Int) < n := by omega
              have b2 : (X : Int) < k := by omega
              have b3 : (Y : Int) < q := by omega
              have b4 : IntKind.i64.wrap ((z : Int) + 1) = (z : Int) + 1 := IntWalk.i64_in _ (by omega)
              have hgs3 : w.heap.size ≤ g := hg1
              have hbel3 : Below w.heap.size w ((wr.setCell ⟨g, Y, none⟩ (.int .i64 ((z : Int) + 1)))) := hbel.setCell hgs3 _
              have HB3 := Lib.hid hbel3
              have hsz3 : (wr.setCell ⟨g, Y, none⟩ (.int .i64 ((z : Int) + 1))).heap.size = wr.heap.size := by simp [World.setCell]
              have HSZ := Lib.hid hsz3
              clear hown hou hset hst hnew hs1 hs2 hX hY hx1 hy1 hze hlr hgc hgf hiu hbel3 hsz3
              go_wp2
              go_still_tail 12, (by kernel_rfl)
              change wpList _ _ _ _ _ wr.drew
              go_wp2
              go_roundw
              case rel => exact ⟨t + 1, by omega, by go_num, ownM_below HNEW.out ((Below.refl _ _).drew), HB3.out.drew, by show wo.heap.size ≤ (wr.setCell _ _).heap.size; rw [HSZ.out]; exact hsz⟩
              case measure => simp [intOf]; omega
          · have htn : t = n := by omega
            subst htn
            have HOF := Lib.hid hown
            clear hown
            go_wp2
            go_ret2
            exact ⟨_, rfl, ownM_mono HOF.out (Nat.le_refl _) hsz, hbel⟩

theorem rep_snoc (k q : Nat) : List.replicate k (List.replicate q (0 : Int)) ++ [List.replicate q 0] = List.replicate (k + 1) (List.replicate q 0) := by rw [List.replicate_succ']

set_option maxHeartbeats 4000000 in
theorem l7Table_v (v u : Value) (xs ys : List Int) (w : World) (hv : RdV w v xs) (hu : RdV w u ys) (hp : partIn xs = true) (hpy : partIn ys = true) (hl : ys.length = xs.length) :
    Calls Tryd.prog 31 #[v, u] w (FreshM w (shareOf xs ys)) := by
  have HV := Lib.hid hv
  have HU := Lib.hid hu
  have hl8 := partIn_len hp
  unfold shareOf
  have b1 := pSize_bd (partIn_small hp)
  have b2 := pSize_bd (partIn_small hpy)
  have b3 := pSize_pos (partIn_small hp) hl8.1
  obtain ⟨p, hpe⟩ := Int.eq_ofNat_of_zero_le b1.1
  obtain ⟨q, hq⟩ := Int.eq_ofNat_of_zero_le b2.1
  have hnx : ∀ k, k < xs.length → xs.getD k 0 = (numAtN xs k : Int) ∧ numAtN xs k < p := fun k hk => by have := numAtN_int hp hk; rw [hpe] at this; simpa using this
  have hny : ∀ k, k < xs.length → ys.getD k 0 = (numAtN ys k : Int) ∧ numAtN ys k < q := fun k hk => by have := numAtN_int hpy (k := k) (by omega); rw [hq] at this; simpa using this
  have HP := Lib.hid hpe
  have HQ := Lib.hid hq
  rw [hpe, hq]
  rw [hpe] at b1 b3
  rw [hq] at b2
  simp only [Int.toNat_natCast]
  obtain ⟨bx, ox, cx, rfl, hcx, hbx, hcx1, hcx2⟩ := rdv_cells hv hl8.1
  obtain ⟨by', oy, cy, rfl, hcy, hby, hcy1, hcy2⟩ := rdv_cells hu (by omega)
  obtain ⟨n, hn⟩ : ∃ n, n = xs.length := ⟨_, rfl⟩
  have HN := Lib.hid hn
  have HLY := Lib.hid hl
  have PX := Lib.hid hp
  have PY := Lib.hid hpy
  obtain ⟨A, hA⟩ : ∃ A, A = numAtN xs := ⟨_, rfl⟩
  obtain ⟨B, hB⟩ : ∃ B, B = numAtN ys := ⟨_, rfl⟩
  rw [← hA] at hnx ⊢
  rw [← hB] at hny ⊢
  rw [hl] at HU ⊢
  rw [← hn] at HV HU hnx hny hl8 HLY ⊢
  have HNX := Lib.hid hnx
  have HNY := Lib.hid hny
  obtain ⟨j0, hj, hy0, hy1, hy2⟩ := info_parts Tryd.infoInt
  clear hv hu hn hl hp hpy hpe hq hA hB hnx hny hcx1 hcx2 hcy1 hcy2
  go_enter Tryd.func31, Tryd.ntmps31
  go_wp2
  go_loopw [5, 6] (fun o i wr => ∃ k g cap : Nat, k ≤ p ∧ i = .int .i64 k ∧ o = .slice (some ⟨g, 0, none⟩) k cap ∧ OwnM wr w.heap.size wr.heap.size (.slice (some ⟨g, 0, none⟩) k cap) (List.replicate k (List.replicate q (0 : Int))) ∧ Below w.heap.size w wr) (fun _ i _ => p - (intOf i).toNat)
  case atStart => exact ⟨0, w.heap.size, 0, Nat.zero_le _, rfl, rfl, by have := ownM_empty w w.heap.size (Nat.le_refl _); simpa using this, (Below.refl _ _).alloc (Nat.le_refl _) _⟩
  case round =>
    obtain ⟨k, g, cap, hk, rfl, rfl, hown, hbel⟩ := hrel
    have HO := Lib.hid hown
    have hBsz := hbel.size
    clear hown
    by_cases hlt : k < p
    · go_wp2_with fail
      refine (l1Size_p _ xs _ (rdv_below HV.out hbel) PX).mono ?_
      rintro e w' ⟨rfl, rfl⟩
      rw [HP.out]
      go_wp2_with fail
      refine (l1Size_p _ ys _ (rdv_below HU.out hbel) PY).mono ?_
      rintro e w' ⟨rfl, rfl⟩
      rw [HQ.out]
      go_wp2_with (at_make; refine wpList_make_full _ rfl _ _ 23 rfl wr.heap.size 3 j0 (.int .i64 0) 1 Tryd.underlying23 hj hy0 hy1 _ _ _ _ q rfl rfl rfl rfl (by rw [hy2]; omega) (by unfold maxLen; omega) (Nat.le_refl _) ?_)
      intro w2 hown2 hgrow2
      have hb2 : Below wr.heap.size wr w2 := (Below.refl _ _).grown hgrow2 (Nat.le_refl _) (fun k h => by cases h)
      have hu2 := own_made hown2
      have hiu := inB_of_own hu2
      have hO2 := ownM_below HO.out hb2
      have hbel2 : Below w.heap.size w w2 := below_step hbel hb2
      have hs2 := hb2.size
      have HO2 := Lib.hid hO2
      have HU2 := Lib.hid (own_mono hu2 hBsz)
      have HB2 := Lib.hid hbel2
      clear hown2 hgrow2 hu2 hO2 hb2 hbel2
      go_wp2_with (at_builtin; refine wpList_row rfl _ _ rfl w w2 (.slice (some ⟨wr.heap.size, 0, none⟩) q q) rfl wr.heap.size g k cap _ rfl HO2.out (by simp) rfl (List.replicate q 0) HU2.out hiu ⟨hBsz, hs2⟩ (by omega) HB2.out ?_)
      intro g' cap' w3 hown3 hb3 hs3
      rw [rep_snoc] at hown3
      have HO3 := Lib.hid hown3
      have HB3 := Lib.hid hb3
      clear hown3 hb3
      go_wp2
      go_roundw
      case rel => exact ⟨k + 1, g', cap', by omega, by go_num, rfl, HO3.out, HB3.out⟩
      case measure => simp [intOf]; omega
    · have hkp : k = p := by omega
      subst hkp
      have hown := HO.out
      rw [← tabTo_zero A B] at hown
      obtain ⟨wo, hwo⟩ : ∃ wo : World, wo = wr := ⟨_, rfl⟩
      subst hwo
      have HO2 := Lib.hid hown
      have hgw := (ownM_slot hown).1
      clear hown HO
      go_wp2_with fail
      refine (l1Size_p _ xs _ (rdv_below HV.out hbel) PX).mono ?_
      rintro e w' ⟨rfl, rfl⟩
      rw [HP.out]
      go_wp2
      go_loopw [7] (fun i wx => ∃ t : Nat, t ≤ n ∧ i = .int .i64 t ∧ OwnM wx w.heap.size wo.heap.size (.slice (some ⟨g, 0, none⟩) k cap) (tabTo A B k q t) ∧ Below w.heap.size w wx ∧ wo.heap.size ≤ wx.heap.size) (fun i _ => n - (intOf i).toNat)
      case atStart => exact ⟨0, Nat.zero_le _, rfl, HO2.out, hbel, Nat.le_refl _⟩
      case round =>
        obtain ⟨t, ht, rfl, hown, hbel, hsz⟩ := hrel
        by_cases htn : t < n
        · obtain ⟨hx1, hx2⟩ := HNX.out t htn
          obtain ⟨hy1, hy2⟩ := HNY.out t htn
          have hc1 := cells_at (cells_below hcx hbel) t (by rw [← HN.out]; exact htn)
          have hc2 := cells_at (cells_below hcy hbel) t (by have := HLY.out; omega)
          rw [hx1] at hc1
          rw [hy1] at hc2
          have hst := tabTo_step A B k q t hx2 hy2
          have hcl := cellN_le A B t (A t) (B t)
          have hlr := tabTo_len A B k q t
          obtain ⟨u1, hcu, hou, hiu, hset⟩ := ownM_row hown (A t) (by rw [hlr]; exact hx2)
          rw [tabTo_getD A B k q t hx2] at hou
          obtain ⟨X, hX⟩ : ∃ X, X = A t := ⟨_, rfl⟩
          obtain ⟨Y, hY⟩ : ∃ Y, Y = B t := ⟨_, rfl⟩
          rw [← hX, ← hY] at hst hcl
          rw [← hX] at hx2 hc1 hcu hou hset
          rw [← hY] at hy2 hc2
          rcases own_view hou with ⟨_, h0⟩ | ⟨g2, cap2, hue, hg1, hg2, _, _, hgc, hgf⟩
          · have := tabRow_len A B q t X
            rw [h0] at this
            simp at this
            omega
          · have hz := hgc Y (by rw [tabRow_len]; exact hy2)
            rw [tabRow_getD _ _ _ _ _ hy2] at hz
            have hf := hgf Y
            rw [tabRow_len] at hue
            subst hue
            obtain ⟨z, hze⟩ : ∃ z, z = cellN A B t X Y := ⟨_, rfl⟩
            rw [← hze] at hst hcl hz
            obtain ⟨hs1, hs2⟩ := own_stored hou (by rw [tabRow_len]) Y ((z : Int) + 1)
            have hnew := hset _ _ hs1 hs2
            rw [← hst] at hnew
            have HNEW := Lib.hid hnew
            have b1 : (t : Int) < n := by omega
            have b2 : (X : Int) < k := by omega
            have b3 : (Y : Int) < q := by omega
            have b4 : IntKind.i64.wrap ((z : Int) + 1) = (z : Int) + 1 := IntWalk.i64_in _ (by omega)
            have hgs3 : w.heap.size ≤ g2 := hg1
            have hbel3 : Below w.heap.size w ((wr.setCell ⟨g2, Y, none⟩ (.int .i64 ((z : Int) + 1)))) := hbel.setCell hgs3 _
            have HB3 := Lib.hid hbel3
            have hsz3 : (wr.setCell ⟨g2, Y, none⟩ (.int .i64 ((z : Int) + 1))).heap.size = wr.heap.size := by simp [World.setCell]
            have HSZ := Lib.hid hsz3
            clear hown hou hset hst hnew hs1 hs2 hX hY hx1 hy1 hze hlr hgc hgf hiu hbel3 hsz3
            go_wp2
            go_still_tail 26, (by kernel_rfl)
            change wpList _ _ _ _ _ wr.drew
            go_wp2
            go_roundw
            case rel => exact ⟨t + 1, by omega, by go_num, ownM_below HNEW.out ((Below.refl _ _).drew), HB3.out.drew, by show wo.heap.size ≤ (wr.setCell _ _).heap.size; rw [HSZ.out]; exact hsz⟩
            case measure => simp [intOf]; omega
        · have htn : t = n := by omega
          subst htn
          have HOF := Lib.hid hown
          clear hown
          go_wp2
          go_ret
          exact ⟨_, rfl, ownM_mono HOF.out (Nat.le_refl _) hsz, hbel⟩

theorem sViewShare_v (v u : Value) (xs ys : List Int) (w : World) (hv : RdV w v xs) (hu : RdV w u ys) :
    Calls Tryd.prog 13 #[v, u] w (FreshMB w (viewShare xs ys)) := by
  have HV := Lib.hid hv
  have HU := Lib.hid hu
  clear hv hu
  cases ha : alike xs ys
  · have HA := Lib.hid ha
    have hr : viewShare xs ys = ([], false) := by rw [viewShare, ha]; rfl
    rw [hr]
    clear ha hr
    go_enter Tryd.func13, Tryd.ntmps13
    go_wp2_with fail
    refine (l2Two_is false _ _ _ _ _ HV.out HU.out HA).mono ?_
    rintro e w' ⟨rfl, rfl⟩
    go_wp2
    go_ret2
    exact ⟨_, rfl, by have := ownM_empty w w.heap.size (Nat.le_refl _); simpa using this, (Below.refl _ _).alloc (Nat.le_refl _) _⟩
  · have HA := Lib.hid ha
    obtain ⟨hx, hy, hl⟩ := alike_iff.1 ha
    have hr : viewShare xs ys = (shareOf xs ys, true) := by rw [viewShare, ha]; rfl
    rw [hr]
    have HT := Lib.hid (l7Table_v v u xs ys w HV.out HU.out hx hy hl.symm)
    clear ha hr hx hy hl
    go_enter Tryd.func13, Tryd.ntmps13
    go_wp2_with fail
    refine (l2Two_is true _ _ _ _ _ HV.out HU.out HA).mono ?_
    rintro e w' ⟨rfl, rfl⟩
    go_wp2_with fail
    refine HT.out.mono ?_
    rintro e w1 ⟨vm, rfl, o, hb⟩
    have HO := Lib.hid o
    have HB := Lib.hid hb
    clear o hb
    go_wp2
    go_ret2
    exact ⟨_, rfl, HO.out, HB.out⟩

end Go.Proofs.YthkkolnohgibeaaDoor
