/-
  The contracts of slices.Reverse, impl.blocksOf and impl.PartType.
-/
import Derived.Test.YtabgadmdjpohaaaSort
import Derived.Test.YtabgadmdjpohaaaBits
namespace Go.Proofs.Ytabgadmdjpohaaa
set_option linter.unusedSimpArgs false
set_option linter.unusedVariables false
set_option linter.unnecessarySimpa false
open Go.RowKit

/-- The places below i and above n - 1 - i are turned, the others are not yet. -/
def Half (xs L : List Int) (i : Nat) : Prop := L.length = xs.length ∧ ∀ p, p < xs.length → L.getD p 0 = if p < i ∨ xs.length - 1 - p < i then xs.getD (xs.length - 1 - p) 0 else xs.getD p 0

theorem half_zero (xs : List Int) : Half xs xs 0 := ⟨rfl, fun p hp => by simp⟩

theorem half_step {xs L : List Int} {i : Nat} (h : Half xs L i) (hi : i < xs.length - 1 - i) : Half xs (swapAt L i (xs.length - 1 - i)) (i + 1) := by
  obtain ⟨hl, hp⟩ := h
  refine ⟨by rw [swapAt_length, hl], fun p hpl => ?_⟩
  have hset : ∀ (l : List Int) (k : Nat) (x : Int) (q : Nat), k < l.length → (l.set k x).getD q 0 = if q = k then x else l.getD q 0 := by
    intro l k x q hk
    rw [List.getD_eq_getElem?_getD, List.getElem?_set]
    by_cases e : k = q
    · subst e
      simp [hk]
    · rw [if_neg e, if_neg (fun e' => e e'.symm), ← List.getD_eq_getElem?_getD]
  unfold swapAt
  rw [hset _ _ _ _ (by simp; omega), hset _ _ _ _ (by omega), hp (xs.length - 1 - i) (by omega), hp i (by omega), hp p hpl]
  by_cases e1 : p = xs.length - 1 - i
  · subst e1
    rw [if_pos rfl, if_neg (by omega), if_pos (by omega)]
    congr 1
    omega
  · rw [if_neg e1]
    by_cases e2 : p = i
    · subst e2
      rw [if_pos rfl, if_neg (by omega), if_pos (by omega)]
    · rw [if_neg e2]
      by_cases e3 : p < i ∨ xs.length - 1 - p < i
      · rw [if_pos e3, if_pos (by omega)]
      · rw [if_neg e3, if_neg (by omega)]

theorem half_end {xs L : List Int} {i : Nat} (h : Half xs L i) (hi : ¬ i < xs.length - 1 - i) : L = xs.reverse := by
  obtain ⟨hl, hp⟩ := h
  refine ext_getD (by simp [hl]) fun p hpl => ?_
  rw [hp p (by omega)]
  have e : xs.reverse.getD p 0 = xs.getD (xs.length - 1 - p) 0 := by simp [List.getD, show p < xs.length by omega, show xs.length - 1 - p < xs.length by omega]
  rw [e]
  by_cases e3 : p < i ∨ xs.length - 1 - p < i
  · rw [if_pos e3]
  · rw [if_neg e3]
    congr 1
    omega

set_option maxRecDepth 100000 in
set_option maxHeartbeats 1600000 in
theorem reverse_any (g n cap B : Nat) (xs : List Int) (w : World) (ho : Own w B (.slice (some ⟨g, 0, none⟩) n cap) xs) (hn : n = xs.length) (hl : n ≤ 1000000) :
    Calls Try.prog 69 #[.slice (some ⟨g, 0, none⟩) n cap] w fun e w' => e = .returned (.tuple #[]) ∧ Own w' B (.slice (some ⟨g, 0, none⟩) n cap) xs.reverse ∧ w.grownBy w' (some g) ∧ w'.heap.size = w.heap.size := by
  have HN := Lib.hid hn
  clear hn
  have hcap : n ≤ cap := by
    rcases own_view ho with ⟨h, _⟩ | ⟨g', cap', h, _, _, h3, _⟩
    · cases h
    · simp only [Value.slice.injEq] at h
      omega
  go_enter Try.func69, Try.ntmps69
  go_wp2
  go_loopw [2, 3] (fun i j wr => ∃ (k : Nat) (L : List Int), k ≤ n ∧ i = .int .i64 k ∧ j = .int .i64 ((n : Int) - 1 - k) ∧ Half xs L k ∧ Own wr B (.slice (some ⟨g, 0, none⟩) n cap) L ∧ w.grownBy wr (some g) ∧ wr.heap.size = w.heap.size)
    (fun i _ _ => n - (intOf i).toNat)
  case atStart => exact ⟨0, xs, Nat.zero_le _, rfl, by simp, half_zero xs, ho, World.grownBy.refl _ _, rfl⟩
  case round =>
    obtain ⟨k, L, hk, rfl, rfl, hhalf, hown, hgr, hsz⟩ := hrel
    have HSZ := Lib.hid hsz
    have HH := Lib.hid hhalf
    clear hsz hhalf
    by_cases hlt : (k : Int) < (n : Int) - 1 - k
    · obtain ⟨q, hq⟩ : ∃ q : Nat, q = n - 1 - k := ⟨_, rfl⟩
      have hqi : (n : Int) - 1 - k = q := by omega
      rw [hqi] at hlt ⊢
      have HQ := Lib.hid hq
      have HQI := Lib.hid hqi
      have hLn : L.length = n := by rw [HH.out.1, HN.out]
      have hc1 := own_cell hown k (by omega)
      have hc2 := own_cell hown q (by omega)
      have hf1 := own_frozen hown k
      have hf2 := own_frozen hown q
      obtain ⟨x, hx⟩ : ∃ x, x = L.getD k 0 := ⟨_, rfl⟩
      obtain ⟨y, hy⟩ : ∃ y, y = L.getD q 0 := ⟨_, rfl⟩
      rw [← hx] at hc1
      rw [← hy] at hc2
      have HSW := Lib.hid (own_swapped hown hLn.symm k q y x hy hx)
      have hst := half_step HH.out (by rw [← HN.out]; omega)
      rw [← HN.out, ← hq] at hst
      have HST := Lib.hid hst
      have b1 : (0 : Int) ≤ (k : Int) := by omega
      have b2 : (k : Int) < (n : Int) := by omega
      have b3 : (0 : Int) ≤ (q : Int) := by omega
      have b4 : (q : Int) < (n : Int) := by omega
      clear hx hy hq hqi hLn hst
      go_wp2
      go_region
      go_wp2
      go_roundw
      case rel =>
        refine ⟨k + 1, _, by omega, by go_num, by have := HQI.out; congr 1; omega, HST.out, own_drew1 HSW.out.1, grown_drew (grown_trans hgr HSW.out.2), ?_⟩
        have := HSZ.out
        simpa [World.setCell] using this
      case measure => simp [intOf]; omega
    · go_wp2
      go_end0
      have he := half_end HH.out (by rw [← HN.out]; omega)
      rw [he] at hown
      exact ⟨rfl, hown, hgr, HSZ.out⟩

/-- The things below k in the block b, as a set. -/
def maskAt (xs : List Int) (b : Nat) : Nat → Nat
  | 0 => 0
  | k + 1 => if xs.getD k 0 = b then maskAt xs b k ||| 2 ^ k else maskAt xs b k

def cntAt (xs : List Int) (b : Nat) : Nat → Nat
  | 0 => 0
  | k + 1 => if xs.getD k 0 = b then cntAt xs b k + 1 else cntAt xs b k

theorem maskAt_lt (xs : List Int) (b k : Nat) : maskAt xs b k < 2 ^ k := by
  induction k with
  | zero => simp [maskAt]
  | succ k ih =>
    have h1 : 2 ^ k < 2 ^ (k + 1) := Nat.pow_lt_pow_right (by omega) (by omega)
    unfold maskAt
    split
    · exact Nat.or_lt_two_pow (by omega) h1
    · omega

theorem pow_le_256 : ∀ k, k < 9 → 2 ^ k ≤ 256 := by decide

theorem maskAt_256 (xs : List Int) (b k : Nat) (h : k ≤ 8) : maskAt xs b k < 256 := by
  have := maskAt_lt xs b k
  have := pow_le_256 k (by omega)
  omega

theorem cnt_mask (xs : List Int) (b k : Nat) (h : k ≤ 8) : cnt (maskAt xs b k) = cntAt xs b k := by
  induction k with
  | zero => show cnt 0 = 0; decide
  | succ k ih =>
    have := ih (by omega)
    unfold maskAt cntAt
    split
    · rw [cnt_or _ (maskAt_256 xs b k (by omega)) k (by omega), Nat.testBit_lt_two_pow (maskAt_lt xs b k), this]
      rfl
    · exact this

def masks (xs : List Int) (k p : Nat) : List Nat := (List.range p).map fun b => maskAt xs b k

theorem masks_step (xs : List Int) (k p x : Nat) (hx : xs.getD k 0 = x) (hp : x < p) : (masks xs k p).set x (maskAt xs x k ||| 2 ^ k) = masks xs (k + 1) p := by
  apply List.ext_getElem
  · simp [masks]
  · intro j h1 h2
    simp [masks] at h1 h2
    rw [List.getElem_set]
    by_cases e : x = j
    · subst e
      rw [if_pos rfl]
      simp [masks, maskAt, ← hx]
    · rw [if_neg e]
      have : ¬ xs.getD k 0 = (j : Int) := by omega
      simp only [masks, List.getElem_map, List.getElem_range, maskAt, if_neg this]

theorem masks_zero (xs : List Int) (p : Nat) : masks xs 0 p = List.replicate p 0 := by
  unfold masks
  apply List.ext_getElem <;> simp [maskAt]

def OwnU (w : World) (B : Nat) (v : Value) (ms : List Nat) : Prop := w.ownsRow B 55 1 v ms.length (ms.map fun (m : Nat) => Value.int .u64 (m : Int))

theorem Try.infoBlock : (Try.prog.info? 55).map (fun i => (i.zero, i.size, i.bytes)) = some (some (.int .u64 0), 1, 8) := by kernel_rfl

theorem ownU_cell {w : World} {B g n cap : Nat} {ms : List Nat} (h : OwnU w B (.slice (some ⟨g, 0, none⟩) n cap) ms) (hn : n = ms.length) (j : Nat) (hj : j < ms.length) : w.cell? ⟨g, j, none⟩ = some (.int .u64 (ms.getD j 0 : Nat)) := by
  subst hn
  rw [World.ownsRow.cellAt h j (by omega)]
  simp [List.getD, hj]

theorem ownU_frozen {w : World} {B g n cap : Nat} {ms : List Nat} (h : OwnU w B (.slice (some ⟨g, 0, none⟩) n cap) ms) (hn : n = ms.length) (j : Nat) : w.frozen? ⟨g, j, none⟩ = false := by
  subst hn
  exact World.ownsRow.frozenAt h j

theorem ownU_stored {w : World} {B g n cap : Nat} {ms : List Nat} (h : OwnU w B (.slice (some ⟨g, 0, none⟩) n cap) ms) (hn : n = ms.length) (j m : Nat) :
    OwnU (w.setCell ⟨g, j, none⟩ (.int .u64 (m : Int))) B (.slice (some ⟨g, 0, none⟩) n cap) (ms.set j m) := by
  subst hn
  have := World.ownsRow.stored h j (.int .u64 (m : Int))
  unfold OwnU
  rw [List.length_set, List.map_set]
  exact this.1

theorem ownU_below {w w' : World} {B : Nat} {v : Value} {ms : List Nat} (h : OwnU w B v ms) (hb : Below w.heap.size w w') : OwnU w' B v ms :=
  World.ownsRow.kept h (grown_of_below hb) (by cases hv : v.ownBlock <;> simp)

theorem ownU_made {w1 : World} {B g n c : Nat} (h : w1.ownsRow B 55 1 (.slice (some ⟨g, 0, none⟩) n c) n (madeCells #[Value.int .u64 0] n).toList) : OwnU w1 B (.slice (some ⟨g, 0, none⟩) n c) (List.replicate n 0) := by
  unfold OwnU
  rw [toList_madeCells_one] at h
  simpa using h

theorem sizeFrom_ge : ∀ (xs : List Int) (n : Int), n ≤ sizeFrom n xs ∧ ∀ j, j < xs.length → xs.getD j 0 < sizeFrom n xs := by
  intro xs
  induction xs with
  | nil => intro n; exact ⟨Int.le_refl _, fun j hj => by simp at hj⟩
  | cons x xs ih =>
    intro n
    have ⟨h1, h2⟩ := ih (max n (x + 1))
    simp only [sizeFrom]
    refine ⟨by omega, fun j hj => ?_⟩
    cases j with
    | zero => simp; omega
    | succ j => have := h2 j (by simpa using hj); simpa using this

theorem lt_pSize (xs : List Int) (j : Nat) (hj : j < xs.length) : xs.getD j 0 < pSize xs := (sizeFrom_ge xs 0).2 j hj

set_option maxHeartbeats 1600000 in
theorem blocksOf_v (v : Value) (xs : List Int) (p : Nat) (w : World) (hv : RdV w v xs) (hp : partIn xs = true) (hps : pSize xs = p) :
    Calls Try.prog 67 #[v] w fun e w' => e = .returned (.slice (some ⟨w.heap.size, 0, none⟩) p p) ∧ OwnU w' w.heap.size (.slice (some ⟨w.heap.size, 0, none⟩) p p) (masks xs xs.length p) ∧ Below w.heap.size w w' := by
  have hv0 := hv
  obtain ⟨ao, ca, rfl, h, h1, h2⟩ := hv
  have HV := Lib.hid hv0
  have hl := partIn_len hp
  have hsm := partIn_small hp
  have hbd := pSize_bd hsm
  rw [hps] at hbd
  have HPS := Lib.hid hps
  have HSM := Lib.hid hsm
  obtain ⟨n, hn⟩ : ∃ n, n = xs.length := ⟨_, rfl⟩
  have HX := Lib.hid h
  rw [← hn] at hl HV ⊢
  have HN := Lib.hid hn
  clear hv0 h hp hps hsm hn
  obtain ⟨hl1, hl8⟩ := hl
  obtain ⟨i0, hi, hz0, hz1, hz2⟩ := info_parts Try.infoBlock
  go_enter Try.func67, Try.ntmps67
  go_wp2_with fail
  refine (blockCount_v _ xs _ HV.out (by rw [← HN.out]; exact hl1) HSM.out).mono ?_
  rintro e w' ⟨rfl, rfl⟩
  rw [HPS.out]
  go_wp2_with (at_make; refine wpList_make_full _ rfl _ _ 61 rfl w.heap.size 55 i0 (.int .u64 0) 1 Try.underlying61 hi hz0 hz1 _ _ _ _ p rfl rfl rfl rfl (by rw [hz2]; omega) (by unfold maxLen; omega) (Nat.le_refl _) ?_)
  intro w1 hown1 hgrow1
  have hb1 : Below w.heap.size w w1 := (Below.refl _ _).grown hgrow1 (Nat.le_refl _) (fun k h => by cases h)
  have hown := ownU_made hown1
  clear hown1 hgrow1
  go_wp2
  go_loopw [11] (fun i wr => ∃ k : Nat, k ≤ n ∧ i = .int .i64 k ∧ OwnU wr w.heap.size (.slice (some ⟨w.heap.size, 0, none⟩) p p) (masks xs k p) ∧ Below w.heap.size w wr) (fun i _ => n - (intOf i).toNat)
  case atStart => exact ⟨0, Nat.zero_le _, rfl, by rw [masks_zero]; exact hown, hb1⟩
  case round =>
    obtain ⟨k, hk, rfl, hown, hbel⟩ := hrel
    by_cases hlt : k < n
    · rcases HX.out with hx | ⟨bb, off, rfl, hcx⟩
      · have := HN.out
        rw [hx] at this
        simp at this
        omega
      · have hck : wr.cell? ⟨bb, off + k, none⟩ = some (.int .i64 (xs.getD k 0)) := by
          have := hcx k (by have := HN.out; omega)
          rw [hbel.cell (World.block_lt_of_cell? w _ this)]
          exact this
        clear hcx
        have hx0 := (HSM.out k (by have := HN.out; omega)).1
        have hxp := lt_pSize xs k (by have := HN.out; omega)
        rw [HPS.out] at hxp
        obtain ⟨x, hx⟩ := Int.eq_ofNat_of_zero_le hx0
        rw [hx] at hck hxp
        have hxp' : x < p := by omega
        have hml : (masks xs k p).length = p := by simp [masks]
        have hcm := ownU_cell hown hml.symm x (by omega)
        have hgm : (masks xs k p).getD x 0 = maskAt xs x k := by simp [masks, List.getD, hxp']
        rw [hgm] at hcm
        have hfz := ownU_frozen hown hml.symm x
        have hst := ownU_stored hown hml.symm x (maskAt xs x k ||| 2 ^ k)
        rw [masks_step xs k p x hx hxp'] at hst
        have hm256 := maskAt_256 xs x k (by omega)
        obtain ⟨m, hm⟩ : ∃ m, m = maskAt xs x k := ⟨_, rfl⟩
        rw [← hm] at hcm hst hm256
        have HST := Lib.hid hst
        clear hst hown hml hgm hm hx hx0
        go_wp2_with fail
        refine (with_any m k _ hm256 (by omega)).mono ?_
        rintro e w' ⟨rfl, rfl⟩
        go_wp2
        go_roundw
        case rel => exact ⟨k + 1, by omega, by go_num, HST.out, hbel.setCell (Nat.le_refl _) _⟩
        case measure => simp [intOf]; omega
    · have hkn : k = n := by omega
      subst hkn
      go_wp2
      go_ret
      exact ⟨rfl, hown, hbel⟩

/-- The sizes of the blocks, in order. -/
def sizes (xs : List Int) : List Int := (List.range (pSize xs).toNat).map fun (b : Nat) => (cntAt xs b xs.length : Int)

/-- No number is greater than the one ahead of it. -/
def desc (l : List Int) : List Int := (isort l l.length).reverse

def partType (xs : List Int) : List Int × Bool := if partIn xs then (desc (sizes xs), true) else ([], false)

theorem sizes_length (xs : List Int) : (sizes xs).length = (pSize xs).toNat := by simp [sizes]
theorem desc_length (l : List Int) : (desc l).length = l.length := by simp [desc, isort_length]

theorem partType_len (xs : List Int) (h : xs.length ≤ 1048576) : (partType xs).1.length ≤ 2305843009213693952 := by
  unfold partType
  split
  · have := pSize_bd (partIn_small (by assumption))
    rw [desc_length, sizes_length]
    omega
  · simp

theorem sizes_take (xs : List Int) (p k : Nat) (hp : pSize xs = p) (hk : k < p) : (sizes xs).take (k + 1) = (sizes xs).take k ++ [(cntAt xs k xs.length : Int)] := by
  have hl : (sizes xs).length = p := by rw [sizes_length]; omega
  rw [take_snoc _ _ (by omega)]
  congr 1
  simp [sizes, List.getD, show k < (pSize xs).toNat by omega]

set_option maxHeartbeats 1600000 in
theorem iPartType_v (v : Value) (xs : List Int) (w : World) (hv : RdV w v xs) : Calls Try.prog 23 #[v] w (FreshLB w (partType xs)) := by
  have HV := Lib.hid hv
  by_cases hp : partIn xs = true
  · have hr : partType xs = (desc (sizes xs), true) := by simp [partType, hp]
    rw [hr]
    have hl := partIn_len hp
    have hsm := partIn_small hp
    have hbd := pSize_bd hsm
    obtain ⟨p, hps⟩ := Int.eq_ofNat_of_zero_le hbd.1
    rw [hps] at hbd
    have HPS := Lib.hid hps
    have HSM := Lib.hid hsm
    have HP := Lib.hid hp
    have hsl : (sizes xs).length = p := by rw [sizes_length]; omega
    have HSL := Lib.hid hsl
    clear hr hp hps hsm hsl
    obtain ⟨i0, hi, hz0, hz1, hz2⟩ := info_parts Try.infoInt
    obtain ⟨hl1, hl8⟩ := hl
    go_enter Try.func23, Try.ntmps23
    go_wp2_with fail
    refine (iPartIn_is true _ _ _ HV.out HP).mono ?_
    rintro e w' ⟨rfl, rfl⟩
    go_wp2_with fail
    refine (blockCount_v _ xs _ HV.out hl1 HSM.out).mono ?_
    rintro e w' ⟨rfl, rfl⟩
    rw [HPS.out]
    go_wp2_with (at_make; refine wpList_make_own _ rfl _ _ 26 rfl w.heap.size 3 i0 (.int .i64 0) 1 Try.underlying26 hi hz0 hz1 _ _ _ p rfl rfl rfl (by rw [hz2]; omega) (by unfold maxLen; omega) (Nat.le_refl _) ?_)
    intro w1 hown1 hgrow1
    have hb1 : Below w.heap.size w w1 := (Below.refl _ _).grown hgrow1 (Nat.le_refl _) (fun k h => by cases h)
    have HO1 : Hid (Own w1 w.heap.size (.slice (some ⟨w.heap.size, 0, none⟩) 0 p) []) := hown1
    clear hown1 hgrow1
    go_wp2_with fail
    refine (blocksOf_v _ xs p _ (rdv_below HV.out hb1) HP.out HPS.out).mono ?_
    rintro e w2 ⟨rfl, hu2, hb2⟩
    have hbel2 := below_step hb1 hb2
    have HO2 := Lib.hid (own_below HO1.out hb2)
    have HU := Lib.hid hu2
    have hs12 : w.heap.size < w1.heap.size := (own_lt HO1.out _ rfl).2
    have hs2 : w1.heap.size < w2.heap.size := (World.ownsRow.lt HU.out _ rfl).2
    clear hu2
    go_wp2
    go_loopw [4, 16] (fun u i wr => ∃ k g cap : Nat, k ≤ p ∧ i = .int .i64 k ∧ u = .slice (some ⟨g, 0, none⟩) k cap ∧ Own wr w.heap.size (.slice (some ⟨g, 0, none⟩) k cap) ((sizes xs).take k) ∧ OwnU wr w1.heap.size (.slice (some ⟨w1.heap.size, 0, none⟩) p p) (masks xs xs.length p) ∧ (g = w.heap.size ∨ w1.heap.size < g) ∧ Below w.heap.size w wr ∧ w1.heap.size < wr.heap.size)
      (fun _ i _ => p - (intOf i).toNat)
    case atStart => exact ⟨0, w.heap.size, p, Nat.zero_le _, rfl, rfl, by simpa using HO2.out, HU.out, .inl rfl, hbel2, hs2⟩
    case round =>
      obtain ⟨k, g, cap, hk, rfl, rfl, hown, hu, hg, hbel, hsz⟩ := hrel
      by_cases hlt : k < p
      · have hml : (masks xs xs.length p).length = p := by simp [masks]
        have hcm := ownU_cell hu hml.symm k (by omega)
        have hgm : (masks xs xs.length p).getD k 0 = maskAt xs k xs.length := by simp [masks, List.getD, hlt]
        rw [hgm] at hcm
        have hm256 := maskAt_256 xs k xs.length (by omega)
        have hcnt := cnt_mask xs k xs.length (by omega)
        have hts := sizes_take xs p k HPS.out hlt
        rw [← hcnt] at hts
        obtain ⟨m, hm⟩ : ∃ m, m = maskAt xs k xs.length := ⟨_, rfl⟩
        rw [← hm] at hcm hm256 hts
        have HTS := Lib.hid hts
        have HO := Lib.hid hown
        have HUr := Lib.hid hu
        have hB := hbel.size
        clear hml hgm hcnt hts hm hown hu
        go_wp2_with fail
        refine (size_any m _ hm256).mono ?_
        rintro e w' ⟨rfl, rfl⟩
        obtain ⟨c, hc⟩ : ∃ c : Int, c = (cnt m : Int) := ⟨_, rfl⟩
        rw [← hc]
        have HC := Lib.hid hc
        clear hc
        go_wp2_with (at_builtin; refine wpList_push rfl _ _ rfl w.heap.size g k cap ((sizes xs).take k) rfl (own_alloc HO.out _) (by have := HSL.out; simp; omega) ⟨wr.heap.size, 0, none⟩ rfl c (cell_new1 _ _ _) (by omega) (by simp; omega) ?_)
        intro g' cap' w3 hown3 hgr3 hg3
        have hbel3 : Below w.heap.size w w3 := (hbel.alloc hB _).grown hgr3 (by simp; omega) (fun q hq => by cases hq; exact (own_lt HO.out g rfl).1)
        have hu3 : OwnU w3 w1.heap.size (.slice (some ⟨w1.heap.size, 0, none⟩) p p) (masks xs xs.length p) :=
          World.ownsRow.kept (World.ownsRow.alloc HUr.out _) hgr3 (.inr (by simp [Value.ownBlock]; omega))
        have hg' : g' = w.heap.size ∨ w1.heap.size < g' := by
          omega
        have hsz3 : w1.heap.size < w3.heap.size := by have := hgr3.size; simp at this; omega
        have HO3 := Lib.hid hown3
        have HU3 := Lib.hid hu3
        clear hown3 hgr3 hg3 hu3
        go_wp2
        go_roundw
        case rel => exact ⟨k + 1, g', cap', by omega, by go_num, rfl, by rw [HTS.out, ← HC.out]; exact HO3.out, HU3.out, hg', hbel3, hsz3⟩
        case measure => simp [intOf]; omega
      · have hkp : k = p := by omega
        subst hkp
        rw [List.take_of_length_le (by rw [HSL.out]; omega)] at hown
        have HO := Lib.hid hown
        have hgl := own_lt hown g rfl
        clear hown
        go_wp2_with fail
        refine (sort_any g k cap w.heap.size (sizes xs) _ HO.out HSL.out.symm (by omega)).mono ?_
        rintro e w3 ⟨rfl, ho3, hg3, hs3⟩
        have hbel3 : Below w.heap.size w w3 := hbel.grown hg3 hbel.size (fun q hq => by cases hq; exact hgl.1)
        have HO3 := Lib.hid ho3
        clear ho3 hg3 hs3
        go_wp2_with fail
        refine (reverse_any g k cap w.heap.size _ _ HO3.out (by rw [isort_length, HSL.out]) (by omega)).mono ?_
        rintro e w4 ⟨rfl, ho4, hg4, hs4⟩
        have hbel4 : Below w.heap.size w w4 := hbel3.grown hg4 hbel3.size (fun q hq => by cases hq; exact hgl.1)
        have HO4 := Lib.hid ho4
        clear ho4 hg4 hs4
        go_wp2
        go_ret2
        refine ⟨_, rfl, ?_, hbel4⟩
        have := HO4.out
        unfold desc
        rw [HSL.out]
        exact this
  · have hp : partIn xs = false := by simpa using hp
    have hr : partType xs = ([], false) := by simp [partType, hp]
    rw [hr]
    have HP := Lib.hid hp
    clear hp hr
    go_enter Try.func23, Try.ntmps23
    go_wp2_with fail
    refine (iPartIn_is false _ _ _ HV.out HP).mono ?_
    rintro e w' ⟨rfl, rfl⟩
    go_wp2
    go_ret2
    exact ⟨_, rfl, own_nil _ _, Below.refl _ _⟩

end Go.Proofs.Ytabgadmdjpohaaa
