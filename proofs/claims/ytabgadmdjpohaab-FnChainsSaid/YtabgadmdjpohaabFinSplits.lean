/-
  The contracts of FinerSplits (impl and spec).
-/
import Derived.Test.YtabgadmdjpohaabSortMath
import Derived.Test.YtabgadmdjpohaabTurnMath
import Derived.Test.YtabgadmdjpohaabCells
import Derived.Test.YtabgadmdjpohaabFinSign
import Derived.Laws.EntriesVeiled
namespace Go.Proofs.Ytabgadmdjpohaab
set_option linter.unusedSimpArgs false
set_option linter.unusedVariables false
set_option linter.unnecessarySimpa false
open Go.RowKit
set_option maxRecDepth 100000

/-- The splits of a block of n things. -/
def spl : Nat → Int
  | 0 => 0
  | n + 1 => if n = 0 then 0 else 2 * spl n + 1

theorem spl_bd : ∀ n, n < 9 → 0 ≤ spl n ∧ spl n ≤ 127 := by decide +kernel

theorem splits_any (b : Nat) : ∀ (k c : Nat) (w : World), c ≤ k → 1 ≤ c → c ≤ 8 → w.cell? ⟨b, 0, none⟩ = some (.func (.func 37) #[] #[.pointer (some ⟨b, 0, none⟩)]) →
    Calls Try.prog 37 #[.int .i64 c, .pointer (some ⟨b, 0, none⟩)] w fun e w' => e = .returned (.int .i64 (spl c)) ∧ w = w' := by
  intro k
  induction k with
  | zero => intro c w h1 h2; omega
  | succ k ih =>
    intro c w hck hc1 hc8 hcell
    by_cases h1 : c = 1
    · subst h1
      go_enter Try.func37, Try.ntmps37
      go_wp2_with fail
      go_ret
      exact ⟨rfl, rfl⟩
    · obtain ⟨m, hm⟩ : ∃ m, m = c - 1 := ⟨_, rfl⟩
      have hmi : (c : Int) - 1 = (m : Int) := by omega
      have hst : spl c = 2 * spl m + 1 := by
        obtain ⟨d, rfl⟩ : ∃ d, c = d + 1 := ⟨c - 1, by omega⟩
        rw [hm, Nat.add_sub_cancel, spl, if_neg (by omega)]
      have hb := spl_bd m (by omega)
      have hne : ((c : Int) == 1) = false := by simp; omega
      have HST := Lib.hid hst
      have HIH := Lib.hid (ih m w (by omega) (by omega) (by omega) hcell)
      have HMI := Lib.hid hmi
      obtain ⟨x, hx⟩ : ∃ x, x = spl m := ⟨_, rfl⟩
      rw [← hx] at HIH HST hb
      clear ih hm hst hx hmi h1
      go_enter Try.func37, Try.ntmps37
      go_wp2_with fail
      rw [HMI.out]
      refine (HIH.out).mono ?_
      rintro e w' ⟨rfl, rfl⟩
      go_wp2_with fail
      go_ret
      exact ⟨ret_int HST.out.symm, rfl⟩

def sumOf (f : Nat → Int) (l : List Int) : Int := l.foldl (fun w c => w + f c.toNat) 0
def finerSplits (xs : List Int) : Int × Bool := if partIn xs then (sumOf spl (sizes xs), true) else (0, false)

theorem sumOf_snoc (f : Nat → Int) (l : List Int) (c : Int) : sumOf f (l ++ [c]) = sumOf f l + f c.toNat := by simp [sumOf, List.foldl_append]
theorem sumOf_bd : ∀ l : List Int, (∀ c ∈ l, 0 ≤ c ∧ c ≤ 8) → 0 ≤ sumOf spl l ∧ sumOf spl l ≤ 127 * l.length := by
  refine snoc_induction (fun _ => by simp [sumOf]) fun l c ih h => ?_
  have h1 := ih fun d hd => h d (by simp [hd])
  have h2 := h c (by simp)
  have h3 := spl_bd c.toNat (by omega)
  rw [sumOf_snoc, List.length_append]
  simp
  omega

theorem cntAt_pos (xs : List Int) (b : Nat) : ∀ k i, i < k → xs.getD i 0 = (b : Int) → 1 ≤ cntAt xs b k := by
  intro k
  induction k with
  | zero => intro i hi; omega
  | succ k ih =>
    intro i hi e
    unfold cntAt
    by_cases h : i = k
    · subst h
      rw [if_pos e]
      omega
    · have := ih i (by omega) e
      split <;> omega

theorem sizes_bd {xs : List Int} (h : partIn xs = true) : ∀ c ∈ sizes xs, 1 ≤ c ∧ c ≤ 8 := by
  intro c hc
  obtain ⟨b, hb, rfl⟩ := List.mem_map.1 hc
  have hb2 : b < (pSize xs).toNat := by simpa using hb
  have hm : (b : Int) ∈ xs := (mem_part h _).2 (by omega)
  obtain ⟨i, hi, e⟩ := mem_iff_getD.1 hm
  have h1 := cntAt_pos xs b xs.length i hi e
  have h2 := cntAt_le xs b xs.length
  have h3 := (partIn_len h).2
  omega

set_option maxHeartbeats 1600000 in
theorem iFinerSplits_v (v : Value) (xs : List Int) (w : World) (hv : RdV w v xs) : Calls Try.prog 18 #[v] w (GivesIB w (finerSplits xs)) := by
  have HV := Lib.hid hv
  clear hv
  by_cases hp : partIn xs = true
  · have hr : finerSplits xs = (sumOf spl (sizes xs), true) := by simp [finerSplits, hp]
    rw [hr]
    have HP := Lib.hid hp
    have HSM := Lib.hid (partIn_small hp)
    have hbd := pSize_bd HSM.out
    obtain ⟨p, hps⟩ := Int.eq_ofNat_of_zero_le hbd.1
    rw [hps] at hbd
    have HPS := Lib.hid hps
    have hl8 := (partIn_len hp).2
    clear hp hr hps
    have hmf : ∀ (fn : Fn) (first cap : Array Value) (w : World), (Instr.makeFunc fn first cap).run Try.prog w = .ok (.func fn first cap) w := fun _ _ _ _ => rfl
    go_enter Try.func18, Try.ntmps18
    go_wp2_with fail
    refine (iPartIn_is true _ _ _ HV.out HP).mono ?_
    rintro e w' ⟨rfl, rfl⟩
    go_wp2_with fail
    obtain ⟨w0, hw0⟩ : ∃ w0, w0 = w.alloc (.cells #[.func (.func 37) #[] #[.pointer (some ⟨w.heap.size, 0, none⟩)]] 38) := ⟨_, rfl⟩
    have hb0 : Below w.heap.size w w0 := by rw [hw0]; exact (Below.refl _ _).alloc (Nat.le_refl _) _
    have hs0 : w0.heap.size = w.heap.size + 1 := by rw [hw0]; simp
    have hc0 : w0.cell? ⟨w.heap.size, 0, none⟩ = some (.func (.func 37) #[] #[.pointer (some ⟨w.heap.size, 0, none⟩)]) := by rw [hw0]; simp
    rw [← hw0]
    clear hw0
    have HS0 := Lib.hid hs0
    have HC0 := Lib.hid hc0
    clear hs0 hc0
    refine (blocksOf_v _ xs p _ (rdv_below HV.out hb0) HP.out HPS.out).mono ?_
    rintro e w1 ⟨rfl, hu1, hb1⟩
    have hbel := below_step hb0 hb1
    have HC1 := Lib.hid ((hb1.cell (p := ⟨w.heap.size, 0, none⟩) (by rw [HS0.out]; exact Nat.lt_succ_self _)).trans HC0.out)
    have HU := Lib.hid hu1
    clear hb0 hb1 hu1 HC0
    have HSL := Lib.hid (show (sizes xs).length = p by rw [sizes_length]; have := HPS.out; omega)
    have HSB := Lib.hid (sizes_bd HP.out)
    go_wp2
    go_loopw [5, 15] (fun u i wr => ∃ k : Nat, k ≤ p ∧ i = .int .i64 k ∧ u = .int .i64 (sumOf spl ((sizes xs).take k)) ∧ Quiet w1 wr) (fun _ i _ => p - (intOf i).toNat)
    case atStart => exact ⟨0, Nat.zero_le _, rfl, rfl, Quiet.refl _⟩
    case round =>
      obtain ⟨k, hk, rfl, rfl, hq⟩ := hrel
      have hbs := sumOf_bd ((sizes xs).take k) fun c hc => by have := HSB.out c (List.mem_of_mem_take hc); omega
      have hlk : ((sizes xs).take k).length ≤ 8 := by rw [List.length_take]; have := HSL.out; omega
      by_cases hlt : k < p
      · have hml : (masks xs xs.length p).length = p := by simp [masks]
        have hcm := ownU_cell (ownU_below HU.out hq.below) hml.symm k (by omega)
        have hgm : (masks xs xs.length p).getD k 0 = maskAt xs k xs.length := by simp [masks, List.getD, hlt]
        rw [hgm] at hcm
        have hm256 := maskAt_256 xs k xs.length (by omega)
        have hcnt := cnt_mask xs k xs.length (by omega)
        have hts := sizes_take xs p k HPS.out hlt
        rw [← hcnt] at hts
        have hsz := HSB.out (cnt (maskAt xs k xs.length) : Int) (by
          have h2 : (cnt (maskAt xs k xs.length) : Int) ∈ (sizes xs).take (k + 1) := by rw [hts]; simp
          exact List.mem_of_mem_take h2)
        obtain ⟨m, hm⟩ : ∃ m, m = maskAt xs k xs.length := ⟨_, rfl⟩
        rw [← hm] at hcm hm256 hts hsz
        have hfin : sumOf spl ((sizes xs).take (k + 1)) = sumOf spl ((sizes xs).take k) + spl (cnt m) := by rw [hts, sumOf_snoc, Int.toNat_natCast]
        obtain ⟨c, hc⟩ : ∃ c, c = cnt m := ⟨_, rfl⟩
        obtain ⟨x, hx⟩ : ∃ x, x = sumOf spl ((sizes xs).take k) := ⟨_, rfl⟩
        rw [← hc] at hfin hsz
        rw [← hx] at hfin hbs ⊢
        have hspb := spl_bd c (by omega)
        have hcf : wr.cell? ⟨w.heap.size, 0, none⟩ = some (.func (.func 37) #[] #[.pointer (some ⟨w.heap.size, 0, none⟩)]) := by
          obtain ⟨m0, rfl⟩ := hq
          exact HC1.out
        have hsp : ∀ q, Calls Try.prog 37 #[.int .i64 c, .pointer (some ⟨w.heap.size, 0, none⟩)] (wr.drewN q) fun e w' => e = .returned (.int .i64 (spl c)) ∧ w' = wr.drewN q := fun q =>
          (splits_any w.heap.size c c (wr.drewN q) (Nat.le_refl _) (by omega) (by omega) hcf).mono fun _ _ ⟨a, b⟩ => ⟨a, b.symm⟩
        have hsi : ∀ q, Calls Try.prog 39 #[.int .u64 m] (wr.drewN q) fun e w' => e = .returned (.int .i64 c) ∧ w' = wr.drewN q := fun q => by
          rw [hc]
          exact (size_any m (wr.drewN q) hm256).mono fun _ _ ⟨a, b⟩ => ⟨a, b.symm⟩
        obtain ⟨y, hy⟩ : ∃ y, y = spl c := ⟨_, rfl⟩
        rw [← hy] at hfin hspb hsp
        have HFIN := Lib.hid hfin
        have HSP := Lib.hid hsp
        have HSI := Lib.hid hsi
        have b1 : (k : Int) < p := by omega
        have b2 : IntKind.i64.wrap (x + y) = x + y := IntWalk.i64_in _ (by omega)
        clear hml hgm hcnt hts hm hfin hsp hsi hc hx hy
        go_wp2
        go_quiet (first | (go_at_call 39; exact Calls.quiet_of_same (HSI.out _)) | (go_at_call 37; exact Calls.quiet_of_same (HSP.out _)))
        go_wp2
        go_roundw
        case rel => exact ⟨k + 1, by omega, by go_num, by rw [HFIN.out], hq.drewN _⟩
        case measure => simp [intOf]; omega
      · have hkp : k = p := by omega
        subst hkp
        have he : sumOf spl ((sizes xs).take k) = sumOf spl (sizes xs) := by rw [List.take_of_length_le (by rw [HSL.out]; omega)]
        rw [he]
        clear he hbs
        go_wp2
        go_ret2
        exact ⟨rfl, below_step hbel hq.below⟩
  · have hp : partIn xs = false := by simpa using hp
    have hr : finerSplits xs = (0, false) := by simp [finerSplits, hp]
    rw [hr]
    have HP := Lib.hid hp
    clear hp hr
    go_enter Try.func18, Try.ntmps18
    go_wp2_with fail
    refine (iPartIn_is false _ _ _ HV.out HP).mono ?_
    rintro e w' ⟨rfl, rfl⟩
    go_wp2
    go_ret2
    exact ⟨rfl, Below.refl _ _⟩

theorem sumOf_cons (f : Nat → Int) (c : Int) (l : List Int) : sumOf f (c :: l) = f c.toNat + sumOf f l := by
  revert l
  refine snoc_induction (by simp [sumOf]) fun l d ih => ?_
  have e : c :: (l ++ [d]) = (c :: l) ++ [d] := rfl
  rw [e, sumOf_snoc, ih, sumOf_snoc]
  omega

theorem sumOf_perm (f : Nat → Int) {l m : List Int} (h : l.Perm m) : sumOf f l = sumOf f m := by
  induction h with
  | nil => rfl
  | cons x _ ih => rw [sumOf_cons, sumOf_cons, ih]
  | swap x y l => rw [sumOf_cons, sumOf_cons, sumOf_cons, sumOf_cons]; omega
  | trans _ _ h1 h2 => exact h1.trans h2

set_option maxHeartbeats 1600000 in
theorem sFinerSplits_v (v : Value) (xs : List Int) (w : World) (hv : RdV w v xs) : Calls Try.prog 19 #[v] w (GivesIB w (finerSplits xs)) := by
  have HV := Lib.hid hv
  clear hv
  by_cases hp : partIn xs = true
  · have hr : finerSplits xs = (sumOf spl (desc (sizes xs)), true) := by simp [finerSplits, hp, sumOf_perm spl (desc_perm (sizes xs))]
    rw [hr]
    have HP := Lib.hid hp
    have hbd := pSize_bd (partIn_small hp)
    have hpos := pSize_pos (partIn_small hp) (partIn_len hp).1
    obtain ⟨p, hps⟩ := Int.eq_ofNat_of_zero_le hbd.1
    rw [hps] at hbd hpos
    have hdl : (desc (sizes xs)).length = p := by rw [desc_length, sizes_length]; omega
    have hdb : ∀ c ∈ desc (sizes xs), 1 ≤ c ∧ c ≤ 8 := fun c hc => sizes_bd hp c ((desc_perm (sizes xs)).mem_iff.1 hc)
    obtain ⟨L, hL⟩ : ∃ L, L = desc (sizes xs) := ⟨_, rfl⟩
    rw [← hL] at hdl hdb ⊢
    have HL := Lib.hid hL
    have HDL := Lib.hid hdl
    have HDB := Lib.hid hdb
    clear hp hr hps hdl hdb hL
    go_enter Try.func19, Try.ntmps19
    go_wp2_with fail
    refine (sPartIn_is true _ _ _ HV.out HP).mono ?_
    rintro e w' ⟨rfl, rfl⟩
    go_wp2_with fail
    refine (l1Type_v _ xs _ HV.out HP.out).mono ?_
    rintro e w1 ⟨u, rfl, ho, hb⟩
    rw [← HL.out] at ho
    obtain ⟨g, cap, rfl, hg⟩ := own_slice ho (by rw [HDL.out]; omega)
    have HO := Lib.hid ho
    rw [HDL.out] at HO ⊢
    clear ho hg
    go_wp2
    go_loop [4, 6] (fun u i => ∃ k : Nat, k ≤ p ∧ i = .int .i64 k ∧ u = .int .i64 (sumOf spl (L.take k))) (fun _ i => p - (intOf i).toNat)
    case atStart => exact ⟨0, Nat.zero_le _, rfl, rfl⟩
    case round =>
      obtain ⟨k, hk, rfl, rfl⟩ := hrel
      have hbs := sumOf_bd (L.take k) fun c hc => by have := HDB.out c (List.mem_of_mem_take hc); omega
      have hlk : (L.take k).length ≤ 8 := by rw [List.length_take]; have := HDL.out; omega
      by_cases hlt : k < p
      · have hck := own_cell HO.out k (by rw [HDL.out]; exact hlt)
        have hcb := HDB.out (L.getD k 0) (mem_of_getD (by rw [HDL.out]; exact hlt) rfl)
        have hfin : sumOf spl (L.take (k + 1)) = sumOf spl (L.take k) + spl (L.getD k 0).toNat := by rw [take_snoc L k (by rw [HDL.out]; exact hlt), sumOf_snoc]
        obtain ⟨c, hc⟩ : ∃ c, c = L.getD k 0 := ⟨_, rfl⟩
        obtain ⟨x, hx⟩ : ∃ x, x = sumOf spl (L.take k) := ⟨_, rfl⟩
        rw [← hc] at hfin hck hcb
        rw [← hx] at hfin hbs ⊢
        have HFIN := Lib.hid hfin
        have hcs : c = 1 ∨ c = 2 ∨ c = 3 ∨ c = 4 ∨ c = 5 ∨ c = 6 ∨ c = 7 ∨ c = 8 := by omega
        clear hc hx hfin hcb
        rcases hcs with rfl | rfl | rfl | rfl | rfl | rfl | rfl | rfl
        all_goals
          go_wp2
          go_round
          case rel => exact ⟨k + 1, by omega, by go_num, by rw [HFIN.out]; congr 1; simp [spl] <;> omega⟩
          case measure => simp [intOf]; omega
      · have hkp : k = p := by omega
        subst hkp
        have he : sumOf spl (L.take k) = sumOf spl L := by rw [List.take_of_length_le (by rw [HDL.out]; omega)]
        rw [he]
        clear he hbs
        go_wp2
        go_ret2
        exact ⟨rfl, hb⟩
  · have hp : partIn xs = false := by simpa using hp
    have hr : finerSplits xs = (0, false) := by simp [finerSplits, hp]
    rw [hr]
    have HP := Lib.hid hp
    clear hp hr
    go_enter Try.func19, Try.ntmps19
    go_wp2_with fail
    refine (sPartIn_is false _ _ _ HV.out HP).mono ?_
    rintro e w' ⟨rfl, rfl⟩
    go_wp2
    go_ret2
    exact ⟨rfl, Below.refl _ _⟩

end Go.Proofs.Ytabgadmdjpohaab
