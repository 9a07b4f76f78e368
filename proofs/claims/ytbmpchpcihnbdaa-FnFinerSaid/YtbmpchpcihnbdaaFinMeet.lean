/-
  The contracts of FinerMeet (impl and spec).
-/
import Derived.Test.YtbmpchpcihnbdaaFinIn
import Derived.Test.YtbmpchpcihnbdaaTurnMath
import Derived.Test.YtbmpchpcihnbdaaPut
import Derived.Test.YtbmpchpcihnbdaaSpecType
import Derived.StillTailTactics
import Derived.Deep.RegionHeld3
namespace Go.Proofs.Ytbmpchpcihnbdaa
set_option linter.unusedSimpArgs false
set_option linter.unusedVariables false
set_option linter.unnecessarySimpa false
open Go.RowKit
set_option maxRecDepth 100000

def mix (c : Int) (xs ys : List Int) : List Int := (List.range xs.length).map fun i => c * xs.getD i 0 + ys.getD i 0

theorem mix_length (c : Int) (xs ys : List Int) : (mix c xs ys).length = xs.length := by simp [mix]
theorem mix_getD (c : Int) (xs ys : List Int) (i : Nat) (h : i < xs.length) : (mix c xs ys).getD i 0 = c * xs.getD i 0 + ys.getD i 0 := by
  simp [mix, List.getD, h]

theorem mix_pat (xs ys : List Int) (hx : Small xs) (hy : Small ys) (hl : ys.length = xs.length) : kOut (mix 10 xs ys) = kOut (mix 8 xs ys) := by
  refine (kOut_pat (mix 8 xs ys) (mix 10 xs ys) (by simp [mix_length]) fun i j hi hj => ?_).1
  rw [mix_length] at hi hj
  rw [mix_getD _ _ _ _ hi, mix_getD _ _ _ _ hj, mix_getD _ _ _ _ hi, mix_getD _ _ _ _ hj]
  have h1 := hx i hi
  have h2 := hx j hj
  have h3 := hy i (by omega)
  have h4 := hy j (by omega)
  omega

def finerMeet (xs ys : List Int) : List Int × Bool := if alike xs ys then (kOut (mix 8 xs ys), true) else ([], false)

theorem finerMeet_len (xs ys : List Int) (h : xs.length ≤ 1048576) (_ : ys.length ≤ 1048576) : (finerMeet xs ys).1.length ≤ 2305843009213693952 := by
  unfold finerMeet
  split
  · rw [kOut_length, mix_length]; omega
  · simp

set_option maxHeartbeats 1600000 in
theorem iFinerMeet_v (v u : Value) (xs ys : List Int) (w : World) (hv : RdV w v xs) (hu : RdV w u ys) :
    Calls Try.prog 47 #[v, u] w (FreshLB w (finerMeet xs ys)) := by
  have HV := Lib.hid hv
  have HU := Lib.hid hu
  cases ha : alike xs ys
  · have HA := Lib.hid ha
    have hr : finerMeet xs ys = ([], false) := by simp [finerMeet, ha]
    rw [hr]
    clear ha hr hv hu
    go_enter Try.func47, Try.ntmps47
    go_wp2_with fail
    refine (areAlike_is false _ _ _ _ _ HV.out HU.out HA).mono ?_
    rintro e w' ⟨rfl, rfl⟩
    go_wp2
    go_ret2
    exact ⟨_, rfl, own_nil _ _, Below.refl _ _⟩
  · have HA := Lib.hid ha
    obtain ⟨h1, h8, hl⟩ := alike_lens ha
    obtain ⟨hpx, hpy, _⟩ := alike_iff.1 ha
    have HSX := Lib.hid (partIn_small hpx)
    have HSY := Lib.hid (partIn_small hpy)
    have hr : finerMeet xs ys = (kOut (mix 8 xs ys), true) := by simp [finerMeet, ha]
    rw [hr]
    obtain ⟨bx, ox, cx, rfl, hcx, hbx, hcx1, hcx2⟩ := rdv_cells hv h1
    obtain ⟨by', oy, cy, rfl, hcy, hby, hcy1, hcy2⟩ := rdv_cells hu (by omega)
    obtain ⟨n, hn⟩ : ∃ n, n = xs.length := ⟨_, rfl⟩
    have HN := Lib.hid hn
    have HLY := Lib.hid hl
    rw [hl] at HU ⊢
    rw [← hn] at HV HU h1 h8 HLY ⊢
    obtain ⟨i0, hi, hz0, hz1, hz2⟩ := info_parts Try.infoInt
    clear ha hr hv hu hn hl hpx hpy hcx1 hcx2 hcy1 hcy2
    go_enter Try.func47, Try.ntmps47
    go_wp2_with fail
    refine (areAlike_is true _ _ _ _ _ HV.out HU.out HA).mono ?_
    rintro e w' ⟨rfl, rfl⟩
    go_wp2_with (at_make; refine wpList_make_full _ rfl _ _ 30 rfl w.heap.size 3 i0 (.int .i64 0) 1 Try.underlying30 hi hz0 hz1 _ _ _ _ n rfl rfl rfl rfl (by rw [hz2]; omega) (by unfold maxLen; omega) (Nat.le_refl _) ?_)
    intro w1 hown1 hgrow1
    have hb1 : Below w.heap.size w w1 := (Below.refl _ _).grown hgrow1 (Nat.le_refl _) (fun k h => by cases h)
    have hown := own_made hown1
    clear hown1 hgrow1
    go_wp2
    go_loopw [17] (fun i wr => ∃ k : Nat, k ≤ n ∧ i = .int .i64 k ∧ Own wr w.heap.size (.slice (some ⟨w.heap.size, 0, none⟩) n n) ((mix 8 xs ys).take k ++ List.replicate (n - k) 0) ∧ Below w.heap.size w wr) (fun i _ => n - (intOf i).toNat)
    case atStart => exact ⟨0, Nat.zero_le _, rfl, by simpa using hown, hb1⟩
    case round =>
      obtain ⟨k, hk, rfl, hown, hbel⟩ := hrel
      by_cases hlt : k < n
      · have hc1 := cells_at (cells_below hcx hbel) k (by have := HN.out; omega)
        have hc2 := cells_at (cells_below hcy hbel) k (by have := HLY.out; omega)
        have hml : ((mix 8 xs ys).take k ++ List.replicate (n - k) 0).length = n := by simp [mix_length, ← HN.out]; omega
        have hmg := mix_getD 8 xs ys k (by rw [← HN.out]; exact hlt)
        obtain ⟨hx0, hx7⟩ := HSX.out k (by rw [← HN.out]; exact hlt)
        obtain ⟨hy0, hy7⟩ := HSY.out k (by rw [HLY.out]; exact hlt)
        obtain ⟨x, hx⟩ : ∃ x, x = xs.getD k 0 := ⟨_, rfl⟩
        obtain ⟨y, hy⟩ : ∃ y, y = ys.getD k 0 := ⟨_, rfl⟩
        rw [← hx] at hc1 hx0 hx7 hmg
        rw [← hy] at hc2 hy0 hy7 hmg
        have hfz := own_frozen hown k
        obtain ⟨v0, hv0⟩ : ∃ v0, wr.cell? ⟨w.heap.size, k, none⟩ = some v0 := ⟨_, own_cell hown k (by rw [hml]; omega)⟩
        obtain ⟨hst, hgs⟩ := own_stored hown hml.symm k (x * 8 + y)
        rw [HN.out, ← mix_length 8 xs ys, set_stage (mix 8 xs ys) k (by rw [mix_length, ← HN.out]; exact hlt) _ (by rw [hmg]; omega), mix_length, ← HN.out] at hst
        have HST := Lib.hid hst
        have b1 : (k : Int) < n := by omega
        have b2 : IntKind.i64.wrap (x * 8) = x * 8 := IntWalk.i64_in _ (by omega)
        have b3 : IntKind.i64.wrap (x * 8 + y) = x * 8 + y := IntWalk.i64_in _ (by omega)
        clear hst hgs hml hmg hx hy hown
        go_wp2
        go_still_tail 13, (by kernel_rfl)
        change wpList _ _ _ _ _ wr.drew
        go_wp2
        go_roundw
        case rel => exact ⟨k + 1, by omega, by go_num, own_drew1 HST.out, (hbel.setCell (Nat.le_refl _) _).drew⟩
        case measure => simp [intOf]; omega
      · have hkn : k = n := by omega
        subst hkn
        rw [Nat.sub_self, List.replicate_zero, List.append_nil, List.take_of_length_le (by rw [mix_length, ← HN.out]; omega)] at hown
        have HO := Lib.hid (own_rdv hown)
        clear hown
        go_wp2_with fail
        refine (kernel_v _ _ _ HO.out (by rw [mix_length, ← HN.out]; omega)).mono ?_
        rintro e w2 ⟨u, rfl, ho, hb⟩
        go_wp2
        go_ret2
        exact ⟨_, rfl, own_mono ho hbel.size, below_step hbel hb⟩

set_option maxHeartbeats 1600000 in
theorem sFinerMeet_v (v u : Value) (xs ys : List Int) (w : World) (hv : RdV w v xs) (hu : RdV w u ys) :
    Calls Try.prog 50 #[v, u] w (FreshLB w (finerMeet xs ys)) := by
  have HV := Lib.hid hv
  have HU := Lib.hid hu
  cases ha : alike xs ys
  · have HA := Lib.hid ha
    have hr : finerMeet xs ys = ([], false) := by simp [finerMeet, ha]
    rw [hr]
    clear ha hr hv hu
    go_enter Try.func50, Try.ntmps50
    go_wp2_with fail
    refine (l2Two_is false _ _ _ _ _ HV.out HU.out HA).mono ?_
    rintro e w' ⟨rfl, rfl⟩
    go_wp2
    go_ret2
    exact ⟨_, rfl, own_empty _ _ (Nat.le_refl _), (Below.refl _ _).alloc (Nat.le_refl _) _⟩
  · have HA := Lib.hid ha
    obtain ⟨h1, h8, hl⟩ := alike_lens ha
    obtain ⟨hpx, hpy, _⟩ := alike_iff.1 ha
    have HSX := Lib.hid (partIn_small hpx)
    have HSY := Lib.hid (partIn_small hpy)
    have hr : finerMeet xs ys = (kOut (mix 10 xs ys), true) := by simp [finerMeet, ha, mix_pat xs ys HSX.out HSY.out hl]
    rw [hr]
    obtain ⟨bx, ox, cx, rfl, hcx, hbx, hcx1, hcx2⟩ := rdv_cells hv h1
    obtain ⟨by', oy, cy, rfl, hcy, hby, hcy1, hcy2⟩ := rdv_cells hu (by omega)
    obtain ⟨n, hn⟩ : ∃ n, n = xs.length := ⟨_, rfl⟩
    have HN := Lib.hid hn
    have HLY := Lib.hid hl
    rw [hl] at HU ⊢
    rw [← hn] at HV HU h1 h8 HLY ⊢
    clear ha hr hv hu hn hl hpx hpy hcx1 hcx2 hcy1 hcy2
    go_enter Try.func50, Try.ntmps50
    go_wp2_with fail
    refine (l2Two_is true _ _ _ _ _ HV.out HU.out HA).mono ?_
    rintro e w' ⟨rfl, rfl⟩
    go_wp2
    go_loopw [6, 7] (fun u i wr => ∃ k g cap : Nat, k ≤ n ∧ i = .int .i64 k ∧ u = .slice (some ⟨g, 0, none⟩) k cap ∧ Own wr w.heap.size (.slice (some ⟨g, 0, none⟩) k cap) ((mix 10 xs ys).take k) ∧ Below w.heap.size w wr) (fun _ i _ => n - (intOf i).toNat)
    case atStart => exact ⟨0, w.heap.size, 0, Nat.zero_le _, rfl, rfl, own_empty w _ (Nat.le_refl _), (Below.refl _ _).alloc (Nat.le_refl _) _⟩
    case round =>
      obtain ⟨k, g, cap, hk, rfl, rfl, hown, hbel⟩ := hrel
      by_cases hlt : k < n
      · have hc1 := cells_at (cells_below hcx hbel) k (by have := HN.out; omega)
        have hc2 := cells_at (cells_below hcy hbel) k (by have := HLY.out; omega)
        have hmg := mix_getD 10 xs ys k (by rw [← HN.out]; exact hlt)
        have hts := take_snoc (mix 10 xs ys) k (by rw [mix_length, ← HN.out]; exact hlt)
        obtain ⟨hx0, hx7⟩ := HSX.out k (by rw [← HN.out]; exact hlt)
        obtain ⟨hy0, hy7⟩ := HSY.out k (by rw [HLY.out]; exact hlt)
        obtain ⟨x, hx⟩ : ∃ x, x = xs.getD k 0 := ⟨_, rfl⟩
        obtain ⟨y, hy⟩ : ∃ y, y = ys.getD k 0 := ⟨_, rfl⟩
        rw [← hx] at hc1 hx0 hx7 hmg
        rw [← hy] at hc2 hy0 hy7 hmg
        rw [hmg] at hts
        have HTS := Lib.hid hts
        have b1 : (k : Int) < n := by omega
        have b2 : IntKind.i64.wrap (10 * x) = 10 * x := IntWalk.i64_in _ (by omega)
        have b3 : IntKind.i64.wrap (10 * x + y) = 10 * x + y := IntWalk.i64_in _ (by omega)
        have HO := Lib.hid hown
        clear hmg hts hx hy hown
        go_wp2
        go_region_held3 (fun w' => w'.cell? ⟨bx, ox + k, none⟩ = some (.int .i64 x) ∧ w'.cell? ⟨by', oy + k, none⟩ = some (.int .i64 y)) (first | exact ⟨hc1, hc2⟩ | exact ⟨cell_keep _ hc1, cell_keep _ hc2⟩ | exact ⟨cell_keepd _ hc1, cell_keepd _ hc2⟩ | exact ⟨hw1, hw2⟩) (first | (refine step_cat rfl _ _ (by rfl) w.heap.size g k cap ((mix 10 xs ys).take k) (by rfl) (own_drew1 (own_alloc HO.out _)) (by rw [List.length_take, mix_length, ← HN.out]; omega) ⟨wr.heap.size, 0, none⟩ 1 1 (by rfl) [10 * x + y] rfl (cells_one (cell_new1 _ _ _)) (by omega) (by have := hbel.size; simp; omega) (k + 1) rfl ?_; intro g' cap' w2 hown2 hgr2 hg2; have HO2 := Lib.hid hown2; have hw1 := hgr2.cell (cell_keepd _ hc1) (by simp; have := (own_lt HO.out g rfl).1; omega); have hw2 := hgr2.cell (cell_keepd _ hc2) (by simp; have := (own_lt HO.out g rfl).1; omega); have hbel2 : Below w.heap.size w w2 := (hbel.alloc hbel.size _).drew.grown hgr2 (by have := hbel.size; simp; omega) (fun q hq => by cases hq; exact (own_lt HO.out g rfl).1); clear hown2 hgr2 hg2))
        go_wp2
        go_roundw
        case rel => exact ⟨k + 1, g', cap', by omega, by go_num, rfl, by rw [HTS.out]; exact HO2.out, hbel2⟩
        case measure => simp [intOf]; omega
      · have hkn : k = n := by omega
        subst hkn
        rw [List.take_of_length_le (by rw [mix_length, ← HN.out]; omega)] at hown
        have HO := Lib.hid (own_rdv hown)
        clear hown
        go_wp2_with fail
        refine (l1Kernel_v _ _ _ HO.out (by rw [mix_length, ← HN.out]; omega)).mono ?_
        rintro e w2 ⟨u, rfl, ho, hb⟩
        go_wp2
        go_ret2
        exact ⟨_, rfl, own_mono ho hbel.size, below_step hbel hb⟩

end Go.Proofs.Ytbmpchpcihnbdaa
