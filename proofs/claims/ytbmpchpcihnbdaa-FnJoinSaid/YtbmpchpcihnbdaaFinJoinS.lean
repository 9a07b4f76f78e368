/-
  The contract of spec.FinerJoin.
-/
import Derived.Test.YtbmpchpcihnbdaaJoinMath
import Derived.Test.YtbmpchpcihnbdaaPut
import Derived.Test.YtbmpchpcihnbdaaSpecType
import Derived.StillTailTactics
namespace Go.Proofs.Ytbmpchpcihnbdaa
set_option linter.unusedSimpArgs false
set_option linter.unusedVariables false
set_option linter.unnecessarySimpa false
open Go.RowKit
set_option maxRecDepth 100000

theorem iota_snoc (n : Nat) : iota 0 (n + 1) = iota 0 n ++ [(n : Int)] := by simp [iota, List.range_succ]

theorem row_len (xs ys f : List Int) (n : Nat) (hf : f.length = n) (i : Nat) (hi : i < n) (k : Nat) (hk : k ≤ n) : (joinRow xs ys f i k).length = n := (row_le xs ys n f hf i hi k hk).1
theorem pass_len (xs ys f : List Int) (n : Nat) (hf : f.length = n) (i : Nat) (hi : i ≤ n) : (joinPass xs ys f n i).length = n := (pass_le xs ys n f hf i hi).1

theorem own_quiet {w w' : World} {B : Nat} {v : Value} {xs : List Int} (h : Own w B v xs) (hq : Quiet w w') : Own w' B v xs := own_below h hq.below

set_option maxRecDepth 100000 in
set_option maxHeartbeats 4000000 in
theorem sFinerJoin_v (v u : Value) (xs ys : List Int) (w : World) (hv : RdV w v xs) (hu : RdV w u ys) :
    Calls Try.prog 52 #[v, u] w (FreshLB w (finerJoin xs ys)) := by
  have HV := Lib.hid hv
  have HU := Lib.hid hu
  cases ha : alike xs ys
  · have HA := Lib.hid ha
    have hr : finerJoin xs ys = ([], false) := by simp [finerJoin, ha]
    rw [hr]
    clear ha hr hv hu
    go_enter Try.func52, Try.ntmps52
    go_wp2_with fail
    refine (l2Two_is false _ _ _ _ _ HV.out HU.out HA).mono ?_
    rintro e w' ⟨rfl, rfl⟩
    go_wp2
    go_ret2
    exact ⟨_, rfl, own_empty _ _ (Nat.le_refl _), (Below.refl _ _).alloc (Nat.le_refl _) _⟩
  · have HA := Lib.hid ha
    obtain ⟨h1, h8, hl⟩ := alike_lens ha
    have hr : finerJoin xs ys = (kOut (joinAll xs ys xs.length xs.length), true) := by simp [finerJoin, ha]
    rw [hr]
    obtain ⟨bx, ox, cx, rfl, hcx, hbx, hcx1, hcx2⟩ := rdv_cells hv h1
    obtain ⟨by', oy, cy, rfl, hcy, hby, hcy1, hcy2⟩ := rdv_cells hu (by omega)
    obtain ⟨n, hn⟩ : ∃ n, n = xs.length := ⟨_, rfl⟩
    have HN := Lib.hid hn
    have HLY := Lib.hid hl
    rw [hl] at HU ⊢
    rw [← hn] at HV HU h1 h8 HLY ⊢
    clear ha hr hv hu hn hl hcx1 hcx2 hcy1 hcy2
    go_enter Try.func52, Try.ntmps52
    go_wp2_with fail
    refine (l2Two_is true _ _ _ _ _ HV.out HU.out HA).mono ?_
    rintro e w' ⟨rfl, rfl⟩
    go_wp2
    go_loopw [6, 7] (fun u i wr => ∃ k g cap : Nat, k ≤ n ∧ i = .int .i64 k ∧ u = .slice (some ⟨g, 0, none⟩) k cap ∧ Own wr w.heap.size (.slice (some ⟨g, 0, none⟩) k cap) (iota 0 k) ∧ Below w.heap.size w wr) (fun _ i _ => n - (intOf i).toNat)
    case atStart => exact ⟨0, w.heap.size, 0, Nat.zero_le _, rfl, rfl, own_empty w _ (Nat.le_refl _), (Below.refl _ _).alloc (Nat.le_refl _) _⟩
    case round =>
      obtain ⟨k, g, cap, hk, rfl, rfl, hown, hbel⟩ := hrel
      have HO := Lib.hid hown
      have hB := hbel.size
      by_cases hlt : k < n
      · clear hown
        go_wp2_with (at_builtin; refine wpList_push rfl _ _ rfl w.heap.size g k cap (iota 0 k) rfl (own_alloc HO.out _) (by rw [iota_length]) ⟨wr.heap.size, 0, none⟩ rfl (k : Int) (cell_new1 _ _ _) (by omega) (by simp; omega) ?_)
        intro g' cap' w2 hown2 hgr2 hg2
        have hbel2 : Below w.heap.size w w2 := (hbel.alloc hB _).grown hgr2 (by simp; omega) (fun q hq => by cases hq; exact (own_lt HO.out g rfl).1)
        have HO2 := Lib.hid hown2
        clear hown2 hgr2 hg2
        go_wp2
        go_roundw
        case rel => exact ⟨k + 1, g', cap', by omega, by go_num, rfl, by rw [iota_snoc]; exact HO2.out, hbel2⟩
        case measure => simp [intOf]; omega
      · have hkn : k = n := by omega
        subst hkn
        obtain ⟨wo, hwo⟩ : ∃ wo : World, wo = wr := ⟨_, rfl⟩
        subst hwo
        have hgl := own_lt hown g rfl
        clear hown
        go_wp2
        go_loopw [8] (fun i wr => ∃ t : Nat, t ≤ k ∧ i = .int .i64 t ∧ Own wr w.heap.size (.slice (some ⟨g, 0, none⟩) k cap) (joinAll xs ys k t) ∧ Below w.heap.size w wr) (fun i _ => k - (intOf i).toNat)
        case atStart => exact ⟨0, Nat.zero_le _, rfl, HO.out, hbel⟩
        case round =>
          obtain ⟨t, ht, rfl, hown, hbel⟩ := hrel
          have HOt := Lib.hid hown
          by_cases htk : t < k
          · obtain ⟨F, hF⟩ : ∃ F, F = joinAll xs ys k t := ⟨_, rfl⟩
            have hFl : F.length = k := by rw [hF]; exact joinAll_len xs ys k t
            rw [← hF] at HOt
            have HF := Lib.hid hF
            have HFL := Lib.hid hFl
            clear hown hF hFl
            go_wp2
            go_loopw [9] (fun i wr => ∃ a : Nat, a ≤ k ∧ i = .int .i64 a ∧ Own wr w.heap.size (.slice (some ⟨g, 0, none⟩) k cap) (joinPass xs ys F k a) ∧ Below w.heap.size w wr) (fun i _ => k - (intOf i).toNat)
            case atStart => exact ⟨0, Nat.zero_le _, rfl, HOt.out, hbel⟩
            case round =>
              obtain ⟨a, ha, rfl, hown, hbel⟩ := hrel
              have HOa := Lib.hid hown
              by_cases hak : a < k
              · obtain ⟨G, hG⟩ : ∃ G, G = joinPass xs ys F k a := ⟨_, rfl⟩
                have hGl : G.length = k := by rw [hG]; exact pass_len xs ys F k HFL.out a ha
                rw [← hG] at HOa
                have HG := Lib.hid hG
                have HGL := Lib.hid hGl
                clear hown hG hGl
                go_wp2
                go_loopw [10] (fun i wr => ∃ b : Nat, b ≤ k ∧ i = .int .i64 b ∧ Own wr w.heap.size (.slice (some ⟨g, 0, none⟩) k cap) (joinRow xs ys G a b) ∧ Below w.heap.size w wr) (fun i _ => k - (intOf i).toNat)
                case atStart => exact ⟨0, Nat.zero_le _, rfl, HOa.out, hbel⟩
                case round =>
                  obtain ⟨b, hb, rfl, hown, hbel⟩ := hrel
                  by_cases hbk : b < k
                  · have hc1 := cells_at (cells_below hcx hbel) a (by rw [← HN.out]; exact hak)
                    have hc2 := cells_at (cells_below hcx hbel) b (by rw [← HN.out]; exact hbk)
                    have hc3 := cells_at (cells_below hcy hbel) a (by rw [HLY.out]; exact hak)
                    have hc4 := cells_at (cells_below hcy hbel) b (by rw [HLY.out]; exact hbk)
                    have hHl := row_len xs ys G k HGL.out a hak b hb
                    have hstep : joinRow xs ys G a (b + 1) = joinK xs ys (joinRow xs ys G a b) a b := rfl
                    obtain ⟨H, hH⟩ : ∃ H, H = joinRow xs ys G a b := ⟨_, rfl⟩
                    rw [← hH] at hHl hstep hown
                    have hfa := own_cell hown a (by rw [hHl]; exact hak)
                    have hfb := own_cell hown b (by rw [hHl]; exact hbk)
                    have hfz := own_frozen hown a
                    have htog : tog xs ys a b = (decide (xs.getD a 0 = xs.getD b 0) || decide (ys.getD a 0 = ys.getD b 0)) := rfl
                    obtain ⟨x1, hx1⟩ : ∃ x1, x1 = xs.getD a 0 := ⟨_, rfl⟩
                    obtain ⟨x2, hx2⟩ : ∃ x2, x2 = xs.getD b 0 := ⟨_, rfl⟩
                    obtain ⟨y1, hy1⟩ : ∃ y1, y1 = ys.getD a 0 := ⟨_, rfl⟩
                    obtain ⟨y2, hy2⟩ : ∃ y2, y2 = ys.getD b 0 := ⟨_, rfl⟩
                    obtain ⟨p1, hp1⟩ : ∃ p1, p1 = H.getD a 0 := ⟨_, rfl⟩
                    obtain ⟨p2, hp2⟩ : ∃ p2, p2 = H.getD b 0 := ⟨_, rfl⟩
                    have hset : (tog xs ys a b = true → joinRow xs ys G a (b + 1) = H.set a (min p1 p2)) ∧ (tog xs ys a b = false → joinRow xs ys G a (b + 1) = H) := by
                      rw [hstep, hp1, hp2]
                      unfold joinK
                      exact ⟨fun h => by rw [if_pos h], fun h => by rw [h]; rfl⟩
                    rw [← hx1] at hc1 htog
                    rw [← hx2] at hc2 htog
                    rw [← hy1] at hc3 htog
                    rw [← hy2] at hc4 htog
                    rw [← hp1] at hfa
                    rw [← hp2] at hfb
                    have HTOG := Lib.hid htog
                    have HSET := Lib.hid hset
                    have HOH := Lib.hid hown
                    have HHL := Lib.hid hHl
                    have b1 : (a : Int) < k := by omega
                    have b2 : (b : Int) < k := by omega
                    clear hx1 hx2 hy1 hy2 hp1 hp2 hstep htog hset hown hH hHl
                    by_cases hxx : x1 = x2
                    · have HT : Hid (tog xs ys a b = true) := by
                        have h : tog xs ys a b = true := by rw [HTOG.out]; simp [hxx]
                        exact Lib.hid h
                      have hbx : (x1 == x2) = true := by simpa using hxx
                      clear hxx
                      by_cases hpp : p1 ≤ p2
                      · have HM : Hid (min p1 p2 = p1) := Lib.hid (Int.min_eq_left hpp)
                        go_wp2
                        go_quiet (fail)
                        have hq5 : Quiet wr (wr.drewN nq) := Quiet.mk _ _
                        generalize wr.drewN nq = w5 at hq5 ⊢
                        have hfa5 : w5.cell? ⟨g, a, none⟩ = some (.int .i64 p1) := by obtain ⟨m, rfl⟩ := hq5; exact hfa
                        have hfb5 : w5.cell? ⟨g, b, none⟩ = some (.int .i64 p2) := by obtain ⟨m, rfl⟩ := hq5; exact hfb
                        have hfz5 : w5.frozen? ⟨g, a, none⟩ = false := by obtain ⟨m, rfl⟩ := hq5; exact hfz
                        have hbel5 : Below w.heap.size w w5 := by obtain ⟨m, rfl⟩ := hq5; exact below_drewN hbel m
                        have HST := Lib.hid (own_stored (own_quiet HOH.out hq5) HHL.out.symm a p1).1
                        clear hq5
                        go_wp2
                        go_still_tail 12, (by kernel_rfl)
                        change wpList _ _ _ _ _ w5.drew
                        go_wp2
                        go_roundw
                        case rel => exact ⟨b + 1, by omega, by go_num, by rw [HSET.out.1 HT.out, HM.out]; exact own_drew1 HST.out, (hbel5.setCell hgl.1 _).drew⟩
                        case measure => simp [intOf]; omega
                      · have HM : Hid (min p1 p2 = p2) := Lib.hid (Int.min_eq_right (by omega))
                        go_wp2
                        go_quiet (fail)
                        have hq5 : Quiet wr (wr.drewN nq) := Quiet.mk _ _
                        generalize wr.drewN nq = w5 at hq5 ⊢
                        have hfa5 : w5.cell? ⟨g, a, none⟩ = some (.int .i64 p1) := by obtain ⟨m, rfl⟩ := hq5; exact hfa
                        have hfb5 : w5.cell? ⟨g, b, none⟩ = some (.int .i64 p2) := by obtain ⟨m, rfl⟩ := hq5; exact hfb
                        have hfz5 : w5.frozen? ⟨g, a, none⟩ = false := by obtain ⟨m, rfl⟩ := hq5; exact hfz
                        have hbel5 : Below w.heap.size w w5 := by obtain ⟨m, rfl⟩ := hq5; exact below_drewN hbel m
                        have HST := Lib.hid (own_stored (own_quiet HOH.out hq5) HHL.out.symm a p2).1
                        clear hq5
                        go_wp2
                        go_still_tail 12, (by kernel_rfl)
                        change wpList _ _ _ _ _ w5.drew
                        go_wp2
                        go_roundw
                        case rel => exact ⟨b + 1, by omega, by go_num, by rw [HSET.out.1 HT.out, HM.out]; exact own_drew1 HST.out, (hbel5.setCell hgl.1 _).drew⟩
                        case measure => simp [intOf]; omega
                    · have hbx : (x1 == x2) = false := by simpa using hxx
                      by_cases hyy : y1 = y2
                      · have HT : Hid (tog xs ys a b = true) := by
                          have h : tog xs ys a b = true := by rw [HTOG.out]; simp [hyy]
                          exact Lib.hid h
                        have hby : (y1 == y2) = true := by simpa using hyy
                        clear hxx hyy
                        by_cases hpp : p1 ≤ p2
                        · have HM : Hid (min p1 p2 = p1) := Lib.hid (Int.min_eq_left hpp)
                          go_wp2
                          go_quiet (fail)
                          have hq5 : Quiet wr (wr.drewN nq) := Quiet.mk _ _
                          generalize wr.drewN nq = w5 at hq5 ⊢
                          have hfa5 : w5.cell? ⟨g, a, none⟩ = some (.int .i64 p1) := by obtain ⟨m, rfl⟩ := hq5; exact hfa
                          have hfb5 : w5.cell? ⟨g, b, none⟩ = some (.int .i64 p2) := by obtain ⟨m, rfl⟩ := hq5; exact hfb
                          have hfz5 : w5.frozen? ⟨g, a, none⟩ = false := by obtain ⟨m, rfl⟩ := hq5; exact hfz
                          have hbel5 : Below w.heap.size w w5 := by obtain ⟨m, rfl⟩ := hq5; exact below_drewN hbel m
                          have HST := Lib.hid (own_stored (own_quiet HOH.out hq5) HHL.out.symm a p1).1
                          clear hq5
                          go_wp2
                          go_still_tail 12, (by kernel_rfl)
                          change wpList _ _ _ _ _ w5.drew
                          go_wp2
                          go_roundw
                          case rel => exact ⟨b + 1, by omega, by go_num, by rw [HSET.out.1 HT.out, HM.out]; exact own_drew1 HST.out, (hbel5.setCell hgl.1 _).drew⟩
                          case measure => simp [intOf]; omega
                        · have HM : Hid (min p1 p2 = p2) := Lib.hid (Int.min_eq_right (by omega))
                          go_wp2
                          go_quiet (fail)
                          have hq5 : Quiet wr (wr.drewN nq) := Quiet.mk _ _
                          generalize wr.drewN nq = w5 at hq5 ⊢
                          have hfa5 : w5.cell? ⟨g, a, none⟩ = some (.int .i64 p1) := by obtain ⟨m, rfl⟩ := hq5; exact hfa
                          have hfb5 : w5.cell? ⟨g, b, none⟩ = some (.int .i64 p2) := by obtain ⟨m, rfl⟩ := hq5; exact hfb
                          have hfz5 : w5.frozen? ⟨g, a, none⟩ = false := by obtain ⟨m, rfl⟩ := hq5; exact hfz
                          have hbel5 : Below w.heap.size w w5 := by obtain ⟨m, rfl⟩ := hq5; exact below_drewN hbel m
                          have HST := Lib.hid (own_stored (own_quiet HOH.out hq5) HHL.out.symm a p2).1
                          clear hq5
                          go_wp2
                          go_still_tail 12, (by kernel_rfl)
                          change wpList _ _ _ _ _ w5.drew
                          go_wp2
                          go_roundw
                          case rel => exact ⟨b + 1, by omega, by go_num, by rw [HSET.out.1 HT.out, HM.out]; exact own_drew1 HST.out, (hbel5.setCell hgl.1 _).drew⟩
                          case measure => simp [intOf]; omega
                      · have HT : Hid (tog xs ys a b = false) := by
                          have h : tog xs ys a b = false := by rw [HTOG.out]; simp [hxx, hyy]
                          exact Lib.hid h
                        have hby : (y1 == y2) = false := by simpa using hyy
                        clear hxx hyy
                        go_wp2
                        go_quiet (fail)
                        go_wp2
                        go_roundw
                        case rel => exact ⟨b + 1, by omega, by go_num, by rw [HSET.out.2 HT.out]; exact own_quiet HOH.out (Quiet.mk _ _), below_drewN hbel _⟩
                        case measure => simp [intOf]; omega
                  · have hbk : b = k := by omega
                    have HOb := Lib.hid hown
                    clear hown
                    rw [hbk] at HOb
                    subst hbk
                    go_wp2
                    go_roundw
                    case rel => exact ⟨a + 1, by omega, by go_num, by rw [joinPass, ← HG.out]; exact HOb.out, hbel⟩
                    case measure => simp [intOf]; omega
              · have hak : a = k := by omega
                clear hown
                rw [hak] at HOa
                subst hak
                go_wp2
                go_roundw
                case rel => exact ⟨t + 1, by omega, by go_num, by rw [joinAll, ← HF.out]; exact HOa.out, hbel⟩
                case measure => simp [intOf]; omega
          · have htk : t = k := by omega
            clear hown
            rw [htk] at HOt
            subst htk
            have HRD := Lib.hid (own_rdv HOt.out)
            go_wp2_with fail
            refine (l1Kernel_v _ _ _ HRD.out (by rw [joinAll_len]; omega)).mono ?_
            rintro e w6 ⟨u, rfl, ho, hb⟩
            go_wp2
            go_ret2
            exact ⟨_, rfl, own_mono ho hbel.size, below_step hbel hb⟩

end Go.Proofs.Ytbmpchpcihnbdaa
