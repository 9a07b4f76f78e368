/-
  The contracts of connected, l8Part, and of PairPart, PairWhole of both sides.
-/
import Derived.Test.YtieldehghmikkaaFinJoin
import Derived.Test.YtieldehghmikkaaFinJoinS
import Derived.Test.YtieldehghmikkaaPairLab
import Derived.Test.YtieldehghmikkaaPairOfs
import Derived.Test.YtieldehghmikkaaPairOps
import Derived.Test.YtieldehghmikkaaPairSpec
import Derived.Test.YtieldehghmikkaaKernel
namespace Go.Proofs.Ytieldehghmikkaa
set_option linter.unusedSimpArgs false
set_option linter.unusedVariables false
set_option linter.unnecessarySimpa false
open Go.RowKit
set_option maxRecDepth 100000

theorem joinedP_end {n : Nat} {L : List (Nat × Nat)} {par rt : Nat → Nat} (hL : InN n L) (hf : Forest n par rt) (h : JoinedP n L rt) : kOut (rootList rt n) = partP n L := by
  refine lab_tells n L hL (rootList rt n) (rootList_length _ _) (fun p hp => ?_) fun g hg => ⟨rootList_length _ _, fun i hi => ?_⟩
  · have hq := hL p hp
    rw [rootList_getD _ _ _ hq.1, rootList_getD _ _ _ hq.2, h.1 p hp]
  · rw [rootList_getD _ _ _ hi]
    refine ⟨by omega, by have := (hf i hi).1; omega, ?_⟩
    rw [Int.toNat_natCast]
    exact h.2 g hg i hi

set_option maxHeartbeats 4000000 in
theorem connected_any (n : Nat) (v : Value) (L : List (Nat × Nat)) (w : World) (hv : RdP w v L) (hL : InN n L) (h1 : 1 ≤ n) (h8 : n ≤ 8) (hl : L.length ≤ 1000000) :
    Calls Try.prog 51 #[.int .i64 n, v] w (FreshL w (partP n L)) := by
  obtain ⟨ao, ca, rfl, hlc, hcm, hx⟩ := hv
  obtain ⟨m, hm⟩ : ∃ m, m = L.length := ⟨_, rfl⟩
  rw [← hm] at hlc hl ⊢
  have HM := Lib.hid hm
  have HX := Lib.hid hx
  have HIN := Lib.hid hL
  clear hm hx hL
  go_enter Try.func51, Try.ntmps51
  go_wp2_with fail
  refine (looseLinks_any n _ h1 h8).mono ?_
  rintro e w1 ⟨rfl, hb1, C, hl1⟩
  have HL1 := Lib.hid hl1
  clear hl1
  go_wp2
  go_loopw [12] (fun i wr => ∃ (k : Nat) (par rt : Nat → Nat), k ≤ m ∧ i = .int .i64 k ∧ Links wr w.heap.size C n par ∧ Forest n par rt ∧ JoinedP n (L.take k) rt ∧ Below w.heap.size w wr) (fun i _ => m - (intOf i).toNat)
  case atStart => exact ⟨0, id, id, Nat.zero_le _, rfl, HL1.out, forest_id n, joinedP_nil _, hb1⟩
  case round =>
    obtain ⟨k, par, rt, hk, rfl, hlk, hfo, hjo, hbel⟩ := hrel
    have hBC := hlk.1
    by_cases hlt : k < m
    · rcases HX.out with hx | ⟨bb, off, rfl, hcx⟩
      · have := HM.out
        rw [hx] at this
        simp at this
        omega
      have hbw : bb < w.heap.size := World.block_lt_of_cell? w _ (hcx k (by have := HM.out; omega)).1
      have hcx' := hcx k (by have := HM.out; omega)
      have hc1 := cellSt hcx'.1 hbel
      have hc2 := cellSt hcx'.2 hbel
      have hpn := HIN.out (L.getD k (0, 0)) (by have h : k < L.length := (by have := HM.out; omega); rw [show L.getD k (0, 0) = L[k] by simp [List.getD, h]]; exact List.getElem_mem h)
      have hts := take_snocP L k (by have := HM.out; omega)
      have hjs := joinedP_step hjo (L.getD k (0, 0)) hpn.1 hpn.2
      rw [← hts] at hjs
      obtain ⟨⟨a, b⟩, hy⟩ : ∃ y, y = L.getD k (0, 0) := ⟨_, rfl⟩
      rw [← hy] at hc1 hc2 hpn hjs
      dsimp only at hc1 hc2 hpn hjs
      obtain ⟨ha, hb⟩ := hpn
      have hp1 := (hlk.2 a ha).1
      have hp2 := (hlk.2 b hb).1
      have hkw : k < L.length := by have := HM.out; omega
      have b0 : (k : Int) < m := by omega
      have b1 : (a : Int) < n := by omega
      have b2 : (b : Int) < n := by omega
      have b3 : (0 : Int) ≤ (a : Int) := by omega
      have b4 : (0 : Int) ≤ (b : Int) := by omega
      have HJS := Lib.hid hjs
      have HFO := Lib.hid hfo
      have hbr := hbel.size
      have HLK := Lib.hid (links_below hlk ((Below.refl wr.heap.size wr).alloc (Nat.le_refl _) (.cells #[.int .i64 a, .int .i64 b] 53)))
      have HBL := Lib.hid hbel
      clear hy hcx hcx' hts hjs hjo hlk hfo hkw
      go_wp2
      obtain ⟨W, hW⟩ : ∃ W, W = wr.alloc (.cells #[.int .i64 a, .int .i64 b] 53) := ⟨_, rfl⟩
      have f1 : W.cell? ⟨wr.heap.size, 0, none⟩ = some (.int .i64 a) := by rw [hW]; exact (cells_two rfl).1
      have f2 : W.cell? ⟨wr.heap.size, 1, none⟩ = some (.int .i64 b) := by rw [hW]; exact (cells_two rfl).2
      have f3 : W.cell? ⟨w.heap.size, a, none⟩ = some (.pointer (some ⟨C + a, 0, none⟩)) := by rw [hW]; exact cellAl hp1 _
      have f4 : W.cell? ⟨w.heap.size, b, none⟩ = some (.pointer (some ⟨C + b, 0, none⟩)) := by rw [hW]; exact cellAl hp2 _
      have hbW : Below w.heap.size w W := by rw [hW]; exact hbel.alloc hbr _
      rw [← hW] at HLK ⊢
      clear hW hp1 hp2 hc1 hc2
      have HLD : Hid (Links W.drew w.heap.size C n par) := Lib.hid (links_quiet HLK.out (Quiet.mk W 1))
      go_still_tail 10, (by kernel_rfl)
      change wpList _ _ _ _ _ W.drew
      go_wp2_with fail
      refine (tie_any w.heap.size C n a b par rt _ HLD.out HFO.out ha hb).mono ?_
      rintro e w2 ⟨rfl, par2, hl2, hf2, hb2⟩
      have hbel2 : Below w.heap.size w w2 := hbW.drew.trans (hb2.mono (Nat.le_of_lt hBC))
      have HL2 := Lib.hid hl2
      have HF2 := Lib.hid hf2
      clear hl2 hf2 hb2
      go_wp2
      go_roundw
      case rel => exact ⟨k + 1, par2, _, by omega, by go_num, HL2.out, HF2.out, HJS.out, hbel2⟩
      case measure => simp [intOf]; omega
    · have hkm : k = m := by omega
      subst hkm
      rw [List.take_of_length_le (by have := HM.out; omega)] at hjo
      have hend := joinedP_end HIN.out hfo hjo
      have HLK := Lib.hid hlk
      have HFO := Lib.hid hfo
      clear hjo hlk hfo
      go_wp2_with fail
      refine (tiedOut_any w.heap.size C n par rt wr HLK.out HFO.out h1 h8).mono ?_
      rintro e w6 ⟨u, rfl, ho, hb⟩
      have HOU := Lib.hid (own_mono ho hbel.size)
      have HBU := Lib.hid (below_step hbel hb)
      rw [hend] at HOU
      clear ho hb hend
      go_wp2
      go_ret
      exact ⟨_, rfl, HOU.out, HBU.out⟩

theorem encPs_at {w : World} {v : Value} {L : List (Nat × Nat)} (hv : RdM w v (encPs L)) : ∃ ao ca, ∃ vs : List Value, v = .slice ao L.length ca ∧ L.length ≤ ca ∧ ca ≤ maxLen ∧
    (L = [] ∨ ∃ b off, ao = some ⟨b, off, none⟩ ∧ ∀ k, k < L.length → ∃ zb zo zc, w.cell? ⟨b, off + k, none⟩ = some (.slice (some ⟨zb, zo, none⟩) 2 zc) ∧ 2 ≤ zc ∧ zc ≤ maxLen ∧ w.cell? ⟨zb, zo, none⟩ = some (.int .i64 (L.getD k (0, 0)).1) ∧ w.cell? ⟨zb, zo + 1, none⟩ = some (.int .i64 (L.getD k (0, 0)).2)) := by
  obtain ⟨ao, ca, vs, hvl, rfl, h1, h2, h3, h4⟩ := hv
  rw [encPs_length] at h1 h4 hvl ⊢
  refine ⟨ao, ca, vs, rfl, h1, h2, ?_⟩
  rcases h3 with h3 | ⟨b, off, ha, hc⟩
  · have := congrArg List.length h3
    rw [encPs_length] at this
    exact .inl (List.eq_nil_of_length_eq_zero this)
  · refine .inr ⟨b, off, ha, fun k hk => ?_⟩
    have hr := h4 k hk
    rw [encPs_getD L hk] at hr
    obtain ⟨zb, zo, zc, hz, z1, z2, c0, c1⟩ := rdv_two hr rfl
    refine ⟨zb, zo, zc, ?_, z1, z2, c0, c1⟩
    have := hc k (by rw [encPs_length]; exact hk)
    rw [hz] at this
    exact this

theorem fold_len (L : List (Nat × Nat)) (f : List Int) : (L.foldl labStep f).length = f.length := by
  refine lab_ind (fun g => g.length = f.length) L (fun g p _ h => by rw [labStep_len]; exact h) f rfl

set_option maxHeartbeats 8000000 in
theorem l8Part_any (n : Nat) (v : Value) (L : List (Nat × Nat)) (w : World) (hv : RdM w v (encPs L)) (hL : InN n L) (h8 : n ≤ 8) :
    Calls Try.prog 50 #[.int .i64 n, v] w (FreshL w (partP n L)) := by
  obtain ⟨ao, ca, vs, rfl, h1, h2, hx⟩ := encPs_at hv
  unfold maxLen at h2
  obtain ⟨m, hm⟩ : ∃ m, m = L.length := ⟨_, rfl⟩
  rw [← hm] at h1 ⊢
  have HM := Lib.hid hm
  have HX := Lib.hid hx
  have HIN := Lib.hid hL
  unfold partP
  clear hm hx hL hv
  go_enter Try.func50, Try.ntmps50
  go_wp2
  go_loopw [5, 6] (fun u i wr => ∃ k g cap : Nat, k ≤ n ∧ i = .int .i64 k ∧ u = .slice (some ⟨g, 0, none⟩) k cap ∧ Own wr w.heap.size (.slice (some ⟨g, 0, none⟩) k cap) (iota 0 k) ∧ Below w.heap.size w wr) (fun _ i _ => n - (intOf i).toNat)
  case atStart => exact ⟨0, w.heap.size, 0, Nat.zero_le _, rfl, rfl, own_empty w _ (Nat.le_refl _), (Below.refl _ _).alloc (Nat.le_refl _) _⟩
  case round =>
    obtain ⟨k, g, cap, hk, rfl, rfl, hown, hbel⟩ := hrel
    have HO := Lib.hid hown
    have hB := hbel.size
    by_cases hlt : k < n
    · clear hown
      go_wp2_with (at_builtin; refine wpList_push rfl _ _ rfl w.heap.size g k cap (iota 0 k) rfl (own_alloc HO.out _) (by rw [iota_length]) ⟨wr.heap.size, 0, none⟩ rfl (k : Int) (cell_new1 _ _ _) (by omega) (by simp; omega) ?_)
      intro g' cap' w2 hown2 hgr2 hg2
      have hbel2 : Below w.heap.size w w2 := (hbel.alloc hB _).grown hgr2 (by simp; omega) (fun q hq => by cases hq; exact (own_lt HO.out g rfl).1)
      have HO2 := Lib.hid hown2
      clear hown2 hgr2 hg2
      go_wp2
      go_roundw
      case rel => exact ⟨k + 1, g', cap', by omega, by go_num, rfl, by rw [iota_snoc]; exact HO2.out, hbel2⟩
      case measure => simp [intOf]; omega
    · have hkn : k = n := by omega
      subst hkn
      obtain ⟨wo, hwo⟩ : ∃ wo : World, wo = wr := ⟨_, rfl⟩
      subst hwo
      have hgl := own_lt hown g rfl
      clear hown
      go_wp2
      go_loopw [7] (fun i wr => ∃ t : Nat, t ≤ k ∧ i = .int .i64 t ∧ Own wr w.heap.size (.slice (some ⟨g, 0, none⟩) k cap) (labTo k L t) ∧ Below w.heap.size w wr) (fun i _ => k - (intOf i).toNat)
      case atStart => exact ⟨0, Nat.zero_le _, rfl, HO.out, hbel⟩
      case round =>
        obtain ⟨t, ht, rfl, hown, hbel⟩ := hrel
        have HOt := Lib.hid hown
        by_cases htk : t < k
        · obtain ⟨F, hF⟩ : ∃ F, F = labTo k L t := ⟨_, rfl⟩
          have hFl : F.length = k := by rw [hF]; exact labTo_len k L t
          rw [← hF] at HOt
          have HF := Lib.hid hF
          have HFL := Lib.hid hFl
          clear hown hF hFl
          go_wp2
          go_loopw [8] (fun i wr => ∃ x : Nat, x ≤ m ∧ i = .int .i64 x ∧ Own wr w.heap.size (.slice (some ⟨g, 0, none⟩) k cap) ((L.take x).foldl labStep F) ∧ Below w.heap.size w wr) (fun i _ => m - (intOf i).toNat)
          case atStart => exact ⟨0, Nat.zero_le _, rfl, HOt.out, hbel⟩
          case round =>
            obtain ⟨x, hxm, rfl, hown, hbel⟩ := hrel
            by_cases hxl : x < m
            · rcases HX.out with hx | ⟨bb, off, rfl, hcx⟩
              · have := HM.out
                rw [hx] at this
                simp at this
                omega
              obtain ⟨zb, zo, zc, hz, z1, z2, c0, c1⟩ := hcx x (by have := HM.out; omega)
              have d0 := cellSt hz hbel
              have d1 := cellSt c0 hbel
              have d2 := cellSt c1 hbel
              have hzw : zb < w.heap.size := World.block_lt_of_cell? w _ c0
              have hbw : bb < w.heap.size := World.block_lt_of_cell? w _ hz
              have hpn := HIN.out (L.getD x (0, 0)) (by have h : x < L.length := (by have := HM.out; omega); rw [show L.getD x (0, 0) = L[x] by simp [List.getD, h]]; exact List.getElem_mem h)
              have hts : (L.take (x + 1)).foldl labStep F = labStep ((L.take x).foldl labStep F) (L.getD x (0, 0)) := by
                rw [take_snocP L x (by have := HM.out; omega), List.foldl_append]
                rfl
              have hGl : ((L.take x).foldl labStep F).length = k := by rw [fold_len]; exact HFL.out
              obtain ⟨⟨a, b⟩, hy⟩ : ∃ y, y = L.getD x (0, 0) := ⟨_, rfl⟩
              rw [← hy] at d1 d2 hpn hts
              dsimp only at d1 d2 hpn
              obtain ⟨ha, hb⟩ := hpn
              obtain ⟨G, hG⟩ : ∃ G, G = (L.take x).foldl labStep F := ⟨_, rfl⟩
              rw [← hG] at hts hGl hown
              have e1 := own_cell hown a (by rw [hGl]; exact ha)
              have e2 := own_cell hown b (by rw [hGl]; exact hb)
              have hlab : labStep G (a, b) = (G.set a (min (G.getD a 0) (G.getD b 0))).set b (min (G.getD a 0) (G.getD b 0)) := rfl
              rw [hlab] at hts
              obtain ⟨p, hp⟩ : ∃ p, p = G.getD a 0 := ⟨_, rfl⟩
              obtain ⟨q, hq⟩ : ∃ q, q = G.getD b 0 := ⟨_, rfl⟩
              rw [← hp] at e1 hts
              rw [← hq] at e2 hts
              obtain ⟨s, hs⟩ : ∃ s, s = min p q := ⟨_, rfl⟩
              rw [← hs] at hts
              have HS := Lib.hid hs
              have HTS := Lib.hid hts
              have HGL := Lib.hid hGl
              have HOG := Lib.hid hown
              have b0 : (x : Int) < m := by omega
              have b1 : (a : Int) < k := by omega
              have b2 : (b : Int) < k := by omega
              clear hcx hz c0 c1 hy hlab hts hGl hG hp hq hs hown
              go_wp2_with fail
              have HSV : Hid (s = min p q) := HS
              obtain ⟨W5, hW5⟩ : ∃ W5, W5 = wr.drew := ⟨_, rfl⟩
              have k0 : W5.cell? ⟨bb, off + x, none⟩ = some (.slice (some ⟨zb, zo, none⟩) 2 zc) := by rw [hW5]; exact d0
              have k1 : W5.cell? ⟨zb, zo, none⟩ = some (.int .i64 a) := by rw [hW5]; exact d1
              have k2 : W5.cell? ⟨zb, zo + 1, none⟩ = some (.int .i64 b) := by rw [hW5]; exact d2
              have k3 : W5.cell? ⟨g, a, none⟩ = some (.int .i64 p) := by rw [hW5]; exact e1
              have k4 : W5.cell? ⟨g, b, none⟩ = some (.int .i64 q) := by rw [hW5]; exact e2
              have hbel5 : Below w.heap.size w W5 := by rw [hW5]; exact hbel.drew
              have hown5 : Own W5 w.heap.size (.slice (some ⟨g, 0, none⟩) k cap) G := by rw [hW5]; exact own_drew1 HOG.out
              have hf5 := own_frozen hown5 a
              have st1 := (own_stored hown5 HGL.out.symm a (min p q)).1
              obtain ⟨W6, hW6⟩ : ∃ W6, W6 = W5.setCell ⟨g, a, none⟩ (.int .i64 (min p q)) := ⟨_, rfl⟩
              rw [← hW6] at st1
              have j0 : W6.cell? ⟨bb, off + x, none⟩ = some (.slice (some ⟨zb, zo, none⟩) 2 zc) := by rw [hW6, cell_set_other (by intro e; simp at e <;> omega)]; exact k0
              have j1 : W6.cell? ⟨zb, zo, none⟩ = some (.int .i64 a) := by rw [hW6, cell_set_other (by intro e; simp at e <;> omega)]; exact k1
              have j2 : W6.cell? ⟨zb, zo + 1, none⟩ = some (.int .i64 b) := by rw [hW6, cell_set_other (by intro e; simp at e <;> omega)]; exact k2
              have hl6 : (G.set a (min p q)).length = k := by rw [List.length_set]; exact HGL.out
              obtain ⟨v6, j4⟩ : ∃ v6, W6.cell? ⟨g, b, none⟩ = some v6 := ⟨_, own_cell st1 b (by rw [hl6]; exact hb)⟩
              have hf6 := own_frozen st1 b
              have hbel6 : Below w.heap.size w W6 := by rw [hW6]; exact hbel5.setCell hgl.1 _
              have st2 := (own_stored st1 hl6.symm b (min p q)).1
              have HST := Lib.hid st2
              have HB6 := Lib.hid hbel6
              have HW6 := Lib.hid hW6
              rw [HSV.out] at HTS
              rw [hW6] at j0 j1 j2 j4 hf6
              clear st1 st2 hown5 hl6 hbel5 hbel6 hW6
              go_still_tail 18, (by kernel_rfl)
              change wpList _ _ _ _ _ wr.drew
              rw [← hW5]
              clear hW5 d0 d1 d2 e1 e2
              go_wp2
              go_roundw
              case rel => exact ⟨x + 1, by omega, by go_num, by rw [HTS.out, ← HW6.out]; exact HST.out, by rw [← HW6.out]; exact HB6.out.setCell hgl.1 _⟩
              case measure => simp [intOf]; omega
            · have hxm' : x = m := by omega
              have HOx := Lib.hid hown
              rw [List.take_of_length_le (by have := HM.out; omega)] at HOx
              clear hown
              subst hxm'
              go_wp2
              go_roundw
              case rel => exact ⟨t + 1, by omega, by go_num, by rw [labTo, ← HF.out]; exact HOx.out, hbel⟩
              case measure => simp [intOf]; omega
        · have htk : t = k := by omega
          clear hown
          rw [htk] at HOt
          subst htk
          have HRD := Lib.hid (own_rdv HOt.out)
          go_wp2_with fail
          refine (l1Kernel_v _ _ _ HRD.out (by rw [labTo_len]; omega)).mono ?_
          rintro e w6 ⟨u, rfl, ho, hb⟩
          go_wp2
          go_ret
          exact ⟨_, rfl, own_mono ho hbel.size, below_step hbel hb⟩

end Go.Proofs.Ytieldehghmikkaa
