/-
  The contract of spec.DrawPartOf.
-/
import Derived.Test.YtabgadmdjpohaaaRds
import Derived.Test.YtabgadmdjpohaaaRowsCat
import Derived.Test.YtabgadmdjpohaaaFinCount
namespace Go.Proofs.Ytabgadmdjpohaaa
set_option linter.unusedSimpArgs false
set_option linter.unusedVariables false
set_option linter.unnecessarySimpa false
open Go.RowKit
set_option maxRecDepth 100000

/-- A small number and drawn rows. -/
def OfDrawn (w : World) (e : Ending) (w' : World) : Prop :=
  ∃ (n : Nat) (v : Value) (xss : List (List Int)), e = .returned (.tuple #[.int .i64 n, v]) ∧ n ≤ 10 ∧ RdM w' v xss ∧ xss.length ≤ 9 ∧ Below w.heap.size w w'

theorem rdM_lit1 (w : World) : RdM ((w.alloc (.cells #[.int .i64 0] 3)).alloc (.cells #[.slice (some ⟨w.heap.size, 0, none⟩) 1 1] 26)) (.slice (some ⟨w.heap.size + 1, 0, none⟩) 1 1) [[0]] := by
  refine ⟨_, 1, [.slice (some ⟨w.heap.size, 0, none⟩) 1 1], rfl, rfl, Nat.le_refl _, by unfold maxLen; omega, .inr ⟨w.heap.size + 1, 0, rfl, fun i hi => ?_⟩, fun i hi => ?_⟩
  · obtain rfl : i = 0 := by simpa using hi
    have := cell_new1 (w.alloc (.cells #[.int .i64 0] 3)) (.slice (some ⟨w.heap.size, 0, none⟩) 1 1) 26
    simpa using this
  · obtain rfl : i = 0 := by simpa using hi
    exact own_rdv (own_alloc (own_lit1 w w.heap.size (Nat.le_refl _) 0) _)

theorem rdM_rows {w : World} {b off n cap : Nat} {vs : List Value} {xss : List (List Int)} (hv : vs.length = xss.length) (hn : n = xss.length) (hc : n ≤ cap) (hm : cap ≤ maxLen)
    (hcell : ∀ i, i < xss.length → w.cell? ⟨b, off + i, none⟩ = some (vs.getD i undef)) (hrow : ∀ i, i < xss.length → RdV w (vs.getD i undef) (xss.getD i [])) : RdM w (.slice (some ⟨b, off, none⟩) n cap) xss := by
  subst hn
  exact ⟨_, cap, vs, hv, rfl, hc, hm, .inr ⟨b, off, rfl, hcell⟩, hrow⟩

theorem ownV_facts {w : World} {B g n cap : Nat} {vs : List Value} (h : OwnV w B (.slice (some ⟨g, 0, none⟩) n cap) vs) : n = vs.length ∧ n ≤ cap ∧ cap ≤ maxLen ∧ B ≤ g ∧ g < w.heap.size ∧ ∀ j, j < vs.length → w.cell? ⟨g, j, none⟩ = some (vs.getD j undef) := by
  have h0 := h
  rcases h.2 with ⟨hv, _⟩ | ⟨g', cap', cur, hv, hb, hg, hnc, hcm, hcs, htk⟩
  · cases hv
  · cases hv
    exact ⟨rfl, hnc, hcm, hb, (Array.getElem?_eq_some_iff.1 hg).1, fun j hj => by rw [World.ownsRow.cellAt h0 j (by omega)]; simp [List.getD, hj]⟩

theorem rdv_one {w : World} {v : Value} {xs : List Int} (h : RdV w v xs) : v.oneCell' = true := by
  obtain ⟨ao, ca, rfl, _⟩ := h
  cases ao <;> rfl

def turnAt {α : Type} (l : List α) (k : Nat) : List α := l.drop k ++ l.take k
theorem turnAt_length {α : Type} (l : List α) (k : Nat) : (turnAt l k).length = l.length := by simp [turnAt]; omega
theorem turnAt_get {α : Type} (l : List α) (k : Nat) (d : α) (hk : k ≤ l.length) (i : Nat) (hi : i < l.length) : (turnAt l k).getD i d = l.getD (if i < l.length - k then k + i else i - (l.length - k)) d := by
  unfold turnAt
  simp only [List.getD, List.getElem?_append, List.length_drop, List.getElem?_drop, List.getElem?_take]
  split
  · rfl
  · rename_i h
    rw [if_pos (by omega)]

theorem rdM_tail {w : World} {b n cap : Nat} {xss : List (List Int)} (h : RdM w (.slice (some ⟨b, 0, none⟩) n cap) xss) (hn : 1 ≤ n) : RdM w (.slice (some ⟨b, 1, none⟩) (n - 1) (cap - 1)) (xss.drop 1) := by
  obtain ⟨ao, ca, vs, hvl, hv, h2, h3, h4, h5⟩ := h
  cases hv
  rcases h4 with h4 | ⟨b', off, ha, hc⟩
  · rw [h4] at hn; simp at hn
  · cases ha
    refine rdM_rows (vs := vs.drop 1) (by simp [hvl]) (by simp) (by omega) (by omega) (fun i hi => ?_) fun i hi => ?_
    · rw [List.length_drop] at hi
      have := hc (1 + i) (by omega)
      rw [Nat.zero_add] at this
      rw [this]
      simp [List.getD, Nat.add_comm]
    · rw [List.length_drop] at hi
      have := h5 (1 + i) (by omega)
      simpa [List.getD, Nat.add_comm] using this

theorem rdM_none {w : World} {ao : Option Addr} {cap : Nat} (h : cap ≤ maxLen) : RdM w (.slice ao 0 cap) [] :=
  ⟨ao, cap, [], rfl, rfl, Nat.zero_le _, h, .inl rfl, fun i hi => by simp at hi⟩

theorem ownV_below {w w' : World} {B : Nat} {v : Value} {vs : List Value} (h : OwnV w B v vs) (hb : Below w.heap.size w w') : OwnV w' B v vs := World.ownsRow.kept h (grown_of_below hb) (by
  cases ho : v.ownBlock with
  | none => exact .inl rfl
  | some z => exact .inr (by simp))

theorem wpList_catV {w : World} {ops : Array Oper} {rest : List Oper} {o : Oper} {a : Act} {Q : Exit → Act → World → Prop} (hgd : o.guard = none) (s x : Operand)
    (ho : o.op = .call { callee := .builtin .append, args := #[s, x], argTypes := #[23, 23] })
    (B g n cap : Nat) (vs : List Value) (hs : a.eval s = .slice (some ⟨g, 0, none⟩) n cap) (hown : OwnV w B (.slice (some ⟨g, 0, none⟩) n cap) vs) (hn : n = vs.length)
    (ad : Addr) (m c : Nat) (hx : a.eval x = .slice (some ad) m c) (us : List Value) (hm : m = us.length) (hc : ∀ j, j < us.length → w.cell? (ad.add j) = some (us.getD j undef)) (hu : ∀ z ∈ us, z.oneCell' = true) (hl : n + m ≤ 1000000000) (hB : B ≤ w.heap.size) (r : Nat) (hr : n + m = r)
    (h : ∀ g' cap' w', OwnV w' B (.slice (some ⟨g', 0, none⟩) r cap') (vs ++ us) → w.grownBy w' (some g) → (g' = g ∨ g' = w.heap.size) → wpList Try.prog ops Q rest (a.put o.dst (.slice (some ⟨g', 0, none⟩) r cap')) w') :
    wpList Try.prog ops Q (o :: rest) a w :=
  wpList_plain hgd fun _ hK => wp_catV s x ho B g n cap vs hs hown hn ad m c hx us hm hc hu hl hB r hr fun g' cap' w' h1 h2 h3 => hK _ _ (h g' cap' w' h1 h2 h3)

theorem rows_take {w : World} {b off p t : Nat} {vs : List Value} (hl : vs.length = p) (h : ∀ i, i < p → w.cell? ⟨b, off + i, none⟩ = some (vs.getD i undef)) : ∀ j, j < (vs.take t).length → w.cell? ((⟨b, off, none⟩ : Addr).add j) = some ((vs.take t).getD j undef) := by
  intro j hj
  rw [List.length_take] at hj
  rw [Addr.add_lit, h j (by omega)]
  simp [List.getD, List.getElem?_take, show j < t by omega]

theorem rows_drop {w : World} {b off p t : Nat} {vs : List Value} (hl : vs.length = p) (h : ∀ i, i < p → w.cell? ⟨b, off + i, none⟩ = some (vs.getD i undef)) : ∀ j, j < (vs.drop t).length → w.cell? ((⟨b, off + t, none⟩ : Addr).add j) = some ((vs.drop t).getD j undef) := by
  intro j hj
  rw [List.length_drop] at hj
  rw [Addr.add_lit, Nat.add_assoc, h (t + j) (by omega)]
  simp [List.getD]

set_option maxHeartbeats 4000000 in
theorem drawPartOf_any (a : Option Addr) (len cap : Nat) (w : World) (hby : Bytes w a len) (hlen : len ≤ 1048576) (hc : len ≤ cap) (hcm : cap ≤ maxLen) :
    Calls Try.prog 15 #[.slice a len cap] w (OfDrawn w) := by
  go_enter Try.func15, Try.ntmps15
  go_wp2_with fail
  refine (l91Some_any a len cap w hby hlen hc hcm).mono ?_
  rintro e w1 ⟨va, xs, rfl, oa, hl, _, hb1⟩
  obtain ⟨ao, ca, rfl⟩ := own_slice' oa
  obtain ⟨n, hn⟩ : ∃ n, n = xs.length := ⟨_, rfl⟩
  rw [← hn] at hl oa ⊢
  have HN := Lib.hid hn
  have HB1 := Lib.hid (bytes_below hby hb1)
  have hrd := own_rdv oa
  clear hn oa
  by_cases hp : partIn xs = true
  · obtain ⟨p, hpe⟩ : ∃ p : Nat, p = (pSize xs).toNat := ⟨_, rfl⟩
    have hbd := pSize_bd (partIn_small hp)
    have hpos := pSize_pos (partIn_small hp) (partIn_len hp).1
    have e1 : partBlocks xs = (blocksTo xs p, true) := by rw [hpe]; simp [partBlocks, hp]
    have hp1 : 1 ≤ p := by omega
    have hp8 : p ≤ 8 := by omega
    have hbl := blocksTo_length xs p
    generalize blocksTo xs p = rows at *
    have HP := Lib.hid (e1 ▸ sPartBlocks_v _ xs w1 hrd)
    clear e1 hpe hbd hpos hrd hp
    go_wp2_with fail
    refine HP.out.mono ?_
    rintro e w2 ⟨v_l, rfl, ol, hb2⟩
    obtain ⟨lo, lc, vs, hvl, rfl, h2, h3, h4, h5⟩ := ownM_rdM (xss := rows) ol
    rw [hbl] at hvl h2 h4 h5 ⊢
    rcases h4 with h4 | ⟨b, off, rfl, hcell⟩
    · rw [h4] at hbl; simp at hbl; omega
    have HR := Lib.hid h5
    have HCE := Lib.hid hcell
    have HVL := Lib.hid hvl
    have HBL := Lib.hid hbl
    have HB2 := Lib.hid (bytes_below HB1.out hb2)
    have hb12 := below_step hb1 hb2
    clear h5 hcell hvl hbl HP ol
    go_wp2_with fail
    refine (open_r a len cap w2 HB2.out hlen hc hcm).mono ?_
    rintro e w3 ⟨g, m, cp, rfl, r3⟩
    obtain ⟨hf1, hf2, hf3, hf4⟩ := rdr_facts r3.rdr
    obtain ⟨r4, hg4⟩ := rds_set r3 61
    have R4 := Lib.hid r4
    have hx61 : ((61 : Nat) : Int) = 61 := rfl
    rw [hx61] at R4
    obtain ⟨w4, hw4⟩ : ∃ w4, w4 = w3.setCell ⟨g, 1, none⟩ (.int .i64 61) := ⟨_, rfl⟩
    have HW4 := Lib.hid hw4
    have c1 : ((p : Int) == 0) = false := by simp; omega
    clear r4 hg4 hw4 hx61 r3
    go_wp2_with fail
    rw [← HW4.out]
    rw [← HW4.out] at R4
    refine (pick_r R4.out _ (by omega) (by omega) (by omega)).mono ?_
    rintro e wo ⟨t, rfl, ht, r5, hg5⟩
    have hW1 : Below wo.heap.size wo (wo.alloc (.cells #[] 26)).drew := ((Below.refl _ wo).alloc (Nat.le_refl _) _).drew
    have HW1 := Lib.hid hW1
    have HCO := Lib.hid (fun (w' : World) (hb : Below wo.heap.size wo w') (i : Nat) (hi : i < p) => show w'.cell? ⟨b, off + i, none⟩ = some (vs.getD i undef) by
      have h1 := HCE.out i hi
      have hb' := below_step r5.below hb
      rw [hb'.cell (World.block_lt_of_cell? w2 _ h1)]
      exact h1)
    have HONE := Lib.hid (fun z (hz : z ∈ vs) => show z.oneCell' = true by
      obtain ⟨i, hi, e⟩ := List.getElem_of_mem hz
      have := HR.out i (by rw [← HVL.out]; exact hi)
      have e2 : vs.getD i undef = z := by simp [List.getD, List.getElem?_eq_getElem hi, e]
      rw [e2] at this
      exact rdv_one this)
    have hb0 : (0 : Int) ≤ (t : Int) := by omega
    have hb1' : (t : Int) ≤ (lc : Int) := by omega
    have hb2' : (t : Int) ≤ (p : Int) := by omega
    have hb3 : (p : Int) ≤ (lc : Int) := by omega
    have hct : ¬ lc = t := by omega
    clear hW1 hg5
    go_wp2
    go_region_held3 (fun w' => True) (trivial) (first | (refine step_catV rfl _ _ (by rfl) wo.heap.size g2 (p - t) cap2 (vs.drop t) (by rfl) HO2.out (by rw [List.length_drop, HVL.out]) ⟨b, off, none⟩ t _ (by rfl) (vs.take t) (by rw [List.length_take, HVL.out]; omega) (rows_take HVL.out (HCO.out _ hbw2)) (fun z hz => HONE.out z (List.mem_of_mem_take hz)) (by omega) hbw2.size p (by omega) ?_; intro g3 cap3 w5 hown3 hgr3 hg3; have HO3 := Lib.hid hown3; have hbw3 := hbw2.grown hgr3 hbw2.size (fun q hq => by cases hq; exact (ownV_facts HO2.out).2.2.2.1); clear hown3 hgr3 hg3) | (refine step_catV rfl _ _ (by rfl) wo.heap.size wo.heap.size 0 0 [] (by rfl) (ownV_empty wo _ (Nat.le_refl _)) rfl ⟨b, off + t, none⟩ (p - t) _ (by rfl) (vs.drop t) (by rw [List.length_drop, HVL.out]) (rows_drop HVL.out (HCO.out _ HW1.out)) (fun z hz => HONE.out z (List.mem_of_mem_drop hz)) (by omega) HW1.out.size (p - t) (by omega) ?_; intro g2 cap2 w8 hown2 hgr2 hg2; rw [List.nil_append] at hown2; have HO2 := Lib.hid hown2; have hbw2 := HW1.out.grown hgr2 HW1.out.size (fun q hq => by cases hq; omega); clear hown2 hgr2 hg2))
    have R5 := Lib.hid (r5.step hbw3)
    have hgl := r5.lt
    clear r5 hbw3 hbw2
    go_wp2_with fail
    refine (pick_r R5.out _ (by omega) (by omega) (by omega)).mono ?_
    rintro e w6 ⟨t2, rfl, ht2, r6, hg6⟩
    have ho6 : OwnV w6 wo.heap.size (.slice (some ⟨g3, 0, none⟩) p cap3) (turnAt vs t) := World.ownsRow.kept HO3.out hg6 (.inr fun e => by
      have := (ownV_facts HO3.out).2.2.2.1
      simp [Value.ownBlock] at e
      omega)
    obtain ⟨f0, f1, f2, f3, f4, f5⟩ := ownV_facts ho6
    clear f0
    have hbig := below_step hb12 r6.below
    have hout : RdM w6 (.slice (some ⟨g3, 0, none⟩) p cap3) (turnAt rows t) := rdM_rows (vs := turnAt vs t) (by rw [turnAt_length, turnAt_length, HVL.out, HBL.out]) (by rw [turnAt_length, HBL.out]) f1 f2 (fun i hi => by rw [Nat.zero_add]; exact f5 i (by rw [turnAt_length] at hi ⊢; rw [HVL.out, ← HBL.out]; exact hi)) fun i hi => by
      rw [turnAt_length, HBL.out] at hi
      rw [turnAt_get vs t undef (by rw [HVL.out]; omega) i (by rw [HVL.out]; exact hi), turnAt_get rows t [] (by rw [HBL.out]; omega) i (by rw [HBL.out]; exact hi), HVL.out, HBL.out]
      exact rdv_below (HR.out _ (by split <;> omega)) r6.below
    have HROW := Lib.hid (fun (w' : World) (hb : Below w2.heap.size w2 w') (i : Nat) (hi : i < p) => show RdV w' ((turnAt vs t).getD i undef) ((turnAt rows t).getD i []) by
      rw [turnAt_get vs t undef (by rw [HVL.out]; omega) i (by rw [HVL.out]; exact hi), turnAt_get rows t [] (by rw [HBL.out]; omega) i (by rw [HBL.out]; exact hi), HVL.out, HBL.out]
      exact rdv_below (HR.out _ (by split <;> omega)) hb)
    have HB6 := Lib.hid r6.below
    have hg3b : w2.heap.size ≤ g3 := by have := f3; have := hgl; have := r6.hg; omega
    have HTV := Lib.hid (show (turnAt vs t).length = p by rw [turnAt_length, HVL.out])
    have HTR := Lib.hid (show (turnAt rows t).length = p by rw [turnAt_length, HBL.out])
    have hwo6 : wo.heap.size ≤ w6.heap.size := by omega
    have HOUT := Lib.hid hout
    have HO6 := Lib.hid ho6
    have HBIG := Lib.hid hbig
    clear hout ho6 hbig f5 hg6 R5
    have hp3 : (1 : Int) ≤ (cap3 : Int) := by omega
    have hp4 : (1 : Int) ≤ (p : Int) := by omega
    have hp5 : (p : Int) ≤ (cap3 : Int) := by omega
    by_cases h0 : t2 = 0
    · subst h0
      by_cases hcp : cap3 = 1
      · have hpe : p = 1 := by omega
        subst hcp
        subst hpe
        go_wp2
        go_quiet (fail)
        go_wp2
        go_ret2
        exact ⟨n, _, [], rfl, by omega, rdM_none (by omega), by simp, below_drewN HBIG.out _⟩
      · have HT := Lib.hid (rdM_tail HOUT.out hp1)
        go_wp2
        go_quiet (fail)
        go_wp2
        go_ret2
        exact ⟨n, _, (turnAt rows t).drop 1, rfl, by omega, rdM_below HT.out (below_drewN (Below.refl _ _) _), by rw [List.length_drop, turnAt_length, HBL.out]; omega, below_drewN HBIG.out _⟩
    · have d0 : ((t2 : Int) == 0) = false := by simp; omega
      by_cases h1 : t2 = 1
      · subst h1
        have HOV := Lib.hid (fun (w' : World) (hb : Below w6.heap.size w6 w') => ownV_below HO6.out hb)
        have hA : Below w6.heap.size w6 ((w6.alloc (.cells #[] 3)).alloc (.cells #[.slice (some ⟨w6.heap.size, 0, none⟩) 0 0] 26)) := ((Below.refl _ _).alloc (Nat.le_refl _) _).alloc (by simp) _
        have hC : ((w6.alloc (.cells #[] 3)).alloc (.cells #[.slice (some ⟨w6.heap.size, 0, none⟩) 0 0] 26)).cell? ⟨w6.heap.size + 1, 0, none⟩ = some (.slice (some ⟨w6.heap.size, 0, none⟩) 0 0) := by
          have := cell_new1 (w6.alloc (.cells #[] 3)) (.slice (some ⟨w6.heap.size, 0, none⟩) 0 0) 26
          simpa using this
        have HA := Lib.hid hA
        have HC := Lib.hid hC
        clear hA hC
        have HCJ := Lib.hid (fun (j : Nat) (hj : j < [Value.slice (some ⟨w6.heap.size, 0, none⟩) 0 0].length) => show ((w6.alloc (.cells #[] 3)).alloc (.cells #[.slice (some ⟨w6.heap.size, 0, none⟩) 0 0] 26)).cell? ((⟨w6.heap.size + 1, 0, none⟩ : Addr).add j) = some ([Value.slice (some ⟨w6.heap.size, 0, none⟩) 0 0].getD j undef) by
          obtain rfl : j = 0 := by simpa using hj
          rw [Addr.add_lit]
          exact HC.out)
        have HU1 := Lib.hid (fun (z : Value) (hz : z ∈ [Value.slice (some ⟨w6.heap.size, 0, none⟩) 0 0]) => show z.oneCell' = true by
          simp at hz
          subst hz
          rfl)
        go_wp2_with (at_builtin; refine wpList_catV rfl _ _ rfl wo.heap.size g3 p cap3 (turnAt vs t) rfl (HOV.out _ HA.out) HTV.out.symm ⟨w6.heap.size + 1, 0, none⟩ 1 1 rfl [.slice (some ⟨w6.heap.size, 0, none⟩) 0 0] rfl HCJ.out HU1.out (by omega) (Nat.le_trans hwo6 HA.out.size) (p + 1) rfl ?_)
        intro g4 cap4 w7 hown4 hgr4 hg4
        have hb7 : Below w2.heap.size w2 w7 := (below_step HB6.out HA.out).grown hgr4 (below_step HB6.out HA.out).size (fun q hq => by cases hq; exact hg3b)
        obtain ⟨f0, k1, k2, k3, k4, k5⟩ := ownV_facts hown4
        clear f0
        have hrd : RdM w7 (.slice (some ⟨g4, 0, none⟩) (p + 1) cap4) (turnAt rows t ++ [[]]) := rdM_rows (vs := turnAt vs t ++ [.slice (some ⟨w6.heap.size, 0, none⟩) 0 0]) (by simp [HTV.out, HTR.out]) (by simp [HTR.out]) k1 k2 (fun i hi => by
          rw [Nat.zero_add]
          exact k5 i (by simp [HTR.out] at hi; simp [HTV.out]; omega)) fun i hi => by
          simp [HTR.out] at hi
          by_cases hip : i < p
          · rw [getD_snocV_lt _ _ _ _ (by rw [HTV.out]; exact hip), getD_snocV_lt _ _ _ _ (by rw [HTR.out]; exact hip)]
            exact HROW.out _ hb7 i hip
          · obtain rfl : i = p := by omega
            have x1 : (turnAt vs t ++ [Value.slice (some ⟨w6.heap.size, 0, none⟩) 0 0]).getD i undef = .slice (some ⟨w6.heap.size, 0, none⟩) 0 0 := by
              have := getD_snocV_eq (turnAt vs t) (Value.slice (some ⟨w6.heap.size, 0, none⟩) 0 0) undef
              rwa [HTV.out] at this
            have x2 : (turnAt rows t ++ [[]]).getD i [] = [] := by
              have := getD_snocV_eq (turnAt rows t) ([] : List Int) []
              rwa [HTR.out] at this
            rw [x1, x2]
            exact ⟨_, 0, rfl, .inl rfl, Nat.le_refl _, by unfold maxLen; omega⟩
        have HRD := Lib.hid hrd
        have HB7 := Lib.hid hb7
        clear hrd hb7 hown4 hgr4 hg4 k1 k2 k3 k4 k5
        go_wp2
        go_ret2
        exact ⟨n, _, turnAt rows t ++ [[]], rfl, by omega, HRD.out, by simp [HTR.out]; omega, below_step hb12 HB7.out⟩
      · have d1 : ((t2 : Int) == 1) = false := by simp; omega
        by_cases h2 : t2 = 2
        · subst h2
          go_wp2
          go_ret2
          exact ⟨n + 1, _, turnAt rows t, rfl, by omega, HOUT.out, by rw [turnAt_length, HBL.out]; omega, HBIG.out⟩
        · have d2 : ((t2 : Int) == 2) = false := by simp; omega
          go_wp2
          go_ret2
          exact ⟨n, _, turnAt rows t, rfl, by omega, HOUT.out, by rw [turnAt_length, HBL.out]; omega, HBIG.out⟩
  · have e1 : partBlocks xs = ([], false) := by simp [partBlocks, hp]
    have HP := Lib.hid (e1 ▸ sPartBlocks_v _ xs w1 hrd)
    clear e1 hrd hp
    go_wp2_with fail
    refine HP.out.mono ?_
    rintro e w2 ⟨v_l, rfl, ol, hb2⟩
    have HB2 := Lib.hid (bytes_below HB1.out hb2)
    have hb12 := below_step hb1 hb2
    clear HP ol
    go_wp2_with fail
    refine (open_r a len cap w2 HB2.out hlen hc hcm).mono ?_
    rintro e w3 ⟨g, m, cp, rfl, r3⟩
    obtain ⟨hf1, hf2, hf3, hf4⟩ := rdr_facts r3.rdr
    obtain ⟨r4, hg4⟩ := rds_set r3 61
    have R4 := Lib.hid r4
    have hx61 : ((61 : Nat) : Int) = 61 := rfl
    rw [hx61] at R4
    have hlit := rdM_lit1 (w3.setCell ⟨g, 1, none⟩ (.int .i64 61))
    rw [show (w3.setCell ⟨g, 1, none⟩ (.int .i64 61)).heap.size = w3.heap.size by simp [World.setCell]] at hlit
    have HLIT := Lib.hid hlit
    clear r4 hg4 hx61 r3 hlit
    go_wp2
    go_ret2
    exact ⟨n, _, [[0]], rfl, by omega, HLIT.out, by simp, below_step hb12 ((R4.out.below.alloc R4.out.below.size _).alloc (Nat.le_trans R4.out.below.size (by simp)) _)⟩

end Go.Proofs.Ytabgadmdjpohaaa
