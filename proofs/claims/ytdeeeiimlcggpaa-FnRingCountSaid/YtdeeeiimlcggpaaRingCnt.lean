/-
  The contracts of RingCount (impl and spec): products of factorials.
-/
import Derived.Test.YtdeeeiimlcggpaaSpecType
namespace Go.Proofs.Ytdeeeiimlcggpaa
set_option linter.unusedSimpArgs false
set_option linter.unusedVariables false
set_option linter.unnecessarySimpa false
set_option maxRecDepth 100000
open Go.RowKit

def facR : Nat → Nat
  | 0 => 1
  | k + 1 => (k + 1) * facR k

theorem facR_pos (k : Nat) : 1 ≤ facR k := by
  induction k with
  | zero => exact Nat.le_refl _
  | succ k ih => exact Nat.le_trans ih (Nat.le_mul_of_pos_left _ (Nat.succ_pos k))
theorem facR_mono {a b : Nat} (h : a ≤ b) : facR a ≤ facR b := by
  induction b with
  | zero => obtain rfl : a = 0 := by omega
            exact Nat.le_refl _
  | succ b ih =>
    by_cases e : a = b + 1
    · rw [e]; exact Nat.le_refl _
    · exact Nat.le_trans (ih (by omega)) (Nat.le_mul_of_pos_left _ (Nat.succ_pos b))
theorem facR_mul (a b : Nat) : facR a * facR b ≤ facR (a + b) := by
  induction b with
  | zero => simp [facR]
  | succ b ih =>
    show facR a * ((b + 1) * facR b) ≤ (a + b + 1) * facR (a + b)
    rw [Nat.mul_left_comm]
    exact Nat.mul_le_mul (by omega) ih

/-- The factors of a list of sizes, multiplied. -/
def facP (l : List Int) : Nat := l.foldr (fun x a => facR (x - 1).toNat * a) 1
def sumN (l : List Int) : Nat := l.foldr (fun x a => x.toNat + a) 0

theorem facP_append (l m : List Int) : facP (l ++ m) = facP l * facP m := by
  induction l with
  | nil => simp [facP]
  | cons x l ih =>
    show facR (x - 1).toNat * facP (l ++ m) = facR (x - 1).toNat * facP l * facP m
    rw [ih, Nat.mul_assoc]
theorem facP_snoc (l : List Int) (x : Int) : facP (l ++ [x]) = facP l * facR (x - 1).toNat := by
  rw [facP_append]
  simp [facP]
theorem facP_perm {l m : List Int} (h : l.Perm m) : facP l = facP m := by
  induction h with
  | nil => rfl
  | cons x _ ih => show _ * facP _ = _ * facP _; rw [ih]
  | swap x y l => show _ * (_ * facP l) = _ * (_ * facP l); rw [Nat.mul_left_comm]
  | trans _ _ a b => exact a.trans b
theorem sumN_append (l m : List Int) : sumN (l ++ m) = sumN l + sumN m := by
  induction l with
  | nil => simp [sumN]
  | cons x l ih =>
    show x.toNat + sumN (l ++ m) = x.toNat + sumN l + sumN m
    rw [ih, Nat.add_assoc]
theorem sumN_perm {l m : List Int} (h : l.Perm m) : sumN l = sumN m := by
  induction h with
  | nil => rfl
  | cons x _ ih => show _ + sumN _ = _ + sumN _; rw [ih]
  | swap x y l => show _ + (_ + sumN l) = _ + (_ + sumN l); omega
  | trans _ _ a b => exact a.trans b
theorem facP_le (l : List Int) : facP l ≤ facR (sumN l) := by
  induction l with
  | nil => exact Nat.le_refl _
  | cons x l ih =>
    show facR (x - 1).toNat * facP l ≤ facR (x.toNat + sumN l)
    exact Nat.le_trans (Nat.mul_le_mul (Nat.le_refl _) ih) (Nat.le_trans (facR_mul _ _) (facR_mono (by omega)))
theorem sumN_take (l : List Int) (k : Nat) : sumN (l.take k) ≤ sumN l := by
  have := sumN_append (l.take k) (l.drop k)
  rw [List.take_append_drop] at this
  omega

theorem facR8 : facR 8 = 40320 := by decide

/-- A product on the way: all that are taken, and some of the next one. -/
theorem facP_way (l : List Int) (k o : Nat) (hk : k < l.length) (ho : o ≤ (l.getD k 0).toNat) (hs : sumN l ≤ 8) : facP (l.take k) * facR o ≤ 40320 := by
  have h1 := take_snoc l k hk
  have h2 := sumN_take l (k + 1)
  rw [h1, sumN_append] at h2
  have h3 : sumN [l.getD k 0] = (l.getD k 0).toNat := by simp [sumN]
  rw [← facR8]
  exact Nat.le_trans (Nat.mul_le_mul (facP_le _) (Nat.le_refl _)) (Nat.le_trans (facR_mul _ _) (facR_mono (by omega)))

/-- The sizes add up to all things. -/
theorem ind_sum (x p : Nat) : ((List.range p).map fun b => if x = b then 1 else 0).sum = if x < p then 1 else 0 := by
  induction p with
  | zero => simp
  | succ p ih =>
    rw [List.range_succ, List.map_append, List.sum_append, ih]
    simp only [List.map_cons, List.map_nil, List.sum_cons, List.sum_nil]
    split <;> split <;> split <;> omega
theorem map_sum_add (l : List Nat) (f g : Nat → Nat) : (l.map fun b => f b + g b).sum = (l.map f).sum + (l.map g).sum := by
  induction l with
  | nil => rfl
  | cons a l ih => simp only [List.map_cons, List.sum_cons, ih]; omega
theorem cnt_sum (xs : List Int) (p : Nat) : ∀ k, (∀ j, j < k → 0 ≤ xs.getD j 0 ∧ xs.getD j 0 < p) → ((List.range p).map fun b => cntAt xs b k).sum = k := by
  intro k
  induction k with
  | zero =>
    intro _
    have : ∀ l : List Nat, (l.map fun b => cntAt xs b 0).sum = 0 := by
      intro l
      induction l with
      | nil => rfl
      | cons a l ih => simp only [List.map_cons, List.sum_cons, ih]; rfl
    exact this _
  | succ k ih =>
    intro h
    obtain ⟨h0, h1⟩ := h k (by omega)
    obtain ⟨x, hx⟩ := Int.eq_ofNat_of_zero_le h0
    have e : (fun b => cntAt xs b (k + 1)) = fun b => cntAt xs b k + if x = b then 1 else 0 := by
      funext b
      rw [cntAt, hx]
      by_cases hb : x = b
      · simp [hb]
      · have : ¬ (x : Int) = (b : Int) := by omega
        simp [hb, this]
    rw [e, map_sum_add, ih (fun j hj => h j (by omega)), ind_sum, if_pos (by omega)]

theorem sizes_sumN {xs : List Int} (hp : partIn xs = true) : sumN (sizes xs) = xs.length := by
  have hs := partIn_small hp
  have hbd := pSize_bd hs
  have := cnt_sum xs (pSize xs).toNat xs.length (fun j hj => ⟨(hs j hj).1, by have := lt_pSize xs j hj; omega⟩)
  rw [← this]
  unfold sizes
  generalize List.range (pSize xs).toNat = l
  induction l with
  | nil => rfl
  | cons a l ih =>
    show ((cntAt xs a xs.length : Nat) : Int).toNat + sumN _ = _
    rw [ih]
    simp

def ringCount (xs : List Int) : Int × Bool := if partIn xs then ((facP (sizes xs) : Nat), true) else (0, false)

set_option maxHeartbeats 800000 in
theorem l2FactR_v (c : Int) (w : World) (h0 : -1 ≤ c) (h8 : c ≤ 7) : Calls Try.prog 16 #[.int .i64 c] w fun e w' => e = .returned (.int .i64 (facR c.toNat : Nat)) ∧ w = w' := by
  go_enter Try.func16, Try.ntmps16
  go_wp2
  go_loop [3, 4] (fun u i => ∃ k : Nat, (k = 1 ∨ (k : Int) ≤ c) ∧ 1 ≤ k ∧ k ≤ 7 ∧ i = .int .i64 ((k + 1 : Nat) : Int) ∧ u = .int .i64 ((facR k : Nat) : Int)) (fun _ i => 9 - (intOf i).toNat)
  case atStart => exact ⟨1, .inl rfl, Nat.le_refl _, by omega, rfl, rfl⟩
  case round =>
    obtain ⟨k, hk, hk1, hk7, rfl, rfl⟩ := hrel
    have hf : facR k ≤ 5040 := facR_mono (b := 7) hk7
    have e1 : facR (k + 1) = (k + 1) * facR k := rfl
    have hle : (k + 1) * facR k ≤ 8 * 5040 := Nat.mul_le_mul (by omega) hf
    have e2 : ((facR k : Nat) : Int) * ((k + 1 : Nat) : Int) = ((facR (k + 1) : Nat) : Int) := by rw [e1, Nat.mul_comm]; simp
    have hn : facR (k + 1) ≤ 40320 := by rw [e1]; exact hle
    have E2 := Lib.hid e2
    have EV : Hid (¬ ((k + 1 : Nat) : Int) ≤ c → facR k = facR c.toNat) := Lib.hid (fun h => by
      rcases hk with rfl | hk
      · rcases (show c.toNat = 0 ∨ c.toNat = 1 by omega) with h | h <;> rw [h] <;> rfl
      · rw [show c.toNat = k by omega])
    obtain ⟨f, hfe⟩ : ∃ f, f = facR k := ⟨_, rfl⟩
    obtain ⟨g, hge⟩ : ∃ g, g = facR (k + 1) := ⟨_, rfl⟩
    obtain ⟨j, hj⟩ : ∃ j, j = k + 1 := ⟨_, rfl⟩
    rw [← hfe] at hf E2 EV ⊢
    rw [← hge] at hn E2
    rw [← hj] at E2 EV ⊢
    have HG := Lib.hid hge
    have HJ := Lib.hid hj
    clear e1 e2 hle hfe hge
    by_cases hlt : (j : Int) ≤ c
    · have hm := E2.out
      have hj7 : j ≤ 7 := by omega
      clear hk hj E2
      have HW : Hid (wrap64 ((f : Int) * (j : Int)) = (g : Int)) := Lib.hid (by rw [hm]; exact IntWalk.wrap64_in _ (by omega))
      clear hm
      go_wp2
      go_round
      case rel => exact ⟨j, .inr hlt, by have := HJ.out; omega, hj7, by go_num, by rw [HW.out, HG.out, ← HJ.out]⟩
      case measure => simp [intOf]; omega
    · have := EV.out hlt
      have HV := Lib.hid this
      clear this hk hj
      go_wp2
      go_ret
      exact ⟨by rw [HV.out]; rfl, rfl⟩

set_option maxHeartbeats 3200000 in
theorem iRingCount_v (v : Value) (xs : List Int) (w : World) (hv : RdV w v xs) : Calls Try.prog 5 #[v] w (GivesIB w (ringCount xs)) := by
  have hv0 := hv
  obtain ⟨ao, ca, rfl, h, h1, h2⟩ := hv
  unfold maxLen at h2
  have HV := Lib.hid hv0
  clear hv0 h
  by_cases hp : partIn xs = true
  · have he : ringCount xs = (((facP (sizes xs) : Nat) : Int), true) := by simp [ringCount, hp]
    rw [he]
    have HP := Lib.hid hp
    have hsum := sizes_sumN hp
    have hsm := partIn_small hp
    have hbd := pSize_bd hsm
    have hl := partIn_len hp
    rw [hsum.symm] at hl
    obtain ⟨p, hps⟩ := Int.eq_ofNat_of_zero_le hbd.1
    rw [hps] at hbd
    have HPS := Lib.hid hps
    have hsl : (sizes xs).length = p := by rw [sizes_length]; omega
    have hsz : ∀ b, b < p → (sizes xs).getD b 0 = ((cntAt xs b xs.length : Nat) : Int) := by
      intro b hb
      have : b < (pSize xs).toNat := by omega
      simp [sizes, List.getD, this]
    obtain ⟨l, hle⟩ : ∃ l, l = sizes xs := ⟨_, rfl⟩
    rw [← hle] at hl hsl hsz ⊢
    have HSL := Lib.hid hsl
    have HSZ := Lib.hid hsz
    have HSUM : Hid (sumN l ≤ 8) := Lib.hid hl.2
    have HXL : Hid (xs.length ≤ 8) := Lib.hid (partIn_len hp).2
    clear he hp hsum hsm hps hsl hsz hle hl
    go_enter Try.func5, Try.ntmps5
    go_wp2_with fail
    refine (iPartIn_is true _ _ _ HV.out HP).mono ?_
    rintro e w' ⟨rfl, rfl⟩
    go_wp2_with fail
    refine (blocksOf_v _ xs p _ HV.out HP.out HPS.out).mono ?_
    rintro e w2 ⟨rfl, hu2, hb2⟩
    have HU := Lib.hid hu2
    have HB := Lib.hid hb2
    clear hu2 hb2
    go_wp2
    go_loopw [4, 14] (fun u i wr => ∃ k : Nat, k ≤ p ∧ i = .int .i64 k ∧ u = .int .i64 ((facP (l.take k) : Nat) : Int) ∧ wr = w2) (fun _ i _ => p - (intOf i).toNat)
    case atStart => exact ⟨0, Nat.zero_le _, rfl, rfl, rfl⟩
    case round =>
      obtain ⟨k, hk, rfl, rfl, rfl⟩ := hrel
      by_cases hlt : k < p
      · have hml : (masks xs xs.length p).length = p := by simp [masks]
        have hcm := ownU_cell HU.out hml.symm k (by omega)
        have hgm : (masks xs xs.length p).getD k 0 = maskAt xs k xs.length := by simp [masks, List.getD, hlt]
        rw [hgm] at hcm
        have hm256 := maskAt_256 xs k xs.length HXL.out
        have hcnt := cnt_mask xs k xs.length HXL.out
        have hz := HSZ.out k hlt
        obtain ⟨m, hm⟩ : ∃ m, m = maskAt xs k xs.length := ⟨_, rfl⟩
        obtain ⟨c, hc⟩ : ∃ c, c = cntAt xs k xs.length := ⟨_, rfl⟩
        rw [← hm] at hcm hm256 hcnt
        rw [← hc] at hcnt hz
        have hway : ∀ o, o ≤ c → facP (l.take k) * facR o ≤ 40320 := fun o ho => facP_way l k o (by rw [HSL.out]; exact hlt) (by rw [hz]; simpa using ho) HSUM.out
        have hend : facP (l.take (k + 1)) = facP (l.take k) * facR (c - 1) := by
          rw [take_snoc l k (by rw [HSL.out]; exact hlt), facP_snoc, hz]
          congr 2
          omega
        have hc8 : c ≤ 8 := by rw [← hcnt]; exact (show ∀ b, b < 256 → cnt b ≤ 8 by decide +kernel) m hm256
        obtain ⟨f, hf⟩ : ∃ f, f = facP (l.take k) := ⟨_, rfl⟩
        rw [← hf] at hway hend ⊢
        have HWAY := Lib.hid hway
        have HEND := Lib.hid hend
        have HCNT := Lib.hid hcnt
        have HF := Lib.hid hf
        clear hml hgm hz hm hc hway hend hcnt hf
        obtain ⟨w3, hw3⟩ : ∃ w3 : World, w3 = wr := ⟨_, rfl⟩
        subst hw3
        go_wp2
        go_loopw [4, 7] (fun u i wq => ∃ o : Nat, (o = 0 ∨ o + 1 ≤ c) ∧ i = .int .i64 ((o + 1 : Nat) : Int) ∧ u = .int .i64 ((f * facR o : Nat) : Int) ∧ wq = w3) (fun _ i _ => 10 - (intOf i).toNat)
        case atStart => exact ⟨0, .inl rfl, rfl, by simp [facR], rfl⟩
        case round =>
          obtain ⟨o, ho, rfl, rfl, rfl⟩ := hrel
          obtain ⟨j, hj⟩ : ∃ j, j = o + 1 := ⟨_, rfl⟩
          rw [← hj]
          have hb1 : f * facR o ≤ 40320 := HWAY.out o (by omega)
          by_cases hjc : j < c
          · have hb2 : f * facR j ≤ 40320 := HWAY.out j (by omega)
            have e2 : ((f * facR o : Nat) : Int) * (j : Int) = ((f * facR j : Nat) : Int) := by
              rw [hj, show facR (o + 1) = (o + 1) * facR o from rfl, ← Nat.mul_assoc, Nat.mul_right_comm, ← Int.natCast_mul]
            have HW : Hid (wrap64 (((f * facR o : Nat) : Int) * (j : Int)) = ((f * facR j : Nat) : Int)) := Lib.hid (by rw [e2]; exact IntWalk.wrap64_in _ (by omega))
            obtain ⟨a, ha⟩ : ∃ a, a = f * facR o := ⟨_, rfl⟩
            obtain ⟨b, hb⟩ : ∃ b, b = f * facR j := ⟨_, rfl⟩
            rw [← ha] at hb1 HW ⊢
            rw [← hb] at hb2 HW
            have HBB := Lib.hid hb
            have hj8 : j ≤ 8 := by omega
            have hjc' : (j : Int) < (c : Int) := by omega
            clear e2 ho hj ha hb
            go_wp2_with fail
            refine (size_any m _ hm256).mono ?_
            rintro e w' ⟨rfl, rfl⟩
            rw [HCNT.out]
            go_wp2
            go_roundw
            case rel => exact ⟨j, .inr (by omega), by go_num, by first | rw [HW.out, HBB.out] | rw [HBB.out, HW.out], trivial⟩
            case measure => simp [intOf]; omega
          · have hoe : facR o = facR (c - 1) := by
              rcases ho with rfl | ho
              · rcases (show c - 1 = 0 by omega) with h
                rw [h]
              · rw [show o = c - 1 by omega]
            have hend := HEND.out
            rw [← hoe] at hend
            have HEND2 := Lib.hid hend
            obtain ⟨a, ha⟩ : ∃ a, a = f * facR o := ⟨_, rfl⟩
            rw [← ha] at hb1 HEND2 ⊢
            have hjc' : ¬ (j : Int) < (c : Int) := by omega
            clear hend hoe ho hj ha
            go_wp2_with fail
            refine (size_any m _ hm256).mono ?_
            rintro e w' ⟨rfl, rfl⟩
            rw [HCNT.out]
            go_wp2
            go_roundw
            case rel => exact ⟨k + 1, by omega, by go_num, by rw [HEND2.out], trivial⟩
            case measure => simp [intOf]; omega
      · have hkp : k = p := by omega
        subst hkp
        have ht : l.take k = l := List.take_of_length_le (by rw [HSL.out]; exact Nat.le_refl _)
        rw [ht]
        go_wp2
        go_ret2
        exact ⟨rfl, HB.out⟩
  · have hp : partIn xs = false := by simpa using hp
    have he : ringCount xs = (0, false) := by simp [ringCount, hp]
    rw [he]
    have HP := Lib.hid hp
    clear he hp
    go_enter Try.func5, Try.ntmps5
    go_wp2_with fail
    refine (iPartIn_is false _ _ _ HV.out HP).mono ?_
    rintro e w' ⟨rfl, rfl⟩
    go_wp2
    go_ret2
    exact ⟨rfl, Below.refl _ _⟩

set_option maxHeartbeats 3200000 in
theorem sRingCount_v (v : Value) (xs : List Int) (w : World) (hv : RdV w v xs) : Calls Try.prog 6 #[v] w (GivesIB w (ringCount xs)) := by
  have hv0 := hv
  obtain ⟨ao, ca, rfl, h, h1, h2⟩ := hv
  unfold maxLen at h2
  have HV := Lib.hid hv0
  clear hv0 h
  by_cases hp : partIn xs = true
  · have he : ringCount xs = (((facP (desc (sizes xs)) : Nat) : Int), true) := by simp [ringCount, hp, facP_perm (desc_perm (sizes xs))]
    rw [he]
    have HP := Lib.hid hp
    have hsum := sizes_sumN hp
    rw [← sumN_perm (desc_perm (sizes xs))] at hsum
    have hl := (partIn_len hp).2
    rw [← hsum] at hl
    have hnn : ∀ k, k < (desc (sizes xs)).length → 0 ≤ (desc (sizes xs)).getD k 0 ∧ (desc (sizes xs)).getD k 0 ≤ 8 := by
      intro k hk
      have hm : (desc (sizes xs)).getD k 0 ∈ sizes xs := (desc_perm (sizes xs)).mem_iff.1 (by
        simp [List.getD, hk])
      obtain ⟨b, _, hb⟩ := List.mem_map.1 hm
      have := cntAt_le xs b xs.length
      have := (partIn_len hp).2
      omega
    have hlen : (desc (sizes xs)).length ≤ 8 := by
      have := pSize_bd (partIn_small hp)
      rw [desc_length, sizes_length]; omega
    obtain ⟨l, hle⟩ : ∃ l, l = desc (sizes xs) := ⟨_, rfl⟩
    have HLE := Lib.hid hle
    rw [← hle] at hl hnn hlen ⊢
    obtain ⟨p, hpl⟩ : ∃ p, p = l.length := ⟨_, rfl⟩
    rw [← hpl] at hnn hlen
    have HNN := Lib.hid hnn
    have HPL := Lib.hid hpl
    have HSUM : Hid (sumN l ≤ 8) := Lib.hid hl
    clear he hp hsum hnn hle hl hpl
    go_enter Try.func6, Try.ntmps6
    go_wp2_with fail
    refine (sPartIn_is true _ _ _ HV.out HP).mono ?_
    rintro e w' ⟨rfl, rfl⟩
    go_wp2_with fail
    refine (l1Type_v _ xs _ HV.out HP.out).mono ?_
    rw [← HLE.out]
    rintro e w2 ⟨u, rfl, ho, hb⟩
    obtain ⟨ao2, ca2, rfl, hrd, _, _⟩ := own_rd ho
    rw [← HPL.out]
    have HRD := Lib.hid hrd
    have HB := Lib.hid hb
    clear ho hrd hb
    go_wp2
    go_loopw [4, 6] (fun u i wr => ∃ k : Nat, k ≤ p ∧ i = .int .i64 k ∧ u = .int .i64 ((facP (l.take k) : Nat) : Int) ∧ wr = w2) (fun _ i _ => p - (intOf i).toNat)
    case atStart => exact ⟨0, Nat.zero_le _, rfl, rfl, rfl⟩
    case round =>
      obtain ⟨k, hk, rfl, rfl, rfl⟩ := hrel
      by_cases hlt : k < p
      · rcases HRD.out with hx | ⟨bb, off, rfl, hcx⟩
        · have := HPL.out
          rw [hx] at this
          simp at this
          omega
        · have hck := hcx k (by have := HPL.out; omega)
          clear hcx
          obtain ⟨hn0, hn8⟩ := HNN.out k hlt
          have hway := facP_way l k ((l.getD k 0 - 1).toNat) (by have := HPL.out; omega) (by omega) HSUM.out
          have hw0 := facP_way l k 0 (by have := HPL.out; omega) (by omega) HSUM.out
          rw [show facR 0 = 1 from rfl, Nat.mul_one] at hw0
          have hts := take_snoc l k (by have := HPL.out; omega)
          have hend : facP (l.take (k + 1)) = facP (l.take k) * facR (l.getD k 0 - 1).toNat := by rw [hts, facP_snoc]
          obtain ⟨x, hx⟩ : ∃ x, x = l.getD k 0 := ⟨_, rfl⟩
          obtain ⟨f, hf⟩ : ∃ f, f = facP (l.take k) := ⟨_, rfl⟩
          obtain ⟨g, hg⟩ : ∃ g, g = facR (x - 1).toNat := ⟨_, rfl⟩
          rw [← hx] at hck hn0 hn8 hway hend
          rw [← hf] at hway hw0 hend ⊢
          rw [← hg] at hway hend
          have HEND := Lib.hid hend
          have HG := Lib.hid hg
          have HW : Hid (wrap64 ((f : Int) * (g : Int)) = ((f * g : Nat) : Int)) := Lib.hid (by rw [← Int.natCast_mul]; exact IntWalk.wrap64_in _ (by omega))
          have hg7 : g ≤ 5040 := by rw [hg]; exact facR_mono (b := 7) (by omega)
          clear hts hend hx hf hg hway
          go_wp2_with fail
          refine (l2FactR_v (x - 1) _ (by omega) (by omega)).mono ?_
          rintro e w' ⟨rfl, rfl⟩
          rw [← HG.out]
          go_wp2
          go_roundw
          case rel => exact ⟨k + 1, by omega, by go_num, by first | rw [HW.out, HEND.out] | rw [HEND.out, HW.out], trivial⟩
          case measure => simp [intOf]; omega
      · have hkp : k = p := by omega
        have ht : l.take k = l := List.take_of_length_le (by have := HPL.out; omega)
        rw [ht]
        subst hkp
        go_wp2
        go_ret2
        exact ⟨rfl, HB.out⟩
  · have hp : partIn xs = false := by simpa using hp
    have he : ringCount xs = (0, false) := by simp [ringCount, hp]
    rw [he]
    have HP := Lib.hid hp
    clear he hp
    go_enter Try.func6, Try.ntmps6
    go_wp2_with fail
    refine (sPartIn_is false _ _ _ HV.out HP).mono ?_
    rintro e w' ⟨rfl, rfl⟩
    go_wp2
    go_ret2
    exact ⟨rfl, Below.refl _ _⟩

end Go.Proofs.Ytdeeeiimlcggpaa
