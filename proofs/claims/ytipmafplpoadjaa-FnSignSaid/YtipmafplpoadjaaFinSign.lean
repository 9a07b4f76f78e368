/-
  The contracts of FinerInterval, l2Factorial, FinerSign (impl and spec).
-/
import Derived.Test.YtipmafplpoadjaaFinCount
namespace Go.Proofs.Ytipmafplpoadjaa
set_option linter.unusedSimpArgs false
set_option linter.unusedVariables false
set_option linter.unnecessarySimpa false
open Go.RowKit
set_option maxRecDepth 100000

theorem sum_set (l : List Int) (z : Nat) (h : z < l.length) : (l.set z (l.getD z 0 + 1)).sum = l.sum + 1 := by
  induction l generalizing z with
  | nil => simp at h
  | cons x l ih =>
    cases z with
    | zero => simp; omega
    | succ z =>
      have := ih z (by simpa using h)
      simp only [List.set_cons_succ, List.sum_cons, List.getD_cons_succ, this]
      omega

theorem sum_zeros (n : Nat) : (List.replicate n (0 : Int)).sum = 0 := by
  induction n with
  | zero => rfl
  | succ n ih => simp [List.replicate_succ, ih]

theorem innerTo_sum {xs ys : List Int} (hx : partIn xs = true) (hy : partIn ys = true) (hl : ys.length = xs.length) (q p : Nat) (hp : pSize xs = p) (hq : pSize ys = q) : ∀ k, k ≤ p → (innerTo xs ys q k).sum = k := by
  intro k
  induction k with
  | zero => intro _; rw [innerTo_zero, sum_zeros]; rfl
  | succ k ih =>
    intro hk
    have hm : (k : Int) ∈ xs := (mem_part hx _).2 (by rw [hp]; omega)
    have hix := List.idxOf_lt_length_of_mem hm
    have hz0 := (partIn_small hy (xs.idxOf (k : Int)) (by omega)).1
    have hzq := lt_pSize ys (xs.idxOf (k : Int)) (by omega)
    obtain ⟨z, hz⟩ := Int.eq_ofNat_of_zero_le hz0
    rw [← innerTo_step xs ys q k z (by omega) hz, sum_set _ _ (by rw [innerTo_length]; omega), ih (by omega)]
    omega

theorem inner_facts {xs ys : List Int} (h : finerIn xs ys = true) : (inner xs ys).sum ≤ 8 ∧ ∀ y, y < (inner xs ys).length → 1 ≤ (inner xs ys).getD y 0 := by
  simp only [finerIn, Bool.and_eq_true] at h
  obtain ⟨ha, hf⟩ := h
  obtain ⟨hx, hy, hl⟩ := alike_iff.1 ha
  have bx := pSize_bd (partIn_small hx)
  have by' := pSize_bd (partIn_small hy)
  obtain ⟨p, hp⟩ := Int.eq_ofNat_of_zero_le bx.1
  obtain ⟨q, hq⟩ := Int.eq_ofNat_of_zero_le by'.1
  have e : inner xs ys = innerTo xs ys q p := by unfold inner; rw [hp, hq, Int.toNat_natCast, Int.toNat_natCast]
  rw [e]
  refine ⟨by rw [innerTo_sum hx hy hl.symm q p hp hq p (Nat.le_refl _)]; omega, fun y hyq => ?_⟩
  rw [innerTo_length] at hyq
  rw [innerTo_getD _ _ _ _ _ hyq]
  have hm : (y : Int) ∈ ys := (mem_part hy _).2 (by omega)
  have hi := List.idxOf_lt_length_of_mem hm
  have hg := getD_idxOf hm
  have hv0 := (partIn_small hx (ys.idxOf (y : Int)) (by omega)).1
  have hvp := lt_pSize xs (ys.idxOf (y : Int)) (by omega)
  obtain ⟨v, hv⟩ := Int.eq_ofNat_of_zero_le hv0
  have hmv : (v : Int) ∈ xs := mem_of_getD (by omega) hv
  have hu : under xs ys y v = true := by
    simp only [under, decide_eq_true_eq]
    rw [← hg]
    exact (finer_iff.1 hf _ _ (List.idxOf_lt_length_of_mem hmv) (by omega) (by rw [getD_idxOf hmv, hv]))
  have : v ∈ (List.range p).filter (under xs ys y) := by
    rw [List.mem_filter]
    exact ⟨by simp; omega, hu⟩
  have := List.length_pos_of_mem this
  omega

def prodOf (f : Nat → Int) (l : List Int) : Int := l.foldl (fun w c => w * f c.toNat) 1

theorem prodOf_snoc (f : Nat → Int) (l : List Int) (c : Int) : prodOf f (l ++ [c]) = prodOf f l * f c.toNat := by simp [prodOf, List.foldl_append]

theorem prodOf_bd (f : Nat → Int) (F : Nat → Nat) (h0 : F 0 = 1) (hm : ∀ s, s < 9 → ∀ c, c < 9 → s + c ≤ 8 → F s * (f c).natAbs ≤ F (s + c)) :
    ∀ l : List Int, (∀ c ∈ l, 0 ≤ c) → l.sum ≤ 8 → 0 ≤ l.sum ∧ (prodOf f l).natAbs ≤ F l.sum.toNat := by
  refine snoc_induction (fun _ _ => ⟨Int.le_refl _, by simp [prodOf, h0]⟩) fun l c ih hc hs => ?_
  have hsum : (l ++ [c]).sum = l.sum + c := by simp [List.sum_append]
  have hc0 := hc c (by simp)
  rw [hsum] at hs ⊢
  have hl0 : 0 ≤ l.sum ∧ (prodOf f l).natAbs ≤ F l.sum.toNat := by
    refine ih (fun d hd => hc d (by simp [hd])) (by omega)
  refine ⟨by omega, ?_⟩
  rw [prodOf_snoc, Int.natAbs_mul]
  have h1 := hm l.sum.toNat (by omega) c.toNat (by omega) (by omega)
  have h2 : (l.sum + c).toNat = l.sum.toNat + c.toNat := by omega
  rw [h2]
  exact Nat.le_trans (Nat.mul_le_mul_right _ hl0.2) h1

theorem sum_take_le : ∀ (l : List Int) (k : Nat), (∀ c ∈ l, 0 ≤ c) → (l.take k).sum ≤ l.sum := by
  intro l
  induction l with
  | nil => intro k _; simp
  | cons x l ih =>
    intro k h
    cases k with
    | zero =>
      have : ∀ m : List Int, (∀ c ∈ m, 0 ≤ c) → 0 ≤ m.sum := by
        intro m
        induction m with
        | nil => intro _; exact Int.le_refl _
        | cons y m ih2 =>
          intro h2
          have a1 := h2 y (by simp)
          have a2 := ih2 fun c hc => h2 c (by simp [hc])
          simp; omega
      exact this _ h
    | succ k =>
      have := ih k fun c hc => h c (by simp [hc])
      simp; omega

theorem getD_le_sum : ∀ (l : List Int) (k : Nat), (∀ c ∈ l, 0 ≤ c) → k < l.length → l.getD k 0 ≤ l.sum := by
  intro l k h hk
  have h1 := sum_take_le l (k + 1) h
  rw [take_snoc l k hk, List.sum_append] at h1
  have h2 : 0 ≤ (l.take k).sum := by
    have := sum_take_le (l.take k) 0 fun c hc => h c (List.mem_of_mem_take hc)
    simpa using this
  simp at h1 ⊢
  omega

def fA : Nat → Nat
  | 0 => 1
  | n + 1 => (n + 1) * fA n
/-- The product of -1, -2, .. -f. -/
def sgp : Nat → Int
  | 0 => 1
  | f + 1 => sgp f * (-((f + 1 : Nat) : Int))
def sgn (c : Nat) : Int := sgp (c - 1)

theorem bell_mul : ∀ s, s < 9 → ∀ c, c < 9 → s + c ≤ 8 → (bellN s).toNat * (bellN c).natAbs ≤ (bellN (s + c)).toNat := by decide +kernel
theorem sgn_mul : ∀ s, s < 9 → ∀ c, c < 9 → s + c ≤ 8 → fA s * (sgn c).natAbs ≤ fA (s + c) := by decide +kernel
theorem sgp_mul : ∀ s, s < 9 → ∀ c, c < 9 → s + c ≤ 8 → ∀ f, f < c → fA s * (sgp f).natAbs ≤ 40320 := by decide +kernel
theorem bell_le : ∀ s, s < 9 → (bellN s).toNat ≤ 40320 := by decide +kernel
theorem fA_le : ∀ s, s < 9 → fA s ≤ 40320 := by decide +kernel

/-- What is known of the numbers and of the products on the way. -/
theorem prod_way (f : Nat → Int) (F : Nat → Nat) (h0 : F 0 = 1) (hm : ∀ s, s < 9 → ∀ c, c < 9 → s + c ≤ 8 → F s * (f c).natAbs ≤ F (s + c)) (hF : ∀ s, s < 9 → F s ≤ 40320)
    (l : List Int) (hl : l.sum ≤ 8) (hp : ∀ y, y < l.length → 1 ≤ l.getD y 0) (k : Nat) :
    -40320 ≤ prodOf f (l.take k) ∧ prodOf f (l.take k) ≤ 40320 ∧ (k < l.length → (1 ≤ l.getD k 0 ∧ l.getD k 0 ≤ 8) ∧ prodOf f (l.take (k + 1)) = prodOf f (l.take k) * f (l.getD k 0).toNat ∧
      ∃ s : Nat, s < 9 ∧ s + (l.getD k 0).toNat ≤ 8 ∧ (prodOf f (l.take k)).natAbs ≤ F s) := by
  have hnn : ∀ c ∈ l, 0 ≤ c := fun c hc => by
    obtain ⟨j, hj, e⟩ := mem_iff_getD.1 hc
    have := hp j hj
    omega
  have hs := sum_take_le l k hnn
  obtain ⟨h1, h2⟩ := prodOf_bd f F h0 hm (l.take k) (fun c hc => hnn c (List.mem_of_mem_take hc)) (by omega)
  have h3 := hF (l.take k).sum.toNat (by omega)
  refine ⟨by omega, by omega, fun hk => ⟨⟨hp k hk, ?_⟩, ?_, ?_⟩⟩
  · have := getD_le_sum l k hnn hk
    omega
  · rw [take_snoc l k hk, prodOf_snoc]
  · have h4 := sum_take_le l (k + 1) hnn
    rw [take_snoc l k hk, List.sum_append] at h4
    have h5 := hp k hk
    refine ⟨(l.take k).sum.toNat, by omega, ?_, h2⟩
    have e : ([l.getD k 0] : List Int).sum = l.getD k 0 := by simp
    rw [e] at h4
    omega

def finerInterval (xs ys : List Int) : Int × Bool := if finerIn xs ys then (prodOf bellN (inner xs ys), true) else (0, false)
def finerSign (xs ys : List Int) : Int × Bool := if finerIn xs ys then (prodOf sgn (inner xs ys), true) else (0, false)

theorem iFinerIn_is (b : Bool) (v u : Value) (xs ys : List Int) (w : World) (hv : RdV w v xs) (hu : RdV w u ys) (h : Hid (finerIn xs ys = b)) :
    Calls Try.prog 14 #[v, u] w (QB w b) := by
  rw [← h.out]; exact iFinerIn_q v u xs ys w hv hu
theorem sFinerIn_is (b : Bool) (v u : Value) (xs ys : List Int) (w : World) (hv : RdV w v xs) (hu : RdV w u ys) (h : Hid (finerIn xs ys = b)) :
    Calls Try.prog 39 #[v, u] w (QB w b) := by
  rw [← h.out]; exact sFinerIn_q v u xs ys w hv hu

theorem own_slice {w : World} {B : Nat} {v : Value} {xs : List Int} (h : Own w B v xs) (hl : 1 ≤ xs.length) : ∃ g cap, v = .slice (some ⟨g, 0, none⟩) xs.length cap ∧ g < w.heap.size := by
  rcases own_view h with ⟨_, hn⟩ | ⟨g, cap, hv, _, hg, _⟩
  · rw [hn] at hl; simp at hl
  · exact ⟨g, cap, hv, hg⟩

theorem fA_bd : ∀ k, k < 8 → (fA k : Int) ≤ 5040 := by decide +kernel

set_option maxHeartbeats 1600000 in
theorem l2Factorial_v (c : Nat) (w : World) (h8 : c ≤ 7) : Calls Try.prog 41 #[.int .i64 c] w fun e w' => e = .returned (.int .i64 (fA c)) ∧ w = w' := by
  go_enter Try.func41, Try.ntmps41
  go_wp2
  go_loop [3, 4] (fun u i => ∃ k : Nat, 1 ≤ k ∧ (k ≤ c ∨ k = 1) ∧ i = .int .i64 ((k + 1 : Nat) : Int) ∧ u = .int .i64 (fA k)) (fun _ i => 9 - (intOf i).toNat)
  case atStart => exact ⟨1, by omega, .inr rfl, rfl, rfl⟩
  case round =>
    obtain ⟨k, hk1, hk, rfl, rfl⟩ := hrel
    have hb := fA_bd k (by omega)
    have hst : fA (k + 1) = (k + 1) * fA k := rfl
    obtain ⟨x, hx⟩ : ∃ x, x = fA k := ⟨_, rfl⟩
    rw [← hx] at hb hst ⊢
    have HX := Lib.hid hx
    have HST := Lib.hid hst
    obtain ⟨m, hm⟩ : ∃ m, m = k + 1 := ⟨_, rfl⟩
    rw [← hm] at HST ⊢
    have HM := Lib.hid hm
    by_cases hlt : m ≤ c
    · have hmm : m ≤ 7 := by omega
      have h1 : 0 ≤ (x : Int) * (m : Int) := Int.mul_nonneg (by omega) (by omega)
      have h2 : (x : Int) * (m : Int) ≤ 5040 * 7 := Int.mul_le_mul hb (by omega) (by omega) (by omega)
      have b1 : wrap64 ((x : Int) * (m : Int)) = (x : Int) * (m : Int) := IntWalk.wrap64_in _ (by omega)
      clear hx hst hm h1 h2
      go_wp2
      go_round
      case rel => exact ⟨m, by have := HM.out; omega, .inl hlt, by go_num, by rw [HST.out, Int.natCast_mul, Int.mul_comm (m : Int)]; first | rfl | rw [b1]⟩
      case measure => simp [intOf]; omega
    · have he : fA k = fA c := by
        by_cases h : k = 1
        · subst h
          have : c = 0 ∨ c = 1 := by omega
          rcases this with rfl | rfl <;> decide
        · congr 1; omega
      have HE := Lib.hid he
      clear hx hst hm he
      go_wp2
      go_ret
      exact ⟨ret_int (by rw [HX.out, HE.out]), rfl⟩

set_option maxHeartbeats 1600000 in
theorem iFinerSign_v (v u : Value) (xs ys : List Int) (w : World) (hv : RdV w v xs) (hu : RdV w u ys) :
    Calls Try.prog 11 #[v, u] w (GivesIB w (finerSign xs ys)) := by
  have HV := Lib.hid hv
  have HU := Lib.hid hu
  clear hv hu
  cases hf : finerIn xs ys
  · have HF := Lib.hid hf
    have hr : finerSign xs ys = (0, false) := by simp [finerSign, hf]
    rw [hr]
    clear hf hr
    go_enter Try.func11, Try.ntmps11
    go_wp2_with fail
    refine (iFinerIn_is false _ _ _ _ _ HV.out HU.out HF).mono ?_
    rintro e w1 ⟨rfl, hq⟩
    have hb := hq.below
    clear hq
    go_wp2
    go_ret2
    exact ⟨rfl, hb⟩
  · have HF := Lib.hid hf
    have hr : finerSign xs ys = (prodOf sgn (inner xs ys), true) := by simp [finerSign, hf]
    rw [hr]
    obtain ⟨hsum, hpos⟩ := inner_facts hf
    have ha : alike xs ys = true ∧ finerB xs ys = true := by simpa [finerIn] using hf
    obtain ⟨hx, hy, hl⟩ := alike_iff.1 ha.1
    have HPX := Lib.hid hx
    have HPY := Lib.hid hy
    have HLL := Lib.hid hl.symm
    have HFB := Lib.hid ha.2
    have HW := Lib.hid (prod_way sgn fA rfl sgn_mul fA_le (inner xs ys) hsum hpos)
    have hil : 1 ≤ (inner xs ys).length := by
      have := pSize_pos (partIn_small hy) (partIn_len hy).1
      rw [inner_length]; omega
    have hil8 : (inner xs ys).length ≤ 8 := by
      have := pSize_bd (partIn_small hy)
      rw [inner_length]; omega
    clear hf hr hsum hpos ha hx hy hl
    go_enter Try.func11, Try.ntmps11
    go_wp2_with fail
    refine (iFinerIn_is true _ _ _ _ _ HV.out HU.out HF).mono ?_
    rintro e w1 ⟨rfl, hq⟩
    have hb1 := hq.below
    have HV1 := Lib.hid (rdv_below HV.out hb1)
    have HU1 := Lib.hid (rdv_below HU.out hb1)
    clear hq
    go_wp2_with fail
    refine (countsWithin_v _ _ xs ys _ HV1.out HU1.out HPX.out HPY.out HLL.out).mono ?_
    rintro e w2 ⟨uv, rfl, ho, hb2⟩
    obtain ⟨g, cap, rfl, hg⟩ := own_slice ho hil
    have hbel := below_step hb1 hb2
    have HO := Lib.hid ho
    obtain ⟨n, hn⟩ : ∃ n, n = (inner xs ys).length := ⟨_, rfl⟩
    rw [← hn] at HO hil hil8 ⊢
    have HN := Lib.hid hn
    clear ho hb1 hb2 hn
    go_wp2
    go_loopw [6, 18] (fun u i wr => ∃ k : Nat, k ≤ n ∧ i = .int .i64 k ∧ u = .int .i64 (prodOf sgn ((inner xs ys).take k)) ∧ Own wr w1.heap.size (.slice (some ⟨g, 0, none⟩) n cap) (inner xs ys) ∧ Below w.heap.size w wr) (fun _ i _ => n - (intOf i).toNat)
    case atStart => exact ⟨0, Nat.zero_le _, rfl, rfl, HO.out, hbel⟩
    case round =>
      obtain ⟨k, hk, rfl, rfl, hown, hbelr⟩ := hrel
      obtain ⟨hp1, hp2, hp3⟩ := HW.out k
      by_cases hlt : k < n
      · obtain ⟨⟨hc1, hc2⟩, hst, s, hs9, hsc, hsF⟩ := hp3 (by rw [← HN.out]; exact hlt)
        have hck := own_cell hown k (by rw [← HN.out]; exact hlt)
        have hbl := sgn_mul s hs9 ((inner xs ys).getD k 0).toNat (by omega) hsc
        have hbF := fA_le (s + ((inner xs ys).getD k 0).toNat) (by omega)
        obtain ⟨c, hc⟩ : ∃ c, c = (inner xs ys).getD k 0 := ⟨_, rfl⟩
        obtain ⟨x, hx⟩ : ∃ x, x = prodOf sgn ((inner xs ys).take k) := ⟨_, rfl⟩
        rw [← hc] at hc1 hc2 hst hsc hck hbl hbF
        rw [← hx] at hp1 hp2 hst hsF ⊢
        have hmul : (x * sgn c.toNat).natAbs ≤ 40320 := by
          rw [Int.natAbs_mul]
          exact Nat.le_trans (Nat.le_trans (Nat.mul_le_mul_right _ hsF) hbl) hbF
        obtain ⟨m, hm⟩ := Int.eq_ofNat_of_zero_le (show 0 ≤ c by omega)
        subst hm
        rw [Int.toNat_natCast] at hst hsc hbl hbF hmul
        have hway : ∀ f, f < m → (x * sgp f).natAbs ≤ 40320 := fun f hf => by
          rw [Int.natAbs_mul]
          exact Nat.le_trans (Nat.mul_le_mul_right _ hsF) (sgp_mul s hs9 m (by omega) hsc f hf)
        have HWAY := Lib.hid hway
        have HST := Lib.hid hst
        have HO2 := Lib.hid hown
        have HX := Lib.hid hx
        have b1 : (k : Int) < n := by omega
        clear hc hx hst hown hp3 hsc hbl hbF hsF hmul hway
        obtain ⟨wo, hwo⟩ : ∃ wo : World, wo = wr := ⟨_, rfl⟩
        subst hwo
        go_wp2
        go_loop [6, 9] (fun u i => ∃ f : Nat, 1 ≤ f ∧ f ≤ m ∧ i = .int .i64 f ∧ u = .int .i64 (x * sgp (f - 1))) (fun _ i => m - (intOf i).toNat)
        case atStart => exact ⟨1, by omega, by omega, rfl, by simp [sgp]⟩
        case round =>
          obtain ⟨f, hf1, hfm, rfl, rfl⟩ := hrel
          have hw0 := HWAY.out (f - 1) (by omega)
          by_cases hlt2 : f < m
          · have hw1 := HWAY.out f hlt2
            have hsf : x * sgp f = x * sgp (f - 1) * -(f : Int) := by
              obtain ⟨e, rfl⟩ : ∃ e, f = e + 1 := ⟨f - 1, by omega⟩
              rw [sgp, Int.mul_assoc]
              rfl
            rw [hsf] at hw1
            obtain ⟨y, hy⟩ : ∃ y, y = x * sgp (f - 1) := ⟨_, rfl⟩
            rw [← hy] at hw0 hw1 hsf ⊢
            have HSF := Lib.hid hsf
            have b4 : wrap64 (y * -(f : Int)) = y * -(f : Int) := IntWalk.wrap64_in _ (by omega)
            clear hy hsf
            go_wp2
            go_round
            case rel => exact ⟨f + 1, by omega, by omega, by go_num, by rw [Nat.add_sub_cancel, HSF.out]⟩
            case measure => simp [intOf]; omega
          · have hfm : f = m := by omega
            subst hfm
            go_wp2
            go_roundw
            case rel => exact ⟨k + 1, by omega, by go_num, by rw [HST.out]; rfl, HO2.out, hbelr⟩
            case measure => simp [intOf]; omega
      · have hkn : k = n := by omega
        subst hkn
        have he : prodOf sgn ((inner xs ys).take k) = prodOf sgn (inner xs ys) := by rw [List.take_of_length_le (by rw [← HN.out]; omega)]
        rw [he]
        clear hp3 he
        go_wp2
        go_ret2
        exact ⟨rfl, hbelr⟩

theorem sgn_fA : ∀ m, m < 9 → 1 ≤ m → sgn m = if m % 2 = 0 then -(fA (m - 1) : Int) else (fA (m - 1) : Int) := by decide +kernel

set_option maxHeartbeats 1600000 in
theorem sFinerSign_v (v u : Value) (xs ys : List Int) (w : World) (hv : RdV w v xs) (hu : RdV w u ys) :
    Calls Try.prog 12 #[v, u] w (GivesIB w (finerSign xs ys)) := by
  have HV := Lib.hid hv
  have HU := Lib.hid hu
  clear hv hu
  cases hf : finerIn xs ys
  · have HF := Lib.hid hf
    have hr : finerSign xs ys = (0, false) := by simp [finerSign, hf]
    rw [hr]
    clear hf hr
    go_enter Try.func12, Try.ntmps12
    go_wp2_with fail
    refine (sFinerIn_is false _ _ _ _ _ HV.out HU.out HF).mono ?_
    rintro e w1 ⟨rfl, hq⟩
    have hb := hq.below
    clear hq
    go_wp2
    go_ret2
    exact ⟨rfl, hb⟩
  · have HF := Lib.hid hf
    have hr : finerSign xs ys = (prodOf sgn (inner xs ys), true) := by simp [finerSign, hf]
    rw [hr]
    obtain ⟨hsum, hpos⟩ := inner_facts hf
    have ha : alike xs ys = true ∧ finerB xs ys = true := by simpa [finerIn] using hf
    obtain ⟨hx, hy, hl⟩ := alike_iff.1 ha.1
    have HPX := Lib.hid hx
    have HPY := Lib.hid hy
    have HLL := Lib.hid hl.symm
    have HFB := Lib.hid ha.2
    have HW := Lib.hid (prod_way sgn fA rfl sgn_mul fA_le (inner xs ys) hsum hpos)
    have hil : 1 ≤ (inner xs ys).length := by
      have := pSize_pos (partIn_small hy) (partIn_len hy).1
      rw [inner_length]; omega
    have hil8 : (inner xs ys).length ≤ 8 := by
      have := pSize_bd (partIn_small hy)
      rw [inner_length]; omega
    clear hf hr hsum hpos ha hx hy hl
    go_enter Try.func12, Try.ntmps12
    go_wp2_with fail
    refine (sFinerIn_is true _ _ _ _ _ HV.out HU.out HF).mono ?_
    rintro e w1 ⟨rfl, hq⟩
    have hb1 := hq.below
    have HV1 := Lib.hid (rdv_below HV.out hb1)
    have HU1 := Lib.hid (rdv_below HU.out hb1)
    clear hq
    go_wp2_with fail
    refine (l2Inner_v _ _ xs ys _ HV1.out HU1.out HPX.out HPY.out HLL.out HFB.out).mono ?_
    rintro e w2 ⟨uv, rfl, ho, hb2⟩
    obtain ⟨g, cap, rfl, hg⟩ := own_slice ho hil
    have hbel := below_step hb1 hb2
    have HO := Lib.hid ho
    obtain ⟨n, hn⟩ : ∃ n, n = (inner xs ys).length := ⟨_, rfl⟩
    rw [← hn] at HO hil hil8 ⊢
    have HN := Lib.hid hn
    clear ho hb1 hb2 hn
    go_wp2
    go_loopw [6, 8] (fun u i wr => ∃ k : Nat, k ≤ n ∧ i = .int .i64 k ∧ u = .int .i64 (prodOf sgn ((inner xs ys).take k)) ∧ Own wr w1.heap.size (.slice (some ⟨g, 0, none⟩) n cap) (inner xs ys) ∧ Below w.heap.size w wr) (fun _ i _ => n - (intOf i).toNat)
    case atStart => exact ⟨0, Nat.zero_le _, rfl, rfl, HO.out, hbel⟩
    case round =>
      obtain ⟨k, hk, rfl, rfl, hown, hbelr⟩ := hrel
      obtain ⟨hp1, hp2, hp3⟩ := HW.out k
      by_cases hlt : k < n
      · obtain ⟨⟨hc1, hc2⟩, hst, s, hs9, hsc, hsF⟩ := hp3 (by rw [← HN.out]; exact hlt)
        have hck := own_cell hown k (by rw [← HN.out]; exact hlt)
        have hbl := sgn_mul s hs9 ((inner xs ys).getD k 0).toNat (by omega) hsc
        have hbF := fA_le (s + ((inner xs ys).getD k 0).toNat) (by omega)
        obtain ⟨c, hc⟩ : ∃ c, c = (inner xs ys).getD k 0 := ⟨_, rfl⟩
        obtain ⟨x, hx⟩ : ∃ x, x = prodOf sgn ((inner xs ys).take k) := ⟨_, rfl⟩
        rw [← hc] at hc1 hc2 hst hsc hck hbl hbF
        rw [← hx] at hp1 hp2 hst hsF ⊢
        have hmul : (x * sgn c.toNat).natAbs ≤ 40320 := by
          rw [Int.natAbs_mul]
          exact Nat.le_trans (Nat.le_trans (Nat.mul_le_mul_right _ hsF) hbl) hbF
        obtain ⟨m, hm⟩ := Int.eq_ofNat_of_zero_le (show 0 ≤ c by omega)
        subst hm
        rw [Int.toNat_natCast] at hst hsc hbl hbF hmul
        have hfa : sgn m = if m % 2 = 0 then -(fA (m - 1) : Int) else (fA (m - 1) : Int) := sgn_fA m (by omega) (by omega)
        obtain ⟨z, hz⟩ : ∃ z, z = fA (m - 1) := ⟨_, rfl⟩
        rw [← hz] at hfa
        have hmz : (x * (z : Int)).natAbs ≤ 40320 := by
          have : (x * (z : Int)).natAbs = (x * sgn m).natAbs := by
            rw [hfa]
            split
            · rw [Int.mul_neg, Int.natAbs_neg]
            · rfl
          rw [this]
          exact hmul
        have HZ := Lib.hid hz
        have HFA := Lib.hid hfa
        have HST := Lib.hid hst
        have HO2 := Lib.hid hown
        have HX := Lib.hid hx
        have b1 : (k : Int) < n := by omega
        have b2 : wrap64 (x * (z : Int)) = x * (z : Int) := IntWalk.wrap64_in _ (by omega)
        have b3 : wrap64 (-(x * (z : Int))) = -(x * (z : Int)) := IntWalk.wrap64_in _ (by omega)
        have b4 : wrap64 (0 - x * (z : Int)) = -(x * (z : Int)) := by rw [IntWalk.wrap64_in _ (by omega)]; omega
        clear hc hx hst hown hp3 hsc hbl hbF hsF hmul hz hfa
        by_cases hev : m % 2 = 0
        · have b5 : ((m : Int) % 2 == 0) = true := by simp; omega
          have b6 : ((m : Int).tmod 2 == 0) = true := by rw [Int.tmod_eq_emod_of_nonneg (by omega)]; exact b5
          have HEV := Lib.hid hev
          clear hev
          go_wp2_with fail
          rw [show (m : Int) - 1 = ((m - 1 : Nat) : Int) by omega]
          refine (l2Factorial_v _ _ (by omega)).mono ?_
          rintro e w3 ⟨rfl, rfl⟩
          rw [← HZ.out]
          go_wp2
          go_roundw
          case rel => exact ⟨k + 1, by omega, by go_num, by rw [HST.out, HFA.out, if_pos HEV.out, Int.mul_neg], HO2.out, hbelr⟩
          case measure => simp [intOf]; omega
        · have b5 : ((m : Int) % 2 == 0) = false := by simp; omega
          have b6 : ((m : Int).tmod 2 == 0) = false := by rw [Int.tmod_eq_emod_of_nonneg (by omega)]; exact b5
          have HEV := Lib.hid hev
          clear hev
          go_wp2_with fail
          rw [show (m : Int) - 1 = ((m - 1 : Nat) : Int) by omega]
          refine (l2Factorial_v _ _ (by omega)).mono ?_
          rintro e w3 ⟨rfl, rfl⟩
          rw [← HZ.out]
          go_wp2
          go_roundw
          case rel => exact ⟨k + 1, by omega, by go_num, by rw [HST.out, HFA.out, if_neg HEV.out], HO2.out, hbelr⟩
          case measure => simp [intOf]; omega
      · have hkn : k = n := by omega
        subst hkn
        have he : prodOf sgn ((inner xs ys).take k) = prodOf sgn (inner xs ys) := by rw [List.take_of_length_le (by rw [← HN.out]; omega)]
        rw [he]
        clear hp3 he
        go_wp2
        go_ret2
        exact ⟨rfl, hbelr⟩

end Go.Proofs.Ytipmafplpoadjaa
