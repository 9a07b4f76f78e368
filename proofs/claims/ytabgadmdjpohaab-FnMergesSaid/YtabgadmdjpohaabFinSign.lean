/-
  The contracts of FinerInterval, l2Factorial, FinerSign (impl and spec).
-/
import Derived.Test.YtabgadmdjpohaabFinCount
namespace Go.Proofs.Ytabgadmdjpohaab
set_option linter.unusedSimpArgs false
set_option linter.unusedVariables false
set_option linter.unnecessarySimpa false
open Go.RowKit
set_option maxRecDepth 100000

theorem sum_set (l : List Int) (z : Nat) (h : z < l.length) : (l.set z (l.getD z 0 + 1)).sum = l.sum + 1 := by
  induction l generalizing z with
  | nil => simp at h
  | cons x l ih =>
    cases z with
    | zero => simp; omega
    | succ z =>
      have := ih z (by simpa using h)
      simp only [List.set_cons_succ, List.sum_cons, List.getD_cons_succ, this]
      omega

theorem sum_zeros (n : Nat) : (List.replicate n (0 : Int)).sum = 0 := by
  induction n with
  | zero => rfl
  | succ n ih => simp [List.replicate_succ, ih]

theorem innerTo_sum {xs ys : List Int} (hx : partIn xs = true) (hy : partIn ys = true) (hl : ys.length = xs.length) (q p : Nat) (hp : pSize xs = p) (hq : pSize ys = q) : ∀ k, k ≤ p → (innerTo xs ys q k).sum = k := by
  intro k
  induction k with
  | zero => intro _; rw [innerTo_zero, sum_zeros]; rfl
  | succ k ih =>
    intro hk
    have hm : (k : Int) ∈ xs := (mem_part hx _).2 (by rw [hp]; omega)
    have hix := List.idxOf_lt_length_of_mem hm
    have hz0 := (partIn_small hy (xs.idxOf (k : Int)) (by omega)).1
    have hzq := lt_pSize ys (xs.idxOf (k : Int)) (by omega)
    obtain ⟨z, hz⟩ := Int.eq_ofNat_of_zero_le hz0
    rw [← innerTo_step xs ys q k z (by omega) hz, sum_set _ _ (by rw [innerTo_length]; omega), ih (by omega)]
    omega

theorem inner_facts {xs ys : List Int} (h : finerIn xs ys = true) : (inner xs ys).sum ≤ 8 ∧ ∀ y, y < (inner xs ys).length → 1 ≤ (inner xs ys).getD y 0 := by
  simp only [finerIn, Bool.and_eq_true] at h
  obtain ⟨ha, hf⟩ := h
  obtain ⟨hx, hy, hl⟩ := alike_iff.1 ha
  have bx := pSize_bd (partIn_small hx)
  have by' := pSize_bd (partIn_small hy)
  obtain ⟨p, hp⟩ := Int.eq_ofNat_of_zero_le bx.1
  obtain ⟨q, hq⟩ := Int.eq_ofNat_of_zero_le by'.1
  have e : inner xs ys = innerTo xs ys q p := by unfold inner; rw [hp, hq, Int.toNat_natCast, Int.toNat_natCast]
  rw [e]
  refine ⟨by rw [innerTo_sum hx hy hl.symm q p hp hq p (Nat.le_refl _)]; omega, fun y hyq => ?_⟩
  rw [innerTo_length] at hyq
  rw [innerTo_getD _ _ _ _ _ hyq]
  have hm : (y : Int) ∈ ys := (mem_part hy _).2 (by omega)
  have hi := List.idxOf_lt_length_of_mem hm
  have hg := getD_idxOf hm
  have hv0 := (partIn_small hx (ys.idxOf (y : Int)) (by omega)).1
  have hvp := lt_pSize xs (ys.idxOf (y : Int)) (by omega)
  obtain ⟨v, hv⟩ := Int.eq_ofNat_of_zero_le hv0
  have hmv : (v : Int) ∈ xs := mem_of_getD (by omega) hv
  have hu : under xs ys y v = true := by
    simp only [under, decide_eq_true_eq]
    rw [← hg]
    exact (finer_iff.1 hf _ _ (List.idxOf_lt_length_of_mem hmv) (by omega) (by rw [getD_idxOf hmv, hv]))
  have : v ∈ (List.range p).filter (under xs ys y) := by
    rw [List.mem_filter]
    exact ⟨by simp; omega, hu⟩
  have := List.length_pos_of_mem this
  omega

def prodOf (f : Nat → Int) (l : List Int) : Int := l.foldl (fun w c => w * f c.toNat) 1

theorem prodOf_snoc (f : Nat → Int) (l : List Int) (c : Int) : prodOf f (l ++ [c]) = prodOf f l * f c.toNat := by simp [prodOf, List.foldl_append]

theorem prodOf_bd (f : Nat → Int) (F : Nat → Nat) (h0 : F 0 = 1) (hm : ∀ s, s < 9 → ∀ c, c < 9 → s + c ≤ 8 → F s * (f c).natAbs ≤ F (s + c)) :
    ∀ l : List Int, (∀ c ∈ l, 0 ≤ c) → l.sum ≤ 8 → 0 ≤ l.sum ∧ (prodOf f l).natAbs ≤ F l.sum.toNat := by
  refine snoc_induction (fun _ _ => ⟨Int.le_refl _, by simp [prodOf, h0]⟩) fun l c ih hc hs => ?_
  have hsum : (l ++ [c]).sum = l.sum + c := by simp [List.sum_append]
  have hc0 := hc c (by simp)
  rw [hsum] at hs ⊢
  have hl0 : 0 ≤ l.sum ∧ (prodOf f l).natAbs ≤ F l.sum.toNat := by
    refine ih (fun d hd => hc d (by simp [hd])) (by omega)
  refine ⟨by omega, ?_⟩
  rw [prodOf_snoc, Int.natAbs_mul]
  have h1 := hm l.sum.toNat (by omega) c.toNat (by omega) (by omega)
  have h2 : (l.sum + c).toNat = l.sum.toNat + c.toNat := by omega
  rw [h2]
  exact Nat.le_trans (Nat.mul_le_mul_right _ hl0.2) h1

theorem sum_take_le : ∀ (l : List Int) (k : Nat), (∀ c ∈ l, 0 ≤ c) → (l.take k).sum ≤ l.sum := by
  intro l
  induction l with
  | nil => intro k _; simp
  | cons x l ih =>
    intro k h
    cases k with
    | zero =>
      have : ∀ m : List Int, (∀ c ∈ m, 0 ≤ c) → 0 ≤ m.sum := by
        intro m
        induction m with
        | nil => intro _; exact Int.le_refl _
        | cons y m ih2 =>
          intro h2
          have a1 := h2 y (by simp)
          have a2 := ih2 fun c hc => h2 c (by simp [hc])
          simp; omega
      exact this _ h
    | succ k =>
      have := ih k fun c hc => h c (by simp [hc])
      simp; omega

theorem getD_le_sum : ∀ (l : List Int) (k : Nat), (∀ c ∈ l, 0 ≤ c) → k < l.length → l.getD k 0 ≤ l.sum := by
  intro l k h hk
  have h1 := sum_take_le l (k + 1) h
  rw [take_snoc l k hk, List.sum_append] at h1
  have h2 : 0 ≤ (l.take k).sum := by
    have := sum_take_le (l.take k) 0 fun c hc => h c (List.mem_of_mem_take hc)
    simpa using this
  simp at h1 ⊢
  omega

def fA : Nat → Nat
  | 0 => 1
  | n + 1 => (n + 1) * fA n
/-- The product of -1, -2, .. -f. -/
def sgp : Nat → Int
  | 0 => 1
  | f + 1 => sgp f * (-((f + 1 : Nat) : Int))
def sgn (c : Nat) : Int := sgp (c - 1)

theorem bell_mul : ∀ s, s < 9 → ∀ c, c < 9 → s + c ≤ 8 → (bellN s).toNat * (bellN c).natAbs ≤ (bellN (s + c)).toNat := by decide +kernel
theorem sgn_mul : ∀ s, s < 9 → ∀ c, c < 9 → s + c ≤ 8 → fA s * (sgn c).natAbs ≤ fA (s + c) := by decide +kernel
theorem sgp_mul : ∀ s, s < 9 → ∀ c, c < 9 → s + c ≤ 8 → ∀ f, f < c → fA s * (sgp f).natAbs ≤ 40320 := by decide +kernel
theorem bell_le : ∀ s, s < 9 → (bellN s).toNat ≤ 40320 := by decide +kernel
theorem fA_le : ∀ s, s < 9 → fA s ≤ 40320 := by decide +kernel

/-- What is known of the numbers and of the products on the way. -/
theorem prod_way (f : Nat → Int) (F : Nat → Nat) (h0 : F 0 = 1) (hm : ∀ s, s < 9 → ∀ c, c < 9 → s + c ≤ 8 → F s * (f c).natAbs ≤ F (s + c)) (hF : ∀ s, s < 9 → F s ≤ 40320)
    (l : List Int) (hl : l.sum ≤ 8) (hp : ∀ y, y < l.length → 1 ≤ l.getD y 0) (k : Nat) :
    -40320 ≤ prodOf f (l.take k) ∧ prodOf f (l.take k) ≤ 40320 ∧ (k < l.length → (1 ≤ l.getD k 0 ∧ l.getD k 0 ≤ 8) ∧ prodOf f (l.take (k + 1)) = prodOf f (l.take k) * f (l.getD k 0).toNat ∧
      ∃ s : Nat, s < 9 ∧ s + (l.getD k 0).toNat ≤ 8 ∧ (prodOf f (l.take k)).natAbs ≤ F s) := by
  have hnn : ∀ c ∈ l, 0 ≤ c := fun c hc => by
    obtain ⟨j, hj, e⟩ := mem_iff_getD.1 hc
    have := hp j hj
    omega
  have hs := sum_take_le l k hnn
  obtain ⟨h1, h2⟩ := prodOf_bd f F h0 hm (l.take k) (fun c hc => hnn c (List.mem_of_mem_take hc)) (by omega)
  have h3 := hF (l.take k).sum.toNat (by omega)
  refine ⟨by omega, by omega, fun hk => ⟨⟨hp k hk, ?_⟩, ?_, ?_⟩⟩
  · have := getD_le_sum l k hnn hk
    omega
  · rw [take_snoc l k hk, prodOf_snoc]
  · have h4 := sum_take_le l (k + 1) hnn
    rw [take_snoc l k hk, List.sum_append] at h4
    have h5 := hp k hk
    refine ⟨(l.take k).sum.toNat, by omega, ?_, h2⟩
    have e : ([l.getD k 0] : List Int).sum = l.getD k 0 := by simp
    rw [e] at h4
    omega

def finerInterval (xs ys : List Int) : Int × Bool := if finerIn xs ys then (prodOf bellN (inner xs ys), true) else (0, false)
def finerSign (xs ys : List Int) : Int × Bool := if finerIn xs ys then (prodOf sgn (inner xs ys), true) else (0, false)

theorem iFinerIn_is (b : Bool) (v u : Value) (xs ys : List Int) (w : World) (hv : RdV w v xs) (hu : RdV w u ys) (h : Hid (finerIn xs ys = b)) :
    Calls Try.prog 16 #[v, u] w (QB w b) := by
  rw [← h.out]; exact iFinerIn_q v u xs ys w hv hu
theorem sFinerIn_is (b : Bool) (v u : Value) (xs ys : List Int) (w : World) (hv : RdV w v xs) (hu : RdV w u ys) (h : Hid (finerIn xs ys = b)) :
    Calls Try.prog 44 #[v, u] w (QB w b) := by
  rw [← h.out]; exact sFinerIn_q v u xs ys w hv hu

theorem own_slice {w : World} {B : Nat} {v : Value} {xs : List Int} (h : Own w B v xs) (hl : 1 ≤ xs.length) : ∃ g cap, v = .slice (some ⟨g, 0, none⟩) xs.length cap ∧ g < w.heap.size := by
  rcases own_view h with ⟨_, hn⟩ | ⟨g, cap, hv, _, hg, _⟩
  · rw [hn] at hl; simp at hl
  · exact ⟨g, cap, hv, hg⟩

set_option maxHeartbeats 1600000 in
theorem iFinerInterval_v (v u : Value) (xs ys : List Int) (w : World) (hv : RdV w v xs) (hu : RdV w u ys) :
    Calls Try.prog 21 #[v, u] w (GivesIB w (finerInterval xs ys)) := by
  have HV := Lib.hid hv
  have HU := Lib.hid hu
  clear hv hu
  cases hf : finerIn xs ys
  · have HF := Lib.hid hf
    have hr : finerInterval xs ys = (0, false) := by simp [finerInterval, hf]
    rw [hr]
    clear hf hr
    go_enter Try.func21, Try.ntmps21
    go_wp2_with fail
    refine (iFinerIn_is false _ _ _ _ _ HV.out HU.out HF).mono ?_
    rintro e w1 ⟨rfl, hq⟩
    have hb := hq.below
    clear hq
    go_wp2
    go_ret2
    exact ⟨rfl, hb⟩
  · have HF := Lib.hid hf
    have hr : finerInterval xs ys = (prodOf bellN (inner xs ys), true) := by simp [finerInterval, hf]
    rw [hr]
    obtain ⟨hsum, hpos⟩ := inner_facts hf
    have ha : alike xs ys = true ∧ finerB xs ys = true := by simpa [finerIn] using hf
    obtain ⟨hx, hy, hl⟩ := alike_iff.1 ha.1
    have HPX := Lib.hid hx
    have HPY := Lib.hid hy
    have HLL := Lib.hid hl.symm
    have HFB := Lib.hid ha.2
    have HW := Lib.hid (prod_way bellN (fun s => (bellN s).toNat) (by decide) bell_mul bell_le (inner xs ys) hsum hpos)
    have hil : 1 ≤ (inner xs ys).length := by
      have := pSize_pos (partIn_small hy) (partIn_len hy).1
      rw [inner_length]; omega
    have hil8 : (inner xs ys).length ≤ 8 := by
      have := pSize_bd (partIn_small hy)
      rw [inner_length]; omega
    clear hf hr hsum hpos ha hx hy hl
    go_enter Try.func21, Try.ntmps21
    go_wp2_with fail
    refine (iFinerIn_is true _ _ _ _ _ HV.out HU.out HF).mono ?_
    rintro e w1 ⟨rfl, hq⟩
    have hb1 := hq.below
    have HV1 := Lib.hid (rdv_below HV.out hb1)
    have HU1 := Lib.hid (rdv_below HU.out hb1)
    clear hq
    go_wp2_with fail
    refine (countsWithin_v _ _ xs ys _ HV1.out HU1.out HPX.out HPY.out HLL.out).mono ?_
    rintro e w2 ⟨uv, rfl, ho, hb2⟩
    obtain ⟨g, cap, rfl, hg⟩ := own_slice ho hil
    have hbel := below_step hb1 hb2
    have HO := Lib.hid ho
    obtain ⟨n, hn⟩ : ∃ n, n = (inner xs ys).length := ⟨_, rfl⟩
    rw [← hn] at HO hil hil8 ⊢
    have HN := Lib.hid hn
    clear ho hb1 hb2 hn
    go_wp2
    go_loopw [6, 17] (fun u i wr => ∃ k : Nat, k ≤ n ∧ i = .int .i64 k ∧ u = .int .i64 (prodOf bellN ((inner xs ys).take k)) ∧ Own wr w1.heap.size (.slice (some ⟨g, 0, none⟩) n cap) (inner xs ys) ∧ Below w.heap.size w wr) (fun _ i _ => n - (intOf i).toNat)
    case atStart => exact ⟨0, Nat.zero_le _, rfl, rfl, HO.out, hbel⟩
    case round =>
      obtain ⟨k, hk, rfl, rfl, hown, hbelr⟩ := hrel
      obtain ⟨hp1, hp2, hp3⟩ := HW.out k
      by_cases hlt : k < n
      · obtain ⟨⟨hc1, hc2⟩, hst, s, hs9, hsc, hsF⟩ := hp3 (by rw [← HN.out]; exact hlt)
        have hck := own_cell hown k (by rw [← HN.out]; exact hlt)
        have hbl := bell_mul s hs9 ((inner xs ys).getD k 0).toNat (by omega) hsc
        have hbF := bell_le (s + ((inner xs ys).getD k 0).toNat) (by omega)
        obtain ⟨c, hc⟩ : ∃ c, c = (inner xs ys).getD k 0 := ⟨_, rfl⟩
        obtain ⟨x, hx⟩ : ∃ x, x = prodOf bellN ((inner xs ys).take k) := ⟨_, rfl⟩
        rw [← hc] at hc1 hc2 hst hsc hck hbl hbF
        rw [← hx] at hp1 hp2 hst hsF ⊢
        have hmul : (x * bellN c.toNat).natAbs ≤ 40320 := by
          rw [Int.natAbs_mul]
          exact Nat.le_trans (Nat.le_trans (Nat.mul_le_mul_right _ hsF) hbl) hbF
        obtain ⟨b, hb⟩ : ∃ b, b = bellN c.toNat := ⟨_, rfl⟩
        rw [← hb] at hst hmul
        have HB := Lib.hid hb
        have HST := Lib.hid hst
        have HO2 := Lib.hid hown
        have b1 : (k : Int) < n := by omega
        have b2 : IntKind.i64.wrap (x * b) = x * b := IntWalk.i64_in _ (by omega)
        have b3 : wrap64 (x * b) = x * b := by rw [← IntWalk.i64_left]; exact b2
        clear hc hx hb hst hown hp3 hsc hbl hbF hsF hmul
        go_wp2_with fail
        refine (partitionCount_v c _ (by omega) hc2).mono ?_
        rintro e w3 ⟨rfl, hb3⟩
        rw [← HB.out]
        have hbel3 := below_step hbelr hb3
        have HO3 := Lib.hid (own_below HO2.out hb3)
        clear hb3
        go_wp2
        go_roundw
        case rel => exact ⟨k + 1, by omega, by go_num, by rw [HST.out], HO3.out, hbel3⟩
        case measure => simp [intOf]; omega
      · have hkn : k = n := by omega
        subst hkn
        have he : prodOf bellN ((inner xs ys).take k) = prodOf bellN (inner xs ys) := by rw [List.take_of_length_le (by rw [← HN.out]; omega)]
        rw [he]
        clear hp3 he
        go_wp2
        go_ret2
        exact ⟨rfl, hbelr⟩

set_option maxHeartbeats 1600000 in
theorem sFinerInterval_v (v u : Value) (xs ys : List Int) (w : World) (hv : RdV w v xs) (hu : RdV w u ys) :
    Calls Try.prog 22 #[v, u] w (GivesIB w (finerInterval xs ys)) := by
  have HV := Lib.hid hv
  have HU := Lib.hid hu
  clear hv hu
  cases hf : finerIn xs ys
  · have HF := Lib.hid hf
    have hr : finerInterval xs ys = (0, false) := by simp [finerInterval, hf]
    rw [hr]
    clear hf hr
    go_enter Try.func22, Try.ntmps22
    go_wp2_with fail
    refine (sFinerIn_is false _ _ _ _ _ HV.out HU.out HF).mono ?_
    rintro e w1 ⟨rfl, hq⟩
    have hb := hq.below
    clear hq
    go_wp2
    go_ret2
    exact ⟨rfl, hb⟩
  · have HF := Lib.hid hf
    have hr : finerInterval xs ys = (prodOf bellN (inner xs ys), true) := by simp [finerInterval, hf]
    rw [hr]
    obtain ⟨hsum, hpos⟩ := inner_facts hf
    have ha : alike xs ys = true ∧ finerB xs ys = true := by simpa [finerIn] using hf
    obtain ⟨hx, hy, hl⟩ := alike_iff.1 ha.1
    have HPX := Lib.hid hx
    have HPY := Lib.hid hy
    have HLL := Lib.hid hl.symm
    have HFB := Lib.hid ha.2
    have HW := Lib.hid (prod_way bellN (fun s => (bellN s).toNat) (by decide) bell_mul bell_le (inner xs ys) hsum hpos)
    have hil : 1 ≤ (inner xs ys).length := by
      have := pSize_pos (partIn_small hy) (partIn_len hy).1
      rw [inner_length]; omega
    have hil8 : (inner xs ys).length ≤ 8 := by
      have := pSize_bd (partIn_small hy)
      rw [inner_length]; omega
    clear hf hr hsum hpos ha hx hy hl
    go_enter Try.func22, Try.ntmps22
    go_wp2_with fail
    refine (sFinerIn_is true _ _ _ _ _ HV.out HU.out HF).mono ?_
    rintro e w1 ⟨rfl, hq⟩
    have hb1 := hq.below
    have HV1 := Lib.hid (rdv_below HV.out hb1)
    have HU1 := Lib.hid (rdv_below HU.out hb1)
    clear hq
    go_wp2_with fail
    refine (l2Inner_v _ _ xs ys _ HV1.out HU1.out HPX.out HPY.out HLL.out HFB.out).mono ?_
    rintro e w2 ⟨uv, rfl, ho, hb2⟩
    obtain ⟨g, cap, rfl, hg⟩ := own_slice ho hil
    have hbel := below_step hb1 hb2
    have HO := Lib.hid ho
    obtain ⟨n, hn⟩ : ∃ n, n = (inner xs ys).length := ⟨_, rfl⟩
    rw [← hn] at HO hil hil8 ⊢
    have HN := Lib.hid hn
    clear ho hb1 hb2 hn
    go_wp2
    go_loopw [6, 8] (fun u i wr => ∃ k : Nat, k ≤ n ∧ i = .int .i64 k ∧ u = .int .i64 (prodOf bellN ((inner xs ys).take k)) ∧ Own wr w1.heap.size (.slice (some ⟨g, 0, none⟩) n cap) (inner xs ys) ∧ Below w.heap.size w wr) (fun _ i _ => n - (intOf i).toNat)
    case atStart => exact ⟨0, Nat.zero_le _, rfl, rfl, HO.out, hbel⟩
    case round =>
      obtain ⟨k, hk, rfl, rfl, hown, hbelr⟩ := hrel
      obtain ⟨hp1, hp2, hp3⟩ := HW.out k
      by_cases hlt : k < n
      · obtain ⟨⟨hc1, hc2⟩, hst, s, hs9, hsc, hsF⟩ := hp3 (by rw [← HN.out]; exact hlt)
        have hck := own_cell hown k (by rw [← HN.out]; exact hlt)
        have hbl := bell_mul s hs9 ((inner xs ys).getD k 0).toNat (by omega) hsc
        have hbF := bell_le (s + ((inner xs ys).getD k 0).toNat) (by omega)
        obtain ⟨c, hc⟩ : ∃ c, c = (inner xs ys).getD k 0 := ⟨_, rfl⟩
        obtain ⟨x, hx⟩ : ∃ x, x = prodOf bellN ((inner xs ys).take k) := ⟨_, rfl⟩
        rw [← hc] at hc1 hc2 hst hsc hck hbl hbF
        rw [← hx] at hp1 hp2 hst hsF ⊢
        have hmul : (x * bellN c.toNat).natAbs ≤ 40320 := by
          rw [Int.natAbs_mul]
          exact Nat.le_trans (Nat.le_trans (Nat.mul_le_mul_right _ hsF) hbl) hbF
        obtain ⟨b, hb⟩ : ∃ b, b = bellN c.toNat := ⟨_, rfl⟩
        rw [← hb] at hst hmul
        have HB := Lib.hid hb
        have HST := Lib.hid hst
        have HO2 := Lib.hid hown
        have b1 : (k : Int) < n := by omega
        have b2 : IntKind.i64.wrap (x * b) = x * b := IntWalk.i64_in _ (by omega)
        have b3 : wrap64 (x * b) = x * b := by rw [← IntWalk.i64_left]; exact b2
        clear hc hx hb hst hown hp3 hsc hbl hbF hsF hmul
        go_wp2_with fail
        refine (l2Bell_v c _ (by omega) hc2).mono ?_
        rintro e w3 ⟨rfl, hb3⟩
        rw [← HB.out]
        have hbel3 := below_step hbelr hb3
        have HO3 := Lib.hid (own_below HO2.out hb3)
        clear hb3
        go_wp2
        go_roundw
        case rel => exact ⟨k + 1, by omega, by go_num, by rw [HST.out], HO3.out, hbel3⟩
        case measure => simp [intOf]; omega
      · have hkn : k = n := by omega
        subst hkn
        have he : prodOf bellN ((inner xs ys).take k) = prodOf bellN (inner xs ys) := by rw [List.take_of_length_le (by rw [← HN.out]; omega)]
        rw [he]
        clear hp3 he
        go_wp2
        go_ret2
        exact ⟨rfl, hbelr⟩

theorem fA_bd : ∀ k, k < 8 → (fA k : Int) ≤ 5040 := by decide +kernel

theorem sgn_fA : ∀ m, m < 9 → 1 ≤ m → sgn m = if m % 2 = 0 then -(fA (m - 1) : Int) else (fA (m - 1) : Int) := by decide +kernel

end Go.Proofs.Ytabgadmdjpohaab
