/-
  The contracts of (sorted[pair]).ahead, unlike, without, of slices.Equal on lists of pairs.
-/
import Derived.Test.YtieldehghmikkaaPairWith
import Derived.Deep.LoopGhost
import Derived.StillTailTactics
namespace Go.Proofs.Ytieldehghmikkaa
set_option linter.unusedSimpArgs false
set_option linter.unusedVariables false
set_option linter.unnecessarySimpa false
open Go.RowKit
set_option maxRecDepth 100000

/-- How many pairs stand ahead of p. -/
def aheadN (p : Nat × Nat) : List (Nat × Nat) → Nat
  | [] => 0
  | q :: l => if cmpP q p < 0 then aheadN p l + 1 else 0
theorem aheadN_le (p : Nat × Nat) : ∀ L, aheadN p L ≤ L.length := by
  intro L
  induction L with
  | nil => exact Nat.le_refl _
  | cons q l ih => unfold aheadN; split <;> simp <;> omega
theorem drop_consP (L : List (Nat × Nat)) (k : Nat) (h : k < L.length) : L.drop k = L.getD k (0, 0) :: L.drop (k + 1) := by
  rw [List.drop_eq_getElem_cons h]
  simp [List.getD, h]

set_option maxHeartbeats 1600000 in
theorem ahead_any (v : Value) (L : List (Nat × Nat)) (p : Nat × Nat) (w : World) (hv : RdP w v L) (hl : L.length ≤ 1000000) :
    Calls Try.prog 80 #[v, arcV p] w (GivesI w (aheadN p L : Nat)) := by
  obtain ⟨ao, cap, rfl, h1, h2, hx⟩ := hv
  obtain ⟨n, hn⟩ : ∃ n, n = L.length := ⟨_, rfl⟩
  rw [← hn] at h1 hl ⊢
  have HN := Lib.hid hn
  have HX := Lib.hid hx
  obtain ⟨a, b⟩ := p
  obtain ⟨res, hres⟩ : ∃ res, res = aheadN (a, b) L := ⟨_, rfl⟩
  rw [← hres]
  have HR := Lib.hid hres
  clear hn hx hres
  unfold arcV
  go_enter Try.func80, Try.ntmps80
  go_wp2
  obtain ⟨W, hW⟩ : ∃ W, W = (w.alloc (.cells #[.int .i64 a, .int .i64 b] 53)) := ⟨_, rfl⟩
  have f1 : W.cell? ⟨w.heap.size, 0, none⟩ = some (.int .i64 a) := by rw [hW]; exact (cells_two rfl).1
  have f2 : W.cell? ⟨w.heap.size, 1, none⟩ = some (.int .i64 b) := by rw [hW]; exact (cells_two rfl).2
  have hbW : Below w.heap.size w W := by rw [hW]; exact (Below.refl _ _).alloc (Nat.le_refl _) _
  rw [← hW]
  clear hW
  go_loopw [5] (fun i wr => ∃ k : Nat, k ≤ n ∧ i = .int .i64 k ∧ Hid (res = k + aheadN (a, b) (L.drop k)) ∧ Below W.heap.size W wr) (fun i _ => n - (intOf i).toNat)
  case atStart => exact ⟨0, Nat.zero_le _, rfl, Lib.hid (by rw [HR.out]; simp), Below.refl _ _⟩
  case round =>
    obtain ⟨k, hk, rfl, HE, hbel⟩ := hrel
    have g1 := cellSt f1 hbel
    have g2 := cellSt f2 hbel
    by_cases hlt : k < n
    · rcases HX.out with hx | ⟨bb, off, rfl, hcx⟩
      · have := HN.out
        rw [hx] at this
        simp at this
        omega
      have hck := hcx k (by have := HN.out; omega)
      have hdc := drop_consP L k (by have := HN.out; omega)
      obtain ⟨⟨c, d⟩, hy⟩ : ∃ y, y = L.getD k (0, 0) := ⟨_, rfl⟩
      rw [← hy] at hck hdc
      have HDC := Lib.hid hdc
      have hbwr := below_step hbW hbel
      have g3 := cellSt (cellSt hck.1 hbW) hbel
      have g4 := cellSt (cellSt hck.2 hbW) hbel
      dsimp only at g3 g4
      clear hck hcx hy hdc
      have hm : ∀ w1 : World, (method 220 53 (.agg #[.int .i64 c, .int .i64 d]) "loop.example/setparts/impl.compare").run Try.prog w1 = .ok (115, .agg #[.int .i64 c, .int .i64 d]) w1 := fun w1 => method_pair (c, d) w1
      have HC := Lib.hid fun (w1 : World) => compare_any (c, d) (a, b) w1
      have HST : Hid (aheadN (a, b) ((c, d) :: L.drop (k + 1)) = if cmpP (c, d) (a, b) < 0 then aheadN (a, b) (L.drop (k + 1)) + 1 else 0) := rfl
      obtain ⟨r, hr⟩ : ∃ r, r = cmpP (c, d) (a, b) := ⟨_, rfl⟩
      rw [← hr] at HC HST
      clear hr
      unfold arcV at HC
      have b0 : (0 : Int) ≤ (k : Int) := by omega
      have b1 : (k : Int) < (n : Int) := by omega
      have hs1 := hbel.size
      go_wp2_with fail
      go_region_held3 (fun w' => w'.cell? ⟨w.heap.size, 0, none⟩ = some (.int .i64 a) ∧ w'.cell? ⟨w.heap.size, 1, none⟩ = some (.int .i64 b) ∧ w'.cell? ⟨bb, off + k * 2, none⟩ = some (.int .i64 c) ∧ w'.cell? ⟨bb, off + k * 2 + 1, none⟩ = some (.int .i64 d)) (first | exact ⟨g1, g2, g3, g4⟩ | exact ⟨d1, d2, d3, d4⟩) (first | (go_at_call 115; refine (HC.out _).mono ?_; rintro e W5 ⟨rfl, hb5⟩; have d1 := cellSt (w := wr.drew) g1 hb5; have d2 := cellSt (w := wr.drew) g2 hb5; have d3 := cellSt (w := wr.drew) g3 hb5; have d4 := cellSt (w := wr.drew) g4 hb5))
      have hb6 : Below wr.heap.size wr W5 := below_step (below_drewN (Below.refl _ wr) 1) hb5
      have hbel5 := below_step hbel hb6
      clear hb5 hb6 d1 d2 d3 d4 g1 g2 g3 g4
      by_cases hr : r < 0
      · have hd : decide (r < 0) = true := decide_eq_true hr
        try rw [hd]
        have HSE : Hid (aheadN (a, b) (L.drop k) = aheadN (a, b) (L.drop (k + 1)) + 1) := Lib.hid (by rw [HDC.out, HST.out, if_pos hr])
        clear hr hd
        go_wp2
        go_roundw
        case rel => exact ⟨k + 1, by omega, by go_num, Lib.hid (by rw [HE.out, HSE.out]; omega), hbel5⟩
        case measure => simp [intOf]; omega
      · have hd : decide (r < 0) = false := decide_eq_false hr
        try rw [hd]
        have HSE : Hid (aheadN (a, b) (L.drop k) = 0) := Lib.hid (by rw [HDC.out, HST.out, if_neg hr])
        clear hr hd
        go_wp2
        go_ret
        refine ⟨ret_int ?_, below_step hbW hbel5⟩
        rw [HE.out, HSE.out]
        omega
    · have hkn : k = n := by omega
      subst hkn
      have hd : decide ((k : Int) < (k : Int)) = false := by simp
      go_wp2_with fail
      go_quiet (fail)
      go_wp2
      go_ret
      refine ⟨ret_int ?_, below_step hbW (below_drewN hbel _)⟩
      rw [HE.out, HN.out, List.drop_length]
      rfl

/-- How many pairs are just in one of two ascending lists, told by going along both. -/
def unlikeN : List (Nat × Nat) → List (Nat × Nat) → Nat
  | [], M => M.length
  | p :: L, [] => L.length + 1
  | p :: L, q :: M => if cmpP p q < 0 then unlikeN L (q :: M) + 1 else if 0 < cmpP p q then unlikeN (p :: L) M + 1 else unlikeN L M
termination_by L M => L.length + M.length

theorem unlikeN_nil (M : List (Nat × Nat)) : unlikeN [] M = M.length := by simp [unlikeN]
theorem unlikeN_nil2 (L : List (Nat × Nat)) : unlikeN L [] = L.length := by cases L <;> simp [unlikeN]
theorem unlikeN_cons (p q : Nat × Nat) (L M : List (Nat × Nat)) : unlikeN (p :: L) (q :: M) = if cmpP p q < 0 then unlikeN L (q :: M) + 1 else if 0 < cmpP p q then unlikeN (p :: L) M + 1 else unlikeN L M := by rw [unlikeN]

theorem rdP_cons {w : World} {v : Value} {p : Nat × Nat} {L : List (Nat × Nat)} (h : RdP w v (p :: L)) : ∃ b off cap, v = .slice (some ⟨b, off, none⟩) (L.length + 1) cap ∧ L.length + 1 ≤ cap ∧ cap ≤ maxLen ∧ CellsP w b off (p :: L) := by
  obtain ⟨ao, cap, rfl, h1, h2, h3⟩ := h
  rcases h3 with h3 | ⟨b, off, rfl, hc⟩
  · cases h3
  · exact ⟨b, off, cap, rfl, h1, h2, hc⟩
theorem rdP_nil (w : World) {ao : Option Addr} {cap : Nat} (h : cap ≤ maxLen) : RdP w (.slice ao 0 cap) [] := ⟨ao, cap, rfl, Nat.zero_le _, h, .inl rfl⟩
theorem rdP_tail {w : World} {b off cap : Nat} {p : Nat × Nat} {L : List (Nat × Nat)} (hc : CellsP w b off (p :: L)) (h1 : L.length + 1 ≤ cap) (h2 : cap ≤ maxLen) {m : Nat} (hm : m = L.length) {cap' : Nat} (hcap : cap' = cap - 1) : RdP w (.slice (some ⟨b, off + 2, none⟩) m cap') L := by
  subst hm hcap
  refine ⟨_, cap - 1, rfl, by omega, by omega, .inr ⟨b, off + 2, rfl, ?_⟩⟩
  have := cellsP_drop hc 1
  simpa using this

set_option maxHeartbeats 3200000 in
theorem unlike_any (v u : Value) (L M : List (Nat × Nat)) (w : World) (hv : RdP w v L) (hu : RdP w u M) (hl : L.length ≤ 1000000) (hm : M.length ≤ 1000000) :
    Calls Try.prog 77 #[v, u] w (GivesI w (unlikeN L M : Nat)) := by
  obtain ⟨res, hres⟩ : ∃ res, res = unlikeN L M := ⟨_, rfl⟩
  rw [← hres]
  have HV := Lib.hid hv
  have HU := Lib.hid hu
  have HR := Lib.hid hres
  have HL := Lib.hid hl
  have HM := Lib.hid hm
  clear hv hu hres hl hm
  go_enter Try.func77, Try.ntmps77
  go_wp2
  go_loopg [0, 1, 5] (L.length + M.length) (fun g x y c wr => ∃ (X Y : List (Nat × Nat)) (k : Nat), RdP w x X ∧ RdP w y Y ∧ c = .int .i64 k ∧ Hid (res = k + unlikeN X Y) ∧ g = X.length + Y.length ∧ k + g ≤ 2000000 ∧ Below w.heap.size w wr)
  case atStart => exact ⟨L, M, 0, HV.out, HU.out, rfl, Lib.hid (by rw [HR.out]; omega), rfl, by have := HL.out; have := HM.out; omega, Below.refl _ _⟩
  case round =>
    obtain ⟨X, Y, k, hx, hy, rfl, HE, hg, hk, hbel⟩ := hrel
    cases X with
    | nil =>
      obtain ⟨ao, ca, rfl, _, hca, _⟩ := hx
      obtain ⟨bo, cb, rfl, _, hcb, _⟩ := hy
      obtain ⟨m, hm⟩ : ∃ m, m = Y.length := ⟨_, rfl⟩
      rw [unlikeN_nil] at HE
      rw [← hm] at HE ⊢
      simp only [List.length_nil, Nat.zero_add] at hg ⊢
      have hkm : k + m ≤ 2000000 := by omega
      clear hm hg hk
      go_wp2
      go_ret
      exact ⟨ret_int (by rw [HE.out]; omega), hbel⟩
    | cons p X =>
      cases Y with
      | nil =>
        obtain ⟨ao, ca, rfl, _, hca, _⟩ := hx
        obtain ⟨bo, cb, rfl, _, hcb, _⟩ := hy
        obtain ⟨m, hm⟩ : ∃ m, m = (p :: X).length := ⟨_, rfl⟩
        rw [unlikeN_nil2] at HE
        rw [← hm] at HE hg ⊢
        simp only [List.length_nil, Nat.add_zero] at hg ⊢
        have hm0 : (0 : Int) < (m : Int) := by simp only [List.length_cons] at hm; omega
        have hkm : k + m ≤ 2000000 := by omega
        clear hm hg hk
        go_wp2
        go_ret
        exact ⟨ret_int (by rw [HE.out]; omega), hbel⟩
      | cons q Y =>
        obtain ⟨b1, o1, c1, rfl, hx1, hx2, hcx⟩ := rdP_cons hx
        obtain ⟨b2, o2, c2, rfl, hy1, hy2, hcy⟩ := rdP_cons hy
        have HCX := Lib.hid hcx
        have HCY := Lib.hid hcy
        have g1 := cellSt (hcx 0 (by simp)).1 hbel
        have g2 := cellSt (hcx 0 (by simp)).2 hbel
        have g3 := cellSt (hcy 0 (by simp)).1 hbel
        have g4 := cellSt (hcy 0 (by simp)).2 hbel
        obtain ⟨a, b⟩ := p
        obtain ⟨c, d⟩ := q
        simp only [Nat.zero_mul, Nat.add_zero, List.getD_cons_zero] at g1 g2 g3 g4
        have HXX := Lib.hid hx
        have HYY := Lib.hid hy
        have HSE := Lib.hid (unlikeN_cons (a, b) (c, d) X Y)
        have hm : ∀ w1 : World, (method 220 53 (.agg #[.int .i64 a, .int .i64 b]) "loop.example/setparts/impl.compare").run Try.prog w1 = .ok (115, .agg #[.int .i64 a, .int .i64 b]) w1 := fun w1 => method_pair (a, b) w1
        have HC := Lib.hid fun (w1 : World) => compare_any (a, b) (c, d) w1
        obtain ⟨r, hr⟩ : ∃ r, r = cmpP (a, b) (c, d) := ⟨_, rfl⟩
        rw [← hr] at HC HSE
        unfold arcV at HC
        obtain ⟨m1, hm1⟩ : ∃ m1, m1 = X.length := ⟨_, rfl⟩
        obtain ⟨m2, hm2⟩ : ∃ m2, m2 = Y.length := ⟨_, rfl⟩
        simp only [List.length_cons] at hg
        rw [← hm1] at hx1 hg ⊢
        rw [← hm2] at hy1 hg ⊢
        have HM1 := Lib.hid hm1
        have HM2 := Lib.hid hm2
        have bm1 : (0 : Int) < (m1 : Int) + 1 := by omega
        have bm2 : (0 : Int) < (m2 : Int) + 1 := by omega
        have HG := Lib.hid hg
        have hk1 : (k : Int) ≤ 1999999 := by omega
        have TX := Lib.hid (fun (cc : Nat) (e : cc = c1 - 1) => rdP_tail hcx (by omega) hx2 (show m1 = X.length from hm1) e)
        have TY := Lib.hid (fun (cc : Nat) (e : cc = c2 - 1) => rdP_tail hcy (by omega) hy2 (show m2 = Y.length from hm2) e)
        have TX1 : Hid (c1 = 1 → RdP w (.slice (some ⟨b1, o1, none⟩) m1 0) X) := Lib.hid fun e => by
          have : m1 = 0 := by omega
          subst this
          have : X = [] := List.eq_nil_of_length_eq_zero hm1.symm
          subst this
          exact rdP_nil w (Nat.zero_le _)
        have TY1 : Hid (c2 = 1 → RdP w (.slice (some ⟨b2, o2, none⟩) m2 0) Y) := Lib.hid fun e => by
          have : m2 = 0 := by omega
          subst this
          have : Y = [] := List.eq_nil_of_length_eq_zero hm2.symm
          subst this
          exact rdP_nil w (Nat.zero_le _)
        clear hcx hcy hx hy hr hm1 hm2 hg
        go_wp2_with fail
        go_region_held3 (fun w' => w'.cell? ⟨b1, o1, none⟩ = some (.int .i64 a) ∧ w'.cell? ⟨b1, o1 + 1, none⟩ = some (.int .i64 b) ∧ w'.cell? ⟨b2, o2, none⟩ = some (.int .i64 c) ∧ w'.cell? ⟨b2, o2 + 1, none⟩ = some (.int .i64 d)) (first | exact ⟨g1, g2, g3, g4⟩ | exact ⟨d1, d2, d3, d4⟩) (first | (go_at_call 115; refine (HC.out _).mono ?_; rintro e W5 ⟨rfl, hb5⟩; have d1 := cellSt (w := wr.drew) g1 hb5; have d2 := cellSt (w := wr.drew) g2 hb5; have d3 := cellSt (w := wr.drew) g3 hb5; have d4 := cellSt (w := wr.drew) g4 hb5))
        have hb6 : Below wr.heap.size wr W5 := below_step (below_drewN (Below.refl _ wr) 1) hb5
        have hbel5 := below_step hbel hb6
        clear hb5 hb6 d1 d2 d3 d4 g1 g2 g3 g4 hbel hm HC
        by_cases hr : r < 0
        · have HS2 : Hid (unlikeN ((a, b) :: X) ((c, d) :: Y) = unlikeN X ((c, d) :: Y) + 1) := Lib.hid (by rw [HSE.out, if_pos hr])
          have hr1 : (r != 0) = true := by simp; omega
          have hr2 : r ≤ 0 := by omega
          have hr3 : ¬ (r ≥ 0) := by omega
          have HW : Hid (w = w) := rfl
          by_cases hc1 : c1 = 1
          · have HT := Lib.hid (TX1.out hc1)
            go_wp2
            go_roundg (m1 + (m2 + 1))
            case rel => exact ⟨X, (c, d) :: Y, k + 1, HT.out, by rw [HM2.out]; exact HYY.out, by go_num, Lib.hid (by rw [HE.out, HS2.out]; omega), by rw [HM1.out, HM2.out]; rfl, by have := HG.out; omega, hbel5⟩
            case measure => have := HG.out; omega
          · have HT := Lib.hid (TX.out (c1 - 1) rfl)
            go_wp2
            go_roundg (m1 + (m2 + 1))
            case rel => exact ⟨X, (c, d) :: Y, k + 1, HT.out, by rw [HM2.out]; exact HYY.out, by go_num, Lib.hid (by rw [HE.out, HS2.out]; omega), by rw [HM1.out, HM2.out]; rfl, by have := HG.out; omega, hbel5⟩
            case measure => have := HG.out; omega
        · by_cases hr0 : 0 < r
          · have HS2 : Hid (unlikeN ((a, b) :: X) ((c, d) :: Y) = unlikeN ((a, b) :: X) Y + 1) := Lib.hid (by rw [HSE.out, if_neg hr, if_pos hr0])
            have hr1 : (r != 0) = true := by simp; omega
            have hr2 : ¬ r ≤ 0 := by omega
            have hr3 : r ≥ 0 := by omega
            by_cases hc2 : c2 = 1
            · have HT := Lib.hid (TY1.out hc2)
              go_wp2
              go_roundg (m1 + 1 + m2)
              case rel => exact ⟨(a, b) :: X, Y, k + 1, by rw [HM1.out]; exact HXX.out, HT.out, by go_num, Lib.hid (by rw [HE.out, HS2.out]; omega), by rw [HM1.out, HM2.out]; rfl, by have := HG.out; omega, hbel5⟩
              case measure => have := HG.out; omega
            · have HT := Lib.hid (TY.out (c2 - 1) rfl)
              go_wp2
              go_roundg (m1 + 1 + m2)
              case rel => exact ⟨(a, b) :: X, Y, k + 1, by rw [HM1.out]; exact HXX.out, HT.out, by go_num, Lib.hid (by rw [HE.out, HS2.out]; omega), by rw [HM1.out, HM2.out]; rfl, by have := HG.out; omega, hbel5⟩
              case measure => have := HG.out; omega
          · have hr00 : r = 0 := by omega
            have HS2 : Hid (unlikeN ((a, b) :: X) ((c, d) :: Y) = unlikeN X Y) := Lib.hid (by rw [HSE.out, if_neg hr, if_neg hr0])
            rw [hr00]
            clear hr hr0 hr00
            by_cases hc1 : c1 = 1
            · by_cases hc2 : c2 = 1
              · have HT := Lib.hid (TX1.out hc1)
                have HU := Lib.hid (TY1.out hc2)
                go_wp2
                go_roundg (m1 + m2)
                case rel => exact ⟨X, Y, k, HT.out, HU.out, rfl, Lib.hid (by rw [HE.out, HS2.out]), by rw [HM1.out, HM2.out], by have := HG.out; omega, hbel5⟩
                case measure => have := HG.out; omega
              · have HT := Lib.hid (TX1.out hc1)
                have HU := Lib.hid (TY.out (c2 - 1) rfl)
                go_wp2
                go_roundg (m1 + m2)
                case rel => exact ⟨X, Y, k, HT.out, HU.out, rfl, Lib.hid (by rw [HE.out, HS2.out]), by rw [HM1.out, HM2.out], by have := HG.out; omega, hbel5⟩
                case measure => have := HG.out; omega
            · by_cases hc2 : c2 = 1
              · have HT := Lib.hid (TX.out (c1 - 1) rfl)
                have HU := Lib.hid (TY1.out hc2)
                go_wp2
                go_roundg (m1 + m2)
                case rel => exact ⟨X, Y, k, HT.out, HU.out, rfl, Lib.hid (by rw [HE.out, HS2.out]), by rw [HM1.out, HM2.out], by have := HG.out; omega, hbel5⟩
                case measure => have := HG.out; omega
              · have HT := Lib.hid (TX.out (c1 - 1) rfl)
                have HU := Lib.hid (TY.out (c2 - 1) rfl)
                go_wp2
                go_roundg (m1 + m2)
                case rel => exact ⟨X, Y, k, HT.out, HU.out, rfl, Lib.hid (by rw [HE.out, HS2.out]), by rw [HM1.out, HM2.out], by have := HG.out; omega, hbel5⟩
                case measure => have := HG.out; omega

theorem take_succP {L M : List (Nat × Nat)} {k : Nat} (h : L.take k = M.take k) (hx : k < L.length) (hy : k < M.length) (e : L.getD k (0, 0) = M.getD k (0, 0)) : L.take (k + 1) = M.take (k + 1) := by
  rw [List.take_succ_eq_append_getElem hx, List.take_succ_eq_append_getElem hy, h]
  simp [List.getD, hx, hy] at e
  rw [e]

set_option maxHeartbeats 1600000 in
theorem equal_any (v u : Value) (L M : List (Nat × Nat)) (w : World) (hv : RdP w v L) (hu : RdP w u M) (hl : L.length ≤ 1000000) (hlm : M.length ≤ 1000000) :
    Calls Try.prog 52 #[v, u] w (GivesB w (decide (L = M))) := by
  obtain ⟨ao, ca, rfl, h1, h2, hx⟩ := hv
  obtain ⟨bo, cb, rfl, h3, h4, hy⟩ := hu
  obtain ⟨n, hn⟩ : ∃ n, n = L.length := ⟨_, rfl⟩
  obtain ⟨m, hm⟩ : ∃ m, m = M.length := ⟨_, rfl⟩
  have HN := Lib.hid hn
  have HM := Lib.hid hm
  have HX := Lib.hid hx
  have HY := Lib.hid hy
  rw [← hn] at hl ⊢
  rw [← hm] at hlm ⊢
  clear hn hm hx hy h1 h2 h3 h4
  by_cases hnm : n = m
  · subst hnm
    go_enter Try.func52, Try.ntmps52
    go_wp2
    go_loopw [13] (fun i wr => ∃ k : Nat, k ≤ n ∧ i = .int .i64 k ∧ Hid (L.take k = M.take k) ∧ Same w wr) (fun i _ => n - (intOf i).toNat)
    case atStart => exact ⟨0, Nat.zero_le _, rfl, Lib.hid rfl, Same.refl w⟩
    case round =>
      obtain ⟨k, hk, rfl, HT, hsr⟩ := hrel
      by_cases hlt : k < n
      · rcases HX.out with hx | ⟨b1, o1, rfl, hcx⟩
        · have := HN.out
          rw [hx] at this
          simp at this
          omega
        rcases HY.out with hy | ⟨b2, o2, rfl, hcy⟩
        · have := HM.out
          rw [hy] at this
          simp at this
          omega
        have hc1 := hcx k (by have := HN.out; omega)
        have hc2 := hcy k (by have := HM.out; omega)
        obtain ⟨⟨a, b⟩, hp⟩ : ∃ p, p = L.getD k (0, 0) := ⟨_, rfl⟩
        obtain ⟨⟨c, d⟩, hq⟩ : ∃ q, q = M.getD k (0, 0) := ⟨_, rfl⟩
        rw [← hp] at hc1
        rw [← hq] at hc2
        dsimp only at hc1 hc2
        have g1 := cellSt hc1.1 (hsr _)
        have g2 := cellSt hc1.2 (hsr _)
        have g3 := cellSt hc2.1 (hsr _)
        have g4 := cellSt hc2.2 (hsr _)
        have HP := Lib.hid hp
        have HQ := Lib.hid hq
        clear hp hq hc1 hc2 hcx hcy
        have b0 : (0 : Int) ≤ (k : Int) := by omega
        have b1' : (k : Int) < (n : Int) := by omega
        by_cases e1 : a = c
        · by_cases e2 : b = d
          · have HE : Hid (L.getD k (0, 0) = M.getD k (0, 0)) := Lib.hid (by rw [← HP.out, ← HQ.out, e1, e2])
            subst e1 e2
            go_wp2
            go_region
            go_wp2
            go_roundw
            case rel => exact ⟨k + 1, by omega, by go_num, Lib.hid (take_succP HT.out (by have := HN.out; omega) (by have := HM.out; omega) HE.out), hsr.drewN 1⟩
            case measure => simp [intOf]; omega
          · have HE : Hid (¬ L = M) := Lib.hid fun e => by
              have := HQ.out
              rw [← e, ← HP.out, Prod.mk.injEq] at this
              exact e2 this.2.symm
            have e3 : ¬ ((b : Int) = (d : Int)) := by omega
            subst e1
            clear e2
            go_wp2
            go_region
            go_wp2
            go_ret
            exact ⟨by simp [HE.out], (hsr.drewN 1) _⟩
        · have HE : Hid (¬ L = M) := Lib.hid fun e => by
            have := HQ.out
            rw [← e, ← HP.out, Prod.mk.injEq] at this
            exact e1 this.1.symm
          have e3 : ¬ ((a : Int) = (c : Int)) := by omega
          clear e1
          go_wp2
          go_region
          go_wp2
          go_ret
          exact ⟨by simp [HE.out], (hsr.drewN 1) _⟩
      · have hkn : k = n := by omega
        subst hkn
        go_wp2
        go_ret
        have he : L = M := by
          have := HT.out
          rwa [List.take_of_length_le (by have := HN.out; omega), List.take_of_length_le (by have := HM.out; omega)] at this
        exact ⟨by simp [he], hsr _⟩
  · go_enter Try.func52, Try.ntmps52
    go_wp2
    go_ret
    have hne : ¬ L = M := fun e => hnm (by rw [HN.out, HM.out, e])
    exact ⟨by simp [hne], Below.refl _ _⟩

end Go.Proofs.Ytieldehghmikkaa
