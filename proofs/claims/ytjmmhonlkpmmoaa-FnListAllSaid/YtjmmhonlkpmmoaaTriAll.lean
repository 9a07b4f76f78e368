/-
  The contracts of (*triangle).row, sumOf and NumberAll (impl and spec).
-/
import Derived.Test.YtjmmhonlkpmmoaaTriUse
import Derived.Test.YtjmmhonlkpmmoaaTriBell
import Derived.Deep.RegionHeld3
import Derived.Maps.Range
import Derived.Maps.RangeWalk
namespace Go.Proofs.Ytjmmhonlkpmmoaa
set_option linter.unusedSimpArgs false
set_option linter.unusedVariables false
set_option linter.unnecessarySimpa false
open Go.RowKit
set_option maxRecDepth 100000

/-- The first c numbers of the row n. -/
def rowTo (G : Int → Int → Int) (n : Int) (c : Nat) : List Int := (List.range c).map fun (k : Nat) => G n k

theorem rowTo_length (G : Int → Int → Int) (n : Int) (c : Nat) : (rowTo G n c).length = c := by simp [rowTo]

theorem row_stage (G : Int → Int → Int) (n : Int) (c k : Nat) (h : k < c) : (rowTo G n k ++ List.replicate (c - k) 0).set k (G n k) = rowTo G n (k + 1) ++ List.replicate (c - (k + 1)) 0 := by
  apply List.ext_getElem?
  intro j
  by_cases h1 : j < k
  · rw [List.getElem?_set_ne (by omega), List.getElem?_append_left (by rw [rowTo_length]; omega), List.getElem?_append_left (by rw [rowTo_length]; omega)]
    simp [rowTo, h1, show j < k + 1 by omega]
  · by_cases h2 : j = k
    · subst h2
      rw [List.getElem?_set_self (by simp [rowTo_length]; omega), List.getElem?_append_left (by rw [rowTo_length]; omega)]
      simp [rowTo]
    · rw [List.getElem?_set_ne (by omega), List.getElem?_append_right (by rw [rowTo_length]; omega), List.getElem?_append_right (by rw [rowTo_length]; omega)]
      simp only [rowTo_length, List.getElem?_replicate]
      split <;> split <;> first | rfl | omega

set_option maxHeartbeats 1600000 in
theorem row_any (fid tb mb m p : Nat) (G : Int → Int → Int) (hA : AtAll fid G) (w : World) (hT : TriOk w tb mb fid G m) (hAt : TriAt w tb mb) (hp : p ≤ 12) (hm : m + 13 * triMore p ≤ maxLen) :
    Calls Try.prog 62 #[.pointer (some ⟨tb, 0, none⟩), .int .i64 p] w fun e w' => ∃ v, e = .returned v ∧ Own w' w.heap.size v (rowTo G p (p + 1)) ∧ (∃ m', TriOk w' tb mb fid G m') ∧ TriAt w' tb mb ∧ w.grownBy w' (some mb) := by
  obtain ⟨n, hn⟩ : ∃ n, n = p + 1 := ⟨_, rfl⟩
  have hni : (p : Int) + 1 = (n : Int) := by omega
  rw [← hn]
  have HT := Lib.hid hT
  have HAt := Lib.hid hAt
  have HN := Lib.hid hn
  have HA := Lib.hid hA
  obtain ⟨q, hq⟩ : ∃ q, q = triMore p := ⟨_, rfl⟩
  rw [← hq] at hm
  have HQ := Lib.hid hq
  have hmb : mb < w.heap.size := by
    obtain ⟨_, _, _, es, cl, hb, _⟩ := hT
    exact (Array.getElem?_eq_some_iff.1 hb).1
  clear hT hAt hA hn hq
  obtain ⟨i0, hi, hz0, hz1, hz2⟩ := info_parts Try.infoInt
  go_enter Try.func62, Try.ntmps62
  go_wp2_with (at_make; refine wpList_make_full _ rfl _ _ 23 rfl w.heap.size 3 i0 (.int .i64 0) 1 Try.underlying23 hi hz0 hz1 _ _ _ _ n (by rfl) (by rfl) rfl rfl (by rw [hz2]; omega) (by unfold maxLen; omega) (Nat.le_refl _) ?_)
  intro w1 hown1 hgrow1
  have hown := own_made hown1
  have HG1 := Lib.hid (hgrow1.but (some mb))
  have hs1 : w.heap.size < w1.heap.size := (own_lt hown w.heap.size rfl).2
  have HT1 : TriOk w1 tb mb fid G m := triOk_turn HT.out HG1.out (by
    obtain ⟨_, _, _, es, cl, hb, hr⟩ := HT.out
    exact ⟨es, cl, by rw [hgrow1.block _ hmb (by simp)]; exact hb, hr⟩)
  clear hown1 hgrow1
  go_wp2
  go_loopw [12] (fun i wr => ∃ k : Nat, k ≤ n ∧ i = .int .i64 k ∧ Own wr w.heap.size (.slice (some ⟨w.heap.size, 0, none⟩) n n) (rowTo G p k ++ List.replicate (n - k) 0) ∧ TriOk wr tb mb fid G (m + k * q) ∧ w.grownBy wr (some mb) ∧ w.heap.size < wr.heap.size)
    (fun i _ => n - (intOf i).toNat)
  case atStart => exact ⟨0, Nat.zero_le _, rfl, by simpa [rowTo] using hown, by simpa using HT1, HG1.out, hs1⟩
  case round =>
    obtain ⟨k, hk, rfl, hownr, hTr, hgr, hszr⟩ := hrel
    by_cases hlt : k < n
    · have hkq : k * q ≤ 12 * q := Nat.mul_le_mul_right _ (by have := HN.out; omega)
      have hsucc : (k + 1) * q = k * q + q := Nat.succ_mul k q
      have HC := Lib.hid (HA.out.2 p (by omega) (by omega) tb mb (m + k * q) k wr (by omega) (by have := HN.out; omega) hTr (by rw [← HQ.out]; omega))
      rw [← HQ.out] at HC
      obtain ⟨g, hg⟩ : ∃ g, g = G p k := ⟨_, rfl⟩
      rw [← hg] at HC
      have HG := Lib.hid hg
      have HO := Lib.hid hownr
      have HGR := Lib.hid hgr
      have HSC := Lib.hid hsucc
      clear hownr hTr hgr hg hkq hsucc
      go_wp2_with fail
      refine HC.out.mono ?_
      rintro e w2 ⟨rfl, hT2, hg2⟩
      have hown2 := own_grown HO.out hg2 (.inr (by simp [Value.ownBlock]; omega))
      have hfz := own_frozen hown2 k
      obtain ⟨v0, hv0⟩ : ∃ v0, w2.cell? ⟨w.heap.size, k, none⟩ = some v0 := ⟨_, own_cell hown2 k (by simp [rowTo_length]; omega)⟩
      obtain ⟨hst, hgs⟩ := own_stored hown2 (by simp [rowTo_length]; omega) k g
      rw [HG.out, row_stage G p n k hlt, ← HG.out] at hst
      have hT3 : TriOk (w2.setCell ⟨w.heap.size, k, none⟩ (.int .i64 g)) tb mb fid G (m + (k + 1) * q) := by
        rw [HSC.out, ← Nat.add_assoc]
        have hne : w.heap.size ≠ mb := by omega
        have htb : tb < w.heap.size := HAt.out.2.1
        obtain ⟨k1, k2, k3, es, cl, hb, hr⟩ := hT2
        exact ⟨k1, by rw [tri_set_other (by simp <;> omega)]; exact k2, by rw [tri_set_other (by simp <;> omega)]; exact k3, es, cl, by rw [RowKit.Below.heap_setCell _ _ _ _ (fun e => hne (by simpa using e.symm))]; exact hb, hr⟩
      have hg3 : w.grownBy (w2.setCell ⟨w.heap.size, k, none⟩ (.int .i64 g)) (some mb) := (grown_trans HGR.out hg2).andThen hgs (fun j hj => by cases hj; exact .inl (Nat.le_refl _))
      have hsz3 := hg2.size
      have HST := Lib.hid hst
      have HT3 := Lib.hid hT3
      have HG3 := Lib.hid hg3
      clear hst hgs hT2 hT3 hg2 hg3 hown2
      go_wp2
      go_roundw
      case rel => exact ⟨k + 1, by omega, by go_num, HST.out, HT3.out, HG3.out, by simp [World.setCell]; omega⟩
      case measure => simp [intOf]; omega
    · have hkn : k = n := by omega
      subst hkn
      have HGR := Lib.hid hgr
      have HTR := Lib.hid hTr
      rw [Nat.sub_self, List.replicate_zero, List.append_nil] at hownr
      have HO := Lib.hid hownr
      clear hownr hTr hgr
      go_wp2
      go_ret
      exact ⟨_, rfl, HO.out, ⟨_, HTR.out⟩, triAt_of HAt.out HTR.out HGR.out, HGR.out⟩

def sumL (l : List Int) : Int := l.foldl (· + ·) 0
theorem sumL_snoc (l : List Int) (c : Int) : sumL (l ++ [c]) = sumL l + c := by simp [sumL, List.foldl_append]

theorem snocInd {p : List Int → Prop} (h0 : p []) (h1 : ∀ l c, p l → p (l ++ [c])) (l : List Int) : p l := by
  have : ∀ n (l : List Int), l.length = n → p l := by
    intro n
    induction n with
    | zero => intro l hl; rw [List.eq_nil_of_length_eq_zero hl]; exact h0
    | succ n ih =>
      intro l hl
      have hne : l ≠ [] := by intro e; rw [e] at hl; simp at hl
      rw [← List.dropLast_concat_getLast hne]
      exact h1 _ _ (ih _ (by rw [List.length_dropLast]; omega))
  exact this _ l rfl

theorem sumL_bd (l : List Int) : (∀ c ∈ l, 0 ≤ c ∧ c ≤ 1099511627776) → 0 ≤ sumL l ∧ sumL l ≤ 1099511627776 * l.length := by
  refine snocInd (p := fun l => (∀ c ∈ l, 0 ≤ c ∧ c ≤ 1099511627776) → 0 ≤ sumL l ∧ sumL l ≤ 1099511627776 * l.length) (fun _ => by simp [sumL]) (fun l c ih h => ?_) l
  have h1 := ih fun d hd => h d (by simp [hd])
  have h2 := h c (by simp)
  rw [sumL_snoc, List.length_append]
  simp
  omega

theorem takeSnoc (l : List Int) (k : Nat) (h : k < l.length) : l.take (k + 1) = l.take k ++ [l.getD k 0] := by
  rw [List.take_succ_eq_append_getElem h]
  simp [List.getD, h]

set_option maxHeartbeats 800000 in
theorem sumOf_v (v : Value) (xs : List Int) (w : World) (hv : RdV w v xs) (hb : ∀ c ∈ xs, 0 ≤ c ∧ c ≤ 1099511627776) (hl : xs.length ≤ 1048576) :
    Calls Try.prog 59 #[v] w fun e w' => e = .returned (.int .i64 (sumL xs)) ∧ w = w' := by
  obtain ⟨ao, ca, rfl, hr, hc1, hc2⟩ := hv
  obtain ⟨n, hn⟩ : ∃ n, n = xs.length := ⟨_, rfl⟩
  rw [← hn] at hl hc1 ⊢
  have HN := Lib.hid hn
  have HR := Lib.hid hr
  have HB := Lib.hid hb
  clear hn hr hb hc1 hc2
  go_enter Try.func59, Try.ntmps59
  go_wp2
  go_loop [3, 8] (fun u i => ∃ k : Nat, k ≤ n ∧ i = .int .i64 k ∧ u = .int .i64 (sumL (xs.take k))) (fun _ i => n - (intOf i).toNat)
  case atStart => exact ⟨0, Nat.zero_le _, rfl, rfl⟩
  case round =>
    obtain ⟨k, hk, rfl, rfl⟩ := hrel
    have hbs := sumL_bd (xs.take k) fun c hc => HB.out c (List.mem_of_mem_take hc)
    have hlk : (xs.take k).length ≤ 1048576 := by rw [List.length_take]; omega
    by_cases hlt : k < n
    · rcases HR.out with hx | ⟨b, off, rfl, hcx⟩
      · have := HN.out
        rw [hx] at this
        simp at this
        omega
      · have hc1 := hcx k (by have := HN.out; omega)
        have hts := takeSnoc xs k (by have := HN.out; omega)
        have hxm : xs.getD k 0 ∈ xs := by
          have h : k < xs.length := by have := HN.out; omega
          rw [List.getD_eq_getElem?_getD, List.getElem?_eq_getElem h]
          simp
        have hxb := HB.out _ hxm
        have hst : sumL (xs.take (k + 1)) = sumL (xs.take k) + xs.getD k 0 := by rw [hts, sumL_snoc]
        obtain ⟨x, hx⟩ : ∃ x, x = xs.getD k 0 := ⟨_, rfl⟩
        obtain ⟨y, hy⟩ : ∃ y, y = sumL (xs.take k) := ⟨_, rfl⟩
        rw [← hx] at hc1 hst hxb
        rw [← hy] at hst hbs ⊢
        have HST := Lib.hid hst
        have b1 : wrap64 (y + x) = y + x := IntWalk.wrap64_in _ (by omega)
        have b2 : IntKind.i64.wrap (y + x) = y + x := IntWalk.i64_in _ (by omega)
        clear hcx hts hxm hst hx hy
        go_wp2
        go_round
        case rel => exact ⟨k + 1, by omega, by go_num, by rw [HST.out]⟩
        case measure => simp [intOf]; omega
    · have hkn : k = n := by omega
      have he : xs.take k = xs := by rw [List.take_of_length_le (by have := HN.out; omega)]
      rw [he] at hbs ⊢
      clear he
      go_wp2
      go_ret
      exact ⟨rfl, rfl⟩

def numAll (n : Int) : Int × Bool := if 0 ≤ n ∧ n ≤ 12 then (sumL (rowTo (ext fB) n (n.toNat + 1)), true) else (0, false)

theorem bell_fact : ∀ n : Nat, n < 13 → sumL (rowTo (ext fB) n (n + 1)) = belN n := by decide +kernel
theorem bell_small : ∀ n : Nat, n < 13 → 0 ≤ belN n ∧ belN n ≤ 5000000 := by decide +kernel

theorem rowTo_bd {G : Int → Int → Int} (hG : Numbers G) {n : Int} (hn : n ≤ 12) (c : Nat) : ∀ x ∈ rowTo G n c, 0 ≤ x ∧ x ≤ 1099511627776 := by
  intro x hx
  obtain ⟨k, _, rfl⟩ := List.mem_map.1 hx
  exact hG.bd n k hn

set_option maxHeartbeats 1600000 in
theorem iNumberAll_v (n : Int) (w : World) (_h0 : (Lit.int .i64 n).wf = true) : Calls Try.prog 20 #[.int .i64 n] w (GivesIB w (numAll n)) := by
  have HI := Lib.hid (isUpTo_any 12 n w)
  by_cases hn : 0 ≤ n ∧ n ≤ 12
  · have hr : numAll n = (sumL (rowTo (ext fB) n (n.toNat + 1)), true) := by unfold numAll; rw [if_pos hn]
    obtain ⟨p, rfl⟩ := Int.eq_ofNat_of_zero_le hn.1
    rw [Int.toNat_natCast] at hr
    rw [hr]
    have hd : decide (0 ≤ (p : Int) ∧ (p : Int) ≤ 12) = true := decide_eq_true hn
    rw [hd] at HI
    have hle := triMore_le hn.2
    obtain ⟨xs, hxs⟩ : ∃ xs, xs = rowTo (ext fB) p (p + 1) := ⟨_, rfl⟩
    have hxl : xs.length = p + 1 := by rw [hxs, rowTo_length]
    rw [← hxs]
    have HX := Lib.hid hxs
    have HXL := Lib.hid hxl
    clear hr hd hxs hxl
    go_enter Try.func20, Try.ntmps20
    go_wp2_with fail
    refine HI.out.mono ?_
    rintro e w' ⟨rfl, rfl⟩
    go_wp2_with fail
    refine (newTriangle_any 61 (ext fB) w).mono ?_
    rintro e w1 ⟨tb, mb, rfl, ht, hm, hT, hAt, hb1⟩
    have HT := Lib.hid hT
    have HAt := Lib.hid hAt
    have HB1 := Lib.hid hb1
    clear hT hAt hb1
    go_wp2_with fail
    refine (row_any 61 tb mb 0 p (ext fB) all_blocks w1 HT.out HAt.out (by omega) (by unfold maxLen; omega)).mono ?_
    rintro e w2 ⟨v, rfl, hown, _, _, hg⟩
    rw [← HX.out] at hown
    have HO := Lib.hid hown
    have HB2 := Lib.hid (HB1.out.grown hg HB1.out.size (fun j hj => by cases hj; exact hm))
    clear hown hg
    go_wp2_with fail
    refine (sumOf_v v xs w2 (own_rdv HO.out) (by rw [HX.out]; exact rowTo_bd numbers_B hn.2 _) (by rw [HXL.out]; omega)).mono ?_
    rintro e w3 ⟨rfl, rfl⟩
    go_wp2
    go_ret2
    exact ⟨rfl, HB2.out⟩
  · have hr : numAll n = (0, false) := by unfold numAll; rw [if_neg hn]
    have hd : decide (0 ≤ n ∧ n ≤ 12) = false := decide_eq_false hn
    rw [hd] at HI
    rw [hr]
    clear hr hd hn
    go_enter Try.func20, Try.ntmps20
    go_wp2_with fail
    refine HI.out.mono ?_
    rintro e w' ⟨rfl, rfl⟩
    go_wp2
    go_ret2
    exact ⟨rfl, Below.refl _ _⟩

end Go.Proofs.Ytjmmhonlkpmmoaa
