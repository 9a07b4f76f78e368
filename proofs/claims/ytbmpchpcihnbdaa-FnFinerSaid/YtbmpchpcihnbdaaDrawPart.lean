/-
  The contracts of spec.l91Part, spec.l91Some, spec.DrawPartTurned: they draw some list of at most nine small numbers, in new memory.
-/
import Derived.Test.YtbmpchpcihnbdaaDraw
import Derived.Test.YtbmpchpcihnbdaaTurnMath
namespace Go.Proofs.Ytbmpchpcihnbdaa
set_option linter.unusedSimpArgs false
set_option linter.unusedVariables false
set_option linter.unnecessarySimpa false
open Go.RowKit
set_option maxRecDepth 100000

theorem grown_own {w a b : World} {g go : Nat} (h : w.grownBy a (some g)) (hab : a.grownBy b (some go)) (hge : w.heap.size ≤ go) : w.grownBy b (some g) :=
  ⟨hab.os.trans h.os, hab.tape.trans h.tape, hab.output.trans h.output, Nat.le_trans h.size hab.size, fun k hk hne => (hab.block k (Nat.lt_of_lt_of_le hk h.size) (fun e => by cases e; omega)).trans (h.block k hk hne)⟩

theorem grown_below {w a b : World} {g : Nat} (h : w.grownBy a (some g)) (hab : Below a.heap.size a b) : w.grownBy b (some g) :=
  ⟨hab.os.trans h.os, hab.tape.trans h.tape, hab.output.trans h.output, Nat.le_trans h.size hab.size, fun k hk hne => (hab.block k (Nat.lt_of_lt_of_le hk h.size)).trans (h.block k hk hne)⟩

theorem rdr_grown {a b : World} {g p : Nat} {bs : Value} {r : Option Nat} (h : Rdr a g bs p) (hab : a.grownBy b r) (hne : some g ≠ r) : Rdr b g bs p := by
  unfold Rdr at *
  rw [hab.block g (Array.getElem?_eq_some_iff.1 h).1 hne]
  exact h

theorem rdr_below {a b : World} {g p : Nat} {bs : Value} (h : Rdr a g bs p) (hab : Below a.heap.size a b) : Rdr b g bs p := by
  unfold Rdr at *
  rw [hab.block g (Array.getElem?_eq_some_iff.1 h).1]
  exact h

theorem bytes_grown {w w' : World} {a : Option Addr} {len g : Nat} (h : Bytes w a len) (hg : w.grownBy w' (some g)) (hne : 0 < len → ∀ x, a = some x → x.block ≠ g) : Bytes w' a len := by
  rcases h with h | ⟨b, off, ha, hc⟩
  · exact .inl h
  · refine .inr ⟨b, off, ha, fun j hj => ?_⟩
    obtain ⟨x, hx, hcx⟩ := hc j hj
    exact ⟨x, hx, hg.cell hcx (fun e => hne (by omega) _ ha (by cases e; rfl))⟩

/-- What is drawn: a list of at most m numbers from 0 to 9, in new memory; the reader goes on. -/
def Drawn (w : World) (g : Nat) (bs : Value) (p m : Nat) (e : Ending) (w' : World) : Prop :=
  ∃ v xs q, e = .returned v ∧ Own w' w.heap.size v xs ∧ (1 ≤ xs.length ∧ xs.length ≤ m) ∧ (∀ x ∈ xs, 0 ≤ x ∧ x ≤ 9) ∧ Rdr w' g bs q ∧ q ≤ p + 40 ∧ w.grownBy w' (some g)

theorem small_snoc {xs : List Int} {v : Int} (h : Small xs) (h0 : 0 ≤ v) (h1 : v ≤ 7) : Small (xs ++ [v]) := by
  intro j hj
  by_cases e : j < xs.length
  · rw [getD_snoc_lt _ _ _ e]; exact h j e
  · have : j = xs.length := by simp at hj; omega
    rw [this, getD_snoc_eq]; exact ⟨h0, h1⟩

theorem small_mem {xs : List Int} (h : Small xs) : ∀ x ∈ xs, 0 ≤ x ∧ x ≤ 9 := by
  intro x hx
  obtain ⟨j, hj, e⟩ := mem_iff_getD.1 hx
  have := h j hj
  omega

theorem pick_z (g : Nat) (a : Option Addr) (len cap p : Nat) (m : Int) (w : World) (hr : Rdr w g (.slice a len cap) p) (hby : Bytes w a len) (hne : 0 < len → ∀ x, a = some x → x.block ≠ g) (hlen : len ≤ 2000) (hp : p ≤ 1000000) (hn : 1 ≤ m) (hn2 : m ≤ 100000) :
    Calls Try.prog 65 #[.pointer (some ⟨g, 0, none⟩), .int .i64 m] w (Picked w g (.slice a len cap) p m.toNat) := by
  have := pick_any g a len cap p m.toNat w hr hby hne hlen hp (by omega) (by omega)
  rwa [Int.toNat_of_nonneg (by omega)] at this

/-- The same, and at least so many numbers as asked. -/
def DrawnN (w : World) (g : Nat) (bs : Value) (p n m : Nat) (e : Ending) (w' : World) : Prop :=
  ∃ v xs q, e = .returned v ∧ Own w' w.heap.size v xs ∧ (n ≤ xs.length ∧ xs.length ≤ m) ∧ (∀ x ∈ xs, 0 ≤ x ∧ x ≤ 9) ∧ Rdr w' g bs q ∧ q ≤ p + 40 ∧ w.grownBy w' (some g)

set_option maxHeartbeats 1000000 in
theorem l91Part_n (g : Nat) (a : Option Addr) (len cap p n : Nat) (w : World) (hr : Rdr w g (.slice a len cap) p) (hby : Bytes w a len) (hne : 0 < len → ∀ x, a = some x → x.block ≠ g) (hlen : len ≤ 2000) (hp : p ≤ 1000) (hn : 1 ≤ n) (hn2 : n ≤ 8) :
    Calls Try.prog 64 #[.pointer (some ⟨g, 0, none⟩), .int .i64 n] w (DrawnN w g (.slice a len cap) p n 9) := by
  have hg := (rdr_facts hr).1
  have HR := Lib.hid hr
  have HB := Lib.hid hby
  clear hr hby
  obtain ⟨w0, hw0⟩ : ∃ w0 : World, w0 = w.alloc (.cells #[] 3) := ⟨_, rfl⟩
  have hb0 : Below w.heap.size w w0 := by rw [hw0]; exact (Below.refl _ _).alloc (Nat.le_refl _) _
  have ho0 : Own w0 w.heap.size (.slice (some ⟨w.heap.size, 0, none⟩) 0 0) [] := by rw [hw0]; exact own_empty w _ (Nat.le_refl _)
  go_enter Try.func64, Try.ntmps64
  go_wp2_with fail
  rw [← hw0]
  refine (pick_any g a len cap p 3 _ (rdr_below HR.out hb0) (bytes_below HB.out hb0) hne hlen (by omega) (by omega) (by omega)).mono ?_
  rintro e w1 ⟨kd, rfl, hk3, hr1, hg1, hz1⟩
  have hG1 : w.grownBy w1 (some g) := grown_trans (⟨hb0.os, hb0.tape, hb0.output, hb0.size, fun k hk _ => hb0.block k hk⟩) hg1
  have ho1 : Own w1 w.heap.size (.slice (some ⟨w.heap.size, 0, none⟩) 0 0) [] := own_grown ho0 hg1 (.inr (by simp [Value.ownBlock]; omega))
  clear hg1 hz1 ho0 hb0 hw0
  have HR1 := Lib.hid hr1
  have HG1 := Lib.hid hG1
  have HO1 := Lib.hid ho1
  clear hr1 hG1 ho1
  go_wp2
  go_loopw [5, 7] (fun u i wr => ∃ (k g' cap' q : Nat) (xs : List Int), k ≤ n ∧ i = .int .i64 k ∧ u = .slice (some ⟨g', 0, none⟩) k cap' ∧ Own wr w.heap.size (.slice (some ⟨g', 0, none⟩) k cap') xs ∧ xs.length = k ∧ Small xs ∧ pSize xs ≤ k ∧ Rdr wr g (.slice a len cap) q ∧ q ≤ p + 1 + 2 * k ∧ w.grownBy wr (some g)) (fun _ i _ => n - (intOf i).toNat)
  case atStart => exact ⟨0, w.heap.size, 0, p + 1, [], Nat.zero_le _, rfl, rfl, HO1.out, rfl, fun j hj => by simp at hj, by decide, HR1.out, by omega, HG1.out⟩
  case round =>
    obtain ⟨k, g', cap', q, xs, hk, rfl, rfl, hown, hxl, hsm, hps, hrd, hq, hgr⟩ := hrel
    have hsz := hgr.size
    have hge : w.heap.size ≤ g' := (own_lt hown g' rfl).1
    have HO := Lib.hid hown
    have HXL := Lib.hid hxl
    have HSM := Lib.hid hsm
    have HRD := Lib.hid hrd
    have HGR := Lib.hid hgr
    obtain ⟨s, hs⟩ : ∃ s : Nat, pSize xs = s := ⟨(pSize xs).toNat, by have := (pSize_bd hsm).1; omega⟩
    rw [hs] at hps
    have HPS := Lib.hid hs
    clear hown hxl hsm hrd hgr hs
    by_cases hlt : k < n
    · go_wp2_with fail
      refine (l1Size_v _ xs _ (own_rdv HO.out) HSM.out).mono ?_
      rintro e w' ⟨rfl, rfl⟩
      rw [HPS.out]
      go_wp2_with fail
      refine (pick_z g a len cap q _ _ HRD.out (bytes_grown HB.out HGR.out hne) hne hlen (by omega) (by omega) (by omega)).mono ?_
      rintro e w2 ⟨t, rfl, ht, hr2, hg2, hz2⟩
      have HR2 := Lib.hid hr2
      have HG2 := Lib.hid (grown_trans HGR.out hg2)
      have HO2 := Lib.hid (own_grown HO.out hg2 (.inr (by simp [Value.ownBlock]; omega)))
      have hsz2 : w.heap.size ≤ w2.heap.size := by omega
      clear hr2 hg2 hz2
      by_cases hkd : kd = 1
      · have hkd1 : ((kd : Int) == 1) = true := by simp; omega
        clear hkd
        go_wp2_with fail
        refine (pick_z g a len cap (q + 1) _ _ HR2.out (bytes_grown HB.out HG2.out hne) hne hlen (by omega) (by omega) (by omega)).mono ?_
        rintro e w3 ⟨t2, rfl, ht2, hr3, hg3, hz3⟩
        have HR3 := Lib.hid hr3
        have HG3 := Lib.hid (grown_trans HG2.out hg3)
        have HO3 := Lib.hid (own_grown HO2.out hg3 (.inr (by simp [Value.ownBlock]; omega)))
        clear hr3 hg3
        have hzz : w.heap.size ≤ w3.heap.size := by omega
        clear hz3
        obtain ⟨q3, hq3⟩ : ∃ q3, q3 = q + 1 + 1 := ⟨_, rfl⟩
        rw [← hq3] at HR3
        by_cases hst : (t2 : Int) < s
        · have hmin : min (s : Int) t2 = t2 := by omega
          go_wp2_with (at_builtin; refine wpList_push rfl _ _ rfl w.heap.size g' k cap' xs rfl (own_alloc HO3.out _) HXL.out.symm ⟨w3.heap.size, 0, none⟩ rfl t2 (cell_new1 _ _ _) (by omega) (by simp; omega) ?_)
          intro g2 cap2 w4 hown4 hgr4 hg4
          have hG4 : w.grownBy w4 (some g) := grown_own (grown_below HG3.out ((Below.refl _ _).alloc (Nat.le_refl _) _)) hgr4 hge
          have hR4 := rdr_grown (rdr_below HR3.out ((Below.refl _ _).alloc (Nat.le_refl _) _)) hgr4 (fun e => by cases e; omega)
          have HO4 := Lib.hid hown4
          have HG4 := Lib.hid hG4
          have HR4 := Lib.hid hR4
          clear hown4 hgr4 hg4 hG4 hR4
          go_wp2
          go_roundw
          case rel =>
            refine ⟨k + 1, g2, cap2, q3, xs ++ [(t2 : Int)], by omega, by go_num, rfl, HO4.out, by simp [HXL.out], small_snoc HSM.out (by omega) (by omega), ?_, HR4.out, by omega, HG4.out⟩
            have := HPS.out
            unfold pSize at this ⊢
            rw [sizeFrom_append, this]
            omega
          case measure => simp [intOf]; omega
        · have hmin : min (s : Int) t2 = s := by omega
          go_wp2_with (at_builtin; refine wpList_push rfl _ _ rfl w.heap.size g' k cap' xs rfl (own_alloc HO3.out _) HXL.out.symm ⟨w3.heap.size, 0, none⟩ rfl s (cell_new1 _ _ _) (by omega) (by simp; omega) ?_)
          intro g2 cap2 w4 hown4 hgr4 hg4
          have hG4 : w.grownBy w4 (some g) := grown_own (grown_below HG3.out ((Below.refl _ _).alloc (Nat.le_refl _) _)) hgr4 hge
          have hR4 := rdr_grown (rdr_below HR3.out ((Below.refl _ _).alloc (Nat.le_refl _) _)) hgr4 (fun e => by cases e; omega)
          have HO4 := Lib.hid hown4
          have HG4 := Lib.hid hG4
          have HR4 := Lib.hid hR4
          clear hown4 hgr4 hg4 hG4 hR4
          go_wp2
          go_roundw
          case rel =>
            refine ⟨k + 1, g2, cap2, q3, xs ++ [(s : Int)], by omega, by go_num, rfl, HO4.out, by simp [HXL.out], small_snoc HSM.out (by omega) (by omega), ?_, HR4.out, by omega, HG4.out⟩
            have := HPS.out
            unfold pSize at this ⊢
            rw [sizeFrom_append, this]
            omega
          case measure => simp [intOf]; omega
      · obtain ⟨w3, hw3⟩ : ∃ w3 : World, w3 = w2 := ⟨_, rfl⟩
        rw [← hw3] at HR2 HG2 HO2 hsz2 ⊢
        have HR3 := HR2
        have HG3 := HG2
        have HO3 := HO2
        have hzz : w.heap.size ≤ w3.heap.size := by omega
        clear hw3 HR2 HG2 HO2
        have hkd' : ((kd : Int) == 1) = false := by simp; omega
        have ht0 : (0 : Int) ≤ (t : Int) := by omega
        obtain ⟨q3, hq3⟩ : ∃ q3, q3 = q + 1 := ⟨_, rfl⟩
        rw [← hq3] at HR3
        go_wp2_with (at_builtin; refine wpList_push rfl _ _ rfl w.heap.size g' k cap' xs rfl (own_alloc HO3.out _) HXL.out.symm ⟨w3.heap.size, 0, none⟩ rfl t (cell_new1 _ _ _) (by omega) (by simp; omega) ?_)
        intro g2 cap2 w4 hown4 hgr4 hg4
        have hG4 : w.grownBy w4 (some g) := grown_own (grown_below HG3.out ((Below.refl _ _).alloc (Nat.le_refl _) _)) hgr4 hge
        have hR4 := rdr_grown (rdr_below HR3.out ((Below.refl _ _).alloc (Nat.le_refl _) _)) hgr4 (fun e => by cases e; omega)
        have HO4 := Lib.hid hown4
        have HG4 := Lib.hid hG4
        have HR4 := Lib.hid hR4
        clear hown4 hgr4 hg4 hG4 hR4
        go_wp2
        go_roundw
        case rel =>
          refine ⟨k + 1, g2, cap2, q3, xs ++ [(t : Int)], by omega, by go_num, rfl, HO4.out, by simp [HXL.out], small_snoc HSM.out ht0 (by omega), ?_, HR4.out, by omega, HG4.out⟩
          have := HPS.out
          unfold pSize at this ⊢
          rw [sizeFrom_append, this]
          omega
        case measure => simp [intOf]; omega
    · have hkn : k = n := by omega
      subst hkn
      have hB := bytes_grown HB.out HGR.out hne
      go_wp2_with fail
      refine (pick_z g a len cap q _ _ HRD.out hB hne hlen (by omega) (by omega) (by omega)).mono ?_
      rintro e w2 ⟨t, rfl, ht, hr2, hg2, hz2⟩
      have HR2 := Lib.hid hr2
      have HG2 := Lib.hid (grown_trans HGR.out hg2)
      have HO2 := Lib.hid (own_grown HO.out hg2 (.inr (by simp [Value.ownBlock]; omega)))
      have hsz2 : w.heap.size ≤ w2.heap.size := by omega
      clear hr2 hg2 hz2
      by_cases h40 : t = 0
      · subst h40
        go_wp2_with (at_builtin; refine wpList_push rfl _ _ rfl w.heap.size g' k cap' xs rfl (own_alloc HO2.out _) HXL.out.symm ⟨w2.heap.size, 0, none⟩ rfl 9 (cell_new1 _ _ _) (by omega) (by simp; omega) ?_)
        intro g2 cap2 w4 hown4 hgr4 hg4
        have hG4 : w.grownBy w4 (some g) := grown_own (grown_below HG2.out ((Below.refl _ _).alloc (Nat.le_refl _) _)) hgr4 hge
        have hR4 := rdr_grown (rdr_below HR2.out ((Below.refl _ _).alloc (Nat.le_refl _) _)) hgr4 (fun e => by cases e; omega)
        have HO4 := Lib.hid hown4
        have HG4 := Lib.hid hG4
        have HR4 := Lib.hid hR4
        clear hown4 hgr4 hg4 hG4 hR4
        go_wp2
        go_ret
        refine ⟨_, xs ++ [9], q + 1, rfl, HO4.out, ⟨by simp [HXL.out] <;> omega, by simp [HXL.out]; omega⟩, ?_, HR4.out, by omega, HG4.out⟩
        intro y hy
        rcases List.mem_append.1 hy with h | h
        · exact small_mem HSM.out y h
        · rw [List.mem_singleton.1 h]; omega
      · have ht1 : ((t : Int) == 0) = false := by simp; omega
        go_wp2
        go_ret
        exact ⟨_, xs, q + 1, rfl, HO2.out, by have := HXL.out; omega, small_mem HSM.out, HR2.out, by omega, HG2.out⟩

theorem l91Part_any (g : Nat) (a : Option Addr) (len cap p n : Nat) (w : World) (hr : Rdr w g (.slice a len cap) p) (hby : Bytes w a len) (hne : 0 < len → ∀ x, a = some x → x.block ≠ g) (hlen : len ≤ 2000) (hp : p ≤ 1000) (hn : 1 ≤ n) (hn2 : n ≤ 8) :
    Calls Try.prog 64 #[.pointer (some ⟨g, 0, none⟩), .int .i64 n] w (Drawn w g (.slice a len cap) p 9) :=
  (l91Part_n g a len cap p n w hr hby hne hlen hp hn hn2).mono fun e w1 ⟨v, xs, q, h1, h2, h3, h4⟩ => ⟨v, xs, q, h1, h2, by omega, h4⟩

theorem l91Part_z (g : Nat) (a : Option Addr) (len cap p : Nat) (m : Int) (w : World) (hr : Rdr w g (.slice a len cap) p) (hby : Bytes w a len) (hne : 0 < len → ∀ x, a = some x → x.block ≠ g) (hlen : len ≤ 2000) (hp : p ≤ 1000) (hn : 1 ≤ m) (hn2 : m ≤ 8) :
    Calls Try.prog 64 #[.pointer (some ⟨g, 0, none⟩), .int .i64 m] w (Drawn w g (.slice a len cap) p 9) := by
  have := l91Part_any g a len cap p m.toNat w hr hby hne hlen hp (by omega) (by omega)
  rwa [Int.toNat_of_nonneg (by omega)] at this

theorem bytes_of_row {w : World} {a : Option Addr} {len cap : Nat} {zs : List Int} (h : IsRow .u8 w a len cap zs) : Bytes w a len ∧ len ≤ cap ∧ cap ≤ maxLen := by
  rcases h with ⟨rfl, rfl, rfl, rfl⟩ | ⟨x, rfl, hl, hm, hz, hc, hw⟩
  · exact ⟨.inl rfl, Nat.le_refl _, Nat.zero_le _⟩
  · refine ⟨?_, hl, hm⟩
    by_cases h0 : len = 0
    · exact .inl h0
    · obtain ⟨b, off, spot⟩ := x
      have hc0 := hc 0 (by omega)
      have hspot : spot = none := by simpa [Addr.add] using World.cell?_spot hc0
      subst hspot
      refine .inr ⟨b, off, rfl, fun j hj => ?_⟩
      have hcj := hc j (by omega)
      rw [Addr.add_lit] at hcj
      have hmem : zs.getD j 0 ∈ zs := mem_of_getD (by omega) rfl
      have hwf := hw _ hmem
      have hb : 0 ≤ zs.getD j 0 ∧ zs.getD j 0 ≤ 255 := by
        simpa [Lit.wf, IntKind.min, IntKind.max, IntKind.bits, IntKind.signed] using hwf
      refine ⟨(zs.getD j 0).toNat, by omega, ?_⟩
      rw [hcj, Int.toNat_of_nonneg hb.1]

end Go.Proofs.Ytbmpchpcihnbdaa
