/-
  What the laws of this claim lean on: what functions of the program and of the model answer, one after another, and plain mathematics. No condition.
-/
import Derived.Test.YtfiaiephbemdoaaDoorMgL
import Derived.Test.YtfiaiephbemdoaaDoorMgM

set_option maxHeartbeats 800000
set_option linter.unusedVariables false
set_option linter.unusedSimpArgs false
set_option linter.unnecessarySimpa false
set_option maxRecDepth 100000

namespace Go.Proofs.YtfiaiephbemdoaaDoor

section
open Go.RowKit

theorem ownM_readV {w w' : World} {B S g : Nat} {v : Value} {ps : List (List Int)} (h : OwnM w B S v ps) (hB : g < B) (hg : w.grownBy w' (some g)) : OwnM w' B S v ps :=
  ownM_kept h hg
    (fun u vs k hu => by
      cases hv : u.ownBlock with
      | none => exact .inl rfl
      | some q => exact .inr fun e => by have := (World.ownsRow.lt hu q hv).1; cases e; omega)
    (fun u vs k hu => by
      cases hv : u.ownBlock with
      | none => exact .inl rfl
      | some q => exact .inr fun e => by have := (World.ownsRow.lt hu q hv).1; cases e; omega)
def Few (xss : List (List Int)) : Prop := ∀ x ∈ xss, 1 ≤ x.length ∧ x.length ≤ 7
theorem few_snoc {xss : List (List Int)} {x : List Int} (h : Few xss) (h1 : 1 ≤ x.length) (h2 : x.length ≤ 7) : Few (xss ++ [x]) := by
  intro y hy
  rcases List.mem_append.1 hy with hy | hy
  · exact h y hy
  · rw [List.mem_singleton.1 hy]; exact ⟨h1, h2⟩

def ViewsR (w0 : World) (g : Nat) (a : Option Addr) (m cap p : Nat) (e : Ending) (w' : World) : Prop :=
  ∃ v xss q, e = .returned v ∧ OwnM w' (g + 1) w'.heap.size v xss ∧ (1 ≤ xss.length ∧ xss.length ≤ 6) ∧ Few xss ∧ q ≤ p + 400 ∧ Rds w0 w' g a m cap q

set_option maxHeartbeats 3200000 in
theorem views_r {w0 w : World} {g m cap p : Nat} {a : Option Addr} (h : Rds w0 w g a m cap p) (hp : p ≤ 100) :
    Calls (cutP Tryd.prog) 29 #[.pointer (some ⟨g, 0, none⟩)] w (ViewsR w0 g a m cap p) := by
  go_enter Trydp.func29, Trydp.ntmps29
  go_wp2_with fail
  refine (pick_r h _ (by omega) (by omega) (by omega)).mono ?_
  rintro e w1 ⟨n0, rfl, hn0, r1, hg1⟩
  clear hg1
  obtain ⟨n, hn⟩ : ∃ n : Nat, n = n0 + 1 := ⟨_, rfl⟩
  have HNI := Lib.hid (show (1 : Int) + (n0 : Int) = n by omega)
  have hn1 : 1 ≤ n := by omega
  have hn5 : n ≤ 5 := by omega
  clear hn
  go_wp2_with fail
  rw [HNI.out]
  clear hn0
  refine (pick_r r1 _ (by omega) (by omega) (by omega)).mono ?_
  rintro e w2 ⟨k0, rfl, hk0, r2, hg2⟩
  clear hg2
  obtain ⟨kk, hk⟩ : ∃ n : Nat, n = k0 + 1 := ⟨_, rfl⟩
  have HKI := Lib.hid (show (1 : Int) + (k0 : Int) = kk by omega)
  have hk1 : 1 ≤ kk := by omega
  have hk4 : kk ≤ 4 := by omega
  have hgw : g = w0.heap.size := r2.hg
  have hlt2 := r2.lt
  have HOM0 : Hid (OwnM (w2.alloc (.cells #[] 26)) (g + 1) (w2.alloc (.cells #[] 26)).heap.size (.slice (some ⟨w2.heap.size, 0, none⟩) 0 0) []) := Lib.hid (ownM_mono (ownM_empty w2 (g + 1) (by omega)) (Nat.le_refl _) (by simp))
  have R2 := Lib.hid (Rds.step r2 ((Below.refl _ _).alloc (Nat.le_refl _) (.cells #[] 26)))
  have HGW := Lib.hid hgw
  clear r1 r2 hk hgw hlt2 h
  go_wp2
  rw [HKI.out]
  clear hk0
  go_loopw [5, 6] (fun u i wr => ∃ (k g' cap' q : Nat) (xss : List (List Int)), k ≤ kk ∧ i = .int .i64 k ∧ u = .slice (some ⟨g', 0, none⟩) k cap' ∧ OwnM wr (g + 1) wr.heap.size (.slice (some ⟨g', 0, none⟩) k cap') xss ∧ k = xss.length ∧ Few xss ∧ q ≤ p + 2 + 40 * k ∧ Rds w0 wr g a m cap q) (fun _ i _ => kk - (intOf i).toNat)
  case atStart => exact ⟨0, w2.heap.size, 0, p + 1 + 1, [], Nat.zero_le _, rfl, rfl, HOM0.out, rfl, fun x hx => by simp at hx, by omega, R2.out⟩
  case round =>
    clear HOM0 R2
    obtain ⟨k, g', cap', q, xss, hk, rfl, rfl, hown, hm', hfew, hq, hr⟩ := hrel
    have HO := Lib.hid hown
    have HM := Lib.hid hm'
    have HF := Lib.hid hfew
    have R := Lib.hid hr
    have hgl0 := hr.lt
    clear hown hm' hfew hr
    by_cases hlt : k < kk
    · go_wp2_with fail
      refine (part_rs R.out n hn1 (by omega) (by omega)).mono ?_
      rintro e w3 ⟨va, xs, q2, rfl, oa, hl, hq2, r3, hg3⟩
      have hs3 := hg3.size
      obtain ⟨ao3, ca3, rfl⟩ := own_slice' oa
      have hi3 := inB_mono (S' := w3.heap.size + 1) (inB_of_own oa) (Nat.le_refl _) (by omega)
      have HOM := Lib.hid (ownM_below (ownM_readV HO.out (Nat.lt_succ_self g) hg3) ((Below.refl _ _).alloc (Nat.le_refl _) (.cells #[.slice ao3 xs.length ca3] 26)))
      have HOU := Lib.hid (own_alloc (own_mono (B' := g + 1) oa (by omega)) (.cells #[.slice ao3 xs.length ca3] 26))
      have HCE := Lib.hid (cell_new1 w3 (.slice ao3 xs.length ca3) 26)
      have R3 := Lib.hid r3
      have HIN : Hid (InB (.slice ao3 xs.length ca3) wr.heap.size (w3.alloc (.cells #[.slice ao3 xs.length ca3] 26)).heap.size) := Lib.hid (by simpa using hi3)
      have HSW : Hid (wr.heap.size ≤ (w3.alloc (.cells #[.slice ao3 xs.length ca3] 26)).heap.size) := Lib.hid (by simp; omega)
      clear oa r3 hg3 hi3 HO R
      go_wp2_with (at_builtin; refine wpList_pushV rfl _ _ rfl (g + 1) wr.heap.size k _ xss rfl HOM.out HM.out ⟨w3.heap.size, 0, none⟩ rfl _ _ HCE.out HOU.out HIN.out (by omega) HSW.out (by omega) ?_; intro g4 cap4 w9 hown4 hgr4)
      have hrow : g + 1 ≤ g' := by
        obtain ⟨vs, hr⟩ := ownM_row0 HOM.out
        exact (World.ownsRow.lt hr g' rfl).1
      have hgw := HGW.out
      have HR9 := Lib.hid (Rds.push (g' := g') R3.out hgr4 (by omega) (by omega))
      have HO9 := Lib.hid hown4
      clear hown4 hgr4 HOM HCE HOU HIN HSW hgw R3
      go_wp2
      go_roundw
      case rel => exact ⟨k + 1, g4, cap4, q2, xss ++ [xs], by omega, by go_num, rfl, HO9.out, by simp [HM.out], few_snoc HF.out (by omega) (by omega), by omega, HR9.out⟩
      case measure => simp [intOf]; omega
    · have hkn : k = kk := by omega
      subst hkn
      go_wp2_with fail
      refine (pick_r R.out _ (by omega) (by omega) (by omega)).mono ?_
      rintro e w4 ⟨t, rfl, ht, r4, hg4⟩
      have hs4 := hg4.size
      have HO4 := Lib.hid (ownM_mono (ownM_readV HO.out (Nat.lt_succ_self g) hg4) (Nat.le_refl _) hs4)
      have R4 := Lib.hid r4
      have hgl4 := r4.lt
      clear hg4 r4 HO R
      by_cases h0 : t = 0
      · subst h0
        have HE := Lib.hid (show (n : Int) + 1 = ((n + 1 : Nat) : Int) by omega)
        go_wp2_with fail
        rw [HE.out]
        refine (part_rs R4.out (n + 1) (by omega) (by omega) (by omega)).mono ?_
        rintro e w3 ⟨va, xs, q2, rfl, oa, hl, hq2, r3, hg3⟩
        have hs3 := hg3.size
        obtain ⟨ao3, ca3, rfl⟩ := own_slice' oa
        have hi3 := inB_mono (S' := w3.heap.size + 1) (inB_of_own oa) (Nat.le_refl _) (by omega)
        have HOM := Lib.hid (ownM_below (ownM_readV HO4.out (Nat.lt_succ_self g) hg3) ((Below.refl _ _).alloc (Nat.le_refl _) (.cells #[.slice ao3 xs.length ca3] 26)))
        have HOU := Lib.hid (own_alloc (own_mono (B' := g + 1) oa (by omega)) (.cells #[.slice ao3 xs.length ca3] 26))
        have HCE := Lib.hid (cell_new1 w3 (.slice ao3 xs.length ca3) 26)
        have R3 := Lib.hid r3
        have HIN : Hid (InB (.slice ao3 xs.length ca3) w4.heap.size (w3.alloc (.cells #[.slice ao3 xs.length ca3] 26)).heap.size) := Lib.hid (by simpa using hi3)
        have HSW : Hid (w4.heap.size ≤ (w3.alloc (.cells #[.slice ao3 xs.length ca3] 26)).heap.size) := Lib.hid (by simp; omega)
        clear oa r3 hg3 hi3 HO4 R4
        go_wp2_with (at_builtin; refine wpList_pushV rfl _ _ rfl (g + 1) w4.heap.size k _ xss rfl HOM.out HM.out ⟨w3.heap.size, 0, none⟩ rfl _ _ HCE.out HOU.out HIN.out (by omega) HSW.out (by omega) ?_; intro g4 cap4 w9 hown4 hgr4)
        have hrow : g + 1 ≤ g' := by
          obtain ⟨vs, hr⟩ := ownM_row0 HOM.out
          exact (World.ownsRow.lt hr g' rfl).1
        have hgw := HGW.out
        have HR9 := Lib.hid (Rds.push (g' := g') R3.out hgr4 (by omega) (by omega))
        have HO9 := Lib.hid hown4
        clear hown4 hgr4 HOM HCE HOU HIN HSW hgw R3
        go_wp2
        go_ret
        have hm := HM.out
        exact ⟨_, xss ++ [xs], q2, rfl, HO9.out, by simp; omega, few_snoc HF.out (by omega) (by omega), by omega, HR9.out⟩
      · have h01 : ((t : Int) == 0) = false := by simp; omega
        go_wp2
        go_ret
        have hm := HM.out
        exact ⟨_, xss, q + 1, rfl, HO4.out, by omega, HF.out, by omega, R4.out⟩

def ViewsDrawn (w : World) (e : Ending) (w' : World) : Prop :=
  ∃ v xss, e = .returned v ∧ RdM w' v xss ∧ (1 ≤ xss.length ∧ xss.length ≤ 6) ∧ Few xss ∧ Below w.heap.size w w'
theorem l92Some_any (a : Option Addr) (len cap : Nat) (w : World) (hby : Bytes w a len) (hlen : len ≤ 1048576) (hc : len ≤ cap) (hcm : cap ≤ maxLen) :
    Calls (cutP Tryd.prog) 14 #[.slice a len cap] w (ViewsDrawn w) := by
  go_enter Trydp.func14, Trydp.ntmps14
  go_wp2_with fail
  refine (open_r a len cap w hby hlen hc hcm).mono ?_
  rintro e w1 ⟨g, m, cp, rfl, r1⟩
  go_wp2_with fail
  refine (views_r r1 (by omega)).mono ?_
  rintro e w2 ⟨v, xss, q, rfl, ho, hl, hf, hq, r2⟩
  go_wp2
  go_ret
  exact ⟨_, xss, rfl, ownM_rdM ho, hl, hf, r2.below⟩
theorem drawViewMost_any (a : Option Addr) (len cap : Nat) (w : World) (hby : Bytes w a len) (hlen : len ≤ 1048576) (hc : len ≤ cap) (hcm : cap ≤ maxLen) :
    Calls (cutP Tryd.prog) 5 #[.slice a len cap] w (ViewsDrawn w) := by
  go_enter Trydp.func5, Trydp.ntmps5
  go_wp2_with fail
  refine (l92Some_any a len cap w hby hlen hc hcm).mono ?_
  rintro e w1 ⟨v, xss, rfl, h1, h2, h3, h4⟩
  go_wp2
  go_ret
  exact ⟨_, xss, rfl, h1, h2, h3, h4⟩
end

end Go.Proofs.YtfiaiephbemdoaaDoor
