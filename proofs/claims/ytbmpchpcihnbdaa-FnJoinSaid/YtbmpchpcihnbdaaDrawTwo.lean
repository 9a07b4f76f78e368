/-
  The contract of spec.l91Two: two drawn lists.
-/
import Derived.Test.YtbmpchpcihnbdaaDrawPart
import Derived.Test.YtbmpchpcihnbdaaFinMeet
namespace Go.Proofs.Ytbmpchpcihnbdaa
set_option linter.unusedSimpArgs false
set_option linter.unusedVariables false
set_option linter.unnecessarySimpa false
open Go.RowKit
set_option maxRecDepth 100000

/-- Two drawn lists of at most nine numbers. -/
def TwoDrawn (w : World) (e : Ending) (w' : World) : Prop :=
  ∃ v u xs ys, e = .returned (.tuple #[v, u]) ∧ Own w' w.heap.size v xs ∧ Own w' w.heap.size u ys ∧ xs.length ≤ 9 ∧ ys.length ≤ 9 ∧ Below w.heap.size w w'

theorem apart_of_ge {w : World} {B g : Nat} {v : Value} {xs : List Int} (h : Own w B v xs) (hg : g < B) : v.ownBlock = none ∨ v.ownBlock ≠ some g := by
  cases hv : v.ownBlock with
  | none => exact .inl rfl
  | some k => exact .inr fun e => by have := (own_lt h k hv).1; cases e; omega

theorem below_of_grown {w w' : World} {g : Nat} (h : w.grownBy w' (some g)) (hg : w.heap.size ≤ g) : Below w.heap.size w w' :=
  ⟨h.os, h.tape, h.output, h.size, fun k hk => h.block k hk (fun e => by cases e; omega)⟩

theorem hne_of_bytes {w : World} {a : Option Addr} {m : Nat} (hbm : Bytes w a m) : 0 < m → ∀ x, a = some x → x.block ≠ w.heap.size := by
  intro h0 x hx
  rcases hbm with h | ⟨b, off, ha, hcs⟩
  · omega
  · obtain ⟨y, _, hc⟩ := hcs 0 h0
    have := World.block_lt_of_cell? w _ hc
    rw [ha] at hx
    cases hx
    exact Nat.ne_of_lt this

set_option maxHeartbeats 1600000 in
theorem l91Two_any (a : Option Addr) (len cap : Nat) (w : World) (hby : Bytes w a len) (hlen : len ≤ 1048576) (hc : len ≤ cap) (hcm : cap ≤ maxLen) :
    Calls Try.prog 81 #[.slice a len cap] w (TwoDrawn w) := by
  go_enter Try.func81, Try.ntmps81
  go_wp2_with fail
  refine (l6Open_any a len cap w hby hlen hc hcm).mono ?_
  rintro e w1 ⟨rfl, m, hm, hbm, hr1, hb1, hs1⟩
  have hne := hne_of_bytes hbm
  have HBM := Lib.hid hbm
  have HNE := Lib.hid hne
  obtain ⟨g, hg⟩ : ∃ g, g = w.heap.size := ⟨_, rfl⟩
  rw [← hg] at HNE hr1 ⊢
  have HG := Lib.hid hg
  have hgs : g < w1.heap.size := by omega
  have hG1 : w.grownBy w1 (some g) := ⟨hb1.os, hb1.tape, hb1.output, hb1.size, fun k hk _ => hb1.block k hk⟩
  clear hne hbm hg
  go_wp2_with fail
  refine (pick_z g a m cap 0 _ _ hr1 (bytes_grown HBM.out hG1 HNE.out) HNE.out hm (by omega) (by omega) (by omega)).mono ?_
  rintro e w2 ⟨t, rfl, ht, hr2, hg2, hz2⟩
  have hG2 := grown_trans hG1 hg2
  clear hr1 hG1 hg2
  go_wp2_with fail
  refine (l91Part_z g a m cap 1 _ _ hr2 (bytes_grown HBM.out hG2 HNE.out) HNE.out hm (by omega) (by omega) (by omega)).mono ?_
  rintro e w3 ⟨va, xs, q, rfl, oa, hl, hx, hr3, hq, hg3⟩
  have hG3 := grown_trans hG2 hg3
  clear hr2 hG2 hx
  have hs3 := hg3.size
  clear hg3
  have HOA := Lib.hid oa
  clear oa
  go_wp2_with fail
  refine (pick_z g a m cap q _ _ hr3 (bytes_grown HBM.out hG3 HNE.out) HNE.out hm (by omega) (by omega) (by omega)).mono ?_
  rintro e w4 ⟨t2, rfl, ht2, hr4, hg4, hz4⟩
  have HOA4 := Lib.hid (own_grown HOA.out hg4 (apart_of_ge HOA.out (by omega)))
  have hG4 := grown_trans hG3 hg4
  clear hr3 hG3 hg4
  have ht24 : t2 < 24 := by omega
  have hd : (t2 : Int) / 23 = 0 ∨ (t2 : Int) / 23 = 1 := by omega
  have hd0 : 0 ≤ (t2 : Int) / 23 := by omega
  have hd1 : (t2 : Int) / 23 ≤ 1 := by omega
  obtain ⟨d, hdd⟩ : ∃ d, d = (t2 : Int) / 23 := ⟨_, rfl⟩
  have HDD := Lib.hid hdd
  rw [← hdd] at hd0 hd1
  clear hdd hd
  go_wp2_with fail
  rw [← HDD.out]
  refine (l91Part_z g a m cap (q + 1) _ _ hr4 (bytes_grown HBM.out hG4 HNE.out) HNE.out hm (by omega) (by omega) (by omega)).mono ?_
  rintro e w5 ⟨vb, ys, q2, rfl, ob, hl2, hx2, hr5, hq2, hg5⟩
  have HOA5 := Lib.hid (own_grown HOA4.out hg5 (apart_of_ge HOA4.out (by omega)))
  have hG5 := grown_trans hG4 hg5
  have hs5 := hg5.size
  clear hr4 hG4 hx2 hg5
  have HOB := Lib.hid ob
  clear ob
  go_wp2_with fail
  refine (pick_z g a m cap q2 _ _ hr5 (bytes_grown HBM.out hG5 HNE.out) HNE.out hm (by omega) (by omega) (by omega)).mono ?_
  rintro e w6 ⟨t3, rfl, ht3, hr6, hg6, hz6⟩
  have HOA6 := Lib.hid (own_grown HOA5.out hg6 (apart_of_ge HOA5.out (by omega)))
  have HOB6 := Lib.hid (own_grown HOB.out hg6 (apart_of_ge HOB.out (by omega)))
  have hG6 := grown_trans hG5 hg6
  have hb6 : Below w.heap.size w w6 := below_of_grown hG6 (by rw [HG.out]; exact Nat.le_refl _)
  clear hr5 hG5 hr6 hg6 hG6
  have hB6 := hb6.size
  by_cases h3 : t3 = 0
  · subst h3
    cases ha : alike xs ys
    · have hr : finerMeet xs ys = ([], false) := by simp [finerMeet, ha]
      have HS := Lib.hid (fun (wx : World) (v u : Value) (h : RdV wx v xs) (k : RdV wx u ys) => hr ▸ sFinerMeet_v v u xs ys wx h k)
      clear ha hr
      go_wp2_with fail
      refine (HS.out _ _ _ (own_rdv HOA6.out) (own_rdv HOB6.out)).mono ?_
      rintro e w7 ⟨vm, rfl, om, hb7⟩
      have HOA7 := Lib.hid (own_below HOA6.out hb7)
      have HOB7 := Lib.hid (own_below HOB6.out hb7)
      have hb := below_step hb6 hb7
      clear om hb7
      go_wp2
      go_ret2
      exact ⟨_, _, xs, ys, rfl, own_mono HOA7.out (by omega), own_mono HOB7.out (by omega), hl.2, hl2.2, hb⟩
    · have hr : finerMeet xs ys = (kOut (mix 8 xs ys), true) := by simp [finerMeet, ha]
      have HS := Lib.hid (fun (wx : World) (v u : Value) (h : RdV wx v xs) (k : RdV wx u ys) => hr ▸ sFinerMeet_v v u xs ys wx h k)
      clear ha hr
      go_wp2_with fail
      refine (HS.out _ _ _ (own_rdv HOA6.out) (own_rdv HOB6.out)).mono ?_
      rintro e w7 ⟨vm, rfl, om, hb7⟩
      have HOM := Lib.hid om
      have HOB7 := Lib.hid (own_below HOB6.out hb7)
      have hb := below_step hb6 hb7
      clear om hb7
      go_wp2
      go_ret2
      exact ⟨_, _, kOut (mix 8 xs ys), ys, rfl, own_mono HOM.out hB6, own_mono HOB7.out (by omega), by rw [kOut_length, mix_length]; exact hl.2, hl2.2, hb⟩
  · have h31 : ((t3 : Int) == 0) = false := by simp; omega
    go_wp2
    go_ret2
    exact ⟨_, _, xs, ys, rfl, own_mono HOA6.out (by omega), own_mono HOB6.out (by omega), hl.2, hl2.2, hb6⟩

end Go.Proofs.Ytbmpchpcihnbdaa
