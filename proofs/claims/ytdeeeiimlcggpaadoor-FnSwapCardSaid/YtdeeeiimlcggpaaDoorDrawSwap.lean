/-
  The contract of spec.DrawRingSwap.
-/
import Derived.Test.YtdeeeiimlcggpaaDoorNamesQ
namespace Go.Proofs.YtdeeeiimlcggpaaDoor
set_option linter.unusedSimpArgs false
set_option linter.unusedVariables false
set_option linter.unnecessarySimpa false
open Go.RowKit
set_option maxRecDepth 100000

theorem own_drewS {w : World} {B : Nat} {v : Value} {xs : List Int} (h : Own w B v xs) : Own w.drew B v xs := h
theorem rds_drew {w0 w : World} {g m cap p : Nat} {a : Option Addr} (h : Rds w0 w g a m cap p) : Rds w0 w.drew g a m cap p := h.step (Below.refl _ w).drew

set_option maxHeartbeats 3200000 in
theorem drawRingSwap_any (a : Option Addr) (len cap : Nat) (w : World) (hby : Bytes w a len) (hlen : len ≤ 1048576) (hc : len ≤ cap) (hcm : cap ≤ maxLen) :
    Calls Tryd.prog 35 #[.slice a len cap] w (SwapDrawn w) := by
  go_enter Tryd.func35, Tryd.ntmps35
  go_wp2_with fail
  refine (open_r a len cap w hby hlen hc hcm).mono ?_
  rintro e w1 ⟨g, m, cp, rfl, r1⟩
  go_wp2_with fail
  refine (pick_r r1 _ (by omega) (by omega) (by omega)).mono ?_
  rintro e w2 ⟨t, rfl, ht, r2, hg2⟩
  clear hg2
  obtain ⟨n, hn⟩ : ∃ n : Nat, n = 2 + t := ⟨_, rfl⟩
  have hni : (2 : Int) + (t : Int) = (n : Int) := by omega
  have HNI := Lib.hid hni
  have HN27 := Lib.hid (show 2 ≤ n ∧ n ≤ 7 by omega)
  clear hni hn
  go_wp2_with fail
  rw [HNI.out]
  refine (names_q r2 n (by have := HN27.out; omega) (by have := HN27.out; omega) (by omega)).mono ?_
  rintro e w3 ⟨va, ps, q, rfl, oa, hpl, hg3, hq, r3⟩
  have hlt := r2.lt
  have OA := Lib.hid oa
  have HPL := Lib.hid hpl
  have hs2 := r2.below.size
  obtain ⟨ao, ca, rfl⟩ := own_slice' oa
  clear hg3 oa hpl
  have hq3 : q ≤ 20 := by have := HN27.out; omega
  clear hq
  obtain ⟨hn2, hn7⟩ := HN27.out
  go_wp2_with fail
  refine (pick_r r3 _ (by omega) (by omega) (by omega)).mono ?_
  rintro e w4 ⟨i, rfl, hi, r4, hg4⟩
  have OA4 := Lib.hid (Rds.keep OA.out hlt hg4)
  have R4 := Lib.hid (rds_drew r4)
  have HLT := Lib.hid hlt
  have HS2 := Lib.hid hs2
  have hi6 : i ≤ 6 := by omega
  have hnm : (n : Int) - 1 ≥ 1 := by omega
  have hn0 : ¬ (n : Int) = 0 := by omega
  have hnb : ((n : Int) == 0) = false := by simp; omega
  obtain ⟨n1, hn1⟩ : ∃ n1 : Nat, n1 = n - 1 := ⟨_, rfl⟩
  have hn1a : 1 ≤ n1 := by omega
  have hn1b : n1 ≤ 6 := by omega
  have HW1 : Hid (IntKind.i64.wrap ((n : Int) - 1) = (n1 : Int)) := Lib.hid (by rw [IntWalk.i64_in _ (by omega)]; omega)
  have HN1 := Lib.hid hn1
  clear hg4 r4 hlt hs2 hi hnm hn1
  go_wp2
  go_region_with (first
    | (go_at_call 58; refine (pick_r R5.out 24 (by omega) (by omega) (by omega)).mono ?_; rintro e w6 ⟨t6, rfl, ht6, r6, hg6⟩; have OA6 := Lib.hid (Rds.keep OA5.out HLT.out hg6); have R6 := Lib.hid r6; have ht624 : t6 < 24 := (by omega); clear r6 hg6 ht6)
    | (go_at_call 58; rw [HW1.out]; refine (pick_r R4.out (n1 : Int) (by omega) (by omega) (by omega)).mono ?_; rintro e w5 ⟨t5, rfl, ht5, r5, hg5⟩; have OA5 := Lib.hid (Rds.keep (own_drewS OA4.out) HLT.out hg5); have R5 := Lib.hid r5; have ht56 : t5 ≤ 6 := (by omega); clear r5 hg5 ht5))
  all_goals (try go_wp2)
  all_goals (go_ret3; exact ⟨_, ps, _, _, rfl, own_mono OA6.out HS2.out, by rw [HPL.out]; omega, ⟨by omega, by omega⟩, ⟨Int.emod_nonneg _ (by omega), by have := Int.emod_lt_of_pos ((i : Int) + 1 + t5 + (t6 : Int) / 23) (show (0 : Int) < (n : Int) by omega); omega⟩, R6.out.below⟩)

end Go.Proofs.YtdeeeiimlcggpaaDoor
