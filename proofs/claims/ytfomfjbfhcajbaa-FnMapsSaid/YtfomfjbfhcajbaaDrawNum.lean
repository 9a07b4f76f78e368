/-
  The draws of numbers: l91Numbers and what hands it on, DrawNumberAll, DrawNumberPower.
-/
import Derived.Test.YtfomfjbfhcajbaaRds
namespace Go.Proofs.Ytfomfjbfhcajbaa
set_option linter.unusedSimpArgs false
set_option linter.unusedVariables false
set_option linter.unnecessarySimpa false
open Go.RowKit
set_option maxRecDepth 100000

/-- Two drawn numbers. -/
def NumDrawn (w : World) (e : Ending) (w' : World) : Prop :=
  ∃ n k : Int, e = .returned (.tuple #[.int .i64 n, .int .i64 k]) ∧ (-1 ≤ n ∧ n ≤ 20) ∧ (-1 ≤ k ∧ k ≤ 20) ∧ Below w.heap.size w w'

set_option maxHeartbeats 1600000 in
theorem l91Numbers_any (a : Option Addr) (len cap : Nat) (w : World) (hby : Bytes w a len) (hlen : len ≤ 1048576) (hc : len ≤ cap) (hcm : cap ≤ maxLen) :
    Calls Try.prog 38 #[.slice a len cap] w (NumDrawn w) := by
  go_enter Try.func38, Try.ntmps38
  go_wp2_with fail
  refine (open_r a len cap w hby hlen hc hcm).mono ?_
  rintro e w1 ⟨g, m, cp, rfl, r1⟩
  go_wp2_with fail
  refine (pick_r r1 _ (by omega) (by omega) (by omega)).mono ?_
  rintro e w2 ⟨t0, rfl, ht0, r2, hg0⟩
  clear hg0
  go_wp2_with fail
  refine (pick_r r2 _ (by omega) (by omega) (by omega)).mono ?_
  rintro e w3 ⟨t1, rfl, ht1, r3, hg1⟩
  clear hg1
  have hq1 : 0 ≤ (t1 : Int) / 23 ∧ (t1 : Int) / 23 ≤ 1 := by omega
  go_wp2_with fail
  refine (pick_r r3 _ (by omega) (by omega) (by omega)).mono ?_
  rintro e w4 ⟨t2, rfl, ht2, r4, hg2⟩
  clear hg2
  have hq2 : 0 ≤ (t2 : Int) / 23 ∧ (t2 : Int) / 23 ≤ 1 := by omega
  go_wp2_with fail
  refine (pick_r r4 _ (by omega) (by omega) (by omega)).mono ?_
  rintro e w5 ⟨t3, rfl, ht3, r5, hg3⟩
  clear hg3
  go_wp2_with fail
  refine (pick_r r5 _ (by omega) (by omega) (by omega)).mono ?_
  rintro e w6 ⟨t4, rfl, ht4, r6, hg4⟩
  clear hg4
  have hq4 : 0 ≤ (t4 : Int) / 23 ∧ (t4 : Int) / 23 ≤ 1 := by omega
  go_wp2_with fail
  refine (pick_r r6 _ (by omega) (by omega) (by omega)).mono ?_
  rintro e w7 ⟨t5, rfl, ht5, r7, hg5⟩
  clear hg5
  have hq5 : 0 ≤ (t5 : Int) / 23 ∧ (t5 : Int) / 23 ≤ 1 := by omega
  have hb := r7.below
  go_wp2
  go_ret2
  exact ⟨_, _, rfl, by omega, by omega, hb⟩

set_option maxHeartbeats 1600000 in
theorem DrawNumberPower_any (a : Option Addr) (len cap : Nat) (w : World) (hby : Bytes w a len) (hlen : len ≤ 1048576) (hc : len ≤ cap) (hcm : cap ≤ maxLen) :
    Calls Try.prog 36 #[.slice a len cap] w (NumDrawn w) := by
  go_enter Try.func36, Try.ntmps36
  go_wp2_with fail
  refine (open_r a len cap w hby hlen hc hcm).mono ?_
  rintro e w1 ⟨g, m, cp, rfl, r1⟩
  go_wp2_with fail
  refine (pick_r r1 _ (by omega) (by omega) (by omega)).mono ?_
  rintro e w2 ⟨t0, rfl, ht0, r2, hg0⟩
  clear hg0
  go_wp2_with fail
  refine (pick_r r2 _ (by omega) (by omega) (by omega)).mono ?_
  rintro e w3 ⟨t1, rfl, ht1, r3, hg1⟩
  clear hg1
  have hq1 : 0 ≤ (t1 : Int) / 23 ∧ (t1 : Int) / 23 ≤ 1 := by omega
  go_wp2_with fail
  refine (pick_r r3 _ (by omega) (by omega) (by omega)).mono ?_
  rintro e w4 ⟨t2, rfl, ht2, r4, hg2⟩
  clear hg2
  have hq2 : 0 ≤ (t2 : Int) / 23 ∧ (t2 : Int) / 23 ≤ 1 := by omega
  go_wp2_with fail
  refine (pick_r r4 _ (by omega) (by omega) (by omega)).mono ?_
  rintro e w5 ⟨t3, rfl, ht3, r5, hg3⟩
  clear hg3
  go_wp2_with fail
  refine (pick_r r5 _ (by omega) (by omega) (by omega)).mono ?_
  rintro e w6 ⟨t4, rfl, ht4, r6, hg4⟩
  clear hg4
  have hq4 : 0 ≤ (t4 : Int) / 23 ∧ (t4 : Int) / 23 ≤ 1 := by omega
  have hb := r6.below
  go_wp2
  go_ret2
  exact ⟨_, _, rfl, by omega, by omega, hb⟩

set_option maxHeartbeats 1600000 in
theorem DrawNumberAll_any (a : Option Addr) (len cap : Nat) (w : World) (hby : Bytes w a len) (hlen : len ≤ 1048576) (hc : len ≤ cap) (hcm : cap ≤ maxLen) :
    Calls Try.prog 17 #[.slice a len cap] w fun e w' => ∃ n : Int, e = .returned (.int .i64 n) ∧ (-1 ≤ n ∧ n ≤ 20) ∧ Below w.heap.size w w' := by
  go_enter Try.func17, Try.ntmps17
  go_wp2_with fail
  refine (open_r a len cap w hby hlen hc hcm).mono ?_
  rintro e w1 ⟨g, m, cp, rfl, r1⟩
  go_wp2_with fail
  refine (pick_r r1 _ (by omega) (by omega) (by omega)).mono ?_
  rintro e w2 ⟨t0, rfl, ht0, r2, hg0⟩
  clear hg0
  have hb := r2.below
  go_wp2
  go_ret
  exact ⟨_, rfl, by omega, hb⟩

theorem DrawNumberBlocks_any (a : Option Addr) (len cap : Nat) (w : World) (hby : Bytes w a len) (hlen : len ≤ 1048576) (hc : len ≤ cap) (hcm : cap ≤ maxLen) :
    Calls Try.prog 12 #[.slice a len cap] w (NumDrawn w) := by
  go_enter Try.func12, Try.ntmps12
  go_wp2_with fail
  refine (l91Numbers_any a len cap w hby hlen hc hcm).mono ?_
  rintro e w1 ⟨n, k, rfl, h⟩
  go_wp2
  go_ret2
  exact ⟨n, k, rfl, h⟩

theorem DrawNumberRings_any (a : Option Addr) (len cap : Nat) (w : World) (hby : Bytes w a len) (hlen : len ≤ 1048576) (hc : len ≤ cap) (hcm : cap ≤ maxLen) :
    Calls Try.prog 24 #[.slice a len cap] w (NumDrawn w) := by
  go_enter Try.func24, Try.ntmps24
  go_wp2_with fail
  refine (l91Numbers_any a len cap w hby hlen hc hcm).mono ?_
  rintro e w1 ⟨n, k, rfl, h⟩
  go_wp2
  go_ret2
  exact ⟨n, k, rfl, h⟩

theorem DrawNumberRows_any (a : Option Addr) (len cap : Nat) (w : World) (hby : Bytes w a len) (hlen : len ≤ 1048576) (hc : len ≤ cap) (hcm : cap ≤ maxLen) :
    Calls Try.prog 27 #[.slice a len cap] w (NumDrawn w) := by
  go_enter Try.func27, Try.ntmps27
  go_wp2_with fail
  refine (l91Numbers_any a len cap w hby hlen hc hcm).mono ?_
  rintro e w1 ⟨n, k, rfl, h⟩
  go_wp2
  go_ret2
  exact ⟨n, k, rfl, h⟩

theorem DrawNumberGreat_any (a : Option Addr) (len cap : Nat) (w : World) (hby : Bytes w a len) (hlen : len ≤ 1048576) (hc : len ≤ cap) (hcm : cap ≤ maxLen) :
    Calls Try.prog 29 #[.slice a len cap] w (NumDrawn w) := by
  go_enter Try.func29, Try.ntmps29
  go_wp2_with fail
  refine (l91Numbers_any a len cap w hby hlen hc hcm).mono ?_
  rintro e w1 ⟨n, k, rfl, h⟩
  go_wp2
  go_ret2
  exact ⟨n, k, rfl, h⟩

theorem DrawNumberMaps_any (a : Option Addr) (len cap : Nat) (w : World) (hby : Bytes w a len) (hlen : len ≤ 1048576) (hc : len ≤ cap) (hcm : cap ≤ maxLen) :
    Calls Try.prog 32 #[.slice a len cap] w (NumDrawn w) := by
  go_enter Try.func32, Try.ntmps32
  go_wp2_with fail
  refine (l91Numbers_any a len cap w hby hlen hc hcm).mono ?_
  rintro e w1 ⟨n, k, rfl, h⟩
  go_wp2
  go_ret2
  exact ⟨n, k, rfl, h⟩

end Go.Proofs.Ytfomfjbfhcajbaa
