/-
  The contract of the model's NumberMaps.
-/
import Derived.Test.YtfomfjbfhcajbaaTriUse
import Derived.Test.YtfomfjbfhcajbaaTriBell
namespace Go.Proofs.Ytfomfjbfhcajbaa
set_option linter.unusedSimpArgs false
set_option linter.unusedVariables false
set_option linter.unnecessarySimpa false
open Go.RowKit
set_option maxRecDepth 100000

theorem maps_fact : ∀ n : Nat, n < 13 → ∀ k : Nat, k < 13 → fM n k = fB n k * (fac k : Int) := by decide +kernel

theorem maps_is {n k : Int} (h : inNum n k = true) : ext fM n k = ext fB n k * (fac k.toNat : Int) := by
  have hp := inNum_parts h
  obtain ⟨p, rfl⟩ := Int.eq_ofNat_of_zero_le hp.1.1
  obtain ⟨q, rfl⟩ := Int.eq_ofNat_of_zero_le hp.2.1
  rw [ext_nat, ext_nat, Int.toNat_natCast]
  exact maps_fact p (by omega) q (by omega)

set_option maxHeartbeats 800000 in
theorem sNumberMaps_v (n k : Int) (w : World) (_h0 : (Lit.int .i64 n).wf = true) (_h1 : (Lit.int .i64 k).wf = true) : Calls Try.prog 34 #[.int .i64 n, .int .i64 k] w (GivesIB w (numBy (ext fM) n k)) := by
  have HI := Lib.hid (sIn3_any n k w)
  cases h : inNum n k
  · have hr : numBy (ext fM) n k = (0, false) := by simp [numBy, h]
    rw [hr]
    rw [h] at HI
    clear h hr
    go_enter Try.func34, Try.ntmps34
    go_wp2_with fail
    refine HI.out.mono ?_
    rintro e w' ⟨rfl, rfl⟩
    go_wp2
    go_ret2
    exact ⟨rfl, Below.refl _ _⟩
  · have hr : numBy (ext fM) n k = (ext fM n k, true) := by simp [numBy, h]
    have hp := inNum_parts h
    have HJ := Lib.hid (l3Blocks_v n k w (by omega) (by omega) (by omega) (by omega))
    have hm := maps_is h
    have hbd := numbers_M.bd n k (by omega)
    rw [hr]
    rw [h] at HI
    obtain ⟨c, rfl⟩ := Int.eq_ofNat_of_zero_le hp.2.1
    rw [Int.toNat_natCast] at hm
    have HK := Lib.hid (l2Fact12_v c w (by omega))
    obtain ⟨x, hx⟩ : ∃ x, x = ext fB n c := ⟨_, rfl⟩
    obtain ⟨y, hy⟩ : ∃ y, y = fac c := ⟨_, rfl⟩
    obtain ⟨z, hz⟩ : ∃ z, z = ext fM n c := ⟨_, rfl⟩
    rw [← hz] at hbd hm ⊢
    rw [← hx] at HJ hm
    rw [← hy] at HK hm
    rw [hm] at hbd ⊢
    clear h hr hx hy hz hm
    have b1 : wrap64 (x * (y : Int)) = x * (y : Int) := IntWalk.wrap64_in _ (by omega)
    go_enter Try.func34, Try.ntmps34
    go_wp2_with fail
    refine HI.out.mono ?_
    rintro e w' ⟨rfl, rfl⟩
    go_wp2_with fail
    refine HJ.out.mono ?_
    rintro e w' ⟨rfl, rfl⟩
    go_wp2_with fail
    refine HK.out.mono ?_
    rintro e w' ⟨rfl, rfl⟩
    go_wp2
    go_ret2
    exact ⟨rfl, Below.refl _ _⟩

end Go.Proofs.Ytfomfjbfhcajbaa
