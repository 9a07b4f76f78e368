/-
  The contract of laws.sameRows; values of owned lists of lists.
-/
import Derived.Test.YthkkolnohgibeaaDoorSame
import Derived.Test.YthkkolnohgibeaaDoorHeldMat
namespace Go.Proofs.YthkkolnohgibeaaDoor
set_option linter.unusedSimpArgs false
set_option linter.unusedVariables false
set_option linter.unnecessarySimpa false
open Go.RowKit
set_option maxRecDepth 100000

theorem sameInts_e (v u : Value) (xs : List Int) (w : World) (hv : RdV w v xs) (hu : RdV w u xs) : Calls Tryd.prog 10 #[v, u] w fun e w' => e = .returned (.bool true) ∧ Same w w' :=
  (sameInts_v v u xs xs w hv hu).mono fun e w' ⟨he, hw⟩ => ⟨by rw [he]; simp, hw⟩

theorem ownM_slice' {w : World} {B S : Nat} {v : Value} {xss : List (List Int)} (h : OwnM w B S v xss) : ∃ ao cap, v = .slice ao xss.length cap := by
  obtain ⟨ao, cap, vs, _, hv, _⟩ := ownM_rdM h
  exact ⟨ao, cap, hv⟩

set_option maxRecDepth 100000 in
set_option maxHeartbeats 1600000 in
theorem sameRows_v (v u : Value) (xss : List (List Int)) (w : World) (hv : RdM w v xss) (hu : RdM w u xss) : Calls Tryd.prog 14 #[v, u] w fun e w' => e = .returned (.bool true) ∧ Same w w' := by
  obtain ⟨ao, ca, vs, hvl, rfl, h1, h2, h3, h4⟩ := hv
  obtain ⟨bo, cb, us, hul, rfl, k1, k2, k3, k4⟩ := hu
  unfold maxLen at h2 k2
  obtain ⟨n, hn⟩ : ∃ n, n = xss.length := ⟨_, rfl⟩
  rw [← hn] at h1 k1 ⊢
  have HN := Lib.hid hn
  have H3 := Lib.hid h3
  have H4 := Lib.hid h4
  have K3 := Lib.hid k3
  have K4 := Lib.hid k4
  clear hn h3 h4 k3 k4 hvl hul
  go_enter Tryd.func14, Tryd.ntmps14
  go_wp2
  go_loopw [5] (fun i wr => ∃ k : Nat, k ≤ n ∧ i = .int .i64 k ∧ Same w wr) (fun i _ => n - (intOf i).toNat)
  case atStart => exact ⟨0, Nat.zero_le _, rfl, Same.refl w⟩
  case round =>
    obtain ⟨k, hk, rfl, hsr⟩ := hrel
    by_cases hlt : k < n
    · rcases H3.out with hx | ⟨b, off, rfl, hc⟩
      · have := HN.out
        rw [hx] at this
        simp at this
        omega
      · rcases K3.out with hy | ⟨b2, off2, rfl, hc2⟩
        · have := HN.out
          rw [hy] at this
          simp at this
          omega
        · have hck := hc k (by have := HN.out; omega)
          have hck2 := hc2 k (by have := HN.out; omega)
          rw [← (hsr _).cell (World.block_lt_of_cell? w _ hck)] at hck
          rw [← (hsr _).cell (World.block_lt_of_cell? w _ hck2)] at hck2
          have hr := rdv_below (H4.out k (by have := HN.out; omega)) (hsr _)
          have hr2 := rdv_below (K4.out k (by have := HN.out; omega)) (hsr _)
          clear hc hc2
          obtain ⟨z, hz⟩ : ∃ z, z = vs.getD k undef := ⟨_, rfl⟩
          obtain ⟨y, hy⟩ : ∃ y, y = us.getD k undef := ⟨_, rfl⟩
          rw [← hz] at hck hr
          rw [← hy] at hck2 hr2
          have HR := Lib.hid hr
          have HR2 := Lib.hid hr2
          have c1 : (k : Int) < n := by omega
          have c2 : (0 : Int) ≤ (k : Int) := by omega
          clear hz hy hr hr2
          go_wp2
          go_region_held3 (fun w' => w'.cell? ⟨b, off + k, none⟩ = some z ∧ w'.cell? ⟨b2, off2 + k, none⟩ = some y) (first | exact ⟨hck, hck2⟩ | exact ⟨by rw [(hs2 _).cell (World.block_lt_of_cell? wr _ hck)]; exact hck, by rw [(hs2 _).cell (World.block_lt_of_cell? wr _ hck2)]; exact hck2⟩) (first | (go_at_call 10; refine (sameInts_e z y _ _ (rdv_below HR.out (Below.refl _ _).drew) (rdv_below HR2.out (Below.refl _ _).drew)).mono ?_; rintro e w2 ⟨rfl, hs1⟩; have hs2 : Same wr w2 := fun B => (Below.refl _ _).drew.trans (hs1 B)))
          go_wp2
          go_roundw
          case rel => exact ⟨k + 1, by omega, by go_num, hsr.trans hs2⟩
          case measure => simp [intOf]; omega
    · go_wp2
      go_ret
      exact ⟨rfl, hsr⟩

/-- A row of an owned list of lists, by its place. -/
theorem ownM_at {w : World} {B S n cap : Nat} {ao : Option Addr} {xss : List (List Int)} (h : OwnM w B S (.slice ao n cap) xss) (k : Nat) (hk : k < xss.length) :
    ∃ g u, ao = some ⟨g, 0, none⟩ ∧ w.cell? ⟨g, k, none⟩ = some u ∧ RdV w u (xss.getD k []) := by
  obtain ⟨vs, hvl, hv, hr, _⟩ := ownM_parts h
  rcases hv with ⟨_, h2⟩ | ⟨g, cap', h1, _, _, _, _, _, hc, _⟩
  · rw [h2] at hk; simp at hk
  · simp only [Value.slice.injEq] at h1
    exact ⟨g, _, h1.1, hc k hk, own_rdv (hr k hk).1⟩

end Go.Proofs.YthkkolnohgibeaaDoor
