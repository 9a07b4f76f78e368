/-
  The contracts of ViewPath (impl and spec).
-/
import Derived.Test.YtbmpchpcihnbdaaViewSize
import Derived.Test.YtbmpchpcihnbdaaFinJoin
import Derived.Test.YtbmpchpcihnbdaaFinJoinS
import Derived.Test.YtbmpchpcihnbdaaFinMeet
import Derived.Test.YtbmpchpcihnbdaaFinRank
import Derived.Test.YtbmpchpcihnbdaaRankMath
import Derived.Test.YtbmpchpcihnbdaaPlainKit
namespace Go.Proofs.Ytbmpchpcihnbdaa
set_option linter.unusedSimpArgs false
set_option linter.unusedVariables false
set_option linter.unnecessarySimpa false
open Go.RowKit
set_option maxRecDepth 100000

/-- What ViewPath answers. -/
def viewPath (xs ys : List Int) : Int × Bool := if alike xs ys then (pSize xs + pSize ys - 2 * pSize (kOut (joinAll xs ys xs.length xs.length)), true) else (0, false)

theorem path_sizes {xs ys : List Int} (ha : alike xs ys = true) : pSize xs + pSize ys ≤ pSize (kOut (mix 8 xs ys)) + pSize (kOut (joinAll xs ys xs.length xs.length)) := by
  obtain ⟨hx, hy, hl⟩ := alike_iff.1 ha
  have hm := (finer_parts (meet_finer ha).1).1
  have hj := (finer_parts (join_finer ha).1).2.1
  have hml : (kOut (mix 8 xs ys)).length = xs.length := by rw [kOut_length, mix_length]
  have hjl : (kOut (joinAll xs ys xs.length xs.length)).length = xs.length := by rw [kOut_length, joinAll_len]
  obtain ⟨rm, rj, ra, rb, e1, e2, e3, e4, hle, _⟩ := ranks_facts ha
  rw [finerRank_yes hm] at e1
  rw [finerRank_yes hj] at e2
  rw [finerRank_yes hx] at e3
  rw [finerRank_yes hy] at e4
  injection e1 with e1
  injection e2 with e2
  injection e3 with e3
  injection e4 with e4
  omega

set_option maxHeartbeats 1600000 in
theorem iViewPath_v (v u : Value) (xs ys : List Int) (w : World) (hv : RdV w v xs) (hu : RdV w u ys) :
    Calls Try.prog 55 #[v, u] w (GivesIB w (viewPath xs ys)) := by
  have HV := Lib.hid hv
  have HU := Lib.hid hu
  clear hv hu
  have hJ := iFinerJoin_v v u xs ys w HV.out HU.out
  cases ha : alike xs ys
  · have hr : viewPath xs ys = (0, false) := by rw [viewPath, ha]; rfl
    rw [finerJoin_no ha] at hJ
    have HJ := Lib.hid hJ
    rw [hr]
    clear ha hr hJ
    go_enter Try.func55, Try.ntmps55
    go_wp2_with fail
    refine HJ.out.mono ?_
    rintro e w1 ⟨vj, rfl, o, hb⟩
    have HB := Lib.hid hb
    clear hb HJ o
    go_wp2
    go_ret2
    exact ⟨rfl, HB.out⟩
  · obtain ⟨hx, hy, hl⟩ := alike_iff.1 ha
    have hj := (finer_parts (join_finer ha).1).2.1
    have hr : viewPath xs ys = (pSize xs + pSize ys - 2 * pSize (kOut (joinAll xs ys xs.length xs.length)), true) := by rw [viewPath, ha]; rfl
    rw [finerJoin_yes ha] at hJ
    rw [hr]
    obtain ⟨js, hjs⟩ : ∃ js, js = kOut (joinAll xs ys xs.length xs.length) := ⟨_, rfl⟩
    rw [← hjs] at hj hJ ⊢
    have HJ := Lib.hid hJ
    have b1 := pSize_bd (partIn_small hx)
    have b2 := pSize_bd (partIn_small hy)
    have b3 := pSize_bd (partIn_small hj)
    have PX := Lib.hid hx
    have PY := Lib.hid hy
    have PJ := Lib.hid hj
    obtain ⟨a, hae⟩ : ∃ a, a = pSize xs := ⟨_, rfl⟩
    obtain ⟨b, hbe⟩ : ∃ b, b = pSize ys := ⟨_, rfl⟩
    obtain ⟨j, hje⟩ : ∃ j, j = pSize js := ⟨_, rfl⟩
    rw [← hae] at b1 ⊢
    rw [← hbe] at b2 ⊢
    rw [← hje] at b3 ⊢
    have HAE := Lib.hid hae
    have HBE := Lib.hid hbe
    have HJE := Lib.hid hje
    clear ha hr hJ hx hy hl hj hjs hae hbe hje
    go_enter Try.func55, Try.ntmps55
    go_wp2_with fail
    refine HJ.out.mono ?_
    rintro e w1 ⟨vj, rfl, o, hb⟩
    have HB := Lib.hid hb
    have HVJ := Lib.hid (own_rdv o)
    clear hb HJ o
    go_wp2_with fail
    refine (blockCount_p _ xs _ (rdv_below HV.out HB.out) PX).mono ?_
    rintro e w' ⟨rfl, rfl⟩
    rw [← HAE.out]
    go_wp2_with fail
    refine (blockCount_p _ js _ HVJ.out PJ).mono ?_
    rintro e w' ⟨rfl, rfl⟩
    rw [← HJE.out]
    go_wp2_with fail
    refine (blockCount_p _ ys _ (rdv_below HU.out HB.out) PY).mono ?_
    rintro e w' ⟨rfl, rfl⟩
    rw [← HBE.out]
    go_wp2_with fail
    refine (blockCount_p _ js _ HVJ.out PJ).mono ?_
    rintro e w' ⟨rfl, rfl⟩
    rw [← HJE.out]
    go_wp2
    go_ret2
    exact ⟨ret_ib (by omega), HB.out⟩

set_option maxHeartbeats 1600000 in
theorem sViewPath_v (v u : Value) (xs ys : List Int) (w : World) (hv : RdV w v xs) (hu : RdV w u ys) :
    Calls Try.prog 56 #[v, u] w (GivesIB w (viewPath xs ys)) := by
  have HV := Lib.hid hv
  have HU := Lib.hid hu
  clear hv hu
  cases ha : alike xs ys
  · have hr : viewPath xs ys = (0, false) := by rw [viewPath, ha]; rfl
    have HA := Lib.hid ha
    rw [hr]
    clear ha hr
    go_enter Try.func56, Try.ntmps56
    go_wp2_with fail
    refine (l2Two_is false _ _ _ _ _ HV.out HU.out HA).mono ?_
    rintro e w' ⟨rfl, rfl⟩
    go_wp2
    go_ret2
    exact ⟨rfl, Below.refl _ _⟩
  · obtain ⟨hx, hy, hl⟩ := alike_iff.1 ha
    have hm := (finer_parts (meet_finer ha).1).1
    have hj := (finer_parts (join_finer ha).1).2.1
    have hle := path_sizes ha
    have hr : viewPath xs ys = (pSize xs + pSize ys - 2 * pSize (kOut (joinAll xs ys xs.length xs.length)), true) := by rw [viewPath, ha]; rfl
    have hJ : ∀ wx, RdV wx v xs → RdV wx u ys → Calls Try.prog 52 #[v, u] wx (FreshLB wx (kOut (joinAll xs ys xs.length xs.length), true)) := fun wx k1 k2 => by
      have := sFinerJoin_v v u xs ys wx k1 k2
      rw [finerJoin_yes ha] at this
      exact this
    have hM : Calls Try.prog 50 #[v, u] w (FreshLB w (kOut (mix 8 xs ys), true)) := by
      have := sFinerMeet_v v u xs ys w HV.out HU.out
      rw [finerMeet_yes ha] at this
      exact this
    rw [hr]
    obtain ⟨js, hjs⟩ : ∃ js, js = kOut (joinAll xs ys xs.length xs.length) := ⟨_, rfl⟩
    obtain ⟨ms, hms⟩ : ∃ ms, ms = kOut (mix 8 xs ys) := ⟨_, rfl⟩
    rw [← hjs] at hj hJ hle ⊢
    rw [← hms] at hm hM hle
    have HA := Lib.hid ha
    have HJ := Lib.hid hJ
    have HM := Lib.hid hM
    have b1 := pSize_bd (partIn_small hx)
    have b2 := pSize_bd (partIn_small hy)
    have b3 := pSize_bd (partIn_small hj)
    have b4 := pSize_bd (partIn_small hm)
    have PX := Lib.hid hx
    have PY := Lib.hid hy
    have PJ := Lib.hid hj
    have PM := Lib.hid hm
    obtain ⟨a, hae⟩ : ∃ a, a = pSize xs := ⟨_, rfl⟩
    obtain ⟨b, hbe⟩ : ∃ b, b = pSize ys := ⟨_, rfl⟩
    obtain ⟨j, hje⟩ : ∃ j, j = pSize js := ⟨_, rfl⟩
    obtain ⟨m, hme⟩ : ∃ m, m = pSize ms := ⟨_, rfl⟩
    rw [← hae] at b1 hle ⊢
    rw [← hbe] at b2 hle ⊢
    rw [← hje] at b3 hle ⊢
    rw [← hme] at b4 hle
    have HAE := Lib.hid hae
    have HBE := Lib.hid hbe
    have HJE := Lib.hid hje
    have HME := Lib.hid hme
    have hmin : min (a + b - 2 * j) (2 * m - a - b) = a + b - 2 * j := by omega
    have HMIN := Lib.hid hmin
    clear ha hr hJ hM hx hy hl hj hm hjs hms hae hbe hje hme hmin
    go_enter Try.func56, Try.ntmps56
    go_wp2_with fail
    refine (l2Two_is true _ _ _ _ _ HV.out HU.out HA).mono ?_
    rintro e w' ⟨rfl, rfl⟩
    go_wp2_with fail
    refine HM.out.mono ?_
    rintro e w1 ⟨vm, rfl, om, hb⟩
    have HB1 := Lib.hid hb
    have OM := Lib.hid om
    clear hb HM om
    go_wp2_with fail
    refine (HJ.out _ (rdv_below HV.out HB1.out) (rdv_below HU.out HB1.out)).mono ?_
    rintro e w2 ⟨vj, rfl, oj, hb⟩
    have HVM := Lib.hid (own_rdv (own_below OM.out hb))
    have HB := Lib.hid (below_step HB1.out hb)
    have HVJ := Lib.hid (own_rdv oj)
    clear hb HJ oj OM HB1
    go_wp2_with fail
    refine (l1Size_p _ ms _ HVM.out PM).mono ?_
    rintro e w' ⟨rfl, rfl⟩
    rw [← HME.out]
    go_wp2_with fail
    refine (l1Size_p _ xs _ (rdv_below HV.out HB.out) PX).mono ?_
    rintro e w' ⟨rfl, rfl⟩
    rw [← HAE.out]
    go_wp2_with fail
    refine (l1Size_p _ ys _ (rdv_below HU.out HB.out) PY).mono ?_
    rintro e w' ⟨rfl, rfl⟩
    rw [← HBE.out]
    go_wp2_with fail
    refine (l1Size_p _ xs _ (rdv_below HV.out HB.out) PX).mono ?_
    rintro e w' ⟨rfl, rfl⟩
    rw [← HAE.out]
    go_wp2_with fail
    refine (l1Size_p _ ys _ (rdv_below HU.out HB.out) PY).mono ?_
    rintro e w' ⟨rfl, rfl⟩
    rw [← HBE.out]
    go_wp2_with fail
    refine (l1Size_p _ js _ HVJ.out PJ).mono ?_
    rintro e w' ⟨rfl, rfl⟩
    rw [← HJE.out]
    go_wp2
    go_ret2
    exact ⟨ret_ib (by omega), HB.out⟩

end Go.Proofs.Ytbmpchpcihnbdaa
