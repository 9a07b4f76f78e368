/-
  What the laws of this claim lean on: what functions of the program and of the model answer, one after another, and plain mathematics. No condition.
-/
import Derived.Test.YtmflecemkodklaaGreatDoorMhA
import Derived.Test.YtmflecemkodklaaGreatDoorMhD
import Derived.Test.YtmflecemkodklaaGreatDoorMhF
import Derived.Shelf.Strings.Builder1
import Derived.Shelf.Strings.Builder2
import Derived.Shelf.Strings.OnBuilder
import Derived.Shelf.Strings.BuilderF
import Derived.Shelf.Strings.BuilderK
import Derived.Shelf.LaysM
import Derived.Shelf.Strconv.Itoa3
import Derived.Shelf.Strings.Search3
import Derived.Shelf.Strings.Cut
import Derived.Shelf.Strings.Split
import Derived.Test.YtmflecemkodklaaGreatDoorProg
import Derived.Lib.SmallJoins
import Derived.Lib.AppendIntMem
import Derived.Maps.OwnSet
import Derived.StringKeys
import Derived.Laws.EntriesVeiled
import Derived.Lib.Bytealg
import Derived.RangeFuncNested
import Derived.RangeFuncBound
import Derived.RangeFuncCalls
import Derived.RangeFuncLeaves

set_option linter.unusedVariables false
set_option linter.unusedSimpArgs false
set_option linter.unnecessarySimpa false
set_option maxRecDepth 100000

namespace Go.Proofs.YtmflecemkodklaaGreatDoor

section
open Go.RowKit

theorem bare_show (v : Value) (a : List Int) (w : World) (hv : RdV w v a) (hp : partIn a = true) : Calls Tryz.prog 54 #[v, strV [115, 104, 111, 119]] w (GivesS w (saidL a true)) := by
  have HO := Lib.hid (l9Said_v v a true w hv (goodL_part hp))
  obtain ⟨t, ht⟩ : ∃ t, t = saidL a true := ⟨_, rfl⟩
  rw [← ht] at HO ⊢
  clear ht hv hp
  go_enter Tryz.func54, Tryz.ntmps54
  go_wp2_with (go_at_call 85; (with_reducible refine HO.out.mono ?_); rintro e w2 ⟨rfl, hb2⟩)
  go_ret
  exact ⟨rfl, hb2⟩

theorem bare_blocks (v : Value) (a : List Int) (w : World) (hv : RdV w v a) : Calls Tryz.prog 54 #[v, strV [98, 108, 111, 99, 107, 115]] w (GivesS w (listsL (partBlocks a).1 (partBlocks a).2)) := by
  obtain ⟨r, b, hr⟩ : ∃ r b, (r, b) = partBlocks a := ⟨_, _, rfl⟩
  have hF := sPartBlocks_v v a w hv
  have hg := good_blocks a
  rw [← hr] at hF hg ⊢
  have HF := Lib.hid hF
  have HG := Lib.hid hg
  have HO := Lib.hid (fun v1 w1 (h : RdM w1 v1 r) => l9Lists_v v1 r b w1 h HG.out)
  obtain ⟨t, ht⟩ : ∃ t, t = listsL r b := ⟨_, rfl⟩
  rw [← ht] at HO ⊢
  clear ht hF hg hr hv
  go_enter Tryz.func54, Tryz.ntmps54
  go_wp2_with (first | (go_at_call 87; (with_reducible refine HF.out.mono ?_); rintro e w1 ⟨v1, rfl, ho1, hb1⟩; have hrd := ownM_rdM ho1) | (go_at_call 86; (with_reducible refine (HO.out _ _ hrd).mono ?_); rintro e w2 ⟨rfl, hb2⟩))
  go_ret
  exact ⟨rfl, yAz hb1 hb2⟩

theorem bare_type (v : Value) (a : List Int) (w : World) (hv : RdV w v a) : Calls Tryz.prog 54 #[v, strV [116, 121, 112, 101]] w (GivesS w (saidL (partType a).1 (partType a).2)) := by
  obtain ⟨r, b, hr⟩ : ∃ r b, (r, b) = partType a := ⟨_, _, rfl⟩
  have hF := sPartType_v v a w hv
  have hg := good_type a
  rw [← hr] at hF hg ⊢
  have HF := Lib.hid hF
  have HG := Lib.hid hg
  have HO := Lib.hid (fun v1 w1 (h : RdV w1 v1 r) => l9Said_v v1 r b w1 h HG.out)
  obtain ⟨t, ht⟩ : ∃ t, t = saidL r b := ⟨_, rfl⟩
  rw [← ht] at HO ⊢
  clear ht hF hg hr hv
  go_enter Tryz.func54, Tryz.ntmps54
  go_wp2_with (first | (go_at_call 88; (with_reducible refine HF.out.mono ?_); rintro e w1 ⟨v1, rfl, ho1, hb1⟩; have hrd := yJz ho1) | (go_at_call 85; (with_reducible refine (HO.out _ _ hrd).mono ?_); rintro e w2 ⟨rfl, hb2⟩))
  go_ret
  exact ⟨rfl, yAz hb1 hb2⟩

theorem bare_size (v : Value) (a : List Int) (w : World) (hv : RdV w v a) : Calls Tryz.prog 54 #[v, strV [115, 105, 122, 101]] w (GivesS w (oneL (partSize a).1 (partSize a).2)) := by
  obtain ⟨r, b, hr⟩ : ∃ r b, (r, b) = partSize a := ⟨_, _, rfl⟩
  have hF := sPartSize_v v a w hv
  have hg := bd_size a
  rw [← hr] at hF hg ⊢
  have HF := Lib.hid hF
  have HG := Lib.hid hg
  have HO := Lib.hid (fun w1 (h : Num r) => l9One_v r b w1 h)
  obtain ⟨t, ht⟩ : ∃ t, t = oneL r b := ⟨_, rfl⟩
  rw [← ht] at HO ⊢
  clear ht hF hg hr hv
  go_enter Tryz.func54, Tryz.ntmps54
  go_wp2_with (first | (go_at_call 90; (with_reducible refine HF.out.mono ?_); rintro e w1 ⟨rfl, hb1⟩) | (go_at_call 89; (with_reducible refine (HO.out _ HG.out).mono ?_); rintro e w2 ⟨rfl, hb2⟩))
  go_ret
  exact ⟨rfl, yAz hb1 hb2⟩

theorem bare_rank (v : Value) (a : List Int) (w : World) (hv : RdV w v a) : Calls Tryz.prog 54 #[v, strV [114, 97, 110, 107]] w (GivesS w (oneL (finerRank a).1 (finerRank a).2)) := by
  obtain ⟨r, b, hr⟩ : ∃ r b, (r, b) = finerRank a := ⟨_, _, rfl⟩
  have hF := sFinerRank_v v a w hv
  have hg := bd_rank a
  rw [← hr] at hF hg ⊢
  have HF := Lib.hid hF
  have HG := Lib.hid hg
  have HO := Lib.hid (fun w1 (h : Num r) => l9One_v r b w1 h)
  obtain ⟨t, ht⟩ : ∃ t, t = oneL r b := ⟨_, rfl⟩
  rw [← ht] at HO ⊢
  clear ht hF hg hr hv
  go_enter Tryz.func54, Tryz.ntmps54
  go_wp2_with (first | (go_at_call 91; (with_reducible refine HF.out.mono ?_); rintro e w1 ⟨rfl, hb1⟩) | (go_at_call 89; (with_reducible refine (HO.out _ HG.out).mono ?_); rintro e w2 ⟨rfl, hb2⟩))
  go_ret
  exact ⟨rfl, yAz hb1 hb2⟩

theorem bare_merges (v : Value) (a : List Int) (w : World) (hv : RdV w v a) : Calls Tryz.prog 54 #[v, strV [109, 101, 114, 103, 101, 115]] w (GivesS w (listsL (finerMerges a).1 (finerMerges a).2)) := by
  obtain ⟨r, b, hr⟩ : ∃ r b, (r, b) = finerMerges a := ⟨_, _, rfl⟩
  have hF := sFinerMerges_v v a w hv
  have hg := good_merges a
  rw [← hr] at hF hg ⊢
  have HF := Lib.hid hF
  have HG := Lib.hid hg
  have HO := Lib.hid (fun v1 w1 (h : RdM w1 v1 r) => l9Lists_v v1 r b w1 h HG.out)
  obtain ⟨t, ht⟩ : ∃ t, t = listsL r b := ⟨_, rfl⟩
  rw [← ht] at HO ⊢
  clear ht hF hg hr hv
  go_enter Tryz.func54, Tryz.ntmps54
  go_wp2_with (first | (go_at_call 92; (with_reducible refine HF.out.mono ?_); rintro e w1 ⟨v1, rfl, ho1, hb1⟩; have hrd := ownM_rdM ho1) | (go_at_call 86; (with_reducible refine (HO.out _ _ hrd).mono ?_); rintro e w2 ⟨rfl, hb2⟩))
  go_ret
  exact ⟨rfl, yAz hb1 hb2⟩

theorem bare_splits (v : Value) (a : List Int) (w : World) (hv : RdV w v a) : Calls Tryz.prog 54 #[v, strV [115, 112, 108, 105, 116, 115]] w (GivesS w (oneL (finerSplits a).1 (finerSplits a).2)) := by
  obtain ⟨r, b, hr⟩ : ∃ r b, (r, b) = finerSplits a := ⟨_, _, rfl⟩
  have hF := sFinerSplits_v v a w hv
  have hg := bd_splits a
  rw [← hr] at hF hg ⊢
  have HF := Lib.hid hF
  have HG := Lib.hid hg
  have HO := Lib.hid (fun w1 (h : Num r) => l9One_v r b w1 h)
  obtain ⟨t, ht⟩ : ∃ t, t = oneL r b := ⟨_, rfl⟩
  rw [← ht] at HO ⊢
  clear ht hF hg hr hv
  go_enter Tryz.func54, Tryz.ntmps54
  go_wp2_with (first | (go_at_call 93; (with_reducible refine HF.out.mono ?_); rintro e w1 ⟨rfl, hb1⟩) | (go_at_call 89; (with_reducible refine (HO.out _ HG.out).mono ?_); rintro e w2 ⟨rfl, hb2⟩))
  go_ret
  exact ⟨rfl, yAz hb1 hb2⟩

theorem bare_chains (v : Value) (a : List Int) (w : World) (hv : RdV w v a) : Calls Tryz.prog 54 #[v, strV [99, 104, 97, 105, 110, 115]] w (GivesS w (oneL (finerChains a).1 (finerChains a).2)) := by
  obtain ⟨r, b, hr⟩ : ∃ r b, (r, b) = finerChains a := ⟨_, _, rfl⟩
  have hF := sFinerChains_v v a w hv
  have hg := bd_chains a
  rw [← hr] at hF hg ⊢
  have HF := Lib.hid hF
  have HG := Lib.hid hg
  have HO := Lib.hid (fun w1 (h : Num r) => l9One_v r b w1 h)
  obtain ⟨t, ht⟩ : ∃ t, t = oneL r b := ⟨_, rfl⟩
  rw [← ht] at HO ⊢
  clear ht hF hg hr hv
  go_enter Tryz.func54, Tryz.ntmps54
  go_wp2_with (first | (go_at_call 94; (with_reducible refine HF.out.mono ?_); rintro e w1 ⟨rfl, hb1⟩) | (go_at_call 89; (with_reducible refine (HO.out _ HG.out).mono ?_); rintro e w2 ⟨rfl, hb2⟩))
  go_ret
  exact ⟨rfl, yAz hb1 hb2⟩

theorem bare_place (v : Value) (a : List Int) (w : World) (hv : RdV w v a) : Calls Tryz.prog 54 #[v, strV [112, 108, 97, 99, 101]] w (GivesS w (oneL (listPlace a).1 (listPlace a).2)) := by
  obtain ⟨r, b, hr⟩ : ∃ r b, (r, b) = listPlace a := ⟨_, _, rfl⟩
  have hF := sListPlace_v v a w hv
  have hg := bd_place a
  rw [← hr] at hF hg ⊢
  have HF := Lib.hid hF
  have HG := Lib.hid hg
  have HO := Lib.hid (fun w1 (h : Num r) => l9One_v r b w1 h)
  obtain ⟨t, ht⟩ : ∃ t, t = oneL r b := ⟨_, rfl⟩
  rw [← ht] at HO ⊢
  clear ht hF hg hr hv
  go_enter Tryz.func54, Tryz.ntmps54
  go_wp2_with (first | (go_at_call 16; (with_reducible refine HF.out.mono ?_); rintro e w1 ⟨rfl, hb1⟩) | (go_at_call 89; (with_reducible refine (HO.out _ HG.out).mono ?_); rintro e w2 ⟨rfl, hb2⟩))
  go_ret
  exact ⟨rfl, yAz hb1 hb2⟩

theorem bare_arcs (v : Value) (a : List Int) (w : World) (hv : RdV w v a) : Calls Tryz.prog 54 #[v, strV [97, 114, 99, 115]] w (GivesS w (listsL (arcList a).1 (arcList a).2)) := by
  obtain ⟨r, b, hr⟩ : ∃ r b, (r, b) = arcList a := ⟨_, _, rfl⟩
  have hF := sArcList_v v a w hv
  have hg := good_arcs a
  rw [← hr] at hF hg ⊢
  have HF := Lib.hid hF
  have HG := Lib.hid hg
  have HO := Lib.hid (fun v1 w1 (h : RdM w1 v1 r) => l9Lists_v v1 r b w1 h HG.out)
  obtain ⟨t, ht⟩ : ∃ t, t = listsL r b := ⟨_, rfl⟩
  rw [← ht] at HO ⊢
  clear ht hF hg hr hv
  go_enter Tryz.func54, Tryz.ntmps54
  go_wp2_with (first | (go_at_call 95; (with_reducible refine HF.out.mono ?_); rintro e w1 ⟨v1, rfl, ho1, hb1⟩; have hrd := ownM_rdM ho1) | (go_at_call 86; (with_reducible refine (HO.out _ _ hrd).mono ?_); rintro e w2 ⟨rfl, hb2⟩))
  go_ret
  exact ⟨rfl, yAz hb1 hb2⟩

theorem bare_cross (v : Value) (a : List Int) (w : World) (hv : RdV w v a) : Calls Tryz.prog 54 #[v, strV [99, 114, 111, 115, 115]] w (GivesS w (oneL (arcCross a).1 (arcCross a).2)) := by
  obtain ⟨r, b, hr⟩ : ∃ r b, (r, b) = arcCross a := ⟨_, _, rfl⟩
  have hF := sArcCross_v v a w hv
  have hg := bd_cross a
  rw [← hr] at hF hg ⊢
  have HF := Lib.hid hF
  have HG := Lib.hid hg
  have HO := Lib.hid (fun w1 (h : Num r) => l9One_v r b w1 h)
  obtain ⟨t, ht⟩ : ∃ t, t = oneL r b := ⟨_, rfl⟩
  rw [← ht] at HO ⊢
  clear ht hF hg hr hv
  go_enter Tryz.func54, Tryz.ntmps54
  go_wp2_with (first | (go_at_call 21; (with_reducible refine HF.out.mono ?_); rintro e w1 ⟨rfl, hb1⟩) | (go_at_call 89; (with_reducible refine (HO.out _ HG.out).mono ?_); rintro e w2 ⟨rfl, hb2⟩))
  go_ret
  exact ⟨rfl, yAz hb1 hb2⟩

theorem bare_nest (v : Value) (a : List Int) (w : World) (hv : RdV w v a) : Calls Tryz.prog 54 #[v, strV [110, 101, 115, 116]] w (GivesS w (oneL (arcNest a).1 (arcNest a).2)) := by
  obtain ⟨r, b, hr⟩ : ∃ r b, (r, b) = arcNest a := ⟨_, _, rfl⟩
  have hF := sArcNest_v v a w hv
  have hg := bd_nest a
  rw [← hr] at hF hg ⊢
  have HF := Lib.hid hF
  have HG := Lib.hid hg
  have HO := Lib.hid (fun w1 (h : Num r) => l9One_v r b w1 h)
  obtain ⟨t, ht⟩ : ∃ t, t = oneL r b := ⟨_, rfl⟩
  rw [← ht] at HO ⊢
  clear ht hF hg hr hv
  go_enter Tryz.func54, Tryz.ntmps54
  go_wp2_with (first | (go_at_call 96; (with_reducible refine HF.out.mono ?_); rintro e w1 ⟨rfl, hb1⟩) | (go_at_call 89; (with_reducible refine (HO.out _ HG.out).mono ?_); rintro e w2 ⟨rfl, hb2⟩))
  go_ret
  exact ⟨rfl, yAz hb1 hb2⟩

theorem bare_far (v : Value) (a : List Int) (w : World) (hv : RdV w v a) : Calls Tryz.prog 54 #[v, strV [102, 97, 114]] w (GivesS w (oneL (arcLong a).1 (arcLong a).2)) := by
  obtain ⟨r, b, hr⟩ : ∃ r b, (r, b) = arcLong a := ⟨_, _, rfl⟩
  have hF := sArcLong_v v a w hv
  have hg := bd_far a
  rw [← hr] at hF hg ⊢
  have HF := Lib.hid hF
  have HG := Lib.hid hg
  have HO := Lib.hid (fun w1 (h : Num r) => l9One_v r b w1 h)
  obtain ⟨t, ht⟩ : ∃ t, t = oneL r b := ⟨_, rfl⟩
  rw [← ht] at HO ⊢
  clear ht hF hg hr hv
  go_enter Tryz.func54, Tryz.ntmps54
  go_wp2_with (first | (go_at_call 97; (with_reducible refine HF.out.mono ?_); rintro e w1 ⟨rfl, hb1⟩) | (go_at_call 89; (with_reducible refine (HO.out _ HG.out).mono ?_); rintro e w2 ⟨rfl, hb2⟩))
  go_ret
  exact ⟨rfl, yAz hb1 hb2⟩

theorem bare_ring (v : Value) (a : List Int) (w : World) (hv : RdV w v a) : Calls Tryz.prog 54 #[v, strV [114, 105, 110, 103]] w (GivesS w (saidL (ringOf a).1 (ringOf a).2)) := by
  obtain ⟨r, b, hr⟩ : ∃ r b, (r, b) = ringOf a := ⟨_, _, rfl⟩
  have hF := sRingOf_v v a w hv
  have hg := good_ring a
  rw [← hr] at hF hg ⊢
  have HF := Lib.hid hF
  have HG := Lib.hid hg
  have HO := Lib.hid (fun v1 w1 (h : RdV w1 v1 r) => l9Said_v v1 r b w1 h HG.out)
  obtain ⟨t, ht⟩ : ∃ t, t = saidL r b := ⟨_, rfl⟩
  rw [← ht] at HO ⊢
  clear ht hF hg hr hv
  go_enter Tryz.func54, Tryz.ntmps54
  go_wp2_with (first | (go_at_call 98; (with_reducible refine HF.out.mono ?_); rintro e w1 ⟨v1, rfl, ho1, hb1⟩; have hrd := yJz ho1) | (go_at_call 85; (with_reducible refine (HO.out _ _ hrd).mono ?_); rintro e w2 ⟨rfl, hb2⟩))
  go_ret
  exact ⟨rfl, yAz hb1 hb2⟩

theorem bare_count (v : Value) (a : List Int) (w : World) (hv : RdV w v a) : Calls Tryz.prog 54 #[v, strV [99, 111, 117, 110, 116]] w (GivesS w (oneL (ringCount a).1 (ringCount a).2)) := by
  obtain ⟨r, b, hr⟩ : ∃ r b, (r, b) = ringCount a := ⟨_, _, rfl⟩
  have hF := sRingCount_v v a w hv
  have hg := bd_count a
  rw [← hr] at hF hg ⊢
  have HF := Lib.hid hF
  have HG := Lib.hid hg
  have HO := Lib.hid (fun w1 (h : Num r) => l9One_v r b w1 h)
  obtain ⟨t, ht⟩ : ∃ t, t = oneL r b := ⟨_, rfl⟩
  rw [← ht] at HO ⊢
  clear ht hF hg hr hv
  go_enter Tryz.func54, Tryz.ntmps54
  go_wp2_with (first | (go_at_call 99; (with_reducible refine HF.out.mono ?_); rintro e w1 ⟨rfl, hb1⟩) | (go_at_call 89; (with_reducible refine (HO.out _ HG.out).mono ?_); rintro e w2 ⟨rfl, hb2⟩))
  go_ret
  exact ⟨rfl, yAz hb1 hb2⟩

theorem bare_pairs (v : Value) (a : List Int) (w : World) (hv : RdV w v a) : Calls Tryz.prog 54 #[v, strV [112, 97, 105, 114, 115]] w (GivesS w (listsL (pairOf a).1 (pairOf a).2)) := by
  obtain ⟨r, b, hr⟩ : ∃ r b, (r, b) = pairOf a := ⟨_, _, rfl⟩
  have hF := sPairOf_v v a w hv
  have hg := good_pairs a
  rw [← hr] at hF hg ⊢
  have HF := Lib.hid hF
  have HG := Lib.hid hg
  have HO := Lib.hid (fun v1 w1 (h : RdM w1 v1 r) => l9Lists_v v1 r b w1 h HG.out)
  obtain ⟨t, ht⟩ : ∃ t, t = listsL r b := ⟨_, rfl⟩
  rw [← ht] at HO ⊢
  clear ht hF hg hr hv
  go_enter Tryz.func54, Tryz.ntmps54
  go_wp2_with (first | (go_at_call 100; (with_reducible refine HF.out.mono ?_); rintro e w1 ⟨v1, rfl, ho1, hb1⟩; have hrd := ownM_rdM ho1) | (go_at_call 86; (with_reducible refine (HO.out _ _ hrd).mono ?_); rintro e w2 ⟨rfl, hb2⟩))
  go_ret
  exact ⟨rfl, yAz hb1 hb2⟩

theorem bare_none (v : Value) (a : List Int) (l : List UInt8) (w : World) (h0 : (l == [115, 104, 111, 119]) = false) (h1 : (l == [98, 108, 111, 99, 107, 115]) = false) (h2 : (l == [116, 121, 112, 101]) = false) (h3 : (l == [115, 105, 122, 101]) = false) (h4 : (l == [114, 97, 110, 107]) = false) (h5 : (l == [109, 101, 114, 103, 101, 115]) = false) (h6 : (l == [115, 112, 108, 105, 116, 115]) = false) (h7 : (l == [99, 104, 97, 105, 110, 115]) = false) (h8 : (l == [112, 108, 97, 99, 101]) = false) (h9 : (l == [97, 114, 99, 115]) = false) (h10 : (l == [99, 114, 111, 115, 115]) = false) (h11 : (l == [110, 101, 115, 116]) = false) (h12 : (l == [102, 97, 114]) = false) (h13 : (l == [114, 105, 110, 103]) = false) (h14 : (l == [99, 111, 117, 110, 116]) = false) (h15 : (l == [112, 97, 105, 114, 115]) = false) : Calls Tryz.prog 54 #[v, strV l] w (GivesS w sayWhat) := by
  unfold sayWhat
  go_enter Tryz.func54, Tryz.ntmps54
  go_wp2
  go_ret
  exact ⟨rfl, Below.refl _ _⟩

theorem l9Bare_v (v : Value) (a : List Int) (l : List UInt8) (w : World) (hv : RdV w v a) (hp : partIn a = true) : Calls Tryz.prog 54 #[v, strV l] w (GivesS w (bareL a l)) := by
  unfold bareL
  by_cases h0 : l = w_show
  · rw [if_pos h0, h0]
    exact bare_show v a w hv hp
  rw [if_neg h0]
  by_cases h1 : l = w_blocks
  · rw [if_pos h1, h1]
    exact bare_blocks v a w hv
  rw [if_neg h1]
  by_cases h2 : l = w_type
  · rw [if_pos h2, h2]
    exact bare_type v a w hv
  rw [if_neg h2]
  by_cases h3 : l = w_size
  · rw [if_pos h3, h3]
    exact bare_size v a w hv
  rw [if_neg h3]
  by_cases h4 : l = w_rank
  · rw [if_pos h4, h4]
    exact bare_rank v a w hv
  rw [if_neg h4]
  by_cases h5 : l = w_merges
  · rw [if_pos h5, h5]
    exact bare_merges v a w hv
  rw [if_neg h5]
  by_cases h6 : l = w_splits
  · rw [if_pos h6, h6]
    exact bare_splits v a w hv
  rw [if_neg h6]
  by_cases h7 : l = w_chains
  · rw [if_pos h7, h7]
    exact bare_chains v a w hv
  rw [if_neg h7]
  by_cases h8 : l = w_place
  · rw [if_pos h8, h8]
    exact bare_place v a w hv
  rw [if_neg h8]
  by_cases h9 : l = w_arcs
  · rw [if_pos h9, h9]
    exact bare_arcs v a w hv
  rw [if_neg h9]
  by_cases h10 : l = w_cross
  · rw [if_pos h10, h10]
    exact bare_cross v a w hv
  rw [if_neg h10]
  by_cases h11 : l = w_nest
  · rw [if_pos h11, h11]
    exact bare_nest v a w hv
  rw [if_neg h11]
  by_cases h12 : l = w_far
  · rw [if_pos h12, h12]
    exact bare_far v a w hv
  rw [if_neg h12]
  by_cases h13 : l = w_ring
  · rw [if_pos h13, h13]
    exact bare_ring v a w hv
  rw [if_neg h13]
  by_cases h14 : l = w_count
  · rw [if_pos h14, h14]
    exact bare_count v a w hv
  rw [if_neg h14]
  by_cases h15 : l = w_pairs
  · rw [if_pos h15, h15]
    exact bare_pairs v a w hv
  rw [if_neg h15]
  exact bare_none v a l w (beq_eq_false_iff_ne.2 h0) (beq_eq_false_iff_ne.2 h1) (beq_eq_false_iff_ne.2 h2) (beq_eq_false_iff_ne.2 h3) (beq_eq_false_iff_ne.2 h4) (beq_eq_false_iff_ne.2 h5) (beq_eq_false_iff_ne.2 h6) (beq_eq_false_iff_ne.2 h7) (beq_eq_false_iff_ne.2 h8) (beq_eq_false_iff_ne.2 h9) (beq_eq_false_iff_ne.2 h10) (beq_eq_false_iff_ne.2 h11) (beq_eq_false_iff_ne.2 h12) (beq_eq_false_iff_ne.2 h13) (beq_eq_false_iff_ne.2 h14) (beq_eq_false_iff_ne.2 h15)
end

section
open Go.RowKit

def LeftL (w : World) (r : List Int) (kn ok : Bool) (e : Ending) (w' : World) : Prop := ∃ v', e = .returned (.tuple #[v', .bool kn, .bool ok]) ∧ RdV w' v' r ∧ Below w.heap.size w w'
theorem rd_one {w : World} {ao : Option Addr} {l : List Int} (h : Rd w ao l) (hl : l.length = 1) : ∃ b off, ao = some ⟨b, off, none⟩ ∧ w.cell? ⟨b, off, none⟩ = some (.int .i64 (l.getD 0 0)) := by
  obtain ⟨b, off, ha, hc⟩ := rd_cell h (k := 0) (by omega)
  exact ⟨b, off, ha, hc⟩
theorem rd_two {w : World} {ao : Option Addr} {l : List Int} (h : Rd w ao l) (hl : l.length = 2) : ∃ b off, ao = some ⟨b, off, none⟩ ∧ w.cell? ⟨b, off, none⟩ = some (.int .i64 (l.getD 0 0)) ∧ w.cell? ⟨b, off + 1, none⟩ = some (.int .i64 (l.getD 1 0)) := by
  rcases h with rfl | ⟨b, off, ha, hc⟩
  · simp at hl
  · exact ⟨b, off, ha, hc 0 (by omega), hc 1 (by omega)⟩
theorem wf_999 {l : List Int} (h : ∀ x ∈ l, 0 ≤ x ∧ x ≤ 999) (k : Nat) (hk : k < l.length) : (Lit.int .i64 (l.getD k 0)).wf = true := by
  have : l.getD k 0 ∈ l := by simp only [List.getD, List.getElem?_eq_getElem hk, Option.getD_some]; exact List.getElem_mem hk
  have := h _ this
  exact WalkArith.wf_i64 ⟨by omega, by omega⟩

theorem aln_turned (v : Value) (a : List Int) (w : World) (hv : RdV w v a) : Calls Tryz.prog 51 #[v, strV [116, 117, 114, 110, 101, 100]] w (LeftL w (partTurned a).1 true (partTurned a).2) := by
  obtain ⟨r, b, hr⟩ : ∃ r b, (r, b) = partTurned a := ⟨_, _, rfl⟩
  have hF := sPartTurned_v v a w hv
  rw [← hr] at hF ⊢
  have HF := Lib.hid hF
  clear hF hr hv
  go_enter Tryz.func51, Tryz.ntmps51
  go_wp2_with (go_at_call 75; (with_reducible refine HF.out.mono ?_); rintro e w1 ⟨v1, rfl, ho1, hb1⟩; have hrd := Lib.hid (yJz ho1); clear ho1)
  go_ret3
  exact ⟨_, rfl, hrd.out, hb1⟩

theorem aln_next (v : Value) (a : List Int) (w : World) (hv : RdV w v a) : Calls Tryz.prog 51 #[v, strV [110, 101, 120, 116]] w (LeftL w (listNext a).1 true (listNext a).2) := by
  obtain ⟨r, b, hr⟩ : ∃ r b, (r, b) = listNext a := ⟨_, _, rfl⟩
  have hF := sListNext_v v a w hv
  rw [← hr] at hF ⊢
  have HF := Lib.hid hF
  clear hF hr hv
  go_enter Tryz.func51, Tryz.ntmps51
  go_wp2_with (go_at_call 76; (with_reducible refine HF.out.mono ?_); rintro e w1 ⟨v1, rfl, ho1, hb1⟩; have hrd := Lib.hid (yJz ho1); clear ho1)
  go_ret3
  exact ⟨_, rfl, hrd.out, hb1⟩

theorem aln_before (v : Value) (a : List Int) (w : World) (hv : RdV w v a) : Calls Tryz.prog 51 #[v, strV [98, 101, 102, 111, 114, 101]] w (LeftL w (listBefore a).1 true (listBefore a).2) := by
  obtain ⟨r, b, hr⟩ : ∃ r b, (r, b) = listBefore a := ⟨_, _, rfl⟩
  have hF := sListBefore_v v a w hv
  rw [← hr] at hF ⊢
  have HF := Lib.hid hF
  clear hF hr hv
  go_enter Tryz.func51, Tryz.ntmps51
  go_wp2_with (go_at_call 77; (with_reducible refine HF.out.mono ?_); rintro e w1 ⟨v1, rfl, ho1, hb1⟩; have hrd := Lib.hid (yJz ho1); clear ho1)
  go_ret3
  exact ⟨_, rfl, hrd.out, hb1⟩

theorem aln_none (v : Value) (a : List Int) (l : List UInt8) (w : World) (hv : RdV w v a) (h0 : (l == [116, 117, 114, 110, 101, 100]) = false) (h1 : (l == [110, 101, 120, 116]) = false) (h2 : (l == [98, 101, 102, 111, 114, 101]) = false) : Calls Tryz.prog 51 #[v, strV l] w (LeftL w a false false) := by
  have HV := Lib.hid hv
  clear hv
  go_enter Tryz.func51, Tryz.ntmps51
  go_wp2
  go_ret3
  exact ⟨_, rfl, HV.out, Below.refl _ _⟩

theorem l9Alone_v (v : Value) (a : List Int) (l : List UInt8) (w : World) (hv : RdV w v a) : Calls Tryz.prog 51 #[v, strV l] w (LeftL w ((aloneL a l).getD (a, false)).1 (aloneL a l).isSome ((aloneL a l).getD (a, false)).2) := by
  unfold aloneL
  by_cases h0 : l = w_turned
  · rw [if_pos h0, h0]
    exact aln_turned v a w hv
  rw [if_neg h0]
  by_cases h1 : l = w_next
  · rw [if_pos h1, h1]
    exact aln_next v a w hv
  rw [if_neg h1]
  by_cases h2 : l = w_before
  · rw [if_pos h2, h2]
    exact aln_before v a w hv
  rw [if_neg h2]
  exact aln_none v a l w hv (beq_eq_false_iff_ne.2 h0) (beq_eq_false_iff_ne.2 h1) (beq_eq_false_iff_ne.2 h2)

theorem chg_part (v u : Value) (a l : List Int) (w : World) (hv : RdV w v a) (hu : RdV w u l) : Calls Tryz.prog 53 #[v, strV [112, 97, 114, 116], u] w (LeftL w l true (partIn l)) := by
  have HF := Lib.hid (sPartIn_v u l w hu)
  have HU := Lib.hid hu
  obtain ⟨ao, ca, rfl, _, _, _⟩ := hu
  obtain ⟨r, hr⟩ : ∃ r, r = partIn l := ⟨_, rfl⟩
  obtain ⟨m, hm⟩ : ∃ m, m = l.length := ⟨_, rfl⟩
  rw [← hr] at HF ⊢
  rw [← hm] at HF HU ⊢
  clear hr hm hv
  go_enter Tryz.func53, Tryz.ntmps53
  go_wp2_with (go_at_call 37; (with_reducible refine HF.out.mono ?_); rintro e w1 ⟨rfl, hb1⟩)
  go_ret3
  exact ⟨_, rfl, yDz HU.out hb1, hb1⟩

theorem chg_kernel (v u : Value) (a l : List Int) (w : World) (hv : RdV w v a) (hu : RdV w u l) : Calls Tryz.prog 53 #[v, strV [107, 101, 114, 110, 101, 108], u] w (LeftL w (partKernel l).1 true (partKernel l).2) := by
  obtain ⟨r, b, hr⟩ : ∃ r b, (r, b) = partKernel l := ⟨_, _, rfl⟩
  have hF := sPartKernel_v u l w hu
  rw [← hr] at hF ⊢
  obtain ⟨ao, ca, rfl, _, _, _⟩ := hu
  obtain ⟨m, hm⟩ : ∃ m, m = l.length := ⟨_, rfl⟩
  rw [← hm] at hF ⊢
  have HF := Lib.hid hF
  clear hF hr hm hv
  go_enter Tryz.func53, Tryz.ntmps53
  go_wp2_with (go_at_call 78; (with_reducible refine HF.out.mono ?_); rintro e w1 ⟨v1, rfl, ho1, hb1⟩; have hrd := Lib.hid (yJz ho1); clear ho1)
  go_ret3
  exact ⟨_, rfl, hrd.out, hb1⟩

theorem chg_at_yes (v : Value) (a : List Int) (b off ca : Nat) (x y : Int) (w : World) (hv : RdV w v a) (hc : w.cell? ⟨b, off, none⟩ = some (.int .i64 x)) (hd : w.cell? ⟨b, off + 1, none⟩ = some (.int .i64 y)) (wx : (Lit.int .i64 x).wf = true) (wy : (Lit.int .i64 y).wf = true) : Calls Tryz.prog 53 #[v, strV [97, 116], .slice (some ⟨b, off, none⟩) 2 ca] w (LeftL w (listAt x y).1 true (listAt x y).2) := by
  obtain ⟨r, k, hr⟩ : ∃ r k, (r, k) = listAt x y := ⟨_, _, rfl⟩
  have hF := fun w0 : World => sListAt_v x y w0 wx wy
  rw [← hr] at hF ⊢
  have HF := Lib.hid hF
  clear hF hr hv
  go_enter Tryz.func53, Tryz.ntmps53
  go_wp2_with fail
  go_region_with (go_at_call 79; (with_reducible refine (HF.out _).mono ?_); rintro e w1 ⟨v1, rfl, ho1, hb1⟩; have hrd := Lib.hid (yJz ho1); clear ho1)
  all_goals go_wp2
  all_goals go_ret3
  all_goals exact ⟨_, rfl, hrd.out, yAz (below_drewN (Below.refl _ w) 1) hb1⟩

theorem chg_at_no (v : Value) (a : List Int) (ao : Option Addr) (m ca : Nat) (w : World) (hv : RdV w v a) (hm : ((m : Int) == 2) = false) : Calls Tryz.prog 53 #[v, strV [97, 116], .slice ao m ca] w (LeftL w a true false) := by
  have HV := Lib.hid hv
  clear hv
  go_enter Tryz.func53, Tryz.ntmps53
  go_wp2
  go_ret3
  exact ⟨_, rfl, HV.out, Below.refl _ _⟩

theorem chg_put_yes (v : Value) (a : List Int) (b off ca : Nat) (x : Int) (w : World) (hv : RdV w v a) (hc : w.cell? ⟨b, off, none⟩ = some (.int .i64 x)) (wx : (Lit.int .i64 x).wf = true) : Calls Tryz.prog 53 #[v, strV [112, 117, 116], .slice (some ⟨b, off, none⟩) 1 ca] w (LeftL w (partPut a x).1 true (partPut a x).2) := by
  obtain ⟨r, k, hr⟩ : ∃ r k, (r, k) = partPut a x := ⟨_, _, rfl⟩
  have hF := sPartPut_v v a x w hv wx
  rw [← hr] at hF ⊢
  have HF := Lib.hid hF
  clear hF hr hv
  go_enter Tryz.func53, Tryz.ntmps53
  go_wp2_with (go_at_call 80; (with_reducible refine HF.out.mono ?_); rintro e w1 ⟨v1, rfl, ho1, hb1⟩; have hrd := Lib.hid (yJz ho1); clear ho1)
  all_goals go_ret3
  all_goals exact ⟨_, rfl, hrd.out, hb1⟩

theorem chg_put_no (v : Value) (a : List Int) (ao : Option Addr) (m ca : Nat) (w : World) (hv : RdV w v a) (hm : ((m : Int) == 1) = false) : Calls Tryz.prog 53 #[v, strV [112, 117, 116], .slice ao m ca] w (LeftL w a true false) := by
  have HV := Lib.hid hv
  clear hv
  go_enter Tryz.func53, Tryz.ntmps53
  go_wp2
  go_ret3
  exact ⟨_, rfl, HV.out, Below.refl _ _⟩

theorem chg_drop_yes (v : Value) (a : List Int) (b off ca : Nat) (x : Int) (w : World) (hv : RdV w v a) (hc : w.cell? ⟨b, off, none⟩ = some (.int .i64 x)) (wx : (Lit.int .i64 x).wf = true) : Calls Tryz.prog 53 #[v, strV [100, 114, 111, 112], .slice (some ⟨b, off, none⟩) 1 ca] w (LeftL w (partDrop a x).1 true (partDrop a x).2) := by
  obtain ⟨r, k, hr⟩ : ∃ r k, (r, k) = partDrop a x := ⟨_, _, rfl⟩
  have hF := sPartDrop_v v a x w hv wx
  rw [← hr] at hF ⊢
  have HF := Lib.hid hF
  clear hF hr hv
  go_enter Tryz.func53, Tryz.ntmps53
  go_wp2_with (go_at_call 81; (with_reducible refine HF.out.mono ?_); rintro e w1 ⟨v1, rfl, ho1, hb1⟩; have hrd := Lib.hid (yJz ho1); clear ho1)
  all_goals go_ret3
  all_goals exact ⟨_, rfl, hrd.out, hb1⟩

theorem chg_drop_no (v : Value) (a : List Int) (ao : Option Addr) (m ca : Nat) (w : World) (hv : RdV w v a) (hm : ((m : Int) == 1) = false) : Calls Tryz.prog 53 #[v, strV [100, 114, 111, 112], .slice ao m ca] w (LeftL w a true false) := by
  have HV := Lib.hid hv
  clear hv
  go_enter Tryz.func53, Tryz.ntmps53
  go_wp2
  go_ret3
  exact ⟨_, rfl, HV.out, Below.refl _ _⟩

theorem chg_meet (v u : Value) (a l : List Int) (w : World) (hv : RdV w v a) (hu : RdV w u l) : Calls Tryz.prog 53 #[v, strV [109, 101, 101, 116], u] w (LeftL w (finerMeet a l).1 true (finerMeet a l).2) := by
  obtain ⟨r, b, hr⟩ : ∃ r b, (r, b) = finerMeet a l := ⟨_, _, rfl⟩
  have hF := sFinerMeet_v v u a l w hv hu
  rw [← hr] at hF ⊢
  obtain ⟨ao, ca, rfl, _, _, _⟩ := hu
  obtain ⟨m, hm⟩ : ∃ m, m = l.length := ⟨_, rfl⟩
  rw [← hm] at hF ⊢
  have HF := Lib.hid hF
  clear hF hr hm hv
  go_enter Tryz.func53, Tryz.ntmps53
  go_wp2_with (go_at_call 82; (with_reducible refine HF.out.mono ?_); rintro e w1 ⟨v1, rfl, ho1, hb1⟩; have hrd := Lib.hid (yJz ho1); clear ho1)
  go_ret3
  exact ⟨_, rfl, hrd.out, hb1⟩

theorem chg_join (v u : Value) (a l : List Int) (w : World) (hv : RdV w v a) (hu : RdV w u l) : Calls Tryz.prog 53 #[v, strV [106, 111, 105, 110], u] w (LeftL w (finerJoin a l).1 true (finerJoin a l).2) := by
  obtain ⟨r, b, hr⟩ : ∃ r b, (r, b) = finerJoin a l := ⟨_, _, rfl⟩
  have hF := sFinerJoin_v v u a l w hv hu
  rw [← hr] at hF ⊢
  obtain ⟨ao, ca, rfl, _, _, _⟩ := hu
  obtain ⟨m, hm⟩ : ∃ m, m = l.length := ⟨_, rfl⟩
  rw [← hm] at hF ⊢
  have HF := Lib.hid hF
  clear hF hr hm hv
  go_enter Tryz.func53, Tryz.ntmps53
  go_wp2_with (go_at_call 83; (with_reducible refine HF.out.mono ?_); rintro e w1 ⟨v1, rfl, ho1, hb1⟩; have hrd := Lib.hid (yJz ho1); clear ho1)
  go_ret3
  exact ⟨_, rfl, hrd.out, hb1⟩

theorem chg_rings (v u : Value) (a l : List Int) (w : World) (hv : RdV w v a) (hu : RdV w u l) : Calls Tryz.prog 53 #[v, strV [114, 105, 110, 103, 115], u] w (LeftL w (ringPart l).1 true (ringPart l).2) := by
  obtain ⟨r, b, hr⟩ : ∃ r b, (r, b) = ringPart l := ⟨_, _, rfl⟩
  have hF := sRingPart_v u l w hu
  rw [← hr] at hF ⊢
  obtain ⟨ao, ca, rfl, _, _, _⟩ := hu
  obtain ⟨m, hm⟩ : ∃ m, m = l.length := ⟨_, rfl⟩
  rw [← hm] at hF ⊢
  have HF := Lib.hid hF
  clear hF hr hm hv
  go_enter Tryz.func53, Tryz.ntmps53
  go_wp2_with (go_at_call 84; (with_reducible refine HF.out.mono ?_); rintro e w1 ⟨v1, rfl, ho1, hb1⟩; have hrd := Lib.hid (yJz ho1); clear ho1)
  go_ret3
  exact ⟨_, rfl, hrd.out, hb1⟩

theorem chg_none (v u : Value) (a ns : List Int) (l : List UInt8) (w : World) (hv : RdV w v a) (hu : RdV w u ns) (h0 : (l == [112, 97, 114, 116]) = false) (h1 : (l == [107, 101, 114, 110, 101, 108]) = false) (h2 : (l == [97, 116]) = false) (h3 : (l == [112, 117, 116]) = false) (h4 : (l == [100, 114, 111, 112]) = false) (h5 : (l == [109, 101, 101, 116]) = false) (h6 : (l == [106, 111, 105, 110]) = false) (h7 : (l == [114, 105, 110, 103, 115]) = false) : Calls Tryz.prog 53 #[v, strV l, u] w (LeftL w a false false) := by
  have HV := Lib.hid hv
  obtain ⟨ao, ca, rfl, _, _, _⟩ := hu
  clear hv
  go_enter Tryz.func53, Tryz.ntmps53
  go_wp2
  go_ret3
  exact ⟨_, rfl, HV.out, Below.refl _ _⟩

theorem l9Change_v (v u : Value) (a ns : List Int) (l : List UInt8) (w : World) (hv : RdV w v a) (hu : RdV w u ns) (hw : ∀ x ∈ ns, 0 ≤ x ∧ x ≤ 999) : Calls Tryz.prog 53 #[v, strV l, u] w (LeftL w ((changeL a l ns).getD (a, false)).1 (changeL a l ns).isSome ((changeL a l ns).getD (a, false)).2) := by
  unfold changeL
  by_cases h0 : l = w_part
  · rw [if_pos h0, h0]
    exact chg_part v u a ns w hv hu
  rw [if_neg h0]
  by_cases h1 : l = w_kernel
  · rw [if_pos h1, h1]
    exact chg_kernel v u a ns w hv hu
  rw [if_neg h1]
  by_cases h2 : l = w_at
  · rw [if_pos h2, h2]
    obtain ⟨ao, ca, rfl, hx, _, _⟩ := hu
    by_cases hn : ns.length = 2
    · rw [if_pos hn, hn]
      obtain ⟨b, off, rfl, hc, hd⟩ := rd_two hx hn
      exact chg_at_yes v a b off ca _ _ w hv hc hd (wf_999 hw 0 (by omega)) (wf_999 hw 1 (by omega))
    · rw [if_neg hn]
      exact chg_at_no v a ao _ ca w hv (by simp; omega)
  rw [if_neg h2]
  by_cases h3 : l = w_put
  · rw [if_pos h3, h3]
    obtain ⟨ao, ca, rfl, hx, _, _⟩ := hu
    by_cases hn : ns.length = 1
    · rw [if_pos hn, hn]
      obtain ⟨b, off, rfl, hc⟩ := rd_one hx hn
      exact chg_put_yes v a b off ca _ w hv hc (wf_999 hw 0 (by omega))
    · rw [if_neg hn]
      exact chg_put_no v a ao _ ca w hv (by simp; omega)
  rw [if_neg h3]
  by_cases h4 : l = w_drop
  · rw [if_pos h4, h4]
    obtain ⟨ao, ca, rfl, hx, _, _⟩ := hu
    by_cases hn : ns.length = 1
    · rw [if_pos hn, hn]
      obtain ⟨b, off, rfl, hc⟩ := rd_one hx hn
      exact chg_drop_yes v a b off ca _ w hv hc (wf_999 hw 0 (by omega))
    · rw [if_neg hn]
      exact chg_drop_no v a ao _ ca w hv (by simp; omega)
  rw [if_neg h4]
  by_cases h5 : l = w_meet
  · rw [if_pos h5, h5]
    exact chg_meet v u a ns w hv hu
  rw [if_neg h5]
  by_cases h6 : l = w_join
  · rw [if_pos h6, h6]
    exact chg_join v u a ns w hv hu
  rw [if_neg h6]
  by_cases h7 : l = w_rings
  · rw [if_pos h7, h7]
    exact chg_rings v u a ns w hv hu
  rw [if_neg h7]
  exact chg_none v u a ns l w hv hu (beq_eq_false_iff_ne.2 h0) (beq_eq_false_iff_ne.2 h1) (beq_eq_false_iff_ne.2 h2) (beq_eq_false_iff_ne.2 h3) (beq_eq_false_iff_ne.2 h4) (beq_eq_false_iff_ne.2 h5) (beq_eq_false_iff_ne.2 h6) (beq_eq_false_iff_ne.2 h7)

theorem ask_finer_no (v u : Value) (a l : List Int) (w : World) (hu : RdV w u l) : Calls Tryz.prog 55 #[v, strV [102, 105, 110, 101, 114], u, .bool false] w (GivesS w sayNo) := by
  unfold sayNo
  obtain ⟨ao, ca, rfl, _, _, _⟩ := hu
  go_enter Tryz.func55, Tryz.ntmps55
  go_wp2
  go_ret
  exact ⟨rfl, Below.refl _ _⟩

theorem ask_finer (v u : Value) (a l : List Int) (w : World) (hv : RdV w v a) (hu : RdV w u l) : Calls Tryz.prog 55 #[v, strV [102, 105, 110, 101, 114], u, .bool true] w (GivesS w (if finerIn a l then sayYes else sayNot)) := by
  unfold sayYes sayNot
  have hF := sFinerIn_v v u a l w hv hu
  obtain ⟨ao, ca, rfl, _, _, _⟩ := hu
  obtain ⟨m, hm⟩ : ∃ m, m = l.length := ⟨_, rfl⟩
  rw [← hm] at hF ⊢
  cases hr : finerIn a l
  all_goals
    rw [hr] at hF
    have HF := Lib.hid hF
    clear hF hr hv hm
    go_enter Tryz.func55, Tryz.ntmps55
    go_wp2_with (go_at_call 101; (with_reducible refine HF.out.mono ?_); rintro e w1 ⟨rfl, hb1⟩)
    go_ret
    exact ⟨rfl, hb1⟩

theorem ask_sign (v u : Value) (a l : List Int) (ok : Bool) (w : World) (hv : RdV w v a) (hu : RdV w u l) : Calls Tryz.prog 55 #[v, strV [115, 105, 103, 110], u, .bool ok] w (GivesS w (oneL (finerSign a l).1 (finerSign a l).2)) := by
  obtain ⟨r, b, hr⟩ : ∃ r b, (r, b) = finerSign a l := ⟨_, _, rfl⟩
  have hF := sFinerSign_v v u a l w hv hu
  have hg := bd_sign a l
  rw [← hr] at hF hg ⊢
  obtain ⟨ao, ca, rfl, _, _, _⟩ := hu
  obtain ⟨m, hm⟩ : ∃ m, m = l.length := ⟨_, rfl⟩
  rw [← hm] at hF ⊢
  have HF := Lib.hid hF
  have HG := Lib.hid hg
  have HO := Lib.hid (fun w1 (h : Num r) => l9One_v r b w1 h)
  obtain ⟨t, ht⟩ : ∃ t, t = oneL r b := ⟨_, rfl⟩
  rw [← ht] at HO ⊢
  clear ht hF hg hr hv hm
  go_enter Tryz.func55, Tryz.ntmps55
  go_wp2_with (first | (go_at_call 102; (with_reducible refine HF.out.mono ?_); rintro e w1 ⟨rfl, hb1⟩) | (go_at_call 89; (with_reducible refine (HO.out _ HG.out).mono ?_); rintro e w2 ⟨rfl, hb2⟩))
  go_ret
  exact ⟨rfl, yAz hb1 hb2⟩

theorem ask_inner (v u : Value) (a l : List Int) (ok : Bool) (w : World) (hv : RdV w v a) (hu : RdV w u l) : Calls Tryz.prog 55 #[v, strV [105, 110, 110, 101, 114], u, .bool ok] w (GivesS w (oneL (finerInterval a l).1 (finerInterval a l).2)) := by
  obtain ⟨r, b, hr⟩ : ∃ r b, (r, b) = finerInterval a l := ⟨_, _, rfl⟩
  have hF := sFinerInterval_v v u a l w hv hu
  have hg := bd_inner a l
  rw [← hr] at hF hg ⊢
  obtain ⟨ao, ca, rfl, _, _, _⟩ := hu
  obtain ⟨m, hm⟩ : ∃ m, m = l.length := ⟨_, rfl⟩
  rw [← hm] at hF ⊢
  have HF := Lib.hid hF
  have HG := Lib.hid hg
  have HO := Lib.hid (fun w1 (h : Num r) => l9One_v r b w1 h)
  obtain ⟨t, ht⟩ : ∃ t, t = oneL r b := ⟨_, rfl⟩
  rw [← ht] at HO ⊢
  clear ht hF hg hr hv hm
  go_enter Tryz.func55, Tryz.ntmps55
  go_wp2_with (first | (go_at_call 103; (with_reducible refine HF.out.mono ?_); rintro e w1 ⟨rfl, hb1⟩) | (go_at_call 89; (with_reducible refine (HO.out _ HG.out).mono ?_); rintro e w2 ⟨rfl, hb2⟩))
  go_ret
  exact ⟨rfl, yAz hb1 hb2⟩

theorem ask_quarrel (v u : Value) (a l : List Int) (ok : Bool) (w : World) (hv : RdV w v a) (hu : RdV w u l) : Calls Tryz.prog 55 #[v, strV [113, 117, 97, 114, 114, 101, 108], u, .bool ok] w (GivesS w (oneL (viewQuarrel a l).1 (viewQuarrel a l).2)) := by
  obtain ⟨r, b, hr⟩ : ∃ r b, (r, b) = viewQuarrel a l := ⟨_, _, rfl⟩
  have hF := sViewQuarrel_v v u a l w hv hu
  have hg := bd_quarrel a l
  rw [← hr] at hF hg ⊢
  obtain ⟨ao, ca, rfl, _, _, _⟩ := hu
  obtain ⟨m, hm⟩ : ∃ m, m = l.length := ⟨_, rfl⟩
  rw [← hm] at hF ⊢
  have HF := Lib.hid hF
  have HG := Lib.hid hg
  have HO := Lib.hid (fun w1 (h : Num r) => l9One_v r b w1 h)
  obtain ⟨t, ht⟩ : ∃ t, t = oneL r b := ⟨_, rfl⟩
  rw [← ht] at HO ⊢
  clear ht hF hg hr hv hm
  go_enter Tryz.func55, Tryz.ntmps55
  go_wp2_with (first | (go_at_call 104; (with_reducible refine HF.out.mono ?_); rintro e w1 ⟨rfl, hb1⟩) | (go_at_call 89; (with_reducible refine (HO.out _ HG.out).mono ?_); rintro e w2 ⟨rfl, hb2⟩))
  go_ret
  exact ⟨rfl, yAz hb1 hb2⟩

theorem ask_path (v u : Value) (a l : List Int) (ok : Bool) (w : World) (hv : RdV w v a) (hu : RdV w u l) : Calls Tryz.prog 55 #[v, strV [112, 97, 116, 104], u, .bool ok] w (GivesS w (oneL (viewPath a l).1 (viewPath a l).2)) := by
  obtain ⟨r, b, hr⟩ : ∃ r b, (r, b) = viewPath a l := ⟨_, _, rfl⟩
  have hF := sViewPath_v v u a l w hv hu
  have hg := bd_path a l
  rw [← hr] at hF hg ⊢
  obtain ⟨ao, ca, rfl, _, _, _⟩ := hu
  obtain ⟨m, hm⟩ : ∃ m, m = l.length := ⟨_, rfl⟩
  rw [← hm] at hF ⊢
  have HF := Lib.hid hF
  have HG := Lib.hid hg
  have HO := Lib.hid (fun w1 (h : Num r) => l9One_v r b w1 h)
  obtain ⟨t, ht⟩ : ∃ t, t = oneL r b := ⟨_, rfl⟩
  rw [← ht] at HO ⊢
  clear ht hF hg hr hv hm
  go_enter Tryz.func55, Tryz.ntmps55
  go_wp2_with (first | (go_at_call 105; (with_reducible refine HF.out.mono ?_); rintro e w1 ⟨rfl, hb1⟩) | (go_at_call 89; (with_reducible refine (HO.out _ HG.out).mono ?_); rintro e w2 ⟨rfl, hb2⟩))
  go_ret
  exact ⟨rfl, yAz hb1 hb2⟩

theorem ask_moves (v u : Value) (a l : List Int) (ok : Bool) (w : World) (hv : RdV w v a) (hu : RdV w u l) : Calls Tryz.prog 55 #[v, strV [109, 111, 118, 101, 115], u, .bool ok] w (GivesS w (oneL (viewMoves a l).1 (viewMoves a l).2)) := by
  obtain ⟨r, b, hr⟩ : ∃ r b, (r, b) = viewMoves a l := ⟨_, _, rfl⟩
  have hF := sViewMoves_v v u a l w hv hu
  have hg := bd_moves a l
  rw [← hr] at hF hg ⊢
  obtain ⟨ao, ca, rfl, _, _, _⟩ := hu
  obtain ⟨m, hm⟩ : ∃ m, m = l.length := ⟨_, rfl⟩
  rw [← hm] at hF ⊢
  have HF := Lib.hid hF
  have HG := Lib.hid hg
  have HO := Lib.hid (fun w1 (h : Num r) => l9One_v r b w1 h)
  obtain ⟨t, ht⟩ : ∃ t, t = oneL r b := ⟨_, rfl⟩
  rw [← ht] at HO ⊢
  clear ht hF hg hr hv hm
  go_enter Tryz.func55, Tryz.ntmps55
  go_wp2_with (first | (go_at_call 106; (with_reducible refine HF.out.mono ?_); rintro e w1 ⟨rfl, hb1⟩) | (go_at_call 89; (with_reducible refine (HO.out _ HG.out).mono ?_); rintro e w2 ⟨rfl, hb2⟩))
  go_ret
  exact ⟨rfl, yAz hb1 hb2⟩

theorem ask_number_yes (v : Value) (b off ca : Nat) (x y : Int) (ok : Bool) (w : World) (hc : w.cell? ⟨b, off, none⟩ = some (.int .i64 x)) (hd : w.cell? ⟨b, off + 1, none⟩ = some (.int .i64 y)) (wx : (Lit.int .i64 x).wf = true) (wy : (Lit.int .i64 y).wf = true) : Calls Tryz.prog 55 #[v, strV [110, 117, 109, 98, 101, 114], .slice (some ⟨b, off, none⟩) 2 ca, .bool ok] w (GivesS w (oneL (numBy (ext fB) x y).1 (numBy (ext fB) x y).2)) := by
  obtain ⟨r, k, hr⟩ : ∃ r k, (r, k) = numBy (ext fB) x y := ⟨_, _, rfl⟩
  have hF := fun w0 : World => sNumberBlocks_v x y w0 wx wy
  have hg := bd_number x y
  rw [← hr] at hF hg ⊢
  have HF := Lib.hid hF
  have HG := Lib.hid hg
  have HO := Lib.hid (fun w1 (h : Num r) => l9One_v r k w1 h)
  obtain ⟨t, ht⟩ : ∃ t, t = oneL r k := ⟨_, rfl⟩
  rw [← ht] at HO ⊢
  clear ht hF hg hr
  go_enter Tryz.func55, Tryz.ntmps55
  go_wp2_with fail
  go_region_with (first | (go_at_call 107; (with_reducible refine (HF.out _).mono ?_); rintro e w1 ⟨rfl, hb1⟩) | (go_at_call 89; (with_reducible refine (HO.out _ HG.out).mono ?_); rintro e w2 ⟨rfl, hb2⟩))
  all_goals go_wp2
  all_goals go_ret
  all_goals exact ⟨rfl, yAz (yAz (below_drewN (Below.refl _ w) 1) hb1) hb2⟩

theorem ask_number_no (v : Value) (ao : Option Addr) (m ca : Nat) (ok : Bool) (w : World) (hm : ((m : Int) == 2) = false) : Calls Tryz.prog 55 #[v, strV [110, 117, 109, 98, 101, 114], .slice ao m ca, .bool ok] w (GivesS w sayNo) := by
  unfold sayNo
  go_enter Tryz.func55, Tryz.ntmps55
  go_wp2
  go_ret
  exact ⟨rfl, Below.refl _ _⟩

theorem ask_all_yes (v : Value) (b off ca : Nat) (x : Int) (ok : Bool) (w : World) (hc : w.cell? ⟨b, off, none⟩ = some (.int .i64 x)) (wx : (Lit.int .i64 x).wf = true) : Calls Tryz.prog 55 #[v, strV [97, 108, 108], .slice (some ⟨b, off, none⟩) 1 ca, .bool ok] w (GivesS w (oneL (numAll x).1 (numAll x).2)) := by
  obtain ⟨r, k, hr⟩ : ∃ r k, (r, k) = numAll x := ⟨_, _, rfl⟩
  have hF := fun w0 : World => sNumberAll_v x w0 wx
  have hg := bd_all x
  rw [← hr] at hF hg ⊢
  have HF := Lib.hid hF
  have HG := Lib.hid hg
  have HO := Lib.hid (fun w1 (h : Num r) => l9One_v r k w1 h)
  obtain ⟨t, ht⟩ : ∃ t, t = oneL r k := ⟨_, rfl⟩
  rw [← ht] at HO ⊢
  clear ht hF hg hr
  go_enter Tryz.func55, Tryz.ntmps55
  go_wp2_with (first | (go_at_call 108; (with_reducible refine (HF.out _).mono ?_); rintro e w1 ⟨rfl, hb1⟩) | (go_at_call 89; (with_reducible refine (HO.out _ HG.out).mono ?_); rintro e w2 ⟨rfl, hb2⟩))
  go_ret
  exact ⟨rfl, yAz hb1 hb2⟩

theorem ask_all_no (v : Value) (ao : Option Addr) (m ca : Nat) (ok : Bool) (w : World) (hm : ((m : Int) == 1) = false) : Calls Tryz.prog 55 #[v, strV [97, 108, 108], .slice ao m ca, .bool ok] w (GivesS w sayNo) := by
  unfold sayNo
  go_enter Tryz.func55, Tryz.ntmps55
  go_wp2
  go_ret
  exact ⟨rfl, Below.refl _ _⟩

theorem ask_plain_yes (v : Value) (b off ca : Nat) (x : Int) (ok : Bool) (w : World) (hc : w.cell? ⟨b, off, none⟩ = some (.int .i64 x)) (wx : (Lit.int .i64 x).wf = true) : Calls Tryz.prog 55 #[v, strV [112, 108, 97, 105, 110], .slice (some ⟨b, off, none⟩) 1 ca, .bool ok] w (GivesS w (oneL (arcPlain x).1 (arcPlain x).2)) := by
  obtain ⟨r, k, hr⟩ : ∃ r k, (r, k) = arcPlain x := ⟨_, _, rfl⟩
  have hF := fun w0 : World => sArcPlain_v x w0 wx
  have hg := bd_plain x
  rw [← hr] at hF hg ⊢
  have HF := Lib.hid hF
  have HG := Lib.hid hg
  have HO := Lib.hid (fun w1 (h : Num r) => l9One_v r k w1 h)
  obtain ⟨t, ht⟩ : ∃ t, t = oneL r k := ⟨_, rfl⟩
  rw [← ht] at HO ⊢
  clear ht hF hg hr
  go_enter Tryz.func55, Tryz.ntmps55
  go_wp2_with (first | (go_at_call 109; (with_reducible refine (HF.out _).mono ?_); rintro e w1 ⟨rfl, hb1⟩) | (go_at_call 89; (with_reducible refine (HO.out _ HG.out).mono ?_); rintro e w2 ⟨rfl, hb2⟩))
  go_ret
  exact ⟨rfl, yAz hb1 hb2⟩

theorem ask_plain_no (v : Value) (ao : Option Addr) (m ca : Nat) (ok : Bool) (w : World) (hm : ((m : Int) == 1) = false) : Calls Tryz.prog 55 #[v, strV [112, 108, 97, 105, 110], .slice ao m ca, .bool ok] w (GivesS w sayNo) := by
  unfold sayNo
  go_enter Tryz.func55, Tryz.ntmps55
  go_wp2
  go_ret
  exact ⟨rfl, Below.refl _ _⟩

theorem ask_none (v u : Value) (ns : List Int) (ok : Bool) (l : List UInt8) (w : World) (hu : RdV w u ns) (h0 : (l == [102, 105, 110, 101, 114]) = false) (h1 : (l == [115, 105, 103, 110]) = false) (h2 : (l == [105, 110, 110, 101, 114]) = false) (h3 : (l == [113, 117, 97, 114, 114, 101, 108]) = false) (h4 : (l == [112, 97, 116, 104]) = false) (h5 : (l == [109, 111, 118, 101, 115]) = false) (h6 : (l == [110, 117, 109, 98, 101, 114]) = false) (h7 : (l == [97, 108, 108]) = false) (h8 : (l == [112, 108, 97, 105, 110]) = false) : Calls Tryz.prog 55 #[v, strV l, u, .bool ok] w (GivesS w sayWhat) := by
  unfold sayWhat
  obtain ⟨ao, ca, rfl, _, _, _⟩ := hu
  go_enter Tryz.func55, Tryz.ntmps55
  go_wp2
  go_ret
  exact ⟨rfl, Below.refl _ _⟩

theorem l9Ask_v (v u : Value) (a ns : List Int) (ok : Bool) (l : List UInt8) (w : World) (hv : RdV w v a) (hu : RdV w u ns) (hw : ∀ x ∈ ns, 0 ≤ x ∧ x ≤ 999) : Calls Tryz.prog 55 #[v, strV l, u, .bool ok] w (GivesS w (askL a l ns ok)) := by
  unfold askL
  by_cases h0 : l = w_finer
  · rw [if_pos h0, h0]
    cases ok
    · exact ask_finer_no v u a ns w hu
    · exact ask_finer v u a ns w hv hu
  rw [if_neg h0]
  by_cases h1 : l = w_sign
  · rw [if_pos h1, h1]
    exact ask_sign v u a ns ok w hv hu
  rw [if_neg h1]
  by_cases h2 : l = w_inner
  · rw [if_pos h2, h2]
    exact ask_inner v u a ns ok w hv hu
  rw [if_neg h2]
  by_cases h3 : l = w_quarrel
  · rw [if_pos h3, h3]
    exact ask_quarrel v u a ns ok w hv hu
  rw [if_neg h3]
  by_cases h4 : l = w_path
  · rw [if_pos h4, h4]
    exact ask_path v u a ns ok w hv hu
  rw [if_neg h4]
  by_cases h5 : l = w_moves
  · rw [if_pos h5, h5]
    exact ask_moves v u a ns ok w hv hu
  rw [if_neg h5]
  by_cases h6 : l = w_number
  · rw [if_pos h6, h6]
    obtain ⟨ao, ca, rfl, hx, _, _⟩ := hu
    by_cases hn : ns.length = 2
    · rw [if_pos hn, hn]
      obtain ⟨b, off, rfl, hc, hd⟩ := rd_two hx hn
      exact ask_number_yes v b off ca _ _ ok w hc hd (wf_999 hw 0 (by omega)) (wf_999 hw 1 (by omega))
    · rw [if_neg hn]
      exact ask_number_no v ao _ ca ok w (by simp; omega)
  rw [if_neg h6]
  by_cases h7 : l = w_all
  · rw [if_pos h7, h7]
    obtain ⟨ao, ca, rfl, hx, _, _⟩ := hu
    by_cases hn : ns.length = 1
    · rw [if_pos hn, hn]
      obtain ⟨b, off, rfl, hc⟩ := rd_one hx hn
      exact ask_all_yes v b off ca _ ok w hc (wf_999 hw 0 (by omega))
    · rw [if_neg hn]
      exact ask_all_no v ao _ ca ok w (by simp; omega)
  rw [if_neg h7]
  by_cases h8 : l = w_plain
  · rw [if_pos h8, h8]
    obtain ⟨ao, ca, rfl, hx, _, _⟩ := hu
    by_cases hn : ns.length = 1
    · rw [if_pos hn, hn]
      obtain ⟨b, off, rfl, hc⟩ := rd_one hx hn
      exact ask_plain_yes v b off ca _ ok w hc (wf_999 hw 0 (by omega))
    · rw [if_neg hn]
      exact ask_plain_no v ao _ ca ok w (by simp; omega)
  rw [if_neg h8]
  exact ask_none v u ns ok l w hu (beq_eq_false_iff_ne.2 h0) (beq_eq_false_iff_ne.2 h1) (beq_eq_false_iff_ne.2 h2) (beq_eq_false_iff_ne.2 h3) (beq_eq_false_iff_ne.2 h4) (beq_eq_false_iff_ne.2 h5) (beq_eq_false_iff_ne.2 h6) (beq_eq_false_iff_ne.2 h7) (beq_eq_false_iff_ne.2 h8)
end

section
open Go.RowKit

def seg (l : List UInt8) (f i : Nat) : List UInt8 := (l.take i).drop f
theorem seg_self (l : List UInt8) (i : Nat) : seg l i i = [] := by unfold seg; rw [List.drop_eq_nil_iff, List.length_take]; omega
theorem seg_len (l : List UInt8) {f i : Nat} (hi : i ≤ l.length) : (seg l f i).length = i - f := by unfold seg; rw [List.length_drop, List.length_take]; omega
theorem seg_next (l : List UInt8) {f i : Nat} (hf : f ≤ i) (hi : i < l.length) : seg l f (i + 1) = seg l f i ++ [l[i]] := by
  unfold seg
  rw [List.take_succ_eq_append_getElem hi, List.drop_append_of_le_length (by rw [List.length_take]; omega)]
theorem drop_here (l : List UInt8) {i : Nat} (hi : i < l.length) : l.drop i = l[i] :: l.drop (i + 1) := List.drop_eq_getElem_cons hi
theorem nums_char (os : List Int) (l : List UInt8) {f i : Nat} (hf : f ≤ i) (hi : i < l.length) (hc : l[i] ≠ 32) : numsGo os (seg l f i) (l.drop i) = numsGo os (seg l f (i + 1)) (l.drop (i + 1)) := by
  rw [drop_here l hi, seg_next l hf hi]
  show (if l[i] = 32 then _ else _) = _
  rw [if_neg hc]
theorem nums_space (os : List Int) (l : List UInt8) {f i : Nat} (hi : i < l.length) (hc : l[i] = 32) : numsGo os (seg l f i) (l.drop i) = if okNum (seg l f i) then numsGo (os ++ [valFrom 0 (seg l f i)]) [] (l.drop (i + 1)) else ([], false) := by
  rw [drop_here l hi]
  show (if l[i] = 32 then _ else _) = _
  rw [if_pos hc]
theorem nums_end (os : List Int) (l : List UInt8) (f : Nat) : numsGo os (seg l f l.length) (l.drop l.length) = if okNum (seg l f l.length) then (os ++ [valFrom 0 (seg l f l.length)], true) else ([], false) := by
  rw [List.drop_length]
  rfl
theorem valFrom_snoc (v : Int) (l : List UInt8) (c : UInt8) : valFrom v (l ++ [c]) = 10 * valFrom v l + ((c.toNat : Int) - 48) := by rw [valFrom_append]; rfl
theorem dig_iff (c : UInt8) : isDig c = true ↔ 48 ≤ c.toNat ∧ c.toNat ≤ 57 := by unfold isDig; simp
theorem valFrom_bd : ∀ (l : List UInt8), l.all isDig = true → 0 ≤ valFrom 0 l ∧ valFrom 0 l < 10 ^ l.length := by
  refine snoc_ind (fun _ => by simp [valFrom]) fun l c ih h => ?_
  rw [List.all_append, Bool.and_eq_true] at h
  have h1 := ih h.1
  have h2 := (dig_iff c).1 (by simpa using h.2)
  rw [valFrom_snoc, List.length_append, List.length_singleton, Int.pow_succ]
  omega

theorem seg_mem (l : List UInt8) {j p k : Nat} (h1 : j ≤ p) (h2 : p < k) (hp : p < l.length) : l[p] ∈ seg l j k := by
  refine List.mem_of_getElem? (i := p - j) ?_
  unfold seg
  rw [List.getElem?_drop, List.getElem?_take, if_pos (by omega), show j + (p - j) = p by omega, List.getElem?_eq_getElem hp]
theorem val_99 {l : List UInt8} (h : l.all isDig = true) (hl : l.length ≤ 2) : 0 ≤ valFrom 0 l ∧ valFrom 0 l ≤ 99 := by
  have h1 := valFrom_bd l h
  have h2 : (10 : Int) ^ l.length ≤ 10 ^ 2 := by
    have : l.length = 0 ∨ l.length = 1 ∨ l.length = 2 := by omega
    rcases this with e | e | e <;> rw [e] <;> decide
  omega
theorem val_999 {l : List UInt8} (h : okNum l = true) : 0 ≤ valFrom 0 l ∧ valFrom 0 l ≤ 999 := by
  unfold okNum at h
  rw [Bool.and_eq_true, decide_eq_true_eq] at h
  have h1 := valFrom_bd l h.2
  have h2 : (10 : Int) ^ l.length ≤ 10 ^ 3 := by
    have : l.length = 1 ∨ l.length = 2 ∨ l.length = 3 := by omega
    rcases this with e | e | e <;> rw [e] <;> decide
  omega

set_option maxHeartbeats 4000000 in
theorem l9Numbers_v (l : List UInt8) (w : World) (hl : l.length ≤ 1000) :
    Calls Tryz.prog 52 #[strV l] w fun e w' => ∃ v, e = .returned (.tuple #[v, .bool (numsL l).2]) ∧ Own w' w.heap.size v (numsL l).1 ∧ Below w.heap.size w w' := by
  obtain ⟨n, hn⟩ : ∃ n, n = l.length := ⟨_, rfl⟩
  have HN := Lib.hid hn
  rw [← hn] at hl
  have hsz : (⟨l.toArray⟩ : ByteArray).size = n := by rw [hn]; rfl
  clear hn
  go_enter Tryz.func52, Tryz.ntmps52
  go_wp2
  go_loopw [4, 5, 6] (fun u f i wr => ∃ (k j : Nat) (os : List Int), i = .int .i64 k ∧ f = .int .i64 j ∧ Own wr w.heap.size u os ∧ Below w.heap.size w wr ∧ os.length ≤ k ∧ k ≤ n + 1 ∧
    ((k ≤ n ∧ j ≤ k ∧ numsL l = numsGo os (seg l j k) (l.drop k)) ∨ (k = n + 1 ∧ numsL l = (os, true)))) (fun _ _ i _ => n + 1 - (intOf i).toNat)
  case atStart => exact ⟨0, 0, [], rfl, rfl, yPz w _ (Nat.le_refl _), (Below.refl _ w).alloc (Nat.le_refl _) _, Nat.zero_le _, by omega, .inl ⟨Nat.zero_le _, Nat.le_refl _, rfl⟩⟩
  case round =>
    obtain ⟨k, j, os, rfl, rfl, hown, hbel, hos, hk1, hrel⟩ := hrel
    have HO := Lib.hid hown
    rcases hrel with ⟨hk, hj, hnm⟩ | ⟨rfl, hnm⟩
    · have HNM := Lib.hid hnm
      clear hnm hown
      obtain ⟨o, ho⟩ : ∃ o, o = okNum (seg l j k) := ⟨_, rfl⟩
      by_cases hA : ∃ h : k < l.length, l[k] ≠ 32
      · obtain ⟨hkl, hne⟩ := hA
        have HNX : Hid (numsL l = numsGo os (seg l j (k + 1)) (l.drop (k + 1))) := Lib.hid (by rw [HNM.out]; exact nums_char os l hj hkl hne)
        have hlt : k < n := by have := HN.out; omega
        obtain ⟨c, hc⟩ : ∃ c, (⟨l.toArray⟩ : ByteArray)[k]'(by rw [hsz]; exact hlt) = c := ⟨_, rfl⟩
        have hce : l[k] = c := by rw [← hc]; rfl
        rw [hce] at hne
        have ht : ((c.toNat : Int) != 32) = true := by
          have : c.toNat ≠ 32 := fun e => hne (UInt8.toNat_inj.1 e)
          simp; omega
        clear hce hne hkl ho
        go_wp2
        refine ⟨⟨k + 1, j, os, rfl, rfl, HO.out, hbel, by omega, by omega, .inl ⟨by omega, by omega, HNX.out⟩⟩, by simp [intOf]; omega⟩
      · have HNEXT : Hid (o = true → (k + 1 ≤ n ∧ numsL l = numsGo (os ++ [valFrom 0 (seg l j k)]) (seg l (k + 1) (k + 1)) (l.drop (k + 1))) ∨ (k = n ∧ numsL l = (os ++ [valFrom 0 (seg l j k)], true))) := Lib.hid (by
          intro h
          rw [ho] at h
          have hnl := HN.out
          by_cases hkl : k < l.length
          · have hc : l[k] = 32 := Classical.byContradiction fun h => hA ⟨hkl, h⟩
            refine .inl ⟨by omega, ?_⟩
            rw [HNM.out, nums_space os l hkl hc, if_pos h, seg_self]
          · have e : k = l.length := by omega
            refine .inr ⟨by omega, ?_⟩
            rw [HNM.out, e, nums_end os l, ← e, if_pos h])
        have HFAIL : Hid (o = false → numsL l = ([], false)) := Lib.hid (by
          intro h
          rw [ho] at h
          by_cases hkl : k < l.length
          · have hc : l[k] = 32 := Classical.byContradiction fun h => hA ⟨hkl, h⟩
            rw [HNM.out, nums_space os l hkl hc, if_neg (by simp [h])]
          · have e : k = l.length := by have := HN.out; omega
            rw [HNM.out, e, nums_end os l, ← e, if_neg (by simp [h])])
        have HOK := Lib.hid ho
        have HA : Hid (∀ h : k < l.length, l[k] = 32) := Lib.hid fun hkl => Classical.byContradiction fun h => hA ⟨hkl, h⟩
        clear hA ho
        by_cases hlt : k < n
        all_goals try (
          obtain ⟨c, hc⟩ : ∃ c, (⟨l.toArray⟩ : ByteArray)[k]'(by rw [hsz]; exact hlt) = c := ⟨_, rfl⟩
          have hce : c = 32 := by rw [← hc]; exact HA.out (by have := HN.out; omega)
          have ht : ((c.toNat : Int) != 32) = false := by rw [hce]; rfl
          clear hce)
        all_goals
          go_wp2_with fail
          cases hb : decide ((1 : Int) ≤ (k : Int) - j ∧ (k : Int) - j ≤ 3)
          · have HI := Lib.hid (fun w1 => l6In_is false ((k : Int) - j) 1 3 w1 hb)
            have HF : Hid (numsL l = ([], false)) := Lib.hid (HFAIL.out (by
              rw [HOK.out]
              unfold okNum
              rw [seg_len l (by have := HN.out; omega)]
              have : decide (1 ≤ k - j ∧ k - j ≤ 3) = false := by
                simp only [decide_eq_false_iff_not] at hb ⊢
                omega
              rw [this]
              rfl))
            clear hb
            go_wp2_with (go_at_call 61; (with_reducible refine (HI.out _).mono ?_); rintro e w' ⟨rfl, rfl⟩)
            go_ret2
            rw [HF.out]
            exact ⟨_, rfl, yPz _ _ hbel.size, hbel.alloc hbel.size _⟩
          · have HI := Lib.hid (fun w1 => l6In_is true ((k : Int) - j) 1 3 w1 hb)
            have hb2 : j + 1 ≤ k ∧ k ≤ j + 3 := by simp at hb; omega
            clear hb
            go_wp2_with (go_at_call 61; (with_reducible refine (HI.out _).mono ?_); rintro e w' ⟨rfl, rfl⟩)
            go_loop [7, 8] (fun v q => ∃ p : Nat, j ≤ p ∧ p ≤ k ∧ q = .int .i64 p ∧ v = .int .i64 (valFrom 0 (seg l j p)) ∧ (seg l j p).all isDig = true) (fun _ q => k - (intOf q).toNat)
            case atStart => exact ⟨j, Nat.le_refl _, by omega, rfl, by rw [seg_self]; rfl, by rw [seg_self]; rfl⟩
            case round =>
              obtain ⟨p, hp1, hp2, rfl, rfl, hall⟩ := hrel
              by_cases hpk : p < k
              · have hpn : p < n := by omega
                have hpl : p < l.length := by have := HN.out; omega
                have hkl : k ≤ l.length := by have := HN.out; omega
                obtain ⟨d, hd⟩ : ∃ d, (⟨l.toArray⟩ : ByteArray)[p]'(by rw [hsz]; exact hpn) = d := ⟨_, rfl⟩
                have hde : l[p] = d := by rw [← hd]; rfl
                have hsn := seg_next l (f := j) (i := p) hp1 hpl
                have hmem := seg_mem l hp1 hpk hpl
                rw [hde] at hsn hmem
                clear hde
                by_cases hdig : 48 ≤ d.toNat ∧ d.toNat ≤ 57
                · obtain ⟨hd1, hd2⟩ := hdig
                  have t1 : decide ((d.toNat : Int) < 48) = false := by simp; omega
                  have t2 : decide ((57 : Int) < (d.toNat : Int)) = false := by simp; omega
                  have hv := val_99 hall (by rw [seg_len l (by omega)]; omega)
                  have HVN : Hid (valFrom 0 (seg l j (p + 1)) = 10 * valFrom 0 (seg l j p) + ((d.toNat : Int) - 48)) := Lib.hid (by rw [hsn, valFrom_snoc])
                  have HALL : Hid ((seg l j (p + 1)).all isDig = true) := Lib.hid (by rw [hsn, List.all_append, hall]; simp [(dig_iff d).2 ⟨hd1, hd2⟩])
                  have hw8 : IntKind.u8.wrap ((d.toNat : Int) - 48) = (d.toNat : Int) - 48 := by
                    simp [IntKind.wrap, IntKind.bits, IntKind.signed]
                    omega
                  obtain ⟨V, hV⟩ : ∃ V, V = valFrom 0 (seg l j p) := ⟨_, rfl⟩
                  rw [← hV] at hv HVN ⊢
                  clear hV hsn hmem hall hkl hpl
                  go_wp2
                  all_goals
                    go_round
                    case rel => exact ⟨p + 1, by omega, by omega, by go_num, by rw [HVN.out], HALL.out⟩
                    case measure => simp [intOf]; omega
                · have HF : Hid (numsL l = ([], false)) := Lib.hid (HFAIL.out (by
                    rw [HOK.out]
                    unfold okNum
                    have : (seg l j k).all isDig = false := by
                      rw [Bool.eq_false_iff]
                      intro h
                      exact hdig ((dig_iff d).1 (List.all_eq_true.1 h d hmem))
                    rw [this, Bool.and_false]))
                  clear hsn hmem hall hkl hpl
                  by_cases hd1 : d.toNat < 48
                  · have t1 : decide ((d.toNat : Int) < 48) = true := by simp; omega
                    clear hdig
                    go_wp2
                    go_ret2
                    rw [HF.out]
                    exact ⟨_, rfl, yPz _ _ hbel.size, hbel.alloc hbel.size _⟩
                  · have t1 : decide ((d.toNat : Int) < 48) = false := by simp; omega
                    have t2 : decide ((57 : Int) < (d.toNat : Int)) = true := by simp; omega
                    clear hdig
                    go_wp2
                    go_ret2
                    rw [HF.out]
                    exact ⟨_, rfl, yPz _ _ hbel.size, hbel.alloc hbel.size _⟩
              · obtain rfl : p = k := by omega
                have hoT : o = true := by
                  rw [HOK.out]
                  unfold okNum
                  rw [hall, seg_len l (by have := HN.out; omega)]
                  simp; omega
                have HNX := Lib.hid (HNEXT.out hoT)
                obtain ⟨V, hV⟩ : ∃ V, V = valFrom 0 (seg l j p) := ⟨_, rfl⟩
                rw [← hV] at HNX ⊢
                clear hV hall hoT
                have hlv := yZz HO.out
                go_wp2_with (at_builtin; refine wpList_pushI rfl _ _ rfl w.heap.size _ _ rfl (yQz HO.out _) _ rfl V (by simp) (by omega) (by have := hbel.size; simp; omega) ?_; intro v' w9 ho9 hg9 hb9)
                have hbn := (hbel.alloc hbel.size _).grown hg9 (by have := hbel.size; simp; omega) (fun q hq => (hlv q hq).1)
                rcases HNX.out with ⟨hk9, hn9⟩ | ⟨hk9, hn9⟩
                · exact ⟨⟨p + 1, p + 1, os ++ [V], rfl, rfl, ho9, hbn, by simp; omega, by omega, .inl ⟨hk9, Nat.le_refl _, hn9⟩⟩, by simp [intOf]; omega⟩
                · exact ⟨⟨p + 1, p + 1, os ++ [V], rfl, rfl, ho9, hbn, by simp; omega, by omega, .inr ⟨by omega, hn9⟩⟩, by simp [intOf]; omega⟩
    · go_wp2
      go_ret2
      rw [hnm]
      exact ⟨_, rfl, HO.out, hbel⟩
end

section
open Go.RowKit

theorem nums_999 : ∀ (r cur : List UInt8) (out : List Int), (∀ x ∈ out, 0 ≤ x ∧ x ≤ 999) → ∀ x ∈ (numsGo out cur r).1, 0 ≤ x ∧ x ≤ 999 := by
  have step : ∀ (out : List Int) (cur : List UInt8), (∀ x ∈ out, 0 ≤ x ∧ x ≤ 999) → okNum cur = true → ∀ x ∈ out ++ [valFrom 0 cur], 0 ≤ x ∧ x ≤ 999 := by
    intro out cur h hk x hx
    rcases List.mem_append.1 hx with h1 | h1
    · exact h x h1
    · rw [List.mem_singleton.1 h1]
      exact val_999 hk
  intro r
  induction r with
  | nil =>
    intro cur out h x hx
    have hx' : x ∈ (if okNum cur then (out ++ [valFrom 0 cur], true) else ([], false) : List Int × Bool).1 := hx
    split at hx'
    · exact step out cur h ‹_› x hx'
    · cases hx'
  | cons c r ih =>
    intro cur out h x hx
    have hx' : x ∈ (if c = 32 then (if okNum cur then numsGo (out ++ [valFrom 0 cur]) [] r else ([], false)) else numsGo out (cur ++ [c]) r : List Int × Bool).1 := hx
    split at hx'
    · split at hx'
      · exact ih _ _ (step out cur h ‹_›) x hx'
      · cases hx'
    · exact ih _ _ h x hx'

theorem word_at {l : List UInt8} {k : Nat} (hk : k ≤ l.length) (h : ∀ c ∈ l.take k, c ≠ 32) (hs : ∀ h : k < l.length, l[k] = 32) : l.takeWhile (fun c => c != 32) = l.take k := by
  have hall : ∀ u : List UInt8, (∀ c ∈ u, c ≠ 32) → u.takeWhile (fun c => c != 32) = u := by
    intro u hu
    induction u with
    | nil => rfl
    | cons b u ih =>
      have := hu b (by simp)
      simp [this, ih (fun d hd => hu d (by simp [hd]))]
  have happ : ∀ u r : List UInt8, (∀ c ∈ u, c ≠ 32) → (u ++ 32 :: r).takeWhile (fun c => c != 32) = u := by
    intro u r hu
    induction u with
    | nil => simp
    | cons b u ih =>
      have := hu b (by simp)
      simp [this, ih (fun d hd => hu d (by simp [hd]))]
  by_cases hl : k < l.length
  · conv => lhs; rw [← List.take_append_drop k l, drop_here l hl, hs hl]
    exact happ _ _ h
  · have : l.take k = l := List.take_of_length_le (by omega)
    rw [this] at h ⊢
    exact hall _ h
theorem lineL_bare {a : List Int} {l : List UInt8} (h : l.takeWhile (fun c => c != 32) = l) : lineL a l = match aloneL a l with
    | some (b, true) => (b, sayOk)
    | some (_, false) => (a, sayNo)
    | none => (a, bareL a l) := by
  unfold lineL
  rw [h]
  exact if_pos rfl
theorem lineL_rest {a : List Int} {l : List UInt8} {k : Nat} (hk : k < l.length) (h : l.takeWhile (fun c => c != 32) = l.take k) : lineL a l = match changeL a (l.take k) (numsL (l.drop (k + 1))).1 with
    | some (b, ok) => if ok && (numsL (l.drop (k + 1))).2 then (b, sayOk) else (a, sayNo)
    | none => (a, askL a (l.take k) (numsL (l.drop (k + 1))).1 (numsL (l.drop (k + 1))).2) := by
  unfold lineL
  rw [h]
  have hl : (l.take k).length = k := by rw [List.length_take]; omega
  dsimp only
  rw [hl]
  exact if_neg (by omega)

def LeftS (w : World) (r : List Int × List UInt8) (e : Ending) (w' : World) : Prop := ∃ v', e = .returned (.tuple #[v', strV r.2]) ∧ RdV w' v' r.1 ∧ Below w.heap.size w w'

set_option maxHeartbeats 4000000 in
theorem l9Line_v (v : Value) (a : List Int) (l : List UInt8) (w : World) (hv : RdV w v a) (hp : partIn a = true) (hl : l.length ≤ 900) :
    Calls Tryz.prog 31 #[v, strV l] w (LeftS w (lineL a l)) := by
  obtain ⟨n, hn⟩ : ∃ n, n = l.length := ⟨_, rfl⟩
  have HN := Lib.hid hn
  have HV := Lib.hid hv
  have HP := Lib.hid hp
  rw [← hn] at hl
  have hsz : (⟨l.toArray⟩ : ByteArray).size = n := by rw [hn]; rfl
  clear hn hv hp
  go_enter Tryz.func31, Tryz.ntmps31
  go_wp2
  go_loop [6] (fun u => ∃ k : Nat, k ≤ n ∧ u = .int .i64 k ∧ ∀ c ∈ l.take k, c ≠ 32) (fun u => n - (intOf u).toNat)
  case atStart => exact ⟨0, Nat.zero_le _, rfl, fun c hc => by simp at hc⟩
  case round =>
    obtain ⟨k, hk, rfl, hno⟩ := hrel
    have HNO := Lib.hid hno
    clear hno
    by_cases hA : ∃ h : k < l.length, l[k] ≠ 32
    · obtain ⟨hkl, hne⟩ := hA
      have hlt : k < n := by have := HN.out; omega
      obtain ⟨c, hc⟩ : ∃ c, (⟨l.toArray⟩ : ByteArray)[k]'(by rw [hsz]; exact hlt) = c := ⟨_, rfl⟩
      have hce : l[k] = c := by rw [← hc]; rfl
      rw [hce] at hne
      have HNN : Hid (∀ d ∈ l.take (k + 1), d ≠ 32) := Lib.hid (by
        intro d hd
        rw [List.take_succ_eq_append_getElem hkl, hce] at hd
        rcases List.mem_append.1 hd with h | h
        · exact HNO.out d h
        · rw [List.mem_singleton.1 h]; exact hne)
      have ht : ((c.toNat : Int) != 32) = true := by
        have : c.toNat ≠ 32 := fun e => hne (UInt8.toNat_inj.1 e)
        simp; omega
      clear hce hne hkl
      go_wp2
      all_goals
        go_round
        case rel => exact ⟨k + 1, by omega, by go_num, HNN.out⟩
        case measure => simp [intOf]; omega
    · have HA : Hid (∀ h : k < l.length, l[k] = 32) := Lib.hid fun hkl => Classical.byContradiction fun h => hA ⟨hkl, h⟩
      have HW := Lib.hid (word_at (by have := HN.out; omega) HNO.out HA.out)
      clear hA
      by_cases hkn : k < n
      · obtain ⟨c, hc⟩ : ∃ c, (⟨l.toArray⟩ : ByteArray)[k]'(by rw [hsz]; exact hkn) = c := ⟨_, rfl⟩
        have hce : c = 32 := by rw [← hc]; exact HA.out (by have := HN.out; omega)
        have ht : ((c.toNat : Int) != 32) = false := by rw [hce]; rfl
        clear hce
        have hkl : k < l.length := by have := HN.out; omega
        have e1 : (⟨l.toArray⟩ : ByteArray).extract (k + 1) n = ⟨(l.drop (k + 1)).toArray⟩ := by rw [str_extract, HN.out, List.take_length]
        have e2 : (⟨l.toArray⟩ : ByteArray).extract 0 k = ⟨(l.take k).toArray⟩ := by rw [str_extract]; rfl
        have HR := Lib.hid (lineL_rest (a := a) hkl HW.out)
        have hTl : (l.drop (k + 1)).length ≤ 1000 := by rw [List.length_drop]; have := HN.out; omega
        obtain ⟨T, hT⟩ : ∃ T, T = l.drop (k + 1) := ⟨_, rfl⟩
        obtain ⟨W, hW⟩ : ∃ W, W = l.take k := ⟨_, rfl⟩
        rw [← hT] at e1 HR hTl
        rw [← hW] at e2 HR
        have hnum := fun w1 => l9Numbers_v T w1 hTl
        have h9 := nums_999 T [] [] (fun x hx => by cases hx)
        obtain ⟨ns, p, hns⟩ : ∃ ns p, (ns, p) = numsL T := ⟨_, _, rfl⟩
        have hns2 : numsGo [] [] T = numsL T := rfl
        rw [hns2, ← hns] at h9
        rw [← hns] at hnum HR
        have HNUM := Lib.hid hnum
        have hC := fun w1 v2 (h : RdV w1 v a) (h2 : RdV w1 v2 ns) => l9Change_v v v2 a ns W w1 h h2 h9
        have hK := fun w1 v2 (h : RdV w1 v a) (h2 : RdV w1 v2 ns) => l9Ask_v v v2 a ns p W w1 h h2 h9
        have hv1 := yDz HV.out ((Below.refl _ w).alloc (Nat.le_refl _) (.cells #[] 3))
        have HV1 := Lib.hid hv1
        clear hv1 hT hW hTl hns hns2 hnum h9 hkl
        rcases hch : changeL a W ns with _ | ⟨b, ok⟩
        · rw [hch] at hC
          have HC := Lib.hid hC
          obtain ⟨t, ht⟩ : ∃ t, t = askL a W ns p := ⟨_, rfl⟩
          rw [← ht] at hK
          have HK := Lib.hid hK
          have HX : Hid (lineL a l = (a, t)) := Lib.hid (by rw [HR.out, hch, ht])
          clear hch hC hK ht
          go_wp2_with (first | (go_at_call 52; (with_reducible refine (HNUM.out _).mono ?_); rintro e w1 ⟨v1, rfl, ho1, hb1⟩; have HU1 := Lib.hid (yJz ho1); have HVB := Lib.hid (yDz HV1.out hb1); clear ho1) | (go_at_call 53; (with_reducible refine (HC.out _ _ HVB.out HU1.out).mono ?_); rintro e w2 ⟨v2, rfl, hr2, hb2⟩; have HR2 := Lib.hid hr2; have HVC := Lib.hid (yDz HVB.out hb2); have HUC := Lib.hid (yDz HU1.out hb2); clear hr2) | (go_at_call 55; (with_reducible refine (HK.out _ _ HVC.out HUC.out).mono ?_); rintro e w3 ⟨rfl, hb3⟩))
          go_ret2
          rw [HX.out]
          exact ⟨_, rfl, yDz HVC.out hb3, yAz (yAz (yAz ((Below.refl _ w).alloc (Nat.le_refl _) _) hb1) hb2) hb3⟩
        · rw [hch] at hC
          have HC := Lib.hid hC
          have HX : Hid (lineL a l = if ok && p then (b, sayOk) else (a, sayNo)) := Lib.hid (by rw [HR.out, hch])
          clear hch hC hK
          cases ok <;> cases p
          all_goals
            go_wp2_with (first | (go_at_call 52; (with_reducible refine (HNUM.out _).mono ?_); rintro e w1 ⟨v1, rfl, ho1, hb1⟩; have HU1 := Lib.hid (yJz ho1); have HVB := Lib.hid (yDz HV1.out hb1); clear ho1) | (go_at_call 53; (with_reducible refine (HC.out _ _ HVB.out HU1.out).mono ?_); rintro e w2 ⟨v2, rfl, hr2, hb2⟩; have HR2 := Lib.hid hr2; have HVC := Lib.hid (yDz HVB.out hb2); have HUC := Lib.hid (yDz HU1.out hb2); clear hr2))
            go_ret2
            rw [HX.out]
            first
              | exact ⟨_, rfl, HVC.out, yAz (yAz ((Below.refl _ w).alloc (Nat.le_refl _) _) hb1) hb2⟩
              | exact ⟨_, rfl, HR2.out, yAz (yAz ((Below.refl _ w).alloc (Nat.le_refl _) _) hb1) hb2⟩
      · obtain rfl : k = n := by omega
        have HWL : Hid (l.takeWhile (fun c => c != 32) = l) := Lib.hid (by rw [HW.out, HN.out, List.take_length])
        have HR := Lib.hid (lineL_bare (a := a) HWL.out)
        have HB := Lib.hid (fun w1 (h : RdV w1 v a) => l9Bare_v v a l w1 h HP.out)
        have hAL := fun w1 (h : RdV w1 v a) => l9Alone_v v a l w1 h
        have hv1 := yDz HV.out ((Below.refl _ w).alloc (Nat.le_refl _) (.cells #[] 3))
        have HV1 := Lib.hid hv1
        clear hv1
        rcases hal : aloneL a l with _ | ⟨b, ok⟩
        · rw [hal] at hAL
          have HAL := Lib.hid hAL
          have hal2 := hal
          clear hal hAL
          obtain ⟨t, ht⟩ : ∃ t, t = bareL a l := ⟨_, rfl⟩
          rw [← ht] at HB
          have HX : Hid (lineL a l = (a, t)) := Lib.hid (by rw [HR.out, hal2, ht])
          clear ht hal2
          go_wp2_with (first | (go_at_call 51; (with_reducible refine (HAL.out _ HV1.out).mono ?_); rintro e w1 ⟨v1, rfl, hr1, hb1⟩; have HR1 := Lib.hid hr1; have HVB := Lib.hid (yDz HV1.out hb1); clear hr1) | (go_at_call 54; (with_reducible refine (HB.out _ HVB.out).mono ?_); rintro e w2 ⟨rfl, hb2⟩))
          go_ret2
          rw [HX.out]
          exact ⟨_, rfl, yDz HVB.out hb2, yAz (yAz ((Below.refl _ w).alloc (Nat.le_refl _) _) hb1) hb2⟩
        · rw [hal] at hAL
          have HAL := Lib.hid hAL
          have HX : Hid (lineL a l = if ok then (b, sayOk) else (a, sayNo)) := Lib.hid (by rw [HR.out, hal]; cases ok <;> rfl)
          clear hal hAL
          cases ok
          · go_wp2_with (first | (go_at_call 51; (with_reducible refine (HAL.out _ HV1.out).mono ?_); rintro e w1 ⟨v1, rfl, hr1, hb1⟩; have HR1 := Lib.hid hr1; have HVB := Lib.hid (yDz HV1.out hb1); clear hr1))
            go_ret2
            rw [HX.out]
            exact ⟨_, rfl, HVB.out, yAz ((Below.refl _ w).alloc (Nat.le_refl _) _) hb1⟩
          · go_wp2_with (first | (go_at_call 51; (with_reducible refine (HAL.out _ HV1.out).mono ?_); rintro e w1 ⟨v1, rfl, hr1, hb1⟩; have HR1 := Lib.hid hr1; have HVB := Lib.hid (yDz HV1.out hb1); clear hr1))
            go_ret2
            rw [HX.out]
            exact ⟨_, rfl, HR1.out, yAz ((Below.refl _ w).alloc (Nat.le_refl _) _) hb1⟩
end

section
open Go.RowKit

theorem texts_short (ts : List (List UInt8)) (ok : Bool) (hn : ts.length ≤ 64) (hx : ∀ t ∈ ts, t.length ≤ 1100) : (textsL ts ok).length ≤ 100000 := by
  unfold textsL
  split
  · simp
  · split
    · simp
    · have := joinL_len ts 1100 hx
      have h2 := Nat.mul_le_mul_left (1100 + 1) hn
      rw [List.length_append, List.length_singleton]
      omega
theorem said_short {xs : List Int} (ok : Bool) (h : GoodL xs) : (saidL xs ok).length ≤ 100000 :=
  texts_short _ ok (by simpa using h.1) fun t ht => by
    obtain ⟨x, hx, rfl⟩ := List.mem_map.1 ht
    have := decZ_len15 (h.2 x hx)
    omega
theorem one_short {n : Int} (ok : Bool) (h : Num n) : (oneL n ok).length ≤ 100000 := said_short ok ⟨by simp, fun x hx => by rw [List.mem_singleton.1 hx]; exact h⟩
theorem lists_short {ls : List (List Int)} (ok : Bool) (h : GoodM ls) : (listsL ls ok).length ≤ 100000 :=
  texts_short _ ok (by simpa using h.1) fun t ht => by
    obtain ⟨x, hx, rfl⟩ := List.mem_map.1 ht
    have h5 := flat_len 0 x (h.2 x hx).2
    have h6 := (h.2 x hx).1
    omega
theorem yUz {c : Prop} [Decidable c] {x y : List UInt8} (hx : x.length ≤ 100000) (hy : y.length ≤ 100000) : (if c then x else y).length ≤ 100000 := by
  by_cases h : c
  · rw [if_pos h]; exact hx
  · rw [if_neg h]; exact hy
theorem bare_short {a : List Int} (h : partIn a = true) (w : List UInt8) : (bareL a w).length ≤ 100000 := by
  unfold bareL
  refine yUz (said_short _ (goodL_part h)) ?_
  refine yUz (lists_short _ (good_blocks a)) ?_
  refine yUz (said_short _ (good_type a)) ?_
  refine yUz (one_short _ (bd_size a)) ?_
  refine yUz (one_short _ (bd_rank a)) ?_
  refine yUz (lists_short _ (good_merges a)) ?_
  refine yUz (one_short _ (bd_splits a)) ?_
  refine yUz (one_short _ (bd_chains a)) ?_
  refine yUz (one_short _ (bd_place a)) ?_
  refine yUz (lists_short _ (good_arcs a)) ?_
  refine yUz (one_short _ (bd_cross a)) ?_
  refine yUz (one_short _ (bd_nest a)) ?_
  refine yUz (one_short _ (bd_far a)) ?_
  refine yUz (said_short _ (good_ring a)) ?_
  refine yUz (one_short _ (bd_count a)) ?_
  refine yUz (lists_short _ (good_pairs a)) ?_
  decide
theorem ask_short (a : List Int) (w : List UInt8) (l : List Int) (ok : Bool) : (askL a w l ok).length ≤ 100000 := by
  unfold askL
  refine yUz (yUz (by decide) (yUz (by decide) (by decide))) ?_
  refine yUz (one_short _ (bd_sign a l)) ?_
  refine yUz (one_short _ (bd_inner a l)) ?_
  refine yUz (one_short _ (bd_quarrel a l)) ?_
  refine yUz (one_short _ (bd_path a l)) ?_
  refine yUz (one_short _ (bd_moves a l)) ?_
  refine yUz (yUz (one_short _ (bd_number _ _)) (by decide)) ?_
  refine yUz (yUz (one_short _ (bd_all _)) (by decide)) ?_
  refine yUz (yUz (one_short _ (bd_plain _)) (by decide)) ?_
  decide
theorem line_short {a : List Int} (h : partIn a = true) (l : List UInt8) : (lineL a l).2.length ≤ 100000 := by
  unfold lineL
  dsimp only
  repeat' split
  all_goals first | exact bare_short h _ | exact ask_short _ _ _ _ | exact (by decide : sayOk.length ≤ 100000) | exact (by decide : sayNo.length ≤ 100000)

theorem lines_char (l : List UInt8) {f i : Nat} (hf : f ≤ i) (hi : i < l.length) (hc : l[i] ≠ 10) : linesGo (seg l f i) (l.drop i) = linesGo (seg l f (i + 1)) (l.drop (i + 1)) := by
  rw [drop_here l hi, seg_next l hf hi]
  show (if l[i] = 10 then _ else _) = _
  rw [if_neg hc]
theorem lines_nl (l : List UInt8) {f i : Nat} (hi : i < l.length) (hc : l[i] = 10) : linesGo (seg l f i) (l.drop i) = seg l f i :: linesGo (seg l (i + 1) (i + 1)) (l.drop (i + 1)) := by
  rw [drop_here l hi, seg_self]
  show (if l[i] = 10 then _ else _) = _
  rw [if_pos hc]
theorem lines_end (l cur : List UInt8) : linesGo cur (l.drop l.length) = [] := by
  rw [List.drop_length]; rfl

def runAt (l : List UInt8) (o : List UInt8) (bs : List Int) (f i : Nat) : List Int × List UInt8 := ((runL lineL bs (linesGo (seg l f i) (l.drop i))).1, o ++ (runL lineL bs (linesGo (seg l f i) (l.drop i))).2)

theorem str_cat4 (o t : List UInt8) : Value.string ((((⟨o.toArray⟩ : ByteArray) ++ ⟨#[116, 104, 105, 110, 103, 115, 32]⟩) ++ ⟨t.toArray⟩) ++ ⟨#[10]⟩) = strV (o ++ ([116, 104, 105, 110, 103, 115, 32] ++ t ++ [10])) := by
  have h : (⟨o.toArray⟩ : ByteArray) ++ ⟨#[116, 104, 105, 110, 103, 115, 32]⟩ = ⟨(o ++ [116, 104, 105, 110, 103, 115, 32]).toArray⟩ := ByteArray.mk_append_mk o _
  have h2 : (⟨((o ++ [116, 104, 105, 110, 103, 115, 32]) ++ t).toArray⟩ : ByteArray) ++ ⟨#[10]⟩ = ⟨(((o ++ [116, 104, 105, 110, 103, 115, 32]) ++ t) ++ [10]).toArray⟩ := ByteArray.mk_append_mk _ [10]
  rw [h, ByteArray.mk_append_mk (o ++ [116, 104, 105, 110, 103, 115, 32]) t, h2]
  simp

set_option maxHeartbeats 4000000 in
theorem sExecute_v (l : List UInt8) (w : World) (hlm : l.length ≤ 140737488355328) : Calls Tryz.prog 11 #[strV l] w (GivesS w (execL lineL l)) := by
  by_cases hbig : 600 < l.length
  · have hr : execL lineL l = [116, 111, 111, 32, 108, 111, 110, 103, 10] := by unfold execL; rw [if_pos hbig]
    rw [hr]
    have hg : decide ((600 : Int) < (l.length : Int)) = true := by simp; omega
    go_enter Tryz.func11, Tryz.ntmps11
    go_wp2
    go_ret
    exact ⟨rfl, Below.refl _ _⟩
  · obtain ⟨n, hn⟩ : ∃ n, n = l.length := ⟨_, rfl⟩
    have HN := Lib.hid hn
    rw [← hn] at hbig
    have hl : n ≤ 600 := by omega
    have hsz : (⟨l.toArray⟩ : ByteArray).size = n := by rw [hn]; rfl
    have HR : Hid (execL lineL l = (runL lineL [0] (linesL l)).2 ++ thingsL (runL lineL [0] (linesL l)).1.length) := Lib.hid (by unfold execL sayL; rw [if_neg (by omega)])
    rw [HR.out]
    clear hn hbig hlm
    go_enter Tryz.func11, Tryz.ntmps11
    go_wp2
    go_loopw [3, 4, 5, 6] (fun v u f i wr => ∃ (k j : Nat) (bs : List Int) (o : List UInt8), i = .int .i64 k ∧ f = .int .i64 j ∧ u = strV o ∧ RdV wr v bs ∧ Below w.heap.size w wr ∧ partIn bs = true ∧ k ≤ n ∧ j ≤ k ∧ o.length ≤ 100000 * k ∧ runL lineL [0] (linesL l) = runAt l o bs j k) (fun _ _ _ i _ => n - (intOf i).toNat)
    case atStart => exact ⟨0, 0, [0], [], rfl, rfl, rfl, own_one_int w 0, (Below.refl _ w).alloc (Nat.le_refl _) _, by decide, Nat.zero_le _, Nat.le_refl _, by simp, by unfold runAt; simp [seg, linesL]⟩
    case round =>
      obtain ⟨k, j, bs, o, rfl, rfl, rfl, hv, hbel, hp, hk, hj, hol, hrun⟩ := hrel
      have HV := Lib.hid hv
      have HP := Lib.hid hp
      have HRUN := Lib.hid hrun
      clear hv hp hrun
      by_cases hlt : k < n
      · have hkl : k < l.length := by have := HN.out; omega
        obtain ⟨c, hc⟩ : ∃ c, (⟨l.toArray⟩ : ByteArray)[k]'(by rw [hsz]; exact hlt) = c := ⟨_, rfl⟩
        have hce : l[k] = c := by rw [← hc]; rfl
        by_cases hc10 : c = 10
        · have ht : ((c.toNat : Int) == 10) = true := by rw [hc10]; rfl
          have e1 : (⟨l.toArray⟩ : ByteArray).extract j k = ⟨(seg l j k).toArray⟩ := str_extract l j k
          have hsl := seg_len l (f := j) (i := k) (by omega)
          have HL := Lib.hid (fun w1 vx (h : RdV w1 vx bs) => l9Line_v vx bs (seg l j k) w1 h HP.out (by omega))
          have hshort := line_short HP.out (seg l j k)
          have hpart := lineL_part HP.out (seg l j k)
          have hnx : runAt l o bs j k = runAt l (o ++ (lineL bs (seg l j k)).2) (lineL bs (seg l j k)).1 (k + 1) (k + 1) := by
            unfold runAt
            rw [lines_nl l hkl (by rw [hce, hc10])]
            simp [runL, List.append_assoc]
          obtain ⟨bs2, t, hr2⟩ : ∃ bs2 t, (bs2, t) = lineL bs (seg l j k) := ⟨_, _, rfl⟩
          rw [← hr2] at HL hshort hpart hnx
          obtain ⟨sg, hsg⟩ : ∃ sg, sg = seg l j k := ⟨_, rfl⟩
          rw [← hsg] at e1 HL
          have HNX := Lib.hid hnx
          have HPA := Lib.hid hpart
          have hs2 : t.length ≤ 100000 := hshort
          clear hc10 hce hkl hr2 hsg hsl hnx hpart hshort
          have hobd : o.length ≤ 60000000 := by omega
          go_wp2_with (go_at_call 31; (with_reducible refine (HL.out _ _ HV.out).mono ?_); rintro e w1 ⟨v1, rfl, hr1, hb1⟩; have HR1 := Lib.hid hr1; clear hr1)
          all_goals go_wp2
          all_goals
            refine ⟨⟨k + 1, k + 1, bs2, o ++ t, rfl, rfl, str_cat1 o t, HR1.out, yAz hbel hb1, HPA.out, by omega, Nat.le_refl _, by rw [List.length_append]; omega, by rw [HRUN.out, HNX.out]⟩, by simp [intOf]; omega⟩
        · have ht : ((c.toNat : Int) == 10) = false := by
            have : c.toNat ≠ 10 := fun e => hc10 (UInt8.toNat_inj.1 e)
            simp; omega
          have hnx : runAt l o bs j k = runAt l o bs j (k + 1) := by
            unfold runAt
            rw [lines_char l hj hkl (by rw [hce]; exact hc10)]
          have HNX := Lib.hid hnx
          clear hc10 hce hkl hnx
          go_wp2
          refine ⟨⟨k + 1, j, bs, o, rfl, rfl, rfl, HV.out, hbel, HP.out, by omega, by omega, by omega, by rw [HRUN.out, HNX.out]⟩, by simp [intOf]; omega⟩
      · obtain rfl : k = n := by omega
        have hend : runAt l o bs j k = (bs, o) := by
          unfold runAt
          rw [HN.out, lines_end]
          simp [runL]
        have HE : Hid (execL lineL l = o ++ ([116, 104, 105, 110, 103, 115, 32] ++ decZ (bs.length : Int) ++ [10])) := Lib.hid (by
          rw [HR.out, HRUN.out, hend]
          unfold thingsL decZ
          rw [if_neg (by omega)]
          simp)
        have hal := yCz HP.out
        obtain ⟨m, hm⟩ : ∃ m, m = bs.length := ⟨_, rfl⟩
        have hd := l6Dec_any (bs.length : Int) (num_nat (by omega))
        have hdl := decZ_len15 (n := (bs.length : Int)) (num_nat (by omega))
        obtain ⟨ao, ca, rfl, _, _, _⟩ := HV.out
        rw [← hm] at HE hd hdl hal ⊢
        obtain ⟨t, ht⟩ : ∃ t, t = decZ (m : Int) := ⟨_, rfl⟩
        rw [← ht] at HE hd hdl
        have HD := Lib.hid hd
        have hobd : o.length ≤ 60000000 := by omega
        clear hm ht hd hend hol
        go_wp2_with (go_at_call 32; (with_reducible refine (HD.out _).mono ?_); rintro e w1 ⟨rfl, hb1⟩)
        all_goals go_wp2
        all_goals go_ret
        all_goals exact ⟨by rw [← HR.out, HE.out]; exact congrArg Ending.returned (str_cat4 o t), yAz hbel hb1⟩
end

end Go.Proofs.YtmflecemkodklaaGreatDoor

namespace Go.Proofs
open Go.Shelf
def Tryz.lays169_ren : Go.Shelf.Ren := ⟨fun | 169 => 30 | n => n, fun | 70 => 43 | 9 => 9 | 0 => 0 | 72 => 45 | 37 => 22 | 127 => 78 | 3 => 3 | 5 => 5 | n => n, fun | n => n⟩
theorem Tryz.lays169 : Go.Proofs.Lays.n169 Tryz.prog Tryz.lays169_ren := {
  mixed := by kernel_rfl
  f169 := Tryz.func30.trans (congrArg some (by kernel_rfl))
  t0 := Tryz.underlying0
  a0 := Tryz.isAgg0
  z0 := Tryz.sizeOf0
  v0 := Tryz.zeroValue0
  t3 := Tryz.underlying3
  a3 := Tryz.isAgg3
  z3 := Tryz.sizeOf3
  v3 := Tryz.zeroValue3
  t9 := Tryz.underlying9
  a9 := Tryz.isAgg9
  z9 := Tryz.sizeOf9
  v9 := Tryz.zeroValue9
  t37 := Tryz.underlying22
  a37 := Tryz.isAgg22
  z37 := Tryz.sizeOf22
  v37 := Tryz.zeroValue22
  t70 := Tryz.underlying43
  a70 := Tryz.isAgg43
  z70 := Tryz.sizeOf43
  v70 := Tryz.zeroValue43
  t72 := Tryz.underlying45
  a72 := Tryz.isAgg45
  z72 := Tryz.sizeOf45
  v72 := Tryz.zeroValue45
  t127 := Tryz.underlying78
  a127 := Tryz.isAgg78
  z127 := Tryz.sizeOf78
  v127 := Tryz.zeroValue78 }
theorem Tryz.Builder_Extra_169 : Builder.Extra Tryz.prog Tryz.lays169_ren := {
  sizeBuilder := by kernel_rfl
  liesBuilder := by kernel_rfl
  t5 := Tryz.underlying5
  a5 := Tryz.isAgg5
  z5 := Tryz.sizeOf5
  v5 := Tryz.zeroValue5
  infoByte := by kernel_rfl
  cellsByte := by kernel_rfl
  sizeByte := by kernel_rfl
  neB5 := by decide }
def Tryz.lays156_ren : Go.Shelf.Ren := ⟨fun | 156 => 260 | 165 => 291 | 166 => 27 | 169 => 30 | 240 => 45 | 241 => 305 | 276 => 69 | 277 => 319 | n => n, fun | 31 => 38 | 9 => 9 | 3 => 3 | 4 => 4 | 0 => 0 | 20 => 20 | 72 => 45 | 76 => 48 | 70 => 43 | 37 => 22 | 75 => 47 | 127 => 78 | 164 => 95 | 5 => 5 | 80 => 50 | n => n, fun | n => n⟩
theorem Tryz.lays156 : Go.Proofs.Lays.n156 Tryz.prog Tryz.lays156_ren := {
  mixed := by kernel_rfl
  f156 := Tryz.func260.trans (congrArg some (by kernel_rfl))
  f165 := Tryz.func291.trans (congrArg some (by kernel_rfl))
  f166 := Tryz.func27.trans (congrArg some (by kernel_rfl))
  f169 := Tryz.func30.trans (congrArg some (by kernel_rfl))
  f240 := Tryz.func45.trans (congrArg some (by kernel_rfl))
  f241 := Tryz.func305.trans (congrArg some (by kernel_rfl))
  f276 := Tryz.func69.trans (congrArg some (by kernel_rfl))
  f277 := Tryz.func319.trans (congrArg some (by kernel_rfl))
  t0 := Tryz.underlying0
  a0 := Tryz.isAgg0
  z0 := Tryz.sizeOf0
  v0 := Tryz.zeroValue0
  t3 := Tryz.underlying3
  a3 := Tryz.isAgg3
  z3 := Tryz.sizeOf3
  v3 := Tryz.zeroValue3
  t4 := Tryz.underlying4
  a4 := Tryz.isAgg4
  z4 := Tryz.sizeOf4
  v4 := Tryz.zeroValue4
  t9 := Tryz.underlying9
  a9 := Tryz.isAgg9
  z9 := Tryz.sizeOf9
  v9 := Tryz.zeroValue9
  t20 := Tryz.underlying20
  a20 := Tryz.isAgg20
  z20 := Tryz.sizeOf20
  v20 := Tryz.zeroValue20
  t31 := Tryz.underlying38
  a31 := Tryz.isAgg38
  z31 := Tryz.sizeOf38
  v31 := Tryz.zeroValue38
  t37 := Tryz.underlying22
  a37 := Tryz.isAgg22
  z37 := Tryz.sizeOf22
  v37 := Tryz.zeroValue22
  t70 := Tryz.underlying43
  a70 := Tryz.isAgg43
  z70 := Tryz.sizeOf43
  v70 := Tryz.zeroValue43
  t72 := Tryz.underlying45
  a72 := Tryz.isAgg45
  z72 := Tryz.sizeOf45
  v72 := Tryz.zeroValue45
  t75 := Tryz.underlying47
  a75 := Tryz.isAgg47
  z75 := Tryz.sizeOf47
  v75 := Tryz.zeroValue47
  t76 := Tryz.underlying48
  a76 := Tryz.isAgg48
  z76 := Tryz.sizeOf48
  v76 := Tryz.zeroValue48
  t127 := Tryz.underlying78
  a127 := Tryz.isAgg78
  z127 := Tryz.sizeOf78
  v127 := Tryz.zeroValue78
  t164 := Tryz.underlying95
  a164 := Tryz.isAgg95
  z164 := Tryz.sizeOf95
  v164 := Tryz.zeroValue95 }
theorem Tryz.Builder_Extra_156 : Builder.Extra Tryz.prog Tryz.lays156_ren := {
  sizeBuilder := by kernel_rfl
  liesBuilder := by kernel_rfl
  t5 := Tryz.underlying5
  a5 := Tryz.isAgg5
  z5 := Tryz.sizeOf5
  v5 := Tryz.zeroValue5
  infoByte := by kernel_rfl
  cellsByte := by kernel_rfl
  sizeByte := by kernel_rfl
  neB5 := by decide }
open Go.RowKit in
theorem Tryz.strings_Join_none (a : Option Addr) (c : Nat) (sep : ByteArray) (w : World) :
    Calls Tryz.prog 260 #[.slice a 0 c, .string sep] w fun e w' => e = .returned (.string ⟨#[]⟩) ∧ w' = w := Any.strings_Join_none Tryz.lays156 Tryz.Builder_Extra_156 a c sep w
open Go.RowKit in
theorem Tryz.strings_Join (bk o c : Nat) (xs : List ByteArray) (sep : ByteArray) (w : World) (hcells : ∀ (j : Nat) x, xs[j]? = some x → w.cell? ⟨bk, o + j, none⟩ = some (.string x)) (hbk : bk < w.heap.size) (hN : xs.length ≤ 140737488355328) (hcap : xs.length ≤ c) (hlen : (Lib.join (xs.map (·.data.toList)) sep.data.toList).length ≤ 140737488355328) :
    Calls Tryz.prog 260 #[.slice (some ⟨bk, o, none⟩) xs.length c, .string sep] w fun e w' => e = .returned (.string ⟨(Lib.join (xs.map (·.data.toList)) sep.data.toList).toArray⟩) ∧ Below w.heap.size w w' := Any.strings_Join Tryz.lays156 Tryz.Builder_Extra_156 bk o c xs sep w hcells hbk hN hcap hlen
open Go.RowKit in
theorem Tryz.Builder_String_any_k (B b : Nat) (l : List UInt8) (w : World) (h : Lib.IsBuilderF 45 5 B b (Lib.byteCells l) w) (hBw : B ≤ w.heap.size) :
    Calls Tryz.prog 30 #[.pointer (some ⟨b, 0, none⟩)] w fun e w' => e = .returned (.string ⟨l.toArray⟩) ∧ (Lib.IsBuilderF 45 5 B b (Lib.byteCells l) w' ∧ Below B w w' ∧ Lib.OthersKept 5 (some b) w w') := Any.Builder_String_any_k Tryz.lays169 Tryz.Builder_Extra_169 B b l w h hBw
def Tryz.laysM171_ren : Go.Shelf.Ren := ⟨fun | 171 => 29 | 243 => 50 | 246 => 74 | 283 => 152 | 284 => 153 | 285 => 154 | 286 => 155 | 129 => 219 | 317 => 218 | 318 => 220 | 319 => 221 | 320 => 222 | 337 => 272 | 338 => 273 | n => n, fun | 3 => 3 | 9 => 9 | 2 => 2 | 4 => 4 | 171 => 129 | 0 => 0 | 53 => 130 | 37 => 22 | 5 => 5 | 173 => 133 | 212 => 147 | 51 => 148 | 20 => 20 | 213 => 149 | 46 => 144 | 232 => 222 | 233 => 223 | n => n, fun | 17 => 1 | 18 => 4 | 19 => 5 | n => n⟩
theorem Tryz.laysM171 : Go.Proofs.LaysM.n171 Tryz.prog Tryz.laysM171_ren := {
  mixed := by kernel_rfl
  f129 := Tryz.func219.trans (congrArg some (by kernel_rfl))
  f171 := Tryz.func29.trans (congrArg some (by kernel_rfl))
  f243 := Tryz.func50.trans (congrArg some (by kernel_rfl))
  f246 := Tryz.func74.trans (congrArg some (by kernel_rfl))
  f283 := Tryz.func152.trans (congrArg some (by kernel_rfl))
  f284 := Tryz.func153.trans (congrArg some (by kernel_rfl))
  f285 := Tryz.func154.trans (congrArg some (by kernel_rfl))
  f286 := Tryz.func155.trans (congrArg some (by kernel_rfl))
  f317 := Tryz.func218.trans (congrArg some (by kernel_rfl))
  f318 := Tryz.func220.trans (congrArg some (by kernel_rfl))
  f319 := Tryz.func221.trans (congrArg some (by kernel_rfl))
  f320 := Tryz.func222.trans (congrArg some (by kernel_rfl))
  f337 := Tryz.func272.trans (congrArg some (by kernel_rfl))
  f338 := Tryz.func273.trans (congrArg some (by kernel_rfl))
  t0 := Tryz.underlying0
  a0 := Tryz.isAgg0
  z0 := Tryz.sizeOf0
  v0 := Tryz.zeroValue0
  t2 := Tryz.underlying2
  a2 := Tryz.isAgg2
  z2 := Tryz.sizeOf2
  v2 := Tryz.zeroValue2
  t3 := Tryz.underlying3
  a3 := Tryz.isAgg3
  z3 := Tryz.sizeOf3
  v3 := Tryz.zeroValue3
  t4 := Tryz.underlying4
  a4 := Tryz.isAgg4
  z4 := Tryz.sizeOf4
  v4 := Tryz.zeroValue4
  t5 := Tryz.underlying5
  a5 := Tryz.isAgg5
  z5 := Tryz.sizeOf5
  v5 := Tryz.zeroValue5
  t9 := Tryz.underlying9
  a9 := Tryz.isAgg9
  z9 := Tryz.sizeOf9
  v9 := Tryz.zeroValue9
  t20 := Tryz.underlying20
  a20 := Tryz.isAgg20
  z20 := Tryz.sizeOf20
  v20 := Tryz.zeroValue20
  t37 := Tryz.underlying22
  a37 := Tryz.isAgg22
  z37 := Tryz.sizeOf22
  v37 := Tryz.zeroValue22
  t46 := Tryz.underlying144
  a46 := Tryz.isAgg144
  z46 := Tryz.sizeOf144
  v46 := Tryz.zeroValue144
  t51 := Tryz.underlying148
  a51 := Tryz.isAgg148
  z51 := Tryz.sizeOf148
  v51 := Tryz.zeroValue148
  t53 := Tryz.underlying130
  a53 := Tryz.isAgg130
  z53 := Tryz.sizeOf130
  v53 := Tryz.zeroValue130
  t171 := Tryz.underlying129
  a171 := Tryz.isAgg129
  z171 := Tryz.sizeOf129
  v171 := Tryz.zeroValue129
  t173 := Tryz.underlying133
  a173 := Tryz.isAgg133
  z173 := Tryz.sizeOf133
  v173 := Tryz.zeroValue133
  t212 := Tryz.underlying147
  a212 := Tryz.isAgg147
  z212 := Tryz.sizeOf147
  v212 := Tryz.zeroValue147
  t213 := Tryz.underlying149
  a213 := Tryz.isAgg149
  z213 := Tryz.sizeOf149
  t232 := Tryz.underlying222
  a232 := Tryz.isAgg222
  z232 := Tryz.sizeOf222
  v232 := Tryz.zeroValue222
  t233 := Tryz.underlying223
  a233 := Tryz.isAgg223
  z233 := Tryz.sizeOf223
  v233 := Tryz.zeroValue223
  g17 := by kernel_rfl
  g18 := by kernel_rfl
  g19 := by kernel_rfl
  i0 := by kernel_rfl
  i2 := by kernel_rfl
  i3 := by kernel_rfl
  i4 := by kernel_rfl
  i5 := by kernel_rfl
  i9 := by kernel_rfl
  i20 := by kernel_rfl
  i37 := by kernel_rfl
  i46 := by kernel_rfl
  i51 := by kernel_rfl
  i53 := by kernel_rfl
  i171 := by kernel_rfl
  i173 := by kernel_rfl
  i212 := by kernel_rfl
  i232 := by kernel_rfl
  i233 := by kernel_rfl
  m17 := by kernel_rfl
  m18 := by kernel_rfl
  m19 := by kernel_rfl }
open Go.RowKit Go.Sort Go.Lib in
theorem Tryz.strconv_Itoa (n : Int) (h0 : -9223372036854775808 ≤ n) (h1 : n ≤ 9223372036854775807) (w : World) (htab : Lib.TabIs Tryz.prog w "internal/strconv.uint64pow10" .u64 Lib.pow10Tab) :
    Calls Tryz.prog 29 #[.int .i64 n] w fun e w' => e = .returned (.string ⟨(Lib.itoa n).toArray⟩) ∧ ∃ k os, w' = grow (w.drewN k) os := Any.strconv_Itoa Tryz.laysM171 n h0 h1 w htab
open Go.RowKit Go.Lib in
def Tryz.lays145_ren : Go.Shelf.Ren := ⟨fun | 145 => 47 | 220 => 70 | 219 => 113 | 217 => 177 | 225 => 178 | 224 => 179 | 267 => 180 | 266 => 224 | 314 => 225 | n => n, fun | 9 => 9 | 4 => 4 | 59 => 75 | 3 => 3 | 5 => 5 | 46 => 144 | 146 => 156 | 51 => 148 | n => n, fun | 1 => 0 | n => n⟩
theorem Tryz.lays145 : Go.Proofs.Lays.n145 Tryz.prog Tryz.lays145_ren := {
  mixed := by kernel_rfl
  f145 := Tryz.func47.trans (congrArg some (by kernel_rfl))
  f217 := Tryz.func177.trans (congrArg some (by kernel_rfl))
  f219 := Tryz.func113.trans (congrArg some (by kernel_rfl))
  f220 := Tryz.func70.trans (congrArg some (by kernel_rfl))
  f224 := Tryz.func179.trans (congrArg some (by kernel_rfl))
  f225 := Tryz.func178.trans (congrArg some (by kernel_rfl))
  f266 := Tryz.func224.trans (congrArg some (by kernel_rfl))
  f267 := Tryz.func180.trans (congrArg some (by kernel_rfl))
  f314 := Tryz.func225.trans (congrArg some (by kernel_rfl))
  t3 := Tryz.underlying3
  a3 := Tryz.isAgg3
  z3 := Tryz.sizeOf3
  v3 := Tryz.zeroValue3
  t4 := Tryz.underlying4
  a4 := Tryz.isAgg4
  z4 := Tryz.sizeOf4
  v4 := Tryz.zeroValue4
  t5 := Tryz.underlying5
  a5 := Tryz.isAgg5
  z5 := Tryz.sizeOf5
  v5 := Tryz.zeroValue5
  t9 := Tryz.underlying9
  a9 := Tryz.isAgg9
  z9 := Tryz.sizeOf9
  v9 := Tryz.zeroValue9
  t46 := Tryz.underlying144
  a46 := Tryz.isAgg144
  z46 := Tryz.sizeOf144
  v46 := Tryz.zeroValue144
  t51 := Tryz.underlying148
  a51 := Tryz.isAgg148
  z51 := Tryz.sizeOf148
  v51 := Tryz.zeroValue148
  t59 := Tryz.underlying75
  a59 := Tryz.isAgg75
  z59 := Tryz.sizeOf75
  v59 := Tryz.zeroValue75
  t146 := Tryz.underlying156
  a146 := Tryz.isAgg156
  z146 := Tryz.sizeOf156
  v146 := Tryz.zeroValue156
  g1 := by kernel_rfl }
open Go.RowKit Go.Lib in
theorem Tryz.strings_Cut (s sep : ByteArray) (m : Int) (w : World) (hs : s.size < 4294967281) (hm : w.cell? ⟨0, 0, none⟩ = some (.int .i64 m)) :
    Calls Tryz.prog 47 #[.string s, .string sep] w fun e w' => e = .returned (.tuple #[.string ⟨(Lib.cut s.data.toList sep.data.toList).1.toArray⟩, .string ⟨(Lib.cut s.data.toList sep.data.toList).2.1.toArray⟩, .bool (Lib.cut s.data.toList sep.data.toList).2.2]) ∧ ∃ n, w' = w.drewN n := Any.strings_Cut Tryz.lays145 s sep m w hs hm
def Tryz.lays146_ren : Go.Shelf.Ren := ⟨fun | 146 => 26 | 221 => 44 | 268 => 66 | 138 => 67 | 143 => 68 | 195 => 110 | 197 => 111 | 218 => 112 | 219 => 113 | 260 => 176 | 217 => 177 | 225 => 178 | 224 => 179 | 267 => 180 | 266 => 224 | 314 => 225 | n => n, fun | 9 => 9 | 31 => 38 | 3 => 3 | 4 => 4 | 0 => 0 | 105 => 123 | 21 => 21 | 5 => 5 | 46 => 144 | 119 => 152 | 139 => 155 | 138 => 154 | 146 => 156 | 51 => 148 | n => n, fun | 1 => 0 | 3 => 2 | 4 => 3 | n => n⟩
theorem Tryz.lays146 : Go.Proofs.Lays.n146 Tryz.prog Tryz.lays146_ren := {
  mixed := by kernel_rfl
  f138 := Tryz.func67.trans (congrArg some (by kernel_rfl))
  f143 := Tryz.func68.trans (congrArg some (by kernel_rfl))
  f146 := Tryz.func26.trans (congrArg some (by kernel_rfl))
  f195 := Tryz.func110.trans (congrArg some (by kernel_rfl))
  f197 := Tryz.func111.trans (congrArg some (by kernel_rfl))
  f217 := Tryz.func177.trans (congrArg some (by kernel_rfl))
  f218 := Tryz.func112.trans (congrArg some (by kernel_rfl))
  f219 := Tryz.func113.trans (congrArg some (by kernel_rfl))
  f221 := Tryz.func44.trans (congrArg some (by kernel_rfl))
  f224 := Tryz.func179.trans (congrArg some (by kernel_rfl))
  f225 := Tryz.func178.trans (congrArg some (by kernel_rfl))
  f260 := Tryz.func176.trans (congrArg some (by kernel_rfl))
  f266 := Tryz.func224.trans (congrArg some (by kernel_rfl))
  f267 := Tryz.func180.trans (congrArg some (by kernel_rfl))
  f268 := Tryz.func66.trans (congrArg some (by kernel_rfl))
  f314 := Tryz.func225.trans (congrArg some (by kernel_rfl))
  t0 := Tryz.underlying0
  a0 := Tryz.isAgg0
  z0 := Tryz.sizeOf0
  v0 := Tryz.zeroValue0
  t3 := Tryz.underlying3
  a3 := Tryz.isAgg3
  z3 := Tryz.sizeOf3
  v3 := Tryz.zeroValue3
  t4 := Tryz.underlying4
  a4 := Tryz.isAgg4
  z4 := Tryz.sizeOf4
  v4 := Tryz.zeroValue4
  t5 := Tryz.underlying5
  a5 := Tryz.isAgg5
  z5 := Tryz.sizeOf5
  v5 := Tryz.zeroValue5
  t9 := Tryz.underlying9
  a9 := Tryz.isAgg9
  z9 := Tryz.sizeOf9
  v9 := Tryz.zeroValue9
  t21 := Tryz.underlying21
  a21 := Tryz.isAgg21
  z21 := Tryz.sizeOf21
  v21 := Tryz.zeroValue21
  t31 := Tryz.underlying38
  a31 := Tryz.isAgg38
  z31 := Tryz.sizeOf38
  v31 := Tryz.zeroValue38
  t46 := Tryz.underlying144
  a46 := Tryz.isAgg144
  z46 := Tryz.sizeOf144
  v46 := Tryz.zeroValue144
  t51 := Tryz.underlying148
  a51 := Tryz.isAgg148
  z51 := Tryz.sizeOf148
  v51 := Tryz.zeroValue148
  t105 := Tryz.underlying123
  a105 := Tryz.isAgg123
  z105 := Tryz.sizeOf123
  v105 := Tryz.zeroValue123
  t119 := Tryz.underlying152
  a119 := Tryz.isAgg152
  z119 := Tryz.sizeOf152
  t138 := Tryz.underlying154
  a138 := Tryz.isAgg154
  z138 := Tryz.sizeOf154
  v138 := Tryz.zeroValue154
  t139 := Tryz.underlying155
  a139 := Tryz.isAgg155
  z139 := Tryz.sizeOf155
  v139 := Tryz.zeroValue155
  t146 := Tryz.underlying156
  a146 := Tryz.isAgg156
  z146 := Tryz.sizeOf156
  v146 := Tryz.zeroValue156
  g1 := by kernel_rfl
  g3 := by kernel_rfl
  g4 := by kernel_rfl }
open Go.RowKit Go.Lib in
theorem Tryz.strings_Split (s sep : ByteArray) (m : Int) (w : World) (hs : s.size < 4294967281) (hm : w.cell? ⟨0, 0, none⟩ = some (.int .i64 m)) (h1 : 1 ≤ sep.size) :
    Calls Tryz.prog 26 #[.string s, .string sep] w fun e w' =>
      e = .returned (.slice (some ⟨w.heap.size, 0, none⟩) (Lib.countB s sep + 1) (Lib.countB s sep + 1)) ∧ w' = w.alloc (.cells ((Lib.splitB sep 0 (Lib.countB s sep) s).map Value.string).toArray 9) := Any.strings_Split Tryz.lays146 (by kernel_rfl) s sep m w hs hm h1
def Tryz.lays166_ren : Go.Shelf.Ren := ⟨fun | 166 => 27 | 240 => 45 | 276 => 69 | n => n, fun | 0 => 0 | 3 => 3 | 4 => 4 | 5 => 5 | 9 => 9 | 20 => 20 | 37 => 22 | 70 => 43 | 72 => 45 | 75 => 47 | 80 => 50 | 164 => 95 | n => n, fun | n => n⟩
theorem Tryz.lays166 : Go.Proofs.Lays.n166 Tryz.prog Tryz.lays166_ren := {
  mixed := by kernel_rfl
  f166 := Tryz.func27.trans (congrArg some (by kernel_rfl))
  f240 := Tryz.func45.trans (congrArg some (by kernel_rfl))
  f276 := Tryz.func69.trans (congrArg some (by kernel_rfl))
  t0 := Tryz.underlying0
  a0 := Tryz.isAgg0
  z0 := Tryz.sizeOf0
  v0 := Tryz.zeroValue0
  t3 := Tryz.underlying3
  a3 := Tryz.isAgg3
  z3 := Tryz.sizeOf3
  v3 := Tryz.zeroValue3
  t4 := Tryz.underlying4
  a4 := Tryz.isAgg4
  z4 := Tryz.sizeOf4
  v4 := Tryz.zeroValue4
  t9 := Tryz.underlying9
  a9 := Tryz.isAgg9
  z9 := Tryz.sizeOf9
  v9 := Tryz.zeroValue9
  t20 := Tryz.underlying20
  a20 := Tryz.isAgg20
  z20 := Tryz.sizeOf20
  v20 := Tryz.zeroValue20
  t37 := Tryz.underlying22
  a37 := Tryz.isAgg22
  z37 := Tryz.sizeOf22
  v37 := Tryz.zeroValue22
  t70 := Tryz.underlying43
  a70 := Tryz.isAgg43
  z70 := Tryz.sizeOf43
  v70 := Tryz.zeroValue43
  t72 := Tryz.underlying45
  a72 := Tryz.isAgg45
  z72 := Tryz.sizeOf45
  v72 := Tryz.zeroValue45
  t75 := Tryz.underlying47
  a75 := Tryz.isAgg47
  z75 := Tryz.sizeOf47
  v75 := Tryz.zeroValue47
  t164 := Tryz.underlying95
  a164 := Tryz.isAgg95
  z164 := Tryz.sizeOf95
  v164 := Tryz.zeroValue95 }
theorem Tryz.Builder_Extra_166 : Builder.Extra Tryz.prog Tryz.lays166_ren := {
  sizeBuilder := by kernel_rfl
  liesBuilder := by kernel_rfl
  t5 := Tryz.underlying5
  a5 := Tryz.isAgg5
  z5 := Tryz.sizeOf5
  v5 := Tryz.zeroValue5
  infoByte := by kernel_rfl
  cellsByte := by kernel_rfl
  sizeByte := by kernel_rfl
  neB5 := by decide }
open Go.RowKit in
theorem Tryz.Builder_WriteString_k (B b : Nat) (bs : List Value) (s : ByteArray) (w : World) (h : Lib.IsBuilderF 45 5 B b bs w) (hlen : bs.length + s.size ≤ 140737488355328) (hBw : B ≤ w.heap.size) :
    Calls Tryz.prog 27 #[.pointer (some ⟨b, 0, none⟩), .string s] w fun e w' => e = .returned (.tuple #[.int .i64 s.size, .nilIface]) ∧ (Lib.BuilderAtF 45 5 B b (.pointer (some ⟨b, 0, none⟩)) (bs ++ Lib.strCells s) w' ∧ Below B w w' ∧ Lib.OthersKept 5 (some b) w w') := Any.Builder_WriteString_k Tryz.lays166 Tryz.Builder_Extra_166 B b bs s w h hlen hBw
end Go.Proofs

namespace Go.Proofs.YtmflecemkodklaaGreatDoor

section
open Go.RowKit

def PowAt (w : World) : Prop := Lib.TabIs Tryz.prog w "internal/strconv.uint64pow10" .u64 Lib.pow10Tab
theorem yaz {w w' : World} (h : PowAt w) (hb : Below w.heap.size w w') : PowAt w' := Lib.tabBelow_of_tabIs h w' hb
theorem itoa_v (n : Int) (hn : Num n) (w : World) (hp : PowAt w) : Calls Tryz.prog 29 #[.int .i64 n] w (GivesS w (decZ n)) := by
  unfold Num at hn
  refine (Tryz.strconv_Itoa n (by omega) (by omega) w hp).mono ?_
  rintro e w' ⟨rfl, k, os, rfl⟩
  rw [itoa_decZ]
  exact ⟨rfl, Lib.below_grow _ w (Nat.le_refl _) k os⟩

theorem map_data (ts : List (List UInt8)) : (ts.map fun t => (⟨t.toArray⟩ : ByteArray)).map (·.data.toList) = ts := by
  rw [List.map_map]
  conv => rhs; rw [← List.map_id ts]
  exact List.map_congr_left fun t _ => by simp
theorem strJoin_v (v : Value) (ts : List (List UInt8)) (sep : List UInt8) (w : World) (hv : RdS w v ts) (hn : ts.length ≤ 64) (hl : (Lib.join ts sep).length ≤ 1000000) :
    Calls Tryz.prog 260 #[v, strV sep] w (GivesS w (Lib.join ts sep)) := by
  obtain ⟨ao, ca, rfl, h1, h2, h3⟩ := hv
  rcases h3 with rfl | ⟨b, rfl, hb, hc⟩
  · exact (Tryz.strings_Join_none ao ca ⟨sep.toArray⟩ w).mono fun e w' ⟨he, hw⟩ => ⟨he, hw ▸ Below.refl _ _⟩
  · have := Tryz.strings_Join b 0 ca (ts.map fun t => ⟨t.toArray⟩) ⟨sep.toArray⟩ w (by
      intro j x hx
      rw [List.getElem?_map] at hx
      have hj : j < ts.length := by
        rcases Nat.lt_or_ge j ts.length with h | h
        · exact h
        · rw [List.getElem?_eq_none h] at hx; cases hx
      rw [List.getElem?_eq_getElem hj] at hx
      simp at hx
      subst hx
      rw [Nat.zero_add, hc j hj]
      simp [List.getD, hj]) hb (by simp; omega) (by simpa using h1) (by rw [map_data]; simp; omega)
    rw [map_data, List.length_map] at this
    exact this.mono fun e w' ⟨he, hw⟩ => ⟨by simpa using he, hw⟩

theorem ownS_made {w1 : World} {B g n c : Nat} (h : w1.ownsRow B 9 1 (.slice (some ⟨g, 0, none⟩) n c) n (madeCells #[Value.string ⟨#[]⟩] n).toList) : OwnS w1 B (.slice (some ⟨g, 0, none⟩) n c) (List.replicate n []) := by
  unfold OwnS
  rw [toList_madeCells_one] at h
  simpa using h
theorem ownS_stored {w : World} {B g n cap : Nat} {ts : List (List UInt8)} (h : OwnS w B (.slice (some ⟨g, 0, none⟩) n cap) ts) (hn : n = ts.length) (j : Nat) (t : List UInt8) :
    OwnS (w.setCell ⟨g, j, none⟩ (strV t)) B (.slice (some ⟨g, 0, none⟩) n cap) (ts.set j t) ∧ w.grownBy (w.setCell ⟨g, j, none⟩ (strV t)) (some g) := by
  subst hn
  have := World.ownsRow.stored h j (strV t)
  refine ⟨?_, this.2⟩
  unfold OwnS
  rw [List.length_set, List.map_set]
  exact this.1
theorem ownS_at {w : World} {B g n cap : Nat} {ts : List (List UInt8)} (h : OwnS w B (.slice (some ⟨g, 0, none⟩) n cap) ts) (j : Nat) (hj : j < ts.length) : w.cell? ⟨g, j, none⟩ = some (strV (ts.getD j [])) ∧ w.frozen? ⟨g, j, none⟩ = false := by
  have hn : n = ts.length := by
    rcases h.2 with ⟨hv, _⟩ | ⟨g', cap', cur, hv, _⟩
    · cases hv
    · injection hv
  subst hn
  have hc := World.ownsRow.cellAt h j (by omega)
  rw [getD_map_str ts j hj] at hc
  exact ⟨hc, World.ownsRow.frozenAt h j⟩
theorem setS_stage (ts : List (List UInt8)) (k : Nat) (h : k < ts.length) : (ts.take k ++ List.replicate (ts.length - k) []).set k (ts.getD k []) = ts.take (k + 1) ++ List.replicate (ts.length - (k + 1)) [] := by
  apply List.ext_getElem?
  intro j
  by_cases h1 : j < k
  · rw [List.getElem?_set_ne (by omega), List.getElem?_append_left (by simp; omega), List.getElem?_append_left (by simp; omega), List.getElem?_take, List.getElem?_take, if_pos h1, if_pos (by omega)]
  · by_cases h2 : j = k
    · subst h2
      rw [List.getElem?_set_self (by simp; omega), List.getElem?_append_left (by simp; omega)]
      simp [List.getD, h]
    · rw [List.getElem?_set_ne (by omega), List.getElem?_append_right (by simp; omega), List.getElem?_append_right (by simp; omega)]
      simp only [List.getElem?_replicate, List.length_take]
      by_cases h3 : j < ts.length
      · rw [if_pos (by omega), if_pos (by omega)]
      · rw [if_neg (by omega), if_neg (by omega)]
def FreshS (w : World) (ts : List (List UInt8)) (e : Ending) (w' : World) : Prop := ∃ v, e = .returned v ∧ OwnS w' w.heap.size v ts ∧ Below w.heap.size w w'

set_option maxHeartbeats 1600000 in
theorem numberTexts_v (v : Value) (xs : List Int) (w : World) (hv : RdV w v xs) (hg : GoodL xs) (hp : PowAt w) :
    Calls Tryz.prog 259 #[v] w (FreshS w (xs.map decZ)) := by
  obtain ⟨ao, ca, rfl, hr, h1, h2⟩ := hv
  unfold maxLen at h2
  obtain ⟨g1, g2⟩ := hg
  obtain ⟨n, hn⟩ : ∃ n, n = xs.length := ⟨_, rfl⟩
  obtain ⟨ts, hts⟩ : ∃ ts, ts = xs.map decZ := ⟨_, rfl⟩
  have HTL : Hid (ts.length = n) := Lib.hid (by rw [hts, List.length_map, hn])
  have HTG : Hid (∀ k, k < n → ts.getD k [] = decZ (xs.getD k 0)) := Lib.hid fun k hk => by
    rw [hts]
    simp only [List.getD, List.getElem?_map, List.getElem?_eq_getElem (show k < xs.length by omega), Option.map_some, Option.getD_some]
  rw [← hts]
  rw [← hn] at h1 g1 ⊢
  have HN := Lib.hid hn
  have HG := Lib.hid g2
  have HP := Lib.hid hp
  have HR := Lib.hid hr
  clear hn hts g2 hp hr
  obtain ⟨i0, hi, hz0, hz1, hz2⟩ := info_parts Tryz.infoStr
  go_enter Tryz.func259, Tryz.ntmps259
  go_wp2_with (at_make; refine wpList_make_full _ rfl _ _ 38 rfl w.heap.size 9 i0 (.string ⟨#[]⟩) 1 Tryz.underlying38 hi hz0 hz1 _ _ _ _ n rfl rfl rfl rfl (by rw [hz2]; omega) (by unfold maxLen; omega) (Nat.le_refl _) ?_)
  intro w1 hown1 hgrow1
  have hb1 : Below w.heap.size w w1 := (Below.refl _ _).grown hgrow1 (Nat.le_refl _) (fun k h => by cases h)
  have hown := ownS_made hown1
  clear hown1 hgrow1
  go_wp2
  go_loopw [11] (fun i wr => ∃ k : Nat, k ≤ n ∧ i = .int .i64 k ∧ OwnS wr w.heap.size (.slice (some ⟨w.heap.size, 0, none⟩) n n) (ts.take k ++ List.replicate (n - k) []) ∧ Below w.heap.size w wr)
    (fun i _ => n - (intOf i).toNat)
  case atStart => exact ⟨0, Nat.zero_le _, rfl, by simpa using hown, hb1⟩
  case round =>
    obtain ⟨k, hk, rfl, hownr, hbr⟩ := hrel
    have HO := Lib.hid hownr
    clear hownr
    by_cases hlt : k < n
    · obtain ⟨b, off, rfl, hc⟩ := rd_cell HR.out (k := k) (by have := HN.out; omega)
      have hcell := cell_after hc hbr
      have hnum : Num (xs.getD k 0) := by
        have hk2 : k < xs.length := by have := HN.out; omega
        simp only [List.getD, List.getElem?_eq_getElem hk2, Option.getD_some]
        exact HG.out _ (List.getElem_mem hk2)
      have htg := HTG.out k hlt
      obtain ⟨x, hx⟩ : ∃ x, x = xs.getD k 0 := ⟨_, rfl⟩
      rw [← hx] at hcell hnum htg
      have HD := Lib.hid (fun w1 (h : PowAt w1) => itoa_v x hnum w1 h)
      obtain ⟨t, ht⟩ : ∃ t, t = decZ x := ⟨_, rfl⟩
      rw [← ht] at HD htg
      have HTS : Hid ((ts.take k ++ List.replicate (n - k) []).set k t = ts.take (k + 1) ++ List.replicate (n - (k + 1)) []) := Lib.hid (by
        have h := setS_stage ts k (by have := HTL.out; omega)
        rw [HTL.out, htg] at h
        exact h)
      have hpr := yaz HP.out hbr
      have HPR := Lib.hid hpr
      clear hx ht hnum hc htg hpr
      go_wp2_with (go_at_call 29; (with_reducible refine (HD.out _ HPR.out).mono ?_); rintro e w' ⟨rfl, hb⟩; have hbx := yAz hbr hb; have hox := ownS_below HO.out hb; have hat := ownS_at hox k (by have := HTL.out; simp; omega); have hz1 := hat.1; have hz2 := hat.2; have HST := Lib.hid (ownS_stored hox (by have := HTL.out; simp; omega) k t); clear hat hox)
      refine ⟨⟨k + 1, by omega, rfl, ?_, hbx.setCell (Nat.le_refl _) _⟩, by simp [intOf]; omega⟩
      rw [← HTS.out]
      exact HST.out.1
    · obtain rfl : k = n := by omega
      go_wp2
      go_ret
      refine ⟨_, rfl, ?_, hbr⟩
      have := HO.out
      rw [Nat.sub_self, List.replicate_zero, List.append_nil, ← HTL.out, List.take_length, HTL.out] at this
      exact this

def textT (ts : List (List UInt8)) : List UInt8 := if ts = [] then [45] else joinL ts
theorem spacedOutput_v (v : Value) (ts : List (List UInt8)) (w : World) (hv : RdS w v ts) (hn : ts.length ≤ 64) (hx : ∀ t ∈ ts, t.length ≤ 1100) :
    Calls Tryz.prog 258 #[v] w (GivesS w (textT ts)) := by
  by_cases h0 : ts = []
  · subst h0
    obtain ⟨ao, ca, rfl, h1, h2, h3⟩ := hv
    unfold textT
    rw [if_pos rfl]
    go_enter Tryz.func258, Tryz.ntmps258
    go_wp2
    go_ret
    exact ⟨rfl, Below.refl _ _⟩
  · have hJ := strJoin_v v ts [32] w hv hn (by
      rw [join_joinL]
      have := joinL_len ts 1100 hx
      have h4 := Nat.mul_le_mul_left (1100 + 1) hn
      omega)
    rw [join_joinL] at hJ
    unfold textT
    rw [if_neg h0]
    obtain ⟨ao, ca, rfl, h1, h2, h3⟩ := hv
    obtain ⟨m, hm⟩ : ∃ m, m = ts.length := ⟨_, rfl⟩
    have hm0 : ((m : Int) == 0) = false := by
      have : m ≠ 0 := fun h => h0 (List.eq_nil_of_length_eq_zero (by omega))
      simp; omega
    rw [← hm] at hJ ⊢
    have HJ := Lib.hid hJ
    obtain ⟨t, ht⟩ : ∃ t, t = joinL ts := ⟨_, rfl⟩
    rw [← ht] at HJ ⊢
    clear hJ hm ht h3 h1
    go_enter Tryz.func258, Tryz.ntmps258
    go_wp2_with (go_at_call 260; (with_reducible refine HJ.out.mono ?_); rintro e w' ⟨rfl, hb⟩)
    go_ret
    exact ⟨rfl, hb⟩

def cutNL (l : List UInt8) : List UInt8 := l.dropLast
theorem cutNL_texts (ts : List (List UInt8)) (ok : Bool) : cutNL (textsL ts ok) = if ok then textT ts else [110, 111] := by
  unfold cutNL textsL textT
  cases ok
  · rfl
  · rw [if_neg (by simp), if_pos rfl]
    by_cases h : ts = []
    · rw [if_pos h, if_pos h]; rfl
    · rw [if_neg h, if_neg h]; simp
theorem textT_one (t : List UInt8) : textT [t] = t := by unfold textT; rw [if_neg (by simp)]; rfl

theorem ySz (n : Int) (ok : Bool) (w : World) (hn : Num n) (hp : PowAt w) : Calls Tryz.prog 190 #[.int .i64 n, .bool ok] w (GivesS w (cutNL (oneL n ok))) := by
  have hr : cutNL (oneL n ok) = if ok then decZ n else [110, 111] := by
    unfold oneL saidL
    rw [cutNL_texts, List.map_singleton, textT_one]
  rw [hr]
  cases ok
  · go_enter Tryz.func190, Tryz.ntmps190
    go_wp2
    go_ret
    exact ⟨rfl, Below.refl _ _⟩
  · have HI := Lib.hid (itoa_v n hn w hp)
    rw [if_pos rfl]
    obtain ⟨t, ht⟩ : ∃ t, t = decZ n := ⟨_, rfl⟩
    rw [← ht] at HI ⊢
    clear hn hp hr ht
    go_enter Tryz.func190, Tryz.ntmps190
    go_wp2_with (go_at_call 29; (with_reducible refine HI.out.mono ?_); rintro e w' ⟨rfl, hb⟩)
    go_ret
    exact ⟨rfl, hb⟩

theorem listOutput_v (v : Value) (xs : List Int) (ok : Bool) (w : World) (hv : RdV w v xs) (hg : GoodL xs) (hp : PowAt w) : Calls Tryz.prog 203 #[v, .bool ok] w (GivesS w (cutNL (saidL xs ok))) := by
  have hr : cutNL (saidL xs ok) = if ok then textT (xs.map decZ) else [110, 111] := by unfold saidL; rw [cutNL_texts]
  rw [hr]
  cases ok
  · go_enter Tryz.func203, Tryz.ntmps203
    go_wp2
    go_ret
    exact ⟨rfl, Below.refl _ _⟩
  · have HI := Lib.hid (numberTexts_v v xs w hv hg hp)
    have HS := Lib.hid (fun v1 w1 (h : RdS w1 v1 (xs.map decZ)) => spacedOutput_v v1 (xs.map decZ) w1 h (by simpa using hg.1) (fun t ht => by
      obtain ⟨x, hx, rfl⟩ := List.mem_map.1 ht
      have := decZ_len15 (hg.2 x hx)
      omega))
    rw [if_pos rfl]
    obtain ⟨t, ht⟩ : ∃ t, t = textT (xs.map decZ) := ⟨_, rfl⟩
    rw [← ht] at HS ⊢
    clear hv hg hp hr ht
    go_enter Tryz.func203, Tryz.ntmps203
    go_wp2_with (first | (go_at_call 259; (with_reducible refine HI.out.mono ?_); rintro e w1 ⟨v1, rfl, ho1, hb1⟩; have hrd := ownS_rd ho1) | (go_at_call 258; (with_reducible refine (HS.out _ _ hrd).mono ?_); rintro e w2 ⟨rfl, hb2⟩))
    go_ret
    exact ⟨rfl, yAz hb1 hb2⟩

set_option maxHeartbeats 4000000 in
theorem listsOutput_v (v : Value) (ls : List (List Int)) (ok : Bool) (w : World) (hv : RdM w v ls) (hg : GoodM ls) (hp : PowAt w) : Calls Tryz.prog 204 #[v, .bool ok] w (GivesS w (cutNL (listsL ls ok))) := by
  have hr : cutNL (listsL ls ok) = if ok then textT (ls.map rowT) else [110, 111] := by unfold listsL; rw [cutNL_texts]; rfl
  rw [hr]
  cases ok
  · go_enter Tryz.func204, Tryz.ntmps204
    go_wp2
    go_ret
    exact ⟨rfl, Below.refl _ _⟩
  · rw [if_pos rfl]
    obtain ⟨ao, ca, vs, hvl, rfl, h1, h2, h3, h4⟩ := hv
    unfold maxLen at h2
    obtain ⟨g1, g2⟩ := hg
    have HS := Lib.hid (fun v1 w1 (h : RdS w1 v1 (ls.map rowT)) => spacedOutput_v v1 (ls.map rowT) w1 h (by simpa using g1) (fun t ht => by
      obtain ⟨l, hl, rfl⟩ := List.mem_map.1 ht
      have h5 := flat_len 0 l (g2 l hl).2
      have h6 := (g2 l hl).1
      show (l.flatMap decZ).length ≤ 1100
      omega))
    obtain ⟨n, hn⟩ : ∃ n, n = ls.length := ⟨_, rfl⟩
    obtain ⟨ts, hts⟩ : ∃ ts, ts = ls.map rowT := ⟨_, rfl⟩
    have HTL : Hid (ts.length = n) := Lib.hid (by rw [hts, List.length_map, hn])
    have HTG : Hid (∀ k, k < n → ts.getD k [] = rowT (ls.getD k [])) := Lib.hid fun k hk => by
      rw [hts]
      simp only [List.getD, List.getElem?_map, List.getElem?_eq_getElem (show k < ls.length by omega), Option.map_some, Option.getD_some]
    rw [← hts] at HS ⊢
    rw [← hn] at h1 g1 hvl ⊢
    obtain ⟨tt, htt⟩ : ∃ tt, tt = textT ts := ⟨_, rfl⟩
    rw [← htt] at HS ⊢
    have HN := Lib.hid hn
    have HG := Lib.hid g2
    have HP := Lib.hid hp
    have H3 := Lib.hid h3
    have H4 := Lib.hid h4
    clear hn hts g2 hp h3 h4 htt hr hvl
    obtain ⟨i0, hi, hz0, hz1, hz2⟩ := info_parts Tryz.infoStr
    go_enter Tryz.func204, Tryz.ntmps204
    go_wp2_with (at_make; refine wpList_make_full _ rfl _ _ 38 rfl w.heap.size 9 i0 (.string ⟨#[]⟩) 1 Tryz.underlying38 hi hz0 hz1 _ _ _ _ n rfl rfl rfl rfl (by rw [hz2]; omega) (by unfold maxLen; omega) (Nat.le_refl _) ?_)
    intro w1 hown1 hgrow1
    have hb1 : Below w.heap.size w w1 := (Below.refl _ _).grown hgrow1 (Nat.le_refl _) (fun k h => by cases h)
    have hown := ownS_made hown1
    clear hown1 hgrow1
    go_wp2
    go_loopw [15] (fun i wr => ∃ k : Nat, k ≤ n ∧ i = .int .i64 k ∧ OwnS wr w.heap.size (.slice (some ⟨w.heap.size, 0, none⟩) n n) (ts.take k ++ List.replicate (n - k) []) ∧ Below w.heap.size w wr)
      (fun i _ => n - (intOf i).toNat)
    case atStart => exact ⟨0, Nat.zero_le _, rfl, by simpa using hown, hb1⟩
    case round =>
      obtain ⟨k, hk, rfl, hownr, hbr⟩ := hrel
      have HO := Lib.hid hownr
      clear hownr
      by_cases hlt : k < n
      · rcases H3.out with h3 | ⟨bb, off, rfl, hc⟩
        · have := HN.out
          rw [h3] at this
          simp at this
          omega
        have hck := cell_after (hc k (by have := HN.out; omega)) hbr
        have hrow := yDz (H4.out k (by have := HN.out; omega)) hbr
        have hgood := HG.out (ls.getD k []) (by
          have hk2 : k < ls.length := by have := HN.out; omega
          simp only [List.getD, List.getElem?_eq_getElem hk2, Option.getD_some]
          exact List.getElem_mem hk2)
        have htg := HTG.out k hlt
        obtain ⟨row, hrw⟩ : ∃ row, row = ls.getD k [] := ⟨_, rfl⟩
        obtain ⟨z, hz⟩ : ∃ z, z = vs.getD k undef := ⟨_, rfl⟩
        rw [← hz] at hck hrow
        rw [← hrw] at hrow hgood htg
        have hpr := yaz HP.out hbr
        have HI := Lib.hid (numberTexts_v z row _ hrow hgood hpr)
        have HJ := Lib.hid (fun v1 w1 (h : RdS w1 v1 (row.map decZ)) => strJoin_v v1 (row.map decZ) [] w1 h (by simpa using hgood.1) (by
          rw [join_none]
          have h5 := flat_len 0 row hgood.2
          have h6 := hgood.1
          rw [← List.flatMap_def]
          omega))
        rw [join_none, ← List.flatMap_def] at HJ
        obtain ⟨t, ht⟩ : ∃ t, t = rowT row := ⟨_, rfl⟩
        have ht2 : row.flatMap decZ = t := ht.symm
        rw [ht2] at HJ
        rw [← ht] at htg
        have HTS : Hid ((ts.take k ++ List.replicate (n - k) []).set k t = ts.take (k + 1) ++ List.replicate (n - (k + 1)) []) := Lib.hid (by
          have h := setS_stage ts k (by have := HTL.out; omega)
          rw [HTL.out, htg] at h
          exact h)
        obtain ⟨zo, zc, rfl, _, _, _⟩ := hrow
        clear hz hrw ht ht2 hgood hc htg hpr
        go_wp2_with (first | (go_at_call 259; (with_reducible refine HI.out.mono ?_); rintro e w1 ⟨v1, rfl, ho1, hb1⟩; have hrd := ownS_rd ho1) | (go_at_call 260; (with_reducible refine (HJ.out _ _ hrd).mono ?_); rintro e w2 ⟨rfl, hb2⟩; have hbx := yAz (yAz hbr hb1) hb2; have hox := ownS_below (ownS_below HO.out hb1) hb2; have hat := ownS_at hox k (by have := HTL.out; simp; omega); have hz1 := hat.1; have hz2 := hat.2; have HST := Lib.hid (ownS_stored hox (by have := HTL.out; simp; omega) k t); clear hat hox))
        refine ⟨⟨k + 1, by omega, rfl, ?_, hbx.setCell (Nat.le_refl _) _⟩, by simp [intOf]; omega⟩
        rw [← HTS.out]
        exact HST.out.1
      · obtain rfl : k = n := by omega
        have hall := HO.out
        rw [Nat.sub_self, List.replicate_zero, List.append_nil, ← HTL.out, List.take_length, HTL.out] at hall
        have hrd := ownS_rd hall
        clear hall
        go_wp2_with (go_at_call 258; (with_reducible refine (HS.out _ _ hrd).mono ?_); rintro e w2 ⟨rfl, hb2⟩)
        go_ret
        exact ⟨rfl, yAz hbr hb2⟩
end

section
open Go.RowKit

def MaxAt (w : World) : Prop := ∃ m, w.cell? ⟨0, 0, none⟩ = some (.int .i64 m)
theorem max_below {w w' : World} (h : MaxAt w) (hb : Below w.heap.size w w') : MaxAt w' := by
  obtain ⟨m, h⟩ := h
  exact ⟨m, cell_after h hb⟩
def EnvAt (w : World) : Prop := Tab w ∧ ErrAt w ∧ PowAt w ∧ MaxAt w
theorem env_below {w w' : World} (h : EnvAt w) (hb : Below w.heap.size w w') : EnvAt w' := ⟨tab_below h.1 hb, errAt_below h.2.1 hb, yaz h.2.2.1 hb, max_below h.2.2.2 hb⟩

def BenchAt (w : World) (g : Nat) (a : List Int) : Prop := ∃ v, w.heap[g]? = some (.cells #[v] 42 (0, 0)) ∧ Own w 0 v a
theorem bench_lt {w : World} {g : Nat} {a : List Int} (h : BenchAt w g a) : g < w.heap.size := by
  obtain ⟨v, h, _⟩ := h
  exact (Array.getElem?_eq_some_iff.1 h).1
theorem bench_ne {w : World} {g : Nat} {v u : Value} {l : List Int} (hg : w.heap[g]? = some (.cells #[v] 42 (0, 0))) (ho : Own w 0 u l) : u.ownBlock ≠ some g := by
  intro he
  rcases ho.2 with ⟨hv, _⟩ | ⟨g', cap, cur, hv, _, hh, _⟩
  · rw [hv] at he; simp [Value.ownBlock] at he
  · rw [hv] at he
    have : g' = g := by simpa [Value.ownBlock] using he
    subst this
    rw [hg] at hh
    injection hh with hh
    injection hh with _ ht
    exact absurd ht (by decide)
theorem yEz {w w' : World} {g : Nat} {a : List Int} (h : BenchAt w g a) (hb : Below w.heap.size w w') : BenchAt w' g a := by
  obtain ⟨v, h1, h2⟩ := h
  exact ⟨v, (hb.block g (Array.getElem?_eq_some_iff.1 h1).1).trans h1, own_below h2 hb⟩
theorem yKz {w : World} {g : Nat} {a : List Int} (h : BenchAt w g a) : ∃ v, w.cell? ⟨g, 0, none⟩ = some v ∧ w.frozen? ⟨g, 0, none⟩ = false ∧ RdV w v a := by
  obtain ⟨v, h1, h2⟩ := h
  exact ⟨v, by simp [World.cell?, h1], by simp [World.frozen?, h1], yJz h2⟩
theorem yIz {w w1 w2 : World} {row : Option Nat} (h1 : Below w.heap.size w w1) (h2 : w1.grownBy w2 row) : w.grownBy w2 row :=
  ⟨h2.os.trans h1.os, h2.tape.trans h1.tape, h2.output.trans h1.output, Nat.le_trans h1.size h2.size, fun k hk hr => (h2.block k (by have := h1.size; omega) hr).trans (h1.block k hk)⟩
theorem yOz {w w1 : World} (h1 : Below w.heap.size w w1) (row : Option Nat) : w.grownBy w1 row :=
  ⟨h1.os, h1.tape, h1.output, h1.size, fun k hk _ => h1.block k hk⟩
theorem same_drew (w : World) : Same w w.drew := fun B => (Below.refl B w).drew
def Works (w : World) (g : Nat) (p : List Int × List UInt8) (e : Ending) (w' : World) : Prop := e = .returned (strV p.2) ∧ BenchAt w' g p.1 ∧ w.grownBy w' (some g)
def chgT (a : List Int) (r : List Int × Bool) : List Int × List UInt8 := if r.2 then (r.1, [111, 107]) else (a, [110, 111])

theorem bench_set {w : World} {g : Nat} {a l : List Int} {v : Value} (hb : BenchAt w g a) (hv : Own w 0 v l) : BenchAt (w.setCell ⟨g, 0, none⟩ v) g l ∧ w.grownBy (w.setCell ⟨g, 0, none⟩ v) (some g) := by
  obtain ⟨u, h1, h2⟩ := hb
  have hgr : w.grownBy (w.setCell ⟨g, 0, none⟩ v) (some g) := ⟨rfl, rfl, rfl, by simp [World.setCell], fun k hk hr => by
    have : k ≠ g := fun e => hr (by rw [e])
    simp only [World.setCell, Array.getElem?_modify]
    rw [if_neg (by omega)]⟩
  refine ⟨⟨v, ?_, own_grown hv hgr (.inr (bench_ne h1 hv))⟩, hgr⟩
  simp [World.setCell, Array.getElem?_modify, h1]

theorem become_v (g : Nat) (v : Value) (a l : List Int) (ok : Bool) (w : World) (hb : BenchAt w g a) (hv : Own w 0 v l) :
    Calls Tryz.prog 181 #[.pointer (some ⟨g, 0, none⟩), v, .bool ok] w (Works w g (chgT a (l, ok))) := by
  have HB := Lib.hid hb
  obtain ⟨u, hc, hf, _⟩ := yKz hb
  have HS := Lib.hid (bench_set hb hv)
  obtain ⟨ao, cap, rfl, _, _, _, _⟩ := own_rd hv
  obtain ⟨n, hn⟩ : ∃ n, n = l.length := ⟨_, rfl⟩
  rw [← hn] at HS ⊢
  clear hn hb hv
  cases ok
  · go_enter Tryz.func181, Tryz.ntmps181
    go_wp2
    go_ret
    exact ⟨rfl, HB.out, yOz (Below.refl _ _) _⟩
  · go_enter Tryz.func181, Tryz.ntmps181
    go_wp2
    go_ret
    exact ⟨rfl, HS.out.1, HS.out.2⟩
end

section
open Go.RowKit

theorem m_turned (g : Nat)  (a : List Int) (w : World) (hE : EnvAt w) (hb : BenchAt w g a) : Calls Tryz.prog 133 #[.pointer (some ⟨g, 0, none⟩)] w (Works w g (chgT a (partTurned a))) := by
  obtain ⟨r, b, hr⟩ : ∃ r b, (r, b) = partTurned a := ⟨_, _, rfl⟩
  have HB := Lib.hid hb
  obtain ⟨v, hc, hf, hv⟩ := yKz hb
  have hF := iPartTurned_v v a w  hv
  rw [← hr] at hF ⊢
  have HF := Lib.hid hF
  obtain ⟨ao, ca, rfl, _, _, _⟩ := hv
  obtain ⟨m, hm⟩ : ∃ m, m = a.length := ⟨_, rfl⟩
  (try rw [← hm] at HF)
  rw [← hm] at hc
  clear hF hr hm hb hE
  go_enter Tryz.func133, Tryz.ntmps133
  go_wp2_with (first | (go_at_call 200; (with_reducible refine HF.out.mono ?_); rintro e w1 ⟨v1, rfl, ho1, hb1⟩; have HBE : Hid (Below w.heap.size w w1) := Lib.hid hb1; have HO1 := Lib.hid (yMz ho1 (Nat.zero_le _)); clear ho1) | (go_at_call 181; (with_reducible refine (become_v g _ a _ _ _ (yEz HB.out HBE.out) HO1.out).mono ?_); rintro e w2 ⟨rfl, hb2, hg2⟩))
  go_ret
  exact ⟨rfl, hb2, yIz HBE.out hg2⟩

theorem m_next (g : Nat)  (a : List Int) (w : World) (hE : EnvAt w) (hb : BenchAt w g a) : Calls Tryz.prog 134 #[.pointer (some ⟨g, 0, none⟩)] w (Works w g (chgT a (listNext a))) := by
  obtain ⟨r, b, hr⟩ : ∃ r b, (r, b) = listNext a := ⟨_, _, rfl⟩
  have HB := Lib.hid hb
  obtain ⟨v, hc, hf, hv⟩ := yKz hb
  have hF := iListNext_v v a w  hv
  rw [← hr] at hF ⊢
  have HF := Lib.hid hF
  obtain ⟨ao, ca, rfl, _, _, _⟩ := hv
  obtain ⟨m, hm⟩ : ∃ m, m = a.length := ⟨_, rfl⟩
  (try rw [← hm] at HF)
  rw [← hm] at hc
  clear hF hr hm hb hE
  go_enter Tryz.func134, Tryz.ntmps134
  go_wp2_with (first | (go_at_call 201; (with_reducible refine HF.out.mono ?_); rintro e w1 ⟨v1, rfl, ho1, hb1⟩; have HBE : Hid (Below w.heap.size w w1) := Lib.hid hb1; have HO1 := Lib.hid (yMz ho1 (Nat.zero_le _)); clear ho1) | (go_at_call 181; (with_reducible refine (become_v g _ a _ _ _ (yEz HB.out HBE.out) HO1.out).mono ?_); rintro e w2 ⟨rfl, hb2, hg2⟩))
  go_ret
  exact ⟨rfl, hb2, yIz HBE.out hg2⟩

theorem m_before (g : Nat)  (a : List Int) (w : World) (hE : EnvAt w) (hb : BenchAt w g a) : Calls Tryz.prog 135 #[.pointer (some ⟨g, 0, none⟩)] w (Works w g (chgT a (listBefore a))) := by
  obtain ⟨r, b, hr⟩ : ∃ r b, (r, b) = listBefore a := ⟨_, _, rfl⟩
  have HB := Lib.hid hb
  obtain ⟨v, hc, hf, hv⟩ := yKz hb
  have hF := iListBefore_v v a w  hv
  rw [← hr] at hF ⊢
  have HF := Lib.hid hF
  obtain ⟨ao, ca, rfl, _, _, _⟩ := hv
  obtain ⟨m, hm⟩ : ∃ m, m = a.length := ⟨_, rfl⟩
  (try rw [← hm] at HF)
  rw [← hm] at hc
  clear hF hr hm hb hE
  go_enter Tryz.func135, Tryz.ntmps135
  go_wp2_with (first | (go_at_call 202; (with_reducible refine HF.out.mono ?_); rintro e w1 ⟨v1, rfl, ho1, hb1⟩; have HBE : Hid (Below w.heap.size w w1) := Lib.hid hb1; have HO1 := Lib.hid (yMz ho1 (Nat.zero_le _)); clear ho1) | (go_at_call 181; (with_reducible refine (become_v g _ a _ _ _ (yEz HB.out HBE.out) HO1.out).mono ?_); rintro e w2 ⟨rfl, hb2, hg2⟩))
  go_ret
  exact ⟨rfl, hb2, yIz HBE.out hg2⟩

theorem m_part (g : Nat) (u : Value) (ns : List Int) (a : List Int) (w : World) (hE : EnvAt w) (hb : BenchAt w g a) (hu : Own w 0 u ns) : Calls Tryz.prog 114 #[.pointer (some ⟨g, 0, none⟩), u] w (Works w g (chgT a (ns, partIn ns))) := by
  obtain ⟨b, hr⟩ : ∃ b, b = partIn ns := ⟨_, rfl⟩
  have HB := Lib.hid hb
  have HU := Lib.hid hu
  have hF := iPartIn_v u ns w (yJz hu)
  rw [← hr] at hF ⊢
  obtain ⟨uo, uc, rfl, _, _, _⟩ := yJz hu
  obtain ⟨q, hq⟩ : ∃ q, q = ns.length := ⟨_, rfl⟩
  rw [← hq] at hF HU ⊢
  have HF := Lib.hid hF
  clear hF hr hq hb hE hu
  go_enter Tryz.func114, Tryz.ntmps114
  go_wp2_with (first | (go_at_call 34; (with_reducible refine HF.out.mono ?_); rintro e w1 ⟨rfl, hb1⟩; have HBE : Hid (Below w.heap.size w w1) := Lib.hid hb1; have HO1 := Lib.hid (own_below HU.out hb1)) | (go_at_call 181; (with_reducible refine (become_v g _ a _ _ _ (yEz HB.out HBE.out) HO1.out).mono ?_); rintro e w2 ⟨rfl, hb2, hg2⟩))
  go_ret
  exact ⟨rfl, hb2, yIz HBE.out hg2⟩

theorem m_kernel (g : Nat) (u : Value) (ns : List Int) (a : List Int) (w : World) (hE : EnvAt w) (hb : BenchAt w g a) (hu : RdV w u ns) : Calls Tryz.prog 115 #[.pointer (some ⟨g, 0, none⟩), u] w (Works w g (chgT a (partKernel ns))) := by
  obtain ⟨r, b, hr⟩ : ∃ r b, (r, b) = partKernel ns := ⟨_, _, rfl⟩
  have HB := Lib.hid hb
  obtain ⟨v, hc, hf, hv⟩ := yKz hb
  have hF := iPartKernel_v u ns w  hu
  obtain ⟨uo, uc, rfl, _, _, _⟩ := hu
  obtain ⟨q, hq⟩ : ∃ q, q = ns.length := ⟨_, rfl⟩
  rw [← hq] at hF ⊢
  clear hq
  rw [← hr] at hF ⊢
  have HF := Lib.hid hF
  obtain ⟨ao, ca, rfl, _, _, _⟩ := hv
  obtain ⟨m, hm⟩ : ∃ m, m = a.length := ⟨_, rfl⟩
  (try rw [← hm] at HF)
  rw [← hm] at hc
  clear hF hr hm hb hE
  go_enter Tryz.func115, Tryz.ntmps115
  go_wp2_with (first | (go_at_call 182; (with_reducible refine HF.out.mono ?_); rintro e w1 ⟨v1, rfl, ho1, hb1⟩; have HBE : Hid (Below w.heap.size w w1) := Lib.hid hb1; have HO1 := Lib.hid (yMz ho1 (Nat.zero_le _)); clear ho1) | (go_at_call 181; (with_reducible refine (become_v g _ a _ _ _ (yEz HB.out HBE.out) HO1.out).mono ?_); rintro e w2 ⟨rfl, hb2, hg2⟩))
  go_ret
  exact ⟨rfl, hb2, yIz HBE.out hg2⟩

theorem m_at (g : Nat) (bb off uc : Nat) (x y : Int) (a : List Int) (w : World) (hE : EnvAt w) (hb : BenchAt w g a) (hx : w.cell? ⟨bb, off, none⟩ = some (.int .i64 x)) (hy : w.cell? ⟨bb, off + 1, none⟩ = some (.int .i64 y)) (wx : (Lit.int .i64 x).wf = true) (wy : (Lit.int .i64 y).wf = true) : Calls Tryz.prog 116 #[.pointer (some ⟨g, 0, none⟩), .slice (some ⟨bb, off, none⟩) 2 uc] w (Works w g (chgT a (listAt x y))) := by
  obtain ⟨r, b, hr⟩ : ∃ r b, (r, b) = listAt x y := ⟨_, _, rfl⟩
  have HB := Lib.hid hb
  obtain ⟨v, hc, hf, hv⟩ := yKz hb
  have hF := fun (w0 : World) (_ : Same w w0) => iListAt_v x y w0 wx wy
  rw [← hr] at hF ⊢
  have HF := Lib.hid hF
  obtain ⟨ao, ca, rfl, _, _, _⟩ := hv
  obtain ⟨m, hm⟩ : ∃ m, m = a.length := ⟨_, rfl⟩
  (try rw [← hm] at HF)
  rw [← hm] at hc
  clear hF hr hm hb hE
  go_enter Tryz.func116, Tryz.ntmps116
  go_wp2_with fail
  go_region_with (first | (go_at_call 183; (with_reducible refine (HF.out _ (same_drew w)).mono ?_); rintro e w1 ⟨v1, rfl, ho1, hb1⟩; have HBE : Hid (Below w.heap.size w w1) := Lib.hid (yAz (below_drewN (Below.refl _ w) 1) hb1); have HO1 := Lib.hid (yMz ho1 (Nat.zero_le _)); clear ho1) | (go_at_call 181; (with_reducible refine (become_v g _ a _ _ _ (yEz HB.out HBE.out) HO1.out).mono ?_); rintro e w2 ⟨rfl, hb2, hg2⟩))
  all_goals go_wp2
  all_goals go_ret
  all_goals exact ⟨rfl, hb2, yIz HBE.out hg2⟩

theorem m_put (g : Nat) (bb off uc : Nat) (x : Int) (a : List Int) (w : World) (hE : EnvAt w) (hb : BenchAt w g a) (hx : w.cell? ⟨bb, off, none⟩ = some (.int .i64 x)) (wx : (Lit.int .i64 x).wf = true) : Calls Tryz.prog 117 #[.pointer (some ⟨g, 0, none⟩), .slice (some ⟨bb, off, none⟩) 1 uc] w (Works w g (chgT a (partPut a x))) := by
  obtain ⟨r, b, hr⟩ : ∃ r b, (r, b) = partPut a x := ⟨_, _, rfl⟩
  have HB := Lib.hid hb
  obtain ⟨v, hc, hf, hv⟩ := yKz hb
  have hF := fun (w0 : World) (h0 : Same w w0) => iPartPut_v v a x w0 (yDz hv (h0 _)) wx
  rw [← hr] at hF ⊢
  have HF := Lib.hid hF
  obtain ⟨ao, ca, rfl, _, _, _⟩ := hv
  obtain ⟨m, hm⟩ : ∃ m, m = a.length := ⟨_, rfl⟩
  (try rw [← hm] at HF)
  rw [← hm] at hc
  clear hF hr hm hb hE
  go_enter Tryz.func117, Tryz.ntmps117
  go_wp2_with fail
  go_region_with (first | (go_at_call 184; (with_reducible refine (HF.out _ (same_drew w)).mono ?_); rintro e w1 ⟨v1, rfl, ho1, hb1⟩; have HBE : Hid (Below w.heap.size w w1) := Lib.hid (yAz (below_drewN (Below.refl _ w) 1) hb1); have HO1 := Lib.hid (yMz ho1 (Nat.zero_le _)); clear ho1) | (go_at_call 181; (with_reducible refine (become_v g _ a _ _ _ (yEz HB.out HBE.out) HO1.out).mono ?_); rintro e w2 ⟨rfl, hb2, hg2⟩))
  all_goals go_wp2
  all_goals go_ret
  all_goals exact ⟨rfl, hb2, yIz HBE.out hg2⟩

theorem m_drop (g : Nat) (bb off uc : Nat) (x : Int) (a : List Int) (w : World) (hE : EnvAt w) (hb : BenchAt w g a) (hx : w.cell? ⟨bb, off, none⟩ = some (.int .i64 x)) (wx : (Lit.int .i64 x).wf = true) : Calls Tryz.prog 118 #[.pointer (some ⟨g, 0, none⟩), .slice (some ⟨bb, off, none⟩) 1 uc] w (Works w g (chgT a (partDrop a x))) := by
  obtain ⟨r, b, hr⟩ : ∃ r b, (r, b) = partDrop a x := ⟨_, _, rfl⟩
  have HB := Lib.hid hb
  obtain ⟨v, hc, hf, hv⟩ := yKz hb
  have hF := fun (w0 : World) (h0 : Same w w0) => iPartDrop_v v a x w0 (yDz hv (h0 _)) wx
  rw [← hr] at hF ⊢
  have HF := Lib.hid hF
  obtain ⟨ao, ca, rfl, _, _, _⟩ := hv
  obtain ⟨m, hm⟩ : ∃ m, m = a.length := ⟨_, rfl⟩
  (try rw [← hm] at HF)
  rw [← hm] at hc
  clear hF hr hm hb hE
  go_enter Tryz.func118, Tryz.ntmps118
  go_wp2_with fail
  go_region_with (first | (go_at_call 185; (with_reducible refine (HF.out _ (same_drew w)).mono ?_); rintro e w1 ⟨v1, rfl, ho1, hb1⟩; have HBE : Hid (Below w.heap.size w w1) := Lib.hid (yAz (below_drewN (Below.refl _ w) 1) hb1); have HO1 := Lib.hid (yMz ho1 (Nat.zero_le _)); clear ho1) | (go_at_call 181; (with_reducible refine (become_v g _ a _ _ _ (yEz HB.out HBE.out) HO1.out).mono ?_); rintro e w2 ⟨rfl, hb2, hg2⟩))
  all_goals go_wp2
  all_goals go_ret
  all_goals exact ⟨rfl, hb2, yIz HBE.out hg2⟩

theorem m_meet (g : Nat) (u : Value) (ns : List Int) (a : List Int) (w : World) (hE : EnvAt w) (hb : BenchAt w g a) (hu : RdV w u ns) : Calls Tryz.prog 119 #[.pointer (some ⟨g, 0, none⟩), u] w (Works w g (chgT a (finerMeet a ns))) := by
  obtain ⟨r, b, hr⟩ : ∃ r b, (r, b) = finerMeet a ns := ⟨_, _, rfl⟩
  have HB := Lib.hid hb
  obtain ⟨v, hc, hf, hv⟩ := yKz hb
  have hF := iFinerMeet_v v u a ns w  hv hu
  obtain ⟨uo, uc, rfl, _, _, _⟩ := hu
  obtain ⟨q, hq⟩ : ∃ q, q = ns.length := ⟨_, rfl⟩
  rw [← hq] at hF ⊢
  clear hq
  rw [← hr] at hF ⊢
  have HF := Lib.hid hF
  obtain ⟨ao, ca, rfl, _, _, _⟩ := hv
  obtain ⟨m, hm⟩ : ∃ m, m = a.length := ⟨_, rfl⟩
  (try rw [← hm] at HF)
  rw [← hm] at hc
  clear hF hr hm hb hE
  go_enter Tryz.func119, Tryz.ntmps119
  go_wp2_with (first | (go_at_call 186; (with_reducible refine HF.out.mono ?_); rintro e w1 ⟨v1, rfl, ho1, hb1⟩; have HBE : Hid (Below w.heap.size w w1) := Lib.hid hb1; have HO1 := Lib.hid (yMz ho1 (Nat.zero_le _)); clear ho1) | (go_at_call 181; (with_reducible refine (become_v g _ a _ _ _ (yEz HB.out HBE.out) HO1.out).mono ?_); rintro e w2 ⟨rfl, hb2, hg2⟩))
  go_ret
  exact ⟨rfl, hb2, yIz HBE.out hg2⟩

theorem m_join (g : Nat) (u : Value) (ns : List Int) (a : List Int) (w : World) (hE : EnvAt w) (hb : BenchAt w g a) (hu : RdV w u ns) : Calls Tryz.prog 120 #[.pointer (some ⟨g, 0, none⟩), u] w (Works w g (chgT a (finerJoin a ns))) := by
  obtain ⟨r, b, hr⟩ : ∃ r b, (r, b) = finerJoin a ns := ⟨_, _, rfl⟩
  have HB := Lib.hid hb
  obtain ⟨v, hc, hf, hv⟩ := yKz hb
  have hF := iFinerJoin_v v u a ns w  hv hu
  obtain ⟨uo, uc, rfl, _, _, _⟩ := hu
  obtain ⟨q, hq⟩ : ∃ q, q = ns.length := ⟨_, rfl⟩
  rw [← hq] at hF ⊢
  clear hq
  rw [← hr] at hF ⊢
  have HF := Lib.hid hF
  obtain ⟨ao, ca, rfl, _, _, _⟩ := hv
  obtain ⟨m, hm⟩ : ∃ m, m = a.length := ⟨_, rfl⟩
  (try rw [← hm] at HF)
  rw [← hm] at hc
  clear hF hr hm hb hE
  go_enter Tryz.func120, Tryz.ntmps120
  go_wp2_with (first | (go_at_call 187; (with_reducible refine HF.out.mono ?_); rintro e w1 ⟨v1, rfl, ho1, hb1⟩; have HBE : Hid (Below w.heap.size w w1) := Lib.hid hb1; have HO1 := Lib.hid (yMz ho1 (Nat.zero_le _)); clear ho1) | (go_at_call 181; (with_reducible refine (become_v g _ a _ _ _ (yEz HB.out HBE.out) HO1.out).mono ?_); rintro e w2 ⟨rfl, hb2, hg2⟩))
  go_ret
  exact ⟨rfl, hb2, yIz HBE.out hg2⟩

theorem m_rings (g : Nat) (u : Value) (ns : List Int) (a : List Int) (w : World) (hE : EnvAt w) (hb : BenchAt w g a) (hu : RdV w u ns) : Calls Tryz.prog 121 #[.pointer (some ⟨g, 0, none⟩), u] w (Works w g (chgT a (ringPart ns))) := by
  obtain ⟨r, b, hr⟩ : ∃ r b, (r, b) = ringPart ns := ⟨_, _, rfl⟩
  have HB := Lib.hid hb
  obtain ⟨v, hc, hf, hv⟩ := yKz hb
  have hF := iRingPart_v u ns w hE.2.1 hu
  obtain ⟨uo, uc, rfl, _, _, _⟩ := hu
  obtain ⟨q, hq⟩ : ∃ q, q = ns.length := ⟨_, rfl⟩
  rw [← hq] at hF ⊢
  clear hq
  rw [← hr] at hF ⊢
  have HF := Lib.hid hF
  obtain ⟨ao, ca, rfl, _, _, _⟩ := hv
  obtain ⟨m, hm⟩ : ∃ m, m = a.length := ⟨_, rfl⟩
  (try rw [← hm] at HF)
  rw [← hm] at hc
  clear hF hr hm hb hE
  go_enter Tryz.func121, Tryz.ntmps121
  go_wp2_with (first | (go_at_call 188; (with_reducible refine HF.out.mono ?_); rintro e w1 ⟨v1, rfl, ho1, hb1⟩; have HBE : Hid (Below w.heap.size w w1) := Lib.hid hb1; have HO1 := Lib.hid (yMz ho1 (Nat.zero_le _)); clear ho1) | (go_at_call 181; (with_reducible refine (become_v g _ a _ _ _ (yEz HB.out HBE.out) HO1.out).mono ?_); rintro e w2 ⟨rfl, hb2, hg2⟩))
  go_ret
  exact ⟨rfl, hb2, yIz HBE.out hg2⟩

theorem m_show (g : Nat) (a : List Int) (w : World) (hE : EnvAt w) (hb : BenchAt w g a) (hp : partIn a = true) : Calls Tryz.prog 136 #[.pointer (some ⟨g, 0, none⟩)] w (Works w g (a, cutNL (saidL a true))) := by
  have HB := Lib.hid hb
  obtain ⟨v, hc, hf, hv⟩ := yKz hb
  have hF := listOutput_v v a true w hv (goodL_part hp) hE.2.2.1
  obtain ⟨t, ht⟩ : ∃ t, t = cutNL (saidL a true) := ⟨_, rfl⟩
  rw [← ht] at hF ⊢
  have HF := Lib.hid hF
  obtain ⟨ao, ca, rfl, _, _, _⟩ := hv
  obtain ⟨m, hm⟩ : ∃ m, m = a.length := ⟨_, rfl⟩
  (try rw [← hm] at HF)
  rw [← hm] at hc
  clear hF hm hb hE ht
  go_enter Tryz.func136, Tryz.ntmps136
  go_wp2_with (go_at_call 203; (with_reducible refine HF.out.mono ?_); rintro e w1 ⟨rfl, hb1⟩)
  go_ret
  exact ⟨rfl, yEz HB.out hb1, yOz hb1 _⟩

theorem m_blocks (g : Nat)  (a : List Int) (w : World) (hE : EnvAt w) (hb : BenchAt w g a) : Calls Tryz.prog 137 #[.pointer (some ⟨g, 0, none⟩)] w (Works w g (a, cutNL (listsL (partBlocks a).1 (partBlocks a).2))) := by
  obtain ⟨r, b, hr⟩ : ∃ r b, (r, b) = partBlocks a := ⟨_, _, rfl⟩
  have HB := Lib.hid hb
  obtain ⟨v, hc, hf, hv⟩ := yKz hb
  have hF := iPartBlocks_v v a w hE.1 hv
  have hg := good_blocks a
  rw [← hr] at hF hg ⊢
  have HF := Lib.hid hF
  have HG := Lib.hid hg
  have HP := Lib.hid hE.2.2.1
  have HO := Lib.hid (fun v1 w1 (k : RdM w1 v1 r) (h : PowAt w1) => listsOutput_v v1 r b w1 k HG.out h)
  obtain ⟨t, ht⟩ : ∃ t, t = cutNL (listsL r b) := ⟨_, rfl⟩
  rw [← ht] at HO ⊢
  obtain ⟨ao, ca, rfl, _, _, _⟩ := hv
  obtain ⟨m, hm⟩ : ∃ m, m = a.length := ⟨_, rfl⟩
  (try rw [← hm] at HF)
  rw [← hm] at hc
  clear hF hg hr hm hb hE ht
  go_enter Tryz.func137, Tryz.ntmps137
  go_wp2_with (first | (go_at_call 205; (with_reducible refine HF.out.mono ?_); rintro e w1 ⟨v1, rfl, ho1, hb1⟩; have hrd := Lib.hid (ownM_rdM ho1); clear ho1; have HBE : Hid (Below w.heap.size w w1) := Lib.hid hb1) | (go_at_call 204; (with_reducible refine (HO.out _ _ hrd.out (yaz HP.out HBE.out)).mono ?_); rintro e w2 ⟨rfl, hb2⟩))
  go_ret
  exact ⟨rfl, yEz HB.out (yAz HBE.out hb2), yOz (yAz HBE.out hb2) _⟩

theorem m_sizes (g : Nat)  (a : List Int) (w : World) (hE : EnvAt w) (hb : BenchAt w g a) : Calls Tryz.prog 138 #[.pointer (some ⟨g, 0, none⟩)] w (Works w g (a, cutNL (saidL (partType a).1 (partType a).2))) := by
  obtain ⟨r, b, hr⟩ : ∃ r b, (r, b) = partType a := ⟨_, _, rfl⟩
  have HB := Lib.hid hb
  obtain ⟨v, hc, hf, hv⟩ := yKz hb
  have hF := iPartType_v v a w  hv
  have hg := good_type a
  rw [← hr] at hF hg ⊢
  have HF := Lib.hid hF
  have HG := Lib.hid hg
  have HP := Lib.hid hE.2.2.1
  have HO := Lib.hid (fun v1 w1 (k : RdV w1 v1 r) (h : PowAt w1) => listOutput_v v1 r b w1 k HG.out h)
  obtain ⟨t, ht⟩ : ∃ t, t = cutNL (saidL r b) := ⟨_, rfl⟩
  rw [← ht] at HO ⊢
  obtain ⟨ao, ca, rfl, _, _, _⟩ := hv
  obtain ⟨m, hm⟩ : ∃ m, m = a.length := ⟨_, rfl⟩
  (try rw [← hm] at HF)
  rw [← hm] at hc
  clear hF hg hr hm hb hE ht
  go_enter Tryz.func138, Tryz.ntmps138
  go_wp2_with (first | (go_at_call 206; (with_reducible refine HF.out.mono ?_); rintro e w1 ⟨v1, rfl, ho1, hb1⟩; have hrd := Lib.hid (yJz ho1); clear ho1; have HBE : Hid (Below w.heap.size w w1) := Lib.hid hb1) | (go_at_call 203; (with_reducible refine (HO.out _ _ hrd.out (yaz HP.out HBE.out)).mono ?_); rintro e w2 ⟨rfl, hb2⟩))
  go_ret
  exact ⟨rfl, yEz HB.out (yAz HBE.out hb2), yOz (yAz HBE.out hb2) _⟩

theorem m_size (g : Nat)  (a : List Int) (w : World) (hE : EnvAt w) (hb : BenchAt w g a) : Calls Tryz.prog 139 #[.pointer (some ⟨g, 0, none⟩)] w (Works w g (a, cutNL (oneL (partSize a).1 (partSize a).2))) := by
  obtain ⟨r, b, hr⟩ : ∃ r b, (r, b) = partSize a := ⟨_, _, rfl⟩
  have HB := Lib.hid hb
  obtain ⟨v, hc, hf, hv⟩ := yKz hb
  have hF := iPartSize_v v a w  hv
  have hg := bd_size a
  rw [← hr] at hF hg ⊢
  have HF := Lib.hid hF
  have HG := Lib.hid hg
  have HP := Lib.hid hE.2.2.1
  have HO := Lib.hid (fun w1 (h : PowAt w1) => ySz r b w1 HG.out h)
  obtain ⟨t, ht⟩ : ∃ t, t = cutNL (oneL r b) := ⟨_, rfl⟩
  rw [← ht] at HO ⊢
  obtain ⟨ao, ca, rfl, _, _, _⟩ := hv
  obtain ⟨m, hm⟩ : ∃ m, m = a.length := ⟨_, rfl⟩
  (try rw [← hm] at HF)
  rw [← hm] at hc
  clear hF hg hr hm hb hE ht
  go_enter Tryz.func139, Tryz.ntmps139
  go_wp2_with (first | (go_at_call 207; (with_reducible refine HF.out.mono ?_); rintro e w1 ⟨rfl, hb1⟩; have HBE : Hid (Below w.heap.size w w1) := Lib.hid hb1) | (go_at_call 190; (with_reducible refine (HO.out _ (yaz HP.out HBE.out)).mono ?_); rintro e w2 ⟨rfl, hb2⟩))
  go_ret
  exact ⟨rfl, yEz HB.out (yAz HBE.out hb2), yOz (yAz HBE.out hb2) _⟩

theorem m_rank (g : Nat)  (a : List Int) (w : World) (hE : EnvAt w) (hb : BenchAt w g a) : Calls Tryz.prog 140 #[.pointer (some ⟨g, 0, none⟩)] w (Works w g (a, cutNL (oneL (finerRank a).1 (finerRank a).2))) := by
  obtain ⟨r, b, hr⟩ : ∃ r b, (r, b) = finerRank a := ⟨_, _, rfl⟩
  have HB := Lib.hid hb
  obtain ⟨v, hc, hf, hv⟩ := yKz hb
  have hF := iFinerRank_v v a w  hv
  have hg := bd_rank a
  rw [← hr] at hF hg ⊢
  have HF := Lib.hid hF
  have HG := Lib.hid hg
  have HP := Lib.hid hE.2.2.1
  have HO := Lib.hid (fun w1 (h : PowAt w1) => ySz r b w1 HG.out h)
  obtain ⟨t, ht⟩ : ∃ t, t = cutNL (oneL r b) := ⟨_, rfl⟩
  rw [← ht] at HO ⊢
  obtain ⟨ao, ca, rfl, _, _, _⟩ := hv
  obtain ⟨m, hm⟩ : ∃ m, m = a.length := ⟨_, rfl⟩
  (try rw [← hm] at HF)
  rw [← hm] at hc
  clear hF hg hr hm hb hE ht
  go_enter Tryz.func140, Tryz.ntmps140
  go_wp2_with (first | (go_at_call 208; (with_reducible refine HF.out.mono ?_); rintro e w1 ⟨rfl, hb1⟩; have HBE : Hid (Below w.heap.size w w1) := Lib.hid hb1) | (go_at_call 190; (with_reducible refine (HO.out _ (yaz HP.out HBE.out)).mono ?_); rintro e w2 ⟨rfl, hb2⟩))
  go_ret
  exact ⟨rfl, yEz HB.out (yAz HBE.out hb2), yOz (yAz HBE.out hb2) _⟩

theorem m_merges (g : Nat)  (a : List Int) (w : World) (hE : EnvAt w) (hb : BenchAt w g a) : Calls Tryz.prog 141 #[.pointer (some ⟨g, 0, none⟩)] w (Works w g (a, cutNL (listsL (finerMerges a).1 (finerMerges a).2))) := by
  obtain ⟨r, b, hr⟩ : ∃ r b, (r, b) = finerMerges a := ⟨_, _, rfl⟩
  have HB := Lib.hid hb
  obtain ⟨v, hc, hf, hv⟩ := yKz hb
  have hF := iFinerMerges_v v a w  hv
  have hg := good_merges a
  rw [← hr] at hF hg ⊢
  have HF := Lib.hid hF
  have HG := Lib.hid hg
  have HP := Lib.hid hE.2.2.1
  have HO := Lib.hid (fun v1 w1 (k : RdM w1 v1 r) (h : PowAt w1) => listsOutput_v v1 r b w1 k HG.out h)
  obtain ⟨t, ht⟩ : ∃ t, t = cutNL (listsL r b) := ⟨_, rfl⟩
  rw [← ht] at HO ⊢
  obtain ⟨ao, ca, rfl, _, _, _⟩ := hv
  obtain ⟨m, hm⟩ : ∃ m, m = a.length := ⟨_, rfl⟩
  (try rw [← hm] at HF)
  rw [← hm] at hc
  clear hF hg hr hm hb hE ht
  go_enter Tryz.func141, Tryz.ntmps141
  go_wp2_with (first | (go_at_call 209; (with_reducible refine HF.out.mono ?_); rintro e w1 ⟨v1, rfl, ho1, hb1⟩; have hrd := Lib.hid (ownM_rdM ho1); clear ho1; have HBE : Hid (Below w.heap.size w w1) := Lib.hid hb1) | (go_at_call 204; (with_reducible refine (HO.out _ _ hrd.out (yaz HP.out HBE.out)).mono ?_); rintro e w2 ⟨rfl, hb2⟩))
  go_ret
  exact ⟨rfl, yEz HB.out (yAz HBE.out hb2), yOz (yAz HBE.out hb2) _⟩

theorem m_splits (g : Nat)  (a : List Int) (w : World) (hE : EnvAt w) (hb : BenchAt w g a) : Calls Tryz.prog 142 #[.pointer (some ⟨g, 0, none⟩)] w (Works w g (a, cutNL (oneL (finerSplits a).1 (finerSplits a).2))) := by
  obtain ⟨r, b, hr⟩ : ∃ r b, (r, b) = finerSplits a := ⟨_, _, rfl⟩
  have HB := Lib.hid hb
  obtain ⟨v, hc, hf, hv⟩ := yKz hb
  have hF := iFinerSplits_v v a w  hv
  have hg := bd_splits a
  rw [← hr] at hF hg ⊢
  have HF := Lib.hid hF
  have HG := Lib.hid hg
  have HP := Lib.hid hE.2.2.1
  have HO := Lib.hid (fun w1 (h : PowAt w1) => ySz r b w1 HG.out h)
  obtain ⟨t, ht⟩ : ∃ t, t = cutNL (oneL r b) := ⟨_, rfl⟩
  rw [← ht] at HO ⊢
  obtain ⟨ao, ca, rfl, _, _, _⟩ := hv
  obtain ⟨m, hm⟩ : ∃ m, m = a.length := ⟨_, rfl⟩
  (try rw [← hm] at HF)
  rw [← hm] at hc
  clear hF hg hr hm hb hE ht
  go_enter Tryz.func142, Tryz.ntmps142
  go_wp2_with (first | (go_at_call 210; (with_reducible refine HF.out.mono ?_); rintro e w1 ⟨rfl, hb1⟩; have HBE : Hid (Below w.heap.size w w1) := Lib.hid hb1) | (go_at_call 190; (with_reducible refine (HO.out _ (yaz HP.out HBE.out)).mono ?_); rintro e w2 ⟨rfl, hb2⟩))
  go_ret
  exact ⟨rfl, yEz HB.out (yAz HBE.out hb2), yOz (yAz HBE.out hb2) _⟩

theorem m_chains (g : Nat)  (a : List Int) (w : World) (hE : EnvAt w) (hb : BenchAt w g a) : Calls Tryz.prog 143 #[.pointer (some ⟨g, 0, none⟩)] w (Works w g (a, cutNL (oneL (finerChains a).1 (finerChains a).2))) := by
  obtain ⟨r, b, hr⟩ : ∃ r b, (r, b) = finerChains a := ⟨_, _, rfl⟩
  have HB := Lib.hid hb
  obtain ⟨v, hc, hf, hv⟩ := yKz hb
  have hF := iFinerChains_v v a w  hv
  have hg := bd_chains a
  rw [← hr] at hF hg ⊢
  have HF := Lib.hid hF
  have HG := Lib.hid hg
  have HP := Lib.hid hE.2.2.1
  have HO := Lib.hid (fun w1 (h : PowAt w1) => ySz r b w1 HG.out h)
  obtain ⟨t, ht⟩ : ∃ t, t = cutNL (oneL r b) := ⟨_, rfl⟩
  rw [← ht] at HO ⊢
  obtain ⟨ao, ca, rfl, _, _, _⟩ := hv
  obtain ⟨m, hm⟩ : ∃ m, m = a.length := ⟨_, rfl⟩
  (try rw [← hm] at HF)
  rw [← hm] at hc
  clear hF hg hr hm hb hE ht
  go_enter Tryz.func143, Tryz.ntmps143
  go_wp2_with (first | (go_at_call 211; (with_reducible refine HF.out.mono ?_); rintro e w1 ⟨rfl, hb1⟩; have HBE : Hid (Below w.heap.size w w1) := Lib.hid hb1) | (go_at_call 190; (with_reducible refine (HO.out _ (yaz HP.out HBE.out)).mono ?_); rintro e w2 ⟨rfl, hb2⟩))
  go_ret
  exact ⟨rfl, yEz HB.out (yAz HBE.out hb2), yOz (yAz HBE.out hb2) _⟩

theorem m_place (g : Nat)  (a : List Int) (w : World) (hE : EnvAt w) (hb : BenchAt w g a) : Calls Tryz.prog 144 #[.pointer (some ⟨g, 0, none⟩)] w (Works w g (a, cutNL (oneL (listPlace a).1 (listPlace a).2))) := by
  obtain ⟨r, b, hr⟩ : ∃ r b, (r, b) = listPlace a := ⟨_, _, rfl⟩
  have HB := Lib.hid hb
  obtain ⟨v, hc, hf, hv⟩ := yKz hb
  have hF := iListPlace_v v a w  hv
  have hg := bd_place a
  rw [← hr] at hF hg ⊢
  have HF := Lib.hid hF
  have HG := Lib.hid hg
  have HP := Lib.hid hE.2.2.1
  have HO := Lib.hid (fun w1 (h : PowAt w1) => ySz r b w1 HG.out h)
  obtain ⟨t, ht⟩ : ∃ t, t = cutNL (oneL r b) := ⟨_, rfl⟩
  rw [← ht] at HO ⊢
  obtain ⟨ao, ca, rfl, _, _, _⟩ := hv
  obtain ⟨m, hm⟩ : ∃ m, m = a.length := ⟨_, rfl⟩
  (try rw [← hm] at HF)
  rw [← hm] at hc
  clear hF hg hr hm hb hE ht
  go_enter Tryz.func144, Tryz.ntmps144
  go_wp2_with (first | (go_at_call 15; (with_reducible refine HF.out.mono ?_); rintro e w1 ⟨rfl, hb1⟩; have HBE : Hid (Below w.heap.size w w1) := Lib.hid hb1) | (go_at_call 190; (with_reducible refine (HO.out _ (yaz HP.out HBE.out)).mono ?_); rintro e w2 ⟨rfl, hb2⟩))
  go_ret
  exact ⟨rfl, yEz HB.out (yAz HBE.out hb2), yOz (yAz HBE.out hb2) _⟩

theorem m_arcs (g : Nat)  (a : List Int) (w : World) (hE : EnvAt w) (hb : BenchAt w g a) : Calls Tryz.prog 145 #[.pointer (some ⟨g, 0, none⟩)] w (Works w g (a, cutNL (listsL (arcList a).1 (arcList a).2))) := by
  obtain ⟨r, b, hr⟩ : ∃ r b, (r, b) = arcList a := ⟨_, _, rfl⟩
  have HB := Lib.hid hb
  obtain ⟨v, hc, hf, hv⟩ := yKz hb
  have hF := iArcList_v v a w  hv
  have hg := good_arcs a
  rw [← hr] at hF hg ⊢
  have HF := Lib.hid hF
  have HG := Lib.hid hg
  have HP := Lib.hid hE.2.2.1
  have HO := Lib.hid (fun v1 w1 (k : RdM w1 v1 r) (h : PowAt w1) => listsOutput_v v1 r b w1 k HG.out h)
  obtain ⟨t, ht⟩ : ∃ t, t = cutNL (listsL r b) := ⟨_, rfl⟩
  rw [← ht] at HO ⊢
  obtain ⟨ao, ca, rfl, _, _, _⟩ := hv
  obtain ⟨m, hm⟩ : ∃ m, m = a.length := ⟨_, rfl⟩
  (try rw [← hm] at HF)
  rw [← hm] at hc
  clear hF hg hr hm hb hE ht
  go_enter Tryz.func145, Tryz.ntmps145
  go_wp2_with (first | (go_at_call 212; (with_reducible refine HF.out.mono ?_); rintro e w1 ⟨v1, rfl, ho1, hb1⟩; have hrd := Lib.hid (ownM_rdM ho1); clear ho1; have HBE : Hid (Below w.heap.size w w1) := Lib.hid hb1) | (go_at_call 204; (with_reducible refine (HO.out _ _ hrd.out (yaz HP.out HBE.out)).mono ?_); rintro e w2 ⟨rfl, hb2⟩))
  go_ret
  exact ⟨rfl, yEz HB.out (yAz HBE.out hb2), yOz (yAz HBE.out hb2) _⟩

theorem m_cross (g : Nat)  (a : List Int) (w : World) (hE : EnvAt w) (hb : BenchAt w g a) : Calls Tryz.prog 146 #[.pointer (some ⟨g, 0, none⟩)] w (Works w g (a, cutNL (oneL (arcCross a).1 (arcCross a).2))) := by
  obtain ⟨r, b, hr⟩ : ∃ r b, (r, b) = arcCross a := ⟨_, _, rfl⟩
  have HB := Lib.hid hb
  obtain ⟨v, hc, hf, hv⟩ := yKz hb
  have hF := iArcCross_v v a w  hv
  have hg := bd_cross a
  rw [← hr] at hF hg ⊢
  have HF := Lib.hid hF
  have HG := Lib.hid hg
  have HP := Lib.hid hE.2.2.1
  have HO := Lib.hid (fun w1 (h : PowAt w1) => ySz r b w1 HG.out h)
  obtain ⟨t, ht⟩ : ∃ t, t = cutNL (oneL r b) := ⟨_, rfl⟩
  rw [← ht] at HO ⊢
  obtain ⟨ao, ca, rfl, _, _, _⟩ := hv
  obtain ⟨m, hm⟩ : ∃ m, m = a.length := ⟨_, rfl⟩
  (try rw [← hm] at HF)
  rw [← hm] at hc
  clear hF hg hr hm hb hE ht
  go_enter Tryz.func146, Tryz.ntmps146
  go_wp2_with (first | (go_at_call 20; (with_reducible refine HF.out.mono ?_); rintro e w1 ⟨rfl, hb1⟩; have HBE : Hid (Below w.heap.size w w1) := Lib.hid hb1) | (go_at_call 190; (with_reducible refine (HO.out _ (yaz HP.out HBE.out)).mono ?_); rintro e w2 ⟨rfl, hb2⟩))
  go_ret
  exact ⟨rfl, yEz HB.out (yAz HBE.out hb2), yOz (yAz HBE.out hb2) _⟩

theorem m_nest (g : Nat)  (a : List Int) (w : World) (hE : EnvAt w) (hb : BenchAt w g a) : Calls Tryz.prog 147 #[.pointer (some ⟨g, 0, none⟩)] w (Works w g (a, cutNL (oneL (arcNest a).1 (arcNest a).2))) := by
  obtain ⟨r, b, hr⟩ : ∃ r b, (r, b) = arcNest a := ⟨_, _, rfl⟩
  have HB := Lib.hid hb
  obtain ⟨v, hc, hf, hv⟩ := yKz hb
  have hF := iArcNest_v v a w  hv
  have hg := bd_nest a
  rw [← hr] at hF hg ⊢
  have HF := Lib.hid hF
  have HG := Lib.hid hg
  have HP := Lib.hid hE.2.2.1
  have HO := Lib.hid (fun w1 (h : PowAt w1) => ySz r b w1 HG.out h)
  obtain ⟨t, ht⟩ : ∃ t, t = cutNL (oneL r b) := ⟨_, rfl⟩
  rw [← ht] at HO ⊢
  obtain ⟨ao, ca, rfl, _, _, _⟩ := hv
  obtain ⟨m, hm⟩ : ∃ m, m = a.length := ⟨_, rfl⟩
  (try rw [← hm] at HF)
  rw [← hm] at hc
  clear hF hg hr hm hb hE ht
  go_enter Tryz.func147, Tryz.ntmps147
  go_wp2_with (first | (go_at_call 213; (with_reducible refine HF.out.mono ?_); rintro e w1 ⟨rfl, hb1⟩; have HBE : Hid (Below w.heap.size w w1) := Lib.hid hb1) | (go_at_call 190; (with_reducible refine (HO.out _ (yaz HP.out HBE.out)).mono ?_); rintro e w2 ⟨rfl, hb2⟩))
  go_ret
  exact ⟨rfl, yEz HB.out (yAz HBE.out hb2), yOz (yAz HBE.out hb2) _⟩

theorem m_far (g : Nat)  (a : List Int) (w : World) (hE : EnvAt w) (hb : BenchAt w g a) : Calls Tryz.prog 148 #[.pointer (some ⟨g, 0, none⟩)] w (Works w g (a, cutNL (oneL (arcLong a).1 (arcLong a).2))) := by
  obtain ⟨r, b, hr⟩ : ∃ r b, (r, b) = arcLong a := ⟨_, _, rfl⟩
  have HB := Lib.hid hb
  obtain ⟨v, hc, hf, hv⟩ := yKz hb
  have hF := iArcLong_v v a w  hv
  have hg := bd_far a
  rw [← hr] at hF hg ⊢
  have HF := Lib.hid hF
  have HG := Lib.hid hg
  have HP := Lib.hid hE.2.2.1
  have HO := Lib.hid (fun w1 (h : PowAt w1) => ySz r b w1 HG.out h)
  obtain ⟨t, ht⟩ : ∃ t, t = cutNL (oneL r b) := ⟨_, rfl⟩
  rw [← ht] at HO ⊢
  obtain ⟨ao, ca, rfl, _, _, _⟩ := hv
  obtain ⟨m, hm⟩ : ∃ m, m = a.length := ⟨_, rfl⟩
  (try rw [← hm] at HF)
  rw [← hm] at hc
  clear hF hg hr hm hb hE ht
  go_enter Tryz.func148, Tryz.ntmps148
  go_wp2_with (first | (go_at_call 214; (with_reducible refine HF.out.mono ?_); rintro e w1 ⟨rfl, hb1⟩; have HBE : Hid (Below w.heap.size w w1) := Lib.hid hb1) | (go_at_call 190; (with_reducible refine (HO.out _ (yaz HP.out HBE.out)).mono ?_); rintro e w2 ⟨rfl, hb2⟩))
  go_ret
  exact ⟨rfl, yEz HB.out (yAz HBE.out hb2), yOz (yAz HBE.out hb2) _⟩

theorem m_ring (g : Nat)  (a : List Int) (w : World) (hE : EnvAt w) (hb : BenchAt w g a) : Calls Tryz.prog 149 #[.pointer (some ⟨g, 0, none⟩)] w (Works w g (a, cutNL (saidL (ringOf a).1 (ringOf a).2))) := by
  obtain ⟨r, b, hr⟩ : ∃ r b, (r, b) = ringOf a := ⟨_, _, rfl⟩
  have HB := Lib.hid hb
  obtain ⟨v, hc, hf, hv⟩ := yKz hb
  have hF := iRingOf_v v a w hE.1 hv
  have hg := good_ring a
  rw [← hr] at hF hg ⊢
  have HF := Lib.hid hF
  have HG := Lib.hid hg
  have HP := Lib.hid hE.2.2.1
  have HO := Lib.hid (fun v1 w1 (k : RdV w1 v1 r) (h : PowAt w1) => listOutput_v v1 r b w1 k HG.out h)
  obtain ⟨t, ht⟩ : ∃ t, t = cutNL (saidL r b) := ⟨_, rfl⟩
  rw [← ht] at HO ⊢
  obtain ⟨ao, ca, rfl, _, _, _⟩ := hv
  obtain ⟨m, hm⟩ : ∃ m, m = a.length := ⟨_, rfl⟩
  (try rw [← hm] at HF)
  rw [← hm] at hc
  clear hF hg hr hm hb hE ht
  go_enter Tryz.func149, Tryz.ntmps149
  go_wp2_with (first | (go_at_call 215; (with_reducible refine HF.out.mono ?_); rintro e w1 ⟨v1, rfl, ho1, hb1⟩; have hrd := Lib.hid (yJz ho1); clear ho1; have HBE : Hid (Below w.heap.size w w1) := Lib.hid hb1) | (go_at_call 203; (with_reducible refine (HO.out _ _ hrd.out (yaz HP.out HBE.out)).mono ?_); rintro e w2 ⟨rfl, hb2⟩))
  go_ret
  exact ⟨rfl, yEz HB.out (yAz HBE.out hb2), yOz (yAz HBE.out hb2) _⟩

theorem m_count (g : Nat)  (a : List Int) (w : World) (hE : EnvAt w) (hb : BenchAt w g a) : Calls Tryz.prog 150 #[.pointer (some ⟨g, 0, none⟩)] w (Works w g (a, cutNL (oneL (ringCount a).1 (ringCount a).2))) := by
  obtain ⟨r, b, hr⟩ : ∃ r b, (r, b) = ringCount a := ⟨_, _, rfl⟩
  have HB := Lib.hid hb
  obtain ⟨v, hc, hf, hv⟩ := yKz hb
  have hF := iRingCount_v v a w  hv
  have hg := bd_count a
  rw [← hr] at hF hg ⊢
  have HF := Lib.hid hF
  have HG := Lib.hid hg
  have HP := Lib.hid hE.2.2.1
  have HO := Lib.hid (fun w1 (h : PowAt w1) => ySz r b w1 HG.out h)
  obtain ⟨t, ht⟩ : ∃ t, t = cutNL (oneL r b) := ⟨_, rfl⟩
  rw [← ht] at HO ⊢
  obtain ⟨ao, ca, rfl, _, _, _⟩ := hv
  obtain ⟨m, hm⟩ : ∃ m, m = a.length := ⟨_, rfl⟩
  (try rw [← hm] at HF)
  rw [← hm] at hc
  clear hF hg hr hm hb hE ht
  go_enter Tryz.func150, Tryz.ntmps150
  go_wp2_with (first | (go_at_call 216; (with_reducible refine HF.out.mono ?_); rintro e w1 ⟨rfl, hb1⟩; have HBE : Hid (Below w.heap.size w w1) := Lib.hid hb1) | (go_at_call 190; (with_reducible refine (HO.out _ (yaz HP.out HBE.out)).mono ?_); rintro e w2 ⟨rfl, hb2⟩))
  go_ret
  exact ⟨rfl, yEz HB.out (yAz HBE.out hb2), yOz (yAz HBE.out hb2) _⟩

theorem m_pairs (g : Nat)  (a : List Int) (w : World) (hE : EnvAt w) (hb : BenchAt w g a) : Calls Tryz.prog 151 #[.pointer (some ⟨g, 0, none⟩)] w (Works w g (a, cutNL (listsL (pairOf a).1 (pairOf a).2))) := by
  obtain ⟨r, b, hr⟩ : ∃ r b, (r, b) = pairOf a := ⟨_, _, rfl⟩
  have HB := Lib.hid hb
  obtain ⟨v, hc, hf, hv⟩ := yKz hb
  have hF := iPairOf_v v a w  hv
  have hg := good_pairs a
  rw [← hr] at hF hg ⊢
  have HF := Lib.hid hF
  have HG := Lib.hid hg
  have HP := Lib.hid hE.2.2.1
  have HO := Lib.hid (fun v1 w1 (k : RdM w1 v1 r) (h : PowAt w1) => listsOutput_v v1 r b w1 k HG.out h)
  obtain ⟨t, ht⟩ : ∃ t, t = cutNL (listsL r b) := ⟨_, rfl⟩
  rw [← ht] at HO ⊢
  obtain ⟨ao, ca, rfl, _, _, _⟩ := hv
  obtain ⟨m, hm⟩ : ∃ m, m = a.length := ⟨_, rfl⟩
  (try rw [← hm] at HF)
  rw [← hm] at hc
  clear hF hg hr hm hb hE ht
  go_enter Tryz.func151, Tryz.ntmps151
  go_wp2_with (first | (go_at_call 217; (with_reducible refine HF.out.mono ?_); rintro e w1 ⟨v1, rfl, ho1, hb1⟩; have hrd := Lib.hid (ownM_rdM ho1); clear ho1; have HBE : Hid (Below w.heap.size w w1) := Lib.hid hb1) | (go_at_call 204; (with_reducible refine (HO.out _ _ hrd.out (yaz HP.out HBE.out)).mono ?_); rintro e w2 ⟨rfl, hb2⟩))
  go_ret
  exact ⟨rfl, yEz HB.out (yAz HBE.out hb2), yOz (yAz HBE.out hb2) _⟩

theorem m_finer (g : Nat) (u : Value) (ns : List Int) (a : List Int) (w : World) (hE : EnvAt w) (hb : BenchAt w g a) (hu : RdV w u ns) : Calls Tryz.prog 122 #[.pointer (some ⟨g, 0, none⟩), u] w (Works w g (a, cutNL (if finerIn a ns then sayYes else sayNot))) := by
  have HB := Lib.hid hb
  obtain ⟨v, hc, hf, hv⟩ := yKz hb
  have hF := iFinerIn_v v u a ns w hv hu
  obtain ⟨uo, uc, rfl, _, _, _⟩ := hu
  obtain ⟨q, hq⟩ : ∃ q, q = ns.length := ⟨_, rfl⟩
  rw [← hq] at hF ⊢
  clear hq
  obtain ⟨ao, ca, rfl, _, _, _⟩ := hv
  obtain ⟨m, hm⟩ : ∃ m, m = a.length := ⟨_, rfl⟩
  rw [← hm] at hF hc
  cases hr : finerIn a ns
  all_goals
    rw [hr] at hF
    have HF := Lib.hid hF
    clear hF hr hb hE hm
    go_enter Tryz.func122, Tryz.ntmps122
    go_wp2_with (go_at_call 189; (with_reducible refine HF.out.mono ?_); rintro e w1 ⟨rfl, hb1⟩)
    go_ret
    exact ⟨rfl, yEz HB.out hb1, yOz hb1 _⟩

theorem m_sign (g : Nat) (u : Value) (ns : List Int) (a : List Int) (w : World) (hE : EnvAt w) (hb : BenchAt w g a) (hu : RdV w u ns) : Calls Tryz.prog 123 #[.pointer (some ⟨g, 0, none⟩), u] w (Works w g (a, cutNL (oneL (finerSign a ns).1 (finerSign a ns).2))) := by
  obtain ⟨r, b, hr⟩ : ∃ r b, (r, b) = finerSign a ns := ⟨_, _, rfl⟩
  have HB := Lib.hid hb
  obtain ⟨v, hc, hf, hv⟩ := yKz hb
  have hF := iFinerSign_v v u a ns w  hv hu
  obtain ⟨uo, uc, rfl, _, _, _⟩ := hu
  obtain ⟨q, hq⟩ : ∃ q, q = ns.length := ⟨_, rfl⟩
  rw [← hq] at hF ⊢
  clear hq
  have hg := bd_sign a ns
  rw [← hr] at hF hg ⊢
  have HF := Lib.hid hF
  have HG := Lib.hid hg
  have HP := Lib.hid hE.2.2.1
  have HO := Lib.hid (fun w1 (h : PowAt w1) => ySz r b w1 HG.out h)
  obtain ⟨t, ht⟩ : ∃ t, t = cutNL (oneL r b) := ⟨_, rfl⟩
  rw [← ht] at HO ⊢
  obtain ⟨ao, ca, rfl, _, _, _⟩ := hv
  obtain ⟨m, hm⟩ : ∃ m, m = a.length := ⟨_, rfl⟩
  (try rw [← hm] at HF)
  rw [← hm] at hc
  clear hF hg hr hm hb hE ht
  go_enter Tryz.func123, Tryz.ntmps123
  go_wp2_with (first | (go_at_call 191; (with_reducible refine HF.out.mono ?_); rintro e w1 ⟨rfl, hb1⟩; have HBE : Hid (Below w.heap.size w w1) := Lib.hid hb1) | (go_at_call 190; (with_reducible refine (HO.out _ (yaz HP.out HBE.out)).mono ?_); rintro e w2 ⟨rfl, hb2⟩))
  go_ret
  exact ⟨rfl, yEz HB.out (yAz HBE.out hb2), yOz (yAz HBE.out hb2) _⟩

theorem m_inner (g : Nat) (u : Value) (ns : List Int) (a : List Int) (w : World) (hE : EnvAt w) (hb : BenchAt w g a) (hu : RdV w u ns) : Calls Tryz.prog 124 #[.pointer (some ⟨g, 0, none⟩), u] w (Works w g (a, cutNL (oneL (finerInterval a ns).1 (finerInterval a ns).2))) := by
  obtain ⟨r, b, hr⟩ : ∃ r b, (r, b) = finerInterval a ns := ⟨_, _, rfl⟩
  have HB := Lib.hid hb
  obtain ⟨v, hc, hf, hv⟩ := yKz hb
  have hF := iFinerInterval_v v u a ns w  hv hu
  obtain ⟨uo, uc, rfl, _, _, _⟩ := hu
  obtain ⟨q, hq⟩ : ∃ q, q = ns.length := ⟨_, rfl⟩
  rw [← hq] at hF ⊢
  clear hq
  have hg := bd_inner a ns
  rw [← hr] at hF hg ⊢
  have HF := Lib.hid hF
  have HG := Lib.hid hg
  have HP := Lib.hid hE.2.2.1
  have HO := Lib.hid (fun w1 (h : PowAt w1) => ySz r b w1 HG.out h)
  obtain ⟨t, ht⟩ : ∃ t, t = cutNL (oneL r b) := ⟨_, rfl⟩
  rw [← ht] at HO ⊢
  obtain ⟨ao, ca, rfl, _, _, _⟩ := hv
  obtain ⟨m, hm⟩ : ∃ m, m = a.length := ⟨_, rfl⟩
  (try rw [← hm] at HF)
  rw [← hm] at hc
  clear hF hg hr hm hb hE ht
  go_enter Tryz.func124, Tryz.ntmps124
  go_wp2_with (first | (go_at_call 192; (with_reducible refine HF.out.mono ?_); rintro e w1 ⟨rfl, hb1⟩; have HBE : Hid (Below w.heap.size w w1) := Lib.hid hb1) | (go_at_call 190; (with_reducible refine (HO.out _ (yaz HP.out HBE.out)).mono ?_); rintro e w2 ⟨rfl, hb2⟩))
  go_ret
  exact ⟨rfl, yEz HB.out (yAz HBE.out hb2), yOz (yAz HBE.out hb2) _⟩

theorem m_quarrel (g : Nat) (u : Value) (ns : List Int) (a : List Int) (w : World) (hE : EnvAt w) (hb : BenchAt w g a) (hu : RdV w u ns) : Calls Tryz.prog 125 #[.pointer (some ⟨g, 0, none⟩), u] w (Works w g (a, cutNL (oneL (viewQuarrel a ns).1 (viewQuarrel a ns).2))) := by
  obtain ⟨r, b, hr⟩ : ∃ r b, (r, b) = viewQuarrel a ns := ⟨_, _, rfl⟩
  have HB := Lib.hid hb
  obtain ⟨v, hc, hf, hv⟩ := yKz hb
  have hF := iViewQuarrel_v v u a ns w  hv hu
  obtain ⟨uo, uc, rfl, _, _, _⟩ := hu
  obtain ⟨q, hq⟩ : ∃ q, q = ns.length := ⟨_, rfl⟩
  rw [← hq] at hF ⊢
  clear hq
  have hg := bd_quarrel a ns
  rw [← hr] at hF hg ⊢
  have HF := Lib.hid hF
  have HG := Lib.hid hg
  have HP := Lib.hid hE.2.2.1
  have HO := Lib.hid (fun w1 (h : PowAt w1) => ySz r b w1 HG.out h)
  obtain ⟨t, ht⟩ : ∃ t, t = cutNL (oneL r b) := ⟨_, rfl⟩
  rw [← ht] at HO ⊢
  obtain ⟨ao, ca, rfl, _, _, _⟩ := hv
  obtain ⟨m, hm⟩ : ∃ m, m = a.length := ⟨_, rfl⟩
  (try rw [← hm] at HF)
  rw [← hm] at hc
  clear hF hg hr hm hb hE ht
  go_enter Tryz.func125, Tryz.ntmps125
  go_wp2_with (first | (go_at_call 193; (with_reducible refine HF.out.mono ?_); rintro e w1 ⟨rfl, hb1⟩; have HBE : Hid (Below w.heap.size w w1) := Lib.hid hb1) | (go_at_call 190; (with_reducible refine (HO.out _ (yaz HP.out HBE.out)).mono ?_); rintro e w2 ⟨rfl, hb2⟩))
  go_ret
  exact ⟨rfl, yEz HB.out (yAz HBE.out hb2), yOz (yAz HBE.out hb2) _⟩

theorem m_path (g : Nat) (u : Value) (ns : List Int) (a : List Int) (w : World) (hE : EnvAt w) (hb : BenchAt w g a) (hu : RdV w u ns) : Calls Tryz.prog 126 #[.pointer (some ⟨g, 0, none⟩), u] w (Works w g (a, cutNL (oneL (viewPath a ns).1 (viewPath a ns).2))) := by
  obtain ⟨r, b, hr⟩ : ∃ r b, (r, b) = viewPath a ns := ⟨_, _, rfl⟩
  have HB := Lib.hid hb
  obtain ⟨v, hc, hf, hv⟩ := yKz hb
  have hF := iViewPath_v v u a ns w  hv hu
  obtain ⟨uo, uc, rfl, _, _, _⟩ := hu
  obtain ⟨q, hq⟩ : ∃ q, q = ns.length := ⟨_, rfl⟩
  rw [← hq] at hF ⊢
  clear hq
  have hg := bd_path a ns
  rw [← hr] at hF hg ⊢
  have HF := Lib.hid hF
  have HG := Lib.hid hg
  have HP := Lib.hid hE.2.2.1
  have HO := Lib.hid (fun w1 (h : PowAt w1) => ySz r b w1 HG.out h)
  obtain ⟨t, ht⟩ : ∃ t, t = cutNL (oneL r b) := ⟨_, rfl⟩
  rw [← ht] at HO ⊢
  obtain ⟨ao, ca, rfl, _, _, _⟩ := hv
  obtain ⟨m, hm⟩ : ∃ m, m = a.length := ⟨_, rfl⟩
  (try rw [← hm] at HF)
  rw [← hm] at hc
  clear hF hg hr hm hb hE ht
  go_enter Tryz.func126, Tryz.ntmps126
  go_wp2_with (first | (go_at_call 194; (with_reducible refine HF.out.mono ?_); rintro e w1 ⟨rfl, hb1⟩; have HBE : Hid (Below w.heap.size w w1) := Lib.hid hb1) | (go_at_call 190; (with_reducible refine (HO.out _ (yaz HP.out HBE.out)).mono ?_); rintro e w2 ⟨rfl, hb2⟩))
  go_ret
  exact ⟨rfl, yEz HB.out (yAz HBE.out hb2), yOz (yAz HBE.out hb2) _⟩

theorem m_moves (g : Nat) (u : Value) (ns : List Int) (a : List Int) (w : World) (hE : EnvAt w) (hb : BenchAt w g a) (hu : RdV w u ns) : Calls Tryz.prog 127 #[.pointer (some ⟨g, 0, none⟩), u] w (Works w g (a, cutNL (oneL (viewMoves a ns).1 (viewMoves a ns).2))) := by
  obtain ⟨r, b, hr⟩ : ∃ r b, (r, b) = viewMoves a ns := ⟨_, _, rfl⟩
  have HB := Lib.hid hb
  obtain ⟨v, hc, hf, hv⟩ := yKz hb
  have hF := iViewMoves_v v u a ns w hE.1 hv hu
  obtain ⟨uo, uc, rfl, _, _, _⟩ := hu
  obtain ⟨q, hq⟩ : ∃ q, q = ns.length := ⟨_, rfl⟩
  rw [← hq] at hF ⊢
  clear hq
  have hg := bd_moves a ns
  rw [← hr] at hF hg ⊢
  have HF := Lib.hid hF
  have HG := Lib.hid hg
  have HP := Lib.hid hE.2.2.1
  have HO := Lib.hid (fun w1 (h : PowAt w1) => ySz r b w1 HG.out h)
  obtain ⟨t, ht⟩ : ∃ t, t = cutNL (oneL r b) := ⟨_, rfl⟩
  rw [← ht] at HO ⊢
  obtain ⟨ao, ca, rfl, _, _, _⟩ := hv
  obtain ⟨m, hm⟩ : ∃ m, m = a.length := ⟨_, rfl⟩
  (try rw [← hm] at HF)
  rw [← hm] at hc
  clear hF hg hr hm hb hE ht
  go_enter Tryz.func127, Tryz.ntmps127
  go_wp2_with (first | (go_at_call 195; (with_reducible refine HF.out.mono ?_); rintro e w1 ⟨rfl, hb1⟩; have HBE : Hid (Below w.heap.size w w1) := Lib.hid hb1) | (go_at_call 190; (with_reducible refine (HO.out _ (yaz HP.out HBE.out)).mono ?_); rintro e w2 ⟨rfl, hb2⟩))
  go_ret
  exact ⟨rfl, yEz HB.out (yAz HBE.out hb2), yOz (yAz HBE.out hb2) _⟩

theorem m_number (g : Nat) (bb off uc : Nat) (x y : Int) (a : List Int) (w : World) (hE : EnvAt w) (hb : BenchAt w g a) (hx : w.cell? ⟨bb, off, none⟩ = some (.int .i64 x)) (hy : w.cell? ⟨bb, off + 1, none⟩ = some (.int .i64 y)) (wx : (Lit.int .i64 x).wf = true) (wy : (Lit.int .i64 y).wf = true) : Calls Tryz.prog 128 #[.pointer (some ⟨g, 0, none⟩), .slice (some ⟨bb, off, none⟩) 2 uc] w (Works w g (a, cutNL (oneL (numBy (ext fB) x y).1 (numBy (ext fB) x y).2))) := by
  obtain ⟨r, b, hr⟩ : ∃ r b, (r, b) = numBy (ext fB) x y := ⟨_, _, rfl⟩
  have HB := Lib.hid hb
  obtain ⟨v, hc, hf, hv⟩ := yKz hb
  have hF := fun (w0 : World) (_ : Same w w0) => iNumberBlocks_v x y w0 wx wy
  have hg := bd_number x y
  rw [← hr] at hF hg ⊢
  have HF := Lib.hid hF
  have HG := Lib.hid hg
  have HP := Lib.hid hE.2.2.1
  have HO := Lib.hid (fun w1 (h : PowAt w1) => ySz r b w1 HG.out h)
  obtain ⟨t, ht⟩ : ∃ t, t = cutNL (oneL r b) := ⟨_, rfl⟩
  rw [← ht] at HO ⊢
  obtain ⟨ao, ca, rfl, _, _, _⟩ := hv
  obtain ⟨m, hm⟩ : ∃ m, m = a.length := ⟨_, rfl⟩
  (try rw [← hm] at HF)
  rw [← hm] at hc
  clear hF hg hr hm hb hE ht
  go_enter Tryz.func128, Tryz.ntmps128
  go_wp2_with fail
  go_region_with (first | (go_at_call 196; (with_reducible refine (HF.out _ (same_drew w)).mono ?_); rintro e w1 ⟨rfl, hb1⟩; have HBE : Hid (Below w.heap.size w w1) := Lib.hid (yAz (below_drewN (Below.refl _ w) 1) hb1)) | (go_at_call 190; (with_reducible refine (HO.out _ (yaz HP.out HBE.out)).mono ?_); rintro e w2 ⟨rfl, hb2⟩))
  all_goals go_wp2
  all_goals go_ret
  all_goals exact ⟨rfl, yEz HB.out (yAz HBE.out hb2), yOz (yAz HBE.out hb2) _⟩

theorem m_all (g : Nat) (bb off uc : Nat) (x : Int) (a : List Int) (w : World) (hE : EnvAt w) (hb : BenchAt w g a) (hx : w.cell? ⟨bb, off, none⟩ = some (.int .i64 x)) (wx : (Lit.int .i64 x).wf = true) : Calls Tryz.prog 129 #[.pointer (some ⟨g, 0, none⟩), .slice (some ⟨bb, off, none⟩) 1 uc] w (Works w g (a, cutNL (oneL (numAll x).1 (numAll x).2))) := by
  obtain ⟨r, b, hr⟩ : ∃ r b, (r, b) = numAll x := ⟨_, _, rfl⟩
  have HB := Lib.hid hb
  obtain ⟨v, hc, hf, hv⟩ := yKz hb
  have hF := iNumberAll_v x w wx
  have hg := bd_all x
  rw [← hr] at hF hg ⊢
  have HF := Lib.hid hF
  have HG := Lib.hid hg
  have HP := Lib.hid hE.2.2.1
  have HO := Lib.hid (fun w1 (h : PowAt w1) => ySz r b w1 HG.out h)
  obtain ⟨t, ht⟩ : ∃ t, t = cutNL (oneL r b) := ⟨_, rfl⟩
  rw [← ht] at HO ⊢
  obtain ⟨ao, ca, rfl, _, _, _⟩ := hv
  obtain ⟨m, hm⟩ : ∃ m, m = a.length := ⟨_, rfl⟩
  (try rw [← hm] at HF)
  rw [← hm] at hc
  clear hF hg hr hm hb hE ht
  go_enter Tryz.func129, Tryz.ntmps129
  go_wp2_with (first | (go_at_call 197; (with_reducible refine HF.out.mono ?_); rintro e w1 ⟨rfl, hb1⟩; have HBE : Hid (Below w.heap.size w w1) := Lib.hid hb1) | (go_at_call 190; (with_reducible refine (HO.out _ (yaz HP.out HBE.out)).mono ?_); rintro e w2 ⟨rfl, hb2⟩))
  go_ret
  exact ⟨rfl, yEz HB.out (yAz HBE.out hb2), yOz (yAz HBE.out hb2) _⟩

theorem m_plain (g : Nat) (bb off uc : Nat) (x : Int) (a : List Int) (w : World) (hE : EnvAt w) (hb : BenchAt w g a) (hx : w.cell? ⟨bb, off, none⟩ = some (.int .i64 x)) (wx : (Lit.int .i64 x).wf = true) : Calls Tryz.prog 130 #[.pointer (some ⟨g, 0, none⟩), .slice (some ⟨bb, off, none⟩) 1 uc] w (Works w g (a, cutNL (oneL (arcPlain x).1 (arcPlain x).2))) := by
  obtain ⟨r, b, hr⟩ : ∃ r b, (r, b) = arcPlain x := ⟨_, _, rfl⟩
  have HB := Lib.hid hb
  obtain ⟨v, hc, hf, hv⟩ := yKz hb
  have hF := iArcPlain_v x w wx
  have hg := bd_plain x
  rw [← hr] at hF hg ⊢
  have HF := Lib.hid hF
  have HG := Lib.hid hg
  have HP := Lib.hid hE.2.2.1
  have HO := Lib.hid (fun w1 (h : PowAt w1) => ySz r b w1 HG.out h)
  obtain ⟨t, ht⟩ : ∃ t, t = cutNL (oneL r b) := ⟨_, rfl⟩
  rw [← ht] at HO ⊢
  obtain ⟨ao, ca, rfl, _, _, _⟩ := hv
  obtain ⟨m, hm⟩ : ∃ m, m = a.length := ⟨_, rfl⟩
  (try rw [← hm] at HF)
  rw [← hm] at hc
  clear hF hg hr hm hb hE ht
  go_enter Tryz.func130, Tryz.ntmps130
  go_wp2_with (first | (go_at_call 198; (with_reducible refine HF.out.mono ?_); rintro e w1 ⟨rfl, hb1⟩; have HBE : Hid (Below w.heap.size w w1) := Lib.hid hb1) | (go_at_call 190; (with_reducible refine (HO.out _ (yaz HP.out HBE.out)).mono ?_); rintro e w2 ⟨rfl, hb2⟩))
  go_ret
  exact ⟨rfl, yEz HB.out (yAz HBE.out hb2), yOz (yAz HBE.out hb2) _⟩
end

section
open Go.RowKit
open Go.ChangeMaps (setBlock heap_setBlock_same heap_setBlock_other)

theorem str_law : Maps.Keyed Tryz.prog 9 := Maps.string_keyed Tryz.underlying9
theorem str_key (k : List UInt8) (hk : k.length ≤ 1000) : ∃ l, keyOf Tryz.prog 9 (strV k) = some l :=
  ⟨_, Go.WideMaps.keyOf_string_mk Tryz.underlying9 (by unfold maxLen; show k.toArray.size ≤ _; simp; omega)⟩

def WordsAt (w0 w : World) (mb : Nat) (L : List (List UInt8 × Value)) : Prop := (∀ p ∈ L, p.1.length ≤ 1000) ∧ w0.heap.size ≤ mb ∧ Below w0.heap.size w0 w ∧
  ∃ es clock, w.heap[mb]? = some (.map es clock) ∧ es.toList.map (fun e => (e.key, e.val)) = L.map (fun p => (strV p.1, p.2))
theorem words_new (w : World) : WordsAt w (w.alloc (.map #[] 0)) w.heap.size [] :=
  ⟨fun p hp => (by cases hp), Nat.le_refl _, (Below.refl _ _).alloc (Nat.le_refl _) _, #[], 0, heap_alloc_new w _, rfl⟩
theorem words_mem {es : List MapEntry} {L : List (List UInt8 × Value)} (h : es.map (fun e => (e.key, e.val)) = L.map (fun p => (strV p.1, p.2))) {e : MapEntry} (he : e ∈ es) : ∃ p ∈ L, e.key = strV p.1 ∧ e.val = p.2 := by
  have : (e.key, e.val) ∈ es.map (fun e => (e.key, e.val)) := List.mem_map.2 ⟨e, he, rfl⟩
  rw [h] at this
  obtain ⟨p, hp, hq⟩ := List.mem_map.1 this
  simp only [Prod.mk.injEq] at hq
  exact ⟨p, hp, hq.1.symm, hq.2.symm⟩
theorem words_keys {es : List MapEntry} {L : List (List UInt8 × Value)} (hL : ∀ p ∈ L, p.1.length ≤ 1000) (h : es.map (fun e => (e.key, e.val)) = L.map (fun p => (strV p.1, p.2))) : ∀ x ∈ es, ∃ l, keyOf Tryz.prog 9 x.key = some l := fun x hx => by
  obtain ⟨p, hp, e, _⟩ := words_mem h hx
  rw [e]
  exact str_key p.1 (hL p hp)
theorem strV_inj {k l : List UInt8} (h : strV k = strV l) : k = l := by
  injection h with h
  exact str_inj h

theorem words_put {T E : TypeId} (hT : Tryz.prog.underlying T = some (.map 9 E)) {w0 w : World} {mb : Nat} {L : List (List UInt8 × Value)} (h : WordsAt w0 w mb L) (k : List UInt8) (hk : k.length ≤ 1000) (v : Value) (hn : ∀ p ∈ L, p.1 ≠ k) :
    ∃ w', (Instr.mapUpdate T (.map (some mb)) (strV k) v).run Tryz.prog w = .ok () w' ∧ WordsAt w0 w' mb (L ++ [(k, v)]) := by
  obtain ⟨hl, hB, hbel, es, clock, hb, hes⟩ := h
  obtain ⟨lk, hlk⟩ := str_key k hk
  have hgr : ∀ es' clock', w.grownBy (setBlock w mb (.map es' clock')) (some mb) := fun es' clock' =>
    ⟨rfl, rfl, rfl, by simp [setBlock], fun i _ hi => heap_setBlock_other hb _ (fun e => hi (by rw [e]))⟩
  rcases str_law.find w hlk es.toList (words_keys hl hes) with ⟨h1, h2⟩ | ⟨j, e0, h1, h2, h3⟩
  · refine ⟨setBlock w mb (.map (es.push ⟨strV k, v, clock⟩) (clock + 1)), by simp [Instr.mapUpdate, run_underlying hT, MapKept.run_getObj_map hb, str_law.check w false hlk, h1, MapKept.run_setObj_map _ hb, Result.andThen, setBlock], ?_, hB, hbel.grown (hgr _ _) hbel.size (fun q hq => by cases hq; exact hB), _, _, heap_setBlock_same hb _, ?_⟩
    · intro p hp
      rcases List.mem_append.1 hp with h | h
      · exact hl p h
      · rw [List.mem_singleton.1 h]; exact hk
    · rw [Array.toList_push, List.map_append, List.map_append, hes]
      rfl
  · exfalso
    obtain ⟨p, hp, e, _⟩ := words_mem hes (List.mem_of_getElem? h2)
    rw [h3] at e
    exact hn p hp (strV_inj e).symm
theorem words_look {T E : TypeId} (hT : Tryz.prog.underlying T = some (.map 9 E)) {w0 w : World} {mb : Nat} {L : List (List UInt8 × Value)} (h : WordsAt w0 w mb L) (k : List UInt8) (hk : k.length ≤ 1000) (z : Value) (hz : (zeroValue E).run Tryz.prog w = .ok z w) :
    ((∀ p ∈ L, p.1 ≠ k) ∧ (Instr.lookup T (.map (some mb)) (strV k) true).run Tryz.prog w = .ok (.tuple #[z, .bool false]) w) ∨
    ∃ v, (k, v) ∈ L ∧ (Instr.lookup T (.map (some mb)) (strV k) true).run Tryz.prog w = .ok (.tuple #[v, .bool true]) w := by
  obtain ⟨hl, hB, hbel, es, clock, hb, hes⟩ := h
  obtain ⟨lk, hlk⟩ := str_key k hk
  rcases str_law.find w hlk es.toList (words_keys hl hes) with ⟨h1, h2⟩ | ⟨j, e0, h1, h2, h3⟩
  · refine .inl ⟨fun p hp e => ?_, by simp [Instr.lookup, run_underlying hT, MapKept.run_getObj_map hb, str_law.check w _ hlk, h1, hz, Result.andThen]⟩
    have : (strV p.1, p.2) ∈ es.toList.map (fun e => (e.key, e.val)) := by rw [hes]; exact List.mem_map.2 ⟨p, hp, rfl⟩
    obtain ⟨x, hx, hq⟩ := List.mem_map.1 this
    simp only [Prod.mk.injEq] at hq
    exact h2 x hx (by rw [hq.1, e])
  · obtain ⟨p, hp, e, e2⟩ := words_mem hes (List.mem_of_getElem? h2)
    rw [h3] at e
    have hpk : p.1 = k := (strV_inj e).symm
    refine .inr ⟨p.2, by rw [← hpk]; exact hp, by simp [Instr.lookup, run_underlying hT, MapKept.run_getObj_map hb, str_law.check w _ hlk, h1, e2, Result.andThen]⟩

section
variable {w : World} {ops : Array Oper} {rest : List Oper} {o : Oper} {a : Act} {Q : Exit → Act → World → Prop}
theorem wpList_wordPut (hg : o.guard = none) (T : TypeId) (m x v : Operand) (hop : o.op = Op.insert T m x v) {E : TypeId} (hT : Tryz.prog.underlying T = some (.map 9 E)) {w0 : World} {mb : Nat} {L : List (List UInt8 × Value)} (h : WordsAt w0 w mb L) (k : List UInt8) (val : Value) (hk : k.length ≤ 1000) (hn : (L.map (·.1)).contains k = false)
    (hm : a.eval m = .map (some mb)) (hx : a.eval x = strV k) (hv : a.eval v = val) (hK : ∀ w', WordsAt w0 w' mb (L ++ [(k, val)]) → wpList Tryz.prog ops Q rest (a.put o.dst undef) w') : wpList Tryz.prog ops Q (o :: rest) a w := by
  refine wpList_plain hg fun K' hK' => ?_
  obtain ⟨w', hrun, h1⟩ := words_put hT h k hk val (fun p hp e => by
    have : (L.map (·.1)).contains k = true := List.contains_iff_mem.2 (List.mem_map.2 ⟨p, hp, e⟩)
    rw [hn] at this
    cases this)
  unfold Oper.wp
  simp [execOp, hop, hm, hx, hv, hrun, Result.andThen]
  exact hK' _ _ (hK w' h1)
end

def fnV (f : FuncId) : Value := .func (.func f) #[] #[]
def aloneTab : List (List UInt8 × Value) := [([116, 117, 114, 110, 101, 100], fnV 133), ([110, 101, 120, 116], fnV 134), ([98, 101, 102, 111, 114, 101], fnV 135), ([115, 104, 111, 119], fnV 136), ([98, 108, 111, 99, 107, 115], fnV 137), ([116, 121, 112, 101], fnV 138), ([115, 105, 122, 101], fnV 139), ([114, 97, 110, 107], fnV 140), ([109, 101, 114, 103, 101, 115], fnV 141), ([115, 112, 108, 105, 116, 115], fnV 142), ([99, 104, 97, 105, 110, 115], fnV 143), ([112, 108, 97, 99, 101], fnV 144), ([97, 114, 99, 115], fnV 145), ([99, 114, 111, 115, 115], fnV 146), ([110, 101, 115, 116], fnV 147), ([102, 97, 114], fnV 148), ([114, 105, 110, 103], fnV 149), ([99, 111, 117, 110, 116], fnV 150), ([112, 97, 105, 114, 115], fnV 151)]
def numTab : List (List UInt8 × Value) := [([112, 97, 114, 116], .agg #[.int .i64 0, fnV 114]), ([107, 101, 114, 110, 101, 108], .agg #[.int .i64 0, fnV 115]), ([97, 116], .agg #[.int .i64 2, fnV 116]), ([112, 117, 116], .agg #[.int .i64 1, fnV 117]), ([100, 114, 111, 112], .agg #[.int .i64 1, fnV 118]), ([109, 101, 101, 116], .agg #[.int .i64 0, fnV 119]), ([106, 111, 105, 110], .agg #[.int .i64 0, fnV 120]), ([114, 105, 110, 103, 115], .agg #[.int .i64 0, fnV 121]), ([102, 105, 110, 101, 114], .agg #[.int .i64 0, fnV 122]), ([115, 105, 103, 110], .agg #[.int .i64 0, fnV 123]), ([105, 110, 110, 101, 114], .agg #[.int .i64 0, fnV 124]), ([113, 117, 97, 114, 114, 101, 108], .agg #[.int .i64 0, fnV 125]), ([112, 97, 116, 104], .agg #[.int .i64 0, fnV 126]), ([109, 111, 118, 101, 115], .agg #[.int .i64 0, fnV 127]), ([110, 117, 109, 98, 101, 114], .agg #[.int .i64 2, fnV 128]), ([97, 108, 108], .agg #[.int .i64 1, fnV 129]), ([112, 108, 97, 105, 110], .agg #[.int .i64 1, fnV 130])]

set_option maxHeartbeats 4000000 in
theorem wordsAlone_v (w : World) : Calls Tryz.prog 73 #[] w fun e w' => ∃ mb, e = .returned (.map (some mb)) ∧ WordsAt w w' mb aloneTab := by
  have hmm := @run_makeMap Tryz.prog
  have hW0 := words_new w
  go_enter Tryz.func73, Tryz.ntmps73
  go_wp2_with (refine wpList_wordPut rfl _ _ _ _ rfl Tryz.underlying106 hW0 _ _ (by decide) (by rfl) rfl rfl rfl ?_; clear hW0; intro w9 hW0)
  go_ret
  exact ⟨_, rfl, hW0⟩
end

section
open Go.RowKit

set_option maxHeartbeats 4000000 in
theorem wordsWith_v (w : World) : Calls Tryz.prog 71 #[] w fun e w' => ∃ mb, e = .returned (.map (some mb)) ∧ WordsAt w w' mb numTab := by
  have hmm := @run_makeMap Tryz.prog
  have hW0 := words_new w
  go_enter Tryz.func71, Tryz.ntmps71
  go_wp2_with (refine wpList_wordPut rfl _ _ _ _ rfl Tryz.underlying101 hW0 _ _ (by decide) (by rfl) rfl rfl rfl ?_; clear hW0; intro w9 hW0)
  go_ret
  exact ⟨_, rfl, hW0⟩
end

section
open Go.RowKit

def badV (t : List UInt8) : Value := .iface 73 (.agg #[strV t])
def noT : List UInt8 := [110, 111]
def Bad (w : World) (t : List UInt8) (e : Ending) (w' : World) : Prop := e = .panicked [{ v := badV t, recovered := false }] ∧ Below w.heap.size w w'

def NumOut (w : World) (l : List UInt8) (e : Ending) (w' : World) : Prop := (okNum l = true ∧ GivesI w (valFrom 0 l) e w') ∨ (okNum l = false ∧ Bad w noT e w')
end

section
open Go.RowKit Go.Shelf

def FS : Fence := { fn := fun f => ∃ fn, Tryz.prog.funcs[f]? = some fn }

theorem fs_room (k : Nat) : FS.room k := fun d hd => by cases hd

theorem hib (l : List UInt8) (w : World) : (callFunc 224 #[strV l, .int .u8 32]).run Tryz.prog w = .ok (.value (.int .i64 (Lib.index l [32]))) w := by
  rw [run_callFunc_extern Tryz.func224 (by kernel_rfl) (by kernel_rfl) (by kernel_rfl) (e := Extern.BytealgIndexByte.indexByte) (by kernel_rfl), Lib.run_indexByteString, Lib.index_one]
  simp [Result.andThen]

theorem indexByte_in (n : Nat) (l : List UInt8) (w : World) : CallsIn FS n Tryz.prog 177 #[strV l, .int .u8 32] w fun e w' => e = .returned (.int .i64 (Lib.index l [32])) ∧ w' = w := by
  have hfs3 : FS.fn 224 := ⟨_, Tryz.func224⟩
  have hro : FS.round = none := rfl
  have hde : FS.depth = none := rfl
  have HB := hib l
  refine callsIn_of_wp Tryz.func177 rfl ⟨_, Tryz.func177⟩ ?_ rfl
  simp only [Tryz.ntmps177, List.size_toArray, List.length_cons, List.length_nil, Nat.reduceAdd, Nat.reduceSub, Array.replicate_succ, Array.replicate_zero, List.push_toArray, List.append_toArray, List.nil_append, List.cons_append]
  gi_wp2
  go_ret
  exact ⟨rfl, rfl⟩

theorem liteIndex_in (n : Nat) (l : List UInt8) (w : World) : CallsIn FS n Tryz.prog 113 #[strV l, strV [32]] w fun e w' => e = .returned (.int .i64 (Lib.index l [32])) ∧ w' = w := by
  have hfs3 : FS.fn 177 := ⟨_, Tryz.func177⟩
  have hro : FS.round = none := rfl
  have hde : FS.depth = none := rfl
  by_cases he : l = [32]
  · subst he
    have h0 : Lib.index [32] [32] = 0 := Lib.index_self _
    rw [h0]
    refine callsIn_of_wp Tryz.func113 rfl ⟨_, Tryz.func113⟩ ?_ rfl
    simp only [Tryz.ntmps113, List.size_toArray, List.length_cons, List.length_nil, Nat.reduceAdd, Nat.reduceSub, Array.replicate_succ, Array.replicate_zero, List.push_toArray, List.append_toArray, List.nil_append, List.cons_append]
    gi_wp2
    go_ret
    exact ⟨rfl, rfl⟩
  · have he2 : ([32] == l) = false := beq_eq_false_iff_ne.2 (fun h => he h.symm)
    refine callsIn_of_wp Tryz.func113 rfl ⟨_, Tryz.func113⟩ ?_ rfl
    simp only [Tryz.ntmps113, List.size_toArray, List.length_cons, List.length_nil, Nat.reduceAdd, Nat.reduceSub, Array.replicate_succ, Array.replicate_zero, List.push_toArray, List.append_toArray, List.nil_append, List.cons_append]
    gi_wp2_with (gi_at_call 177; refine (indexByte_in _ l _).mono ?_; rintro e w' ⟨rfl, rfl⟩)
    go_ret
    exact ⟨rfl, rfl⟩

theorem index_in (n : Nat) (l : List UInt8) (w : World) : CallsIn FS n Tryz.prog 68 #[strV l, strV [32]] w fun e w' => e = .returned (.int .i64 (Lib.index l [32])) ∧ w' = w := by
  have hfs1 : FS.fn 113 := ⟨_, Tryz.func113⟩
  have hro : FS.round = none := rfl
  have hde : FS.depth = none := rfl
  refine callsIn_of_wp Tryz.func68 rfl ⟨_, Tryz.func68⟩ ?_ rfl
  simp only [Tryz.ntmps68, List.size_toArray, List.length_cons, List.length_nil, Nat.reduceAdd, Nat.reduceSub, Array.replicate_succ, Array.replicate_zero, List.push_toArray, List.append_toArray, List.nil_append, List.cons_append]
  gi_wp2_with (gi_at_call 113; refine (liteIndex_in _ l _).mono ?_; rintro e w' ⟨rfl, rfl⟩)
  go_ret
  exact ⟨rfl, rfl⟩

theorem numberIn_longF (n : Nat) (l : List UInt8) (w : World) (h : l = [] ∨ 3 < l.length) (hl : l.length ≤ 1000) : CallsIn FS n Tryz.prog 132 #[strV l] w (Bad w noT) := by
  rcases h with rfl | h
  · have hro : FS.round = none := rfl
    have hde : FS.depth = none := rfl
    refine callsIn_of_wp Tryz.func132 rfl ⟨_, Tryz.func132⟩ ?_ rfl
    simp only [Tryz.ntmps132, List.size_toArray, List.length_cons, List.length_nil, Nat.reduceAdd, Nat.reduceSub, Array.replicate_succ, Array.replicate_zero, List.push_toArray, List.append_toArray, List.nil_append, List.cons_append]
    gi_wp2
    exact ⟨rfl, rfl, Below.refl _ _⟩
  · have h1 : (l == []) = false := by
      cases l
      · simp at h
      · rfl
    have h2 : decide ((3 : Int) < (l.length : Int)) = true := by simp; omega
    have hro : FS.round = none := rfl
    have hde : FS.depth = none := rfl
    refine callsIn_of_wp Tryz.func132 rfl ⟨_, Tryz.func132⟩ ?_ rfl
    simp only [Tryz.ntmps132, List.size_toArray, List.length_cons, List.length_nil, Nat.reduceAdd, Nat.reduceSub, Array.replicate_succ, Array.replicate_zero, List.push_toArray, List.append_toArray, List.nil_append, List.cons_append]
    gi_wp2
    exact ⟨rfl, rfl, Below.refl _ _⟩

set_option maxHeartbeats 4000000 in
theorem numberIn_shortF (nn : Nat) (l : List UInt8) (w : World) (ha : 1 ≤ l.length) (hb : l.length ≤ 3) : CallsIn FS nn Tryz.prog 132 #[strV l] w (NumOut w l) := by
  have h1 : (l == []) = false := by
    cases l
    · simp at ha
    · rfl
  have hcv := run_bytes_of_string (P := Tryz.prog) w 9 22 5 ⟨l.toArray⟩ Tryz.underlying9 Tryz.underlying22 Tryz.underlying5
  have hsz : (⟨l.toArray⟩ : ByteArray).size = l.length := rfl
  rw [hsz] at hcv
  obtain ⟨C, hC⟩ : ∃ C, C = grownCap w l.length 0 5 := ⟨_, rfl⟩
  rw [← hC] at hcv
  obtain ⟨w1, hw1⟩ : ∃ w1, w1 = (w.drew.alloc (.cells (bytesRow ⟨l.toArray⟩ C) 5 ((bytesRow ⟨l.toArray⟩ C).size, (bytesRow ⟨l.toArray⟩ C).size + 1))) := ⟨_, rfl⟩
  have hbel : Below w.heap.size w w1 := by rw [hw1]; exact (Below.refl _ w).drew.alloc (Nat.le_refl _) _
  have HC : Hid (∀ (j : Nat) (h : j < l.length), w1.cell? ⟨w.heap.size, j, none⟩ = some (.int .u8 (l[j].toNat : Int))) := Lib.hid fun j h => by
    rw [hw1]
    have := World.cell?_alloc_mark w.drew (bytesRow ⟨l.toArray⟩ C) 5 ((bytesRow ⟨l.toArray⟩ C).size, (bytesRow ⟨l.toArray⟩ C).size + 1) j
    rw [bytesRow_at ⟨l.toArray⟩ C j (by simpa using h)] at this
    exact this
  rw [← hw1] at hcv
  obtain ⟨n, hn⟩ : ∃ n, n = l.length := ⟨_, rfl⟩
  rw [← hn] at hcv ha hb
  have HN := Lib.hid hn
  have hlen : (⟨l.toArray⟩ : ByteArray).size = n := by rw [hn]; rfl
  have hdl : l.toArray.size = n := by rw [hn]; rfl
  have hll : l.length = n := hn.symm
  clear hC hw1 hn hsz
  have hro : FS.round = none := rfl
  have hde : FS.depth = none := rfl
  refine callsIn_of_wp Tryz.func132 rfl ⟨_, Tryz.func132⟩ ?_ rfl
  simp only [Tryz.ntmps132, List.size_toArray, List.length_cons, List.length_nil, Nat.reduceAdd, Nat.reduceSub, Array.replicate_succ, Array.replicate_zero, List.push_toArray, List.append_toArray, List.nil_append, List.cons_append]
  gi_wp2
  gi_loopw [3, 18] (fun v q wr => ∃ p : Nat, wr = w1 ∧ p ≤ n ∧ q = .int .i64 p ∧ v = .int .i64 (valFrom 0 (l.take p)) ∧ (l.take p).all isDig = true) (fun _ q _ => n - (intOf q).toNat)
  case atStart => exact ⟨0, rfl, Nat.zero_le _, rfl, rfl, rfl⟩
  case round =>
    obtain ⟨p, rfl, hp, rfl, rfl, hall⟩ := hrel
    by_cases hpn : p < n
    · have hpl : p < l.length := by omega
      have hcell := HC.out p hpl
      have hsn : l.take (p + 1) = l.take p ++ [l[p]] := List.take_succ_eq_append_getElem hpl
      have hmem : l[p] ∈ l := List.getElem_mem hpl
      obtain ⟨d, hd⟩ : ∃ d, d = l[p] := ⟨_, rfl⟩
      rw [← hd] at hcell hsn hmem
      by_cases hdig : 48 ≤ d.toNat ∧ d.toNat ≤ 57
      · obtain ⟨hd1, hd2⟩ := hdig
        have t1 : decide ((d.toNat : Int) < 48) = false := by simp; omega
        have t2 : decide ((57 : Int) < (d.toNat : Int)) = false := by simp; omega
        have hv := val_99 hall (by rw [List.length_take]; omega)
        have HVN : Hid (valFrom 0 (l.take (p + 1)) = 10 * valFrom 0 (l.take p) + ((d.toNat : Int) - 48)) := Lib.hid (by rw [hsn, valFrom_snoc])
        have HALL : Hid ((l.take (p + 1)).all isDig = true) := Lib.hid (by rw [hsn, List.all_append, hall]; simp [(dig_iff d).2 ⟨hd1, hd2⟩])
        have hw8 : IntKind.u8.wrap ((d.toNat : Int) - 48) = (d.toNat : Int) - 48 := by
          simp [IntKind.wrap, IntKind.bits, IntKind.signed]
          omega
        obtain ⟨V, hV⟩ : ∃ V, V = valFrom 0 (l.take p) := ⟨_, rfl⟩
        rw [← hV] at hv HVN ⊢
        clear hV hsn hmem hall hpl hd hll
        gi_wp2
        all_goals
          go_roundw
          case rel => exact ⟨p + 1, by first | rfl | trivial, by omega, by go_num, by rw [HVN.out]; go_num, HALL.out⟩
          case measure => simp [intOf]; omega
      · have HF : Hid (okNum l = false) := Lib.hid (by
          unfold okNum
          have : l.all isDig = false := by
            rw [Bool.eq_false_iff]
            intro h
            exact hdig ((dig_iff d).1 (List.all_eq_true.1 h d hmem))
          rw [this, Bool.and_false])
        clear hsn hmem hall hpl hd hll
        by_cases hd1 : d.toNat < 48
        · have t1 : decide ((d.toNat : Int) < 48) = true := by simp; omega
          clear hdig
          gi_wp2
          exact ⟨rfl, .inr ⟨HF.out, rfl, hbel⟩⟩
        · have t1 : decide ((d.toNat : Int) < 48) = false := by simp; omega
          have t2 : decide ((57 : Int) < (d.toNat : Int)) = true := by simp; omega
          clear hdig
          gi_wp2
          exact ⟨rfl, .inr ⟨HF.out, rfl, hbel⟩⟩
    · obtain rfl : p = n := by omega
      have htk : l.take p = l := by rw [← hll, List.take_length]
      rw [htk] at hall ⊢
      have HOK : Hid (okNum l = true) := Lib.hid (by unfold okNum; rw [hall, hll]; simp; omega)
      clear hall htk hll
      gi_wp2
      go_ret
      exact .inl ⟨HOK.out, rfl, hbel⟩

theorem numberIn_in (n : Nat) (l : List UInt8) (w : World) (hl : l.length ≤ 1000) : CallsIn FS n Tryz.prog 132 #[strV l] w (NumOut w l) := by
  by_cases h : 1 ≤ l.length ∧ l.length ≤ 3
  · exact numberIn_shortF n l w h.1 h.2
  · have hno : okNum l = false := by unfold okNum; rw [decide_eq_false h, Bool.false_and]
    refine (numberIn_longF n l w ?_ hl).mono fun e w' hb => .inr ⟨hno, hb⟩
    rcases Nat.eq_zero_or_pos l.length with h0 | h0
    · exact .inl (List.eq_nil_of_length_eq_zero h0)
    · exact .inr (by omega)
end

section
open Go Go.RowKit
variable {F : Fence} {n : Nat} {P : Program}

def endsP (P : Program) (l : Nat) (R : Ending → World → Prop) : Exit → Act → World → Prop
  | .normal, _, w => ∃ v w', (Instr.endRound l none).run P w = .ok v w' ∧ R (.returned v) w'
  | .panic chain, a, w => a.defers = [] ∧ R (.panicked chain) w
  | _, _, _ => False

theorem round_ends {l : Nat} {f : FuncId} {fn : Func} {tmps : Array Value} {assign body : Code} {w : World} {R : Ending → World → Prop} (hF : F.fn f) (hfn : P.funcs[f]? = some fn)
    (h : assign.wpIn (F.inRound l) n P (Exit.then (fun a1 w1 => ∃ w2, (Instr.beginRound l).run P w1 = .ok () w2 ∧ body.wpIn (F.inRound l) n P (endsP P l R) a1 w2) (fun _ _ _ => False))
      { tmps := tmps, defers := [] } w) :
    RoundIn F n P l f tmps assign body w R := by
  refine ⟨hF, fun c cs hr => ?_⟩
  obtain ⟨b, hb⟩ : ∃ b : Frame, b = { (default : Frame) with fn := f, kind := .normal, roundOf := some l } := ⟨_, rfl⟩
  have hbf : b.fn = f := by rw [hb]
  have hbk : b.kind = .normal := by rw [hb]
  have hbr : b.roundOf = some l := by rw [hb]
  have hstart : Frame.round l f tmps assign body .normal = b.atR { tmps := tmps, defers := [] } [.code assign, .beginRound, .code body] := by simp [Frame.round, Frame.atR, hb]
  have hroom : (F.inRound l).room ((c :: cs).length + 1 + n) := hr
  have hin : (F.inRound l).fn b.fn := by rw [hbf]; exact hF
  rw [hstart]
  obtain ⟨e1, a1, w1, q1, to1⟩ := h b [.beginRound, .code body] (c :: cs) hbr hin hroom
  cases e1 with
  | exit id => exact q1.elim
  | goto t => exact q1.elim
  | ret => exact q1.elim
  | panic chain => exact q1.elim
  | outgrown => exact q1.elim
  | normal =>
    obtain ⟨w2, hbeg, hbody⟩ := q1
    obtain ⟨e2, a2, w3, q2, to2⟩ := hbody b [] (c :: cs) hbr hin hroom
    have mid : StepsIn (Machine.fenced P (F.inRound l)) P (lone (b.atR a1 [.beginRound, .code body]) (c :: cs) w1) (lone (b.atR a1 [.code body]) (c :: cs) w2) :=
      .one (fenced_calm (fr := b.atR a1 [.beginRound, .code body]) hin hroom rfl) (stepR_beginRound hbr hbeg)
    have go := StepsIn.trans to1 mid
    cases e2 with
    | exit id => exact q2.elim
    | goto t => exact q2.elim
    | ret => exact q2.elim
    | outgrown => exact q2.elim
    | normal =>
      obtain ⟨v, w4, hend, hR⟩ := q2
      exact ⟨.returned v, w4, hR, go.trans (StepsIn.trans to2 (.one (fenced_calm (fr := b.atR a2 []) hin hroom rfl) (stepR_round_end hbr hbk hend)))⟩
    | panic chain =>
      obtain ⟨hd, hR⟩ := q2
      obtain ⟨todo, hs⟩ := to2
      have leaves : ({ b.atR a2 todo with mode := .panicking chain } : Frame).leaving P w3 (.panicked chain) := by
        refine ⟨rfl, ?_, fn, ?_⟩
        · exact hd
        · show P.funcs[b.fn]? = some fn
          rw [hbf]; exact hfn
      exact ⟨.panicked chain, w3, hR, go.trans (StepsIn.trans hs (.one (fenced_leaving (F := F.inRound l) hin hroom leaves) (step_leave_panicked leaves)))⟩
end

end Go.Proofs.YtmflecemkodklaaGreatDoor
