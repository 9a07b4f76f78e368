/-
  The draw of types: spec.DrawNumberType.
-/
import Derived.Test.YtfomfjbfhcajbaaType9
import Derived.Test.YtfomfjbfhcajbaaTriBell
namespace Go.Proofs.Ytfomfjbfhcajbaa
set_option linter.unusedSimpArgs false
set_option linter.unusedVariables false
set_option linter.unnecessarySimpa false
open Go.RowKit
set_option maxRecDepth 100000

theorem own_sliceT {w : World} {B : Nat} {v : Value} {xs : List Int} (h : Own w B v xs) (hl : 1 ≤ xs.length) : ∃ g cap, v = .slice (some ⟨g, 0, none⟩) xs.length cap ∧ g < w.heap.size := by
  rcases own_view h with ⟨_, hn⟩ | ⟨g, cap, hv, _, hg, _⟩
  · rw [hn] at hl; simp at hl
  · exact ⟨g, cap, hv, hg⟩

def TypeDrawn (w : World) (e : Ending) (w' : World) : Prop := ∃ v xs, e = .returned v ∧ Own w' w.heap.size v xs ∧ xs.length ≤ 20 ∧ Below w.heap.size w w'

set_option maxHeartbeats 3200000 in
theorem DrawNumberType_any (a : Option Addr) (len cap : Nat) (w : World) (hby : Bytes w a len) (hlen : len ≤ 1048576) (hc : len ≤ cap) (hcm : cap ≤ maxLen) :
    Calls Try.prog 20 #[.slice a len cap] w (TypeDrawn w) := by
  go_enter Try.func20, Try.ntmps20
  go_wp2_with fail
  refine (open_r a len cap w hby hlen hc hcm).mono ?_
  rintro e w1 ⟨g, m, cp, rfl, r1⟩
  go_wp2_with fail
  refine (pick_r r1 _ (by omega) (by omega) (by omega)).mono ?_
  rintro e w2 ⟨t, rfl, ht, r2, hg2⟩
  clear hg2
  go_wp2_with fail
  refine (part_r r2 _ (by omega) (by omega) (by omega)).mono ?_
  rintro e w3 ⟨va, xs, q, rfl, oa, hl, hx, hq, r3, hg3⟩
  have OA := Lib.hid (own_rdv oa)
  clear oa hg3 hx
  go_wp2_with fail
  refine (l1Kernel_v va xs w3 OA.out (by omega)).mono ?_
  rintro e w4 ⟨vk, rfl, ok, hb4⟩
  have r4 := r3.step hb4
  have OK := Lib.hid (own_rdv ok)
  have hs4 := hb4.size
  clear ok hb4
  go_wp2_with fail
  refine (l1Type9_v vk (kOut xs) w4 OK.out (kOut_nine hl)).mono ?_
  rintro e w5 ⟨vt, rfl, ot, hb5⟩
  have r5 := r4.step hb5
  have hn9 := kOut_nine hl
  have hlen1 : (desc (sizes (kOut xs))).length = (pSize (kOut xs)).toNat := by rw [desc_length, sizes_length]
  have hbd := pSize9_bd hn9
  have hpos := pSize9_pos hn9 hn9.1.1
  obtain ⟨L, hL⟩ : ∃ L, L = desc (sizes (kOut xs)) := ⟨_, rfl⟩
  rw [← hL] at ot hlen1
  obtain ⟨n, hn⟩ : ∃ n, n = L.length := ⟨_, rfl⟩
  have hn1 : 1 ≤ n := by omega
  have hn2 : n ≤ 9 := by omega
  have HN := Lib.hid hn
  have hglt := r4.lt
  have hle4 := r4.below.size
  obtain ⟨gz, cz, rfl, hgz⟩ := own_sliceT ot (by omega)
  rw [← hn] at ot ⊢
  have OT := Lib.hid ot
  clear ot hb5 hL hn hlen1 hbd hpos hn9 r1 r2 r3 hl hs4
  go_wp2_with fail
  refine (pick_r r5 _ (by omega) (by omega) (by omega)).mono ?_
  rintro e w6 ⟨t2, rfl, ht2, r6, hg6⟩
  have O6 := Rds.keep OT.out hglt hg6
  have hbel := r6.below
  have hs6 := hg6.size
  have hgl6 := own_lt O6 gz rfl
  have hcells := fun j hj => own_cell O6 j hj
  have OB := Lib.hid O6
  have HC := Lib.hid hcells
  clear O6 hg6 hcells r4 r5
  have hB : w4.heap.size ≤ w6.heap.size := by omega
  have ht12 : t2 = 0 ∨ t2 = 1 ∨ t2 = 2 ∨ 3 ≤ t2 := by omega
  rcases ht12 with rfl | rfl | rfl | h3
  · go_wp2_with (at_builtin; refine wpList_push rfl _ _ rfl w4.heap.size gz n cz L rfl (own_alloc OB.out _) HN.out ⟨w6.heap.size, 0, none⟩ rfl 9 (cell_new1 _ _ _) (by omega) (by simp; omega) ?_)
    intro g' cap' w7 hown7 hgr7 hg7
    have O7 := Lib.hid (own_mono hown7 hle4)
    have hb7 : Below w.heap.size w w7 := (hbel.alloc hbel.size _).grown hgr7 (by simp; omega) (fun q hq => by cases hq; first | omega | exact hbel.size)
    clear hown7 hgr7 hg7
    go_wp2
    go_ret
    exact ⟨_, _, rfl, O7.out, by have := HN.out; simp; omega, hb7⟩
  · go_wp2_with (at_builtin; refine wpList_cat rfl _ _ rfl w4.heap.size w6.heap.size 1 1 [12] rfl (own_litA w6 w4.heap.size hB 12) rfl ⟨gz, 0, none⟩ n cz rfl L HN.out (fun j hj => by rw [Addr.add_lit, Nat.zero_add]; exact own_cell (own_alloc OB.out _) j hj) (by omega) (by simp; omega) (1 + n) rfl ?_)
    intro g' cap' w7 hown7 hgr7 hg7
    have O7 := Lib.hid (own_mono hown7 hle4)
    have hb7 : Below w.heap.size w w7 := (hbel.alloc hbel.size _).grown hgr7 (by simp; omega) (fun q hq => by cases hq; omega)
    clear hown7 hgr7 hg7
    go_wp2
    go_ret
    exact ⟨_, _, rfl, O7.out, by have := HN.out; simp; omega, hb7⟩
  · have O7 := Lib.hid (own_empty w6 w.heap.size hbel.size)
    have hb7 : Below w.heap.size w (w6.alloc (.cells #[] 3)) := hbel.alloc hbel.size _
    go_wp2
    go_ret
    exact ⟨_, _, rfl, O7.out, by simp, hb7⟩
  · have b0 : ((t2 : Int) == 0) = false := by simp; omega
    have b1 : ((t2 : Int) == 1) = false := by simp; omega
    have b2 : ((t2 : Int) == 2) = false := by simp; omega
    have O7 := Lib.hid (own_mono OB.out hle4)
    go_wp2
    go_ret
    exact ⟨_, _, rfl, O7.out, by rw [← HN.out]; omega, hbel⟩

end Go.Proofs.Ytfomfjbfhcajbaa
