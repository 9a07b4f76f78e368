/-
  The contracts of the laws' own helpers on lists of integers: toIntS, eqIntS, markIntS, heldIntS.
-/
import Derived.Test.YtieldehghmikkaaRows
import Derived.Test.YtieldehghmikkaaPure
import Derived.WalkLawsBesides
import Derived.WalkSpells
import Derived.BigQuiet
import Derived.Deep.QuietTactic
namespace Go.Proofs.Ytieldehghmikkaa
set_option linter.unusedSimpArgs false
set_option linter.unusedVariables false
set_option linter.unnecessarySimpa false
open Go.RowKit

theorem Try.infoInt : (Try.prog.info? 3).map (fun i => (i.zero, i.size, i.bytes)) = some (some (.int .i64 0), 1, 8) := by kernel_rfl

theorem own_made {w1 : World} {B g n c : Nat} (h : w1.ownsRow B 3 1 (.slice (some ⟨g, 0, none⟩) n c) n (madeCells #[Value.int .i64 0] n).toList) : Own w1 B (.slice (some ⟨g, 0, none⟩) n c) (List.replicate n 0) := by
  unfold Own
  rw [toList_madeCells_one] at h
  simpa using h

theorem set_stage (xs : List Int) (k : Nat) (h : k < xs.length) (x : Int) (hx : x = xs.getD k 0) : (xs.take k ++ List.replicate (xs.length - k) 0).set k x = xs.take (k + 1) ++ List.replicate (xs.length - (k + 1)) 0 := by
  subst hx
  apply List.ext_getElem?
  intro j
  by_cases h1 : j < k
  · rw [List.getElem?_set_ne (by omega), List.getElem?_append_left (by simp; omega), List.getElem?_append_left (by simp; omega), List.getElem?_take, List.getElem?_take, if_pos h1, if_pos (by omega)]
  · by_cases h2 : j = k
    · subst h2
      rw [List.getElem?_set_self (by simp; omega), List.getElem?_append_left (by simp; omega)]
      simp [List.getD, h]
    · rw [List.getElem?_set_ne (by omega), List.getElem?_append_right (by simp; omega), List.getElem?_append_right (by simp; omega)]
      simp only [List.getElem?_replicate, List.length_take]
      by_cases h3 : j < xs.length
      · rw [if_pos (by omega), if_pos (by omega)]
      · rw [if_neg (by omega), if_neg (by omega)]

theorem own_stored {w : World} {B g n cap : Nat} {xs : List Int} (h : Own w B (.slice (some ⟨g, 0, none⟩) n cap) xs) (hn : n = xs.length) (j : Nat) (x : Int) :
    Own (w.setCell ⟨g, j, none⟩ (.int .i64 x)) B (.slice (some ⟨g, 0, none⟩) n cap) (xs.set j x) ∧ w.grownBy (w.setCell ⟨g, j, none⟩ (.int .i64 x)) (some g) := by
  subst hn
  have := World.ownsRow.stored h j (.int .i64 x)
  refine ⟨?_, this.2⟩
  unfold Own
  rw [List.length_set, List.map_set]
  exact this.1

set_option maxHeartbeats 400000 in
theorem toIntS_any (ao : Option Addr) (cap : Nat) (xs : List Int) (w : World) (hr : Rd w ao xs) (hl : xs.length ≤ 1048576) :
    Calls Try.prog 19 #[.slice ao xs.length cap] w (FreshL w xs) := by
  obtain ⟨n, hn⟩ : ∃ n, n = xs.length := ⟨_, rfl⟩
  rw [← hn]
  rw [← hn] at hl
  have HN := Lib.hid hn
  clear hn
  obtain ⟨i0, hi, hz0, hz1, hz2⟩ := info_parts Try.infoInt
  have HR := Lib.hid hr
  clear hr
  go_enter Try.func19, Try.ntmps19
  go_wp2_with (at_make; refine wpList_make_full _ rfl _ _ 27 rfl w.heap.size 3 i0 (.int .i64 0) 1 Try.underlying27 hi hz0 hz1 _ _ _ _ n rfl rfl rfl rfl (by rw [hz2]; omega) (by unfold maxLen; omega) (Nat.le_refl _) ?_)
  intro w1 hown1 hgrow1
  have hb1 : Below w.heap.size w w1 := (Below.refl _ _).grown hgrow1 (Nat.le_refl _) (fun k h => by cases h)
  have hown := own_made hown1
  clear hown1 hgrow1
  go_wp2
  go_loopw [4] (fun i wr => ∃ k : Nat, k ≤ n ∧ i = .int .i64 k ∧ Own wr w.heap.size (.slice (some ⟨w.heap.size, 0, none⟩) n n) (xs.take k ++ List.replicate (n - k) 0) ∧ Below w.heap.size w wr)
    (fun i _ => n - (intOf i).toNat)
  case atStart => exact ⟨0, Nat.zero_le _, rfl, by simpa using hown, hb1⟩
  case round =>
    obtain ⟨k, hk, rfl, hownr, hbr⟩ := hrel
    by_cases hlt : k < n
    · have hr := rd_below HR.out hbr
      rcases hr with hr | ⟨b, off, rfl, hc⟩
      · have := HN.out
        rw [hr] at this
        simp at this
        omega
      · have hcell := hc k (by have := HN.out; omega)
        clear hc
        have hfz := own_frozen hownr k
        obtain ⟨v0, hv0⟩ : ∃ v0, wr.cell? ⟨w.heap.size, k, none⟩ = some v0 := ⟨_, own_cell hownr k (by have := HN.out; simp; omega)⟩
        obtain ⟨hst, hgs⟩ := own_stored hownr (by have := HN.out; simp; omega) k (xs.getD k 0)
        have HST := Lib.hid hst
        have HGS := Lib.hid hgs
        clear hst hgs
        go_wp2
        go_roundw
        case rel =>
          refine ⟨k + 1, by omega, by go_num, ?_, hbr.setCell (Nat.le_refl _) _⟩
          have := HST.out
          rw [HN.out, set_stage xs k (by have := HN.out; omega) _ rfl, ← HN.out] at this
          simpa using this
        case measure => simp [intOf]; omega
    · go_wp2
      go_ret
      have hkn : k = n := by omega
      subst hkn
      refine ⟨_, rfl, ?_, hbr⟩
      rw [Nat.sub_self, HN.out, List.take_length, List.replicate_zero, List.append_nil, ← HN.out] at hownr
      exact hownr

set_option maxHeartbeats 400000 in
theorem eqIntS_any (ao bo : Option Addr) (ca cb : Nat) (xs ys : List Int) (w : World) (hx : Rd w ao xs) (hy : Rd w bo ys) (hlx : xs.length ≤ 9223372036854775807) (hly : ys.length ≤ 9223372036854775807) :
    Calls Try.prog 21 #[.slice ao xs.length ca, .slice bo ys.length cb] w fun e w' => e = .returned (.bool (decide (xs = ys))) ∧ Same w w' := by
  obtain ⟨n, hn⟩ : ∃ n, n = xs.length := ⟨_, rfl⟩
  obtain ⟨m, hm⟩ : ∃ m, m = ys.length := ⟨_, rfl⟩
  rw [← hn, ← hm]
  rw [← hn] at hlx
  rw [← hm] at hly
  have HN := Lib.hid hn
  have HM := Lib.hid hm
  clear hn hm
  have HX := Lib.hid hx
  have HY := Lib.hid hy
  clear hx hy
  by_cases hnm : n = m
  · subst hnm
    go_enter Try.func21, Try.ntmps21
    go_wp2
    go_loopw [5] (fun i wr => ∃ k : Nat, k ≤ n ∧ i = .int .i64 k ∧ xs.take k = ys.take k ∧ Same w wr) (fun i _ => n - (intOf i).toNat)
    case atStart => exact ⟨0, Nat.zero_le _, rfl, rfl, Same.refl w⟩
    case round =>
      obtain ⟨k, hk, rfl, htk, hsr⟩ := hrel
      have HT := Lib.hid htk
      clear htk
      by_cases hlt : k < n
      · have hx := rd_same HX.out hsr
        have hy := rd_same HY.out hsr
        rcases hx with hx | ⟨b, off, rfl, hcx⟩
        · have := HN.out
          rw [hx] at this
          simp at this
          omega
        · rcases hy with hy | ⟨b2, off2, rfl, hcy⟩
          · have := HM.out
            rw [hy] at this
            simp at this
            omega
          · have hc1 := hcx k (by have := HN.out; omega)
            have hc2 := hcy k (by have := HM.out; omega)
            clear hcx hcy
            obtain ⟨x, hx⟩ : ∃ x, x = xs.getD k 0 := ⟨_, rfl⟩
            obtain ⟨y, hy⟩ : ∃ y, y = ys.getD k 0 := ⟨_, rfl⟩
            rw [← hx] at hc1
            rw [← hy] at hc2
            have HXK := Lib.hid hx
            have HYK := Lib.hid hy
            clear hx hy
            have hlt' : (k : Int) < n := by omega
            by_cases hxy : x = y
            · subst hxy
              go_wp2
              go_quiet (fail)
              go_wp2
              go_roundw
              case rel => exact ⟨k + 1, by omega, by go_num, take_succ_eq HT.out (by have := HN.out; omega) (by have := HM.out; omega) (by rw [← HXK.out, ← HYK.out]), hsr.drewN _⟩
              case measure => simp [intOf]; omega
            · have hb : (x != y) = true := by simpa using hxy
              go_wp2
              go_quiet (fail)
              go_wp2
              go_ret
              have hne : ¬ xs = ys := fun e => hxy (by rw [HXK.out, HYK.out, e])
              exact ⟨by simp [hne], hsr.drewN _⟩
      · go_wp2
        go_ret
        have hkn : k = n := by omega
        subst hkn
        have he : xs = ys := by
          have := HT.out
          rwa [List.take_of_length_le (by have := HN.out; omega), List.take_of_length_le (by have := HM.out; omega)] at this
        exact ⟨by simp [he], hsr⟩
  · go_enter Try.func21, Try.ntmps21
    go_wp2
    go_ret
    have hne : ¬ xs = ys := fun e => hnm (by rw [HN.out, HM.out, e])
    exact ⟨by simp [hne], Same.refl w⟩

theorem mark_stage (xs : List Int) (m : Int) (k : Nat) (h : k < xs.length) : (iota m k ++ xs.drop k).set k (m + k) = iota m (k + 1) ++ xs.drop (k + 1) := by
  apply List.ext_getElem?
  intro j
  by_cases h1 : j < k
  · rw [List.getElem?_set_ne (by omega), List.getElem?_append_left (by rw [iota_length]; omega), List.getElem?_append_left (by rw [iota_length]; omega)]
    simp [iota, h1, show j < k + 1 by omega]
  · by_cases h2 : j = k
    · subst h2
      rw [List.getElem?_set_self (by simp [iota_length]; omega), List.getElem?_append_left (by rw [iota_length]; omega)]
      simp [iota]
    · rw [List.getElem?_set_ne (by omega), List.getElem?_append_right (by rw [iota_length]; omega), List.getElem?_append_right (by rw [iota_length]; omega)]
      simp only [iota_length, List.getElem?_drop]
      rw [show k + (j - k) = k + 1 + (j - (k + 1)) by omega]

theorem grown_trans {a b c : World} {r : Option Nat} (h : a.grownBy b r) (k : b.grownBy c r) : a.grownBy c r :=
  ⟨k.os.trans h.os, k.tape.trans h.tape, k.output.trans h.output, Nat.le_trans h.size k.size, fun i hi hr => (k.block i (Nat.lt_of_lt_of_le hi h.size) hr).trans (h.block i hi hr)⟩

set_option maxHeartbeats 400000 in
theorem markIntS_v (v : Value) (B : Nat) (m : Int) (xs : List Int) (w : World) (ho : Own w B v xs) (hl : xs.length ≤ 4611686018427387904) (h0 : 0 ≤ m) (h1 : m ≤ 3458764513820540928) :
    Calls Try.prog 22 #[v, .int .i64 m] w fun e w' => e = .returned (.int .i64 (m + xs.length)) ∧ Own w' B v (iota m xs.length) ∧ w.grownBy w' v.ownBlock ∧ w'.heap.size = w.heap.size := by
  obtain ⟨n, hn⟩ : ∃ n, n = xs.length := ⟨_, rfl⟩
  rw [← hn]
  rw [← hn] at hl
  have HO := ho
  have HN := Lib.hid hn
  rcases own_view ho with ⟨rfl, rfl⟩ | ⟨g, cap, rfl, hb, hl, hnc, hcm, hc, hf⟩
  · simp at hn
    subst hn
    go_enter Try.func22, Try.ntmps22
    go_wp2
    refine wp_loop_rounds 1 ?_
    rw [rounds_succ]
    go_wp2
    go_ret
    refine ⟨ret_int (by omega), HO, World.grownBy.refl _ _, rfl⟩
  · rw [← hn] at HO ⊢
    clear hc hf ho hnc hcm hn
    go_enter Try.func22, Try.ntmps22
    go_wp2
    go_loopw [1, 5] (fun u i wr => ∃ k : Nat, k ≤ n ∧ i = .int .i64 k ∧ u = .int .i64 (m + k) ∧ Own wr B (.slice (some ⟨g, 0, none⟩) n cap) (iota m k ++ xs.drop k) ∧ w.grownBy wr (some g) ∧ wr.heap.size = w.heap.size)
      (fun _ i _ => n - (intOf i).toNat)
    case atStart => exact ⟨0, Nat.zero_le _, rfl, by simp, by simpa [iota] using HO, World.grownBy.refl _ _, rfl⟩
    case round =>
      obtain ⟨k, hk, rfl, rfl, hownr, hgr, hsz⟩ := hrel
      have HSZ := Lib.hid hsz
      clear hsz
      by_cases hlt : k < n
      · have hfz := own_frozen hownr k
        obtain ⟨v0, hv0⟩ : ∃ v0, wr.cell? ⟨g, k, none⟩ = some v0 := ⟨_, own_cell hownr k (by have := HN.out; simp [iota_length]; omega)⟩
        obtain ⟨hst, hgs⟩ := own_stored hownr (by have := HN.out; simp [iota_length]; omega) k (m + k)
        have HST := Lib.hid hst
        have HGS := Lib.hid hgs
        clear hst hgs
        go_wp2
        go_roundw
        case rel =>
          refine ⟨k + 1, by omega, by go_num, by go_num, ?_, grown_trans hgr HGS.out, by simpa [World.setCell] using HSZ.out⟩
          have := HST.out
          rw [mark_stage xs m k (by have := HN.out; omega)] at this
          exact this
        case measure => simp [intOf]; omega
      · go_wp2
        go_ret
        have hkn : k = n := by omega
        subst hkn
        rw [HN.out, List.drop_length, List.append_nil, ← HN.out] at hownr
        exact ⟨rfl, hownr, hgr, HSZ.out⟩

set_option maxHeartbeats 400000 in
theorem heldIntS_any (ao : Option Addr) (ca : Nat) (m : Int) (n : Nat) (w : World) (hx : Rd w ao (iota m n)) (hl : n ≤ 4611686018427387904) (h0 : 0 ≤ m) (h1 : m ≤ 3458764513820540928) :
    Calls Try.prog 27 #[.slice ao n ca, .int .i64 m] w fun e w' => e = .returned (.int .i64 (m + n)) ∧ w = w' := by
  have HX := Lib.hid hx
  clear hx
  go_enter Try.func27, Try.ntmps27
  go_wp2
  go_loop [1, 5] (fun u i => ∃ k : Nat, k ≤ n ∧ i = .int .i64 k ∧ u = .int .i64 (m + k)) (fun _ i => n - (intOf i).toNat)
  case atStart => exact ⟨0, Nat.zero_le _, rfl, by simp⟩
  case round =>
    obtain ⟨k, hk, rfl, rfl⟩ := hrel
    by_cases hlt : k < n
    · rcases HX.out with hx | ⟨b, off, rfl, hcx⟩
      · have := congrArg List.length hx
        rw [iota_length] at this
        simp at this
        omega
      · have hc1 := hcx k (by rw [iota_length]; omega)
        rw [iota_getD m n k hlt] at hc1
        clear hcx
        go_wp2
        go_round
        case rel => exact ⟨k + 1, by omega, by go_num, by go_num⟩
        case measure => simp [intOf]; omega
    · go_wp2
      go_ret
      have hkn : k = n := by omega
      subst hkn
      exact ⟨rfl, rfl⟩

theorem toIntS_v (v : Value) (xs : List Int) (w : World) (hv : RdV w v xs) (hl : xs.length ≤ 1048576) : Calls Try.prog 19 #[v] w (FreshL w xs) := by
  obtain ⟨ao, ca, rfl, h, _, _⟩ := hv
  exact toIntS_any ao ca xs w h hl

theorem eqIntS_v (v u : Value) (xs : List Int) (w : World) (hv : RdV w v xs) (hu : RdV w u xs) : Calls Try.prog 21 #[v, u] w fun e w' => e = .returned (.bool true) ∧ Same w w' := by
  obtain ⟨ao, ca, rfl, h, h1, h2⟩ := hv
  obtain ⟨bo, cb, rfl, k, k1, k2⟩ := hu
  unfold maxLen at h2
  refine (eqIntS_any ao bo ca cb xs xs w h k (by omega) (by omega)).mono fun e w' ⟨he, hw⟩ => ⟨by rw [he]; simp, hw⟩

theorem heldIntS_v (v : Value) (m : Int) (n : Nat) (w : World) (hv : RdV w v (iota m n)) (hl : n ≤ 4611686018427387904) (h0 : 0 ≤ m) (h1 : m ≤ 3458764513820540928) :
    Calls Try.prog 27 #[v, .int .i64 m] w fun e w' => e = .returned (.int .i64 (m + n)) ∧ w = w' := by
  obtain ⟨ao, ca, rfl, h, _, _⟩ := hv
  rw [iota_length]
  exact heldIntS_any ao ca m n w h hl h0 h1

end Go.Proofs.Ytieldehghmikkaa
