/-
  The contracts of spec.l1Kernel, slices.Index, impl.kernel, PartKernel (impl and spec).
-/
import Derived.Test.YtbmpchpcihnbdaaHelp
import Derived.Test.YtbmpchpcihnbdaaTogether
import Derived.Test.YtbmpchpcihnbdaaKernMath
import Derived.Maps.AppendAt
namespace Go.Proofs.Ytbmpchpcihnbdaa
set_option linter.unusedSimpArgs false
set_option linter.unusedVariables false
set_option linter.unnecessarySimpa false
open Go.RowKit

theorem own_alloc {w : World} {B : Nat} {v : Value} {xs : List Int} (h : Own w B v xs) (o : Obj) : Own (w.alloc o) B v xs := World.ownsRow.alloc h o

theorem cell_new1 (w : World) (x : Value) (t : TypeId) : (w.alloc (.cells #[x] t)).cell? ⟨w.heap.size, 0, none⟩ = some x := by
  simp

/-- 'append(out, y)' onto a slice of the call's own that is not nil: what it is behind the step. -/
theorem wpList_push {w : World} {ops : Array Oper} {rest : List Oper} {o : Oper} {a : Act} {Q : Exit → Act → World → Prop} (hgd : o.guard = none) (s x : Operand)
    (ho : o.op = .call { callee := .builtin .append, args := #[s, x], argTypes := #[30, 30] })
    (B g n cap : Nat) (xs : List Int) (hs : a.eval s = .slice (some ⟨g, 0, none⟩) n cap) (hown : Own w B (.slice (some ⟨g, 0, none⟩) n cap) xs) (hn : n = xs.length)
    (ad : Addr) (hx : a.eval x = .slice (some ad) 1 1) (y : Int) (hc : w.cell? ad = some (.int .i64 y)) (hl : n ≤ 1000000000) (hB : B ≤ w.heap.size)
    (h : ∀ g' cap' w', Own w' B (.slice (some ⟨g', 0, none⟩) (n + 1) cap') (xs ++ [y]) → w.grownBy w' (some g) → (g' = g ∨ g' = w.heap.size) → wpList Try.prog ops Q rest (a.put o.dst (.slice (some ⟨g', 0, none⟩) (n + 1) cap')) w') :
    wpList Try.prog ops Q (o :: rest) a w := by
  obtain ⟨i0, hi, hz0, hz1, hz2⟩ := info_parts Try.infoInt
  subst hn
  refine wpList_append_own_at w hgd s x 30 ho B 3 i0 (.int .i64 0) 1 8 Try.underlying30 hi hz0 hz1 hz2 rfl (by decide) _ xs.length (xs.map (Value.int .i64)) hs hown ad 1 1 [.int .i64 y] hx rfl ?_ ?_ (by unfold maxLen; omega) (by omega) hB ?_
  · intro j u hj
    match j, hj with
    | 0, hj =>
      simp at hj
      subst hj
      simpa [Addr.add] using hc
  · intro u hu
    simp at hu
    subst hu
    rfl
  · intro v' w' ho' hg' hnil hb'
    have hown' : Own w' B v' (xs ++ [y]) := by
      unfold Own
      simpa using ho'
    rcases own_view hown' with ⟨rfl, h2⟩ | ⟨g', cap', rfl, _⟩
    · simp at h2
    · simp only [List.length_append, List.length_cons, List.length_nil] at hown' ⊢
      refine h g' cap' w' hown' hg' ?_
      simpa [Value.ownBlock] using hb'

/-- A slice literal without elements. -/
theorem own_empty (w : World) (B : Nat) (hB : B ≤ w.heap.size) : Own (w.alloc (.cells #[] 3)) B (.slice (some ⟨w.heap.size, 0, none⟩) 0 0) [] :=
  World.ownsRow_made w #[] 0 hB (Nat.zero_le _) rfl

/-- After k numbers of p, what was met last of those that equal x (-1: none). -/
def seen (p : List Int) (x : Int) (k : Nat) : Int := if x ∈ p.take k then (kOut p).getD (p.idxOf x) 0 else -1

theorem seen_zero (p : List Int) (x : Int) : seen p x 0 = -1 := by simp [seen]

theorem seen_hit (p : List Int) (x : Int) (k : Nat) (hk : k < p.length) (h : p.getD k 0 = x) : seen p x (k + 1) = (kOut p).getD k 0 := by
  have hm : x ∈ p := mem_of_getD hk h
  have hi := List.idxOf_lt_length_of_mem hm
  unfold seen
  rw [take_snoc p k hk, if_pos (by rw [h]; simp), ← (kOut_inv p).2 _ _ hi hk, getD_idxOf hm, h]

theorem seen_miss (p : List Int) (x : Int) (k : Nat) (hk : k < p.length) (h : p.getD k 0 ≠ x) : seen p x (k + 1) = seen p x k := by
  unfold seen
  rw [take_snoc p k hk]
  have : (x ∈ p.take k ++ [p.getD k 0]) ↔ x ∈ p.take k := by
    simp only [List.mem_append, List.mem_singleton]
    exact ⟨fun h' => h'.elim id fun e => absurd e.symm h, .inl⟩
  simp only [this]

theorem seen_bd (p : List Int) (x : Int) (k : Nat) (hk : k ≤ p.length) : -1 ≤ seen p x k ∧ seen p x k ≤ p.length := by
  unfold seen
  split
  · have hm : x ∈ p := List.mem_of_mem_take (by assumption)
    have := (kOut_inv p).1 _ (List.idxOf_lt_length_of_mem hm)
    have := kNext_bd p
    omega
  · omega

theorem seen_end (p : List Int) (x : Int) : seen p x p.length = if x ∈ p then (kOut p).getD (p.idxOf x) 0 else -1 := by
  unfold seen
  rw [List.take_length]

set_option maxHeartbeats 4000000 in
theorem l1Kernel_any (ao : Option Addr) (ca : Nat) (xs : List Int) (w : World) (hx : Rd w ao xs) (hl : xs.length ≤ 1000000) :
    Calls Try.prog 91 #[.slice ao xs.length ca] w (FreshL w (kOut xs)) := by
  obtain ⟨n, hn⟩ : ∃ n, n = xs.length := ⟨_, rfl⟩
  rw [← hn]
  rw [← hn] at hl
  have HN := Lib.hid hn
  clear hn
  have HX := Lib.hid hx
  clear hx
  go_enter Try.func91, Try.ntmps91
  go_wp2
  go_loopw [3, 4, 5] (fun u m i wr => ∃ k g cap : Nat, k ≤ n ∧ i = .int .i64 k ∧ u = .slice (some ⟨g, 0, none⟩) k cap ∧ m = .int .i64 (kNext (xs.take k)) ∧ Own wr w.heap.size (.slice (some ⟨g, 0, none⟩) k cap) (kOut (xs.take k)) ∧ Below w.heap.size w wr)
    (fun _ _ i _ => n - (intOf i).toNat)
  case atStart => exact ⟨0, w.heap.size, 0, Nat.zero_le _, rfl, rfl, rfl, own_empty w _ (Nat.le_refl _), (Below.refl _ _).alloc (Nat.le_refl _) _⟩
  case round =>
    obtain ⟨k, g, cap, hk, rfl, rfl, rfl, hown, hbel⟩ := hrel
    have hnb := kNext_bd (xs.take k)
    have hkl : (xs.take k).length = k := by have := HN.out; simp; omega
    have HKL := Lib.hid hkl
    clear hkl
    obtain ⟨m, hm⟩ : ∃ m, m = kNext (xs.take k) := ⟨_, rfl⟩
    rw [← hm] at hnb ⊢
    rw [HKL.out] at hnb
    have HM := Lib.hid hm
    clear hm
    by_cases hlt : k < n
    · rcases HX.out with hx | ⟨bb, off, rfl, hcx⟩
      · have := HN.out
        rw [hx] at this
        simp at this
        omega
      · have hcx' : ∀ j, j < n → wr.cell? ⟨bb, off + j, none⟩ = some (.int .i64 (xs.getD j 0)) := fun j hj => by
          have := hcx j (by have := HN.out; omega)
          rw [hbel.cell (World.block_lt_of_cell? w _ this)]
          exact this
        have HC := Lib.hid hcx'
        have hck := hcx' k hlt
        clear hcx hcx'
        have HO := Lib.hid hown
        obtain ⟨x, hx⟩ : ∃ x, x = xs.getD k 0 := ⟨_, rfl⟩
        rw [← hx] at hck
        have HXK := Lib.hid hx
        clear hx
        obtain ⟨wo, hwo⟩ : ∃ wo : World, wo = wr := ⟨_, rfl⟩
        subst hwo
        go_wp2
        go_loopw [6, 7] (fun u i wi => ∃ j : Nat, j ≤ k ∧ i = .int .i64 j ∧ u = .int .i64 (seen (xs.take k) x j) ∧ Same wo wi) (fun _ i _ => k - (intOf i).toNat)
        case atStart => exact ⟨0, Nat.zero_le _, rfl, by rw [seen_zero], Same.refl _⟩
        case round =>
          obtain ⟨j, hj, rfl, rfl, hsame⟩ := hrel
          have hck' : wr.cell? ⟨bb, off + k, none⟩ = some (.int .i64 x) := by
            rw [(hsame _).cell (World.block_lt_of_cell? wo _ hck)]; exact hck
          have hsb := seen_bd (xs.take k) x j (by rw [HKL.out]; omega)
          rw [HKL.out] at hsb
          obtain ⟨u, hu⟩ : ∃ u, u = seen (xs.take k) x j := ⟨_, rfl⟩
          rw [← hu] at hsb ⊢
          have HU := Lib.hid hu
          clear hu
          by_cases hjk : j < k
          · have hcj := HC.out j (by omega)
            have hcj : wr.cell? ⟨bb, off + j, none⟩ = some (.int .i64 (xs.getD j 0)) := by
              rw [(hsame _).cell (World.block_lt_of_cell? wo _ hcj)]; exact hcj
            have hoj := own_cell HO.out j (by rw [kOut_length, HKL.out]; omega)
            have hoj : wr.cell? ⟨g, j, none⟩ = some (.int .i64 ((kOut (xs.take k)).getD j 0)) := by
              rw [(hsame _).cell (World.block_lt_of_cell? wo _ hoj)]; exact hoj
            obtain ⟨y, hy⟩ : ∃ y, y = xs.getD j 0 := ⟨_, rfl⟩
            obtain ⟨z, hz⟩ : ∃ z, z = (kOut (xs.take k)).getD j 0 := ⟨_, rfl⟩
            rw [← hy] at hcj
            rw [← hz] at hoj
            have hyj : (xs.take k).getD j 0 = y := by rw [hy]; simp [List.getD, List.getElem?_take, hjk]
            have HZ := Lib.hid hz
            have HY := Lib.hid hyj
            clear hy hz hyj
            have hjk' : (j : Int) < k := by omega
            have hjn' : (j : Int) < n := by omega
            have hkn' : (k : Int) < n := by omega
            by_cases hxy : y = x
            · subst hxy
              go_wp2
              go_quiet (fail)
              go_wp2
              go_roundw
              case rel => exact ⟨j + 1, by omega, by go_num, by rw [seen_hit _ _ _ (by rw [HKL.out]; omega) HY.out, HZ.out], hsame.drewN _⟩
              case measure => simp [intOf]; omega
            · have hb : (y == x) = false := by simpa using hxy
              go_wp2
              go_quiet (fail)
              go_wp2
              go_roundw
              case rel => exact ⟨j + 1, by omega, by go_num, by rw [seen_miss _ _ _ (by rw [HKL.out]; omega) (by rw [HY.out]; exact hxy), HU.out], hsame.drewN _⟩
              case measure => simp [intOf]; omega
          · have hjk : j = k := by omega
            subst hjk
            have hue : u = if x ∈ xs.take j then (kOut (xs.take j)).getD ((xs.take j).idxOf x) 0 else -1 := by
              have := seen_end (xs.take j) x
              rw [HKL.out] at this
              rw [HU.out, this]
            have HUE := Lib.hid hue
            have hts := take_snoc xs j (by have := HN.out; omega)
            rw [← HXK.out] at hts
            have HTS := Lib.hid hts
            have hown' : Own wr w.heap.size (.slice (some ⟨g, 0, none⟩) j cap) (kOut (xs.take j)) := own_below HO.out (hsame _)
            have hbel' : Below w.heap.size w wr := hbel.trans (hsame _)
            have hB := hbel'.size
            have HO' := Lib.hid hown'
            clear hue hts hown' hown
            by_cases hmem : x ∈ xs.take j
            · have hu0 : 0 ≤ u := by
                rw [HUE.out, if_pos hmem]
                exact ((kOut_inv _).1 _ (List.idxOf_lt_length_of_mem hmem)).1
              go_wp2_with (at_builtin; refine wpList_push rfl _ _ rfl w.heap.size g j cap (kOut (xs.take j)) rfl (own_alloc HO'.out _) (by rw [kOut_length, HKL.out]) ⟨wr.heap.size, 0, none⟩ rfl u (cell_new1 _ _ _) (by omega) (by simp; omega) ?_)
              intro g' cap' w2 hown2 hgr2 hg2
              have hbel2 : Below w.heap.size w w2 := (hbel'.alloc hB _).grown hgr2 (by simp; omega) (fun q hq => by cases hq; exact (own_lt HO'.out g rfl).1)
              have HO2 := Lib.hid hown2
              clear hown2 hgr2 hg2
              go_wp2
              go_roundw
              case rel =>
                refine ⟨j + 1, g', cap', by omega, by go_num, rfl, ?_, ?_, hbel2⟩
                · rw [HTS.out, (kOut_mem hmem).2, HM.out]
                · have := HO2.out
                  rw [HUE.out, if_pos hmem, ← (kOut_mem hmem).1, ← HTS.out] at this
                  exact this
              case measure => simp [intOf]; omega
            · have hu0 : u < 0 := by
                rw [HUE.out, if_neg hmem]
                omega
              go_wp2_with (at_builtin; refine wpList_push rfl _ _ rfl w.heap.size g j cap (kOut (xs.take j)) rfl (own_alloc HO'.out _) (by rw [kOut_length, HKL.out]) ⟨wr.heap.size, 0, none⟩ rfl m (cell_new1 _ _ _) (by omega) (by simp; omega) ?_)
              intro g' cap' w2 hown2 hgr2 hg2
              have hbel2 : Below w.heap.size w w2 := (hbel'.alloc hB _).grown hgr2 (by simp; omega) (fun q hq => by cases hq; exact (own_lt HO'.out g rfl).1)
              have HO2 := Lib.hid hown2
              clear hown2 hgr2 hg2
              go_wp2
              go_roundw
              case rel =>
                refine ⟨j + 1, g', cap', by omega, by go_num, rfl, ?_, ?_, hbel2⟩
                · rw [HTS.out, (kOut_new hmem).2, HM.out]
                · have := HO2.out
                  rw [HM.out, ← (kOut_new hmem).1, ← HTS.out] at this
                  exact this
              case measure => simp [intOf]; omega
    · have hkn : k = n := by omega
      subst hkn
      go_wp2
      go_ret
      rw [HN.out, List.take_length, ← HN.out] at hown
      exact ⟨_, rfl, hown, hbel⟩

set_option maxHeartbeats 800000 in
theorem slicesIndex_any (ao : Option Addr) (ca : Nat) (xs : List Int) (x : Int) (w : World) (hx : Rd w ao xs) (hl : xs.length ≤ 9223372036854775807) (hm : x ∈ xs) :
    Calls Try.prog 89 #[.slice ao xs.length ca, .int .i64 x] w fun e w' => e = .returned (.int .i64 (xs.idxOf x)) ∧ w = w' := by
  obtain ⟨n, hn⟩ : ∃ n, n = xs.length := ⟨_, rfl⟩
  rw [← hn]
  rw [← hn] at hl
  have HN := Lib.hid hn
  clear hn
  have hil := List.idxOf_lt_length_of_mem hm
  have hig := getD_idxOf hm
  obtain ⟨p, hp⟩ : ∃ p, p = xs.idxOf x := ⟨_, rfl⟩
  rw [← hp] at hil hig ⊢
  have HG := Lib.hid hig
  have hmin : ∀ j, j < p → xs.getD j 0 ≠ x := by
    intro j hj e
    rw [hp] at hj
    have := List.not_of_lt_findIdx (p := (· == x)) (xs := xs) (i := j) (by simpa [List.idxOf] using hj)
    rw [hp] at hil
    have hjl : j < xs.length := by omega
    simp [List.getD, hjl] at e
    simp [e] at this
  have HM := Lib.hid hmin
  clear hmin hp hig hm
  rcases hx with hx | ⟨bb, off, rfl, hcx⟩
  · rw [hx] at hil
    simp at hil
  have HX := Lib.hid hcx
  clear hcx
  have hpn : p < n := by have := HN.out; omega
  clear hil
  go_enter Try.func89, Try.ntmps89
  go_wp2
  go_loop [8] (fun i => ∃ k : Nat, k ≤ p ∧ i = .int .i64 k) (fun i => n - (intOf i).toNat)
  case atStart => exact ⟨0, Nat.zero_le _, rfl⟩
  case round =>
    obtain ⟨k, hk, rfl⟩ := hrel
    have hc1 := HX.out k (by have := HN.out; omega)
    by_cases he : k = p
    · subst he
      rw [HG.out] at hc1
      go_wp2
      go_ret
      exact ⟨rfl, rfl⟩
    · have hne := HM.out k (by omega)
      obtain ⟨y, hy⟩ : ∃ y, y = xs.getD k 0 := ⟨_, rfl⟩
      rw [← hy] at hc1 hne
      clear hy
      have hb : (x == y) = false := by simp; exact fun e => hne e.symm
      go_wp2
      go_round
      case rel => exact ⟨k + 1, by omega, by go_num⟩
      case measure => simp [intOf]; omega

theorem kern_stage_mem (xs : List Int) (k : Nat) (h : k < xs.length) (hm : xs.getD k 0 ∈ xs.take k) :
    (kOut (xs.take k) ++ List.replicate (xs.length - k) 0).set k ((kOut (xs.take k) ++ List.replicate (xs.length - k) 0).getD (xs.idxOf (xs.getD k 0)) 0) = kOut (xs.take (k + 1)) ++ List.replicate (xs.length - (k + 1)) 0 := by
  obtain ⟨h1, h2⟩ := (idxOf_take xs k h).1 hm
  have hl : (xs.take k).length = k := by simp; omega
  have e : (kOut (xs.take k) ++ List.replicate (xs.length - k) 0).getD (xs.idxOf (xs.getD k 0)) 0 = (kOut (xs.take k)).getD ((xs.take k).idxOf (xs.getD k 0)) 0 := by
    rw [← h1]
    rw [List.getD_eq_getElem?_getD, List.getElem?_append_left (by rw [kOut_length]; omega), ← List.getD_eq_getElem?_getD]
  rw [e, take_snoc xs k h, (kOut_mem hm).1]
  have hk : (kOut (xs.take k)).length = k := by rw [kOut_length]; exact hl
  rw [List.set_append_right _ _ (by omega), hk, Nat.sub_self, show xs.length - k = (xs.length - (k + 1)) + 1 by omega, List.replicate_succ, List.set_cons_zero, List.append_assoc]
  rfl

theorem kern_stage_new (xs : List Int) (k : Nat) (h : k < xs.length) (hm : xs.getD k 0 ∉ xs.take k) :
    (kOut (xs.take k) ++ List.replicate (xs.length - k) 0).set k (kNext (xs.take k)) = kOut (xs.take (k + 1)) ++ List.replicate (xs.length - (k + 1)) 0 := by
  have hl : (xs.take k).length = k := by simp; omega
  rw [take_snoc xs k h, (kOut_new hm).1]
  have hk : (kOut (xs.take k)).length = k := by rw [kOut_length]; exact hl
  rw [List.set_append_right _ _ (by omega), hk, Nat.sub_self, show xs.length - k = (xs.length - (k + 1)) + 1 by omega, List.replicate_succ, List.set_cons_zero, List.append_assoc]
  rfl

set_option maxHeartbeats 4000000 in
theorem kernel_any (ao : Option Addr) (ca : Nat) (xs : List Int) (w : World) (hx : Rd w ao xs) (hl : xs.length ≤ 1000000) :
    Calls Try.prog 86 #[.slice ao xs.length ca] w (FreshL w (kOut xs)) := by
  obtain ⟨n, hn⟩ : ∃ n, n = xs.length := ⟨_, rfl⟩
  rw [← hn]
  rw [← hn] at hl
  have HN := Lib.hid hn
  clear hn
  obtain ⟨i0, hi, hz0, hz1, hz2⟩ := info_parts Try.infoInt
  have HX := Lib.hid hx
  clear hx
  go_enter Try.func86, Try.ntmps86
  go_wp2_with (at_make; refine wpList_make_full _ rfl _ _ 30 rfl w.heap.size 3 i0 (.int .i64 0) 1 Try.underlying30 hi hz0 hz1 _ _ _ _ n rfl rfl rfl rfl (by rw [hz2]; omega) (by unfold maxLen; omega) (Nat.le_refl _) ?_)
  intro w1 hown1 hgrow1
  have hb1 : Below w.heap.size w w1 := (Below.refl _ _).grown hgrow1 (Nat.le_refl _) (fun k h => by cases h)
  have hown := own_made hown1
  clear hown1 hgrow1
  go_wp2
  go_loopw [4, 13] (fun m i wr => ∃ k : Nat, k ≤ n ∧ i = .int .i64 k ∧ m = .int .i64 (kNext (xs.take k)) ∧ Own wr w.heap.size (.slice (some ⟨w.heap.size, 0, none⟩) n n) (kOut (xs.take k) ++ List.replicate (n - k) 0) ∧ Below w.heap.size w wr)
    (fun _ i _ => n - (intOf i).toNat)
  case atStart => exact ⟨0, Nat.zero_le _, rfl, rfl, by simpa [kOut, kfold] using hown, hb1⟩
  case round =>
    obtain ⟨k, hk, rfl, rfl, hown, hbel⟩ := hrel
    have hnb := kNext_bd (xs.take k)
    have hkl : (xs.take k).length = k := by have := HN.out; simp; omega
    have HKL := Lib.hid hkl
    clear hkl
    obtain ⟨m, hm⟩ : ∃ m, m = kNext (xs.take k) := ⟨_, rfl⟩
    rw [← hm] at hnb ⊢
    rw [HKL.out] at hnb
    have HM := Lib.hid hm
    clear hm
    by_cases hlt : k < n
    · have hrd := rd_below HX.out hbel
      rcases HX.out with hx | ⟨bb, off, rfl, hcx⟩
      · have := HN.out
        rw [hx] at this
        simp at this
        omega
      · have hck : wr.cell? ⟨bb, off + k, none⟩ = some (.int .i64 (xs.getD k 0)) := by
          have := hcx k (by have := HN.out; omega)
          rw [hbel.cell (World.block_lt_of_cell? w _ this)]
          exact this
        clear hcx
        have HO := Lib.hid hown
        have hmem : xs.getD k 0 ∈ xs := mem_of_getD (by have := HN.out; omega) rfl
        have hidx := idxOf_take xs k (by have := HN.out; omega)
        have HS1 := Lib.hid (kern_stage_mem xs k (by have := HN.out; omega))
        have HS2 := Lib.hid (kern_stage_new xs k (by have := HN.out; omega))
        obtain ⟨x, hx⟩ : ∃ x, x = xs.getD k 0 := ⟨_, rfl⟩
        rw [← hx] at hck hmem hidx
        have HXK := Lib.hid hx
        have HRD := Lib.hid hrd
        have HMEM := Lib.hid hmem
        have HIDX := Lib.hid hidx
        have hfz := own_frozen hown k
        obtain ⟨v0, hv0⟩ : ∃ v0, wr.cell? ⟨w.heap.size, k, none⟩ = some v0 := ⟨_, own_cell hown k (by rw [List.length_append, kOut_length, HKL.out]; simp; omega)⟩
        have hpl : xs.idxOf x ≤ k := by
          by_cases hm : x ∈ xs.take k
          · have := (hidx.1 hm).2; omega
          · have := hidx.2 hm; omega
        have hcp := own_cell hown (xs.idxOf x) (by rw [List.length_append, kOut_length, HKL.out]; simp; omega)
        obtain ⟨p, hp⟩ : ∃ p, p = xs.idxOf x := ⟨_, rfl⟩
        rw [← hp] at hpl hcp
        have HP := Lib.hid hp
        obtain ⟨z, hz⟩ : ∃ z, z = (kOut (xs.take k) ++ List.replicate (n - k) 0).getD p 0 := ⟨_, rfl⟩
        rw [← hz] at hcp
        have HZ := Lib.hid hz
        clear hx hrd hmem hidx hown hp hz
        by_cases hm : x ∈ xs.take k
        · have hpk : p < k := by have := HIDX.out.1 hm; rw [HP.out]; exact this.2
          obtain ⟨hst, hgs⟩ := own_stored HO.out (by rw [List.length_append, kOut_length, HKL.out]; simp; omega) k z
          have HST := Lib.hid hst
          clear hst hgs
          have HMK := Lib.hid hm
          clear hm
          go_wp2_with fail
          rw [HN.out]
          refine (slicesIndex_any _ _ _ _ _ HRD.out (by have := HN.out; omega) HMEM.out).mono ?_
          rintro e w' ⟨rfl, rfl⟩
          rw [← HN.out, ← HP.out]
          go_wp2
          go_roundw
          case rel =>
            refine ⟨k + 1, by omega, by go_num, ?_, ?_, hbel.setCell (Nat.le_refl _) _⟩
            · have hmk := HMK.out
              rw [HXK.out] at hmk
              rw [HM.out, take_snoc xs k (by have := HN.out; omega), (kOut_mem hmk).2]
            · have hmk := HMK.out
              rw [HXK.out] at hmk
              have h1 := HST.out
              have h2 := HS1.out hmk
              rw [← HN.out, ← HXK.out, ← HP.out, ← HZ.out] at h2
              rw [h2] at h1
              exact h1
          case measure => simp [intOf]; omega
        · have hpk : p = k := by rw [HP.out]; exact HIDX.out.2 hm
          obtain ⟨hst, hgs⟩ := own_stored HO.out (by rw [List.length_append, kOut_length, HKL.out]; simp; omega) k m
          have HST := Lib.hid hst
          clear hst hgs
          have HMK := Lib.hid hm
          have HPK := Lib.hid hpk
          clear hm hpk hcp
          go_wp2_with fail
          rw [HN.out]
          refine (slicesIndex_any _ _ _ _ _ HRD.out (by have := HN.out; omega) HMEM.out).mono ?_
          rintro e w' ⟨rfl, rfl⟩
          rw [← HN.out, ← HP.out, HPK.out]
          go_wp2
          go_roundw
          case rel =>
            refine ⟨k + 1, by omega, by go_num, ?_, ?_, hbel.setCell (Nat.le_refl _) _⟩
            · have hmk := HMK.out
              rw [HXK.out] at hmk
              rw [take_snoc xs k (by have := HN.out; omega), (kOut_new hmk).2, HM.out]
            · have hmk := HMK.out
              rw [HXK.out] at hmk
              have h1 := HST.out
              have h2 := HS2.out hmk
              rw [← HN.out, ← HM.out] at h2
              rw [h2] at h1
              exact h1
          case measure => simp [intOf]; omega
    · have hkn : k = n := by omega
      subst hkn
      go_wp2
      go_ret
      rw [Nat.sub_self, List.replicate_zero, List.append_nil, HN.out, List.take_length, ← HN.out] at hown
      exact ⟨_, rfl, hown, hbel⟩

theorem kernel_v (v : Value) (xs : List Int) (w : World) (hv : RdV w v xs) (hl : xs.length ≤ 1000000) : Calls Try.prog 86 #[v] w (FreshL w (kOut xs)) := by
  obtain ⟨ao, ca, rfl, h, _, _⟩ := hv
  exact kernel_any ao ca xs w h hl

theorem l1Kernel_v (v : Value) (xs : List Int) (w : World) (hv : RdV w v xs) (hl : xs.length ≤ 1000000) : Calls Try.prog 91 #[v] w (FreshL w (kOut xs)) := by
  obtain ⟨ao, ca, rfl, h, _, _⟩ := hv
  exact l1Kernel_any ao ca xs w h hl

def partKernel (xs : List Int) : List Int × Bool := if 1 ≤ xs.length ∧ xs.length ≤ 8 then (kOut xs, true) else ([], false)

theorem partKernel_len (xs : List Int) (_ : xs.length ≤ 1048576) : (partKernel xs).1.length ≤ 2305843009213693952 := by
  unfold partKernel
  split
  · rw [kOut_length]; omega
  · simp

theorem own_nil (w : World) (B : Nat) : Own w B (.slice none 0 0) [] := World.ownsRow_nil _ _ _ _

theorem countFits_yes (n : Int) (w : World) (h1 : 1 ≤ n) (h2 : n ≤ 8) : Calls Try.prog 100 #[.int .i64 n] w fun e w' => e = .returned (.bool true) ∧ w = w' :=
  (countFits_any n w).mono fun _ _ ⟨he, hw⟩ => ⟨by rw [he]; simp [h1, h2], hw⟩
theorem countFits_no (n : Int) (w : World) (h : n < 1 ∨ 8 < n) : Calls Try.prog 100 #[.int .i64 n] w fun e w' => e = .returned (.bool false) ∧ w = w' :=
  (countFits_any n w).mono fun _ _ ⟨he, hw⟩ => ⟨by rw [he, decide_eq_false (by omega)], hw⟩

end Go.Proofs.Ytbmpchpcihnbdaa
