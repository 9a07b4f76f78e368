/-
  The contract of the laws' heldIntSS; append of a row that was just made.
-/
import Derived.Test.YtieldehghmikkaaMatHelp
namespace Go.Proofs.Ytieldehghmikkaa
set_option linter.unusedSimpArgs false
set_option linter.unusedVariables false
set_option linter.unnecessarySimpa false
open Go.RowKit
set_option maxRecDepth 100000

set_option maxHeartbeats 1600000 in
theorem heldIntSS_v (v : Value) (m : Int) (xss : List (List Int)) (w : World) (hv : RdM w v (markRows m xss)) (hl : xss.length ≤ 1000000) (ht : total xss ≤ 2305843009213693952) (h0 : 0 ≤ m) (h1 : m ≤ 1152921504606846976) :
    Calls Try.prog 24 #[v, .int .i64 m] w fun e w' => e = .returned (.int .i64 (m + total xss)) ∧ w = w' := by
  obtain ⟨ao, cap, vs, hvl, rfl, h2, h3, h4, h5⟩ := hv
  rw [markRows_length] at hvl h2 h4 h5 ⊢
  obtain ⟨n, hn⟩ : ∃ n, n = xss.length := ⟨_, rfl⟩
  rw [← hn] at hl hvl h2 h4 h5 ⊢
  have HN := Lib.hid hn
  have H4 := Lib.hid h4
  have H5 := Lib.hid h5
  obtain ⟨T, hT⟩ : ∃ T, T = total xss := ⟨_, rfl⟩
  rw [← hT] at ht ⊢
  have HT := Lib.hid hT
  clear hn h4 h5 hT hvl
  go_enter Try.func24, Try.ntmps24
  go_wp2
  go_loop [1, 5] (fun u i => ∃ k t : Nat, k ≤ n ∧ i = .int .i64 k ∧ u = .int .i64 (m + t) ∧ t = total (xss.take k)) (fun _ i => n - (intOf i).toNat)
  case atStart => exact ⟨0, 0, Nat.zero_le _, rfl, by simp, by simp [total]⟩
  case round =>
    obtain ⟨k, t, hk, rfl, rfl, htk⟩ := hrel
    have hle := total_take_le xss k
    rw [← htk, ← HT.out] at hle
    have HTK := Lib.hid htk
    clear htk
    by_cases hlt : k < n
    · rcases H4.out with hx | ⟨b, off, rfl, hc⟩
      · have := congrArg List.length hx
        rw [markRows_length, ← HN.out] at this
        simp at this
        omega
      · have hck := hc k hlt
        have hr := H5.out k hlt
        rw [markRows_getD xss m k (by rw [← HN.out]; exact hlt), ← HTK.out] at hr
        have htt := total_take_succ xss k (by rw [← HN.out]; exact hlt)
        have hle2 := total_take_le xss (k + 1)
        have hlk := len_le_total xss k (by rw [← HN.out]; exact hlt)
        obtain ⟨q, hq⟩ : ∃ q, q = (xss.getD k []).length := ⟨_, rfl⟩
        obtain ⟨z, hz⟩ : ∃ z, z = vs.getD k undef := ⟨_, rfl⟩
        rw [← hq] at hr htt hlk
        rw [← hz] at hck hr
        rw [← HTK.out] at htt
        rw [htt, ← HT.out] at hle2
        rw [← HT.out] at hlk
        have HR := Lib.hid hr
        have HTT := Lib.hid htt
        clear hc hr htt hq hz
        go_wp2_with fail
        refine (heldIntS_v _ _ q _ HR.out (by omega) (by omega) (by omega)).mono ?_
        rintro e w2 ⟨rfl, rfl⟩
        go_wp2
        go_round
        case rel => exact ⟨k + 1, t + q, by omega, by go_num, by congr 1; omega, HTT.out.symm⟩
        case measure => simp [intOf]; omega
    · have hkn : k = n := by omega
      subst hkn
      have htk : t = T := by rw [HTK.out, HT.out, List.take_of_length_le (by rw [← HN.out]; omega)]
      subst htk
      go_wp2
      go_ret
      exact ⟨rfl, rfl⟩

/-- The value of an owned list is a slice. -/
theorem own_slice' {w : World} {B : Nat} {v : Value} {xs : List Int} (h : Own w B v xs) : ∃ ao cap, v = .slice ao xs.length cap := by
  obtain ⟨ao, cap, hv, _⟩ := own_rd h
  exact ⟨ao, cap, hv⟩

/-- A slice of slices of the call's own that is not nil, opened. -/
theorem ownM_slot {w : World} {B S g n cap : Nat} {xss : List (List Int)} (h : OwnM w B S (.slice (some ⟨g, 0, none⟩) n cap) xss) : B ≤ g ∧ g < S ∧ g < w.heap.size := by
  obtain ⟨vs, _, hv, _⟩ := ownM_parts h
  rcases hv with ⟨h, _⟩ | ⟨g', cap', h, hb, hs, hg, _⟩
  · cases h
  · simp only [Value.slice.injEq, Option.some.injEq, Addr.mk.injEq, and_true, true_and] at h
    omega

/-- 'append(out, row)' behind the making of the row: what it is behind the step. -/
theorem wpList_row {w : World} {ops : Array Oper} {rest : List Oper} {o : Oper} {a : Act} {Q : Exit → Act → World → Prop} (hgd : o.guard = none) (s x : Operand)
    (ho : o.op = .call { callee := .builtin .append, args := #[s, x], argTypes := #[22, 22] })
    (w0 wq : World) (u : Value) (hw : w = wq.alloc (.cells #[u] 27)) (S g n cap : Nat) (xss : List (List Int)) (hs : a.eval s = .slice (some ⟨g, 0, none⟩) n cap) (hown : OwnM wq w0.heap.size S (.slice (some ⟨g, 0, none⟩) n cap) xss) (hn : n = xss.length)
    (hx : a.eval x = .slice (some ⟨wq.heap.size, 0, none⟩) 1 1) (ys : List Int) (hu : Own wq w0.heap.size u ys) (hui : InB u S wq.heap.size) (hSw : w0.heap.size ≤ S ∧ S ≤ wq.heap.size) (hl : n ≤ 1000000000) (hbel : Below w0.heap.size w0 wq)
    (h : ∀ g' cap' w', OwnM w' w0.heap.size w'.heap.size (.slice (some ⟨g', 0, none⟩) (n + 1) cap') (xss ++ [ys]) → Below w0.heap.size w0 w' → wq.heap.size < w'.heap.size → wpList Try.prog ops Q rest (a.put o.dst (.slice (some ⟨g', 0, none⟩) (n + 1) cap')) w') :
    wpList Try.prog ops Q (o :: rest) a w := by
  subst hw
  have hsl := ownM_slot hown
  refine wpList_pushM hgd s x ho w0.heap.size S g n cap xss hs (ownM_below hown ((Below.refl _ _).alloc (Nat.le_refl _) _)) hn ⟨wq.heap.size, 0, none⟩ hx u ys (cell_new1 _ _ _) (own_alloc hu _) (fun q hq => by have := hui q hq; simp; omega) hSw.1 (by simp; omega) hl (n + 1) rfl ?_
  intro g' cap' w' h1 h2
  refine h g' cap' w' h1 ?_ ?_
  · exact (hbel.alloc (by omega) _).grown h2 (by simp; omega) (fun q hq => by cases hq; exact hsl.1)
  · have := h2.size
    simp at this
    omega

end Go.Proofs.Ytieldehghmikkaa
