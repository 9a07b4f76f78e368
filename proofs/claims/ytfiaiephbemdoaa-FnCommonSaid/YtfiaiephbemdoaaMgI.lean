/-
  What the laws of this claim lean on: what functions of the program and of the model answer, one after another, and plain mathematics. No condition.
-/
import Derived.Test.YtfiaiephbemdoaaMgE
import Derived.Test.YtfiaiephbemdoaaMgF
import Derived.Test.YtfiaiephbemdoaaMgH
import Derived.Conc.CompanyWords
import Derived.Conc.CompanyMem
import Derived.RowKit
import Derived.KernelRfl
import Derived.Conc.WgGenN3

set_option maxHeartbeats 800000
set_option linter.unusedVariables false
set_option linter.unusedSimpArgs false
set_option linter.unnecessarySimpa false
set_option maxRecDepth 100000

namespace Go.Proofs.Ytfiaiephbemdoaa

def dif (a b : List Int) (i k : Nat) : Nat := if decide (a.getD i 0 = a.getD k 0) = decide (b.getD i 0 = b.getD k 0) then 0 else 1
def qRow (a b : List Int) (i : Nat) : Nat → Nat
  | 0 => 0
  | k + 1 => qRow a b i k + dif a b i k
def quarTo (a b : List Int) : Nat → Nat
  | 0 => 0
  | i + 1 => quarTo a b i + qRow a b i i
def quar (a b : List Int) : Nat := quarTo a b a.length

theorem dif_le (a b : List Int) (i k : Nat) : dif a b i k ≤ 1 := by unfold dif; split <;> omega
theorem qRow_le (a b : List Int) (i k : Nat) : qRow a b i k ≤ k := by
  induction k with
  | zero => exact Nat.le_refl _
  | succ k ih => have := dif_le a b i k; unfold qRow; omega
theorem quarTo_le (a b : List Int) (n : Nat) : quarTo a b n ≤ n * n := by
  induction n with
  | zero => exact Nat.le_refl _
  | succ n ih =>
    have h1 := qRow_le a b n n
    have h2 : (n + 1) * (n + 1) = n * n + n + n + 1 := by rw [Nat.succ_mul, Nat.mul_succ]; omega
    unfold quarTo
    omega
def costOf (a : List Int) (vs : List (List Int)) : Nat := vs.foldr (fun v s => quar a v + s) 0
theorem costOf_append (a : List Int) (l m : List (List Int)) : costOf a (l ++ m) = costOf a l + costOf a m := by
  induction l with
  | nil => simp [costOf]
  | cons x l ih =>
    show quar a x + costOf a (l ++ m) = quar a x + costOf a l + costOf a m
    rw [ih, Nat.add_assoc]
theorem costOf_step (a : List Int) (l : List (List Int)) (k : Nat) (h : k < l.length) : costOf a (l.take (k + 1)) = costOf a (l.take k) + quar a (l.getD k []) := by
  rw [List.take_succ_eq_append_getElem h, costOf_append]
  simp [costOf, List.getD, h]
theorem costOf_take (a : List Int) (l : List (List Int)) (k : Nat) : costOf a (l.take k) ≤ costOf a l := by
  have := costOf_append a (l.take k) (l.drop k)
  rw [List.take_append_drop] at this
  omega

def votes (vs : List (List Int)) (i k : Nat) : Nat := vs.foldr (fun v s => (if v.getD i 0 = v.getD k 0 then 1 else 0) + s) 0

theorem votes_le (vs : List (List Int)) (i k : Nat) : votes vs i k ≤ vs.length := by
  induction vs with
  | nil => exact Nat.le_refl _
  | cons v vs ih =>
    show (if v.getD i 0 = v.getD k 0 then 1 else 0) + votes vs i k ≤ vs.length + 1
    split <;> omega

section
open Go.Conc Go.RowKit
open Go.ConcN (WgLive)

section
variable {Φ : Ph} {k : Nat}
theorem drawW : LetsDraw (DW Φ k) := fun _ => ⟨⟨_, rfl⟩, by simp⟩
theorem ownW (w : World) : RW Φ k w { w with drawn := w.drawn + 1 } := ⟨fun _ _ => rfl, id⟩

structure Lk (Φ : Ph) (k b off : Nat) (xs : List Int) (w : World) : Prop where
  rd : Φ.Rd k b
  at' : Nums w b off xs
theorem Lk.rely {b off : Nat} {xs : List Int} {w w₁ : World} (h : Lk Φ k b off xs w) (r : RW Φ k w w₁) : Lk Φ k b off xs w₁ := ⟨h.rd, fun j hj => (cell_eq (r.rd b h.rd)).trans (h.at' j hj)⟩
theorem Lk.at {b off : Nat} {xs : List Int} {w : World} (h : Lk Φ k b off xs w) (d : Nat) : Lk Φ k b off xs (w.at d) := ⟨h.rd, h.at'⟩

structure Lk2 (Φ : Ph) (k b off b' off' : Nat) (xs ys : List Int) (S : World → Prop) (w : World) : Prop where
  one : Lk Φ k b off xs w
  two : Lk Φ k b' off' ys w
  held : S w
  stays : ∀ w w₁, RW Φ k w w₁ → S w → S w₁
theorem Lk2.rely {b off b' off' : Nat} {xs ys : List Int} {S : World → Prop} {w w₁ : World} (h : Lk2 Φ k b off b' off' xs ys S w) (r : RW Φ k w w₁) : Lk2 Φ k b off b' off' xs ys S w₁ := ⟨h.one.rely r, h.two.rely r, h.stays _ _ r h.held, h.stays⟩

end

theorem eqb_events {P : Program} {t : TypeId} {x y : Bool} {w : World} (h : P.underlying t = some .bool) : (binOp .eql t (.bool x) (.bool y)).events P w #[] = #[] := by
  have h2 : (Op.equal t (.bool x) (.bool y)).events P w #[] = #[] := by
    have h3 : ∀ d, (Op.equalIn (d + 1) t (.bool x) (.bool y)).events P w #[] = #[] := fun d => by simp [Op.equalIn, go_sem, run_underlying h]
    exact h3 9999
  simp [binOp, go_sem, h2]
theorem bool_under : Try.prog.underlying 4 = some .bool := by kernel_rfl

section
variable {Φ : Ph} {k b off b' off' cap cap' : Nat} {xs ys : List Int}
set_option maxRecDepth 100000 in
theorem agree_w : ∃ m, ∀ (S : World → Prop) (b off b' off' cap cap' : Nat) (xs ys : List Int), ys.length = xs.length → ∀ (i j : Nat), i < xs.length → j < xs.length → ∀ w, Lk2 Φ k b off b' off' xs ys S w →
    CallsC Try.prog false (RW Φ k) (DW Φ k) 62 #[.slice (some ⟨b, off, none⟩) xs.length cap, .slice (some ⟨b', off', none⟩) ys.length cap', .int .i64 i, .int .i64 j] m w fun v w' => Lk2 Φ k b off b' off' xs ys S w' ∧ v = .bool ((xs.getD i 0 == xs.getD j 0) == (ys.getD i 0 == ys.getD j 0)) := by
  have T := termsW Φ k
  co_apply Exists.intro
  intro S b off b' off' cap cap' xs ys hl i j hi hj w₀ hF
  have hi' : i < ys.length := by omega
  have hj' : j < ys.length := by omega
  have zi : (0 : Int) ≤ i ∧ (i : Int) < xs.length := ⟨by omega, by omega⟩
  have zj : (0 : Int) ≤ j ∧ (j : Int) < xs.length := ⟨by omega, by omega⟩
  have yi : (0 : Int) ≤ i ∧ (i : Int) < ys.length := ⟨by omega, by omega⟩
  have yj : (0 : Int) ≤ j ∧ (j : Int) < ys.length := ⟨by omega, by omega⟩
  co_apply callsC_of_wpC Try.func62 (by rfl) rfl
  simp only [Try.ntmps62, List.size_toArray, List.length_cons, List.length_nil, Nat.reduceAdd, Nat.reduceSub, Array.replicate_succ, Array.replicate_zero, List.push_toArray, List.append_toArray, List.nil_append, List.cons_append]
  co_stmt T Lk2.rely hF (co_quiet T)
  co_apply wpC_seq T
  co_held T drawW ownW (Lk2 Φ k b off b' off' xs ys S) Lk2.rely hF
  co_take 0 T Lk2.rely hF hw (skip) (co_quiet T)
  co_take 1 T Lk2.rely hF hw (skip) (co_quiet T)
  co_take 2 T Lk2.rely hF hw (skip) (co_still T)
  co_take 3 T Lk2.rely hF hw (have hc := hw.one.at' i hi; have hr := hw.one.rd) (refine ⟨⟨_, rfl⟩, ?_⟩; co_evs (exact ⟨_, rfl, hr⟩))
  co_take 4 T Lk2.rely hF hw (skip) (co_quiet T)
  co_take 5 T Lk2.rely hF hw (skip) (co_quiet T)
  co_take 6 T Lk2.rely hF hw (skip) (co_still T)
  co_take 7 T Lk2.rely hF hw (have hc := hw.one.at' j hj; have hr := hw.one.rd) (refine ⟨⟨_, rfl⟩, ?_⟩; co_evs (exact ⟨_, rfl, hr⟩))
  co_take 8 T Lk2.rely hF hw (skip) (co_quiet T)
  co_take 9 T Lk2.rely hF hw (skip) (co_quiet T)
  co_take 10 T Lk2.rely hF hw (skip) (co_quiet T)
  co_take 11 T Lk2.rely hF hw (skip) (co_still T)
  co_take 12 T Lk2.rely hF hw (have hc := hw.two.at' i hi'; have hr := hw.two.rd) (refine ⟨⟨_, rfl⟩, ?_⟩; co_evs (exact ⟨_, rfl, hr⟩))
  co_take 13 T Lk2.rely hF hw (skip) (co_quiet T)
  co_take 14 T Lk2.rely hF hw (skip) (co_quiet T)
  co_take 15 T Lk2.rely hF hw (skip) (co_still T)
  co_take 16 T Lk2.rely hF hw (have hc := hw.two.at' j hj'; have hr := hw.two.rd) (refine ⟨⟨_, rfl⟩, ?_⟩; co_evs (exact ⟨_, rfl, hr⟩))
  co_take 17 T Lk2.rely hF hw (skip) (co_quiet T)
  co_take 18 T Lk2.rely hF hw (skip) (rw [listed_nil (by simp [go_sem, eqb_events bool_under])]; exact Terms.idle T _)
  co_take 19 T Lk2.rely hF hw (skip) (co_quiet T)
  co_done
  co_ctl T
  exact ⟨rfl, _, resultsC_tmp (by rfl) _, hF, by simp [List.getElem?_eq_getElem, hi, hj, hi', hj']⟩

theorem dif_b (xs ys : List Int) (i j : Nat) : ((xs.getD i 0 == xs.getD j 0) == (ys.getD i 0 == ys.getD j 0)) = decide (dif xs ys j i = 0) := by
  unfold dif
  generalize xs.getD i 0 = a
  generalize xs.getD j 0 = b
  generalize ys.getD i 0 = c
  generalize ys.getD j 0 = d
  by_cases h1 : a = b <;> by_cases h2 : c = d <;> first | (simp [h1, h2, eq_comm (a := b) (b := a), eq_comm (a := d) (b := c)]; done) | (rw [beq_false_of_ne h1, beq_false_of_ne h2]; simp [h1, h2, eq_comm (a := b) (b := a), eq_comm (a := d) (b := c)])

def OutI (Φ : Ph) (k b off b' off' cap cap' : Nat) (xs ys : List Int) (S : World → Prop) (a : Act) (w : World) : Prop :=
  ∃ (kk : Nat) (ci ki : Int) (v2 v3 v4 v6 v7 v8 v11 v12 v13 v14 v15 v16 v17 v18 v19 v20 v21 v22 v23 v24 v25 v26 v27 : Value), ci = (quarTo xs ys kk : Nat) ∧ ki = kk ∧ kk ≤ xs.length ∧ Lk2 Φ k b off b' off' xs ys S w ∧
    a = { tmps := #[.slice (some ⟨b, off, none⟩) xs.length cap, .slice (some ⟨b', off', none⟩) xs.length cap', v2, v3, v4, .int .i64 ci, v6, v7, v8, .int .i64 (xs.length : Nat), .int .i64 ki, v11, v12, v13, v14, v15, v16, v17, v18, v19, v20, v21, v22, v23, v24, v25, v26, v27], defers := [] }
def OutMu (xs : List Int) (a : Act) (_ : World) : Nat := match a.tmps.getD 10 undef with | .int _ j => xs.length - j.toNat | _ => 0
def InI (Φ : Ph) (k b off b' off' cap cap' : Nat) (xs ys : List Int) (S : World → Prop) (kk : Nat) (a : Act) (w : World) : Prop :=
  ∃ (jj : Nat) (ci ji : Int) (v2 v3 v4 v7 v8 v11 v12 v15 v16 v17 v18 v19 v20 v21 v22 v23 v24 v25 v26 v27 : Value), ci = (quarTo xs ys kk + qRow xs ys kk jj : Nat) ∧ ji = jj ∧ jj ≤ kk ∧ Lk2 Φ k b off b' off' xs ys S w ∧
    a = { tmps := #[.slice (some ⟨b, off, none⟩) xs.length cap, .slice (some ⟨b', off', none⟩) xs.length cap', v2, v3, v4, .int .i64 ci, .int .i64 kk, v7, v8, .int .i64 (xs.length : Nat), .int .i64 kk, v11, v12, .int .i64 kk, .int .i64 ji, v15, v16, v17, v18, v19, v20, v21, v22, v23, v24, v25, v26, v27], defers := [] }
def InMu (kk : Nat) (a : Act) (_ : World) : Nat := match a.tmps.getD 14 undef with | .int _ j => kk - j.toNat | _ => 0

set_option maxRecDepth 100000 in
set_option maxHeartbeats 4000000 in
theorem quarrel_w : ∃ m, ∀ (S : World → Prop) (b off b' off' cap cap' : Nat) (xs ys : List Int), 1 ≤ xs.length → xs.length ≤ 8 → ys.length = xs.length → ∀ w, Lk2 Φ k b off b' off' xs ys S w →
    CallsC Try.prog false (RW Φ k) (DW Φ k) 44 #[.slice (some ⟨b, off, none⟩) xs.length cap, .slice (some ⟨b', off', none⟩) xs.length cap'] m w fun v w' => Lk2 Φ k b off b' off' xs ys S w' ∧ v = .int .i64 (quar xs ys : Nat) := by
  have T := termsW Φ k
  obtain ⟨mA, hA'⟩ := agree_w (Φ := Φ) (k := k)
  co_apply Exists.intro
  intro S b off b' off' cap cap' xs ys hx h8 hl w₀ hF
  have hA := hA' S b off b' off' cap cap' xs ys hl
  rw [hl] at hA
  clear hl
  co_apply callsC_of_wpC Try.func44 (by rfl) rfl
  simp only [Try.ntmps44, List.size_toArray, List.length_cons, List.length_nil, Nat.reduceAdd, Nat.reduceSub, Array.replicate_succ, Array.replicate_zero, List.push_toArray, List.append_toArray, List.nil_append, List.cons_append]
  co_go T Lk2.rely hF (co_quiet T)
  co_apply wpC_loop T (OutI Φ k b off b' off' cap cap' xs ys S) (OutMu xs) _ 8
  · exact ⟨0, _, _, _, _, _, _, _, _, _, _, _, _, _, _, _, _, _, _, _, _, _, _, _, _, _, rfl, rfl, Nat.zero_le _, hF, rfl⟩
  · simp [OutMu]; omega
  · rintro a w ⟨kk, _, _, v2, v3, v4, v6, v7, v8, v11, v12, v13, v14, v15, v16, v17, v18, v19, v20, v21, v22, v23, v24, v25, v26, v27, rfl, rfl, hkk, hS, rfl⟩
    co_go T Lk2.rely hS (co_quiet T)
    co_split T (decide ((kk : Int) < (xs.length : Int)))
    · intro hlt
      have hlt' : kk < xs.length := by have := of_decide_eq_true hlt; omega
      co_go T Lk2.rely hS (co_quiet T)
      co_apply wpC_loop T (InI Φ k b off b' off' cap cap' xs ys S kk) (InMu kk) _ 8
      · exact ⟨0, _, _, _, _, _, _, _, _, _, _, _, _, _, _, _, _, _, _, _, _, _, _, by simp [qRow], rfl, Nat.zero_le _, hS, rfl⟩
      · simp [InMu]; omega
      · rintro a w ⟨jj, _, _, v2, v3, v4, v7, v8, v11, v12, v15, v16, v17, v18, v19, v20, v21, v22, v23, v24, v25, v26, v27, rfl, rfl, hjj, hS, rfl⟩
        have hm : quarTo xs ys kk + qRow xs ys kk jj ≤ 1000 := by
          have e3 := qRow_le xs ys kk jj
          have e4 := quarTo_le xs ys kk
          have e5 := Nat.mul_le_mul (show kk ≤ 8 by omega) (show kk ≤ 8 by omega)
          omega
        have e1 : IntKind.i64.wrap ((jj : Int) + 1) = ((jj + 1 : Nat) : Int) := by rw [IntKind.wrap_i64]; omega
        have e2 : IntKind.i64.wrap ((kk : Int) + 1) = ((kk + 1 : Nat) : Int) := by rw [IntKind.wrap_i64]; omega
        have e0 : IntKind.i64.wrap (((quarTo xs ys kk + qRow xs ys kk jj : Nat) : Int) + 1) = ((quarTo xs ys kk + qRow xs ys kk jj + 1 : Nat) : Int) := by rw [IntKind.wrap_i64]; omega
        co_go T Lk2.rely hS (co_quiet T)
        co_split T (decide ((jj : Int) < (kk : Int)))
        · intro hlt2
          have hlt2' : jj < kk := by have := of_decide_eq_true hlt2; omega
          co_go T Lk2.rely hS (co_quiet T)
          co_apply opsC_call (nf := mA) (Post := fun v w' => Lk2 Φ k b off b' off' xs ys S w' ∧ v = .bool (decide (dif xs ys kk jj = 0))) T rfl (by rfl) rfl
          · have hc := (hA jj kk (by omega) hlt' _ hS).mono (Post' := fun v w' => Lk2 Φ k b off b' off' xs ys S w' ∧ v = .bool (decide (dif xs ys kk jj = 0))) fun v w' h => ⟨h.1, h.2.trans (by rw [dif_b])⟩
            simpa [Act.eval] using hc
          clear hS
          rintro v w ⟨hS, rfl⟩
          walk_nrm
          co_go T Lk2.rely hS (co_quiet T)
          co_split T (!decide (dif xs ys kk jj = 0))
          · intro hb
            have hd1 : dif xs ys kk jj = 1 := by
              have := dif_le xs ys kk jj
              simp at hb
              omega
            clear hb
            co_go T Lk2.rely hS (co_quiet T)
            exact ⟨⟨jj + 1, _, _, _, _, _, _, _, _, _, _, _, _, _, _, _, _, _, _, _, _, _, _, by simp only [qRow, hd1]; (try rw [IntKind.wrap_i64]); omega, by simp, by omega, hS, rfl⟩, by simp [InMu]; omega⟩
          · intro hb
            have hd : dif xs ys kk jj = 0 := by simpa using hb
            clear hb
            co_go T Lk2.rely hS (co_quiet T)
            exact ⟨⟨jj + 1, _, _, _, _, _, _, _, _, _, _, _, _, _, _, _, _, _, _, _, _, _, _, by simp [qRow, hd], by simp, by omega, hS, rfl⟩, by simp [InMu]; omega⟩
        · intro hlt2
          obtain rfl : jj = kk := by have := of_decide_eq_false hlt2; omega
          co_go T Lk2.rely hS (co_quiet T)
          exact ⟨⟨jj + 1, _, _, _, _, _, _, _, _, _, _, _, _, _, _, _, _, _, _, _, _, _, _, _, _, _, by simp [quarTo], by simp, by omega, hS, rfl⟩, by simp [OutMu]; omega⟩
    · intro hlt
      obtain rfl : kk = xs.length := by have := of_decide_eq_false hlt; omega
      co_go T Lk2.rely hS (co_quiet T)
      exact ⟨rfl, _, resultsC_tmp (by rfl) _, hS, rfl⟩
end
end

section
open Go.Conc Go.RowKit
open Go.ConcN (WgLive)

structure Ck (Φ : Ph) (k bx pb po pn pcap number b off cap b' off' : Nat) (xs ys : List Int) (S : World → Prop) (w : World) : Prop where
  rbx : Φ.Rd k bx
  box : w.cell? ⟨bx, 0, none⟩ = some (.slice (some ⟨pb, po, none⟩) pn pcap)
  rpb : Φ.Rd k pb
  row : w.cell? ⟨pb, po + number, none⟩ = some (.slice (some ⟨b, off, none⟩) xs.length cap)
  one : Lk Φ k b off xs w
  two : Lk Φ k b' off' ys w
  held : S w
  stays : ∀ w w₁, RW Φ k w w₁ → S w → S w₁
theorem Ck.rely {Φ : Ph} {k bx pb po pn pcap number b off cap b' off' : Nat} {xs ys : List Int} {S : World → Prop} {w w₁ : World} (h : Ck Φ k bx pb po pn pcap number b off cap b' off' xs ys S w) (r : RW Φ k w w₁) : Ck Φ k bx pb po pn pcap number b off cap b' off' xs ys S w₁ :=
  ⟨h.rbx, (cell_eq (r.rd _ h.rbx)).trans h.box, h.rpb, (cell_eq (r.rd _ h.rpb)).trans h.row, h.one.rely r, h.two.rely r, h.stays _ _ r h.held, h.stays⟩

set_option maxRecDepth 100000 in
set_option maxHeartbeats 4000000 in
theorem askCosts {Φ : Ph} {k : Nat} : ∃ m, ∀ (S : World → Prop) (bx pb po pn pcap number b off cap b' off' cap' : Nat) (xs ys : List Int), 1 ≤ xs.length → xs.length ≤ 8 → ys.length = xs.length → number < pn → ∀ w, Ck Φ k bx pb po pn pcap number b off cap b' off' xs ys S w →
    CallsC Try.prog false (RW Φ k) (DW Φ k) 55 #[.slice (some ⟨b', off', none⟩) xs.length cap', .int .i64 number, .pointer (some ⟨bx, 0, none⟩)] m w fun v w' => S w' ∧ v = .int .i64 (quar xs ys : Nat) := by
  have T := termsW Φ k
  obtain ⟨mQ, hQ⟩ := quarrel_w (Φ := Φ) (k := k)
  co_apply Exists.intro
  intro S bx pb po pn pcap number b off cap b' off' cap' xs ys hx h8 hl hn w₀ hF
  have hQ' := hQ S b off b' off' cap cap' xs ys hx h8 hl
  clear hl
  co_apply callsC_of_wpC Try.func55 (by rfl) rfl
  simp only [Try.ntmps55, List.size_toArray, List.length_cons, List.length_nil, Nat.reduceAdd, Nat.reduceSub, Array.replicate_succ, Array.replicate_zero, List.push_toArray, List.append_toArray, List.nil_append, List.cons_append]
  have zn : (0 : Int) ≤ number ∧ (number : Int) < pn := ⟨by omega, by omega⟩
  co_go T Ck.rely hF (co_quiet T)
  co_opw Ck.rely hF (have hc := hF.box; have hr := hF.rbx) (refine ⟨⟨_, rfl⟩, ?_⟩; co_evs (exact ⟨_, rfl, hr⟩))
  co_go T Ck.rely hF (co_still T)
  co_opw Ck.rely hF (have hc := hF.row; have hr := hF.rpb) (refine ⟨⟨_, rfl⟩, ?_⟩; co_evs (exact ⟨_, rfl, hr⟩))
  co_go T Ck.rely hF (co_quiet T)
  co_apply opsC_call (nf := mQ) (Post := fun v w' => S w' ∧ v = .int .i64 (quar xs ys : Nat)) T rfl (by rfl) rfl
  · have hc := (hQ' _ ⟨hF.one, hF.two, hF.held, hF.stays⟩).mono (Post' := fun v w' => S w' ∧ v = .int .i64 (quar xs ys : Nat)) fun v w' h => ⟨h.1.held, h.2⟩
    simpa [Act.eval] using hc
  have hst := hF.stays
  rintro v w ⟨hE, rfl⟩
  clear hF
  walk_nrm
  co_go T (fun h r => hst _ _ r h) hE (co_quiet T)
  exact ⟨rfl, _, resultsC_tmp (by rfl) _, hE, rfl⟩
end

section
open Go.Conc Go.RowKit
open Go.ConcN (WgLive)

structure Tk (Φ : Ph) (k bx b off : Nat) (ys : List Int) (S : World → Prop) (w : World) : Prop where
  rbx : Φ.Rd k bx
  box : w.cell? ⟨bx, 0, none⟩ = some (.int .i64 ys.length)
  one : Lk Φ k b off ys w
  held : S w
  stays : ∀ w w₁, RW Φ k w w₁ → S w → S w₁
theorem Tk.rely {Φ : Ph} {k bx b off : Nat} {ys : List Int} {S : World → Prop} {w w₁ : World} (h : Tk Φ k bx b off ys S w) (r : RW Φ k w w₁) : Tk Φ k bx b off ys S w₁ :=
  ⟨h.rbx, (cell_eq (r.rd _ h.rbx)).trans h.box, h.one.rely r, h.stays _ _ r h.held, h.stays⟩

set_option maxRecDepth 100000 in
set_option maxHeartbeats 4000000 in
theorem askTogether {Φ : Ph} {k : Nat} : ∃ m, ∀ (S : World → Prop) (bx b off cap : Nat) (ys : List Int) (x y number : Nat), x < ys.length → y < ys.length → ys.length ≤ 8 → number / ys.length = x → number % ys.length = y → number < 64 → ∀ w, Tk Φ k bx b off ys S w →
    CallsC Try.prog false (RW Φ k) (DW Φ k) 63 #[.slice (some ⟨b, off, none⟩) ys.length cap, .int .i64 number, .pointer (some ⟨bx, 0, none⟩)] m w fun v w' => S w' ∧ v = .int .i64 (if ys.getD x 0 = ys.getD y 0 then 1 else 0) := by
  have T := termsW Φ k
  co_apply Exists.intro
  intro S bx b off cap ys x y number hx hy h8 hdx hmy hnu w₀ hF
  have q1 : ((number : Int)).tdiv (ys.length : Int) = (x : Int) := by rw [Int.tdiv_eq_ediv_of_nonneg (by omega), ← hdx]; exact (Int.natCast_ediv ..).symm
  have q2 : ((number : Int)).tmod (ys.length : Int) = (y : Int) := by rw [Int.tmod_eq_emod_of_nonneg (by omega), ← hmy]; exact (Int.natCast_emod ..).symm
  have q3 : (number : Int) / (ys.length : Int) = (x : Int) := by rw [← hdx]; exact (Int.natCast_ediv ..).symm
  have q4 : (number : Int) % (ys.length : Int) = (y : Int) := by rw [← hmy]; exact (Int.natCast_emod ..).symm
  have z0 : ¬ ((ys.length : Int) = 0) := by omega
  have z1 : ¬ (ys.length = 0) := by omega
  have z2 : ¬ (ys = []) := by intro e; subst e; simp at hx
  have w1 : IntKind.i64.wrap (x : Int) = x := by rw [IntKind.wrap_i64]; omega
  have w2 : IntKind.i64.wrap (y : Int) = y := by rw [IntKind.wrap_i64]; omega
  have zx : (0 : Int) ≤ x ∧ (x : Int) < ys.length := ⟨by omega, by omega⟩
  have zy : (0 : Int) ≤ y ∧ (y : Int) < ys.length := ⟨by omega, by omega⟩
  clear hdx hmy
  co_apply callsC_of_wpC Try.func63 (by rfl) rfl
  simp only [Try.ntmps63, List.size_toArray, List.length_cons, List.length_nil, Nat.reduceAdd, Nat.reduceSub, Array.replicate_succ, Array.replicate_zero, List.push_toArray, List.append_toArray, List.nil_append, List.cons_append]
  co_stmt T Tk.rely hF (co_quiet T)
  co_apply wpC_seq T
  co_apply wpC_seq T
  co_held T drawW ownW (Tk Φ k bx b off ys S) Tk.rely hF
  co_take 0 T Tk.rely hF hw (skip) (co_quiet T)
  co_take 1 T Tk.rely hF hw (skip) (co_quiet T)
  co_take 2 T Tk.rely hF hw (have hc := hw.box; have hr := hw.rbx) (refine ⟨⟨_, rfl⟩, ?_⟩; co_evs (exact ⟨_, rfl, hr⟩))
  co_take 3 T Tk.rely hF hw (skip) (co_still T)
  co_take 4 T Tk.rely hF hw (skip) (co_still T)
  co_take 5 T Tk.rely hF hw (have hc := hw.one.at' x hx; have hr := hw.one.rd) (refine ⟨⟨_, rfl⟩, ?_⟩; co_evs (exact ⟨_, rfl, hr⟩))
  co_take 6 T Tk.rely hF hw (skip) (co_quiet T)
  co_take 7 T Tk.rely hF hw (skip) (co_quiet T)
  co_take 8 T Tk.rely hF hw (have hc := hw.box; have hr := hw.rbx) (refine ⟨⟨_, rfl⟩, ?_⟩; co_evs (exact ⟨_, rfl, hr⟩))
  co_take 9 T Tk.rely hF hw (skip) (co_still T)
  co_take 10 T Tk.rely hF hw (skip) (co_still T)
  co_take 11 T Tk.rely hF hw (have hc := hw.one.at' y hy; have hr := hw.one.rd) (refine ⟨⟨_, rfl⟩, ?_⟩; co_evs (exact ⟨_, rfl, hr⟩))
  co_take 12 T Tk.rely hF hw (skip) (co_quiet T)
  co_done
  co_apply wpC_cond_split T (t := decide (ys.getD x 0 = ys.getD y 0))
  focus
    simp [Act.eval, List.getElem?_eq_getElem, hx, hy]
    by_cases h : ys[x] = ys[y] <;> simp [h]
  · intro ht
    have ht' := of_decide_eq_true ht
    clear ht
    co_go T Tk.rely hF (co_quiet T)
    exact ⟨rfl, _, resultsC_tmp (by rfl) _, hF.held, by rw [if_pos ht']; rfl⟩
  · intro ht
    have ht' := of_decide_eq_false ht
    clear ht
    co_go T Tk.rely hF (co_quiet T)
    exact ⟨rfl, _, resultsC_tmp (by rfl) _, hF.held, by rw [if_neg ht']; rfl⟩
end

section
open Go.Conc Go.RowKit Go.Conc.Lib Go.ConcR.Gen Go.ConcN.Gen
open Go.ConcN (WgLive st_flag st_waiters)
open Go.ConcR (KK WgAt stA smA rd wr mk DC0)

theorem tf_rely {Φ : Ph} {j : Nat} {F : World → Prop} (hF2 : ∀ w w', RM Φ j w w' → F w → F w') {w w₁ : World} (h : F w ∧ WgLive Φ.ty Φ.Wg w) (r : RM Φ j w w₁) : F w₁ ∧ WgLive Φ.ty Φ.Wg w₁ := ⟨hF2 _ _ r h.1, r.live h.2⟩

section
variable {Φ : Ph} {L : WgLink} {j : Nat} {Next : Goroutine → World → Prop} {F : World → Prop}
  {b₀ : Frame} {a₀ : Act} {ops₀ : Array Oper} {i₀ : Nat} {rest₀ : List Nat} {k₀ : List Item} {cs : List Frame} {mT : Nat}

set_option maxRecDepth 100000 in
set_option maxHeartbeats 16000000 in
theorem add_t (H : WgLib Φ.P L) (hty : Φ.ty = L.tWg) (hF2 : ∀ w w', RM Φ j w w' → F w → F w')
    (hT : ∀ w, F w → WgLive Φ.ty Φ.Wg w → Goes Φ.P true (RM Φ j) (DM Φ j) (AtGoS Φ j Next) mT (G (b₀.at (a₀.put ((ops₀[i₀]?).bind (·.dst)) (.tuple #[])) (.inRegion ops₀ rest₀ :: k₀)) cs) w)
    (w : World) (hF : F w ∧ WgLive Φ.ty Φ.Wg w) :
    Goes Φ.P true (RM Φ j) DC0 (AtKdS Φ j Next) 40
      (G ((base L.add).at ⟨#[.pointer (some ⟨Φ.Wg, 0, none⟩), .int .i64 1, undef, undef, undef, undef, undef, undef, undef, undef, undef, undef, undef, undef, undef, undef, undef, undef, undef, undef, undef, undef, undef, undef, undef, undef, undef, undef, undef, undef, undef, undef, undef, undef, undef, undef, undef, undef, undef, undef, undef, undef, undef, undef, undef, undef, undef, undef, undef, undef, undef, undef, undef, undef, undef, undef, undef, undef, undef, undef, undef, undef, undef, undef, undef, undef, undef, undef, undef, undef, undef, undef, undef, undef, undef, undef, undef, undef, undef, undef, undef, undef, undef, undef, undef, undef, undef, undef, undef, undef, undef, undef, undef, undef, undef, undef, undef, undef, undef, undef, undef, undef, undef, undef, undef, undef, undef, undef, undef, undef, undef, undef, undef, undef, undef, undef, undef], []⟩ [.code (body_add L)]) (b₀.at a₀ (.inRegion ops₀ (i₀ :: rest₀) :: k₀) :: cs)) w := by
  lib_facts
  simp only [body_add, addFn, Option.getD_some]
  iterate 12 (first
    | u_c stepG_seq (tf_rely hF2) hF
    | u_c stepG_region_end (tf_rely hF2) hF
    | u_c stepG_skip (tf_rely hF2) hF
    | u_c stepG_ret' (tf_rely hF2) hF
    | u_reg (tf_rely hF2) hF
    | (u_in (tf_rely hF2) hF; rw [stepG_cond (t := true)]; rotate_left; (first | rfl); simp only [goes_go, if_true, if_false, Bool.false_eq_true, reduceIte]; refine ⟨by u_nil, ?_⟩)
    | (u_in (tf_rely hF2) hF; rw [stepG_cond (t := false)]; rotate_left; (first | rfl); simp only [goes_go, if_true, if_false, Bool.false_eq_true, reduceIte]; refine ⟨by u_nil, ?_⟩)
    | u_skip (tf_rely hF2) hF
    | u_defer (tf_rely hF2) hF
    | u_bub (tf_rely hF2) hF
    | u_op (tf_rely hF2) hF
    | u_leave1 H.f_uAdd (tf_rely hF2) hF
    | u_call H.f_uAdd (nm_uAdd L) uAddFn (tf_rely hF2) hF)
  refine Goes.stop (fun w₁ h₁ => ?_)
  replace hF := tf_rely hF2 hF h₁
  clear h₁
  refine ⟨rfl, _, stepG_mark0 .disable (by simp) rfl rfl (by k_ne) rfl H.f_disable (x_disable_n L) (x_disable_b L) (x_disable_x L) (x_disable_f L), 80, ?_⟩
  walk_nrm
  iterate 34 (first
    | u_c stepG_seq (tf_rely hF2) hF
    | u_c stepG_region_end (tf_rely hF2) hF
    | u_c stepG_skip (tf_rely hF2) hF
    | u_c stepG_ret' (tf_rely hF2) hF
    | u_reg (tf_rely hF2) hF
    | (u_in (tf_rely hF2) hF; rw [stepG_cond (t := true)]; rotate_left; (first | rfl); simp only [goes_go, if_true, if_false, Bool.false_eq_true, reduceIte]; refine ⟨by u_nil, ?_⟩)
    | (u_in (tf_rely hF2) hF; rw [stepG_cond (t := false)]; rotate_left; (first | rfl); simp only [goes_go, if_true, if_false, Bool.false_eq_true, reduceIte]; refine ⟨by u_nil, ?_⟩)
    | u_skip (tf_rely hF2) hF
    | u_defer (tf_rely hF2) hF
    | u_bub (tf_rely hF2) hF
    | u_op (tf_rely hF2) hF
    | u_leave1 H.f_uAdd (tf_rely hF2) hF
    | u_call H.f_uAdd (nm_uAdd L) uAddFn (tf_rely hF2) hF)
  refine Goes.stop (fun w₂ h₂ => ?_)
  replace hF := tf_rely hF2 hF h₂
  clear h₂
  refine ⟨rfl, fun v hv hw => ?_⟩
  rw [hty] at hw
  rcases Nat.eq_zero_or_pos v with rfl | hvp
  · replace hw : WgAt L.tWg Φ.Wg w₂ 0 0 := by simpa using hw
    have z : (((0 : Nat) : Int) + 1) * KK = KK := by simp
    rw [z]
    have e0 : IntKind.u64.wrap (0 + 4294967296) = KK := by decide
    refine ⟨_, (stepG_add_atomic rfl rfl (by k_ne) rfl H.f_addU64 (x_addU64_n L) (x_addU64_b L) (x_addU64_x L) .u64 (x_addU64_f L) rfl rfl hw.cellSt (hw.thaw 0)).trans (by rw [e0]; rfl), fun _ => ⟨140, ?_⟩, fun h => absurd rfl h⟩
    replace hF : F (w₂.setCell (stA Φ.Wg) (.int .u64 KK)) ∧ WgLive Φ.ty Φ.Wg (w₂.setCell (stA Φ.Wg) (.int .u64 KK)) := by
      have h2 : WgAt Φ.ty Φ.Wg (w₂.setCell (stA Φ.Wg) (.int .u64 KK)) KK 0 := by rw [hty]; exact hw.setSt _
      exact ⟨hF2 _ _ (RM.of_wg rfl h2) hF.1, _, _, h2⟩
    clear hw
    simp only [KK] at hF ⊢
    walk_nrm
    u_op (tf_rely hF2) hF
    u_c stepG_region_end (tf_rely hF2) hF
    u_c stepG_ret' (tf_rely hF2) hF
    u_leave1 H.f_uAdd (tf_rely hF2) hF
    iterate 48 (first
      | u_c stepG_seq (tf_rely hF2) hF
      | u_c stepG_region_end (tf_rely hF2) hF
      | u_c stepG_skip (tf_rely hF2) hF
      | u_reg (tf_rely hF2) hF
      | (u_in (tf_rely hF2) hF; rw [stepG_cond (t := true)]; rotate_left; (first | rfl); simp only [goes_go, if_true, if_false, Bool.false_eq_true, reduceIte]; refine ⟨by u_nil, ?_⟩)
      | (u_in (tf_rely hF2) hF; rw [stepG_cond (t := false)]; rotate_left; (first | rfl); simp only [goes_go, if_true, if_false, Bool.false_eq_true, reduceIte]; refine ⟨by u_nil, ?_⟩)
      | u_skip (tf_rely hF2) hF
      | u_defer (tf_rely hF2) hF
      | u_bub (tf_rely hF2) hF
      | u_op (tf_rely hF2) hF)
    u_in (tf_rely hF2) hF
    refine goes_oper_k rfl rfl (by k_ne) (fun Kx hKx => ?_)
    have hcv := run_convert_to_unsafe (P := Φ.P) H.underlying_tPU32 H.underlying_tUP H.room_tU32 (WgLive.cell1 hF.2).choose_spec
    have hce := fun es => events_convert_to_unsafe (P := Φ.P) H.underlying_tPU32 H.underlying_tUP H.room_tU32 (WgLive.cell1 hF.2).choose_spec es
    go_simp
    refine hKx _ _ ⟨?_, ?_⟩
    · u_none
      intro ex hex
      have hmx := mem_listed hex
      simp [go_sem, hce] at hmx
    clear hKx Kx hcv hce
    refine Goes.stop (fun w₃ h₃ => ?_)
    replace hF := tf_rely hF2 hF h₃
    clear h₃
    refine ⟨rfl, _, stepG_markAt .read (by simp) rfl rfl (by k_ne) rfl H.f_raceRead (x_raceRead_n L) (x_raceRead_b L) (x_raceRead_x L) (x_raceRead_f L) (ad := ⟨Φ.Wg, 1, none⟩) (by simp [Act.eval]), 80, ?_⟩
    walk_nrm
    iterate 38 (first
      | u_c stepG_seq (tf_rely hF2) hF
      | u_c stepG_region_end (tf_rely hF2) hF
      | u_c stepG_skip (tf_rely hF2) hF
      | u_reg (tf_rely hF2) hF
      | (u_in (tf_rely hF2) hF; rw [stepG_cond (t := true)]; rotate_left; (first | rfl); simp only [goes_go, if_true, if_false, Bool.false_eq_true, reduceIte]; refine ⟨by u_nil, ?_⟩)
      | (u_in (tf_rely hF2) hF; rw [stepG_cond (t := false)]; rotate_left; (first | rfl); simp only [goes_go, if_true, if_false, Bool.false_eq_true, reduceIte]; refine ⟨by u_nil, ?_⟩)
      | u_skip (tf_rely hF2) hF
      | u_defer (tf_rely hF2) hF
      | u_bub (tf_rely hF2) hF
      | u_op (tf_rely hF2) hF)
    u_c stepG_ret' (tf_rely hF2) hF
    refine Goes.stop (fun w₃ h₃ => ?_)
    replace hF := tf_rely hF2 hF h₃
    clear h₃
    refine ⟨rfl, _, stepG_unwind_entry (v := .tuple #[]) (evs := #[mk .enable]) rfl H.f_enable (x_enable_n L) (x_enable_b L) (x_enable_x L) (x_enable_f L) (by simp [Extern.Race.none_]) (by simp [mk]) (by simp [mk]), mT + 1, ?_⟩
    u_in (tf_rely hF2) hF
    refine goes_leave0 rfl rfl H.f_add rfl ⟨dm_nil, ?_⟩
    walk_nrm
    exact hT _ hF.1 hF.2
  · obtain ⟨V, hV⟩ : ∃ V : Int, V = (v : Int) + 1 := ⟨_, rfl⟩
    obtain ⟨S, hS⟩ : ∃ S : Int, S = V * KK := ⟨_, rfl⟩
    have eS : IntKind.u64.wrap ((v : Int) * KK + 4294967296) = S := by rw [IntKind.wrap_u64, hS, hV]; simp only [KK]; omega
    rw [← hV, ← hS]
    have a1 : S / 4294967296 = V := by rw [hS]; simp only [KK]; omega
    have b1 : bits .and .u64 S 2147483648 = 0 := by rw [hS, hV]; have := st_flag (v + 1) 0 (by omega) (by omega); simpa [KK] using this
    have b2 : bits .and .u64 S 2147483647 = 0 := by rw [hS, hV]; have := st_waiters (v + 1) 0 (by omega) (by omega); simpa [KK] using this
    have c1 : IntKind.i32.wrap V = V := by rw [IntKind.wrap_i32]; omega
    have hV1 : 1 < V := by omega
    have hV2 : V < 2147483648 := by omega
    have q1 : (V == 1) = false := by simp; omega
    have q2 : decide (V = 1) = false := decide_eq_false (by omega)
    have q3 : decide (V < 0) = false := decide_eq_false (by omega)
    have q4 : decide (0 < V) = true := decide_eq_true (by omega)
    have q5 : (V == 0) = false := by simp; omega
    have q6 : decide (V = 0) = false := decide_eq_false (by omega)
    refine ⟨_, (stepG_add_atomic rfl rfl (by k_ne) rfl H.f_addU64 (x_addU64_n L) (x_addU64_b L) (x_addU64_x L) .u64 (x_addU64_f L) rfl rfl hw.cellSt (hw.thaw 0)).trans (by rw [eS]; rfl), fun h => absurd h (by omega), fun _ => ⟨140, ?_⟩⟩
    replace hF : F (w₂.setCell (stA Φ.Wg) (.int .u64 S)) ∧ WgLive Φ.ty Φ.Wg (w₂.setCell (stA Φ.Wg) (.int .u64 S)) := by
      have h2 : WgAt Φ.ty Φ.Wg (w₂.setCell (stA Φ.Wg) (.int .u64 S)) S 0 := by rw [hty]; exact hw.setSt _
      exact ⟨hF2 _ _ (RM.of_wg rfl h2) hF.1, _, _, h2⟩
    clear hw hS hV eS
    walk_nrm
    u_op (tf_rely hF2) hF
    u_c stepG_region_end (tf_rely hF2) hF
    u_c stepG_ret' (tf_rely hF2) hF
    u_leave1 H.f_uAdd (tf_rely hF2) hF
    iterate 82 (first
      | u_c stepG_seq (tf_rely hF2) hF
      | u_c stepG_region_end (tf_rely hF2) hF
      | u_c stepG_skip (tf_rely hF2) hF
      | u_reg (tf_rely hF2) hF
      | (u_in (tf_rely hF2) hF; rw [stepG_cond (t := true)]; rotate_left; (first | rfl | (simp [Act.eval]; done) | (simp [Act.eval]; omega)); simp only [goes_go, if_true, if_false, Bool.false_eq_true, reduceIte]; refine ⟨by u_nil, ?_⟩)
      | (u_in (tf_rely hF2) hF; rw [stepG_cond (t := false)]; rotate_left; (first | rfl | (simp [Act.eval]; done) | (simp [Act.eval]; omega)); simp only [goes_go, if_true, if_false, Bool.false_eq_true, reduceIte]; refine ⟨by u_nil, ?_⟩)
      | u_skip (tf_rely hF2) hF
      | u_defer (tf_rely hF2) hF
      | u_bub (tf_rely hF2) hF
      | u_op (tf_rely hF2) hF)
    u_c stepG_ret' (tf_rely hF2) hF
    refine Goes.stop (fun w₃ h₃ => ?_)
    replace hF := tf_rely hF2 hF h₃
    clear h₃
    refine ⟨rfl, _, stepG_unwind_entry (v := .tuple #[]) (evs := #[mk .enable]) rfl H.f_enable (x_enable_n L) (x_enable_b L) (x_enable_x L) (x_enable_f L) (by simp [Extern.Race.none_]) (by simp [mk]) (by simp [mk]), mT + 1, ?_⟩
    u_in (tf_rely hF2) hF
    refine goes_leave0 rfl rfl H.f_add rfl ⟨dm_nil, ?_⟩
    walk_nrm
    exact hT _ hF.1 hF.2
end
end

section
open Go.Conc Go.RowKit Go.Conc.Lib Go.ConcR.Gen Go.ConcN.Gen
open Go.ConcN (WgLive st_flag st_waiters)
open Go.ConcR (KK WgAt stA smA rd wr mk DC0)

theorem goes_up {P : Program} {main : Bool} {R : World → World → Prop} {D : World → World → Array Event → Prop} {S : Goroutine → World → Prop} {n : Nat} {g : Goroutine} {w : World} (h : Goes P main R D S n g w) : ∀ k, Goes P main R D S (k + n) g w
  | 0 => by rw [Nat.zero_add]; exact h
  | k + 1 => by rw [show k + 1 + n = (k + n) + 1 by omega]; exact (goes_up h k).more

theorem goes_glue {Φ : Ph} {i j mT : Nat} {S : Goroutine → World → Prop} : ∀ (m : Nat) {g : Goroutine} {w : World}, Goes Φ.P true (RM Φ i) DC0 (fun g w => Goes Φ.P true (RM Φ i) (DM Φ j) S mT g w) m g w → Goes Φ.P true (RM Φ i) (DM Φ j) S (m + mT) g w
  | 0, g, w, h => by rw [Nat.zero_add]; exact h w (RM.refl w)
  | m + 1, g, w, h => by
    rcases h with h | ⟨hr, h⟩
    · exact goes_up (h w (RM.refl w)) (m + 1)
    · rw [show m + 1 + mT = (m + mT) + 1 by omega]
      refine .inr ⟨hr, fun w₁ h₁ => ?_⟩
      obtain ⟨g', w', es, e, ⟨rfl, rfl⟩, hn⟩ := goes_elim (h w₁ h₁)
      rw [e]
      exact ⟨dm_nil, goes_glue m hn⟩

def AnchT (Φ : Ph) (L : WgLink) (F : World → Prop) (c : Frame) (cs : List Frame) (g : Goroutine) (w : World) : Prop :=
  ∃ T : Array Value, g = G ((base L.wait).at ⟨T, []⟩ [.code (L7 L), .inLoop (L7 L), .inBlock 0]) (c :: cs) ∧ T.size = 84 ∧ T[0]? = some (.pointer (some ⟨Φ.Wg, 0, none⟩)) ∧ F w ∧ WgLive Φ.ty Φ.Wg w

theorem arr84 (T : Array Value) (h : T.size = 84) : ∃ v0 v1 v2 v3 v4 v5 v6 v7 v8 v9 v10 v11 v12 v13 v14 v15 v16 v17 v18 v19 v20 v21 v22 v23 v24 v25 v26 v27 v28 v29 v30 v31 v32 v33 v34 v35 v36 v37 v38 v39 v40 v41 v42 v43 v44 v45 v46 v47 v48 v49 v50 v51 v52 v53 v54 v55 v56 v57 v58 v59 v60 v61 v62 v63 v64 v65 v66 v67 v68 v69 v70 v71 v72 v73 v74 v75 v76 v77 v78 v79 v80 v81 v82 v83, T = #[v0, v1, v2, v3, v4, v5, v6, v7, v8, v9, v10, v11, v12, v13, v14, v15, v16, v17, v18, v19, v20, v21, v22, v23, v24, v25, v26, v27, v28, v29, v30, v31, v32, v33, v34, v35, v36, v37, v38, v39, v40, v41, v42, v43, v44, v45, v46, v47, v48, v49, v50, v51, v52, v53, v54, v55, v56, v57, v58, v59, v60, v61, v62, v63, v64, v65, v66, v67, v68, v69, v70, v71, v72, v73, v74, v75, v76, v77, v78, v79, v80, v81, v82, v83] := Go.ConcR.Gen.array84 T h

section
variable {Φ : Ph} {L : WgLink} {F : World → Prop} {b₀ : Frame} {a₀ : Act} {ops₀ : Array Oper} {i₀ : Nat} {rest₀ : List Nat} {k₀ : List Item} {cs : List Frame} {mT : Nat}

set_option maxRecDepth 100000 in
set_option maxHeartbeats 16000000 in
theorem round_t (H : WgLib Φ.P L) (hty : Φ.ty = L.tWg) (hA : ∀ g w, AnchT Φ L F (b₀.at a₀ (.inRegion ops₀ (i₀ :: rest₀) :: k₀)) cs g w → Φ.Anch g w) (hF2 : ∀ w w', RM Φ Φ.n w w' → F w → F w')
    (hT : ∀ w, F w → WgLive Φ.ty Φ.Wg w → Goes Φ.P true (RM Φ Φ.n) (DM Φ Φ.n) Φ.Fin mT (G (b₀.at (a₀.put ((ops₀[i₀]?).bind (·.dst)) (.tuple #[])) (.inRegion ops₀ rest₀ :: k₀)) cs) w)
    (g : Goroutine) (w : World) (h : AnchT Φ L F (b₀.at a₀ (.inRegion ops₀ (i₀ :: rest₀) :: k₀)) cs g w) : ∃ m, Goes Φ.P true (RM Φ Φ.n) DC0 (AtW1 Φ) m g w := by
  lib_facts
  obtain ⟨T, rfl, hT84, t0, hF⟩ := h
  obtain ⟨v0, v1, v2, v3, v4, v5, v6, v7, v8, v9, v10, v11, v12, v13, v14, v15, v16, v17, v18, v19, v20, v21, v22, v23, v24, v25, v26, v27, v28, v29, v30, v31, v32, v33, v34, v35, v36, v37, v38, v39, v40, v41, v42, v43, v44, v45, v46, v47, v48, v49, v50, v51, v52, v53, v54, v55, v56, v57, v58, v59, v60, v61, v62, v63, v64, v65, v66, v67, v68, v69, v70, v71, v72, v73, v74, v75, v76, v77, v78, v79, v80, v81, v82, v83, rfl⟩ := arr84 T hT84
  simp only [List.getElem?_toArray, List.getElem?_cons_zero, Option.some.injEq] at t0
  subst t0
  refine ⟨60, ?_⟩
  simp only [L7, body_wait, waitFn, Option.getD_some]
  repeat (first
    | u_c stepG_seq (tf_rely hF2) hF
    | u_c stepG_region_end (tf_rely hF2) hF
    | u_c stepG_skip (tf_rely hF2) hF
    | u_c stepG_block (tf_rely hF2) hF
    | u_c stepG_loop (tf_rely hF2) hF
    | u_c stepG_inLoop (tf_rely hF2) hF
    | u_c stepG_inBlock (tf_rely hF2) hF
    | u_reg (tf_rely hF2) hF
    | (u_in (tf_rely hF2) hF; rw [stepG_cond (t := true)]; rotate_left; (first | rfl); simp only [goes_go, if_true, if_false, Bool.false_eq_true, reduceIte]; refine ⟨by u_nil, ?_⟩)
    | (u_in (tf_rely hF2) hF; rw [stepG_cond (t := false)]; rotate_left; (first | rfl); simp only [goes_go, if_true, if_false, Bool.false_eq_true, reduceIte]; refine ⟨by u_nil, ?_⟩)
    | u_skip (tf_rely hF2) hF
    | u_op (tf_rely hF2) hF
    | u_call H.f_uLoad (nm_uLoad L) uLoadFn (tf_rely hF2) hF)
  refine Goes.stop (fun w₁ h₁ => ?_)
  replace hF := tf_rely hF2 hF h₁
  clear h₁
  refine ⟨rfl, fun v hv hw => ?_⟩
  rw [hty] at hw
  rcases Nat.eq_zero_or_pos v with rfl | hvp
  · replace hw : WgAt L.tWg Φ.Wg w₁ 0 0 := by simpa using hw
    refine ⟨_, stepG_load_atomic (v := 0) rfl rfl (by k_ne) rfl H.f_loadU64 (x_loadU64_n L) (x_loadU64_b L) (x_loadU64_x L) .u64 (x_loadU64_f L) rfl hw.cellSt, fun _ => ⟨80, ?_⟩, fun h => absurd rfl h⟩
    clear hw
    walk_nrm
    u_op (tf_rely hF2) hF
    u_c stepG_region_end (tf_rely hF2) hF
    u_c stepG_ret' (tf_rely hF2) hF
    u_leave1 H.f_uLoad (tf_rely hF2) hF
    iterate 27 (first
      | u_c stepG_seq (tf_rely hF2) hF
      | u_c stepG_region_end (tf_rely hF2) hF
      | u_c stepG_skip (tf_rely hF2) hF
      | u_c stepG_block (tf_rely hF2) hF
      | u_c stepG_loop (tf_rely hF2) hF
      | u_c stepG_inLoop (tf_rely hF2) hF
      | u_c stepG_inBlock (tf_rely hF2) hF
      | u_reg (tf_rely hF2) hF
      | (u_in (tf_rely hF2) hF; rw [stepG_cond (t := true)]; rotate_left; (first | rfl); simp only [goes_go, if_true, if_false, Bool.false_eq_true, reduceIte]; refine ⟨by u_nil, ?_⟩)
      | (u_in (tf_rely hF2) hF; rw [stepG_cond (t := false)]; rotate_left; (first | rfl); simp only [goes_go, if_true, if_false, Bool.false_eq_true, reduceIte]; refine ⟨by u_nil, ?_⟩)
      | u_skip (tf_rely hF2) hF
      | u_op (tf_rely hF2) hF)
    refine Goes.stop (fun w₅ h₅ => ?_)
    replace hF := tf_rely hF2 hF h₅
    clear h₅
    refine ⟨rfl, _, stepG_mark0 .enable (by simp) rfl rfl (by k_ne) rfl H.f_enable (x_enable_n L) (x_enable_b L) (x_enable_x L) (x_enable_f L), 12, ?_⟩
    walk_nrm
    iterate 3 (first
      | u_c stepG_seq (tf_rely hF2) hF
      | u_c stepG_region_end (tf_rely hF2) hF
      | u_c stepG_skip (tf_rely hF2) hF
      | u_c stepG_block (tf_rely hF2) hF
      | u_c stepG_loop (tf_rely hF2) hF
      | u_c stepG_inLoop (tf_rely hF2) hF
      | u_c stepG_inBlock (tf_rely hF2) hF
      | u_reg (tf_rely hF2) hF
      | (u_in (tf_rely hF2) hF; rw [stepG_cond (t := true)]; rotate_left; (first | rfl); simp only [goes_go, if_true, if_false, Bool.false_eq_true, reduceIte]; refine ⟨by u_nil, ?_⟩)
      | (u_in (tf_rely hF2) hF; rw [stepG_cond (t := false)]; rotate_left; (first | rfl); simp only [goes_go, if_true, if_false, Bool.false_eq_true, reduceIte]; refine ⟨by u_nil, ?_⟩)
      | u_skip (tf_rely hF2) hF
      | u_op (tf_rely hF2) hF)
    u_in (tf_rely hF2) hF
    refine goes_oper_k rfl rfl (by k_ne) (fun Kx hKx => ?_)
    have hcv := run_convert_to_unsafe (P := Φ.P) H.underlying_tWgP H.underlying_tUP H.room_tWg (WgLive.cell0 (hty ▸ hF.2)).choose_spec
    have hce := fun es => events_convert_to_unsafe (P := Φ.P) H.underlying_tWgP H.underlying_tUP H.room_tWg (WgLive.cell0 (hty ▸ hF.2)).choose_spec es
    go_simp
    refine hKx _ _ ⟨?_, ?_⟩
    · u_none
      intro ex hex
      have hmx := mem_listed hex
      simp [go_sem, hce] at hmx
    clear hKx Kx hcv hce
    refine Goes.stop (fun w₆ h₆ => ?_)
    replace hF := tf_rely hF2 hF h₆
    clear h₆
    refine ⟨rfl, _, stepG_markAt .acquire (by simp) rfl rfl (by k_ne) rfl H.f_acquire (x_acquire_n L) (x_acquire_b L) (x_acquire_x L) (x_acquire_f L) (by simp [Act.eval, stA]), _, goes_glue (mT := mT) 40 ?_⟩
    walk_nrm
    iterate 18 (first
      | u_c stepG_seq (tf_rely hF2) hF
      | u_c stepG_region_end (tf_rely hF2) hF
      | u_c stepG_skip (tf_rely hF2) hF
      | u_c stepG_block (tf_rely hF2) hF
      | u_c stepG_loop (tf_rely hF2) hF
      | u_c stepG_inLoop (tf_rely hF2) hF
      | u_c stepG_inBlock (tf_rely hF2) hF
      | u_reg (tf_rely hF2) hF
      | (u_in (tf_rely hF2) hF; rw [stepG_cond (t := true)]; rotate_left; (first | rfl); simp only [goes_go, if_true, if_false, Bool.false_eq_true, reduceIte]; refine ⟨by u_nil, ?_⟩)
      | (u_in (tf_rely hF2) hF; rw [stepG_cond (t := false)]; rotate_left; (first | rfl); simp only [goes_go, if_true, if_false, Bool.false_eq_true, reduceIte]; refine ⟨by u_nil, ?_⟩)
      | u_skip (tf_rely hF2) hF
      | u_op (tf_rely hF2) hF)
    u_c stepG_ret' (tf_rely hF2) hF
    u_leave0 H.f_wait (tf_rely hF2) hF
    refine Goes.stop (fun w₇ h₇ => ?_)
    replace hF := tf_rely hF2 hF h₇
    exact hT _ hF.1 hF.2
  · obtain ⟨S, hS⟩ : ∃ S : Int, (v : Int) * KK = S := ⟨_, rfl⟩
    have a1 : S / 4294967296 = (v : Int) := by rw [← hS]; simp only [KK]; omega
    have b1 : bits .and .u64 S 2147483648 = 0 := by rw [← hS]; have := st_flag v 0 (by omega) (by omega); simpa [KK] using this
    have b2 : bits .and .u64 S 2147483647 = 0 := by rw [← hS]; have := st_waiters v 0 (by omega) (by omega); simpa [KK] using this
    have c1 : IntKind.i32.wrap (v : Int) = (v : Int) := by rw [IntKind.wrap_i32]; omega
    have w1 : IntKind.u64.wrap (S + 1) = S + 1 := by rw [IntKind.wrap_u64, ← hS]; simp only [KK]; omega
    have q3 : decide ((v : Int) < 0) = false := decide_eq_false (by omega)
    have q4 : decide (0 < (v : Int)) = true := decide_eq_true (by omega)
    have q5 : ((v : Int) == 0) = false := by simp; omega
    have q6 : decide ((v : Int) = 0) = false := decide_eq_false (by omega)
    rw [hS] at hw
    refine ⟨_, stepG_load_atomic (v := S) rfl rfl (by k_ne) rfl H.f_loadU64 (x_loadU64_n L) (x_loadU64_b L) (x_loadU64_x L) .u64 (x_loadU64_f L) rfl hw.cellSt, fun h0 => absurd h0 (by omega), fun _ => ⟨80, ?_⟩⟩
    clear hw
    walk_nrm
    u_op (tf_rely hF2) hF
    u_c stepG_region_end (tf_rely hF2) hF
    u_c stepG_ret' (tf_rely hF2) hF
    u_leave1 H.f_uLoad (tf_rely hF2) hF
    repeat (first
      | u_c stepG_seq (tf_rely hF2) hF
      | u_c stepG_region_end (tf_rely hF2) hF
      | u_c stepG_skip (tf_rely hF2) hF
      | u_c stepG_block (tf_rely hF2) hF
      | u_c stepG_loop (tf_rely hF2) hF
      | u_c stepG_inLoop (tf_rely hF2) hF
      | u_c stepG_inBlock (tf_rely hF2) hF
      | u_reg (tf_rely hF2) hF
      | (u_in (tf_rely hF2) hF; rw [stepG_cond (t := true)]; rotate_left; (first | rfl | (simp [Act.eval]; done) | (simp [Act.eval]; omega)); simp only [goes_go, if_true, if_false, Bool.false_eq_true, reduceIte]; refine ⟨by u_nil, ?_⟩)
      | (u_in (tf_rely hF2) hF; rw [stepG_cond (t := false)]; rotate_left; (first | rfl | (simp [Act.eval]; done) | (simp [Act.eval]; omega)); simp only [goes_go, if_true, if_false, Bool.false_eq_true, reduceIte]; refine ⟨by u_nil, ?_⟩)
      | u_skip (tf_rely hF2) hF
      | u_op (tf_rely hF2) hF
      | u_call H.f_uCas (nm_uCas L) uCasFn (tf_rely hF2) hF)
    refine Goes.stop (fun w₂ h₂ => ?_)
    replace hF := tf_rely hF2 hF h₂
    clear h₂
    refine ⟨rfl, fun v' hv' hw => ⟨fun e => ?_, fun e => ?_⟩⟩
    · subst e
      rw [hty] at hw
      rw [hS] at hw ⊢
      refine ⟨_, (stepG_cas_hit (v := S) (n := S + 1) rfl rfl (by k_ne) rfl H.f_casU64 (x_casU64_n L) (x_casU64_b L) (x_casU64_x L) .u64 (x_casU64_f L) rfl rfl rfl hw.cellSt (hw.thaw 0)).trans (by rfl), 60, ?_⟩
      replace hF : F (w₂.setCell (stA Φ.Wg) (.int .u64 (S + 1))) ∧ WgLive Φ.ty Φ.Wg (w₂.setCell (stA Φ.Wg) (.int .u64 (S + 1))) := by
        have h2 : WgAt Φ.ty Φ.Wg (w₂.setCell (stA Φ.Wg) (.int .u64 (S + 1))) (S + 1) 0 := by rw [hty]; exact hw.setSt _
        exact ⟨hF2 _ _ (RM.of_wg rfl h2) hF.1, _, _, h2⟩
      clear hw
      walk_nrm
      u_op (tf_rely hF2) hF
      u_c stepG_region_end (tf_rely hF2) hF
      u_c stepG_ret' (tf_rely hF2) hF
      u_leave1 H.f_uCas (tf_rely hF2) hF
      iterate 15 (first
        | u_c stepG_seq (tf_rely hF2) hF
        | u_c stepG_region_end (tf_rely hF2) hF
        | u_c stepG_skip (tf_rely hF2) hF
        | u_c stepG_block (tf_rely hF2) hF
        | u_c stepG_loop (tf_rely hF2) hF
        | u_c stepG_inLoop (tf_rely hF2) hF
        | u_c stepG_inBlock (tf_rely hF2) hF
        | u_reg (tf_rely hF2) hF
        | (u_in (tf_rely hF2) hF; rw [stepG_cond (t := true)]; rotate_left; (first | rfl); simp only [goes_go, if_true, if_false, Bool.false_eq_true, reduceIte]; refine ⟨by u_nil, ?_⟩)
        | (u_in (tf_rely hF2) hF; rw [stepG_cond (t := false)]; rotate_left; (first | rfl); simp only [goes_go, if_true, if_false, Bool.false_eq_true, reduceIte]; refine ⟨by u_nil, ?_⟩)
        | u_skip (tf_rely hF2) hF
        | u_op (tf_rely hF2) hF)
      u_in (tf_rely hF2) hF
      refine goes_oper_k rfl rfl (by k_ne) (fun Kx hKx => ?_)
      have hcv := run_convert_to_unsafe (P := Φ.P) H.underlying_tPU32 H.underlying_tUP H.room_tU32 (WgLive.cell1 hF.2).choose_spec
      have hce := fun es => events_convert_to_unsafe (P := Φ.P) H.underlying_tPU32 H.underlying_tUP H.room_tU32 (WgLive.cell1 hF.2).choose_spec es
      go_simp
      refine hKx _ _ ⟨?_, ?_⟩
      · u_none
        intro ex hex
        have hmx := mem_listed hex
        simp [go_sem, hce] at hmx
      clear hKx Kx hcv hce
      refine Goes.stop (fun w₃ h₃ => ?_)
      replace hF := tf_rely hF2 hF h₃
      clear h₃
      refine ⟨rfl, _, stepG_markAt .write (by simp) rfl rfl (by k_ne) rfl H.f_raceWrite (x_raceWrite_n L) (x_raceWrite_b L) (x_raceWrite_x L) (x_raceWrite_f L) (ad := ⟨Φ.Wg, 1, none⟩) (by simp [Act.eval]), 60, ?_⟩
      walk_nrm
      iterate 23 (first
        | u_c stepG_seq (tf_rely hF2) hF
        | u_c stepG_region_end (tf_rely hF2) hF
        | u_c stepG_skip (tf_rely hF2) hF
        | u_c stepG_block (tf_rely hF2) hF
        | u_c stepG_loop (tf_rely hF2) hF
        | u_c stepG_inLoop (tf_rely hF2) hF
        | u_c stepG_inBlock (tf_rely hF2) hF
        | u_reg (tf_rely hF2) hF
        | (u_in (tf_rely hF2) hF; rw [stepG_cond (t := true)]; rotate_left; (first | rfl); simp only [goes_go, if_true, if_false, Bool.false_eq_true, reduceIte]; refine ⟨by u_nil, ?_⟩)
        | (u_in (tf_rely hF2) hF; rw [stepG_cond (t := false)]; rotate_left; (first | rfl); simp only [goes_go, if_true, if_false, Bool.false_eq_true, reduceIte]; refine ⟨by u_nil, ?_⟩)
        | u_skip (tf_rely hF2) hF
        | u_op (tf_rely hF2) hF)
      refine Goes.stop (fun w₄ h₄ => ?_)
      replace hF := tf_rely hF2 hF h₄
      clear h₄
      refine ⟨rfl, rfl, fun hx => ?_, fun hf => ?_⟩
      · obtain ⟨st, hw⟩ := hx
        exact stepG_semacquire_wait rfl rfl rfl H.f_semacquire (x_semacquire_n L) (x_semacquire_b L) (x_semacquire_x L) (x_semacquire_f L) (by simp [Act.eval, smA]) (hty ▸ hw).cellSm
      rw [hty] at hf
      refine ⟨_, (stepG_semacquire (n := 1) rfl rfl (by k_ne) rfl H.f_semacquire (x_semacquire_n L) (x_semacquire_b L) (x_semacquire_x L) (x_semacquire_f L) (by simp [Act.eval, smA]) hf.cellSm (by k_ne) (hf.thaw 1)).trans (by rfl), 60, ?_⟩
      replace hF : F (w₄.setCell (smA Φ.Wg) (.int .u32 0)) ∧ WgLive Φ.ty Φ.Wg (w₄.setCell (smA Φ.Wg) (.int .u32 0)) := by
        have h2 : WgAt Φ.ty Φ.Wg (w₄.setCell (smA Φ.Wg) (.int .u32 0)) 0 0 := by rw [hty]; exact hf.setSm 0
        exact ⟨hF2 _ _ (RM.of_wg rfl h2) hF.1, _, _, h2⟩
      clear hf
      walk_nrm
      iterate 16 (first
        | u_c stepG_seq (tf_rely hF2) hF
        | u_c stepG_region_end (tf_rely hF2) hF
        | u_c stepG_skip (tf_rely hF2) hF
        | u_c stepG_block (tf_rely hF2) hF
        | u_c stepG_loop (tf_rely hF2) hF
        | u_c stepG_inLoop (tf_rely hF2) hF
        | u_c stepG_inBlock (tf_rely hF2) hF
        | u_reg (tf_rely hF2) hF
        | (u_in (tf_rely hF2) hF; rw [stepG_cond (t := true)]; rotate_left; (first | rfl); simp only [goes_go, if_true, if_false, Bool.false_eq_true, reduceIte]; refine ⟨by u_nil, ?_⟩)
        | (u_in (tf_rely hF2) hF; rw [stepG_cond (t := false)]; rotate_left; (first | rfl); simp only [goes_go, if_true, if_false, Bool.false_eq_true, reduceIte]; refine ⟨by u_nil, ?_⟩)
        | u_skip (tf_rely hF2) hF
        | u_op (tf_rely hF2) hF
        | u_call H.f_uLoad (nm_uLoad L) uLoadFn (tf_rely hF2) hF)
      refine Goes.stop (fun w₅ h₅ => ?_)
      replace hF := tf_rely hF2 hF h₅
      clear h₅
      refine ⟨rfl, fun hw => ?_⟩
      rw [hty] at hw
      refine ⟨_, stepG_load_atomic (v := 0) rfl rfl (by k_ne) rfl H.f_loadU64 (x_loadU64_n L) (x_loadU64_b L) (x_loadU64_x L) .u64 (x_loadU64_f L) rfl hw.cellSt, 60, ?_⟩
      clear hw
      walk_nrm
      u_op (tf_rely hF2) hF
      u_c stepG_region_end (tf_rely hF2) hF
      u_c stepG_ret' (tf_rely hF2) hF
      u_leave1 H.f_uLoad (tf_rely hF2) hF
      iterate 7 (first
        | u_c stepG_seq (tf_rely hF2) hF
        | u_c stepG_region_end (tf_rely hF2) hF
        | u_c stepG_skip (tf_rely hF2) hF
        | u_c stepG_block (tf_rely hF2) hF
        | u_c stepG_loop (tf_rely hF2) hF
        | u_c stepG_inLoop (tf_rely hF2) hF
        | u_c stepG_inBlock (tf_rely hF2) hF
        | u_reg (tf_rely hF2) hF
        | (u_in (tf_rely hF2) hF; rw [stepG_cond (t := true)]; rotate_left; (first | rfl); simp only [goes_go, if_true, if_false, Bool.false_eq_true, reduceIte]; refine ⟨by u_nil, ?_⟩)
        | (u_in (tf_rely hF2) hF; rw [stepG_cond (t := false)]; rotate_left; (first | rfl); simp only [goes_go, if_true, if_false, Bool.false_eq_true, reduceIte]; refine ⟨by u_nil, ?_⟩)
        | u_skip (tf_rely hF2) hF
        | u_op (tf_rely hF2) hF)
      refine Goes.stop (fun w₅ h₅ => ?_)
      replace hF := tf_rely hF2 hF h₅
      clear h₅
      refine ⟨rfl, _, stepG_mark0 .enable (by simp) rfl rfl (by k_ne) rfl H.f_enable (x_enable_n L) (x_enable_b L) (x_enable_x L) (x_enable_f L), 12, ?_⟩
      walk_nrm
      iterate 3 (first
        | u_c stepG_seq (tf_rely hF2) hF
        | u_c stepG_region_end (tf_rely hF2) hF
        | u_c stepG_skip (tf_rely hF2) hF
        | u_c stepG_block (tf_rely hF2) hF
        | u_c stepG_loop (tf_rely hF2) hF
        | u_c stepG_inLoop (tf_rely hF2) hF
        | u_c stepG_inBlock (tf_rely hF2) hF
        | u_reg (tf_rely hF2) hF
        | (u_in (tf_rely hF2) hF; rw [stepG_cond (t := true)]; rotate_left; (first | rfl); simp only [goes_go, if_true, if_false, Bool.false_eq_true, reduceIte]; refine ⟨by u_nil, ?_⟩)
        | (u_in (tf_rely hF2) hF; rw [stepG_cond (t := false)]; rotate_left; (first | rfl); simp only [goes_go, if_true, if_false, Bool.false_eq_true, reduceIte]; refine ⟨by u_nil, ?_⟩)
        | u_skip (tf_rely hF2) hF
        | u_op (tf_rely hF2) hF)
      u_in (tf_rely hF2) hF
      refine goes_oper_k rfl rfl (by k_ne) (fun Kx hKx => ?_)
      have hcv := run_convert_to_unsafe (P := Φ.P) H.underlying_tWgP H.underlying_tUP H.room_tWg (WgLive.cell0 (hty ▸ hF.2)).choose_spec
      have hce := fun es => events_convert_to_unsafe (P := Φ.P) H.underlying_tWgP H.underlying_tUP H.room_tWg (WgLive.cell0 (hty ▸ hF.2)).choose_spec es
      go_simp
      refine hKx _ _ ⟨?_, ?_⟩
      · u_none
        intro ex hex
        have hmx := mem_listed hex
        simp [go_sem, hce] at hmx
      clear hKx Kx hcv hce
      refine Goes.stop (fun w₆ h₆ => ?_)
      replace hF := tf_rely hF2 hF h₆
      clear h₆
      refine ⟨rfl, _, stepG_markAt .acquire (by simp) rfl rfl (by k_ne) rfl H.f_acquire (x_acquire_n L) (x_acquire_b L) (x_acquire_x L) (x_acquire_f L) (by simp [Act.eval, stA]), _, goes_glue (mT := mT) 40 ?_⟩
      walk_nrm
      iterate 8 (first
        | u_c stepG_seq (tf_rely hF2) hF
        | u_c stepG_region_end (tf_rely hF2) hF
        | u_c stepG_skip (tf_rely hF2) hF
        | u_c stepG_block (tf_rely hF2) hF
        | u_c stepG_loop (tf_rely hF2) hF
        | u_c stepG_inLoop (tf_rely hF2) hF
        | u_c stepG_inBlock (tf_rely hF2) hF
        | u_reg (tf_rely hF2) hF
        | (u_in (tf_rely hF2) hF; rw [stepG_cond (t := true)]; rotate_left; (first | rfl); simp only [goes_go, if_true, if_false, Bool.false_eq_true, reduceIte]; refine ⟨by u_nil, ?_⟩)
        | (u_in (tf_rely hF2) hF; rw [stepG_cond (t := false)]; rotate_left; (first | rfl); simp only [goes_go, if_true, if_false, Bool.false_eq_true, reduceIte]; refine ⟨by u_nil, ?_⟩)
        | u_skip (tf_rely hF2) hF
        | u_op (tf_rely hF2) hF)
      u_c stepG_ret' (tf_rely hF2) hF
      u_leave0 H.f_wait (tf_rely hF2) hF
      refine Goes.stop (fun w₇ h₇ => ?_)
      replace hF := tf_rely hF2 hF h₇
      exact hT _ hF.1 hF.2
    · rw [hty] at hw
      refine ⟨_, stepG_cas_miss (v := (v' : Int) * KK) (old := S) (n := S + 1) rfl rfl (by k_ne) rfl H.f_casU64 (x_casU64_n L) (x_casU64_b L) (x_casU64_x L) .u64 (x_casU64_f L) rfl rfl rfl hw.cellSt (hw.thaw 0) (by rw [← hS]; simp only [KK]; omega), 40, ?_⟩
      clear hw
      walk_nrm
      u_op (tf_rely hF2) hF
      u_c stepG_region_end (tf_rely hF2) hF
      u_c stepG_ret' (tf_rely hF2) hF
      u_leave1 H.f_uCas (tf_rely hF2) hF
      iterate 5 (first
        | u_c stepG_seq (tf_rely hF2) hF
        | u_c stepG_region_end (tf_rely hF2) hF
        | u_c stepG_skip (tf_rely hF2) hF
        | u_c stepG_block (tf_rely hF2) hF
        | u_c stepG_loop (tf_rely hF2) hF
        | u_c stepG_inLoop (tf_rely hF2) hF
        | u_c stepG_inBlock (tf_rely hF2) hF
        | u_reg (tf_rely hF2) hF
        | (u_in (tf_rely hF2) hF; rw [stepG_cond (t := true)]; rotate_left; (first | rfl); simp only [goes_go, if_true, if_false, Bool.false_eq_true, reduceIte]; refine ⟨by u_nil, ?_⟩)
        | (u_in (tf_rely hF2) hF; rw [stepG_cond (t := false)]; rotate_left; (first | rfl); simp only [goes_go, if_true, if_false, Bool.false_eq_true, reduceIte]; refine ⟨by u_nil, ?_⟩)
        | u_skip (tf_rely hF2) hF
        | u_op (tf_rely hF2) hF)
      refine Goes.stop (fun w₃ h₃ => ?_)
      replace hF := tf_rely hF2 hF h₃
      clear h₃
      exact hA _ _ ⟨_, rfl, by simp, by simp, hF⟩

set_option maxRecDepth 100000 in
theorem wait_t (H : WgLib Φ.P L) (hty : Φ.ty = L.tWg) (hA : ∀ g w, AnchT Φ L F (b₀.at a₀ (.inRegion ops₀ (i₀ :: rest₀) :: k₀)) cs g w → Φ.Anch g w) (hF2 : ∀ w w', RM Φ Φ.n w w' → F w → F w') (w : World) (hF : F w ∧ WgLive Φ.ty Φ.Wg w) :
    Goes Φ.P true (RM Φ Φ.n) DC0 (AtKd Φ) 6 (G ((base L.wait).at ⟨#[.pointer (some ⟨Φ.Wg, 0, none⟩), undef, undef, undef, undef, undef, undef, undef, undef, undef, undef, undef, undef, undef, undef, undef, undef, undef, undef, undef, undef, undef, undef, undef, undef, undef, undef, undef, undef, undef, undef, undef, undef, undef, undef, undef, undef, undef, undef, undef, undef, undef, undef, undef, undef, undef, undef, undef, undef, undef, undef, undef, undef, undef, undef, undef, undef, undef, undef, undef, undef, undef, undef, undef, undef, undef, undef, undef, undef, undef, undef, undef, undef, undef, undef, undef, undef, undef, undef, undef, undef, undef, undef, undef], []⟩ [.code (body_wait L)]) (b₀.at a₀ (.inRegion ops₀ (i₀ :: rest₀) :: k₀) :: cs)) w := by
  lib_facts
  simp only [body_wait, waitFn, Option.getD_some]
  iterate 3 (first
    | u_c stepG_seq (tf_rely hF2) hF
    | u_c stepG_region_end (tf_rely hF2) hF
    | u_c stepG_skip (tf_rely hF2) hF
    | u_c stepG_block (tf_rely hF2) hF
    | u_c stepG_loop (tf_rely hF2) hF
    | u_c stepG_inLoop (tf_rely hF2) hF
    | u_c stepG_inBlock (tf_rely hF2) hF
    | u_reg (tf_rely hF2) hF
    | (u_in (tf_rely hF2) hF; rw [stepG_cond (t := true)]; rotate_left; (first | rfl); simp only [goes_go, if_true, if_false, Bool.false_eq_true, reduceIte]; refine ⟨by u_nil, ?_⟩)
    | (u_in (tf_rely hF2) hF; rw [stepG_cond (t := false)]; rotate_left; (first | rfl); simp only [goes_go, if_true, if_false, Bool.false_eq_true, reduceIte]; refine ⟨by u_nil, ?_⟩)
    | u_skip (tf_rely hF2) hF
    | u_op (tf_rely hF2) hF)
  refine Goes.stop (fun w₁ h₁ => ?_)
  replace hF := tf_rely hF2 hF h₁
  clear h₁
  refine ⟨rfl, _, stepG_mark0 .disable (by simp) rfl rfl (by k_ne) rfl H.f_disable (x_disable_n L) (x_disable_b L) (x_disable_x L) (x_disable_f L), 6, ?_⟩
  walk_nrm
  iterate 3 (first
    | u_c stepG_seq (tf_rely hF2) hF
    | u_c stepG_region_end (tf_rely hF2) hF
    | u_c stepG_skip (tf_rely hF2) hF
    | u_c stepG_block (tf_rely hF2) hF
    | u_c stepG_loop (tf_rely hF2) hF
    | u_c stepG_inLoop (tf_rely hF2) hF
    | u_c stepG_inBlock (tf_rely hF2) hF
    | u_reg (tf_rely hF2) hF
    | (u_in (tf_rely hF2) hF; rw [stepG_cond (t := true)]; rotate_left; (first | rfl); simp only [goes_go, if_true, if_false, Bool.false_eq_true, reduceIte]; refine ⟨by u_nil, ?_⟩)
    | (u_in (tf_rely hF2) hF; rw [stepG_cond (t := false)]; rotate_left; (first | rfl); simp only [goes_go, if_true, if_false, Bool.false_eq_true, reduceIte]; refine ⟨by u_nil, ?_⟩)
    | u_skip (tf_rely hF2) hF
    | u_op (tf_rely hF2) hF)
  refine Goes.stop (fun w₂ h₂ => ?_)
  exact hA _ _ ⟨_, rfl, by simp, by simp, tf_rely hF2 hF h₂⟩
end
end

section
open Go.Conc Go.RowKit
open Go.ConcN (WgLive)
open Go.ConcR (KK WgAt stA smA rd wr mk DC0)

section
variable {P : Program} {main : Bool} {R : World → World → Prop} {D : World → World → Array Event → Prop} {S : Goroutine → World → Prop} {b : Frame} {a : Act} {k : List Item} {cs : List Frame} {w : World} {m n : Nat}
theorem gs_step (T : Terms R D) {g g' : Goroutine} (hr : g.status = .running) (e : ∀ w, stepG P main g w = .go g' w #[]) (h : Goes P main R D S m g' w) : Goes P main R D S (m + 1) g w :=
  Goes.step hr fun w₁ h₁ => by rw [e w₁]; exact ⟨T.idle _, h.rely T.trans h₁⟩
theorem gs_seq (T : Terms R D) {x y : Code} (h : Goes P main R D S m (G (b.at a (.code x :: .code y :: k)) cs) w) : Goes P main R D S (m + 1) (G (b.at a (.code (.seq x y) :: k)) cs) w := gs_step T rfl (fun _ => stepG_seq) h
theorem gs_block (T : Terms R D) {id : Nat} {x : Code} (h : Goes P main R D S m (G (b.at a (.code x :: .inBlock id :: k)) cs) w) : Goes P main R D S (m + 1) (G (b.at a (.code (.block id x) :: k)) cs) w := gs_step T rfl (fun _ => stepG_block) h
theorem gs_inBlock (T : Terms R D) {id : Nat} (h : Goes P main R D S m (G (b.at a k) cs) w) : Goes P main R D S (m + 1) (G (b.at a (.inBlock id :: k)) cs) w := gs_step T rfl (fun _ => stepG_inBlock) h
theorem gs_loop (T : Terms R D) {x : Code} (h : Goes P main R D S m (G (b.at a (.code x :: .inLoop x :: k)) cs) w) : Goes P main R D S (m + 1) (G (b.at a (.code (.loop x) :: k)) cs) w := gs_step T rfl (fun _ => stepG_loop) h
theorem gs_inLoop (T : Terms R D) {x : Code} (h : Goes P main R D S m (G (b.at a (.code x :: .inLoop x :: k)) cs) w) : Goes P main R D S (m + 1) (G (b.at a (.inLoop x :: k)) cs) w := gs_step T rfl (fun _ => stepG_inLoop) h
theorem gs_skip (T : Terms R D) (h : Goes P main R D S m (G (b.at a k) cs) w) : Goes P main R D S (m + 1) (G (b.at a (.code .skip :: k)) cs) w := gs_step T rfl (fun _ => stepG_skip) h
theorem gs_true (T : Terms R D) {c : Operand} {x y : Code} (hc : a.eval c = .bool true) (h : Goes P main R D S m (G (b.at a (.code x :: k)) cs) w) : Goes P main R D S (m + 1) (G (b.at a (.code (.cond c x y) :: k)) cs) w := gs_step T rfl (fun _ => stepG_cond hc) h
theorem gs_false (T : Terms R D) {c : Operand} {x y : Code} (hc : a.eval c = .bool false) (h : Goes P main R D S m (G (b.at a (.code y :: k)) cs) w) : Goes P main R D S (m + 1) (G (b.at a (.code (.cond c x y) :: k)) cs) w := gs_step T rfl (fun _ => stepG_cond hc) h
theorem gs_exit (T : Terms R D) {id : Nat} {k' : List Item} (hk : exitTo id k = some k') (h : Goes P main R D S m (G (b.at a k') cs) w) : Goes P main R D S (m + 1) (G (b.at a (.code (.exit id) :: k)) cs) w := gs_step T rfl (fun _ => stepG_exit hk) h
theorem gs_region (T : Terms R D) {id : Nat} {ops : Array Oper} (h : Goes P main R D S m (G (b.at a (.inRegion ops (List.range ops.size) :: k)) cs) w) : Goes P main R D S (m + 1) (G (b.at a (.code (.region id ops false) :: k)) cs) w := gs_step T rfl (fun _ => stepG_region) h
theorem gs_region_end (T : Terms R D) {ops : Array Oper} (h : Goes P main R D S m (G (b.at a k) cs) w) : Goes P main R D S (m + 1) (G (b.at a (.inRegion ops [] :: k)) cs) w := gs_step T rfl (fun _ => stepG_region_end) h

theorem gs_code {c : Code} (hk : b.kind ≠ .early) (h : c.wpC P main R D b.fn n (fun e a' w' => e = .normal ∧ Goes P main R D S m (G (b.at a' k) cs) w') a w) : Goes P main R D S (m + n) (G (b.at a (.code c :: k)) cs) w :=
  wpC_goes h rfl hk fun e a' w' q => by obtain ⟨rfl, q⟩ := q; exact q
theorem gs_ops {ops : Array Oper} {todo : List Nat} (hk : b.kind ≠ .early) (h : OpsC P main R D b.fn ops todo n (fun e a' w' => e = .normal ∧ Goes P main R D S m (G (b.at a' k) cs) w') a w) : Goes P main R D S (m + n) (G (b.at a (.inRegion ops todo :: k)) cs) w :=
  h b k cs S m rfl hk fun e a' w' q => by obtain ⟨rfl, q⟩ := q; exact q
end

theorem alloc_heap (w : World) (o : Obj) : (w.alloc o).heap = w.heap.push o := rfl
theorem alloc_size (w : World) (o : Obj) : (w.alloc o).heap.size = w.heap.size + 1 := by rw [alloc_heap, Array.size_push]
theorem push_lt {w : World} {o x : Obj} {b : Nat} (h : w.heap[b]? = some x) : (w.alloc o).heap[b]? = some x := by
  have hb := (Array.getElem?_eq_some_iff.1 h).1
  rw [alloc_heap, Array.getElem?_push_lt hb, ← h, Array.getElem?_eq_getElem hb]
theorem push_old {w : World} {o : Obj} {b : Nat} (h : b < w.heap.size) : (w.alloc o).heap[b]? = w.heap[b]? := by
  rw [alloc_heap, Array.getElem?_push_lt h, Array.getElem?_eq_getElem h]
theorem push_at {w : World} {o : Obj} {b : Nat} (h : w.heap.size = b) : (w.alloc o).heap[b]? = some o := by
  subst h
  rw [alloc_heap, Array.getElem?_push_size]
theorem push_cases {w : World} {o x : Obj} {b : Nat} (h : (w.alloc o).heap[b]? = some x) : (b = w.heap.size ∧ x = o) ∨ w.heap[b]? = some x := by
  rw [alloc_heap, Array.getElem?_push] at h
  split at h
  · exact .inl ⟨‹_›, (Option.some.inj h).symm⟩
  · exact .inr h

section
variable {Φ : Ph} {i j B : Nat} {w : World} {es : Array Event}
theorem termsM (Φ : Ph) (i j : Nat) : Terms (RM Φ i) (DM Φ j) := ⟨fun _ _ _ h1 h2 => h1.trans h2, fun w => dm_nil⟩

theorem dm_read (h : ∀ e ∈ es, EvM Φ j w.heap.size e) : DM Φ j w w es := ⟨rfl, rfl, Nat.le_refl _, fun _ _ _ => rfl, id, h⟩
theorem dm_alloc {o : Obj} (ho : PlainO o) (h : ∀ e ∈ es, EvM Φ j (w.alloc o).heap.size e) : DM Φ j w (w.alloc o) es := by
  refine ⟨rfl, rfl, by rw [alloc_size]; omega, fun b hb _ => ?_, fun hp b x hb hx => ?_, h⟩
  · exact push_old hb
  · rcases push_cases hx with ⟨_, rfl⟩ | hx
    · exact ho
    · exact hp b x hb hx
theorem plain_in (a : Addr) (v : Value) {o : Obj} (h : PlainO o) : PlainO (setIn a v o) := by cases o <;> first | exact h | trivial
theorem dm_set {a : Addr} {v : Value} (hm : Φ.Mw j a.block) (h : ∀ e ∈ es, EvM Φ j w.heap.size e) : DM Φ j w (w.setCell a v) es := by
  refine ⟨rfl, rfl, by simp [World.setCell], fun b hb hn => setCell_heap w a v b (fun e => hn (e ▸ hm)), fun hp b x hb hx => ?_, fun e he => by simpa [World.setCell] using h e he⟩
  rw [setCell_get] at hx
  split at hx
  · obtain ⟨o, ho, rfl⟩ := Option.map_eq_some_iff.1 hx
    exact plain_in _ _ (hp b o hb ho)
  · exact hp b x hb hx
theorem ev_rd {a : Addr} (h1 : a.block ≠ Φ.Wg) (h2 : ¬ Φ.H a.block) (h3 : a.block < B) : EvM Φ j B ⟨.cell a, false, false⟩ := .inl ⟨a, false, rfl, h1, h2, h3, by simp⟩
theorem ev_wr {a : Addr} (h1 : a.block ≠ Φ.Wg) (h2 : ¬ Φ.H a.block) (h3 : a.block < B) (h4 : ∀ k, k < j → ¬ Φ.Rd k a.block) : EvM Φ j B ⟨.cell a, true, false⟩ := .inl ⟨a, true, rfl, h1, h2, h3, fun _ => h4⟩
end

theorem cell_in {w : World} {b i : Nat} {xs : Array Value} {e : TypeId} {fr : Nat × Nat} {v : Value} (h : w.heap[b]? = some (.cells xs e fr)) (hv : xs[i]? = some v) : w.cell? ⟨b, i, none⟩ = some v := by simp [World.cell?, h, hv]
theorem thaw_in {w : World} {b i : Nat} {xs : Array Value} {e : TypeId} (h : w.heap[b]? = some (.cells xs e)) : w.frozen? ⟨b, i, none⟩ = false := by simp [World.frozen?, h]

structure MS (W0 : World) (N n q : Nat) (ask : Value) (j jj s : Nat) (vv av : Value) (w : World) : Prop where
  size : w.heap.size = N + 4 + 3 * j + s
  old : ∀ b, b < N → w.heap[b]? = W0.heap[b]?
  qb : w.heap[N]? = some (.cells #[.int .i64 q] 3)
  kb : w.heap[N + 1]? = some (.cells #[ask] 40)
  arr : ∃ xs, w.heap[N + 2]? = some (.cells xs 90) ∧ xs.size = n ∧ ∀ i, i < jj → xs[i]? = some (.chan (some (N + 5 + 3 * i)))
  live : WgLive 89 (N + 3) w
  vb : 1 ≤ s → w.heap[N + 4 + 3 * j]? = some (.cells #[vv] 25)
  cb : 2 ≤ s → w.heap[N + 5 + 3 * j]? = some (.chan q #[] false 0 0 false)
  ab : 3 ≤ s → w.heap[N + 6 + 3 * j]? = some (.cells #[av] 90)

section
variable {N n q : Nat} {W0 : World} {ask vv av : Value} {j jj s : Nat} {w w₁ : World}

theorem MS.rely {m0 : Nat} {ans : Nat → Nat → Value} {H : Nat → Prop} {Anch Fin : Goroutine → World → Prop} (h : MS W0 N n q ask j jj s vv av w) (r : RM (phT Try.prog N n q m0 W0 ans H Anch Fin) j w w₁) : MS W0 N n q ask j jj s vv av w₁ where
  size := r.size.trans h.size
  old := fun b hb => (r.fix b (by simp only; omega) (fun i hi => by simp only; omega)).trans (h.old b hb)
  qb := (r.fix _ (by simp only; omega) (fun i hi => by simp only; omega)).trans h.qb
  kb := (r.fix _ (by simp only; omega) (fun i hi => by simp only; omega)).trans h.kb
  arr := let ⟨xs, h1, h2⟩ := h.arr; ⟨xs, (r.fix _ (by simp only; omega) (fun i hi => by simp only; omega)).trans h1, h2⟩
  live := r.live h.live
  vb := fun hs => (r.fix _ (by simp only; omega) (fun i hi => by simp only; omega)).trans (h.vb hs)
  cb := fun hs => (r.fix _ (by simp only; omega) (fun i hi => by simp only; omega)).trans (h.cb hs)
  ab := fun hs => (r.fix _ (by simp only; omega) (fun i hi => by simp only; omega)).trans (h.ab hs)

theorem MS.made0 (h : MS W0 N n q ask j jj 0 vv av w) (v : Value) : MS W0 N n q ask j jj 1 v av (w.alloc (.cells #[v] 25)) where
  size := by have := h.size; rw [alloc_size]; omega
  old := fun b hb => (push_old (by have := h.size; omega)).trans (h.old b hb)
  qb := push_lt h.qb
  kb := push_lt h.kb
  arr := let ⟨xs, h1, h2⟩ := h.arr; ⟨xs, push_lt h1, h2⟩
  live := wgLive_of_block h.live (push_old (wgLive_lt h.live))
  vb := fun _ => push_at (by have := h.size; omega)
  cb := fun hs => by omega
  ab := fun hs => by omega
theorem MS.made1 (h : MS W0 N n q ask j jj 1 vv av w) : MS W0 N n q ask j jj 2 vv av (w.alloc (.chan q #[] false 0 0 false)) where
  size := by have := h.size; rw [alloc_size]; omega
  old := fun b hb => (push_old (by have := h.size; omega)).trans (h.old b hb)
  qb := push_lt h.qb
  kb := push_lt h.kb
  arr := let ⟨xs, h1, h2⟩ := h.arr; ⟨xs, push_lt h1, h2⟩
  live := wgLive_of_block h.live (push_old (wgLive_lt h.live))
  vb := fun _ => push_lt (h.vb (by omega))
  cb := fun _ => push_at (by have := h.size; omega)
  ab := fun hs => by omega
theorem MS.made2 (h : MS W0 N n q ask j jj 2 vv av w) (v : Value) : MS W0 N n q ask j jj 3 vv v (w.alloc (.cells #[v] 90)) where
  size := by have := h.size; rw [alloc_size]; omega
  old := fun b hb => (push_old (by have := h.size; omega)).trans (h.old b hb)
  qb := push_lt h.qb
  kb := push_lt h.kb
  arr := let ⟨xs, h1, h2⟩ := h.arr; ⟨xs, push_lt h1, h2⟩
  live := wgLive_of_block h.live (push_old (wgLive_lt h.live))
  vb := fun _ => push_lt (h.vb (by omega))
  cb := fun _ => push_lt (h.cb (by omega))
  ab := fun _ => push_at (by have := h.size; omega)

theorem set_ne {w : World} {a : Addr} {v : Value} {b : Nat} (h : b ≠ a.block) : (w.setCell a v).heap[b]? = w.heap[b]? := setCell_heap w a v b h
theorem set_at {w : World} {b i : Nat} {xs : Array Value} {e : TypeId} {fr : Nat × Nat} {v : Value} (h : w.heap[b]? = some (.cells xs e fr)) : (w.setCell ⟨b, i, none⟩ v).heap[b]? = some (.cells (xs.setIfInBounds i v) e fr) := by
  rw [setCell_get]; simp [h, setIn]
theorem set_size (w : World) (a : Addr) (v : Value) : (w.setCell a v).heap.size = w.heap.size := by simp [World.setCell]

theorem MS.set0 (h : MS W0 N n q ask j jj 1 vv av w) (v : Value) : MS W0 N n q ask j jj 1 v av (w.setCell ⟨N + 4 + 3 * j, 0, none⟩ v) where
  size := (set_size ..).trans h.size
  old := fun b hb => (set_ne (by simp only; omega)).trans (h.old b hb)
  qb := (set_ne (by simp only; omega)).trans h.qb
  kb := (set_ne (by simp only; omega)).trans h.kb
  arr := let ⟨xs, h1, h2⟩ := h.arr; ⟨xs, (set_ne (by simp only; omega)).trans h1, h2⟩
  live := wgLive_of_block h.live (set_ne (by simp only; omega))
  vb := fun hs => (set_at (h.vb hs)).trans (by simp)
  cb := fun hs => by omega
  ab := fun hs => by omega
theorem MS.set2 (h : MS W0 N n q ask j jj 3 vv av w) (v : Value) : MS W0 N n q ask j jj 3 vv v (w.setCell ⟨N + 6 + 3 * j, 0, none⟩ v) where
  size := (set_size ..).trans h.size
  old := fun b hb => (set_ne (by simp only; omega)).trans (h.old b hb)
  qb := (set_ne (by simp only; omega)).trans h.qb
  kb := (set_ne (by simp only; omega)).trans h.kb
  arr := let ⟨xs, h1, h2⟩ := h.arr; ⟨xs, (set_ne (by simp only; omega)).trans h1, h2⟩
  live := wgLive_of_block h.live (set_ne (by simp only; omega))
  vb := fun hs => (set_ne (by simp only; omega)).trans (h.vb hs)
  cb := fun hs => (set_ne (by simp only; omega)).trans (h.cb hs)
  ab := fun hs => (set_at (h.ab hs)).trans (by simp)
theorem MS.setRow (h : MS W0 N n q ask j j 3 vv av w) (hj : j < n) : MS W0 N n q ask j (j + 1) 3 vv av (w.setCell ⟨N + 2, j, none⟩ (.chan (some (N + 5 + 3 * j)))) where
  size := (set_size ..).trans h.size
  old := fun b hb => (set_ne (by simp only; omega)).trans (h.old b hb)
  qb := (set_ne (by simp only; omega)).trans h.qb
  kb := (set_ne (by simp only; omega)).trans h.kb
  arr := by
    obtain ⟨xs, h1, h2, h3⟩ := h.arr
    refine ⟨_, set_at h1, by simpa using h2, fun i hi => ?_⟩
    by_cases e : j = i
    · subst e
      rw [Array.getElem?_setIfInBounds_self_of_lt (by omega)]
    · rw [Array.getElem?_setIfInBounds_ne e]
      exact h3 i (by omega)
  live := wgLive_of_block h.live (set_ne (by simp only; omega))
  vb := fun hs => (set_ne (by simp only; omega)).trans (h.vb hs)
  cb := fun hs => (set_ne (by simp only; omega)).trans (h.cb hs)
  ab := fun hs => (set_ne (by simp only; omega)).trans (h.ab hs)
theorem MS.next (h : MS W0 N n q ask j jj 3 vv av w) : MS W0 N n q ask (j + 1) jj 0 vv av w :=
  ⟨by have := h.size; omega, h.old, h.qb, h.kb, h.arr, h.live, fun hs => by omega, fun hs => by omega, fun hs => by omega⟩

section
variable {m0 : Nat} {ans : Nat → Nat → Value} {H : Nat → Prop} {Anch Fin : Goroutine → World → Prop} {b o B : Nat}
theorem ev_rdT (hH : ∀ b, H b → b < N) (h : (b < N ∧ ¬ H b) ∨ (N ≤ b ∧ b ≠ N + 3)) (hB : b < B) : EvM (phT Try.prog N n q m0 W0 ans H Anch Fin) j B ⟨.cell ⟨b, o, none⟩, false, false⟩ :=
  ev_rd (by simp only; omega) (by simp only; intro hb; have := hH b hb; rcases h with ⟨_, h⟩ | ⟨h, _⟩ <;> first | exact h hb | omega) hB
theorem ev_wrT (hH : ∀ b, H b → b < N) (h : b = N + 2 ∨ N + 4 + 3 * j ≤ b) (hB : b < B) : EvM (phT Try.prog N n q m0 W0 ans H Anch Fin) j B ⟨.cell ⟨b, o, none⟩, true, false⟩ :=
  ev_wr (by simp only; omega) (by simp only; intro hb; have := hH b hb; omega) hB (fun k hk hr => by simp only at hr; omega)
end

def sumC (av : Nat → Nat → Int) (c l x : Nat) : Int := ((List.range c).map fun i => av i x).sum + if x < l then av c x else 0
structure MF (W0 : World) (N n q : Nat) (av : Nat → Nat → Int) (c l : Nat) (w : World) : Prop where
  old : ∀ b, b < N → w.heap[b]? = W0.heap[b]?
  arr : ∃ xs, w.heap[N + 2]? = some (.cells xs 90) ∧ xs.size = n ∧ ∀ i, i < n → xs[i]? = some (.chan (some (N + 5 + 3 * i)))
  live : WgLive 89 (N + 3) w
  sums : ∃ ys, w.heap[N + 4 + 3 * n]? = some (.cells ys 3) ∧ ys.size = q ∧ ∀ x, x < q → ys[x]? = some (.int .i64 (sumC av c l x))

theorem MF.rely {m0 : Nat} {ans : Nat → Nat → Value} {H : Nat → Prop} {Anch Fin : Goroutine → World → Prop} {avs : Nat → Nat → Int} {c l : Nat} (h : MF W0 N n q avs c l w) (r : RM (phT Try.prog N n q m0 W0 ans H Anch Fin) n w w₁) : MF W0 N n q avs c l w₁ where
  old := fun b hb => (r.fix b (by simp only; omega) (fun i hi => by simp only; omega)).trans (h.old b hb)
  arr := let ⟨xs, h1, h2⟩ := h.arr; ⟨xs, (r.fix _ (by simp only; omega) (fun i hi => by simp only; omega)).trans h1, h2⟩
  live := r.live h.live
  sums := let ⟨ys, h1, h2⟩ := h.sums; ⟨ys, (r.fix _ (by simp only; omega) (fun i hi => by simp only; omega)).trans h1, h2⟩

theorem MF.start {avs : Nat → Nat → Int} (h : MS W0 N n q ask n n 0 vv av w) {ys : Array Value} (hy : ys = Array.replicate q (.int .i64 0)) : MF W0 N n q avs 0 0 (w.alloc (.cells ys 3)) where
  old := fun b hb => (push_old (by have := h.size; omega)).trans (h.old b hb)
  arr := let ⟨xs, h1, h2⟩ := h.arr; ⟨xs, push_lt h1, h2⟩
  live := wgLive_of_block h.live (push_old (wgLive_lt h.live))
  sums := ⟨ys, push_at (by have := h.size; omega), by simp [hy], fun x hx => by simp [hy, sumC, hx]⟩

theorem MF.add {avs : Nat → Nat → Int} {c l : Nat} (h : MF W0 N n q avs c l w) (hl : l < q) {v : Int} (hv : v = sumC avs c l l + avs c l) : MF W0 N n q avs c (l + 1) (w.setCell ⟨N + 4 + 3 * n, l, none⟩ (.int .i64 v)) where
  old := fun b hb => (set_ne (by simp only; omega)).trans (h.old b hb)
  arr := let ⟨xs, h1, h2⟩ := h.arr; ⟨xs, (set_ne (by simp only; omega)).trans h1, h2⟩
  live := wgLive_of_block h.live (set_ne (by simp only; omega))
  sums := by
    obtain ⟨ys, h1, h2, h3⟩ := h.sums
    refine ⟨_, set_at h1, by simpa using h2, fun x hx => ?_⟩
    by_cases e : l = x
    · subst e
      rw [Array.getElem?_setIfInBounds_self_of_lt (by omega), hv]
      simp [sumC]
    · rw [Array.getElem?_setIfInBounds_ne e, h3 x hx]
      have : (x < l) ↔ (x < l + 1) := by omega
      simp [sumC, this]
theorem MF.turn {avs : Nat → Nat → Int} {c : Nat} (h : MF W0 N n q avs c q w) : MF W0 N n q avs (c + 1) 0 w where
  old := h.old
  arr := h.arr
  live := h.live
  sums := by
    obtain ⟨ys, h1, h2, h3⟩ := h.sums
    refine ⟨ys, h1, h2, fun x hx => ?_⟩
    rw [h3 x hx]
    simp [sumC, List.range_succ, hx]
end
end

section
open Go.Conc
open Go.ConcN (WgLive sumTo upd sumTo_upd upd_ne upd_same Deaf_still sumTo_congr le_sumTo sumTo_le bk_cell sumTo_upd_out)
open Go.ConcR (KK WgAt stA smA rd wr mk DC0 Bk bk_of_mute ofEvent_loc_mark ofEvent_mk)

section
variable {Φ : Ph} {gs gs' : Array Goroutine} {w w' : World} {sl : Option (Nat × Nat)} {j : Nat} {D D' : Nat → WD} {tag tag' : Tag} {f0 f' d0 d0' : Nat} {qs : Nat → Nat} {a a' : Goroutine} {t t' : Trace} {st sm st' sm' : Int} {es : Array Event}

theorem Com.spawn (O : Φ.Ok) (h : Com Φ j gs w t D 0 qs) {a' child : Goroutine} {x y : MemOp} {m : Nat} (hx : x.g = 0 ∧ x.act = .go (Φ.m0 + j)) (hy : y.g = Φ.m0 + j ∧ y.act = .start) (hlw : Φ.lw j ≤ w.heap.size) (hc : WSit Φ j (8 + Φ.q) m 0 child w) :
    Com Φ (j + 1) ((gs.setIfInBounds 0 a').push child) w (t ++ #[x, y]) (upd D j ⟨8 + Φ.q, m, 0⟩) 0 qs := by
  have hm0 := O.m0
  have hm : ∀ op ∈ #[x, y], op = x ∨ op = y := by intro op hop; simpa using hop
  have hst : ∀ op ∈ #[x, y], op.act ≠ .mark .disable ∧ op.act ≠ .mark .enable := by
    intro op hop
    rcases hm op hop with rfl | rfl
    · rw [hx.2]; exact ⟨by simp, by simp⟩
    · rw [hy.2]; exact ⟨by simp, by simp⟩
  have hdf : ∀ g, Deaf (t ++ #[x, y]) g = Deaf t g := fun g => Deaf_still t g _ hst
  have hget : ∀ i z, i ≠ 0 → gs[i]? = some z → ((gs.setIfInBounds 0 a').push child)[i]? = some z := fun i z h0 hz => by
    have hlt := (Array.getElem?_eq_some_iff.1 hz).1
    rw [Array.getElem?_push_lt (by simpa using hlt), ← Array.getElem?_eq_getElem, Array.getElem?_setIfInBounds_ne (by omega)]
    exact hz
  have hnt : ∀ op ∈ #[x, y], op.act.touch? = none := fun op hop => by
    rcases hm op hop with rfl | rfl
    · rw [hx.2]; rfl
    · rw [hy.2]; rfl
  refine ⟨by simp [h.size]; omega, fun i hi => ?_, fun i h0 h1 => ?_, fun i hi => by rw [hdf]; exact h.above i (by omega), h.pt.fork O.lies hx hy h.deaf0 (h.above _ (Nat.le_refl _)), by rw [hdf, h.deaf0], fun i hi => ?_, fun i hi hs => ?_, ?_, fun i hi => ?_, h.os, h.output, h.oldw, h.bsz, h.plain⟩
  · rcases Nat.lt_or_ge i j with hlt | hge
    · obtain ⟨g, hg, hsg⟩ := h.wk i hlt
      exact ⟨g, hget _ _ (by omega) hg, by rw [upd_ne D _ (by omega)]; exact hsg⟩
    · obtain rfl : i = j := by omega
      refine ⟨child, ?_, by rw [upd_same]; exact hc⟩
      rw [show Φ.m0 + i = (gs.setIfInBounds 0 a').size by simp [h.size], Array.getElem?_push_size]
  · obtain ⟨g, hg, hq⟩ := h.old i h0 h1
    exact ⟨g, hget _ _ (by omega) hg, by rw [hdf]; exact hq⟩
  · rw [hdf]
    rcases Nat.lt_or_ge i j with hlt | hge
    · rw [h.deafW i hlt, upd_ne D _ (by omega)]
    · obtain rfl : i = j := by omega
      rw [upd_same]; exact h.above _ (Nat.le_refl _)
  · rcases Nat.lt_or_ge i j with hlt | hge
    · rw [upd_ne D _ (by omega)] at hs
      obtain ⟨r, hr⟩ := h.rel i hlt hs
      exact ⟨r, hr.mutes hnt⟩
    · obtain rfl : i = j := by omega
      rw [upd_same] at hs
      simp at hs
      omega
  · refine low_app h.low (Nat.le_refl _) fun op hop => ?_
    rcases hm op hop with rfl | rfl
    · rw [hx.2]; trivial
    · rw [hy.2]; trivial
  · rcases Nat.lt_or_ge i j with hlt | hge
    · exact h.rdl i hlt
    · obtain rfl : i = j := by omega
      exact hlw

theorem bk_rd (hB : Φ.Wg < w.heap.size) : ∀ e ∈ #[rd (stA Φ.Wg)], Ok0 Φ.H Φ.Wg Φ.Rd j (.ofEvent e) ∧ (MemAct.ofEvent e).low w.heap.size := by
  intro e he; simp at he; subst he; exact ok0_bk hB (bk_cell _ _ rfl)
theorem bk_rw (hB : Φ.Wg < w.heap.size) : ∀ e ∈ #[rd (stA Φ.Wg), wr (stA Φ.Wg)], Ok0 Φ.H Φ.Wg Φ.Rd j (.ofEvent e) ∧ (MemAct.ofEvent e).low w.heap.size := by
  intro e he; simp at he; rcases he with rfl | rfl <;> exact ok0_bk hB (bk_cell _ _ rfl)
theorem bk_dis (hB : Φ.Wg < w.heap.size) : ∀ e ∈ #[mk .disable], Ok0 Φ.H Φ.Wg Φ.Rd j (.ofEvent e) ∧ (MemAct.ofEvent e).low w.heap.size := by
  intro e he; simp at he; subst he; exact ok0_bk hB (.inl rfl)
theorem bk_en (hB : Φ.Wg < w.heap.size) : ∀ e ∈ #[mk .enable], Ok0 Φ.H Φ.Wg Φ.Rd j (.ofEvent e) ∧ (MemAct.ofEvent e).low w.heap.size := by
  intro e he; simp at he; subst he; exact ok0_bk hB (.inr (.inl rfl))
theorem bk_acq (hB : Φ.Wg < w.heap.size) : ∀ e ∈ #[mk (.acquire (stA Φ.Wg))], Ok0 Φ.H Φ.Wg Φ.Rd j (.ofEvent e) ∧ (MemAct.ofEvent e).low w.heap.size := by
  intro e he; simp at he; subst he; exact ⟨⟨by simp [mk, MemAct.ofEvent], fun x hx => by cases hx⟩, hB⟩
theorem bk_sem (hB : Φ.Wg < w.heap.size) : ∀ e ∈ semEvents (smA Φ.Wg), Ok0 Φ.H Φ.Wg Φ.Rd j (.ofEvent e) ∧ (MemAct.ofEvent e).low w.heap.size := by
  intro e he
  simp [semEvents] at he
  rcases he with rfl | rfl | rfl | rfl
  · exact ok0_bk hB (.inl rfl)
  · exact ok0_bk hB (bk_cell _ _ rfl)
  · exact ok0_bk hB (bk_cell _ _ rfl)
  · exact ok0_bk hB (.inr (.inl rfl))
theorem lt2_trans {x y z : Nat × Nat} (h : Lt2 x y) (h' : Lt2 y z) : Lt2 x z := by
  rcases Prod.lex_def.1 h with h | ⟨h, hh⟩ <;> rcases Prod.lex_def.1 h' with k | ⟨k, kk⟩ <;> refine Prod.lex_def.2 ?_ <;> omega

theorem w1Step (O : Φ.Ok) (ha : gs[0]? = some a) (hcom : Com Φ Φ.n gs w t D 1 qs) (hwg : WgAt Φ.ty Φ.Wg w st sm) (hmode : Mode Φ.n D .w1 st sm) (hchs : Chans Φ Φ.n D .w1 w)
    (h : Goes Φ.P true (RM Φ Φ.n) DC0 (AtW1 Φ) f0 a w) : Step1 Φ (crowd gs w sl) t 0 (meas Φ Φ.n D .w1 f0 qs) := by
  have hB : Φ.Wg < w.heap.size := wgLive_lt ⟨_, _, hwg⟩
  have hn := O.hn
  rcases Goes.cases h with hstop | ⟨m', rfl, hstep⟩
  · obtain ⟨_, hall⟩ := hstop w (.refl w)
    obtain ⟨ho, rfl, rfl, _⟩ := hmode.open_inv trivial
    have hV := Vc_le Φ.n D
    have hw1 : WgAt Φ.ty Φ.Wg w ((Vc Φ.n D : Nat) * KK) 0 := by simpa [pend] using hwg
    obtain ⟨a', hgo, h0, hne⟩ := hall (Vc Φ.n D) (by omega) hw1
    by_cases hv : Vc Φ.n D = 0
    · obtain ⟨m₂, hk⟩ := h0 hv
      refine bookC O ha hcom hwg hchs hgo (.refl w) (fun _ _ => rfl) hwg (bk_rd hB) (.ke hk) ?_ (fun _ _ => rfl) (by simp) (by simp) (.inl (by simp only [phi]; omega))
      have e : ((Vc Φ.n D + pend .w1 : Nat) : Int) * KK = 0 := by rw [hv]; simp [pend]
      rw [e]
      exact .fin trivial (allQuit_of ho hv)
    · obtain ⟨m₂, hk⟩ := hne hv
      exact bookC O ha hcom hwg hchs hgo (.refl w) (fun _ _ => rfl) hwg (bk_rd hB) (.w2 hk) (hmode.openTo trivial trivial rfl (fun vs e => by cases e; omega)) (fun _ _ => rfl) (by simp) (by simp) (.inl (by simp only [phi]; omega))
  · obtain ⟨a', w', es, hgo, ⟨rfl, rfl⟩, hg'⟩ := hstep w (.refl w)
    exact idleC O ha hcom hwg hmode hchs (by simp) hgo dm_nil (Nat.le_refl _) (.w1 hg') (by omega)

theorem snds_goes {k l : Nat} {g : Goroutine} (h : Snds Φ k l g w) : ∃ m, Goes Φ.P false (RW Φ k) (DW Φ k) (AtSn Φ k l) m g w := by cases l <;> exact h
theorem rvIn_goes {After : Goroutine → World → Prop} {i l : Nat} {g : Goroutine} (h : RvIn Φ After i l g w) : ∃ m, Goes Φ.P true (RM Φ Φ.n) (DM Φ Φ.n) (AtRv Φ After i l) m g w := by cases l <;> exact h

theorem spawnStep (O : Φ.Ok) (ha : gs[0]? = some a) {r m₂ : Nat} (hr : r < Φ.n) {J : Nat} (hJ : J = Φ.n - (r + 1)) {child : Goroutine} (hcom : Com Φ J gs w t D 0 qs) (hwg : WgAt Φ.ty Φ.Wg w st sm) (hmode : Mode J D (.sp r 2) st sm) (hchs : Chans Φ J D (.sp r 2) w)
    (hsp : stepG Φ.P true a w = .spawn a' child w #[]) (hchan : w.heap[Φ.ch J]? = some (.chan Φ.q #[] false 0 0 false)) (hlw : Φ.lw J ≤ w.heap.size)
    (hwk : WSit Φ J (8 + Φ.q) m₂ 0 child w) (hnext : Spawns Φ r a' w) : Step1 Φ (crowd gs w sl) t 0 (meas Φ J D (.sp r 2) f0 qs) := by
  have hm0 := O.m0
  obtain ⟨ho, rfl, rfl, _⟩ := hmode.open_inv trivial
  have hrun' := runT_crowd_spawn (P := Φ.P) (sl := sl) (i := 0) ha (by simpa using hsp)
  rw [hcom.size] at hrun'
  have hcom' := hcom.spawn O (a' := a') (x := { g := 0, fn := a.frame.fn, pos := a.frame.place, act := .go (Φ.m0 + J) }) (y := { g := Φ.m0 + J, fn := child.frame.fn, pos := a.frame.place, act := .start }) ⟨rfl, rfl⟩ ⟨rfl, rfl⟩ hlw hwk
  have eops : ((MemOp.ofEvents 0 a.frame.fn a.frame.place #[]).push { g := 0, fn := a.frame.fn, pos := a.frame.place, act := .go (Φ.m0 + J) }).push { g := Φ.m0 + J, fn := child.frame.fn, pos := a.frame.place, act := .start } =
      #[{ g := 0, fn := a.frame.fn, pos := a.frame.place, act := .go (Φ.m0 + J) }, { g := Φ.m0 + J, fn := child.frame.fn, pos := a.frame.place, act := .start }] := by simp [MemOp.ofEvents]
  rw [eops] at hrun'
  have ha' : ((gs.setIfInBounds 0 a').push child)[0]? = some a' := by
    rw [Array.getElem?_push_lt (by simp [hcom.size]; omega), ← Array.getElem?_eq_getElem]
    rw [Array.getElem?_setIfInBounds_self_of_lt (by rw [hcom.size]; omega)]
  obtain ⟨x, hx⟩ : ∃ x : WD, x = ⟨8 + Φ.q, m₂, 0⟩ := ⟨_, rfl⟩
  have c1 : cntD x = 1 := by subst hx; simp [cntD]; omega
  have s1 : x.stage = 8 + Φ.q := by rw [hx]
  rw [← hx] at hcom'
  have eV : Vc (J + 1) (upd D J x) = Vc J D + 1 := by
    simp only [Vc, sumTo, upd_same]
    rw [sumTo_upd_out D _ cntD (Nat.le_refl _), c1]
  have eS : Ssum (J + 1) (upd D J x) = Ssum J D + (8 + Φ.q) := by
    simp only [Ssum, sumTo, upd_same]
    rw [sumTo_upd_out D _ WD.stage (Nat.le_refl _), s1]
  have ho' : OpenSt (J + 1) (upd D J x) := fun i hi => by
    by_cases e : i = J
    · subst e; rw [upd_same, s1]; exact .inl (by omega)
    · rw [upd_ne D _ e]; exact ho i (by omega)
  have est : ∀ tag', pend tag' = 0 → ((Vc J D + pend (.sp r 2) : Nat) : Int) * KK = ((Vc (J + 1) (upd D J x) + pend tag' : Nat) : Int) * KK := fun tag' hp => by rw [eV, hp]; simp [pend]
  have hch' : ∀ tag', (∀ i, i < J + 1 → rcvd Φ.n Φ.q tag' i = 0) → (∀ c l, tag' ≠ .pk c l) → Chans Φ (J + 1) (upd D J x) tag' w := fun tag' hr0 hp => by
    refine ⟨fun i hi => ?_, fun c l e => absurd e (hp c l)⟩
    rw [hr0 i hi]
    by_cases e : i = J
    · subst e
      have hs0 : sent Φ.q x = 0 := by simp only [sent, s1]; omega
      rw [upd_same, hs0, bufOf_nil (Nat.le_refl _), show decide (x.stage ≤ 7) = false by rw [s1]; simp; omega]
      exact ⟨hchan, Nat.le_refl _⟩
    · rw [upd_ne D _ e]
      exact hchs.at' i (by omega)
  cases r with
  | zero =>
    obtain ⟨c, hc⟩ : ∃ c, Φ.n = c + 1 := ⟨Φ.n - 1, by have := O.n1; omega⟩
    obtain ⟨m₃, hk⟩ : ∃ m, Goes Φ.P true (RM Φ Φ.n) (DM Φ Φ.n) (AtRv Φ (RvAll Φ c) (Φ.n - (c + 1)) Φ.q) m a' w := by
      refine rvIn_goes (?_ : RvIn Φ (RvAll Φ c) (Φ.n - (c + 1)) Φ.q a' w)
      have h2 : RvAll Φ Φ.n a' w := hnext
      rw [hc] at h2
      exact h2
    have eJ : J + 1 = Φ.n := by omega
    refine ⟨_, _, meas Φ Φ.n (upd D J x) (.rv (c + 1) Φ.q) (m₃ + 1) qs, hrun', ?_, _, w, sl, Φ.n, upd D J x, .rv (c + 1) Φ.q, m₃ + 1, 0, qs, a', _, _, rfl, ha', .rv (by omega) (Nat.le_refl _) hk, eJ ▸ hcom', hwg, ?_, ?_, by simp, rfl⟩
    · rw [← eJ]
      refine Prod.Lex.left _ _ ?_
      rw [eS, eV]
      simp only [phi, show c + 1 = Φ.n by omega, Nat.add_mul]
      omega
    · rw [est (.rv (c + 1) Φ.q) rfl, ← eJ]
      exact .opn trivial ho' (by simp)
    · rw [← eJ]
      refine hch' _ (fun i hi => ?_) (by simp)
      simp only [rcvd]
      rw [if_neg (by omega)]
      split <;> omega
  | succ r' =>
    obtain ⟨m₃, hk⟩ := hnext
    have eJ : J + 1 = Φ.n - (r' + 1) := by omega
    refine ⟨_, _, meas Φ (Φ.n - (r' + 1)) (upd D J x) (.sp r' 6) m₃ qs, hrun', ?_, _, w, sl, Φ.n - (r' + 1), upd D J x, .sp r' 6, m₃, 0, qs, a', _, _, rfl, ha', .skd (by omega) hk, eJ ▸ hcom', hwg, ?_, ?_, by simp, rfl⟩
    · rw [← eJ]
      refine Prod.Lex.left _ _ ?_
      rw [eS, eV]
      simp only [phi, Nat.mul_add, Nat.add_mul]
      omega
    · rw [est (.sp r' 6) rfl, ← eJ]
      exact .opn trivial ho' (by simp)
    · rw [← eJ]
      exact hch' _ (fun i hi => rfl) (by simp)

set_option maxHeartbeats 3200000 in
theorem stepCaller (O : Φ.Ok) (ha : gs[0]? = some a) (hcs : CSit Φ tag j f0 d0 a w) (hcom : Com Φ j gs w t D d0 qs) (hwg : WgAt Φ.ty Φ.Wg w st sm) (hmode : Mode j D tag st sm) (hchs : Chans Φ j D tag w)
    (hacq : tag = .fin → AcqK Φ.Wg Φ.m0 j t) (hrun : a.status = .running) : Step1 Φ (crowd gs w sl) t 0 (meas Φ j D tag f0 qs) ∨ (tag = .fin ∧ j = Φ.n ∧ d0 = 0 ∧ ∀ w₁, RM Φ Φ.n w w₁ → Φ.Fin a w₁) := by
  have hm0 := O.m0
  have hn := O.hn
  have hB : Φ.Wg < w.heap.size := wgLive_lt ⟨_, _, hwg⟩
  have hVj := Vc_le j D
  have hbd := hcs.bound
  have hbs : ∀ (a : Addr) (v : Value), a.block = Φ.Wg → ∀ b, b ≠ Φ.Wg → (w.setCell a v).heap[b]? = w.heap[b]? := fun a v hab b hb => setCell_heap w a v b (by rw [hab]; exact hb)
  -- an idle step that lists nothing
  have idle : ∀ {a' : Goroutine} {f' : Nat}, stepG Φ.P true a w = .go a' w #[] → CSit Φ tag j f' d0 a' w → f' < f0 → Step1 Φ (crowd gs w sl) t 0 (meas Φ j D tag f0 qs) :=
    fun hgo hcs' hf => idleC O ha hcom hwg hmode hchs hacq hgo dm_nil (by omega) hcs' hf
  cases hcs with
  | @skd r m _ _ hr h =>
    rcases Goes.cases h with hstop | ⟨m', rfl, hstep⟩
    · obtain ⟨_, a', hgo, m₂, hk⟩ := hstop w (.refl w)
      exact .inl (bookC O ha hcom hwg hchs hgo (.refl w) (fun _ _ => rfl) hwg (bk_dis hB) (.sa1 hr hk) (hmode.openTo trivial trivial rfl (by simp)) (fun _ _ => rfl) (by simp) (by simp) (.inl (by simp only [phi]; omega)))
    · obtain ⟨a', w', es, hgo, hD, hg'⟩ := hstep w (.refl w)
      exact .inl (idleC O ha hcom hwg hmode hchs hacq hgo hD (by omega) (.skd hr hg') (by omega))
  | @sa1 r m _ _ hr h =>
    rcases Goes.cases h with hstop | ⟨m', rfl, hstep⟩
    · obtain ⟨_, hall⟩ := hstop w (.refl w)
      obtain ⟨ho, rfl, rfl, _⟩ := hmode.open_inv trivial
      have hw1 : WgAt Φ.ty Φ.Wg w ((Vc (Φ.n - (r + 1)) D : Nat) * KK) 0 := by simpa [pend] using hwg
      obtain ⟨a', hgo, h0, h1⟩ := hall (Vc (Φ.n - (r + 1)) D) (by simp [pend] at hbd; omega) hw1
      by_cases hv : Vc (Φ.n - (r + 1)) D = 0
      · obtain ⟨m₂, hk⟩ := h0 hv
        exact .inl (bookC O ha hcom hwg hchs hgo (RM.of_wg rfl (hw1.setSt _)) (hbs _ _ rfl) (hw1.setSt _) (bk_rw hB) (.srd hr hk) (by
          have := Mode.opn (j := Φ.n - (r + 1)) (D := D) (tag := .sp r 4) trivial ho (by simp)
          simpa [pend] using this) (fun _ _ => rfl) (by simp) (by simp) (.inl (by simp only [phi]; omega)))
      · obtain ⟨m₂, hk⟩ := h1 hv
        exact .inl (bookC O ha hcom hwg hchs hgo (RM.of_wg rfl (hw1.setSt _)) (hbs _ _ rfl) (hw1.setSt _) (bk_rw hB) (.ske hr hk) (by
          have := Mode.opn (j := Φ.n - (r + 1)) (D := D) (tag := .sp r 3) trivial ho (by simp)
          simpa [pend] using this) (fun _ _ => rfl) (by simp) (by simp) (.inl (by simp only [phi]; omega)))
    · obtain ⟨a', w', es, hgo, ⟨rfl, rfl⟩, hg'⟩ := hstep w (.refl w)
      exact .inl (idle hgo (.sa1 hr hg') (by omega))
  | @srd r m _ _ hr h =>
    rcases Goes.cases h with hstop | ⟨m', rfl, hstep⟩
    · obtain ⟨_, a', hgo, m₂, hk⟩ := hstop w (.refl w)
      exact .inl (bookC O ha hcom hwg hchs hgo (.refl w) (fun _ _ => rfl) hwg (bk_said hB (.inl rfl)) (.ske hr hk) (hmode.openTo trivial trivial rfl (by simp)) (fun _ _ => rfl) (by simp) (by simp) (.inl (by simp only [phi]; omega)))
    · obtain ⟨a', w', es, hgo, ⟨rfl, rfl⟩, hg'⟩ := hstep w (.refl w)
      exact .inl (idle hgo (.srd hr hg') (by omega))
  | @ske r m _ _ hr h =>
    rcases Goes.cases h with hstop | ⟨m', rfl, hstep⟩
    · obtain ⟨_, a', hgo, m₂, hk⟩ := hstop w (.refl w)
      exact .inl (bookC O ha hcom hwg hchs hgo (.refl w) (fun _ _ => rfl) hwg (bk_en hB) (.sgo hr hk) (hmode.openTo trivial trivial rfl (by simp)) (fun _ _ => rfl) (by simp) (by simp) (.inl (by simp only [phi]; omega)))
    · obtain ⟨a', w', es, hgo, ⟨rfl, rfl⟩, hg'⟩ := hstep w (.refl w)
      exact .inl (idle hgo (.ske hr hg') (by omega))
  | @sgo r m _ _ hr h =>
    rcases Goes.cases h with hstop | ⟨m', rfl, hstep⟩
    · obtain ⟨_, a', child, hsp, _, hchan, hlw, hwk0, hnext⟩ := hstop w (.refl w)
      obtain ⟨m₂, hwk⟩ : ∃ m, WSit Φ (Φ.n - (r + 1)) (8 + Φ.q) m 0 child w := by
        obtain ⟨m, hG⟩ : ∃ m, Goes Φ.P false (RW Φ (Φ.n - (r + 1))) (DW Φ (Φ.n - (r + 1))) (AtSn Φ (Φ.n - (r + 1)) Φ.q) m child w := snds_goes hwk0
        exact ⟨m, .snd (Nat.le_refl _) hG⟩
      exact .inl (spawnStep O ha hr rfl hcom hwg hmode hchs hsp hchan hlw hwk hnext)
    · obtain ⟨a', w', es, hgo, hD, hg'⟩ := hstep w (.refl w)
      exact .inl (idleC O ha hcom hwg hmode hchs hacq hgo hD (by omega) (.sgo hr hg') (by omega))
  | @rv c l m _ _ hc hl h =>
    rcases Goes.cases h with hstop | ⟨m', rfl, hstep⟩
    · exact .inl (recvStep O ha hc hl hcom hwg hmode hchs hstop)
    · obtain ⟨a', w', es, hgo, hD, hg'⟩ := hstep w (.refl w)
      exact .inl (idleC O ha hcom hwg hmode hchs hacq hgo hD (by omega) (.rv hc hl hg') (by omega))
  | pk _ _ _ => simp [parked] at hrun
  | kd h =>
    rcases Goes.cases h with hstop | ⟨m', rfl, hstep⟩
    · obtain ⟨_, a', hgo, m₂, hk⟩ := hstop w (.refl w)
      exact .inl (bookC O ha hcom hwg hchs hgo (.refl w) (fun _ _ => rfl) hwg (bk_dis hB) (.anch hk) (hmode.openTo trivial trivial rfl (by simp)) (fun _ _ => rfl) (by simp) (by simp) (.inl (by simp only [phi]; omega)))
    · obtain ⟨a', w', es, hgo, hD, hg'⟩ := hstep w (.refl w)
      exact .inl (idleC O ha hcom hwg hmode hchs hacq hgo hD (by omega) (.kd hg') (by omega))
  | anch h =>
    rcases Goes.cases h with hstop | ⟨m', rfl, hstep⟩
    · obtain ⟨m₂, hk⟩ := (O.anch a w (hstop w (.refl w))).2
      obtain ⟨m₁, ops, μ', h1, h2, h3⟩ := w1Step (sl := sl) O ha hcom hwg (hmode.openTo trivial trivial rfl (by simp)) (hchs.keepC (fun _ _ => rfl) (fun _ _ => rfl) (by simp)) hk
      exact .inl ⟨m₁, ops, μ', h1, lt2_trans h2 (Prod.Lex.left _ _ (by simp only [phi]; omega)), h3⟩
    · obtain ⟨a', w', es, hgo, ⟨rfl, rfl⟩, hg'⟩ := hstep w (.refl w)
      exact .inl (idle hgo (.anch hg') (by omega))
  | w1 h => exact .inl (w1Step O ha hcom hwg hmode hchs h)
  | @w2 vs m _ _ h =>
    rcases Goes.cases h with hstop | ⟨m', rfl, hstep⟩
    · obtain ⟨_, hall⟩ := hstop w (.refl w)
      obtain ⟨ho, rfl, rfl, hw2⟩ := hmode.open_inv trivial
      obtain ⟨hle, h1⟩ := hw2 vs rfl
      have hw1 : WgAt Φ.ty Φ.Wg w ((Vc Φ.n D : Nat) * KK) 0 := by simpa [pend] using hwg
      obtain ⟨hhit, hmiss⟩ := hall (Vc Φ.n D) (by omega) hw1
      by_cases e : Vc Φ.n D = vs
      · obtain ⟨a', hgo, m₂, hk⟩ := hhit e
        exact .inl (bookC O ha hcom hwg hchs hgo (RM.of_wg rfl (hw1.setSt _)) (hbs _ _ rfl) (hw1.setSt _) (bk_rw hB) (.wr hk) (.reg trivial ho (by omega)) (fun _ _ => rfl) (by simp) (by simp) (.inl (by simp only [phi]; omega)))
      · obtain ⟨a', hgo, m₂, hk⟩ := hmiss e
        exact .inl (bookC O ha hcom hwg hchs hgo (.refl w) (fun _ _ => rfl) hwg (bk_rd hB) (.anch hk) (hmode.openTo trivial trivial rfl (by simp)) (fun _ _ => rfl) (by simp) (by simp) (.inl (by simp only [phi]; omega)))
    · obtain ⟨a', w', es, hgo, ⟨rfl, rfl⟩, hg'⟩ := hstep w (.refl w)
      exact .inl (idle hgo (.w2 hg') (by omega))
  | wr h =>
    rcases Goes.cases h with hstop | ⟨m', rfl, hstep⟩
    · obtain ⟨_, a', hgo, m₂, hk⟩ := hstop w (.refl w)
      have hm' : Mode Φ.n D .w3 st sm := by
        cases hmode with
        | opn h1 _ _ => exact h1.elim
        | reg _ h2 h3 => exact .reg trivial h2 h3
        | last L _ h2 h3 h4 => exact .last L trivial h2 h3 h4
        | sema _ h2 => exact .sema trivial h2
        | fin h1 _ => exact h1.elim
      exact .inl (bookC O ha hcom hwg hchs hgo (.refl w) (fun _ _ => rfl) hwg (bk_said hB (.inr rfl)) (.w3 hk) hm' (fun _ _ => rfl) (by simp) (by simp) (.inl (by simp only [phi]; omega)))
    · obtain ⟨a', w', es, hgo, ⟨rfl, rfl⟩, hg'⟩ := hstep w (.refl w)
      exact .inl (idle hgo (.wr hg') (by omega))
  | @w3 m _ _ h =>
    rcases Goes.cases h with hstop | ⟨m', rfl, hstep⟩
    · obtain ⟨_, hoff, hblk, htake⟩ := hstop w (.refl w)
      have park : ∀ {st1 : Int}, WgAt Φ.ty Φ.Wg w st1 0 → Mode Φ.n D .blk st sm → Step1 Φ (crowd gs w sl) t 0 (meas Φ Φ.n D .w3 (m + 1) qs) := fun hw1 hm1 =>
        bookC O ha hcom hwg hchs (hblk ⟨_, hw1⟩) (.refl w) (fun _ _ => rfl) hwg (by simp) (.blk hstop) hm1 (fun _ _ => rfl) (by simp) (by simp) (.inr ⟨rfl, by omega⟩)
      cases hmode with
      | opn h1 _ _ => exact h1.elim
      | reg h1 h2 h3 => exact .inl (park hwg (.reg trivial h2 h3))
      | last L h1 h2 h3 h4 => exact .inl (park hwg (.last L trivial h2 h3 h4))
      | sema _ h2 =>
        obtain ⟨a', hgo, m₂, hk⟩ := htake hwg
        exact .inl (bookC O ha hcom hwg hchs hgo (RM.of_wg rfl (hwg.setSm 0)) (hbs _ _ rfl) (hwg.setSm 0) (bk_sem hB) (.w4 hk) (.fin trivial h2) (fun _ _ => rfl) (by simp) (by simp) (.inl (by simp only [phi]; omega)))
      | fin h1 _ => exact h1.elim
    · obtain ⟨a', w', es, hgo, ⟨rfl, rfl⟩, hg'⟩ := hstep w (.refl w)
      exact .inl (idle hgo (.w3 hg') (by omega))
  | blk h => simp at hrun
  | w4 h =>
    rcases Goes.cases h with hstop | ⟨m', rfl, hstep⟩
    · obtain ⟨_, hx⟩ := hstop w (.refl w)
      obtain ⟨hq, rfl, rfl⟩ := hmode.fin_inv trivial
      obtain ⟨a', hgo, m₂, hk⟩ := hx hwg
      exact .inl (bookC O ha hcom hwg hchs hgo (.refl w) (fun _ _ => rfl) hwg (bk_rd hB) (.ke hk) (.fin trivial hq) (fun _ _ => rfl) (by simp) (by simp) (.inl (by simp only [phi]; omega)))
    · obtain ⟨a', w', es, hgo, ⟨rfl, rfl⟩, hg'⟩ := hstep w (.refl w)
      exact .inl (idle hgo (.w4 hg') (by omega))
  | ke h =>
    rcases Goes.cases h with hstop | ⟨m', rfl, hstep⟩
    · obtain ⟨_, a', hgo, m₂, hk⟩ := hstop w (.refl w)
      obtain ⟨hq, rfl, rfl⟩ := hmode.fin_inv trivial
      exact .inl (bookC O ha hcom hwg hchs hgo (.refl w) (fun _ _ => rfl) hwg (bk_en hB) (.acq hk) (.fin trivial hq) (fun _ _ => rfl) (by simp) (by simp) (.inl (by simp only [phi]; omega)))
    · obtain ⟨a', w', es, hgo, ⟨rfl, rfl⟩, hg'⟩ := hstep w (.refl w)
      exact .inl (idle hgo (.ke hg') (by omega))
  | acq h =>
    rcases Goes.cases h with hstop | ⟨m', rfl, hstep⟩
    · obtain ⟨_, a', hgo, m₂, hk⟩ := hstop w (.refl w)
      obtain ⟨hq, rfl, rfl⟩ := hmode.fin_inv trivial
      refine .inl (bookC O ha hcom hwg hchs hgo (.refl w) (fun _ _ => rfl) hwg (bk_acq hB) (.fin hk) (.fin trivial hq) (fun _ _ => rfl) (by simp) (fun _ => ?_) (.inl (by simp only [phi]; omega)))
      have e1 : MemOp.ofEvents 0 a.frame.fn a.frame.place #[mk (.acquire (stA Φ.Wg))] = #[{ g := 0, fn := a.frame.fn, pos := a.frame.place, act := .mark (.acquire (stA Φ.Wg)) }] := by rw [ofEvents_eq]; simp [ofEvent_mk]
      have hy : (t ++ #[({ g := 0, fn := a.frame.fn, pos := a.frame.place, act := .mark (.acquire (stA Φ.Wg)) } : MemOp)])[t.size]? = some { g := 0, fn := a.frame.fn, pos := a.frame.place, act := .mark (.acquire (stA Φ.Wg)) } := by simp
      refine ⟨t.size, by rw [e1, act?_of hy], by rw [e1]; simp [Trace.g?], by rw [e1]; exact ⟨0, by simp [Trace.g?], by rw [deaf_old (Nat.le_refl _)]; exact hcom.deaf0⟩, fun i hi => ?_⟩
      obtain ⟨r, hr⟩ := hcom.rel i hi (by rw [hq i hi]; omega)
      exact ⟨r, hr.other (fun op hop => by obtain ⟨e, _, rfl⟩ := Go.Conc.mem_ofEvents hop; show 0 ≠ _; omega), lt_of_act? hr.act⟩
    · obtain ⟨a', w', es, hgo, ⟨rfl, rfl⟩, hg'⟩ := hstep w (.refl w)
      exact .inl (idle hgo (.acq hg') (by omega))
  | fin h =>
    rcases Goes.cases h with hstop | ⟨m', rfl, hstep⟩
    · exact .inr ⟨rfl, rfl, rfl, hstop⟩
    · obtain ⟨a', w', es, hgo, hD, hg'⟩ := hstep w (.refl w)
      exact .inl (idleC O ha hcom hwg hmode hchs hacq hgo hD (by omega) (.fin hg') (by omega))
end
end

end Go.Proofs.Ytfiaiephbemdoaa
