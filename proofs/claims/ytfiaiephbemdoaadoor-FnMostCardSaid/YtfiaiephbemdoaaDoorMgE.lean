/-
  What the laws of this claim lean on: what functions of the program and of the model answer, one after another, and plain mathematics. No condition.
-/
import Derived.Test.YtfiaiephbemdoaaDoorMgD

set_option maxHeartbeats 800000
set_option linter.unusedVariables false
set_option linter.unusedSimpArgs false
set_option linter.unnecessarySimpa false
set_option maxRecDepth 100000

namespace Go.Proofs.YtfiaiephbemdoaaDoor

section
open Go.Conc
open Go.ConcN (WgLive sumTo upd sumTo_upd upd_ne upd_same Deaf_still sumTo_congr le_sumTo sumTo_le)
open Go.ConcR (KK WgAt stA smA rd wr mk DC0)

section
variable {Φ : Ph} {k j : Nat} {w w₁ w₂ : World}

theorem wgLive_of_block {ty : TypeId} {Wg : Nat} (h : WgLive ty Wg w) (e : w₁.heap[Wg]? = w.heap[Wg]?) : WgLive ty Wg w₁ := let ⟨st, sm, x⟩ := h; ⟨st, sm, e.trans x⟩
theorem wgLive_lt {ty : TypeId} {Wg : Nat} (h : WgLive ty Wg w) : Wg < w.heap.size := let ⟨st, sm, x⟩ := h; (Array.getElem?_eq_some_iff.1 x).1

theorem RW.refl (w : World) : RW Φ k w w := ⟨fun _ _ => rfl, id⟩
theorem RW.trans (h : RW Φ k w w₁) (h' : RW Φ k w₁ w₂) : RW Φ k w w₂ := ⟨fun b hb => (h'.rd b hb).trans (h.rd b hb), h'.live ∘ h.live⟩
theorem RW.at (w : World) (d : Nat) : RW Φ k w (w.at d) := ⟨fun _ _ => rfl, id⟩
theorem RM.refl (w : World) : RM Φ j w w := ⟨rfl, rfl, rfl, fun _ _ _ => rfl, id, id⟩
theorem RM.trans (h : RM Φ j w w₁) (h' : RM Φ j w₁ w₂) : RM Φ j w w₂ :=
  ⟨h'.os.trans h.os, h'.output.trans h.output, h'.size.trans h.size, fun b a c => (h'.fix b a c).trans (h.fix b a c), h'.live ∘ h.live, h'.plain ∘ h.plain⟩
theorem RM.at (w : World) (d : Nat) : RM Φ j w (w.at d) := ⟨rfl, rfl, rfl, fun _ _ _ => rfl, id, id⟩
theorem RM.rw (O : Φ.Ok) (h : RM Φ j w w₁) : RW Φ k w w₁ := ⟨fun b hb => h.fix b (O.lies.rdWg k b hb) fun i hi => O.rdCh k b i hb, h.live⟩
theorem DM.rw (O : Φ.Ok) {es : Array Event} (h : DM Φ j w w₁ es) (hk : k < j) (hl : Φ.lw k ≤ w.heap.size) : RW Φ k w w₁ :=
  ⟨fun b hb => h.fix b (Nat.lt_of_lt_of_le (O.rdLow k b hb) hl) (O.rdMw k j b hk hb), fun hv => wgLive_of_block hv (h.fix _ (wgLive_lt hv) (O.mwWg j))⟩

theorem plain_set {B0 c : Nat} {o : Obj} (h : PlainW B0 w) (ho : PlainO o) : PlainW B0 { w with heap := w.heap.setIfInBounds c o } := by
  intro b x hb hx
  change (w.heap.setIfInBounds c o)[b]? = some x at hx
  by_cases e : c = b
  · subst e
    rw [Array.getElem?_setIfInBounds] at hx
    split at hx
    · split at hx
      · cases hx; exact ho
      · cases hx
    · exact absurd rfl ‹_›
  · rw [Array.getElem?_setIfInBounds_ne e] at hx
    exact h b x hb hx

theorem RM.of_wg {st sm : Int} {a : Addr} {v : Value} (ha : a.block = Φ.Wg) (h' : WgAt Φ.ty Φ.Wg (w.setCell a v) st sm) : RM Φ j w (w.setCell a v) := by
  have e : ∀ b, b ≠ Φ.Wg → (w.setCell a v).heap[b]? = w.heap[b]? := fun b hb => setCell_heap w a v b (by rw [ha]; exact hb)
  refine ⟨rfl, rfl, by simp [World.setCell], fun b hb _ => e b hb, fun _ => ⟨_, _, h'⟩, fun hp b x hb hx => ?_⟩
  by_cases eb : b = Φ.Wg
  · subst eb
    rw [show (w.setCell a v).heap[Φ.Wg]? = _ from h'] at hx
    cases hx
    trivial
  · rw [e b eb] at hx
    exact hp b x hb hx

theorem chan_heap (w : World) (c cap : Nat) (buf : Array Value) (cl : Bool) (s r : Nat) (tm : Bool) {b : Nat} (hb : b ≠ c) : (w.setChan c cap buf cl s r tm).heap[b]? = w.heap[b]? := by
  simp only [World.setChan]
  rw [Array.getElem?_setIfInBounds_ne (Ne.symm hb)]
theorem chan_at {w : World} {c : Nat} {o : Obj} (h : w.heap[c]? = some o) (cap : Nat) (buf : Array Value) (cl : Bool) (s r : Nat) (tm : Bool) : (w.setChan c cap buf cl s r tm).heap[c]? = some (.chan cap buf cl s r tm) := by
  simp only [World.setChan]
  rw [Array.getElem?_setIfInBounds_self_of_lt (Array.getElem?_eq_some_iff.1 h).1]

theorem RM.of_chan (O : Φ.Ok) {i : Nat} (hi : i < j) (cap : Nat) (buf : Array Value) (cl : Bool) (s r : Nat) (tm : Bool) : RM Φ j w (w.setChan (Φ.ch i) cap buf cl s r tm) :=
  ⟨rfl, rfl, by simp [World.setChan], fun b _ hc => chan_heap _ _ _ _ _ _ _ _ (hc i hi), fun h => wgLive_of_block h (chan_heap _ _ _ _ _ _ _ _ (fun e => O.chWg i e.symm)), fun hp => plain_set hp trivial⟩

theorem WSit.rely {s m d : Nat} {g : Goroutine} (h : WSit Φ k s m d g w) (hr : RW Φ k w w₁) : WSit Φ k s m d g w₁ := by
  have tr : ∀ a b c, RW Φ k a b → RW Φ k b c → RW Φ k a c := fun _ _ _ h1 h2 => h1.trans h2
  cases h with
  | snd hl h => exact .snd hl (Goes.rely tr h hr)
  | r0 h => exact .r0 (Goes.rely tr h hr)
  | k1 h => exact .k1 (Goes.rely tr h hr)
  | d1 h => exact .d1 (Goes.rely tr h hr)
  | d2 h => exact .d2 (Goes.rely tr h hr)
  | d3 h => exact .d3 (Goes.rely tr h hr)
  | d4 h => exact .d4 (Goes.rely tr h hr)
  | quit h => exact .quit h

theorem AtSn.running {l : Nat} {g : Goroutine} (h : AtSn Φ k l g w) : g.status = .running := by cases l <;> exact h.1
theorem AtRv.running {After : Goroutine → World → Prop} {i l : Nat} {g : Goroutine} (h : AtRv Φ After i l g w) : g.status = .running := by cases l <;> exact h.1

theorem WSit.status {s m d : Nat} {g : Goroutine} (h : WSit Φ k s m d g w) : (g.status = .running) ∨ (g.status = .finished ∧ s = 1) := by
  cases h with
  | snd _ h => exact .inl (Goes.running (fun _ _ x => x.running) w (RW.refl w) h)
  | r0 h => exact .inl (Goes.running (fun _ _ x => x.1) w (RW.refl w) h)
  | k1 h => exact .inl (Goes.running (fun _ _ x => x.1) w (RW.refl w) h)
  | d1 h => exact .inl (Goes.running (fun _ _ x => x.1) w (RW.refl w) h)
  | d2 h => exact .inl (Goes.running (fun _ _ x => x.1) w (RW.refl w) h)
  | d3 h => exact .inl (Goes.running (fun _ _ x => x.1) w (RW.refl w) h)
  | d4 h => exact .inl (Goes.running (fun _ _ x => x.1) w (RW.refl w) h)
  | quit h => exact h.status.imp id fun x => ⟨x, rfl⟩

theorem woken_up {P : Program} {g : Goroutine} (h : g.status = .running ∨ g.status = .finished) (a a' : Goroutine) (w' : World) : woken P a a' w' g = g := by
  unfold Go.Conc.woken
  split
  · exact again_running _ h
  · rfl
theorem WSit.up {s m d : Nat} {g : Goroutine} (h : WSit Φ k s m d g w) : g.status = .running ∨ g.status = .finished := h.status.imp id (·.1)

def Woke (tag tag' : Tag) : Prop := tag' = tag ∨ (tag = .blk ∧ tag' = .w3) ∨ ∃ c l, tag = .pk c l ∧ tag' = .rv c l

theorem phi_woke (n q v : Nat) {tag tag' : Tag} (h : Woke tag tag') : phi n q v tag' = phi n q v tag := by
  rcases h with rfl | ⟨rfl, rfl⟩ | ⟨c, l, rfl, rfl⟩ <;> rfl
theorem rcvd_woke (n q : Nat) {tag tag' : Tag} (h : Woke tag tag') (i : Nat) : rcvd n q tag' i = rcvd n q tag i := by
  rcases h with rfl | ⟨rfl, rfl⟩ | ⟨c, l, rfl, rfl⟩ <;> rfl
theorem Mode.woke {D : Nat → WD} {tag tag' : Tag} {st sm : Int} (h : Mode j D tag st sm) (e : Woke tag tag') : Mode j D tag' st sm := by
  rcases e with rfl | ⟨rfl, rfl⟩ | ⟨c, l, rfl, rfl⟩
  · exact h
  · cases h with
    | opn h1 _ _ => exact h1.elim
    | reg _ h2 h3 => exact .reg trivial h2 h3
    | last L _ h2 h3 h4 => exact .last L trivial h2 h3 h4
    | sema h1 _ => exact h1.elim
    | fin h1 _ => exact h1.elim
  · cases h with
    | opn h1 h2 h3 => exact .opn (tag := .rv c l) trivial h2 (by simp)
    | reg h1 _ _ => exact h1.elim
    | last L h1 _ _ _ => exact h1.elim
    | sema h1 _ => exact h1.elim
    | fin h1 _ => exact h1.elim
theorem Chans.woke {D : Nat → WD} {tag tag' : Tag} (h : Chans Φ j D tag w) (e : Woke tag tag') : Chans Φ j D tag' w := by
  refine ⟨fun i hi => by rw [rcvd_woke _ _ e]; exact h.at' i hi, fun c l ht => ?_⟩
  rcases e with rfl | ⟨rfl, rfl⟩ | ⟨c', l', rfl, rfl⟩
  · exact h.pk c l ht
  · cases ht
  · cases ht

theorem CSit.rely {tag : Tag} {f d : Nat} {a : Goroutine} (h : CSit Φ tag j f d a w) (hr : RM Φ j w w₁) : CSit Φ tag j f d a w₁ := by
  have tr : ∀ x y z, RM Φ j x y → RM Φ j y z → RM Φ j x z := fun _ _ _ h1 h2 => h1.trans h2
  cases h with
  | skd hn h => exact .skd hn (Goes.rely tr h hr)
  | sa1 hn h => exact .sa1 hn (Goes.rely tr h hr)
  | srd hn h => exact .srd hn (Goes.rely tr h hr)
  | ske hn h => exact .ske hn (Goes.rely tr h hr)
  | sgo hn h => exact .sgo hn (Goes.rely tr h hr)
  | rv hc hl h => exact .rv hc hl (Goes.rely tr h hr)
  | pk hc hl h => exact .pk hc hl fun w₂ h₂ => h w₂ (hr.trans h₂)
  | kd h => exact .kd (Goes.rely tr h hr)
  | anch h => exact .anch (Goes.rely tr h hr)
  | w1 h => exact .w1 (Goes.rely tr h hr)
  | w2 h => exact .w2 (Goes.rely tr h hr)
  | wr h => exact .wr (Goes.rely tr h hr)
  | w3 h => exact .w3 (Goes.rely tr h hr)
  | blk h => exact .blk (fun w₂ h₂ => h w₂ (hr.trans h₂))
  | w4 h => exact .w4 (Goes.rely tr h hr)
  | ke h => exact .ke (Goes.rely tr h hr)
  | acq h => exact .acq (Goes.rely tr h hr)
  | fin h => exact .fin (Goes.rely tr h hr)

theorem CSit.status (O : Φ.Ok) {tag : Tag} {f d : Nat} {a : Goroutine} (h : CSit Φ tag j f d a w) :
    (a.status = .running ∧ tag ≠ .blk ∧ ∀ c l, tag ≠ .pk c l) ∨ (a.status = .blocked ∧ (tag = .blk ∨ ∃ c l, tag = .pk c l)) := by
  cases h with
  | skd _ h => exact .inl ⟨Goes.running (fun _ _ x => x.1) w (RM.refl w) h, by simp, by simp⟩
  | sa1 _ h => exact .inl ⟨Goes.running (fun _ _ x => x.1) w (RM.refl w) h, by simp, by simp⟩
  | srd _ h => exact .inl ⟨Goes.running (fun _ _ x => x.1) w (RM.refl w) h, by simp, by simp⟩
  | ske _ h => exact .inl ⟨Goes.running (fun _ _ x => x.1) w (RM.refl w) h, by simp, by simp⟩
  | sgo _ h => exact .inl ⟨Goes.running (fun _ _ x => x.1) w (RM.refl w) h, by simp, by simp⟩
  | rv _ _ h => exact .inl ⟨Goes.running (fun _ _ x => x.running) w (RM.refl w) h, by simp, by simp⟩
  | pk _ _ h => exact .inr ⟨rfl, .inr ⟨_, _, rfl⟩⟩
  | kd h => exact .inl ⟨Goes.running (fun _ _ x => x.1) w (RM.refl w) h, by simp, by simp⟩
  | anch h => exact .inl ⟨Goes.running (fun _ _ x => (O.anch _ _ x).1) w (RM.refl w) h, by simp, by simp⟩
  | w1 h => exact .inl ⟨Goes.running (fun _ _ x => x.1) w (RM.refl w) h, by simp, by simp⟩
  | w2 h => exact .inl ⟨Goes.running (fun _ _ x => x.1) w (RM.refl w) h, by simp, by simp⟩
  | wr h => exact .inl ⟨Goes.running (fun _ _ x => x.1) w (RM.refl w) h, by simp, by simp⟩
  | w3 h => exact .inl ⟨Goes.running (fun _ _ x => x.1) w (RM.refl w) h, by simp, by simp⟩
  | blk h => exact .inr ⟨rfl, .inl rfl⟩
  | w4 h => exact .inl ⟨Goes.running (fun _ _ x => x.1) w (RM.refl w) h, by simp, by simp⟩
  | ke h => exact .inl ⟨Goes.running (fun _ _ x => x.1) w (RM.refl w) h, by simp, by simp⟩
  | acq h => exact .inl ⟨Goes.running (fun _ _ x => x.1) w (RM.refl w) h, by simp, by simp⟩
  | fin h => exact .inl ⟨Goes.running O.fin w (RM.refl w) h, by simp, by simp⟩

theorem AtRv.again {After : Goroutine → World → Prop} {i l : Nat} {g : Goroutine} {cs : Array CommCase} {sh : CommShape} (h : AtRv Φ After i l g w) : AtRv Φ After i l { parked (core g) cs sh with status := .running } w := by
  have e : stepG Φ.P true { parked (core g) cs sh with status := .running } w = stepG Φ.P true g w := stepG_same rfl rfl rfl w
  cases l with
  | zero =>
    obtain ⟨_, z, es, h1, h2, h3⟩ := h
    exact ⟨rfl, z, es, e.trans h1, h2, h3⟩
  | succ l =>
    obtain ⟨_, z, es, h1, h2, h3⟩ := h
    exact ⟨rfl, z, es, e.trans h1, h2, h3⟩

theorem AtW3.again {g : Goroutine} (h : AtW3 Φ g w) : AtW3 Φ { g with status := .running } w := by
  obtain ⟨h1, h2, h3⟩ := h
  have : ({ g with status := .running } : Goroutine) = g := by obtain ⟨f, c, s, d, o⟩ := g; simp only at h1; subst h1; rfl
  rw [this]
  exact ⟨h1, h2, h3⟩

theorem CSit.wokenBy (O : Φ.Ok) {tag : Tag} {f d : Nat} {a : Goroutine} (h : CSit Φ tag j f d a w) (hr : RM Φ j w w₁) (g g' : Goroutine)
    (hch : ∀ c l, tag = .pk c l → ∃ buf cl s r, w₁.heap[Φ.ch (Φ.n - c)]? = some (.chan Φ.q buf cl s r false)) :
    ∃ tag' f', CSit Φ tag' j f' d (woken Φ.P g g' w₁ a) w₁ ∧ f' ≤ f + 1 ∧ Woke tag tag' ∧
      (mayWake Φ.P g = true → g'.status = .running → tag' ≠ .blk ∧ ∀ c l, tag' = .pk c l → ∃ buf s r, w₁.heap[Φ.ch (Φ.n - c)]? = some (.chan Φ.q buf false s r false)) := by
  have h' := h.rely hr
  rcases h'.status O with ⟨hs, hb, hp⟩ | ⟨hs, hcase⟩
  · exact ⟨tag, f, by rw [woken_up (.inl hs)]; exact h', by omega, .inl rfl, fun _ _ => ⟨hb, fun c l e => absurd e (hp c l)⟩⟩
  · by_cases hw : (mayWake Φ.P g && g'.status != .blocked && g'.status != .waiting) = true
    · have e : woken Φ.P g g' w₁ a = a.again w₁ := by simp [Go.Conc.woken, hw]
      rw [e]
      cases h' with
      | blk hb =>
        rename_i g0
        obtain ⟨h1, h2, _⟩ := hb w₁ (RM.refl w₁)
        have e2 : ({ g0 with status := .blocked } : Goroutine).again w₁ = { g0 with status := .running } := by simp [Goroutine.again, h2]
        rw [e2]
        exact ⟨.w3, 0 + 1, .w3 (Goes.stop fun w₂ h₂ => (hb w₂ h₂).again), by omega, .inr (.inl ⟨rfl, rfl⟩), fun _ _ => ⟨by simp, by simp⟩⟩
      | @pk c l g0 z _ hc hl hb =>
        obtain ⟨buf, cl, s, r, hcell⟩ := hch (c + 1) l rfl
        cases cl with
        | true =>
          rw [again_recv_closed hcell]
          exact ⟨.rv (c + 1) l, 0 + 1, .rv hc hl (Goes.stop fun w₂ h₂ => (hb w₂ h₂).again), by omega, .inr (.inr ⟨_, _, rfl, rfl⟩), fun _ _ => ⟨by simp, by simp⟩⟩
        | false =>
          rw [again_recv_open hcell]
          exact ⟨.pk (c + 1) l, 0, .pk hc hl hb, by omega, .inl rfl, fun _ _ => ⟨by simp, fun c' l' e => by cases e; exact ⟨buf, s, r, hcell⟩⟩⟩
      | _ => exact absurd hcase (by simp)
    · have e : woken Φ.P g g' w₁ a = a := by simp [Go.Conc.woken, hw]
      rw [e]
      exact ⟨tag, f, h', by omega, .inl rfl, fun h1 h2 => absurd (by simp [h1, h2]) hw⟩

theorem CSit.bound {tag : Tag} {f d : Nat} {a : Goroutine} (h : CSit Φ tag j f d a w) : j + pend tag ≤ Φ.n := by
  cases h <;> simp only [pend] <;> (try simp) <;> omega
end

section
variable {ans : Nat → Value} {r s : Nat}
theorem bufOf_size : (bufOf ans r s).size = s - r := by simp [bufOf]
theorem bufOf_nil (h : s ≤ r) : bufOf ans r s = #[] := by simp [bufOf, show s - r = 0 by omega]
theorem bufOf_push (h : r ≤ s) : (bufOf ans r s).push (ans s) = bufOf ans r (s + 1) := by
  simp only [bufOf, show s + 1 - r = (s - r) + 1 by omega, List.range'_concat, List.map_append, List.push_toArray]
  simp [show r + (s - r) = s by omega]
theorem bufOf_get (h : r < s) : (bufOf ans r s).getD 0 undef = ans r := by
  have e : s - r = (s - r - 1) + 1 := by omega
  simp only [bufOf]
  rw [e]
  simp [List.range'_succ]
theorem bufOf_tail (h : r < s) : (bufOf ans r s).extract 1 (bufOf ans r s).size = bufOf ans (r + 1) s := by
  have e : s - r = (s - (r + 1)) + 1 := by omega
  simp only [bufOf]
  rw [e]
  simp [List.range'_succ, List.take_of_length_le]
end

theorem Vc_upd {j i : Nat} (D : Nat → WD) (x : WD) (hi : i < j) : Vc j (upd D i x) + cntD (D i) = Vc j D + cntD x := sumTo_upd D x cntD hi
theorem Vc_le (j : Nat) (D : Nat → WD) : Vc j D ≤ j := by
  have := sumTo_le (f := fun i => cntD (D i)) (c := 1) (j := j) fun i _ => by simp only [cntD]; split <;> omega
  simpa [Vc] using this
theorem others_uncounted {j i : Nat} {D : Nat → WD} (hi : i < j) (h1 : Vc j D = 1) (hc : cntD (D i) = 1) : ∀ a, a < j → a ≠ i → cntD (D a) = 0 := by
  intro a ha e
  have h0 := Vc_upd D (⟨0, 0, 0⟩ : WD) hi
  have c0 : cntD (⟨0, 0, 0⟩ : WD) = 0 := rfl
  have := le_sumTo (f := fun x => cntD (upd D i ⟨0, 0, 0⟩ x)) ha
  simp only [upd_ne D _ e] at this
  simp only [Vc] at h0 h1
  omega
theorem exists_counted {D : Nat → WD} : ∀ {j : Nat}, 1 ≤ Vc j D → ∃ i, i < j ∧ 5 ≤ (D i).stage
  | 0, h => by simp [Vc, sumTo] at h
  | j + 1, h => by
    by_cases hc : 5 ≤ (D j).stage
    · exact ⟨j, by omega, hc⟩
    · have : 1 ≤ Vc j D := by simp only [Vc, sumTo, cntD, if_neg hc] at h ⊢; simpa using h
      obtain ⟨i, hi, h5⟩ := exists_counted this
      exact ⟨i, by omega, h5⟩
theorem phi_mono (n q : Nat) {v v' : Nat} (h : v' ≤ v) (tag : Tag) : phi n q v' tag ≤ phi n q v tag := by
  cases tag <;> simp only [phi] <;> omega

section
variable {j i : Nat} {D : Nat → WD} {tag : Tag} {st sm : Int}
theorem Mode.congr {D' : Nat → WD} (h : ∀ a, a < j → (D' a).stage = (D a).stage) (hm : Mode j D tag st sm) : Mode j D' tag st sm := by
  have hv : Vc j D' = Vc j D := sumTo_congr fun a ha => by simp only [cntD, h a ha]
  cases hm with
  | opn h1 h2 h3 => rw [← hv]; exact .opn h1 (fun a ha => by rw [h a ha]; exact h2 a ha) (fun vs e => by rw [hv]; exact h3 vs e)
  | reg h1 h2 h3 => rw [← hv]; exact .reg h1 (fun a ha => by rw [h a ha]; exact h2 a ha) (by rw [hv]; exact h3)
  | last L h1 h2 h3 h4 => rw [← h L h2]; exact .last L h1 h2 (by rw [h L h2]; exact h3) (fun a ha e => by rw [h a ha]; exact h4 a ha e)
  | sema h1 h2 => exact .sema h1 fun a ha => by rw [h a ha]; exact h2 a ha
  | fin h1 h2 => exact .fin h1 fun a ha => by rw [h a ha]; exact h2 a ha
theorem Mode.same (hm : Mode j D tag st sm) (m' dd' : Nat) : Mode j (upd D i ⟨(D i).stage, m', dd'⟩) tag st sm :=
  hm.congr fun a _ => by
    by_cases e : a = i
    · subst e; rw [upd_same]
    · rw [upd_ne D _ e]
theorem Mode.counted (hm : Mode j D tag st sm) (hi : i < j) (h5 : 5 ≤ (D i).stage) {s' : Nat} (hs : 5 ≤ s') (m' dd' : Nat) : Mode j (upd D i ⟨s', m', dd'⟩) tag st sm := by
  have hv : Vc j (upd D i ⟨s', m', dd'⟩) = Vc j D := by
    have := Vc_upd D (⟨s', m', dd'⟩ : WD) hi
    have c1 : cntD (D i) = 1 := by simp [cntD, h5]
    have c2 : cntD (⟨s', m', dd'⟩ : WD) = 1 := by simp [cntD, hs]
    omega
  have ho : OpenSt j D → OpenSt j (upd D i ⟨s', m', dd'⟩) := fun h a ha => by
    by_cases e : a = i
    · subst e; rw [upd_same]; exact .inl hs
    · rw [upd_ne D _ e]; exact h a ha
  cases hm with
  | opn h1 h2 h3 => rw [← hv]; exact .opn h1 (ho h2) (fun vs e => by rw [hv]; exact h3 vs e)
  | reg h1 h2 h3 => rw [← hv]; exact .reg h1 (ho h2) (by rw [hv]; exact h3)
  | last L h1 h2 h3 h4 =>
    by_cases e : i = L
    · subst e; omega
    · have := h4 i hi e; omega
  | sema _ h2 => have := h2 i hi; omega
  | fin h1 h2 => have := h2 i hi; omega
theorem Mode.not_fin (hm : Mode j D tag st sm) (hi : i < j) (h : (D i).stage ≠ 1) : tag ≠ .fin := by
  rintro rfl
  cases hm with
  | opn h1 _ _ => exact h1
  | reg h1 _ _ => exact h1
  | last L h1 _ _ _ => exact h1
  | sema h1 _ => exact h1
  | fin _ h2 => exact h (h2 i hi)
theorem Mode.isLast (hm : Mode j D tag st sm) (hi : i < j) (h : (D i).stage = 4 ∨ (D i).stage = 3 ∨ (D i).stage = 2) :
    isW3 tag ∧ (∀ a, a < j → a ≠ i → (D a).stage = 1) ∧ st = (if (D i).stage = 2 then 0 else 1) ∧ sm = 0 := by
  cases hm with
  | opn _ h2 _ => have := h2 i hi; omega
  | reg _ h2 _ => have := h2 i hi; omega
  | last L h1 h2 h3 h4 =>
    by_cases e : i = L
    · subst e; exact ⟨h1, h4, rfl, rfl⟩
    · have := h4 i hi e; omega
  | sema _ h2 => have := h2 i hi; omega
  | fin _ h2 => have := h2 i hi; omega
theorem Mode.open_inv (hm : Mode j D tag st sm) (h : isOpen tag) : OpenSt j D ∧ st = ((Vc j D + pend tag : Nat) : Int) * KK ∧ sm = 0 ∧ ∀ vs, tag = .w2 vs → Vc j D ≤ vs ∧ 1 ≤ vs := by
  cases hm with
  | opn h1 h2 h3 => exact ⟨h2, rfl, rfl, h3⟩
  | reg h1 _ _ => cases tag <;> first | exact h1.elim | exact h.elim
  | last L h1 _ _ _ => cases tag <;> first | exact h1.elim | exact h.elim
  | sema h1 _ => cases tag <;> first | exact h1.elim | exact h.elim
  | fin h1 _ => cases tag <;> first | exact h1.elim | exact h.elim
theorem Mode.fin_inv (hm : Mode j D tag st sm) (h : isFin tag) : AllQuit j D ∧ st = 0 ∧ sm = 0 := by
  cases hm with
  | fin _ h2 => exact ⟨h2, rfl, rfl⟩
  | opn h1 _ _ => cases tag <;> first | exact h1.elim | exact h.elim
  | reg h1 _ _ => cases tag <;> first | exact h1.elim | exact h.elim
  | last L h1 _ _ _ => cases tag <;> first | exact h1.elim | exact h.elim
  | sema h1 _ => cases tag <;> first | exact h1.elim | exact h.elim
theorem allQuit_of (ho : OpenSt j D) (hv : Vc j D = 0) : AllQuit j D := fun i hi => by
  rcases ho i hi with h | h
  · exfalso
    have := le_sumTo (f := fun x => cntD (D x)) hi
    simp only [Vc] at hv
    have c1 : cntD (D i) = 1 := by simp [cntD, h]
    omega
  · exact h
end
end

section
open Go.Conc
open Go.ConcN (WgLive sumTo upd sumTo_upd upd_ne upd_same Deaf_still sumTo_congr le_sumTo sumTo_le)
open Go.ConcR (KK WgAt stA smA rd wr mk DC0)

theorem get_map_set {gs : Array Goroutine} (f : Goroutine → Goroutine) (a : Nat) (x : Goroutine) (b : Nat) (hb : a ≠ b) : ((gs.map f).setIfInBounds a x)[b]? = (gs[b]?).map f := by
  rw [Array.getElem?_setIfInBounds_ne hb, Array.getElem?_map]
theorem get_map_set_same {gs : Array Goroutine} (f : Goroutine → Goroutine) (a : Nat) (x : Goroutine) (ha : a < gs.size) : ((gs.map f).setIfInBounds a x)[a]? = some x := by
  simp [ha]

section
variable {H : Nat → Prop} {Wg B0 : Nat} {Rd : Nat → Nat → Prop} {m0 j : Nat}
theorem PT.mutes : ∀ (l : List MemOp) {t : Trace}, PT H Wg B0 Rd m0 j t → (∀ op ∈ l, op.act.touch? = none) → (∀ op ∈ l, op.act ≠ .mark (.release (stA Wg))) → PT H Wg B0 Rd m0 j (t ++ l.toArray)
  | [], t, h, _, _ => by simpa using h
  | x :: l, t, h, h1, h2 => by
    have e : t ++ (x :: l).toArray = (t ++ #[x]) ++ l.toArray := by apply Array.ext'; simp
    rw [e]
    exact PT.mutes l (h.appMute (g := x.g) (fun op hop => by simp at hop; rw [hop]) (fun op hop => by simp at hop; rw [hop]; exact h1 x (by simp)) (fun op hop => by simp at hop; rw [hop]; exact h2 x (by simp)))
      (fun op hop => h1 op (by simp [hop])) (fun op hop => h2 op (by simp [hop]))
theorem RelK.mutes {t u : Trace} {k r : Nat} (h : RelK Wg t k r) (hu : ∀ op ∈ u, op.act.touch? = none) : RelK Wg (t ++ u) k r :=
  h.app fun i op hi ho _ => by
    rcases getElem?_append_cases ho with ⟨hlt, _⟩ | ⟨_, hou⟩
    · omega
    · have hn := hu op hou
      exact ⟨fun ⟨x, hx, _⟩ => (by rw [act?_of ho, Option.bind_some, hn] at hx; cases hx), fun a ha => (by rw [hn] at ha; cases ha)⟩
end

theorem mute_norel {e : Event} (h : e.mute = true) (a : Addr) : MemAct.ofEvent e ≠ .mark (.release a) := by
  obtain ⟨loc, wr, sy⟩ := e
  cases loc <;> simp_all [Event.mute]
  rename_i m
  cases m <;> simp_all [MemAct.ofEvent]

theorem low_app {t u : Trace} {B B' : Nat} (h : ∀ op ∈ t, op.act.low B) (hB : B ≤ B') (hu : ∀ op ∈ u, op.act.low B') : ∀ op ∈ t ++ u, op.act.low B' :=
  seen_app (fun op hop => MemAct.low_mono hB (h op hop)) hu

section
variable {Φ : Ph} {gs gs' : Array Goroutine} {w w' : World} {sl : Option (Nat × Nat)} {j : Nat} {D D' : Nat → WD} {tag tag' : Tag} {f0 d0 d0' : Nat} {qs : Nat → Nat} {a : Goroutine} {t t' : Trace}

theorem Com.step (h : Com Φ j gs w t D d0 qs) (hsz : gs'.size = gs.size)
    (hwk : ∀ i, i < j → ∃ g, gs'[Φ.m0 + i]? = some g ∧ WSit Φ i (D' i).stage (D' i).fuel (D' i).deaf g w')
    (hold : ∀ x y, 0 < x → x < Φ.m0 → gs[x]? = some y → (y.status = .running ∨ y.status = .finished) → gs'[x]? = some y)
    (hdf : ∀ x, 0 < x → (x < Φ.m0 ∨ Φ.m0 + j ≤ x) → Deaf t' x = Deaf t x) (hpt : PT Φ.H Φ.Wg Φ.B0 Φ.Rd Φ.m0 j t') (hd0 : Deaf t' 0 = d0')
    (hdw : ∀ i, i < j → Deaf t' (Φ.m0 + i) = (D' i).deaf) (hrel : ∀ i, i < j → (D' i).stage ≤ 6 → ∃ r, RelK Φ.Wg t' (Φ.m0 + i) r)
    (hlow : ∀ op ∈ t', op.act.low w'.heap.size) (hsize : w.heap.size ≤ w'.heap.size) (hos : w'.os = w.os) (hout : w'.output = w.output)
    (hw0 : ∀ b, b < Φ.B0 → w'.heap[b]? = w.heap[b]?) (hpl : PlainW Φ.B0 w') (hm0 : 0 < Φ.m0) : Com Φ j gs' w' t' D' d0' qs where
  size := hsz.trans h.size
  wk := hwk
  old := fun i h0 h1 => by
    obtain ⟨y, hy, hq⟩ := h.old i h0 h1
    exact ⟨y, hold i y h0 h1 hy hq.status, by rw [hdf i h0 (.inl h1)]; exact hq⟩
  above := fun i hi => by rw [hdf i (by omega) (.inr hi)]; exact h.above i hi
  pt := hpt
  deaf0 := hd0
  deafW := hdw
  rel := hrel
  low := hlow
  rdl := fun i hi => Nat.le_trans (h.rdl i hi) hsize
  os := hos.trans h.os
  output := hout.trans h.output
  oldw := fun b hb => (hw0 b hb).trans (h.oldw b hb)
  bsz := Nat.le_trans h.bsz hsize
  plain := hpl

theorem RM.old (O : Φ.Ok) (h : RM Φ j w w') : ∀ b, b < Φ.B0 → w'.heap[b]? = w.heap[b]? := fun b hb =>
  h.fix b (by have := O.lies.wgB; omega) fun i hi => by have := O.chB i; omega

def meas (Φ : Ph) (j : Nat) (D : Nat → WD) (tag : Tag) (f0 : Nat) (qs : Nat → Nat) : Nat × Nat := (phi Φ.n Φ.q (Vc j D) tag + Ssum j D, f0 + 2 * Fsum j D + 2 * sumTo Φ.m0 qs)
def Step1 (Φ : Ph) (m : Machine) (t : Trace) (i : Nat) (μ : Nat × Nat) : Prop := ∃ m₁ ops μ', runT Φ.P m i = (.next m₁, ops) ∧ Lt2 μ' μ ∧ Inv Φ μ' m₁ (t ++ ops)

theorem lt_of_worker {i : Nat} (hi : i < j) {x : WD} {f' : Nat} (hwk : Woke tag tag') (hf : f' ≤ f0 + 1) (hlt : (x.stage < (D i).stage ∧ cntD x ≤ cntD (D i)) ∨ (x.stage = (D i).stage ∧ x.fuel + 1 = (D i).fuel)) :
    Lt2 (meas Φ j (upd D i x) tag' f' qs) (meas Φ j D tag f0 qs) := by
  have e1 := sumTo_upd D x cntD hi
  have e2 := sumTo_upd D x WD.stage hi
  have e3 := sumTo_upd D x WD.fuel hi
  unfold meas
  rw [phi_woke _ _ _ hwk]
  simp only [Vc, Ssum, Fsum] at *
  rcases hlt with ⟨h1, h2⟩ | ⟨h1, h2⟩
  · refine Prod.Lex.left _ _ ?_
    have := phi_mono Φ.n Φ.q (v' := sumTo j fun a => cntD (upd D i x a)) (v := sumTo j fun a => cntD (D a)) (by omega) tag
    omega
  · have ec : cntD x = cntD (D i) := by simp only [cntD, h1]
    have ev : (sumTo j fun a => cntD (upd D i x a)) = sumTo j fun a => cntD (D a) := by omega
    have es' : (sumTo j fun a => (upd D i x a).stage) = sumTo j fun a => (D a).stage := by omega
    rw [ev, es']
    refine Prod.Lex.right _ ?_
    omega

theorem workerStep (O : Φ.Ok) (ha : gs[0]? = some a) (hcs : CSit Φ tag j f0 d0 a w) (hcom : Com Φ j gs w t D d0 qs)
    {i : Nat} (hi : i < j) {g g' : Goroutine} {es : Array Event} {s' m' dd' : Nat} {st' sm' : Int} (hg : gs[Φ.m0 + i]? = some g) (hgo : stepG Φ.P false g w = .go g' w' es)
    (hM : RM Φ j w w') (hs' : WSit Φ i s' m' dd' g' w')
    (hok : ∀ e ∈ es, OkW Φ.Wg Φ.B0 (Φ.Rd i) (.ofEvent e)) (hlow : ∀ e ∈ es, (MemAct.ofEvent e).low w.heap.size) (hdeaf : deafBehind (D i).deaf es = dd')
    (hrel : s' ≤ 6 → ∃ r, RelK Φ.Wg (t ++ MemOp.ofEvents (Φ.m0 + i) g.frame.fn g.frame.place es) (Φ.m0 + i) r) (hwg : WgAt Φ.ty Φ.Wg w' st' sm')
    (hmode : ∀ tag', Woke tag tag' → (mayWake Φ.P g = true → g'.status = .running → tag' ≠ .blk) → Mode j (upd D i ⟨s', m', dd'⟩) tag' st' sm')
    (hch : ∀ tag', Woke tag tag' → (mayWake Φ.P g = true → g'.status = .running → ∀ c l, tag' = .pk c l → ∃ buf s r, w'.heap[Φ.ch (Φ.n - c)]? = some (.chan Φ.q buf false s r false)) → Chans Φ j (upd D i ⟨s', m', dd'⟩) tag' w')
    (hpk : ∀ c l, tag = .pk c l → ∃ buf cl s r, w'.heap[Φ.ch (Φ.n - c)]? = some (.chan Φ.q buf cl s r false))
    (hacq : tag = .fin → AcqK Φ.Wg Φ.m0 j (t ++ MemOp.ofEvents (Φ.m0 + i) g.frame.fn g.frame.place es))
    (hlt : (s' < (D i).stage ∧ cntD ⟨s', m', dd'⟩ ≤ cntD (D i)) ∨ (s' = (D i).stage ∧ m' + 1 = (D i).fuel)) :
    Step1 Φ (crowd gs w sl) t (Φ.m0 + i) (meas Φ j D tag f0 qs) := by
  have hm0 := O.m0
  obtain ⟨tag', f', hcs', hf', htag, hwk⟩ := hcs.wokenBy O hM g g' hpk
  have hrun := runT_crowd_go (P := Φ.P) (sl := sl) (i := Φ.m0 + i) hg (by rw [show (Φ.m0 + i == 0) = false by simp; omega]; exact hgo)
  have hgops : ∀ op ∈ MemOp.ofEvents (Φ.m0 + i) g.frame.fn g.frame.place es, op.g = Φ.m0 + i := fun op hop => by obtain ⟨e, _, rfl⟩ := Go.Conc.mem_ofEvents hop; rfl
  refine ⟨_, _, meas Φ j (upd D i ⟨s', m', dd'⟩) tag' f' qs, hrun, lt_of_worker hi htag hf' hlt,
    _, w', sl, j, upd D i ⟨s', m', dd'⟩, tag', f', d0, qs, woken Φ.P g g' w' a, st', sm', rfl, by rw [get_map_set _ _ _ _ (by omega), ha]; rfl, hcs', ?_, hwg,
    hmode tag' htag (fun h1 h2 => (hwk h1 h2).1), hch tag' htag (fun h1 h2 => (hwk h1 h2).2), ?_, rfl⟩
  · refine hcom.step (by simp) (fun i' hi' => ?_) (fun x y h0 h1 hy hs => by rw [get_map_set _ _ _ _ (by omega), hy, Option.map_some, woken_up hs]) (fun x h0 hx => Deaf_other t (by omega) _ hgops)
      (hcom.pt.appW O.lies hi hgops fun op hop => by obtain ⟨e, he, rfl⟩ := Go.Conc.mem_ofEvents hop; exact hok e he) (by rw [Deaf_other t (by omega) _ hgops, hcom.deaf0]) (fun i' hi' => ?_) (fun i' hi' hst => ?_)
      (low_app hcom.low (by rw [hM.size]; exact Nat.le_refl _) fun op hop => by obtain ⟨e, he, rfl⟩ := Go.Conc.mem_ofEvents hop; rw [hM.size]; exact hlow e he)
      (by rw [hM.size]; exact Nat.le_refl _) hM.os hM.output (hM.old O) (hM.plain hcom.plain) hm0
    · by_cases e : i' = i
      · subst e
        exact ⟨g', get_map_set_same _ _ _ (by rw [hcom.size]; omega), by rw [upd_same]; exact hs'⟩
      · obtain ⟨x, hx, hsx⟩ := hcom.wk i' hi'
        refine ⟨x, by rw [get_map_set _ _ _ _ (by omega), hx, Option.map_some, woken_up hsx.up], ?_⟩
        rw [upd_ne D _ e]
        exact hsx.rely (hM.rw O)
    · by_cases e : i' = i
      · subst e; rw [Deaf_own, hcom.deafW i' hi', upd_same]; exact hdeaf
      · rw [Deaf_other t (by omega) _ hgops, hcom.deafW i' hi', upd_ne D _ e]
    · by_cases e : i' = i
      · subst e; rw [upd_same] at hst; exact hrel hst
      · rw [upd_ne D _ e] at hst
        obtain ⟨r, hr⟩ := hcom.rel i' hi' hst
        exact ⟨r, hr.other fun op hop => by rw [hgops op hop]; omega⟩
  · intro e
    rcases htag with rfl | ⟨_, rfl⟩ | ⟨_, _, _, rfl⟩
    · exact hacq e
    · cases e
    · cases e

theorem leaverStep (O : Φ.Ok) (ha : gs[0]? = some a) (hcs : CSit Φ tag j f0 d0 a w) (hcom : Com Φ j gs w t D d0 qs) {st sm : Int} (hwg : WgAt Φ.ty Φ.Wg w st sm) (hmode : Mode j D tag st sm) (hch : Chans Φ j D tag w)
    (hacq : tag = .fin → AcqK Φ.Wg Φ.m0 j t) (hpk : ∀ c l, tag = .pk c l → ∃ buf cl s r, w.heap[Φ.ch (Φ.n - c)]? = some (.chan Φ.q buf cl s r false))
    {x : Nat} (h0 : 0 < x) (h1 : x < Φ.m0) {g : Goroutine} (hg : gs[x]? = some g) (hrun : g.status = .running) : Step1 Φ (crowd gs w sl) t x (meas Φ j D tag f0 qs) := by
  have hm0 := O.m0
  obtain ⟨g₁, hg₁, hq⟩ := hcom.old x h0 h1
  obtain rfl : g = g₁ := by rw [hg] at hg₁; exact Option.some.inj hg₁
  cases hqx : qs x with
  | zero => rw [hqx] at hq; rw [hq.1] at hrun; cases hrun
  | succ k =>
    rw [hqx] at hq
    rcases hq with ⟨hf, _⟩ | ⟨_, g', es, hmu, hstp, hq'⟩
    · rw [hf] at hrun; cases hrun
    obtain ⟨tag', f', hcs', hf', htag, hwk⟩ := hcs.wokenBy O (RM.refl w) g g' hpk
    have hrunT := runT_crowd_go (P := Φ.P) (sl := sl) (i := x) hg (by rw [show (x == 0) = false by simp; omega]; exact hstp w)
    have hgops : ∀ op ∈ MemOp.ofEvents x g.frame.fn g.frame.place es, op.g = x := fun op hop => by obtain ⟨e, _, rfl⟩ := Go.Conc.mem_ofEvents hop; rfl
    have hnt : ∀ op ∈ MemOp.ofEvents x g.frame.fn g.frame.place es, op.act.touch? = none := fun op hop => by obtain ⟨e, he, rfl⟩ := Go.Conc.mem_ofEvents hop; exact touch_mute (hmu e he)
    have hnr : ∀ op ∈ MemOp.ofEvents x g.frame.fn g.frame.place es, op.act ≠ .mark (.release (stA Φ.Wg)) := fun op hop => by
      obtain ⟨e, he, rfl⟩ := Go.Conc.mem_ofEvents hop
      exact mute_norel (hmu e he) _
    have hsum : sumTo Φ.m0 (upd qs x k) + (k + 1) = sumTo Φ.m0 qs + k := by
      have := sumTo_upd qs k id h1
      simpa [hqx] using this
    refine ⟨_, _, meas Φ j D tag' f' (upd qs x k), hrunT, ?_, _, w, sl, j, D, tag', f', d0, upd qs x k, woken Φ.P g g' w a, st, sm, rfl, by rw [get_map_set _ _ _ _ (by omega), ha]; rfl, hcs', ?_, hwg, hmode.woke htag, hch.woke htag, ?_, rfl⟩
    · unfold meas
      rw [phi_woke _ _ _ htag]
      exact Prod.Lex.right _ (by omega)
    · have hc : Com Φ j ((gs.map (woken Φ.P g g' w)).setIfInBounds x g') w (t ++ MemOp.ofEvents x g.frame.fn g.frame.place es) D d0 (upd qs x k) := {
        size := by simp [hcom.size]
        wk := fun i hi => by
          obtain ⟨y, hy, hsy⟩ := hcom.wk i hi
          exact ⟨y, by rw [get_map_set _ _ _ _ (by omega), hy, Option.map_some, woken_up hsy.up], hsy⟩
        old := fun i i0 i1 => by
          by_cases e : i = x
          · subst e
            exact ⟨g', get_map_set_same _ _ _ (by rw [hcom.size]; omega), by rw [upd_same, Deaf_own]; exact hq'⟩
          · obtain ⟨y, hy, hqy⟩ := hcom.old i i0 i1
            exact ⟨y, by rw [get_map_set _ _ _ _ (Ne.symm e), hy, Option.map_some, woken_up hqy.status], by rw [upd_ne qs _ e, Deaf_other t (Ne.symm e) _ hgops]; exact hqy⟩
        above := fun i hi => by rw [Deaf_other t (by omega) _ hgops]; exact hcom.above i hi
        pt := hcom.pt.appMute hgops hnt hnr
        deaf0 := by rw [Deaf_other t (by omega) _ hgops]; exact hcom.deaf0
        deafW := fun i hi => by rw [Deaf_other t (by omega) _ hgops]; exact hcom.deafW i hi
        rel := fun i hi hs => let ⟨r, hr⟩ := hcom.rel i hi hs; ⟨r, hr.other fun op hop => by rw [hgops op hop]; omega⟩
        low := low_app hcom.low (Nat.le_refl _) fun op hop => by obtain ⟨e, he, rfl⟩ := Go.Conc.mem_ofEvents hop; exact low_mute (hmu e he) _
        rdl := hcom.rdl
        os := hcom.os
        output := hcom.output
        oldw := hcom.oldw
        bsz := hcom.bsz
        plain := hcom.plain }
      exact hc
    · intro e
      have hin : tag = .fin → AcqK Φ.Wg Φ.m0 j (t ++ MemOp.ofEvents x g.frame.fn g.frame.place es) := fun e => (hacq e).app fun i r _ hr => hr.other fun op hop => by rw [hgops op hop]; omega
      rcases htag with rfl | ⟨_, rfl⟩ | ⟨_, _, _, rfl⟩
      · exact hin e
      · cases e
      · cases e

theorem callerStep (O : Φ.Ok) (ha : gs[0]? = some a) (hcom : Com Φ j gs w t D d0 qs)
    {a' : Goroutine} {es : Array Event} {f' : Nat} {st' sm' : Int} (hgo : stepG Φ.P true a w = .go a' w' es)
    (hrw : ∀ i, i < j → RW Φ i w w') (hsize : w.heap.size ≤ w'.heap.size) (hos : w'.os = w.os) (hout : w'.output = w.output) (hw0 : ∀ b, b < Φ.B0 → w'.heap[b]? = w.heap[b]?) (hpl : PlainW Φ.B0 w')
    (hok : ∀ e ∈ es, Ok0 Φ.H Φ.Wg Φ.Rd j (.ofEvent e)) (hlow : ∀ e ∈ es, (MemAct.ofEvent e).low w'.heap.size)
    (hcs' : CSit Φ tag' j f' (deafBehind d0 es) a' w') (hwg : WgAt Φ.ty Φ.Wg w' st' sm') (hmode : Mode j D tag' st' sm') (hch : Chans Φ j D tag' w')
    (hacq : tag' = .fin → AcqK Φ.Wg Φ.m0 j (t ++ MemOp.ofEvents 0 a.frame.fn a.frame.place es))
    (hlt : phi Φ.n Φ.q (Vc j D) tag' < phi Φ.n Φ.q (Vc j D) tag ∨ (phi Φ.n Φ.q (Vc j D) tag' = phi Φ.n Φ.q (Vc j D) tag ∧ f' < f0)) :
    Step1 Φ (crowd gs w sl) t 0 (meas Φ j D tag f0 qs) := by
  have hm0 := O.m0
  have hrun := runT_crowd_go (P := Φ.P) (sl := sl) (i := 0) ha (by simpa using hgo)
  have hgops : ∀ op ∈ MemOp.ofEvents 0 a.frame.fn a.frame.place es, op.g = 0 := fun op hop => by obtain ⟨e, _, rfl⟩ := Go.Conc.mem_ofEvents hop; rfl
  refine ⟨_, _, meas Φ j D tag' f' qs, hrun, ?_, _, w', sl, j, D, tag', f', deafBehind d0 es, qs, a', st', sm', rfl, get_map_set_same _ _ _ (by rw [hcom.size]; omega), hcs', ?_, hwg, hmode, hch, hacq, rfl⟩
  · unfold meas
    rcases hlt with h | ⟨h1, h2⟩
    · exact Prod.Lex.left _ _ (by omega)
    · rw [h1]; exact Prod.Lex.right _ (by omega)
  · refine hcom.step (by simp) (fun i hi => ?_) (fun x y h0 h1 hy hs => by rw [get_map_set _ _ _ _ (by omega), hy, Option.map_some, woken_up hs]) (fun x h0 hx => Deaf_other t (by omega) _ hgops)
      (hcom.pt.app0 O.lies hgops fun op hop => by obtain ⟨e, he, rfl⟩ := Go.Conc.mem_ofEvents hop; exact hok e he) (by rw [Deaf_own, hcom.deaf0]) (fun i hi => by rw [Deaf_other t (by omega) _ hgops, hcom.deafW i hi]) (fun i hi hst => ?_)
      (low_app hcom.low hsize fun op hop => by obtain ⟨e, he, rfl⟩ := Go.Conc.mem_ofEvents hop; exact hlow e he) hsize hos hout hw0 hpl hm0
    · obtain ⟨x, hx, hsx⟩ := hcom.wk i hi
      exact ⟨x, by rw [get_map_set _ _ _ _ (by omega), hx, Option.map_some, woken_up hsx.up], hsx.rely (hrw i hi)⟩
    · obtain ⟨r, hr⟩ := hcom.rel i hi hst
      exact ⟨r, hr.other fun op hop => by rw [hgops op hop]; omega⟩
end
end

section
open Go.Conc
open Go.ConcN (WgLive sumTo upd sumTo_upd upd_ne upd_same Deaf_still sumTo_congr le_sumTo sumTo_le bk_cell)
open Go.ConcR (KK WgAt stA smA rd wr mk DC0 Bk bk_of_mute ofEvent_loc_mark ofEvent_mk)

def CommAct (B : Nat) : MemAct → Prop
  | .send c _ | .sendDone c _ | .recv c _ _ | .recvDone c _ | .recvClosed c => c < B
  | _ => False
theorem CommAct.still {B : Nat} {x : MemAct} (h : CommAct B x) : x.touch? = none ∧ (∀ a, x ≠ .mark (.release a)) ∧ x ≠ .mark .disable ∧ x ≠ .mark .enable ∧ x.low B := by
  cases x <;> simp only [CommAct] at h <;> first | exact h.elim | exact ⟨rfl, by simp, by simp, by simp, h⟩

section
variable {Φ : Ph} {gs gs' : Array Goroutine} {w w' : World} {sl : Option (Nat × Nat)} {j : Nat} {D D' : Nat → WD} {tag tag' : Tag} {f0 d0 d0' : Nat} {qs : Nat → Nat} {a : Goroutine} {t t' : Trace}

theorem okW_evW (O : Φ.Ok) {i B : Nat} {e : Event} (hB : Φ.lw i ≤ B) (h : EvW Φ i e) : OkW Φ.Wg Φ.B0 (Φ.Rd i) (.ofEvent e) ∧ (MemAct.ofEvent e).low B ∧ e.loc ≠ .mark .disable ∧ e.loc ≠ .mark .enable := by
  obtain ⟨a, rfl, hr⟩ := h
  refine ⟨⟨by simp [MemAct.ofEvent], fun x hx => ?_⟩, Nat.lt_of_lt_of_le (O.rdLow i _ hr) hB, by simp, by simp⟩
  simp only [MemAct.ofEvent, MemAct.touch?, Option.some.injEq] at hx
  subst hx
  exact .inr ⟨rfl, rfl, a, rfl, hr⟩

theorem okW_bk {Rd : Nat → Prop} {Wg B0 B : Nat} {e : Event} (hB : Wg < B) (h : Bk Wg e) : OkW Wg B0 Rd (.ofEvent e) ∧ (MemAct.ofEvent e).low B := by
  rcases h with h | h | ⟨a, wr, rfl, ha⟩
  · rw [ofEvent_loc_mark h]; exact ⟨⟨by simp, fun x hx => by cases hx⟩, trivial⟩
  · rw [ofEvent_loc_mark h]; exact ⟨⟨by simp, fun x hx => by cases hx⟩, trivial⟩
  · have hk : ∀ x, (MemAct.ofEvent ⟨.cell a, wr, true⟩).touch? = some x → x.loc = .cell a ∧ x.kind = .atomic := by
      intro x hx
      cases wr <;> simp [MemAct.ofEvent, MemAct.touch?] at hx <;> subst hx <;> exact ⟨rfl, rfl⟩
    refine ⟨⟨by cases wr <;> simp [MemAct.ofEvent], fun x hx => .inl ⟨.inl ⟨a, (hk x hx).1, ha⟩, (hk x hx).2⟩⟩, ?_⟩
    cases wr <;> (show a.block < B; omega)

theorem RelK.book {Wg : Nat} {k r d : Nat} (h : RelK Wg t k r) (hdk : Deaf t k = d) (fn : FuncId) (pos : String) {es : Array Event} (hes : ∀ e ∈ es, Bk Wg e)
    (hd : ∀ j e, es[j]? = some e → (MemAct.ofEvent e).touch? = none ∨ 0 < deafBehind d (es.extract 0 j)) : RelK Wg (t ++ MemOp.ofEvents k fn pos es) k r := by
  refine h.own fn pos es (fun j x hx => ?_)
  rcases hd j x hx with h0 | h0
  · exact .inl h0
  · rcases hes x (Array.mem_of_getElem? hx) with h1 | h1 | ⟨a, wr, rfl, hb⟩
    · exact .inl (by rw [ofEvent_loc_mark h1]; rfl)
    · exact .inl (by rw [ofEvent_loc_mark h1]; rfl)
    · exact .inr ⟨⟨a, wr, rfl, hb⟩, by rw [hdk]; exact h0⟩

theorem CSit.pk_inv {c l f d : Nat} (h : CSit Φ (.pk c l) j f d a w) : j = Φ.n ∧ 0 < c ∧ c ≤ Φ.n := by
  cases h with
  | pk hc _ _ => exact ⟨rfl, by omega, by omega⟩

theorem CSit.pk_deaf {c l f d : Nat} (h : CSit Φ (.pk c l) j f d a w) : d = 0 := by
  cases h with
  | pk hc _ _ => rfl

theorem Chans.keepW (h : Chans Φ j D tag w) {i : Nat} (x : WD) (hb : ∀ i', i' < j → w'.heap[Φ.ch i']? = w.heap[Φ.ch i']?) (hs : sent Φ.q x = sent Φ.q (D i)) (hc : decide (x.stage ≤ 7) = decide ((D i).stage ≤ 7)) (h8 : 8 ≤ (D i).stage → 8 ≤ x.stage) :
    Chans Φ j (upd D i x) tag w' := by
  refine ⟨fun i' hi' => ?_, fun c l ht => ?_⟩
  · obtain ⟨h1, h2⟩ := h.at' i' hi'
    by_cases e : i' = i
    · subst e; rw [upd_same, hb i' hi', hs, hc]; exact ⟨h1, h2⟩
    · rw [upd_ne D _ e, hb i' hi']; exact ⟨h1, h2⟩
  · obtain ⟨h1, h2⟩ := h.pk c l ht
    by_cases e : Φ.n - c = i
    · subst e; rw [upd_same]; exact ⟨h8 h1, hs.trans h2⟩
    · rw [upd_ne D _ e]; exact ⟨h1, h2⟩

theorem CSit.offers (O : Φ.Ok) {f d : Nat} (h : CSit Φ tag j f d a w) (r : Nat) : offersAt a r true = [] ∧
    (offersAt a r false = [] ∨ ∃ c l g0 z, tag = .pk (c + 1) l ∧ r = Φ.ch (Φ.n - (c + 1)) ∧ a = parked (core g0) #[rcase (Φ.ch (Φ.n - (c + 1))) z] (.recv true) ∧ l ≤ Φ.q ∧ c < Φ.n ∧ (∀ w₁, RM Φ Φ.n w w₁ → AtRv Φ (RvAll Φ c) (Φ.n - (c + 1)) l g0 w₁) ∧ offersAt a r false = [0] ∧ j = Φ.n) := by
  rcases h.status O with ⟨hs, _, _⟩ | ⟨hs, hcase⟩
  · have : a.status ≠ .blocked := by rw [hs]; simp
    exact ⟨offersAt_of_not_blocked this r true, .inl (offersAt_of_not_blocked this r false)⟩
  · cases h with
    | blk hb =>
      obtain ⟨_, h2, _⟩ := hb w (RM.refl w)
      exact ⟨by simp [offersAt, h2], .inl (by simp [offersAt, h2])⟩
    | @pk c l g0 z _ hc hl hb =>
      refine ⟨offersAt_parked_recv' _ _ _ _ _, ?_⟩
      rw [offersAt_parked_recv]
      by_cases e : Φ.ch (Φ.n - (c + 1)) = r
      · rw [if_pos e]
        exact .inr ⟨c, l, g0, z, rfl, e.symm, rfl, hl, hc, hb, rfl, rfl⟩
      · rw [if_neg e]; exact .inl rfl
    | _ => exact absurd hcase (by simp)

theorem others_offer (hcom : Com Φ j gs w t D d0 qs) {x : Nat} {y : Goroutine} (h0 : x ≠ 0) (hy : gs[x]? = some y) (r : Nat) (b : Bool) : offersAt y r b = [] := by
  have hlt : x < Φ.m0 + j := by rw [← hcom.size]; exact (Array.getElem?_eq_some_iff.1 hy).1
  have hup : y.status = .running ∨ y.status = .finished := by
    rcases Nat.lt_or_ge x Φ.m0 with h | h
    · obtain ⟨z, hz, hq⟩ := hcom.old x (by omega) h
      rw [hy] at hz; cases hz; exact hq.status
    · obtain ⟨z, hz, hs⟩ := hcom.wk (x - Φ.m0) (by omega)
      rw [show Φ.m0 + (x - Φ.m0) = x by omega, hy] at hz; cases hz; exact hs.up
  exact offersAt_of_not_blocked (by rcases hup with h | h <;> rw [h] <;> simp) r b

theorem comm_trace (O : Φ.Ok) (hcom : Com Φ j gs w t D d0 qs) {i : Nat} (hi : i < j) {fn : FuncId} {pos : String} {es : Array Event} (hes : ∀ e ∈ es, EvW Φ i e) {S : Array MemOp} (hS : ∀ op ∈ S, CommAct w.heap.size op.act) :
    PT Φ.H Φ.Wg Φ.B0 Φ.Rd Φ.m0 j (t ++ (MemOp.ofEvents (Φ.m0 + i) fn pos es ++ S)) ∧ (∀ x, Deaf (t ++ (MemOp.ofEvents (Φ.m0 + i) fn pos es ++ S)) x = Deaf t x) ∧
    (∀ k r, k ≠ Φ.m0 + i → RelK Φ.Wg t k r → RelK Φ.Wg (t ++ (MemOp.ofEvents (Φ.m0 + i) fn pos es ++ S)) k r) ∧ ∀ op ∈ t ++ (MemOp.ofEvents (Φ.m0 + i) fn pos es ++ S), op.act.low w.heap.size := by
  have hgops : ∀ op ∈ MemOp.ofEvents (Φ.m0 + i) fn pos es, op.g = Φ.m0 + i := fun op hop => by obtain ⟨e, _, rfl⟩ := Go.Conc.mem_ofEvents hop; rfl
  have hev : ∀ e ∈ es, OkW Φ.Wg Φ.B0 (Φ.Rd i) (.ofEvent e) ∧ (MemAct.ofEvent e).low w.heap.size ∧ e.loc ≠ .mark .disable ∧ e.loc ≠ .mark .enable := fun e he => okW_evW O (hcom.rdl i hi) (hes e he)
  rw [← Array.append_assoc]
  have p1 : PT Φ.H Φ.Wg Φ.B0 Φ.Rd Φ.m0 j (t ++ MemOp.ofEvents (Φ.m0 + i) fn pos es) := hcom.pt.appW O.lies hi hgops fun op hop => by obtain ⟨e, he, rfl⟩ := Go.Conc.mem_ofEvents hop; exact (hev e he).1
  refine ⟨?_, fun x => ?_, fun k r hk hr => ?_, ?_⟩
  · have := PT.mutes S.toList p1 (fun op hop => (hS op (by simpa using hop)).still.1) (fun op hop => (hS op (by simpa using hop)).still.2.1 _)
    simpa using this
  · rw [Deaf_still _ _ _ fun op hop => ⟨(hS op hop).still.2.2.1, (hS op hop).still.2.2.2.1⟩]
    by_cases e : Φ.m0 + i = x
    · subst e
      rw [Deaf_own]
      exact deafBehind_still (fun e he => (hev e he).2.2) _
    · exact Deaf_other t e _ hgops
  · exact (hr.other fun op hop => by rw [hgops op hop]; exact fun e => hk e.symm).mutes fun op hop => (hS op hop).still.1
  · exact low_app (low_app hcom.low (Nat.le_refl _) fun op hop => by obtain ⟨e, he, rfl⟩ := Go.Conc.mem_ofEvents hop; exact (hev e he).2.1) (Nat.le_refl _) fun op hop => (hS op hop).still.2.2.2.2

set_option maxHeartbeats 1600000 in
theorem sendStep (O : Φ.Ok) (ha : gs[0]? = some a) (hcs : CSit Φ tag j f0 d0 a w) (hcom : Com Φ j gs w t D d0 qs) {st sm : Int} (hwg : WgAt Φ.ty Φ.Wg w st sm) (hmode : Mode j D tag st sm) (hchs : Chans Φ j D tag w)
    {i : Nat} (hi : i < j) {g : Goroutine} (hg : gs[Φ.m0 + i]? = some g) {l : Nat} (hl : l + 1 ≤ Φ.q) (hst : (D i).stage = 8 + (l + 1)) (hde : (D i).deaf = 0) (h : AtSnd Φ i (Φ.ans i (Φ.q - (l + 1))) (Snds Φ i l) g w) :
    Step1 Φ (crowd gs w sl) t (Φ.m0 + i) (meas Φ j D tag f0 qs) := by
  have hm0 := O.m0
  have hb := hcs.bound
  obtain ⟨hrun, z, es, hgo, hes, hnext⟩ := h
  have hgo' : stepG Φ.P (Φ.m0 + i == 0) g w = .comm (core g) #[scase (Φ.ch i) (Φ.ans i (Φ.q - (l + 1))) z] true .send w es := by rw [show (Φ.m0 + i == 0) = false by simp; omega]; exact hgo
  obtain ⟨hc, hrs⟩ := hchs.at' i hi
  have hse : sent Φ.q (D i) = Φ.q - (l + 1) := by simp only [sent, hst]; omega
  have hcl : decide ((D i).stage ≤ 7) = false := by rw [hst]; simp; omega
  rw [hse, hcl] at hc
  rw [hse] at hrs
  have hclt : Φ.ch i < w.heap.size := (Array.getElem?_eq_some_iff.1 hc).1
  have hs1 : Φ.q - (l + 1) + 1 = Φ.q - l := by omega
  have hse' : ∀ m d, sent Φ.q ⟨8 + l, m, d⟩ = Φ.q - l := fun m d => by simp only [sent]; omega
  have hc1 : cntD (D i) = 1 := by simp [cntD, hst]; omega
  have hc2 : ∀ m d, cntD ⟨8 + l, m, d⟩ = 1 := fun m d => by simp [cntD]; omega
  obtain ⟨_, hoff⟩ := hcs.offers O (Φ.ch i)
  have hwork : ∀ (gs' : Array Goroutine) (u : Trace) (w' : World) (m : Nat), gs'.size = gs.size → gs'[Φ.m0 + i]? = some (Go.Conc.served (core g) undef) → (∀ x y, x ≠ 0 → x ≠ Φ.m0 + i → gs[x]? = some y → gs'[x]? = some y) →
      RM Φ j w w' → Goes Φ.P false (RW Φ i) (DW Φ i) (AtSn Φ i l) m (Go.Conc.served (core g) undef) w' → (∀ op ∈ u, CommAct w.heap.size op.act) →
      Com Φ j gs' w' (t ++ (MemOp.ofEvents (Φ.m0 + i) g.frame.fn g.frame.place es ++ u)) (upd D i ⟨8 + l, m, 0⟩) d0 qs := by
    intro gs' u w' m hsz hme hoth hM hG hu
    obtain ⟨t1, t2, t3, t4⟩ := comm_trace O hcom hi (fn := g.frame.fn) (pos := g.frame.place) hes hu
    refine hcom.step hsz (fun i' hi' => ?_) (fun x y h0 h1 hy _ => hoth x y (by omega) (by omega) hy) (fun x _ _ => t2 x) t1 (by rw [t2, hcom.deaf0]) (fun i' hi' => ?_) (fun i' hi' hs => ?_) (by rw [hM.size]; exact t4) (by rw [hM.size]; exact Nat.le_refl _) hM.os hM.output (hM.old O) (hM.plain hcom.plain) hm0
    · by_cases e : i' = i
      · subst e
        exact ⟨_, hme, by rw [upd_same]; exact .snd (by omega) hG⟩
      · obtain ⟨x, hx, hsx⟩ := hcom.wk i' hi'
        exact ⟨x, hoth _ x (by omega) (by omega) hx, by rw [upd_ne D _ e]; exact hsx.rely (hM.rw O)⟩
    · rw [t2]
      by_cases e : i' = i
      · subst e; rw [hcom.deafW i' hi', upd_same]; exact hde
      · rw [hcom.deafW i' hi', upd_ne D _ e]
    · by_cases e : i' = i
      · subst e; rw [upd_same] at hs; simp at hs; omega
      · rw [upd_ne D _ e] at hs
        obtain ⟨r, hr⟩ := hcom.rel i' hi' hs
        exact ⟨r, t3 _ r (by omega) hr⟩
  have hmode' : ∀ m, Mode j (upd D i ⟨8 + l, m, 0⟩) tag st sm := fun m => hmode.counted hi (by omega) (by omega) _ _
  rcases hoff with hoff | ⟨c, l', g0, z0, rfl, hch0, rfl, hl', hcn, hb', hoff, rfl⟩
  · -- there is room
    have hp : partners (gs.setIfInBounds (Φ.m0 + i) ph) (Φ.ch i) false = [] := partners_nil fun x y hy => by
      rcases getElem?_stand gs _ x y hy with ⟨_, rfl⟩ | ⟨_, hy'⟩
      · exact offersAt_ph _ _
      · rcases Nat.eq_zero_or_pos x with rfl | hx
        · rw [ha] at hy'; cases hy'; exact hoff
        · exact others_offer hcom (by omega) hy' _ _
    have hroom : (bufOf (Φ.ans i) (rcvd Φ.n Φ.q tag i) (Φ.q - (l + 1))).size < Φ.q := by rw [bufOf_size]; omega
    have hR := crowd_send_room (P := Φ.P) (sl := sl) hg hgo' hc hroom hp
    rw [bufOf_push hrs, hs1] at hR
    have hM : RM Φ j w (w.setChan (Φ.ch i) Φ.q (bufOf (Φ.ans i) (rcvd Φ.n Φ.q tag i) (Φ.q - l)) false (Φ.q - l) (rcvd Φ.n Φ.q tag i) false) := RM.of_chan O (by omega) _ _ _ _ _ _
    obtain ⟨m, hG⟩ : ∃ m, Goes Φ.P false (RW Φ i) (DW Φ i) (AtSn Φ i l) m (Go.Conc.served (core g) undef) (w.setChan (Φ.ch i) Φ.q (bufOf (Φ.ans i) (rcvd Φ.n Φ.q tag i) (Φ.q - l)) false (Φ.q - l) (rcvd Φ.n Φ.q tag i) false) := by
      have := hnext _ (hM.rw O)
      cases l <;> exact this
    refine ⟨_, _, meas Φ j (upd D i ⟨8 + l, m, 0⟩) tag f0 qs, hR, lt_of_worker hi (.inl rfl) (by omega) (.inl ⟨by simp only [hst]; omega, by rw [hc1, hc2]; exact Nat.le_refl _⟩), _, _, sl, j, _, tag, f0, d0, qs, a, st, sm, rfl, ?_, hcs.rely hM,
      hwork _ _ _ m (by simp) ?_ (fun x y h0 h1 hy => by rw [Array.getElem?_setIfInBounds_ne (fun e => h1 e.symm)]; exact hy) hM hG ?_, ?_, hmode' m, ⟨fun i' hi' => ?_, fun c l' ht => ?_⟩, fun e => absurd e (hmode.not_fin hi (by omega)), rfl⟩
    · rw [Array.getElem?_setIfInBounds_ne (by omega)]; exact ha
    · rw [Array.getElem?_setIfInBounds_self_of_lt (by rw [hcom.size]; omega)]; rfl
    · intro op hop
      simp only [List.mem_toArray, List.mem_cons, List.not_mem_nil, or_false] at hop
      rcases hop with rfl | rfl <;> exact hclt
    · exact WgAt.of_block hwg (chan_heap _ _ _ _ _ _ _ _ (fun e => O.chWg i e.symm))
    · by_cases e : i' = i
      · subst e
        rw [upd_same, chan_at hc, hse', show decide (8 + l ≤ 7) = false by simp; omega]
        exact ⟨rfl, by omega⟩
      · rw [upd_ne D _ e, chan_heap _ _ _ _ _ _ _ _ (fun x => e (O.chInj i' i (by omega) (by omega) x))]
        exact hchs.at' i' hi'
    · obtain ⟨h1, h2⟩ := hchs.pk c l' ht
      by_cases e : Φ.n - c = i
      · exfalso
        subst ht
        obtain ⟨_, hc0, hcn⟩ := hcs.pk_inv
        cases hcs with
        | pk hc' _ _ =>
          rw [offersAt_parked_recv, if_pos (by rw [e])] at hoff
          cases hoff
      · rw [upd_ne D _ e]; exact ⟨h1, h2⟩
  · -- goroutine 0 is parked there
    have hii : i = Φ.n - (c + 1) := O.chInj _ _ (by omega) (by omega) hch0
    have hp : partners (gs.setIfInBounds (Φ.m0 + i) ph) (Φ.ch i) false = [(0, 0)] := by
      have h0 : (gs.setIfInBounds (Φ.m0 + i) ph)[0]? = some (parked (core g0) #[rcase (Φ.ch (Φ.n - (c + 1))) z0] (.recv true)) := by rw [Array.getElem?_setIfInBounds_ne (by omega)]; exact ha
      rw [partners_one h0 fun x y hx hy => ?_, hoff]
      · rfl
      · rcases getElem?_stand gs _ x y hy with ⟨_, rfl⟩ | ⟨_, hy'⟩
        · exact offersAt_ph _ _
        · exact others_offer hcom hx hy' _ _
    obtain ⟨_, hpk2⟩ := hchs.pk _ _ rfl
    rw [← hii, hse] at hpk2
    obtain rfl : l' = l + 1 := by omega
    have hr0 : rcvd Φ.n Φ.q (.pk (c + 1) (l + 1)) i = Φ.q - (l + 1) := by simp [rcvd, ← hii]
    rw [hr0, bufOf_nil (Nat.le_refl _)] at hc
    have ha' := ha
    rw [← hch0] at ha'
    have hR := crowd_send_meets (P := Φ.P) (sl := sl) hg hgo' hc (j := 0) (by omega) ha' hp
    rw [hs1, finishComm_recv] at hR
    have hM : RM Φ Φ.n w (w.setChan (Φ.ch i) Φ.q #[] false (Φ.q - l) (Φ.q - l) false) := RM.of_chan O (by omega) _ _ _ _ _ _
    obtain ⟨m, hG⟩ : ∃ m, Goes Φ.P false (RW Φ i) (DW Φ i) (AtSn Φ i l) m (Go.Conc.served (core g) undef) (w.setChan (Φ.ch i) Φ.q #[] false (Φ.q - l) (Φ.q - l) false) := by
      have := hnext _ (hM.rw O)
      cases l <;> exact this
    obtain ⟨m2, hG2⟩ : ∃ m, Goes Φ.P true (RM Φ Φ.n) (DM Φ Φ.n) (AtRv Φ (RvAll Φ c) (Φ.n - (c + 1)) l) m (Go.Conc.served (core g0) (recvd true (Φ.ans i (Φ.q - (l + 1))) true)) (w.setChan (Φ.ch i) Φ.q #[] false (Φ.q - l) (Φ.q - l) false) := by
      obtain ⟨_, _, _, _, _, hn⟩ := hb' w (RM.refl w)
      have := hn _ hM
      rw [← hii] at this ⊢
      cases l <;> exact this
    refine ⟨_, _, meas Φ Φ.n (upd D i ⟨8 + l, m, 0⟩) (.rv (c + 1) l) (m2 + 1) qs, hR, ?_, _, _, sl, Φ.n, _, .rv (c + 1) l, m2 + 1, 0, qs, _, st, sm, rfl, ?_, .rv hcn (by omega) hG2,
      ?_, ?_, ?_, ⟨fun i' hi' => ?_, fun c l' ht => by cases ht⟩, by simp, rfl⟩
    · refine Prod.Lex.left _ _ ?_
      have e1 := sumTo_upd D (⟨8 + l, m, 0⟩ : WD) cntD hi
      have e2 := sumTo_upd D (⟨8 + l, m, 0⟩ : WD) WD.stage hi
      rw [hc1, hc2] at e1
      simp only [hst] at e2
      simp only [Vc, Ssum, phi]
      omega
    · rw [Array.getElem?_setIfInBounds_ne (by omega), Array.getElem?_setIfInBounds_self_of_lt (by rw [hcom.size]; omega)]
    · have hd : d0 = 0 := hcs.pk_deaf
      have := hwork ((gs.setIfInBounds 0 (Go.Conc.served (core g0) (recvd true (Φ.ans i (Φ.q - (l + 1))) true))).setIfInBounds (Φ.m0 + i) (Go.Conc.served (core g) undef)) #[{ g := Φ.m0 + i, fn := (core g).frame.fn, pos := (core g).frame.place, act := .send (Φ.ch i) (Φ.q - (l + 1)) }, { g := 0, fn := (core g0).frame.fn, pos := (core g0).frame.place, act := .recv (Φ.ch i) (Φ.q - (l + 1)) Φ.q },
        { g := Φ.m0 + i, fn := (core g).frame.fn, pos := (core g).frame.place, act := .sendDone (Φ.ch i) (Φ.q - (l + 1)) }, { g := 0, fn := (core g0).frame.fn, pos := (core g0).frame.place, act := .recvDone (Φ.ch i) (Φ.q - (l + 1)) }] _ m
        (by simp) (by rw [Array.getElem?_setIfInBounds_self_of_lt (by simp [hcom.size]; omega)]) (fun x y h0 h1 hy => by rw [Array.getElem?_setIfInBounds_ne (fun e => h1 e.symm), Array.getElem?_setIfInBounds_ne (fun e => h0 e.symm)]; exact hy) hM hG (by
          intro op hop
          simp only [List.mem_toArray, List.mem_cons, List.not_mem_nil, or_false] at hop
          rcases hop with rfl | rfl | rfl | rfl <;> exact hclt)
      rw [hd] at this
      exact this
    · exact WgAt.of_block hwg (chan_heap _ _ _ _ _ _ _ _ (fun e => O.chWg i e.symm))
    · have hw := hmode' m
      have := hw.open_inv trivial
      obtain ⟨o1, o2, o3, _⟩ := this
      rw [o2, o3]
      exact .opn (tag := .rv (c + 1) l) trivial o1 (by simp)
    · by_cases e : i' = i
      · subst e
        have hr1 : rcvd Φ.n Φ.q (.rv (c + 1) l) i' = Φ.q - l := by simp [rcvd, ← hii]
        rw [upd_same, chan_at hc, hse', hr1, bufOf_nil (Nat.le_refl _), show decide (8 + l ≤ 7) = false by simp; omega]
        exact ⟨rfl, Nat.le_refl _⟩
      · have hr1 : rcvd Φ.n Φ.q (.rv (c + 1) l) i' = rcvd Φ.n Φ.q (.pk (c + 1) (l + 1)) i' := by simp only [rcvd, ← hii, if_neg e]
        rw [upd_ne D _ e, chan_heap _ _ _ _ _ _ _ _ (fun x => e (O.chInj i' i (by omega) (by omega) x)), hr1]
        exact hchs.at' i' hi'
end
end

section
open Go.Conc
open Go.ConcN (WgLive sumTo upd sumTo_upd upd_ne upd_same Deaf_still sumTo_congr le_sumTo sumTo_le bk_cell)
open Go.ConcR (KK WgAt stA smA rd wr mk DC0 Bk bk_of_mute ofEvent_loc_mark ofEvent_mk)

section
variable {Φ : Ph} {gs gs' : Array Goroutine} {w w' : World} {sl : Option (Nat × Nat)} {j : Nat} {D D' : Nat → WD} {tag tag' : Tag} {f0 d0 d0' : Nat} {qs : Nat → Nat} {a : Goroutine} {t t' : Trace} {st sm : Int}

set_option maxHeartbeats 1600000 in
theorem stepWorker (O : Φ.Ok) (ha : gs[0]? = some a) (hcs : CSit Φ tag j f0 d0 a w) (hcom : Com Φ j gs w t D d0 qs) (hwg : WgAt Φ.ty Φ.Wg w st sm) (hmode : Mode j D tag st sm) (hchs : Chans Φ j D tag w)
    (hacq : tag = .fin → AcqK Φ.Wg Φ.m0 j t) {i : Nat} (hi : i < j) {g : Goroutine} (hg : gs[Φ.m0 + i]? = some g) (hrun : g.status = .running) : Step1 Φ (crowd gs w sl) t (Φ.m0 + i) (meas Φ j D tag f0 qs) := by
  have hm0 := O.m0
  obtain ⟨g₁, hg₁, hs⟩ := hcom.wk i hi
  obtain rfl : g = g₁ := by rw [hg] at hg₁; exact Option.some.inj hg₁
  generalize hst : (D i).stage = s at hs
  generalize hfu : (D i).fuel = m at hs
  generalize hde : (D i).deaf = dd at hs
  have hb := hcs.bound
  have hVj := Vc_le j D
  have hn := O.hn
  have hdk : Deaf t (Φ.m0 + i) = dd := by rw [hcom.deafW i hi, hde]
  have hWlt : Φ.Wg < w.heap.size := wgLive_lt ⟨_, _, hwg⟩
  have hpkw : ∀ c l, tag = .pk c l → ∃ buf cl s r, w.heap[Φ.ch (Φ.n - c)]? = some (.chan Φ.q buf cl s r false) := fun c l e => by
    subst e
    obtain ⟨e1, e2, e3⟩ := hcs.pk_inv
    exact ⟨_, _, _, _, (hchs.at' (Φ.n - c) (by omega)).1⟩
  have chW : ∀ (a : Addr) (v : Value), a.block = Φ.Wg → ∀ b, b ≠ Φ.Wg → (w.setCell a v).heap[b]? = w.heap[b]? := fun a v hab b hb => setCell_heap w a v b (by rw [hab]; exact hb)
  -- a step of the library's bookkeeping: at most the group's block turns
  have bookG : ∀ {g' : Goroutine} {w' : World} {es : Array Event} {s' m' dd' : Nat} {st' sm' : Int}, stepG Φ.P false g w = .go g' w' es → RM Φ j w w' → (∀ i', i' < j → w'.heap[Φ.ch i']? = w.heap[Φ.ch i']?) → WgAt Φ.ty Φ.Wg w' st' sm' → (∀ e ∈ es, Bk Φ.Wg e) →
      (∀ jx e, es[jx]? = some e → (MemAct.ofEvent e).touch? = none ∨ 0 < deafBehind dd (es.extract 0 jx)) → WSit Φ i s' m' dd' g' w' → deafBehind dd es = dd' → s ≤ 6 → s' ≤ 6 →
      (∀ tag', Woke tag tag' → (mayWake Φ.P g = true → g'.status = .running → tag' ≠ .blk) → Mode j (upd D i ⟨s', m', dd'⟩) tag' st' sm') → (tag = .fin → AcqK Φ.Wg Φ.m0 j (t ++ MemOp.ofEvents (Φ.m0 + i) g.frame.fn g.frame.place es)) → ((s' < s ∧ cntD ⟨s', m', dd'⟩ ≤ cntD (D i)) ∨ (s' = s ∧ m' + 1 = m)) →
      Step1 Φ (crowd gs w sl) t (Φ.m0 + i) (meas Φ j D tag f0 qs) := by
    intro g' w' es s' m' dd' st' sm' hgo hM hcw hwg' hbk hd hs' hdd h6 h6' hmode' hacq' hlt
    refine workerStep O ha hcs hcom hi hg hgo hM hs' (fun e he => (okW_bk hWlt (hbk e he)).1) (fun e he => (okW_bk (B0 := Φ.B0) (Rd := Φ.Rd i) hWlt (hbk e he)).2) (by rw [hde]; exact hdd)
      (fun _ => let ⟨r, hr⟩ := hcom.rel i hi (by omega); ⟨r, hr.book hdk _ _ hbk hd⟩) hwg' hmode' (fun tag' ht _ => Chans.woke ?_ ht) (fun c l e => ?_) hacq' (by rw [hst, hfu]; exact hlt)
    · exact hchs.keepW _ hcw (by simp only [sent, hst]; omega) (by simp only [hst]; rw [decide_eq_true (show s' ≤ 7 by omega), decide_eq_true (show s ≤ 7 by omega)]) (fun h => by omega)
    · obtain ⟨buf, cl, s1, r1, hc⟩ := hpkw c l e
      refine ⟨buf, cl, s1, r1, ?_⟩
      subst e
      obtain ⟨e1, e2, e3⟩ := hcs.pk_inv
      rw [hcw _ (by omega)]; exact hc
  have book : ∀ {g' : Goroutine} {w' : World} {es : Array Event} {s' m' dd' : Nat} {st' sm' : Int}, stepG Φ.P false g w = .go g' w' es → RM Φ j w w' → (∀ i', i' < j → w'.heap[Φ.ch i']? = w.heap[Φ.ch i']?) → WgAt Φ.ty Φ.Wg w' st' sm' → (∀ e ∈ es, Bk Φ.Wg e) →
      (∀ jx e, es[jx]? = some e → (MemAct.ofEvent e).touch? = none ∨ 0 < deafBehind dd (es.extract 0 jx)) → WSit Φ i s' m' dd' g' w' → deafBehind dd es = dd' → s ≤ 6 → s' ≤ 6 →
      Mode j (upd D i ⟨s', m', dd'⟩) tag st' sm' → (tag = .fin → AcqK Φ.Wg Φ.m0 j (t ++ MemOp.ofEvents (Φ.m0 + i) g.frame.fn g.frame.place es)) → ((s' < s ∧ cntD ⟨s', m', dd'⟩ ≤ cntD (D i)) ∨ (s' = s ∧ m' + 1 = m)) →
      Step1 Φ (crowd gs w sl) t (Φ.m0 + i) (meas Φ j D tag f0 qs) :=
    fun hgo hM hcw hwg' hbk hd hs' hdd h6 h6' hmode' hacq' hlt => bookG hgo hM hcw hwg' hbk hd hs' hdd h6 h6' (fun _ ht _ => hmode'.woke ht) hacq' hlt
  have nr : s ≠ 1 → tag ≠ .fin := fun h => hmode.not_fin hi (by omega)
  -- an idle step behind the close: nothing turns, nothing is listed
  have idle : ∀ {g' : Goroutine} {m' : Nat}, stepG Φ.P false g w = .go g' w #[] → WSit Φ i s m' dd g' w → m' + 1 = m → s ≤ 7 → s ≠ 1 → Step1 Φ (crowd gs w sl) t (Φ.m0 + i) (meas Φ j D tag f0 qs) := by
    intro g' m' hgo hs' hm h6 h1
    have hsame := hmode.same (i := i) m' dd
    rw [hst] at hsame
    have e0 : t ++ MemOp.ofEvents (Φ.m0 + i) g.frame.fn g.frame.place #[] = t := by simp [MemOp.ofEvents]
    refine workerStep O ha hcs hcom hi hg hgo (RM.refl w) hs' (by simp) (by simp) (by rw [hde]; rfl) (fun h => ?_) hwg (fun _ ht _ => hsame.woke ht) (fun tag' ht _ => Chans.woke ?_ ht) hpkw (fun e => absurd e (nr h1)) (.inr ⟨hst.symm, by omega⟩)
    · rw [e0]; exact hcom.rel i hi (by omega)
    · exact hchs.keepW _ (fun _ _ => rfl) (by simp only [sent, hst]) (by simp only [hst]) (fun h => by omega)
  cases hs with
  | @snd l m _ _ hl h =>
    rcases Goes.cases h with hstop | ⟨m', rfl, hstep⟩
    · have hx := hstop w (RW.refl w)
      cases l with
      | succ l => exact sendStep O ha hcs hcom hwg hmode hchs hi hg hl hst hde hx
      | zero =>
        obtain ⟨_, hmw, hall⟩ := hx
        obtain ⟨hc, hrs⟩ := hchs.at' i hi
        have hse : sent Φ.q (D i) = Φ.q := by simp only [sent, hst]; omega
        rw [hse, show decide ((D i).stage ≤ 7) = false by rw [hst]; rfl] at hc
        obtain ⟨g', hgo, hgr, m₂, hk⟩ := hall _ _ _ hc
        have hclt : Φ.ch i < w.heap.size := (Array.getElem?_eq_some_iff.1 hc).1
        have hM : RM Φ j w (w.setChan (Φ.ch i) Φ.q (bufOf (Φ.ans i) (rcvd Φ.n Φ.q tag i) Φ.q) true Φ.q (rcvd Φ.n Φ.q tag i) false) := RM.of_chan O (by omega) _ _ _ _ _ _
        have hoth : ∀ i', i' < j → i' ≠ i → (w.setChan (Φ.ch i) Φ.q (bufOf (Φ.ans i) (rcvd Φ.n Φ.q tag i) Φ.q) true Φ.q (rcvd Φ.n Φ.q tag i) false).heap[Φ.ch i']? = w.heap[Φ.ch i']? :=
          fun i' hi' e => chan_heap _ _ _ _ _ _ _ _ (fun x => e (O.chInj i' i (by omega) (by omega) x))
        have hme := chan_at hc Φ.q (bufOf (Φ.ans i) (rcvd Φ.n Φ.q tag i) Φ.q) true Φ.q (rcvd Φ.n Φ.q tag i) false
        have hmod := hmode.counted hi (by omega) (s' := 7) (by omega) m₂ 0
        refine workerStep O ha hcs hcom hi hg hgo hM (.r0 hk) ?_ ?_ (by rw [hde]; rfl) (fun h => by omega) (WgAt.of_block hwg (chan_heap _ _ _ _ _ _ _ _ (fun e => O.chWg i e.symm))) (fun _ ht _ => hmod.woke ht)
          (fun tag' ht hw => ⟨fun i' hi' => ?_, fun c l e => ?_⟩) (fun c l e => ?_) (fun e => absurd e (nr (by omega))) (.inl ⟨by omega, by simp [cntD, hst]⟩)
        · intro e he
          simp only [List.mem_toArray, List.mem_cons, List.not_mem_nil, or_false] at he
          rcases he with rfl | rfl
          · refine ⟨by simp [MemAct.ofEvent], fun x hx => ?_⟩
            simp only [MemAct.ofEvent, MemAct.touch?, Option.some.injEq] at hx
            subst hx
            exact .inl ⟨.inr ⟨_, rfl, O.chB i⟩, rfl⟩
          · exact ⟨by simp [MemAct.ofEvent], fun x hx => by cases hx⟩
        · intro e he
          simp only [List.mem_toArray, List.mem_cons, List.not_mem_nil, or_false] at he
          rcases he with rfl | rfl <;> exact hclt
        · rw [rcvd_woke _ _ ht]
          by_cases e : i' = i
          · subst e
            rw [upd_same, hme]
            exact ⟨by simp [sent], by simp only [sent]; omega⟩
          · rw [upd_ne D _ e, hoth i' hi' e]; exact hchs.at' i' hi'
        · have htag : tag = .pk c l := by
            rcases ht with rfl | ⟨_, rfl⟩ | ⟨_, _, _, rfl⟩
            · exact e
            · cases e
            · cases e
          obtain ⟨h1, h2⟩ := hchs.pk c l htag
          by_cases e' : Φ.n - c = i
          · exfalso
            obtain ⟨buf, s1, r1, hx⟩ := hw hmw hgr c l e
            rw [e', hme] at hx
            cases hx
          · rw [upd_ne D _ e']; exact ⟨h1, h2⟩
        · obtain ⟨buf, cl, s1, r1, hx⟩ := hpkw c l e
          by_cases e' : Φ.n - c = i
          · rw [e', hme]; exact ⟨_, _, _, _, rfl⟩
          · subst e
            obtain ⟨e1, e2, e3⟩ := hcs.pk_inv
            rw [hoth _ (by omega) e']; exact ⟨_, _, _, _, hx⟩
    · obtain ⟨g', w', es, hgo, ⟨⟨d, rfl⟩, hev⟩, hg'⟩ := hstep w (RW.refl w)
      have hsame := hmode.same (i := i) m' 0
      rw [hst] at hsame
      refine workerStep O ha hcs hcom hi hg hgo (RM.at w d) (.snd hl hg') (fun e he => (okW_evW O (hcom.rdl i hi) (hev e he)).1) (fun e he => (okW_evW O (hcom.rdl i hi) (hev e he)).2.1)
        (by rw [hde]; exact deafBehind_still (fun e he => (okW_evW O (hcom.rdl i hi) (hev e he)).2.2) 0) (fun h => by omega) hwg (fun _ ht _ => hsame.woke ht) (fun tag' ht _ => Chans.woke ?_ ht) hpkw (fun e => absurd e (nr (by omega))) (.inr ⟨hst.symm, by omega⟩)
      exact hchs.keepW _ (fun _ _ => rfl) (by simp only [sent, hst]) (by simp only [hst]) (fun _ => Nat.le_add_right 8 l)
  | r0 h =>
    rcases Goes.cases h with hstop | ⟨m', rfl, hstep⟩
    · obtain ⟨_, g', hgo, m₂, hk⟩ := hstop w (RW.refl w)
      have hmod := hmode.counted hi (by omega) (s' := 6) (by omega) m₂ 0
      refine workerStep O ha hcs hcom hi hg hgo (RM.refl w) (.k1 hk) ?_ ?_ (by rw [hde]; rfl) (fun _ => ⟨t.size, RelK.new hdk _ _⟩) hwg (fun _ ht _ => hmod.woke ht) (fun tag' ht _ => Chans.woke ?_ ht) hpkw (fun e => absurd e (nr (by omega))) (.inl ⟨by omega, by simp [cntD, hst]⟩)
      · intro e he; simp at he; subst he; exact ⟨by simp [mk, MemAct.ofEvent], fun x hx => by cases hx⟩
      · intro e he; simp at he; subst he; exact hWlt
      · exact hchs.keepW _ (fun _ _ => rfl) (by simp [sent, hst]) (by simp [hst]) (fun h => by omega)
    · obtain ⟨g', w', es, hgo, ⟨rfl, rfl⟩, hg'⟩ := hstep w (RW.refl w)
      exact idle hgo (.r0 hg') rfl (by omega) (by omega)
  | k1 h =>
    rcases Goes.cases h with hstop | ⟨m', rfl, hstep⟩
    · obtain ⟨_, g', hgo, m₂, hk⟩ := hstop w (RW.refl w)
      exact book hgo (RM.refl w) (fun _ _ => rfl) hwg (by intro e he; simp at he; subst he; exact .inl rfl) (by intro jx e he; exact .inl (by have := Array.mem_of_getElem? he; simp at this; subst this; rfl)) (.d1 hk) rfl (by omega) (by omega)
        (hmode.counted hi (by omega) (by omega) _ _) (fun e => absurd e (nr (by omega))) (.inl ⟨by omega, by simp [cntD, hst]⟩)
    · obtain ⟨g', w', es, hgo, ⟨rfl, rfl⟩, hg'⟩ := hstep w (RW.refl w)
      exact idle hgo (.k1 hg') rfl (by omega) (by omega)
  | d1 h =>
    rcases Goes.cases h with hstop | ⟨m', rfl, hstep⟩
    · obtain ⟨_, hall⟩ := hstop w (RW.refl w)
      have hc1 : cntD (D i) = 1 := by simp [cntD, hst]
      have hV1 : 1 ≤ Vc j D := by have := le_sumTo (f := fun x => cntD (D x)) hi; simp only [Vc]; omega
      have bk2 : ∀ e ∈ #[rd (stA Φ.Wg), wr (stA Φ.Wg)], Bk Φ.Wg e := by intro e he; simp at he; rcases he with rfl | rfl <;> exact bk_cell _ _ rfl
      have df2 : ∀ jx e, (#[rd (stA Φ.Wg), wr (stA Φ.Wg)] : Array Event)[jx]? = some e → (MemAct.ofEvent e).touch? = none ∨ 0 < deafBehind 1 ((#[rd (stA Φ.Wg), wr (stA Φ.Wg)] : Array Event).extract 0 jx) := by
        intro jx e he
        match jx, he with
        | 0, _ => exact .inr (by simp [deafBehind])
        | 1, _ => exact .inr (by simp [deafBehind, rd])
        | jx + 2, he => simp at he
      have hq0 : ∀ q, cntD (⟨1, q, 1⟩ : WD) = 0 := fun _ => rfl
      have opq : ∀ q, OpenSt j D → OpenSt j (upd D i ⟨1, q, 1⟩) := fun q h a ha => by
        by_cases e : a = i
        · subst e; rw [upd_same]; exact .inr rfl
        · rw [upd_ne D _ e]; exact h a ha
      have chs : ∀ v : Int, ∀ i', i' < j → (w.setCell (stA Φ.Wg) (.int .u64 v)).heap[Φ.ch i']? = w.heap[Φ.ch i']? := fun v i' _ => chW _ _ rfl _ (O.chWg i')
      cases hmode with
      | opn h1 h2 h3 =>
        obtain ⟨v, hv⟩ : ∃ v, Vc j D + pend tag = v + 1 := ⟨Vc j D + pend tag - 1, by omega⟩
        rw [hv] at hwg
        have hw1 : WgAt Φ.ty Φ.Wg w (((v : Nat) + 1) * KK + ((0 : Nat) : Int)) 0 := by simpa using hwg
        obtain ⟨g', hgo, _, hq⟩ := hall v 0 (by omega) (by omega) hw1
        obtain ⟨q, hq⟩ := hq (by omega)
        have hv' : Vc j (upd D i ⟨1, q, 1⟩) + pend tag = v := by have := Vc_upd D (⟨1, q, 1⟩ : WD) hi; have := hq0 q; omega
        refine book hgo (RM.of_wg rfl (hwg.setSt _)) (chs _) (hwg.setSt _) bk2 df2 (.quit hq) rfl (by omega) (by omega) ?_ (fun e => absurd e (nr (by omega))) (.inl ⟨by omega, by simp [cntD]⟩)
        have e : ((v : Nat) : Int) * KK + ((0 : Nat) : Int) = ((Vc j (upd D i ⟨1, q, 1⟩) + pend tag : Nat) : Int) * KK := by rw [hv']; simp
        rw [e]
        exact .opn h1 (opq q h2) (fun vs ev => by have := h3 vs ev; omega)
      | reg h1 h2 h3 =>
        obtain ⟨v, hv⟩ : ∃ v, Vc j D = v + 1 := ⟨Vc j D - 1, by omega⟩
        rw [hv] at hwg
        have hw1 : WgAt Φ.ty Φ.Wg w (((v : Nat) + 1) * KK + ((1 : Nat) : Int)) 0 := by simpa using hwg
        obtain ⟨g', hgo, hl, hq⟩ := hall v 1 (by omega) (by omega) hw1
        by_cases hv0 : v = 0
        · subst hv0
          obtain ⟨m₂, hk⟩ := hl ⟨rfl, rfl⟩
          refine book hgo (RM.of_wg rfl (hwg.setSt _)) (chs _) (hwg.setSt _) bk2 df2 (.d2 hk) rfl (by omega) (by omega) ?_ (fun e => absurd e (nr (by omega))) (.inl ⟨by omega, by simp [cntD]⟩)
          have hoth : ∀ a, a < j → a ≠ i → (D a).stage = 1 := fun a ha e => by
            have c0 := others_uncounted hi hv hc1 a ha e
            have := h2 a ha
            simp only [cntD] at c0
            split at c0 <;> omega
          have := Mode.last (j := j) (D := upd D i ⟨4, m₂, 1⟩) (tag := tag) i h1 hi (by rw [upd_same]; simp) (fun a ha e => by rw [upd_ne D _ e]; exact hoth a ha e)
          rw [upd_same] at this
          simpa using this
        · obtain ⟨q, hq⟩ := hq (by omega)
          have hv' : Vc j (upd D i ⟨1, q, 1⟩) = v := by have := Vc_upd D (⟨1, q, 1⟩ : WD) hi; have := hq0 q; omega
          refine book hgo (RM.of_wg rfl (hwg.setSt _)) (chs _) (hwg.setSt _) bk2 df2 (.quit hq) rfl (by omega) (by omega) ?_ (fun e => absurd e (nr (by omega))) (.inl ⟨by omega, by simp [cntD]⟩)
          have e : ((v : Nat) : Int) * KK + ((1 : Nat) : Int) = ((Vc j (upd D i ⟨1, q, 1⟩) : Nat) : Int) * KK + 1 := by rw [hv']; simp
          rw [e]
          exact .reg h1 (opq q h2) (by omega)
      | last L _ h2 h3 h4 =>
        by_cases e : i = L
        · subst e; omega
        · have := h4 i hi e; omega
      | sema _ h2 => have := h2 i hi; omega
      | fin _ h2 => have := h2 i hi; omega
    · obtain ⟨g', w', es, hgo, ⟨rfl, rfl⟩, hg'⟩ := hstep w (RW.refl w)
      exact idle hgo (.d1 hg') rfl (by omega) (by omega)
  | d2 h =>
    rcases Goes.cases h with hstop | ⟨m', rfl, hstep⟩
    · obtain ⟨_, hx⟩ := hstop w (RW.refl w)
      obtain ⟨hW3, hoth, rfl, rfl⟩ := hmode.isLast hi (by omega)
      simp only [hst] at hwg
      obtain ⟨g', hgo, m₂, hk⟩ := hx (by simpa using hwg)
      refine book hgo (RM.refl w) (fun _ _ => rfl) hwg (by intro e he; simp at he; subst he; exact bk_cell _ _ rfl) (by intro jx e he; match jx, he with | 0, _ => exact .inr (by simp [deafBehind]) | jx + 1, he => simp at he) (.d3 hk) rfl (by omega) (by omega) ?_ (fun e => absurd e (nr (by omega))) (.inl ⟨by omega, by simp [cntD]⟩)
      have := Mode.last (j := j) (D := upd D i ⟨3, m₂, 1⟩) (tag := tag) i hW3 hi (by rw [upd_same]; simp) (fun a ha e => by rw [upd_ne D _ e]; exact hoth a ha e)
      rw [upd_same] at this
      simpa using this
    · obtain ⟨g', w', es, hgo, ⟨rfl, rfl⟩, hg'⟩ := hstep w (RW.refl w)
      exact idle hgo (.d2 hg') rfl (by omega) (by omega)
  | d3 h =>
    rcases Goes.cases h with hstop | ⟨m', rfl, hstep⟩
    · obtain ⟨_, hx⟩ := hstop w (RW.refl w)
      obtain ⟨hW3, hoth, rfl, rfl⟩ := hmode.isLast hi (by omega)
      simp only [hst] at hwg
      obtain ⟨g', hgo, m₂, hk⟩ := hx (by simpa using hwg)
      refine book hgo (RM.of_wg rfl (hwg.setSt 0)) (fun i' _ => chW _ _ rfl _ (O.chWg i')) (hwg.setSt 0) (by intro e he; simp at he; subst he; exact bk_cell _ _ rfl) (by intro jx e he; match jx, he with | 0, _ => exact .inr (by simp [deafBehind]) | jx + 1, he => simp at he) (.d4 hk) rfl (by omega) (by omega) ?_ (fun e => absurd e (nr (by omega))) (.inl ⟨by omega, by simp [cntD]⟩)
      have := Mode.last (j := j) (D := upd D i ⟨2, m₂, 1⟩) (tag := tag) i hW3 hi (by rw [upd_same]; simp) (fun a ha e => by rw [upd_ne D _ e]; exact hoth a ha e)
      rw [upd_same] at this
      simpa using this
    · obtain ⟨g', w', es, hgo, ⟨rfl, rfl⟩, hg'⟩ := hstep w (RW.refl w)
      exact idle hgo (.d3 hg') rfl (by omega) (by omega)
  | d4 h =>
    rcases Goes.cases h with hstop | ⟨m', rfl, hstep⟩
    · obtain ⟨_, hmw, hx⟩ := hstop w (RW.refl w)
      obtain ⟨hW3, hoth, rfl, rfl⟩ := hmode.isLast hi (by omega)
      simp only [hst] at hwg
      obtain ⟨g', hgo, q, hq⟩ := hx (by simpa using hwg)
      have hrun' : g'.status = .running := by
        cases q with
        | zero => exact absurd hq.2 (by decide)
        | succ q => exact hq.elim (fun x => absurd x.2 (by decide)) (fun x => x.1)
      refine bookG hgo (RM.of_wg rfl (hwg.setSm 1)) (fun i' _ => chW _ _ rfl _ (O.chWg i')) (hwg.setSm 1) (es := semEvents (smA Φ.Wg)) ?_ ?_ (.quit hq) (by simp [deafBehind, semEvents]) (by omega) (by omega) ?_ (fun e => absurd e (nr (by omega))) (.inl ⟨by omega, by simp [cntD]⟩)
      · intro e he
        simp [semEvents] at he
        rcases he with rfl | rfl | rfl | rfl
        · exact .inl rfl
        · exact bk_cell _ _ rfl
        · exact bk_cell _ _ rfl
        · exact .inr (.inl rfl)
      · intro jx e he
        match jx, he with
        | 0, he => simp [semEvents] at he; subst he; exact .inl rfl
        | 1, _ => exact .inr (by simp [deafBehind, semEvents])
        | 2, _ => exact .inr (by simp [deafBehind, semEvents])
        | 3, he => simp [semEvents] at he; subst he; exact .inl rfl
        | jx + 4, he => simp [semEvents] at he
      · intro tag' ht hw
        have hnb := hw hmw hrun'
        have e3 : isUp tag' := by
          rcases ht with rfl | ⟨_, rfl⟩ | ⟨_, _, rfl, _⟩
          · cases tag' <;> first | trivial | exact hW3.elim | exact absurd rfl hnb
          · trivial
          · exact hW3.elim
        simp only [if_true]
        exact .sema e3 fun a ha => by
          by_cases e : a = i
          · subst e; rw [upd_same]
          · rw [upd_ne D _ e]; exact hoth a ha e
    · obtain ⟨g', w', es, hgo, ⟨rfl, rfl⟩, hg'⟩ := hstep w (RW.refl w)
      exact idle hgo (.d4 hg') rfl (by omega) (by omega)
  | quit h =>
    cases m with
    | zero => rw [h.1] at hrun; cases hrun
    | succ q =>
      rcases h with ⟨hf, _⟩ | ⟨_, g', es, hmute, hstep, hq⟩
      · rw [hf] at hrun; cases hrun
      · have hbk : ∀ e ∈ es, Bk Φ.Wg e := fun e he => bk_of_mute (hmute e he)
        have hno : ∀ jx e, es[jx]? = some e → (MemAct.ofEvent e).touch? = none ∨ 0 < deafBehind dd (es.extract 0 jx) := fun jx e he => .inl (touch_mute (hmute e (Array.mem_of_getElem? he)))
        refine book (hstep w) (RM.refl w) (fun _ _ => rfl) hwg hbk hno (.quit hq) rfl (by omega) (by omega) (by have := hmode.same (i := i) q (deafBehind dd es); rwa [hst] at this) (fun e => (hacq e).app fun i' r hi' hr => ?_) (.inr ⟨rfl, rfl⟩)
        by_cases e' : i' = i
        · subst e'; exact hr.book hdk _ _ hbk hno
        · exact hr.other fun op hop => by obtain ⟨e, _, rfl⟩ := Go.Conc.mem_ofEvents hop; show Φ.m0 + i ≠ _; omega
end
end

section
open Go.Conc
open Go.ConcN (WgLive sumTo upd sumTo_upd upd_ne upd_same Deaf_still sumTo_congr le_sumTo sumTo_le bk_cell sumTo_upd_out)
open Go.ConcR (KK WgAt stA smA rd wr mk DC0 Bk bk_of_mute ofEvent_loc_mark ofEvent_mk)

section
variable {Φ : Ph} {gs gs' : Array Goroutine} {w w' : World} {sl : Option (Nat × Nat)} {j : Nat} {D D' : Nat → WD} {tag tag' : Tag} {f0 f' d0 d0' : Nat} {qs : Nat → Nat} {a a' : Goroutine} {t t' : Trace} {st sm st' sm' : Int} {es : Array Event}

theorem ok0_evM {B : Nat} {e : Event} (h : EvM Φ j B e) : Ok0 Φ.H Φ.Wg Φ.Rd j (.ofEvent e) ∧ (MemAct.ofEvent e).low B ∧ e.loc ≠ .mark .disable ∧ e.loc ≠ .mark .enable := by
  rcases h with ⟨a, wr, rfl, h1, h2, h3, h4⟩ | h
  · have hof : MemAct.ofEvent ⟨.cell a, wr, false⟩ = .access ⟨.cell a, wr, false⟩ := by cases wr <;> rfl
    rw [hof]
    refine ⟨⟨by simp, fun x hx => ?_⟩, h3, by simp, by simp⟩
    simp only [MemAct.touch?, Option.some.injEq] at hx
    subst hx
    exact .inr ⟨rfl, fun ⟨b, e, hb⟩ => (by cases e; exact h2 hb), a, rfl, h1, h4⟩
  · rw [ofEvent_loc_mark h]
    exact ⟨⟨by simp, fun x hx => by cases hx⟩, trivial, by rw [h]; simp, by rw [h]; simp⟩

theorem ok0_bk {H : Nat → Prop} {Rd : Nat → Nat → Prop} {Wg B : Nat} {e : Event} (hB : Wg < B) (h : Bk Wg e) : Ok0 H Wg Rd j (.ofEvent e) ∧ (MemAct.ofEvent e).low B := by
  rcases h with h | h | ⟨a, wr, rfl, ha⟩
  · rw [ofEvent_loc_mark h]; exact ⟨⟨by simp, fun x hx => by cases hx⟩, trivial⟩
  · rw [ofEvent_loc_mark h]; exact ⟨⟨by simp, fun x hx => by cases hx⟩, trivial⟩
  · have hk : ∀ x, (MemAct.ofEvent ⟨.cell a, wr, true⟩).touch? = some x → x.loc = .cell a ∧ x.kind = .atomic := by
      intro x hx
      cases wr <;> simp [MemAct.ofEvent, MemAct.touch?] at hx <;> subst hx <;> exact ⟨rfl, rfl⟩
    refine ⟨⟨by cases wr <;> simp [MemAct.ofEvent], fun x hx => .inl ⟨⟨a, (hk x hx).1, ha⟩, by rw [(hk x hx).2]; simp⟩⟩, ?_⟩
    cases wr <;> (show a.block < B; omega)

theorem Chans.keepC (h : Chans Φ j D tag w) (hb : ∀ i, i < j → w'.heap[Φ.ch i]? = w.heap[Φ.ch i]?) (hr : ∀ i, i < j → rcvd Φ.n Φ.q tag' i = rcvd Φ.n Φ.q tag i) (hp : ∀ c l, tag' = .pk c l → tag = .pk c l) : Chans Φ j D tag' w' :=
  ⟨fun i hi => by rw [hb i hi, hr i hi]; exact h.at' i hi, fun c l e => h.pk c l (hp c l e)⟩

theorem idleC (O : Φ.Ok) (ha : gs[0]? = some a) (hcom : Com Φ j gs w t D d0 qs) (hwg : WgAt Φ.ty Φ.Wg w st sm) (hmode : Mode j D tag st sm) (hchs : Chans Φ j D tag w) (hacq : tag = .fin → AcqK Φ.Wg Φ.m0 j t)
    (hgo : stepG Φ.P true a w = .go a' w' es) (hD : DM Φ j w w' es) (hjn : j ≤ Φ.n) (hcs' : CSit Φ tag j f' d0 a' w') (hf : f' < f0) : Step1 Φ (crowd gs w sl) t 0 (meas Φ j D tag f0 qs) := by
  have hlt : Φ.Wg < w.heap.size := wgLive_lt ⟨_, _, hwg⟩
  have hdf : deafBehind d0 es = d0 := deafBehind_still (fun e he => (ok0_evM (hD.ev e he)).2.2) d0
  exact callerStep O ha hcom hgo (fun i hi => hD.rw O hi (hcom.rdl i hi)) hD.size hD.os hD.output (fun b hb => hD.fix b (Nat.lt_of_lt_of_le hb hcom.bsz) fun hm => by have := O.mwB j b hm; omega) (hD.plain hcom.plain)
    (fun e he => (ok0_evM (hD.ev e he)).1) (fun e he => (ok0_evM (hD.ev e he)).2.1) (by rw [hdf]; exact hcs') (WgAt.of_block hwg (hD.fix _ hlt (O.mwWg j))) hmode
    (hchs.keepC (fun i hi => hD.fix _ (Array.getElem?_eq_some_iff.1 (hchs.at' i hi).1).1 (O.mwCh i j hi)) (fun _ _ => rfl) fun _ _ e => e)
    (fun e => (hacq e).app fun i r _ hr => hr.other fun op hop => by obtain ⟨e, _, rfl⟩ := Go.Conc.mem_ofEvents hop; have := O.m0; show 0 ≠ _; omega) (.inr ⟨rfl, hf⟩)

theorem dm_nil {w : World} : DM Φ j w w #[] := ⟨rfl, rfl, Nat.le_refl _, fun _ _ _ => rfl, id, by simp⟩

theorem bookC (O : Φ.Ok) (ha : gs[0]? = some a) (hcom : Com Φ j gs w t D d0 qs) (hwg : WgAt Φ.ty Φ.Wg w st sm) (hchs : Chans Φ j D tag w)
    (hgo : stepG Φ.P true a w = .go a' w' es) (hM : RM Φ j w w') (hb : ∀ b, b ≠ Φ.Wg → w'.heap[b]? = w.heap[b]?) (hwg' : WgAt Φ.ty Φ.Wg w' st' sm')
    (hok : ∀ e ∈ es, Ok0 Φ.H Φ.Wg Φ.Rd j (.ofEvent e) ∧ (MemAct.ofEvent e).low w.heap.size) (hcs' : CSit Φ tag' j f' (deafBehind d0 es) a' w')
    (hmode' : Mode j D tag' st' sm') (hr : ∀ i, i < j → rcvd Φ.n Φ.q tag' i = rcvd Φ.n Φ.q tag i) (hp : ∀ c l, tag' ≠ .pk c l) (hne : tag' = .fin → AcqK Φ.Wg Φ.m0 j (t ++ MemOp.ofEvents 0 a.frame.fn a.frame.place es))
    (hlt : phi Φ.n Φ.q (Vc j D) tag' < phi Φ.n Φ.q (Vc j D) tag ∨ (phi Φ.n Φ.q (Vc j D) tag' = phi Φ.n Φ.q (Vc j D) tag ∧ f' < f0)) : Step1 Φ (crowd gs w sl) t 0 (meas Φ j D tag f0 qs) :=
  callerStep O ha hcom hgo (fun i _ => hM.rw O) (by rw [hM.size]; exact Nat.le_refl _) hM.os hM.output (hM.old O) (hM.plain hcom.plain) (fun e he => (hok e he).1) (fun e he => by rw [hM.size]; exact (hok e he).2) hcs' hwg' hmode'
    (hchs.keepC (fun i _ => hb _ (O.chWg i)) hr fun c l e => absurd e (hp c l)) hne hlt

theorem comm_trace0 (O : Φ.Ok) (hcom : Com Φ j gs w t D d0 qs) {fn : FuncId} {pos : String} (hes : ∀ e ∈ es, EvM Φ j w.heap.size e) {S : Array MemOp} (hS : ∀ op ∈ S, CommAct w.heap.size op.act) :
    PT Φ.H Φ.Wg Φ.B0 Φ.Rd Φ.m0 j (t ++ (MemOp.ofEvents 0 fn pos es ++ S)) ∧ (∀ x, Deaf (t ++ (MemOp.ofEvents 0 fn pos es ++ S)) x = Deaf t x) ∧
    (∀ k r, k ≠ 0 → RelK Φ.Wg t k r → RelK Φ.Wg (t ++ (MemOp.ofEvents 0 fn pos es ++ S)) k r) ∧ ∀ op ∈ t ++ (MemOp.ofEvents 0 fn pos es ++ S), op.act.low w.heap.size := by
  have hgops : ∀ op ∈ MemOp.ofEvents 0 fn pos es, op.g = 0 := fun op hop => by obtain ⟨e, _, rfl⟩ := Go.Conc.mem_ofEvents hop; rfl
  rw [← Array.append_assoc]
  have p1 : PT Φ.H Φ.Wg Φ.B0 Φ.Rd Φ.m0 j (t ++ MemOp.ofEvents 0 fn pos es) := hcom.pt.app0 O.lies hgops fun op hop => by obtain ⟨e, he, rfl⟩ := Go.Conc.mem_ofEvents hop; exact (ok0_evM (hes e he)).1
  refine ⟨?_, fun x => ?_, fun k r hk hr => ?_, ?_⟩
  · have := PT.mutes S.toList p1 (fun op hop => (hS op (by simpa using hop)).still.1) (fun op hop => (hS op (by simpa using hop)).still.2.1 _)
    simpa using this
  · rw [Deaf_still _ _ _ fun op hop => ⟨(hS op hop).still.2.2.1, (hS op hop).still.2.2.2.1⟩]
    by_cases e : 0 = x
    · subst e
      rw [Deaf_own]
      exact deafBehind_still (fun e he => (ok0_evM (hes e he)).2.2) _
    · exact Deaf_other t e _ hgops
  · exact (hr.other fun op hop => by rw [hgops op hop]; exact fun e => hk e.symm).mutes fun op hop => (hS op hop).still.1
  · exact low_app (low_app hcom.low (Nat.le_refl _) fun op hop => by obtain ⟨e, he, rfl⟩ := Go.Conc.mem_ofEvents hop; exact (ok0_evM (hes e he)).2.1) (Nat.le_refl _) fun op hop => (hS op hop).still.2.2.2.2

theorem Com.recv (O : Φ.Ok) (hcom : Com Φ j gs w t D d0 qs) (hM : RM Φ j w w') (x : Goroutine) {fn : FuncId} {pos : String} (hes : ∀ e ∈ es, EvM Φ j w.heap.size e) {S : Array MemOp} (hS : ∀ op ∈ S, CommAct w.heap.size op.act) :
    Com Φ j (gs.setIfInBounds 0 x) w' (t ++ (MemOp.ofEvents 0 fn pos es ++ S)) D d0 qs := by
  have hm0 := O.m0
  obtain ⟨t1, t2, t3, t4⟩ := comm_trace0 O hcom (fn := fn) (pos := pos) hes hS
  refine hcom.step (by simp) (fun i hi => ?_) (fun x y h0 h1 hy _ => by rw [Array.getElem?_setIfInBounds_ne (by omega)]; exact hy) (fun x _ _ => t2 x) t1 (by rw [t2, hcom.deaf0]) (fun i hi => by rw [t2, hcom.deafW i hi]) (fun i hi hs => ?_)
    (by rw [hM.size]; exact t4) (by rw [hM.size]; exact Nat.le_refl _) hM.os hM.output (hM.old O) (hM.plain hcom.plain) hm0
  · obtain ⟨y, hy, hsy⟩ := hcom.wk i hi
    exact ⟨y, by rw [Array.getElem?_setIfInBounds_ne (by omega)]; exact hy, hsy.rely (hM.rw O)⟩
  · obtain ⟨r, hr⟩ := hcom.rel i hi hs
    exact ⟨r, t3 _ r (by omega) hr⟩

theorem Mode.openTo (h : Mode j D tag st sm) (h1 : isOpen tag) (h2 : isOpen tag') (hp : pend tag' = pend tag) (hw : ∀ vs, tag' = .w2 vs → Vc j D ≤ vs ∧ 1 ≤ vs) : Mode j D tag' st sm := by
  obtain ⟨o1, o2, o3, _⟩ := h.open_inv h1
  rw [o2, o3, ← hp]
  exact .opn h2 o1 hw

theorem bk_said {H : Nat → Prop} {Rd : Nat → Nat → Prop} {Wg B : Nat} (hB : Wg < B) {m : Mark} (hm : m = .read (smA Wg) ∨ m = .write (smA Wg)) : ∀ e ∈ #[mk m], Ok0 H Wg Rd j (.ofEvent e) ∧ (MemAct.ofEvent e).low B := by
  intro e he
  simp at he
  subst he
  rcases hm with rfl | rfl
  · exact ⟨⟨by simp [mk, MemAct.ofEvent], fun x hx => by simp [mk, MemAct.ofEvent, MemAct.touch?] at hx; subst hx; exact .inl ⟨⟨_, rfl, rfl⟩, by simp⟩⟩, hB⟩
  · exact ⟨⟨by simp [mk, MemAct.ofEvent], fun x hx => by simp [mk, MemAct.ofEvent, MemAct.touch?] at hx; subst hx; exact .inl ⟨⟨_, rfl, rfl⟩, by simp⟩⟩, hB⟩

set_option maxHeartbeats 1600000 in
theorem recvStep (O : Φ.Ok) (ha : gs[0]? = some a) {c l m : Nat} (hc : c < Φ.n) (hl : l ≤ Φ.q) (hcom : Com Φ Φ.n gs w t D 0 qs) (hwg : WgAt Φ.ty Φ.Wg w st sm) (hmode : Mode Φ.n D (.rv (c + 1) l) st sm) (hchs : Chans Φ Φ.n D (.rv (c + 1) l) w)
    (hx : ∀ w₁, RM Φ Φ.n w w₁ → AtRv Φ (RvAll Φ c) (Φ.n - (c + 1)) l a w₁) : Step1 Φ (crowd gs w sl) t 0 (meas Φ Φ.n D (.rv (c + 1) l) (m + 1) qs) := by
  have hm0 := O.m0
  have hci : Φ.n - (c + 1) < Φ.n := by omega
  obtain ⟨hch, hrs⟩ := hchs.at' _ hci
  have hr0 : rcvd Φ.n Φ.q (.rv (c + 1) l) (Φ.n - (c + 1)) = Φ.q - l := by simp [rcvd]
  rw [hr0] at hch hrs
  have hclt := (Array.getElem?_eq_some_iff.1 hch).1
  have hsle : sent Φ.q (D (Φ.n - (c + 1))) ≤ Φ.q := by simp only [sent]; omega
  have hpart : partners (gs.setIfInBounds 0 ph) (Φ.ch (Φ.n - (c + 1))) true = [] := partners_nil fun x y hy => by
    rcases getElem?_stand gs _ x y hy with ⟨_, rfl⟩ | ⟨hx0, hy'⟩
    · exact offersAt_ph _ _
    · exact others_offer hcom hx0 hy' _ _
  obtain ⟨z, es, hgo, hes⟩ : ∃ z es, stepG Φ.P true a w = .comm (core a) #[rcase (Φ.ch (Φ.n - (c + 1))) z] true (.recv true) w es ∧ ∀ e ∈ es, EvM Φ Φ.n w.heap.size e := by
    have := hx w (RM.refl w)
    cases l <;> exact let ⟨_, z, es, h1, h2, _⟩ := this; ⟨z, es, h1, h2⟩
  have hgo' : stepG Φ.P (0 == 0) a w = .comm (core a) #[rcase (Φ.ch (Φ.n - (c + 1))) z] true (.recv true) w es := hgo
  have hset : ∀ x : Goroutine, (gs.setIfInBounds 0 x)[0]? = some x := fun x => by rw [Array.getElem?_setIfInBounds_self_of_lt (by rw [hcom.size]; omega)]
  by_cases hemp : sent Φ.q (D (Φ.n - (c + 1))) = Φ.q - l
  · -- nothing lies in it
    rw [hemp, bufOf_nil (Nat.le_refl _)] at hch
    by_cases h7 : (D (Φ.n - (c + 1))).stage ≤ 7
    · -- it is closed
      obtain rfl : l = 0 := by have : sent Φ.q (D (Φ.n - (c + 1))) = Φ.q := by simp only [sent]; omega
                               omega
      rw [decide_eq_true h7] at hch
      have hR := crowd_recv_closed (P := Φ.P) (sl := sl) ha hgo' hch hpart
      rw [finishComm_recv] at hR
      have hS : ∀ op ∈ #[({ g := 0, fn := (core a).frame.fn, pos := (core a).frame.place, act := .recvClosed (Φ.ch (Φ.n - (c + 1))) } : MemOp)], CommAct w.heap.size op.act := by
        intro op hop; simp at hop; subst hop; exact hclt
      have hcom' := hcom.recv O (RM.refl w) (Go.Conc.served (core a) (recvd true z false)) (fn := a.frame.fn) (pos := a.frame.place) hes hS
      have hnext : RvAll Φ c (Go.Conc.served (core a) (recvd true z false)) w := by
        obtain ⟨_, z', es', h1, _, h3⟩ := hx w (RM.refl w)
        have e := hgo.symm.trans h1
        injection e with _ e2
        have ez : z = z' := by
          have := congrArg (fun x : Array CommCase => (x[0]?).map (·.zero)) e2
          simpa [rcase] using this
        subst ez
        exact h3 w (RM.refl w)
      cases c with
      | zero =>
        obtain ⟨m₂, hk⟩ := hnext
        refine ⟨_, _, meas Φ Φ.n D .kd m₂ qs, hR, Prod.Lex.left _ _ (by simp only [phi]; omega), _, _, sl, Φ.n, D, .kd, m₂, 0, qs, _, st, sm, rfl, hset _, .kd hk, hcom', hwg, hmode.openTo trivial trivial rfl (by simp),
          hchs.keepC (fun _ _ => rfl) (fun i hi => ?_) (by simp), by simp, rfl⟩
        simp only [rcvd]
        split
        · rfl
        · rw [if_pos (by omega)]; omega
      | succ c =>
        obtain ⟨m₂, hk⟩ : ∃ m, Goes Φ.P true (RM Φ Φ.n) (DM Φ Φ.n) (AtRv Φ (RvAll Φ c) (Φ.n - (c + 1)) Φ.q) m (Go.Conc.served (core a) (recvd true z false)) w := by
          have : RvIn Φ (RvAll Φ c) (Φ.n - (c + 1)) Φ.q (Go.Conc.served (core a) (recvd true z false)) w := hnext
          revert this
          generalize Φ.q = q0
          cases q0 <;> exact id
        refine ⟨_, _, meas Φ Φ.n D (.rv (c + 1) Φ.q) (m₂ + 1) qs, hR, Prod.Lex.left _ _ ?_, _, _, sl, Φ.n, D, .rv (c + 1) Φ.q, m₂ + 1, 0, qs, _, st, sm, rfl, hset _, .rv (by omega) (Nat.le_refl _) hk, hcom', hwg, hmode.openTo trivial trivial rfl (by simp),
          hchs.keepC (fun _ _ => rfl) (fun i hi => ?_) (by simp), by simp, rfl⟩
        · simp only [phi, show c + 1 + 1 = (c + 1) + 1 from rfl, Nat.add_mul (c + 1) 1]; omega
        · simp only [rcvd]
          by_cases h1 : i < Φ.n - (c + 1 + 1)
          · rw [if_pos (by omega), if_pos h1]
          · rw [if_neg h1]
            by_cases h2 : i = Φ.n - (c + 1 + 1)
            · rw [if_pos (by omega), if_pos h2]; omega
            · rw [if_neg (by omega), if_neg h2]
              split
              · omega
              · rfl
    · -- it is open: it waits
      rw [decide_eq_false h7] at hch
      have hR := crowd_waits (P := Φ.P) (sl := sl) ha hgo' (fun cc hcc => by simp only [List.mem_toArray, List.mem_singleton] at hcc; subst hcc; exact ways_recv_none hch hpart)
      refine ⟨_, _, meas Φ Φ.n D (.pk (c + 1) l) 0 qs, hR, Prod.Lex.right _ (by omega), _, _, sl, Φ.n, D, .pk (c + 1) l, 0, 0, qs, _, st, sm, rfl, hset _, .pk hc hl hx, ?_, hwg, hmode.openTo trivial trivial rfl (by simp),
        ⟨fun i hi => hchs.at' i hi, fun c' l' e => by cases e; exact ⟨by omega, hemp⟩⟩, by simp, rfl⟩
      have := hcom.recv O (RM.refl w) (parked (core a) #[rcase (Φ.ch (Φ.n - (c + 1))) z] (.recv true)) (fn := a.frame.fn) (pos := a.frame.place) hes (S := #[]) (by simp)
      simpa using this
  · -- a value lies in it
    obtain ⟨l, rfl⟩ : ∃ l', l = l' + 1 := ⟨l - 1, by omega⟩
    have hlt : Φ.q - (l + 1) < sent Φ.q (D (Φ.n - (c + 1))) := by omega
    have hR := crowd_recv_buf (P := Φ.P) (sl := sl) ha hgo' hch (by rw [bufOf_size]; omega) hpart
    rw [bufOf_get hlt, bufOf_tail hlt, finishComm_recv, show Φ.q - (l + 1) + 1 = Φ.q - l by omega] at hR
    have hS : ∀ op ∈ #[({ g := 0, fn := (core a).frame.fn, pos := (core a).frame.place, act := .recv (Φ.ch (Φ.n - (c + 1))) (Φ.q - (l + 1)) Φ.q } : MemOp), { g := 0, fn := (core a).frame.fn, pos := (core a).frame.place, act := .recvDone (Φ.ch (Φ.n - (c + 1))) (Φ.q - (l + 1)) }], CommAct w.heap.size op.act := by
      intro op hop; simp at hop; rcases hop with rfl | rfl <;> exact hclt
    have hM := RM.of_chan (w := w) O hci Φ.q (bufOf (Φ.ans (Φ.n - (c + 1))) (Φ.q - l) (sent Φ.q (D (Φ.n - (c + 1))))) (decide ((D (Φ.n - (c + 1))).stage ≤ 7)) (sent Φ.q (D (Φ.n - (c + 1)))) (Φ.q - l) false
    have hcom' := hcom.recv O hM (Go.Conc.served (core a) (recvd true (Φ.ans (Φ.n - (c + 1)) (Φ.q - (l + 1))) true)) (fn := a.frame.fn) (pos := a.frame.place) hes hS
    obtain ⟨m₂, hk⟩ : ∃ m, Goes Φ.P true (RM Φ Φ.n) (DM Φ Φ.n) (AtRv Φ (RvAll Φ c) (Φ.n - (c + 1)) l) m (Go.Conc.served (core a) (recvd true (Φ.ans (Φ.n - (c + 1)) (Φ.q - (l + 1))) true))
        (w.setChan (Φ.ch (Φ.n - (c + 1))) Φ.q (bufOf (Φ.ans (Φ.n - (c + 1))) (Φ.q - l) (sent Φ.q (D (Φ.n - (c + 1))))) (decide ((D (Φ.n - (c + 1))).stage ≤ 7)) (sent Φ.q (D (Φ.n - (c + 1)))) (Φ.q - l) false) := by
      obtain ⟨_, _, _, _, _, h3⟩ := hx w (RM.refl w)
      have := h3 _ hM
      cases l <;> exact this
    refine ⟨_, _, meas Φ Φ.n D (.rv (c + 1) l) (m₂ + 1) qs, hR, Prod.Lex.left _ _ (by simp only [phi]; omega), _, _, sl, Φ.n, D, .rv (c + 1) l, m₂ + 1, 0, qs, _, st, sm, rfl, hset _, .rv hc (by omega) hk, hcom',
      WgAt.of_block hwg (chan_heap _ _ _ _ _ _ _ _ (fun e => O.chWg _ e.symm)), hmode.openTo trivial trivial rfl (by simp), ⟨fun i hi => ?_, by simp⟩, by simp, rfl⟩
    by_cases e : i = Φ.n - (c + 1)
    · subst e
      have hr1 : rcvd Φ.n Φ.q (.rv (c + 1) l) (Φ.n - (c + 1)) = Φ.q - l := by simp [rcvd]
      rw [chan_at hch, hr1]
      exact ⟨rfl, by omega⟩
    · have hr1 : rcvd Φ.n Φ.q (.rv (c + 1) l) i = rcvd Φ.n Φ.q (.rv (c + 1) (l + 1)) i := by simp only [rcvd, if_neg e]
      rw [chan_heap _ _ _ _ _ _ _ _ (fun x => e (O.chInj i _ hi hci x)), hr1]
      exact hchs.at' i hi
end
end

end Go.Proofs.YtfiaiephbemdoaaDoor
