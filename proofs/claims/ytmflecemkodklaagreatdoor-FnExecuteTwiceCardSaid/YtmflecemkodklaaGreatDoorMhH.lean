/-
  What the laws of this claim lean on: what functions of the program and of the model answer, one after another, and plain mathematics. No condition.
-/
import Derived.Test.YtmflecemkodklaaGreatDoorMhA
import Derived.Test.YtmflecemkodklaaGreatDoorMhC
import Derived.Test.YtmflecemkodklaaGreatDoorMhD
import Derived.Test.YtmflecemkodklaaGreatDoorMhF
import Derived.Test.YtmflecemkodklaaGreatDoorMhG
import Derived.Shelf.RegionOpen
import Derived.Maps.AppendAt
import Derived.Defers
import Derived.Recover
import Derived.Laws.Pointers
import Derived.Test.YtmflecemkodklaaGreatDoorRows
import Derived.Lib.LaidTab
import Derived.MakeChecks
import Derived.LaidHandle
import Derived.HandedShaped
import Derived.Handed
import Derived.Shelf.Vars
import Derived.Lay
import Derived.LaidMore
import Derived.OpenShut
import Derived.Stop.Joined
import Derived.SevenTiedAt
import Derived.Test.YtmflecemkodklaaGreatDoorCards
import Derived.Test.YtmflecemkodklaaGreatDoorTie
import Derived.JoinedOf
import Derived.ProofKit

set_option linter.unusedVariables false
set_option linter.unusedSimpArgs false
set_option linter.unnecessarySimpa false
set_option maxRecDepth 100000

namespace Go.Proofs.YtmflecemkodklaaGreatDoor

section
open Go.RowKit Go.Shelf

def splitW (w : World) (r : List UInt8) : World := ((w.alloc (.cells #[strV r] 9)).alloc (.cells #[strV [32]] 9)).alloc (.cells #[.int .i64 0] 3)
def splitF (B : Nat) : Value := .func (.func 254) #[] #[.pointer (some ⟨B + 1, 0, none⟩), .pointer (some ⟨B, 0, none⟩), .pointer (some ⟨B + 1 + 1, 0, none⟩)]
theorem splitSeqIn_v (n : Nat) (r : List UInt8) (w : World) : CallsIn FS n Tryz.prog 199 #[strV r, strV [32], .int .i64 0] w fun e w' => e = .returned (splitF w.heap.size) ∧ w' = splitW w r := by
  have hro : FS.round = none := rfl
  have hde : FS.depth = none := rfl
  have hmf : ∀ (fn : Fn) (first cap : Array Value) (w : World), (Instr.makeFunc fn first cap).run Tryz.prog w = .ok (.func fn first cap) w := fun _ _ _ _ => rfl
  refine callsIn_of_wp Tryz.func199 rfl ⟨_, Tryz.func199⟩ ?_ rfl
  simp only [Tryz.ntmps199, List.size_toArray, List.length_cons, List.length_nil, Nat.reduceAdd, Nat.reduceSub, Array.replicate_succ, Array.replicate_zero, List.push_toArray, List.append_toArray, List.nil_append, List.cons_append]
  gi_wp2
  go_ret
  exact ⟨rfl, rfl⟩
theorem splitSeq_v (n : Nat) (r : List UInt8) (w : World) : CallsIn FS n Tryz.prog 131 #[strV r, strV [32]] w fun e w' => e = .returned (splitF w.heap.size) ∧ w' = splitW w r := by
  have hfs1 : FS.fn 199 := ⟨_, Tryz.func199⟩
  have hro : FS.round = none := rfl
  have hde : FS.depth = none := rfl
  refine callsIn_of_wp Tryz.func131 rfl ⟨_, Tryz.func131⟩ ?_ rfl
  simp only [Tryz.ntmps131, List.size_toArray, List.length_cons, List.length_nil, Nat.reduceAdd, Nat.reduceSub, Array.replicate_succ, Array.replicate_zero, List.push_toArray, List.append_toArray, List.nil_append, List.cons_append]
  gi_wp2_with (gi_at_call 199; refine (splitSeqIn_v _ r _).mono ?_; rintro e w' ⟨rfl, rfl⟩)
  go_ret
  exact ⟨rfl, rfl⟩

def textLen (w : World) (a : Addr) : Nat := match w.cell? a with
  | some (.string s) => s.size
  | _ => 0

theorem heap_set_other (w : World) (p : Addr) (v : Value) (k : Nat) (h : k ≠ p.block) : (w.setCell p v).heap[k]? = w.heap[k]? := by
  simp only [World.setCell, Array.getElem?_modify]
  rw [if_neg (fun e => h e.symm)]

def SplitAt (w : World) (B : Nat) (rest : List UInt8) : Prop := Boxed w B 9 (strV rest) ∧ Boxed w (B + 1) 9 (strV [32]) ∧ Boxed w (B + 1 + 1) 3 (.int .i64 0)
theorem splitAt_new (w : World) (r : List UInt8) : SplitAt (splitW w r) w.heap.size r := by
  have b1 := ((Boxed.new w 9 (strV r)).alloc (.cells #[strV [32]] 9)).alloc (.cells #[.int .i64 0] 3)
  have b2 := (Boxed.new (w.alloc (.cells #[strV r] 9)) 9 (strV [32])).alloc (.cells #[.int .i64 0] 3)
  have b3 := Boxed.new ((w.alloc (.cells #[strV r] 9)).alloc (.cells #[strV [32]] 9)) 3 (.int .i64 0)
  simp only [World.size_alloc] at b1 b2 b3
  exact ⟨b1, b2, b3⟩

attribute [local go_sem] Oper.semAt_some

set_option maxHeartbeats 4000000 in
theorem splitIter_in (n : Nat) (hn : 1 ≤ n) (l B : Nat) (r : List UInt8) (hr : r.length ≤ 1000) (J : List (List UInt8) → World → Prop) (Jp : List PanicEntry → World → Prop)
    (hSet : ∀ pre W (T : List UInt8), J pre W → J pre (W.setCell ⟨B, 0, none⟩ (strV T)))
    (hY : ∀ pre x W, J pre W → x.length ≤ 1000 → pre ++ [x] <+: piecesGo 32 [] r → YieldAt FS (n - 1) Tryz.prog l #[strV x] W fun e W' =>
      (e = .returned (.bool true) ∧ J (pre ++ [x]) W' ∧ ∀ k, B ≤ k → k ≤ B + 1 + 1 → W'.heap[k]? = W.heap[k]?) ∨ (∃ ch, e = .panicked ch ∧ Jp ch W'))
    (W : World) (hW : SplitAt W B r) (h0 : J [] W) :
    CallsIn FS n Tryz.prog 254 #[.func (.yield l) #[] #[], .pointer (some ⟨B + 1, 0, none⟩), .pointer (some ⟨B, 0, none⟩), .pointer (some ⟨B + 1 + 1, 0, none⟩)] W fun e W' =>
      ((∃ v, e = .returned v) ∧ J (piecesGo 32 [] r) W') ∨ (∃ ch, e = .panicked ch ∧ Jp ch W') := by
  have hfs1 : FS.fn 68 := ⟨_, Tryz.func68⟩
  have hro : FS.round = none := rfl
  have hde : FS.depth = none := rfl
  have c2 := hW.2.1.cell
  refine callsIn_of_wp Tryz.func254 rfl ⟨_, Tryz.func254⟩ ?_ rfl
  simp only [Tryz.ntmps254, List.size_toArray, List.length_cons, List.length_nil, Nat.reduceAdd, Nat.reduceSub, Array.replicate_succ, Array.replicate_zero, List.push_toArray, List.append_toArray, List.nil_append, List.cons_append]
  gi_wp2
  gi_loopw [7] (fun p wr => ∃ (pre : List (List UInt8)) (rest : List UInt8), piecesGo 32 [] r = pre ++ piecesGo 32 [] rest ∧ rest.length ≤ 1000 ∧ SplitAt wr B rest ∧ J pre wr)
    (fun p wr => textLen wr ⟨B, 0, none⟩)
  case atStart => exact ⟨[], r, rfl, hr, hW, h0⟩
  case round =>
    obtain ⟨pre, rest, hx, hrl, hS, hJs⟩ := hrel
    have c1 := hS.1.cell
    have c2 := hS.2.1.cell
    have c3 := hS.2.2.cell
    have f1 := hS.1.frozen
    have HX := Lib.hid hx
    have HS := Lib.hid hS
    have HJ := Lib.hid hJs
    have hI := fun n' => index_in n' rest wr
    have hge := Lib.index_ge rest [32]
    by_cases hno : Lib.index rest [32] = -1
    · have hp := pieces_miss 32 rest (index_miss hno) []
      have hlast : Hid (piecesGo 32 [] r = pre ++ [rest]) := Lib.hid (by rw [hx, hp]; rfl)
      have HI : Hid (∀ n', CallsIn FS n' Tryz.prog 68 #[strV rest, strV [32]] wr fun e w' => e = .returned (.int .i64 (-1)) ∧ w' = wr) := Lib.hid (fun n' => by have := hI n'; rw [hno] at this; exact this)
      obtain ⟨fn, tmps, assign, body, hy, hR⟩ := hY pre rest wr hJs hrl (by rw [hlast.out]; exact List.prefix_refl _)
      clear hx hp hI hno hge hJs hS
      gi_wp2_with (gi_at_call 68; refine (HI.out _).mono ?_; rintro e w' ⟨rfl, rfl⟩)
      refine hR.mono ?_
      rintro e W3 (⟨rfl, hJ3, hk3⟩ | ⟨ch, rfl, hJ3⟩)
      · gi_wp2
        go_end0
        exact .inl ⟨⟨_, rfl⟩, by rw [hlast.out]; exact hJ3⟩
      · exact ⟨rfl, .inr ⟨ch, rfl, hJ3⟩⟩
    · obtain ⟨i, hi⟩ : ∃ i : Nat, Lib.index rest [32] = i := ⟨(Lib.index rest [32]).toNat, by omega⟩
      obtain ⟨he, hu, hil⟩ := index_at hi
      have hp := pieces_hit 32 (rest.take i) hu [] (rest.drop (i + 1))
      rw [← he] at hp
      obtain ⟨N, hN⟩ : ∃ N, N = rest.length := ⟨_, rfl⟩
      have hsz : (⟨rest.toArray⟩ : ByteArray).size = N := by rw [hN]; rfl
      have hsa : rest.toArray.size = N := by rw [hN]; rfl
      have e1 : (⟨rest.toArray⟩ : ByteArray).extract 0 i = ⟨(rest.take i).toArray⟩ := by rw [str_extract]; rfl
      have e2 : (⟨rest.toArray⟩ : ByteArray).extract (i + 1) N = ⟨(rest.drop (i + 1)).toArray⟩ := by rw [str_extract, hN, List.take_length]
      have htl : (rest.take i).length ≤ 1000 := by rw [List.length_take]; omega
      have hdl : (rest.drop (i + 1)).length < N := by rw [List.length_drop]; omega
      obtain ⟨x, hxe⟩ : ∃ x, x = rest.take i := ⟨_, rfl⟩
      obtain ⟨T, hT⟩ : ∃ T, T = rest.drop (i + 1) := ⟨_, rfl⟩
      rw [← hxe] at e1 htl hp
      rw [← hT] at e2 hdl hp
      rw [← hN] at hil hrl
      have hnext : Hid (piecesGo 32 [] r = (pre ++ [x]) ++ piecesGo 32 [] T) := Lib.hid (by rw [hx, hp]; simp)
      have HI : Hid (∀ n', CallsIn FS n' Tryz.prog 68 #[strV rest, strV [32]] wr fun e w' => e = .returned (.int .i64 (i : Int)) ∧ w' = wr) := Lib.hid (fun n' => by have := hI n'; rw [hi] at this; exact this)
      have HQ2 : Hid (textLen wr ⟨B, 0, none⟩ = N) := Lib.hid (by
        unfold textLen
        rw [HS.out.1.cell]
        exact hsz)
      obtain ⟨fn, tmps, assign, body, hy, hR⟩ := hY pre x wr hJs htl ⟨_, hnext.out.symm⟩
      clear hx hp hI hno hge hJs hS hi he hu hxe hT hN htl
      gi_wp2_with (gi_at_call 68; refine (HI.out _).mono ?_; rintro e w' ⟨rfl, rfl⟩)
      refine hR.mono ?_
      rintro e W3 (⟨rfl, hJ3, hk3⟩ | ⟨ch, rfl, hJ3⟩)
      · have bS : SplitAt W3 B rest := ⟨(hk3 B (Nat.le_refl _) (by omega)).trans HS.out.1, (hk3 (B + 1) (by omega) (by omega)).trans HS.out.2.1, (hk3 (B + 1 + 1) (by omega) (by omega)).trans HS.out.2.2⟩
        have d1 := bS.1.cell
        have d2 := bS.2.1.cell
        have d3 := bS.2.2.cell
        have g1 := bS.1.frozen
        clear c1 c2 c3 f1
        have HBS := Lib.hid bS
        have HJ3 := Lib.hid hJ3
        clear bS hJ3 hk3
        gi_wp2
        go_roundw
        case rel =>
          refine ⟨pre ++ [x], T, hnext.out, by omega, ⟨HBS.out.1.set _, ?_, ?_⟩, hSet _ _ _ HJ3.out⟩
          · exact (heap_set_other W3 ⟨B, 0, none⟩ _ (B + 1) (by simp)).trans HBS.out.2.1
          · exact (heap_set_other W3 ⟨B, 0, none⟩ _ (B + 1 + 1) (by simp; omega)).trans HBS.out.2.2
        case measure =>
          have q1 : textLen (W3.setCell ⟨B, 0, none⟩ (strV T)) ⟨B, 0, none⟩ = T.length := by
            unfold textLen
            rw [(HBS.out.1.set (strV T)).cell]
            rfl
          rw [q1, HQ2.out]
          exact hdl
      · exact ⟨rfl, .inr ⟨ch, rfl, hJ3⟩⟩
end

section
open Go.RowKit Go.Shelf

def roundLeft (B : Nat) (I : List (List UInt8) → World → Prop) (Ip : List PanicEntry → World → Prop) (next : List (List UInt8)) (W : World) : Exit → Act → World → Prop
  | .normal, _, W' => KeepsOthers W W' ∧ (∀ k, B ≤ k → k ≤ B + 1 + 1 → W'.heap[k]? = W.heap[k]?) ∧ I next W'
  | .panic ch, a, W' => a.defers = [] ∧ KeepsOthers W W' ∧ Ip ch W'
  | _, _, _ => False

theorem range_panics {n : Nat} {g : Operand} {ps : Array Tmp} {assign body : Code} {Q : Exit → Act → World → Prop} {a : Act} {w : World} (B : Nat) (hn : 3 ≤ n)
    (hg : a.eval g = splitF B) (hps : ps.size = 1) (r : List UInt8) (hr : r.length ≤ 1000) (hS : SplitAt w B r)
    (I : List (List UInt8) → World → Prop) (Ip : List PanicEntry → World → Prop)
    (hIput : ∀ pre W l o o', I pre W → W.heap[l]? = some o' → o'.isCells = false → w.heap.size ≤ l → I pre (W.putObj l o)) (hIset : ∀ pre W (T : List UInt8), I pre W → I pre (W.setCell ⟨B, 0, none⟩ (strV T)))
    (hI0 : ∀ o o', I [] ((w.alloc o).alloc o')) (a₁ : List UInt8 → Act)
    (hassign : ∀ (l : Nat) (x : List UInt8) (W : World) (K : Act → World → Prop), K (a₁ x) W →
      assign.wpIn (FS.inRound l) (n - 1 - 1) Tryz.prog (Exit.then K (fun _ _ _ => False)) { tmps := (ps.zip #[strV x]).foldl (fun t (p, v) => t.setIfInBounds p v) a.tmps, defers := [] } W)
    (hbody : ∀ (l : Nat) (pre : List (List UInt8)) (x : List UInt8) (W : World), I pre W → x.length ≤ 1000 → pre ++ [x] <+: piecesGo 32 [] r → body.wpIn (FS.inRound l) (n - 1 - 1) Tryz.prog (roundLeft B I Ip (pre ++ [x]) W) (a₁ x) W)
    (hdone : ∀ W, I (piecesGo 32 [] r) W → W.heap[w.heap.size]? = some (.deferred (some [])) → Q .normal { a with defers := { target := .collected w.heap.size, args := #[] } :: a.defers } W)
    (hpan : ∀ ch W, Ip ch W → W.heap[w.heap.size]? = some (.deferred (some [])) → Q (.panic ch) { a with defers := { target := .collected w.heap.size, args := #[] } :: a.defers } W) :
    (Code.rangeFunc g ps assign body).wpIn FS n Tryz.prog Q a w := by
  have hfs1 : FS.fn 254 := ⟨_, Tryz.func254⟩
  have hBlt : B + 1 + 1 < w.heap.size := hS.2.2.lt
  refine wpIn_rangeFunc ?_
  intro fn hfn
  obtain ⟨fF, hfF⟩ := hfn
  obtain ⟨rec, hrec⟩ : ∃ rec : LoopState → Option Code → Loop, rec = fun st pe => { state := st, pending := pe, fn, tmps := a.tmps, params := ps, assign, body, defers := w.heap.size } := ⟨_, rfl⟩
  obtain ⟨W1, hW1⟩ : ∃ W1, (w.alloc (.deferred (some []))).alloc (.loop (rec .ready none)) = W1 := ⟨_, rfl⟩
  have hL1 : W1.heap[w.heap.size + 1]? = some (.loop (rec .ready none)) := by
    rw [← hW1]
    have := World.alloc_heap_new (w.alloc (.deferred (some []))) (.loop (rec .ready none))
    rwa [World.size_alloc] at this
  have hK1 : W1.heap[w.heap.size]? = some (.deferred (some [])) := by
    rw [← hW1]
    exact (Below.heap_alloc _ _ _ (by simp)).trans (World.alloc_heap_new w _)
  have hI1 : I [] W1 := by rw [← hW1]; exact hI0 _ _
  have hS1 : SplitAt W1 B r := by rw [← hW1]; exact ⟨(hS.1.alloc _).alloc _, (hS.2.1.alloc _).alloc _, (hS.2.2.alloc _).alloc _⟩
  refine ⟨w.heap.size + 1, [{ target := .collected w.heap.size, args := #[] }], W1, { target := .fn (.func 254) #[.pointer (some ⟨B + 1, 0, none⟩), .pointer (some ⟨B, 0, none⟩), .pointer (some ⟨B + 1 + 1, 0, none⟩)], args := #[.func (.yield (w.heap.size + 1)) #[] #[]] }, W1, 254,
    #[.func (.yield (w.heap.size + 1)) #[] #[], .pointer (some ⟨B + 1, 0, none⟩), .pointer (some ⟨B, 0, none⟩), .pointer (some ⟨B + 1 + 1, 0, none⟩)], W1, ?_, ?_, ?_, ?_, fun _ => by omega, ?_⟩
  · rw [← hW1, hrec]; exact run_enterLoop_outer _ _ _ _ _
  · unfold splitF at hg
    simp only [resolve, hg]
    simp [go_sem]
  · intro f' hf'
    simp [Target.leads] at hf'
    subst hf'
    exact hfs1
  · have eg := enters_of Tryz.func254 (by kernel_rfl) rfl
    simp [invoke, go_sem, eg]
  · refine (splitIter_in (n - 1) (by omega) (w.heap.size + 1) B r hr
      (fun pre W => I pre W ∧ W.heap[w.heap.size + 1]? = some (.loop (rec .ready none)) ∧ W.heap[w.heap.size]? = some (.deferred (some [])))
      (fun ch W => Ip ch W ∧ W.heap[w.heap.size]? = some (.deferred (some [])))
      (fun pre W T h => ⟨hIset pre W T h.1, (heap_set_other W ⟨B, 0, none⟩ (strV T) _ (by simp; omega)).trans h.2.1, (heap_set_other W ⟨B, 0, none⟩ (strV T) _ (by simp; omega)).trans h.2.2⟩)
      ?_ W1 hS1 ⟨hI1, hL1, hK1⟩).mono ?_
    · rintro pre x W ⟨hi, hl, hk⟩ hx hpre
      have hlt : w.heap.size + 1 < W.heap.size := (Array.getElem?_eq_some_iff.1 hl).1
      have hy := run_yield (P := Tryz.prog) (args := #[strV x]) hl (by rw [hrec]; exact hps.symm)
      rw [hrec] at hy
      refine ⟨fn, _, assign, body, hy, round_ends ⟨fF, hfF⟩ hfF (hassign _ x W _ ⟨_, run_beginRound hl (by rw [hrec]), ?_⟩)⟩
      obtain ⟨W2, hW2⟩ : ∃ W2, W2 = W.putObj (w.heap.size + 1) (.loop { rec .ready none with state := .busy }) := ⟨_, rfl⟩
      have hl2 : W2.heap[w.heap.size + 1]? = some (.loop { rec .ready none with state := .busy }) := by rw [hW2]; exact World.putObj_heap_same hlt
      have hk2 : W2.heap[w.heap.size]? = some (.deferred (some [])) := by rw [hW2]; exact (World.putObj_heap_other (by omega)).trans hk
      have hi2 : I pre W2 := by rw [hW2]; exact hIput _ _ _ _ _ hi hl rfl (by omega)
      have hb2 : ∀ k, B ≤ k → k ≤ B + 1 + 1 → W2.heap[k]? = W.heap[k]? := fun k _ h => by rw [hW2]; exact World.putObj_heap_other (by omega)
      rw [← hW2]
      refine wpIn_mono (hbody _ pre x W2 hi2 hx hpre) ?_
      rintro e a3 W3 hp
      cases e with
      | normal =>
        obtain ⟨hk3, hb3, hi3⟩ := hp
        have hl3 := hk3.same _ _ hl2 rfl
        have hend := run_endRound (P := Tryz.prog) none hl3
        refine ⟨_, _, hend, .inl ⟨rfl, ⟨hIput _ _ _ _ _ hi3 hl3 rfl (by omega), ?_, (World.putObj_heap_other (by omega)).trans (hk3.same _ _ hk2 rfl)⟩, fun k h1 h2 => ((World.putObj_heap_other (by omega)).trans (hb3 k h1 h2)).trans (hb2 k h1 h2)⟩⟩
        have := World.putObj_heap_same (o := .loop { ({ rec .ready none with state := .busy } : Loop) with state := if (none : Option Code).isNone then .ready else .done, pending := none }) (Array.getElem?_eq_some_iff.1 hl3).1
        rw [this, hrec]
        rfl
      | panic ch =>
        obtain ⟨hd3, hk3, hp3⟩ := hp
        exact ⟨hd3, .inr ⟨ch, rfl, hp3, hk3.same _ _ hk2 rfl⟩⟩
      | exit id => exact hp.elim
      | goto t => exact hp.elim
      | ret => exact hp.elim
      | outgrown => exact hp.elim
    · rintro e W2 (⟨⟨v, rfl⟩, hi, hl, hk⟩ | ⟨ch, rfl, hi, hk⟩)
      · have hend := run_endLoop (P := Tryz.prog) hl (by rw [hrec]; simp)
        rw [hrec] at hend
        exact ⟨none, _, hend, hdone _ (hIput _ _ _ _ _ hi hl rfl (by omega)) ((World.putObj_heap_other (by omega)).trans hk)⟩
      · exact hpan ch W2 hi hk

theorem cell_after_alloc {W w2 : World} {a : Addr} {v : Value} (c : W.cell? a = some v) (hb : Below W.heap.size W w2) (o : Obj) : (w2.alloc o).cell? a = some v := cell_after c (hb.alloc hb.size o)
theorem numsP_ok : ∀ (ps : List (List UInt8)) (out : List Int), (∀ p ∈ ps, okNum p = true) → numsP out ps = (out ++ ps.map (valFrom 0), true) := by
  intro ps
  induction ps with
  | nil => intro out _; simp [numsP]
  | cons p ps ih =>
    intro out h
    rw [numsP, if_pos (h p (by simp)), ih _ (fun q hq => h q (by simp [hq]))]
    simp
theorem numsP_bad : ∀ (ps : List (List UInt8)) (out : List Int) (x : List UInt8), x ∈ ps → okNum x = false → numsP out ps = ([], false) := by
  intro ps
  induction ps with
  | nil => intro out x hx; cases hx
  | cons p ps ih =>
    intro out x hx hk
    rw [numsP]
    by_cases hp : okNum p = true
    · rw [if_pos hp]
      rcases List.mem_cons.1 hx with rfl | h
      · rw [hp] at hk; cases hk
      · exact ih _ x h hk
    · rw [if_neg hp]
theorem keepsOthers_b {W W' : World} (h : Below W.heap.size W W') : KeepsOthers W W' := ⟨h.size, fun k o hk _ => by rw [h.block k (Array.getElem?_eq_some_iff.1 hk).1]; exact hk⟩
theorem own_box_ne {W : World} {B0 k : Nat} {v u : Value} {xs : List Int} {t : TypeId} (h : Own W B0 v xs) (hb : Boxed W k t u) (ht : t ≠ 3) : v.ownBlock ≠ some k := by
  intro he
  rcases h.2 with ⟨hv, _⟩ | ⟨g', cap, cur, hv, _, hh, _⟩
  · rw [hv] at he; simp [Value.ownBlock] at he
  · rw [hv] at he
    have : g' = k := by simpa [Value.ownBlock] using he
    subst this
    unfold Boxed at hb
    rw [hb] at hh
    injection hh with hh
    injection hh with _ h2
    exact ht h2
theorem own_put {W : World} {B0 l : Nat} {v : Value} {xs : List Int} {o o' : Obj} (h : Own W B0 v xs) (hl : W.heap[l]? = some o') (hc : o'.isCells = false) : Own (W.putObj l o) B0 v xs := by
  refine own_grown h (grownBy_putObj' W l o) (.inr fun he => ?_)
  rcases h.2 with ⟨hv, _⟩ | ⟨g', cap, cur, hv, _, hh, _⟩
  · rw [hv] at he; simp [Value.ownBlock] at he
  · rw [hv] at he
    have : g' = l := by simpa [Value.ownBlock] using he
    subst this
    rw [hl] at hh
    injection hh with hh
    rw [hh] at hc
    cases hc

def NumsAt (w : World) (pre : List (List UInt8)) (W : World) : Prop := (∀ p ∈ pre, okNum p = true) ∧ (∃ v, Boxed W w.heap.size 26 v ∧ Own W (w.heap.size + 4) v (pre.map (valFrom 0))) ∧ (∃ T, Boxed W (w.heap.size + 1) 9 (strV T)) ∧ Below w.heap.size w W ∧ w.heap.size + 4 ≤ W.heap.size
def NumsOut (w : World) (r : List UInt8) (e : Ending) (w' : World) : Prop :=
  ((numsL r).2 = true ∧ ∃ v, e = .returned v ∧ Own w' w.heap.size v (numsL r).1 ∧ Below w.heap.size w w') ∨ ((numsL r).2 = false ∧ Bad w noT e w')

theorem grown_of_b {w w1 w2 : World} {row : Option Nat} (h1 : Below w.heap.size w w1) (h2 : w1.grownBy w2 row) : w.grownBy w2 row :=
  ⟨h2.os.trans h1.os, h2.tape.trans h1.tape, h2.output.trans h1.output, Nat.le_trans h1.size h2.size, fun k hk hr => (h2.block k (by have := h1.size; omega) hr).trans (h1.block k hk)⟩
theorem nums_append {W w2 : World} {v : Value} {xs : List Int} {N : Nat} (z : Int) (h3 : Own W (N + 4) v xs) (hl : xs.length ≤ 1002) (hb : Below W.heap.size W w2) (hN : N + 4 ≤ W.heap.size) :
    ∃ g' n' cap' w3, (Builtin.append_ #[26, 26] 26 #[v, .slice (some ⟨w2.heap.size, 0, none⟩) 1 1]).run Tryz.prog (w2.alloc (.cells #[.int .i64 z] 3)) = .ok (.slice (some ⟨g', 0, none⟩) n' cap') w3 ∧ Own w3 (N + 4) (.slice (some ⟨g', 0, none⟩) n' cap') (xs ++ [z]) ∧ W.grownBy w3 v.ownBlock ∧ (∀ k, v.ownBlock = some k → N + 4 ≤ k) := by
  obtain ⟨i0, hi, hz0, hz1, hz2⟩ := info_parts Tryz.infoInt
  have hox := own_below h3 hb
  have hs2 := hb.size
  obtain ⟨v', w3, hrun, hown', hgrow, _⟩ := run_append_own (P := Tryz.prog) (w2.alloc (.cells #[.int .i64 z] 3)) (N + 4) 26 26 3 i0 (.int .i64 0) 1 8 Tryz.underlying26 hi hz0 hz1 hz2 rfl (by decide) v _ _ (World.ownsRow.alloc hox _) ⟨w2.heap.size, 0, none⟩ 1 1 [.int .i64 z] rfl (cell_one_new _ _ _) (by simp [Value.oneCell']) (by unfold maxLen; omega) (by omega) (by simp; omega)
  have hown2 : Own w3 (N + 4) v' (xs ++ [z]) := by
    unfold Own
    rw [List.map_append, List.length_append]
    exact hown'
  have hgr := grown_of_b (hb.alloc hb.size _) hgrow
  have hlt := fun k hk => (yZz h3 k hk).1
  have h2 := hown2
  rcases h2.2 with ⟨_, hx⟩ | ⟨g', cap, cur, hv, _⟩
  · simp at hx
  · rw [hv] at hrun hown2
    exact ⟨g', _, cap, w3, hrun, hown2, hgr, hlt⟩

theorem nums_round {w W w3 : World} {pre : List (List UInt8)} {x : List UInt8} {z : Int} {v u : Value} {T : List UInt8} (h1 : ∀ p ∈ pre, okNum p = true) (hok : okNum x = true) (hz : z = valFrom 0 x) (h3 : Own W (w.heap.size + 4) v (pre.map (valFrom 0))) (h5 : Below w.heap.size w W)
    (h6 : w.heap.size + 4 ≤ W.heap.size) (h2 : Boxed W w.heap.size 26 v) (h4 : Boxed W (w.heap.size + 1) 9 (strV T)) (ho : Own w3 (w.heap.size + 4) u (pre.map (valFrom 0) ++ [z])) (hg : W.grownBy w3 v.ownBlock)
    (hbk : ∀ k, v.ownBlock = some k → w.heap.size + 4 ≤ k) (hb : Boxed w3 w.heap.size 26 v) :
    KeepsOthers W (w3.setCell ⟨w.heap.size, 0, none⟩ u) ∧ (∀ k, w.heap.size + 1 ≤ k → k ≤ w.heap.size + 1 + 1 + 1 → (w3.setCell ⟨w.heap.size, 0, none⟩ u).heap[k]? = W.heap[k]?) ∧ NumsAt w (pre ++ [x]) (w3.setCell ⟨w.heap.size, 0, none⟩ u) := by
  have hne : ∀ k, k ≠ w.heap.size → (w3.setCell ⟨w.heap.size, 0, none⟩ u).heap[k]? = w3.heap[k]? := fun k hk => heap_set_other w3 ⟨w.heap.size, 0, none⟩ _ k (by simp; omega)
  have h4' : Boxed w3 (w.heap.size + 1) 9 (strV T) := h4.kept hg (fun e => by have := hbk _ e.symm; omega)
  have hsz : (w3.setCell ⟨w.heap.size, 0, none⟩ u).heap.size = w3.heap.size := by simp [World.setCell]
  refine ⟨⟨?_, ?_⟩, ?_, ?_, ⟨u, hb.set _, ?_⟩, ⟨T, ?_⟩, ?_, ?_⟩
  · rw [hsz]; exact hg.size
  · intro k o hk ho'
    have hk0 : k ≠ w.heap.size := by
      rintro rfl
      unfold Boxed at h2
      rw [h2] at hk
      injection hk with hk
      rw [← hk] at ho'
      cases ho'
    rw [hne k hk0]
    refine (hg.block k (Array.getElem?_eq_some_iff.1 hk).1 (fun he => ?_)).trans hk
    rcases h3.2 with ⟨hv, _⟩ | ⟨g', cap, cur, hv, _, hh, _⟩
    · rw [hv] at he; simp [Value.ownBlock] at he
    · rw [hv] at he
      have : g' = k := by simpa [Value.ownBlock] using he.symm
      subst this
      rw [hk] at hh
      injection hh with hh
      rw [hh] at ho'
      cases ho'
  · intro k ha hb'
    rw [hne k (by omega)]
    exact hg.block k (by omega) (fun he => by have := hbk _ he.symm; omega)
  · intro p hp
    rcases List.mem_append.1 hp with h | h
    · exact h1 p h
    · rw [List.mem_singleton.1 h]; exact hok
  · rw [List.map_append, List.map_cons, List.map_nil, ← hz]
    exact own_grown ho (row := some w.heap.size) ⟨rfl, rfl, rfl, by simp [World.setCell], fun k _ hk => hne k (fun e => hk (by rw [e]))⟩ (.inr (fun he => by have := (yZz ho _ he).1; omega))
  · exact (hne _ (by omega)).trans h4'
  · exact (h5.grown hg h5.size (fun k e => by have := hbk k e; omega)).setCell (p := ⟨w.heap.size, 0, none⟩) (by simp) _
  · rw [hsz]; exact Nat.le_trans h6 hg.size

attribute [local go_sem] Oper.semAt_some
attribute [-go_sem] Builtin.append_

set_option maxHeartbeats 8000000 in
theorem numbersIn_in (r : List UInt8) (w : World) (hr : r.length ≤ 1000) : CallsIn FS 9 Tryz.prog 72 #[strV r] w (NumsOut w r) := by
  have hfs1 : FS.fn 131 := ⟨_, Tryz.func131⟩
  have hfs2 : FS.fn 132 := ⟨_, Tryz.func132⟩
  have hro : FS.round = none := rfl
  have hde : FS.depth = none := rfl
  have hnp : numsL r = numsP [] (piecesGo 32 [] r) := nums_pieces r [] []
  have hplen := pieces_len 32 r []
  obtain ⟨i0, hi, hz0, hz1, hz2⟩ := info_parts Tryz.infoInt
  refine callsIn_of_wp_marks Tryz.func72 rfl ⟨_, Tryz.func72⟩ ?_ rfl
  simp only [Tryz.ntmps72, List.size_toArray, List.length_cons, List.length_nil, Nat.reduceAdd, Nat.reduceSub, Array.replicate_succ, Array.replicate_zero, List.push_toArray, List.append_toArray, List.nil_append, List.cons_append]
  gi_wp2_with (gi_at_call 131; refine (splitSeq_v _ r _).mono ?_; rintro e w' ⟨rfl, rfl⟩)
  have hS := splitAt_new (w.alloc (.cells #[.slice none 0 0] 26)) r
  have bN : Boxed (splitW (w.alloc (.cells #[.slice none 0 0] 26)) r) w.heap.size 26 (.slice none 0 0) := (((Boxed.new w 26 (.slice none 0 0)).alloc _).alloc _).alloc _
  have hB0 : Below w.heap.size w (splitW (w.alloc (.cells #[.slice none 0 0] 26)) r) := ((((Below.refl _ w).alloc (Nat.le_refl _) _).alloc (by simp) _).alloc (by simp; omega) _).alloc (by simp; omega) _
  rw [World.size_alloc] at hS
  obtain ⟨W0, hW0⟩ : ∃ W0, W0 = splitW (w.alloc (.cells #[.slice none 0 0] 26)) r := ⟨_, rfl⟩
  have hsz : W0.heap.size = w.heap.size + 4 := by rw [hW0]; unfold splitW; simp
  rw [← hW0] at hS bN hB0 ⊢
  clear hW0
  refine range_panics (w.heap.size + 1) (by omega) rfl rfl r hr hS (NumsAt w) (fun ch W => (numsL r).2 = false ∧ ch = [{ v := badV noT, recovered := false }] ∧ Below w.heap.size w W) ?_ ?_ ?_
    (fun x => { tmps := #[strV r, undef, .slice none 0 0, .pointer (some ⟨w.heap.size, 0, none⟩), strV x, strV r, splitF (w.heap.size + 1), strV x, undef, undef, undef, undef, undef, undef], defers := [] }) ?assign ?body ?done ?pan
  · rintro pre W l o o' ⟨h1, ⟨v, h2, h3⟩, ⟨T, h4⟩, h5, h6⟩ hl hc hlw
    refine ⟨h1, ⟨v, ?_, own_put h3 hl hc⟩, ⟨T, ?_⟩, ?_, by simpa using h6⟩
    · exact (World.putObj_heap_other (by omega)).trans h2
    · exact (World.putObj_heap_other (by omega)).trans h4
    · exact h5.grown (grownBy_putObj' W l o) h5.size (fun k e => by cases e; omega)
  · rintro pre W T ⟨h1, ⟨v, h2, h3⟩, ⟨T', h4⟩, h5, h6⟩
    refine ⟨h1, ⟨v, ?_, ?_⟩, ⟨T, h4.set _⟩, h5.setCell (p := ⟨w.heap.size + 1, 0, none⟩) (by simp) _, by simpa [World.setCell] using h6⟩
    · exact (heap_set_other W ⟨w.heap.size + 1, 0, none⟩ _ _ (by simp)).trans h2
    · exact own_grown h3 (row := some (w.heap.size + 1)) ⟨rfl, rfl, rfl, by simp [World.setCell], fun k _ hk => heap_set_other W ⟨w.heap.size + 1, 0, none⟩ _ k (fun e => hk (by rw [e]))⟩ (.inr (own_box_ne h3 h4 (by decide)))
  · intro o o'
    exact ⟨fun p hp => (by cases hp), ⟨.slice none 0 0, (bN.alloc _).alloc _, own_nil _ _⟩, ⟨r, (hS.1.alloc _).alloc _⟩, (hB0.alloc hB0.size _).alloc (by have := hB0.size; simp; omega) _, by simp; omega⟩
  case assign =>
    intro l x W K hK
    gi_wp2
    exact hK
  case body =>
    rintro l pre x W ⟨h1, ⟨v, h2, h3⟩, ⟨T, h4⟩, h5, h6⟩ hx hpre
    have c1 := h2.cell
    have f1 := h2.frozen
    have hlen := hpre.length_le
    rw [List.length_append, List.length_singleton] at hlen
    have hmem : x ∈ piecesGo 32 [] r := hpre.subset (by simp)
    have hNI := fun (W1 : World) => numberIn_in 6 x W1 hx
    have hv9 := yZz h3
    have hKO := fun (W1 : World) (h : Below W.heap.size W W1) => keepsOthers_b h
    by_cases hok : okNum x = true
    · have hyes : Hid (∀ W1, CallsIn FS 6 Tryz.prog 132 #[strV x] W1 (GivesI W1 (valFrom 0 x))) := Lib.hid fun W1 => (hNI W1).mono fun e w' h => by
        rcases h with ⟨_, h⟩ | ⟨h, _⟩
        · exact h
        · rw [hok] at h; cases h
      obtain ⟨z, hz⟩ : ∃ z, z = valFrom 0 x := ⟨_, rfl⟩
      rw [← hz] at hyes
      have HZ := Lib.hid hz
      clear hz
      have H3 := Lib.hid h3
      have H5 := Lib.hid h5
      have HL : Hid (pre.length + 1 ≤ r.length + 1) := Lib.hid (by omega)
      clear hNI h3 hpre hmem hlen
      have hmx : Tryz.prog.follows .mixedOrders = true := by kernel_rfl
      have H2 := Lib.hid h2
      have H4 := Lib.hid h4
      clear h2 h4 h5
      gi_wp2
      have HAP : Hid (∀ w2, Below W.heap.size W w2 → ∃ g' n' cap' w3, (Builtin.append_ #[26, 26] 26 #[v, .slice (some ⟨w2.heap.size, 0, none⟩) 1 1]).run Tryz.prog (w2.alloc (.cells #[.int .i64 z] 3)) = .ok (.slice (some ⟨g', 0, none⟩) n' cap') w3 ∧ Own w3 (w.heap.size + 4) (.slice (some ⟨g', 0, none⟩) n' cap') (pre.map (valFrom 0) ++ [z]) ∧ W.grownBy w3 v.ownBlock ∧ (∀ k, v.ownBlock = some k → w.heap.size + 4 ≤ k)) := Lib.hid fun w2 hb => nums_append z H3.out (by have := HL.out; simp; omega) hb h6
      gi_region_with_o (gi_at_call 132; refine (CallsIn.inRound l (hyes.out _)).mono ?_; rintro e w2 ⟨rfl, hb⟩; have hb' : Below W.heap.size W w2 := yAz (below_drewN (Below.refl _ W) 1) hb; have HB2 := Lib.hid hb'; have c2 := cell_after c1 hb'; have c2a := cell_after_alloc c1 hb'; obtain ⟨g', n', cap', w3, hrun, hown', hgrow, hblk⟩ := HAP.out w2 hb'; have hb3 := H2.out.kept hgrow (fun e => by have := hblk _ e.symm; omega); have c3 := hb3.cell; have f3 := hb3.frozen; have HO3 := Lib.hid hown'; have HG3 := Lib.hid hgrow; have HBK := Lib.hid hblk; have HB3 := Lib.hid hb3; clear hown' hgrow hblk hb3)
      all_goals exact nums_round h1 hok HZ.out H3.out H5.out h6 H2.out H4.out HO3.out HG3.out HBK.out HB3.out
    · have hno : Hid (∀ W1, CallsIn FS 6 Tryz.prog 132 #[strV x] W1 (Bad W1 noT)) := Lib.hid fun W1 => (hNI W1).mono fun e w' h => by
        rcases h with ⟨h, _⟩ | ⟨_, h⟩
        · exact absurd h hok
        · exact h
      have hbad : Hid ((numsL r).2 = false) := Lib.hid (by rw [hnp, numsP_bad _ _ x hmem (by simpa using hok)])
      clear hNI h3 hpre hmem hlen
      have hmx : Tryz.prog.follows .mixedOrders = true := by kernel_rfl
      have H5 := Lib.hid h5
      clear h2 h4 h5
      gi_wp2
      have hfin : ∀ (w2 : World) (a : Act), a.defers = [] → Below W.heap.size W w2 → roundLeft (w.heap.size + 1) (NumsAt w) (fun ch W => (numsL r).2 = false ∧ ch = [{ v := badV noT, recovered := false }] ∧ Below w.heap.size w W) (pre ++ [x]) W (.panic [{ v := badV noT, recovered := false }]) a w2 :=
        fun w2 a ha h => ⟨ha, hKO w2 h, hbad.out, rfl, yAz H5.out h⟩
      have HF := Lib.hid hfin
      clear hfin
      refine wpIn_region_any hmx ?_
      change wpAnyIn _ _ _ _ _ _ _ _ _ (World.drew _)
      refine wpAnyIn_ready (rs := [0, 1]) (by kernel_rfl) (by simp) ?_
      refine AllReadyIn.cons rfl (fun K hK => ?_) (AllReadyIn.cons rfl (fun K hK => ?_) AllReadyIn.nil)
      · go_simp
        refine hK _ _ ?_
        refine wpAnyIn_ready (rs := [1]) (by kernel_rfl) (by simp) ?_
        refine AllReadyIn.cons rfl (fun K hK => ?_) AllReadyIn.nil
        go_simp
        refine hK _ _ ?_
        refine wpAnyIn_ready (rs := [2]) (by kernel_rfl) (by simp) ?_
        refine AllReadyIn.cons rfl (fun K hK => ?_) AllReadyIn.nil
        gi_wp2_with (gi_at_call 132; refine (CallsIn.inRound l (hno.out _)).mono ?_; rintro e w2 ⟨rfl, hb⟩; have hb' : Below W.heap.size W w2 := yAz (below_drewN (Below.refl _ W) 1) hb; have HB2 := Lib.hid hb')
        exact HF.out _ _ rfl HB2.out
      · go_simp
        refine hK _ _ ?_
        refine wpAnyIn_ready (rs := [0, 2]) (by kernel_rfl) (by simp) ?_
        refine AllReadyIn.cons rfl (fun K hK => ?_) (AllReadyIn.cons rfl (fun K hK => ?_) AllReadyIn.nil)
        · go_simp
          refine hK _ _ ?_
          refine wpAnyIn_ready (rs := [2]) (by kernel_rfl) (by simp) ?_
          refine AllReadyIn.cons rfl (fun K hK => ?_) AllReadyIn.nil
          gi_wp2_with (gi_at_call 132; refine (CallsIn.inRound l (hno.out _)).mono ?_; rintro e w2 ⟨rfl, hb⟩; have hb' : Below W.heap.size W w2 := yAz (below_drewN (Below.refl _ W) 1) hb; have HB2 := Lib.hid hb')
          exact HF.out _ _ rfl HB2.out
        · gi_wp2_with (gi_at_call 132; refine (CallsIn.inRound l (hno.out _)).mono ?_; rintro e w2 ⟨rfl, hb⟩; have hb' : Below W.heap.size W w2 := yAz (below_drewN (Below.refl _ W) 1) hb; have HB2 := Lib.hid hb')
          exact HF.out _ _ rfl HB2.out
  case done =>
    rintro W ⟨h1, ⟨v, h2, h3⟩, _, h5, h6⟩ hK
    have c1 := h2.cell
    have hN : numsL r = ((piecesGo 32 [] r).map (valFrom 0), true) := by rw [hnp, numsP_ok _ _ h1]; simp
    have HN := Lib.hid hN
    have H3 := Lib.hid h3
    have H5 := Lib.hid h5
    clear hN h3
    gi_wp2
    refine ⟨by simp, .inl ⟨_, _, rfl, run_takeDeferred hK, ?_⟩⟩
    refine ⟨_, results_tmp rfl _ _ _, ?_⟩
    refine .inl ⟨by rw [HN.out], _, rfl, ?_, ?_⟩
    · rw [HN.out]
      exact yMz (own_put H3.out hK rfl) (by omega)
    · exact H5.out.grown (grownBy_putObj' W _ _) H5.out.size (fun k e => by cases e; omega)
  case pan =>
    rintro ch W ⟨hf, rfl, hb⟩ hK
    refine ⟨by simp, .inl ⟨_, _, rfl, run_takeDeferred hK, ?_⟩⟩
    exact .inr ⟨hf, rfl, hb.grown (grownBy_putObj' W _ _) hb.size (fun k e => by cases e; omega)⟩

theorem numbersIn_v (r : List UInt8) (w : World) (hr : r.length ≤ 1000) : Calls Tryz.prog 72 #[strV r] w (NumsOut w r) :=
  (numbersIn_in r w hr).calls fs_room
end

section
open Go.RowKit

def Outs (w : World) (g : Nat) (a : List Int) (p : List Int × List UInt8) (e : Ending) (w' : World) : Prop :=
  Works w g p e w' ∨ ∃ t, p = (a, t) ∧ e = .panicked [{ v := badV t, recovered := false }] ∧ BenchAt w' g a ∧ w.grownBy w' (some g)
def whatT : List UInt8 := [119, 104, 97, 116]
def aloneP (a : List Int) (l : List UInt8) : List Int × List UInt8 :=
  if l = w_turned then chgT a (partTurned a) else
  if l = w_next then chgT a (listNext a) else
  if l = w_before then chgT a (listBefore a) else
  if l = w_show then (a, cutNL (saidL a true)) else
  if l = w_blocks then (a, cutNL (listsL (partBlocks a).1 (partBlocks a).2)) else
  if l = w_type then (a, cutNL (saidL (partType a).1 (partType a).2)) else
  if l = w_size then (a, cutNL (oneL (partSize a).1 (partSize a).2)) else
  if l = w_rank then (a, cutNL (oneL (finerRank a).1 (finerRank a).2)) else
  if l = w_merges then (a, cutNL (listsL (finerMerges a).1 (finerMerges a).2)) else
  if l = w_splits then (a, cutNL (oneL (finerSplits a).1 (finerSplits a).2)) else
  if l = w_chains then (a, cutNL (oneL (finerChains a).1 (finerChains a).2)) else
  if l = w_place then (a, cutNL (oneL (listPlace a).1 (listPlace a).2)) else
  if l = w_arcs then (a, cutNL (listsL (arcList a).1 (arcList a).2)) else
  if l = w_cross then (a, cutNL (oneL (arcCross a).1 (arcCross a).2)) else
  if l = w_nest then (a, cutNL (oneL (arcNest a).1 (arcNest a).2)) else
  if l = w_far then (a, cutNL (oneL (arcLong a).1 (arcLong a).2)) else
  if l = w_ring then (a, cutNL (saidL (ringOf a).1 (ringOf a).2)) else
  if l = w_count then (a, cutNL (oneL (ringCount a).1 (ringCount a).2)) else
  if l = w_pairs then (a, cutNL (listsL (pairOf a).1 (pairOf a).2)) else
  (a, whatT)
theorem zero_alone (w : World) : (zeroValue 104).run Tryz.prog w = .ok .nilFunc w := by kernel_rfl

set_option maxHeartbeats 4000000 in
theorem alone_v (g : Nat) (l : List UInt8) (a : List Int) (w : World) (hE : EnvAt w) (hb : BenchAt w g a) (hp : partIn a = true) (hl : l.length ≤ 1000) :
    Calls Tryz.prog 49 #[.pointer (some ⟨g, 0, none⟩), strV l] w (Outs w g a (aloneP a l)) := by
  have HE := Lib.hid hE
  have HB := Lib.hid hb
  have HPP := Lib.hid hp
  clear hE hb hp
  go_enter Tryz.func49, Tryz.ntmps49
  go_wp2_with fail
  refine (wordsAlone_v _).mono ?_
  rintro e w1 ⟨mb, rfl, hW⟩
  have hb1 : Below w.heap.size w w1 := hW.2.2.1
  rcases words_look Tryz.underlying106 hW l hl .nilFunc (zero_alone _) with ⟨hno, hrun⟩ | ⟨v, hv, hrun⟩
  · have hres : aloneP a l = (a, whatT) := by
      unfold aloneP
      rw [if_neg (fun h => hno ([116, 117, 114, 110, 101, 100], fnV 133) (by simp [aloneTab]) h.symm)]
      rw [if_neg (fun h => hno ([110, 101, 120, 116], fnV 134) (by simp [aloneTab]) h.symm)]
      rw [if_neg (fun h => hno ([98, 101, 102, 111, 114, 101], fnV 135) (by simp [aloneTab]) h.symm)]
      rw [if_neg (fun h => hno ([115, 104, 111, 119], fnV 136) (by simp [aloneTab]) h.symm)]
      rw [if_neg (fun h => hno ([98, 108, 111, 99, 107, 115], fnV 137) (by simp [aloneTab]) h.symm)]
      rw [if_neg (fun h => hno ([116, 121, 112, 101], fnV 138) (by simp [aloneTab]) h.symm)]
      rw [if_neg (fun h => hno ([115, 105, 122, 101], fnV 139) (by simp [aloneTab]) h.symm)]
      rw [if_neg (fun h => hno ([114, 97, 110, 107], fnV 140) (by simp [aloneTab]) h.symm)]
      rw [if_neg (fun h => hno ([109, 101, 114, 103, 101, 115], fnV 141) (by simp [aloneTab]) h.symm)]
      rw [if_neg (fun h => hno ([115, 112, 108, 105, 116, 115], fnV 142) (by simp [aloneTab]) h.symm)]
      rw [if_neg (fun h => hno ([99, 104, 97, 105, 110, 115], fnV 143) (by simp [aloneTab]) h.symm)]
      rw [if_neg (fun h => hno ([112, 108, 97, 99, 101], fnV 144) (by simp [aloneTab]) h.symm)]
      rw [if_neg (fun h => hno ([97, 114, 99, 115], fnV 145) (by simp [aloneTab]) h.symm)]
      rw [if_neg (fun h => hno ([99, 114, 111, 115, 115], fnV 146) (by simp [aloneTab]) h.symm)]
      rw [if_neg (fun h => hno ([110, 101, 115, 116], fnV 147) (by simp [aloneTab]) h.symm)]
      rw [if_neg (fun h => hno ([102, 97, 114], fnV 148) (by simp [aloneTab]) h.symm)]
      rw [if_neg (fun h => hno ([114, 105, 110, 103], fnV 149) (by simp [aloneTab]) h.symm)]
      rw [if_neg (fun h => hno ([99, 111, 117, 110, 116], fnV 150) (by simp [aloneTab]) h.symm)]
      rw [if_neg (fun h => hno ([112, 97, 105, 114, 115], fnV 151) (by simp [aloneTab]) h.symm)]
    have HR := Lib.hid hres
    clear hno hres hW
    go_wp2
    rw [HR.out]
    exact ⟨rfl, .inr ⟨whatT, rfl, rfl, yEz HB.out hb1, yOz hb1 _⟩⟩
  · have hE1 := Lib.hid (env_below HE.out hb1)
    have hB1 := Lib.hid (yEz HB.out hb1)
    clear hW
    simp only [aloneTab, List.mem_cons, Prod.mk.injEq, List.not_mem_nil, or_false] at hv
    rcases hv with ⟨rfl, rfl⟩ | ⟨rfl, rfl⟩ | ⟨rfl, rfl⟩ | ⟨rfl, rfl⟩ | ⟨rfl, rfl⟩ | ⟨rfl, rfl⟩ | ⟨rfl, rfl⟩ | ⟨rfl, rfl⟩ | ⟨rfl, rfl⟩ | ⟨rfl, rfl⟩ | ⟨rfl, rfl⟩ | ⟨rfl, rfl⟩ | ⟨rfl, rfl⟩ | ⟨rfl, rfl⟩ | ⟨rfl, rfl⟩ | ⟨rfl, rfl⟩ | ⟨rfl, rfl⟩ | ⟨rfl, rfl⟩ | ⟨rfl, rfl⟩
    · unfold fnV at hrun
      go_wp2_with (go_at_call 133; (with_reducible refine (m_turned g a _ hE1.out hB1.out).mono ?_); rintro e w2 ⟨rfl, hb2, hg2⟩)
      go_ret
      exact .inl ⟨rfl, hb2, yIz hb1 hg2⟩
    · unfold fnV at hrun
      go_wp2_with (go_at_call 134; (with_reducible refine (m_next g a _ hE1.out hB1.out).mono ?_); rintro e w2 ⟨rfl, hb2, hg2⟩)
      go_ret
      exact .inl ⟨rfl, hb2, yIz hb1 hg2⟩
    · unfold fnV at hrun
      go_wp2_with (go_at_call 135; (with_reducible refine (m_before g a _ hE1.out hB1.out).mono ?_); rintro e w2 ⟨rfl, hb2, hg2⟩)
      go_ret
      exact .inl ⟨rfl, hb2, yIz hb1 hg2⟩
    · unfold fnV at hrun
      go_wp2_with (go_at_call 136; (with_reducible refine (m_show g a _ hE1.out hB1.out HPP.out).mono ?_); rintro e w2 ⟨rfl, hb2, hg2⟩)
      go_ret
      exact .inl ⟨rfl, hb2, yIz hb1 hg2⟩
    · unfold fnV at hrun
      go_wp2_with (go_at_call 137; (with_reducible refine (m_blocks g a _ hE1.out hB1.out).mono ?_); rintro e w2 ⟨rfl, hb2, hg2⟩)
      go_ret
      exact .inl ⟨rfl, hb2, yIz hb1 hg2⟩
    · unfold fnV at hrun
      go_wp2_with (go_at_call 138; (with_reducible refine (m_sizes g a _ hE1.out hB1.out).mono ?_); rintro e w2 ⟨rfl, hb2, hg2⟩)
      go_ret
      exact .inl ⟨rfl, hb2, yIz hb1 hg2⟩
    · unfold fnV at hrun
      go_wp2_with (go_at_call 139; (with_reducible refine (m_size g a _ hE1.out hB1.out).mono ?_); rintro e w2 ⟨rfl, hb2, hg2⟩)
      go_ret
      exact .inl ⟨rfl, hb2, yIz hb1 hg2⟩
    · unfold fnV at hrun
      go_wp2_with (go_at_call 140; (with_reducible refine (m_rank g a _ hE1.out hB1.out).mono ?_); rintro e w2 ⟨rfl, hb2, hg2⟩)
      go_ret
      exact .inl ⟨rfl, hb2, yIz hb1 hg2⟩
    · unfold fnV at hrun
      go_wp2_with (go_at_call 141; (with_reducible refine (m_merges g a _ hE1.out hB1.out).mono ?_); rintro e w2 ⟨rfl, hb2, hg2⟩)
      go_ret
      exact .inl ⟨rfl, hb2, yIz hb1 hg2⟩
    · unfold fnV at hrun
      go_wp2_with (go_at_call 142; (with_reducible refine (m_splits g a _ hE1.out hB1.out).mono ?_); rintro e w2 ⟨rfl, hb2, hg2⟩)
      go_ret
      exact .inl ⟨rfl, hb2, yIz hb1 hg2⟩
    · unfold fnV at hrun
      go_wp2_with (go_at_call 143; (with_reducible refine (m_chains g a _ hE1.out hB1.out).mono ?_); rintro e w2 ⟨rfl, hb2, hg2⟩)
      go_ret
      exact .inl ⟨rfl, hb2, yIz hb1 hg2⟩
    · unfold fnV at hrun
      go_wp2_with (go_at_call 144; (with_reducible refine (m_place g a _ hE1.out hB1.out).mono ?_); rintro e w2 ⟨rfl, hb2, hg2⟩)
      go_ret
      exact .inl ⟨rfl, hb2, yIz hb1 hg2⟩
    · unfold fnV at hrun
      go_wp2_with (go_at_call 145; (with_reducible refine (m_arcs g a _ hE1.out hB1.out).mono ?_); rintro e w2 ⟨rfl, hb2, hg2⟩)
      go_ret
      exact .inl ⟨rfl, hb2, yIz hb1 hg2⟩
    · unfold fnV at hrun
      go_wp2_with (go_at_call 146; (with_reducible refine (m_cross g a _ hE1.out hB1.out).mono ?_); rintro e w2 ⟨rfl, hb2, hg2⟩)
      go_ret
      exact .inl ⟨rfl, hb2, yIz hb1 hg2⟩
    · unfold fnV at hrun
      go_wp2_with (go_at_call 147; (with_reducible refine (m_nest g a _ hE1.out hB1.out).mono ?_); rintro e w2 ⟨rfl, hb2, hg2⟩)
      go_ret
      exact .inl ⟨rfl, hb2, yIz hb1 hg2⟩
    · unfold fnV at hrun
      go_wp2_with (go_at_call 148; (with_reducible refine (m_far g a _ hE1.out hB1.out).mono ?_); rintro e w2 ⟨rfl, hb2, hg2⟩)
      go_ret
      exact .inl ⟨rfl, hb2, yIz hb1 hg2⟩
    · unfold fnV at hrun
      go_wp2_with (go_at_call 149; (with_reducible refine (m_ring g a _ hE1.out hB1.out).mono ?_); rintro e w2 ⟨rfl, hb2, hg2⟩)
      go_ret
      exact .inl ⟨rfl, hb2, yIz hb1 hg2⟩
    · unfold fnV at hrun
      go_wp2_with (go_at_call 150; (with_reducible refine (m_count g a _ hE1.out hB1.out).mono ?_); rintro e w2 ⟨rfl, hb2, hg2⟩)
      go_ret
      exact .inl ⟨rfl, hb2, yIz hb1 hg2⟩
    · unfold fnV at hrun
      go_wp2_with (go_at_call 151; (with_reducible refine (m_pairs g a _ hE1.out hB1.out).mono ?_); rintro e w2 ⟨rfl, hb2, hg2⟩)
      go_ret
      exact .inl ⟨rfl, hb2, yIz hb1 hg2⟩
end

section
open Go.RowKit

theorem zero_with (w : World) : (zeroValue 99).run Tryz.prog w = .ok (.agg #[.int .i64 0, .nilFunc]) w := by kernel_rfl

def withK (rest : List UInt8) (c : Nat) (P : List Int → List Int × List UInt8) (a : List Int) : List Int × List UInt8 :=
  if (numsL rest).2 = true ∧ (c = 0 ∨ c = (numsL rest).1.length) then P (numsL rest).1 else (a, noT)

theorem with_none (g : Nat) (word rest : List UInt8) (a : List Int) (w : World) (hb : BenchAt w g a) (hl : word.length ≤ 1000) (hno : ∀ v, (word, v) ∉ numTab) :
    Calls Tryz.prog 48 #[.pointer (some ⟨g, 0, none⟩), strV word, strV rest] w (Outs w g a (a, whatT)) := by
  have HB := Lib.hid hb
  clear hb
  go_enter Tryz.func48, Tryz.ntmps48
  go_wp2_with fail
  refine (wordsWith_v _).mono ?_
  rintro e w1 ⟨mb, rfl, hW⟩
  have hb1 : Below w.heap.size w w1 := hW.2.2.1
  rcases words_look Tryz.underlying101 hW word hl (.agg #[.int .i64 0, .nilFunc]) (zero_with _) with ⟨_, hrun⟩ | ⟨v, hv, hrun⟩
  · clear hno hW
    go_wp2
    refine ⟨rfl, .inr ⟨whatT, rfl, rfl, yEz HB.out (hb1.alloc hb1.size _), yOz (hb1.alloc hb1.size _) _⟩⟩
  · exact absurd hv (hno v)

theorem numsGo_len : ∀ (r cur : List UInt8) (out : List Int), (numsGo out cur r).1.length ≤ out.length + r.length + 1 := by
  intro r
  induction r with
  | nil => intro cur out; simp only [numsGo]; split <;> simp
  | cons c r ih =>
    intro cur out
    simp only [numsGo]
    split
    · split
      · have := ih [] (out ++ [valFrom 0 cur]); simp at this ⊢; omega
      · simp
    · have := ih (cur ++ [c]) out; simp at this ⊢; omega
theorem with_box {w1 w2 : World} {c : Int} {u : Value} {fz : Nat × Nat} (h : Below (w1.alloc (.cells #[.int .i64 c, u] 99 fz)).heap.size (w1.alloc (.cells #[.int .i64 c, u] 99 fz)) w2) :
    w2.cell? ⟨w1.heap.size, 0, none⟩ = some (.int .i64 c) ∧ w2.cell? ⟨w1.heap.size, 1, none⟩ = some u := by
  have hs : (w1.alloc (.cells #[.int .i64 c, u] 99 fz)).heap[w1.heap.size]? = some (.cells #[.int .i64 c, u] 99 fz) := heap_alloc_new w1 _
  have h2 := (h.block _ (by simp)).trans hs
  constructor <;> simp [World.cell?, h2]

set_option maxHeartbeats 4000000 in
theorem with_word (g : Nat) (word rest : List UInt8) (a : List Int) (w : World) (hE : EnvAt w) (hb : BenchAt w g a) (hl : word.length ≤ 1000) (hr : rest.length ≤ 1000) (c : Nat) (m : FuncId) (hen : Enters Tryz.prog m) (P : List Int → List Int × List UInt8) (hc9 : c ≤ 9) (hex : (word, .agg #[.int .i64 c, fnV m]) ∈ numTab) (huniq : ∀ v, (word, v) ∈ numTab → v = .agg #[.int .i64 c, fnV m])
    (hm : ∀ (u : Value) (ns : List Int) (W : World), EnvAt W → BenchAt W g a → Own W 0 u ns → (c = 0 ∨ c = ns.length) → (∀ x ∈ ns, 0 ≤ x ∧ x ≤ 999) → Calls Tryz.prog m #[.pointer (some ⟨g, 0, none⟩), u] W (Works W g (P ns))) :
    Calls Tryz.prog 48 #[.pointer (some ⟨g, 0, none⟩), strV word, strV rest] w (Outs w g a (withK rest c P a)) := by
  have HN := Lib.hid (fun W => numbersIn_v rest W hr)
  have h9 := nums_999 rest [] [] (fun x hx => by cases hx)
  have hn2 : numsGo [] [] rest = numsL rest := rfl
  rw [hn2] at h9
  have hlen : (numsL rest).1.length ≤ rest.length + 1 := by have := numsGo_len rest [] []; rw [hn2] at this; simpa using this
  unfold withK
  obtain ⟨ns, hns⟩ : ∃ ns, ns = (numsL rest).1 := ⟨_, rfl⟩
  rw [← hns] at h9 hlen ⊢
  have HB := Lib.hid hb
  have HE := Lib.hid hE
  have H9 := Lib.hid h9
  clear hb hE h9 hn2
  by_cases hok : (numsL rest).2 = true
  · have hyes : Hid (∀ W, Calls Tryz.prog 72 #[strV rest] W fun e w' => ∃ v, e = .returned v ∧ Own w' W.heap.size v ns ∧ Below W.heap.size W w') := Lib.hid fun W => (HN.out W).mono fun e w' h => by
      rcases h with ⟨_, h⟩ | ⟨h, _⟩
      · rw [hns]; exact h
      · rw [hok] at h; cases h
    have H1000 : ns.length ≤ 1001 := by omega
    clear HN hns
    by_cases hc : c = 0 ∨ c = ns.length
    · rw [if_pos ⟨hok, hc⟩]
      have HC := Lib.hid hc
      have HM := Lib.hid hm
      clear hc hok hm
      go_enter Tryz.func48, Tryz.ntmps48
      go_wp2_with fail
      refine (wordsWith_v _).mono ?_
      rintro e w1 ⟨mb, rfl, hW⟩
      have hb1 : Below w.heap.size w w1 := hW.2.2.1
      rcases words_look Tryz.underlying101 hW word hl (.agg #[.int .i64 0, .nilFunc]) (zero_with _) with ⟨hno, hrun⟩ | ⟨v, hv, hrun⟩
      · exact (hno _ hex rfl).elim
      · obtain rfl := huniq v hv
        clear huniq hex hv hW
        unfold fnV at hrun
        go_wp2_with fail
        refine (hyes.out _).mono ?_
        rintro e w2 ⟨u, rfl, hu, hb2⟩
        obtain ⟨ao, cap, rfl⟩ := own_slice' hu
        have hBA : Below w.heap.size w w2 := yAz (hb1.alloc hb1.size _) hb2
        obtain ⟨c0, c1⟩ := with_box hb2
        have HK := Lib.hid (HM.out _ ns w2 (env_below HE.out hBA) (yEz HB.out hBA) (yMz hu (Nat.zero_le _)) HC.out H9.out)
        have HBA := Lib.hid hBA
        obtain ⟨n, hn⟩ : ∃ n, n = ns.length := ⟨_, rfl⟩
        rw [← hn] at HK HC H1000 ⊢
        clear hBA hb2 hu hrun hyes HM H9 hlen hn hb1
        have hcn : (c : Int) = 0 ∨ (c : Int) ≠ 0 ∧ (c : Int) = (n : Int) := by rcases HC.out with h | h <;> omega
        obtain ⟨z, hzc⟩ : ∃ z : Int, z = (c : Int) := ⟨_, rfl⟩
        rw [← hzc] at c0 hcn ⊢
        clear hzc
        have hen2 : ∀ (args : Array Value) (w : World), _ := fun args w => hen args w
        rcases hcn with hz | ⟨hz, hq⟩
        · rw [hz] at c0
          clear HC hz
          go_wp2_with fail
          refine HK.out.mono ?_
          rintro e w3 ⟨rfl, hb3, hg3⟩
          go_wp2
          go_ret
          exact .inl ⟨rfl, hb3, yIz HBA.out hg3⟩
        · have hbe : (z != (n : Int)) = false := by rw [hq]; simp
          have hbz : (z != 0) = true := bne_iff_ne.2 hz
          clear HC hz hq
          go_wp2_with fail
          refine HK.out.mono ?_
          rintro e w3 ⟨rfl, hb3, hg3⟩
          go_wp2
          go_ret
          exact .inl ⟨rfl, hb3, yIz HBA.out hg3⟩
    · rw [if_neg (fun h => hc h.2)]
      have HC := Lib.hid hc
      clear hc hok hm
      go_enter Tryz.func48, Tryz.ntmps48
      go_wp2_with fail
      refine (wordsWith_v _).mono ?_
      rintro e w1 ⟨mb, rfl, hW⟩
      have hb1 : Below w.heap.size w w1 := hW.2.2.1
      rcases words_look Tryz.underlying101 hW word hl (.agg #[.int .i64 0, .nilFunc]) (zero_with _) with ⟨hno, hrun⟩ | ⟨v, hv, hrun⟩
      · exact (hno _ hex rfl).elim
      · obtain rfl := huniq v hv
        clear huniq hex hv hW
        unfold fnV at hrun
        go_wp2_with fail
        refine (hyes.out _).mono ?_
        rintro e w2 ⟨u, rfl, hu, hb2⟩
        obtain ⟨ao, cap, rfl⟩ := own_slice' hu
        have hBA : Below w.heap.size w w2 := yAz (hb1.alloc hb1.size _) hb2
        obtain ⟨c0, c1⟩ := with_box hb2
        have HBA := Lib.hid hBA
        obtain ⟨n, hn⟩ : ∃ n, n = ns.length := ⟨_, rfl⟩
        rw [← hn] at HC H1000 ⊢
        clear hBA hb2 hu hrun hyes H9 hlen hn hb1
        have hcn : (c : Int) ≠ 0 ∧ (c : Int) ≠ (n : Int) := by have := HC.out; omega
        obtain ⟨z, hzc⟩ : ∃ z : Int, z = (c : Int) := ⟨_, rfl⟩
        rw [← hzc] at c0 hcn ⊢
        clear hzc HC
        have hbe : (z != (n : Int)) = true := bne_iff_ne.2 hcn.2
        have hbz : (z != 0) = true := bne_iff_ne.2 hcn.1
        clear hcn
        go_wp2
        exact ⟨rfl, .inr ⟨noT, rfl, rfl, yEz HB.out HBA.out, yOz HBA.out _⟩⟩
  · rw [if_neg (fun h => hok h.1)]
    have hbad : Hid (∀ W, Calls Tryz.prog 72 #[strV rest] W (Bad W noT)) := Lib.hid fun W => (HN.out W).mono fun e w' h => by
      rcases h with ⟨h, _⟩ | ⟨_, h⟩
      · exact absurd h hok
      · exact h
    clear hok hm HN hns hlen H9
    go_enter Tryz.func48, Tryz.ntmps48
    go_wp2_with fail
    refine (wordsWith_v _).mono ?_
    rintro e w1 ⟨mb, rfl, hW⟩
    have hb1 : Below w.heap.size w w1 := hW.2.2.1
    rcases words_look Tryz.underlying101 hW word hl (.agg #[.int .i64 0, .nilFunc]) (zero_with _) with ⟨hno, hrun⟩ | ⟨v, hv, hrun⟩
    · exact (hno _ hex rfl).elim
    · obtain rfl := huniq v hv
      clear huniq hex hv hW
      unfold fnV at hrun
      go_wp2_with fail
      refine (hbad.out _).mono ?_
      rintro e w2 ⟨rfl, hb2⟩
      have hBA : Below w.heap.size w w2 := yAz (hb1.alloc hb1.size _) hb2
      exact ⟨rfl, .inr ⟨noT, rfl, rfl, yEz HB.out hBA, yOz hBA _⟩⟩
end

section
open Go.RowKit

def withP (a : List Int) (word rest : List UInt8) : List Int × List UInt8 :=
  if word = w_part then withK rest 0 (fun ns => chgT a (ns, partIn ns)) a else
  if word = w_kernel then withK rest 0 (fun ns => chgT a (partKernel ns)) a else
  if word = w_at then withK rest 2 (fun ns => chgT a (listAt (ns.getD 0 0) (ns.getD 1 0))) a else
  if word = w_put then withK rest 1 (fun ns => chgT a (partPut a (ns.getD 0 0))) a else
  if word = w_drop then withK rest 1 (fun ns => chgT a (partDrop a (ns.getD 0 0))) a else
  if word = w_meet then withK rest 0 (fun ns => chgT a (finerMeet a ns)) a else
  if word = w_join then withK rest 0 (fun ns => chgT a (finerJoin a ns)) a else
  if word = w_rings then withK rest 0 (fun ns => chgT a (ringPart ns)) a else
  if word = w_finer then withK rest 0 (fun ns => (a, cutNL (if finerIn a ns then sayYes else sayNot))) a else
  if word = w_sign then withK rest 0 (fun ns => (a, cutNL (oneL (finerSign a ns).1 (finerSign a ns).2))) a else
  if word = w_inner then withK rest 0 (fun ns => (a, cutNL (oneL (finerInterval a ns).1 (finerInterval a ns).2))) a else
  if word = w_quarrel then withK rest 0 (fun ns => (a, cutNL (oneL (viewQuarrel a ns).1 (viewQuarrel a ns).2))) a else
  if word = w_path then withK rest 0 (fun ns => (a, cutNL (oneL (viewPath a ns).1 (viewPath a ns).2))) a else
  if word = w_moves then withK rest 0 (fun ns => (a, cutNL (oneL (viewMoves a ns).1 (viewMoves a ns).2))) a else
  if word = w_number then withK rest 2 (fun ns => (a, cutNL (oneL (numBy (ext fB) (ns.getD 0 0) (ns.getD 1 0)).1 (numBy (ext fB) (ns.getD 0 0) (ns.getD 1 0)).2))) a else
  if word = w_all then withK rest 1 (fun ns => (a, cutNL (oneL (numAll (ns.getD 0 0)).1 (numAll (ns.getD 0 0)).2))) a else
  if word = w_plain then withK rest 1 (fun ns => (a, cutNL (oneL (arcPlain (ns.getD 0 0)).1 (arcPlain (ns.getD 0 0)).2))) a else
  (a, whatT)

set_option maxHeartbeats 4000000 in
theorem with_v (g : Nat) (word rest : List UInt8) (a : List Int) (w : World) (hE : EnvAt w) (hb : BenchAt w g a) (hl : word.length ≤ 1000) (hr : rest.length ≤ 1000) :
    Calls Tryz.prog 48 #[.pointer (some ⟨g, 0, none⟩), strV word, strV rest] w (Outs w g a (withP a word rest)) := by
  unfold withP
  by_cases h0 : word = w_part
  · rw [if_pos h0]
    subst h0
    refine with_word g _ rest a w hE hb (by decide) hr 0 114 (enters_of Tryz.func114 (by kernel_rfl) rfl) _ (by omega) (by unfold numTab w_part; simp) (by intro v hv; unfold numTab w_part at hv; simpa using hv) ?_
    intro u ns W hE hB hu hc h9
    exact m_part g u ns a W hE hB hu
  rw [if_neg h0]
  by_cases h1 : word = w_kernel
  · rw [if_pos h1]
    subst h1
    refine with_word g _ rest a w hE hb (by decide) hr 0 115 (enters_of Tryz.func115 (by kernel_rfl) rfl) _ (by omega) (by unfold numTab w_kernel; simp) (by intro v hv; unfold numTab w_kernel at hv; simpa using hv) ?_
    intro u ns W hE hB hu hc h9
    exact m_kernel g u ns a W hE hB (yJz hu)
  rw [if_neg h1]
  by_cases h2 : word = w_at
  · rw [if_pos h2]
    subst h2
    refine with_word g _ rest a w hE hb (by decide) hr 2 116 (enters_of Tryz.func116 (by kernel_rfl) rfl) _ (by omega) (by unfold numTab w_at; simp) (by intro v hv; unfold numTab w_at at hv; simpa using hv) ?_
    intro u ns W hE hB hu hc h9
    have hn : ns.length = 2 := by omega
    obtain ⟨ao, cap, rfl, hrd, _, _⟩ := yJz hu
    obtain ⟨b, off, rfl, hx, hy⟩ := rd_two hrd hn
    rw [hn]
    exact m_at g b off cap _ _ a W hE hB hx hy (wf_999 h9 0 (by omega)) (wf_999 h9 1 (by omega))
  rw [if_neg h2]
  by_cases h3 : word = w_put
  · rw [if_pos h3]
    subst h3
    refine with_word g _ rest a w hE hb (by decide) hr 1 117 (enters_of Tryz.func117 (by kernel_rfl) rfl) _ (by omega) (by unfold numTab w_put; simp) (by intro v hv; unfold numTab w_put at hv; simpa using hv) ?_
    intro u ns W hE hB hu hc h9
    have hn : ns.length = 1 := by omega
    obtain ⟨ao, cap, rfl, hrd, _, _⟩ := yJz hu
    obtain ⟨b, off, rfl, hx⟩ := rd_one hrd hn
    rw [hn]
    exact m_put g b off cap _ a W hE hB hx (wf_999 h9 0 (by omega))
  rw [if_neg h3]
  by_cases h4 : word = w_drop
  · rw [if_pos h4]
    subst h4
    refine with_word g _ rest a w hE hb (by decide) hr 1 118 (enters_of Tryz.func118 (by kernel_rfl) rfl) _ (by omega) (by unfold numTab w_drop; simp) (by intro v hv; unfold numTab w_drop at hv; simpa using hv) ?_
    intro u ns W hE hB hu hc h9
    have hn : ns.length = 1 := by omega
    obtain ⟨ao, cap, rfl, hrd, _, _⟩ := yJz hu
    obtain ⟨b, off, rfl, hx⟩ := rd_one hrd hn
    rw [hn]
    exact m_drop g b off cap _ a W hE hB hx (wf_999 h9 0 (by omega))
  rw [if_neg h4]
  by_cases h5 : word = w_meet
  · rw [if_pos h5]
    subst h5
    refine with_word g _ rest a w hE hb (by decide) hr 0 119 (enters_of Tryz.func119 (by kernel_rfl) rfl) _ (by omega) (by unfold numTab w_meet; simp) (by intro v hv; unfold numTab w_meet at hv; simpa using hv) ?_
    intro u ns W hE hB hu hc h9
    exact m_meet g u ns a W hE hB (yJz hu)
  rw [if_neg h5]
  by_cases h6 : word = w_join
  · rw [if_pos h6]
    subst h6
    refine with_word g _ rest a w hE hb (by decide) hr 0 120 (enters_of Tryz.func120 (by kernel_rfl) rfl) _ (by omega) (by unfold numTab w_join; simp) (by intro v hv; unfold numTab w_join at hv; simpa using hv) ?_
    intro u ns W hE hB hu hc h9
    exact m_join g u ns a W hE hB (yJz hu)
  rw [if_neg h6]
  by_cases h7 : word = w_rings
  · rw [if_pos h7]
    subst h7
    refine with_word g _ rest a w hE hb (by decide) hr 0 121 (enters_of Tryz.func121 (by kernel_rfl) rfl) _ (by omega) (by unfold numTab w_rings; simp) (by intro v hv; unfold numTab w_rings at hv; simpa using hv) ?_
    intro u ns W hE hB hu hc h9
    exact m_rings g u ns a W hE hB (yJz hu)
  rw [if_neg h7]
  by_cases h8 : word = w_finer
  · rw [if_pos h8]
    subst h8
    refine with_word g _ rest a w hE hb (by decide) hr 0 122 (enters_of Tryz.func122 (by kernel_rfl) rfl) _ (by omega) (by unfold numTab w_finer; simp) (by intro v hv; unfold numTab w_finer at hv; simpa using hv) ?_
    intro u ns W hE hB hu hc h9
    exact m_finer g u ns a W hE hB (yJz hu)
  rw [if_neg h8]
  by_cases h9 : word = w_sign
  · rw [if_pos h9]
    subst h9
    refine with_word g _ rest a w hE hb (by decide) hr 0 123 (enters_of Tryz.func123 (by kernel_rfl) rfl) _ (by omega) (by unfold numTab w_sign; simp) (by intro v hv; unfold numTab w_sign at hv; simpa using hv) ?_
    intro u ns W hE hB hu hc h9
    exact m_sign g u ns a W hE hB (yJz hu)
  rw [if_neg h9]
  by_cases h10 : word = w_inner
  · rw [if_pos h10]
    subst h10
    refine with_word g _ rest a w hE hb (by decide) hr 0 124 (enters_of Tryz.func124 (by kernel_rfl) rfl) _ (by omega) (by unfold numTab w_inner; simp) (by intro v hv; unfold numTab w_inner at hv; simpa using hv) ?_
    intro u ns W hE hB hu hc h9
    exact m_inner g u ns a W hE hB (yJz hu)
  rw [if_neg h10]
  by_cases h11 : word = w_quarrel
  · rw [if_pos h11]
    subst h11
    refine with_word g _ rest a w hE hb (by decide) hr 0 125 (enters_of Tryz.func125 (by kernel_rfl) rfl) _ (by omega) (by unfold numTab w_quarrel; simp) (by intro v hv; unfold numTab w_quarrel at hv; simpa using hv) ?_
    intro u ns W hE hB hu hc h9
    exact m_quarrel g u ns a W hE hB (yJz hu)
  rw [if_neg h11]
  by_cases h12 : word = w_path
  · rw [if_pos h12]
    subst h12
    refine with_word g _ rest a w hE hb (by decide) hr 0 126 (enters_of Tryz.func126 (by kernel_rfl) rfl) _ (by omega) (by unfold numTab w_path; simp) (by intro v hv; unfold numTab w_path at hv; simpa using hv) ?_
    intro u ns W hE hB hu hc h9
    exact m_path g u ns a W hE hB (yJz hu)
  rw [if_neg h12]
  by_cases h13 : word = w_moves
  · rw [if_pos h13]
    subst h13
    refine with_word g _ rest a w hE hb (by decide) hr 0 127 (enters_of Tryz.func127 (by kernel_rfl) rfl) _ (by omega) (by unfold numTab w_moves; simp) (by intro v hv; unfold numTab w_moves at hv; simpa using hv) ?_
    intro u ns W hE hB hu hc h9
    exact m_moves g u ns a W hE hB (yJz hu)
  rw [if_neg h13]
  by_cases h14 : word = w_number
  · rw [if_pos h14]
    subst h14
    refine with_word g _ rest a w hE hb (by decide) hr 2 128 (enters_of Tryz.func128 (by kernel_rfl) rfl) _ (by omega) (by unfold numTab w_number; simp) (by intro v hv; unfold numTab w_number at hv; simpa using hv) ?_
    intro u ns W hE hB hu hc h9
    have hn : ns.length = 2 := by omega
    obtain ⟨ao, cap, rfl, hrd, _, _⟩ := yJz hu
    obtain ⟨b, off, rfl, hx, hy⟩ := rd_two hrd hn
    rw [hn]
    exact m_number g b off cap _ _ a W hE hB hx hy (wf_999 h9 0 (by omega)) (wf_999 h9 1 (by omega))
  rw [if_neg h14]
  by_cases h15 : word = w_all
  · rw [if_pos h15]
    subst h15
    refine with_word g _ rest a w hE hb (by decide) hr 1 129 (enters_of Tryz.func129 (by kernel_rfl) rfl) _ (by omega) (by unfold numTab w_all; simp) (by intro v hv; unfold numTab w_all at hv; simpa using hv) ?_
    intro u ns W hE hB hu hc h9
    have hn : ns.length = 1 := by omega
    obtain ⟨ao, cap, rfl, hrd, _, _⟩ := yJz hu
    obtain ⟨b, off, rfl, hx⟩ := rd_one hrd hn
    rw [hn]
    exact m_all g b off cap _ a W hE hB hx (wf_999 h9 0 (by omega))
  rw [if_neg h15]
  by_cases h16 : word = w_plain
  · rw [if_pos h16]
    subst h16
    refine with_word g _ rest a w hE hb (by decide) hr 1 130 (enters_of Tryz.func130 (by kernel_rfl) rfl) _ (by omega) (by unfold numTab w_plain; simp) (by intro v hv; unfold numTab w_plain at hv; simpa using hv) ?_
    intro u ns W hE hB hu hc h9
    have hn : ns.length = 1 := by omega
    obtain ⟨ao, cap, rfl, hrd, _, _⟩ := yJz hu
    obtain ⟨b, off, rfl, hx⟩ := rd_one hrd hn
    rw [hn]
    exact m_plain g b off cap _ a W hE hB hx (wf_999 h9 0 (by omega))
  rw [if_neg h16]
  refine with_none g word rest a w hb hl fun v hv => ?_
  unfold numTab at hv
  simp only [List.mem_cons, Prod.mk.injEq, List.not_mem_nil, or_false] at hv
  rcases hv with ⟨h, _⟩ | ⟨h, _⟩ | ⟨h, _⟩ | ⟨h, _⟩ | ⟨h, _⟩ | ⟨h, _⟩ | ⟨h, _⟩ | ⟨h, _⟩ | ⟨h, _⟩ | ⟨h, _⟩ | ⟨h, _⟩ | ⟨h, _⟩ | ⟨h, _⟩ | ⟨h, _⟩ | ⟨h, _⟩ | ⟨h, _⟩ | ⟨h, _⟩
  · exact h0 h
  · exact h1 h
  · exact h2 h
  · exact h3 h
  · exact h4 h
  · exact h5 h
  · exact h6 h
  · exact h7 h
  · exact h8 h
  · exact h9 h
  · exact h10 h
  · exact h11 h
  · exact h12 h
  · exact h13 h
  · exact h14 h
  · exact h15 h
  · exact h16 h
end

section
open Go.RowKit

theorem bad_hit (t : List UInt8) (W : World) : (Instr.typeAssert (.iface 73 (.agg #[strV t])) 20 73 true).run Tryz.prog W = .ok (.tuple #[.agg #[strV t], .bool true]) W := by kernel_rfl
theorem bad_miss (W : World) : (Instr.typeAssert .nilIface 20 73 true).run Tryz.prog W = .ok (.tuple #[.agg #[strV []], .bool false]) W := by kernel_rfl

theorem cell_in_alloc {w : World} {p : Addr} {v : Value} (h : w.cell? p = some v) (o : Obj) : (w.alloc o).cell? p = some v := by
  rw [((Below.refl w.heap.size w).alloc (Nat.le_refl _) o).cell (World.block_lt_of_cell? w _ h)]; exact h
theorem frozen_in_alloc {w : World} {p : Addr} {v : Value} (hc : w.cell? p = some v) (h : w.frozen? p = false) (o : Obj) : (w.alloc o).frozen? p = false := by
  have hb := World.block_lt_of_cell? w _ hc
  unfold World.frozen? at h ⊢
  rw [((Below.refl w.heap.size w).alloc (Nat.le_refl _) o).block _ hb]
  exact h

theorem catch_panicking (p : Addr) (t old : List UInt8) (w : World) (hc : w.cell? p = some (strV old)) (hz : w.frozen? p = false) :
    CallsD Tryz.prog 46 #[.pointer (some p)] (.panicking [{ v := badV t, recovered := false }]) w fun e u' w' =>
      e = .returned (.tuple #[]) ∧ u' = .panicking [{ v := badV t, recovered := true }] ∧ w' = (w.alloc (.cells #[strV t] 73)).setCell p (strV t) := by
  unfold badV
  have hta := bad_hit t
  have hc2 := cell_in_alloc hc
  have hz2 := frozen_in_alloc hc hz
  refine callsD_of_wpS Tryz.func46 rfl fun c₀ cs hu => ?_
  simp only [Tryz.ntmps46, List.size_toArray, List.length_cons, List.length_nil, Nat.reduceAdd, Nat.reduceSub, Array.replicate_succ, Array.replicate_zero, List.push_toArray, List.append_toArray, List.nil_append, List.cons_append]
  apply wpS_seq
  apply wpS_region
  simp [wpOpsS, go_sem, recoverD, hu, Exit.thenS, hta]
  apply wpS_seq
  apply wpS_region
  simp [wpOpsS, go_sem, Exit.thenS]
  refine wpS_cond (t := true) (by simp [Act.eval]) ?_
  simp only [if_true]
  apply wpS_region
  simp [wpOpsS, go_sem, hc2, hz2, bodyPostS, results, Tryz.results46]

theorem catch_idle (p : Addr) (w : World) :
    CallsD Tryz.prog 46 #[.pointer (some p)] .returning w fun e u' w' => e = .returned (.tuple #[]) ∧ u' = .returning ∧ w' = w.alloc (.cells #[strV []] 73) := by
  have hta := bad_miss
  refine callsD_of_wpS Tryz.func46 rfl fun c₀ cs hu => ?_
  simp only [Tryz.ntmps46, List.size_toArray, List.length_cons, List.length_nil, Nat.reduceAdd, Nat.reduceSub, Array.replicate_succ, Array.replicate_zero, List.push_toArray, List.append_toArray, List.nil_append, List.cons_append]
  apply wpS_seq
  apply wpS_region
  simp [wpOpsS, go_sem, recoverD, hu, Exit.thenS, hta]
  apply wpS_seq
  apply wpS_region
  simp [wpOpsS, go_sem, Exit.thenS]
  refine wpS_cond (t := false) (by simp [Act.eval]) ?_
  simp only [Bool.false_eq_true, if_false]
  refine wpS_of_wp (wp_skip ?_)
  cases c₀
  simp_all [bodyPostS, results, Tryz.results46]

def wordL (l : List UInt8) : List UInt8 := l.takeWhile (fun c => c != 32)
def restL (l : List UInt8) : List UInt8 := l.drop ((wordL l).length + 1)
theorem wordL_len (l : List UInt8) : (wordL l).length ≤ l.length := (List.takeWhile_sublist _).length_le
theorem restL_len (l : List UInt8) : (restL l).length ≤ l.length := by unfold restL; rw [List.length_drop]; omega
theorem cut_v (l : List UInt8) (w : World) (hl : l.length ≤ 1000) (hm : MaxAt w) : Calls Tryz.prog 47 #[strV l, strV [32]] w fun e w' =>
    e = .returned (.tuple #[strV (wordL l), strV (restL l), .bool (!decide ((wordL l).length = l.length))]) ∧ ∃ n, w' = w.drewN n := by
  obtain ⟨m, hm⟩ := hm
  refine (Tryz.strings_Cut ⟨l.toArray⟩ ⟨#[32]⟩ m w (by show l.toArray.size < _; simp; omega) hm).mono ?_
  rintro e w' ⟨rfl, hw⟩
  refine ⟨?_, hw⟩
  have := cut_space l
  show Ending.returned (.tuple #[.string ⟨(Lib.cut l [32]).1.toArray⟩, .string ⟨(Lib.cut l [32]).2.1.toArray⟩, .bool (Lib.cut l [32]).2.2]) = _
  rw [this]
  rfl

theorem grown_then {w w1 w2 : World} {row : Option Nat} (h1 : w.grownBy w1 row) (h2 : Below w.heap.size w1 w2) : w.grownBy w2 row :=
  ⟨h2.os.trans h1.os, h2.tape.trans h1.tape, h2.output.trans h1.output, Nat.le_trans h1.size h2.size, fun k hk hr => (h2.block k hk).trans (h1.block k hk hr)⟩
theorem bench_box {w3 : World} {g N : Nat} {a : List Int} {u : Value} (h : BenchAt w3 g a) (hb : Boxed w3 N 9 u) (hne : g ≠ N) (t : Value) : BenchAt (w3.setCell ⟨N, 0, none⟩ t) g a := by
  obtain ⟨v, hg, ho⟩ := h
  have hs : ∀ k, k ≠ N → (w3.setCell ⟨N, 0, none⟩ t).heap[k]? = w3.heap[k]? := fun k hk => heap_set_other w3 ⟨N, 0, none⟩ t k (by simp; omega)
  exact ⟨v, (hs g hne).trans hg, own_grown ho (row := some N) ⟨rfl, rfl, rfl, by simp [World.setCell], fun k _ hk => hs k (fun e => hk (by rw [e]))⟩ (.inr (own_box_ne ho hb (by decide)))⟩
theorem out_end1 {w w1 w3 : World} {g : Nat} {a : List Int} {u t : Value} {o : Obj} (h1 : Below w.heap.size w w1) (hg : w1.grownBy w3 (some g)) (hb : BenchAt w3 g a) (hx : Boxed w3 w.heap.size 9 u) (hlt : g < w.heap.size) : BenchAt ((w3.setCell ⟨w.heap.size, 0, none⟩ t).alloc o) g a ∧ w.grownBy ((w3.setCell ⟨w.heap.size, 0, none⟩ t).alloc o) (some g) := by
  have hs : w.heap.size ≤ w3.heap.size := Nat.le_trans h1.size hg.size
  have hsz : (w3.setCell ⟨w.heap.size, 0, none⟩ t).heap.size = w3.heap.size := by simp [World.setCell]
  exact ⟨yEz (bench_box hb hx (by omega) t) ((Below.refl _ _).alloc (Nat.le_refl _) _), grown_then (yIz h1 hg) (((Below.refl w.heap.size w3).setCell (p := ⟨w.heap.size, 0, none⟩) (Nat.le_refl _) _).alloc (by omega) _)⟩
theorem out_end2 {w w1 w3 : World} {g : Nat} {a : List Int} {u t : Value} {o : Obj} (h1 : Below w.heap.size w w1) (hg : w1.grownBy w3 (some g)) (hb : BenchAt w3 g a) (hx : Boxed w3 w.heap.size 9 u) (hlt : g < w.heap.size) : BenchAt ((w3.alloc o).setCell ⟨w.heap.size, 0, none⟩ t) g a ∧ w.grownBy ((w3.alloc o).setCell ⟨w.heap.size, 0, none⟩ t) (some g) := by
  have hs : w.heap.size ≤ w3.heap.size := Nat.le_trans h1.size hg.size
  exact ⟨bench_box (yEz hb ((Below.refl _ _).alloc (Nat.le_refl _) _)) (hx.alloc o) (by omega) t, grown_then (yIz h1 hg) (((Below.refl w.heap.size w3).alloc hs o).setCell (p := ⟨w.heap.size, 0, none⟩) (Nat.le_refl _) _)⟩

def outP (a : List Int) (l : List UInt8) : List Int × List UInt8 := if (wordL l).length = l.length then aloneP a (wordL l) else withP a (wordL l) (restL l)

set_option maxHeartbeats 4000000 in
theorem output_v (g : Nat) (l : List UInt8) (a : List Int) (w : World) (hE : EnvAt w) (hb : BenchAt w g a) (hp : partIn a = true) (hl : l.length ≤ 1000) :
    Calls Tryz.prog 28 #[.pointer (some ⟨g, 0, none⟩), strV l] w (Works w g (outP a l)) := by
  have hmf : ∀ (fn : Fn) (first cap : Array Value) (w : World), (Instr.makeFunc fn first cap).run Tryz.prog w = .ok (.func fn first cap) w := fun _ _ _ _ => rfl
  have hb1 : Below w.heap.size w (w.alloc (.cells #[strV []] 9)) := (Below.refl _ w).alloc (Nat.le_refl _) _
  have hmx := max_below hE.2.2.2 hb1
  have HC := Lib.hid (cut_v l _ hl hmx)
  have hwl := wordL_len l
  have hrl := restL_len l
  unfold outP
  have HW := Lib.hid (fun W (h1 : EnvAt W) (h2 : BenchAt W g a) => with_v g (wordL l) (restL l) a W h1 h2 (by omega) (by omega))
  have HA := Lib.hid (fun W (h1 : EnvAt W) (h2 : BenchAt W g a) => alone_v g (wordL l) a W h1 h2 hp (by omega))
  obtain ⟨wd, hwd⟩ : ∃ wd, wd = wordL l := ⟨_, rfl⟩
  obtain ⟨rs, hrs⟩ : ∃ rs, rs = restL l := ⟨_, rfl⟩
  rw [← hwd, ← hrs] at HC HW
  rw [← hwd] at HA
  rw [← hwd, ← hrs]
  have HB := Lib.hid hb
  have HE := Lib.hid hE
  clear hE hb hmx hwl hrl hwd hrs hb1
  obtain ⟨sp, hsp⟩ : ∃ sp, sp = decide (wd.length = l.length) := ⟨_, rfl⟩
  rw [← hsp] at HC
  go_enter_defers Tryz.func28, Tryz.ntmps28
  cases sp with
  | true =>
    rw [if_pos (of_decide_eq_true hsp.symm)]
    clear hsp HW
    go_wp2_with (go_at_call 47; refine HC.out.mono ?_; rintro e w' ⟨rfl, n, rfl⟩)
    have hbel : Below w.heap.size w ((w.alloc (.cells #[strV []] 9)).drewN n) := below_drewN ((Below.refl _ w).alloc (Nat.le_refl _) _) n
    have hbx : Boxed ((w.alloc (.cells #[strV []] 9)).drewN n) w.heap.size 9 (strV []) := by
      have := Boxed.new w 9 (strV [])
      exact this
    have hlt := bench_lt HB.out
    refine (HA.out _ (env_below HE.out hbel) (yEz HB.out hbel)).mono ?_
    obtain ⟨p, hpp⟩ : ∃ p, p = aloneP a wd := ⟨_, rfl⟩
    rw [← hpp]
    have HPP := Lib.hid hpp
    clear hpp
    have HBX := Lib.hid hbx
    have HBEL := Lib.hid hbel
    clear hbx hbel
    rintro e w3 (⟨rfl, hb3, hg3⟩ | ⟨t, hpt, rfl, hb3, hg3⟩)
    · have hx3 := HBX.out.kept hg3 (fun e => by injection e with e; omega)
      have c3 := hx3.cell
      have f3 := hx3.frozen
      have HE3 := Lib.hid (fun (t : Value) (o : Obj) => out_end1 (t := t) (o := o) HBEL.out hg3 hb3 hx3 hlt)
      have cb := cell_in_alloc (hx3.set (strV p.2)).cell
      clear hx3 hg3 hb3
      go_wp2
      refine leaves_cons (f := 46) (args := #[.pointer (some ⟨w.heap.size, 0, none⟩)]) (by simp) (by simp [go_sem]) ?_
      refine (catch_idle ⟨w.heap.size, 0, none⟩ _).mono ?_
      rintro e u' w'' ⟨rfl, rfl, rfl⟩
      simp [Leaves, settle, results, Tryz.results28, go_sem, cb]
      (try rw [← HPP.out])
      exact ⟨rfl, (HE3.out _ _).1, (HE3.out _ _).2⟩
    · have hx3 := HBX.out.kept hg3 (fun e => by injection e with e; omega)
      have c3 := hx3.cell
      have f3 := hx3.frozen
      have HE3 := Lib.hid (fun (t : Value) (o : Obj) => out_end2 (t := t) (o := o) HBEL.out hg3 hb3 hx3 hlt)
      have cb := fun o => ((hx3.alloc o).set (strV t)).cell
      clear hx3 hg3 hb3
      rw [hpt]
      refine leaves_cons (f := 46) (args := #[.pointer (some ⟨w.heap.size, 0, none⟩)]) (by simp) (by simp [go_sem]) ?_
      refine (catch_panicking ⟨w.heap.size, 0, none⟩ t [] _ c3 f3).mono ?_
      rintro e u' w'' ⟨rfl, rfl, rfl⟩
      simp [Leaves, settle, results, Tryz.results28, go_sem, cb]
      (try rw [← HPP.out])
      exact ⟨rfl, (HE3.out _ _).1, (HE3.out _ _).2⟩
  | false =>
    rw [if_neg (of_decide_eq_false hsp.symm)]
    clear hsp HA
    go_wp2_with (go_at_call 47; refine HC.out.mono ?_; rintro e w' ⟨rfl, n, rfl⟩)
    have hbel : Below w.heap.size w ((w.alloc (.cells #[strV []] 9)).drewN n) := below_drewN ((Below.refl _ w).alloc (Nat.le_refl _) _) n
    have hbx : Boxed ((w.alloc (.cells #[strV []] 9)).drewN n) w.heap.size 9 (strV []) := by
      have := Boxed.new w 9 (strV [])
      exact this
    have hlt := bench_lt HB.out
    refine (HW.out _ (env_below HE.out hbel) (yEz HB.out hbel)).mono ?_
    obtain ⟨p, hpp⟩ : ∃ p, p = withP a wd rs := ⟨_, rfl⟩
    rw [← hpp]
    have HPP := Lib.hid hpp
    clear hpp
    have HBX := Lib.hid hbx
    have HBEL := Lib.hid hbel
    clear hbx hbel
    rintro e w3 (⟨rfl, hb3, hg3⟩ | ⟨t, hpt, rfl, hb3, hg3⟩)
    · have hx3 := HBX.out.kept hg3 (fun e => by injection e with e; omega)
      have c3 := hx3.cell
      have f3 := hx3.frozen
      have HE3 := Lib.hid (fun (t : Value) (o : Obj) => out_end1 (t := t) (o := o) HBEL.out hg3 hb3 hx3 hlt)
      have cb := cell_in_alloc (hx3.set (strV p.2)).cell
      clear hx3 hg3 hb3
      go_wp2
      refine leaves_cons (f := 46) (args := #[.pointer (some ⟨w.heap.size, 0, none⟩)]) (by simp) (by simp [go_sem]) ?_
      refine (catch_idle ⟨w.heap.size, 0, none⟩ _).mono ?_
      rintro e u' w'' ⟨rfl, rfl, rfl⟩
      simp [Leaves, settle, results, Tryz.results28, go_sem, cb]
      (try rw [← HPP.out])
      exact ⟨rfl, (HE3.out _ _).1, (HE3.out _ _).2⟩
    · have hx3 := HBX.out.kept hg3 (fun e => by injection e with e; omega)
      have c3 := hx3.cell
      have f3 := hx3.frozen
      have HE3 := Lib.hid (fun (t : Value) (o : Obj) => out_end2 (t := t) (o := o) HBEL.out hg3 hb3 hx3 hlt)
      have cb := fun o => ((hx3.alloc o).set (strV t)).cell
      clear hx3 hg3 hb3
      rw [hpt]
      refine leaves_cons (f := 46) (args := #[.pointer (some ⟨w.heap.size, 0, none⟩)]) (by simp) (by simp [go_sem]) ?_
      refine (catch_panicking ⟨w.heap.size, 0, none⟩ t [] _ c3 f3).mono ?_
      rintro e u' w'' ⟨rfl, rfl, rfl⟩
      simp [Leaves, settle, results, Tryz.results28, go_sem, cb]
      (try rw [← HPP.out])
      exact ⟨rfl, (HE3.out _ _).1, (HE3.out _ _).2⟩
end

theorem nums_none : ∀ (r cur : List UInt8) (out : List Int), (numsGo out cur r).2 = false → (numsGo out cur r).1 = [] := by
  intro r
  induction r with
  | nil => intro cur out h; simp only [numsGo] at h ⊢; split at h <;> simp_all
  | cons c r ih =>
    intro cur out h
    simp only [numsGo] at h ⊢
    split at h
    · rename_i hc
      rw [if_pos hc]
      split at h
      · rename_i hk
        rw [if_pos hk]
        exact ih _ _ h
      · rename_i hk
        rw [if_neg hk]
    · rename_i hc
      rw [if_neg hc]
      exact ih _ _ h

theorem take_all {l : List UInt8} (h : (wordL l).length = l.length) : wordL l = l := (List.takeWhile_sublist _).eq_of_length h

def lineA (a : List Int) (l : List UInt8) : List Int × List UInt8 :=
  match aloneL a l with
  | some (b, true) => (b, sayOk)
  | some (_, false) => (a, sayNo)
  | none => (a, bareL a l)
def lineW (a : List Int) (w : List UInt8) (ns : List Int) (ok : Bool) : List Int × List UInt8 :=
  match changeL a w ns with
  | some (b, k) => if k && ok then (b, sayOk) else (a, sayNo)
  | none => (a, askL a w ns ok)
theorem lineL_of (a : List Int) (l : List UInt8) : lineL a l = if (wordL l).length = l.length then lineA a l else lineW a (wordL l) (numsL (restL l)).1 (numsL (restL l)).2 := rfl

def cut2 (p : List Int × List UInt8) : List Int × List UInt8 := (p.1, cutNL p.2)
theorem chg_alone (a : List Int) (r : List Int × Bool) (l : List UInt8) (h : aloneL a l = some r) : chgT a r = cut2 (lineA a l) := by
  unfold lineA
  rw [h]
  obtain ⟨b, ok⟩ := r
  cases ok <;> rfl
theorem alone_line (a : List Int) (l : List UInt8) : aloneP a l = cut2 (lineA a l) := by
  by_cases h0 : l = w_turned
  · subst h0; exact chg_alone a (partTurned a) w_turned rfl
  by_cases h1 : l = w_next
  · subst h1; exact chg_alone a (listNext a) w_next rfl
  by_cases h2 : l = w_before
  · subst h2; exact chg_alone a (listBefore a) w_before rfl
  have h : aloneL a l = none := by unfold aloneL; rw [if_neg h0, if_neg h1, if_neg h2]
  unfold aloneP lineA
  rw [h, if_neg h0, if_neg h1, if_neg h2]
  unfold bareL cut2
  dsimp only
  by_cases k0 : l = w_show
  · rw [if_pos k0, if_pos k0]
  rw [if_neg k0, if_neg k0]
  by_cases k1 : l = w_blocks
  · rw [if_pos k1, if_pos k1]
  rw [if_neg k1, if_neg k1]
  by_cases k2 : l = w_type
  · rw [if_pos k2, if_pos k2]
  rw [if_neg k2, if_neg k2]
  by_cases k3 : l = w_size
  · rw [if_pos k3, if_pos k3]
  rw [if_neg k3, if_neg k3]
  by_cases k4 : l = w_rank
  · rw [if_pos k4, if_pos k4]
  rw [if_neg k4, if_neg k4]
  by_cases k5 : l = w_merges
  · rw [if_pos k5, if_pos k5]
  rw [if_neg k5, if_neg k5]
  by_cases k6 : l = w_splits
  · rw [if_pos k6, if_pos k6]
  rw [if_neg k6, if_neg k6]
  by_cases k7 : l = w_chains
  · rw [if_pos k7, if_pos k7]
  rw [if_neg k7, if_neg k7]
  by_cases k8 : l = w_place
  · rw [if_pos k8, if_pos k8]
  rw [if_neg k8, if_neg k8]
  by_cases k9 : l = w_arcs
  · rw [if_pos k9, if_pos k9]
  rw [if_neg k9, if_neg k9]
  by_cases k10 : l = w_cross
  · rw [if_pos k10, if_pos k10]
  rw [if_neg k10, if_neg k10]
  by_cases k11 : l = w_nest
  · rw [if_pos k11, if_pos k11]
  rw [if_neg k11, if_neg k11]
  by_cases k12 : l = w_far
  · rw [if_pos k12, if_pos k12]
  rw [if_neg k12, if_neg k12]
  by_cases k13 : l = w_ring
  · rw [if_pos k13, if_pos k13]
  rw [if_neg k13, if_neg k13]
  by_cases k14 : l = w_count
  · rw [if_pos k14, if_pos k14]
  rw [if_neg k14, if_neg k14]
  by_cases k15 : l = w_pairs
  · rw [if_pos k15, if_pos k15]
  rw [if_neg k15, if_neg k15]
  rfl

theorem chg_with (a ns : List Int) (c : Nat) (r : List Int × Bool) (ok : Bool) (h : c = 0 ∨ c = ns.length) : (if ok = true ∧ (c = 0 ∨ c = ns.length) then chgT a r else (a, noT)) = cut2 (if r.2 && ok then (r.1, sayOk) else (a, sayNo)) := by
  obtain ⟨b, k⟩ := r
  cases ok <;> cases k <;> simp [h, chgT, cut2, cutNL, sayOk, sayNo, noT]
theorem chg_bad (a ns : List Int) (c : Nat) (r : List Int × Bool) (b : List Int) (ok : Bool) (h : ¬ (c = 0 ∨ c = ns.length)) : (if ok = true ∧ (c = 0 ∨ c = ns.length) then chgT a r else (a, noT)) = cut2 (if false && ok then (b, sayOk) else (a, sayNo)) := by
  rw [if_neg (fun k => h k.2)]; rfl
theorem ask_with (a ns : List Int) (c : Nat) (t : List UInt8) (ok : Bool) (h : c = 0 ∨ c = ns.length) (h0 : ok = false → t = sayNo) : (if ok = true ∧ (c = 0 ∨ c = ns.length) then (a, cutNL t) else (a, noT)) = cut2 (a, t) := by
  cases ok
  · rw [h0 rfl]; rfl
  · rw [if_pos ⟨rfl, h⟩]; rfl
theorem ask_bad (a ns : List Int) (c : Nat) (t : List UInt8) (ok : Bool) (h : ¬ (c = 0 ∨ c = ns.length)) : (if ok = true ∧ (c = 0 ∨ c = ns.length) then (a, cutNL t) else (a, noT)) = cut2 (a, sayNo) := by
  rw [if_neg (fun k => h k.2)]; rfl
theorem one_no (p : Int × Bool) (h : p.2 = false) : oneL p.1 p.2 = sayNo := by rw [h]; rfl
theorem alike_none (a : List Int) : alike a [] = false := by
  cases h : alike a []
  · rfl
  · exact absurd (alike_iff.1 h).2.1 (by decide)
theorem finer_none (a : List Int) : finerIn a [] = false := by unfold finerIn; rw [alike_none]; rfl

theorem with_line (a : List Int) (w rest : List UInt8) : withP a w rest = cut2 (lineW a w (numsL rest).1 (numsL rest).2) := by
  have hnil : (numsL rest).2 = false → (numsL rest).1 = [] := nums_none rest [] []
  unfold withP withK
  obtain ⟨ns, hns⟩ : ∃ ns, ns = (numsL rest).1 := ⟨_, rfl⟩
  obtain ⟨ok, hok⟩ : ∃ ok, ok = (numsL rest).2 := ⟨_, rfl⟩
  rw [← hns, ← hok] at hnil ⊢
  clear hns hok
  by_cases h0 : w = w_part
  · rw [if_pos h0]
    subst h0
    exact chg_with a ns 0 _ ok (.inl rfl)
  rw [if_neg h0]
  by_cases h1 : w = w_kernel
  · rw [if_pos h1]
    subst h1
    exact chg_with a ns 0 _ ok (.inl rfl)
  rw [if_neg h1]
  by_cases h2 : w = w_at
  · rw [if_pos h2]
    subst h2
    by_cases hl : ns.length = 2
    · refine (chg_with a ns 2 _ ok (.inr hl.symm)).trans ?_
      have hc : ∃ r, changeL a w_at ns = some (if ns.length = 2 then r else (a, false)) := ⟨_, rfl⟩
      unfold lineW
      have he : changeL a w_at ns = some (if ns.length = 2 then listAt (ns.getD 0 0) (ns.getD 1 0) else (a, false)) := rfl
      rw [he, if_pos hl]
    · refine (chg_bad a ns 2 _ a ok (by omega)).trans ?_
      unfold lineW
      have he : changeL a w_at ns = some (if ns.length = 2 then listAt (ns.getD 0 0) (ns.getD 1 0) else (a, false)) := rfl
      rw [he, if_neg hl]
  rw [if_neg h2]
  by_cases h3 : w = w_put
  · rw [if_pos h3]
    subst h3
    by_cases hl : ns.length = 1
    · refine (chg_with a ns 1 _ ok (.inr hl.symm)).trans ?_
      have hc : ∃ r, changeL a w_put ns = some (if ns.length = 1 then r else (a, false)) := ⟨_, rfl⟩
      unfold lineW
      have he : changeL a w_put ns = some (if ns.length = 1 then partPut a (ns.getD 0 0) else (a, false)) := rfl
      rw [he, if_pos hl]
    · refine (chg_bad a ns 1 _ a ok (by omega)).trans ?_
      unfold lineW
      have he : changeL a w_put ns = some (if ns.length = 1 then partPut a (ns.getD 0 0) else (a, false)) := rfl
      rw [he, if_neg hl]
  rw [if_neg h3]
  by_cases h4 : w = w_drop
  · rw [if_pos h4]
    subst h4
    by_cases hl : ns.length = 1
    · refine (chg_with a ns 1 _ ok (.inr hl.symm)).trans ?_
      have hc : ∃ r, changeL a w_drop ns = some (if ns.length = 1 then r else (a, false)) := ⟨_, rfl⟩
      unfold lineW
      have he : changeL a w_drop ns = some (if ns.length = 1 then partDrop a (ns.getD 0 0) else (a, false)) := rfl
      rw [he, if_pos hl]
    · refine (chg_bad a ns 1 _ a ok (by omega)).trans ?_
      unfold lineW
      have he : changeL a w_drop ns = some (if ns.length = 1 then partDrop a (ns.getD 0 0) else (a, false)) := rfl
      rw [he, if_neg hl]
  rw [if_neg h4]
  by_cases h5 : w = w_meet
  · rw [if_pos h5]
    subst h5
    exact chg_with a ns 0 _ ok (.inl rfl)
  rw [if_neg h5]
  by_cases h6 : w = w_join
  · rw [if_pos h6]
    subst h6
    exact chg_with a ns 0 _ ok (.inl rfl)
  rw [if_neg h6]
  by_cases h7 : w = w_rings
  · rw [if_pos h7]
    subst h7
    exact chg_with a ns 0 _ ok (.inl rfl)
  rw [if_neg h7]
  by_cases h8 : w = w_finer
  · rw [if_pos h8]
    subst h8
    have he : lineW a w_finer ns ok = (a, if ok = false then sayNo else if finerIn a ns then sayYes else sayNot) := rfl
    rw [he, ← ask_with a ns 0 (if ok = false then sayNo else if finerIn a ns then sayYes else sayNot) ok (.inl rfl) (fun h => by rw [if_pos h])]
    cases ok <;> rfl
  rw [if_neg h8]
  by_cases h9 : w = w_sign
  · rw [if_pos h9]
    subst h9
    exact ask_with a ns 0 _ ok (.inl rfl) (fun h => by rw [hnil h]; exact one_no _ (by unfold finerSign; rw [finer_none]; rfl))
  rw [if_neg h9]
  by_cases h10 : w = w_inner
  · rw [if_pos h10]
    subst h10
    exact ask_with a ns 0 _ ok (.inl rfl) (fun h => by rw [hnil h]; exact one_no _ (by unfold finerInterval; rw [finer_none]; rfl))
  rw [if_neg h10]
  by_cases h11 : w = w_quarrel
  · rw [if_pos h11]
    subst h11
    exact ask_with a ns 0 _ ok (.inl rfl) (fun h => by rw [hnil h]; exact one_no _ (by unfold viewQuarrel; rw [alike_none]; rfl))
  rw [if_neg h11]
  by_cases h12 : w = w_path
  · rw [if_pos h12]
    subst h12
    exact ask_with a ns 0 _ ok (.inl rfl) (fun h => by rw [hnil h]; exact one_no _ (by unfold viewPath; rw [alike_none]; rfl))
  rw [if_neg h12]
  by_cases h13 : w = w_moves
  · rw [if_pos h13]
    subst h13
    exact ask_with a ns 0 _ ok (.inl rfl) (fun h => by rw [hnil h]; exact one_no _ (by unfold viewMoves; rw [alike_none]; rfl))
  rw [if_neg h13]
  by_cases h14 : w = w_number
  · rw [if_pos h14]
    subst h14
    have he : lineW a w_number ns ok = (a, if ns.length = 2 then oneL (numBy (ext fB) (ns.getD 0 0) (ns.getD 1 0)).1 (numBy (ext fB) (ns.getD 0 0) (ns.getD 1 0)).2 else sayNo) := rfl
    rw [he]
    by_cases hl : ns.length = 2
    · rw [if_pos hl]
      exact ask_with a ns 2 _ ok (.inr hl.symm) (fun h => by rw [hnil h] at hl; simp at hl)
    · rw [if_neg hl]
      exact ask_bad a ns 2 _ ok (by omega)
  rw [if_neg h14]
  by_cases h15 : w = w_all
  · rw [if_pos h15]
    subst h15
    have he : lineW a w_all ns ok = (a, if ns.length = 1 then oneL (numAll (ns.getD 0 0)).1 (numAll (ns.getD 0 0)).2 else sayNo) := rfl
    rw [he]
    by_cases hl : ns.length = 1
    · rw [if_pos hl]
      exact ask_with a ns 1 _ ok (.inr hl.symm) (fun h => by rw [hnil h] at hl; simp at hl)
    · rw [if_neg hl]
      exact ask_bad a ns 1 _ ok (by omega)
  rw [if_neg h15]
  by_cases h16 : w = w_plain
  · rw [if_pos h16]
    subst h16
    have he : lineW a w_plain ns ok = (a, if ns.length = 1 then oneL (arcPlain (ns.getD 0 0)).1 (arcPlain (ns.getD 0 0)).2 else sayNo) := rfl
    rw [he]
    by_cases hl : ns.length = 1
    · rw [if_pos hl]
      exact ask_with a ns 1 _ ok (.inr hl.symm) (fun h => by rw [hnil h] at hl; simp at hl)
    · rw [if_neg hl]
      exact ask_bad a ns 1 _ ok (by omega)
  rw [if_neg h16]
  have hc : changeL a w ns = none := by
    unfold changeL
    rw [if_neg h0, if_neg h1, if_neg h2, if_neg h3, if_neg h4, if_neg h5, if_neg h6, if_neg h7]
  have ha : askL a w ns ok = sayWhat := by
    unfold askL
    rw [if_neg h8, if_neg h9, if_neg h10, if_neg h11, if_neg h12, if_neg h13, if_neg h14, if_neg h15, if_neg h16]
  unfold lineW
  rw [hc, ha]
  rfl

theorem out_line (a : List Int) (l : List UInt8) : outP a l = cut2 (lineL a l) := by
  rw [lineL_of]
  unfold outP
  by_cases h : (wordL l).length = l.length
  · rw [if_pos h, if_pos h, take_all h]
    exact alone_line a l
  · rw [if_neg h, if_neg h]
    exact with_line a _ _
theorem ite_some {c : Prop} [Decidable c] {x y : List UInt8} (hx : x ≠ []) (hy : y ≠ []) : (if c then x else y) ≠ [] := by
  by_cases h : c
  · rw [if_pos h]; exact hx
  · rw [if_neg h]; exact hy
theorem line_some (a : List Int) (l : List UInt8) : (lineL a l).2 ≠ [] := by
  have ht : ∀ (ts : List (List UInt8)) (ok : Bool), textsL ts ok ≠ [] := by
    intro ts ok; unfold textsL; repeat' split
    all_goals simp
  rw [lineL_of]
  split
  · unfold lineA; split
    · simp [sayOk]
    · simp [sayNo]
    · show bareL a l ≠ []
      unfold bareL
      repeat (refine ite_some (ht _ _) ?_)
      simp [sayWhat]
  · unfold lineW; split
    · split <;> simp [sayOk, sayNo]
    · show askL a _ _ _ ≠ []
      unfold askL
      repeat' split
      all_goals first | exact ht _ _ | decide
theorem line_cut (a : List Int) (l : List UInt8) : (lineL a l).2 = cutNL (lineL a l).2 ++ [10] := by
  rcases lineL_ends a l with h | ⟨u, h⟩
  · exact absurd h (line_some a l)
  · rw [h]; unfold cutNL; simp

section
open Go.RowKit

def AtExe (w : World) (ps : List (List UInt8)) (a : List Int) (o : List UInt8) (W : World) : Prop :=
  Below w.heap.size w W ∧ W.heap[w.heap.size]? = some (.cells (ps.map strV).toArray 9 (0, 0)) ∧ BenchAt W (w.heap.size + 2) a ∧ Lib.IsBuilderF 45 5 (w.heap.size + 3) (w.heap.size + 3) (Lib.byteCells o) W

theorem builder_lt {B b : Nat} {bs : List Value} {W : World} (h : Lib.IsBuilderF 45 5 B b bs W) : b < W.heap.size := by
  rcases h with ⟨_, v, h, _⟩ | ⟨_, v, h, _⟩ <;> exact (Array.getElem?_eq_some_iff.1 h).1
theorem builderAt_kept {B b : Nat} {p : Value} {bs : List Value} {W W' : World} (h : Lib.BuilderAtF 45 5 B b p bs W) (hk : ∀ k, k = b ∨ (∃ c fz, W.heap[k]? = some (.cells c 5 fz)) → W'.heap[k]? = W.heap[k]?) : Lib.BuilderAtF 45 5 B b p bs W' := by
  obtain ⟨hB, v, hb, ⟨hl, hown⟩, hne⟩ := h
  refine ⟨hB, v, (hk b (.inl rfl)).trans hb, ⟨hl, ?_⟩, hne⟩
  rcases hown with h | ⟨g, cap, cur, fz, hv, hg, hh, rest⟩
  · exact .inl h
  · exact .inr ⟨g, cap, cur, fz, hv, hg, (hk g (.inr ⟨cur, fz, hh⟩)).trans hh, rest⟩
theorem builder_kept {B b : Nat} {bs : List Value} {W W' : World} (h : Lib.IsBuilderF 45 5 B b bs W) (hk : ∀ k, k = b ∨ (∃ c fz, W.heap[k]? = some (.cells c 5 fz)) → W'.heap[k]? = W.heap[k]?) : Lib.IsBuilderF 45 5 B b bs W' :=
  h.elim (fun x => .inl (builderAt_kept x hk)) (fun x => .inr (builderAt_kept x hk))

theorem exe_grown {w W W1 : World} {ps : List (List UInt8)} {a a1 : List Int} {o : List UInt8} (h : AtExe w ps a o W) (hg : W.grownBy W1 (some (w.heap.size + 2))) (hb : BenchAt W1 (w.heap.size + 2) a1) : AtExe w ps a1 o W1 := by
  obtain ⟨h1, h2, h3, h4⟩ := h
  have hlt := builder_lt h4
  obtain ⟨v, h3, _⟩ := h3
  refine ⟨h1.grown hg h1.size (fun k e => by cases e; omega), (hg.block _ (by omega) (by simp)).trans h2, hb, builder_kept h4 fun k hk => ?_⟩
  have hkl : k < W.heap.size := by
    rcases hk with rfl | ⟨c, fz, h⟩
    · exact hlt
    · exact (Array.getElem?_eq_some_iff.1 h).1
  refine hg.block k hkl fun e => ?_
  injection e with e
  rcases hk with rfl | ⟨c, fz, h⟩
  · omega
  · rw [e, h3] at h
    injection h with h
    injection h with _ ht
    exact absurd ht (by decide)
theorem exe_same {w W W1 : World} {ps : List (List UInt8)} {a : List Int} {o : List UInt8} (h : AtExe w ps a o W) (hb : Below W.heap.size W W1) : AtExe w ps a o W1 :=
  exe_grown h (yOz hb _) (yEz h.2.2.1 hb)

theorem own_others {W W1 : World} {v : Value} {a : List Int} {b : Nat} (h : Own W 0 v a) (hb : ∃ c, W.heap[b]? = some (.cells c 45 (0, 0))) (ho : Lib.OthersKept 5 (some b) W W1) : Own W1 0 v a := by
  obtain ⟨hl, h⟩ := h
  refine ⟨hl, ?_⟩
  rcases h with h | ⟨g, cap, cur, hv, hB, hh, rest⟩
  · exact .inl h
  · refine .inr ⟨g, cap, cur, hv, hB, ho g _ hh (fun e => ?_) (fun c fz e => ?_), rest⟩
    · injection e with e
      obtain ⟨c, hb⟩ := hb
      rw [e, hb] at hh
      injection hh with hh
      injection hh with _ ht
      exact absurd ht (by decide)
    · injection e with _ ht
      exact absurd ht (by decide)

theorem exe_write {w W : World} {ps : List (List UInt8)} {a : List Int} {o : List UInt8} (h : AtExe w ps a o W) (s : ByteArray) (hs : o.length + s.size ≤ 140737488355328) :
    Calls Tryz.prog 27 #[.pointer (some ⟨w.heap.size + 3, 0, none⟩), .string s] W fun e w' => e = .returned (.tuple #[.int .i64 s.size, .nilIface]) ∧ AtExe w ps a (o ++ s.data.toList) w' := by
  obtain ⟨h1, h2, ⟨v, h3, h3o⟩, h4⟩ := h
  have hlt := builder_lt h4
  have hbt : ∃ c, W.heap[w.heap.size + 3]? = some (.cells c 45 (0, 0)) := by
    rcases h4 with ⟨_, v, h, _⟩ | ⟨_, v, h, _⟩ <;> exact ⟨_, h⟩
  refine (Tryz.Builder_WriteString_k (w.heap.size + 3) (w.heap.size + 3) (Lib.byteCells o) s W h4 (by rw [Lib.byteCells_length]; exact hs) (by omega)).mono ?_
  rintro e w' ⟨rfl, hb, hbel, hoth⟩
  refine ⟨rfl, h1.trans (hbel.mono (by omega)), (hbel.block _ (by omega)).trans h2, ⟨v, (hbel.block _ (by omega)).trans h3, own_others h3o hbt hoth⟩, .inr ?_⟩
  rw [Lib.byteCells_append, ← Lib.strCells_eq]
  exact hb

theorem exe_line {w W : World} {ps : List (List UInt8)} {a : List Int} {o : List UInt8} (h : AtExe w ps a o W) (hE : EnvAt w) (hp : partIn a = true) (x : List UInt8) (hx : x.length ≤ 1000) :
    Calls Tryz.prog 28 #[.pointer (some ⟨w.heap.size + 2, 0, none⟩), strV x] W fun e w' => e = .returned (strV (cutNL (lineL a x).2)) ∧ AtExe w ps (lineL a x).1 o w' := by
  refine (output_v (w.heap.size + 2) x a W (env_below hE h.1) h.2.2.1 hp hx).mono ?_
  rintro e w' ⟨rfl, hb, hg⟩
  rw [out_line] at hb
  exact ⟨by rw [out_line]; rfl, exe_grown h hg hb⟩
end

section
open Go.RowKit

theorem split_v (l : List UInt8) (w : World) (hl : l.length ≤ 1000) (hm : MaxAt w) : Calls Tryz.prog 26 #[strV l, strV [10]] w fun e w' =>
    e = .returned (.slice (some ⟨w.heap.size, 0, none⟩) (piecesGo 10 [] l).length (piecesGo 10 [] l).length) ∧ w' = w.alloc (.cells ((piecesGo 10 [] l).map strV).toArray 9) := by
  obtain ⟨m, hm⟩ := hm
  have hp := split_pieces 10 (Lib.countB ⟨l.toArray⟩ ⟨#[10]⟩) ⟨l.toArray⟩ rfl
  have hp2 : (Lib.splitB ⟨#[10]⟩ 0 (Lib.countB ⟨l.toArray⟩ ⟨#[10]⟩) ⟨l.toArray⟩).map (·.data.toList) = piecesGo 10 [] l := by simpa using hp
  have hlen : (piecesGo 10 [] l).length = Lib.countB ⟨l.toArray⟩ ⟨#[10]⟩ + 1 := by
    rw [← hp2, List.length_map]
    exact Lib.splitB_all _ (by decide) 0 _ _ rfl
  refine (Tryz.strings_Split ⟨l.toArray⟩ ⟨#[10]⟩ m w (by show l.toArray.size < _; simp; omega) hm (by decide)).mono ?_
  rintro e w' ⟨rfl, rfl⟩
  refine ⟨by rw [hlen], ?_⟩
  rw [← hp2, List.map_map]
  rfl

theorem pieces_each (c : UInt8) : ∀ (l cur : List UInt8), ∀ x ∈ piecesGo c cur l, x.length ≤ cur.length + l.length := by
  intro l
  induction l with
  | nil => intro cur x hx; simp [piecesGo] at hx; rw [hx]; simp
  | cons b l ih =>
    intro cur x hx
    simp only [piecesGo] at hx
    split at hx
    · rcases List.mem_cons.1 hx with rfl | hx
      · simp
      · have := ih [] x hx
        simp at this ⊢
        omega
    · have := ih (cur ++ [b]) x hx
      simp at this ⊢
      omega
theorem pieces_pos (c : UInt8) : ∀ (l cur : List UInt8), 1 ≤ (piecesGo c cur l).length := by
  intro l
  induction l with
  | nil => intro cur; simp [piecesGo]
  | cons b l ih =>
    intro cur
    simp only [piecesGo]
    split
    · simp
    · exact ih _
theorem piece_cell {W : World} {N : Nat} {ps : List (List UInt8)} (h : W.heap[N]? = some (.cells (ps.map strV).toArray 9 (0, 0))) {k : Nat} (hk : k < ps.length) : W.cell? ⟨N, k, none⟩ = some (strV (ps.getD k [])) := by
  simp [World.cell?, h, hk]
theorem run_drop {line : List Int → List UInt8 → List Int × List UInt8} (ls : List (List UInt8)) (k : Nat) (hk : k < ls.length) (a : List Int) : runL line a (ls.drop k) = ((runL line (line a (ls.getD k [])).1 (ls.drop (k + 1))).1, (line a (ls.getD k [])).2 ++ (runL line (line a (ls.getD k [])).1 (ls.drop (k + 1))).2) := by
  have hd : ls.drop k = ls.getD k [] :: ls.drop (k + 1) := by
    rw [List.drop_eq_getElem_cons hk]
    simp [List.getD, List.getElem?_eq_getElem hk]
  rw [hd]
  rfl
theorem builder_new (w : World) (ps : List (List UInt8)) : AtExe w ps [0] [] ((((w.alloc (.cells (ps.map strV).toArray 9)).alloc (.cells #[.int .i64 0] 3)).alloc (.cells #[.slice (some ⟨w.heap.size + 1, 0, none⟩) 1 1] 42)).alloc (.cells #[.pointer none, .slice none 0 0] 45)) := by
  have e1 : (w.alloc (.cells (ps.map strV).toArray 9)).heap.size = w.heap.size + 1 := by simp
  obtain ⟨w1, hw1⟩ : ∃ w1, w1 = w.alloc (.cells (ps.map strV).toArray 9) := ⟨_, rfl⟩
  have b1 : Below w.heap.size w w1 := by rw [hw1]; exact (Below.refl _ w).alloc (Nat.le_refl _) _
  have k1 : w1.heap[w.heap.size]? = some (.cells (ps.map strV).toArray 9 (0, 0)) := by rw [hw1]; exact heap_alloc_new w _
  rw [← hw1] at e1 ⊢
  clear hw1
  obtain ⟨w2, hw2⟩ : ∃ w2, w2 = w1.alloc (.cells #[.int .i64 0] 3) := ⟨_, rfl⟩
  have e2 : w2.heap.size = w.heap.size + 2 := by rw [hw2, World.size_alloc, e1]
  have b2 : Below w1.heap.size w1 w2 := by rw [hw2]; exact (Below.refl _ w1).alloc (Nat.le_refl _) _
  have k2 : w2.heap[w.heap.size + 1]? = some (.cells #[.int .i64 0] 3 (0, 0)) := by rw [hw2, ← e1]; exact heap_alloc_new w1 _
  rw [← hw2]
  clear hw2
  obtain ⟨w3, hw3⟩ : ∃ w3, w3 = w2.alloc (.cells #[.slice (some ⟨w.heap.size + 1, 0, none⟩) 1 1] 42) := ⟨_, rfl⟩
  have e3 : w3.heap.size = w.heap.size + 3 := by rw [hw3, World.size_alloc, e2]
  have b3 : Below w2.heap.size w2 w3 := by rw [hw3]; exact (Below.refl _ w2).alloc (Nat.le_refl _) _
  have k3 : w3.heap[w.heap.size + 2]? = some (.cells #[.slice (some ⟨w.heap.size + 1, 0, none⟩) 1 1] 42 (0, 0)) := by rw [hw3, ← e2]; exact heap_alloc_new w2 _
  rw [← hw3]
  clear hw3
  obtain ⟨w4, hw4⟩ : ∃ w4, w4 = w3.alloc (.cells #[.pointer none, .slice none 0 0] 45) := ⟨_, rfl⟩
  have b4 : Below w3.heap.size w3 w4 := by rw [hw4]; exact (Below.refl _ w3).alloc (Nat.le_refl _) _
  have k4 : w4.heap[w.heap.size + 3]? = some (.cells #[.pointer none, .slice none 0 0] 45 (0, 0)) := by rw [hw4, ← e3]; exact heap_alloc_new w3 _
  rw [← hw4]
  clear hw4
  have q1 : w4.heap[w.heap.size]? = w1.heap[w.heap.size]? := ((b4.block _ (by omega)).trans (b3.block _ (by omega))).trans (b2.block _ (by omega))
  have q2 : w4.heap[w.heap.size + 1]? = w2.heap[w.heap.size + 1]? := (b4.block _ (by omega)).trans (b3.block _ (by omega))
  have q3 : w4.heap[w.heap.size + 2]? = w3.heap[w.heap.size + 2]? := b4.block _ (by omega)
  refine ⟨yAz (yAz (yAz b1 b2) b3) b4, q1.trans k1, ⟨_, q3.trans k3, ?_⟩, .inl ⟨Nat.le_refl _, _, k4, ⟨rfl, .inl ⟨rfl, rfl⟩⟩, by simp [Value.ownBlock]⟩⟩
  refine ⟨rfl, .inr ⟨w.heap.size + 1, 1, #[.int .i64 0], rfl, Nat.zero_le _, q2.trans k2, by simp, by decide, rfl, rfl⟩⟩

set_option maxHeartbeats 4000000 in
theorem iExecute_v (l : List UInt8) (w : World) (hE : EnvAt w) (hlm : l.length ≤ 140737488355328) : Calls Tryz.prog 10 #[strV l] w (GivesS w (execL lineL l)) := by
  by_cases hbig : 600 < l.length
  · have hr : execL lineL l = [116, 111, 111, 32, 108, 111, 110, 103, 10] := by unfold execL; rw [if_pos hbig]
    rw [hr]
    have hg : decide ((600 : Int) < (l.length : Int)) = true := by simp; omega
    clear hE
    go_enter Tryz.func10, Tryz.ntmps10
    go_wp2
    go_ret
    exact ⟨rfl, Below.refl _ _⟩
  · have HR : Hid (execL lineL l = (runL lineL [0] (linesL l)).2 ++ thingsL (runL lineL [0] (linesL l)).1.length) := Lib.hid (by unfold execL sayL; rw [if_neg (by omega)])
    rw [HR.out]
    have hS := split_v l w (by omega) hE.2.2.2
    have hplen := pieces_len 10 l []
    have hppos := pieces_pos 10 l []
    have hpe := pieces_each 10 l []
    have hll : linesL l = (piecesGo 10 [] l).dropLast := lines_pieces l []
    obtain ⟨ps, hps⟩ : ∃ ps, ps = piecesGo 10 [] l := ⟨_, rfl⟩
    rw [← hps] at hS hplen hppos hpe hll
    have hdl : ∀ k, k < ps.dropLast.length → ps.dropLast.getD k [] = ps.getD k [] := fun k hk => by
      simp only [List.length_dropLast] at hk
      simp only [List.getD, List.getElem?_dropLast, if_pos hk]
    have hxl : ∀ k, k < ps.length → (ps.getD k []).length ≤ 1000 := fun k hk => by
      have hm : ps.getD k [] ∈ ps := by simp only [List.getD, List.getElem?_eq_getElem hk, Option.getD_some]; exact List.getElem_mem hk
      have := hpe _ hm
      simp only [List.length_nil] at this
      omega
    have hnew := builder_new w ps
    rw [hll] at HR ⊢
    obtain ⟨ls, hls⟩ : ∃ ls, ls = ps.dropLast := ⟨_, rfl⟩
    have hlsl : ls.length = ps.length - 1 := by rw [hls]; simp
    rw [← hls] at HR hdl ⊢
    obtain ⟨m, hm⟩ : ∃ m, m = ls.length := ⟨_, rfl⟩
    have hpm : ps.length = m + 1 := by omega
    rw [hpm] at hS
    have HE := Lib.hid hE
    have HNEW := Lib.hid hnew
    have HDL := Lib.hid hdl
    have HXL := Lib.hid hxl
    have HM := Lib.hid hm
    have HPM := Lib.hid hpm
    have HS := Lib.hid hS
    have hbd : ((m : Int) + 1 - 1) = m := by omega
    have hm600 : m ≤ 600 := by omega
    have hsmall : decide ((600 : Int) < (l.length : Int)) = false := by simp; omega
    obtain ⟨g, hg⟩ : ∃ g, w.heap.size + 1 + 1 = g := ⟨_, rfl⟩
    obtain ⟨b, hb⟩ : ∃ b, g + 1 = b := ⟨_, rfl⟩
    have HL : Hid (∀ (W : World) (a : List Int) (o x : List UInt8), AtExe w ps a o W → partIn a = true → x.length ≤ 1000 → Calls Tryz.prog 28 #[.pointer (some ⟨g, 0, none⟩), strV x] W fun e w' => e = .returned (strV (cutNL (lineL a x).2)) ∧ AtExe w ps (lineL a x).1 o w') := Lib.hid fun W a o x h hp hx => by
      rw [← hg]; exact exe_line h hE hp x hx
    have HW : Hid (∀ (W : World) (a : List Int) (o s : List UInt8), AtExe w ps a o W → o.length + s.length ≤ 140737488355328 → Calls Tryz.prog 27 #[.pointer (some ⟨b, 0, none⟩), .string ⟨s.toArray⟩] W fun e w' => e = .returned (.tuple #[.int .i64 s.length, .nilIface]) ∧ AtExe w ps a (o ++ s) w') := Lib.hid fun W a o s h hs => by
      have hsz : (⟨s.toArray⟩ : ByteArray).size = s.length := rfl
      rw [← hb, ← hg]
      have := exe_write h ⟨s.toArray⟩ (by rw [hsz]; exact hs)
      rw [hsz] at this
      simpa using this
    have HB : Hid (∀ (W : World) (a : List Int) (o : List UInt8), AtExe w ps a o W → ∃ v, W.cell? ⟨g, 0, none⟩ = some v ∧ RdV W v a) := Lib.hid fun W a o h => by
      obtain ⟨v, h1, _, h2⟩ := yKz h.2.2.1
      rw [← hg]; exact ⟨v, h1, h2⟩
    have HSTR : Hid (∀ (W : World) (a : List Int) (o : List UInt8), AtExe w ps a o W → Calls Tryz.prog 30 #[.pointer (some ⟨b, 0, none⟩)] W fun e w' => e = .returned (strV o) ∧ Below w.heap.size w w') := Lib.hid fun W a o h => by
      rw [← hb, ← hg]
      have hlt := builder_lt h.2.2.2
      exact (Tryz.Builder_String_any_k (w.heap.size + 3) (w.heap.size + 3) o W h.2.2.2 (by omega)).mono fun e w' k => ⟨k.1, h.1.trans (k.2.2.1.mono (by omega))⟩
    clear hE hnew hdl hxl hm hpm hS hll hps hls hlsl hplen hppos hpe hbig hlm
    go_enter Tryz.func10, Tryz.ntmps10
    go_wp2_with (go_at_call 26; (with_reducible refine HS.out.mono ?_); rintro e w1 ⟨rfl, rfl⟩)
    go_loopw [7, 22] (fun x i wr => ∃ (k : Nat) (a : List Int) (o : List UInt8), i = .int .i64 k ∧ k ≤ m ∧ AtExe w ps a o wr ∧ partIn a = true ∧ o.length ≤ 100001 * k ∧ runL lineL [0] ls = ((runL lineL a (ls.drop k)).1, o ++ (runL lineL a (ls.drop k)).2)) (fun _ i _ => m - (intOf i).toNat)
    case atStart => exact ⟨0, [0], [], rfl, Nat.zero_le _, HNEW.out, by decide, by simp, by simp⟩
    case round =>
      obtain ⟨k, a, o, rfl, hk, hat, hp, hol, hrun⟩ := hrel
      have HAT := Lib.hid hat
      have HP := Lib.hid hp
      have HRUN := Lib.hid hrun
      clear hp hrun
      by_cases hlt : k < m
      · have c0 := piece_cell hat.2.1 (k := k) (by have := HPM.out; omega)
        have hx := HXL.out k (by have := HPM.out; omega)
        have hls := HDL.out k (by have := HM.out; omega)
        have hnx := run_drop (line := lineL) ls k (by have := HM.out; omega) a
        rw [hls] at hnx
        obtain ⟨x, hxe⟩ : ∃ x, x = ps.getD k [] := ⟨_, rfl⟩
        rw [← hxe] at c0 hx hnx
        have hshort := line_short HP.out x
        have hpart := lineL_part HP.out x
        have hcut := line_cut a x
        have hO := HL.out wr a o x hat HP.out hx
        obtain ⟨a1, t, hr2⟩ : ∃ a1 t, (a1, t) = lineL a x := ⟨_, _, rfl⟩
        rw [← hr2] at hnx hshort hpart hcut hO
        obtain ⟨u, hu⟩ : ∃ u, u = cutNL t := ⟨_, rfl⟩
        have hcut2 : t = u ++ [10] := by rw [hu]; exact hcut
        have hs2 : t.length ≤ 100000 := hshort
        have hul : u.length + 1 = t.length := by rw [hcut2]; simp
        have hO2 : Calls Tryz.prog 28 #[.pointer (some ⟨g, 0, none⟩), strV x] wr fun e w' => e = .returned (strV u) ∧ AtExe w ps a1 o w' := by rw [hu]; exact hO
        have HO := Lib.hid hO2
        have HNX := Lib.hid hnx
        have HPA := Lib.hid hpart
        have HC2 := Lib.hid hcut2
        clear hO hO2 hnx hpart hcut hcut2 hu hr2 hls hxe hx hat hshort
        have hcat : (⟨u.toArray⟩ : ByteArray) ++ ⟨#[10]⟩ = ⟨(u ++ [10]).toArray⟩ := ByteArray.mk_append_mk u [10]
        have hob : o.length ≤ 60000600 := by omega
        have HW1 := Lib.hid (fun W (h : AtExe w ps a1 o W) => HW.out W a1 o (u ++ [10]) h (by rw [List.length_append, List.length_singleton]; omega))
        have hkb : k ≤ 600 := by omega
        go_wp2_with (first | (go_at_call 28; (with_reducible refine HO.out.mono ?_); rintro e w1 ⟨rfl, hat1⟩; have HA1 := Lib.hid hat1; clear hat1) | (go_at_call 27; (with_reducible refine (HW1.out _ HA1.out).mono ?_); rintro e w2 ⟨rfl, hat2⟩; have HA2 := Lib.hid hat2; clear hat2))
        all_goals go_wp2
        all_goals refine ⟨⟨k + 1, a1, o ++ t, rfl, by omega, by rw [HC2.out]; exact HA2.out, HPA.out, by rw [List.length_append]; omega, by rw [HRUN.out, HNX.out]; simp⟩, by simp [intOf]; omega⟩
      · obtain rfl : k = m := by omega
        have hend : runL lineL a (ls.drop k) = (a, []) := by rw [HM.out, List.drop_length]; rfl
        rw [hend] at HRUN
        have HE2 : Hid (execL lineL l = o ++ ([116, 104, 105, 110, 103, 115, 32] ++ decZ (a.length : Int) ++ [10])) := Lib.hid (by
          rw [HR.out, HRUN.out]
          unfold thingsL decZ
          rw [if_neg (by omega)]
          simp)
        have hal := yCz HP.out
        have hd := fun W (h : PowAt W) => itoa_v (a.length : Int) (num_nat (by omega)) W h
        have hdl := decZ_len15 (n := (a.length : Int)) (num_nat (by omega))
        have hpw := yaz HE.out.2.2.1 hat.1
        obtain ⟨v, cv, hv⟩ := HB.out wr a o hat
        obtain ⟨ao, ca, rfl, _, _, _⟩ := hv
        obtain ⟨n, hn⟩ : ∃ n, n = a.length := ⟨_, rfl⟩
        rw [← hn] at hd hdl hal cv HE2
        obtain ⟨t, ht⟩ : ∃ t, t = decZ (n : Int) := ⟨_, rfl⟩
        rw [← ht] at hd hdl HE2
        have HD := Lib.hid hd
        have HPW := Lib.hid hpw
        have hob : o.length ≤ 60000600 := by omega
        obtain ⟨p1, hp1⟩ : ∃ p1, p1 = [116, 104, 105, 110, 103, 115, 32] ++ t := ⟨_, rfl⟩
        obtain ⟨p2, hp2⟩ : ∃ p2, p2 = p1 ++ [10] := ⟨_, rfl⟩
        have hp1l : p1.length ≤ 60 := by rw [hp1]; simp only [List.length_append, List.length_cons, List.length_nil]; omega
        have hp2l : p2.length ≤ 100 := by rw [hp2, hp1]; simp only [List.length_append, List.length_cons, List.length_nil]; omega
        have HW1 := Lib.hid (fun W (h : AtExe w ps a o W) => HW.out W a o p2 h (by omega))
        have HS1 := Lib.hid (fun W (h : AtExe w ps a (o ++ p2) W) => HSTR.out W a _ h)
        have hcat : (⟨#[116, 104, 105, 110, 103, 115, 32]⟩ : ByteArray) ++ ⟨t.toArray⟩ = ⟨p1.toArray⟩ := by rw [hp1]; exact ByteArray.mk_append_mk [116, 104, 105, 110, 103, 115, 32] t
        have hcat2 : (⟨p1.toArray⟩ : ByteArray) ++ ⟨#[10]⟩ = ⟨p2.toArray⟩ := by rw [hp2]; exact ByteArray.mk_append_mk _ [10]
        have HE3 : Hid (execL lineL l = o ++ p2) := Lib.hid (by rw [HE2.out, hp2, hp1])
        clear hn ht hd hend hol hpw hp1 hp2 hal HE2
        go_wp2_with (first | (go_at_call 29; (with_reducible refine (HD.out _ HPW.out).mono ?_); rintro e w1 ⟨rfl, hb1⟩; have HA1 := Lib.hid (exe_same HAT.out hb1)) | (go_at_call 27; (with_reducible refine (HW1.out _ HA1.out).mono ?_); rintro e w2 ⟨rfl, hat2⟩; have HA2 := Lib.hid hat2; clear hat2) | (go_at_call 30; (with_reducible refine (HS1.out _ HA2.out).mono ?_); rintro e w3 ⟨rfl, hb3⟩))
        all_goals go_ret
        all_goals exact ⟨by rw [← HR.out, HE3.out]; rfl, hb3⟩
end

theorem gTz64 : Tryz.prog.globalNamed "math/bits.deBruijn64tab" = some 5 := by kernel_rfl
theorem tTz64 : (Tryz.prog.globals[(5 : Nat)]?).map (·.type) = some 223 := by kernel_rfl
theorem dTz64 : (Rows.laid_math_bits_deBruijn64tab : DataW Unit) = Lib.tabData .u8 tzTab := rfl

theorem gErr : Tryz.prog.globalNamed "errors.errorType" = some 6 := by kernel_rfl
theorem rtErr : (Tryz.prog.cutTypes.find? (·.1 == "internal/reflectlite.rtype")).map (·.2) = some 247 := by kernel_rfl
theorem oneErr : ((List.range 296).filter fun t => Tryz.prog.rowNamed t [101, 114, 114, 111, 114]) = [47] := by kernel_rfl
theorem sizeErr : Tryz.prog.types.size = 296 := by kernel_rfl

theorem errAt_of_met {W : World} (h : handlesMet Tryz.prog [("errors.errorType", Rows.laid_errors_errorType)] W) : ErrAt W := by
  obtain ⟨name, u, ty, e1, e2, e3, e4, e5⟩ := h _ (List.mem_singleton.2 rfl)
  have en : name = [101, 114, 114, 111, 114] := (Option.some.inj e1).symm
  subst en
  obtain rfl := Option.some.inj (rtErr.symm.trans e2)
  have hm : ty ∈ (List.range 296).filter fun t => Tryz.prog.rowNamed t [101, 114, 114, 111, 114] := List.mem_filter.2 ⟨List.mem_range.2 (by rw [← sizeErr]; exact e3), e4⟩
  rw [oneErr] at hm
  obtain rfl := List.mem_singleton.1 hm
  have hh : typeHandle Tryz.prog 47 = .pointer (some ⟨7, 47, none⟩) := by kernel_rfl
  rw [hh] at e5
  unfold ErrAt
  simpa using World.var?_cell gErr e5 0

theorem gPow : Tryz.prog.globalNamed "internal/strconv.uint64pow10" = some 1 := by kernel_rfl
theorem tPow : (Tryz.prog.globals[(1 : Nat)]?).map (·.type) = some 147 := by kernel_rfl
theorem dPow : (Rows.laid_internal_strconv_uint64pow10 : DataW Unit) = Lib.tabData .u64 Lib.pow10Tab := rfl

theorem maxAt_of_shaped {W : World} (hsh : W.ShapedOpen Tryz.prog) : MaxAt W :=
  cell_of_shapedOpen_int (g := 0) (zero := #[.int .i64 0]) (t := 3) hsh (of_decide_eq_true (by kernel_rfl)) (by kernel_rfl) rfl (by kernel_rfl) (by kernel_rfl) Tryz.underlying3
theorem env_of_laid {W : World} (hsh : W.ShapedOpen Tryz.prog) (h : laidMetH Tryz.prog [("math/bits.deBruijn32tab", Rows.laid_math_bits_deBruijn32tab), ("math/bits.deBruijn64tab", Rows.laid_math_bits_deBruijn64tab), ("internal/strconv.uint64pow10", Rows.laid_internal_strconv_uint64pow10), ("unicode/utf8.acceptRanges", Rows.laid_unicode_utf8_acceptRanges), ("errors.errorType", Rows.laid_errors_errorType), ("unicode/utf8.first", Rows.laid_unicode_utf8_first)] W) : EnvAt W := by
  have h' : laidMet Tryz.prog [("math/bits.deBruijn32tab", Rows.laid_math_bits_deBruijn32tab), ("math/bits.deBruijn64tab", Rows.laid_math_bits_deBruijn64tab), ("internal/strconv.uint64pow10", Rows.laid_internal_strconv_uint64pow10), ("unicode/utf8.acceptRanges", Rows.laid_unicode_utf8_acceptRanges), ("unicode/utf8.first", Rows.laid_unicode_utf8_first)] W ∧ handlesMet Tryz.prog [("errors.errorType", Rows.laid_errors_errorType)] W := h
  refine ⟨?_, errAt_of_met h'.2, ?_, maxAt_of_shaped hsh⟩
  · obtain ⟨ps, ⟨g0, t0, cs0, f0, p0, q0, hg0, ht0, hv0, hd0, ⟨g1, t1, cs1, f1, p1, q1, hg1, ht1, hv1, hd1, _, _⟩, _⟩, _, _⟩ := h'.1
    obtain rfl := Option.some.inj (gTz64.symm.trans hg1)
    obtain rfl := Option.some.inj (tTz64.symm.trans ht1)
    rw [dTz64] at hd1
    have hc := Lib.cells_of_tab Tryz.underlying223 Tryz.underlying5 (by kernel_rfl) (by kernel_rfl) hd1
    have hcell : ∀ j, j < 64 → W.cell? ⟨5, j, none⟩ = some (.int .u8 (tzTab.getD j 0)) := by
      intro j hj
      have h2 : Lib.TabIs Tryz.prog W "math/bits.deBruijn64tab" .u8 tzTab := by
        unfold Lib.TabIs
        rw [hv1, ← hc]
      exact h2.cell gTz64 j (by show j < 64; exact hj)
    exact ⟨by have := World.block_lt_of_cell? W _ (hcell 0 (by omega)); simp at this; omega, hcell⟩
  · obtain ⟨ps, ⟨g0, t0, cs0, f0, p0, q0, hg0, ht0, hv0, hd0, ⟨g1, t1, cs1, f1, p1, q1, hg1, ht1, hv1, hd1, ⟨g2, t2, cs2, f2, p2, q2, hg2, ht2, hv2, hd2, _, _⟩, _⟩, _⟩, _, _⟩ := h'.1
    obtain rfl := Option.some.inj (gPow.symm.trans hg2)
    obtain rfl := Option.some.inj (tPow.symm.trans ht2)
    rw [dPow] at hd2
    have hc := Lib.cells_of_tab Tryz.underlying147 Tryz.underlying130 (by kernel_rfl) (by kernel_rfl) hd2
    unfold PowAt Lib.TabIs
    rw [hv2, ← hc]

theorem returns_shaped_and {H : Type} {enc : TypeId × Value → H} {a : Assume} {C : Checked} {os : Os} {f : FuncId} {fn : Func} {s : ChangeSpec} {conds : List PathCond} {apart fresh handsOn again : Bool} {X : World → Array Value → Prop}
    (hX : ∀ (w w' : World) (args : Array Value), w.heap = w'.heap → X w args → X w' args)
    (own : ownKnob C.prog.godebug = none) (started : os.Started) (noInit : C.prog.inits.idxOf? f = none) (hfn : C.prog.funcs[f]? = some fn)
    (witness : ∃ (w : World) (tape : Tape) (i : Input), w.os = os ∧ (w.forCall tape i).Shaped C.prog ∧ i.vars = [] ∧ Input.okWide C.prog (w.forCall tape i) .any w.heap.size f i ∧
      ((s.pre enc C.prog fn conds apart (w.forCall tape i).memory i.args ∧ X (w.forCall tape i).memory i.args) ∧ sizedMet enc C.prog fn (OpenSpec.ofChange s) apart (w.forCall tape i).memory i.args) ∧ a.holds C.prog (lone (Frame.enter C.prog f i.args .normal) [] (w.forCall tape i)))
    (contract : ∀ (W : World) (base : Nat) (args : Array Value) (ds gs : List (DataW H)) (before : List MemPlace),
      (∀ (j : Nat) t v, fn.params[j]? = some t → args[j]? = some v → Value.okWide C.prog W .any base t v) →
      DataW.Whole enc C.prog fn.params.toList s.vars apart W args.toList ds gs before →
      conds.all (PathCond.test C.prog ⟨fn.params.toList, ds, s.plain.varTypes C.prog, gs⟩) = true →
      (DataW.weightsEach C.prog (fn.params.toList ++ s.plain.varTypes C.prog) (ds ++ gs)).all (· ≤ reachBytes) = true → W.ShapedOpen C.prog → X W args →
      a.holds C.prog (lone (Frame.enter C.prog f args .normal) [] W) →
      Calls C.prog f args W fun e W' => ∃ v, e = .returned v ∧ s.post enc C.prog fn apart fresh handsOn again W args v W') :
    ReturnsInHanded a C os f .any (fun w args => (s.pre enc C.prog fn conds apart w args ∧ X w args) ∧ sizedMet enc C.prog fn (OpenSpec.ofChange s) apart w args) (s.post enc C.prog fn apart fresh handsOn again) := by
  refine returnsInHanded_of_calls own started noInit witness ?_
  intro w tape i _ hsh _ hok hpre hholds
  obtain ⟨_, _, _, fn', hfn', _, _, _, _, hval⟩ := hok
  have e : fn' = fn := Option.some.inj (hfn'.symm.trans hfn)
  subst e
  obtain ⟨⟨⟨ds, gs, before, hw, hc⟩, hx⟩, hz⟩ := hpre
  have hw' := DataW.Whole.of_heap (w' := w.forCall tape i) (by rfl) hw
  refine (contract (w.forCall tape i) w.heap.size i.args ds gs before hval hw' hc (hz.weights hw) hsh (hX _ _ _ (by rfl) hx) hholds).mono fun e W' ⟨v, he, hp⟩ => ?_
  subst he
  exact ChangeSpec.post_blind hp

def laidFive : List (String × DataW Unit) := [("math/bits.deBruijn32tab", Rows.laid_math_bits_deBruijn32tab), ("math/bits.deBruijn64tab", Rows.laid_math_bits_deBruijn64tab), ("internal/strconv.uint64pow10", Rows.laid_internal_strconv_uint64pow10), ("unicode/utf8.acceptRanges", Rows.laid_unicode_utf8_acceptRanges), ("unicode/utf8.first", Rows.laid_unicode_utf8_first)]
theorem witExe_os (os : Os) : ((World.doorLaid Tryz.prog 400 os).layVars Tryz.prog laidFive).os = os := (World.layVars_os _ _ _).trans rfl
theorem witExe_met (os : Os) (args : Array Value) : laidMet Tryz.prog laidFive (((World.doorLaid Tryz.prog 400 os).layVars Tryz.prog laidFive).forCall (fun _ _ => 0) ⟨#[], args, []⟩).memory := by
  have e1 : (laidFive.filter fun x => (laidFive.map (·.1)).contains x.1) = laidFive := List.filter_eq_self.2 fun x hx => List.contains_iff_mem.2 (List.mem_map.2 ⟨x, hx, rfl⟩)
  have e2 : (laidFive.filter fun x => !(laidFive.map (·.1)).contains x.1) = [] := List.filter_eq_nil_iff.2 fun x hx => by rw [List.contains_iff_mem.2 (List.mem_map.2 ⟨x, hx, rfl⟩)]; simp
  have h : laidMet Tryz.prog laidFive ((World.doorLaid Tryz.prog 400 os).layVars Tryz.prog laidFive) := laidMet_layVars (w0 := World.doorLaid Tryz.prog 400 os) (laidFive.map (·.1)) [] (by rw [e1]) (by rw [e1]; kernel_rfl) (by rw [e1]; kernel_rfl) (by rw [e2]; exact LaidIn.none)
  exact h.of_heap (by simp [World.memory, World.forCall, Input.heap])
theorem witExe_handle (os : Os) (args : Array Value) : ([("errors.errorType", (Rows.laid_errors_errorType : DataW Unit))]).all (handleAtB Tryz.prog (((World.doorLaid Tryz.prog 400 os).layVars Tryz.prog laidFive).forCall (fun _ _ => 0) ⟨#[], args, []⟩).memory) = true := by kernel_rfl
theorem witExe_shaped (os : Os) (s : Value) : (((World.doorLaid Tryz.prog 400 os).layVars Tryz.prog laidFive).forCall (fun _ _ => 0) ⟨#[], #[s], []⟩).Shaped Tryz.prog := World.shaped_of_ZipB (by kernel_rfl) (by kernel_rfl)
theorem witExe_six (os : Os) (args : Array Value) : laidMetH Tryz.prog [("math/bits.deBruijn32tab", Rows.laid_math_bits_deBruijn32tab), ("math/bits.deBruijn64tab", Rows.laid_math_bits_deBruijn64tab), ("internal/strconv.uint64pow10", Rows.laid_internal_strconv_uint64pow10), ("unicode/utf8.acceptRanges", Rows.laid_unicode_utf8_acceptRanges), ("errors.errorType", Rows.laid_errors_errorType), ("unicode/utf8.first", Rows.laid_unicode_utf8_first)] (((World.doorLaid Tryz.prog 400 os).layVars Tryz.prog laidFive).forCall (fun _ _ => 0) ⟨#[], args, []⟩).memory :=
  laidMetH_of_parts3 (fuel := 8) (witExe_met os args) (witExe_handle os args) (by kernel_rfl)

section
open Go.RowKit

theorem byte_at (l : List UInt8) (k : Nat) (hk : k < l.length) (h : k < (⟨l.toArray⟩ : ByteArray).size) : (⟨l.toArray⟩ : ByteArray)[k] = l.getD k 0 := by
  have : (⟨l.toArray⟩ : ByteArray)[k] = l[k] := rfl
  rw [this]
  simp [List.getD, List.getElem?_eq_getElem hk]
theorem ten_test (c : UInt8) : ((c.toNat : Int) == 10) = decide (c = 10) := by
  by_cases h : c = 10
  · rw [h]; rfl
  · have : c.toNat ≠ 10 := fun e => h (UInt8.toNat_inj.1 e)
    rw [decide_eq_false h]
    simp; omega

set_option maxHeartbeats 4000000 in
theorem complete_v (l : List UInt8) (w : World) (hl : l.length ≤ 1000000000) : Calls Tryz.prog 12 #[strV l] w (GivesS w (completeL l)) := by
  obtain ⟨n, hn⟩ : ∃ n, n = l.length := ⟨_, rfl⟩
  have HN := Lib.hid hn
  rw [← hn] at hl
  have hsz : (⟨l.toArray⟩ : ByteArray).size = n := by rw [hn]; rfl
  obtain ⟨r, hr⟩ : ∃ r, r = completeL l := ⟨_, rfl⟩
  have HR : Hid (r = l.take (cutAt l n)) := Lib.hid (by rw [hr, hn]; rfl)
  rw [← hr]
  clear hn hr
  go_enter Tryz.func12, Tryz.ntmps12
  go_wp2
  go_loopw [3] (fun i wr => ∃ k : Nat, i = .int .i64 k ∧ k ≤ n ∧ cutAt l n = cutAt l k ∧ wr = w) (fun i _ => (intOf i).toNat)
  case atStart => exact ⟨n, rfl, Nat.le_refl _, rfl, rfl⟩
  case round =>
    obtain ⟨k, rfl, hk, hcut, rfl⟩ := hrel
    have HC := Lib.hid hcut
    clear hcut
    cases k with
    | zero =>
      have e0 : r = [] := by rw [HR.out, HC.out]; rfl
      have HE := Lib.hid e0
      go_wp2
      go_ret
      exact ⟨by rw [HE.out]; rfl, Below.refl _ _⟩
    | succ j =>
      have hjl : j < l.length := by have := HN.out; omega
      obtain ⟨c, hc⟩ : ∃ c, (⟨l.toArray⟩ : ByteArray)[j]'(by rw [hsz]; omega) = c := ⟨_, rfl⟩
      have hce : l.getD j 0 = c := by rw [← hc]; exact (byte_at l j hjl _).symm
      have hg : (0 : Int) < ((j + 1 : Nat) : Int) := by omega
      have hj1 : ((j + 1 : Nat) : Int) - 1 = (j : Int) := by omega
      by_cases hc10 : c = 10
      · have ht : ((c.toNat : Int) == 10) = true := by rw [hc10]; rfl
        have hx : (⟨l.toArray⟩ : ByteArray).extract 0 (j + 1) = ⟨r.toArray⟩ := by
          rw [str_extract, HR.out, HC.out, cutAt_succ, if_pos (by rw [hce, hc10])]
          rfl
        clear hc10 hce hjl
        go_wp2
        go_ret
        exact ⟨rfl, Below.refl _ _⟩
      · have ht : ((c.toNat : Int) == 10) = false := by rw [ten_test]; exact decide_eq_false hc10
        have hnx : cutAt l n = cutAt l j := by rw [HC.out, cutAt_succ, if_neg (by rw [hce]; exact hc10)]
        have HNX := Lib.hid hnx
        clear hc10 hce hjl hnx
        go_wp2
        refine ⟨⟨j, rfl, by omega, HNX.out, by first | trivial | rfl⟩, by simp [intOf]⟩

set_option maxHeartbeats 4000000 in
theorem lastLine_v (l : List UInt8) (w : World) (hl : l.length ≤ 1000000000) : Calls Tryz.prog 13 #[strV l] w (GivesS w (lastL l)) := by
  rcases l with _ | ⟨c0, l0⟩
  · have e0 : lastL [] = [] := rfl
    rw [e0]
    go_enter Tryz.func13, Tryz.ntmps13
    go_wp2
    go_loopw [3] (fun i wr => i = .int .i64 (-2) ∧ wr = w) (fun _ _ => 0)
    case atStart => exact ⟨rfl, rfl⟩
    case round =>
      obtain ⟨rfl, rfl⟩ := hrel
      go_wp2
      go_ret
      exact ⟨rfl, Below.refl _ _⟩
  · obtain ⟨l, hl0⟩ : ∃ l, l = c0 :: l0 := ⟨_, rfl⟩
    rw [← hl0] at hl ⊢
    obtain ⟨n, hn⟩ : ∃ n, n + 1 = l.length := ⟨l0.length, by rw [hl0]; rfl⟩
    have HN := Lib.hid hn
    rw [← hn] at hl
    have hsz : (⟨l.toArray⟩ : ByteArray).size = n + 1 := by rw [hn]; rfl
    obtain ⟨r, hr⟩ : ∃ r, r = lastL l := ⟨_, rfl⟩
    have HR : Hid (r = l.drop (cutAt l n)) := Lib.hid (by rw [hr]; unfold lastL; rw [← hn]; rfl)
    rw [← hr]
    have hn2 : ((n + 1 : Nat) : Int) - 2 = (n : Int) - 1 := by omega
    clear hn hr hl0
    go_enter Tryz.func13, Tryz.ntmps13
    go_wp2
    go_loopw [3] (fun i wr => ∃ k : Nat, i = .int .i64 ((k : Int) - 1) ∧ k ≤ n ∧ cutAt l n = cutAt l k ∧ wr = w) (fun i _ => (intOf i + 1).toNat)
    case atStart => exact ⟨n, congrArg (Value.int .i64) (by omega), Nat.le_refl _, rfl, rfl⟩
    case round =>
      obtain ⟨k, rfl, hk, hcut, rfl⟩ := hrel
      have HC := Lib.hid hcut
      clear hcut
      cases k with
      | zero =>
        have e0 : r = l := by rw [HR.out, HC.out]; rfl
        have HE := Lib.hid e0
        go_wp2
        go_ret
        exact ⟨by rw [HE.out]; rfl, Below.refl _ _⟩
      | succ j =>
        have hjl : j < l.length := by have := HN.out; omega
        obtain ⟨c, hc⟩ : ∃ c, (⟨l.toArray⟩ : ByteArray)[j]'(by rw [hsz]; omega) = c := ⟨_, rfl⟩
        have hce : l.getD j 0 = c := by rw [← hc]; exact (byte_at l j hjl _).symm
        have hj1 : ((j + 1 : Nat) : Int) - 1 = (j : Int) := by omega
        rw [hj1]
        have hg : decide ((0 : Int) ≤ (j : Int)) = true := by simp
        by_cases hc10 : c = 10
        · have ht : ((c.toNat : Int) == 10) = true := by rw [hc10]; rfl
          have hx : (⟨l.toArray⟩ : ByteArray).extract (j + 1) (n + 1) = ⟨r.toArray⟩ := by
            rw [str_extract, HR.out, HC.out, cutAt_succ, if_pos (by rw [hce, hc10]), HN.out, List.take_length]
          clear hc10 hce hjl
          go_wp2
          go_ret
          exact ⟨rfl, Below.refl _ _⟩
        · have ht : ((c.toNat : Int) == 10) = false := by rw [ten_test]; exact decide_eq_false hc10
          have hnx : cutAt l n = cutAt l j := by rw [HC.out, cutAt_succ, if_neg (by rw [hce]; exact hc10)]
          have HNX := Lib.hid hnx
          clear hc10 hce hjl hnx
          go_wp2
          refine ⟨⟨j, rfl, by omega, HNX.out, by first | trivial | rfl⟩, by simp [intOf]⟩
end

theorem joined_split {P : Program} {f : FuncId} {fn : Func} {s : ChangeSpec} {c : OpenClaim} (h1 : c.wf (OpenSpec.ofChange s) = true) (h2 : laidOutB P = true) (h3 : mapsRowed P = true) (h4 : fn.params.all (P.readableRec ·) = true) (h5 : namedTie P c.named s.vars = true)
    (h6 : ((c.stops == []) && (P.stops == []) && (c.knobs == []) && (P.stopKnobs == [])) = true) (h7 : (c.inPlace == P.inPlace f) = true) (h8 : (c.unfollowed == P.unfollowed f) = true) (h9 : (c.recurses == P.recurses f) = true) (h10 : (c.named == P.varsNamed f) = true)
    (h11 : ((c.maps == (fn.params.toList ++ s.plain.varTypes P).any (P.mapsRec ·)) && (c.ifaces == (fn.params.toList ++ s.plain.varTypes P).any (P.ifacesRec ·)) && (c.mapsOut == P.mapsAmong fn.resultTypes.toList)) = true)
    (h12 : ((c.loops == (fn.params.toList ++ s.plain.varTypes P).any (P.loopsFrom ·)) && (c.wideKeys == (fn.params.toList ++ s.plain.varTypes P ++ fn.resultTypes.toList).any (P.wideKeysFrom ·))) = true)
    (h13 : (s.vars.all (P.varReadable ·) && fn.resultTypes.all (fun t => P.readableRec t && decide (t < P.types.size)) && (c.ifacesOut == fn.resultTypes.toList.any (P.ifacesRec ·)) && (c.loopsOut == fn.resultTypes.toList.any (P.loopsFrom ·))) = true)
    (h14 : (c.plainKeys == P.plainKeys) = true) (h15 : c.shortTexts.isNone = true) (h16 : P.stopsHeard = true) (h17 : P.mayEnter = true) (h18 : (c.lifted == P.liftsFinal) = true) (h19 : (P.make == some c.make) = true)
    (h20 : (c.kinds == (if c.domain.isEmpty then [] else fn.params.toList.map fun t => match P.underlying t with | some (.int k) => some k | _ => none)) = true) (h21 : (c.pinned == c.pinnedBy) = true)
    (h22 : (c.veiled == (fn.params.toList ++ s.plain.varTypes P ++ fn.resultTypes.toList).any (P.veiledRec ·)) = true) (h23 : c.veiledFits P fn.params.toList (fn.params.toList ++ s.plain.varTypes P ++ fn.resultTypes.toList) = true) : joinedFacts P f fn s c = true := by
  simp only [Bool.and_eq_true] at h6 h11 h12 h13
  obtain ⟨⟨⟨a1, a2⟩, a3⟩, a4⟩ := h6
  obtain ⟨⟨b1, b2⟩, b3⟩ := h11
  obtain ⟨c1, c2⟩ := h12
  obtain ⟨⟨⟨d1, d2⟩, d3⟩, d4⟩ := h13
  simp only [joinedFacts, h1, h2, h3, h4, h5, a1, a2, a3, a4, h7, h8, h9, h10, b1, b2, b3, c1, c2, d1, d2, d3, d4, h14, h15, h16, h17, h18, h19, h21, h22, h23, Bool.and_self, Bool.true_and, Bool.and_true]
  exact h20

theorem seat_laidOut : laidOutB Tryz.prog = true := by kernel_rfl
theorem seat_mapsRowed : mapsRowed Tryz.prog = true := by kernel_rfl
theorem seat_stops : (Tryz.prog.stops == []) = true := by kernel_rfl
theorem seat_knobs : (Tryz.prog.stopKnobs == []) = true := by kernel_rfl
theorem seat_heard : Tryz.prog.stopsHeard = true := by kernel_rfl
theorem seat_enter : Tryz.prog.mayEnter = true := by kernel_rfl

section
open Go.RowKit

theorem heap_setCell2 {W : World} {B : Nat} {u v : Value} {t : TypeId} (v' : Value) (h : W.heap[B]? = some (.cells #[u, v] t (0, 0))) : (W.setCell ⟨B, 1, none⟩ v').heap[B]? = some (.cells #[u, v'] t (0, 0)) := by
  obtain ⟨hlt, hk⟩ := Array.getElem?_eq_some_iff.1 h
  show (W.heap.modify B _)[B]? = _
  rw [Array.getElem?_eq_getElem (by rw [Array.size_modify]; exact hlt), Array.getElem_modify_self, hk]
  rfl

def Rdr (w : World) (g : Nat) (bs : Value) (p : Nat) : Prop := w.heap[g]? = some (.cells #[bs, .int .i64 p] 69 (0, 0))

theorem rdr_facts {w : World} {g p : Nat} {bs : Value} (h : Rdr w g bs p) :
    g < w.heap.size ∧ w.cell? ⟨g, 0, none⟩ = some bs ∧ w.cell? ⟨g, 1, none⟩ = some (.int .i64 p) ∧ w.frozen? ⟨g, 1, none⟩ = false := by
  unfold Rdr at h
  refine ⟨(Array.getElem?_eq_some_iff.1 h).1, ?_, ?_, ?_⟩ <;> simp [World.cell?, World.frozen?, h]

def Bytes (w : World) (a : Option Addr) (len : Nat) : Prop :=
  len = 0 ∨ ∃ b off, a = some ⟨b, off, none⟩ ∧ ∀ j, j < len → ∃ x : Nat, x ≤ 255 ∧ w.cell? ⟨b, off + j, none⟩ = some (.int .u8 x)

theorem bytes_short {w : World} {a : Option Addr} {len m : Nat} (h : Bytes w a len) (hm : m ≤ len) : Bytes w a m := by
  rcases h with h | ⟨b, off, ha, hc⟩
  · exact .inl (by omega)
  · exact .inr ⟨b, off, ha, fun j hj => hc j (by omega)⟩

set_option maxHeartbeats 400000 in
theorem l6Open_any (a : Option Addr) (len cap : Nat) (w : World) (hby : Bytes w a len) (hlen : len ≤ 1048576) (hc : len ≤ cap) (hcm : cap ≤ maxLen) :
    Calls Tryz.prog 22 #[.slice a len cap] w fun e w' => e = .returned (.pointer (some ⟨w.heap.size, 0, none⟩)) ∧
      ∃ m, m ≤ 2000 ∧ Bytes w a m ∧ Rdr w' w.heap.size (.slice a m cap) 0 ∧ Below w.heap.size w w' ∧ w.heap.size < w'.heap.size := by
  have HB := Lib.hid hby
  clear hby
  by_cases hl : len > 2000
  · go_enter Tryz.func22, Tryz.ntmps22
    go_wp2
    go_ret
    refine ⟨rfl, 2000, Nat.le_refl _, bytes_short HB.out (by omega), ?_, (Below.refl _ _).alloc (Nat.le_refl _) _, by rw [World.size_alloc]; omega⟩
    unfold Rdr World.alloc
    exact Array.getElem?_push_size
  · go_enter Tryz.func22, Tryz.ntmps22
    go_wp2
    go_ret
    refine ⟨rfl, len, by omega, HB.out, ?_, (Below.refl _ _).alloc (Nat.le_refl _) _, by rw [World.size_alloc]; omega⟩
    unfold Rdr World.alloc
    exact Array.getElem?_push_size

theorem xor_small (a b : Nat) (ha : a < 2 ^ 32) (hb : b < 2 ^ 32) : bits .xor .i64 (a : Int) (b : Int) = ((a ^^^ b : Nat) : Int) := by
  have hx := Nat.xor_lt_two_pow ha hb
  have e : (2 : Nat) ^ 64 = 18446744073709551616 := by decide
  have e32 : (2 : Nat) ^ 32 = 4294967296 := by decide
  have ha' : a % 2 ^ IntKind.i64.bits = a := Nat.mod_eq_of_lt (show a < 2 ^ 64 by omega)
  have hb' : b % 2 ^ IntKind.i64.bits = b := Nat.mod_eq_of_lt (show b < 2 ^ 64 by omega)
  have : bits .xor .i64 (a : Int) (b : Int) = IntKind.i64.wrap ((a ^^^ b : Nat) : Int) := by
    simp only [bits, BitVec.ofInt_natCast, BitVec.toNat_xor, BitVec.toNat_ofNat, ha', hb']
  rw [this, IntKind.wrap_i64]
  omega

def mixed (x y p d : Nat) : Nat := x * 131 + y * 1117 + p * 29 + d * 53

theorem mixed_at (x y p d n : Nat) (hx : x ≤ 255) (hy : y ≤ 255) (hp : p ≤ 1000000) (hd : d ≤ 1000000) :
    (bits BinOp.xor IntKind.i64 (↑x * 131 + ↑y * 1117 + ↑p * 29 + ↑d * 53) ((↑x * 131 + ↑y * 1117 + ↑p * 29 + ↑d * 53) / 64)).tmod (n : Int) = (((mixed x y p d ^^^ mixed x y p d / 64) % n : Nat) : Int) := by
  have hm : mixed x y p d < 2 ^ 32 := by unfold mixed; omega
  have e3 : (x : Int) * 131 + y * 1117 + p * 29 + d * 53 = ((mixed x y p d : Nat) : Int) := by
    unfold mixed
    omega
  rw [e3]
  generalize mixed x y p d = m at *
  have e4 : (m : Int) / 64 = ((m / 64 : Nat) : Int) := by omega
  rw [e4, xor_small m (m / 64) hm (by omega), Int.tmod_eq_emod_of_nonneg (by omega)]
  exact (Int.natCast_emod _ _).symm

def Picked (w : World) (g : Nat) (bs : Value) (p n : Nat) (e : Ending) (w' : World) : Prop :=
  ∃ r : Nat, e = .returned (.int .i64 r) ∧ r < n ∧ Rdr w' g bs (p + 1) ∧ w.grownBy w' (some g) ∧ w'.heap.size = w.heap.size

set_option maxHeartbeats 1000000 in
theorem pick_any (g : Nat) (a : Option Addr) (len cap p n : Nat) (w : World) (hr : Rdr w g (.slice a len cap) p) (hby : Bytes w a len) (hne : 0 < len → ∀ x, a = some x → x.block ≠ g) (hlen : len ≤ 2000) (hp : p ≤ 1000000) (hn : 1 ≤ n) (hn2 : n ≤ 100000) :
    Calls Tryz.prog 23 #[.pointer (some ⟨g, 0, none⟩), .int .i64 n] w (Picked w g (.slice a len cap) p n) := by
  obtain ⟨hg, hc0, hc1, hfz⟩ := rdr_facts hr
  have HS := Lib.hid (heap_setCell2 (.int .i64 ((p : Int) + 1)) hr)
  have hgr : w.grownBy (w.setCell ⟨g, 1, none⟩ (.int .i64 ((p : Int) + 1))) (some g) :=
    ⟨rfl, rfl, rfl, by simp [World.setCell], fun k _ hk => Below.heap_setCell w _ _ k fun e => hk (by rw [e])⟩
  have HG := Lib.hid hgr
  clear hgr hr
  have HB := Lib.hid hby
  clear hby
  by_cases h0 : len = 0
  · subst h0
    go_enter Tryz.func23, Tryz.ntmps23
    go_wp2
    go_ret
    exact ⟨0, rfl, by omega, by simpa [Rdr] using HS.out, HG.out, by simp [World.setCell]⟩
  · rcases HB.out with h | ⟨b, off, rfl, hcs⟩
    · exact absurd h h0
    have hbg : b ≠ g := hne (by omega) _ rfl
    have hgb : g ≠ b := fun e => hbg e.symm
    have hz : ((len : Int) == 0) = false := by simp; omega
    have hcs' : ∀ j, j < len → ∃ x : Nat, x ≤ 255 ∧ (w.setCell ⟨g, 1, none⟩ (.int .i64 ((p : Int) + 1))).cell? ⟨b, off + j, none⟩ = some (.int .u8 x) := fun j hj => by
      obtain ⟨x, hx, hc⟩ := hcs j hj
      exact ⟨x, hx, by rw [World.cell?_setCell_far _ _ _ _ hgb]; exact hc⟩
    by_cases hlt : p < len
    · obtain ⟨x, hx, hcx⟩ := hcs' p hlt
      clear hcs hcs'
      go_enter Tryz.func23, Tryz.ntmps23
      go_wp2
      go_ret
      refine ⟨x % n, yuz (Int.natCast_emod x n).symm, Nat.mod_lt _ (by omega), by simpa [Rdr] using HS.out, HG.out, by simp [World.setCell]⟩
    · obtain ⟨q, hq⟩ : ∃ q, q = p % len := ⟨_, rfl⟩
      obtain ⟨q', hq'⟩ : ∃ q', q' = (p * 7 + 3) % len := ⟨_, rfl⟩
      obtain ⟨x, hx, hcx⟩ := hcs' q (by rw [hq]; exact Nat.mod_lt _ (by omega))
      obtain ⟨y, hy, hcy⟩ := hcs' q' (by rw [hq']; exact Nat.mod_lt _ (by omega))
      clear hcs hcs'
      have hqi : ((p : Int) % (len : Int)) = (q : Int) := by rw [hq]; exact (Int.natCast_emod p len).symm
      have hqi' : (((p : Int) * 7 + 3) % (len : Int)) = (q' : Int) := by rw [hq', Int.natCast_emod]; rfl
      have hql : q < len := by rw [hq]; exact Nat.mod_lt _ (by omega)
      have hql' : q' < len := by rw [hq']; exact Nat.mod_lt _ (by omega)
      clear hq hq'
      obtain ⟨d, hd⟩ : ∃ d, d = p / len := ⟨_, rfl⟩
      have hdi : ((p : Int) / (len : Int)) = (d : Int) := by rw [hd]; exact (Int.natCast_ediv p len).symm
      have hdl : d ≤ 1000000 := by rw [hd]; exact Nat.le_trans (Nat.div_le_self _ _) hp
      clear hd
      have hle : (len : Int) ≤ p := by omega
      go_enter Tryz.func23, Tryz.ntmps23
      go_wp2
      go_quiet (fail)
      go_wp2
      go_ret
      refine ⟨(mixed x y p d ^^^ mixed x y p d / 64) % n, ?_, Nat.mod_lt _ (by omega), by simpa [Rdr, World.drewN, World.setCell] using HS.out, ?_, by simp [World.setCell]⟩
      · exact yuz (mixed_at x y p d n hx hy hp hdl)
      · exact grown_trans HG.out (below_drewN (Below.refl _ _) nq |> grown_of_below |> fun h => ⟨h.os, h.tape, h.output, h.size, fun k hk _ => h.block k hk (by simp)⟩)
end

section
open Go.RowKit

theorem grown_own {w a b : World} {g go : Nat} (h : w.grownBy a (some g)) (hab : a.grownBy b (some go)) (hge : w.heap.size ≤ go) : w.grownBy b (some g) :=
  ⟨hab.os.trans h.os, hab.tape.trans h.tape, hab.output.trans h.output, Nat.le_trans h.size hab.size, fun k hk hne => (hab.block k (Nat.lt_of_lt_of_le hk h.size) (fun e => by cases e; omega)).trans (h.block k hk hne)⟩

theorem grown_belowD {w a b : World} {g : Nat} (h : w.grownBy a (some g)) (hab : Below a.heap.size a b) : w.grownBy b (some g) :=
  ⟨hab.os.trans h.os, hab.tape.trans h.tape, hab.output.trans h.output, Nat.le_trans h.size hab.size, fun k hk hne => (hab.block k (Nat.lt_of_lt_of_le hk h.size)).trans (h.block k hk hne)⟩

theorem rdr_grown {a b : World} {g p : Nat} {bs : Value} {r : Option Nat} (h : Rdr a g bs p) (hab : a.grownBy b r) (hne : some g ≠ r) : Rdr b g bs p := by
  unfold Rdr at *
  rw [hab.block g (Array.getElem?_eq_some_iff.1 h).1 hne]
  exact h

theorem rdr_below {a b : World} {g p : Nat} {bs : Value} (h : Rdr a g bs p) (hab : Below a.heap.size a b) : Rdr b g bs p := by
  unfold Rdr at *
  rw [hab.block g (Array.getElem?_eq_some_iff.1 h).1]
  exact h

theorem bytes_grown {w w' : World} {a : Option Addr} {len g : Nat} (h : Bytes w a len) (hg : w.grownBy w' (some g)) (hne : 0 < len → ∀ x, a = some x → x.block ≠ g) : Bytes w' a len := by
  rcases h with h | ⟨b, off, ha, hc⟩
  · exact .inl h
  · refine .inr ⟨b, off, ha, fun j hj => ?_⟩
    obtain ⟨x, hx, hcx⟩ := hc j hj
    exact ⟨x, hx, hg.cell hcx (fun e => hne (by omega) _ ha (by cases e; rfl))⟩

theorem pick_z (g : Nat) (a : Option Addr) (len cap p : Nat) (m : Int) (w : World) (hr : Rdr w g (.slice a len cap) p) (hby : Bytes w a len) (hne : 0 < len → ∀ x, a = some x → x.block ≠ g) (hlen : len ≤ 2000) (hp : p ≤ 1000000) (hn : 1 ≤ m) (hn2 : m ≤ 100000) :
    Calls Tryz.prog 23 #[.pointer (some ⟨g, 0, none⟩), .int .i64 m] w (Picked w g (.slice a len cap) p m.toNat) := by
  have := pick_any g a len cap p m.toNat w hr hby hne hlen hp (by omega) (by omega)
  rwa [Int.toNat_of_nonneg (by omega)] at this

theorem bytes_of_row {w : World} {a : Option Addr} {len cap : Nat} {zs : List Int} (h : IsRow .u8 w a len cap zs) : Bytes w a len ∧ len ≤ cap ∧ cap ≤ maxLen := by
  rcases h with ⟨rfl, rfl, rfl, rfl⟩ | ⟨x, rfl, hl, hm, hz, hc, hw⟩
  · exact ⟨.inl rfl, Nat.le_refl _, Nat.zero_le _⟩
  · refine ⟨?_, hl, hm⟩
    by_cases h0 : len = 0
    · exact .inl h0
    · obtain ⟨b, off, spot⟩ := x
      have hc0 := hc 0 (by omega)
      have hspot : spot = none := by simpa [Addr.add] using World.cell?_spot hc0
      subst hspot
      refine .inr ⟨b, off, rfl, fun j hj => ?_⟩
      have hcj := hc j (by omega)
      rw [Addr.add_lit] at hcj
      have hmem : zs.getD j 0 ∈ zs := ykz (by omega) rfl
      have hwf := hw _ hmem
      have hb : 0 ≤ zs.getD j 0 ∧ zs.getD j 0 ≤ 255 := by
        simpa [Lit.wf, IntKind.min, IntKind.max, IntKind.bits, IntKind.signed] using hwf
      refine ⟨(zs.getD j 0).toNat, by omega, ?_⟩
      rw [hcj, Int.toNat_of_nonneg hb.1]
end

section
open Go.RowKit

theorem below_of_grown {w w' : World} {g : Nat} (h : w.grownBy w' (some g)) (hg : w.heap.size ≤ g) : Below w.heap.size w w' :=
  ⟨h.os, h.tape, h.output, h.size, fun k hk => h.block k hk (fun e => by cases e; omega)⟩

theorem hne_of_bytes {w : World} {a : Option Addr} {m : Nat} (hbm : Bytes w a m) : 0 < m → ∀ x, a = some x → x.block ≠ w.heap.size := by
  intro h0 x hx
  rcases hbm with h | ⟨b, off, ha, hcs⟩
  · omega
  · obtain ⟨y, _, hc⟩ := hcs 0 h0
    have := World.block_lt_of_cell? w _ hc
    rw [ha] at hx
    cases hx
    exact Nat.ne_of_lt this
end

section
open Go.RowKit

structure Rds (w0 w : World) (g : Nat) (a : Option Addr) (m cap p : Nat) : Prop where
  rdr : Rdr w g (.slice a m cap) p
  byt : Bytes w0 a m
  hm : m ≤ 2000
  hg : g = w0.heap.size
  grown : w0.grownBy w (some g)

theorem Rds.ne {w0 w : World} {g m cap p : Nat} {a : Option Addr} (h : Rds w0 w g a m cap p) : 0 < m → ∀ x, a = some x → x.block ≠ g := by
  rw [h.hg]; exact hne_of_bytes h.byt

theorem Rds.bytes {w0 w : World} {g m cap p : Nat} {a : Option Addr} (h : Rds w0 w g a m cap p) : Bytes w a m := bytes_grown h.byt h.grown h.ne

theorem Rds.below {w0 w : World} {g m cap p : Nat} {a : Option Addr} (h : Rds w0 w g a m cap p) : Below w0.heap.size w0 w := below_of_grown h.grown (Nat.le_of_eq h.hg.symm)

theorem Rds.lt {w0 w : World} {g m cap p : Nat} {a : Option Addr} (h : Rds w0 w g a m cap p) : g < w.heap.size := (rdr_facts h.rdr).1

theorem Rds.step {w0 w w' : World} {g m cap p : Nat} {a : Option Addr} (h : Rds w0 w g a m cap p) (hb : Below w.heap.size w w') : Rds w0 w' g a m cap p :=
  ⟨rdr_below h.rdr hb, h.byt, h.hm, h.hg, grown_belowD h.grown hb⟩

def Opened (w : World) (a : Option Addr) (e : Ending) (w' : World) : Prop := ∃ g m cap, e = .returned (.pointer (some ⟨g, 0, none⟩)) ∧ Rds w w' g a m cap 0

theorem open_r (a : Option Addr) (len cap : Nat) (w : World) (hby : Bytes w a len) (hlen : len ≤ 1048576) (hc : len ≤ cap) (hcm : cap ≤ maxLen) :
    Calls Tryz.prog 22 #[.slice a len cap] w (Opened w a) :=
  (l6Open_any a len cap w hby hlen hc hcm).mono fun e w1 ⟨he, m, hm, hbm, hr1, hb1, hs1⟩ =>
    ⟨w.heap.size, m, cap, he, ⟨hr1, hbm, hm, rfl, ⟨hb1.os, hb1.tape, hb1.output, hb1.size, fun k hk _ => hb1.block k hk⟩⟩⟩

def PickedR (w0 w : World) (g : Nat) (a : Option Addr) (m cap p : Nat) (n : Int) (e : Ending) (w' : World) : Prop :=
  ∃ t : Nat, e = .returned (.int .i64 t) ∧ (t : Int) < n ∧ Rds w0 w' g a m cap (p + 1) ∧ w.grownBy w' (some g)

theorem pick_r {w0 w : World} {g m cap p : Nat} {a : Option Addr} (h : Rds w0 w g a m cap p) (n : Int) (h1 : 1 ≤ n) (h2 : n ≤ 100000) (hp : p ≤ 1000000) :
    Calls Tryz.prog 23 #[.pointer (some ⟨g, 0, none⟩), .int .i64 n] w (PickedR w0 w g a m cap p n) :=
  (pick_z g a m cap p n w h.rdr h.bytes h.ne h.hm hp h1 h2).mono fun e w1 ⟨t, he, ht, hr1, hg1, hz1⟩ =>
    ⟨t, he, by omega, ⟨hr1, h.byt, h.hm, h.hg, grown_trans h.grown hg1⟩, hg1⟩

theorem Rds.push {w0 wq w' : World} {g g' m cap p : Nat} {a : Option Addr} {o : Obj} (h : Rds w0 wq g a m cap p) (hgr : (wq.alloc o).grownBy w' (some g')) (hne : g' ≠ g) (hge : w0.heap.size ≤ g') : Rds w0 w' g a m cap p :=
  ⟨rdr_grown (rdr_below h.rdr ((Below.refl _ _).alloc (Nat.le_refl _) _)) hgr (fun e => by cases e; exact hne rfl), h.byt, h.hm, h.hg, grown_own (grown_belowD h.grown ((Below.refl _ _).alloc (Nat.le_refl _) _)) hgr hge⟩
end

theorem take_allW {w : List UInt8} (hw : ∀ c ∈ w, c ≠ 32) : w.takeWhile (fun c => c != 32) = w := by
  induction w with
  | nil => rfl
  | cons c w ih =>
    have hc : (c != 32) = true := by simpa using hw c (by simp)
    rw [List.takeWhile_cons, if_pos hc, ih fun d hd => hw d (by simp [hd])]
theorem line_bare {a : List Int} {w : List UInt8} (hw : ∀ c ∈ w, c ≠ 32) (hn : aloneL a w = none) : lineL a w = (a, bareL a w) := by
  have ht := take_allW hw
  unfold lineL
  dsimp only
  rw [ht, if_pos rfl, hn]
theorem take_word {w r : List UInt8} (hw : ∀ c ∈ w, c ≠ 32) : (w ++ 32 :: r).takeWhile (fun c => c != 32) = w := by
  induction w with
  | nil => simp
  | cons c w ih =>
    have hc : (c != 32) = true := by simpa using hw c (by simp)
    rw [List.cons_append, List.takeWhile_cons, if_pos hc, ih fun d hd => hw d (by simp [hd])]
theorem line_change {a b l : List Int} {w r : List UInt8} {ok p : Bool} (hw : ∀ c ∈ w, c ≠ 32) (hl : numsL r = (l, p)) (hc : changeL a w l = some (b, ok)) : lineL a (w ++ 32 :: r) = if ok && p then (b, sayOk) else (a, sayNo) := by
  unfold lineL
  dsimp only
  rw [take_word hw, if_neg (by simp), show (w ++ 32 :: r).drop (w.length + 1) = r by simp, hl]
  dsimp only
  rw [hc]

theorem line_zzz (a : List Int) : lineL a [122, 122, 122] = (a, sayWhat) := line_bare (by decide) rfl
theorem line_partx (a : List Int) : lineL a ([112, 97, 114, 116] ++ 32 :: [120]) = (a, sayNo) := by
  rw [line_change (w := [112, 97, 114, 116]) (l := []) (b := []) (ok := false) (p := false) (by decide) rfl rfl]
  rfl
theorem line_show (a : List Int) : lineL a w_show = (a, saidL a true) := line_bare (by decide) rfl
theorem exec_what {s : List UInt8} (hs : EndsNL s) (h : s.length + 11 ≤ 600) :
    execL lineL (s ++ [122, 122, 122, 10, 112, 97, 114, 116, 32, 120, 10]) = (execL lineL s).take ((execL lineL s).length - (lastL (execL lineL s)).length) ++ [119, 104, 97, 116, 10, 110, 111, 10] ++ lastL (execL lineL s) := by
  have hl : linesL [122, 122, 122, 10, 112, 97, 114, 116, 32, 120, 10] = [[122, 122, 122], [112, 97, 114, 116] ++ 32 :: [120]] := rfl
  have hr : ∀ a, runL lineL a [[122, 122, 122], [112, 97, 114, 116] ++ 32 :: [120]] = (a, [119, 104, 97, 116, 10, 110, 111, 10]) := fun a => by
    simp only [runL, line_zzz, line_partx]
    rfl
  rw [exec_still lineL_ends hs (by rw [List.length_append]; simp; omega) (run_small _) (by rw [hl, hr]), hl, hr]

theorem exec_twice {s : List UInt8} (hs : EndsNL s) (h : s.length + 10 ≤ 600) : ∃ one : List UInt8,
    execL lineL (s ++ [115, 104, 111, 119, 10]) = (execL lineL s).take ((execL lineL s).length - (lastL (execL lineL s)).length) ++ one ++ lastL (execL lineL s) ∧
    execL lineL (s ++ [115, 104, 111, 119, 10, 115, 104, 111, 119, 10]) = (execL lineL s).take ((execL lineL s).length - (lastL (execL lineL s)).length) ++ one ++ one ++ lastL (execL lineL s) := by
  have hl1 : linesL [115, 104, 111, 119, 10] = [w_show] := rfl
  have hl2 : linesL [115, 104, 111, 119, 10, 115, 104, 111, 119, 10] = [w_show, w_show] := rfl
  have hr1 : ∀ a, runL lineL a [w_show] = (a, saidL a true) := fun a => by simp [runL, line_show]
  have hr2 : ∀ a, runL lineL a [w_show, w_show] = (a, saidL a true ++ saidL a true) := fun a => by simp [runL, line_show]
  refine ⟨saidL (runL lineL [0] (linesL s)).1 true, ?_, ?_⟩
  · rw [exec_still lineL_ends hs (by rw [List.length_append]; simp; omega) (run_small _) (by rw [hl1, hr1]), hl1, hr1]
  · rw [exec_still lineL_ends hs (by rw [List.length_append]; simp; omega) (run_small _) (by rw [hl2, hr2]), hl2, hr2]
    simp

section
open Go.RowKit

theorem ret_catV (x y : List UInt8) : Value.string ((⟨x.toArray⟩ : ByteArray) ++ ⟨y.toArray⟩) = strV (x ++ y) := by rw [ByteArray.mk_append_mk]
theorem str_cat3 (u t : List UInt8) : Value.string (((⟨u.toArray⟩ : ByteArray) ++ ⟨t.toArray⟩) ++ ⟨#[10]⟩) = strV (u ++ t ++ [10]) := by
  have h := ByteArray.mk_append_mk (u ++ t) [10]
  rw [ByteArray.mk_append_mk u t]
  exact congrArg Value.string h
def okS : Value → Bool
  | .string s => decide (s.size ≤ 40)
  | _ => false
theorem okS_of {v : Value} (h : okS v = true) : ∃ t : List UInt8, v = strV t ∧ t.length ≤ 40 := by
  cases v with
  | string s => exact ⟨s.data.toList, rfl, by simpa [okS] using h⟩
  | _ => cases h
def OfR (w0 : World) (g : Nat) (a : Option Addr) (m cap p : Nat) (e : Ending) (w' : World) : Prop := ∃ t : List UInt8, e = .returned (strV t) ∧ t.length ≤ 40 ∧ Rds w0 w' g a m cap p

set_option maxHeartbeats 1000000 in
theorem of_new {w0 w : World} {g m cap p : Nat} {a : Option Addr} (h : Rds w0 w g a m cap p) (hp : p ≤ 1000000) (cs : Array Value) (n : Nat) (hn : cs.size = n) (h1 : 1 ≤ n) (h2 : n ≤ 100) (hT : cs.toList.all okS = true) :
    Calls Tryz.prog 43 #[.pointer (some ⟨g, 0, none⟩), .slice (some ⟨w.heap.size, 0, none⟩) n n] (w.alloc (.cells cs 9)) (OfR w0 g a m cap (p + 1)) := by
  have hb : Below w.heap.size w (w.alloc (.cells cs 9)) := (Below.refl _ w).alloc (Nat.le_refl _) _
  have hr := h.step hb
  have hlt := h.lt
  have HP := Lib.hid (pick_r hr (n : Int) (by omega) (by omega) hp)
  have HC : Hid (∀ (w2 : World), (w.alloc (.cells cs 9)).grownBy w2 (some g) → ∀ t : Nat, t < n → ∃ x : List UInt8, w2.cell? ⟨w.heap.size, t, none⟩ = some (strV x) ∧ x.length ≤ 40) := Lib.hid fun w2 hg t ht => by
    have hs : (w.alloc (.cells cs 9)).heap[w.heap.size]? = some (.cells cs 9) := heap_alloc_new w _
    have h3 := (hg.block w.heap.size (by simp) (fun e => by injection e with e; omega)).trans hs
    have ht2 : t < cs.size := by omega
    obtain ⟨x, hx, hxl⟩ := okS_of (v := cs[t]) (List.all_eq_true.1 hT _ (by simp))
    exact ⟨x, by simp [World.cell?, h3, ht2, hx], hxl⟩
  have hn1 : n ≤ 100 := h2
  clear h hb hr hT hn
  go_enter Tryz.func43, Tryz.ntmps43
  go_wp2_with (go_at_call 23; (with_reducible refine HP.out.mono ?_); rintro e w2 ⟨t, rfl, ht, hr2, hg2⟩; obtain ⟨x, hx, hxl⟩ := HC.out w2 hg2 t (by omega); have HR2 := Lib.hid hr2; clear hr2 hg2)
  go_ret
  exact ⟨x, rfl, hxl, HR2.out⟩

def LineR (w0 : World) (g : Nat) (a : Option Addr) (m cap p : Nat) (e : Ending) (w' : World) : Prop := ∃ (t : List UInt8) (q : Nat), e = .returned (strV t) ∧ t.length ≤ 80 ∧ q ≤ p + 3 ∧ Rds w0 w' g a m cap q

set_option maxHeartbeats 1000000 in
theorem line_r {w0 w : World} {g m cap p : Nat} {a : Option Addr} (h : Rds w0 w g a m cap p) (hp : p ≤ 1000) :
    Calls Tryz.prog 24 #[.pointer (some ⟨g, 0, none⟩)] w (LineR w0 g a m cap p) := by
  have HP := Lib.hid (pick_r h 12 (by omega) (by omega) (by omega))
  clear h
  go_enter Tryz.func24, Tryz.ntmps24
  go_wp2_with fail
  refine HP.out.mono ?_
  rintro e w1 ⟨t, rfl, ht, hr1, hg1⟩
  have HR1 := Lib.hid hr1
  clear hr1 hg1 HP
  have hts : t = 0 ∨ t = 1 ∨ t = 2 ∨ t = 3 ∨ t = 4 ∨ t = 5 ∨ t = 6 ∨ t = 7 ∨ t = 8 ∨ t = 9 ∨ t = 10 ∨ t = 11 := by omega
  rcases hts with rfl | rfl | rfl | rfl | rfl | rfl | rfl | rfl | rfl | rfl | rfl | rfl
  · go_wp2_with fail
    refine (of_new HR1.out (by omega) _ _ (by rfl) (by decide) (by decide) (by rfl)).mono ?_
    rintro e w2 ⟨x1, rfl, hx1, hr2⟩
    have HR2 := Lib.hid hr2
    clear hr2
    go_wp2_with fail
    refine (of_new HR2.out (by omega) _ _ (by rfl) (by decide) (by decide) (by rfl)).mono ?_
    rintro e w3 ⟨x2, rfl, hx2, hr3⟩
    have HR3 := Lib.hid hr3
    clear hr3
    go_wp2
    go_ret
    exact ⟨x1 ++ x2, p + 1 + 1 + 1, ret_cat x1 x2, by rw [List.length_append]; omega, by omega, HR3.out⟩
  · go_wp2_with fail
    refine (of_new HR1.out (by omega) _ _ (by rfl) (by decide) (by decide) (by rfl)).mono ?_
    rintro e w2 ⟨x1, rfl, hx1, hr2⟩
    have HR2 := Lib.hid hr2
    clear hr2
    go_wp2_with fail
    refine (of_new HR2.out (by omega) _ _ (by rfl) (by decide) (by decide) (by rfl)).mono ?_
    rintro e w3 ⟨x2, rfl, hx2, hr3⟩
    have HR3 := Lib.hid hr3
    clear hr3
    go_wp2
    go_ret
    exact ⟨x1 ++ x2, p + 1 + 1 + 1, ret_cat x1 x2, by rw [List.length_append]; omega, by omega, HR3.out⟩
  · go_wp2_with fail
    refine (of_new HR1.out (by omega) _ _ (by rfl) (by decide) (by decide) (by rfl)).mono ?_
    rintro e w2 ⟨x1, rfl, hx1, hr2⟩
    have HR2 := Lib.hid hr2
    clear hr2
    go_wp2_with fail
    refine (of_new HR2.out (by omega) _ _ (by rfl) (by decide) (by decide) (by rfl)).mono ?_
    rintro e w3 ⟨x2, rfl, hx2, hr3⟩
    have HR3 := Lib.hid hr3
    clear hr3
    go_wp2
    go_ret
    exact ⟨x1 ++ x2, p + 1 + 1 + 1, ret_cat x1 x2, by rw [List.length_append]; omega, by omega, HR3.out⟩
  · go_wp2_with fail
    refine (of_new HR1.out (by omega) _ _ (by rfl) (by decide) (by decide) (by rfl)).mono ?_
    rintro e w2 ⟨x1, rfl, hx1, hr2⟩
    have HR2 := Lib.hid hr2
    clear hr2
    go_wp2_with fail
    refine (of_new HR2.out (by omega) _ _ (by rfl) (by decide) (by decide) (by rfl)).mono ?_
    rintro e w3 ⟨x2, rfl, hx2, hr3⟩
    have HR3 := Lib.hid hr3
    clear hr3
    go_wp2
    go_ret
    exact ⟨x1 ++ x2, p + 1 + 1 + 1, ret_cat x1 x2, by rw [List.length_append]; omega, by omega, HR3.out⟩
  · go_wp2_with fail
    refine (of_new HR1.out (by omega) _ _ (by rfl) (by decide) (by decide) (by rfl)).mono ?_
    rintro e w2 ⟨x1, rfl, hx1, hr2⟩
    have HR2 := Lib.hid hr2
    clear hr2
    go_wp2_with fail
    refine (of_new HR2.out (by omega) _ _ (by rfl) (by decide) (by decide) (by rfl)).mono ?_
    rintro e w3 ⟨x2, rfl, hx2, hr3⟩
    have HR3 := Lib.hid hr3
    clear hr3
    go_wp2
    go_ret
    exact ⟨x1 ++ x2, p + 1 + 1 + 1, ret_cat x1 x2, by rw [List.length_append]; omega, by omega, HR3.out⟩
  · go_wp2_with fail
    refine (of_new HR1.out (by omega) _ _ (by rfl) (by decide) (by decide) (by rfl)).mono ?_
    rintro e w2 ⟨x1, rfl, hx1, hr2⟩
    have HR2 := Lib.hid hr2
    clear hr2
    go_wp2
    go_ret
    exact ⟨[114, 105, 110, 103, 115, 32] ++ x1, p + 1 + 1, ret_cat [114, 105, 110, 103, 115, 32] x1, by rw [List.length_append]; simp only [List.length_cons, List.length_nil]; omega, by omega, HR2.out⟩
  · go_wp2_with fail
    refine (of_new HR1.out (by omega) _ _ (by rfl) (by decide) (by decide) (by rfl)).mono ?_
    rintro e w2 ⟨x1, rfl, hx1, hr2⟩
    have HR2 := Lib.hid hr2
    clear hr2
    go_wp2
    go_ret
    exact ⟨x1, p + 1 + 1, rfl, by omega, by omega, HR2.out⟩
  · go_wp2_with fail
    refine (of_new HR1.out (by omega) _ _ (by rfl) (by decide) (by decide) (by rfl)).mono ?_
    rintro e w2 ⟨x1, rfl, hx1, hr2⟩
    have HR2 := Lib.hid hr2
    clear hr2
    go_wp2
    go_ret
    exact ⟨x1, p + 1 + 1, rfl, by omega, by omega, HR2.out⟩
  · go_wp2_with fail
    refine (of_new HR1.out (by omega) _ _ (by rfl) (by decide) (by decide) (by rfl)).mono ?_
    rintro e w2 ⟨x1, rfl, hx1, hr2⟩
    have HR2 := Lib.hid hr2
    clear hr2
    go_wp2
    go_ret
    exact ⟨x1, p + 1 + 1, rfl, by omega, by omega, HR2.out⟩
  · go_wp2_with fail
    refine (of_new HR1.out (by omega) _ _ (by rfl) (by decide) (by decide) (by rfl)).mono ?_
    rintro e w2 ⟨x1, rfl, hx1, hr2⟩
    have HR2 := Lib.hid hr2
    clear hr2
    go_wp2
    go_ret
    exact ⟨x1, p + 1 + 1, rfl, by omega, by omega, HR2.out⟩
  · go_wp2_with fail
    refine (of_new HR1.out (by omega) _ _ (by rfl) (by decide) (by decide) (by rfl)).mono ?_
    rintro e w2 ⟨x1, rfl, hx1, hr2⟩
    have HR2 := Lib.hid hr2
    clear hr2
    go_wp2
    go_ret
    exact ⟨x1, p + 1 + 1, rfl, by omega, by omega, HR2.out⟩
  · go_wp2_with fail
    refine (of_new HR1.out (by omega) _ _ (by rfl) (by decide) (by decide) (by rfl)).mono ?_
    rintro e w2 ⟨x1, rfl, hx1, hr2⟩
    have HR2 := Lib.hid hr2
    clear hr2
    go_wp2
    go_ret
    exact ⟨x1, p + 1 + 1, rfl, by omega, by omega, HR2.out⟩

theorem many_step (u k : Nat) : u * k = (u + u) * (k / 2) + u * (k % 2) := by
  have h := Nat.div_add_mod k 2
  calc u * k = u * (2 * (k / 2) + k % 2) := by rw [h]
    _ = (u + u) * (k / 2) + u * (k % 2) := by rw [Nat.mul_add, ← Nat.mul_assoc, Nat.mul_two]

set_option maxHeartbeats 1000000 in
theorem many_v (w : World) : Calls Tryz.prog 25 #[strV [115, 104, 111, 119, 10], .int .i64 130] w fun e w' => ∃ t : List UInt8, e = .returned (strV t) ∧ t.length ≤ 650 ∧ Below w.heap.size w w' := by
  go_enter Tryz.func25, Tryz.ntmps25
  go_wp2
  go_loopw [0, 1, 5] (fun v i x wr => ∃ (k : Nat) (u o : List UInt8), v = strV u ∧ i = .int .i64 k ∧ x = strV o ∧ o.length + u.length * k ≤ 650 ∧ u.length ≤ 1300 ∧ k ≤ 130 ∧ wr = w) (fun _ i _ _ => (intOf i).toNat)
  case atStart => exact ⟨130, [115, 104, 111, 119, 10], [], rfl, rfl, rfl, by decide, by decide, by omega, rfl⟩
  case round =>
    obtain ⟨k, u, o, rfl, rfl, rfl, hlen, hul, hk, rfl⟩ := hrel
    have hst := many_step u.length k
    by_cases hk0 : k = 0
    · subst hk0
      have hol : o.length ≤ 650 := by omega
      clear hst hlen
      go_wp2
      go_ret
      exact ⟨o, rfl, hol, Below.refl _ _⟩
    · have hg : decide ((0 : Int) < (k : Int)) = true := by simp; omega
      have hq : ((k : Int)).tdiv 2 = ((k / 2 : Nat) : Int) := by
        rw [Int.tdiv_eq_ediv_of_nonneg (by omega)]; omega
      have hr : ((k : Int)).tmod 2 = ((k % 2 : Nat) : Int) := by
        rw [Int.tmod_eq_emod_of_nonneg (by omega)]; omega
      have hu1 : u.length ≤ 650 := by
        have : u.length * 1 ≤ u.length * k := Nat.mul_le_mul_left _ (by omega)
        omega
      have hol : o.length ≤ 650 := by omega
      have hkd : k / 2 < k := by omega
      have hkq : k / 2 ≤ 130 := by omega
      obtain ⟨q, hqe⟩ : ∃ q, q = k / 2 := ⟨_, rfl⟩
      rw [← hqe] at hq hst hkd hkq
      have hw0 : IntKind.i64.wrap ((q : Nat) : Int) = q := IntWalk.i64_in _ (by omega)
      have hr2 : k % 2 = 0 ∨ k % 2 = 1 := by omega
      have HST := Lib.hid hst
      have HLEN := Lib.hid hlen
      clear hst hlen hqe
      rcases hr2 with he | he
      · rw [he] at hr HST
        clear he
        go_wp2
        all_goals refine ⟨⟨q, u ++ u, o, ret_catV u u, by first | rfl | go_num, rfl, by have h1 := HST.out; have h2 := HLEN.out; rw [List.length_append]; omega, by rw [List.length_append]; omega, by omega, by first | trivial | rfl⟩, by simp [intOf]; omega⟩
      · rw [he] at hr HST
        clear he
        go_wp2
        all_goals refine ⟨⟨q, u ++ u, o ++ u, ret_catV u u, by first | rfl | go_num, ret_catV o u, by have h1 := HST.out; have h2 := HLEN.out; rw [List.length_append, List.length_append]; omega, by rw [List.length_append]; omega, by omega, by first | trivial | rfl⟩, by simp [intOf]; omega⟩

def DrawnS (w : World) (e : Ending) (w' : World) : Prop := ∃ t : List UInt8, e = .returned (strV t) ∧ t.length ≤ 100000 ∧ Below w.heap.size w w'

set_option maxHeartbeats 1000000 in
theorem drawExecute_any (a : Option Addr) (len cap : Nat) (w : World) (hby : Bytes w a len) (hlen : len ≤ 1048576) (hc : len ≤ cap) (hcm : cap ≤ maxLen) :
    Calls Tryz.prog 9 #[.slice a len cap] w (DrawnS w) := by
  go_enter Tryz.func9, Tryz.ntmps9
  go_wp2_with fail
  refine (open_r a len cap w hby hlen hc hcm).mono ?_
  rintro e w1 ⟨g, m, cp, rfl, r1⟩
  go_wp2_with fail
  refine (pick_r r1 _ (by omega) (by omega) (by omega)).mono ?_
  rintro e w2 ⟨n, rfl, hn, r2, hg0⟩
  clear hg0 r1
  have hn11 : n ≤ 11 := by omega
  clear hn
  go_wp2
  go_loopw [4, 6] (fun x i wr => ∃ (k q : Nat) (u : List UInt8), i = .int .i64 k ∧ k ≤ n ∧ x = strV u ∧ u.length ≤ 81 * k ∧ q ≤ 1 + 3 * k ∧ Rds w wr g a m cp q) (fun _ i _ => n - (intOf i).toNat)
  case atStart => exact ⟨0, 0 + 1, [], rfl, Nat.zero_le _, rfl, by simp, by omega, r2⟩
  case round =>
    obtain ⟨k, q, u, rfl, hk, rfl, hul, hq, r3⟩ := hrel
    by_cases hlt : k < n
    · have HL := Lib.hid (line_r r3 (by omega))
      have hu1 : u.length ≤ 1000 := by omega
      clear r2 r3
      go_wp2_with (go_at_call 24; (with_reducible refine HL.out.mono ?_); rintro e w3 ⟨t, q2, rfl, htl, hq2, r4⟩; have HR4 := Lib.hid r4; clear r4)
      all_goals go_wp2
      all_goals refine ⟨⟨k + 1, q2, u ++ t ++ [10], by first | rfl | go_num, by omega, str_cat3 u t, by rw [List.length_append, List.length_append, List.length_singleton]; omega, by omega, HR4.out⟩, by simp [intOf]; omega⟩
    · obtain rfl : k = n := by omega
      have HP := Lib.hid (pick_r r3 24 (by omega) (by omega) (by omega))
      have hu1 : u.length ≤ 1000 := by omega
      clear r2 r3
      go_wp2_with (first | (go_at_call 23; (with_reducible refine HP.out.mono ?_); rintro e w3 ⟨t, rfl, ht, r4, hg4⟩; have hb4 := r4.below; have HB4 := Lib.hid hb4; clear r4 hg4) | (go_at_call 25; (with_reducible refine (many_v _).mono ?_); rintro e w4 ⟨z, rfl, hz, hb5⟩; have HB5 := Lib.hid hb5))
      all_goals go_ret
      all_goals first
        | exact ⟨u ++ [115, 104, 111, 119], ret_cat u _, by rw [List.length_append]; simp only [List.length_cons, List.length_nil]; omega, HB4.out⟩
        | exact ⟨u ++ z, ret_cat u z, by rw [List.length_append]; omega, yAz HB4.out HB5.out⟩
        | exact ⟨u, rfl, by omega, HB4.out⟩
end

theorem run_short : ∀ (ls : List (List UInt8)) (a : List Int), partIn a = true → (runL lineL a ls).2.length ≤ 100000 * ls.length := by
  intro ls
  induction ls with
  | nil => intro a _; simp [runL]
  | cons l ls ih =>
    intro a ha
    have h1 := line_short ha l
    have h2 := ih _ (lineL_part ha l)
    simp only [runL, List.length_append, List.length_cons]
    omega
theorem exec_short (c : List UInt8) : (execL lineL c).length ≤ 70000000 := by
  unfold execL
  split
  · simp
  · rename_i h
    have h1 := run_short (linesL c) [0] (by decide)
    have h2 : linesL c = (piecesGo 10 [] c).dropLast := lines_pieces c []
    have h3 := pieces_len 10 c []
    have h4 : (linesL c).length ≤ 601 := by rw [h2, List.length_dropLast]; omega
    have h5 := run_small (linesL c)
    have h6 := decN_len15 (n := (runL lineL [0] (linesL c)).1.length) (by omega)
    unfold sayL thingsL
    simp only [List.length_append, List.length_cons, List.length_nil]
    omega

end Go.Proofs.YtmflecemkodklaaGreatDoor
