/-
  Words for triangles of numbers: the map of what is known, and the contract of (*triangle).at for any rule.
-/
import Derived.Test.YtdeeeiimlcggpaaHelp
import Derived.Maps.OwnSet
import Derived.DeepKeys4
import Derived.Laws.EntriesVeiled
namespace Go.Proofs.Ytdeeeiimlcggpaa
set_option linter.unusedSimpArgs false
set_option linter.unusedVariables false
set_option linter.unnecessarySimpa false
open Go.RowKit
open Go.ChangeMaps (setBlock heap_setBlock_same heap_setBlock_other)
set_option maxRecDepth 100000

theorem tri_laidOut : laidOutB Try.prog = true := by kernel_rfl
theorem tri_row : (79 : TypeId) < Try.prog.types.size := of_decide_eq_true (by kernel_rfl)
theorem tri_wide : (match Try.prog.underlying 79 with | some (.array _ _) | some (.struct _) => true | _ => false) = true := by rw [Try.underlying79]
theorem tri_law : Maps.Keyed Try.prog 79 := Maps.Keyed.of_law (deep_law_laid tri_laidOut (m := 2) (by omega) tri_row (by kernel_rfl) tri_wide)
theorem tri_deep : Try.prog.keyType 79 = true := by kernel_rfl
theorem tri_cells : Try.prog.cellsOf 79 = 2 := by kernel_rfl
theorem tri_cellsInt : Try.prog.cellsOf 3 = 1 := by kernel_rfl
theorem tri_types : ∃ q, Try.prog.types.size = q + 1 := ⟨Try.prog.types.size - 1, by kernel_rfl⟩

/-- The key of a cell. -/
abbrev cellKey (n k : Int) : Value := .agg #[.int .i64 n, .int .i64 k]

theorem cell_wf {n : Int} (h1 : 0 ≤ n) (h2 : n ≤ 12) : (Lit.int .i64 n).wf = true := WalkArith.wf_i64 ⟨by omega, by omega⟩

theorem cell_reads_gen {P : Program} {t i : TypeId} {f0 f1 : Field} {q : Nat} {n k : Int} (hu : P.underlying t = some (.struct #[f0, f1])) (hi : P.underlying i = some (.int .i64)) (h0 : f0.type = i) (h1 : f1.type = i) (o0 : f0.offset = 0) (o1 : f1.offset = 1)
    (n0 : (f0.name != "_") = true) (n1 : (f1.name != "_") = true) (hk : P.keyType t = true) (hc : P.cellsOf t = 2) (hci : P.cellsOf i = 1) (hq : P.types.size = q + 1) (hn : (Lit.int .i64 n).wf = true) (hkk : (Lit.int .i64 k).wf = true) :
    ∃ l, keyOf P t (cellKey n k) = some l := by
  unfold keyOf
  rw [hu]
  have e0 : P.keyLits (q + 1) i [.int .i64 n] = some [.int .i64 n] := by
    unfold Program.keyLits
    rw [hi]
    simp [hn]
  have e1 : P.keyLits (q + 1) i [.int .i64 k] = some [.int .i64 k] := by
    unfold Program.keyLits
    rw [hi]
    simp [hkk]
  have e2 : P.keyLits (P.types.size + 1) t [.int .i64 n, .int .i64 k] = some [.int .i64 n, .int .i64 k] := by
    rw [hq]
    rw [Program.keyLits.eq_def]
    simp only [hu]
    simp [hc, n0, n1, h0, h1, o0, o1, hci, e0, e1]
  have hfm : Value.formed P t (.agg #[.int .i64 n, .int .i64 k]) = true := by
    unfold Value.formed
    simp [hu, hc]
  simp [hk, hfm, Value.cells, e2]

theorem cell_reads {n k : Int} (hn : 0 ≤ n ∧ n ≤ 12) (hk : 0 ≤ k ∧ k ≤ 12) : ∃ l, keyOf Try.prog 79 (cellKey n k) = some l := by
  obtain ⟨q, hq⟩ := tri_types
  exact cell_reads_gen Try.underlying79 Try.underlying3 rfl rfl rfl rfl rfl rfl tri_deep tri_cells tri_cellsInt hq (cell_wf hn.1 hn.2) (cell_wf hk.1 hk.2)

/-- Block mb is a map of at most m cells, each one with the number that G tells. -/
def MapOk (w : World) (mb : Nat) (G : Int → Int → Int) (m : Nat) : Prop := ∃ es clock, w.heap[mb]? = some (.map es clock) ∧ es.size ≤ m ∧
  ∀ x ∈ es.toList, ∃ n k : Int, (0 ≤ n ∧ n ≤ 12) ∧ (0 ≤ k ∧ k ≤ 12) ∧ x.key = cellKey n k ∧ x.val = .int .i64 (G n k)

theorem mapOk_keys {es : Array MapEntry} {G : Int → Int → Int} (h : ∀ x ∈ es.toList, ∃ n k : Int, (0 ≤ n ∧ n ≤ 12) ∧ (0 ≤ k ∧ k ≤ 12) ∧ x.key = cellKey n k ∧ x.val = .int .i64 (G n k)) :
    ∀ x ∈ es.toList, ∃ l, keyOf Try.prog 79 x.key = some l := fun x hx => by
  obtain ⟨n, k, hn, hk, e, _⟩ := h x hx
  rw [e]
  exact cell_reads hn hk

theorem mapOk_mono {w : World} {mb : Nat} {G : Int → Int → Int} {m m' : Nat} (h : MapOk w mb G m) (hm : m ≤ m') : MapOk w mb G m' := by
  obtain ⟨es, clock, hb, hs, hk⟩ := h
  exact ⟨es, clock, hb, by omega, hk⟩

theorem tri_zero (w : World) : (zeroValue 3).run Try.prog w = .ok (.int .i64 0) w := by kernel_rfl

/-- What is looked up is not known, or the number that G tells. -/
theorem map_look {w : World} {mb : Nat} {G : Int → Int → Int} {m : Nat} (h : MapOk w mb G m) {n k : Int} (hn : 0 ≤ n ∧ n ≤ 12) (hk : 0 ≤ k ∧ k ≤ 12) :
    ∃ c b, (Instr.lookup 74 (.map (some mb)) (cellKey n k) true).run Try.prog w = .ok (.tuple #[.int .i64 c, .bool b]) w ∧ (b = true → c = G n k) := by
  obtain ⟨es, clock, hb, hs, hes⟩ := h
  obtain ⟨l, hl⟩ := cell_reads hn hk
  have ht := Try.underlying74
  rcases tri_law.find w hl es.toList (mapOk_keys hes) with ⟨h1, h2⟩ | ⟨j, e0, h1, h2, h3⟩
  · exact ⟨0, false, by simp [Instr.lookup, run_underlying ht, MapKept.run_getObj_map hb, tri_law.check w _ hl, h1, tri_zero w, Result.andThen], fun h => by cases h⟩
  · obtain ⟨n', k', hn', hk', e1, e2⟩ := hes e0 (List.mem_of_getElem? h2)
    rw [h3] at e1
    simp at e1
    obtain ⟨rfl, rfl⟩ := e1
    exact ⟨G n k, true, by simp [Instr.lookup, run_underlying ht, MapKept.run_getObj_map hb, tri_law.check w _ hl, h1, Result.andThen, e2], fun _ => rfl⟩

theorem mem_modify {α : Type} {f : α → α} {x : α} : ∀ {l : List α} {j : Nat}, x ∈ l.modify j f → x ∈ l ∨ ∃ y, l[j]? = some y ∧ x = f y
  | [], j, h => by cases j <;> simp at h
  | a :: l, 0, h => by
    simp at h
    rcases h with rfl | h
    · exact .inr ⟨a, rfl, rfl⟩
    · exact .inl (by simp [h])
  | a :: l, j + 1, h => by
    simp at h
    rcases h with rfl | h
    · exact .inl (by simp)
    · rcases mem_modify h with h | ⟨y, h1, h2⟩
      · exact .inl (by simp [h])
      · exact .inr ⟨y, by simpa using h1, h2⟩

/-- A number is kept. -/
theorem map_put {w : World} {mb : Nat} {G : Int → Int → Int} {m : Nat} (h : MapOk w mb G m) {n k : Int} (hn : 0 ≤ n ∧ n ≤ 12) (hk : 0 ≤ k ∧ k ≤ 12) :
    ∃ w', (Instr.mapUpdate 74 (.map (some mb)) (cellKey n k) (.int .i64 (G n k))).run Try.prog w = .ok () w' ∧ MapOk w' mb G (m + 1) ∧ w.grownBy w' (some mb) := by
  obtain ⟨es, clock, hb, hs, hes⟩ := h
  obtain ⟨l, hl⟩ := cell_reads hn hk
  have ht := Try.underlying74
  have hgr : ∀ es' clock', w.grownBy (setBlock w mb (.map es' clock')) (some mb) := fun es' clock' =>
    ⟨rfl, rfl, rfl, by simp [setBlock], fun i _ hi => heap_setBlock_other hb _ (fun e => hi (by rw [e]))⟩
  rcases tri_law.find w hl es.toList (mapOk_keys hes) with ⟨h1, h2⟩ | ⟨j, e0, h1, h2, h3⟩
  · refine ⟨setBlock w mb (.map (es.push ⟨cellKey n k, .int .i64 (G n k), clock⟩) (clock + 1)), by simp [Instr.mapUpdate, run_underlying ht, MapKept.run_getObj_map hb, tri_law.check w false hl, h1, MapKept.run_setObj_map _ hb, Result.andThen, setBlock], ⟨_, _, heap_setBlock_same hb _, by simp; omega, ?_⟩, hgr _ _⟩
    intro x hx
    simp only [Array.toList_push, List.mem_append, List.mem_singleton] at hx
    rcases hx with hx | rfl
    · exact hes x hx
    · exact ⟨n, k, hn, hk, rfl, rfl⟩
  · have hj : es[j]? = some e0 := by simpa using h2
    refine ⟨setBlock w mb (.map (es.modify j (fun e' => { e' with key := cellKey n k, val := .int .i64 (G n k) })) clock), by simp [Instr.mapUpdate, run_underlying ht, MapKept.run_getObj_map hb, tri_law.check w false hl, h1, hj, h3, tri_law.stays w hl, MapKept.run_setObj_map _ hb, Result.andThen, setBlock], ⟨_, _, heap_setBlock_same hb _, by simp; omega, ?_⟩, hgr _ _⟩
    intro x hx
    rw [Array.toList_modify] at hx
    rcases mem_modify hx with hx | ⟨y, hy, rfl⟩
    · exact hes x hx
    · exact ⟨n, k, hn, hk, rfl, rfl⟩

/-- 'clear'. -/
theorem map_clear {w : World} {mb : Nat} {es : Array MapEntry} {clock : Nat} (hb : w.heap[mb]? = some (.map es clock)) (ty : TypeId) (G : Int → Int → Int) :
    ∃ w', (Builtin.clear_ #[74] ty #[.map (some mb)]).run Try.prog w = .ok (.tuple #[]) w' ∧ MapOk w' mb G 0 ∧ w.grownBy w' (some mb) := by
  have ht := Try.underlying74
  refine ⟨setBlock w mb (.map #[] clock), by simp [Builtin.clear_, run_underlying ht, MapKept.run_getObj_map hb, MapKept.run_setObj_map _ hb, Result.andThen, setBlock], ⟨_, _, heap_setBlock_same hb _, by simp, fun x hx => by simp at hx⟩, ⟨rfl, rfl, rfl, by simp [setBlock], fun i _ hi => heap_setBlock_other hb _ (fun e => hi (by rw [e]))⟩⟩

section
variable {P : Program} (w : World) {ops : Array Oper} {rest : List Oper} {o : Oper} {a : Act} {Q : Exit → Act → World → Prop}

theorem wpList_triLook (hg : o.guard = none) (m x : Operand) (hop : o.op = Op.lookup 74 m x true) {mb : Nat} {G : Int → Int → Int} {mm : Nat} (h : MapOk w mb G mm) {n k : Int} (hn : 0 ≤ n ∧ n ≤ 12) (hk : 0 ≤ k ∧ k ≤ 12)
    (hm : a.eval m = .map (some mb)) (hx : a.eval x = cellKey n k) (hK : ∀ c b, (b = true → c = G n k) → wpList Try.prog ops Q rest (a.put o.dst (.tuple #[.int .i64 c, .bool b])) w) : wpList Try.prog ops Q (o :: rest) a w := by
  refine wpList_plain hg fun K' hK' => ?_
  obtain ⟨c, b, hrun, hc⟩ := map_look h hn hk
  unfold Oper.wp
  simp [execOp, hop, hm, hx, hrun, Result.andThen]
  exact hK' _ _ (hK c b hc)

theorem wpList_triPut (hg : o.guard = none) (m x v : Operand) (hop : o.op = Op.mapUpdate 74 m x v) {mb : Nat} {G : Int → Int → Int} {mm : Nat} (h : MapOk w mb G mm) {n k : Int} (hn : 0 ≤ n ∧ n ≤ 12) (hk : 0 ≤ k ∧ k ≤ 12)
    (hm : a.eval m = .map (some mb)) (hx : a.eval x = cellKey n k) (hv : a.eval v = .int .i64 (G n k)) (hK : ∀ w', MapOk w' mb G (mm + 1) → w.grownBy w' (some mb) → wpList Try.prog ops Q rest (a.put o.dst undef) w') : wpList Try.prog ops Q (o :: rest) a w := by
  refine wpList_plain hg fun K' hK' => ?_
  obtain ⟨w', hrun, h1, h2⟩ := map_put h hn hk
  unfold Oper.wp
  simp [execOp, hop, hm, hx, hv, hrun, Result.andThen]
  exact hK' _ _ (hK w' h1 h2)

theorem wpList_triClear (hg : o.guard = none) (m : Operand) (hop : o.op = Op.call { callee := Callee.builtin Builtin.clear, args := #[m], argTypes := #[74] }) {mb : Nat} (G : Int → Int → Int) {es : Array MapEntry} {clock : Nat} (hb : w.heap[mb]? = some (.map es clock))
    (hm : a.eval m = .map (some mb)) (hK : ∀ w', MapOk w' mb G 0 → w.grownBy w' (some mb) → wpList Try.prog ops Q rest (a.put o.dst (.tuple #[])) w') : wpList Try.prog ops Q (o :: rest) a w := by
  refine wpList_plain hg fun K' hK' => ?_
  obtain ⟨w', hrun, h1, h2⟩ := map_clear hb o.type G
  unfold Oper.wp
  simp [execOp, hop, resolve, invoke, builtin, hm, hrun, Result.andThen]
  exact hK' _ _ (hK w' h1 h2)

end

/-- The triangle at block tb goes by the rule fid and knows, in block mb, at most m numbers, all as G tells. -/
def TriOk (w : World) (tb mb fid : Nat) (G : Int → Int → Int) (m : Nat) : Prop :=
  tb ≠ mb ∧ w.cell? ⟨tb, 0, none⟩ = some (.func (.func fid) #[] #[]) ∧ w.cell? ⟨tb, 1, none⟩ = some (.map (some mb)) ∧ MapOk w mb G m

theorem triOk_mono {w : World} {tb mb fid : Nat} {G : Int → Int → Int} {m m' : Nat} (h : TriOk w tb mb fid G m) (hm : m ≤ m') : TriOk w tb mb fid G m' := ⟨h.1, h.2.1, h.2.2.1, mapOk_mono h.2.2.2 hm⟩

theorem triOk_turn {w w' : World} {tb mb fid : Nat} {G : Int → Int → Int} {m m' : Nat} (h : TriOk w tb mb fid G m) (hg : w.grownBy w' (some mb)) (hm : MapOk w' mb G m') : TriOk w' tb mb fid G m' :=
  ⟨h.1, hg.cell h.2.1 (fun e => h.1 (by simpa using e)), hg.cell h.2.2.1 (fun e => h.1 (by simpa using e)), hm⟩

/-- What a question to a triangle leaves. -/
def TriLeft (w : World) (tb mb fid : Nat) (G : Int → Int → Int) (m : Nat) (r : Int) (e : Ending) (w' : World) : Prop :=
  e = .returned (.int .i64 r) ∧ TriOk w' tb mb fid G m ∧ w.grownBy w' (some mb)

/-- So many numbers become known at most. -/
def triMore (n : Int) : Nat := 3 ^ (n + 1).toNat

def AtOk (fid : Nat) (G : Int → Int → Int) (n : Int) : Prop := ∀ (tb mb m : Nat) (k : Int) (w : World), -20 ≤ k → k ≤ 20 → TriOk w tb mb fid G m → m + triMore n ≤ maxLen →
  Calls Try.prog 41 #[.pointer (some ⟨tb, 0, none⟩), .int .i64 n, .int .i64 k] w (TriLeft w tb mb fid G (m + triMore n) (G n k))

def RuleOk (fid : Nat) (G : Int → Int → Int) : Prop := ∀ (n k : Int), 1 ≤ n → n ≤ 12 → 0 ≤ k → k ≤ n → (∀ j, -1 ≤ j → j < n → AtOk fid G j) → ∀ (tb mb m : Nat) (w : World), TriOk w tb mb fid G m → m + 2 * triMore (n - 1) ≤ maxLen →
  Calls Try.prog fid #[.func (.func 41) #[.pointer (some ⟨tb, 0, none⟩)] #[], .int .i64 n, .int .i64 k] w (TriLeft w tb mb fid G (m + 2 * triMore (n - 1)) (G n k))

/-- The rule is a function like any other. -/
def RuleFn (fid : Nat) : Prop := ∀ (args : Array Value) (w : World), (callFunc fid args).run Try.prog w = .ok (.enter fid args) w

/-- The numbers are 0 beside the triangle, 1 at its top, and small. -/
structure Numbers (G : Int → Int → Int) : Prop where
  out : ∀ n k, k < 0 ∨ n < k → G n k = 0
  top : G 0 0 = 1
  bd : ∀ n k, n ≤ 12 → 0 ≤ G n k ∧ G n k ≤ 1099511627776

theorem triMore_step {n : Int} (h : 0 ≤ n) : triMore n = 3 * triMore (n - 1) := by
  obtain ⟨p, rfl⟩ := Int.eq_ofNat_of_zero_le h
  unfold triMore
  rw [show ((p : Int) + 1).toNat = p + 1 from by omega, show ((p : Int) - 1 + 1).toNat = p from by omega, Nat.pow_succ]
  omega

theorem triMore_pos (n : Int) : 1 ≤ triMore n := Nat.pos_of_ne_zero (by unfold triMore; exact Nat.pos_iff_ne_zero.1 (Nat.pow_pos (by omega)))

set_option maxHeartbeats 1600000 in
theorem at_step (fid : Nat) (G : Int → Int → Int) (hG : Numbers G) (hF : RuleFn fid) (hR : RuleOk fid G) (n : Int) (hn1 : -1 ≤ n) (hn2 : n ≤ 12) (ih : ∀ j, -1 ≤ j → j < n → AtOk fid G j) : AtOk fid G n := by
  intro tb mb m k w hk1 hk2 hT hm
  unfold RuleFn at hF
  have hp := triMore_pos n
  have HT := Lib.hid hT
  obtain ⟨hne, hc0, hc1, hM⟩ := hT
  have hmf : ∀ (fn : Fn) (first cap : Array Value) (w : World), (Instr.makeFunc fn first cap).run Try.prog w = .ok (.func fn first cap) w := fun _ _ _ _ => rfl
  by_cases hout : k < 0 ∨ n < k
  · have h0 := Lib.hid (hG.out n k hout)
    rcases hout with hout | hout
    · clear hM hR ih hmf hF
      go_enter Try.func41, Try.ntmps41
      go_wp2
      go_ret
      exact ⟨ret_int h0.out.symm, triOk_mono HT.out (by omega), World.grownBy.refl _ _⟩
    · by_cases hk0 : k < 0
      · clear hM hR ih hmf hF
        go_enter Try.func41, Try.ntmps41
        go_wp2
        go_ret
        exact ⟨ret_int h0.out.symm, triOk_mono HT.out (by omega), World.grownBy.refl _ _⟩
      · clear hM hR ih hmf hF
        go_enter Try.func41, Try.ntmps41
        go_wp2
        go_ret
        exact ⟨ret_int h0.out.symm, triOk_mono HT.out (by omega), World.grownBy.refl _ _⟩
  · have hk0 : ¬ k < 0 := fun h => hout (.inl h)
    have hkn : ¬ n < k := fun h => hout (.inr h)
    by_cases hn0 : n = 0
    · have hk : k = 0 := by omega
      subst hn0
      subst hk
      have h0 := Lib.hid hG.top
      clear hM hR ih hmf hF
      go_enter Try.func41, Try.ntmps41
      go_wp2
      go_ret
      exact ⟨ret_int h0.out.symm, triOk_mono HT.out (by omega), World.grownBy.refl _ _⟩
    · have hst := triMore_step (n := n) (by omega)
      have hp1 := triMore_pos (n - 1)
      have HR := Lib.hid (hR n k (by omega) hn2 (by omega) (by omega) ih tb mb m w HT.out (by omega))
      have hbd := hG.bd n k hn2
      obtain ⟨g, hg⟩ : ∃ g, g = G n k := ⟨_, rfl⟩
      rw [← hg] at hbd HR ⊢
      have HG := Lib.hid hg
      have HM := Lib.hid hM
      have hz : (n == 0) = false := by simpa using hn0
      obtain ⟨q, hq⟩ : ∃ q, q = triMore (n - 1) := ⟨_, rfl⟩
      rw [← hq] at HR hst hp1
      have HQ := Lib.hid hst
      obtain ⟨q1, hq1⟩ : ∃ q1, q1 = m + triMore n := ⟨_, rfl⟩
      rw [← hq1]
      have HQ1 := Lib.hid hq1
      clear hM hR ih hq hst hg hout hq1
      obtain ⟨c, b, hrun, hc⟩ := map_look HM.out (n := n) (k := k) ⟨by omega, by omega⟩ ⟨by omega, by omega⟩
      unfold cellKey at hrun
      have HC := Lib.hid hc
      clear hc
      cases b
      · go_enter Try.func41, Try.ntmps41
        go_wp2_with fail
        refine HR.out.mono ?_
        rintro e w1 ⟨rfl, hT1, hg1⟩
        have HT1 := Lib.hid hT1
        obtain ⟨_, hc01, hc11, hM1⟩ := hT1
        have HM1 := Lib.hid hM1
        obtain ⟨w2, hrun2, hM2, hg2⟩ := map_put HM1.out (n := n) (k := k) ⟨by omega, by omega⟩ ⟨by omega, by omega⟩
        rw [← HG.out] at hrun2
        unfold cellKey at hrun2
        have HM2 := Lib.hid hM2
        have HG1 := Lib.hid hg1
        have HG2 := Lib.hid hg2
        clear hM1 hM2 hg1 hg2 hrun
        go_wp2
        go_ret
        exact ⟨rfl, triOk_mono (triOk_turn HT1.out HG2.out HM2.out) (by have := HQ.out; have := HQ1.out; omega), grown_trans HG1.out HG2.out⟩
      · have hcg : c = g := by rw [HC.out rfl, HG.out]
        subst hcg
        clear HC
        go_enter Try.func41, Try.ntmps41
        go_wp2
        go_ret
        exact ⟨rfl, triOk_mono HT.out (by have := HQ1.out; omega), World.grownBy.refl _ _⟩

theorem at_all (fid : Nat) (G : Int → Int → Int) (hG : Numbers G) (hF : RuleFn fid) (hR : RuleOk fid G) : ∀ (N : Nat) (n : Int), n < N → -1 ≤ n → n ≤ 12 → AtOk fid G n := by
  intro N
  induction N with
  | zero => exact fun n h1 h2 h3 => at_step fid G hG hF hR n h2 h3 fun j h4 h5 => by omega
  | succ N ih => exact fun n h1 h2 h3 => at_step fid G hG hF hR n h2 h3 fun j h4 h5 => ih j (by omega) h4 (by omega)

end Go.Proofs.Ytdeeeiimlcggpaa
