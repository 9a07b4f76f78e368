/-
  What the laws of this claim lean on: what functions of the program and of the model answer, one after another, and plain mathematics. No condition.
-/
import Derived.Test.YtfiaiephbemdoaaMgH
import Derived.Test.YtfiaiephbemdoaaMgK
import Derived.Test.YtfiaiephbemdoaaMgL
import Derived.Test.YtfiaiephbemdoaaMgM
import Derived.StillTailTactics
import Derived.Deep.RegionHeld3
import Derived.Laws.BitsAllLaws

set_option maxHeartbeats 800000
set_option linter.unusedVariables false
set_option linter.unusedSimpArgs false
set_option linter.unnecessarySimpa false
set_option maxRecDepth 100000

namespace Go.Proofs.Ytfiaiephbemdoaa

section
open Go.RowKit

def mix (c : Int) (xs ys : List Int) : List Int := (List.range xs.length).map fun i => c * xs.getD i 0 + ys.getD i 0

theorem mix_length (c : Int) (xs ys : List Int) : (mix c xs ys).length = xs.length := by simp [mix]
theorem mix_getD (c : Int) (xs ys : List Int) (i : Nat) (h : i < xs.length) : (mix c xs ys).getD i 0 = c * xs.getD i 0 + ys.getD i 0 := by
  simp [mix, List.getD, h]

theorem mix_pat (xs ys : List Int) (hx : Small xs) (hy : Small ys) (hl : ys.length = xs.length) : kOut (mix 10 xs ys) = kOut (mix 8 xs ys) := by
  refine (kOut_pat (mix 8 xs ys) (mix 10 xs ys) (by simp [mix_length]) fun i j hi hj => ?_).1
  rw [mix_length] at hi hj
  rw [mix_getD _ _ _ _ hi, mix_getD _ _ _ _ hj, mix_getD _ _ _ _ hi, mix_getD _ _ _ _ hj]
  have h1 := hx i hi
  have h2 := hx j hj
  have h3 := hy i (by omega)
  have h4 := hy j (by omega)
  omega

def finerMeet (xs ys : List Int) : List Int × Bool := if alike xs ys then (kOut (mix 8 xs ys), true) else ([], false)

set_option maxHeartbeats 1600000 in
theorem sFinerMeet_v (v u : Value) (xs ys : List Int) (w : World) (hv : RdV w v xs) (hu : RdV w u ys) :
    Calls (cutP Try.prog) 47 #[v, u] w (FreshLB w (finerMeet xs ys)) := by
  have HV := Lib.hid hv
  have HU := Lib.hid hu
  cases ha : alike xs ys
  · have HA := Lib.hid ha
    have hr : finerMeet xs ys = ([], false) := by simp [finerMeet, ha]
    rw [hr]
    clear ha hr hv hu
    go_enter Tryp.func47, Tryp.ntmps47
    go_wp2_with fail
    refine (l2Two_is false _ _ _ _ _ HV.out HU.out HA).mono ?_
    rintro e w' ⟨rfl, rfl⟩
    go_wp2
    go_ret2
    exact ⟨_, rfl, own_empty _ _ (Nat.le_refl _), (Below.refl _ _).alloc (Nat.le_refl _) _⟩
  · have HA := Lib.hid ha
    obtain ⟨h1, h8, hl⟩ := alike_lens ha
    obtain ⟨hpx, hpy, _⟩ := alike_iff.1 ha
    have HSX := Lib.hid (partIn_small hpx)
    have HSY := Lib.hid (partIn_small hpy)
    have hr : finerMeet xs ys = (kOut (mix 10 xs ys), true) := by simp [finerMeet, ha, mix_pat xs ys HSX.out HSY.out hl]
    rw [hr]
    obtain ⟨bx, ox, cx, rfl, hcx, hbx, hcx1, hcx2⟩ := rdv_cells hv h1
    obtain ⟨by', oy, cy, rfl, hcy, hby, hcy1, hcy2⟩ := rdv_cells hu (by omega)
    obtain ⟨n, hn⟩ : ∃ n, n = xs.length := ⟨_, rfl⟩
    have HN := Lib.hid hn
    have HLY := Lib.hid hl
    rw [hl] at HU ⊢
    rw [← hn] at HV HU h1 h8 HLY ⊢
    clear ha hr hv hu hn hl hpx hpy hcx1 hcx2 hcy1 hcy2
    go_enter Tryp.func47, Tryp.ntmps47
    go_wp2_with fail
    refine (l2Two_is true _ _ _ _ _ HV.out HU.out HA).mono ?_
    rintro e w' ⟨rfl, rfl⟩
    go_wp2
    go_loopw [6, 7] (fun u i wr => ∃ k g cap : Nat, k ≤ n ∧ i = .int .i64 k ∧ u = .slice (some ⟨g, 0, none⟩) k cap ∧ Own wr w.heap.size (.slice (some ⟨g, 0, none⟩) k cap) ((mix 10 xs ys).take k) ∧ Below w.heap.size w wr) (fun _ i _ => n - (intOf i).toNat)
    case atStart => exact ⟨0, w.heap.size, 0, Nat.zero_le _, rfl, rfl, own_empty w _ (Nat.le_refl _), (Below.refl _ _).alloc (Nat.le_refl _) _⟩
    case round =>
      obtain ⟨k, g, cap, hk, rfl, rfl, hown, hbel⟩ := hrel
      by_cases hlt : k < n
      · have hc1 := cells_at (cells_below hcx hbel) k (by have := HN.out; omega)
        have hc2 := cells_at (cells_below hcy hbel) k (by have := HLY.out; omega)
        have hmg := mix_getD 10 xs ys k (by rw [← HN.out]; exact hlt)
        have hts := take_snoc (mix 10 xs ys) k (by rw [mix_length, ← HN.out]; exact hlt)
        obtain ⟨hx0, hx7⟩ := HSX.out k (by rw [← HN.out]; exact hlt)
        obtain ⟨hy0, hy7⟩ := HSY.out k (by rw [HLY.out]; exact hlt)
        obtain ⟨x, hx⟩ : ∃ x, x = xs.getD k 0 := ⟨_, rfl⟩
        obtain ⟨y, hy⟩ : ∃ y, y = ys.getD k 0 := ⟨_, rfl⟩
        rw [← hx] at hc1 hx0 hx7 hmg
        rw [← hy] at hc2 hy0 hy7 hmg
        rw [hmg] at hts
        have HTS := Lib.hid hts
        have b1 : (k : Int) < n := by omega
        have b2 : IntKind.i64.wrap (10 * x) = 10 * x := IntWalk.i64_in _ (by omega)
        have b3 : IntKind.i64.wrap (10 * x + y) = 10 * x + y := IntWalk.i64_in _ (by omega)
        have HO := Lib.hid hown
        clear hmg hts hx hy hown
        go_wp2
        go_region_held3 (fun w' => w'.cell? ⟨bx, ox + k, none⟩ = some (.int .i64 x) ∧ w'.cell? ⟨by', oy + k, none⟩ = some (.int .i64 y)) (first | exact ⟨hc1, hc2⟩ | exact ⟨cell_keep _ hc1, cell_keep _ hc2⟩ | exact ⟨cell_keepd _ hc1, cell_keepd _ hc2⟩ | exact ⟨hw1, hw2⟩) (first | (refine step_cat rfl _ _ (by rfl) w.heap.size g k cap ((mix 10 xs ys).take k) (by rfl) (own_drew1 (own_alloc HO.out _)) (by rw [List.length_take, mix_length, ← HN.out]; omega) ⟨wr.heap.size, 0, none⟩ 1 1 (by rfl) [10 * x + y] rfl (cells_one (cell_new1 _ _ _)) (by omega) (by have := hbel.size; simp; omega) (k + 1) rfl ?_; intro g' cap' w2 hown2 hgr2 hg2; have HO2 := Lib.hid hown2; have hw1 := hgr2.cell (cell_keepd _ hc1) (by simp; have := (own_lt HO.out g rfl).1; omega); have hw2 := hgr2.cell (cell_keepd _ hc2) (by simp; have := (own_lt HO.out g rfl).1; omega); have hbel2 : Below w.heap.size w w2 := (hbel.alloc hbel.size _).drew.grown hgr2 (by have := hbel.size; simp; omega) (fun q hq => by cases hq; exact (own_lt HO.out g rfl).1); clear hown2 hgr2 hg2))
        go_wp2
        go_roundw
        case rel => exact ⟨k + 1, g', cap', by omega, by go_num, rfl, by rw [HTS.out]; exact HO2.out, hbel2⟩
        case measure => simp [intOf]; omega
      · have hkn : k = n := by omega
        subst hkn
        rw [List.take_of_length_le (by rw [mix_length, ← HN.out]; omega)] at hown
        have HO := Lib.hid (own_rdv hown)
        clear hown
        go_wp2_with fail
        refine (l1Kernel_v _ _ _ HO.out (by rw [mix_length, ← HN.out]; omega)).mono ?_
        rintro e w2 ⟨u, rfl, ho, hb⟩
        go_wp2
        go_ret2
        exact ⟨_, rfl, own_mono ho hbel.size, below_step hbel hb⟩
end

section
open Go.RowKit

theorem apart_of_ge {w : World} {B g : Nat} {v : Value} {xs : List Int} (h : Own w B v xs) (hg : g < B) : v.ownBlock = none ∨ v.ownBlock ≠ some g := by
  cases hv : v.ownBlock with
  | none => exact .inl rfl
  | some k => exact .inr fun e => by have := (own_lt h k hv).1; cases e; omega

theorem below_of_grown {w w' : World} {g : Nat} (h : w.grownBy w' (some g)) (hg : w.heap.size ≤ g) : Below w.heap.size w w' :=
  ⟨h.os, h.tape, h.output, h.size, fun k hk => h.block k hk (fun e => by cases e; omega)⟩

theorem hne_of_bytes {w : World} {a : Option Addr} {m : Nat} (hbm : Bytes w a m) : 0 < m → ∀ x, a = some x → x.block ≠ w.heap.size := by
  intro h0 x hx
  rcases hbm with h | ⟨b, off, ha, hcs⟩
  · omega
  · obtain ⟨y, _, hc⟩ := hcs 0 h0
    have := World.block_lt_of_cell? w _ hc
    rw [ha] at hx
    cases hx
    exact Nat.ne_of_lt this
end

section
open Go.RowKit

structure Rds (w0 w : World) (g : Nat) (a : Option Addr) (m cap p : Nat) : Prop where
  rdr : Rdr w g (.slice a m cap) p
  byt : Bytes w0 a m
  hm : m ≤ 2000
  hg : g = w0.heap.size
  grown : w0.grownBy w (some g)

theorem Rds.ne {w0 w : World} {g m cap p : Nat} {a : Option Addr} (h : Rds w0 w g a m cap p) : 0 < m → ∀ x, a = some x → x.block ≠ g := by
  rw [h.hg]; exact hne_of_bytes h.byt

theorem Rds.bytes {w0 w : World} {g m cap p : Nat} {a : Option Addr} (h : Rds w0 w g a m cap p) : Bytes w a m := bytes_grown h.byt h.grown h.ne

theorem Rds.below {w0 w : World} {g m cap p : Nat} {a : Option Addr} (h : Rds w0 w g a m cap p) : Below w0.heap.size w0 w := below_of_grown h.grown (Nat.le_of_eq h.hg.symm)

theorem Rds.lt {w0 w : World} {g m cap p : Nat} {a : Option Addr} (h : Rds w0 w g a m cap p) : g < w.heap.size := (rdr_facts h.rdr).1

theorem Rds.keep {w w' : World} {B g : Nat} {v : Value} {xs : List Int} (ho : Own w B v xs) (hB : g < B) (hg : w.grownBy w' (some g)) : Own w' B v xs :=
  own_grown ho hg (apart_of_ge ho hB)

theorem Rds.step {w0 w w' : World} {g m cap p : Nat} {a : Option Addr} (h : Rds w0 w g a m cap p) (hb : Below w.heap.size w w') : Rds w0 w' g a m cap p :=
  ⟨rdr_below h.rdr hb, h.byt, h.hm, h.hg, grown_belowD h.grown hb⟩

def Opened (w : World) (a : Option Addr) (e : Ending) (w' : World) : Prop := ∃ g m cap, e = .returned (.pointer (some ⟨g, 0, none⟩)) ∧ Rds w w' g a m cap 0

theorem open_r (a : Option Addr) (len cap : Nat) (w : World) (hby : Bytes w a len) (hlen : len ≤ 1048576) (hc : len ≤ cap) (hcm : cap ≤ maxLen) :
    Calls (cutP Try.prog) 39 #[.slice a len cap] w (Opened w a) :=
  (l6Open_any a len cap w hby hlen hc hcm).mono fun e w1 ⟨he, m, hm, hbm, hr1, hb1, hs1⟩ =>
    ⟨w.heap.size, m, cap, he, ⟨hr1, hbm, hm, rfl, ⟨hb1.os, hb1.tape, hb1.output, hb1.size, fun k hk _ => hb1.block k hk⟩⟩⟩

def PickedR (w0 w : World) (g : Nat) (a : Option Addr) (m cap p : Nat) (n : Int) (e : Ending) (w' : World) : Prop :=
  ∃ t : Nat, e = .returned (.int .i64 t) ∧ (t : Int) < n ∧ Rds w0 w' g a m cap (p + 1) ∧ w.grownBy w' (some g)

theorem pick_r {w0 w : World} {g m cap p : Nat} {a : Option Addr} (h : Rds w0 w g a m cap p) (n : Int) (h1 : 1 ≤ n) (h2 : n ≤ 100000) (hp : p ≤ 1000000) :
    Calls (cutP Try.prog) 42 #[.pointer (some ⟨g, 0, none⟩), .int .i64 n] w (PickedR w0 w g a m cap p n) :=
  (pick_z g a m cap p n w h.rdr h.bytes h.ne h.hm hp h1 h2).mono fun e w1 ⟨t, he, ht, hr1, hg1, hz1⟩ =>
    ⟨t, he, by omega, ⟨hr1, h.byt, h.hm, h.hg, grown_trans h.grown hg1⟩, hg1⟩

def DrawnRS (w0 w : World) (g : Nat) (a : Option Addr) (m cap p n : Nat) (e : Ending) (w' : World) : Prop :=
  ∃ v xs q, e = .returned v ∧ Own w' w.heap.size v xs ∧ (n ≤ xs.length ∧ xs.length ≤ n + 1) ∧ q ≤ p + 40 ∧ Rds w0 w' g a m cap q ∧ w.grownBy w' (some g)
theorem part_rs {w0 w : World} {g m cap p : Nat} {a : Option Addr} (h : Rds w0 w g a m cap p) (n : Nat) (h1 : 1 ≤ n) (h2 : n ≤ 8) (hp : p ≤ 1000) :
    Calls (cutP Try.prog) 41 #[.pointer (some ⟨g, 0, none⟩), .int .i64 n] w (DrawnRS w0 w g a m cap p n) :=
  (l91Part_n g a m cap p n w h.rdr h.bytes h.ne h.hm hp h1 h2).mono fun e w1 ⟨v, xs, q, he, ho, hl, hx, hr1, hq, hg1⟩ =>
    ⟨v, xs, q, he, ho, hl, hq, ⟨hr1, h.byt, h.hm, h.hg, grown_trans h.grown hg1⟩, hg1⟩

theorem Rds.push {w0 wq w' : World} {g g' m cap p : Nat} {a : Option Addr} {o : Obj} (h : Rds w0 wq g a m cap p) (hgr : (wq.alloc o).grownBy w' (some g')) (hne : g' ≠ g) (hge : w0.heap.size ≤ g') : Rds w0 w' g a m cap p :=
  ⟨rdr_grown (rdr_below h.rdr ((Below.refl _ _).alloc (Nat.le_refl _) _)) hgr (fun e => by cases e; exact hne rfl), h.byt, h.hm, h.hg, grown_own (grown_belowD h.grown ((Below.refl _ _).alloc (Nat.le_refl _) _)) hgr hge⟩
end

section
open Go.RowKit

theorem ownM_readV {w w' : World} {B S g : Nat} {v : Value} {ps : List (List Int)} (h : OwnM w B S v ps) (hB : g < B) (hg : w.grownBy w' (some g)) : OwnM w' B S v ps :=
  ownM_kept h hg
    (fun u vs k hu => by
      cases hv : u.ownBlock with
      | none => exact .inl rfl
      | some q => exact .inr fun e => by have := (World.ownsRow.lt hu q hv).1; cases e; omega)
    (fun u vs k hu => by
      cases hv : u.ownBlock with
      | none => exact .inl rfl
      | some q => exact .inr fun e => by have := (World.ownsRow.lt hu q hv).1; cases e; omega)
def Few (xss : List (List Int)) : Prop := ∀ x ∈ xss, 1 ≤ x.length ∧ x.length ≤ 7
theorem few_snoc {xss : List (List Int)} {x : List Int} (h : Few xss) (h1 : 1 ≤ x.length) (h2 : x.length ≤ 7) : Few (xss ++ [x]) := by
  intro y hy
  rcases List.mem_append.1 hy with hy | hy
  · exact h y hy
  · rw [List.mem_singleton.1 hy]; exact ⟨h1, h2⟩

def ViewsR (w0 : World) (g : Nat) (a : Option Addr) (m cap p : Nat) (e : Ending) (w' : World) : Prop :=
  ∃ v xss q, e = .returned v ∧ OwnM w' (g + 1) w'.heap.size v xss ∧ (1 ≤ xss.length ∧ xss.length ≤ 6) ∧ Few xss ∧ q ≤ p + 400 ∧ Rds w0 w' g a m cap q

set_option maxHeartbeats 3200000 in
theorem views_r {w0 w : World} {g m cap p : Nat} {a : Option Addr} (h : Rds w0 w g a m cap p) (hp : p ≤ 100) :
    Calls (cutP Try.prog) 40 #[.pointer (some ⟨g, 0, none⟩)] w (ViewsR w0 g a m cap p) := by
  go_enter Tryp.func40, Tryp.ntmps40
  go_wp2_with fail
  refine (pick_r h _ (by omega) (by omega) (by omega)).mono ?_
  rintro e w1 ⟨n0, rfl, hn0, r1, hg1⟩
  clear hg1
  obtain ⟨n, hn⟩ : ∃ n : Nat, n = n0 + 1 := ⟨_, rfl⟩
  have HNI := Lib.hid (show (1 : Int) + (n0 : Int) = n by omega)
  have hn1 : 1 ≤ n := by omega
  have hn5 : n ≤ 5 := by omega
  clear hn
  go_wp2_with fail
  rw [HNI.out]
  clear hn0
  refine (pick_r r1 _ (by omega) (by omega) (by omega)).mono ?_
  rintro e w2 ⟨k0, rfl, hk0, r2, hg2⟩
  clear hg2
  obtain ⟨kk, hk⟩ : ∃ n : Nat, n = k0 + 1 := ⟨_, rfl⟩
  have HKI := Lib.hid (show (1 : Int) + (k0 : Int) = kk by omega)
  have hk1 : 1 ≤ kk := by omega
  have hk4 : kk ≤ 4 := by omega
  have hgw : g = w0.heap.size := r2.hg
  have hlt2 := r2.lt
  have HOM0 : Hid (OwnM (w2.alloc (.cells #[] 25)) (g + 1) (w2.alloc (.cells #[] 25)).heap.size (.slice (some ⟨w2.heap.size, 0, none⟩) 0 0) []) := Lib.hid (ownM_mono (ownM_empty w2 (g + 1) (by omega)) (Nat.le_refl _) (by simp))
  have R2 := Lib.hid (Rds.step r2 ((Below.refl _ _).alloc (Nat.le_refl _) (.cells #[] 25)))
  have HGW := Lib.hid hgw
  clear r1 r2 hk hgw hlt2 h
  go_wp2
  rw [HKI.out]
  clear hk0
  go_loopw [5, 6] (fun u i wr => ∃ (k g' cap' q : Nat) (xss : List (List Int)), k ≤ kk ∧ i = .int .i64 k ∧ u = .slice (some ⟨g', 0, none⟩) k cap' ∧ OwnM wr (g + 1) wr.heap.size (.slice (some ⟨g', 0, none⟩) k cap') xss ∧ k = xss.length ∧ Few xss ∧ q ≤ p + 2 + 40 * k ∧ Rds w0 wr g a m cap q) (fun _ i _ => kk - (intOf i).toNat)
  case atStart => exact ⟨0, w2.heap.size, 0, p + 1 + 1, [], Nat.zero_le _, rfl, rfl, HOM0.out, rfl, fun x hx => by simp at hx, by omega, R2.out⟩
  case round =>
    clear HOM0 R2
    obtain ⟨k, g', cap', q, xss, hk, rfl, rfl, hown, hm', hfew, hq, hr⟩ := hrel
    have HO := Lib.hid hown
    have HM := Lib.hid hm'
    have HF := Lib.hid hfew
    have R := Lib.hid hr
    have hgl0 := hr.lt
    clear hown hm' hfew hr
    by_cases hlt : k < kk
    · go_wp2_with fail
      refine (part_rs R.out n hn1 (by omega) (by omega)).mono ?_
      rintro e w3 ⟨va, xs, q2, rfl, oa, hl, hq2, r3, hg3⟩
      have hs3 := hg3.size
      obtain ⟨ao3, ca3, rfl⟩ := own_slice' oa
      have hi3 := inB_mono (S' := w3.heap.size + 1) (inB_of_own oa) (Nat.le_refl _) (by omega)
      have HOM := Lib.hid (ownM_below (ownM_readV HO.out (Nat.lt_succ_self g) hg3) ((Below.refl _ _).alloc (Nat.le_refl _) (.cells #[.slice ao3 xs.length ca3] 25)))
      have HOU := Lib.hid (own_alloc (own_mono (B' := g + 1) oa (by omega)) (.cells #[.slice ao3 xs.length ca3] 25))
      have HCE := Lib.hid (cell_new1 w3 (.slice ao3 xs.length ca3) 25)
      have R3 := Lib.hid r3
      have HIN : Hid (InB (.slice ao3 xs.length ca3) wr.heap.size (w3.alloc (.cells #[.slice ao3 xs.length ca3] 25)).heap.size) := Lib.hid (by simpa using hi3)
      have HSW : Hid (wr.heap.size ≤ (w3.alloc (.cells #[.slice ao3 xs.length ca3] 25)).heap.size) := Lib.hid (by simp; omega)
      clear oa r3 hg3 hi3 HO R
      go_wp2_with (at_builtin; refine wpList_pushV rfl _ _ rfl (g + 1) wr.heap.size k _ xss rfl HOM.out HM.out ⟨w3.heap.size, 0, none⟩ rfl _ _ HCE.out HOU.out HIN.out (by omega) HSW.out (by omega) ?_; intro g4 cap4 w9 hown4 hgr4)
      have hrow : g + 1 ≤ g' := by
        obtain ⟨vs, hr⟩ := ownM_row0 HOM.out
        exact (World.ownsRow.lt hr g' rfl).1
      have hgw := HGW.out
      have HR9 := Lib.hid (Rds.push (g' := g') R3.out hgr4 (by omega) (by omega))
      have HO9 := Lib.hid hown4
      clear hown4 hgr4 HOM HCE HOU HIN HSW hgw R3
      go_wp2
      go_roundw
      case rel => exact ⟨k + 1, g4, cap4, q2, xss ++ [xs], by omega, by go_num, rfl, HO9.out, by simp [HM.out], few_snoc HF.out (by omega) (by omega), by omega, HR9.out⟩
      case measure => simp [intOf]; omega
    · have hkn : k = kk := by omega
      subst hkn
      go_wp2_with fail
      refine (pick_r R.out _ (by omega) (by omega) (by omega)).mono ?_
      rintro e w4 ⟨t, rfl, ht, r4, hg4⟩
      have hs4 := hg4.size
      have HO4 := Lib.hid (ownM_mono (ownM_readV HO.out (Nat.lt_succ_self g) hg4) (Nat.le_refl _) hs4)
      have R4 := Lib.hid r4
      have hgl4 := r4.lt
      clear hg4 r4 HO R
      by_cases h0 : t = 0
      · subst h0
        have HE := Lib.hid (show (n : Int) + 1 = ((n + 1 : Nat) : Int) by omega)
        go_wp2_with fail
        rw [HE.out]
        refine (part_rs R4.out (n + 1) (by omega) (by omega) (by omega)).mono ?_
        rintro e w3 ⟨va, xs, q2, rfl, oa, hl, hq2, r3, hg3⟩
        have hs3 := hg3.size
        obtain ⟨ao3, ca3, rfl⟩ := own_slice' oa
        have hi3 := inB_mono (S' := w3.heap.size + 1) (inB_of_own oa) (Nat.le_refl _) (by omega)
        have HOM := Lib.hid (ownM_below (ownM_readV HO4.out (Nat.lt_succ_self g) hg3) ((Below.refl _ _).alloc (Nat.le_refl _) (.cells #[.slice ao3 xs.length ca3] 25)))
        have HOU := Lib.hid (own_alloc (own_mono (B' := g + 1) oa (by omega)) (.cells #[.slice ao3 xs.length ca3] 25))
        have HCE := Lib.hid (cell_new1 w3 (.slice ao3 xs.length ca3) 25)
        have R3 := Lib.hid r3
        have HIN : Hid (InB (.slice ao3 xs.length ca3) w4.heap.size (w3.alloc (.cells #[.slice ao3 xs.length ca3] 25)).heap.size) := Lib.hid (by simpa using hi3)
        have HSW : Hid (w4.heap.size ≤ (w3.alloc (.cells #[.slice ao3 xs.length ca3] 25)).heap.size) := Lib.hid (by simp; omega)
        clear oa r3 hg3 hi3 HO4 R4
        go_wp2_with (at_builtin; refine wpList_pushV rfl _ _ rfl (g + 1) w4.heap.size k _ xss rfl HOM.out HM.out ⟨w3.heap.size, 0, none⟩ rfl _ _ HCE.out HOU.out HIN.out (by omega) HSW.out (by omega) ?_; intro g4 cap4 w9 hown4 hgr4)
        have hrow : g + 1 ≤ g' := by
          obtain ⟨vs, hr⟩ := ownM_row0 HOM.out
          exact (World.ownsRow.lt hr g' rfl).1
        have hgw := HGW.out
        have HR9 := Lib.hid (Rds.push (g' := g') R3.out hgr4 (by omega) (by omega))
        have HO9 := Lib.hid hown4
        clear hown4 hgr4 HOM HCE HOU HIN HSW hgw R3
        go_wp2
        go_ret
        have hm := HM.out
        exact ⟨_, xss ++ [xs], q2, rfl, HO9.out, by simp; omega, few_snoc HF.out (by omega) (by omega), by omega, HR9.out⟩
      · have h01 : ((t : Int) == 0) = false := by simp; omega
        go_wp2
        go_ret
        have hm := HM.out
        exact ⟨_, xss, q + 1, rfl, HO4.out, by omega, HF.out, by omega, R4.out⟩

def ViewsDrawn (w : World) (e : Ending) (w' : World) : Prop :=
  ∃ v xss, e = .returned v ∧ RdM w' v xss ∧ (1 ≤ xss.length ∧ xss.length ≤ 6) ∧ Few xss ∧ Below w.heap.size w w'
theorem l92Some_any (a : Option Addr) (len cap : Nat) (w : World) (hby : Bytes w a len) (hlen : len ≤ 1048576) (hc : len ≤ cap) (hcm : cap ≤ maxLen) :
    Calls (cutP Try.prog) 29 #[.slice a len cap] w (ViewsDrawn w) := by
  go_enter Tryp.func29, Tryp.ntmps29
  go_wp2_with fail
  refine (open_r a len cap w hby hlen hc hcm).mono ?_
  rintro e w1 ⟨g, m, cp, rfl, r1⟩
  go_wp2_with fail
  refine (views_r r1 (by omega)).mono ?_
  rintro e w2 ⟨v, xss, q, rfl, ho, hl, hf, hq, r2⟩
  go_wp2
  go_ret
  exact ⟨_, xss, rfl, ownM_rdM ho, hl, hf, r2.below⟩
theorem drawViewCommon_any (a : Option Addr) (len cap : Nat) (w : World) (hby : Bytes w a len) (hlen : len ≤ 1048576) (hc : len ≤ cap) (hcm : cap ≤ maxLen) :
    Calls (cutP Try.prog) 9 #[.slice a len cap] w (ViewsDrawn w) := by
  go_enter Tryp.func9, Tryp.ntmps9
  go_wp2_with fail
  refine (l92Some_any a len cap w hby hlen hc hcm).mono ?_
  rintro e w1 ⟨v, xss, rfl, h1, h2, h3, h4⟩
  go_wp2
  go_ret
  exact ⟨_, xss, rfl, h1, h2, h3, h4⟩
theorem drawViewMeet_any (a : Option Addr) (len cap : Nat) (w : World) (hby : Bytes w a len) (hlen : len ≤ 1048576) (hc : len ≤ cap) (hcm : cap ≤ maxLen) :
    Calls (cutP Try.prog) 17 #[.slice a len cap] w (ViewsDrawn w) := by
  go_enter Tryp.func17, Tryp.ntmps17
  go_wp2_with fail
  refine (l92Some_any a len cap w hby hlen hc hcm).mono ?_
  rintro e w1 ⟨v, xss, rfl, h1, h2, h3, h4⟩
  go_wp2
  go_ret
  exact ⟨_, xss, rfl, h1, h2, h3, h4⟩
end

theorem viewCost_part {vs : List (List Int)} {L : Nat} {x : List Int} (ha : areV vs = true) (hL : ∀ k, k < vs.length → (vs.getD k []).length = L ∧ partIn (vs.getD k []) = true) (hx : partIn x = true) (hl : x.length = L) : viewCost x vs = (((costOf x vs : Nat) : Int), true) := by
  have h0 := areV_len ha
  have hk : alike x (vs.getD 0 []) = true := alike_iff.2 ⟨hx, (hL 0 (by omega)).2, by rw [(hL 0 (by omega)).1]; exact hl⟩
  unfold viewCost
  rw [ha, hk]
  rfl
theorem allL_has {xs : List Int} {L : Nat} (h : partIn xs = true) (hl : xs.length = L) : xs ∈ allL L := by
  subst hl
  have h1 := plc_bd (partIn_ok h)
  unfold allL
  rw [List.mem_map]
  refine ⟨(plc xs).toNat, by rw [List.mem_range]; omega, ?_⟩
  rw [show (((plc xs).toNat : Nat) : Int) = plc xs by omega]
  exact atL_plc (partIn_ok h)
theorem allL_of {xs : List Int} {L : Nat} (h1 : 1 ≤ L) (h5 : L ≤ 5) (h : xs ∈ allL L) : partIn xs = true ∧ xs.length = L := by
  unfold allL at h
  obtain ⟨p, _, rfl⟩ := List.mem_map.1 h
  exact ⟨atL_partIn_any L p h1 (by omega), atL_length _ _⟩
theorem common_facts {vs : List (List Int)} (ha : areV vs = true) : ∃ (m : List Int) (c : Nat), viewCommon vs = (m, true) ∧ viewCost m vs = ((c : Int), true) ∧ ∀ k, k < vs.length → ∃ d : Nat, viewCost (vs.getD k []) vs = ((d : Int), true) ∧ c ≤ d := by
  obtain ⟨L, hL1, hL5, hL⟩ := areV_row ha
  have hlen := areV_len ha
  have hq := (allL_many hL1 hL5).1
  have hb := bst_lt (costsL vs L) (allL L).length hq
  have hm := (bst_min (costsL vs L) (allL L).length hq).1
  obtain ⟨j0, hj0⟩ : ∃ j, j = bst (costsL vs L) (allL L).length := ⟨_, rfl⟩
  rw [← hj0] at hb hm
  have hmem : (allL L).getD j0 [] ∈ allL L := by simp [List.getD, hb]
  obtain ⟨hp, hl⟩ := allL_of hL1 hL5 hmem
  refine ⟨(allL L).getD j0 [], costOf ((allL L).getD j0 []) vs, ?_, viewCost_part ha hL hp hl, fun k hk => ⟨costOf (vs.getD k []) vs, viewCost_part ha hL (hL k hk).2 (hL k hk).1, ?_⟩⟩
  · unfold viewCommon
    rw [if_pos ha, (hL 0 (by omega)).1, costsL_len, ← hj0]
  · have h1 : vs.getD k [] ∈ allL L := allL_has (hL k hk).2 (hL k hk).1
    obtain ⟨i, hi, e⟩ := List.getElem_of_mem h1
    have h2 := hm i hi
    rw [costsL_get hb, costsL_get hi] at h2
    have e2 : (allL L).getD i [] = vs.getD k [] := by rw [← e]; simp [List.getD, hi]
    rw [e2] at h2
    omega

section
open Go.RowKit

set_option maxHeartbeats 400000 in
theorem sameInts_any (ao bo : Option Addr) (ca cb : Nat) (xs ys : List Int) (w : World) (hx : Rd w ao xs) (hy : Rd w bo ys) (hlx : xs.length ≤ 9223372036854775807) (hly : ys.length ≤ 9223372036854775807) :
    Calls (cutP Try.prog) 12 #[.slice ao xs.length ca, .slice bo ys.length cb] w fun e w' => e = .returned (.bool (decide (xs = ys))) ∧ Same w w' := by
  obtain ⟨n, hn⟩ : ∃ n, n = xs.length := ⟨_, rfl⟩
  obtain ⟨m, hm⟩ : ∃ m, m = ys.length := ⟨_, rfl⟩
  rw [← hn, ← hm]
  rw [← hn] at hlx
  rw [← hm] at hly
  have HN := Lib.hid hn
  have HM := Lib.hid hm
  clear hn hm
  have HX := Lib.hid hx
  have HY := Lib.hid hy
  clear hx hy
  by_cases hnm : n = m
  · subst hnm
    go_enter Tryp.func12, Tryp.ntmps12
    go_wp2
    go_loopw [5] (fun i wr => ∃ k : Nat, k ≤ n ∧ i = .int .i64 k ∧ xs.take k = ys.take k ∧ Same w wr) (fun i _ => n - (intOf i).toNat)
    case atStart => exact ⟨0, Nat.zero_le _, rfl, rfl, Same.refl w⟩
    case round =>
      obtain ⟨k, hk, rfl, htk, hsr⟩ := hrel
      have HT := Lib.hid htk
      clear htk
      by_cases hlt : k < n
      · have hx := rd_same HX.out hsr
        have hy := rd_same HY.out hsr
        rcases hx with hx | ⟨b, off, rfl, hcx⟩
        · have := HN.out
          rw [hx] at this
          simp at this
          omega
        · rcases hy with hy | ⟨b2, off2, rfl, hcy⟩
          · have := HM.out
            rw [hy] at this
            simp at this
            omega
          · have hc1 := hcx k (by have := HN.out; omega)
            have hc2 := hcy k (by have := HM.out; omega)
            clear hcx hcy
            obtain ⟨x, hx⟩ : ∃ x, x = xs.getD k 0 := ⟨_, rfl⟩
            obtain ⟨y, hy⟩ : ∃ y, y = ys.getD k 0 := ⟨_, rfl⟩
            rw [← hx] at hc1
            rw [← hy] at hc2
            have HXK := Lib.hid hx
            have HYK := Lib.hid hy
            clear hx hy
            have hlt' : (k : Int) < n := by omega
            by_cases hxy : x = y
            · subst hxy
              go_wp2
              go_quiet (fail)
              go_wp2
              go_roundw
              case rel => exact ⟨k + 1, by omega, by go_num, take_succ_eq HT.out (by have := HN.out; omega) (by have := HM.out; omega) (by rw [← HXK.out, ← HYK.out]), hsr.drewN _⟩
              case measure => simp [intOf]; omega
            · have hb : (x != y) = true := by simpa using hxy
              go_wp2
              go_quiet (fail)
              go_wp2
              go_ret
              have hne : ¬ xs = ys := fun e => hxy (by rw [HXK.out, HYK.out, e])
              exact ⟨by simp [hne], hsr.drewN _⟩
      · go_wp2
        go_ret
        have hkn : k = n := by omega
        subst hkn
        have he : xs = ys := by
          have := HT.out
          rwa [List.take_of_length_le (by have := HN.out; omega), List.take_of_length_le (by have := HM.out; omega)] at this
        exact ⟨by simp [he], hsr⟩
  · go_enter Tryp.func12, Tryp.ntmps12
    go_wp2
    go_ret
    have hne : ¬ xs = ys := fun e => hnm (by rw [HN.out, HM.out, e])
    exact ⟨by simp [hne], Same.refl w⟩

theorem sameInts_v (v u : Value) (xs ys : List Int) (w : World) (hv : RdV w v xs) (hu : RdV w u ys) : Calls (cutP Try.prog) 12 #[v, u] w fun e w' => e = .returned (.bool (decide (xs = ys))) ∧ Same w w' := by
  obtain ⟨ao, ca, rfl, h, h1, h2⟩ := hv
  obtain ⟨bo, cb, rfl, k, k1, k2⟩ := hu
  unfold maxLen at h2 k2
  exact sameInts_any ao bo ca cb xs ys w h k (by omega) (by omega)
end

section
open Go.RowKit

def maskTo (p : Nat → Bool) : Nat → Nat
  | 0 => 0
  | k + 1 => if p k then maskTo p k ||| 2 ^ k else maskTo p k
theorem maskTo_lt (p : Nat → Bool) : ∀ k, maskTo p k < 2 ^ k
  | 0 => by simp [maskTo]
  | k + 1 => by
    have h := maskTo_lt p k
    have h2 : 2 ^ k < 2 ^ (k + 1) := Nat.pow_lt_pow_right (by omega) (by omega)
    unfold maskTo
    split
    · exact Nat.or_lt_two_pow (by omega) h2
    · omega
theorem maskTo_bit (p : Nat → Bool) (j : Nat) : ∀ k, (maskTo p k).testBit j = (decide (j < k) && p j)
  | 0 => by simp [maskTo]
  | k + 1 => by
    have h := maskTo_bit p j k
    unfold maskTo
    by_cases e : j = k
    · subst e
      by_cases hp : p j = true
      · rw [if_pos hp, Nat.testBit_or, h, hp]; simp
      · rw [if_neg hp, h]; simp [hp]
    · have e2 : decide (j < k + 1) = decide (j < k) := by rw [decide_eq_decide]; omega
      rw [e2, ← h]
      split
      · rw [Nat.testBit_or, Nat.testBit_two_pow_of_ne (fun x => e x.symm)]; simp
      · rfl
theorem mask_eq {p q : Nat → Bool} {k : Nat} : maskTo p k = maskTo q k ↔ ∀ j, j < k → p j = q j := by
  constructor
  · intro h j hj
    have h1 := maskTo_bit p j k
    have h2 := maskTo_bit q j k
    rw [h, h2] at h1
    simpa [hj] using h1.symm
  · intro h
    apply Nat.eq_of_testBit_eq
    intro j
    rw [maskTo_bit, maskTo_bit]
    by_cases hj : j < k
    · rw [h j hj]
    · simp [hj]

def togV (vs : List (List Int)) (least i j : Nat) : Bool := decide (least ≤ votes vs i j)
def nearL (vs : List (List Int)) (least L : Nat) : List Nat := (List.range L).map fun i => maskTo (togV vs least i) L
def nrTo (vs : List (List Int)) (least L t : Nat) : List Nat := (List.range L).map fun i => maskTo (togV vs least i) (min L (t - i * L))
theorem nrTo_len (vs : List (List Int)) (least L t : Nat) : (nrTo vs least L t).length = L := by simp [nrTo]
theorem nearL_len (vs : List (List Int)) (least L : Nat) : (nearL vs least L).length = L := by simp [nearL]
theorem nrTo_get (vs : List (List Int)) (least L t : Nat) {i : Nat} (h : i < L) : (nrTo vs least L t).getD i 0 = maskTo (togV vs least i) (min L (t - i * L)) := by simp [nrTo, List.getD, h]
theorem nearL_get (vs : List (List Int)) (least L : Nat) {i : Nat} (h : i < L) : (nearL vs least L).getD i 0 = maskTo (togV vs least i) L := by simp [nearL, List.getD, h]
theorem nrTo_zero (vs : List (List Int)) (least L : Nat) : nrTo vs least L 0 = List.replicate L 0 := by
  apply List.ext_getElem (by simp [nrTo])
  intro i h1 h2
  simp [nrTo, maskTo]
theorem nrTo_all (vs : List (List Int)) (least L : Nat) : nrTo vs least L (L * L) = nearL vs least L := by
  apply List.ext_getElem (by simp [nrTo, nearL])
  intro i h1 h2
  have hi : i < L := by simpa [nrTo] using h1
  have h3 : (i + 1) * L ≤ L * L := Nat.mul_le_mul_right L hi
  rw [Nat.succ_mul] at h3
  simp only [nrTo, nearL, List.getElem_map, List.getElem_range]
  rw [show min L (L * L - i * L) = L by omega]
theorem nrTo_step (vs : List (List Int)) (least L t x y : Nat) (ht : t = x * L + y) (hx : x < L) (hy : y < L) :
    nrTo vs least L (t + 1) = if togV vs least x y then (nrTo vs least L t).set x ((nrTo vs least L t).getD x 0 ||| 2 ^ y) else nrTo vs least L t := by
  have other : ∀ i, i < L → i ≠ x → min L (t + 1 - i * L) = min L (t - i * L) := by
    intro i hi hne
    rcases Nat.lt_or_gt_of_ne hne with h | h
    · have := Nat.mul_le_mul_right L (show i + 1 ≤ x by omega)
      rw [Nat.succ_mul] at this
      omega
    · have := Nat.mul_le_mul_right L (show x + 1 ≤ i by omega)
      rw [Nat.succ_mul] at this
      omega
  have e1 : min L (t + 1 - x * L) = y + 1 := by omega
  have e2 : min L (t - x * L) = y := by omega
  rw [nrTo_get vs least L t hx, e2]
  by_cases hp : togV vs least x y = true
  · rw [if_pos hp]
    apply List.ext_getElem (by simp [nrTo])
    intro i h1 h2
    have hi : i < L := by simpa [nrTo] using h1
    rw [List.getElem_set]
    simp only [nrTo, List.getElem_map, List.getElem_range]
    by_cases e : x = i
    · subst e
      rw [if_pos rfl, e1]
      conv => lhs; unfold maskTo
      rw [if_pos hp]
    · rw [if_neg e, other i hi (fun h => e h.symm)]
  · rw [if_neg hp]
    apply List.ext_getElem (by simp [nrTo])
    intro i h1 h2
    have hi : i < L := by simpa [nrTo] using h1
    simp only [nrTo, List.getElem_map, List.getElem_range]
    by_cases e : i = x
    · subst e
      rw [e1, e2]
      conv => lhs; unfold maskTo
      rw [if_neg hp]
    · rw [other i hi e]
theorem nrTo_lt (vs : List (List Int)) (least L t i : Nat) (h : L ≤ 8) : (nrTo vs least L t).getD i 0 < 256 := by
  by_cases hi : i < L
  · rw [nrTo_get vs least L t hi]
    have h1 := maskTo_lt (togV vs least i) (min L (t - i * L))
    have h2 : 2 ^ (min L (t - i * L)) ≤ 2 ^ 8 := Nat.pow_le_pow_right (by omega) (by omega)
    omega
  · rw [List.getD_eq_getElem?_getD, List.getElem?_eq_none (by rw [nrTo_len]; omega)]
    simp
theorem nearL_lt (vs : List (List Int)) (least L i : Nat) (h : L ≤ 8) : (nearL vs least L).getD i 0 < 256 := by
  rw [← nrTo_all]; exact nrTo_lt _ _ _ _ _ h

def OwnK (w : World) (B : Nat) (v : Value) (ns : List Nat) : Prop := w.ownsRow B 57 1 v ns.length (ns.map fun b => Value.int .u64 (b : Nat))
theorem ownK_cell {w : World} {B g n cap : Nat} {ns : List Nat} (h : OwnK w B (.slice (some ⟨g, 0, none⟩) n cap) ns) (j : Nat) (hj : j < ns.length) : w.cell? ⟨g, j, none⟩ = some (.int .u64 ((ns.getD j 0 : Nat) : Int)) := by
  have h0 := h
  unfold OwnK at h0
  rcases h.2 with ⟨h1, _⟩ | ⟨g', cap', cur, hv, _⟩
  · cases h1
  · simp only [Value.slice.injEq, Option.some.injEq, Addr.mk.injEq, and_true, true_and] at hv
    obtain ⟨rfl, rfl, rfl⟩ := hv
    have := World.ownsRow.cellAt h0 j (by omega)
    rw [this]
    simp [List.getD, hj]
theorem ownK_stored {w : World} {B g n cap : Nat} {ns : List Nat} (h : OwnK w B (.slice (some ⟨g, 0, none⟩) n cap) ns) (hn : n = ns.length) (j x : Nat) :
    OwnK (w.setCell ⟨g, j, none⟩ (.int .u64 (x : Int))) B (.slice (some ⟨g, 0, none⟩) n cap) (ns.set j x) := by
  subst hn
  have := (World.ownsRow.stored h j (.int .u64 (x : Int))).1
  unfold OwnK
  rw [List.length_set, List.map_set]
  exact this
theorem ownK_frozen {w : World} {B g n cap : Nat} {ns : List Nat} (h : OwnK w B (.slice (some ⟨g, 0, none⟩) n cap) ns) (hn : n = ns.length) (j : Nat) : w.frozen? ⟨g, j, none⟩ = false := by
  subst hn
  exact World.ownsRow.frozenAt h j
theorem ownK_below {w w' : World} {B : Nat} {v : Value} {ns : List Nat} (h : OwnK w B v ns) (hb : Below w.heap.size w w') : OwnK w' B v ns :=
  World.ownsRow.kept h (grown_of_below hb) (by cases hv : v.ownBlock <;> simp)
theorem ownK_made {w1 : World} {B g n : Nat} (h : w1.ownsRow B 57 1 (.slice (some ⟨g, 0, none⟩) n n) n (madeCells #[Value.int .u64 0] n).toList) : OwnK w1 B (.slice (some ⟨g, 0, none⟩) n n) (List.replicate n 0) := by
  unfold OwnK
  rw [toList_madeCells_one] at h
  simpa using h
theorem ownK_mono {w : World} {B B' : Nat} {v : Value} {ns : List Nat} (h : OwnK w B v ns) (hB : B' ≤ B) : OwnK w B' v ns := by
  refine ⟨h.1, ?_⟩
  rcases h.2 with h2 | ⟨g, cap, cur, hv, hb, r⟩
  · exact .inl h2
  · exact .inr ⟨g, cap, cur, hv, by omega, r⟩
theorem Try.infoK : ((cutP Try.prog).info? 57).map (fun i => (i.zero, i.size, i.bytes)) = some (some (.int .u64 0), 1, 8) := by kernel_rfl
theorem with_stillK (b t : Nat) (w : World) (hb : b < 256) (ht : t < 8) : Calls (cutP Try.prog) 64 #[.int .u64 b, .int .i64 t] w fun e w' => e = .returned (.int .u64 ((b ||| 2 ^ t : Nat) : Int)) ∧ w' = w :=
  (with_any b t w hb ht).mono fun e w' ⟨h1, h2⟩ => ⟨h1, h2.symm⟩
end

section
open Go.Conc Go.RowKit

set_option maxRecDepth 100000 in
set_option maxHeartbeats 3200000 in
theorem togetherIn_b {X w : World} {v0 : Value} {vs : List (List Int)} {L least : Nat} (h0 : RdM w v0 vs) (h1 : 1 ≤ L) (h5 : L ≤ 5) (hvl : ∀ k, k < vs.length → (vs.getD k []).length = L) (hv1 : 1 ≤ vs.length) (hv6 : vs.length ≤ 6) (hle : least ≤ 6) :
    CallsB (duo Try.prog X) 45 #[v0, .int .i64 least] w (fun v w' => OwnK w' w.heap.size v (nearL vs least L) ∧ Bel w w') := by
  obtain ⟨vb, vo, vcap, bV, oV, cV, rfl, hV⟩ := rows_at h0 hv1 h1 hvl
  have hc0 := (hV 0 (by omega)).1
  rw [Nat.add_zero] at hc0
  obtain ⟨q, hq⟩ : ∃ q, q = L * L := ⟨_, rfl⟩
  have hq25 : q ≤ 25 := by rw [hq]; exact Nat.mul_le_mul h5 h5
  have hqm : IntKind.i64.wrap ((L : Int) * (L : Int)) = (q : Int) := by
    rw [show ((L : Int) * (L : Int)) = (q : Int) by rw [hq]; exact (Int.natCast_mul L L).symm, IntKind.wrap_i64]
    omega
  obtain ⟨n, hn⟩ : ∃ n, n = vs.length := ⟨_, rfl⟩
  have HVV := Lib.hid hV
  have HVL := Lib.hid hvl
  have HN := Lib.hid hn
  have HV1 := Lib.hid hv1
  have HV6 := Lib.hid hv6
  have HLE := Lib.hid hle
  have HQ := Lib.hid hq
  have HQM := Lib.hid hqm
  have z0 : (0 : Int) < (n : Int) := by omega
  have z1 : 0 < n := by omega
  rw [← hn]
  have H1 := Lib.hid h1
  have H5 := Lib.hid h5
  clear hV hvl h0 hn hv1 hv6 hle hq
  refine CallsB.of_body kit (fn := Try.f45) Tryp.func45 Try.func45 rfl (by kernel_rfl) (by kernel_rfl) ?_
  simp only [Try.ntmps45, List.size_toArray, List.length_cons, List.length_nil, Nat.reduceAdd, Nat.reduceSub, Array.replicate_succ, Array.replicate_zero, List.push_toArray, List.append_toArray, List.nil_append, List.cons_append]
  refine WpB.seq kit (WpB.of_wp kit (fun τ => ?_) (outs_then (outs_body _ _ _)))
  go_wp2
  refine WpB.own ?_
  refine WpB.seq kit (WpB.of_wp kit (fun τ => ?_) (outs_then (outs_body _ _ _)))
  have hc0' : (ownTape w τ).cell? ⟨vb, vo, none⟩ = some (.slice (some ⟨bV 0, oV 0, none⟩) L (cV 0)) := hc0
  have hs0 : (ownTape w τ).heap = w.heap ∧ (ownTape w τ).os = w.os ∧ (ownTape w τ).output = w.output := ⟨rfl, rfl, rfl⟩
  generalize ownTape w τ = w0 at *
  have HS0 := Lib.hid hs0
  clear hs0
  go_wp2
  refine WpB.gen fun w1 hw1 => ?_
  have he : w1.heap = w.heap.push (.cells #[.int .i64 L] 3) ∧ w1.os = w.os ∧ w1.output = w.output := by
    subst hw1
    obtain ⟨s1, s2, s3⟩ := HS0.out
    exact ⟨by rw [← s1]; rfl, s2, s3⟩
  rw [congrArg Array.size HS0.out.1]
  clear hw1 hc0'
  obtain ⟨e, e1, e2⟩ := he
  have hbx := cell_pushed e
  clear hc0
  refine WpB.seq kit (WpB.region kit ?_)
  simp only [List.size_toArray, List.length_cons, List.length_nil, Nat.reduceAdd, Nat.zero_add, List.range, List.range.loop]
  unfold OpsB
  simp only [List.getElem?_toArray, List.getElem?_cons_zero, List.getElem?_cons_succ]
  rw [if_pos (by rfl)]
  left
  intro _
  unfold Oper.wp
  go_simp
  unfold OpsB
  simp only [List.getElem?_toArray, List.getElem?_cons_zero, List.getElem?_cons_succ]
  rw [if_pos (by rfl)]
  left
  intro _
  unfold Oper.wp
  go_simp
  unfold OpsB
  simp only [List.getElem?_toArray, List.getElem?_cons_zero, List.getElem?_cons_succ]
  rw [if_pos (by rfl)]
  left
  intro _
  unfold Oper.wp
  go_simp
  unfold OpsB
  simp only [List.getElem?_toArray, List.getElem?_cons_zero, List.getElem?_cons_succ]
  rw [if_pos (by rfl)]
  left
  intro _
  unfold Oper.wp
  go_simp
  unfold OpsB
  simp only [List.getElem?_toArray, List.getElem?_cons_zero, List.getElem?_cons_succ]
  rw [if_pos (by rfl)]
  left
  intro _
  unfold Oper.wp
  go_simp
  try rw [hqm]
  unfold OpsB
  simp only [List.getElem?_toArray, List.getElem?_cons_zero, List.getElem?_cons_succ]
  rw [if_pos (by rfl)]
  right
  refine ⟨54, #[.slice (some ⟨vb, vo, none⟩) n vcap, .int .i64 q, .func (.func 63) #[] #[.pointer (some ⟨w.heap.size, 0, none⟩)]], fun W => ⟨by kernel_rfl, by kernel_rfl⟩, ?_⟩
  obtain ⟨avs, havs⟩ : ∃ avs : Nat → Nat → Int, avs = fun c l => (if (vs.getD c []).getD (l / L) 0 = (vs.getD c []).getD (l % L) 0 then 1 else 0) := ⟨_, rfl⟩
  have hsm : ∀ c x, c ≤ n → ((List.range c).map fun i => avs i x).sum = ((votes (vs.take c) (x / L) (x % L) : Nat) : Int) := fun c x hc => by
    rw [havs]; exact votes_range _ _ _ _ (by rw [← HN.out]; exact hc)
  have hav : ∀ c x, 0 ≤ avs c x ∧ avs c x ≤ 1 := fun c x => by
    rw [havs]; dsimp only; split <;> omega
  have hvt : ∀ c x, votes (vs.take c) (x / L) (x % L) ≤ 6 := fun c x => by
    have := votes_le (vs.take c) (x / L) (x % L)
    have h6 := HV6.out
    simp only [List.length_take] at this
    omega
  have hask := hask_together (X := X) (w := w1) (n := n) (L := L) (bx := w.heap.size) (cV := cV) (V := fun k => vs.getD k []) H1.out (by have := H5.out; omega) hbx (fun k hk => ⟨nums_push e (HVV.out k (by rw [← HN.out]; exact hk)).2.1, HVL.out k (by rw [← HN.out]; exact hk)⟩)
  rw [← HQ.out] at hask
  refine CallsB.own ((totals_b (X := X) (w := w1) (n := n) (q := q) (vb := vb) (vo := vo) (vcap := vcap) (row := fun k => .slice (some ⟨bV k, oV k, none⟩) L (cV k)) (avs := avs) (by have := HN.out; have := HV6.out; omega) z1 (by omega) ?_ (fun i hi => cell_push e (HVV.out i (by rw [← HN.out]; exact hi)).1) (fun i _ => ⟨_, _, _, rfl⟩) (by rw [havs]; exact hask)).mono fun v w2 hs => ?_)
  · intro c l x hc hl hx
    unfold sumC
    rw [hsm c x (by omega)]
    have a := hvt c x
    have b := hav c x
    split <;> omega
  have bel : Bel w w2 := bel_sums e e1 e2 hs
  have hbx2 : w2.cell? ⟨w.heap.size, 0, none⟩ = some (.int .i64 L) := by
    have hb : w.heap.size < w1.heap.size := by rw [e, Array.size_push]; omega
    unfold World.cell? at hbx ⊢
    rw [hs.old _ hb]
    exact hbx
  have ho : Own w2 w.heap.size v ((List.range q).map fun x => ((votes vs (x / L) (x % L) : Nat) : Int)) := by
    obtain ⟨ys, y1, y2, y3⟩ := hs.sums
    rw [hs.val]
    have hsz : w1.heap.size = w.heap.size + 1 := by rw [e, Array.size_push]
    refine own_sums (by omega) y1 y2 (by simp) (by unfold maxLen; omega) fun x hx => ?_
    rw [y3 x hx, sumC_all, hsm n x (Nat.le_refl _), HN.out, List.take_length]
    simp [List.getD, hx]
  clear hs hask hsm hvt hav havs hbx
  obtain ⟨C, hC⟩ : ∃ C, C = (List.range q).map fun x => ((votes vs (x / L) (x % L) : Nat) : Int) := ⟨_, rfl⟩
  have HCG : Hid (∀ x, x < q → C.getD x 0 = ((votes vs (x / L) (x % L) : Nat) : Int)) := Lib.hid fun x hx => by rw [hC]; simp [List.getD, hx]
  have hcl : C.length = q := by rw [hC]; simp
  rw [← hC] at ho
  clear hC
  have hq1 : 1 ≤ q := by
    rw [HQ.out]
    exact Nat.mul_le_mul H1.out H1.out
  obtain ⟨g, cap, rfl, hgB, hgc⟩ : ∃ g cap, v = .slice (some ⟨g, 0, none⟩) q cap ∧ w.heap.size ≤ g ∧ ∀ j, j < q → w2.cell? ⟨g, j, none⟩ = some (.int .i64 (C.getD j 0)) := by
    rcases own_view ho with ⟨_, x⟩ | ⟨g, cap, rfl, x1, x2, x3, x4, hc, _⟩
    · rw [x] at hcl; simp at hcl; omega
    · rw [hcl] at hc ⊢
      exact ⟨g, cap, rfl, by omega, hc⟩
  have HGC := Lib.hid hgc
  clear ho hcl hgc
  unfold OpsB
  simp only [List.getElem?_toArray, List.getElem?_cons_zero, List.getElem?_cons_succ]
  rw [if_pos (by rfl)]
  left
  intro _
  unfold Oper.wp
  go_simp
  unfold OpsB
  refine WpB.own ?_
  obtain ⟨i0, hi, hz0, hz1, hz2⟩ := info_parts Try.infoK
  have h5 := H5.out
  have h1 := H1.out
  have bel2 : Below w2.heap.size w2 w2 := Below.refl _ _
  refine WpB.of_wp kit (fun τ => ?_) (outs_body _ _ _)
  have bB : Bel w (ownTape w2 τ) := bel_ownT (τ := τ) bel
  have hbx3 : (ownTape w2 τ).cell? ⟨w.heap.size, 0, none⟩ = some (.int .i64 L) := hbx2
  have HGC3 : Hid (∀ j, j < q → (ownTape w2 τ).cell? ⟨g, j, none⟩ = some (.int .i64 (C.getD j 0))) := Lib.hid HGC.out
  generalize ownTape w2 τ = w3 at *
  clear HGC hbx2 bel bel2
  go_wp2_with (at_make; refine wpList_make_full _ rfl _ _ 54 rfl w3.heap.size 57 i0 (.int .u64 0) 1 Try.underlying54 hi hz0 hz1 _ _ _ _ L rfl rfl rfl rfl (by rw [hz2]; omega) (by unfold maxLen; omega) (Nat.le_refl _) ?_)
  intro w4 hown4 hgrow4
  have hb4 : Below w3.heap.size w3 w4 := (Below.refl _ _).grown hgrow4 (Nat.le_refl _) (fun k h => by cases h)
  have HO4 := Lib.hid (ownK_made hown4)
  have hg4 := (World.ownsRow.lt hown4 _ rfl).2
  have hlt3 : w.heap.size < w3.heap.size := World.block_lt_of_cell? w3 _ hbx3
  clear hown4 hgrow4
  go_wp2
  go_loopw [24] (fun i wr => ∃ k : Nat, k ≤ q ∧ i = .int .i64 k ∧ OwnK wr w3.heap.size (.slice (some ⟨w3.heap.size, 0, none⟩) L L) (nrTo vs least L k) ∧ Below w3.heap.size w3 wr) (fun i _ => q - (intOf i).toNat)
  case atStart => exact ⟨0, Nat.zero_le _, rfl, by rw [nrTo_zero]; exact HO4.out, hb4⟩
  case round =>
    obtain ⟨k, hk, rfl, hown, hbel⟩ := hrel
    have HO := Lib.hid hown
    by_cases hlt : k < q
    · have hck := cell_belowV (HGC3.out k hlt) hbel
      have hcb := cell_belowV hbx3 hbel
      have hcg := HCG.out k hlt
      obtain ⟨x, hx⟩ : ∃ x, x = k / L := ⟨_, rfl⟩
      obtain ⟨y, hy⟩ : ∃ y, y = k % L := ⟨_, rfl⟩
      have hxl : x < L := by rw [hx]; exact Nat.div_lt_of_lt_mul (by rw [← HQ.out]; exact hlt)
      have hyl : y < L := by rw [hy]; exact Nat.mod_lt _ (by omega)
      have hkxy : k = x * L + y := by rw [hx, hy, Nat.mul_comm]; exact (Nat.div_add_mod k L).symm
      have hst := nrTo_step vs least L k x y hkxy hxl hyl
      have hnl := nrTo_len vs least L k
      have hn256 := nrTo_lt vs least L k x (by omega)
      rw [← hx, ← hy] at hcg
      have hv6 : votes vs x y ≤ 6 := by
        have a := votes_le vs x y
        have b := HV6.out
        omega
      obtain ⟨c, hc⟩ : ∃ c, c = votes vs x y := ⟨_, rfl⟩
      rw [← hc] at hcg hv6
      rw [hcg] at hck
      have htg : togV vs least x y = decide (least ≤ c) := by rw [hc]; rfl
      rw [htg] at hst
      have q1 : ((k : Int)).tdiv (L : Int) = (x : Int) := by rw [Int.tdiv_eq_ediv_of_nonneg (by omega), hx]; exact (Int.natCast_ediv ..).symm
      have q2 : ((k : Int)).tmod (L : Int) = (y : Int) := by rw [Int.tmod_eq_emod_of_nonneg (by omega), hy]; exact (Int.natCast_emod ..).symm
      have q3 : (k : Int) / (L : Int) = (x : Int) := by rw [hx]; exact (Int.natCast_ediv ..).symm
      have q4 : (k : Int) % (L : Int) = (y : Int) := by rw [hy]; exact (Int.natCast_emod ..).symm
      have y0 : ¬ ((L : Int) = 0) := by omega
      have y1 : ¬ (L = 0) := by omega
      have u1 : IntKind.i64.wrap (x : Int) = x := by rw [IntKind.wrap_i64]; omega
      have u2 : IntKind.i64.wrap (y : Int) = y := by rw [IntKind.wrap_i64]; omega
      obtain ⟨ns, hns⟩ : ∃ ns, ns = nrTo vs least L k := ⟨_, rfl⟩
      rw [← hns] at hst hnl hn256 HO
      obtain ⟨p, hp⟩ : ∃ p, p = ns.getD x 0 := ⟨_, rfl⟩
      have e1 := ownK_cell HO.out x (by omega)
      rw [← hp] at hst hn256 e1
      have b0 : (k : Int) < q := by omega
      have b1 : (x : Int) < L := by omega
      have b3 : (0 : Int) ≤ (x : Int) := by omega
      have b4 : (0 : Int) ≤ (y : Int) := by omega
      have HST := Lib.hid hst
      have HNL := Lib.hid hnl
      have HB := Lib.hid hbel
      clear hst hnl hns hx hy hc hcg htg hkxy hp hbel hown
      by_cases hge : least ≤ c
      · have hge2 : (least : Int) ≤ (c : Int) := by omega
        have hge3 : (c : Int) ≥ (least : Int) := hge2
        rw [decide_eq_true hge] at HST
        have hst := HST.out
        rw [if_pos rfl] at hst
        have HST2 := Lib.hid hst
        clear HST hst hge
        go_wp2
        refine wp_region_still_tail 14 (by kernel_rfl) (by kernel_rfl) ?_
        simp only [List.take_succ_cons, List.take_zero, List.drop_succ_cons, List.drop_zero]
        repeat still_step
        still_call (with_stillK p y _ hn256 (by omega))
        repeat still_step
        refine wpStill_nil ?_
        change wpList _ _ _ _ _ wr.drew
        obtain ⟨r, hr⟩ : ∃ r, r = p ||| 2 ^ y := ⟨_, rfl⟩
        rw [← hr]
        rw [← hr] at HST2
        obtain ⟨W5, hW5⟩ : ∃ W5, W5 = wr.drew := ⟨_, rfl⟩
        have g3 : W5.cell? ⟨w3.heap.size, x, none⟩ = some (.int .u64 (p : Int)) := by rw [hW5]; exact e1
        have g2 : W5.cell? ⟨w.heap.size, 0, none⟩ = some (.int .i64 L) := by rw [hW5]; exact hcb
        have hb5 : Below w3.heap.size w3 W5 := by rw [hW5]; exact HB.out.drew
        have ho5 : OwnK W5 w3.heap.size (.slice (some ⟨w3.heap.size, 0, none⟩) L L) ns := by rw [hW5]; exact ownK_below HO.out (Below.refl _ _).drew
        have hf5 := ownK_frozen ho5 HNL.out.symm x
        rw [← hW5]
        have HO6 := Lib.hid (ownK_stored ho5 HNL.out.symm x r)
        have HB6 := Lib.hid (hb5.setCell (p := ⟨w3.heap.size, x, none⟩) (Nat.le_refl _) (.int .u64 (r : Int)))
        clear hW5 hb5 ho5 e1 hcb hck hr
        go_wp2
        go_roundw
        case rel => exact ⟨k + 1, by omega, by go_num, by rw [HST2.out]; exact HO6.out, HB6.out⟩
        case measure => simp [intOf]; omega
      · have hge2 : ¬ ((least : Int) ≤ (c : Int)) := by omega
        have hge3 : ¬ ((c : Int) ≥ (least : Int)) := hge2
        rw [decide_eq_false hge] at HST
        have hst := HST.out
        rw [if_neg (by simp)] at hst
        have HST2 := Lib.hid hst
        clear HST hst hge
        go_wp2
        go_roundw
        case rel => exact ⟨k + 1, by omega, by go_num, by rw [HST2.out]; exact HO.out, HB.out⟩
        case measure => simp [intOf]; omega
    · have hkq : k = q := by omega
      subst hkq
      have hfin : nrTo vs least L k = nearL vs least L := by rw [HQ.out]; exact nrTo_all vs least L
      rw [hfin] at hown
      have HOF := Lib.hid hown
      have HBF := Lib.hid (bB.below hbel)
      clear hown hbel hfin HO
      go_wp2
      exact ⟨rfl, _, fun τ => results_tmp (t := 4) rfl _ _ _, ownK_mono HOF.out bB.size, HBF.out⟩
end

section
open Go.RowKit

def mtTo (vs : List (List Int)) : Nat → List Int
  | 0 => vs.getD 0 []
  | k + 1 => (finerMeet (mtTo vs k) (vs.getD (k + 1) [])).1
def viewMeet (vs : List (List Int)) : List Int × Bool := if areV vs then (mtTo vs (vs.length - 1), true) else ([], false)

theorem mix_iff {xs ys : List Int} (hx : Small xs) (hy : Small ys) (hl : ys.length = xs.length) {i j : Nat} (hi : i < xs.length) (hj : j < xs.length) : (mix 8 xs ys).getD i 0 = (mix 8 xs ys).getD j 0 ↔ xs.getD i 0 = xs.getD j 0 ∧ ys.getD i 0 = ys.getD j 0 := by
  rw [mix_getD _ _ _ _ hi, mix_getD _ _ _ _ hj]
  have h1 := hx i hi
  have h2 := hx j hj
  have h3 := hy i (by omega)
  have h4 := hy j (by omega)
  omega

theorem mt_facts {vs : List (List Int)} {L : Nat} (h1 : 1 ≤ L) (h8 : L ≤ 8) (hL : ∀ k, k < vs.length → (vs.getD k []).length = L ∧ partIn (vs.getD k []) = true) : ∀ k, k < vs.length →
    partIn (mtTo vs k) = true ∧ (mtTo vs k).length = L ∧ ∀ i j, i < L → j < L → ((mtTo vs k).getD i 0 = (mtTo vs k).getD j 0 ↔ ∀ v, v ≤ k → (vs.getD v []).getD i 0 = (vs.getD v []).getD j 0) := by
  intro k
  induction k with
  | zero =>
    intro hk
    obtain ⟨a, b⟩ := hL 0 hk
    refine ⟨b, a, fun i j hi hj => ⟨fun h v hv => ?_, fun h => h 0 (Nat.le_refl _)⟩⟩
    obtain rfl : v = 0 := by omega
    exact h
  | succ k ih =>
    intro hk
    obtain ⟨i1, i2, i3⟩ := ih (by omega)
    obtain ⟨a, b⟩ := hL (k + 1) hk
    have hal : alike (mtTo vs k) (vs.getD (k + 1) []) = true := alike_iff.2 ⟨i1, b, by rw [i2, a]⟩
    have hm : mtTo vs (k + 1) = kOut (mix 8 (mtTo vs k) (vs.getD (k + 1) [])) := by
      show (finerMeet (mtTo vs k) (vs.getD (k + 1) [])).1 = _
      unfold finerMeet
      rw [if_pos hal]
    have hml : (mix 8 (mtTo vs k) (vs.getD (k + 1) [])).length = L := by rw [mix_length, i2]
    rw [hm]
    refine ⟨partIn_kOut (by omega) (by omega), by rw [kOut_length, hml], fun i j hi hj => ?_⟩
    rw [← (kOut_inv _).2 i j (by omega) (by omega), mix_iff (partIn_small i1) (partIn_small b) (by omega) (by omega) (by omega), i3 i j hi hj]
    constructor
    · rintro ⟨x, y⟩ v hv
      by_cases e : v = k + 1
      · subst e; exact y
      · exact x v (by omega)
    · intro x
      exact ⟨fun v hv => x v (by omega), x (k + 1) (Nat.le_refl _)⟩

theorem votes_all {vs : List (List Int)} {i j : Nat} : vs.length ≤ votes vs i j ↔ ∀ v, v < vs.length → (vs.getD v []).getD i 0 = (vs.getD v []).getD j 0 := by
  induction vs with
  | nil => simp [votes]
  | cons x vs ih =>
    have h0 := votes_le vs i j
    have hv : votes (x :: vs) i j = (if x.getD i 0 = x.getD j 0 then 1 else 0) + votes vs i j := rfl
    rw [hv, List.length_cons]
    constructor
    · intro h v hv
      by_cases e : x.getD i 0 = x.getD j 0
      · rw [if_pos e] at h
        cases v with
        | zero => simpa using e
        | succ v => simpa using ih.1 (by omega) v (by omega)
      · rw [if_neg e] at h; omega
    · intro h
      have e : x.getD i 0 = x.getD j 0 := by simpa using h 0 (by omega)
      have := ih.2 fun v hv => by simpa using h (v + 1) (by omega)
      rw [if_pos e]
      omega

def intsK (ns : List Nat) : List Int := ns.map fun (b : Nat) => (b : Int)
theorem intsK_len (ns : List Nat) : (intsK ns).length = ns.length := by simp [intsK]
theorem intsK_get (ns : List Nat) {i : Nat} (h : i < ns.length) : (intsK ns).getD i 0 = ((ns.getD i 0 : Nat) : Int) := by simp [intsK, List.getD, h]

theorem meet_near {vs : List (List Int)} {L : Nat} (h1 : 1 ≤ L) (h8 : L ≤ 8) (hn : 1 ≤ vs.length) (hL : ∀ k, k < vs.length → (vs.getD k []).length = L ∧ partIn (vs.getD k []) = true) : kOut (intsK (nearL vs vs.length L)) = mtTo vs (vs.length - 1) := by
  obtain ⟨m1, m2, m3⟩ := mt_facts h1 h8 hL (vs.length - 1) (by omega)
  rw [← (kOut_of_ok _ (partIn_ok m1)).1]
  refine (kOut_pat _ _ (by rw [intsK_len, nearL_len, m2]) fun i j hi hj => ?_).1
  rw [m2] at hi hj
  rw [intsK_get _ (by rw [nearL_len]; exact hi), intsK_get _ (by rw [nearL_len]; exact hj), nearL_get _ _ _ hi, nearL_get _ _ _ hj, m3 i j hi hj]
  have tg : ∀ i j, togV vs vs.length i j = true ↔ ∀ v, v < vs.length → (vs.getD v []).getD i 0 = (vs.getD v []).getD j 0 := fun i j => by
    unfold togV
    rw [decide_eq_true_eq]
    exact votes_all
  constructor
  · intro h
    have hm : maskTo (togV vs vs.length i) L = maskTo (togV vs vs.length j) L := by
      refine mask_eq.2 fun k hk => ?_
      rw [Bool.eq_iff_iff, tg, tg]
      exact ⟨fun x v hv => (h v (by omega)).symm.trans (x v hv), fun x v hv => (h v (by omega)).trans (x v hv)⟩
    rw [hm]
  · intro h
    have hm := mask_eq.1 (show maskTo (togV vs vs.length i) L = maskTo (togV vs vs.length j) L by omega) j hj
    have : togV vs vs.length j j = true := (tg j j).2 fun _ _ => rfl
    rw [this] at hm
    intro v hv
    exact (tg i j).1 hm v (by omega)

theorem viewMeet_len (vs : List (List Int)) : (viewMeet vs).1.length ≤ 2305843009213693952 := by
  unfold viewMeet
  by_cases ha : areV vs = true
  · obtain ⟨L, hL1, hL5, hL⟩ := areV_row ha
    have hlen := areV_len ha
    have := (mt_facts hL1 (by omega) hL (vs.length - 1) (by omega)).2.1
    rw [if_pos ha]
    simp only
    omega
  · rw [if_neg ha]; simp

set_option maxHeartbeats 3200000 in
theorem sViewMeet_v (v : Value) (vs : List (List Int)) (w : World) (hv : RdM w v vs) : Calls (cutP Try.prog) 19 #[v] w (FreshLB w (viewMeet vs)) := by
  have HM := Lib.hid hv
  have bel : Below w.heap.size w w := Below.refl _ _
  cases ha : areV vs
  · have hr : viewMeet vs = ([], false) := by simp [viewMeet, ha]
    rw [hr]
    have HA := Lib.hid (fun w' (h : RdM w' v vs) => (by have := l7Views_v v vs w' h; rw [ha] at this; exact this : Calls (cutP Try.prog) 35 #[v] w' (GivesB w' false)))
    clear hr ha hv
    go_enter Tryp.func19, Tryp.ntmps19
    go_wp2_with fail
    refine (HA.out _ HM.out).mono ?_
    rintro e w2 ⟨rfl, hb⟩
    have hsz := hb.size
    go_wp2
    go_ret2
    exact ⟨_, rfl, own_empty _ _ hsz, hb.alloc hsz _⟩
  · have HA := Lib.hid (fun w' (h : RdM w' v vs) => (by have := l7Views_v v vs w' h; rw [ha] at this; exact this : Calls (cutP Try.prog) 35 #[v] w' (GivesB w' true)))
    have hlen := areV_len ha
    obtain ⟨b, off, ca2, zo, zc, rfl, hc1, hrow⟩ := cell_row HM.out (k := 0) (by omega)
    obtain ⟨l0, hl0⟩ : ∃ l0, l0 = (vs.getD 0 []).length := ⟨_, rfl⟩
    obtain ⟨L, hL1, hL5, hL⟩ := areV_row ha
    have e0 : l0 = L := by rw [hl0, (hL 0 (by omega)).1]
    subst e0
    have hr : viewMeet vs = (mtTo vs (vs.length - 1), true) := by
      unfold viewMeet
      rw [if_pos ha]
    rw [hr]
    have HF := Lib.hid (mt_facts hL1 (by omega) hL)
    obtain ⟨n, hn⟩ : ∃ n, n = vs.length := ⟨_, rfl⟩
    have z0 : (0 : Int) < (n : Int) := by rw [hn]; omega
    have z1 : 0 < n := by omega
    rw [← hl0, Nat.add_zero] at hc1
    rw [← hl0] at hrow
    rw [← hn] at HM HA HF ⊢
    have HN := Lib.hid hn
    have hn6 : n ≤ 6 := by omega
    have HL := Lib.hid hL
    have HL5 := Lib.hid (And.intro hL1 hL5)
    have HR0 := Lib.hid hrow
    clear hr ha hv hrow hl0 hL hn hlen hL1 hL5
    go_enter Tryp.func19, Tryp.ntmps19
    go_wp2_with fail
    refine (HA.out _ HM.out).mono ?_
    rintro e w2 ⟨rfl, hb⟩
    have hc2 := cell_belowV hc1 hb
    have HR2 := Lib.hid (rdv_below HR0.out hb)
    clear bel
    have bel := hb
    clear hb
    go_wp2
    go_loopw [4, 5] (fun bs i wr => ∃ (k : Nat) (yo : Option Addr) (yc : Nat), k < n ∧ i = .int .i64 (k + 1 : Nat) ∧ bs = .slice yo l0 yc ∧ Below w.heap.size w wr ∧ RdV wr (.slice yo l0 yc) (mtTo vs k)) (fun _ i _ => n - (intOf i).toNat)
    case atStart => exact ⟨0, _, _, z1, rfl, rfl, bel, HR2.out⟩
    case round =>
      clear bel
      obtain ⟨k, yo, yc, hkn, rfl, rfl, belw, hbv⟩ := hrel
      by_cases hlt : k + 1 < n
      · obtain ⟨zo1, zc1, hck, hrk⟩ := cell_rowK HM.out (k := k + 1) (by rw [← HN.out]; exact hlt)
        rw [(HL.out (k + 1) (by rw [← HN.out]; exact hlt)).1] at hck hrk
        replace hck := cell_belowV hck belw
        replace hrk := rdv_below hrk belw
        have hnl := (HF.out (k + 1) hlt).2.1
        have hnx : mtTo vs (k + 1) = (finerMeet (mtTo vs k) (vs.getD (k + 1) [])).1 := rfl
        obtain ⟨ys, hys⟩ : ∃ ys, ys = mtTo vs (k + 1) := ⟨_, rfl⟩
        rw [← hys] at hnl hnx
        have hcon := fun w' h1 h2 => sFinerMeet_v (.slice yo l0 yc) (.slice zo1 l0 zc1) (mtTo vs k) (vs.getD (k + 1) []) w' h1 h2
        obtain ⟨bb, hbb⟩ : ∃ bb, bb = (finerMeet (mtTo vs k) (vs.getD (k + 1) [])).2 := ⟨_, rfl⟩
        have hpair : finerMeet (mtTo vs k) (vs.getD (k + 1) []) = (ys, bb) := by rw [hnx, hbb]
        rw [hpair] at hcon
        have HC := Lib.hid hcon
        have HYS := Lib.hid hys
        have HRK := Lib.hid hrk
        have HBV := Lib.hid hbv
        have HYL := Lib.hid hnl
        obtain ⟨i, hi⟩ : ∃ i, i = k + 1 := ⟨_, rfl⟩
        rw [← hi] at hck hlt ⊢
        have HI := Lib.hid hi
        have hkl : (i : Int) < (n : Int) := by omega
        have hk0 : (0 : Int) ≤ (i : Int) := by omega
        clear hcon hnx hpair hys hbb hrk hbv hnl hi
        go_wp2_with fail
        refine (HC.out _ HBV.out HRK.out).mono ?_
        rintro e w4 ⟨u, rfl, o, hb4⟩
        have belw4 := below_step belw hb4
        obtain ⟨yo', yc', rfl⟩ : ∃ yo' yc', u = .slice yo' l0 yc' := by
          obtain ⟨yo', yc', e, _⟩ := own_rdv o
          rw [show ((ys, bb).1).length = l0 from HYL.out] at e
          exact ⟨yo', yc', e⟩
        have HO := Lib.hid (own_rdv o)
        clear o hb4 belw hck
        go_wp2
        go_roundw
        case rel => exact ⟨k + 1, _, _, by have := HI.out; omega, by have := HI.out; go_num, rfl, belw4, by rw [← HYS.out]; exact HO.out⟩
        case measure => simp [intOf]; have := HI.out; omega
      · have hkn : k = n - 1 := by omega
        have hln := (HF.out k (by omega)).2.1
        have hl15 := HL5.out
        obtain ⟨ys, hys⟩ : ∃ ys, ys = mtTo vs k := ⟨_, rfl⟩
        have hfin : mtTo vs (n - 1) = ys := by rw [hys, hkn]
        have HF2 := Lib.hid hfin
        rw [← hys] at hbv hln
        obtain ⟨bb, bo, rfl, hcs⟩ : ∃ bb bo, yo = some ⟨bb, bo, none⟩ ∧ ∀ j, j < ys.length → wr.cell? ⟨bb, bo + j, none⟩ = some (.int .i64 (ys.getD j 0)) := by
          obtain ⟨_, _, e, hr, _⟩ := hbv
          injection e with e1 e2 e3
          subst e1
          rcases hr with hr | ⟨bb, bo, e, hr⟩
          · rw [hr] at hln; simp at hln; omega
          · exact ⟨bb, bo, e, hr⟩
        have HCS := Lib.hid hcs
        have HLN := Lib.hid hln.symm
        have hsz := belw.size
        have hk1 : ((k + 1 : Nat) : Int) = (n : Int) := by omega
        have hk2 : k + 1 = n := by omega
        clear hcs hln hbv hys hfin hkn hk1 hc2 hc1
        rw [hk2]
        go_wp2_with (at_builtin; refine wpList_cat rfl _ _ rfl w.heap.size wr.heap.size 0 0 [] rfl (own_empty wr w.heap.size hsz) rfl ⟨bb, bo, none⟩ l0 yc rfl ys HLN.out (fun j hj => by rw [Addr.add_lit]; exact cell_belowV (HCS.out j hj) (Below.alloc (Below.refl _ _) (Nat.le_refl _) _)) (by omega) (by simp; omega) l0 (by omega) ?_)
        intro g4 cap4 w6 hown4 hgr4 hg4
        have hbw := belw.alloc hsz (.cells #[] 3)
        have hbw6 := hbw.grown hgr4 (by simp; omega) (fun q hq => by cases hq; exact hsz)
        have HO4 := Lib.hid hown4
        clear hown4 hgr4 hg4
        go_wp2
        go_ret2
        refine ⟨.slice (some ⟨g4, 0, none⟩) l0 cap4, rfl, ?_, hbw6⟩
        show Own w6 w.heap.size _ (mtTo vs (n - 1))
        rw [HF2.out]
        exact HO4.out
end

section
open Go.Conc Go.RowKit

theorem ownK_view {w : World} {B : Nat} {v : Value} {ns : List Nat} (h : OwnK w B v ns) (h1 : 1 ≤ ns.length) : ∃ g cap, v = .slice (some ⟨g, 0, none⟩) ns.length cap ∧ B ≤ g ∧ ∀ j, j < ns.length → w.cell? ⟨g, j, none⟩ = some (.int .u64 ((ns.getD j 0 : Nat) : Int)) := by
  have h0 := h
  rcases h.2 with ⟨h2, h3⟩ | ⟨g, cap, cur, hv, hb, _⟩
  · omega
  · subst hv
    exact ⟨g, cap, rfl, hb, fun j hj => ownK_cell h0 j hj⟩

theorem bel_grown {w W W1 : World} {b : Nat} (h : Bel w W) (hg : W.grownBy W1 (some b)) (hb : w.heap.size ≤ b) : Bel w W1 := by
  obtain ⟨a, _, c, d, e⟩ := hg
  refine ⟨a.trans h.os, c.trans h.output, Nat.le_trans h.size d, fun k hk => (e k (Nat.lt_of_lt_of_le hk h.size) ?_).trans (h.block k hk)⟩
  intro x
  injection x with x
  omega
theorem cellSetK {w : World} {p q : Addr} {v : Value} (h : p ≠ q) : (w.setCell p v).cell? q = w.cell? q := by
  first | exact World.cell?_setCell_other h | exact World.cell?_setCell_other _ h | exact World.cell?_setCell_other _ _ h | exact World.cell?_setCell_other _ _ _ h | exact World.cell?_setCell_other _ _ _ _ h

set_option maxRecDepth 100000 in
set_option maxHeartbeats 3200000 in
theorem iViewMeet_b {X w : World} {v0 : Value} {vs : List (List Int)} (h1 : RdM w v0 vs) :
    CallsB (duo Try.prog X) 18 #[v0] w (fun v w' => ∃ u, v = .tuple #[u, .bool (viewMeet vs).2] ∧ Own w' w.heap.size u (viewMeet vs).1 ∧ Bel w w') := by
  refine CallsB.of_body kit (fn := Try.f18) Tryp.func18 Try.func18 rfl (by kernel_rfl) (by kernel_rfl) ?_
  simp only [Try.ntmps18, List.size_toArray, List.length_cons, List.length_nil, Nat.reduceAdd, Nat.reduceSub, Array.replicate_succ, Array.replicate_zero, List.push_toArray, List.append_toArray, List.nil_append, List.cons_append]
  refine WpB.seq kit (WpB.of_wp kit (fun τ => ?_) (outs_then (outs_body _ _ _)))
  go_wp
  refine WpB.own ?_
  by_cases ha : areV vs = true
  · obtain ⟨L, hL1, hL5, hL⟩ := areV_row ha
    have hlen := areV_len ha
    obtain ⟨vb, vo, vcap, bV, oV, cV, hv1, hV⟩ := rows_at h1 hlen.1 hL1 (fun k hk => (hL k hk).1)
    obtain ⟨hc0, _, hr0⟩ := hV 0 (by omega)
    rw [Nat.add_zero] at hc0
    have z0 : (0 : Int) < (vs.length : Int) := by omega
    have z1 : 0 < vs.length := by omega
    have hr : viewMeet vs = (kOut (intsK (nearL vs vs.length L)), true) := by
      unfold viewMeet
      rw [if_pos ha, meet_near hL1 (by omega) hlen.1 hL]
    rw [hr]
    have HV := Lib.hid (fun τ => areViews_v v0 vs (ownTape w τ) h1)
    have H1 := Lib.hid h1
    obtain ⟨n, hn⟩ : ∃ n, n = vs.length := ⟨_, rfl⟩
    rw [← hn] at z0 z1 hv1
    have HL := Lib.hid hL
    have HN := Lib.hid hn
    have HE := Lib.hid hlen
    have HL1 := Lib.hid hL1
    have HL5 := Lib.hid hL5
    rw [ha] at HV
    subst hv1
    clear hV hr hr0 ha hL hlen h1 hL1 hL5 hn
    refine WpB.seq kit (WpB.of_wp kit (fun τ => ?_) (outs_then (outs_body _ _ _)))
    go_wp2_with fail
    refine (HV.out τ).mono ?_
    rintro e w2 ⟨rfl, rfl⟩
    go_wp2
    refine WpB.own ?_
    refine WpB.seq kit (WpB.of_wp kit (fun τ => ?_) (outs_then (outs_body _ _ _)))
    have hc0' : (ownTape w τ).cell? ⟨vb, vo, none⟩ = some (.slice (some ⟨bV 0, oV 0, none⟩) L (cV 0)) := hc0
    have bel0 : Bel w (ownTape w τ) := bel_ownT (Bel.refl w)
    have hs0 : (ownTape w τ).heap.size = w.heap.size := rfl
    obtain ⟨i0, hi, hz0, hz1, hz2⟩ := info_parts Try.infoInt
    have hL5 := HL5.out
    generalize ownTape w τ = w0 at *
    go_wp2_with (at_make; refine wpList_make_full _ rfl _ _ 25 rfl w0.heap.size 3 i0 (.int .i64 0) 1 Try.underlying25 hi hz0 hz1 _ _ _ _ L rfl rfl rfl rfl (by rw [hz2]; omega) (by unfold maxLen; omega) (Nat.le_refl _) ?_)
    intro w1 hown1 hgrow1
    have hb1 : Below w0.heap.size w0 w1 := (Below.refl _ _).grown hgrow1 (Nat.le_refl _) (fun k h => by cases h)
    have HO1 := Lib.hid (own_made hown1)
    have bel : Bel w w1 := bel0.below hb1
    have HS1 : Hid (w.heap.size < w1.heap.size) := Lib.hid (World.ownsRow.lt hown1 _ rfl).2
    clear hown1 hgrow1 hb1 hc0' bel0 hi hz0 hz1 hz2 hL5
    go_wp2
    clear hs0
    refine WpB.seq kit (WpB.seq kit (WpB.region kit ?_))
    simp only [List.size_toArray, List.length_cons, List.length_nil, Nat.reduceAdd, Nat.zero_add, List.range, List.range.loop]
    unfold OpsB
    simp only [List.getElem?_toArray, List.getElem?_cons_zero, List.getElem?_cons_succ]
    rw [if_pos (by rfl)]
    left
    intro _
    unfold Oper.wp
    go_simp
    unfold OpsB
    simp only [List.getElem?_toArray, List.getElem?_cons_zero, List.getElem?_cons_succ]
    rw [if_pos (by rfl)]
    left
    intro _
    unfold Oper.wp
    go_simp
    unfold OpsB
    simp only [List.getElem?_toArray, List.getElem?_cons_zero, List.getElem?_cons_succ]
    rw [if_pos (by rfl)]
    left
    intro _
    unfold Oper.wp
    go_simp
    unfold OpsB
    simp only [List.getElem?_toArray, List.getElem?_cons_zero, List.getElem?_cons_succ]
    rw [if_pos (by rfl)]
    right
    refine ⟨45, #[.slice (some ⟨vb, vo, none⟩) n vcap, .int .i64 n], fun W => ⟨by kernel_rfl, by kernel_rfl⟩, ?_⟩
    refine CallsB.own ((togetherIn_b (X := X) (w := w1) (L := L) (least := n) (bel.rdm H1.out) HL1.out HL5.out (fun k hk => (HL.out k hk).1) HE.out.1 HE.out.2 (by rw [HN.out]; exact HE.out.2)).mono fun v w2 h => ?_)
    obtain ⟨ho, hb⟩ := h
    have HO2 := Lib.hid (own_bel HO1.out hb)
    have bel2 := bel.trans hb
    obtain ⟨g, cap, rfl, hgB, hgc⟩ := ownK_view ho (by rw [nearL_len]; exact HL1.out)
    have HLT := Lib.hid (fun i => nearL_lt vs n L i (by have := HL5.out; omega))
    have hnl := nearL_len vs n L
    rw [← HN.out]
    obtain ⟨ns, hns⟩ : ∃ ns, ns = nearL vs n L := ⟨_, rfl⟩
    rw [← hns] at hgc hnl HLT ⊢
    rw [hnl] at hgc ⊢
    have HGC := Lib.hid hgc
    have HNL := Lib.hid hnl
    have HNE : Hid (w.heap.size ≠ g) := Lib.hid (by have := HS1.out; omega)
    clear ho hb hgc hnl hns HO1 bel hc0 hgB
    unfold OpsB
    simp only [List.getElem?_toArray, List.getElem?_cons_zero, List.getElem?_cons_succ]
    rw [if_pos (by rfl)]
    left
    intro _
    unfold Oper.wp
    go_simp
    unfold OpsB
    simp only [List.getElem?_toArray, List.getElem?_cons_zero, List.getElem?_cons_succ]
    rw [if_pos (by rfl)]
    left
    intro _
    unfold Oper.wp
    go_simp
    unfold OpsB
    refine WpB.own ?_
    have hl1 := HL1.out
    have hl5 := HL5.out
    refine WpB.of_wp kit (fun τ => ?_) (outs_then (outs_body _ _ _))
    have bB : Bel w (ownTape w2 τ) := bel_ownT (τ := τ) bel2
    have HO3 : Hid (Own (ownTape w2 τ) w.heap.size (.slice (some ⟨w.heap.size, 0, none⟩) L L) (List.replicate L 0)) := Lib.hid HO2.out
    have HGC3 : Hid (∀ j, j < L → (ownTape w2 τ).cell? ⟨g, j, none⟩ = some (.int .u64 ((ns.getD j 0 : Nat) : Int))) := Lib.hid HGC.out
    generalize ownTape w2 τ = w3 at *
    clear HGC bel2 HO2
    go_wp2
    go_loopw [20] (fun i wr => ∃ k : Nat, k ≤ L ∧ i = .int .i64 k ∧ Own wr w.heap.size (.slice (some ⟨w.heap.size, 0, none⟩) L L) ((intsK ns).take k ++ List.replicate (L - k) 0) ∧ Bel w wr ∧ ∀ j, j < L → wr.cell? ⟨g, j, none⟩ = some (.int .u64 ((ns.getD j 0 : Nat) : Int))) (fun i _ => L - (intOf i).toNat)
    case atStart => exact ⟨0, Nat.zero_le _, rfl, by simpa using HO3.out, bB, HGC3.out⟩
    case round =>
      obtain ⟨k, hk, rfl, hown, hbel, hcells⟩ := hrel
      have HCS := Lib.hid hcells
      by_cases hlt : k < L
      · have hck := hcells k hlt
        have hp8 := HLT.out k
        have hml : ((intsK ns).take k ++ List.replicate (L - k) 0).length = L := by rw [List.length_append, List.length_take, intsK_len, HNL.out, List.length_replicate]; omega
        have hmg := intsK_get ns (i := k) (by rw [HNL.out]; exact hlt)
        obtain ⟨p, hp⟩ : ∃ p, p = ns.getD k 0 := ⟨_, rfl⟩
        rw [← hp] at hck hp8 hmg
        have hfz := own_frozen hown k
        obtain ⟨vv, hvv⟩ : ∃ vv, wr.cell? ⟨w.heap.size, k, none⟩ = some vv := ⟨_, own_cell hown k (by rw [hml]; omega)⟩
        obtain ⟨hst, hgs⟩ := own_stored hown hml.symm k (p : Int)
        have hil : (intsK ns).length = L := by rw [intsK_len, HNL.out]
        rw [← hil, set_stage (intsK ns) k (by rw [hil]; exact hlt) _ hmg.symm, hil] at hst
        have HST := Lib.hid hst
        have b1 : (k : Int) < L := by omega
        have b2 : IntKind.i64.wrap (p : Int) = p := IntWalk.i64_in _ (by omega)
        have hbs : Bel w (wr.setCell ⟨w.heap.size, k, none⟩ (.int .i64 (p : Int))) := bel_grown hbel hgs (Nat.le_refl _)
        have hcs : ∀ j, j < L → (wr.setCell ⟨w.heap.size, k, none⟩ (.int .i64 (p : Int))).cell? ⟨g, j, none⟩ = some (.int .u64 ((ns.getD j 0 : Nat) : Int)) := fun j hj => by
          rw [cellSetK (by intro x; injection x with x; exact HNE.out x)]
          exact HCS.out j hj
        have HCC := Lib.hid hcs
        have HCB := Lib.hid hbs
        clear hst hgs hml hmg hp hil hown hcells hbs hcs
        go_wp2
        go_roundw
        case rel => exact ⟨k + 1, by omega, by go_num, HST.out, HCB.out, HCC.out⟩
        case measure => simp [intOf]; omega
      · have hkn : k = L := by omega
        subst hkn
        rw [Nat.sub_self, List.replicate_zero, List.append_nil, List.take_of_length_le (by rw [intsK_len, HNL.out]; omega)] at hown
        have HO := Lib.hid (own_rdv hown)
        have HBE := Lib.hid hbel
        clear hown hbel hcells
        go_wp2
        refine WpB.of_wp kit (fun τ => ?_) (outs_body _ _ _)
        have HO := Lib.hid (rdv_ownT (τ := τ) HO.out)
        have HBE := Lib.hid (bel_ownT (τ := τ) HBE.out)
        generalize ownTape wr τ = wr2 at *
        go_wp2_with fail
        refine (kernel_v _ _ _ HO.out (by rw [intsK_len, HNL.out]; omega)).mono ?_
        rintro e w5 ⟨u, rfl, ho, hb⟩
        have HB5 := Lib.hid (HBE.out.below hb)
        have HO5 := Lib.hid (own_mono ho HBE.out.size)
        clear ho hb
        go_wp2
        exact ⟨rfl, _, fun τ => results_tmp2 (t := 2) (u := 3) rfl _ _ _, _, rfl, HO5.out, HB5.out⟩
  · have hf : areV vs = false := by simpa using ha
    have hr : viewMeet vs = ([], false) := by simp [viewMeet, hf]
    rw [hr]
    have HV := Lib.hid (fun τ => areViews_v v0 vs (ownTape w τ) h1)
    rw [hf] at HV
    refine WpB.seq kit (WpB.of_wp kit (fun τ => ?_) (outs_then (outs_body _ _ _)))
    go_wp2_with fail
    refine (HV.out τ).mono ?_
    rintro e w2 ⟨rfl, rfl⟩
    go_wp2
    exact ⟨rfl, _, fun τ => results_tmp2 (t := 2) (u := 3) rfl _ _ _, _, rfl, own_nil _ _, bel_of_below (Below.refl _ _)⟩
end

theorem meet_facts {vs : List (List Int)} (ha : areV vs = true) : ∃ m : List Int, viewMeet vs = (m, true) ∧ ∀ k, k < vs.length → finerIn m (vs.getD k []) = true := by
  obtain ⟨L, hL1, hL5, hL⟩ := areV_row ha
  have hlen := areV_len ha
  obtain ⟨m1, m2, m3⟩ := mt_facts hL1 (by omega) hL (vs.length - 1) (by omega)
  refine ⟨mtTo vs (vs.length - 1), by unfold viewMeet; rw [if_pos ha], fun k hk => ?_⟩
  have hal : alike (mtTo vs (vs.length - 1)) (vs.getD k []) = true := alike_iff.2 ⟨m1, (hL k hk).2, by rw [m2, (hL k hk).1]⟩
  unfold finerIn
  rw [hal, Bool.true_and]
  refine finer_iff.2 fun i j hi hj e => ?_
  rw [m2] at hi hj
  exact (m3 i j hi hj).1 e k (by omega)

end Go.Proofs.Ytfiaiephbemdoaa
